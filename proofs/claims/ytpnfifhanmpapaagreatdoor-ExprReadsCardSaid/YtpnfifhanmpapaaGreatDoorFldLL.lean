/- The document's items. -/
import Derived.Test.YtpnfifhanmpapaaGreatDoorFldII
import Derived.Test.YtpnfifhanmpapaaGreatDoorMRefJ
import Derived.Maps.AppendAt
namespace Go.Proofs.YtpnfifhanmpapaaGreatDoor
open Go.ChangeShapes Go.WideShapes Go.RowKit Go.Shelf

/-- the world in items: the kind in a block of the call's own -/
structure IB (w W : World) (K : Fld.Kd) (v : Value) (xs : List ByteArray) : Prop where
  below : Below w.heap.size w W
  strs : IsStrs W v xs
  sz : w.heap.size < W.heap.size
  kind : W.heap[w.heap.size]? = some (.cells #[.int .i64 K.lo, .int .i64 K.hi, v, .bool K.week] 95 (0, 0))
theorem IB.new (w : World) (K : Fld.Kd) (v : Value) (xs : List ByteArray) (hv : IsStrs w v xs) : IB w (w.alloc (.cells #[.int .i64 K.lo, .int .i64 K.hi, v, .bool K.week] 95)) K v xs := by
  have B1 : Below w.heap.size w (w.alloc (.cells #[.int .i64 K.lo, .int .i64 K.hi, v, .bool K.week] 95)) := (Below.refl _ w).alloc (Nat.le_refl _) _
  exact ⟨B1, hv.below B1, by simp, World.alloc_heap_new w _⟩
theorem IB.next {w W W' : World} {K : Fld.Kd} {v : Value} {xs : List ByteArray} (h : IB w W K v xs) (hb : Below W.heap.size W W') : IB w W' K v xs :=
  ⟨h.below.trans (hb.mono h.below.size), h.strs.below hb, Nat.lt_of_lt_of_le h.sz hb.size, (hb.block _ h.sz).trans h.kind⟩
theorem IB.kc {w W : World} {K : Fld.Kd} {v : Value} {xs : List ByteArray} (h : IB w W K v xs) : W.cell? ⟨w.heap.size, 0, none⟩ = some (.int .i64 K.lo) ∧ W.cell? ⟨w.heap.size, 1, none⟩ = some (.int .i64 K.hi) ∧ W.cell? ⟨w.heap.size, 2, none⟩ = some v ∧ W.cell? ⟨w.heap.size, 3, none⟩ = some (.bool K.week) :=
  ⟨obj_cell h.kind 0 _ rfl, obj_cell h.kind 1 _ rfl, obj_cell h.kind 2 _ rfl, obj_cell h.kind 3 _ rfl⟩
/-- a step that may have written a block of the call's own, behind z -/
theorem IB.grown {w W W' : World} {K : Fld.Kd} {v : Value} {xs : List ByteArray} {row : Option Nat} (h : IB w W K v xs) (hg : W.grownBy W' row) (hr : ∀ k, row = some k → w.heap.size < k) (hv : ∀ b o n c, v = .slice (some ⟨b, o, none⟩) n c → 0 < n → b < w.heap.size) : IB w W' K v xs := by
  refine ⟨h.below.grown hg h.below.size (fun k hk => Nat.le_of_lt (hr k hk)), ?_, Nat.lt_of_lt_of_le h.sz hg.size, (hg.block _ h.sz (fun q => by have := hr _ q.symm; omega)).trans h.kind⟩
  obtain ⟨A, cap, e, hc, hp⟩ := h.strs
  refine ⟨A, cap, e, hc, fun q => ?_⟩
  obtain ⟨b, o, e2, h4, h5⟩ := hp q
  have hb := hv b o _ _ (by rw [e, e2]) q
  refine ⟨b, o, e2, Nat.lt_of_lt_of_le h4 hg.size, fun j x hx => ?_⟩
  rw [World.cell?_of_block (w := W) (a := ⟨b, o + j, none⟩) (hg.block b (by have := h.sz; omega) (fun q => by have := hr _ q.symm; omega))]
  exact h5 j x hx
/-- what items gives -/
def ItemsOut (K : Fld.Kd) (s : ByteArray) (w : World) (e : Ending) (w' : World) : Prop := ∃ (v : Value) (q : Nat) (ok : Bool), e = .returned (.tuple #[v, .int .i64 q, .bool ok]) ∧ ItemsRes K s w' v q ok ∧ Below w.heap.size w w'
theorem cells_new (w : World) (l : List Value) (t : TypeId) (n : Nat) (hn : w.heap.size = n) : ∀ j u, l[j]? = some u → (w.alloc (.cells l.toArray t)).cell? ((⟨n, 0, none⟩ : Addr).add j) = some u := by
  subst hn
  intro j u h
  rw [add_flat]
  simp only [World.cell?, World.alloc_heap_new w (.cells l.toArray t)]
  simpa using h
theorem ok_no {K : Fld.Kd} {s : ByteArray} {a q : Nat} {d : DI} (h : OneRes K s a d q false) : Fld.item K (s.data.toList.drop a) a = .inr q := by
  unfold OneRes at h
  cases e : Fld.item K (s.data.toList.drop a) a with
  | inr q' => rw [e] at h; simp only at h; rw [h.1]
  | inl p => rw [e] at h; obtain ⟨x, q', r⟩ := p; simp only at h; exact absurd h.2.2 (by decide)
theorem ok_yes {K : Fld.Kd} {s : ByteArray} {a q : Nat} {d : DI} (h : OneRes K s a d q true) : ∃ x r, Fld.item K (s.data.toList.drop a) a = .inl (x, q, r) ∧ RI K x d := by
  unfold OneRes at h
  cases e : Fld.item K (s.data.toList.drop a) a with
  | inr q' => rw [e] at h; simp only at h; exact absurd h.2 (by decide)
  | inl p => rw [e] at h; obtain ⟨x, q', r⟩ := p; simp only at h; exact ⟨x, r, by rw [h.2.1], h.1⟩
theorem bds_snoc {s : ByteArray} {pre : List Fld.It} {x : Fld.It} (h : ∀ y ∈ pre, Bd s.size y) (hx : Bd s.size x) : ∀ y ∈ pre ++ [x], Bd s.size y := by
  intro y hy
  rcases List.mem_append.1 hy with q | q
  · exact h y q
  · rw [List.mem_singleton] at q; rw [q]; exact hx
set_option maxRecDepth 100000 in
set_option maxHeartbeats 4000000 in
theorem itemsR_any (K : Fld.Kd) (v : Value) (xs : List ByteArray) (s : ByteArray) (w : World) (hv : IsStrs w v xs) (hk : KdIs K.lo K.hi xs K.week K) (hs : s.size ≤ 1000) :
    Calls Tryz.prog 77 #[.agg #[.int .i64 K.lo, .int .i64 K.hi, v, .bool K.week], .string s] w (ItemsOut K s w) := by
  have X := Lib.hid (IB.new w K v xs hv)
  have VO := Lib.hid (strs_old hv)
  have ONE := Lib.hid (fun a w hv ha => oneR_any K v xs s a w hv hk ha hs)
  obtain ⟨i0, hi, hz0, hz1, hz2⟩ := info_parts info7
  obtain ⟨A, cap, rfl, _, _⟩ := hv
  clear hk
  go_enter Tryz.func77, Tryz.ntmps77
  go_wp2_with fail
  go_loopw [7, 8] (fun o a wr => ∃ (k : Nat) (pre : List Fld.It) (ds : List DI), a = .int .i64 k ∧ k ≤ s.size ∧ ds.length ≤ k ∧ Hid (ScanAt K s pre k) ∧ Hid (RIs K pre ds) ∧ Hid (∀ x ∈ pre, Bd s.size x) ∧ Hid (wr.ownsRow (w.heap.size + 1) 150 7 o ds.length (flatI ds)) ∧ Hid (IB w wr K (.slice A xs.length cap) xs)) (fun _ a _ => s.size + 1 - (intOf a).toNat)
  case atStart => exact ⟨0, [], [], rfl, Nat.zero_le _, Nat.le_refl _, Lib.hid (scanAt_zero K s), Lib.hid (ris_nil K), Lib.hid (fun x h => by cases h), Lib.hid (World.ownsRow_nil _ _ _ _), X⟩
  case round =>
    obtain ⟨k, pre, ds, rfl, hk, hd, SA, RS, BD, HO, X⟩ := hrel
    obtain ⟨c0, c1, c2, c3⟩ := X.out.kc
    go_wp2_with fail
    refine (ONE.out k _ X.out.strs hk).mono ?_
    intro e w1 ho
    obtain ⟨d, q, ok, rfl, hr, hb⟩ := ho
    have X := Lib.hid (X.out.next hb)
    have HO := Lib.hid (own_below HO.out hb)
    obtain ⟨dd, hdd⟩ : ∃ dd, d = dd := ⟨_, rfl⟩
    have hr' := hr
    rw [hdd] at hr'
    have HD := Lib.hid hdd
    obtain ⟨d0, d1, d2, d3, d4, d5, d6⟩ := d
    simp only [DI.val]
    clear hb c0 c1 c2 c3 hdd
    cases ok with
    | false =>
      have IT := Lib.hid (ok_no hr')
      clear hr hr'
      go_wp2_with fail
      go_ret3
      exact ⟨_, q, false, rfl, .inl ⟨SA.out.stop IT.out, (item_stop hk IT.out).2, rfl, rfl⟩, (X.out.next ((Below.refl _ _).alloc (Nat.le_refl _) _)).below⟩
    | true =>
      obtain ⟨x, r, hit, hri⟩ := ok_yes hr'
      obtain ⟨h1, h2, h3⟩ := item_rest hk hit
      have IT := Lib.hid hit
      have HR := Lib.hid hri
      have H3 := Lib.hid h3
      have HB := Lib.hid (item_bd hk hit)
      have RS2 := Lib.hid (RS.out.snoc hri)
      have BD2 := Lib.hid (bds_snoc BD.out HB.out)
      have sz := X.out.sz
      clear hr hr' hit hri h3
      rcases Nat.lt_or_ge q s.size with hq | hq
      · by_cases hc : s[q] = 44
        · have e1 : ((q : Int) == (s.size : Int)) = false := by rw [beq_eq_false_iff_ne]; omega
          have e1n : (q == s.size) = false := by rw [beq_eq_false_iff_ne]; omega
          have i0' : (0 : Int) ≤ (q : Int) := by omega
          have i1' : (q : Int) < (s.size : Int) := by omega
          have hc' : s[q].toNat = 44 := by rw [hc]; rfl
          have y1 : ((s[q].toNat : Int) != 44) = false := by rw [bne_eq_false_iff_eq]; omega
          have y1n : (s[q].toNat != 44) = false := by rw [bne_eq_false_iff_eq]; omega
          have SA2 := Lib.hid (SA.out.comma IT.out H3.out hq hc)
          clear hc hc'
          go_wp2_with (at_builtin; refine wpList_append_own _ rfl _ _ 145 rfl (w.heap.size + 1) 150 i0 (.agg #[.bool false, .int .i64 0, .int .i64 0, .int .i64 0, .int .i64 0, .int .i64 0, .int .i64 0]) 7 56 Tryz.underlying145 hi hz0 hz1 hz2 rfl (by decide) _ ds.length _ rfl ((HO.out.alloc _).alloc _) ⟨w1.heap.size + 1, 0, none⟩ 1 1 [.bool d0, .int .i64 d1, .int .i64 d2, .int .i64 d3, .int .i64 d4, .int .i64 d5, .int .i64 d6] rfl rfl ?c1A ?c2A ?c3A ?c4A ?c5A ?c6A)
          case c1A => exact cells_new _ _ _ _ (by simp)
          case c2A => intro u hu; simp at hu; rcases hu with rfl | rfl | rfl | rfl | rfl | rfl | rfl <;> rfl
          case c3A => simp [maxLen]; omega
          case c4A => omega
          case c5A => simp; omega
          case c6A =>
            intro v' W2 hown hgrow _
            have X2 := Lib.hid (((X.out.next ((Below.refl _ _).alloc (Nat.le_refl _) _)).next ((Below.refl _ _).alloc (Nat.le_refl _) _)).grown hgrow (fun j hj => by have := (HO.out.lt j hj).1; omega) VO.out)
            have HO2 : Hid (W2.ownsRow (w.heap.size + 1) 150 7 v' (ds ++ [dd]).length (flatI (ds ++ [dd]))) := Lib.hid (by
              rw [flatI_snoc, ← HD.out]
              simpa [DI.cells] using hown)
            clear hown hgrow
            go_wp2_with fail
            go_roundw
            case rel => exact ⟨q + 1, pre ++ [x], ds ++ [dd], by go_num, by omega, by simp; omega, SA2, RS2, BD2, HO2, X2⟩
            case measure => simp [intOf]; omega
        · have e1 : ((q : Int) == (s.size : Int)) = false := by rw [beq_eq_false_iff_ne]; omega
          have e1n : (q == s.size) = false := by rw [beq_eq_false_iff_ne]; omega
          have i0' : (0 : Int) ≤ (q : Int) := by omega
          have i1' : (q : Int) < (s.size : Int) := by omega
          have hc' : s[q].toNat ≠ 44 := fun e => hc ((byte_eq (n := 44) (by decide)).2 e)
          have y1 : ((s[q].toNat : Int) != 44) = true := by rw [bne_iff_ne]; omega
          have y1n : (s[q].toNat != 44) = true := by rw [bne_iff_ne]; omega
          have RES := Lib.hid (SA.out.junk IT.out H3.out hq hc)
          clear hc hc'
          go_wp2_with (at_builtin; refine wpList_append_own _ rfl _ _ 145 rfl (w.heap.size + 1) 150 i0 (.agg #[.bool false, .int .i64 0, .int .i64 0, .int .i64 0, .int .i64 0, .int .i64 0, .int .i64 0]) 7 56 Tryz.underlying145 hi hz0 hz1 hz2 rfl (by decide) _ ds.length _ rfl ((HO.out.alloc _).alloc _) ⟨w1.heap.size + 1, 0, none⟩ 1 1 [.bool d0, .int .i64 d1, .int .i64 d2, .int .i64 d3, .int .i64 d4, .int .i64 d5, .int .i64 d6] rfl rfl ?c1B ?c2B ?c3B ?c4B ?c5B ?c6B)
          case c1B => exact cells_new _ _ _ _ (by simp)
          case c2B => intro u hu; simp at hu; rcases hu with rfl | rfl | rfl | rfl | rfl | rfl | rfl <;> rfl
          case c3B => simp [maxLen]; omega
          case c4B => omega
          case c5B => simp; omega
          case c6B =>
            intro v' W2 hown hgrow _
            have X2 := Lib.hid (((X.out.next ((Below.refl _ _).alloc (Nat.le_refl _) _)).next ((Below.refl _ _).alloc (Nat.le_refl _) _)).grown hgrow (fun j hj => by have := (HO.out.lt j hj).1; omega) VO.out)
            have HO2 : Hid (W2.ownsRow (w.heap.size + 1) 150 7 v' (ds ++ [dd]).length (flatI (ds ++ [dd]))) := Lib.hid (by
              rw [flatI_snoc, ← HD.out]
              simpa [DI.cells] using hown)
            clear hown hgrow
            go_wp2_with fail
            go_ret3
            exact ⟨_, q, false, rfl, .inl ⟨RES.out, h2, rfl, rfl⟩, X2.out.below⟩
      · obtain rfl : q = s.size := by omega
        have e1 : ((s.size : Int) == (s.size : Int)) = true := by rw [beq_iff_eq]
        have e1n : (s.size == s.size) = true := by rw [beq_iff_eq]
        have RES := Lib.hid (SA.out.done IT.out H3.out rfl)
        go_wp2_with (at_builtin; refine wpList_append_own _ rfl _ _ 145 rfl (w.heap.size + 1) 150 i0 (.agg #[.bool false, .int .i64 0, .int .i64 0, .int .i64 0, .int .i64 0, .int .i64 0, .int .i64 0]) 7 56 Tryz.underlying145 hi hz0 hz1 hz2 rfl (by decide) _ ds.length _ rfl ((HO.out.alloc _).alloc _) ⟨w1.heap.size + 1, 0, none⟩ 1 1 [.bool d0, .int .i64 d1, .int .i64 d2, .int .i64 d3, .int .i64 d4, .int .i64 d5, .int .i64 d6] rfl rfl ?c1C ?c2C ?c3C ?c4C ?c5C ?c6C)
        case c1C => exact cells_new _ _ _ _ (by simp)
        case c2C => intro u hu; simp at hu; rcases hu with rfl | rfl | rfl | rfl | rfl | rfl | rfl <;> rfl
        case c3C => simp [maxLen]; omega
        case c4C => omega
        case c5C => simp; omega
        case c6C =>
          intro v' W2 hown hgrow _
          have X2 := Lib.hid (((X.out.next ((Below.refl _ _).alloc (Nat.le_refl _) _)).next ((Below.refl _ _).alloc (Nat.le_refl _) _)).grown hgrow (fun j hj => by have := (HO.out.lt j hj).1; omega) VO.out)
          have HO2 : Hid (W2.ownsRow (w.heap.size + 1) 150 7 v' (ds ++ [dd]).length (flatI (ds ++ [dd]))) := Lib.hid (by
            rw [flatI_snoc, ← HD.out]
            simpa [DI.cells] using hown)
          clear hown hgrow
          obtain ⟨g, c2, rfl, hg, _, hcell⟩ := own_spot HO2.out (by simp)
          have HC := Lib.hid hcell
          clear hcell
          go_wp2_with fail
          go_ret3
          exact ⟨_, 0, true, rfl, .inr ⟨by rw [RES.out], rfl, rfl, ds ++ [dd], by rw [RES.out]; exact RS2.out, by simp; omega, by rw [RES.out]; exact BD2.out, g, c2, rfl, hg, HC.out⟩, X2.out.below⟩
end Go.Proofs.YtpnfifhanmpapaaGreatDoor
