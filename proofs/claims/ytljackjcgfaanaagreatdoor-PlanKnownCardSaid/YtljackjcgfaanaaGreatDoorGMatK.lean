/- Contracts of check, onDate, Day, Is, Next, Prev and Ever of package match. Plain facts of the answers of Day, Is, Next and Prev: which times are matched at a zone. Contracts of Day, Is, Next, Prev and Ever of package match. Contract of List of package match: the first times of a span that are matched. Plain mathematics of counting: how many numbers of a span have a property; the matched seconds of a day, the matched days of a span, cycles of 400 years. Contracts of dates and sinceMidnight of package match. -/
import Derived.Test.YtljackjcgfaanaaGreatDoorMatS
import Derived.Test.YtljackjcgfaanaaGreatDoorExpNo
/- Contracts of check, onDate, Day, Is, Next, Prev and Ever of package match. -/
namespace Go.Proofs.YtljackjcgfaanaaGreatDoor
open Go.ChangeShapes Go.RowKit Go.Shelf

section
attribute [local go_sem] Oper.semAt_some
set_option maxRecDepth 100000 in
set_option maxHeartbeats 4000000 in
theorem onDate_in (n : Nat) (hn : 3 ≤ n) (x : Exp.Ex) (hok : x.Ok) (t : Int) (t0 : 0 ≤ t) (t1 : t ≤ 253402300800) (r : Bool) (hr : r = true ↔ x.On (t / 86400)) (w : World) (L : LayM w) :
    CallsIn Fence.wide n Tryz.prog 132 #[.agg #[.int .u64 x.a0, .int .u64 x.a1, .int .u64 x.a2, .int .u64 x.a3, .int .u64 x.a4, .int .u64 x.a5, .bool x.b3, .bool x.b5], .int .i64 t] w fun e W' => e = .returned (.bool r) ∧ Below w.heap.size w W' := by
  have h1 : 1 ≤ n := by omega
  have OK := Lib.hid hok
  have LL := Lib.hid L
  have BD := Lib.hid (And.intro t0 t1)
  have hp : Mat.Dir.up.past t t = false := by unfold Mat.Dir.past; simp [Mat.Dir.val]
  have HP := Lib.hid hp
  clear hok L t0 t1 hp
  refine callsIn_of_wp_marks Tryz.func132 rfl trivial ?_ rfl
  simp only [Tryz.ntmps132, List.size_toArray, List.length_cons, List.length_nil, Nat.reduceAdd, Nat.reduceSub, Array.replicate_succ, Array.replicate_zero, List.push_toArray, List.append_toArray, List.nil_append, List.cons_append]
  gi_wp2_with (refine ⟨trivial, ?_⟩; gi_at_call 127; refine (callsIn_wide.2 (days_any .up x t t _)).mono ?_; rintro e w' ⟨rfl, rfl⟩)
  obtain ⟨os, hos⟩ : ∃ os : List Obj, os = [(.cells #[.int .u64 x.a0, .int .u64 x.a1, .int .u64 x.a2, .int .u64 x.a3, .int .u64 x.a4, .int .u64 x.a5, .bool x.b3, .bool x.b5] 24), .cells #[.bool false] 4, .cells #[.int .i64 1] 124, (.cells #[.int .u64 x.a0, .int .u64 x.a1, .int .u64 x.a2, .int .u64 x.a3, .int .u64 x.a4, .int .u64 x.a5, .bool x.b3, .bool x.b5] 24), .cells #[.int .i64 t] 2, .cells #[.int .i64 t] 2] := ⟨_, rfl⟩
  obtain ⟨W0, hW0⟩ : ∃ W0, W0 = allocs w os := ⟨_, rfl⟩
  have hB0 : Below w.heap.size w W0 := by rw [hW0]; exact allocs_below _ _
  have hsz : W0.heap.size = w.heap.size + 6 := by rw [hW0, allocs_size, hos]; rfl
  have b1 : Boxed W0 (w.heap.size + 1) 4 (.bool false) := by rw [hW0]; exact allocs_box (k := 1) (by rw [hos]; rfl) (by omega)
  have b2 : Boxed W0 (w.heap.size + 1 + 1) 124 (.int .i64 1) := by rw [hW0]; exact allocs_box (k := 2) (by rw [hos]; rfl) (by omega)
  have b3 : Row W0 (w.heap.size + 1 + 1 + 1) 24 (exL x) := by
    show W0.heap[w.heap.size + 3]? = _
    rw [hW0]; exact allocs_at _ _ 3 _ (by rw [hos]; rfl)
  have b4 : Boxed W0 (w.heap.size + 1 + 1 + 1 + 1) 2 (.int .i64 t) := by rw [hW0]; exact allocs_box (k := 4) (by rw [hos]; rfl) (by omega)
  have b5 : Boxed W0 (w.heap.size + 1 + 1 + 1 + 1 + 1) 2 (.int .i64 t) := by rw [hW0]; exact allocs_box (k := 5) (by rw [hos]; rfl) (by omega)
  change Code.wpIn _ _ _ _ _ _ (allocs w [(.cells #[.int .u64 x.a0, .int .u64 x.a1, .int .u64 x.a2, .int .u64 x.a3, .int .u64 x.a4, .int .u64 x.a5, .bool x.b3, .bool x.b5] 24), .cells #[.bool false] 4, .cells #[.int .i64 1] 124, (.cells #[.int .u64 x.a0, .int .u64 x.a1, .int .u64 x.a2, .int .u64 x.a3, .int .u64 x.a4, .int .u64 x.a5, .bool x.b3, .bool x.b5] 24), .cells #[.int .i64 t] 2, .cells #[.int .i64 t] 2])
  rw [← hos, ← hW0]
  clear hos hW0
  have L0 := Lib.hid (LL.out.below hB0)
  have HS := Lib.hid hsz
  apply wpIn_rangeFunc_ownG rfl h1 (gf := 142) (lb := #[.pointer (some ⟨w.heap.size + 1 + 1, 0, none⟩), .pointer (some ⟨w.heap.size + 1 + 1 + 1 + 1, 0, none⟩), .pointer (some ⟨w.heap.size + 1 + 1 + 1 + 1 + 1, 0, none⟩), .pointer (some ⟨w.heap.size + 1 + 1 + 1, 0, none⟩)]) rfl trivial (enters_of Tryz.func142 (by kernel_rfl) rfl)
    (days_stops (fun _ => False) (n - 1) (by omega) _ _ _ _ .up x OK.out t t (by have := BD.out; omega) (by have := BD.out; omega) (by have := BD.out; omega) (by have := BD.out; omega) (fun _ => ⟨BD.out.1, BD.out.2, BD.out.1, BD.out.2, .inl rfl⟩) (fun h => h) (fun h => h) (fun h => h) (fun h => h) (fun h => h) (fun h => h) W0 (fun _ h => h.elim) b2 b4 b5 b3 L0.out) Kc.trans Kc.book (Below.refl _ _) (fun _ => rfl)
    (fun pre W => (Boxed W (w.heap.size + 1) 4 (.bool false) ∧ pre = []) ∧ Below w.heap.size w W)
    (fun c pre W => (Boxed W (w.heap.size + 1) 4 (.bool true) ∧ c = .ret ∧ pre ≠ []) ∧ Below w.heap.size w W)
    (OwnFrom.and (OwnFrom.and (Own.from (boxed_own _ _ _) _) (ownFrom_pure _ _)) (ownFrom_below (Nat.le_refl _) (by omega)))
    (fun c => OwnFrom.and (OwnFrom.and (Own.from (boxed_own _ _ _) _) (ownFrom_pure _ (fun pre => c = .ret ∧ pre ≠ []))) (ownFrom_below (Nat.le_refl _) (by omega)))
    ⟨⟨b1, rfl⟩, hB0⟩
    _ ?assign ?body ?done ?stop
  case assign =>
    intro l x W K hK
    gi_wp2
    exact hK
  case body =>
    rintro l pre q W ⟨⟨v1, hp⟩, hB⟩ _
    have c1 := v1.cell; have f1 := v1.frozen
    gi_wp2
    exact ⟨(KeepsOthers.setCell _ _ _).from _, ⟨v1.set _, rfl, by simp⟩, hB.setCell (p := ⟨w.heap.size + 1, 0, none⟩) (by simp) _⟩
  case done =>
    rintro D ys W hD hys ⟨⟨v1, rfl⟩, hB⟩ hK
    have e : r = false := by
      cases r with
      | false => rfl
      | true =>
        have m := (daysL_mem (x := x) HP.out (n := t / 86400)).2 ⟨hr.1 rfl, Int.le_refl _, Int.le_refl _⟩
        rw [← hys] at m
        simp at m
    subst e
    have c1 := v1.cell; have f1 := v1.frozen
    clear hr hys
    gi_wp2
    have hK' := (KeepsOthers.setCell W ⟨w.heap.size + 1, 0, none⟩ (.bool false)).same D _ hK rfl
    refine ⟨by simp, .inl ⟨_, _, rfl, run_takeDeferred hK', ?_⟩⟩
    have e5 := cell_kept (v1.set (.bool false)).cell (grownBy_putObj' _ D (.deferred none)) (fun r e => by cases e; exact ⟨_, hK', rfl⟩)
    refine ⟨.bool false, ?_, rfl, (hB.setCell (p := ⟨w.heap.size + 1, 0, none⟩) (by simp) _).trans (belowK_b (w := w) (Nat.le_refl _) _ D _ _ (by omega) hK' rfl rfl)⟩
    simp [results, Tryz.results132, go_sem, e5]
  case stop =>
    rintro D c pre W hD hpre ⟨⟨v1, rfl, hne⟩, hB⟩ hK
    have e : r = true := by
      cases pre with
      | nil => exact absurd rfl hne
      | cons a l =>
        have m : a.val ∈ Mat.Dir.up.daysL x t t := hpre.subset (by simp)
        have m := (daysL_mem HP.out).1 m
        simp only [Mat.Dir.val] at m
        rw [show a.val = t / 86400 by omega] at m
        exact hr.2 m.1
    subst e
    clear hr hpre hne
    gi_wp2
    refine ⟨by simp, .inl ⟨_, _, rfl, run_takeDeferred hK, ?_⟩⟩
    have e5 := cell_kept v1.cell (grownBy_putObj' _ D (.deferred none)) (fun r e => by cases e; exact ⟨_, hK, rfl⟩)
    refine ⟨.bool true, ?_, rfl, hB.trans (belowK_b (w := w) (Nat.le_refl _) W D _ _ (by omega) hK rfl rfl)⟩
    simp [results, Tryz.results132, go_sem, e5]
end
theorem onDate_any (x : Exp.Ex) (hok : x.Ok) (t : Int) (t0 : 0 ≤ t) (t1 : t ≤ 253402300800) (w : World) (L : LayM w) :
    Calls Tryz.prog 132 #[.agg #[.int .u64 x.a0, .int .u64 x.a1, .int .u64 x.a2, .int .u64 x.a3, .int .u64 x.a4, .int .u64 x.a5, .bool x.b3, .bool x.b5], .int .i64 t] w fun e W' => e = .returned (.bool (x.onB (t / 86400))) ∧ Below w.heap.size w W' := callsIn_wide.1 (onDate_in 3 (by omega) x hok t t0 t1 _ onB_iff w L)
theorem seek_any (d : Mat.Dir) (x : Exp.Ex) (hok : x.Ok) (f t : Int) (fl : -1000000000000 ≤ f) (fh : f ≤ 1000000000000) (tl : -1000000000000 ≤ t) (th : t ≤ 1000000000000)
    (hin : d.past f t = false → 0 ≤ f ∧ f ≤ 253402300799 ∧ 0 ≤ t ∧ t ≤ 253402300799) (w : World) (L : LayM w) :
    Calls Tryz.prog 107 #[.int .i64 d.val, .agg #[.int .u64 x.a0, .int .u64 x.a1, .int .u64 x.a2, .int .u64 x.a3, .int .u64 x.a4, .int .u64 x.a5, .bool x.b3, .bool x.b5], .int .i64 f, .int .i64 t] w fun e W' => e = .returned (optV (d.seek x f t)) ∧ Below w.heap.size w W' := callsIn_wide.1 (seek_in 3 (by omega) d x hok f t fl fh tl th hin w L)

def inT (t : Int) : Bool := decide (0 ≤ t) && decide (t ≤ 253402300799)
/-- the first error of an expression, a zone and times -/
def errC (x : Exp.Ex) (z : Int) (ts : List Int) : Int := if x.okB = false then 16 else if errZ z ≠ 0 then 2 else if ts.all inT = true then 0 else 14
theorem errZ_or (z : Int) : errZ z = 0 ∨ errZ z = 2 := by unfold errZ; split <;> simp
set_option maxRecDepth 100000 in
set_option maxHeartbeats 4000000 in
theorem mcheck_any (x : Exp.Ex) (hx : x.Bd) (z : Int) (B : Nat) (ts : List Int) (hl : ts.length ≤ 2) (w : World) (R : Row w B 2 (ts.map (.int .i64 ·))) :
    Calls Tryz.prog 105 #[.agg #[.int .u64 x.a0, .int .u64 x.a1, .int .u64 x.a2, .int .u64 x.a3, .int .u64 x.a4, .int .u64 x.a5, .bool x.b3, .bool x.b5], .int .i64 z, .slice (some ⟨B, 0, none⟩) ts.length ts.length] w fun e W' => e = .returned (.int .i64 (errC x z ts)) ∧ Below w.heap.size w W' := by
  have CK := Lib.hid (fun w0 : World => check_ex x hx w0)
  have ZC := Lib.hid (fun w0 : World => zcheck_any z w0)
  have HB := Lib.hid ((Below.refl _ w).alloc (Nat.le_refl _) (.cells #[.int .u64 x.a0, .int .u64 x.a1, .int .u64 x.a2, .int .u64 x.a3, .int .u64 x.a4, .int .u64 x.a5, .bool x.b3, .bool x.b5] 24))
  have RR := Lib.hid R
  have HL := Lib.hid hl
  clear hx R hl
  cases hok : x.okB with
  | false =>
    have E : Hid (errC x z ts = 16) := Lib.hid (by unfold errC; rw [if_pos hok])
    rw [hok] at CK
    simp only [errOk, Bool.false_eq_true, if_false] at CK
    go_enter Tryz.func105, Tryz.ntmps105
    go_wp2_with (go_at_call 69; refine (CK.out _).mono ?_; rintro e V ⟨rfl, hb⟩; have HV := Lib.hid hb; clear hb)
    go_ret
    exact ⟨by rw [E.out]; rfl, HB.out.trans (HV.out.mono HB.out.size)⟩
  | true =>
    rw [hok] at CK
    simp only [errOk, if_true] at CK
    rcases errZ_or z with hz | hz
    · rw [hz] at ZC
      have E : Hid (errC x z ts = if ts.all inT = true then 0 else 14) := Lib.hid (by unfold errC; rw [if_neg (by rw [hok]; simp), if_neg (by simpa using hz)])
      clear hz
      go_enter Tryz.func105, Tryz.ntmps105
      go_wp2_with (first
        | (go_at_call 69; refine (CK.out _).mono ?_; rintro e V ⟨rfl, hb⟩; have HV := Lib.hid (HB.out.trans (hb.mono HB.out.size)); have RV := Lib.hid (RR.out.below HV.out); clear hb)
        | (go_at_call 70; refine (ZC.out _).mono ?_; rintro e V2 ⟨rfl, rfl⟩))
      have LN := Lib.hid (show ts.length ≤ 9223372036854775807 by have := HL.out; omega)
      go_loopw [23] (fun i wr => ∃ k : Nat, k ≤ ts.length ∧ i = .int .i64 k ∧ Hid ((ts.take k).all inT = true) ∧ V = wr) (fun i _ => ts.length - (intOf i).toNat)
      case atStart => exact ⟨0, by omega, rfl, Lib.hid rfl, rfl⟩
      case round =>
        obtain ⟨k, hk, rfl, hall, rfl⟩ := hrel
        by_cases hlt : k < ts.length
        · obtain ⟨t, ht⟩ : ∃ t, ts[k] = t := ⟨_, rfl⟩
          have hc : V.cell? ⟨B, k, none⟩ = some (.int .i64 t) := by rw [RV.out.cell k, List.getElem?_map, List.getElem?_eq_getElem hlt, ht]; rfl
          have TK : Hid (ts.take (k + 1) = ts.take k ++ [t]) := Lib.hid (by rw [← ht]; exact (List.take_append_getElem hlt).symm)
          by_cases t0 : t < 0
          · have q0 : decide (t < 0) = true := by simpa using t0
            have NO : Hid (ts.all inT = false) := Lib.hid (by
              rw [List.all_eq_false]
              exact ⟨t, by rw [← ht]; exact List.getElem_mem hlt, by unfold inT; simp; omega⟩)
            clear t0
            go_wp2
            go_ret
            exact ⟨by rw [E.out, NO.out]; rfl, HV.out⟩
          · have q0 : decide (t < 0) = false := by simpa using t0
            by_cases t1 : 253402300799 < t
            · have q1 : decide (253402300799 < t) = true := by simpa using t1
              have NO : Hid (ts.all inT = false) := Lib.hid (by
                rw [List.all_eq_false]
                exact ⟨t, by rw [← ht]; exact List.getElem_mem hlt, by unfold inT; simp; omega⟩)
              clear t0 t1
              go_wp2
              go_ret
              exact ⟨by rw [E.out, NO.out]; rfl, HV.out⟩
            · have q1 : decide (253402300799 < t) = false := by simpa using t1
              have YES : Hid (inT t = true) := Lib.hid (by unfold inT; simp; omega)
              have wk : IntKind.i64.wrap ((k : Int) + 1) = (k : Int) + 1 := by have := LN.out; rw [IntKind.wrap_i64]; omega
              clear t0 t1 ht
              go_wp2
              go_roundw
              case rel => exact ⟨k + 1, by omega, by go_num, Lib.hid (by rw [TK.out, List.all_append, hall.out]; simp [YES.out]), by first | rfl | trivial⟩
              case measure => simp [intOf]; omega
        · have hall' : ts.all inT = true := by have := hall.out; rwa [List.take_of_length_le (by omega)] at this
          have HA := Lib.hid hall'
          clear hall' hall
          go_wp2
          go_ret
          exact ⟨by rw [E.out, HA.out]; rfl, HV.out⟩
    · rw [hz] at ZC
      have E : Hid (errC x z ts = 2) := Lib.hid (by unfold errC; rw [if_neg (by rw [hok]; simp), if_pos (by rw [hz]; decide)])
      clear hz
      go_enter Tryz.func105, Tryz.ntmps105
      go_wp2_with (first
        | (go_at_call 69; refine (CK.out _).mono ?_; rintro e V ⟨rfl, hb⟩; have HV := Lib.hid (HB.out.trans (hb.mono HB.out.size)); clear hb)
        | (go_at_call 70; refine (ZC.out _).mono ?_; rintro e V2 ⟨rfl, rfl⟩))
      go_ret
      exact ⟨by rw [E.out]; rfl, HV.out⟩
end Go.Proofs.YtljackjcgfaanaaGreatDoor
/- Plain facts of the answers of Day, Is, Next and Prev: which times are matched at a zone. -/
namespace Go.Proofs.YtljackjcgfaanaaGreatDoor
open Go.ChangeShapes Go.RowKit

theorem errC_one {x : Exp.Ex} {z t : Int} (h : errC x z [t] = 0) : x.okB = true ∧ (-840 ≤ z ∧ z ≤ 840) ∧ 0 ≤ t ∧ t ≤ 253402300799 := by
  unfold errC at h
  split at h
  · cases h
  · split at h
    · cases h
    · split at h
      · rename_i h1 h2 h3
        unfold inT at h3
        unfold errZ at h2
        refine ⟨by simpa using h1, ?_, ?_⟩
        · by_cases c : -840 ≤ z ∧ z ≤ 840
          · exact c
          · rw [if_neg c] at h2; simp at h2
        · simpa using h3
      · cases h
theorem errC_two {x : Exp.Ex} {z a b : Int} (h : errC x z [a, b] = 0) : x.okB = true ∧ (-840 ≤ z ∧ z ≤ 840) ∧ (0 ≤ a ∧ a ≤ 253402300799) ∧ 0 ≤ b ∧ b ≤ 253402300799 := by
  unfold errC at h
  split at h
  · cases h
  · split at h
    · cases h
    · split at h
      · rename_i h1 h2 h3
        unfold inT at h3
        unfold errZ at h2
        refine ⟨by simpa using h1, ?_, ?_⟩
        · by_cases c : -840 ≤ z ∧ z ≤ 840
          · exact c
          · rw [if_neg c] at h2; simp at h2
        · simpa using h3
      · cases h
theorem errC_mk {x : Exp.Ex} {z : Int} {ts : List Int} (hok : x.okB = true) (hz : -840 ≤ z ∧ z ≤ 840) (ht : ∀ t ∈ ts, 0 ≤ t ∧ t ≤ 253402300799) : errC x z ts = 0 := by
  unfold errC
  have e : errZ z = 0 := by unfold errZ; rw [if_pos hz]
  have a : ts.all inT = true := by
    rw [List.all_eq_true]
    intro t h
    have := ht t h
    unfold inT
    simp; omega
  rw [if_neg (by rw [hok]; simp), if_neg (by rw [e]; simp), if_pos a]
/-- is a local second matched? -/
noncomputable def Exp.Ex.lmB (x : Exp.Ex) (n : Int) : Bool := @decide (x.Lm n) (Classical.propDecidable _)
theorem lmB_iff {x : Exp.Ex} {n : Int} : x.lmB n = true ↔ x.Lm n := by unfold Exp.Ex.lmB; exact @decide_eq_true_iff _ (Classical.propDecidable _)
theorem lmB_no {x : Exp.Ex} {n : Int} : x.lmB n = false ↔ ¬ x.Lm n := by unfold Exp.Ex.lmB; exact @decide_eq_false_iff_not _ (Classical.propDecidable _)
theorem lm_in {x : Exp.Ex} {n : Int} (h : x.Lm n) : 0 ≤ n ∧ n ≤ 253402300799 := Mat.lm_range h
/-- the first and the last local time of a span -/
def loc0 (z a : Int) : Int := max (a + 60 * z) 0
def loc1 (z b : Int) : Int := min (b + 60 * z) 253402300799
theorem loc_in {z a b : Int} (h : Mat.Dir.up.past (loc0 z a) (loc1 z b) = false) : 0 ≤ loc0 z a ∧ loc0 z a ≤ 253402300799 ∧ 0 ≤ loc1 z b ∧ loc1 z b ≤ 253402300799 := by
  have h := of_decide_eq_false h
  simp only [Mat.Dir.val] at h
  unfold loc0 loc1 at *
  omega
theorem loc_bd {z a b : Int} (z0 : -840 ≤ z) (z1 : z ≤ 840) (a0 : -1 ≤ a) (a1 : a ≤ 253402300800) (b0 : -1 ≤ b) (b1 : b ≤ 253402300800) : -1000000000000 ≤ loc0 z a ∧ loc0 z a ≤ 1000000000000 ∧ -1000000000000 ≤ loc1 z b ∧ loc1 z b ≤ 1000000000000 := by
  unfold loc0 loc1
  omega
/-- the first matched local time of a span of times, if any -/
theorem seek_span {x : Exp.Ex} (hok : x.Ok) (z a b : Int) : Mat.Least (fun s => x.Lm (s + 60 * z)) a b ((Mat.Dir.up.seek x (loc0 z a) (loc1 z b)).map (· - 60 * z)) := by
  have h := Mat.fst_up.1 (seek_is (d := .up) hok (loc0 z a) (loc1 z b))
  cases e : Mat.Dir.up.seek x (loc0 z a) (loc1 z b) with
  | none =>
    rw [e] at h
    intro y h1 h2 h3
    have := lm_in h3
    exact h (y + 60 * z) (by unfold loc0; omega) (by unfold loc1; omega) h3
  | some u =>
    rw [e] at h
    obtain ⟨h1, h2, h3, h4⟩ := h
    unfold loc0 at h1
    unfold loc1 at h2
    show a ≤ u - 60 * z ∧ u - 60 * z ≤ b ∧ x.Lm (u - 60 * z + 60 * z) ∧ ∀ y, a ≤ y → y < u - 60 * z → ¬ x.Lm (y + 60 * z)
    refine ⟨by omega, by omega, by rw [Int.sub_add_cancel]; exact h3, fun y y1 y2 y3 => ?_⟩
    have := lm_in y3
    exact h4 (y + 60 * z) (by unfold loc0; omega) (by omega) y3
/-- one time alone -/
theorem seek_one {x : Exp.Ex} (hok : x.Ok) (z t : Int) : (Mat.Dir.up.seek x (loc0 z t) (loc1 z t)).isSome = x.lmB (t + 60 * z) := by
  have h := seek_span hok z t t
  cases e : Mat.Dir.up.seek x (loc0 z t) (loc1 z t) with
  | none =>
    rw [e] at h
    exact (lmB_no.2 (h t (Int.le_refl _) (Int.le_refl _))).symm
  | some u =>
    rw [e] at h
    have h : t ≤ u - 60 * z ∧ u - 60 * z ≤ t ∧ x.Lm (u - 60 * z + 60 * z) ∧ ∀ y, t ≤ y → y < u - 60 * z → ¬ x.Lm (y + 60 * z) := h
    obtain ⟨h1, h2, h3, _⟩ := h
    refine (lmB_iff.2 ?_).symm
    have e : u - 60 * z = t := by omega
    rw [e] at h3
    exact h3
/-- the answers of Next and Prev -/
noncomputable def nextO (x : Exp.Ex) (z t : Int) : Option Int := if errC x z [t] = 0 then (Mat.Dir.up.seek x (loc0 z (t + 1)) (loc1 z 253402300799)).map (· - 60 * z) else none
theorem ok_of {x : Exp.Ex} {z : Int} {ts : List Int} (h : errC x z ts = 0) : x.Ok := by
  refine Exp.okB_iff.1 ?_
  unfold errC at h
  split at h
  · cases h
  · rename_i c; simpa using c
theorem nextO_is {x : Exp.Ex} {z t : Int} (h : errC x z [t] = 0) : Mat.Least (fun s => x.Lm (s + 60 * z)) (t + 1) 253402300799 (nextO x z t) := by
  unfold nextO
  rw [if_pos h]
  exact seek_span (ok_of h) z (t + 1) 253402300799
end Go.Proofs.YtljackjcgfaanaaGreatDoor
/- Contracts of Day, Is, Next, Prev and Ever of package match. -/
namespace Go.Proofs.YtljackjcgfaanaaGreatDoor
open Go.ChangeShapes Go.RowKit Go.Shelf

/-- the block of one time, behind that of the expression -/
theorem one_row (x : Exp.Ex) (t : Int) (w : World) : Row ((w.alloc (.cells #[.int .u64 x.a0, .int .u64 x.a1, .int .u64 x.a2, .int .u64 x.a3, .int .u64 x.a4, .int .u64 x.a5, .bool x.b3, .bool x.b5] 24)).alloc (.cells #[.int .i64 t] 2)) (w.heap.size + 1) 2 ([t].map (.int .i64 ·)) := by
  have := Row.new (w.alloc (.cells #[.int .u64 x.a0, .int .u64 x.a1, .int .u64 x.a2, .int .u64 x.a3, .int .u64 x.a4, .int .u64 x.a5, .bool x.b3, .bool x.b5] 24)) [.int .i64 t] 2
  rwa [World.size_alloc] at this
theorem two_row (x : Exp.Ex) (a b : Int) (w : World) : Row ((w.alloc (.cells #[.int .u64 x.a0, .int .u64 x.a1, .int .u64 x.a2, .int .u64 x.a3, .int .u64 x.a4, .int .u64 x.a5, .bool x.b3, .bool x.b5] 24)).alloc (.cells #[.int .i64 a, .int .i64 b] 2)) (w.heap.size + 1) 2 ([a, b].map (.int .i64 ·)) := by
  have := Row.new (w.alloc (.cells #[.int .u64 x.a0, .int .u64 x.a1, .int .u64 x.a2, .int .u64 x.a3, .int .u64 x.a4, .int .u64 x.a5, .bool x.b3, .bool x.b5] 24)) [.int .i64 a, .int .i64 b] 2
  rwa [World.size_alloc] at this
/-- behind check: the expression lies where it lay -/
structure BC (w : World) (x : Exp.Ex) (V : World) : Prop where
  be : Below w.heap.size w V
  ex : Row V w.heap.size 24 (exL x)
  lay : LayM V
theorem BC.one {w V : World} {x : Exp.Ex} {o : Obj} (L : LayM w) (h : Below ((w.alloc (.cells #[.int .u64 x.a0, .int .u64 x.a1, .int .u64 x.a2, .int .u64 x.a3, .int .u64 x.a4, .int .u64 x.a5, .bool x.b3, .bool x.b5] 24)).alloc o).heap.size ((w.alloc (.cells #[.int .u64 x.a0, .int .u64 x.a1, .int .u64 x.a2, .int .u64 x.a3, .int .u64 x.a4, .int .u64 x.a5, .bool x.b3, .bool x.b5] 24)).alloc o) V) : BC w x V := by
  have h0 := ((Below.refl _ w).alloc (Nat.le_refl _) (.cells #[.int .u64 x.a0, .int .u64 x.a1, .int .u64 x.a2, .int .u64 x.a3, .int .u64 x.a4, .int .u64 x.a5, .bool x.b3, .bool x.b5] 24)).alloc (by simp) o
  have r := ((Row.new w (exL x) 24).alloc o).below h
  exact ⟨h0.trans (h.mono h0.size), r, L.below (h0.trans (h.mono h0.size))⟩
theorem BC.next {w V V' : World} {x : Exp.Ex} (h : BC w x V) (hb : Below V.heap.size V V') : BC w x V' := ⟨h.be.trans (hb.mono h.be.size), h.ex.below hb, h.lay.below hb⟩
theorem BC.cells {w V : World} {x : Exp.Ex} (h : BC w x V) : V.cell? ⟨w.heap.size, 0, none⟩ = some (.int .u64 x.a0) ∧ V.cell? ⟨w.heap.size, 1, none⟩ = some (.int .u64 x.a1) ∧ V.cell? ⟨w.heap.size, 2, none⟩ = some (.int .u64 x.a2) ∧ V.cell? ⟨w.heap.size, 3, none⟩ = some (.int .u64 x.a3) ∧ V.cell? ⟨w.heap.size, 4, none⟩ = some (.int .u64 x.a4) ∧ V.cell? ⟨w.heap.size, 5, none⟩ = some (.int .u64 x.a5) ∧ V.cell? ⟨w.heap.size, 6, none⟩ = some (.bool x.b3) ∧ V.cell? ⟨w.heap.size, 7, none⟩ = some (.bool x.b5) := row_cells h.ex
/-- what Day returns -/
noncomputable def dayO (x : Exp.Ex) (z t : Int) : Bool := if errC x z [t] = 0 then inT (t + 60 * z) && x.onB ((t + 60 * z) / 86400) else false
noncomputable def isO (x : Exp.Ex) (z t : Int) : Bool := if errC x z [t] = 0 then x.lmB (t + 60 * z) else false
theorem seek_up (x : Exp.Ex) (hok : x.Ok) (f t a : Int) (b : Bool) {r : Option Int} (h : Mat.Dir.up.seek x f t = r) (ha : r.getD 0 = a) (hb : r.isSome = b) (bd : -1000000000000 ≤ f ∧ f ≤ 1000000000000 ∧ -1000000000000 ≤ t ∧ t ≤ 1000000000000)
    (hin : Mat.Dir.up.past f t = false → 0 ≤ f ∧ f ≤ 253402300799 ∧ 0 ≤ t ∧ t ≤ 253402300799) (w : World) (L : LayM w) :
    Calls Tryz.prog 107 #[.int .i64 1, .agg #[.int .u64 x.a0, .int .u64 x.a1, .int .u64 x.a2, .int .u64 x.a3, .int .u64 x.a4, .int .u64 x.a5, .bool x.b3, .bool x.b5], .int .i64 f, .int .i64 t] w fun e W' => e = .returned (.tuple #[.int .i64 a, .bool b]) ∧ Below w.heap.size w W' := by
  have := seek_any .up x hok f t bd.1 bd.2.1 bd.2.2.1 bd.2.2.2 hin w L
  rw [h] at this
  unfold optV at this
  rw [ha, hb] at this
  exact this
set_option maxRecDepth 100000 in
set_option maxHeartbeats 4000000 in
theorem mis_any (x : Exp.Ex) (hx : x.Bd) (z t : Int) (w : World) (L : LayM w) :
    Calls Tryz.prog 73 #[.agg #[.int .u64 x.a0, .int .u64 x.a1, .int .u64 x.a2, .int .u64 x.a3, .int .u64 x.a4, .int .u64 x.a5, .bool x.b3, .bool x.b5], .int .i64 z, .int .i64 t] w fun e W' => e = .returned (.tuple #[.bool (isO x z t), .int .i64 (errC x z [t])]) ∧ Below w.heap.size w W' := by
  have CK := Lib.hid (fun w0 R => mcheck_any x hx z (w.heap.size + 1) [t] (by simp) w0 R)
  have RW := Lib.hid (one_row x t w)
  have LL := Lib.hid L
  by_cases h : errC x z [t] = 0
  · obtain ⟨hk, hz, ht⟩ := errC_one h
    have hok := Exp.okB_iff.1 hk
    have LA := Lib.hid (fun w0 : World => local_any z t t (loc0 z t) (loc1 z t) w0 hz.1 hz.2 (by omega) (by omega) (by omega) (by omega) rfl rfl)
    have SK := Lib.hid (fun w0 L0 => seek_up x hok (loc0 z t) (loc1 z t) ((Mat.Dir.up.seek x (loc0 z t) (loc1 z t)).getD 0) (x.lmB (t + 60 * z)) rfl rfl (seek_one hok z t) (loc_bd hz.1 hz.2 (by omega) (by omega) (by omega) (by omega)) loc_in w0 L0)
    have DO : Hid (isO x z t = x.lmB (t + 60 * z)) := Lib.hid (by unfold isO; rw [if_pos h])
    obtain ⟨f, hf⟩ : ∃ f, loc0 z t = f := ⟨_, rfl⟩
    obtain ⟨g, hg⟩ : ∃ g, loc1 z t = g := ⟨_, rfl⟩
    rw [hf, hg] at LA SK
    obtain ⟨a, ha⟩ : ∃ a, (Mat.Dir.up.seek x f g).getD 0 = a := ⟨_, rfl⟩
    obtain ⟨b, hb⟩ : ∃ b, x.lmB (t + 60 * z) = b := ⟨_, rfl⟩
    rw [ha, hb] at SK
    rw [hb] at DO
    rw [h] at CK ⊢
    clear h hk hz ht hok hf hg ha hb L
    go_enter Tryz.func73, Tryz.ntmps73
    go_wp2_with (first
      | (go_at_call 105; refine (CK.out _ RW.out).mono ?_; rintro e V ⟨rfl, hb⟩; have Q := Lib.hid (BC.one LL.out hb); obtain ⟨y0, y1, y2, y3, y4, y5, y6, y7⟩ := Q.out.cells; clear hb)
      | (go_at_call 106; refine (LA.out _).mono ?_; rintro e V' ⟨rfl, rfl⟩)
      | (go_at_call 107; refine (SK.out _ Q.out.lay).mono ?_; rintro e V' ⟨rfl, hb⟩; have Q := Lib.hid (Q.out.next hb); clear hb))
    go_ret2
    exact ⟨by rw [DO.out]; rfl, Q.out.be⟩
  · have DO : Hid (isO x z t = false) := Lib.hid (by unfold isO; rw [if_neg h])
    obtain ⟨E, hE⟩ : ∃ E, errC x z [t] = E := ⟨_, rfl⟩
    rw [hE] at h CK ⊢
    have t1 : (E != 0) = true := by rw [bne_iff_ne]; exact h
    clear h hE L
    go_enter Tryz.func73, Tryz.ntmps73
    go_wp2_with (first
      | (go_at_call 105; refine (CK.out _ RW.out).mono ?_; rintro e V ⟨rfl, hb⟩; have Q := Lib.hid (BC.one LL.out hb); clear hb))
    go_ret2
    exact ⟨by rw [DO.out]; rfl, Q.out.be⟩
set_option maxRecDepth 100000 in
set_option maxHeartbeats 4000000 in
theorem mnext_any (x : Exp.Ex) (hx : x.Bd) (z t : Int) (w : World) (L : LayM w) :
    Calls Tryz.prog 75 #[.agg #[.int .u64 x.a0, .int .u64 x.a1, .int .u64 x.a2, .int .u64 x.a3, .int .u64 x.a4, .int .u64 x.a5, .bool x.b3, .bool x.b5], .int .i64 z, .int .i64 t] w fun e W' => e = .returned (.tuple #[.int .i64 ((nextO x z t).getD 0), .bool (nextO x z t).isSome, .int .i64 (errC x z [t])]) ∧ Below w.heap.size w W' := by
  have CK := Lib.hid (fun w0 R => mcheck_any x hx z (w.heap.size + 1) [t] (by simp) w0 R)
  have RW := Lib.hid (one_row x t w)
  have LL := Lib.hid L
  by_cases h : errC x z [t] = 0
  · obtain ⟨hk, hz, ht⟩ := errC_one h
    have hok := Exp.okB_iff.1 hk
    have LA := Lib.hid (fun w0 : World => local_any z (t + 1) 253402300799 (loc0 z (t + 1)) (loc1 z 253402300799) w0 hz.1 hz.2 (by omega) (by omega) (by omega) (by omega) rfl rfl)
    have AH := Lib.hid (fun w0 : World => ahead_any z w0 hz.1 hz.2)
    obtain ⟨r, hr⟩ : ∃ r, Mat.Dir.up.seek x (loc0 z (t + 1)) (loc1 z 253402300799) = r := ⟨_, rfl⟩
    have SK := Lib.hid (fun w0 L0 => seek_up x hok (loc0 z (t + 1)) (loc1 z 253402300799) (r.getD 0) r.isSome hr rfl rfl (by have := loc_bd (z := z) (a := (t + 1)) (b := 253402300799) hz.1 hz.2 (by omega) (by omega) (by omega) (by omega); omega) loc_in w0 L0)
    have DO : Hid (nextO x z t = r.map (· - 60 * z)) := Lib.hid (by unfold nextO; rw [if_pos h, hr])
    have RB : ∀ u, r = some u → 0 ≤ u ∧ u ≤ 253402300799 := fun u hu => by
      have q := seek_is (d := .up) hok (loc0 z (t + 1)) (loc1 z 253402300799)
      rw [hr, hu] at q
      exact lm_in q.2.2.1
    have wt : IntKind.i64.wrap (t + 1) = t + 1 := by rw [IntKind.wrap_i64]; omega
    obtain ⟨f, hf⟩ : ∃ f, loc0 z (t + 1) = f := ⟨_, rfl⟩
    obtain ⟨g, hg⟩ : ∃ g, loc1 z 253402300799 = g := ⟨_, rfl⟩
    rw [hf, hg] at LA SK
    obtain ⟨c, hc⟩ : ∃ c, 60 * z = c := ⟨_, rfl⟩
    rw [hc] at AH DO
    rw [h] at CK ⊢
    cases r with
    | none =>
      simp only [Option.getD_none, Option.isSome_none] at SK
      clear h hk hok hf hg L hr hc hz ht RB
      go_enter Tryz.func75, Tryz.ntmps75
      go_wp2_with (first
        | (go_at_call 105; refine (CK.out _ RW.out).mono ?_; rintro e V ⟨rfl, hb⟩; have Q := Lib.hid (BC.one LL.out hb); obtain ⟨y0, y1, y2, y3, y4, y5, y6, y7⟩ := Q.out.cells; clear hb)
        | (go_at_call 106; refine (LA.out _).mono ?_; rintro e V' ⟨rfl, rfl⟩)
        | (go_at_call 107; refine (SK.out _ Q.out.lay).mono ?_; rintro e V' ⟨rfl, hb⟩; have Q := Lib.hid (Q.out.next hb); clear hb))
      go_ret3
      exact ⟨by rw [DO.out]; rfl, Q.out.be⟩
    | some u =>
      simp only [Option.getD_some, Option.isSome_some] at SK
      have ws : IntKind.i64.wrap (u - c) = u - c := by have := RB u rfl; rw [IntKind.wrap_i64]; omega
      clear h hk hok hf hg L hr hc hz ht RB
      go_enter Tryz.func75, Tryz.ntmps75
      go_wp2_with (first
        | (go_at_call 105; refine (CK.out _ RW.out).mono ?_; rintro e V ⟨rfl, hb⟩; have Q := Lib.hid (BC.one LL.out hb); obtain ⟨y0, y1, y2, y3, y4, y5, y6, y7⟩ := Q.out.cells; clear hb)
        | (go_at_call 106; refine (LA.out _).mono ?_; rintro e V' ⟨rfl, rfl⟩)
        | (go_at_call 107; refine (SK.out _ Q.out.lay).mono ?_; rintro e V' ⟨rfl, hb⟩; have Q := Lib.hid (Q.out.next hb); clear hb)
        | (go_at_call 108; refine (AH.out _).mono ?_; rintro e V'' ⟨rfl, rfl⟩))
      go_ret3
      exact ⟨by rw [DO.out]; rfl, Q.out.be⟩
  · have DO : Hid (nextO x z t = none) := Lib.hid (by unfold nextO; rw [if_neg h])
    obtain ⟨E, hE⟩ : ∃ E, errC x z [t] = E := ⟨_, rfl⟩
    rw [hE] at h CK ⊢
    have t1 : (E != 0) = true := by rw [bne_iff_ne]; exact h
    clear h hE L
    go_enter Tryz.func75, Tryz.ntmps75
    go_wp2_with (first
      | (go_at_call 105; refine (CK.out _ RW.out).mono ?_; rintro e V ⟨rfl, hb⟩; have Q := Lib.hid (BC.one LL.out hb); clear hb))
    go_ret3
    exact ⟨by rw [DO.out]; rfl, Q.out.be⟩
end Go.Proofs.YtljackjcgfaanaaGreatDoor
/- Contract of List of package match: the first times of a span that are matched. -/
namespace Go.Proofs.YtljackjcgfaanaaGreatDoor
open Go.ChangeShapes Go.RowKit Go.Shelf

/-- the first times, so many at most, of a span -/
def Tms (P : Int → Prop) (b : Int) : Nat → Int → List Int → Prop
  | 0, _, l => l = []
  | n + 1, a, l => ∃ r, Mat.Least P a b r ∧ match r with
    | none => l = []
    | some t => ∃ l', l = t :: l' ∧ Tms P b n (t + 1) l'
theorem Tms.uniq {P : Int → Prop} {b : Int} : ∀ {n : Nat} {a : Int} {l m : List Int}, Tms P b n a l → Tms P b n a m → l = m
  | 0, _, l, m, h, k => by
    have h : l = [] := h
    have k : m = [] := k
    rw [h, k]
  | n + 1, a, l, m, h, k => by
    obtain ⟨r, h1, h2⟩ := h
    obtain ⟨r', k1, k2⟩ := k
    obtain rfl := h1.uniq k1
    cases r with
    | none =>
      have h2 : l = [] := h2
      have k2 : m = [] := k2
      rw [h2, k2]
    | some t =>
      obtain ⟨l', rfl, g⟩ := h2
      obtain ⟨m', rfl, g'⟩ := k2
      rw [Tms.uniq g g']
theorem infoT : (Tryz.prog.info? 2).map (fun i => (i.zero, i.size, i.bytes)) = some (some (.int .i64 0), 1, 8) := by kernel_rfl
/-- a list of times of the call's own, and what lay before the call is as it was -/
structure OwnT (w : World) (v : Value) (l : List Int) (wr : World) : Prop where
  row : wr.ownsRow w.heap.size 2 1 v l.length (l.map (.int .i64 ·))
  below : Below w.heap.size w wr
theorem OwnT.nil (w : World) : OwnT w (.slice none 0 0) [] w := ⟨World.ownsRow_nil _ _ _ _, Below.refl _ _⟩
theorem OwnT.step {w wr w1 : World} {v v' : Value} {l : List Int} {o : Obj} {x : Int} (h : OwnT w v l wr)
    (hown : w1.ownsRow w.heap.size 2 1 v' (l.length + 1) (l.map (.int .i64 ·) ++ [.int .i64 x])) (hg : (wr.alloc o).grownBy w1 v.ownBlock) : OwnT w v' (l ++ [x]) w1 := by
  have hs := h.below.size
  refine ⟨by rw [List.map_append]; simpa using hown, (h.below.alloc hs o).grown hg (by simp; omega) (fun k hk => (h.row.lt k hk).1)⟩
theorem OwnT.next {w wr w1 : World} {v : Value} {l : List Int} (h : OwnT w v l wr) (hb : Below wr.heap.size wr w1) : OwnT w v l w1 := by
  refine ⟨h.row.kept ⟨hb.os, hb.tape, hb.output, hb.size, fun k hk _ => hb.block k hk⟩ (row := none) ?_, h.below.trans (hb.mono h.below.size)⟩
  rcases h.row.2 with ⟨rfl, _⟩ | ⟨g, cap, cur, rfl, _⟩
  · exact .inl rfl
  · exact .inr (by simp [Value.ownBlock])
theorem OwnT.len {w wr : World} {v : Value} {l : List Int} (h : OwnT w v l wr) : ∃ a cap, v = .slice a l.length cap := by
  rcases h.row.2 with ⟨rfl, h0⟩ | ⟨g, cap, cur, rfl, _⟩
  · rw [h0]; exact ⟨_, _, rfl⟩
  · exact ⟨_, _, rfl⟩
theorem OwnT.base {w V wr : World} {v : Value} {l : List Int} (h : OwnT V v l wr) (hb : Below w.heap.size w V) : OwnT w v l wr := ⟨ownsRow_base h.row hb.size, hb.trans (h.below.mono hb.size)⟩
end Go.Proofs.YtljackjcgfaanaaGreatDoor
/- Plain mathematics of counting: how many numbers of a span have a property; the matched seconds of a day, the matched days of a span, cycles of 400 years. -/
namespace Go.Proofs.YtljackjcgfaanaaGreatDoor
open Go.ChangeShapes Go.RowKit

/-- how many of so many numbers, from one on, have a property -/
noncomputable def cntN (P : Int → Prop) (a : Int) : Nat → Nat
  | 0 => 0
  | n + 1 => cntN P a n + @ite Nat (P (a + (n : Nat))) (Classical.propDecidable _) 1 0
theorem cnt_yes {P : Int → Prop} {a : Int} {n : Nat} (h : P (a + (n : Nat))) : cntN P a (n + 1) = cntN P a n + 1 := by rw [cntN, if_pos h]
theorem cnt_no {P : Int → Prop} {a : Int} {n : Nat} (h : ¬ P (a + (n : Nat))) : cntN P a (n + 1) = cntN P a n := by rw [cntN, if_neg h, Nat.add_zero]
theorem cnt_add (P : Int → Prop) (a : Int) (m : Nat) : ∀ n : Nat, cntN P a (m + n) = cntN P a m + cntN P (a + (m : Nat)) n
  | 0 => rfl
  | n + 1 => by
    have e : a + ((m + n : Nat) : Int) = a + (m : Nat) + (n : Nat) := by omega
    rw [show m + (n + 1) = (m + n) + 1 by omega, cntN, cnt_add P a m n, e, cntN, Nat.add_assoc]
theorem cnt_congr {P Q : Int → Prop} {a b : Int} : ∀ {n : Nat}, (∀ k : Nat, k < n → (P (a + (k : Nat)) ↔ Q (b + (k : Nat)))) → cntN P a n = cntN Q b n
  | 0, _ => rfl
  | n + 1, h => by
    have ih := cnt_congr (P := P) (Q := Q) (a := a) (b := b) (n := n) (fun k hk => h k (by omega))
    by_cases c : P (a + (n : Nat))
    · rw [cnt_yes c, cnt_yes ((h n (by omega)).1 c), ih]
    · rw [cnt_no c, cnt_no (fun q => c ((h n (by omega)).2 q)), ih]
theorem cnt_zero {P : Int → Prop} {a : Int} : ∀ {n : Nat}, (∀ k : Nat, k < n → ¬ P (a + (k : Nat))) → cntN P a n = 0
  | 0, _ => rfl
  | n + 1, h => by rw [cnt_no (h n (by omega)), cnt_zero (fun k hk => h k (by omega))]
theorem cnt_le (P : Int → Prop) (a : Int) : ∀ n : Nat, cntN P a n ≤ n
  | 0 => Nat.le_refl _
  | n + 1 => by
    have := cnt_le P a n
    by_cases c : P (a + (n : Nat))
    · rw [cnt_yes c]; omega
    · rw [cnt_no c]; omega

theorem memTo_nil (S : Nat) : Bit.memTo S 0 = [] := rfl
theorem memTo_len_succ (S k : Nat) : (Bit.memTo S (k + 1)).length = (Bit.memTo S k).length + if S.testBit k = true then 1 else 0 := by
  rw [Bit.memTo_succ]
  split
  · simp
  · simp
theorem memTo_big {S k : Nat} (h : ∀ v, S.testBit v = true → v < k) : ∀ m, k ≤ m → (Bit.memTo S m).length = (Bit.memTo S k).length := by
  intro m
  induction m with
  | zero => intro hk; obtain rfl : k = 0 := by omega
            rfl
  | succ m ih =>
    intro hk
    by_cases e : k = m + 1
    · rw [e]
    · rw [memTo_len_succ, if_neg, ih (by omega)]
      · rfl
      · intro hb
        have := h m hb
        omega
/-- is a second of a day matched -/
def Exp.Ex.ck (x : Exp.Ex) (t : Int) : Prop := Mat.Ck x.a2 x.a1 x.a0 t
theorem ck_at {x : Exp.Ex} {h i s : Nat} (h1 : h < 24) (h2 : i < 60) (h3 : s < 60) : x.ck ((3600 * h + 60 * i + s : Nat) : Int) ↔ x.a2.testBit h = true ∧ x.a1.testBit i = true ∧ x.a0.testBit s = true := by
  unfold Exp.Ex.ck Mat.Ck
  rw [Mat.clk_at h2 h3]
  simp only [Bool.and_eq_true]
  constructor
  · exact fun h => h.2.2
  · exact fun h => ⟨by omega, by omega, h⟩
theorem cnt_sec (x : Exp.Ex) {h i : Nat} (h1 : h < 24) (h2 : i < 60) : ∀ k : Nat, k ≤ 60 → cntN x.ck ((3600 * h + 60 * i : Nat) : Int) k = if x.a2.testBit h = true ∧ x.a1.testBit i = true then (Bit.memTo x.a0 k).length else 0
  | 0, _ => by simp [cntN, memTo_nil]
  | k + 1, hk => by
    have ih := cnt_sec x h1 h2 k (by omega)
    have e : ((3600 * h + 60 * i : Nat) : Int) + (k : Nat) = ((3600 * h + 60 * i + k : Nat) : Int) := by omega
    have c := ck_at (x := x) h1 h2 (show k < 60 by omega)
    rw [cntN, ih, e]
    by_cases q : x.a2.testBit h = true ∧ x.a1.testBit i = true
    · rw [if_pos q, if_pos q, memTo_len_succ]
      by_cases g : x.a0.testBit k = true
      · rw [if_pos (c.2 ⟨q.1, q.2, g⟩), if_pos g]
      · rw [if_neg (fun r => g (c.1 r).2.2), if_neg g]
    · rw [if_neg q, if_neg q, if_neg (fun r => q ⟨(c.1 r).1, (c.1 r).2.1⟩)]
theorem cnt_min {x : Exp.Ex} (hok : x.Ok) {h : Nat} (h1 : h < 24) : ∀ i : Nat, i ≤ 60 → cntN x.ck ((3600 * h : Nat) : Int) (60 * i) = if x.a2.testBit h = true then (Bit.mem x.a0).length * (Bit.memTo x.a1 i).length else 0
  | 0, _ => by simp [cntN, memTo_nil]
  | i + 1, hi => by
    have ih := cnt_min hok h1 i (by omega)
    have s := cnt_sec x h1 (show i < 60 by omega) 60 (Nat.le_refl _)
    have e : ((3600 * h : Nat) : Int) + ((60 * i : Nat) : Int) = ((3600 * h + 60 * i : Nat) : Int) := by omega
    have m : (Bit.memTo x.a0 60).length = (Bit.mem x.a0).length := by rw [← Bit.memTo_all, memTo_big (fun v hv => Nat.lt_succ_of_le (bit0 hok hv)) 64 (by omega)]
    rw [show 60 * (i + 1) = 60 * i + 60 by omega, cnt_add, ih, e, s, m, memTo_len_succ]
    by_cases q : x.a2.testBit h = true
    · rw [if_pos q, if_pos q]
      by_cases g : x.a1.testBit i = true
      · rw [if_pos ⟨q, g⟩, if_pos g, Nat.mul_add, Nat.mul_one]
      · rw [if_neg (fun r => g r.2), if_neg g]
        rfl
    · rw [if_neg q, if_neg q, if_neg (fun r => q r.1)]
theorem cnt_hour {x : Exp.Ex} (hok : x.Ok) : ∀ h : Nat, h ≤ 24 → cntN x.ck 0 (3600 * h) = (Bit.mem x.a0).length * (Bit.mem x.a1).length * (Bit.memTo x.a2 h).length
  | 0, _ => by simp [cntN, memTo_nil]
  | h + 1, hh => by
    have ih := cnt_hour hok h (by omega)
    have s := cnt_min hok (show h < 24 by omega) 60 (Nat.le_refl _)
    have e : (0 : Int) + ((3600 * h : Nat) : Int) = ((3600 * h : Nat) : Int) := by omega
    have m : (Bit.memTo x.a1 60).length = (Bit.mem x.a1).length := by rw [← Bit.memTo_all, memTo_big (fun v hv => Nat.lt_succ_of_le (bit1 hok hv)) 64 (by omega)]
    rw [show 3600 * (h + 1) = 3600 * h + 60 * 60 by omega, cnt_add, ih, e, s, m, memTo_len_succ]
    by_cases q : x.a2.testBit h = true
    · rw [if_pos q, if_pos q, Nat.mul_add, Nat.mul_one]
    · rw [if_neg q, if_neg q]
      rfl
/-- the matched seconds of a day -/
theorem cnt_day {x : Exp.Ex} (hok : x.Ok) : cntN x.ck 0 86400 = x.secs := by
  have h := cnt_hour hok 24 (Nat.le_refl _)
  have m : (Bit.memTo x.a2 24).length = (Bit.mem x.a2).length := by rw [← Bit.memTo_all, memTo_big (fun v hv => Nat.lt_succ_of_le (bit2 hok hv)) 64 (by omega)]
  rw [m] at h
  exact h
/-- .. before one of them -/
theorem cnt_before {x : Exp.Ex} (hok : x.Ok) {h i s : Nat} (h1 : h < 24) (h2 : i < 60) (h3 : s < 60) : cntN x.ck 0 (3600 * h + 60 * i + s) = (Bit.mem x.a0).length * (Bit.mem x.a1).length * (Bit.memTo x.a2 h).length +
    if x.a2.testBit h = true then (Bit.mem x.a0).length * (Bit.memTo x.a1 i).length + (if x.a1.testBit i = true then (Bit.memTo x.a0 s).length else 0) else 0 := by
  have a := cnt_hour hok h (by omega)
  have b := cnt_min hok h1 i (by omega)
  have c := cnt_sec x h1 h2 s (by omega)
  have e1 : (0 : Int) + ((3600 * h : Nat) : Int) = ((3600 * h : Nat) : Int) := by omega
  have e2 : (0 : Int) + ((3600 * h + 60 * i : Nat) : Int) = ((3600 * h + 60 * i : Nat) : Int) := by omega
  rw [cnt_add, cnt_add, e1, e2, a, b, c]
  by_cases q : x.a2.testBit h = true
  · rw [if_pos q, if_pos q]
    by_cases g : x.a1.testBit i = true
    · rw [if_pos ⟨q, g⟩, if_pos g]; omega
    · rw [if_neg (fun r => g r.2), if_neg g]; omega
  · rw [if_neg q, if_neg q, if_neg (fun r => q r.1)]

theorem cnt_in_day (x : Exp.Ex) (n : Nat) {k : Nat} (hk : k ≤ 86400) : cntN x.Lm ((86400 * n : Nat) : Int) k = @ite Nat (x.On n) (Classical.propDecidable _) (cntN x.ck 0 k) 0 := by
  by_cases c : x.On n
  · rw [if_pos c]
    refine cnt_congr fun j hj => ?_
    rw [lm_iff]
    have e1 : (((86400 * n : Nat) : Int) + (j : Nat)) / 86400 = n := by omega
    have e2 : (((86400 * n : Nat) : Int) + (j : Nat)) % 86400 = 0 + (j : Nat) := by omega
    rw [e1, e2]
    exact ⟨fun h => h.2, fun h => ⟨c, h⟩⟩
  · rw [if_neg c]
    refine cnt_zero fun j hj => ?_
    rw [lm_iff]
    have e1 : (((86400 * n : Nat) : Int) + (j : Nat)) / 86400 = n := by omega
    rw [e1]
    exact fun h => c h.1
theorem cnt_days {x : Exp.Ex} (hok : x.Ok) : ∀ n : Nat, cntN x.Lm 0 (86400 * n) = x.secs * cntN x.On 0 n
  | 0 => by simp [cntN]
  | n + 1 => by
    have ih := cnt_days hok n
    have d := cnt_in_day x n (Nat.le_refl 86400)
    have e : (0 : Int) + ((86400 * n : Nat) : Int) = ((86400 * n : Nat) : Int) := by omega
    have e0 : (0 : Int) + (n : Nat) = (n : Int) := by omega
    rw [show 86400 * (n + 1) = 86400 * n + 86400 by omega, cnt_add, ih, e, d]
    by_cases c : x.On n
    · rw [if_pos c, cnt_day hok, cnt_yes (by rw [e0]; exact c), Nat.mul_add, Nat.mul_one]
    · rw [if_neg c, cnt_no (by rw [e0]; exact c), Nat.add_zero]
/-- the matched seconds of the day of a second that lie before it -/
noncomputable def sinceN (x : Exp.Ex) (t : Nat) : Nat := @ite Nat (x.On (t / 86400 : Nat)) (Classical.propDecidable _) (cntN x.ck 0 (t % 86400)) 0
theorem cnt_to {x : Exp.Ex} (hok : x.Ok) (t : Nat) : cntN x.Lm 0 t = x.secs * cntN x.On 0 (t / 86400) + sinceN x t := by
  have e : (0 : Int) + ((86400 * (t / 86400) : Nat) : Int) = ((86400 * (t / 86400) : Nat) : Int) := by omega
  have h : t = 86400 * (t / 86400) + t % 86400 := by omega
  conv => lhs; rw [h]
  rw [cnt_add, cnt_days hok, e, cnt_in_day x (t / 86400) (by omega)]
  rfl
/-- **the count of a span**: whole days, and what lies before its ends -/
theorem cnt_span {x : Exp.Ex} (hok : x.Ok) {f e : Nat} (h : f ≤ e) : cntN x.Lm (f : Int) (e - f) + sinceN x f = x.secs * cntN x.On ((f / 86400 : Nat) : Int) (e / 86400 - f / 86400) + sinceN x e := by
  have a := cnt_to hok f
  have b := cnt_to hok e
  have c := cnt_add x.Lm 0 f (e - f)
  have d := cnt_add x.On 0 (f / 86400) (e / 86400 - f / 86400)
  have e1 : (0 : Int) + (f : Nat) = (f : Int) := by omega
  have e2 : (0 : Int) + ((f / 86400 : Nat) : Int) = ((f / 86400 : Nat) : Int) := by omega
  have l : f / 86400 ≤ e / 86400 := Nat.div_le_div_right h
  rw [show f + (e - f) = e by omega, e1] at c
  rw [show f / 86400 + (e / 86400 - f / 86400) = e / 86400 by omega, e2] at d
  rw [d, Nat.mul_add] at b
  omega

theorem on_cycle {x : Exp.Ex} {n : Int} (h0 : 0 ≤ n) (h1 : n + 146097 ≤ 2932896) : x.On (n + 146097) ↔ x.On n := by
  obtain ⟨y, m, d, v, hn⟩ := Civ.date_ex n h0 (by omega)
  have b := Civ.num_bd v
  have hy : y + 400 ≤ 9999 := by
    refine Classical.byContradiction fun c => ?_
    have mo := Civ.dby_mono (show (9600 : Int) ≤ y by omega)
    have k : Civ.dby 9600 = 2786800 := by decide
    omega
  have v' := Civ.vld_cycle v hy
  have e := Civ.num_cycle y m d
  have a1 := Mat.on_iff (M := x.a4) (D := x.a3) (W := x.a5) (b3 := x.b3) (b5 := x.b5) v
  have a2 := Mat.on_iff (M := x.a4) (D := x.a3) (W := x.a5) (b3 := x.b3) (b5 := x.b5) v'
  rw [e, hn] at a2
  rw [hn] at a1
  have w : ((n + 146097 + 4) % 7).toNat = ((n + 4) % 7).toNat := by omega
  rw [w] at a2
  exact a2.trans a1.symm
/-- what a day adds: itself, and those that lie whole cycles later -/
def adds (last day : Int) : Int := 1 + (last - day).tdiv 146097
/-- the sum over the matched days among so many, from one on -/
noncomputable def sumTo (x : Exp.Ex) (a last : Int) : Nat → Int
  | 0 => 0
  | k + 1 => sumTo x a last k + @ite Int (x.On (a + (k : Nat))) (Classical.propDecidable _) (adds last (a + (k : Nat))) 0
theorem sumTo_one (x : Exp.Ex) (a last : Int) : ∀ k : Nat, (∀ j : Nat, j < k → 0 ≤ last - (a + (j : Nat)) ∧ last - (a + (j : Nat)) < 146097) → sumTo x a last k = (cntN x.On a k : Int)
  | 0, _ => rfl
  | k + 1, h => by
    have ih := sumTo_one x a last k (fun j hj => h j (by omega))
    have q := h k (by omega)
    have e : adds last (a + (k : Nat)) = 1 := by
      unfold adds
      rw [Int.tdiv_eq_ediv_of_nonneg q.1]
      omega
    rw [sumTo, ih]
    by_cases c : x.On (a + (k : Nat))
    · rw [if_pos c, cnt_yes c, e]; omega
    · rw [if_neg c, cnt_no c]; omega
theorem sumTo_less (x : Exp.Ex) (a last : Int) : ∀ k : Nat, (∀ j : Nat, j < k → 0 ≤ last - 146097 - (a + (j : Nat))) → sumTo x a last k = (cntN x.On a k : Int) + sumTo x a (last - 146097) k
  | 0, _ => rfl
  | k + 1, h => by
    have ih := sumTo_less x a last k (fun j hj => h j (by omega))
    have q := h k (by omega)
    have e : adds last (a + (k : Nat)) = 1 + adds (last - 146097) (a + (k : Nat)) := by
      unfold adds
      rw [Int.tdiv_eq_ediv_of_nonneg (by omega), Int.tdiv_eq_ediv_of_nonneg q]
      omega
    rw [sumTo, sumTo, ih]
    by_cases c : x.On (a + (k : Nat))
    · rw [if_pos c, if_pos c, cnt_yes c, e]; omega
    · rw [if_neg c, if_neg c, cnt_no c]; omega
theorem sumTo_add (x : Exp.Ex) (a last : Int) (m : Nat) : ∀ n : Nat, sumTo x a last (m + n) = sumTo x a last m + sumTo x (a + (m : Nat)) last n
  | 0 => by simp [sumTo]
  | n + 1 => by
    have e : a + ((m + n : Nat) : Int) = a + (m : Nat) + (n : Nat) := by omega
    rw [show m + (n + 1) = (m + n) + 1 by omega, sumTo, sumTo_add x a last m n, e, sumTo]
    omega
/-- **all matched days of a span**, out of the first cycle alone -/
theorem sum_cycle {x : Exp.Ex} : ∀ (c : Nat) (a : Int) (k : Nat), k ≤ 146097 * (c + 1) → 0 ≤ a → a + (k : Nat) ≤ 2932897 → sumTo x a (a + (k : Nat) - 1) (min k 146097) = (cntN x.On a k : Int)
  | 0, a, k, hk, _, _ => by
    rw [Nat.min_eq_left (by omega)]
    exact sumTo_one x a _ k fun j hj => by omega
  | c + 1, a, k, hk, h0, h1 => by
    by_cases hs : k ≤ 146097
    · rw [Nat.min_eq_left hs]
      exact sumTo_one x a _ k fun j hj => by omega
    · rw [Nat.min_eq_right (by omega)]
      obtain ⟨r, rfl⟩ : ∃ r, k = 146097 + r := ⟨k - 146097, by omega⟩
      have ih := sum_cycle (x := x) c a r (by omega) h0 (by omega)
      have s1 := cnt_add x.On a 146097 r
      have s2 : cntN x.On (a + ((146097 : Nat) : Int)) r = cntN x.On a r := cnt_congr fun j hj => by
        have q := on_cycle (x := x) (n := a + (j : Nat)) (by omega) (by omega)
        rw [show a + ((146097 : Nat) : Int) + (j : Nat) = a + (j : Nat) + 146097 by omega]
        exact q
      have el : a + ((146097 + r : Nat) : Int) - 1 - 146097 = a + (r : Nat) - 1 := by omega
      by_cases hr : r ≤ 146097
      · rw [Nat.min_eq_left hr] at ih
        have t := sumTo_add x a (a + ((146097 + r : Nat) : Int) - 1) r (146097 - r)
        rw [show r + (146097 - r) = 146097 by omega] at t
        have l1 := sumTo_less x a (a + ((146097 + r : Nat) : Int) - 1) r (fun j hj => by omega)
        have l2 := sumTo_one x (a + (r : Nat)) (a + ((146097 + r : Nat) : Int) - 1) (146097 - r) (fun j hj => by omega)
        have l3 := cnt_add x.On a r (146097 - r)
        rw [show r + (146097 - r) = 146097 by omega] at l3
        rw [el, ih] at l1
        rw [t, l1, l2, s1, s2, l3]
        omega
      · rw [Nat.min_eq_right (by omega)] at ih
        have l1 := sumTo_less x a (a + ((146097 + r : Nat) : Int) - 1) 146097 (fun j hj => by omega)
        rw [el, ih] at l1
        rw [l1, s1, s2]
        omega
end Go.Proofs.YtljackjcgfaanaaGreatDoor
/- Contracts of dates and sinceMidnight of package match. -/
namespace Go.Proofs.YtljackjcgfaanaaGreatDoor
open Go.ChangeShapes Go.RowKit Go.Shelf

/-- the sum over a list of days -/
def sumA (last : Int) : List Int → Int
  | [] => 0
  | q :: r => adds last q + sumA last r
theorem sumA_snoc (last q : Int) : ∀ l : List Int, sumA last (l ++ [q]) = sumA last l + adds last q
  | [] => by simp [sumA]
  | a :: l => by rw [List.cons_append, sumA, sumA_snoc last q l, sumA]; omega
/-- the days ahead of one -/
def ahead_ (e : Int) (l : List Int) : List Int := l.filter fun q => decide (q < e)
theorem ahead_snoc_yes {e q : Int} (h : q < e) (l : List Int) : ahead_ e (l ++ [q]) = ahead_ e l ++ [q] := by unfold ahead_; rw [List.filter_append]; simp [h]
theorem ahead_snoc_no {e q : Int} (h : ¬ q < e) (l : List Int) : ahead_ e (l ++ [q]) = ahead_ e l := by unfold ahead_; rw [List.filter_append]; simp [h]
theorem ahead_all {e : Int} {l : List Int} (h : ∀ q ∈ l, q < e) : ahead_ e l = l := by unfold ahead_; rw [List.filter_eq_self]; simpa using h
theorem ahead_cut {e q : Int} {p r : List Int} (hp : ∀ a ∈ p, a < e) (hq : ¬ q < e) (hs : (p ++ q :: r).Pairwise (fun a b : Int => a < b)) : ahead_ e (p ++ q :: r) = p := by
  rw [List.pairwise_append, List.pairwise_cons] at hs
  have h1 := ahead_all hp
  have h2 : ahead_ e (q :: r) = [] := by
    unfold ahead_
    rw [List.filter_eq_nil_iff]
    intro a ha
    rcases List.mem_cons.1 ha with rfl | ha
    · simpa using hq
    · have := hs.2.1.1 a ha
      simp; omega
  have h3 : ahead_ e (p ++ q :: r) = ahead_ e p ++ ahead_ e (q :: r) := by unfold ahead_; rw [List.filter_append]
  rw [h3, h1, h2, List.append_nil]
theorem sum_daysTo (x : Exp.Ex) (a last : Int) : ∀ k : Nat, sumA last (ahead_ (a + 146097) (Mat.Dir.up.daysTo x a k)) = sumTo x a last (min k 146097)
  | 0 => rfl
  | k + 1 => by
    have ih := sum_daysTo x a last k
    have e1 : a + Mat.Dir.up.val * (k : Int) = a + (k : Nat) := by simp [Mat.Dir.val]
    by_cases hk : k < 146097
    · rw [Nat.min_eq_left (by omega)] at ih
      rw [Nat.min_eq_left (by omega), sumTo]
      by_cases c : x.On (a + (k : Nat))
      · rw [daysTo_yes (by rw [e1]; exact onB_iff.2 c), e1, ahead_snoc_yes (by omega), sumA_snoc, ih, if_pos c]
      · rw [daysTo_no (by rw [e1]; exact onB_no.2 c), ih, if_neg c, Int.add_zero]
    · rw [Nat.min_eq_right (by omega)] at ih
      rw [Nat.min_eq_right (by omega), ← ih]
      by_cases c : x.On (a + (k : Nat))
      · rw [daysTo_yes (by rw [e1]; exact onB_iff.2 c), e1, ahead_snoc_no (by omega)]
      · rw [daysTo_no (by rw [e1]; exact onB_no.2 c)]
/-- the days that came, as numbers -/
def dys (l : List Dy) : List Int := l.map fun q => q.val
theorem dys_snoc (l : List Dy) (q : Dy) : dys (l ++ [q]) = dys l ++ [q.val] := by simp [dys]
theorem dys_mem {l : List Dy} {n : Int} (h : n ∈ dys l) : ∃ a ∈ l, a.val = n := List.mem_map.1 h
/-- what dates returns -/
noncomputable def datesV (x : Exp.Ex) (f t : Int) : Int := sumA (t.tdiv 86400) (ahead_ (f / 86400 + 146097) (Mat.Dir.up.daysL x f t))
theorem datesV_is {x : Exp.Ex} {f t : Int} (f0 : 0 ≤ f) (h : f ≤ t) (t1 : t ≤ 253402300799) : datesV x f t = (cntN x.On (f / 86400) (t / 86400 - f / 86400 + 1).toNat : Int) := by
  have hp : Mat.Dir.up.past f t = false := by unfold Mat.Dir.past; rw [decide_eq_false_iff_not]; simp only [Mat.Dir.val]; omega
  unfold datesV Mat.Dir.daysL
  have ec : Mat.Dir.up.cnt f t = (t / 86400 - f / 86400 + 1).toNat := by unfold Mat.Dir.cnt; simp only [Mat.Dir.val]; omega
  rw [if_neg (by rw [hp]; simp), ec, sum_daysTo, Int.tdiv_eq_ediv_of_nonneg (by omega)]
  obtain ⟨k, hk⟩ : ∃ k, (t / 86400 - f / 86400 + 1).toNat = k := ⟨_, rfl⟩
  have el : t / 86400 = f / 86400 + (k : Nat) - 1 := by omega
  rw [hk, el]
  exact sum_cycle 20 (f / 86400) k (by omega) (by omega) (by omega)
theorem datesV_past {x : Exp.Ex} {f t : Int} (h : t < f) : datesV x f t = 0 := by
  have hp : Mat.Dir.up.past f t = true := by unfold Mat.Dir.past; rw [decide_eq_true_iff]; simp only [Mat.Dir.val]; omega
  unfold datesV Mat.Dir.daysL
  rw [if_pos hp]
  rfl
theorem adds_bd {last q : Int} (h0 : 0 ≤ last) (h1 : last ≤ 2932897) (q0 : 0 ≤ q) (q1 : q ≤ 2932897) : -22 ≤ adds last q ∧ adds last q ≤ 22 := by
  unfold adds
  by_cases c : 0 ≤ last - q
  · rw [Int.tdiv_eq_ediv_of_nonneg c]; omega
  · have e : (last - q).tdiv 146097 = -((q - last) / 146097) := by
      rw [show last - q = -(q - last) by omega, Int.neg_tdiv, Int.tdiv_eq_ediv_of_nonneg (by omega)]
    rw [e]; omega

/-- all of these days lie ahead of one -/
def AllB (e : Int) (l : List Dy) : Prop := ∀ q ∈ l, q.val < e
theorem AllB.snoc {e : Int} {l : List Dy} {q : Dy} (h : AllB e l) (hq : q.val < e) : AllB e (l ++ [q]) := by
  intro a ha
  rcases List.mem_append.1 ha with g | g
  · exact h a g
  · obtain rfl : a = q := by simpa using g
    exact hq
/-- the loop has been left at the first day that does not -/
def Cut (e T : Int) (w : World) (c : Code) (pre : List Dy) (W : World) : Prop := ∃ (p : List Dy) (q : Dy), (c = .exit 0 ∧ pre = p ++ [q] ∧ AllB e p ∧ ¬ q.val < e) ∧ Boxed W (w.heap.size + 1) 2 (.int .i64 (sumA T (dys p))) ∧ Below w.heap.size w W
section
attribute [local go_sem] Oper.semAt_some
set_option maxRecDepth 100000 in
set_option maxHeartbeats 4000000 in
theorem dates_in (n : Nat) (hn : 3 ≤ n) (x : Exp.Ex) (hok : x.Ok) (f t : Int) (f0 : 0 ≤ f) (f1 : f ≤ 253402300799) (t0 : -1 ≤ t) (t1 : t ≤ 253402300799) (w : World) (L : LayM w) :
    CallsIn Fence.wide n Tryz.prog 110 #[.agg #[.int .u64 x.a0, .int .u64 x.a1, .int .u64 x.a2, .int .u64 x.a3, .int .u64 x.a4, .int .u64 x.a5, .bool x.b3, .bool x.b5], .int .i64 f, .int .i64 t] w fun e W' => e = .returned (.int .i64 (datesV x f t)) ∧ Below w.heap.size w W' := by
  have h1 : 1 ≤ n := by omega
  have OK := Lib.hid hok
  have LL := Lib.hid L
  have BD := Lib.hid (And.intro (And.intro f0 f1) (And.intro t0 t1))
  obtain ⟨F, hF⟩ : ∃ F, f / 86400 = F := ⟨_, rfl⟩
  obtain ⟨T, hT⟩ : ∃ T, t.tdiv 86400 = T := ⟨_, rfl⟩
  have TB : 0 ≤ T ∧ T ≤ 2932896 := by
    rw [← hT]
    by_cases c : 0 ≤ t
    · rw [Int.tdiv_eq_ediv_of_nonneg c]; omega
    · obtain rfl : t = -1 := by omega
      decide
  have qf : f.tdiv 86400 = F := by rw [← hF]; exact Int.tdiv_eq_ediv_of_nonneg f0
  have wF : IntKind.i64.wrap F = F := by rw [IntKind.wrap_i64]; omega
  have wT : IntKind.i64.wrap T = T := by rw [IntKind.wrap_i64]; omega
  have FB := Lib.hid (show 0 ≤ F ∧ F ≤ 2932896 by omega)
  have TB := Lib.hid TB
  have DV : Hid (datesV x f t = sumA T (ahead_ (F + 146097) (Mat.Dir.up.daysL x f t))) := Lib.hid (by unfold datesV; rw [hF, hT])
  clear hok L f0 f1 t0 t1 hF
  refine callsIn_of_wp_marks Tryz.func110 rfl trivial ?_ rfl
  simp only [Tryz.ntmps110, List.size_toArray, List.length_cons, List.length_nil, Nat.reduceAdd, Nat.reduceSub, Array.replicate_succ, Array.replicate_zero, List.push_toArray, List.append_toArray, List.nil_append, List.cons_append]
  gi_wp2_with (refine ⟨trivial, ?_⟩; gi_at_call 127; refine (callsIn_wide.2 (days_any .up x f t _)).mono ?_; rintro e w' ⟨rfl, rfl⟩)
  obtain ⟨os, hos⟩ : ∃ os : List Obj, os = [(.cells #[.int .u64 x.a0, .int .u64 x.a1, .int .u64 x.a2, .int .u64 x.a3, .int .u64 x.a4, .int .u64 x.a5, .bool x.b3, .bool x.b5] 24), .cells #[.int .i64 0] 2, .cells #[.int .i64 F] 2, .cells #[.int .i64 T] 2, .cells #[.int .i64 1] 124, (.cells #[.int .u64 x.a0, .int .u64 x.a1, .int .u64 x.a2, .int .u64 x.a3, .int .u64 x.a4, .int .u64 x.a5, .bool x.b3, .bool x.b5] 24), .cells #[.int .i64 f] 2, .cells #[.int .i64 t] 2] := ⟨_, rfl⟩
  obtain ⟨W0, hW0⟩ : ∃ W0, W0 = allocs w os := ⟨_, rfl⟩
  have hB0 : Below w.heap.size w W0 := by rw [hW0]; exact allocs_below _ _
  have hsz : W0.heap.size = w.heap.size + 8 := by rw [hW0, allocs_size, hos]; rfl
  have b1 : Boxed W0 (w.heap.size + 1) 2 (.int .i64 0) := by rw [hW0]; exact allocs_box (k := 1) (by rw [hos]; rfl) (by omega)
  have b2 : Boxed W0 (w.heap.size + 1 + 1) 2 (.int .i64 F) := by rw [hW0]; exact allocs_box (k := 2) (by rw [hos]; rfl) (by omega)
  have b3 : Boxed W0 (w.heap.size + 1 + 1 + 1) 2 (.int .i64 T) := by rw [hW0]; exact allocs_box (k := 3) (by rw [hos]; rfl) (by omega)
  have b4 : Boxed W0 (w.heap.size + 1 + 1 + 1 + 1) 124 (.int .i64 1) := by rw [hW0]; exact allocs_box (k := 4) (by rw [hos]; rfl) (by omega)
  have b5 : Row W0 (w.heap.size + 1 + 1 + 1 + 1 + 1) 24 (exL x) := by
    show W0.heap[w.heap.size + 5]? = _
    rw [hW0]; exact allocs_at _ _ 5 _ (by rw [hos]; rfl)
  have b6 : Boxed W0 (w.heap.size + 1 + 1 + 1 + 1 + 1 + 1) 2 (.int .i64 f) := by rw [hW0]; exact allocs_box (k := 6) (by rw [hos]; rfl) (by omega)
  have b7 : Boxed W0 (w.heap.size + 1 + 1 + 1 + 1 + 1 + 1 + 1) 2 (.int .i64 t) := by rw [hW0]; exact allocs_box (k := 7) (by rw [hos]; rfl) (by omega)
  change Code.wpIn _ _ _ _ _ _ (allocs w [(.cells #[.int .u64 x.a0, .int .u64 x.a1, .int .u64 x.a2, .int .u64 x.a3, .int .u64 x.a4, .int .u64 x.a5, .bool x.b3, .bool x.b5] 24), .cells #[.int .i64 0] 2, .cells #[.int .i64 F] 2, .cells #[.int .i64 T] 2, .cells #[.int .i64 1] 124, (.cells #[.int .u64 x.a0, .int .u64 x.a1, .int .u64 x.a2, .int .u64 x.a3, .int .u64 x.a4, .int .u64 x.a5, .bool x.b3, .bool x.b5] 24), .cells #[.int .i64 f] 2, .cells #[.int .i64 t] 2])
  rw [← hos, ← hW0]
  clear hos hW0 hT qf wF wT
  have L0 := Lib.hid (LL.out.below hB0)
  have HS := Lib.hid hsz
  have B2 := Lib.hid b2; have B3 := Lib.hid b3
  have TBl := Lib.hid (show 1 < w.heap.size from LL.out.b.lt)
  have TCl := Lib.hid (show 0 < w.heap.size from LL.out.c.lt)
  apply wpIn_rangeFunc_ownG rfl h1 (gf := 142) (lb := #[.pointer (some ⟨w.heap.size + 1 + 1 + 1 + 1, 0, none⟩), .pointer (some ⟨w.heap.size + 1 + 1 + 1 + 1 + 1 + 1, 0, none⟩), .pointer (some ⟨w.heap.size + 1 + 1 + 1 + 1 + 1 + 1 + 1, 0, none⟩), .pointer (some ⟨w.heap.size + 1 + 1 + 1 + 1 + 1, 0, none⟩)]) rfl trivial (enters_of Tryz.func142 (by kernel_rfl) rfl)
    (days_stops (fun b => b = w.heap.size + 1) (n - 1) (by omega) _ _ _ _ .up x OK.out f t (by have := BD.out; omega) (by have := BD.out; omega) (by have := BD.out; omega) (by have := BD.out; omega) (fun h => by
      have h := of_decide_eq_false h
      simp only [Mat.Dir.val] at h
      have := BD.out
      exact ⟨by omega, by omega, by omega, by omega, .inl rfl⟩) (by omega) (by omega) (by omega) (by omega) (by have := TBl.out; omega) (by have := TCl.out; omega) W0 (fun b h => by rw [h]; omega) b4 b6 b7 b5 L0.out) Kc.trans Kc.book (Below.refl _ _) (fun _ => rfl)
    (fun pre W => (Boxed W (w.heap.size + 1) 2 (.int .i64 (sumA T (dys pre))) ∧ (AllB (F + 146097) pre ∧ -22 * (pre.length : Int) ≤ sumA T (dys pre) ∧ sumA T (dys pre) ≤ 22 * (pre.length : Int))) ∧ Kc (fun b => b = w.heap.size + 1) W0 W ∧ Below w.heap.size w W)
    (fun c pre W => Cut (F + 146097) T w c pre W)
    (OwnFrom.and (OwnFrom.and (Own.from (boxed_own _ _ (fun pre : List Dy => Value.int .i64 (sumA T (dys pre)))) _) (ownFrom_pure _ _)) (OwnFrom.and (Own.from Kc.own _) (ownFrom_below (Nat.le_refl _) (by omega))))
    (fun c pre A B row ⟨p, q, e1, e2, e3⟩ hg hr => ⟨p, q, e1, boxed_own _ 2 (fun (_ : Unit) => Value.int .i64 (sumA T (dys p))) () A B row e2 hg (fun r e => (hr r e).2), ownFrom_below (β := Unit) (Nat.le_refl _) (by omega) () A B row e3 hg hr⟩)
    ⟨⟨b1, (fun _ h => by cases h), (by simp [sumA, dys]), (by simp [sumA, dys])⟩, Kc.refl _ _, hB0⟩
    _ ?assign ?body ?done ?stop
  case assign =>
    intro l x W K hK
    gi_wp2
    exact hK
  case body =>
    rintro l pre q W ⟨⟨v1, hp, s0, s1⟩, hk, hB⟩ hlt
    obtain ⟨_, hlen⟩ := lim_lt hlt
    have k2 := hk.box (by omega) B2.out; have k3 := hk.box (by omega) B3.out
    have c1 := v1.cell; have f1 := v1.frozen; have c2 := k2.cell; have c3 := k3.cell
    have qb := q.property
    have fb := FB.out
    have tb := TB.out
    have ab := adds_bd (last := T) (q := q.val) tb.1 (by omega) qb.1 (by omega)
    have HP := Lib.hid hp
    obtain ⟨S, hS⟩ : ∃ S, sumA T (dys pre) = S := ⟨_, rfl⟩
    have SN := Lib.hid (sumA_snoc T q.val (dys pre))
    rw [hS] at SN s0 s1 v1 c1
    have w1 : IntKind.i64.wrap (F + 146097) = F + 146097 := by rw [IntKind.wrap_i64]; omega
    have w2 : IntKind.i64.wrap (T - q.val) = T - q.val := by rw [IntKind.wrap_i64]; omega
    obtain ⟨g, hg⟩ : ∃ g, (T - q.val).tdiv 146097 = g := ⟨_, rfl⟩
    have ha : adds T q.val = 1 + g := by unfold adds; rw [hg]
    rw [ha] at ab SN
    have w3 : IntKind.i64.wrap g = g := by rw [IntKind.wrap_i64]; omega
    have w4 : IntKind.i64.wrap (1 + g) = 1 + g := by rw [IntKind.wrap_i64]; omega
    have w5 : IntKind.i64.wrap (S + (1 + g)) = S + (1 + g) := by rw [IntKind.wrap_i64]; omega
    have AB := Lib.hid (And.intro (And.intro s0 s1) ab)
    have HSS := Lib.hid hS
    clear hlt hlen hp s0 s1 ab hS ha k2 k3 qb fb tb
    by_cases hq : q.val < F + 146097
    · have t1 : decide (F + 146097 ≤ q.val) = false := by simp; omega
      have HQ := Lib.hid hq
      clear hq
      gi_wp2
      refine ⟨(KeepsOthers.setCell _ _ _).from _, (Kc.refl _ W).setCell _ _ rfl, ⟨?_, HP.out.snoc HQ.out, ?_, ?_⟩, hk.setCell _ _ rfl, hB.setCell (p := ⟨w.heap.size + 1, 0, none⟩) (by simp) _⟩
      · rw [dys_snoc, SN.out]; exact v1.set _
      · have := AB.out; rw [dys_snoc, SN.out, List.length_append, List.length_singleton]; omega
      · have := AB.out; rw [dys_snoc, SN.out, List.length_append, List.length_singleton]; omega
    · have t1 : decide (F + 146097 ≤ q.val) = true := by simp; omega
      have HQ := Lib.hid hq
      clear hq
      gi_wp2
      exact ⟨KeepsFrom.refl _ _, pre, q, ⟨rfl, rfl, HP.out, Int.not_lt.2 HQ.out⟩, by rw [HSS.out]; exact v1, hB⟩
  case done =>
    rintro D ys W hD hys ⟨⟨v1, hp, _⟩, hk, hB⟩ hK
    have e : sumA T (dys ys) = datesV x f t := by
      rw [DV.out, ← show dys ys = _ from hys, ahead_all]
      intro q hq
      obtain ⟨a, ha, rfl⟩ := dys_mem hq
      exact hp a ha
    have c1 := v1.cell
    rw [e] at c1
    clear hp hys e v1
    gi_wp2
    refine ⟨by simp, .inl ⟨_, _, rfl, run_takeDeferred hK, ?_⟩⟩
    exact ⟨_, results_tmp rfl _ _ _, rfl, hB.trans (belowK_b (w := w) (Nat.le_refl _) W D _ _ (by omega) hK rfl rfl)⟩
  case stop =>
    rintro D c pre W hD hpre ⟨p, q, ⟨rfl, rfl, hp, hq⟩, v1, hB⟩ hK
    have e : sumA T (dys p) = datesV x f t := by
      obtain ⟨r, hr⟩ := hpre
      have so := daysL_sorted .up x f t
      have hr : dys (p ++ [q]) ++ r = Mat.Dir.up.daysL x f t := hr
      rw [DV.out, ← hr]
      rw [← hr] at so
      rw [dys_snoc, List.append_assoc, List.singleton_append] at so ⊢
      rw [ahead_cut _ hq _]
      · intro a ha
        obtain ⟨b, hb, rfl⟩ := dys_mem ha
        exact hp b hb
      · exact List.Pairwise.imp (fun {a b} h => by simp only [Mat.Dir.val] at h; omega) so
    have c1 := v1.cell
    rw [e] at c1
    clear hp hpre hq e v1
    gi_wp2
    refine ⟨by simp, .inl ⟨_, _, rfl, run_takeDeferred hK, ?_⟩⟩
    exact ⟨_, results_tmp rfl _ _ _, rfl, hB.trans (belowK_b (w := w) (Nat.le_refl _) W D _ _ (by omega) hK rfl rfl)⟩
end
theorem dates_any (x : Exp.Ex) (hok : x.Ok) (f t : Int) (f0 : 0 ≤ f) (f1 : f ≤ 253402300799) (t0 : -1 ≤ t) (t1 : t ≤ 253402300799) (w : World) (L : LayM w) :
    Calls Tryz.prog 110 #[.agg #[.int .u64 x.a0, .int .u64 x.a1, .int .u64 x.a2, .int .u64 x.a3, .int .u64 x.a4, .int .u64 x.a5, .bool x.b3, .bool x.b5], .int .i64 f, .int .i64 t] w fun e W' => e = .returned (.int .i64 (datesV x f t)) ∧ Below w.heap.size w W' := callsIn_wide.1 (dates_in 3 (by omega) x hok f t f0 f1 t0 t1 w L)
end Go.Proofs.YtljackjcgfaanaaGreatDoor
