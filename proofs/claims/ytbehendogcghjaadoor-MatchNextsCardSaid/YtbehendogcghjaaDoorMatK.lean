/- Contracts of check, onDate, Day, Is, Next, Prev and Ever of package match. -/
import Derived.Test.YtbehendogcghjaaDoorMatS
import Derived.Test.YtbehendogcghjaaDoorExpNo
namespace Go.Proofs.YtbehendogcghjaaDoor
open Go.ChangeShapes Go.RowKit Go.Shelf

section
attribute [local go_sem] Oper.semAt_some
set_option maxRecDepth 100000 in
set_option maxHeartbeats 4000000 in
theorem onDate_in (n : Nat) (hn : 3 ≤ n) (x : Exp.Ex) (hok : x.Ok) (t : Int) (t0 : 0 ≤ t) (t1 : t ≤ 253402300800) (r : Bool) (hr : r = true ↔ x.On (t / 86400)) (w : World) (L : LayM w) :
    CallsIn Fence.wide n Tryd.prog 35 #[.agg #[.int .u64 x.a0, .int .u64 x.a1, .int .u64 x.a2, .int .u64 x.a3, .int .u64 x.a4, .int .u64 x.a5, .bool x.b3, .bool x.b5], .int .i64 t] w fun e W' => e = .returned (.bool r) ∧ Below w.heap.size w W' := by
  have h1 : 1 ≤ n := by omega
  have OK := Lib.hid hok
  have LL := Lib.hid L
  have BD := Lib.hid (And.intro t0 t1)
  have hp : Mat.Dir.up.past t t = false := by unfold Mat.Dir.past; simp [Mat.Dir.val]
  have HP := Lib.hid hp
  clear hok L t0 t1 hp
  refine callsIn_of_wp_marks Tryd.func35 rfl trivial ?_ rfl
  simp only [Tryd.ntmps35, List.size_toArray, List.length_cons, List.length_nil, Nat.reduceAdd, Nat.reduceSub, Array.replicate_succ, Array.replicate_zero, List.push_toArray, List.append_toArray, List.nil_append, List.cons_append]
  gi_wp2_with (refine ⟨trivial, ?_⟩; gi_at_call 53; refine (callsIn_wide.2 (days_any .up x t t _)).mono ?_; rintro e w' ⟨rfl, rfl⟩)
  obtain ⟨os, hos⟩ : ∃ os : List Obj, os = [(.cells #[.int .u64 x.a0, .int .u64 x.a1, .int .u64 x.a2, .int .u64 x.a3, .int .u64 x.a4, .int .u64 x.a5, .bool x.b3, .bool x.b5] 24), .cells #[.bool false] 4, .cells #[.int .i64 1] 55, (.cells #[.int .u64 x.a0, .int .u64 x.a1, .int .u64 x.a2, .int .u64 x.a3, .int .u64 x.a4, .int .u64 x.a5, .bool x.b3, .bool x.b5] 24), .cells #[.int .i64 t] 2, .cells #[.int .i64 t] 2] := ⟨_, rfl⟩
  obtain ⟨W0, hW0⟩ : ∃ W0, W0 = allocs w os := ⟨_, rfl⟩
  have hB0 : Below w.heap.size w W0 := by rw [hW0]; exact allocs_below _ _
  have hsz : W0.heap.size = w.heap.size + 6 := by rw [hW0, allocs_size, hos]; rfl
  have b1 : Boxed W0 (w.heap.size + 1) 4 (.bool false) := by rw [hW0]; exact allocs_box (k := 1) (by rw [hos]; rfl) (by omega)
  have b2 : Boxed W0 (w.heap.size + 1 + 1) 55 (.int .i64 1) := by rw [hW0]; exact allocs_box (k := 2) (by rw [hos]; rfl) (by omega)
  have b3 : Row W0 (w.heap.size + 1 + 1 + 1) 24 (exL x) := by
    show W0.heap[w.heap.size + 3]? = _
    rw [hW0]; exact allocs_at _ _ 3 _ (by rw [hos]; rfl)
  have b4 : Boxed W0 (w.heap.size + 1 + 1 + 1 + 1) 2 (.int .i64 t) := by rw [hW0]; exact allocs_box (k := 4) (by rw [hos]; rfl) (by omega)
  have b5 : Boxed W0 (w.heap.size + 1 + 1 + 1 + 1 + 1) 2 (.int .i64 t) := by rw [hW0]; exact allocs_box (k := 5) (by rw [hos]; rfl) (by omega)
  change Code.wpIn _ _ _ _ _ _ (allocs w [(.cells #[.int .u64 x.a0, .int .u64 x.a1, .int .u64 x.a2, .int .u64 x.a3, .int .u64 x.a4, .int .u64 x.a5, .bool x.b3, .bool x.b5] 24), .cells #[.bool false] 4, .cells #[.int .i64 1] 55, (.cells #[.int .u64 x.a0, .int .u64 x.a1, .int .u64 x.a2, .int .u64 x.a3, .int .u64 x.a4, .int .u64 x.a5, .bool x.b3, .bool x.b5] 24), .cells #[.int .i64 t] 2, .cells #[.int .i64 t] 2])
  rw [← hos, ← hW0]
  clear hos hW0
  have L0 := Lib.hid (LL.out.below hB0)
  have HS := Lib.hid hsz
  apply wpIn_rangeFunc_ownG rfl h1 (gf := 74) (lb := #[.pointer (some ⟨w.heap.size + 1 + 1, 0, none⟩), .pointer (some ⟨w.heap.size + 1 + 1 + 1 + 1, 0, none⟩), .pointer (some ⟨w.heap.size + 1 + 1 + 1 + 1 + 1, 0, none⟩), .pointer (some ⟨w.heap.size + 1 + 1 + 1, 0, none⟩)]) rfl trivial (enters_of Tryd.func74 (by kernel_rfl) rfl)
    (days_stops (fun _ => False) (n - 1) (by omega) _ _ _ _ .up x OK.out t t (by have := BD.out; omega) (by have := BD.out; omega) (by have := BD.out; omega) (by have := BD.out; omega) (fun _ => ⟨BD.out.1, BD.out.2, BD.out.1, BD.out.2, .inl rfl⟩) (fun h => h) (fun h => h) (fun h => h) (fun h => h) (fun h => h) (fun h => h) W0 (fun _ h => h.elim) b2 b4 b5 b3 L0.out) Kc.trans Kc.book (Below.refl _ _) (fun _ => rfl)
    (fun pre W => (Boxed W (w.heap.size + 1) 4 (.bool false) ∧ pre = []) ∧ Below w.heap.size w W)
    (fun c pre W => (Boxed W (w.heap.size + 1) 4 (.bool true) ∧ c = .ret ∧ pre ≠ []) ∧ Below w.heap.size w W)
    (OwnFrom.and (OwnFrom.and (Own.from (boxed_own _ _ _) _) (ownFrom_pure _ _)) (ownFrom_below (Nat.le_refl _) (by omega)))
    (fun c => OwnFrom.and (OwnFrom.and (Own.from (boxed_own _ _ _) _) (ownFrom_pure _ (fun pre => c = .ret ∧ pre ≠ []))) (ownFrom_below (Nat.le_refl _) (by omega)))
    ⟨⟨b1, rfl⟩, hB0⟩
    _ ?assign ?body ?done ?stop
  case assign =>
    intro l x W K hK
    gi_wp2
    exact hK
  case body =>
    rintro l pre q W ⟨⟨v1, hp⟩, hB⟩ _
    have c1 := v1.cell; have f1 := v1.frozen
    gi_wp2
    exact ⟨(KeepsOthers.setCell _ _ _).from _, ⟨v1.set _, rfl, by simp⟩, hB.setCell (p := ⟨w.heap.size + 1, 0, none⟩) (by simp) _⟩
  case done =>
    rintro D ys W hD hys ⟨⟨v1, rfl⟩, hB⟩ hK
    have e : r = false := by
      cases r with
      | false => rfl
      | true =>
        have m := (daysL_mem (x := x) HP.out (n := t / 86400)).2 ⟨hr.1 rfl, Int.le_refl _, Int.le_refl _⟩
        rw [← hys] at m
        simp at m
    subst e
    have c1 := v1.cell; have f1 := v1.frozen
    clear hr hys
    gi_wp2
    have hK' := (KeepsOthers.setCell W ⟨w.heap.size + 1, 0, none⟩ (.bool false)).same D _ hK rfl
    refine ⟨by simp, .inl ⟨_, _, rfl, run_takeDeferred hK', ?_⟩⟩
    have e5 := cell_kept (v1.set (.bool false)).cell (grownBy_putObj' _ D (.deferred none)) (fun r e => by cases e; exact ⟨_, hK', rfl⟩)
    refine ⟨.bool false, ?_, rfl, (hB.setCell (p := ⟨w.heap.size + 1, 0, none⟩) (by simp) _).trans (belowK_b (w := w) (Nat.le_refl _) _ D _ _ (by omega) hK' rfl rfl)⟩
    simp [results, Tryd.results35, go_sem, e5]
  case stop =>
    rintro D c pre W hD hpre ⟨⟨v1, rfl, hne⟩, hB⟩ hK
    have e : r = true := by
      cases pre with
      | nil => exact absurd rfl hne
      | cons a l =>
        have m : a.val ∈ Mat.Dir.up.daysL x t t := hpre.subset (by simp)
        have m := (daysL_mem HP.out).1 m
        simp only [Mat.Dir.val] at m
        rw [show a.val = t / 86400 by omega] at m
        exact hr.2 m.1
    subst e
    clear hr hpre hne
    gi_wp2
    refine ⟨by simp, .inl ⟨_, _, rfl, run_takeDeferred hK, ?_⟩⟩
    have e5 := cell_kept v1.cell (grownBy_putObj' _ D (.deferred none)) (fun r e => by cases e; exact ⟨_, hK, rfl⟩)
    refine ⟨.bool true, ?_, rfl, hB.trans (belowK_b (w := w) (Nat.le_refl _) W D _ _ (by omega) hK rfl rfl)⟩
    simp [results, Tryd.results35, go_sem, e5]
end
theorem onDate_any (x : Exp.Ex) (hok : x.Ok) (t : Int) (t0 : 0 ≤ t) (t1 : t ≤ 253402300800) (w : World) (L : LayM w) :
    Calls Tryd.prog 35 #[.agg #[.int .u64 x.a0, .int .u64 x.a1, .int .u64 x.a2, .int .u64 x.a3, .int .u64 x.a4, .int .u64 x.a5, .bool x.b3, .bool x.b5], .int .i64 t] w fun e W' => e = .returned (.bool (x.onB (t / 86400))) ∧ Below w.heap.size w W' := callsIn_wide.1 (onDate_in 3 (by omega) x hok t t0 t1 _ onB_iff w L)
theorem seek_any (d : Mat.Dir) (x : Exp.Ex) (hok : x.Ok) (f t : Int) (fl : -1000000000000 ≤ f) (fh : f ≤ 1000000000000) (tl : -1000000000000 ≤ t) (th : t ≤ 1000000000000)
    (hin : d.past f t = false → 0 ≤ f ∧ f ≤ 253402300799 ∧ 0 ≤ t ∧ t ≤ 253402300799) (w : World) (L : LayM w) :
    Calls Tryd.prog 39 #[.int .i64 d.val, .agg #[.int .u64 x.a0, .int .u64 x.a1, .int .u64 x.a2, .int .u64 x.a3, .int .u64 x.a4, .int .u64 x.a5, .bool x.b3, .bool x.b5], .int .i64 f, .int .i64 t] w fun e W' => e = .returned (optV (d.seek x f t)) ∧ Below w.heap.size w W' := callsIn_wide.1 (seek_in 3 (by omega) d x hok f t fl fh tl th hin w L)

/-! check -/
def inT (t : Int) : Bool := decide (0 ≤ t) && decide (t ≤ 253402300799)
/-- the first error of an expression, a zone and times -/
def errC (x : Exp.Ex) (z : Int) (ts : List Int) : Int := if x.okB = false then 16 else if errZ z ≠ 0 then 2 else if ts.all inT = true then 0 else 14
theorem errZ_or (z : Int) : errZ z = 0 ∨ errZ z = 2 := by unfold errZ; split <;> simp
set_option maxRecDepth 100000 in
set_option maxHeartbeats 4000000 in
theorem mcheck_any (x : Exp.Ex) (hx : x.Bd) (z : Int) (B : Nat) (ts : List Int) (hl : ts.length ≤ 2) (w : World) (R : Row w B 2 (ts.map (.int .i64 ·))) :
    Calls Tryd.prog 33 #[.agg #[.int .u64 x.a0, .int .u64 x.a1, .int .u64 x.a2, .int .u64 x.a3, .int .u64 x.a4, .int .u64 x.a5, .bool x.b3, .bool x.b5], .int .i64 z, .slice (some ⟨B, 0, none⟩) ts.length ts.length] w fun e W' => e = .returned (.int .i64 (errC x z ts)) ∧ Below w.heap.size w W' := by
  have CK := Lib.hid (fun w0 : World => check_ex x hx w0)
  have ZC := Lib.hid (fun w0 : World => zcheck_any z w0)
  have HB := Lib.hid ((Below.refl _ w).alloc (Nat.le_refl _) (.cells #[.int .u64 x.a0, .int .u64 x.a1, .int .u64 x.a2, .int .u64 x.a3, .int .u64 x.a4, .int .u64 x.a5, .bool x.b3, .bool x.b5] 24))
  have RR := Lib.hid R
  have HL := Lib.hid hl
  clear hx R hl
  cases hok : x.okB with
  | false =>
    have E : Hid (errC x z ts = 16) := Lib.hid (by unfold errC; rw [if_pos hok])
    rw [hok] at CK
    simp only [errOk, Bool.false_eq_true, if_false] at CK
    go_enter Tryd.func33, Tryd.ntmps33
    go_wp2_with (go_at_call 41; refine (CK.out _).mono ?_; rintro e V ⟨rfl, hb⟩; have HV := Lib.hid hb; clear hb)
    go_ret
    exact ⟨by rw [E.out]; rfl, HB.out.trans (HV.out.mono HB.out.size)⟩
  | true =>
    rw [hok] at CK
    simp only [errOk, if_true] at CK
    rcases errZ_or z with hz | hz
    · rw [hz] at ZC
      have E : Hid (errC x z ts = if ts.all inT = true then 0 else 14) := Lib.hid (by unfold errC; rw [if_neg (by rw [hok]; simp), if_neg (by simpa using hz)])
      clear hz
      go_enter Tryd.func33, Tryd.ntmps33
      go_wp2_with (first
        | (go_at_call 41; refine (CK.out _).mono ?_; rintro e V ⟨rfl, hb⟩; have HV := Lib.hid (HB.out.trans (hb.mono HB.out.size)); have RV := Lib.hid (RR.out.below HV.out); clear hb)
        | (go_at_call 52; refine (ZC.out _).mono ?_; rintro e V2 ⟨rfl, rfl⟩))
      have LN := Lib.hid (show ts.length ≤ 9223372036854775807 by have := HL.out; omega)
      go_loopw [23] (fun i wr => ∃ k : Nat, k ≤ ts.length ∧ i = .int .i64 k ∧ Hid ((ts.take k).all inT = true) ∧ V = wr) (fun i _ => ts.length - (intOf i).toNat)
      case atStart => exact ⟨0, by omega, rfl, Lib.hid rfl, rfl⟩
      case round =>
        obtain ⟨k, hk, rfl, hall, rfl⟩ := hrel
        by_cases hlt : k < ts.length
        · obtain ⟨t, ht⟩ : ∃ t, ts[k] = t := ⟨_, rfl⟩
          have hc : V.cell? ⟨B, k, none⟩ = some (.int .i64 t) := by rw [RV.out.cell k, List.getElem?_map, List.getElem?_eq_getElem hlt, ht]; rfl
          have TK : Hid (ts.take (k + 1) = ts.take k ++ [t]) := Lib.hid (by rw [← ht]; exact (List.take_append_getElem hlt).symm)
          by_cases t0 : t < 0
          · have q0 : decide (t < 0) = true := by simpa using t0
            have NO : Hid (ts.all inT = false) := Lib.hid (by
              rw [List.all_eq_false]
              exact ⟨t, by rw [← ht]; exact List.getElem_mem hlt, by unfold inT; simp; omega⟩)
            clear t0
            go_wp2
            go_ret
            exact ⟨by rw [E.out, NO.out]; rfl, HV.out⟩
          · have q0 : decide (t < 0) = false := by simpa using t0
            by_cases t1 : 253402300799 < t
            · have q1 : decide (253402300799 < t) = true := by simpa using t1
              have NO : Hid (ts.all inT = false) := Lib.hid (by
                rw [List.all_eq_false]
                exact ⟨t, by rw [← ht]; exact List.getElem_mem hlt, by unfold inT; simp; omega⟩)
              clear t0 t1
              go_wp2
              go_ret
              exact ⟨by rw [E.out, NO.out]; rfl, HV.out⟩
            · have q1 : decide (253402300799 < t) = false := by simpa using t1
              have YES : Hid (inT t = true) := Lib.hid (by unfold inT; simp; omega)
              have wk : IntKind.i64.wrap ((k : Int) + 1) = (k : Int) + 1 := by have := LN.out; rw [IntKind.wrap_i64]; omega
              clear t0 t1 ht
              go_wp2
              go_roundw
              case rel => exact ⟨k + 1, by omega, by go_num, Lib.hid (by rw [TK.out, List.all_append, hall.out]; simp [YES.out]), by first | rfl | trivial⟩
              case measure => simp [intOf]; omega
        · have hall' : ts.all inT = true := by have := hall.out; rwa [List.take_of_length_le (by omega)] at this
          have HA := Lib.hid hall'
          clear hall' hall
          go_wp2
          go_ret
          exact ⟨by rw [E.out, HA.out]; rfl, HV.out⟩
    · rw [hz] at ZC
      have E : Hid (errC x z ts = 2) := Lib.hid (by unfold errC; rw [if_neg (by rw [hok]; simp), if_pos (by rw [hz]; decide)])
      clear hz
      go_enter Tryd.func33, Tryd.ntmps33
      go_wp2_with (first
        | (go_at_call 41; refine (CK.out _).mono ?_; rintro e V ⟨rfl, hb⟩; have HV := Lib.hid (HB.out.trans (hb.mono HB.out.size)); clear hb)
        | (go_at_call 52; refine (ZC.out _).mono ?_; rintro e V2 ⟨rfl, rfl⟩))
      go_ret
      exact ⟨by rw [E.out]; rfl, HV.out⟩
end Go.Proofs.YtbehendogcghjaaDoor
