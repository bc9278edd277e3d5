/- Lists of spans in memory; contracts of the checks of package blackout and of the document's. -/
import Derived.Test.YtljackjcgfaanaaGreatDoorProg
import Derived.Test.YtljackjcgfaanaaGreatDoorMBlkP
import Derived.WalkKit
import Derived.ProofKit
import Derived.OwnWalk
import Derived.Maps.AppendAt
import Derived.BigQuiet
import Derived.Deep.QuietTactic
import Derived.Lib.Hide
namespace Go.Proofs.YtljackjcgfaanaaGreatDoor.Bo
open Go.ChangeShapes Go.RowKit

theorem ret_int {k : IntKind} {a b : Int} (h : a = b) : Ending.returned (.int k a) = .returned (.int k b) := by rw [h]
theorem ret_bool {a b : Bool} (h : a = b) : Ending.returned (.bool a) = .returned (.bool b) := by rw [h]
theorem below_drewN {B : Nat} {w W : World} (h : Below B w W) (k : Nat) : Below B w (W.drewN k) := ⟨h.os, h.tape, h.output, h.size, h.block⟩
theorem below_new {B : Nat} {w W : World} (h : Below B w W) (o : Obj) (hb : B ≤ w.heap.size) : Below B w (W.alloc o) := h.alloc (Nat.le_trans hb h.size) o
theorem below_next {w W W' : World} (h : Below w.heap.size w W) (k : Below W.heap.size W W') : Below w.heap.size w W' := h.trans (k.mono h.size)
/-- a slice of these spans -/
def RowS (W : World) (v : Value) (l : List (Int × Int)) : Prop := l.length ≤ 1000000 ∧ (∀ n c, v = .slice none n c → c = 0) ∧ ∃ A cap, v = .slice A l.length cap ∧ ∀ j, j < l.length → ∃ b o, A = some ⟨b, o, none⟩ ∧ W.cell? ⟨b, o + j * 2, none⟩ = some (.int .i64 (l.getD j (0, 0)).1) ∧ W.cell? ⟨b, o + j * 2 + 1, none⟩ = some (.int .i64 (l.getD j (0, 0)).2)
theorem lt_of_cell {w : World} {b o : Nat} {v : Value} (h : w.cell? ⟨b, o, none⟩ = some v) : b < w.heap.size := by
  by_cases k : b < w.heap.size
  · exact k
  · simp [World.cell?, Array.getElem?_eq_none (show w.heap.size ≤ b by omega)] at h
theorem RowS.below {W W' : World} {v : Value} {l : List (Int × Int)} (h : RowS W v l) (hb : Below W.heap.size W W') : RowS W' v l := by
  obtain ⟨h0, hz, A, cap, e, h⟩ := h
  refine ⟨h0, hz, A, cap, e, fun j hj => ?_⟩
  obtain ⟨b, o, e1, e2, e3⟩ := h j hj
  exact ⟨b, o, e1, (hb.cell (p := ⟨b, o + j * 2, none⟩) (lt_of_cell e2)).trans e2, (hb.cell (p := ⟨b, o + j * 2 + 1, none⟩) (lt_of_cell e3)).trans e3⟩
theorem RowS.drewN {W : World} {v : Value} {l : List (Int × Int)} (h : RowS W v l) (m : Nat) : RowS (W.drewN m) v l := h
theorem RowS.alloc {w : World} {v : Value} {l : List (Int × Int)} (h : RowS w v l) (o : Obj) : RowS (w.alloc o) v l := h.below ((Below.refl _ w).alloc (Nat.le_refl _) o)
theorem RowS.nil (W : World) : RowS W (.slice none 0 0) [] := ⟨by simp, (fun n c h => by cases h; rfl), none, 0, rfl, fun j hj => by simp at hj⟩
theorem RowS.len {W : World} {v : Value} {l : List (Int × Int)} (h : RowS W v l) : ∃ A cap, v = .slice A l.length cap := by obtain ⟨_, _, A, cap, e, _⟩ := h; exact ⟨A, cap, e⟩
theorem RowS.at {W : World} {A : Option Addr} {n cap : Nat} {l : List (Int × Int)} (h : RowS W (.slice A n cap) l) {j : Nat} (hj : j < l.length) : ∃ b o, A = some ⟨b, o, none⟩ ∧ W.cell? ⟨b, o + j * 2, none⟩ = some (.int .i64 (l.getD j (0, 0)).1) ∧ W.cell? ⟨b, o + j * 2 + 1, none⟩ = some (.int .i64 (l.getD j (0, 0)).2) := by
  obtain ⟨_, _, A', cap', e, h⟩ := h
  cases e
  exact h j hj

theorem errS_at {l : List (Int × Int)} {k : Nat} (h : ∀ j, j < k → Bk.okT (l.getD j (0, 0)).1 ∧ Bk.okT (l.getD j (0, 0)).2 ∧ (l.getD j (0, 0)).1 ≤ (l.getD j (0, 0)).2) (hk : k < l.length) :
    (¬ Bk.okT (l.getD k (0, 0)).1 → Bk.errS l = 14) ∧ (¬ Bk.okT (l.getD k (0, 0)).2 → Bk.errS l = 14) ∧ (Bk.okT (l.getD k (0, 0)).1 → Bk.okT (l.getD k (0, 0)).2 → (l.getD k (0, 0)).2 < (l.getD k (0, 0)).1 → Bk.errS l = 8) := by
  have e := Bk.errS_skip h (by omega)
  have d : l.drop k = l.getD k (0, 0) :: l.drop (k + 1) := by
    rw [List.drop_eq_getElem_cons hk]
    simp [hk]
  rw [e, d]
  generalize l.getD k (0, 0) = x
  refine ⟨fun q => ?_, fun q => ?_, fun q1 q2 q3 => ?_⟩
  · show (if _ then _ else _) = _
    rw [if_neg (fun z => q z.1)]
  · show (if _ then _ else _) = _
    rw [if_neg (fun z => q z.2)]
  · show (if _ then _ else _) = _
    rw [if_pos ⟨q1, q2⟩, if_pos q3]
theorem errS_end {l : List (Int × Int)} (h : ∀ j, j < l.length → Bk.okT (l.getD j (0, 0)).1 ∧ Bk.okT (l.getD j (0, 0)).2 ∧ (l.getD j (0, 0)).1 ≤ (l.getD j (0, 0)).2) : Bk.errS l = 0 := by
  rw [Bk.errS_skip h (Nat.le_refl _), List.drop_length]
  rfl

theorem valid_any (t : Int) (r : Bool) (hr : decide (Bk.okT t) = r) (w : World) :
    Calls Tryz.prog 122 #[.int .i64 t] w fun e w' => e = .returned (.bool r) ∧ w = w' := by
  by_cases a : t < 0
  · obtain rfl : false = r := by rw [← hr]; symm; rw [decide_eq_false_iff_not]; unfold Bk.okT; omega
    have a1 : decide (0 ≤ t) = false := by rw [decide_eq_false_iff_not]; omega
    clear hr
    go_enter Tryz.func122, Tryz.ntmps122
    go_wp2_with fail
    go_ret
    exact ⟨rfl, rfl⟩
  · have a1 : decide (0 ≤ t) = true := by rw [decide_eq_true_iff]; omega
    obtain rfl : decide (t ≤ 253402300799) = r := by rw [← hr, decide_eq_decide]; unfold Bk.okT; omega
    generalize hq : decide (t ≤ 253402300799) = q
    clear hr
    go_enter Tryz.func122, Tryz.ntmps122
    go_wp2_with fail
    go_ret
    exact ⟨rfl, rfl⟩
theorem rvalid_any (t : Int) (r : Bool) (hr : decide (Bk.okT t) = r) (w : World) :
    Calls Tryz.prog 86 #[.int .i64 t] w fun e w' => e = .returned (.bool r) ∧ w = w' := by
  by_cases a : t < 0
  · obtain rfl : false = r := by rw [← hr]; symm; rw [decide_eq_false_iff_not]; unfold Bk.okT; omega
    have a1 : decide (0 ≤ t) = false := by rw [decide_eq_false_iff_not]; omega
    clear hr
    go_enter Tryz.func86, Tryz.ntmps86
    go_wp2_with fail
    go_ret
    exact ⟨rfl, rfl⟩
  · have a1 : decide (0 ≤ t) = true := by rw [decide_eq_true_iff]; omega
    obtain rfl : decide (t ≤ 253402300799) = r := by rw [← hr, decide_eq_decide]; unfold Bk.okT; omega
    generalize hq : decide (t ≤ 253402300799) = q
    clear hr
    go_enter Tryz.func86, Tryz.ntmps86
    go_wp2_with fail
    go_ret
    exact ⟨rfl, rfl⟩

set_option maxRecDepth 100000 in
set_option maxHeartbeats 4000000 in
theorem chk_any (v : Value) (l : List (Int × Int)) (r : Int) (hr : Bk.errL l = r) (w : World) (h : RowS w v l) :
    Calls Tryz.prog 93 #[v] w fun e w' => e = .returned (.int .i64 r) ∧ Below w.heap.size w w' := by
  subst hr
  have LL := h.1
  have HR := Lib.hid h
  obtain ⟨A, cap, rfl⟩ := h.len
  clear h
  by_cases big : 64 < l.length
  · have E : Hid (Bk.errL l = 12) := Lib.hid (by unfold Bk.errL; rw [if_pos big])
    have d0 : decide ((64 : Int) < (l.length : Int)) = true := by rw [decide_eq_true_iff]; omega
    generalize l.length = n at d0 LL big
    go_enter Tryz.func93, Tryz.ntmps93
    go_wp2_with fail
    go_ret
    exact ⟨ret_int E.out.symm, Below.refl _ _⟩
  · have E : Hid (Bk.errL l = Bk.errS l) := Lib.hid (by unfold Bk.errL; rw [if_neg big])
    have d0 : decide ((64 : Int) < (l.length : Int)) = false := by rw [decide_eq_false_iff_not]; omega
    go_enter Tryz.func93, Tryz.ntmps93
    go_wp2_with fail
    go_loopw [10] (fun iv wr => ∃ k : Nat, k ≤ l.length ∧ iv = .int .i64 k ∧ Hid (∀ j, j < k → Bk.okT (l.getD j (0, 0)).1 ∧ Bk.okT (l.getD j (0, 0)).2 ∧ (l.getD j (0, 0)).1 ≤ (l.getD j (0, 0)).2) ∧ Hid (Below w.heap.size w wr)) (fun iv _ => l.length - (intOf iv).toNat)
    case atStart => exact ⟨0, by omega, rfl, Lib.hid (fun j hj => by omega), Lib.hid (Below.refl _ _)⟩
    case round =>
      obtain ⟨k, hk, rfl, ok, hb⟩ := hrel
      by_cases lt : k < l.length
      · have e0 : decide ((k : Int) < (l.length : Int)) = true := by rw [decide_eq_true_iff]; omega
        have wk : IntKind.i64.wrap ((k : Int) + 1) = (k : Int) + 1 := by rw [IntKind.wrap_i64]; omega
        obtain ⟨b, o, rfl, c1, c2⟩ := (HR.out.below hb.out).at lt
        have EA := Lib.hid (errS_at ok.out lt)
        obtain ⟨x, hx⟩ : ∃ x, l.getD k (0, 0) = x := ⟨_, rfl⟩
        have HX := Lib.hid hx
        rw [hx] at c1 c2 EA
        obtain ⟨x1, x2⟩ := x
        have HB := Lib.hid (below_new hb.out (.cells #[.int .i64 x1, .int .i64 x2] 48) (Nat.le_refl _))
        simp only at c1 c2
        clear hx
        by_cases o1 : Bk.okT x1
        · have V1 := Lib.hid (valid_any x1 true (decide_eq_true o1))
          by_cases o2 : Bk.okT x2
          · have V2 := Lib.hid (valid_any x2 true (decide_eq_true o2))
            by_cases g : x2 < x1
            · have f0 : decide (x2 < x1) = true := decide_eq_true g
              have R := Lib.hid (E.out.trans (EA.out.2.2 o1 o2 g))
              clear g o1 o2
              go_wp2_with fail
              refine (V1.out _).mono ?_
              rintro e V ⟨rfl, rfl⟩
              go_wp2_with fail
              refine (V2.out _).mono ?_
              rintro e V ⟨rfl, rfl⟩
              go_wp2_with fail
              go_ret
              exact ⟨ret_int R.out.symm, HB.out⟩
            · have f0 : decide (x2 < x1) = false := decide_eq_false g
              have OK := Lib.hid (And.intro o1 (And.intro o2 (show x1 ≤ x2 by omega)))
              clear g o1 o2
              go_wp2_with fail
              refine (V1.out _).mono ?_
              rintro e V ⟨rfl, rfl⟩
              go_wp2_with fail
              refine (V2.out _).mono ?_
              rintro e V ⟨rfl, rfl⟩
              go_wp2_with fail
              go_roundw
              case rel => exact ⟨k + 1, by omega, by go_num, Lib.hid (fun j hj => by
                by_cases e : j = k
                · subst e; rw [HX.out]; exact OK.out
                · exact ok.out j (by omega)), HB⟩
              case measure => simp [intOf]; omega
          · have V2 := Lib.hid (valid_any x2 false (decide_eq_false o2))
            have R := Lib.hid (E.out.trans (EA.out.2.1 o2))
            clear o1 o2
            go_wp2_with fail
            refine (V1.out _).mono ?_
            rintro e V ⟨rfl, rfl⟩
            go_wp2_with fail
            refine (V2.out _).mono ?_
            rintro e V ⟨rfl, rfl⟩
            go_wp2_with fail
            go_ret
            exact ⟨ret_int R.out.symm, HB.out⟩
        · have V1 := Lib.hid (valid_any x1 false (decide_eq_false o1))
          have R := Lib.hid (E.out.trans (EA.out.1 o1))
          clear o1
          go_wp2_with fail
          refine (V1.out _).mono ?_
          rintro e V ⟨rfl, rfl⟩
          go_wp2_with fail
          go_ret
          exact ⟨ret_int R.out.symm, HB.out⟩
      · have e0 : decide ((k : Int) < (l.length : Int)) = false := by rw [decide_eq_false_iff_not]; omega
        obtain rfl : k = l.length := by omega
        have R := Lib.hid (E.out.trans (errS_end ok.out))
        clear lt hk ok
        go_wp2_with fail
        go_ret
        exact ⟨ret_int R.out.symm, hb.out⟩

set_option maxRecDepth 100000 in
set_option maxHeartbeats 4000000 in
theorem rchk_any (v : Value) (l : List (Int × Int)) (r : Int) (hr : Bk.errL l = r) (w : World) (h : RowS w v l) :
    Calls Tryz.prog 44 #[v] w fun e w' => e = .returned (.int .i64 r) ∧ Below w.heap.size w w' := by
  subst hr
  have LL := h.1
  have HR := Lib.hid h
  obtain ⟨A, cap, rfl⟩ := h.len
  clear h
  by_cases big : 64 < l.length
  · have E : Hid (Bk.errL l = 12) := Lib.hid (by unfold Bk.errL; rw [if_pos big])
    have d0 : decide ((64 : Int) < (l.length : Int)) = true := by rw [decide_eq_true_iff]; omega
    generalize l.length = n at d0 LL big
    go_enter Tryz.func44, Tryz.ntmps44
    go_wp2_with fail
    go_ret
    exact ⟨ret_int E.out.symm, Below.refl _ _⟩
  · have E : Hid (Bk.errL l = Bk.errS l) := Lib.hid (by unfold Bk.errL; rw [if_neg big])
    have d0 : decide ((64 : Int) < (l.length : Int)) = false := by rw [decide_eq_false_iff_not]; omega
    go_enter Tryz.func44, Tryz.ntmps44
    go_wp2_with fail
    go_loopw [3] (fun iv wr => ∃ k : Nat, k ≤ l.length ∧ iv = .int .i64 k ∧ Hid (∀ j, j < k → Bk.okT (l.getD j (0, 0)).1 ∧ Bk.okT (l.getD j (0, 0)).2 ∧ (l.getD j (0, 0)).1 ≤ (l.getD j (0, 0)).2) ∧ ∃ m, wr = w.drewN m) (fun iv _ => l.length - (intOf iv).toNat)
    case atStart => exact ⟨0, by omega, rfl, Lib.hid (fun j hj => by omega), 0, rfl⟩
    case round =>
      obtain ⟨k, hk, rfl, ok, m, rfl⟩ := hrel
      by_cases lt : k < l.length
      · have e0 : decide ((k : Int) < (l.length : Int)) = true := by rw [decide_eq_true_iff]; omega
        have wk : IntKind.i64.wrap ((k : Int) + 1) = (k : Int) + 1 := by rw [IntKind.wrap_i64]; omega
        obtain ⟨b, o, rfl, c1, c2⟩ := HR.out.at lt
        have EA := Lib.hid (errS_at ok.out lt)
        obtain ⟨x, hx⟩ : ∃ x, l.getD k (0, 0) = x := ⟨_, rfl⟩
        have HX := Lib.hid hx
        rw [hx] at c1 c2 EA
        obtain ⟨x1, x2⟩ := x
        simp only at c1 c2
        clear hx
        by_cases o1 : Bk.okT x1
        · have V1 := Lib.hid (rvalid_any x1 true (decide_eq_true o1))
          by_cases o2 : Bk.okT x2
          · have V2 := Lib.hid (rvalid_any x2 true (decide_eq_true o2))
            by_cases g : x2 < x1
            · have f0 : decide (x2 < x1) = true := decide_eq_true g
              have R := Lib.hid (E.out.trans (EA.out.2.2 o1 o2 g))
              clear g o1 o2
              go_wp2_with fail
              refine (V1.out _).mono ?_
              rintro e V ⟨rfl, rfl⟩
              go_wp2_with fail
              refine (V2.out _).mono ?_
              rintro e V ⟨rfl, rfl⟩
              go_wp2_with fail
              go_quiet (fail)
              go_wp2_with fail
              go_ret
              exact ⟨ret_int R.out.symm, below_drewN (below_drewN (Below.refl _ _) _) _⟩
            · have f0 : decide (x2 < x1) = false := decide_eq_false g
              have OK := Lib.hid (And.intro o1 (And.intro o2 (show x1 ≤ x2 by omega)))
              clear g o1 o2
              go_wp2_with fail
              refine (V1.out _).mono ?_
              rintro e V ⟨rfl, rfl⟩
              go_wp2_with fail
              refine (V2.out _).mono ?_
              rintro e V ⟨rfl, rfl⟩
              go_wp2_with fail
              go_quiet (fail)
              go_wp2_with fail
              go_roundw
              case rel => exact ⟨k + 1, by omega, by go_num, Lib.hid (fun j hj => by
                by_cases e : j = k
                · subst e; rw [HX.out]; exact OK.out
                · exact ok.out j (by omega)), _, rfl⟩
              case measure => simp [intOf]; omega
          · have V2 := Lib.hid (rvalid_any x2 false (decide_eq_false o2))
            have R := Lib.hid (E.out.trans (EA.out.2.1 o2))
            clear o1 o2
            go_wp2_with fail
            refine (V1.out _).mono ?_
            rintro e V ⟨rfl, rfl⟩
            go_wp2_with fail
            refine (V2.out _).mono ?_
            rintro e V ⟨rfl, rfl⟩
            go_wp2_with fail
            go_ret
            exact ⟨ret_int R.out.symm, below_drewN (Below.refl _ _) _⟩
        · have V1 := Lib.hid (rvalid_any x1 false (decide_eq_false o1))
          have R := Lib.hid (E.out.trans (EA.out.1 o1))
          clear o1
          go_wp2_with fail
          refine (V1.out _).mono ?_
          rintro e V ⟨rfl, rfl⟩
          go_wp2_with fail
          go_ret
          exact ⟨ret_int R.out.symm, below_drewN (Below.refl _ _) _⟩
      · have e0 : decide ((k : Int) < (l.length : Int)) = false := by rw [decide_eq_false_iff_not]; omega
        obtain rfl : k = l.length := by omega
        have R := Lib.hid (E.out.trans (errS_end ok.out))
        clear lt hk ok
        go_wp2_with fail
        go_ret
        exact ⟨ret_int R.out.symm, below_drewN (Below.refl _ _) _⟩

end Go.Proofs.YtljackjcgfaanaaGreatDoor.Bo
