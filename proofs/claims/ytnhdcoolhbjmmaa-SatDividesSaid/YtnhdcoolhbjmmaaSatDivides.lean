/- For all int64 numbers a and b, SatDivides returns true: Div, Ceil, Times and Plus of package sat agree: quotient times divisor and rest are the number again. No conditions. -/
import Derived.Test.YtnhdcoolhbjmmaaRows
import Derived.Test.YtnhdcoolhbjmmaaSatH
import Derived.OpenShut
import Derived.ChangeOld
namespace Go.Proofs.Ytnhdcoolhbjmmaa.satDivides
open Go.ChangeShapes Go.WideShapes Go.ChangeAt Go.RowKit

theorem no (a b : Int) (w : World) (h : b < 1) :
    Calls Try.prog 10 #[.int .i64 a, .int .i64 b] w fun e w' => e = .returned (.bool true) ∧ Below w.heap.size w w' := by
  go_enter Try.func10, Try.ntmps10
  go_wp2_with (first
    | (go_at_call 27; refine (div_no _ _ _ h).mono ?_; rintro e w' ⟨rfl, rfl⟩)
    | (go_at_call 29; refine (ceil_no _ _ _ h).mono ?_; rintro e w' ⟨rfl, rfl⟩)
    | (go_at_call 22; refine (works_any _).mono ?_; rintro e w9 ⟨rfl, hb9⟩))
  go_ret
  exact ⟨rfl, hb9⟩

/-- the road, once the numbers are known: quotient q, rest r, quotient rounded up c -/
theorem yes (a b q r c : Int) (w : World) (a0 : -9223372036854775808 ≤ a) (a1 : a ≤ 9223372036854775807) (h : 1 ≤ b) (b1 : b ≤ 9223372036854775807)
    (hq : a / b = q) (hr : a % b = r) (hc : ceilS a b = c) (r0 : 0 ≤ r) (r1 : r < b) (q0 : -9223372036854775808 ≤ q) (q1 : q ≤ 9223372036854775807)
    (n : Int) (hn : q * b = n) (n1 : n + r = a) (cq : r = 0 ∧ c = q ∨ 0 < r ∧ c = q + 1 ∧ q < 9223372036854775807) :
    Calls Try.prog 10 #[.int .i64 a, .int .i64 b] w fun e w' => e = .returned (.bool true) ∧ Below w.heap.size w w' := by
  have D := Lib.hid (div_any a b · a0 a1 h b1)
  have C := Lib.hid (ceil_any a b · a0 a1 h b1)
  rw [hq, hr] at D
  rw [hc] at C
  have nhi : n ≤ 9223372036854775807 := by omega
  by_cases f : -9223372036854775808 ≤ n
  · have T := Lib.hid (times_fit q b · q0 q1 (by omega) b1 n hn f nhi)
    have P := Lib.hid (plus_fit n r · f nhi (by omega) (by omega) (by omega) (by omega))
    rw [n1] at P
    clear hq hr hc hn n1
    rcases cq with ⟨cr, cc⟩ | ⟨cr, cc, c2⟩
    · subst cr cc
      go_enter Try.func10, Try.ntmps10
      go_wp2_with (first
        | (go_at_call 27; refine (D.out _).mono ?_; rintro e w' ⟨rfl, m1, rfl⟩)
        | (go_at_call 29; refine (C.out _).mono ?_; rintro e w' ⟨rfl, m2, rfl⟩)
        | (go_at_call 23; refine (T.out _).mono ?_; rintro e w1 ⟨rfl, hb1⟩)
        | (go_at_call 14; refine (P.out _).mono ?_; rintro e w' ⟨rfl, rfl⟩)
        | (go_at_call 22; refine (works_any _).mono ?_; rintro e w9 ⟨rfl, hb9⟩))
      go_ret
      have s1 := hb1.size
      simp at s1
      exact ⟨rfl, (below_drewN (Below.refl _ _) _).trans ((hb1.mono (by simp)).trans (hb9.mono (by omega)))⟩
    · subst cc
      have rz : (r == 0) = false := beq_eq_false_iff_ne.2 (by omega)
      have rp : decide (0 < r) = true := by simp; omega
      go_enter Try.func10, Try.ntmps10
      go_wp2_with (first
        | (go_at_call 27; refine (D.out _).mono ?_; rintro e w' ⟨rfl, m1, rfl⟩)
        | (go_at_call 29; refine (C.out _).mono ?_; rintro e w' ⟨rfl, m2, rfl⟩)
        | (go_at_call 23; refine (T.out _).mono ?_; rintro e w1 ⟨rfl, hb1⟩)
        | (go_at_call 14; refine (P.out _).mono ?_; rintro e w' ⟨rfl, rfl⟩)
        | (go_at_call 22; refine (works_any _).mono ?_; rintro e w9 ⟨rfl, hb9⟩))
      go_ret
      have s1 := hb1.size
      simp at s1
      exact ⟨rfl, (below_drewN (Below.refl _ _) _).trans ((hb1.mono (by simp)).trans (hb9.mono (by omega)))⟩
  · have T := Lib.hid (times_over q b · q0 q1 (by omega) b1 (by rw [hn]; omega))
    have al : decide (a < -9223372036854775808 + b) = true := by simp; omega
    clear hq hr hc hn n1
    rcases cq with ⟨cr, cc⟩ | ⟨cr, cc, c2⟩
    · subst cr cc
      go_enter Try.func10, Try.ntmps10
      go_wp2_with (first
        | (go_at_call 27; refine (D.out _).mono ?_; rintro e w' ⟨rfl, m1, rfl⟩)
        | (go_at_call 29; refine (C.out _).mono ?_; rintro e w' ⟨rfl, m2, rfl⟩)
        | (go_at_call 23; refine (T.out _).mono ?_; rintro e w1 ⟨rfl, hb1⟩)
        | (go_at_call 22; refine (works_any _).mono ?_; rintro e w9 ⟨rfl, hb9⟩))
      go_ret
      have s1 := hb1.size
      simp at s1
      exact ⟨rfl, (below_drewN (Below.refl _ _) _).trans ((hb1.mono (by simp)).trans (hb9.mono (by omega)))⟩
    · subst cc
      have rz : (r == 0) = false := beq_eq_false_iff_ne.2 (by omega)
      have rp : decide (0 < r) = true := by simp; omega
      go_enter Try.func10, Try.ntmps10
      go_wp2_with (first
        | (go_at_call 27; refine (D.out _).mono ?_; rintro e w' ⟨rfl, m1, rfl⟩)
        | (go_at_call 29; refine (C.out _).mono ?_; rintro e w' ⟨rfl, m2, rfl⟩)
        | (go_at_call 23; refine (T.out _).mono ?_; rintro e w1 ⟨rfl, hb1⟩)
        | (go_at_call 22; refine (works_any _).mono ?_; rintro e w9 ⟨rfl, hb9⟩))
      go_ret
      have s1 := hb1.size
      simp at s1
      exact ⟨rfl, (below_drewN (Below.refl _ _) _).trans ((hb1.mono (by simp)).trans (hb9.mono (by omega)))⟩

theorem walk (a b : Int) (w : World) (wa : (Lit.int .i64 a).wf = true) (wb : (Lit.int .i64 b).wf = true) :
    Calls Try.prog 10 #[.int .i64 a, .int .i64 b] w fun e w' => e = .returned (.bool true) ∧ Below w.heap.size w w' := by
  obtain ⟨a0, a1⟩ := bounds_i64 wa
  obtain ⟨b0, b1⟩ := bounds_i64 wb
  by_cases h : b < 1
  · exact no a b w h
  · obtain ⟨q0, q1, q2⟩ := ceil_bd a0 a1 (show 1 ≤ b by omega)
    have e := Int.mul_ediv_add_emod a b
    refine yes a b _ _ _ w a0 a1 (by omega) b1 rfl rfl rfl (Int.emod_nonneg _ (by omega)) (Int.emod_lt_of_pos _ (by omega)) q0 q1 _ rfl (by rw [Int.mul_comm]; exact e) ?_
    by_cases r : 0 < a % b
    · exact .inr ⟨r, ceilS_up r, q2 r⟩
    · exact .inl ⟨by have := Int.emod_nonneg a (show b ≠ 0 by omega); omega, ceilS_eq r⟩

theorem own : ownKnob Try.prog.godebug = none := by kernel_rfl
theorem laidOut : laidOutB Try.prog = true := by kernel_rfl

set_option maxRecDepth 100000 in
theorem lifted (os : Os) (started : os.Started) (H : Type) (enc : TypeId × Value → H) :
    ReturnsInHanded {} Try.checked os 10 .any (Rows.satDividesSpec.pre6 enc Try.prog Try.f10 Rows.satDividesRow.domain false) (Rows.satDividesSpec.post enc Try.prog Try.f10 false true false false) := by
  refine returnsInHanded_of_change (C := Try.checked) own started (by kernel_rfl) Try.func10
    (ChangeSpec.witness6 (enc := enc) (C := Try.checked) false ⟨#[], #[.int .i64 0, .int .i64 0], []⟩ 8 (by kernel_rfl) (by kernel_rfl) (by kernel_rfl) (by kernel_rfl)) ?_
  intro W base args ds gs before hval0 hW hcnd _
  have hval : ∀ (j : Nat) t v, Try.f10.params[j]? = some t → args[j]? = some v → Value.okWide Try.prog W .any base t v := hval0
  have hW' := hW
  obtain ⟨p, q, hA0, hV, rfl, hfz, hnd⟩ := hW
  have hA : DataW.TrodAll enc Try.prog W 0 (fun _ => true) true Try.f10.params.toList args.toList ds p := hA0
  rw [Try.params10] at hA hval
  obtain ⟨v0, vs0, d0, ds0, p0, q0, hargs, rfl, rfl, h0, r0⟩ := trodAll_cons hA
  obtain ⟨v1, vs1, d1, ds1, p1, q1, rfl, rfl, rfl, h1, r1⟩ := trodAll_cons r0
  obtain ⟨rfl, rfl, rfl⟩ := trodAll_nil r1
  obtain rfl : args = #[v0, v1] := by cases args; simp_all
  obtain ⟨rfl, rfl⟩ := trodVars_none hV
  obtain ⟨a0, rfl, rfl, rfl, w0⟩ := open_int Try.underlying2 (hval 0 2 v0 rfl rfl) h0
  obtain ⟨a1, rfl, rfl, rfl, w1⟩ := open_int Try.underlying2 (hval 1 2 v1 rfl rfl) h1
  clear hA0 hval0
  refine (walk a0 a1 W w0 w1).mono fun e W' ⟨he, bel⟩ => ?_
  subst he
  exact ⟨_, rfl, _, _, _, [], _, [], hW', trodAll_mk1 (shut_bool Try.underlying4 _), (trodAll_cons_mk (shut_int Try.underlying2 w0) (trodAll_cons_mk (shut_int Try.underlying2 w1) trodAll_mk0)), rfl, bel.frame _, fun h => by cases h⟩

theorem proved : Rows.SatDividesSaid :=
  OpenClaim.holds_of_wide 10 Try.f10 rfl rfl rfl rfl rfl rfl rfl ⟨rfl, rfl, rfl, rfl, rfl⟩ rfl rfl rfl rfl rfl (by kernel_rfl) Try.func10 (by kernel_rfl)
    (of_decide_eq_true (by kernel_rfl)) (by unfold Func.isWrapper; first | (rw [if_pos (by decide +kernel)]; kernel_rfl) | (rw [if_neg (by decide +kernel)]; exact ⟨rfl, rfl⟩))
    (fun os started H enc _ => lifted os started H enc)
end Go.Proofs.Ytnhdcoolhbjmmaa.satDivides
