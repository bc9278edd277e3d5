/- For all slices of spans and all int64 times, BlackoutLengths returns true: Length of package blackout gives what the document's gives. No conditions. -/
import Derived.Test.YtodjipbkeddbcaaBlkArg
namespace Go.Proofs.Ytodjipbkeddbcaa.blackoutLengths
open Go.ChangeShapes Go.WideShapes Go.ChangeAt Go.RowKit

set_option maxRecDepth 100000 in
set_option maxHeartbeats 4000000 in
theorem walk (a : Option Addr) (len cap : Nat) (z : List (Int × Int)) (x y : Int) (w : World) (e : z.length = len) (h : InS w (.slice a len cap) z) (_hx : (Lit.int .i64 x).wf = true) (_hy : (Lit.int .i64 y).wf = true) :
    Calls Try.prog 6 #[.slice a len cap, .int .i64 x, .int .i64 y] w fun e w' => e = .returned (.bool true) ∧ Below w.heap.size w w' := by
  subst e
  have HR := Lib.hid h.2.2
  have B0 := Lib.hid (below_new (Below.refl _ w) (.cells #[.slice a z.length cap] 22) (Nat.le_refl _))
  by_cases hl : z.length ≤ 100
  · have R0 := Lib.hid ((HR.out (by omega)).alloc (.cells #[.slice a z.length cap] 22))
    obtain ⟨n, r, hn⟩ := Bk.lenR_ex z x y
    have HN := Lib.hid hn
    clear h HR hn
    go_enter Try.func6, Try.ntmps6
    go_wp2_with fail
    refine (few_one _ a z.length cap true (decide_eq_true hl) _ (by simp [go_sem])).mono ?_
    rintro e V1 ⟨rfl, rfl⟩
    go_wp2_with fail
    refine (length_any _ z x y n r HN.out _ R0.out).mono ?_
    rintro e V2 ⟨rfl, b⟩
    have B2 := Lib.hid (below_next B0.out b)
    have R2 := Lib.hid (R0.out.below b)
    clear b
    clear R0 B0
    go_wp2_with fail
    refine (rlength_any _ z x y n r HN.out _ R2.out).mono ?_
    rintro e V3 ⟨rfl, b⟩
    have B3 := Lib.hid (below_next B2.out b)
    have R3 := Lib.hid (R2.out.below b)
    clear b
    clear R2 B2
    go_wp2_with fail
    refine (works_any _).mono ?_
    rintro e V4 ⟨rfl, b⟩
    have B4 := Lib.hid (below_next B3.out b)
    have R4 := Lib.hid (R3.out.below b)
    clear b
    clear R3 B3
    go_wp2_with fail
    go_ret
    exact ⟨rfl, B4.out⟩
  · have HL := Lib.hid hl
    clear h HR
    go_enter Try.func6, Try.ntmps6
    go_wp2_with fail
    refine (few_one _ a z.length cap false (decide_eq_false hl) _ (by simp [go_sem])).mono ?_
    rintro e V1 ⟨rfl, rfl⟩
    go_wp2_with fail
    refine (works_any _).mono ?_
    rintro e V2 ⟨rfl, b⟩
    have B1 := Lib.hid (below_next B0.out b)
    clear b
    go_wp2_with fail
    go_ret
    exact ⟨rfl, B1.out⟩

set_option maxRecDepth 100000 in
theorem lifted (os : Os) (started : os.Started) (H : Type) (enc : TypeId × Value → H) :
    ReturnsInHanded {} Try.checked os 6 .any (Rows.blackoutLengthsSpec.pre6 enc Try.prog Try.f6 Rows.blackoutLengthsRow.domain false) (Rows.blackoutLengthsSpec.post enc Try.prog Try.f6 false true false false) := by
  refine returnsInHanded_of_change (C := Try.checked) own started (by kernel_rfl) Try.func6
    (ChangeSpec.witness6 (enc := enc) (C := Try.checked) false ⟨#[], #[.slice none 0 0, .int .i64 0, .int .i64 0], []⟩ 8 (by kernel_rfl) (by kernel_rfl) (by kernel_rfl) (by kernel_rfl)) ?_
  intro W base args ds gs before hval0 hW hcnd _
  have hval : ∀ (j : Nat) t v, Try.f6.params[j]? = some t → args[j]? = some v → Value.okWide Try.prog W .any base t v := hval0
  have hW' := hW
  obtain ⟨p, q, hA0, hV, rfl, hfz, hnd⟩ := hW
  have hA : DataW.TrodAll enc Try.prog W 0 (fun _ => true) true Try.f6.params.toList args.toList ds p := hA0
  rw [Try.params6] at hA hval
  obtain ⟨v0, vs0, d0, ds0, p0, q0, hargs, rfl, rfl, h0, r0⟩ := trodAll_cons hA
  obtain ⟨v1, vs1, d1, ds1, p1, q1, rfl, rfl, rfl, h1, r1⟩ := trodAll_cons r0
  obtain ⟨v2, vs2, d2, ds2, p2, q2, rfl, rfl, rfl, h2, r2⟩ := trodAll_cons r1
  obtain ⟨rfl, rfl, rfl⟩ := trodAll_nil r2
  obtain rfl : args = #[v0, v1, v2] := by cases args; simp_all
  obtain ⟨rfl, rfl⟩ := trodVars_none hV
  obtain ⟨a0, len0, cap0, rfl⟩ := okWide_slice Try.underlying22 (hval 0 22 v0 rfl rfl)
  have k0 := h0
  have lt0 : ∀ x ∈ p0, x.block < W.heap.size := by obtain ⟨m, hm⟩ := k0; exact DataW.trod_lt m _ _ _ hm
  obtain ⟨z0, e0, w0⟩ : ∃ l, l.length = len0 ∧ InS W (.slice a0 len0 cap0) l := by obtain ⟨fuel, hf⟩ := h0; exact open_spans (by simpa [Value.cells] using hf)
  obtain ⟨a1, rfl, rfl, rfl, w1⟩ := open_int Try.underlying2 (hval 1 2 v1 rfl rfl) h1
  obtain ⟨a2, rfl, rfl, rfl, w2⟩ := open_int Try.underlying2 (hval 2 2 v2 rfl rfl) h2
  clear hA0 hval0
  refine (walk a0 len0 cap0 z0 a1 a2 W e0 w0 w1 w2).mono fun e W' ⟨he, bel⟩ => ?_
  subst he
  exact ⟨_, rfl, _, _, _, [], _, [], hW', trodAll_mk1 (shut_bool Try.underlying4 _), (trodAll_cons_mk (Below.trod laidOut (by kernel_rfl) (of_decide_eq_true (by kernel_rfl)) k0 bel lt0) (trodAll_cons_mk (shut_int Try.underlying2 w1) (trodAll_cons_mk (shut_int Try.underlying2 w2) trodAll_mk0))), rfl, bel.frame _, fun h => by cases h⟩

theorem proved : Rows.BlackoutLengthsSaid :=
  OpenClaim.holds_of_wide 6 Try.f6 rfl rfl rfl rfl rfl rfl rfl ⟨rfl, rfl, rfl, rfl, rfl⟩ rfl rfl rfl rfl rfl (by kernel_rfl) Try.func6 (by kernel_rfl)
    (of_decide_eq_true (by kernel_rfl)) (by unfold Func.isWrapper; first | (rw [if_pos (by decide +kernel)]; kernel_rfl) | (rw [if_neg (by decide +kernel)]; exact ⟨rfl, rfl⟩))
    (fun os started H enc _ => lifted os started H enc)

end Go.Proofs.Ytodjipbkeddbcaa.blackoutLengths
