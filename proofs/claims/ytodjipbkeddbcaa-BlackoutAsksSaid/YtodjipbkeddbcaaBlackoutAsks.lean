/- For all slices of spans and all int64 times, BlackoutAsks returns true: In and Free of package blackout give what the document's give. No conditions. -/
import Derived.Test.YtodjipbkeddbcaaBlkArg
namespace Go.Proofs.Ytodjipbkeddbcaa.blackoutAsks
open Go.ChangeShapes Go.WideShapes Go.ChangeAt Go.RowKit

set_option maxRecDepth 100000 in
set_option maxHeartbeats 4000000 in
theorem walk (a : Option Addr) (len cap : Nat) (z : List (Int × Int)) (t : Int) (w : World) (e : z.length = len) (h : InS w (.slice a len cap) z) (_ht : (Lit.int .i64 t).wf = true) :
    Calls Try.prog 4 #[.slice a len cap, .int .i64 t] w fun e w' => e = .returned (.bool true) ∧ Below w.heap.size w w' := by
  subst e
  have HR := Lib.hid h.2.2
  have B0 := Lib.hid (below_new (Below.refl _ w) (.cells #[.slice a z.length cap] 22) (Nat.le_refl _))
  by_cases hl : z.length ≤ 100
  · have R0 := Lib.hid ((HR.out (by omega)).alloc (.cells #[.slice a z.length cap] 22))
    obtain ⟨r, hr⟩ : ∃ r, Bk.errI z t = r := ⟨_, rfl⟩
    obtain ⟨p, hp⟩ : ∃ p, decide (r = 0 ∧ Bk.has z t) = p := ⟨_, rfl⟩
    obtain ⟨x, q, g, hx⟩ := Bk.freeR_ex z t
    have HI := Lib.hid (And.intro hr hp)
    have HX := Lib.hid hx
    clear h HR hr hp hx
    go_enter Try.func4, Try.ntmps4
    go_wp2_with fail
    refine (few_one _ a z.length cap true (decide_eq_true hl) _ (by simp [go_sem])).mono ?_
    rintro e V1 ⟨rfl, rfl⟩
    go_wp2_with fail
    refine (in_any _ z t p r HI.out.1 HI.out.2 _ R0.out).mono ?_
    rintro e V2 ⟨rfl, b⟩
    have B2 := Lib.hid (below_next B0.out b)
    have R2 := Lib.hid (R0.out.below b)
    clear b
    clear R0 B0
    go_wp2_with fail
    refine (rin_any _ z t p r HI.out.1 HI.out.2 _ R2.out).mono ?_
    rintro e V3 ⟨rfl, b⟩
    have B3 := Lib.hid (below_next B2.out b)
    have R3 := Lib.hid (R2.out.below b)
    clear b
    clear R2 B2
    go_wp2_with fail
    refine (free_any _ z t x q g HX.out _ R3.out).mono ?_
    rintro e V4 ⟨rfl, b⟩
    have B4 := Lib.hid (below_next B3.out b)
    have R4 := Lib.hid (R3.out.below b)
    clear b
    clear R3 B3
    go_wp2_with fail
    refine (rfree_any _ z t x q g HX.out _ R4.out).mono ?_
    rintro e V5 ⟨rfl, b⟩
    have B5 := Lib.hid (below_next B4.out b)
    have R5 := Lib.hid (R4.out.below b)
    clear b
    clear R4 B4
    go_wp2_with fail
    refine (works_any _).mono ?_
    rintro e V6 ⟨rfl, b⟩
    have B6 := Lib.hid (below_next B5.out b)
    have R6 := Lib.hid (R5.out.below b)
    clear b
    clear R5 B5
    go_wp2_with fail
    go_ret
    exact ⟨rfl, B6.out⟩
  · have HL := Lib.hid hl
    clear h HR
    go_enter Try.func4, Try.ntmps4
    go_wp2_with fail
    refine (few_one _ a z.length cap false (decide_eq_false hl) _ (by simp [go_sem])).mono ?_
    rintro e V1 ⟨rfl, rfl⟩
    go_wp2_with fail
    refine (works_any _).mono ?_
    rintro e V2 ⟨rfl, b⟩
    have B1 := Lib.hid (below_next B0.out b)
    clear b
    go_wp2_with fail
    go_ret
    exact ⟨rfl, B1.out⟩

set_option maxRecDepth 100000 in
theorem lifted (os : Os) (started : os.Started) (H : Type) (enc : TypeId × Value → H) :
    ReturnsInHanded {} Try.checked os 4 .any (Rows.blackoutAsksSpec.pre6 enc Try.prog Try.f4 Rows.blackoutAsksRow.domain false) (Rows.blackoutAsksSpec.post enc Try.prog Try.f4 false true false false) := by
  refine returnsInHanded_of_change (C := Try.checked) own started (by kernel_rfl) Try.func4
    (ChangeSpec.witness6 (enc := enc) (C := Try.checked) false ⟨#[], #[.slice none 0 0, .int .i64 0], []⟩ 8 (by kernel_rfl) (by kernel_rfl) (by kernel_rfl) (by kernel_rfl)) ?_
  intro W base args ds gs before hval0 hW hcnd _
  have hval : ∀ (j : Nat) t v, Try.f4.params[j]? = some t → args[j]? = some v → Value.okWide Try.prog W .any base t v := hval0
  have hW' := hW
  obtain ⟨p, q, hA0, hV, rfl, hfz, hnd⟩ := hW
  have hA : DataW.TrodAll enc Try.prog W 0 (fun _ => true) true Try.f4.params.toList args.toList ds p := hA0
  rw [Try.params4] at hA hval
  obtain ⟨v0, vs0, d0, ds0, p0, q0, hargs, rfl, rfl, h0, r0⟩ := trodAll_cons hA
  obtain ⟨v1, vs1, d1, ds1, p1, q1, rfl, rfl, rfl, h1, r1⟩ := trodAll_cons r0
  obtain ⟨rfl, rfl, rfl⟩ := trodAll_nil r1
  obtain rfl : args = #[v0, v1] := by cases args; simp_all
  obtain ⟨rfl, rfl⟩ := trodVars_none hV
  obtain ⟨a0, len0, cap0, rfl⟩ := okWide_slice Try.underlying22 (hval 0 22 v0 rfl rfl)
  have k0 := h0
  have lt0 : ∀ x ∈ p0, x.block < W.heap.size := by obtain ⟨m, hm⟩ := k0; exact DataW.trod_lt m _ _ _ hm
  obtain ⟨z0, e0, w0⟩ : ∃ l, l.length = len0 ∧ InS W (.slice a0 len0 cap0) l := by obtain ⟨fuel, hf⟩ := h0; exact open_spans (by simpa [Value.cells] using hf)
  obtain ⟨a1, rfl, rfl, rfl, w1⟩ := open_int Try.underlying2 (hval 1 2 v1 rfl rfl) h1
  clear hA0 hval0
  refine (walk a0 len0 cap0 z0 a1 W e0 w0 w1).mono fun e W' ⟨he, bel⟩ => ?_
  subst he
  exact ⟨_, rfl, _, _, _, [], _, [], hW', trodAll_mk1 (shut_bool Try.underlying4 _), (trodAll_cons_mk (Below.trod laidOut (by kernel_rfl) (of_decide_eq_true (by kernel_rfl)) k0 bel lt0) (trodAll_cons_mk (shut_int Try.underlying2 w1) trodAll_mk0)), rfl, bel.frame _, fun h => by cases h⟩

theorem proved : Rows.BlackoutAsksSaid :=
  OpenClaim.holds_of_wide 4 Try.f4 rfl rfl rfl rfl rfl rfl rfl ⟨rfl, rfl, rfl, rfl, rfl⟩ rfl rfl rfl rfl rfl (by kernel_rfl) Try.func4 (by kernel_rfl)
    (of_decide_eq_true (by kernel_rfl)) (by unfold Func.isWrapper; first | (rw [if_pos (by decide +kernel)]; kernel_rfl) | (rw [if_neg (by decide +kernel)]; exact ⟨rfl, rfl⟩))
    (fun os started H enc _ => lifted os started H enc)

end Go.Proofs.Ytodjipbkeddbcaa.blackoutAsks
