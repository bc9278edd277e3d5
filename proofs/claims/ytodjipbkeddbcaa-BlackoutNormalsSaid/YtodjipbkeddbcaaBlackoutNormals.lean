/- For all slices of spans, BlackoutNormals returns true: Check and Normal of package blackout give what the document's give, and leave the slice as it was. No conditions. -/
import Derived.Test.YtodjipbkeddbcaaBlkArg
namespace Go.Proofs.Ytodjipbkeddbcaa.blackoutNormals
open Go.ChangeShapes Go.WideShapes Go.ChangeAt Go.RowKit

set_option maxRecDepth 100000 in
set_option maxHeartbeats 4000000 in
theorem walk (a : Option Addr) (len cap : Nat) (z : List (Int × Int)) (w : World) (e : z.length = len) (h : InS w (.slice a len cap) z) :
    Calls Try.prog 3 #[.slice a len cap] w fun e w' => e = .returned (.bool true) ∧ Below w.heap.size w w' := by
  subst e
  have HR := Lib.hid h.2.2
  have B0 := Lib.hid (below_new (Below.refl _ w) (.cells #[.slice a z.length cap] 22) (Nat.le_refl _))
  by_cases hl : z.length ≤ 100
  · have R0 := Lib.hid ((HR.out (by omega)).alloc (.cells #[.slice a z.length cap] 22))
    obtain ⟨n, r, hn⟩ := Bk.resR_ex z [] 1
    have er : Bk.errL z = r := by rw [hn.1, Bk.err2_nil]
    have HN := Lib.hid hn
    have ER := Lib.hid er
    have NL := hn.len
    clear h HR hn er
    go_enter Try.func3, Try.ntmps3
    go_wp2_with fail
    refine (few_one _ a z.length cap true (decide_eq_true hl) _ (by simp [go_sem])).mono ?_
    rintro e V1 ⟨rfl, rfl⟩
    go_wp2_with fail
    refine (clone_any _ z _ R0.out).mono ?_
    rintro e V2 ⟨c, rfl, h_c⟩
    have B2 := Lib.hid (below_next B0.out h_c.below)
    have R2 := Lib.hid (R0.out.below h_c.below)
    have C2 := Lib.hid (h_c.rowS (by omega))
    obtain ⟨a_c, c_c, rfl⟩ := h_c.len
    clear h_c
    clear R0 B0
    go_wp2_with fail
    refine (normal_any _ z n r HN.out _ R2.out).mono ?_
    rintro e V3 ⟨n0, rfl, h_n0⟩
    have B3 := Lib.hid (below_next B2.out h_n0.below)
    have R3 := Lib.hid (R2.out.below h_n0.below)
    have C3 := Lib.hid (C2.out.below h_n0.below)
    have N3 := Lib.hid (h_n0.rowS (by omega))
    obtain ⟨a_n0, c_n0, rfl⟩ := h_n0.len
    clear h_n0
    clear R2 C2 B2
    go_wp2_with fail
    refine (rnormal_any _ z n r HN.out _ C3.out).mono ?_
    rintro e V4 ⟨n1, rfl, h_n1⟩
    have B4 := Lib.hid (below_next B3.out h_n1.below)
    have R4 := Lib.hid (R3.out.below h_n1.below)
    have C4 := Lib.hid (C3.out.below h_n1.below)
    have N4 := Lib.hid (N3.out.below h_n1.below)
    have M4 := Lib.hid (h_n1.rowS (by omega))
    obtain ⟨a_n1, c_n1, rfl⟩ := h_n1.len
    clear h_n1
    clear R3 C3 N3 B3
    go_wp2_with fail
    refine (equal_same _ _ n _ N4.out M4.out).mono ?_
    rintro e V5 ⟨rfl, b⟩
    have B5 := Lib.hid (below_next B4.out b)
    have R5 := Lib.hid (R4.out.below b)
    have C5 := Lib.hid (C4.out.below b)
    have N5 := Lib.hid (N4.out.below b)
    have M5 := Lib.hid (M4.out.below b)
    clear b
    clear R4 C4 N4 M4 B4
    go_wp2_with fail
    refine (chk_any _ z r ER.out _ R5.out).mono ?_
    rintro e V6 ⟨rfl, b⟩
    have B6 := Lib.hid (below_next B5.out b)
    have R6 := Lib.hid (R5.out.below b)
    have C6 := Lib.hid (C5.out.below b)
    have N6 := Lib.hid (N5.out.below b)
    have M6 := Lib.hid (M5.out.below b)
    clear b
    clear R5 C5 N5 M5 B5
    go_wp2_with fail
    refine (equal_same _ _ z _ R6.out C6.out).mono ?_
    rintro e V7 ⟨rfl, b⟩
    have B7 := Lib.hid (below_next B6.out b)
    have R7 := Lib.hid (R6.out.below b)
    have C7 := Lib.hid (C6.out.below b)
    have N7 := Lib.hid (N6.out.below b)
    have M7 := Lib.hid (M6.out.below b)
    clear b
    clear R6 C6 N6 M6 B6
    go_wp2_with fail
    refine (works_any _).mono ?_
    rintro e V8 ⟨rfl, b⟩
    have B8 := Lib.hid (below_next B7.out b)
    have R8 := Lib.hid (R7.out.below b)
    have C8 := Lib.hid (C7.out.below b)
    have N8 := Lib.hid (N7.out.below b)
    have M8 := Lib.hid (M7.out.below b)
    clear b
    clear R7 C7 N7 M7 B7
    go_wp2_with fail
    go_ret
    exact ⟨rfl, B8.out⟩
  · have HL := Lib.hid hl
    clear h HR
    go_enter Try.func3, Try.ntmps3
    go_wp2_with fail
    refine (few_one _ a z.length cap false (decide_eq_false hl) _ (by simp [go_sem])).mono ?_
    rintro e V1 ⟨rfl, rfl⟩
    go_wp2_with fail
    refine (works_any _).mono ?_
    rintro e V2 ⟨rfl, b⟩
    have B1 := Lib.hid (below_next B0.out b)
    clear b
    go_wp2_with fail
    go_ret
    exact ⟨rfl, B1.out⟩

set_option maxRecDepth 100000 in
theorem lifted (os : Os) (started : os.Started) (H : Type) (enc : TypeId × Value → H) :
    ReturnsInHanded {} Try.checked os 3 .any (Rows.blackoutNormalsSpec.pre6 enc Try.prog Try.f3 Rows.blackoutNormalsRow.domain false) (Rows.blackoutNormalsSpec.post enc Try.prog Try.f3 false true false false) := by
  refine returnsInHanded_of_change (C := Try.checked) own started (by kernel_rfl) Try.func3
    (ChangeSpec.witness6 (enc := enc) (C := Try.checked) false ⟨#[], #[.slice none 0 0], []⟩ 8 (by kernel_rfl) (by kernel_rfl) (by kernel_rfl) (by kernel_rfl)) ?_
  intro W base args ds gs before hval0 hW hcnd _
  have hval : ∀ (j : Nat) t v, Try.f3.params[j]? = some t → args[j]? = some v → Value.okWide Try.prog W .any base t v := hval0
  have hW' := hW
  obtain ⟨p, q, hA0, hV, rfl, hfz, hnd⟩ := hW
  have hA : DataW.TrodAll enc Try.prog W 0 (fun _ => true) true Try.f3.params.toList args.toList ds p := hA0
  rw [Try.params3] at hA hval
  obtain ⟨v0, vs0, d0, ds0, p0, q0, hargs, rfl, rfl, h0, r0⟩ := trodAll_cons hA
  obtain ⟨rfl, rfl, rfl⟩ := trodAll_nil r0
  obtain rfl : args = #[v0] := by cases args; simp_all
  obtain ⟨rfl, rfl⟩ := trodVars_none hV
  obtain ⟨a0, len0, cap0, rfl⟩ := okWide_slice Try.underlying22 (hval 0 22 v0 rfl rfl)
  have k0 := h0
  have lt0 : ∀ x ∈ p0, x.block < W.heap.size := by obtain ⟨m, hm⟩ := k0; exact DataW.trod_lt m _ _ _ hm
  obtain ⟨z0, e0, w0⟩ : ∃ l, l.length = len0 ∧ InS W (.slice a0 len0 cap0) l := by obtain ⟨fuel, hf⟩ := h0; exact open_spans (by simpa [Value.cells] using hf)
  clear hA0 hval0
  refine (walk a0 len0 cap0 z0 W e0 w0).mono fun e W' ⟨he, bel⟩ => ?_
  subst he
  exact ⟨_, rfl, _, _, _, [], _, [], hW', trodAll_mk1 (shut_bool Try.underlying4 _), (trodAll_cons_mk (Below.trod laidOut (by kernel_rfl) (of_decide_eq_true (by kernel_rfl)) k0 bel lt0) trodAll_mk0), rfl, bel.frame _, fun h => by cases h⟩

theorem proved : Rows.BlackoutNormalsSaid :=
  OpenClaim.holds_of_wide 3 Try.f3 rfl rfl rfl rfl rfl rfl rfl ⟨rfl, rfl, rfl, rfl, rfl⟩ rfl rfl rfl rfl rfl (by kernel_rfl) Try.func3 (by kernel_rfl)
    (of_decide_eq_true (by kernel_rfl)) (by unfold Func.isWrapper; first | (rw [if_pos (by decide +kernel)]; kernel_rfl) | (rw [if_neg (by decide +kernel)]; exact ⟨rfl, rfl⟩))
    (fun os started H enc _ => lifted os started H enc)

end Go.Proofs.Ytodjipbkeddbcaa.blackoutNormals
