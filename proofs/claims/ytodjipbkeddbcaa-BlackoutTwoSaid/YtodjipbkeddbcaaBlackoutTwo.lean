/- For all pairs of slices of spans, BlackoutTwo returns true: Union, Meet and Without of package blackout give what the document's give, and leave the slices as they were. No conditions. -/
import Derived.Test.YtodjipbkeddbcaaBlkArg
namespace Go.Proofs.Ytodjipbkeddbcaa.blackoutTwo
open Go.ChangeShapes Go.WideShapes Go.ChangeAt Go.RowKit

set_option maxRecDepth 100000 in
set_option maxHeartbeats 4000000 in
theorem walk (a : Option Addr) (len cap : Nat) (z : List (Int × Int)) (a' : Option Addr) (len' cap' : Nat) (z' : List (Int × Int)) (w : World) (e : z.length = len) (h : InS w (.slice a len cap) z) (e' : z'.length = len') (h' : InS w (.slice a' len' cap') z') :
    Calls Try.prog 5 #[.slice a len cap, .slice a' len' cap'] w fun e w' => e = .returned (.bool true) ∧ Below w.heap.size w w' := by
  subst e e'
  have HR := Lib.hid (And.intro h.2.2 h'.2.2)
  have B0 := Lib.hid (below_new (Below.refl _ w) (.cells #[.slice a z.length cap, .slice a' z'.length cap'] 22) (Nat.le_refl _))
  by_cases hl : z.length ≤ 100 ∧ z'.length ≤ 100
  · have R0 := Lib.hid ((HR.out.1 (by omega)).alloc (.cells #[.slice a z.length cap, .slice a' z'.length cap'] 22))
    have S0 := Lib.hid ((HR.out.2 (by omega)).alloc (.cells #[.slice a z.length cap, .slice a' z'.length cap'] 22))
    obtain ⟨u, r, hu⟩ := Bk.resR_ex z z' 1
    obtain ⟨m, r2, hm⟩ := Bk.resR_ex z z' 2
    obtain ⟨x, r3, hx⟩ := Bk.resR_ex z z' 3
    have HU := Lib.hid hu
    have HM := Lib.hid hm
    have HX := Lib.hid hx
    have UL := hu.len
    have ML := hm.len
    have XL := hx.len
    have L1 := hl.1
    have L2 := hl.2
    clear h h' HR hu hm hx
    go_enter Try.func5, Try.ntmps5
    go_wp2_with fail
    refine (few_two _ a a' z.length cap z'.length cap' true (decide_eq_true hl) _ (by simp [go_sem]) (by simp [go_sem])).mono ?_
    rintro e V1 ⟨rfl, rfl⟩
    go_wp2_with fail
    refine (clone_any _ z _ R0.out).mono ?_
    rintro e V2 ⟨c, rfl, h_c⟩
    have B2 := Lib.hid (below_next B0.out h_c.below)
    have R2 := Lib.hid (R0.out.below h_c.below)
    have S2 := Lib.hid (S0.out.below h_c.below)
    have C2 := Lib.hid (h_c.rowS (by omega))
    obtain ⟨a_c, c_c, rfl⟩ := h_c.len
    clear h_c
    clear R0 S0 B0
    go_wp2_with fail
    refine (clone_any _ z' _ S2.out).mono ?_
    rintro e V3 ⟨d, rfl, h_d⟩
    have B3 := Lib.hid (below_next B2.out h_d.below)
    have R3 := Lib.hid (R2.out.below h_d.below)
    have S3 := Lib.hid (S2.out.below h_d.below)
    have C3 := Lib.hid (C2.out.below h_d.below)
    have D3 := Lib.hid (h_d.rowS (by omega))
    obtain ⟨a_d, c_d, rfl⟩ := h_d.len
    clear h_d
    clear R2 S2 C2 B2
    go_wp2_with fail
    refine (union_any _ _ z z' u r HU.out _ R3.out S3.out).mono ?_
    rintro e V4 ⟨u0, rfl, h_u0⟩
    have B4 := Lib.hid (below_next B3.out h_u0.below)
    have R4 := Lib.hid (R3.out.below h_u0.below)
    have S4 := Lib.hid (S3.out.below h_u0.below)
    have C4 := Lib.hid (C3.out.below h_u0.below)
    have D4 := Lib.hid (D3.out.below h_u0.below)
    have UA4 := Lib.hid (h_u0.rowS (by omega))
    obtain ⟨a_u0, c_u0, rfl⟩ := h_u0.len
    clear h_u0
    clear R3 S3 C3 D3 B3
    go_wp2_with fail
    refine (runion_any _ _ z z' u r HU.out _ C4.out D4.out).mono ?_
    rintro e V5 ⟨u1, rfl, h_u1⟩
    have B5 := Lib.hid (below_next B4.out h_u1.below)
    have R5 := Lib.hid (R4.out.below h_u1.below)
    have S5 := Lib.hid (S4.out.below h_u1.below)
    have C5 := Lib.hid (C4.out.below h_u1.below)
    have D5 := Lib.hid (D4.out.below h_u1.below)
    have UA5 := Lib.hid (UA4.out.below h_u1.below)
    have UB5 := Lib.hid (h_u1.rowS (by omega))
    obtain ⟨a_u1, c_u1, rfl⟩ := h_u1.len
    clear h_u1
    clear R4 S4 C4 D4 UA4 B4
    go_wp2_with fail
    refine (meet_any _ _ z z' m r2 HM.out _ R5.out S5.out).mono ?_
    rintro e V6 ⟨m0, rfl, h_m0⟩
    have B6 := Lib.hid (below_next B5.out h_m0.below)
    have R6 := Lib.hid (R5.out.below h_m0.below)
    have S6 := Lib.hid (S5.out.below h_m0.below)
    have C6 := Lib.hid (C5.out.below h_m0.below)
    have D6 := Lib.hid (D5.out.below h_m0.below)
    have UA6 := Lib.hid (UA5.out.below h_m0.below)
    have UB6 := Lib.hid (UB5.out.below h_m0.below)
    have MA6 := Lib.hid (h_m0.rowS (by omega))
    obtain ⟨a_m0, c_m0, rfl⟩ := h_m0.len
    clear h_m0
    clear R5 S5 C5 D5 UA5 UB5 B5
    go_wp2_with fail
    refine (rmeet_any _ _ z z' m r2 HM.out _ C6.out D6.out).mono ?_
    rintro e V7 ⟨m1, rfl, h_m1⟩
    have B7 := Lib.hid (below_next B6.out h_m1.below)
    have R7 := Lib.hid (R6.out.below h_m1.below)
    have S7 := Lib.hid (S6.out.below h_m1.below)
    have C7 := Lib.hid (C6.out.below h_m1.below)
    have D7 := Lib.hid (D6.out.below h_m1.below)
    have UA7 := Lib.hid (UA6.out.below h_m1.below)
    have UB7 := Lib.hid (UB6.out.below h_m1.below)
    have MA7 := Lib.hid (MA6.out.below h_m1.below)
    have MB7 := Lib.hid (h_m1.rowS (by omega))
    obtain ⟨a_m1, c_m1, rfl⟩ := h_m1.len
    clear h_m1
    clear R6 S6 C6 D6 UA6 UB6 MA6 B6
    go_wp2_with fail
    refine (without_any _ _ z z' x r3 HX.out _ R7.out S7.out).mono ?_
    rintro e V8 ⟨x0, rfl, h_x0⟩
    have B8 := Lib.hid (below_next B7.out h_x0.below)
    have R8 := Lib.hid (R7.out.below h_x0.below)
    have S8 := Lib.hid (S7.out.below h_x0.below)
    have C8 := Lib.hid (C7.out.below h_x0.below)
    have D8 := Lib.hid (D7.out.below h_x0.below)
    have UA8 := Lib.hid (UA7.out.below h_x0.below)
    have UB8 := Lib.hid (UB7.out.below h_x0.below)
    have MA8 := Lib.hid (MA7.out.below h_x0.below)
    have MB8 := Lib.hid (MB7.out.below h_x0.below)
    have XA8 := Lib.hid (h_x0.rowS (by omega))
    obtain ⟨a_x0, c_x0, rfl⟩ := h_x0.len
    clear h_x0
    clear R7 S7 C7 D7 UA7 UB7 MA7 MB7 B7
    go_wp2_with fail
    refine (rwithout_any _ _ z z' x r3 HX.out _ C8.out D8.out).mono ?_
    rintro e V9 ⟨x1, rfl, h_x1⟩
    have B9 := Lib.hid (below_next B8.out h_x1.below)
    have R9 := Lib.hid (R8.out.below h_x1.below)
    have S9 := Lib.hid (S8.out.below h_x1.below)
    have C9 := Lib.hid (C8.out.below h_x1.below)
    have D9 := Lib.hid (D8.out.below h_x1.below)
    have UA9 := Lib.hid (UA8.out.below h_x1.below)
    have UB9 := Lib.hid (UB8.out.below h_x1.below)
    have MA9 := Lib.hid (MA8.out.below h_x1.below)
    have MB9 := Lib.hid (MB8.out.below h_x1.below)
    have XA9 := Lib.hid (XA8.out.below h_x1.below)
    have XB9 := Lib.hid (h_x1.rowS (by omega))
    obtain ⟨a_x1, c_x1, rfl⟩ := h_x1.len
    clear h_x1
    clear R8 S8 C8 D8 UA8 UB8 MA8 MB8 XA8 B8
    go_wp2_with fail
    refine (equal_same _ _ u _ UA9.out UB9.out).mono ?_
    rintro e V10 ⟨rfl, b⟩
    have B10 := Lib.hid (below_next B9.out b)
    have R10 := Lib.hid (R9.out.below b)
    have S10 := Lib.hid (S9.out.below b)
    have C10 := Lib.hid (C9.out.below b)
    have D10 := Lib.hid (D9.out.below b)
    have UA10 := Lib.hid (UA9.out.below b)
    have UB10 := Lib.hid (UB9.out.below b)
    have MA10 := Lib.hid (MA9.out.below b)
    have MB10 := Lib.hid (MB9.out.below b)
    have XA10 := Lib.hid (XA9.out.below b)
    have XB10 := Lib.hid (XB9.out.below b)
    clear b
    clear R9 S9 C9 D9 UA9 UB9 MA9 MB9 XA9 XB9 B9
    go_wp2_with fail
    refine (equal_same _ _ m _ MA10.out MB10.out).mono ?_
    rintro e V11 ⟨rfl, b⟩
    have B11 := Lib.hid (below_next B10.out b)
    have R11 := Lib.hid (R10.out.below b)
    have S11 := Lib.hid (S10.out.below b)
    have C11 := Lib.hid (C10.out.below b)
    have D11 := Lib.hid (D10.out.below b)
    have UA11 := Lib.hid (UA10.out.below b)
    have UB11 := Lib.hid (UB10.out.below b)
    have MA11 := Lib.hid (MA10.out.below b)
    have MB11 := Lib.hid (MB10.out.below b)
    have XA11 := Lib.hid (XA10.out.below b)
    have XB11 := Lib.hid (XB10.out.below b)
    clear b
    clear R10 S10 C10 D10 UA10 UB10 MA10 MB10 XA10 XB10 B10
    go_wp2_with fail
    refine (equal_same _ _ x _ XA11.out XB11.out).mono ?_
    rintro e V12 ⟨rfl, b⟩
    have B12 := Lib.hid (below_next B11.out b)
    have R12 := Lib.hid (R11.out.below b)
    have S12 := Lib.hid (S11.out.below b)
    have C12 := Lib.hid (C11.out.below b)
    have D12 := Lib.hid (D11.out.below b)
    have UA12 := Lib.hid (UA11.out.below b)
    have UB12 := Lib.hid (UB11.out.below b)
    have MA12 := Lib.hid (MA11.out.below b)
    have MB12 := Lib.hid (MB11.out.below b)
    have XA12 := Lib.hid (XA11.out.below b)
    have XB12 := Lib.hid (XB11.out.below b)
    clear b
    clear R11 S11 C11 D11 UA11 UB11 MA11 MB11 XA11 XB11 B11
    go_wp2_with fail
    refine (equal_same _ _ z _ R12.out C12.out).mono ?_
    rintro e V13 ⟨rfl, b⟩
    have B13 := Lib.hid (below_next B12.out b)
    have R13 := Lib.hid (R12.out.below b)
    have S13 := Lib.hid (S12.out.below b)
    have C13 := Lib.hid (C12.out.below b)
    have D13 := Lib.hid (D12.out.below b)
    have UA13 := Lib.hid (UA12.out.below b)
    have UB13 := Lib.hid (UB12.out.below b)
    have MA13 := Lib.hid (MA12.out.below b)
    have MB13 := Lib.hid (MB12.out.below b)
    have XA13 := Lib.hid (XA12.out.below b)
    have XB13 := Lib.hid (XB12.out.below b)
    clear b
    clear R12 S12 C12 D12 UA12 UB12 MA12 MB12 XA12 XB12 B12
    go_wp2_with fail
    refine (equal_same _ _ z' _ S13.out D13.out).mono ?_
    rintro e V14 ⟨rfl, b⟩
    have B14 := Lib.hid (below_next B13.out b)
    have R14 := Lib.hid (R13.out.below b)
    have S14 := Lib.hid (S13.out.below b)
    have C14 := Lib.hid (C13.out.below b)
    have D14 := Lib.hid (D13.out.below b)
    have UA14 := Lib.hid (UA13.out.below b)
    have UB14 := Lib.hid (UB13.out.below b)
    have MA14 := Lib.hid (MA13.out.below b)
    have MB14 := Lib.hid (MB13.out.below b)
    have XA14 := Lib.hid (XA13.out.below b)
    have XB14 := Lib.hid (XB13.out.below b)
    clear b
    clear R13 S13 C13 D13 UA13 UB13 MA13 MB13 XA13 XB13 B13
    go_wp2_with fail
    refine (works_any _).mono ?_
    rintro e V15 ⟨rfl, b⟩
    have B15 := Lib.hid (below_next B14.out b)
    have R15 := Lib.hid (R14.out.below b)
    have S15 := Lib.hid (S14.out.below b)
    have C15 := Lib.hid (C14.out.below b)
    have D15 := Lib.hid (D14.out.below b)
    have UA15 := Lib.hid (UA14.out.below b)
    have UB15 := Lib.hid (UB14.out.below b)
    have MA15 := Lib.hid (MA14.out.below b)
    have MB15 := Lib.hid (MB14.out.below b)
    have XA15 := Lib.hid (XA14.out.below b)
    have XB15 := Lib.hid (XB14.out.below b)
    clear b
    clear R14 S14 C14 D14 UA14 UB14 MA14 MB14 XA14 XB14 B14
    go_wp2_with fail
    go_ret
    exact ⟨rfl, B15.out⟩
  · have HL := Lib.hid hl
    clear h h' HR
    go_enter Try.func5, Try.ntmps5
    go_wp2_with fail
    refine (few_two _ a a' z.length cap z'.length cap' false (decide_eq_false hl) _ (by simp [go_sem]) (by simp [go_sem])).mono ?_
    rintro e V1 ⟨rfl, rfl⟩
    go_wp2_with fail
    refine (works_any _).mono ?_
    rintro e V2 ⟨rfl, b⟩
    have B1 := Lib.hid (below_next B0.out b)
    clear b
    go_wp2_with fail
    go_ret
    exact ⟨rfl, B1.out⟩

set_option maxRecDepth 100000 in
theorem lifted (os : Os) (started : os.Started) (H : Type) (enc : TypeId × Value → H) :
    ReturnsInHanded {} Try.checked os 5 .any (Rows.blackoutTwoSpec.pre6 enc Try.prog Try.f5 Rows.blackoutTwoRow.domain false) (Rows.blackoutTwoSpec.post enc Try.prog Try.f5 false true false false) := by
  refine returnsInHanded_of_change (C := Try.checked) own started (by kernel_rfl) Try.func5
    (ChangeSpec.witness6 (enc := enc) (C := Try.checked) false ⟨#[], #[.slice none 0 0, .slice none 0 0], []⟩ 8 (by kernel_rfl) (by kernel_rfl) (by kernel_rfl) (by kernel_rfl)) ?_
  intro W base args ds gs before hval0 hW hcnd _
  have hval : ∀ (j : Nat) t v, Try.f5.params[j]? = some t → args[j]? = some v → Value.okWide Try.prog W .any base t v := hval0
  have hW' := hW
  obtain ⟨p, q, hA0, hV, rfl, hfz, hnd⟩ := hW
  have hA : DataW.TrodAll enc Try.prog W 0 (fun _ => true) true Try.f5.params.toList args.toList ds p := hA0
  rw [Try.params5] at hA hval
  obtain ⟨v0, vs0, d0, ds0, p0, q0, hargs, rfl, rfl, h0, r0⟩ := trodAll_cons hA
  obtain ⟨v1, vs1, d1, ds1, p1, q1, rfl, rfl, rfl, h1, r1⟩ := trodAll_cons r0
  obtain ⟨rfl, rfl, rfl⟩ := trodAll_nil r1
  obtain rfl : args = #[v0, v1] := by cases args; simp_all
  obtain ⟨rfl, rfl⟩ := trodVars_none hV
  obtain ⟨a0, len0, cap0, rfl⟩ := okWide_slice Try.underlying22 (hval 0 22 v0 rfl rfl)
  have k0 := h0
  have lt0 : ∀ x ∈ p0, x.block < W.heap.size := by obtain ⟨m, hm⟩ := k0; exact DataW.trod_lt m _ _ _ hm
  obtain ⟨z0, e0, w0⟩ : ∃ l, l.length = len0 ∧ InS W (.slice a0 len0 cap0) l := by obtain ⟨fuel, hf⟩ := h0; exact open_spans (by simpa [Value.cells] using hf)
  obtain ⟨a1, len1, cap1, rfl⟩ := okWide_slice Try.underlying22 (hval 1 22 v1 rfl rfl)
  have k1 := h1
  have lt1 : ∀ x ∈ p1, x.block < W.heap.size := by obtain ⟨m, hm⟩ := k1; exact DataW.trod_lt m _ _ _ hm
  obtain ⟨z1, e1, w1⟩ : ∃ l, l.length = len1 ∧ InS W (.slice a1 len1 cap1) l := by obtain ⟨fuel, hf⟩ := h1; exact open_spans (by simpa [Value.cells] using hf)
  clear hA0 hval0
  refine (walk a0 len0 cap0 z0 a1 len1 cap1 z1 W e0 w0 e1 w1).mono fun e W' ⟨he, bel⟩ => ?_
  subst he
  exact ⟨_, rfl, _, _, _, [], _, [], hW', trodAll_mk1 (shut_bool Try.underlying4 _), (trodAll_cons_mk (Below.trod laidOut (by kernel_rfl) (of_decide_eq_true (by kernel_rfl)) k0 bel lt0) (trodAll_cons_mk (Below.trod laidOut (by kernel_rfl) (of_decide_eq_true (by kernel_rfl)) k1 bel lt1) trodAll_mk0)), rfl, bel.frame _, fun h => by cases h⟩

theorem proved : Rows.BlackoutTwoSaid :=
  OpenClaim.holds_of_wide 5 Try.f5 rfl rfl rfl rfl rfl rfl rfl ⟨rfl, rfl, rfl, rfl, rfl⟩ rfl rfl rfl rfl rfl (by kernel_rfl) Try.func5 (by kernel_rfl)
    (of_decide_eq_true (by kernel_rfl)) (by unfold Func.isWrapper; first | (rw [if_pos (by decide +kernel)]; kernel_rfl) | (rw [if_neg (by decide +kernel)]; exact ⟨rfl, rfl⟩))
    (fun os started H enc _ => lifted os started H enc)

end Go.Proofs.Ytodjipbkeddbcaa.blackoutTwo
