/- For all slices of int64 numbers, GapLeasts returns true: Gaps, Least and Even of package gap give what the document's give, and leave the slice as it was. No conditions. -/
import Derived.Test.YtihbpbdcpnpiaaaRows
import Derived.Test.YtihbpbdcpnpiaaaGapX
import Derived.OpenShut
import Derived.ChangeOld
namespace Go.Proofs.Ytihbpbdcpnpiaaa.gapLeasts
open Go.ChangeShapes Go.WideShapes Go.ChangeAt Go.RowKit

set_option maxRecDepth 100000 in
set_option maxHeartbeats 4000000 in
theorem walk (a : Option Addr) (len cap : Nat) (zs : List Int) (w : World) (hr : IsRow .i64 w a len cap zs) :
    Calls Try.prog 3 #[.slice a len cap] w fun e w' => e = .returned (.bool true) ∧ Below w.heap.size w w' := by
  have B0 : Hid (Below w.heap.size w (w.alloc (.cells #[.slice a len cap] 22))) := Lib.hid (below_new (Below.refl _ w) _)
  by_cases hl : len ≤ 700
  · have FW : decide (len ≤ 700) = true := decide_eq_true hl
    have R0 := Lib.hid ((hr.rowT (by omega)).alloc (.cells #[.slice a len cap] 22))
    have LL := Lib.hid (show (zs.take len).length = len by have := hr.len; simp; omega)
    clear hr
    obtain ⟨l, hle⟩ : ∃ l, zs.take len = l := ⟨_, rfl⟩
    rw [hle] at R0 LL
    clear hle
    obtain ⟨r, hr⟩ : ∃ r, Gp.errL [l] = r := ⟨_, rfl⟩
    obtain ⟨n1, b1, h1⟩ : ∃ n b, leastO l = (n, b) := ⟨_, _, rfl⟩
    obtain ⟨n2, b2, h2⟩ : ∃ n b, evenO l = (n, b) := ⟨_, _, rfl⟩
    have GA := Lib.hid (fun v W h => gaps_any v l W h)
    have RG := Lib.hid (fun v W h => rgaps_any v l W h)
    have LE := Lib.hid (fun v W h => least_any v l n1 b1 h1 W h)
    have RL := Lib.hid (fun v W h => rleast_any v l n1 b1 h1 W h)
    have EV := Lib.hid (fun v W h => even_any v l n2 b2 h2 W h)
    have RE := Lib.hid (fun v W h => reven_any v l n2 b2 h2 W h)
    have GL := Lib.hid (gapsO_len l)
    rw [hr] at GA RG LE RL EV RE
    clear hr h1 h2
    go_enter Try.func3, Try.ntmps3
    go_wp2_with fail
    refine ((few_one _ a len cap true FW _ (by simp [go_sem]))).mono ?_
    rintro e V1 ⟨rfl, rfl⟩
    go_wp2_with fail
    refine (clone_any _ _ _ R0.out).mono ?_
    rintro e V2 ⟨u1, rfl, o1⟩
    have B2 := Lib.hid (below_next B0.out o1.below)
    have R2 := Lib.hid (R0.out.below o1.below)
    have C2 := Lib.hid (o1.rowT (by have := LL.out; omega))
    clear o1
    clear R0 B0
    go_wp2_with fail
    refine (GA.out _ _ C2.out).mono ?_
    rintro e V3 ⟨u2, rfl, o2⟩
    have B3 := Lib.hid (below_next B2.out o2.below)
    have R3 := Lib.hid (R2.out.below o2.below)
    have C3 := Lib.hid (C2.out.below o2.below)
    have G3 := Lib.hid (o2.rowT (by have := GL.out; have := LL.out; omega))
    clear o2
    clear R2 C2 B2
    go_wp2_with fail
    refine (RG.out _ _ R3.out).mono ?_
    rintro e V4 ⟨u3, rfl, o3⟩
    have B4 := Lib.hid (below_next B3.out o3.below)
    have R4 := Lib.hid (R3.out.below o3.below)
    have C4 := Lib.hid (C3.out.below o3.below)
    have G4 := Lib.hid (G3.out.below o3.below)
    have H4 := Lib.hid (o3.rowT (by have := GL.out; have := LL.out; omega))
    clear o3
    clear R3 C3 G3 B3
    go_wp2_with fail
    refine (LE.out _ _ C4.out).mono ?_
    rintro e V5 ⟨rfl, b⟩
    have B5 := Lib.hid (below_next B4.out b)
    have R5 := Lib.hid (R4.out.below b)
    have C5 := Lib.hid (C4.out.below b)
    have G5 := Lib.hid (G4.out.below b)
    have H5 := Lib.hid (H4.out.below b)
    clear b
    clear R4 C4 G4 H4 B4
    go_wp2_with fail
    refine (RL.out _ _ R5.out).mono ?_
    rintro e V6 ⟨rfl, b⟩
    have B6 := Lib.hid (below_next B5.out b)
    have R6 := Lib.hid (R5.out.below b)
    have C6 := Lib.hid (C5.out.below b)
    have G6 := Lib.hid (G5.out.below b)
    have H6 := Lib.hid (H5.out.below b)
    clear b
    clear R5 C5 G5 H5 B5
    go_wp2_with fail
    refine (EV.out _ _ C6.out).mono ?_
    rintro e V7 ⟨rfl, b⟩
    have B7 := Lib.hid (below_next B6.out b)
    have R7 := Lib.hid (R6.out.below b)
    have C7 := Lib.hid (C6.out.below b)
    have G7 := Lib.hid (G6.out.below b)
    have H7 := Lib.hid (H6.out.below b)
    clear b
    clear R6 C6 G6 H6 B6
    go_wp2_with fail
    refine (RE.out _ _ R7.out).mono ?_
    rintro e V8 ⟨rfl, b⟩
    have B8 := Lib.hid (below_next B7.out b)
    have R8 := Lib.hid (R7.out.below b)
    have C8 := Lib.hid (C7.out.below b)
    have G8 := Lib.hid (G7.out.below b)
    have H8 := Lib.hid (H7.out.below b)
    clear b
    clear R7 C7 G7 H7 B7
    go_wp2_with fail
    refine (equal_same _ _ _ _ G8.out H8.out).mono ?_
    rintro e V9 ⟨rfl, b⟩
    have B9 := Lib.hid (below_next B8.out b)
    have R9 := Lib.hid (R8.out.below b)
    have C9 := Lib.hid (C8.out.below b)
    have G9 := Lib.hid (G8.out.below b)
    have H9 := Lib.hid (H8.out.below b)
    clear b
    clear R8 C8 G8 H8 B8
    go_wp2_with fail
    refine (equal_same _ _ _ _ C9.out R9.out).mono ?_
    rintro e V10 ⟨rfl, b⟩
    have B10 := Lib.hid (below_next B9.out b)
    have R10 := Lib.hid (R9.out.below b)
    have C10 := Lib.hid (C9.out.below b)
    have G10 := Lib.hid (G9.out.below b)
    have H10 := Lib.hid (H9.out.below b)
    clear b
    clear R9 C9 G9 H9 B9
    go_wp2_with fail
    refine (works_any _).mono ?_
    rintro e V11 ⟨rfl, b⟩
    have B11 := Lib.hid (below_next B10.out b)
    have R11 := Lib.hid (R10.out.below b)
    have C11 := Lib.hid (C10.out.below b)
    have G11 := Lib.hid (G10.out.below b)
    have H11 := Lib.hid (H10.out.below b)
    clear b
    clear R10 C10 G10 H10 B10
    go_wp2_with fail
    go_ret
    exact ⟨rfl, B11.out⟩
  · have FW : decide (len ≤ 700) = false := decide_eq_false hl
    clear hr hl
    go_enter Try.func3, Try.ntmps3
    go_wp2_with fail
    refine ((few_one _ a len cap false FW _ (by simp [go_sem]))).mono ?_
    rintro e V1 ⟨rfl, rfl⟩
    go_wp2_with fail
    refine (works_any _).mono ?_
    rintro e V2 ⟨rfl, b⟩
    have B2 := Lib.hid (below_next B0.out b)
    clear b
    clear B0
    go_wp2_with fail
    go_ret
    exact ⟨rfl, B2.out⟩

theorem own : ownKnob Try.prog.godebug = none := by kernel_rfl
theorem laidOut : laidOutB Try.prog = true := by kernel_rfl

set_option maxRecDepth 100000 in
theorem lifted (os : Os) (started : os.Started) (H : Type) (enc : TypeId × Value → H) :
    ReturnsInHanded {} Try.checked os 3 .any (Rows.gapLeastsSpec.pre6 enc Try.prog Try.f3 Rows.gapLeastsRow.domain false) (Rows.gapLeastsSpec.post enc Try.prog Try.f3 false true false false) := by
  refine returnsInHanded_of_change (C := Try.checked) own started (by kernel_rfl) Try.func3
    (ChangeSpec.witness6 (enc := enc) (C := Try.checked) false ⟨#[], #[.slice none 0 0], []⟩ 8 (by kernel_rfl) (by kernel_rfl) (by kernel_rfl) (by kernel_rfl)) ?_
  intro W base args ds gs before hval0 hW hcnd _
  have hval : ∀ (j : Nat) t v, Try.f3.params[j]? = some t → args[j]? = some v → Value.okWide Try.prog W .any base t v := hval0
  have hW' := hW
  obtain ⟨p, q, hA0, hV, rfl, hfz, hnd⟩ := hW
  have hA : DataW.TrodAll enc Try.prog W 0 (fun _ => true) true Try.f3.params.toList args.toList ds p := hA0
  rw [Try.params3] at hA hval
  obtain ⟨v0, vs0, d0, ds0, p0, q0, hargs, rfl, rfl, h0, r0⟩ := trodAll_cons hA
  obtain ⟨rfl, rfl, rfl⟩ := trodAll_nil r0
  obtain rfl : args = #[v0] := by cases args; simp_all
  obtain ⟨rfl, rfl⟩ := trodVars_none hV
  obtain ⟨a0, len0, cap0, rfl⟩ := okWide_slice Try.underlying22 (hval 0 22 v0 rfl rfl)
  have k0 := h0
  have lt0 : ∀ x ∈ p0, x.block < W.heap.size := by obtain ⟨m, hm⟩ := k0; exact DataW.trod_lt m _ _ _ hm
  obtain ⟨z0, w0⟩ : ∃ zs, IsRow .i64 W a0 len0 cap0 zs := by
    obtain ⟨fuel, hf⟩ := h0
    rcases open_ints Try.underlying22 Try.underlying2 (by kernel_rfl) hf with ⟨hcs, _⟩ | ⟨x, l, c, zs, hcs, _, hl, hm, hz, _, hcell, hwz⟩
    · simp [Value.cells] at hcs
      obtain ⟨rfl, rfl, rfl⟩ := hcs
      exact ⟨[], .inl ⟨rfl, rfl, rfl, rfl⟩⟩
    · simp [Value.cells] at hcs
      obtain ⟨rfl, rfl, rfl⟩ := hcs
      exact ⟨zs, .inr ⟨_, rfl, hl, hm, by simpa using hz, hcell, hwz⟩⟩
  clear hA0 hval0
  refine (walk a0 len0 cap0 z0 W w0).mono fun e W' ⟨he, bel⟩ => ?_
  subst he
  exact ⟨_, rfl, _, _, _, [], _, [], hW', trodAll_mk1 (shut_bool Try.underlying4 _), (trodAll_cons_mk (Below.trod laidOut (by kernel_rfl) (of_decide_eq_true (by kernel_rfl)) k0 bel lt0) trodAll_mk0), rfl, bel.frame _, fun h => by cases h⟩

theorem proved : Rows.GapLeastsSaid :=
  OpenClaim.holds_of_wide 3 Try.f3 rfl rfl rfl rfl rfl rfl rfl ⟨rfl, rfl, rfl, rfl, rfl⟩ rfl rfl rfl rfl rfl (by kernel_rfl) Try.func3 (by kernel_rfl)
    (of_decide_eq_true (by kernel_rfl)) (by unfold Func.isWrapper; first | (rw [if_pos (by decide +kernel)]; kernel_rfl) | (rw [if_neg (by decide +kernel)]; exact ⟨rfl, rfl⟩))
    (fun os started H enc _ => lifted os started H enc)

end Go.Proofs.Ytihbpbdcpnpiaaa.gapLeasts
