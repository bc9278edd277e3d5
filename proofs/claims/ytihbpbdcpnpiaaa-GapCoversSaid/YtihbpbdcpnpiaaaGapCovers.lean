/- For all slices of int64 numbers and all lengths, GapCovers returns true: Cover of package gap gives what the document's gives. No conditions. -/
import Derived.Test.YtihbpbdcpnpiaaaRows
import Derived.Test.YtihbpbdcpnpiaaaGapX
import Derived.OpenShut
import Derived.ChangeOld
namespace Go.Proofs.Ytihbpbdcpnpiaaa.gapCovers
open Go.ChangeShapes Go.WideShapes Go.ChangeAt Go.RowKit

set_option maxRecDepth 100000 in
set_option maxHeartbeats 4000000 in
theorem walk (a : Option Addr) (len cap : Nat) (zs : List Int) (wd : Int) (w : World) (hr : IsRow .i64 w a len cap zs) (_ : (Lit.int .i64 wd).wf = true) :
    Calls Try.prog 5 #[.slice a len cap, .int .i64 wd] w fun e w' => e = .returned (.bool true) ∧ Below w.heap.size w w' := by
  have B0 : Hid (Below w.heap.size w (w.alloc (.cells #[.slice a len cap] 22))) := Lib.hid (below_new (Below.refl _ w) _)
  by_cases hl : len ≤ 700
  · have FW : decide (len ≤ 700) = true := decide_eq_true hl
    have R0 := Lib.hid ((hr.rowT (by omega)).alloc (.cells #[.slice a len cap] 22))
    have LL := Lib.hid (show (zs.take len).length = len by have := hr.len; simp; omega)
    clear hr
    obtain ⟨l, hle⟩ : ∃ l, zs.take len = l := ⟨_, rfl⟩
    rw [hle] at R0 LL
    clear hle
    obtain ⟨r, hr⟩ : ∃ r, errW l wd = r := ⟨_, rfl⟩
    obtain ⟨n1, h1⟩ : ∃ n, coverO l wd = n := ⟨_, rfl⟩
    have MO := Lib.hid (fun v W h => cover_any v l wd n1 h1 W h)
    have RM := Lib.hid (fun v W h => rcover_any v l wd n1 h1 W h)
    rw [hr] at MO RM
    clear hr h1
    go_enter Try.func5, Try.ntmps5
    go_wp2_with fail
    refine ((few_one _ a len cap true FW _ (by simp [go_sem]))).mono ?_
    rintro e V1 ⟨rfl, rfl⟩
    go_wp2_with fail
    refine (MO.out _ _ R0.out).mono ?_
    rintro e V2 ⟨rfl, b⟩
    have B2 := Lib.hid (below_next B0.out b)
    have R2 := Lib.hid (R0.out.below b)
    clear b
    clear R0 B0
    go_wp2_with fail
    refine (RM.out _ _ R2.out).mono ?_
    rintro e V3 ⟨rfl, b⟩
    have B3 := Lib.hid (below_next B2.out b)
    have R3 := Lib.hid (R2.out.below b)
    clear b
    clear R2 B2
    go_wp2_with fail
    refine (works_any _).mono ?_
    rintro e V4 ⟨rfl, b⟩
    have B4 := Lib.hid (below_next B3.out b)
    have R4 := Lib.hid (R3.out.below b)
    clear b
    clear R3 B3
    go_wp2_with fail
    go_ret
    exact ⟨rfl, B4.out⟩
  · have FW : decide (len ≤ 700) = false := decide_eq_false hl
    clear hr hl
    go_enter Try.func5, Try.ntmps5
    go_wp2_with fail
    refine ((few_one _ a len cap false FW _ (by simp [go_sem]))).mono ?_
    rintro e V1 ⟨rfl, rfl⟩
    go_wp2_with fail
    refine (works_any _).mono ?_
    rintro e V2 ⟨rfl, b⟩
    have B2 := Lib.hid (below_next B0.out b)
    clear b
    clear B0
    go_wp2_with fail
    go_ret
    exact ⟨rfl, B2.out⟩

theorem own : ownKnob Try.prog.godebug = none := by kernel_rfl
theorem laidOut : laidOutB Try.prog = true := by kernel_rfl

set_option maxRecDepth 100000 in
theorem lifted (os : Os) (started : os.Started) (H : Type) (enc : TypeId × Value → H) :
    ReturnsInHanded {} Try.checked os 5 .any (Rows.gapCoversSpec.pre6 enc Try.prog Try.f5 Rows.gapCoversRow.domain false) (Rows.gapCoversSpec.post enc Try.prog Try.f5 false true false false) := by
  refine returnsInHanded_of_change (C := Try.checked) own started (by kernel_rfl) Try.func5
    (ChangeSpec.witness6 (enc := enc) (C := Try.checked) false ⟨#[], #[.slice none 0 0, .int .i64 0], []⟩ 8 (by kernel_rfl) (by kernel_rfl) (by kernel_rfl) (by kernel_rfl)) ?_
  intro W base args ds gs before hval0 hW hcnd _
  have hval : ∀ (j : Nat) t v, Try.f5.params[j]? = some t → args[j]? = some v → Value.okWide Try.prog W .any base t v := hval0
  have hW' := hW
  obtain ⟨p, q, hA0, hV, rfl, hfz, hnd⟩ := hW
  have hA : DataW.TrodAll enc Try.prog W 0 (fun _ => true) true Try.f5.params.toList args.toList ds p := hA0
  rw [Try.params5] at hA hval
  obtain ⟨v0, vs0, d0, ds0, p0, q0, hargs, rfl, rfl, h0, r0⟩ := trodAll_cons hA
  obtain ⟨v1, vs1, d1, ds1, p1, q1, rfl, rfl, rfl, h1, r1⟩ := trodAll_cons r0
  obtain ⟨rfl, rfl, rfl⟩ := trodAll_nil r1
  obtain rfl : args = #[v0, v1] := by cases args; simp_all
  obtain ⟨rfl, rfl⟩ := trodVars_none hV
  obtain ⟨a0, len0, cap0, rfl⟩ := okWide_slice Try.underlying22 (hval 0 22 v0 rfl rfl)
  have k0 := h0
  have lt0 : ∀ x ∈ p0, x.block < W.heap.size := by obtain ⟨m, hm⟩ := k0; exact DataW.trod_lt m _ _ _ hm
  obtain ⟨z0, w0⟩ : ∃ zs, IsRow .i64 W a0 len0 cap0 zs := by
    obtain ⟨fuel, hf⟩ := h0
    rcases open_ints Try.underlying22 Try.underlying2 (by kernel_rfl) hf with ⟨hcs, _⟩ | ⟨x, l, c, zs, hcs, _, hl, hm, hz, _, hcell, hwz⟩
    · simp [Value.cells] at hcs
      obtain ⟨rfl, rfl, rfl⟩ := hcs
      exact ⟨[], .inl ⟨rfl, rfl, rfl, rfl⟩⟩
    · simp [Value.cells] at hcs
      obtain ⟨rfl, rfl, rfl⟩ := hcs
      exact ⟨zs, .inr ⟨_, rfl, hl, hm, by simpa using hz, hcell, hwz⟩⟩
  obtain ⟨a1, rfl, rfl, rfl, w1⟩ := open_int Try.underlying2 (hval 1 2 v1 rfl rfl) h1
  clear hA0 hval0
  refine (walk a0 len0 cap0 z0 a1 W w0 w1).mono fun e W' ⟨he, bel⟩ => ?_
  subst he
  exact ⟨_, rfl, _, _, _, [], _, [], hW', trodAll_mk1 (shut_bool Try.underlying4 _), (trodAll_cons_mk (Below.trod laidOut (by kernel_rfl) (of_decide_eq_true (by kernel_rfl)) k0 bel lt0) (trodAll_cons_mk (shut_int Try.underlying2 w1) trodAll_mk0)), rfl, bel.frame _, fun h => by cases h⟩

theorem proved : Rows.GapCoversSaid :=
  OpenClaim.holds_of_wide 5 Try.f5 rfl rfl rfl rfl rfl rfl rfl ⟨rfl, rfl, rfl, rfl, rfl⟩ rfl rfl rfl rfl rfl (by kernel_rfl) Try.func5 (by kernel_rfl)
    (of_decide_eq_true (by kernel_rfl)) (by unfold Func.isWrapper; first | (rw [if_pos (by decide +kernel)]; kernel_rfl) | (rw [if_neg (by decide +kernel)]; exact ⟨rfl, rfl⟩))
    (fun os started H enc _ => lifted os started H enc)

end Go.Proofs.Ytihbpbdcpnpiaaa.gapCovers
