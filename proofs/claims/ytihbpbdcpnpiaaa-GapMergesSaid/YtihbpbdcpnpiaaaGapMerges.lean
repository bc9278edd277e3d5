/- For all pairs of slices of int64 numbers, GapMerges returns true: Merge and Only of package gap give what the document's give, and leave the slices as they were. No conditions. -/
import Derived.Test.YtihbpbdcpnpiaaaRows
import Derived.Test.YtihbpbdcpnpiaaaGapX
import Derived.OpenShut
import Derived.ChangeOld
namespace Go.Proofs.Ytihbpbdcpnpiaaa.gapMerges
open Go.ChangeShapes Go.WideShapes Go.ChangeAt Go.RowKit

set_option maxRecDepth 100000 in
set_option maxHeartbeats 4000000 in
theorem walk (a : Option Addr) (len cap : Nat) (zs : List Int) (a' : Option Addr) (len' cap' : Nat) (zs' : List Int) (w : World) (hr : IsRow .i64 w a len cap zs) (hr' : IsRow .i64 w a' len' cap' zs') :
    Calls Try.prog 6 #[.slice a len cap, .slice a' len' cap'] w fun e w' => e = .returned (.bool true) ∧ Below w.heap.size w w' := by
  have B0 : Hid (Below w.heap.size w (w.alloc (.cells #[.slice a len cap, .slice a' len' cap'] 22))) := Lib.hid (below_new (Below.refl _ w) _)
  by_cases hl : len ≤ 700 ∧ len' ≤ 700
  · have FW : decide (len ≤ 700 ∧ len' ≤ 700) = true := decide_eq_true hl
    have R0 := Lib.hid ((hr.rowT (by omega)).alloc (.cells #[.slice a len cap, .slice a' len' cap'] 22))
    have S0 := Lib.hid ((hr'.rowT (by omega)).alloc (.cells #[.slice a len cap, .slice a' len' cap'] 22))
    have LL := Lib.hid (show (zs.take len).length = len ∧ (zs'.take len').length = len' by have := hr.len; have := hr'.len; constructor <;> simp <;> omega)
    have HL := Lib.hid hl
    clear hr hr' hl
    obtain ⟨l, hle⟩ : ∃ l, zs.take len = l := ⟨_, rfl⟩
    obtain ⟨m, hme⟩ : ∃ m, zs'.take len' = m := ⟨_, rfl⟩
    rw [hle] at R0 LL
    rw [hme] at S0 LL
    clear hle hme
    obtain ⟨r, hr⟩ : ∃ r, Gp.errL [l, m] = r := ⟨_, rfl⟩
    have ML := Lib.hid (show (mergeO l m).length ≤ 1000000 ∧ (onlyAO l m).length ≤ 1000000 ∧ (onlyBO l m).length ≤ 1000000 by
      have := mergeO_len l m; have := onlyAO_len l m; have := onlyBO_len l m; have := LL.out; have := HL.out; omega)
    have ME := Lib.hid (fun v u W h h' => merge_any v u l m W h h')
    have RM := Lib.hid (fun v u W h h' => rmerge_any v u l m W h h')
    have ON := Lib.hid (fun v u W h h' => only_any v u l m W h h')
    have RO := Lib.hid (fun v u W h h' => (ronly_any v u l m W h h').mono (fun e w' ⟨u, v, h1, h2⟩ => (⟨u, v, h1, h2.ownU, h2.ownV⟩ : ∃ u v, e = Ending.returned (.tuple #[u, v, .int .i64 (Gp.errL [l, m])]) ∧ OwnT W u (onlyAO l m) w' ∧ OwnT W v (onlyBO l m) w')))
    rw [rmergeO_is] at RM
    obtain ⟨x, hx⟩ : ∃ x, mergeO l m = x := ⟨_, rfl⟩
    obtain ⟨y, hy⟩ : ∃ y, onlyAO l m = y := ⟨_, rfl⟩
    obtain ⟨z, hz⟩ : ∃ z, onlyBO l m = z := ⟨_, rfl⟩
    rw [hx] at ME RM ML
    rw [hy, hz] at ON RO ML
    rw [hr] at ME RM ON RO
    clear hr hx hy hz
    go_enter Try.func6, Try.ntmps6
    go_wp2_with fail
    refine (few_two _ a a' len cap len' cap' true FW _ (by simp [go_sem]) (by simp [go_sem])).mono ?_
    rintro e V1 ⟨rfl, rfl⟩
    go_wp2_with fail
    refine (clone_any _ _ _ R0.out).mono ?_
    rintro e V2 ⟨u1, rfl, o1⟩
    have B2 := Lib.hid (below_next B0.out o1.below)
    have R2 := Lib.hid (R0.out.below o1.below)
    have S2 := Lib.hid (S0.out.below o1.below)
    have C2 := Lib.hid (o1.rowT (by have := LL.out; have := HL.out; omega))
    clear o1
    clear R0 S0 B0
    go_wp2_with fail
    refine (clone_any _ _ _ S2.out).mono ?_
    rintro e V3 ⟨u2, rfl, o2⟩
    have B3 := Lib.hid (below_next B2.out o2.below)
    have R3 := Lib.hid (R2.out.below o2.below)
    have S3 := Lib.hid (S2.out.below o2.below)
    have C3 := Lib.hid (C2.out.below o2.below)
    have D3 := Lib.hid (o2.rowT (by have := LL.out; have := HL.out; omega))
    clear o2
    clear R2 S2 C2 B2
    go_wp2_with fail
    refine (ME.out _ _ _ C3.out D3.out).mono ?_
    rintro e V4 ⟨u3, rfl, o3⟩
    have B4 := Lib.hid (below_next B3.out o3.below)
    have R4 := Lib.hid (R3.out.below o3.below)
    have S4 := Lib.hid (S3.out.below o3.below)
    have C4 := Lib.hid (C3.out.below o3.below)
    have D4 := Lib.hid (D3.out.below o3.below)
    have M4 := Lib.hid (o3.rowT ML.out.1)
    clear o3
    clear R3 S3 C3 D3 B3
    go_wp2_with fail
    refine (RM.out _ _ _ R4.out S4.out).mono ?_
    rintro e V5 ⟨u4, rfl, o4⟩
    have B5 := Lib.hid (below_next B4.out o4.below)
    have R5 := Lib.hid (R4.out.below o4.below)
    have S5 := Lib.hid (S4.out.below o4.below)
    have C5 := Lib.hid (C4.out.below o4.below)
    have D5 := Lib.hid (D4.out.below o4.below)
    have M5 := Lib.hid (M4.out.below o4.below)
    have N5 := Lib.hid (o4.rowT ML.out.1)
    clear o4
    clear R4 S4 C4 D4 M4 B4
    go_wp2_with fail
    refine (ON.out _ _ _ C5.out D5.out).mono ?_
    rintro e V6 ⟨u5, u6, rfl, o5, o6⟩
    have B6 := Lib.hid (below_next B5.out o5.below)
    have R6 := Lib.hid (R5.out.below o5.below)
    have S6 := Lib.hid (S5.out.below o5.below)
    have C6 := Lib.hid (C5.out.below o5.below)
    have D6 := Lib.hid (D5.out.below o5.below)
    have M6 := Lib.hid (M5.out.below o5.below)
    have N6 := Lib.hid (N5.out.below o5.below)
    have P6 := Lib.hid (o5.rowT ML.out.2.1)
    have Q6 := Lib.hid (o6.rowT ML.out.2.2)
    clear o5 o6
    clear R5 S5 C5 D5 M5 N5 B5
    go_wp2_with fail
    refine (RO.out _ _ _ R6.out S6.out).mono ?_
    rintro e V7 ⟨u7, u8, rfl, o7, o8⟩
    have B7 := Lib.hid (below_next B6.out o7.below)
    have R7 := Lib.hid (R6.out.below o7.below)
    have S7 := Lib.hid (S6.out.below o7.below)
    have C7 := Lib.hid (C6.out.below o7.below)
    have D7 := Lib.hid (D6.out.below o7.below)
    have M7 := Lib.hid (M6.out.below o7.below)
    have N7 := Lib.hid (N6.out.below o7.below)
    have P7 := Lib.hid (P6.out.below o7.below)
    have Q7 := Lib.hid (Q6.out.below o7.below)
    have T7 := Lib.hid (o7.rowT ML.out.2.1)
    have U7 := Lib.hid (o8.rowT ML.out.2.2)
    clear o7 o8
    clear R6 S6 C6 D6 M6 N6 P6 Q6 B6
    go_wp2_with fail
    refine (equal_same _ _ _ _ M7.out N7.out).mono ?_
    rintro e V8 ⟨rfl, b⟩
    have B8 := Lib.hid (below_next B7.out b)
    have R8 := Lib.hid (R7.out.below b)
    have S8 := Lib.hid (S7.out.below b)
    have C8 := Lib.hid (C7.out.below b)
    have D8 := Lib.hid (D7.out.below b)
    have M8 := Lib.hid (M7.out.below b)
    have N8 := Lib.hid (N7.out.below b)
    have P8 := Lib.hid (P7.out.below b)
    have Q8 := Lib.hid (Q7.out.below b)
    have T8 := Lib.hid (T7.out.below b)
    have U8 := Lib.hid (U7.out.below b)
    clear b
    clear R7 S7 C7 D7 M7 N7 P7 Q7 T7 U7 B7
    go_wp2_with fail
    refine (equal_same _ _ _ _ P8.out T8.out).mono ?_
    rintro e V9 ⟨rfl, b⟩
    have B9 := Lib.hid (below_next B8.out b)
    have R9 := Lib.hid (R8.out.below b)
    have S9 := Lib.hid (S8.out.below b)
    have C9 := Lib.hid (C8.out.below b)
    have D9 := Lib.hid (D8.out.below b)
    have M9 := Lib.hid (M8.out.below b)
    have N9 := Lib.hid (N8.out.below b)
    have P9 := Lib.hid (P8.out.below b)
    have Q9 := Lib.hid (Q8.out.below b)
    have T9 := Lib.hid (T8.out.below b)
    have U9 := Lib.hid (U8.out.below b)
    clear b
    clear R8 S8 C8 D8 M8 N8 P8 Q8 T8 U8 B8
    go_wp2_with fail
    refine (equal_same _ _ _ _ Q9.out U9.out).mono ?_
    rintro e V10 ⟨rfl, b⟩
    have B10 := Lib.hid (below_next B9.out b)
    have R10 := Lib.hid (R9.out.below b)
    have S10 := Lib.hid (S9.out.below b)
    have C10 := Lib.hid (C9.out.below b)
    have D10 := Lib.hid (D9.out.below b)
    have M10 := Lib.hid (M9.out.below b)
    have N10 := Lib.hid (N9.out.below b)
    have P10 := Lib.hid (P9.out.below b)
    have Q10 := Lib.hid (Q9.out.below b)
    have T10 := Lib.hid (T9.out.below b)
    have U10 := Lib.hid (U9.out.below b)
    clear b
    clear R9 S9 C9 D9 M9 N9 P9 Q9 T9 U9 B9
    go_wp2_with fail
    refine (equal_same _ _ _ _ R10.out C10.out).mono ?_
    rintro e V11 ⟨rfl, b⟩
    have B11 := Lib.hid (below_next B10.out b)
    have R11 := Lib.hid (R10.out.below b)
    have S11 := Lib.hid (S10.out.below b)
    have C11 := Lib.hid (C10.out.below b)
    have D11 := Lib.hid (D10.out.below b)
    have M11 := Lib.hid (M10.out.below b)
    have N11 := Lib.hid (N10.out.below b)
    have P11 := Lib.hid (P10.out.below b)
    have Q11 := Lib.hid (Q10.out.below b)
    have T11 := Lib.hid (T10.out.below b)
    have U11 := Lib.hid (U10.out.below b)
    clear b
    clear R10 S10 C10 D10 M10 N10 P10 Q10 T10 U10 B10
    go_wp2_with fail
    refine (equal_same _ _ _ _ S11.out D11.out).mono ?_
    rintro e V12 ⟨rfl, b⟩
    have B12 := Lib.hid (below_next B11.out b)
    have R12 := Lib.hid (R11.out.below b)
    have S12 := Lib.hid (S11.out.below b)
    have C12 := Lib.hid (C11.out.below b)
    have D12 := Lib.hid (D11.out.below b)
    have M12 := Lib.hid (M11.out.below b)
    have N12 := Lib.hid (N11.out.below b)
    have P12 := Lib.hid (P11.out.below b)
    have Q12 := Lib.hid (Q11.out.below b)
    have T12 := Lib.hid (T11.out.below b)
    have U12 := Lib.hid (U11.out.below b)
    clear b
    clear R11 S11 C11 D11 M11 N11 P11 Q11 T11 U11 B11
    go_wp2_with fail
    refine (works_any _).mono ?_
    rintro e V13 ⟨rfl, b⟩
    have B13 := Lib.hid (below_next B12.out b)
    have R13 := Lib.hid (R12.out.below b)
    have S13 := Lib.hid (S12.out.below b)
    have C13 := Lib.hid (C12.out.below b)
    have D13 := Lib.hid (D12.out.below b)
    have M13 := Lib.hid (M12.out.below b)
    have N13 := Lib.hid (N12.out.below b)
    have P13 := Lib.hid (P12.out.below b)
    have Q13 := Lib.hid (Q12.out.below b)
    have T13 := Lib.hid (T12.out.below b)
    have U13 := Lib.hid (U12.out.below b)
    clear b
    clear R12 S12 C12 D12 M12 N12 P12 Q12 T12 U12 B12
    go_wp2_with fail
    go_ret
    exact ⟨rfl, B13.out⟩
  · have FW : decide (len ≤ 700 ∧ len' ≤ 700) = false := decide_eq_false hl
    clear hr hr' hl
    go_enter Try.func6, Try.ntmps6
    go_wp2_with fail
    refine (few_two _ a a' len cap len' cap' false FW _ (by simp [go_sem]) (by simp [go_sem])).mono ?_
    rintro e V1 ⟨rfl, rfl⟩
    go_wp2_with fail
    refine (works_any _).mono ?_
    rintro e V2 ⟨rfl, b⟩
    have B2 := Lib.hid (below_next B0.out b)
    clear b
    clear B0
    go_wp2_with fail
    go_ret
    exact ⟨rfl, B2.out⟩

theorem own : ownKnob Try.prog.godebug = none := by kernel_rfl
theorem laidOut : laidOutB Try.prog = true := by kernel_rfl

set_option maxRecDepth 100000 in
theorem lifted (os : Os) (started : os.Started) (H : Type) (enc : TypeId × Value → H) :
    ReturnsInHanded {} Try.checked os 6 .any (Rows.gapMergesSpec.pre6 enc Try.prog Try.f6 Rows.gapMergesRow.domain false) (Rows.gapMergesSpec.post enc Try.prog Try.f6 false true false false) := by
  refine returnsInHanded_of_change (C := Try.checked) own started (by kernel_rfl) Try.func6
    (ChangeSpec.witness6 (enc := enc) (C := Try.checked) false ⟨#[], #[.slice none 0 0, .slice none 0 0], []⟩ 8 (by kernel_rfl) (by kernel_rfl) (by kernel_rfl) (by kernel_rfl)) ?_
  intro W base args ds gs before hval0 hW hcnd _
  have hval : ∀ (j : Nat) t v, Try.f6.params[j]? = some t → args[j]? = some v → Value.okWide Try.prog W .any base t v := hval0
  have hW' := hW
  obtain ⟨p, q, hA0, hV, rfl, hfz, hnd⟩ := hW
  have hA : DataW.TrodAll enc Try.prog W 0 (fun _ => true) true Try.f6.params.toList args.toList ds p := hA0
  rw [Try.params6] at hA hval
  obtain ⟨v0, vs0, d0, ds0, p0, q0, hargs, rfl, rfl, h0, r0⟩ := trodAll_cons hA
  obtain ⟨v1, vs1, d1, ds1, p1, q1, rfl, rfl, rfl, h1, r1⟩ := trodAll_cons r0
  obtain ⟨rfl, rfl, rfl⟩ := trodAll_nil r1
  obtain rfl : args = #[v0, v1] := by cases args; simp_all
  obtain ⟨rfl, rfl⟩ := trodVars_none hV
  obtain ⟨a0, len0, cap0, rfl⟩ := okWide_slice Try.underlying22 (hval 0 22 v0 rfl rfl)
  have k0 := h0
  have lt0 : ∀ x ∈ p0, x.block < W.heap.size := by obtain ⟨m, hm⟩ := k0; exact DataW.trod_lt m _ _ _ hm
  obtain ⟨z0, w0⟩ : ∃ zs, IsRow .i64 W a0 len0 cap0 zs := by
    obtain ⟨fuel, hf⟩ := h0
    rcases open_ints Try.underlying22 Try.underlying2 (by kernel_rfl) hf with ⟨hcs, _⟩ | ⟨x, l, c, zs, hcs, _, hl, hm, hz, _, hcell, hwz⟩
    · simp [Value.cells] at hcs
      obtain ⟨rfl, rfl, rfl⟩ := hcs
      exact ⟨[], .inl ⟨rfl, rfl, rfl, rfl⟩⟩
    · simp [Value.cells] at hcs
      obtain ⟨rfl, rfl, rfl⟩ := hcs
      exact ⟨zs, .inr ⟨_, rfl, hl, hm, by simpa using hz, hcell, hwz⟩⟩
  obtain ⟨a1, len1, cap1, rfl⟩ := okWide_slice Try.underlying22 (hval 1 22 v1 rfl rfl)
  have k1 := h1
  have lt1 : ∀ x ∈ p1, x.block < W.heap.size := by obtain ⟨m, hm⟩ := k1; exact DataW.trod_lt m _ _ _ hm
  obtain ⟨z1, w1⟩ : ∃ zs, IsRow .i64 W a1 len1 cap1 zs := by
    obtain ⟨fuel, hf⟩ := h1
    rcases open_ints Try.underlying22 Try.underlying2 (by kernel_rfl) hf with ⟨hcs, _⟩ | ⟨x, l, c, zs, hcs, _, hl, hm, hz, _, hcell, hwz⟩
    · simp [Value.cells] at hcs
      obtain ⟨rfl, rfl, rfl⟩ := hcs
      exact ⟨[], .inl ⟨rfl, rfl, rfl, rfl⟩⟩
    · simp [Value.cells] at hcs
      obtain ⟨rfl, rfl, rfl⟩ := hcs
      exact ⟨zs, .inr ⟨_, rfl, hl, hm, by simpa using hz, hcell, hwz⟩⟩
  clear hA0 hval0
  refine (walk a0 len0 cap0 z0 a1 len1 cap1 z1 W w0 w1).mono fun e W' ⟨he, bel⟩ => ?_
  subst he
  exact ⟨_, rfl, _, _, _, [], _, [], hW', trodAll_mk1 (shut_bool Try.underlying4 _), (trodAll_cons_mk (Below.trod laidOut (by kernel_rfl) (of_decide_eq_true (by kernel_rfl)) k0 bel lt0) (trodAll_cons_mk (Below.trod laidOut (by kernel_rfl) (of_decide_eq_true (by kernel_rfl)) k1 bel lt1) trodAll_mk0)), rfl, bel.frame _, fun h => by cases h⟩

theorem proved : Rows.GapMergesSaid :=
  OpenClaim.holds_of_wide 6 Try.f6 rfl rfl rfl rfl rfl rfl rfl ⟨rfl, rfl, rfl, rfl, rfl⟩ rfl rfl rfl rfl rfl (by kernel_rfl) Try.func6 (by kernel_rfl)
    (of_decide_eq_true (by kernel_rfl)) (by unfold Func.isWrapper; first | (rw [if_pos (by decide +kernel)]; kernel_rfl) | (rw [if_neg (by decide +kernel)]; exact ⟨rfl, rfl⟩))
    (fun os started H enc _ => lifted os started H enc)

end Go.Proofs.Ytihbpbdcpnpiaaa.gapMerges
