/- For all schedules and all numbers, EveryIndexes returns true: Nth and Index lead to each other, and the numbers count the times from Start on. No conditions. -/
import Derived.Test.YtnajpgkahnjabaaRows
import Derived.Test.YtnajpgkahnjabaaEveArg
import Derived.OpenShut
import Derived.ChangeOld
namespace Go.Proofs.Ytnajpgkahnjabaa.everyIndexes
open Go.ChangeShapes Go.WideShapes Go.ChangeAt Go.RowKit

set_option maxRecDepth 100000 in
set_option maxHeartbeats 4000000 in
theorem walk (s p c n t : Int) (w : World) (h0 : (Lit.int .i64 s).wf = true ∧ (Lit.int .i64 p).wf = true ∧ (Lit.int .i64 c).wf = true) (h1 : (Lit.int .i64 n).wf = true) (h2 : (Lit.int .i64 t).wf = true) :
    Calls Try.prog 8 #[.agg #[.int .i64 s, .int .i64 p, .int .i64 c], .int .i64 n, .int .i64 t] w fun e w' => e = .returned (.bool true) ∧ Below w.heap.size w w' := by
  have WK := Lib.hid works_any
  have _ := h0; have _ := h1; have _ := h2
  clear h0 h1 h2
  by_cases h : Ev.Ok s p c
  rotate_left
  · have CK := Lib.hid (fun w' => check_no s p c w' h)
    clear h
    go_enter Try.func8, Try.ntmps8
    go_wp2_with fail
    have EA := Lib.hid (Ex.start w (s) (p) (c))
    refine (CK.out _).mono ?_
    rintro e v1 ⟨rfl, hb⟩
    have EA := Lib.hid (EA.out.next hb)
    clear hb
    have ea0 := EA.out.c0
    have ea1 := EA.out.c1
    have ea2 := EA.out.c2
    go_wp2_with fail
    refine (WK.out _).mono ?_
    rintro e v2 ⟨rfl, hb⟩
    have EA := Lib.hid (EA.out.next hb)
    clear hb
    have ea0 := EA.out.c0
    have ea1 := EA.out.c1
    have ea2 := EA.out.c2
    go_wp2_with fail
    go_ret
    exact ⟨rfl, EA.out.bel⟩
  have CK := Lib.hid (fun w' => check_yes s p c w' h)
  have p0 := h.p0
  have s0 := h.s0
  have s1 := h.s1
  have g := Ev.num_small h
  have z1 : (p == 0) = false := by simp; omega
  have z2 : ¬ p = 0 := by omega
  obtain ⟨k, f, q⟩ := indexR_ex s p c t
  have C4 := Lib.hid (fun w' => index_any s p c t k f w' q)
  have QQ : (f = 0 ∧ 0 ≤ k ∧ (∀ w', Calls Try.prog 25 #[.agg #[.int .i64 s, .int .i64 p, .int .i64 c], .int .i64 k] w' fun e w'' => e = .returned (.tuple #[.int .i64 t, .int .i64 0]) ∧ Below w'.heap.size w' w'')) ∨ (f == 0) = false := by
    rcases q with ⟨_, _, rfl⟩ | ⟨_, _, _, rfl⟩ | ⟨_, _, _, _, rfl⟩ | ⟨_, _, k0, k1, e, rfl⟩
    · exact .inr rfl
    · exact .inr rfl
    · exact .inr rfl
    · exact .inl ⟨rfl, k0, fun w' => nth_any s p c k t 0 w' (.inr (.inr ⟨h, k0, k1, e, rfl⟩))⟩
  have QQ := Lib.hid QQ
  clear q
  by_cases kn : 0 ≤ n ∧ n < Ev.num s p c
  · obtain ⟨n0, n1⟩ := kn
    have kk := ((Ev.num_iff h n).1 n1).1
    have m0 := Int.mul_nonneg n0 (show 0 ≤ p by omega)
    have CF := Ev.cnt_from h n0 n1
    obtain ⟨AD, AM⟩ := Ev.at_div (s := s) (n := n) p0
    obtain ⟨A, hA⟩ : ∃ A, s + n * p = A := ⟨_, rfl⟩
    rw [hA] at kk CF AD AM
    have av : Vt A := ⟨by omega, kk⟩
    have sv : Vt s := ⟨s0, s1⟩
    have C1 := Lib.hid (fun w' => nth_any s p c n A 0 w' (.inr (.inr ⟨h, n0, n1, hA.symm, rfl⟩)))
    have C2 := Lib.hid (fun w' => index_any s p c A n 0 w' (.inr (.inr (.inr ⟨h, av, n0, n1, hA.symm, rfl⟩))))
    have C3 := Lib.hid (fun w' => count_any s p c s A (n + 1) 0 w' (.inr (.inr ⟨h, sv, av, CF.symm, rfl⟩)))
    have TY := Lib.hid (fun w' => time_yes A w' av)
    have w1 : IntKind.i64.wrap (n + 1) = n + 1 := by rw [IntKind.wrap_i64]; omega
    have w2 : IntKind.i64.wrap (A - s) = A - s := by rw [IntKind.wrap_i64]; omega
    have w3 : (A - s).tdiv p = n := by rw [quo_is (by omega), AD]
    have w4 : (A - s).tmod p = 0 := by rw [rem_is (by omega), AM]
    have w5 : IntKind.i64.wrap n = n := by rw [IntKind.wrap_i64]; omega
    have d0 : decide (A < s) = false := dec_f (by omega)
    clear h kk m0 CF AD AM hA av sv n0 n1
    go_enter Try.func8, Try.ntmps8
    go_wp2_with fail
    have EA := Lib.hid (Ex.start w (s) (p) (c))
    refine (CK.out _).mono ?_
    rintro e v1 ⟨rfl, hb⟩
    have EA := Lib.hid (EA.out.next hb)
    clear hb
    have ea0 := EA.out.c0
    have ea1 := EA.out.c1
    have ea2 := EA.out.c2
    go_wp2_with fail
    refine (C1.out _).mono ?_
    rintro e v2 ⟨rfl, hb⟩
    have EA := Lib.hid (EA.out.next hb)
    clear hb
    have ea0 := EA.out.c0
    have ea1 := EA.out.c1
    have ea2 := EA.out.c2
    go_wp2_with fail
    refine (C2.out _).mono ?_
    rintro e v3 ⟨rfl, hb⟩
    have EA := Lib.hid (EA.out.next hb)
    clear hb
    have ea0 := EA.out.c0
    have ea1 := EA.out.c1
    have ea2 := EA.out.c2
    go_wp2_with fail
    refine (C3.out _).mono ?_
    rintro e v4 ⟨rfl, hb⟩
    have EA := Lib.hid (EA.out.next hb)
    clear hb
    have ea0 := EA.out.c0
    have ea1 := EA.out.c1
    have ea2 := EA.out.c2
    go_wp2_with fail
    refine (TY.out _).mono ?_
    rintro e v5 ⟨rfl, rfl⟩
    rcases QQ.out with ⟨rfl, k0, fC⟩ | hf
    · have C5 := Lib.hid fC
      have dk : decide (k < 0) = false := dec_f (by omega)
      go_wp2_with fail
      refine (C4.out _).mono ?_
      rintro e v6 ⟨rfl, hb⟩
      have EA := Lib.hid (EA.out.next hb)
      clear hb
      have ea0 := EA.out.c0
      have ea1 := EA.out.c1
      have ea2 := EA.out.c2
      go_wp2_with fail
      refine (C5.out _).mono ?_
      rintro e v7 ⟨rfl, hb⟩
      have EA := Lib.hid (EA.out.next hb)
      clear hb
      have ea0 := EA.out.c0
      have ea1 := EA.out.c1
      have ea2 := EA.out.c2
      go_wp2_with fail
      refine (WK.out _).mono ?_
      rintro e v8 ⟨rfl, hb⟩
      have EA := Lib.hid (EA.out.next hb)
      clear hb
      have ea0 := EA.out.c0
      have ea1 := EA.out.c1
      have ea2 := EA.out.c2
      go_wp2_with fail
      go_ret
      exact ⟨rfl, EA.out.bel⟩
    · go_wp2_with fail
      refine (C4.out _).mono ?_
      rintro e v6 ⟨rfl, hb⟩
      have EA := Lib.hid (EA.out.next hb)
      clear hb
      have ea0 := EA.out.c0
      have ea1 := EA.out.c1
      have ea2 := EA.out.c2
      go_wp2_with fail
      refine (WK.out _).mono ?_
      rintro e v7 ⟨rfl, hb⟩
      have EA := Lib.hid (EA.out.next hb)
      clear hb
      have ea0 := EA.out.c0
      have ea1 := EA.out.c1
      have ea2 := EA.out.c2
      go_wp2_with fail
      go_ret
      exact ⟨rfl, EA.out.bel⟩
  · have C1 := Lib.hid (fun w' => nth_any s p c n 0 3 w' (.inr (.inl ⟨h, kn, rfl, rfl⟩)))
    clear h kn
    go_enter Try.func8, Try.ntmps8
    go_wp2_with fail
    have EA := Lib.hid (Ex.start w (s) (p) (c))
    refine (CK.out _).mono ?_
    rintro e v1 ⟨rfl, hb⟩
    have EA := Lib.hid (EA.out.next hb)
    clear hb
    have ea0 := EA.out.c0
    have ea1 := EA.out.c1
    have ea2 := EA.out.c2
    go_wp2_with fail
    refine (C1.out _).mono ?_
    rintro e v2 ⟨rfl, hb⟩
    have EA := Lib.hid (EA.out.next hb)
    clear hb
    have ea0 := EA.out.c0
    have ea1 := EA.out.c1
    have ea2 := EA.out.c2
    rcases QQ.out with ⟨rfl, k0, fC⟩ | hf
    · have C5 := Lib.hid fC
      have dk : decide (k < 0) = false := dec_f (by omega)
      go_wp2_with fail
      refine (C4.out _).mono ?_
      rintro e v3 ⟨rfl, hb⟩
      have EA := Lib.hid (EA.out.next hb)
      clear hb
      have ea0 := EA.out.c0
      have ea1 := EA.out.c1
      have ea2 := EA.out.c2
      go_wp2_with fail
      refine (C5.out _).mono ?_
      rintro e v4 ⟨rfl, hb⟩
      have EA := Lib.hid (EA.out.next hb)
      clear hb
      have ea0 := EA.out.c0
      have ea1 := EA.out.c1
      have ea2 := EA.out.c2
      go_wp2_with fail
      refine (WK.out _).mono ?_
      rintro e v5 ⟨rfl, hb⟩
      have EA := Lib.hid (EA.out.next hb)
      clear hb
      have ea0 := EA.out.c0
      have ea1 := EA.out.c1
      have ea2 := EA.out.c2
      go_wp2_with fail
      go_ret
      exact ⟨rfl, EA.out.bel⟩
    · go_wp2_with fail
      refine (C4.out _).mono ?_
      rintro e v3 ⟨rfl, hb⟩
      have EA := Lib.hid (EA.out.next hb)
      clear hb
      have ea0 := EA.out.c0
      have ea1 := EA.out.c1
      have ea2 := EA.out.c2
      go_wp2_with fail
      refine (WK.out _).mono ?_
      rintro e v4 ⟨rfl, hb⟩
      have EA := Lib.hid (EA.out.next hb)
      clear hb
      have ea0 := EA.out.c0
      have ea1 := EA.out.c1
      have ea2 := EA.out.c2
      go_wp2_with fail
      go_ret
      exact ⟨rfl, EA.out.bel⟩

set_option maxRecDepth 100000 in
theorem lifted (os : Os) (started : os.Started) (H : Type) (enc : TypeId × Value → H) :
    ReturnsInHanded {} Try.checked os 8 .any (Rows.everyIndexesSpec.pre6 enc Try.prog Try.f8 Rows.everyIndexesRow.domain false) (Rows.everyIndexesSpec.post enc Try.prog Try.f8 false true false false) := by
  refine returnsInHanded_of_change (C := Try.checked) own started (by kernel_rfl) Try.func8
    (ChangeSpec.witness6 (enc := enc) (C := Try.checked) false ⟨#[], #[.agg #[.int .i64 0, .int .i64 0, .int .i64 0], .int .i64 0, .int .i64 0], []⟩ 8 (by kernel_rfl) (by kernel_rfl) (by kernel_rfl) (by kernel_rfl)) ?_
  intro W base args ds gs before hval0 hW hcnd _
  have hval : ∀ (j : Nat) t v, Try.f8.params[j]? = some t → args[j]? = some v → Value.okWide Try.prog W .any base t v := hval0
  have hW' := hW
  obtain ⟨p, q, hA0, hV, rfl, hfz, hnd⟩ := hW
  have hA : DataW.TrodAll enc Try.prog W 0 (fun _ => true) true Try.f8.params.toList args.toList ds p := hA0
  rw [Try.params8] at hA hval
  obtain ⟨v0, vs0, d0, ds0, p0, q0, hargs, rfl, rfl, h0, r0⟩ := trodAll_cons hA
  obtain ⟨v1, vs1, d1, ds1, p1, q1, rfl, rfl, rfl, h1, r1⟩ := trodAll_cons r0
  obtain ⟨v2, vs2, d2, ds2, p2, q2, rfl, rfl, rfl, h2, r2⟩ := trodAll_cons r1
  obtain ⟨rfl, rfl, rfl⟩ := trodAll_nil r2
  obtain rfl : args = #[v0, v1, v2] := by cases args; simp_all
  obtain ⟨rfl, rfl⟩ := trodVars_none hV
  obtain ⟨s0, p0', c0, rfl, w0⟩ := open_every (hval 0 23 v0 rfl rfl) h0
  have k0 := h0
  have lt0 : ∀ x ∈ p0, x.block < W.heap.size := by obtain ⟨m, hm⟩ := k0; exact DataW.trod_lt m _ _ _ hm
  obtain ⟨a1, rfl, rfl, rfl, w1⟩ := open_int Try.underlying2 (hval 1 2 v1 rfl rfl) h1
  obtain ⟨a2, rfl, rfl, rfl, w2⟩ := open_int Try.underlying2 (hval 2 2 v2 rfl rfl) h2
  clear hA0 hval0
  refine (walk s0 p0' c0 a1 a2 W w0 w1 w2).mono fun e W' ⟨he, bel⟩ => ?_
  subst he
  exact ⟨_, rfl, _, _, _, [], _, [], hW', trodAll_mk1 (shut_bool Try.underlying4 _), (trodAll_cons_mk (Below.trod laidOut (by kernel_rfl) (of_decide_eq_true (by kernel_rfl)) k0 bel lt0) (trodAll_cons_mk (shut_int Try.underlying2 w1) (trodAll_cons_mk (shut_int Try.underlying2 w2) trodAll_mk0))), rfl, bel.frame _, fun h => by cases h⟩

theorem proved : Rows.EveryIndexesSaid :=
  OpenClaim.holds_of_wide 8 Try.f8 rfl rfl rfl rfl rfl rfl rfl ⟨rfl, rfl, rfl, rfl, rfl⟩ rfl rfl rfl rfl rfl (by kernel_rfl) Try.func8 (by kernel_rfl)
    (of_decide_eq_true (by kernel_rfl)) (by unfold Func.isWrapper; first | (rw [if_pos (by decide +kernel)]; kernel_rfl) | (rw [if_neg (by decide +kernel)]; exact ⟨rfl, rfl⟩))
    (fun os started H enc _ => lifted os started H enc)

end Go.Proofs.Ytnajpgkahnjabaa.everyIndexes
