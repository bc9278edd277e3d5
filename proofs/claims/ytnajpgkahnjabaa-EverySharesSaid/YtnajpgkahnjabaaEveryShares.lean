/- For any two schedules EveryShares returns true: the first time that they share is in both, whichever is the first one; with itself a schedule shares Start. No conditions. -/
import Derived.Test.YtnajpgkahnjabaaRows
import Derived.Test.YtnajpgkahnjabaaEveArg
import Derived.OpenShut
import Derived.ChangeOld
namespace Go.Proofs.Ytnajpgkahnjabaa.everyShares
open Go.ChangeShapes Go.WideShapes Go.ChangeAt Go.RowKit

set_option maxRecDepth 100000 in
set_option maxHeartbeats 4000000 in
theorem walk (s p c s' p' c' : Int) (w : World) (h0 : (Lit.int .i64 s).wf = true ∧ (Lit.int .i64 p).wf = true ∧ (Lit.int .i64 c).wf = true) (h1 : (Lit.int .i64 s').wf = true ∧ (Lit.int .i64 p').wf = true ∧ (Lit.int .i64 c').wf = true) :
    Calls Try.prog 11 #[.agg #[.int .i64 s, .int .i64 p, .int .i64 c], .agg #[.int .i64 s', .int .i64 p', .int .i64 c']] w fun e w' => e = .returned (.bool true) ∧ Below w.heap.size w w' := by
  have WK := Lib.hid works_any
  have _ := h0; have _ := h1
  clear h0 h1
  by_cases h : Ev.Ok s p c
  rotate_left
  · have C1 := Lib.hid (fun w' => meet_no s p c s' p' c' w' (fun k => h k.1))
    have C2 := Lib.hid (fun w' => meet_no s' p' c' s p c w' (fun k => h k.2))
    have CK := Lib.hid (fun w' => check_no s p c w' h)
    clear h
    go_enter Try.func11, Try.ntmps11
    go_wp2_with fail
    have EA := Lib.hid ((Ex.start w (s) (p) (c)).alloc (.cells #[.int .i64 (s'), .int .i64 (p'), .int .i64 (c')] 23))
    have EB := Lib.hid (Ex.second w (s) (p) (c) (s') (p') (c'))
    refine (C1.out _).mono ?_
    rintro e v1 ⟨rfl, hb⟩
    have EA := Lib.hid (EA.out.next hb)
    have EB := Lib.hid (EB.out.next hb)
    clear hb
    have ea0 := EA.out.c0
    have ea1 := EA.out.c1
    have ea2 := EA.out.c2
    have eb0 := EB.out.c0
    have eb1 := EB.out.c1
    have eb2 := EB.out.c2
    go_wp2_with fail
    refine (C2.out _).mono ?_
    rintro e v2 ⟨rfl, hb⟩
    have EA := Lib.hid (EA.out.next hb)
    have EB := Lib.hid (EB.out.next hb)
    clear hb
    have ea0 := EA.out.c0
    have ea1 := EA.out.c1
    have ea2 := EA.out.c2
    have eb0 := EB.out.c0
    have eb1 := EB.out.c1
    have eb2 := EB.out.c2
    go_wp2_with fail
    refine (CK.out _).mono ?_
    rintro e v3 ⟨rfl, hb⟩
    have EA := Lib.hid (EA.out.next hb)
    have EB := Lib.hid (EB.out.next hb)
    clear hb
    have ea0 := EA.out.c0
    have ea1 := EA.out.c1
    have ea2 := EA.out.c2
    have eb0 := EB.out.c0
    have eb1 := EB.out.c1
    have eb2 := EB.out.c2
    go_wp2_with fail
    refine (WK.out _).mono ?_
    rintro e v4 ⟨rfl, hb⟩
    have EA := Lib.hid (EA.out.next hb)
    have EB := Lib.hid (EB.out.next hb)
    clear hb
    have ea0 := EA.out.c0
    have ea1 := EA.out.c1
    have ea2 := EA.out.c2
    have eb0 := EB.out.c0
    have eb1 := EB.out.c1
    have eb2 := EB.out.c2
    go_wp2_with fail
    go_ret
    exact ⟨rfl, EA.out.bel⟩
  have CK := Lib.hid (fun w' => check_yes s p c w' h)
  by_cases h' : Ev.Ok s' p' c'
  rotate_left
  · have C1 := Lib.hid (fun w' => meet_no s p c s' p' c' w' (fun k => h' k.2))
    have C2 := Lib.hid (fun w' => meet_no s' p' c' s p c w' (fun k => h' k.1))
    have CL := Lib.hid (fun w' => check_no s' p' c' w' h')
    clear h h'
    go_enter Try.func11, Try.ntmps11
    go_wp2_with fail
    have EA := Lib.hid ((Ex.start w (s) (p) (c)).alloc (.cells #[.int .i64 (s'), .int .i64 (p'), .int .i64 (c')] 23))
    have EB := Lib.hid (Ex.second w (s) (p) (c) (s') (p') (c'))
    refine (C1.out _).mono ?_
    rintro e v1 ⟨rfl, hb⟩
    have EA := Lib.hid (EA.out.next hb)
    have EB := Lib.hid (EB.out.next hb)
    clear hb
    have ea0 := EA.out.c0
    have ea1 := EA.out.c1
    have ea2 := EA.out.c2
    have eb0 := EB.out.c0
    have eb1 := EB.out.c1
    have eb2 := EB.out.c2
    go_wp2_with fail
    refine (C2.out _).mono ?_
    rintro e v2 ⟨rfl, hb⟩
    have EA := Lib.hid (EA.out.next hb)
    have EB := Lib.hid (EB.out.next hb)
    clear hb
    have ea0 := EA.out.c0
    have ea1 := EA.out.c1
    have ea2 := EA.out.c2
    have eb0 := EB.out.c0
    have eb1 := EB.out.c1
    have eb2 := EB.out.c2
    go_wp2_with fail
    refine (CK.out _).mono ?_
    rintro e v3 ⟨rfl, hb⟩
    have EA := Lib.hid (EA.out.next hb)
    have EB := Lib.hid (EB.out.next hb)
    clear hb
    have ea0 := EA.out.c0
    have ea1 := EA.out.c1
    have ea2 := EA.out.c2
    have eb0 := EB.out.c0
    have eb1 := EB.out.c1
    have eb2 := EB.out.c2
    go_wp2_with fail
    refine (CL.out _).mono ?_
    rintro e v4 ⟨rfl, hb⟩
    have EA := Lib.hid (EA.out.next hb)
    have EB := Lib.hid (EB.out.next hb)
    clear hb
    have ea0 := EA.out.c0
    have ea1 := EA.out.c1
    have ea2 := EA.out.c2
    have eb0 := EB.out.c0
    have eb1 := EB.out.c1
    have eb2 := EB.out.c2
    go_wp2_with fail
    refine (WK.out _).mono ?_
    rintro e v5 ⟨rfl, hb⟩
    have EA := Lib.hid (EA.out.next hb)
    have EB := Lib.hid (EB.out.next hb)
    clear hb
    have ea0 := EA.out.c0
    have ea1 := EA.out.c1
    have ea2 := EA.out.c2
    have eb0 := EB.out.c0
    have eb1 := EB.out.c1
    have eb2 := EB.out.c2
    go_wp2_with fail
    go_ret
    exact ⟨rfl, EA.out.bel⟩
  have CL := Lib.hid (fun w' => check_yes s' p' c' w' h')
  obtain ⟨v, b, q⟩ := Ev.meet_ex h h'
  have C1 := Lib.hid (fun w' => meet_yes s p c s' p' c' v b w' h h' q)
  have C2 := Lib.hid (fun w' => meet_yes s' p' c' s p c v b w' h' h q.comm)
  have C3 := Lib.hid (fun w' => meet_yes s p c s p c s true w' h h (Ev.meet_self h))
  rcases q with ⟨rfl, o1, o2, _⟩ | ⟨rfl, rfl, _⟩
  · have o3 := Ev.on_time h o1
    have tv : Vt v := ⟨by have := h.s0; omega, o3.2.1⟩
    have C4 := Lib.hid (fun w' => is_any s p c v true 0 w' (.inr (.inr ⟨h, tv, rfl, by simpa using o1⟩)))
    have C5 := Lib.hid (fun w' => is_any s' p' c' v true 0 w' (.inr (.inr ⟨h', tv, rfl, by simpa using o2⟩)))
    clear h h' o1 o2 o3 tv
    go_enter Try.func11, Try.ntmps11
    go_wp2_with fail
    have EA := Lib.hid ((Ex.start w (s) (p) (c)).alloc (.cells #[.int .i64 (s'), .int .i64 (p'), .int .i64 (c')] 23))
    have EB := Lib.hid (Ex.second w (s) (p) (c) (s') (p') (c'))
    refine (C1.out _).mono ?_
    rintro e v1 ⟨rfl, hb⟩
    have EA := Lib.hid (EA.out.next hb)
    have EB := Lib.hid (EB.out.next hb)
    clear hb
    have ea0 := EA.out.c0
    have ea1 := EA.out.c1
    have ea2 := EA.out.c2
    have eb0 := EB.out.c0
    have eb1 := EB.out.c1
    have eb2 := EB.out.c2
    go_wp2_with fail
    refine (C2.out _).mono ?_
    rintro e v2 ⟨rfl, hb⟩
    have EA := Lib.hid (EA.out.next hb)
    have EB := Lib.hid (EB.out.next hb)
    clear hb
    have ea0 := EA.out.c0
    have ea1 := EA.out.c1
    have ea2 := EA.out.c2
    have eb0 := EB.out.c0
    have eb1 := EB.out.c1
    have eb2 := EB.out.c2
    go_wp2_with fail
    refine (CK.out _).mono ?_
    rintro e v3 ⟨rfl, hb⟩
    have EA := Lib.hid (EA.out.next hb)
    have EB := Lib.hid (EB.out.next hb)
    clear hb
    have ea0 := EA.out.c0
    have ea1 := EA.out.c1
    have ea2 := EA.out.c2
    have eb0 := EB.out.c0
    have eb1 := EB.out.c1
    have eb2 := EB.out.c2
    go_wp2_with fail
    refine (CL.out _).mono ?_
    rintro e v4 ⟨rfl, hb⟩
    have EA := Lib.hid (EA.out.next hb)
    have EB := Lib.hid (EB.out.next hb)
    clear hb
    have ea0 := EA.out.c0
    have ea1 := EA.out.c1
    have ea2 := EA.out.c2
    have eb0 := EB.out.c0
    have eb1 := EB.out.c1
    have eb2 := EB.out.c2
    go_wp2_with fail
    refine (C3.out _).mono ?_
    rintro e v5 ⟨rfl, hb⟩
    have EA := Lib.hid (EA.out.next hb)
    have EB := Lib.hid (EB.out.next hb)
    clear hb
    have ea0 := EA.out.c0
    have ea1 := EA.out.c1
    have ea2 := EA.out.c2
    have eb0 := EB.out.c0
    have eb1 := EB.out.c1
    have eb2 := EB.out.c2
    go_wp2_with fail
    refine (C4.out _).mono ?_
    rintro e v6 ⟨rfl, hb⟩
    have EA := Lib.hid (EA.out.next hb)
    have EB := Lib.hid (EB.out.next hb)
    clear hb
    have ea0 := EA.out.c0
    have ea1 := EA.out.c1
    have ea2 := EA.out.c2
    have eb0 := EB.out.c0
    have eb1 := EB.out.c1
    have eb2 := EB.out.c2
    go_wp2_with fail
    refine (C5.out _).mono ?_
    rintro e v7 ⟨rfl, hb⟩
    have EA := Lib.hid (EA.out.next hb)
    have EB := Lib.hid (EB.out.next hb)
    clear hb
    have ea0 := EA.out.c0
    have ea1 := EA.out.c1
    have ea2 := EA.out.c2
    have eb0 := EB.out.c0
    have eb1 := EB.out.c1
    have eb2 := EB.out.c2
    go_wp2_with fail
    refine (WK.out _).mono ?_
    rintro e v8 ⟨rfl, hb⟩
    have EA := Lib.hid (EA.out.next hb)
    have EB := Lib.hid (EB.out.next hb)
    clear hb
    have ea0 := EA.out.c0
    have ea1 := EA.out.c1
    have ea2 := EA.out.c2
    have eb0 := EB.out.c0
    have eb1 := EB.out.c1
    have eb2 := EB.out.c2
    go_wp2_with fail
    go_ret
    exact ⟨rfl, EA.out.bel⟩
  · clear h h'
    go_enter Try.func11, Try.ntmps11
    go_wp2_with fail
    have EA := Lib.hid ((Ex.start w (s) (p) (c)).alloc (.cells #[.int .i64 (s'), .int .i64 (p'), .int .i64 (c')] 23))
    have EB := Lib.hid (Ex.second w (s) (p) (c) (s') (p') (c'))
    refine (C1.out _).mono ?_
    rintro e v1 ⟨rfl, hb⟩
    have EA := Lib.hid (EA.out.next hb)
    have EB := Lib.hid (EB.out.next hb)
    clear hb
    have ea0 := EA.out.c0
    have ea1 := EA.out.c1
    have ea2 := EA.out.c2
    have eb0 := EB.out.c0
    have eb1 := EB.out.c1
    have eb2 := EB.out.c2
    go_wp2_with fail
    refine (C2.out _).mono ?_
    rintro e v2 ⟨rfl, hb⟩
    have EA := Lib.hid (EA.out.next hb)
    have EB := Lib.hid (EB.out.next hb)
    clear hb
    have ea0 := EA.out.c0
    have ea1 := EA.out.c1
    have ea2 := EA.out.c2
    have eb0 := EB.out.c0
    have eb1 := EB.out.c1
    have eb2 := EB.out.c2
    go_wp2_with fail
    refine (CK.out _).mono ?_
    rintro e v3 ⟨rfl, hb⟩
    have EA := Lib.hid (EA.out.next hb)
    have EB := Lib.hid (EB.out.next hb)
    clear hb
    have ea0 := EA.out.c0
    have ea1 := EA.out.c1
    have ea2 := EA.out.c2
    have eb0 := EB.out.c0
    have eb1 := EB.out.c1
    have eb2 := EB.out.c2
    go_wp2_with fail
    refine (CL.out _).mono ?_
    rintro e v4 ⟨rfl, hb⟩
    have EA := Lib.hid (EA.out.next hb)
    have EB := Lib.hid (EB.out.next hb)
    clear hb
    have ea0 := EA.out.c0
    have ea1 := EA.out.c1
    have ea2 := EA.out.c2
    have eb0 := EB.out.c0
    have eb1 := EB.out.c1
    have eb2 := EB.out.c2
    go_wp2_with fail
    refine (C3.out _).mono ?_
    rintro e v5 ⟨rfl, hb⟩
    have EA := Lib.hid (EA.out.next hb)
    have EB := Lib.hid (EB.out.next hb)
    clear hb
    have ea0 := EA.out.c0
    have ea1 := EA.out.c1
    have ea2 := EA.out.c2
    have eb0 := EB.out.c0
    have eb1 := EB.out.c1
    have eb2 := EB.out.c2
    go_wp2_with fail
    refine (WK.out _).mono ?_
    rintro e v6 ⟨rfl, hb⟩
    have EA := Lib.hid (EA.out.next hb)
    have EB := Lib.hid (EB.out.next hb)
    clear hb
    have ea0 := EA.out.c0
    have ea1 := EA.out.c1
    have ea2 := EA.out.c2
    have eb0 := EB.out.c0
    have eb1 := EB.out.c1
    have eb2 := EB.out.c2
    go_wp2_with fail
    go_ret
    exact ⟨rfl, EA.out.bel⟩

set_option maxRecDepth 100000 in
theorem lifted (os : Os) (started : os.Started) (H : Type) (enc : TypeId × Value → H) :
    ReturnsInHanded {} Try.checked os 11 .any (Rows.everySharesSpec.pre6 enc Try.prog Try.f11 Rows.everySharesRow.domain false) (Rows.everySharesSpec.post enc Try.prog Try.f11 false true false false) := by
  refine returnsInHanded_of_change (C := Try.checked) own started (by kernel_rfl) Try.func11
    (ChangeSpec.witness6 (enc := enc) (C := Try.checked) false ⟨#[], #[.agg #[.int .i64 0, .int .i64 0, .int .i64 0], .agg #[.int .i64 0, .int .i64 0, .int .i64 0]], []⟩ 8 (by kernel_rfl) (by kernel_rfl) (by kernel_rfl) (by kernel_rfl)) ?_
  intro W base args ds gs before hval0 hW hcnd _
  have hval : ∀ (j : Nat) t v, Try.f11.params[j]? = some t → args[j]? = some v → Value.okWide Try.prog W .any base t v := hval0
  have hW' := hW
  obtain ⟨p, q, hA0, hV, rfl, hfz, hnd⟩ := hW
  have hA : DataW.TrodAll enc Try.prog W 0 (fun _ => true) true Try.f11.params.toList args.toList ds p := hA0
  rw [Try.params11] at hA hval
  obtain ⟨v0, vs0, d0, ds0, p0, q0, hargs, rfl, rfl, h0, r0⟩ := trodAll_cons hA
  obtain ⟨v1, vs1, d1, ds1, p1, q1, rfl, rfl, rfl, h1, r1⟩ := trodAll_cons r0
  obtain ⟨rfl, rfl, rfl⟩ := trodAll_nil r1
  obtain rfl : args = #[v0, v1] := by cases args; simp_all
  obtain ⟨rfl, rfl⟩ := trodVars_none hV
  obtain ⟨s0, p0', c0, rfl, w0⟩ := open_every (hval 0 23 v0 rfl rfl) h0
  have k0 := h0
  have lt0 : ∀ x ∈ p0, x.block < W.heap.size := by obtain ⟨m, hm⟩ := k0; exact DataW.trod_lt m _ _ _ hm
  obtain ⟨s1, p1', c1, rfl, w1⟩ := open_every (hval 1 23 v1 rfl rfl) h1
  have k1 := h1
  have lt1 : ∀ x ∈ p1, x.block < W.heap.size := by obtain ⟨m, hm⟩ := k1; exact DataW.trod_lt m _ _ _ hm
  clear hA0 hval0
  refine (walk s0 p0' c0 s1 p1' c1 W w0 w1).mono fun e W' ⟨he, bel⟩ => ?_
  subst he
  exact ⟨_, rfl, _, _, _, [], _, [], hW', trodAll_mk1 (shut_bool Try.underlying4 _), (trodAll_cons_mk (Below.trod laidOut (by kernel_rfl) (of_decide_eq_true (by kernel_rfl)) k0 bel lt0) (trodAll_cons_mk (Below.trod laidOut (by kernel_rfl) (of_decide_eq_true (by kernel_rfl)) k1 bel lt1) trodAll_mk0)), rfl, bel.frame _, fun h => by cases h⟩

theorem proved : Rows.EverySharesSaid :=
  OpenClaim.holds_of_wide 11 Try.f11 rfl rfl rfl rfl rfl rfl rfl ⟨rfl, rfl, rfl, rfl, rfl⟩ rfl rfl rfl rfl rfl (by kernel_rfl) Try.func11 (by kernel_rfl)
    (of_decide_eq_true (by kernel_rfl)) (by unfold Func.isWrapper; first | (rw [if_pos (by decide +kernel)]; kernel_rfl) | (rw [if_neg (by decide +kernel)]; exact ⟨rfl, rfl⟩))
    (fun os started H enc _ => lifted os started H enc)

end Go.Proofs.Ytnajpgkahnjabaa.everyShares
