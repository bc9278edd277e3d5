/- For all schedules EveryEnds returns true: the last time belongs to the schedule, there is none behind it, and its number is one less than how many there are. No conditions. -/
import Derived.Test.YtnajpgkahnjabaaRows
import Derived.Test.YtnajpgkahnjabaaEveArg
import Derived.OpenShut
import Derived.ChangeOld
namespace Go.Proofs.Ytnajpgkahnjabaa.everyEnds
open Go.ChangeShapes Go.WideShapes Go.ChangeAt Go.RowKit

set_option maxRecDepth 100000 in
set_option maxHeartbeats 4000000 in
theorem walk (s p c : Int) (w : World) (h0 : (Lit.int .i64 s).wf = true ∧ (Lit.int .i64 p).wf = true ∧ (Lit.int .i64 c).wf = true) :
    Calls Try.prog 10 #[.agg #[.int .i64 s, .int .i64 p, .int .i64 c]] w fun e w' => e = .returned (.bool true) ∧ Below w.heap.size w w' := by
  have WK := Lib.hid works_any
  have _ := h0
  clear h0
  by_cases h : Ev.Ok s p c
  rotate_left
  · have C1 := Lib.hid (fun w' => lastf_any s p c 0 false 16 w' (.inl ⟨h, rfl, rfl, rfl⟩))
    have CK := Lib.hid (fun w' => check_no s p c w' h)
    clear h
    go_enter Try.func10, Try.ntmps10
    go_wp2_with fail
    have EA := Lib.hid (Ex.start w (s) (p) (c))
    refine (C1.out _).mono ?_
    rintro e v1 ⟨rfl, hb⟩
    have EA := Lib.hid (EA.out.next hb)
    clear hb
    have ea0 := EA.out.c0
    have ea1 := EA.out.c1
    have ea2 := EA.out.c2
    go_wp2_with fail
    refine (CK.out _).mono ?_
    rintro e v2 ⟨rfl, hb⟩
    have EA := Lib.hid (EA.out.next hb)
    clear hb
    have ea0 := EA.out.c0
    have ea1 := EA.out.c1
    have ea2 := EA.out.c2
    go_wp2_with fail
    refine (WK.out _).mono ?_
    rintro e v3 ⟨rfl, hb⟩
    have EA := Lib.hid (EA.out.next hb)
    clear hb
    have ea0 := EA.out.c0
    have ea1 := EA.out.c1
    have ea2 := EA.out.c2
    go_wp2_with fail
    go_ret
    exact ⟨rfl, EA.out.bel⟩
  have n0 := Ev.num_pos h
  have n1 := Ev.num_small h
  have LO := Ev.last_on h
  have LT := Ev.on_time h LO
  have LV : Vt (Ev.last s p c) := ⟨by have := h.s0; omega, LT.2.1⟩
  have LN : Ev.IsNext s p c (Ev.last s p c) 0 false := .inr ⟨rfl, rfl, fun u o => Ev.last_le h o⟩
  have CA := Ev.cnt_all h
  have LE := Lib.hid (fun q => Ev.last_end h q)
  have LI : Ev.last s p c = s + (Ev.num s p c - 1) * p := rfl
  have NC := Lib.hid (fun q => Ev.num_count (s := s) (p := p) (c := c) q)
  obtain ⟨l, hl⟩ : ∃ l, Ev.last s p c = l := ⟨_, rfl⟩
  obtain ⟨N, hN⟩ : ∃ N, Ev.num s p c = N := ⟨_, rfl⟩
  rw [hl] at LO LT LV LN LE LI
  rw [hN] at n0 n1 CA LE LI NC
  have C1 := Lib.hid (fun w' => lastf_any s p c l true 0 w' (.inr ⟨h, hl.symm, rfl, rfl⟩))
  have CK := Lib.hid (fun w' => check_yes s p c w' h)
  have C2 := Lib.hid (fun w' => is_any s p c l true 0 w' (.inr (.inr ⟨h, LV, rfl, by simpa using LO⟩)))
  have C3 := Lib.hid (fun w' => next_any s p c l 0 false 0 w' (.inr (.inr ⟨h, LV, rfl, LN⟩)))
  have C4 := Lib.hid (fun w' => count_any s p c 0 253402300799 N 0 w' (.inr (.inr ⟨h, ⟨by omega, by omega⟩, ⟨by omega, by omega⟩, CA.symm, rfl⟩)))
  have C5 := Lib.hid (fun w' => index_any s p c l (N - 1) 0 w' (.inr (.inr (.inr ⟨h, LV, by omega, by rw [hN]; omega, LI, rfl⟩))))
  have w1 : IntKind.i64.wrap (N - 1) = N - 1 := by rw [IntKind.wrap_i64]; omega
  have d0 : decide (N < 1) = false := dec_f (by omega)
  have p0 := h.p0
  have p1 := h.p1
  have w2 : IntKind.i64.wrap (253402300799 - p) = 253402300799 - p := by rw [IntKind.wrap_i64]; omega
  have c0 := h.c0
  clear LO LT LV LN LI hl hN CA h n0 n1 p0 p1
  by_cases z : c = 0
  · have e1 := LE.out (.inl z)
    subst z
    have d1 : decide (253402300799 - p < l) = true := dec_t e1
    clear e1 LE NC c0
    go_enter Try.func10, Try.ntmps10
    go_wp2_with fail
    have EA := Lib.hid (Ex.start w (s) (p) (0))
    refine (C1.out _).mono ?_
    rintro e v1 ⟨rfl, hb⟩
    have EA := Lib.hid (EA.out.next hb)
    clear hb
    have ea0 := EA.out.c0
    have ea1 := EA.out.c1
    have ea2 := EA.out.c2
    go_wp2_with fail
    refine (CK.out _).mono ?_
    rintro e v2 ⟨rfl, hb⟩
    have EA := Lib.hid (EA.out.next hb)
    clear hb
    have ea0 := EA.out.c0
    have ea1 := EA.out.c1
    have ea2 := EA.out.c2
    go_wp2_with fail
    refine (C2.out _).mono ?_
    rintro e v3 ⟨rfl, hb⟩
    have EA := Lib.hid (EA.out.next hb)
    clear hb
    have ea0 := EA.out.c0
    have ea1 := EA.out.c1
    have ea2 := EA.out.c2
    go_wp2_with fail
    refine (C3.out _).mono ?_
    rintro e v4 ⟨rfl, hb⟩
    have EA := Lib.hid (EA.out.next hb)
    clear hb
    have ea0 := EA.out.c0
    have ea1 := EA.out.c1
    have ea2 := EA.out.c2
    go_wp2_with fail
    refine (C4.out _).mono ?_
    rintro e v5 ⟨rfl, hb⟩
    have EA := Lib.hid (EA.out.next hb)
    clear hb
    have ea0 := EA.out.c0
    have ea1 := EA.out.c1
    have ea2 := EA.out.c2
    go_wp2_with fail
    refine (C5.out _).mono ?_
    rintro e v6 ⟨rfl, hb⟩
    have EA := Lib.hid (EA.out.next hb)
    clear hb
    have ea0 := EA.out.c0
    have ea1 := EA.out.c1
    have ea2 := EA.out.c2
    go_wp2_with fail
    refine (WK.out _).mono ?_
    rintro e v7 ⟨rfl, hb⟩
    have EA := Lib.hid (EA.out.next hb)
    clear hb
    have ea0 := EA.out.c0
    have ea1 := EA.out.c1
    have ea2 := EA.out.c2
    go_wp2_with fail
    go_ret
    exact ⟨rfl, EA.out.bel⟩
  have z1 : (c == 0) = false := by simpa using z
  have d1 : decide (0 < c) = true := dec_t (by omega)
  have d2 : decide (c < N) = false := dec_f (by have := NC.out (by omega); omega)
  by_cases y : N < c
  · have e1 := LE.out (.inr y)
    have d3 : decide (253402300799 - p < l) = true := dec_t e1
    have d4 := dec_t y
    clear e1 LE NC c0 y z
    go_enter Try.func10, Try.ntmps10
    go_wp2_with fail
    have EA := Lib.hid (Ex.start w (s) (p) (c))
    refine (C1.out _).mono ?_
    rintro e v1 ⟨rfl, hb⟩
    have EA := Lib.hid (EA.out.next hb)
    clear hb
    have ea0 := EA.out.c0
    have ea1 := EA.out.c1
    have ea2 := EA.out.c2
    go_wp2_with fail
    refine (CK.out _).mono ?_
    rintro e v2 ⟨rfl, hb⟩
    have EA := Lib.hid (EA.out.next hb)
    clear hb
    have ea0 := EA.out.c0
    have ea1 := EA.out.c1
    have ea2 := EA.out.c2
    go_wp2_with fail
    refine (C2.out _).mono ?_
    rintro e v3 ⟨rfl, hb⟩
    have EA := Lib.hid (EA.out.next hb)
    clear hb
    have ea0 := EA.out.c0
    have ea1 := EA.out.c1
    have ea2 := EA.out.c2
    go_wp2_with fail
    refine (C3.out _).mono ?_
    rintro e v4 ⟨rfl, hb⟩
    have EA := Lib.hid (EA.out.next hb)
    clear hb
    have ea0 := EA.out.c0
    have ea1 := EA.out.c1
    have ea2 := EA.out.c2
    go_wp2_with fail
    refine (C4.out _).mono ?_
    rintro e v5 ⟨rfl, hb⟩
    have EA := Lib.hid (EA.out.next hb)
    clear hb
    have ea0 := EA.out.c0
    have ea1 := EA.out.c1
    have ea2 := EA.out.c2
    go_wp2_with fail
    refine (C5.out _).mono ?_
    rintro e v6 ⟨rfl, hb⟩
    have EA := Lib.hid (EA.out.next hb)
    clear hb
    have ea0 := EA.out.c0
    have ea1 := EA.out.c1
    have ea2 := EA.out.c2
    go_wp2_with fail
    refine (WK.out _).mono ?_
    rintro e v7 ⟨rfl, hb⟩
    have EA := Lib.hid (EA.out.next hb)
    clear hb
    have ea0 := EA.out.c0
    have ea1 := EA.out.c1
    have ea2 := EA.out.c2
    go_wp2_with fail
    go_ret
    exact ⟨rfl, EA.out.bel⟩
  have d4 := dec_f y
  clear LE NC c0 y z
  go_enter Try.func10, Try.ntmps10
  go_wp2_with fail
  have EA := Lib.hid (Ex.start w (s) (p) (c))
  refine (C1.out _).mono ?_
  rintro e v1 ⟨rfl, hb⟩
  have EA := Lib.hid (EA.out.next hb)
  clear hb
  have ea0 := EA.out.c0
  have ea1 := EA.out.c1
  have ea2 := EA.out.c2
  go_wp2_with fail
  refine (CK.out _).mono ?_
  rintro e v2 ⟨rfl, hb⟩
  have EA := Lib.hid (EA.out.next hb)
  clear hb
  have ea0 := EA.out.c0
  have ea1 := EA.out.c1
  have ea2 := EA.out.c2
  go_wp2_with fail
  refine (C2.out _).mono ?_
  rintro e v3 ⟨rfl, hb⟩
  have EA := Lib.hid (EA.out.next hb)
  clear hb
  have ea0 := EA.out.c0
  have ea1 := EA.out.c1
  have ea2 := EA.out.c2
  go_wp2_with fail
  refine (C3.out _).mono ?_
  rintro e v4 ⟨rfl, hb⟩
  have EA := Lib.hid (EA.out.next hb)
  clear hb
  have ea0 := EA.out.c0
  have ea1 := EA.out.c1
  have ea2 := EA.out.c2
  go_wp2_with fail
  refine (C4.out _).mono ?_
  rintro e v5 ⟨rfl, hb⟩
  have EA := Lib.hid (EA.out.next hb)
  clear hb
  have ea0 := EA.out.c0
  have ea1 := EA.out.c1
  have ea2 := EA.out.c2
  go_wp2_with fail
  refine (C5.out _).mono ?_
  rintro e v6 ⟨rfl, hb⟩
  have EA := Lib.hid (EA.out.next hb)
  clear hb
  have ea0 := EA.out.c0
  have ea1 := EA.out.c1
  have ea2 := EA.out.c2
  go_wp2_with fail
  refine (WK.out _).mono ?_
  rintro e v7 ⟨rfl, hb⟩
  have EA := Lib.hid (EA.out.next hb)
  clear hb
  have ea0 := EA.out.c0
  have ea1 := EA.out.c1
  have ea2 := EA.out.c2
  go_wp2_with fail
  go_ret
  exact ⟨rfl, EA.out.bel⟩

set_option maxRecDepth 100000 in
theorem lifted (os : Os) (started : os.Started) (H : Type) (enc : TypeId × Value → H) :
    ReturnsInHanded {} Try.checked os 10 .any (Rows.everyEndsSpec.pre6 enc Try.prog Try.f10 Rows.everyEndsRow.domain false) (Rows.everyEndsSpec.post enc Try.prog Try.f10 false true false false) := by
  refine returnsInHanded_of_change (C := Try.checked) own started (by kernel_rfl) Try.func10
    (ChangeSpec.witness6 (enc := enc) (C := Try.checked) false ⟨#[], #[.agg #[.int .i64 0, .int .i64 0, .int .i64 0]], []⟩ 8 (by kernel_rfl) (by kernel_rfl) (by kernel_rfl) (by kernel_rfl)) ?_
  intro W base args ds gs before hval0 hW hcnd _
  have hval : ∀ (j : Nat) t v, Try.f10.params[j]? = some t → args[j]? = some v → Value.okWide Try.prog W .any base t v := hval0
  have hW' := hW
  obtain ⟨p, q, hA0, hV, rfl, hfz, hnd⟩ := hW
  have hA : DataW.TrodAll enc Try.prog W 0 (fun _ => true) true Try.f10.params.toList args.toList ds p := hA0
  rw [Try.params10] at hA hval
  obtain ⟨v0, vs0, d0, ds0, p0, q0, hargs, rfl, rfl, h0, r0⟩ := trodAll_cons hA
  obtain ⟨rfl, rfl, rfl⟩ := trodAll_nil r0
  obtain rfl : args = #[v0] := by cases args; simp_all
  obtain ⟨rfl, rfl⟩ := trodVars_none hV
  obtain ⟨s0, p0', c0, rfl, w0⟩ := open_every (hval 0 23 v0 rfl rfl) h0
  have k0 := h0
  have lt0 : ∀ x ∈ p0, x.block < W.heap.size := by obtain ⟨m, hm⟩ := k0; exact DataW.trod_lt m _ _ _ hm
  clear hA0 hval0
  refine (walk s0 p0' c0 W w0).mono fun e W' ⟨he, bel⟩ => ?_
  subst he
  exact ⟨_, rfl, _, _, _, [], _, [], hW', trodAll_mk1 (shut_bool Try.underlying4 _), (trodAll_cons_mk (Below.trod laidOut (by kernel_rfl) (of_decide_eq_true (by kernel_rfl)) k0 bel lt0) trodAll_mk0), rfl, bel.frame _, fun h => by cases h⟩

theorem proved : Rows.EveryEndsSaid :=
  OpenClaim.holds_of_wide 10 Try.f10 rfl rfl rfl rfl rfl rfl rfl ⟨rfl, rfl, rfl, rfl, rfl⟩ rfl rfl rfl rfl rfl (by kernel_rfl) Try.func10 (by kernel_rfl)
    (of_decide_eq_true (by kernel_rfl)) (by unfold Func.isWrapper; first | (rw [if_pos (by decide +kernel)]; kernel_rfl) | (rw [if_neg (by decide +kernel)]; exact ⟨rfl, rfl⟩))
    (fun os started H enc _ => lifted os started H enc)

end Go.Proofs.Ytnajpgkahnjabaa.everyEnds
