/- For all schedules and all numbers, EverySums returns true: the counts of two spans, one directly behind the other, add up; a span of one second has one time or none. No conditions. -/
import Derived.Test.YtnajpgkahnjabaaRows
import Derived.Test.YtnajpgkahnjabaaEveArg
import Derived.OpenShut
import Derived.ChangeOld
namespace Go.Proofs.Ytnajpgkahnjabaa.everySums
open Go.ChangeShapes Go.WideShapes Go.ChangeAt Go.RowKit

set_option maxRecDepth 100000 in
set_option maxHeartbeats 4000000 in
theorem walk (s p c a b d : Int) (w : World) (h0 : (Lit.int .i64 s).wf = true ∧ (Lit.int .i64 p).wf = true ∧ (Lit.int .i64 c).wf = true) (h1 : (Lit.int .i64 a).wf = true) (h2 : (Lit.int .i64 b).wf = true) (h3 : (Lit.int .i64 d).wf = true) :
    Calls Try.prog 9 #[.agg #[.int .i64 s, .int .i64 p, .int .i64 c], .int .i64 a, .int .i64 b, .int .i64 d] w fun e w' => e = .returned (.bool true) ∧ Below w.heap.size w w' := by
  have WK := Lib.hid works_any
  have _ := h0; have _ := h1; have _ := h2; have _ := h3
  clear h0 h1 h2 h3
  by_cases h : Ev.Ok s p c
  rotate_left
  · have CK := Lib.hid (fun w' => check_no s p c w' h)
    clear h
    go_enter Try.func9, Try.ntmps9
    go_wp2_with fail
    have EA := Lib.hid (Ex.start w (s) (p) (c))
    refine (CK.out _).mono ?_
    rintro e v1 ⟨rfl, hb⟩
    have EA := Lib.hid (EA.out.next hb)
    clear hb
    have ea0 := EA.out.c0
    have ea1 := EA.out.c1
    have ea2 := EA.out.c2
    go_wp2_with fail
    refine (WK.out _).mono ?_
    rintro e v2 ⟨rfl, hb⟩
    have EA := Lib.hid (EA.out.next hb)
    clear hb
    have ea0 := EA.out.c0
    have ea1 := EA.out.c1
    have ea2 := EA.out.c2
    go_wp2_with fail
    go_ret
    exact ⟨rfl, EA.out.bel⟩
  have CK := Lib.hid (fun w' => check_yes s p c w' h)
  by_cases ka : Vt a
  rotate_left
  · have Ta := Lib.hid (fun w' => time_no a w' ka)
    clear h ka
    go_enter Try.func9, Try.ntmps9
    go_wp2_with fail
    have EA := Lib.hid (Ex.start w (s) (p) (c))
    refine (CK.out _).mono ?_
    rintro e v1 ⟨rfl, hb⟩
    have EA := Lib.hid (EA.out.next hb)
    clear hb
    have ea0 := EA.out.c0
    have ea1 := EA.out.c1
    have ea2 := EA.out.c2
    go_wp2_with fail
    refine (Ta.out _).mono ?_
    rintro e v2 ⟨rfl, rfl⟩
    go_wp2_with fail
    refine (WK.out _).mono ?_
    rintro e v3 ⟨rfl, hb⟩
    have EA := Lib.hid (EA.out.next hb)
    clear hb
    have ea0 := EA.out.c0
    have ea1 := EA.out.c1
    have ea2 := EA.out.c2
    go_wp2_with fail
    go_ret
    exact ⟨rfl, EA.out.bel⟩
  have Ta := Lib.hid (fun w' => time_yes a w' ka)
  by_cases kb : Vt b
  rotate_left
  · have Tb := Lib.hid (fun w' => time_no b w' kb)
    clear h kb
    go_enter Try.func9, Try.ntmps9
    go_wp2_with fail
    have EA := Lib.hid (Ex.start w (s) (p) (c))
    refine (CK.out _).mono ?_
    rintro e v1 ⟨rfl, hb⟩
    have EA := Lib.hid (EA.out.next hb)
    clear hb
    have ea0 := EA.out.c0
    have ea1 := EA.out.c1
    have ea2 := EA.out.c2
    go_wp2_with fail
    refine (Ta.out _).mono ?_
    rintro e v2 ⟨rfl, rfl⟩
    go_wp2_with fail
    refine (Tb.out _).mono ?_
    rintro e v3 ⟨rfl, rfl⟩
    go_wp2_with fail
    refine (WK.out _).mono ?_
    rintro e v4 ⟨rfl, hb⟩
    have EA := Lib.hid (EA.out.next hb)
    clear hb
    have ea0 := EA.out.c0
    have ea1 := EA.out.c1
    have ea2 := EA.out.c2
    go_wp2_with fail
    go_ret
    exact ⟨rfl, EA.out.bel⟩
  have Tb := Lib.hid (fun w' => time_yes b w' kb)
  by_cases kd : Vt d
  rotate_left
  · have Td := Lib.hid (fun w' => time_no d w' kd)
    clear h kd
    go_enter Try.func9, Try.ntmps9
    go_wp2_with fail
    have EA := Lib.hid (Ex.start w (s) (p) (c))
    refine (CK.out _).mono ?_
    rintro e v1 ⟨rfl, hb⟩
    have EA := Lib.hid (EA.out.next hb)
    clear hb
    have ea0 := EA.out.c0
    have ea1 := EA.out.c1
    have ea2 := EA.out.c2
    go_wp2_with fail
    refine (Ta.out _).mono ?_
    rintro e v2 ⟨rfl, rfl⟩
    go_wp2_with fail
    refine (Tb.out _).mono ?_
    rintro e v3 ⟨rfl, rfl⟩
    go_wp2_with fail
    refine (Td.out _).mono ?_
    rintro e v4 ⟨rfl, rfl⟩
    go_wp2_with fail
    refine (WK.out _).mono ?_
    rintro e v5 ⟨rfl, hb⟩
    have EA := Lib.hid (EA.out.next hb)
    clear hb
    have ea0 := EA.out.c0
    have ea1 := EA.out.c1
    have ea2 := EA.out.c2
    go_wp2_with fail
    go_ret
    exact ⟨rfl, EA.out.bel⟩
  have Td := Lib.hid (fun w' => time_yes d w' kd)
  by_cases l1 : b < a
  · have d1 := dec_t l1
    clear h ka kb kd l1
    go_enter Try.func9, Try.ntmps9
    go_wp2_with fail
    have EA := Lib.hid (Ex.start w (s) (p) (c))
    refine (CK.out _).mono ?_
    rintro e v1 ⟨rfl, hb⟩
    have EA := Lib.hid (EA.out.next hb)
    clear hb
    have ea0 := EA.out.c0
    have ea1 := EA.out.c1
    have ea2 := EA.out.c2
    go_wp2_with fail
    refine (Ta.out _).mono ?_
    rintro e v2 ⟨rfl, rfl⟩
    go_wp2_with fail
    refine (Tb.out _).mono ?_
    rintro e v3 ⟨rfl, rfl⟩
    go_wp2_with fail
    refine (Td.out _).mono ?_
    rintro e v4 ⟨rfl, rfl⟩
    go_wp2_with fail
    refine (WK.out _).mono ?_
    rintro e v5 ⟨rfl, hb⟩
    have EA := Lib.hid (EA.out.next hb)
    clear hb
    have ea0 := EA.out.c0
    have ea1 := EA.out.c1
    have ea2 := EA.out.c2
    go_wp2_with fail
    go_ret
    exact ⟨rfl, EA.out.bel⟩
  have d1 := dec_f l1
  by_cases l2 : d ≤ b
  · have d2 := dec_t l2
    clear h ka kb kd l1 l2
    go_enter Try.func9, Try.ntmps9
    go_wp2_with fail
    have EA := Lib.hid (Ex.start w (s) (p) (c))
    refine (CK.out _).mono ?_
    rintro e v1 ⟨rfl, hb⟩
    have EA := Lib.hid (EA.out.next hb)
    clear hb
    have ea0 := EA.out.c0
    have ea1 := EA.out.c1
    have ea2 := EA.out.c2
    go_wp2_with fail
    refine (Ta.out _).mono ?_
    rintro e v2 ⟨rfl, rfl⟩
    go_wp2_with fail
    refine (Tb.out _).mono ?_
    rintro e v3 ⟨rfl, rfl⟩
    go_wp2_with fail
    refine (Td.out _).mono ?_
    rintro e v4 ⟨rfl, rfl⟩
    go_wp2_with fail
    refine (WK.out _).mono ?_
    rintro e v5 ⟨rfl, hb⟩
    have EA := Lib.hid (EA.out.next hb)
    clear hb
    have ea0 := EA.out.c0
    have ea1 := EA.out.c1
    have ea2 := EA.out.c2
    go_wp2_with fail
    go_ret
    exact ⟨rfl, EA.out.bel⟩
  have d2 := dec_f l2
  have kb1 : Vt (b + 1) := ⟨by have := kb.1; omega, by have := kd.2; omega⟩
  have S := Ev.cnt_sum (s := s) (p := p) (c := c) (a := a) (b := b) (d := d) (by omega) (by omega)
  obtain ⟨o0, o1, o2⟩ := Ev.cnt_one (t := b) h
  have g1 := Ev.upto_lo h (a - 1)
  have g2 := Ev.upto_hi h d
  have g3 := Ev.num_small h
  have g4 : Ev.cnt s p c a d = Ev.upto s p c d - Ev.upto s p c (a - 1) := by unfold Ev.cnt; rw [if_neg (by omega)]
  have g5 := Ev.upto_lo h d
  have g6 := Ev.upto_hi h (a - 1)
  obtain ⟨n, hn⟩ : ∃ n, Ev.cnt s p c a b = n := ⟨_, rfl⟩
  obtain ⟨m, hm⟩ : ∃ m, Ev.cnt s p c (b + 1) d = m := ⟨_, rfl⟩
  obtain ⟨al, hal⟩ : ∃ al, Ev.cnt s p c a d = al := ⟨_, rfl⟩
  obtain ⟨o, ho⟩ : ∃ o, Ev.cnt s p c b b = o := ⟨_, rfl⟩
  rw [hn, hm, hal] at S
  rw [ho] at o0 o1 o2
  rw [hal] at g4
  have C1 := Lib.hid (fun w' => count_any s p c a b n 0 w' (.inr (.inr ⟨h, ka, kb, hn.symm, rfl⟩)))
  have C2 := Lib.hid (fun w' => count_any s p c (b + 1) d m 0 w' (.inr (.inr ⟨h, kb1, kd, hm.symm, rfl⟩)))
  have C3 := Lib.hid (fun w' => count_any s p c a d al 0 w' (.inr (.inr ⟨h, ka, kd, hal.symm, rfl⟩)))
  have C4 := Lib.hid (fun w' => count_any s p c b b o 0 w' (.inr (.inr ⟨h, kb, kb, ho.symm, rfl⟩)))
  have C5 := Lib.hid (fun w' => is_any s p c b (o == 1) 0 w' (.inr (.inr ⟨h, kb, rfl, by rw [← o2]; simp⟩)))
  have w1 : IntKind.i64.wrap (b + 1) = b + 1 := by have := kb.1; have := kb.2; rw [IntKind.wrap_i64]; omega
  have w2 : IntKind.i64.wrap (n + m) = al := by rw [IntKind.wrap_i64]; omega
  have d3 : decide (o < 0) = false := dec_f (by omega)
  have d4 : decide (1 < o) = false := dec_f (by omega)
  obtain ⟨bo, hbo⟩ : ∃ bo, (o == 1) = bo := ⟨_, rfl⟩
  rw [hbo] at C5
  clear h ka kb kd kb1 S o0 o1 o2 g1 g2 g3 g4 g5 g6 hn hm hal ho l1 l2
  go_enter Try.func9, Try.ntmps9
  go_wp2_with fail
  have EA := Lib.hid (Ex.start w (s) (p) (c))
  refine (CK.out _).mono ?_
  rintro e v1 ⟨rfl, hb⟩
  have EA := Lib.hid (EA.out.next hb)
  clear hb
  have ea0 := EA.out.c0
  have ea1 := EA.out.c1
  have ea2 := EA.out.c2
  go_wp2_with fail
  refine (Ta.out _).mono ?_
  rintro e v2 ⟨rfl, rfl⟩
  go_wp2_with fail
  refine (Tb.out _).mono ?_
  rintro e v3 ⟨rfl, rfl⟩
  go_wp2_with fail
  refine (Td.out _).mono ?_
  rintro e v4 ⟨rfl, rfl⟩
  go_wp2_with fail
  refine (C1.out _).mono ?_
  rintro e v5 ⟨rfl, hb⟩
  have EA := Lib.hid (EA.out.next hb)
  clear hb
  have ea0 := EA.out.c0
  have ea1 := EA.out.c1
  have ea2 := EA.out.c2
  go_wp2_with fail
  refine (C2.out _).mono ?_
  rintro e v6 ⟨rfl, hb⟩
  have EA := Lib.hid (EA.out.next hb)
  clear hb
  have ea0 := EA.out.c0
  have ea1 := EA.out.c1
  have ea2 := EA.out.c2
  go_wp2_with fail
  refine (C3.out _).mono ?_
  rintro e v7 ⟨rfl, hb⟩
  have EA := Lib.hid (EA.out.next hb)
  clear hb
  have ea0 := EA.out.c0
  have ea1 := EA.out.c1
  have ea2 := EA.out.c2
  go_wp2_with fail
  refine (C4.out _).mono ?_
  rintro e v8 ⟨rfl, hb⟩
  have EA := Lib.hid (EA.out.next hb)
  clear hb
  have ea0 := EA.out.c0
  have ea1 := EA.out.c1
  have ea2 := EA.out.c2
  go_wp2_with fail
  refine (C5.out _).mono ?_
  rintro e v9 ⟨rfl, hb⟩
  have EA := Lib.hid (EA.out.next hb)
  clear hb
  have ea0 := EA.out.c0
  have ea1 := EA.out.c1
  have ea2 := EA.out.c2
  go_wp2_with fail
  refine (WK.out _).mono ?_
  rintro e v10 ⟨rfl, hb⟩
  have EA := Lib.hid (EA.out.next hb)
  clear hb
  have ea0 := EA.out.c0
  have ea1 := EA.out.c1
  have ea2 := EA.out.c2
  go_wp2_with fail
  go_ret
  exact ⟨rfl, EA.out.bel⟩

set_option maxRecDepth 100000 in
theorem lifted (os : Os) (started : os.Started) (H : Type) (enc : TypeId × Value → H) :
    ReturnsInHanded {} Try.checked os 9 .any (Rows.everySumsSpec.pre6 enc Try.prog Try.f9 Rows.everySumsRow.domain false) (Rows.everySumsSpec.post enc Try.prog Try.f9 false true false false) := by
  refine returnsInHanded_of_change (C := Try.checked) own started (by kernel_rfl) Try.func9
    (ChangeSpec.witness6 (enc := enc) (C := Try.checked) false ⟨#[], #[.agg #[.int .i64 0, .int .i64 0, .int .i64 0], .int .i64 0, .int .i64 0, .int .i64 0], []⟩ 8 (by kernel_rfl) (by kernel_rfl) (by kernel_rfl) (by kernel_rfl)) ?_
  intro W base args ds gs before hval0 hW hcnd _
  have hval : ∀ (j : Nat) t v, Try.f9.params[j]? = some t → args[j]? = some v → Value.okWide Try.prog W .any base t v := hval0
  have hW' := hW
  obtain ⟨p, q, hA0, hV, rfl, hfz, hnd⟩ := hW
  have hA : DataW.TrodAll enc Try.prog W 0 (fun _ => true) true Try.f9.params.toList args.toList ds p := hA0
  rw [Try.params9] at hA hval
  obtain ⟨v0, vs0, d0, ds0, p0, q0, hargs, rfl, rfl, h0, r0⟩ := trodAll_cons hA
  obtain ⟨v1, vs1, d1, ds1, p1, q1, rfl, rfl, rfl, h1, r1⟩ := trodAll_cons r0
  obtain ⟨v2, vs2, d2, ds2, p2, q2, rfl, rfl, rfl, h2, r2⟩ := trodAll_cons r1
  obtain ⟨v3, vs3, d3, ds3, p3, q3, rfl, rfl, rfl, h3, r3⟩ := trodAll_cons r2
  obtain ⟨rfl, rfl, rfl⟩ := trodAll_nil r3
  obtain rfl : args = #[v0, v1, v2, v3] := by cases args; simp_all
  obtain ⟨rfl, rfl⟩ := trodVars_none hV
  obtain ⟨s0, p0', c0, rfl, w0⟩ := open_every (hval 0 23 v0 rfl rfl) h0
  have k0 := h0
  have lt0 : ∀ x ∈ p0, x.block < W.heap.size := by obtain ⟨m, hm⟩ := k0; exact DataW.trod_lt m _ _ _ hm
  obtain ⟨a1, rfl, rfl, rfl, w1⟩ := open_int Try.underlying2 (hval 1 2 v1 rfl rfl) h1
  obtain ⟨a2, rfl, rfl, rfl, w2⟩ := open_int Try.underlying2 (hval 2 2 v2 rfl rfl) h2
  obtain ⟨a3, rfl, rfl, rfl, w3⟩ := open_int Try.underlying2 (hval 3 2 v3 rfl rfl) h3
  clear hA0 hval0
  refine (walk s0 p0' c0 a1 a2 a3 W w0 w1 w2 w3).mono fun e W' ⟨he, bel⟩ => ?_
  subst he
  exact ⟨_, rfl, _, _, _, [], _, [], hW', trodAll_mk1 (shut_bool Try.underlying4 _), (trodAll_cons_mk (Below.trod laidOut (by kernel_rfl) (of_decide_eq_true (by kernel_rfl)) k0 bel lt0) (trodAll_cons_mk (shut_int Try.underlying2 w1) (trodAll_cons_mk (shut_int Try.underlying2 w2) (trodAll_cons_mk (shut_int Try.underlying2 w3) trodAll_mk0)))), rfl, bel.frame _, fun h => by cases h⟩

theorem proved : Rows.EverySumsSaid :=
  OpenClaim.holds_of_wide 9 Try.f9 rfl rfl rfl rfl rfl rfl rfl ⟨rfl, rfl, rfl, rfl, rfl⟩ rfl rfl rfl rfl rfl (by kernel_rfl) Try.func9 (by kernel_rfl)
    (of_decide_eq_true (by kernel_rfl)) (by unfold Func.isWrapper; first | (rw [if_pos (by decide +kernel)]; kernel_rfl) | (rw [if_neg (by decide +kernel)]; exact ⟨rfl, rfl⟩))
    (fun os started H enc _ => lifted os started H enc)

end Go.Proofs.Ytnajpgkahnjabaa.everySums
