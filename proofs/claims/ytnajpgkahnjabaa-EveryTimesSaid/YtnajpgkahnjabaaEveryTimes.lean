/- For all schedules and all numbers, EveryTimes returns true: Check, Is, Next and Prev of package every give what the document's give. No conditions. -/
import Derived.Test.YtnajpgkahnjabaaRows
import Derived.Test.YtnajpgkahnjabaaEveArg
import Derived.OpenShut
import Derived.ChangeOld
namespace Go.Proofs.Ytnajpgkahnjabaa.everyTimes
open Go.ChangeShapes Go.WideShapes Go.ChangeAt Go.RowKit

set_option maxRecDepth 100000 in
set_option maxHeartbeats 4000000 in
theorem walk (s p c t : Int) (w : World) (h0 : (Lit.int .i64 s).wf = true ∧ (Lit.int .i64 p).wf = true ∧ (Lit.int .i64 c).wf = true) (h1 : (Lit.int .i64 t).wf = true) :
    Calls Try.prog 3 #[.agg #[.int .i64 s, .int .i64 p, .int .i64 c], .int .i64 t] w fun e w' => e = .returned (.bool true) ∧ Below w.heap.size w w' := by
  have _ := h0; have _ := h1
  obtain ⟨a, e1, q1⟩ := isR_ex s p c t
  obtain ⟨v1, b1, r1, q2⟩ := nextR_ex s p c t
  obtain ⟨v2, b2, r2, q3⟩ := prevR_ex s p c t
  obtain ⟨r3, q4⟩ : ∃ r, errE s p c = r := ⟨_, rfl⟩
  have C1 := Lib.hid (fun w' => is_any s p c t a e1 w' q1)
  have C2 := Lib.hid (fun w' => ris_any s p c t a e1 w' q1)
  have C3 := Lib.hid (fun w' => next_any s p c t v1 b1 r1 w' q2)
  have C4 := Lib.hid (fun w' => rnext_any s p c t v1 b1 r1 w' q2)
  have C5 := Lib.hid (fun w' => prev_any s p c t v2 b2 r2 w' q3)
  have C6 := Lib.hid (fun w' => rprev_any s p c t v2 b2 r2 w' q3)
  have K1 := Lib.hid (fun g W (x : Ex w g s p c W) => (check_any s p c r3 W q4).mono fun _ _ ⟨h1, h2⟩ => (⟨h1, x.next h2⟩ : _ ∧ Ex w g s p c _))
  have K2 := Lib.hid (fun g W (x : Ex w g s p c W) => (rcheck_any s p c r3 W q4).mono fun _ _ ⟨h1, h2⟩ => (⟨h1, x.next h2⟩ : _ ∧ Ex w g s p c _))
  have K3 := Lib.hid (fun g W (x : Ex w g s p c W) => (works_any W).mono fun _ _ ⟨h1, h2⟩ => (⟨h1, x.next h2⟩ : _ ∧ Ex w g s p c _))
  clear q1 q2 q3 q4 h0 h1
  go_enter Try.func3, Try.ntmps3
  go_wp2_with fail
  have EA := Lib.hid (Ex.start w (s) (p) (c))
  refine (C1.out _).mono ?_
  rintro e v1 ⟨rfl, hb⟩
  have EA := Lib.hid (EA.out.next hb)
  clear hb
  have ea0 := EA.out.c0
  have ea1 := EA.out.c1
  have ea2 := EA.out.c2
  go_wp2_with fail
  refine (C2.out _).mono ?_
  rintro e v2 ⟨rfl, hb⟩
  have EA := Lib.hid (EA.out.next hb)
  clear hb
  have ea0 := EA.out.c0
  have ea1 := EA.out.c1
  have ea2 := EA.out.c2
  go_wp2_with fail
  refine (C3.out _).mono ?_
  rintro e v3 ⟨rfl, hb⟩
  have EA := Lib.hid (EA.out.next hb)
  clear hb
  have ea0 := EA.out.c0
  have ea1 := EA.out.c1
  have ea2 := EA.out.c2
  go_wp2_with fail
  refine (C4.out _).mono ?_
  rintro e v4 ⟨rfl, hb⟩
  have EA := Lib.hid (EA.out.next hb)
  clear hb
  have ea0 := EA.out.c0
  have ea1 := EA.out.c1
  have ea2 := EA.out.c2
  go_wp2_with fail
  refine (C5.out _).mono ?_
  rintro e v5 ⟨rfl, hb⟩
  have EA := Lib.hid (EA.out.next hb)
  clear hb
  have ea0 := EA.out.c0
  have ea1 := EA.out.c1
  have ea2 := EA.out.c2
  go_wp2_with fail
  refine (C6.out _).mono ?_
  rintro e v6 ⟨rfl, hb⟩
  have EA := Lib.hid (EA.out.next hb)
  clear hb
  have ea0 := EA.out.c0
  have ea1 := EA.out.c1
  have ea2 := EA.out.c2
  go_wp2_with fail
  go_region_held3 (fun w' => w'.cell? ⟨w.heap.size, 0, none⟩ = some (.int .i64 s) ∧ w'.cell? ⟨w.heap.size, 1, none⟩ = some (.int .i64 p) ∧ w'.cell? ⟨w.heap.size, 2, none⟩ = some (.int .i64 c)) (go_keep)
    (first | (go_at_call 20; refine (K1.out w.heap.size _ (by first | exact EA.out | exact EA.out.drew)).mono ?_; rintro e x9 ⟨rfl, q⟩; have y0 := q.c0; have y1 := q.c1; have y2 := q.c2; have EA := Lib.hid q; clear q) | (go_at_call 21; refine (K2.out w.heap.size _ (by first | exact EA.out | exact EA.out.drew)).mono ?_; rintro e x9 ⟨rfl, q⟩; have y0 := q.c0; have y1 := q.c1; have y2 := q.c2; have EA := Lib.hid q; clear q) | (go_at_call 22; refine (K3.out w.heap.size _ (by first | exact EA.out | exact EA.out.drew)).mono ?_; rintro e x9 ⟨rfl, q⟩; have y0 := q.c0; have y1 := q.c1; have y2 := q.c2; have EA := Lib.hid q; clear q))
  all_goals (go_wp2_with fail; go_ret; exact ⟨rfl, EA.out.bel⟩)

set_option maxRecDepth 100000 in
theorem lifted (os : Os) (started : os.Started) (H : Type) (enc : TypeId × Value → H) :
    ReturnsInHanded {} Try.checked os 3 .any (Rows.everyTimesSpec.pre6 enc Try.prog Try.f3 Rows.everyTimesRow.domain false) (Rows.everyTimesSpec.post enc Try.prog Try.f3 false true false false) := by
  refine returnsInHanded_of_change (C := Try.checked) own started (by kernel_rfl) Try.func3
    (ChangeSpec.witness6 (enc := enc) (C := Try.checked) false ⟨#[], #[.agg #[.int .i64 0, .int .i64 0, .int .i64 0], .int .i64 0], []⟩ 8 (by kernel_rfl) (by kernel_rfl) (by kernel_rfl) (by kernel_rfl)) ?_
  intro W base args ds gs before hval0 hW hcnd _
  have hval : ∀ (j : Nat) t v, Try.f3.params[j]? = some t → args[j]? = some v → Value.okWide Try.prog W .any base t v := hval0
  have hW' := hW
  obtain ⟨p, q, hA0, hV, rfl, hfz, hnd⟩ := hW
  have hA : DataW.TrodAll enc Try.prog W 0 (fun _ => true) true Try.f3.params.toList args.toList ds p := hA0
  rw [Try.params3] at hA hval
  obtain ⟨v0, vs0, d0, ds0, p0, q0, hargs, rfl, rfl, h0, r0⟩ := trodAll_cons hA
  obtain ⟨v1, vs1, d1, ds1, p1, q1, rfl, rfl, rfl, h1, r1⟩ := trodAll_cons r0
  obtain ⟨rfl, rfl, rfl⟩ := trodAll_nil r1
  obtain rfl : args = #[v0, v1] := by cases args; simp_all
  obtain ⟨rfl, rfl⟩ := trodVars_none hV
  obtain ⟨s0, p0', c0, rfl, w0⟩ := open_every (hval 0 23 v0 rfl rfl) h0
  have k0 := h0
  have lt0 : ∀ x ∈ p0, x.block < W.heap.size := by obtain ⟨m, hm⟩ := k0; exact DataW.trod_lt m _ _ _ hm
  obtain ⟨a1, rfl, rfl, rfl, w1⟩ := open_int Try.underlying2 (hval 1 2 v1 rfl rfl) h1
  clear hA0 hval0
  refine (walk s0 p0' c0 a1 W w0 w1).mono fun e W' ⟨he, bel⟩ => ?_
  subst he
  exact ⟨_, rfl, _, _, _, [], _, [], hW', trodAll_mk1 (shut_bool Try.underlying4 _), (trodAll_cons_mk (Below.trod laidOut (by kernel_rfl) (of_decide_eq_true (by kernel_rfl)) k0 bel lt0) (trodAll_cons_mk (shut_int Try.underlying2 w1) trodAll_mk0)), rfl, bel.frame _, fun h => by cases h⟩

theorem proved : Rows.EveryTimesSaid :=
  OpenClaim.holds_of_wide 3 Try.f3 rfl rfl rfl rfl rfl rfl rfl ⟨rfl, rfl, rfl, rfl, rfl⟩ rfl rfl rfl rfl rfl (by kernel_rfl) Try.func3 (by kernel_rfl)
    (of_decide_eq_true (by kernel_rfl)) (by unfold Func.isWrapper; first | (rw [if_pos (by decide +kernel)]; kernel_rfl) | (rw [if_neg (by decide +kernel)]; exact ⟨rfl, rfl⟩))
    (fun os started H enc _ => lifted os started H enc)

end Go.Proofs.Ytnajpgkahnjabaa.everyTimes
