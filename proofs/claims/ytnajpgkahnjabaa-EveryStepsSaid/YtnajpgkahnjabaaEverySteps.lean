/- For all schedules and all times EverySteps returns true: the next time belongs to the schedule, is later, and none lies between; the one before it is the time itself if that belongs to the schedule. No conditions. -/
import Derived.Test.YtnajpgkahnjabaaRows
import Derived.Test.YtnajpgkahnjabaaEveArg
import Derived.OpenShut
import Derived.ChangeOld
namespace Go.Proofs.Ytnajpgkahnjabaa.everySteps
open Go.ChangeShapes Go.WideShapes Go.ChangeAt Go.RowKit

set_option maxRecDepth 100000 in
set_option maxHeartbeats 4000000 in
theorem walk (s p c t : Int) (w : World) (h0 : (Lit.int .i64 s).wf = true ∧ (Lit.int .i64 p).wf = true ∧ (Lit.int .i64 c).wf = true) (h1 : (Lit.int .i64 t).wf = true) :
    Calls Try.prog 7 #[.agg #[.int .i64 s, .int .i64 p, .int .i64 c], .int .i64 t] w fun e w' => e = .returned (.bool true) ∧ Below w.heap.size w w' := by
  have WK := Lib.hid works_any
  have _ := h0; have _ := h1
  clear h0 h1
  by_cases h : Ev.Ok s p c
  rotate_left
  · have CK := Lib.hid (fun w' => check_no s p c w' h)
    clear h
    go_enter Try.func7, Try.ntmps7
    go_wp2_with fail
    have EA := Lib.hid (Ex.start w (s) (p) (c))
    refine (CK.out _).mono ?_
    rintro e v1 ⟨rfl, hb⟩
    have EA := Lib.hid (EA.out.next hb)
    clear hb
    have ea0 := EA.out.c0
    have ea1 := EA.out.c1
    have ea2 := EA.out.c2
    go_wp2_with fail
    refine (WK.out _).mono ?_
    rintro e v2 ⟨rfl, hb⟩
    have EA := Lib.hid (EA.out.next hb)
    clear hb
    have ea0 := EA.out.c0
    have ea1 := EA.out.c1
    have ea2 := EA.out.c2
    go_wp2_with fail
    go_ret
    exact ⟨rfl, EA.out.bel⟩
  have CK := Lib.hid (fun w' => check_yes s p c w' h)
  by_cases kt : Vt t
  rotate_left
  · have TT := Lib.hid (fun w' => time_no t w' kt)
    clear h kt
    go_enter Try.func7, Try.ntmps7
    go_wp2_with fail
    have EA := Lib.hid (Ex.start w (s) (p) (c))
    refine (CK.out _).mono ?_
    rintro e v1 ⟨rfl, hb⟩
    have EA := Lib.hid (EA.out.next hb)
    clear hb
    have ea0 := EA.out.c0
    have ea1 := EA.out.c1
    have ea2 := EA.out.c2
    go_wp2_with fail
    refine (TT.out _).mono ?_
    rintro e v2 ⟨rfl, rfl⟩
    go_wp2_with fail
    refine (WK.out _).mono ?_
    rintro e v3 ⟨rfl, hb⟩
    have EA := Lib.hid (EA.out.next hb)
    clear hb
    have ea0 := EA.out.c0
    have ea1 := EA.out.c1
    have ea2 := EA.out.c2
    go_wp2_with fail
    go_ret
    exact ⟨rfl, EA.out.bel⟩
  have TT := Lib.hid (fun w' => time_yes t w' kt)
  have KT := Lib.hid kt
  have H := Lib.hid h
  -- the answers at each time
  have A1 := Lib.hid (fun u (ku : Vt u) (b : Bool) (hb : b = true ↔ Ev.On s p c u) w' => is_any s p c u b 0 w' (.inr (.inr ⟨h, ku, rfl, hb⟩)))
  have A2 := Lib.hid (fun u (ku : Vt u) (v : Int) (b : Bool) (hv : Ev.IsNext s p c u v b) w' => next_any s p c u v b 0 w' (.inr (.inr ⟨h, ku, rfl, hv⟩)))
  have A3 := Lib.hid (fun u (ku : Vt u) (v : Int) (b : Bool) (hv : Ev.IsPrev s p c u v b) w' => prev_any s p c u v b 0 w' (.inr (.inr ⟨h, ku, rfl, hv⟩)))
  have A4 := Lib.hid (fun u v (ku : Vt u) (kv : Vt v) w' => count_any s p c u v (Ev.cnt s p c u v) 0 w' (.inr (.inr ⟨h, ku, kv, rfl, rfl⟩)))
  have A5 := Lib.hid (fun w' => lastf_any s p c (Ev.last s p c) true 0 w' (.inr ⟨h, rfl, rfl, rfl⟩))
  clear h kt
  go_enter Try.func7, Try.ntmps7
  go_wp2_with fail
  have EA := Lib.hid (Ex.start w (s) (p) (c))
  refine (CK.out _).mono ?_
  rintro e v1 ⟨rfl, hb⟩
  have EA := Lib.hid (EA.out.next hb)
  clear hb
  have ea0 := EA.out.c0
  have ea1 := EA.out.c1
  have ea2 := EA.out.c2
  go_wp2_with fail
  refine (TT.out _).mono ?_
  rintro e v2 ⟨rfl, rfl⟩
  go_wp2_with fail
  clear CK TT
  go_loopw [1, 29] (fun tv iv W => ∃ (u : Int) (i : Nat), i ≤ 10 ∧ tv = .int .i64 u ∧ iv = .int .i64 i ∧ Hid (Vt u) ∧ Hid (Ex w w.heap.size s p c W)) (fun _ iv _ => 10 - (intOf iv).toNat)
  case atStart => exact ⟨t, 0, by omega, rfl, rfl, KT, EA⟩
  case round =>
    clear EA ea0 ea1 ea2
    obtain ⟨u, i, hi, rfl, rfl, KU, EA⟩ := hrel
    have ea0 := EA.out.c0
    have ea1 := EA.out.c1
    have ea2 := EA.out.c2
    by_cases lt : i < 10
    · have d0 : decide ((i : Int) < 10) = true := dec_t (by omega)
      have d9 : decide (i < 10) = true := dec_t lt
      have wi : IntKind.i64.wrap ((i : Int) + 1) = (i : Int) + 1 := by rw [IntKind.wrap_i64]; omega
      obtain ⟨b, hb⟩ : ∃ b : Bool, (b = true ↔ Ev.On s p c u) := by
        classical
        exact ⟨decide (Ev.On s p c u), by simp⟩
      obtain ⟨v, ok, hv⟩ := next_ex u H.out
      have C1 := Lib.hid (A1.out u KU.out b hb)
      have C2 := Lib.hid (A2.out u KU.out v ok hv)
      have HB := Lib.hid hb
      rcases hv with ⟨rfl, on, gt, least⟩ | ⟨rfl, rfl, none_⟩
      · have vv : Vt v := ⟨by have := KU.out.1; omega, (Ev.on_time H.out on).2.1⟩
        have C3 := Lib.hid (A1.out v vv true (by simpa using on))
        have C4 := Lib.hid (A4.out u v KU.out vv)
        have CN := Ev.cnt_next (t := u) (v := v) H.out (.inl ⟨rfl, on, gt, least⟩)
        have OU := Ev.on_upto (t := u) H.out
        have VV := Lib.hid vv
        have d1 : decide (v ≤ u) = false := dec_f (by omega)
        cases b with
        | true =>
          have ou := hb.1 rfl
          rw [if_pos (OU.1 ou)] at CN
          rw [CN] at C4
          have C5 := Lib.hid (A3.out v vv u true (.inl ⟨rfl, ou, gt, fun z oz lz => by
            apply Classical.byContradiction
            intro q
            have := least z oz (by omega)
            omega⟩))
          clear hb on gt least CN OU ou vv
          go_wp2_with fail
          refine (C1.out _).mono ?_
          rintro e v1 ⟨rfl, hb⟩
          have EA := Lib.hid (EA.out.next hb)
          clear hb
          have ea0 := EA.out.c0
          have ea1 := EA.out.c1
          have ea2 := EA.out.c2
          go_wp2_with fail
          refine (C2.out _).mono ?_
          rintro e v2 ⟨rfl, hb⟩
          have EA := Lib.hid (EA.out.next hb)
          clear hb
          have ea0 := EA.out.c0
          have ea1 := EA.out.c1
          have ea2 := EA.out.c2
          go_wp2_with fail
          refine (C3.out _).mono ?_
          rintro e v3 ⟨rfl, hb⟩
          have EA := Lib.hid (EA.out.next hb)
          clear hb
          have ea0 := EA.out.c0
          have ea1 := EA.out.c1
          have ea2 := EA.out.c2
          go_wp2_with fail
          refine (C4.out _).mono ?_
          rintro e v4 ⟨rfl, hb⟩
          have EA := Lib.hid (EA.out.next hb)
          clear hb
          have ea0 := EA.out.c0
          have ea1 := EA.out.c1
          have ea2 := EA.out.c2
          go_wp2_with fail
          refine (C5.out _).mono ?_
          rintro e v5 ⟨rfl, hb⟩
          have EA := Lib.hid (EA.out.next hb)
          clear hb
          have ea0 := EA.out.c0
          have ea1 := EA.out.c1
          have ea2 := EA.out.c2
          go_wp2_with fail
          go_round
          case rel => exact ⟨v, i + 1, by omega, rfl, by go_num, VV, EA⟩
          case measure => simp [intOf]; omega
        | false =>
          have ou : ¬ Ev.On s p c u := fun q => by have := hb.2 q; simp at this
          rw [if_neg (fun q => ou (OU.2 q))] at CN
          rw [CN] at C4
          obtain ⟨z, was, hz⟩ := prev_ex v H.out
          have C5 := Lib.hid (A3.out v vv z was hz)
          have LZ : was = true → z < u := fun e => by
            rcases hz with ⟨_, oz, lz, _⟩ | ⟨e', _⟩
            · apply Classical.byContradiction
              intro q
              by_cases e2 : z = u
              · rw [e2] at oz; exact ou oz
              · have := least z oz (by omega); omega
            · rw [e] at e'; simp at e'
          have LZ := Lib.hid LZ
          clear hb on gt least CN OU ou vv hz
          cases was with
          | true =>
            have d2 : decide (u ≤ z) = false := dec_f (by have := LZ.out rfl; omega)
            clear LZ
            go_wp2_with fail
            refine (C1.out _).mono ?_
            rintro e v1 ⟨rfl, hb⟩
            have EA := Lib.hid (EA.out.next hb)
            clear hb
            have ea0 := EA.out.c0
            have ea1 := EA.out.c1
            have ea2 := EA.out.c2
            go_wp2_with fail
            refine (C2.out _).mono ?_
            rintro e v2 ⟨rfl, hb⟩
            have EA := Lib.hid (EA.out.next hb)
            clear hb
            have ea0 := EA.out.c0
            have ea1 := EA.out.c1
            have ea2 := EA.out.c2
            go_wp2_with fail
            refine (C3.out _).mono ?_
            rintro e v3 ⟨rfl, hb⟩
            have EA := Lib.hid (EA.out.next hb)
            clear hb
            have ea0 := EA.out.c0
            have ea1 := EA.out.c1
            have ea2 := EA.out.c2
            go_wp2_with fail
            refine (C4.out _).mono ?_
            rintro e v4 ⟨rfl, hb⟩
            have EA := Lib.hid (EA.out.next hb)
            clear hb
            have ea0 := EA.out.c0
            have ea1 := EA.out.c1
            have ea2 := EA.out.c2
            go_wp2_with fail
            refine (C5.out _).mono ?_
            rintro e v5 ⟨rfl, hb⟩
            have EA := Lib.hid (EA.out.next hb)
            clear hb
            have ea0 := EA.out.c0
            have ea1 := EA.out.c1
            have ea2 := EA.out.c2
            go_wp2_with fail
            go_round
            case rel => exact ⟨v, i + 1, by omega, rfl, by go_num, VV, EA⟩
            case measure => simp [intOf]; omega
          | false =>
            clear LZ
            go_wp2_with fail
            refine (C1.out _).mono ?_
            rintro e v1 ⟨rfl, hb⟩
            have EA := Lib.hid (EA.out.next hb)
            clear hb
            have ea0 := EA.out.c0
            have ea1 := EA.out.c1
            have ea2 := EA.out.c2
            go_wp2_with fail
            refine (C2.out _).mono ?_
            rintro e v2 ⟨rfl, hb⟩
            have EA := Lib.hid (EA.out.next hb)
            clear hb
            have ea0 := EA.out.c0
            have ea1 := EA.out.c1
            have ea2 := EA.out.c2
            go_wp2_with fail
            refine (C3.out _).mono ?_
            rintro e v3 ⟨rfl, hb⟩
            have EA := Lib.hid (EA.out.next hb)
            clear hb
            have ea0 := EA.out.c0
            have ea1 := EA.out.c1
            have ea2 := EA.out.c2
            go_wp2_with fail
            refine (C4.out _).mono ?_
            rintro e v4 ⟨rfl, hb⟩
            have EA := Lib.hid (EA.out.next hb)
            clear hb
            have ea0 := EA.out.c0
            have ea1 := EA.out.c1
            have ea2 := EA.out.c2
            go_wp2_with fail
            refine (C5.out _).mono ?_
            rintro e v5 ⟨rfl, hb⟩
            have EA := Lib.hid (EA.out.next hb)
            clear hb
            have ea0 := EA.out.c0
            have ea1 := EA.out.c1
            have ea2 := EA.out.c2
            go_wp2_with fail
            go_round
            case rel => exact ⟨v, i + 1, by omega, rfl, by go_num, VV, EA⟩
            case measure => simp [intOf]; omega
      · have le : Ev.last s p c ≤ u := none_ _ (Ev.last_on H.out)
        obtain ⟨la, hla⟩ : ∃ la, Ev.last s p c = la := ⟨_, rfl⟩
        have A6 := A5
        rw [hla] at le A6
        have d1 : decide (la ≤ u) = true := dec_t le
        clear hb none_ hla le
        go_wp2_with fail
        refine (C1.out _).mono ?_
        rintro e v1 ⟨rfl, hb⟩
        have EA := Lib.hid (EA.out.next hb)
        clear hb
        have ea0 := EA.out.c0
        have ea1 := EA.out.c1
        have ea2 := EA.out.c2
        go_wp2_with fail
        refine (C2.out _).mono ?_
        rintro e v2 ⟨rfl, hb⟩
        have EA := Lib.hid (EA.out.next hb)
        clear hb
        have ea0 := EA.out.c0
        have ea1 := EA.out.c1
        have ea2 := EA.out.c2
        go_wp2_with fail
        refine (A6.out _).mono ?_
        rintro e v3 ⟨rfl, hb⟩
        have EA := Lib.hid (EA.out.next hb)
        clear hb
        have ea0 := EA.out.c0
        have ea1 := EA.out.c1
        have ea2 := EA.out.c2
        go_wp2_with fail
        refine (WK.out _).mono ?_
        rintro e v4 ⟨rfl, hb⟩
        have EA := Lib.hid (EA.out.next hb)
        clear hb
        have ea0 := EA.out.c0
        have ea1 := EA.out.c1
        have ea2 := EA.out.c2
        go_wp2_with fail
        go_ret
        exact ⟨rfl, EA.out.bel⟩
    · have d0 : decide ((i : Int) < 10) = false := dec_f (by omega)
      have d9 : decide (i < 10) = false := dec_f lt
      go_wp2_with fail
      refine (WK.out _).mono ?_
      rintro e v3 ⟨rfl, hb⟩
      have EA := Lib.hid (EA.out.next hb)
      clear hb
      have ea0 := EA.out.c0
      have ea1 := EA.out.c1
      have ea2 := EA.out.c2
      go_wp2_with fail
      go_ret
      exact ⟨rfl, EA.out.bel⟩

set_option maxRecDepth 100000 in
theorem lifted (os : Os) (started : os.Started) (H : Type) (enc : TypeId × Value → H) :
    ReturnsInHanded {} Try.checked os 7 .any (Rows.everyStepsSpec.pre6 enc Try.prog Try.f7 Rows.everyStepsRow.domain false) (Rows.everyStepsSpec.post enc Try.prog Try.f7 false true false false) := by
  refine returnsInHanded_of_change (C := Try.checked) own started (by kernel_rfl) Try.func7
    (ChangeSpec.witness6 (enc := enc) (C := Try.checked) false ⟨#[], #[.agg #[.int .i64 0, .int .i64 0, .int .i64 0], .int .i64 0], []⟩ 8 (by kernel_rfl) (by kernel_rfl) (by kernel_rfl) (by kernel_rfl)) ?_
  intro W base args ds gs before hval0 hW hcnd _
  have hval : ∀ (j : Nat) t v, Try.f7.params[j]? = some t → args[j]? = some v → Value.okWide Try.prog W .any base t v := hval0
  have hW' := hW
  obtain ⟨p, q, hA0, hV, rfl, hfz, hnd⟩ := hW
  have hA : DataW.TrodAll enc Try.prog W 0 (fun _ => true) true Try.f7.params.toList args.toList ds p := hA0
  rw [Try.params7] at hA hval
  obtain ⟨v0, vs0, d0, ds0, p0, q0, hargs, rfl, rfl, h0, r0⟩ := trodAll_cons hA
  obtain ⟨v1, vs1, d1, ds1, p1, q1, rfl, rfl, rfl, h1, r1⟩ := trodAll_cons r0
  obtain ⟨rfl, rfl, rfl⟩ := trodAll_nil r1
  obtain rfl : args = #[v0, v1] := by cases args; simp_all
  obtain ⟨rfl, rfl⟩ := trodVars_none hV
  obtain ⟨s0, p0', c0, rfl, w0⟩ := open_every (hval 0 23 v0 rfl rfl) h0
  have k0 := h0
  have lt0 : ∀ x ∈ p0, x.block < W.heap.size := by obtain ⟨m, hm⟩ := k0; exact DataW.trod_lt m _ _ _ hm
  obtain ⟨a1, rfl, rfl, rfl, w1⟩ := open_int Try.underlying2 (hval 1 2 v1 rfl rfl) h1
  clear hA0 hval0
  refine (walk s0 p0' c0 a1 W w0 w1).mono fun e W' ⟨he, bel⟩ => ?_
  subst he
  exact ⟨_, rfl, _, _, _, [], _, [], hW', trodAll_mk1 (shut_bool Try.underlying4 _), (trodAll_cons_mk (Below.trod laidOut (by kernel_rfl) (of_decide_eq_true (by kernel_rfl)) k0 bel lt0) (trodAll_cons_mk (shut_int Try.underlying2 w1) trodAll_mk0)), rfl, bel.frame _, fun h => by cases h⟩

theorem proved : Rows.EveryStepsSaid :=
  OpenClaim.holds_of_wide 7 Try.f7 rfl rfl rfl rfl rfl rfl rfl ⟨rfl, rfl, rfl, rfl, rfl⟩ rfl rfl rfl rfl rfl (by kernel_rfl) Try.func7 (by kernel_rfl)
    (of_decide_eq_true (by kernel_rfl)) (by unfold Func.isWrapper; first | (rw [if_pos (by decide +kernel)]; kernel_rfl) | (rw [if_neg (by decide +kernel)]; exact ⟨rfl, rfl⟩))
    (fun os started H enc _ => lifted os started H enc)

end Go.Proofs.Ytnajpgkahnjabaa.everySteps
