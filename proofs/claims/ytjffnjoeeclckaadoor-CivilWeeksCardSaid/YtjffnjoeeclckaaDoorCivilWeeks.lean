/- For all int64 numbers t, CivilWeeks returns true: the day after is the next day of the week, and seven days later it is the same again. Condition: the package-level tables start as the program's text lays them (tied). -/
import Derived.Test.YtjffnjoeeclckaaDoorCivDoor
import Derived.Test.YtjffnjoeeclckaaDoorCivBoth
namespace Go.Proofs.YtjffnjoeeclckaaDoor.civilWeeks
open Go.ChangeShapes Go.WideShapes Go.ChangeAt Go.RowKit

theorem week_v (t a : Int) (w : World) (h0 : 0 ≤ t) (h1 : t ≤ 253402300799) (ha : (t / 86400 + 4) % 7 = a) :
    Calls Tryd.prog 26 #[.int .i64 t] w fun e w' => e = .returned (.tuple #[.int .i64 a, .int .i64 0]) ∧ w = w' := by
  subst ha; exact week_yes t w h0 h1
set_option maxRecDepth 100000 in
theorem walk (t : Int) (w : World) (L : Lay w) (_ : (Lit.int .i64 t).wf = true) :
    Calls Tryd.prog 11 #[.int .i64 t] w fun e w' => e = .returned (.bool true) ∧ Below w.heap.size w w' := by
  by_cases c0 : t < 0
  · have d0 : decide (0 ≤ t) = false := by simp; omega
    go_enter Tryd.func11, Tryd.ntmps11
    go_wp2_with (first
      | (go_at_call 26; refine (week_no _ _ (.inl c0)).mono ?_; rintro e w' ⟨rfl, rfl⟩)
      | (go_at_call 21; refine (works_any _ L).mono ?_; rintro e w1 ⟨rfl, b⟩))
    go_ret
    exact ⟨rfl, b⟩
  · have d0 : decide (0 ≤ t) = true := by simp; omega
    by_cases c1 : 253402300799 < t
    · have d1 : decide (t ≤ 253402300799) = false := by simp; omega
      go_enter Tryd.func11, Tryd.ntmps11
      go_wp2_with (first
        | (go_at_call 26; refine (week_no _ _ (.inr c1)).mono ?_; rintro e w' ⟨rfl, rfl⟩)
        | (go_at_call 21; refine (works_any _ L).mono ?_; rintro e w1 ⟨rfl, b⟩))
      go_ret
      exact ⟨rfl, b⟩
    · have d1 : decide (t ≤ 253402300799) = true := by simp; omega
      obtain ⟨a, ha, a0, a6⟩ : ∃ a, (t / 86400 + 4) % 7 = a ∧ 0 ≤ a ∧ a ≤ 6 := ⟨_, rfl, by omega, by omega⟩
      have A := Lib.hid (fun w => week_v t a w (by omega) (by omega) ha)
      by_cases c2 : 253401695999 < t
      · clear ha
        go_enter Tryd.func11, Tryd.ntmps11
        go_wp2_with (first
          | (go_at_call 26; refine (A.out _).mono ?_; rintro e w' ⟨rfl, rfl⟩)
          | (go_at_call 21; refine (works_any _ L).mono ?_; rintro e w1 ⟨rfl, b⟩))
        go_ret
        exact ⟨rfl, b⟩
      · have B := Lib.hid (fun w => week_v (t + 86400) ((a + 1) % 7) w (by omega) (by omega) (by omega))
        have C := Lib.hid (fun w => week_v (t + 604800) a w (by omega) (by omega) (by omega))
        have D := Lib.hid (fun w => week_v (t - t % 86400) a w (by omega) (by omega) (by omega))
        clear ha
        go_enter Tryd.func11, Tryd.ntmps11
        go_wp2_with fail
        refine (A.out _).mono ?_
        rintro e w' ⟨rfl, rfl⟩
        go_wp2_with fail
        refine (B.out _).mono ?_
        rintro e w' ⟨rfl, rfl⟩
        go_wp2_with fail
        refine (C.out _).mono ?_
        rintro e w' ⟨rfl, rfl⟩
        go_wp2_with fail
        refine (D.out _).mono ?_
        rintro e w' ⟨rfl, rfl⟩
        go_wp2_with fail
        refine (works_any _ L).mono ?_
        rintro e w1 ⟨rfl, b⟩
        go_wp2_with fail
        go_ret
        exact ⟨rfl, b⟩

theorem listed : Rows.civilWeeksRow.laid.find? isLengths = some (((Rows.civilWeeksRow.laid.find? isLengths).map (·.1)).getD "", Rows.laid_wakeman_civil_lengths) := by kernel_rfl

set_option maxRecDepth 100000 in
theorem lifted (os : Os) (started : os.Started) (H : Type) (enc : TypeId × Value → H) :
    ReturnsInHanded {} Tryd.checked os 11 .any (fun w args => (Rows.civilWeeksSpec.pre enc Tryd.prog Tryd.f11 [] false w args ∧ laidMetH Tryd.prog Rows.civilWeeksRow.laid w) ∧ sizedMet enc Tryd.prog Tryd.f11 (OpenSpec.ofChange Rows.civilWeeksSpec) false w args)
      (Rows.civilWeeksSpec.post enc Tryd.prog Tryd.f11 false true false false) := by
  refine returnsInHanded_of_change_and (C := Tryd.checked) (X := fun w _ => laidMetH Tryd.prog Rows.civilWeeksRow.laid w) (fun _ _ _ hh h => h.of_heap hh) own started (by kernel_rfl) Tryd.func11
    (ChangeSpec.witness_shaped (enc := enc) (C := Tryd.checked) (os := os) (X := fun w _ => laidMetH Tryd.prog Rows.civilWeeksRow.laid w) false (World.doorLaid Tryd.prog 400 os) #[.int .i64 0] 8 rfl (shaped0 os _) (by kernel_rfl) (by kernel_rfl) (by kernel_rfl) (door_met os _)) ?_
  intro W base args ds gs before hval0 hW _ _ hL _
  have hval : ∀ (j : Nat) t v, Tryd.f11.params[j]? = some t → args[j]? = some v → Value.okWide Tryd.prog W .any base t v := hval0
  have hW' := hW
  obtain ⟨p, q, hA0, hV, rfl, hfz, hnd⟩ := hW
  have hA : DataW.TrodAll enc Tryd.prog W 0 (fun _ => true) true Tryd.f11.params.toList args.toList ds p := hA0
  rw [Tryd.params11] at hA hval
  obtain ⟨v0, vs0, d0, ds0, p0, q0, hargs, rfl, rfl, h0, r0⟩ := trodAll_cons hA
  obtain ⟨rfl, rfl, rfl⟩ := trodAll_nil r0
  obtain rfl : args = #[v0] := by cases args; simp_all
  obtain ⟨rfl, rfl⟩ := trodVars_none hV
  obtain ⟨a0, rfl, rfl, rfl, w0⟩ := open_int Tryd.underlying2 (hval 0 2 v0 rfl rfl) h0
  clear hA0 hval0
  refine (walk a0 W (lay_of _ W (by kernel_rfl) _ listed hL) w0).mono fun e W' ⟨he, bel⟩ => ?_
  subst he
  exact ⟨_, rfl, _, _, _, [], _, [], hW', trodAll_mk1 (shut_bool Tryd.underlying4 _), (trodAll_cons_mk (shut_int Tryd.underlying2 w0) trodAll_mk0), rfl, bel.frame _, fun h => by cases h⟩

theorem row_holds : Rows.CivilWeeksSaid :=
  OpenClaim.holds_of_wide 11 Tryd.f11 rfl rfl rfl rfl rfl rfl rfl ⟨rfl, rfl, rfl, rfl, rfl⟩ rfl rfl rfl rfl rfl (by kernel_rfl) Tryd.func11 (by kernel_rfl)
    (of_decide_eq_true (by kernel_rfl)) (by unfold Func.isWrapper; first | (rw [if_pos (by decide +kernel)]; kernel_rfl) | (rw [if_neg (by decide +kernel)]; exact ⟨rfl, rfl⟩))
    (fun os started H enc _ => lifted os started H enc)

theorem proved : Rows.CivilWeeksCardSaid :=
  Claim7.holds_tied_plain_at .later [] Rows.civilWeeksCard.laidKinds true Rows.civilWeeksCard.stood.harness Rows.civilWeeksCard.stood.looks
    row_holds (fun _ h => by cases h) (by kernel_rfl) (fun _ h => by cases h) civilWeeks_row_tie rfl ⟨rfl, rfl⟩ (by kernel_rfl) rfl
    (fun f fn hf hfn => by
      obtain rfl : f = 11 := Option.some.inj ((show Tryd.prog.funcNamed Rows.civilWeeksRow.func = some 11 by kernel_rfl).symm.trans hf) |>.symm
      obtain rfl : fn = Tryd.f11 := (Option.some.inj (Tryd.func11.symm.trans hfn)).symm
      exact ⟨looks0, fun j t ht => by
        rw [Tryd.params11] at ht
        have hm : t ∈ [2] := by simpa using Array.mem_of_getElem? ht
        have hall : ([2].all fun u => !Tryd.prog.wantsStandIn u) = true := by kernel_rfl
        exact (show Tryd.prog.wantsStandIn t = false by simpa using List.all_eq_true.1 hall t hm)⟩)
    (by kernel_rfl)
end Go.Proofs.YtjffnjoeeclckaaDoor.civilWeeks
