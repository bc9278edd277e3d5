/- For all int64 numbers t, CivilCycles returns true: 400 years later the month, the day, the time of day and the day of the week are the same. Condition: the package-level tables start as the program's text lays them (tied). -/
import Derived.Test.YtjffnjoeeclckaaDoorCivDoor
import Derived.Test.YtjffnjoeeclckaaDoorCivBoth
namespace Go.Proofs.YtjffnjoeeclckaaDoor.civilCycles
open Go.ChangeShapes Go.WideShapes Go.ChangeAt Go.RowKit

set_option maxRecDepth 100000 in
theorem no (t : Int) (w : World) (L : Lay w) (ht : t < 0 ∨ 240779519999 < t) :
    Calls Tryd.prog 12 #[.int .i64 t] w fun e w' => e = .returned (.bool true) ∧ Below w.heap.size w w' := by
  have d : decide (t < 0) = true ∨ (decide (t < 0) = false ∧ decide (240779519999 < t) = true) := by simp; omega
  clear ht
  rcases d with d | ⟨d, d'⟩
  all_goals
    go_enter Tryd.func12, Tryd.ntmps12
    go_wp2_with fail
    refine (works_any _ L).mono ?_
    rintro e w5 ⟨rfl, b⟩
    go_wp2_with fail
    go_ret
    exact ⟨rfl, b⟩

theorem early {y m d h i s t : Int} (v : Civ.CVld y m d h i s) (ht : Civ.secs y m d h i s = t) (c : t ≤ 240779519999) : y + 400 ≤ 9999 := by
  have a := Civ.num_bd v.1
  obtain ⟨_, h0, h1, i0, i1, s0, s1⟩ := v
  by_cases q : y + 400 ≤ 9999
  · exact q
  · have := Civ.dby_mono (show 9600 ≤ y by omega)
    have e : Civ.dby 9600 = 2786800 := by decide
    unfold Civ.secs at ht
    omega

set_option maxRecDepth 100000 in
theorem yes (y m d h i s t : Int) (w : World) (L : Lay w) (v : Civ.CVld y m d h i s) (ht : Civ.secs y m d h i s = t) (c : t ≤ 240779519999) :
    Calls Tryd.prog 12 #[.int .i64 t] w fun e w' => e = .returned (.bool true) ∧ Below w.heap.size w w' := by
  obtain ⟨t0, t1⟩ := Civ.secs_range v
  rw [ht] at t0 t1
  have y0 := v.1.1
  have y1 := early v ht c
  have v2 : Civ.CVld (y + 400) m d h i s := ⟨Civ.vld_cycle v.1 y1, v.2⟩
  have ht2 : Civ.secs (y + 400) m d h i s = t + 12622780800 := by rw [Civ.secs_cycle, ht]
  have e0 : decide (t < 0) = false := by simp; omega
  have e1 : decide (240779519999 < t) = false := by simp; omega
  obtain ⟨a, ha⟩ : ∃ a, (t / 86400 + 4) % 7 = a := ⟨_, rfl⟩
  have A := Lib.hid (fun w L => of_yes y m d h i s t w L v ht)
  have B := Lib.hid (fun w L => of_yes (y + 400) m d h i s (t + 12622780800) w L v2 ht2)
  have C := Lib.hid (fun w => week_yes t w t0 t1)
  have D := Lib.hid (fun w => week_yes (t + 12622780800) w (by omega) (by omega))
  rw [show ((t + 12622780800) / 86400 + 4) % 7 = (t / 86400 + 4) % 7 by omega] at D
  rw [ha] at C D
  clear v ht v2 ht2 ha
  go_enter Tryd.func12, Tryd.ntmps12
  go_wp2_with fail
  refine (A.out _ L).mono ?_
  rintro e w1 ⟨rfl, b⟩
  have hw1 := b.size
  obtain ⟨W1, hW, P⟩ := civ6_start w w1 b y m d h i s 34
  have H1 := Lib.hid hW
  have P1 := Lib.hid P
  clear hW P b
  go_wp2_with fail
  rw [← H1.out]
  refine (B.out _ (L.below P1.out.bel)).mono ?_
  rintro e w2 ⟨rfl, b⟩
  obtain ⟨W2, hW, P, Q⟩ := civ6_next P1.out b (y + 400) m d h i s 34
  have hne := b.size
  have hb1 := P1.out.hB
  have H2 := Lib.hid hW
  have P2 := Lib.hid P
  have Q2 := Lib.hid Q
  clear hW P Q b
  go_wp2_with fail
  rw [← H2.out]
  refine (C.out _).mono ?_
  rintro e w' ⟨rfl, rfl⟩
  go_wp2_with fail
  refine (D.out _).mono ?_
  rintro e w' ⟨rfl, rfl⟩
  have p0 := P2.out.g0
  have p1 := P2.out.g1
  have p2 := P2.out.g2
  have p3 := P2.out.g3
  have p4 := P2.out.g4
  have p5 := P2.out.g5
  have pf := P2.out.f0
  have q0 := Q2.out.g0
  have q1 := Q2.out.g1
  have q2 := Q2.out.g2
  have q3 := Q2.out.g3
  have q4 := Q2.out.g4
  have q5 := Q2.out.g5
  have eq := same6_t (y + 400) m d h i s
  have ne : w1.heap.size ≠ w2.heap.size := by omega
  go_wp2_with fail
  have hbel : Below w.heap.size w (W2.setCell ⟨w1.heap.size, 0, none⟩ (.int .i64 (y + 400))) := P2.out.bel.setCell hw1 _
  refine (works_any _ (L.below hbel)).mono ?_
  rintro e w5 ⟨rfl, b⟩
  go_wp2_with fail
  go_ret
  exact ⟨rfl, hbel.trans (b.mono hbel.size)⟩

theorem walk (t : Int) (w : World) (L : Lay w) (_ : (Lit.int .i64 t).wf = true) :
    Calls Tryd.prog 12 #[.int .i64 t] w fun e w' => e = .returned (.bool true) ∧ Below w.heap.size w w' := by
  by_cases c : t < 0 ∨ 240779519999 < t
  · exact no t w L c
  · obtain ⟨y, m, d, h, i, s, v, ht⟩ := Civ.civil_ex t (by omega) (by omega)
    exact yes y m d h i s t w L v ht (by omega)

theorem listed : Rows.civilCyclesRow.laid.find? isLengths = some (((Rows.civilCyclesRow.laid.find? isLengths).map (·.1)).getD "", Rows.laid_wakeman_civil_lengths) := by kernel_rfl

set_option maxRecDepth 100000 in
theorem lifted (os : Os) (started : os.Started) (H : Type) (enc : TypeId × Value → H) :
    ReturnsInHanded {} Tryd.checked os 12 .any (fun w args => (Rows.civilCyclesSpec.pre enc Tryd.prog Tryd.f12 [] false w args ∧ laidMetH Tryd.prog Rows.civilCyclesRow.laid w) ∧ sizedMet enc Tryd.prog Tryd.f12 (OpenSpec.ofChange Rows.civilCyclesSpec) false w args)
      (Rows.civilCyclesSpec.post enc Tryd.prog Tryd.f12 false true false false) := by
  refine returnsInHanded_of_change_and (C := Tryd.checked) (X := fun w _ => laidMetH Tryd.prog Rows.civilCyclesRow.laid w) (fun _ _ _ hh h => h.of_heap hh) own started (by kernel_rfl) Tryd.func12
    (ChangeSpec.witness_shaped (enc := enc) (C := Tryd.checked) (os := os) (X := fun w _ => laidMetH Tryd.prog Rows.civilCyclesRow.laid w) false (World.doorLaid Tryd.prog 400 os) #[.int .i64 0] 8 rfl (shaped0 os _) (by kernel_rfl) (by kernel_rfl) (by kernel_rfl) (door_met os _)) ?_
  intro W base args ds gs before hval0 hW _ _ hL _
  have hval : ∀ (j : Nat) t v, Tryd.f12.params[j]? = some t → args[j]? = some v → Value.okWide Tryd.prog W .any base t v := hval0
  have hW' := hW
  obtain ⟨p, q, hA0, hV, rfl, hfz, hnd⟩ := hW
  have hA : DataW.TrodAll enc Tryd.prog W 0 (fun _ => true) true Tryd.f12.params.toList args.toList ds p := hA0
  rw [Tryd.params12] at hA hval
  obtain ⟨v0, vs0, d0, ds0, p0, q0, hargs, rfl, rfl, h0, r0⟩ := trodAll_cons hA
  obtain ⟨rfl, rfl, rfl⟩ := trodAll_nil r0
  obtain rfl : args = #[v0] := by cases args; simp_all
  obtain ⟨rfl, rfl⟩ := trodVars_none hV
  obtain ⟨a0, rfl, rfl, rfl, w0⟩ := open_int Tryd.underlying2 (hval 0 2 v0 rfl rfl) h0
  clear hA0 hval0
  refine (walk a0 W (lay_of _ W (by kernel_rfl) _ listed hL) w0).mono fun e W' ⟨he, bel⟩ => ?_
  subst he
  exact ⟨_, rfl, _, _, _, [], _, [], hW', trodAll_mk1 (shut_bool Tryd.underlying4 _), (trodAll_cons_mk (shut_int Tryd.underlying2 w0) trodAll_mk0), rfl, bel.frame _, fun h => by cases h⟩

theorem row_holds : Rows.CivilCyclesSaid :=
  OpenClaim.holds_of_wide 12 Tryd.f12 rfl rfl rfl rfl rfl rfl rfl ⟨rfl, rfl, rfl, rfl, rfl⟩ rfl rfl rfl rfl rfl (by kernel_rfl) Tryd.func12 (by kernel_rfl)
    (of_decide_eq_true (by kernel_rfl)) (by unfold Func.isWrapper; first | (rw [if_pos (by decide +kernel)]; kernel_rfl) | (rw [if_neg (by decide +kernel)]; exact ⟨rfl, rfl⟩))
    (fun os started H enc _ => lifted os started H enc)

theorem proved : Rows.CivilCyclesCardSaid :=
  Claim7.holds_tied_plain_at .later [] Rows.civilCyclesCard.laidKinds true Rows.civilCyclesCard.stood.harness Rows.civilCyclesCard.stood.looks
    row_holds (fun _ h => by cases h) (by kernel_rfl) (fun _ h => by cases h) civilCycles_row_tie rfl ⟨rfl, rfl⟩ (by kernel_rfl) rfl
    (fun f fn hf hfn => by
      obtain rfl : f = 12 := Option.some.inj ((show Tryd.prog.funcNamed Rows.civilCyclesRow.func = some 12 by kernel_rfl).symm.trans hf) |>.symm
      obtain rfl : fn = Tryd.f12 := (Option.some.inj (Tryd.func12.symm.trans hfn)).symm
      exact ⟨looks0, fun j t ht => by
        rw [Tryd.params12] at ht
        have hm : t ∈ [2] := by simpa using Array.mem_of_getElem? ht
        have hall : ([2].all fun u => !Tryd.prog.wantsStandIn u) = true := by kernel_rfl
        exact (show Tryd.prog.wantsStandIn t = false by simpa using List.all_eq_true.1 hall t hm)⟩)
    (by kernel_rfl)
end Go.Proofs.YtjffnjoeeclckaaDoor.civilCycles
