/- For all int64 numbers t, CivilBack returns true: each time is that of its civil time and of its text; its date is that of its days; a number that is no time has none of them. Condition: the package-level tables start as the program's text lays them (tied). -/
import Derived.Test.YtjffnjoeeclckaaDoorCivDoor
import Derived.Test.YtjffnjoeeclckaaDoorCivBoth
namespace Go.Proofs.YtjffnjoeeclckaaDoor.civilBack
open Go.ChangeShapes Go.WideShapes Go.ChangeAt Go.RowKit

set_option maxRecDepth 100000 in
theorem no (t : Int) (w : World) (L : Lay w) (ht : t < 0 ∨ 253402300799 < t) :
    Calls Tryd.prog 8 #[.int .i64 t] w fun e w' => e = .returned (.bool true) ∧ Below w.heap.size w w' := by
  have d : decide (t < 0) = true ∨ (decide (t < 0) = false ∧ decide (253402300799 < t) = true) := by simp; omega
  have A := Lib.hid (fun w => of_no t w ht)
  have B := Lib.hid (fun w => text_no t w ht)
  clear ht
  rcases d with d | ⟨d, d'⟩
  all_goals
    go_enter Tryd.func8, Tryd.ntmps8
    go_wp2_with fail
    refine (A.out _).mono ?_
    rintro e w1 ⟨rfl, b⟩
    obtain ⟨W1, hW, P⟩ := civ6_start w w1 b 0 0 0 0 0 0 34
    have H1 := Lib.hid hW
    have P1 := Lib.hid P
    clear hW P b
    go_wp2_with fail
    rw [← H1.out]
    refine (B.out _).mono ?_
    rintro e w2 ⟨rfl, b⟩
    have P2 := Lib.hid (P1.out.below b)
    clear b
    have p0 := P2.out.g0
    have p1 := P2.out.g1
    have p2 := P2.out.g2
    have p3 := P2.out.g3
    have p4 := P2.out.g4
    have p5 := P2.out.g5
    have eq := same6_t 0 0 0 0 0 0
    go_wp2_with fail
    refine (works_any _ (L.below P2.out.bel)).mono ?_
    rintro e w5 ⟨rfl, b⟩
    go_wp2_with fail
    go_ret
    exact ⟨rfl, P2.out.bel.trans (b.mono P2.out.bel.size)⟩

set_option maxRecDepth 100000 in
theorem yes (y m d h i s t : Int) (w : World) (L : Lay w) (v : Civ.CVld y m d h i s) (ht : Civ.secs y m d h i s = t) :
    Calls Tryd.prog 8 #[.int .i64 t] w fun e w' => e = .returned (.bool true) ∧ Below w.heap.size w w' := by
  obtain ⟨t0, t1⟩ := Civ.secs_range v
  have hd := Civ.secs_day v
  rw [ht] at t0 t1 hd
  obtain ⟨n, hn⟩ : ∃ n, Civ.num y m d = n := ⟨_, rfl⟩
  have e0 : decide (t < 0) = false := by simp; omega
  have e1 : decide (253402300799 < t) = false := by simp; omega
  have A := Lib.hid (fun w L => of_yes y m d h i s t w L v ht)
  have B := Lib.hid (fun w L => text_yes y m d h i s t w L v ht)
  have C := Lib.hid (fun w L => time_yes y m d h i s t w L v ht)
  have D := Lib.hid (fun w L => parse_text y m d h i s t w L v ht)
  have E := Lib.hid (fun w L => date_yes y m d (t / 86400) w L v.1 hd.symm)
  have F := Lib.hid (fun w L => days_yes y m d (t / 86400) w L v.1 hd.symm)
  obtain ⟨S, hS, hz⟩ : ∃ S, strOfNums (txt y m d h i s) = S ∧ S.size = 19 := ⟨_, rfl, txt_size ..⟩
  rw [hS] at B D
  have hz' : (S.size : Int) = 19 := by omega
  clear v ht hd hn hS hz
  go_enter Tryd.func8, Tryd.ntmps8
  go_wp2_with fail
  refine (A.out _ L).mono ?_
  rintro e w1 ⟨rfl, b⟩
  obtain ⟨W1, hW, P⟩ := civ6_start w w1 b y m d h i s 34
  have H1 := Lib.hid hW
  have P1 := Lib.hid P
  clear hW P b
  go_wp2_with fail
  rw [← H1.out]
  refine (B.out _ (L.below P1.out.bel)).mono ?_
  rintro e w2 ⟨rfl, b⟩
  have P2 := Lib.hid (P1.out.below b)
  clear b
  have p0 := P2.out.g0
  have p1 := P2.out.g1
  have p2 := P2.out.g2
  have p3 := P2.out.g3
  have p4 := P2.out.g4
  have p5 := P2.out.g5
  go_wp2_with fail
  refine (C.out _ (L.below P2.out.bel)).mono ?_
  rintro e w3 ⟨rfl, b⟩
  have P3 := Lib.hid (P2.out.below b)
  clear b p0 p1 p2 p3 p4 p5
  go_wp2_with fail
  refine (D.out _ (L.below P3.out.bel)).mono ?_
  rintro e w4 ⟨rfl, b⟩
  have P4 := Lib.hid (P3.out.below b)
  clear b
  have p0 := P4.out.g0
  have p1 := P4.out.g1
  have p2 := P4.out.g2
  have p3 := P4.out.g3
  have p4 := P4.out.g4
  have p5 := P4.out.g5
  go_wp2_with fail
  refine (E.out _ (L.below P4.out.bel)).mono ?_
  rintro e w' ⟨rfl, rfl⟩
  go_wp2_with fail
  refine (F.out _ (L.below P4.out.bel)).mono ?_
  rintro e w' ⟨rfl, rfl⟩
  go_wp2_with fail
  refine (works_any _ (L.below P4.out.bel)).mono ?_
  rintro e w5 ⟨rfl, b⟩
  go_wp2_with fail
  go_ret
  exact ⟨rfl, P4.out.bel.trans (b.mono P4.out.bel.size)⟩

theorem walk (t : Int) (w : World) (L : Lay w) (_ : (Lit.int .i64 t).wf = true) :
    Calls Tryd.prog 8 #[.int .i64 t] w fun e w' => e = .returned (.bool true) ∧ Below w.heap.size w w' := by
  by_cases c : t < 0 ∨ 253402300799 < t
  · exact no t w L c
  · obtain ⟨y, m, d, h, i, s, v, ht⟩ := Civ.civil_ex t (by omega) (by omega)
    exact yes y m d h i s t w L v ht

theorem listed : Rows.civilBackRow.laid.find? isLengths = some (((Rows.civilBackRow.laid.find? isLengths).map (·.1)).getD "", Rows.laid_wakeman_civil_lengths) := by kernel_rfl

set_option maxRecDepth 100000 in
theorem lifted (os : Os) (started : os.Started) (H : Type) (enc : TypeId × Value → H) :
    ReturnsInHanded {} Tryd.checked os 8 .any (fun w args => (Rows.civilBackSpec.pre enc Tryd.prog Tryd.f8 [] false w args ∧ laidMetH Tryd.prog Rows.civilBackRow.laid w) ∧ sizedMet enc Tryd.prog Tryd.f8 (OpenSpec.ofChange Rows.civilBackSpec) false w args)
      (Rows.civilBackSpec.post enc Tryd.prog Tryd.f8 false true false false) := by
  refine returnsInHanded_of_change_and (C := Tryd.checked) (X := fun w _ => laidMetH Tryd.prog Rows.civilBackRow.laid w) (fun _ _ _ hh h => h.of_heap hh) own started (by kernel_rfl) Tryd.func8
    (ChangeSpec.witness_shaped (enc := enc) (C := Tryd.checked) (os := os) (X := fun w _ => laidMetH Tryd.prog Rows.civilBackRow.laid w) false (World.doorLaid Tryd.prog 400 os) #[.int .i64 0] 8 rfl (shaped0 os _) (by kernel_rfl) (by kernel_rfl) (by kernel_rfl) (door_met os _)) ?_
  intro W base args ds gs before hval0 hW _ _ hL _
  have hval : ∀ (j : Nat) t v, Tryd.f8.params[j]? = some t → args[j]? = some v → Value.okWide Tryd.prog W .any base t v := hval0
  have hW' := hW
  obtain ⟨p, q, hA0, hV, rfl, hfz, hnd⟩ := hW
  have hA : DataW.TrodAll enc Tryd.prog W 0 (fun _ => true) true Tryd.f8.params.toList args.toList ds p := hA0
  rw [Tryd.params8] at hA hval
  obtain ⟨v0, vs0, d0, ds0, p0, q0, hargs, rfl, rfl, h0, r0⟩ := trodAll_cons hA
  obtain ⟨rfl, rfl, rfl⟩ := trodAll_nil r0
  obtain rfl : args = #[v0] := by cases args; simp_all
  obtain ⟨rfl, rfl⟩ := trodVars_none hV
  obtain ⟨a0, rfl, rfl, rfl, w0⟩ := open_int Tryd.underlying2 (hval 0 2 v0 rfl rfl) h0
  clear hA0 hval0
  refine (walk a0 W (lay_of _ W (by kernel_rfl) _ listed hL) w0).mono fun e W' ⟨he, bel⟩ => ?_
  subst he
  exact ⟨_, rfl, _, _, _, [], _, [], hW', trodAll_mk1 (shut_bool Tryd.underlying4 _), (trodAll_cons_mk (shut_int Tryd.underlying2 w0) trodAll_mk0), rfl, bel.frame _, fun h => by cases h⟩

theorem row_holds : Rows.CivilBackSaid :=
  OpenClaim.holds_of_wide 8 Tryd.f8 rfl rfl rfl rfl rfl rfl rfl ⟨rfl, rfl, rfl, rfl, rfl⟩ rfl rfl rfl rfl rfl (by kernel_rfl) Tryd.func8 (by kernel_rfl)
    (of_decide_eq_true (by kernel_rfl)) (by unfold Func.isWrapper; first | (rw [if_pos (by decide +kernel)]; kernel_rfl) | (rw [if_neg (by decide +kernel)]; exact ⟨rfl, rfl⟩))
    (fun os started H enc _ => lifted os started H enc)

theorem proved : Rows.CivilBackCardSaid :=
  Claim7.holds_tied_plain_at .later [] Rows.civilBackCard.laidKinds true Rows.civilBackCard.stood.harness Rows.civilBackCard.stood.looks
    row_holds (fun _ h => by cases h) (by kernel_rfl) (fun _ h => by cases h) civilBack_row_tie rfl ⟨rfl, rfl⟩ (by kernel_rfl) rfl
    (fun f fn hf hfn => by
      obtain rfl : f = 8 := Option.some.inj ((show Tryd.prog.funcNamed Rows.civilBackRow.func = some 8 by kernel_rfl).symm.trans hf) |>.symm
      obtain rfl : fn = Tryd.f8 := (Option.some.inj (Tryd.func8.symm.trans hfn)).symm
      exact ⟨looks0, fun j t ht => by
        rw [Tryd.params8] at ht
        have hm : t ∈ [2] := by simpa using Array.mem_of_getElem? ht
        have hall : ([2].all fun u => !Tryd.prog.wantsStandIn u) = true := by kernel_rfl
        exact (show Tryd.prog.wantsStandIn t = false by simpa using List.all_eq_true.1 hall t hm)⟩)
    (by kernel_rfl)
end Go.Proofs.YtjffnjoeeclckaaDoor.civilBack
