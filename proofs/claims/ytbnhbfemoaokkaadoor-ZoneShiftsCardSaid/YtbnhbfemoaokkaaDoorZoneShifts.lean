/- For all int64 numbers t and all numbers that choose a zone, ZoneShifts returns true: the local time and day of the week are those of UTC so many minutes later, and there is none exactly where this is no valid time. Condition: the package-level tables start as the program's text lays them (tied). -/
import Derived.Test.YtbnhbfemoaokkaaDoorZonDoor
import Derived.Test.YtbnhbfemoaokkaaDoorZonK
namespace Go.Proofs.YtbnhbfemoaokkaaDoor.zoneShifts
open Go.ChangeShapes Go.WideShapes Go.ChangeAt Go.RowKit

set_option maxRecDepth 100000 in
theorem no1 (t n : Int) (w : World) (L : Lay w) (n0 : 0 ≤ n) (n1 : n ≤ 65535) (c : t < 0 ∨ 253402300799 < t) :
    Calls Tryd.prog 8 #[.int .i64 t, .int .u16 n] w fun e w' => e = .returned (.bool true) ∧ Below w.heap.size w w' := by
  have A := Lib.hid (fun w => local_t t (n % 1681 - 840) w (by omega) (by omega) (by omega))
  have B := Lib.hid (fun w => validL_f t w c)
  clear c
  go_enter Tryd.func8, Tryd.ntmps8
  go_wp2_with fail
  refine (A.out _).mono ?_
  rintro e w1 ⟨rfl, b⟩
  obtain ⟨W1, hW, P⟩ := civ6_start w w1 b 0 0 0 0 0 0 31
  have H1 := Lib.hid hW
  have P1 := Lib.hid P
  clear hW P b
  go_wp2_with fail
  rw [← H1.out]
  refine (B.out _).mono ?_
  rintro e w' ⟨rfl, rfl⟩
  go_wp2_with fail
  refine (works_any _ (L.below P1.out.bel)).mono ?_
  rintro e w5 ⟨rfl, b⟩
  go_wp2_with fail
  go_ret
  exact ⟨rfl, P1.out.bel.trans (b.mono P1.out.bel.size)⟩

set_option maxRecDepth 100000 in
theorem no2 (t n : Int) (w : World) (L : Lay w) (n0 : 0 ≤ n) (n1 : n ≤ 65535) (t0 : 0 ≤ t) (t1 : t ≤ 253402300799) (c : t + 60 * (n % 1681 - 840) < 0 ∨ 253402300799 < t + 60 * (n % 1681 - 840)) :
    Calls Tryd.prog 8 #[.int .i64 t, .int .u16 n] w fun e w' => e = .returned (.bool true) ∧ Below w.heap.size w w' := by
  have A := Lib.hid (fun w => local_t t (n % 1681 - 840) w (by omega) (by omega) (by omega))
  have B := Lib.hid (fun w => validL_t t w t0 t1)
  have C := Lib.hid (fun w => validL_f _ w c)
  clear c
  go_enter Tryd.func8, Tryd.ntmps8
  go_wp2_with fail
  refine (A.out _).mono ?_
  rintro e w1 ⟨rfl, b⟩
  obtain ⟨W1, hW, P⟩ := civ6_start w w1 b 0 0 0 0 0 0 31
  have H1 := Lib.hid hW
  have P1 := Lib.hid P
  clear hW P b
  go_wp2_with fail
  rw [← H1.out]
  refine (B.out _).mono ?_
  rintro e w' ⟨rfl, rfl⟩
  go_wp2_with fail
  refine (C.out _).mono ?_
  rintro e w' ⟨rfl, rfl⟩
  go_wp2_with fail
  refine (works_any _ (L.below P1.out.bel)).mono ?_
  rintro e w5 ⟨rfl, b⟩
  go_wp2_with fail
  go_ret
  exact ⟨rfl, P1.out.bel.trans (b.mono P1.out.bel.size)⟩

set_option maxRecDepth 100000 in
theorem yes (t n y m d h i s : Int) (w : World) (L : Lay w) (n0 : 0 ≤ n) (n1 : n ≤ 65535) (t0 : 0 ≤ t) (t1 : t ≤ 253402300799) (v : Civ.CVld y m d h i s) (hs : Civ.secs y m d h i s = t + 60 * (n % 1681 - 840)) :
    Calls Tryd.prog 8 #[.int .i64 t, .int .u16 n] w fun e w' => e = .returned (.bool true) ∧ Below w.heap.size w w' := by
  obtain ⟨u0, u1⟩ := Civ.secs_range v
  rw [hs] at u0 u1
  have A := Lib.hid (fun w L => local_yes t (n % 1681 - 840) y m d h i s w L (by omega) (by omega) t0 t1 v hs)
  have B := Lib.hid (fun w => validL_t t w t0 t1)
  have C := Lib.hid (fun w => validL_t _ w u0 u1)
  have D := Lib.hid (fun w L => of_yes y m d h i s _ w L v hs)
  have E := Lib.hid (fun w => weekz_yes t (n % 1681 - 840) w (by omega) (by omega) t0 t1 u0 u1)
  have F := Lib.hid (fun w => week_yes _ w u0 u1)
  clear v hs
  go_enter Tryd.func8, Tryd.ntmps8
  go_wp2_with fail
  refine (A.out _ L).mono ?_
  rintro e w1 ⟨rfl, b⟩
  obtain ⟨W1, hW, P⟩ := civ6_start w w1 b y m d h i s 31
  have H1 := Lib.hid hW
  have P1 := Lib.hid P
  clear hW P b
  go_wp2_with fail
  rw [← H1.out]
  refine (B.out _).mono ?_
  rintro e w' ⟨rfl, rfl⟩
  go_wp2_with fail
  refine (C.out _).mono ?_
  rintro e w' ⟨rfl, rfl⟩
  go_wp2_with fail
  refine (D.out _ (L.below P1.out.bel)).mono ?_
  rintro e w2 ⟨rfl, b⟩
  obtain ⟨W2, hW, P, Q⟩ := civ6_next P1.out b y m d h i s 31
  have H2 := Lib.hid hW
  have P2 := Lib.hid P
  have Q2 := Lib.hid Q
  clear hW P Q b
  go_wp2_with fail
  rw [← H2.out]
  refine (E.out _).mono ?_
  rintro e w' ⟨rfl, rfl⟩
  go_wp2_with fail
  refine (F.out _).mono ?_
  rintro e w' ⟨rfl, rfl⟩
  have p0 := P2.out.g0
  have p1 := P2.out.g1
  have p2 := P2.out.g2
  have p3 := P2.out.g3
  have p4 := P2.out.g4
  have p5 := P2.out.g5
  have q0 := Q2.out.g0
  have q1 := Q2.out.g1
  have q2 := Q2.out.g2
  have q3 := Q2.out.g3
  have q4 := Q2.out.g4
  have q5 := Q2.out.g5
  have eq := same6_t y m d h i s
  go_wp2_with fail
  refine (works_any _ (L.below P2.out.bel)).mono ?_
  rintro e w5 ⟨rfl, b⟩
  go_wp2_with fail
  go_ret
  exact ⟨rfl, P2.out.bel.trans (b.mono P2.out.bel.size)⟩

theorem walk (t n : Int) (w : World) (L : Lay w) (_ : (Lit.int .i64 t).wf = true) (hn : (Lit.int .u16 n).wf = true) :
    Calls Tryd.prog 8 #[.int .i64 t, .int .u16 n] w fun e w' => e = .returned (.bool true) ∧ Below w.heap.size w w' := by
  obtain ⟨n0, n1⟩ := bounds_u16 hn
  by_cases c : t < 0 ∨ 253402300799 < t
  · exact no1 t n w L n0 n1 c
  · by_cases e : t + 60 * (n % 1681 - 840) < 0 ∨ 253402300799 < t + 60 * (n % 1681 - 840)
    · exact no2 t n w L n0 n1 (by omega) (by omega) e
    · obtain ⟨y, m, d, h, i, s, v, hs⟩ := Civ.civil_ex _ (show 0 ≤ t + 60 * (n % 1681 - 840) by omega) (by omega)
      exact yes t n y m d h i s w L n0 n1 (by omega) (by omega) v hs

theorem listed : Rows.zoneShiftsRow.laid.find? isLengths = some (((Rows.zoneShiftsRow.laid.find? isLengths).map (·.1)).getD "", Rows.laid_wakeman_civil_lengths) := by kernel_rfl

set_option maxRecDepth 100000 in
theorem lifted (os : Os) (started : os.Started) (H : Type) (enc : TypeId × Value → H) :
    ReturnsInHanded {} Tryd.checked os 8 .any (fun w args => (Rows.zoneShiftsSpec.pre enc Tryd.prog Tryd.f8 [] false w args ∧ laidMetH Tryd.prog Rows.zoneShiftsRow.laid w) ∧ sizedMet enc Tryd.prog Tryd.f8 (OpenSpec.ofChange Rows.zoneShiftsSpec) false w args)
      (Rows.zoneShiftsSpec.post enc Tryd.prog Tryd.f8 false true false false) := by
  refine returnsInHanded_of_change_and (C := Tryd.checked) (X := fun w _ => laidMetH Tryd.prog Rows.zoneShiftsRow.laid w) (fun _ _ _ hh h => h.of_heap hh) own started (by kernel_rfl) Tryd.func8
    (ChangeSpec.witness_shaped (enc := enc) (C := Tryd.checked) (os := os) (X := fun w _ => laidMetH Tryd.prog Rows.zoneShiftsRow.laid w) false (World.doorLaid Tryd.prog 400 os) #[.int .i64 0, .int .u16 0] 8 rfl (shaped0 os _) (by kernel_rfl) (by kernel_rfl) (by kernel_rfl) (door_met os _)) ?_
  intro W base args ds gs before hval0 hW _ _ hL _
  have hval : ∀ (j : Nat) t v, Tryd.f8.params[j]? = some t → args[j]? = some v → Value.okWide Tryd.prog W .any base t v := hval0
  have hW' := hW
  obtain ⟨p, q, hA0, hV, rfl, hfz, hnd⟩ := hW
  have hA : DataW.TrodAll enc Tryd.prog W 0 (fun _ => true) true Tryd.f8.params.toList args.toList ds p := hA0
  rw [Tryd.params8] at hA hval
  obtain ⟨v0, vs0, d0, ds0, p0, q0, hargs, rfl, rfl, h0, r0⟩ := trodAll_cons hA
  obtain ⟨v1, vs1, d1, ds1, p1, q1, rfl, rfl, rfl, h1, r1⟩ := trodAll_cons r0
  obtain ⟨rfl, rfl, rfl⟩ := trodAll_nil r1
  obtain rfl : args = #[v0, v1] := by cases args; simp_all
  obtain ⟨rfl, rfl⟩ := trodVars_none hV
  obtain ⟨a0, rfl, rfl, rfl, w0⟩ := open_int Tryd.underlying2 (hval 0 2 v0 rfl rfl) h0
  obtain ⟨a1, rfl, rfl, rfl, w1⟩ := open_int Tryd.underlying44 (hval 1 44 v1 rfl rfl) h1
  clear hA0 hval0
  refine (walk a0 a1 W (lay_of _ W (by kernel_rfl) _ listed hL) w0 w1).mono fun e W' ⟨he, bel⟩ => ?_
  subst he
  exact ⟨_, rfl, _, _, _, [], _, [], hW', trodAll_mk1 (shut_bool Tryd.underlying4 _), (trodAll_cons_mk (shut_int Tryd.underlying2 w0) (trodAll_cons_mk (shut_int Tryd.underlying44 w1) trodAll_mk0)), rfl, bel.frame _, fun h => by cases h⟩

theorem row_holds : Rows.ZoneShiftsSaid :=
  OpenClaim.holds_of_wide 8 Tryd.f8 rfl rfl rfl rfl rfl rfl rfl ⟨rfl, rfl, rfl, rfl, rfl⟩ rfl rfl rfl rfl rfl (by kernel_rfl) Tryd.func8 (by kernel_rfl)
    (of_decide_eq_true (by kernel_rfl)) (by unfold Func.isWrapper; first | (rw [if_pos (by decide +kernel)]; kernel_rfl) | (rw [if_neg (by decide +kernel)]; exact ⟨rfl, rfl⟩))
    (fun os started H enc _ => lifted os started H enc)

theorem proved : Rows.ZoneShiftsCardSaid :=
  Claim7.holds_tied_plain_at .later [] Rows.zoneShiftsCard.laidKinds true Rows.zoneShiftsCard.stood.harness Rows.zoneShiftsCard.stood.looks
    row_holds (fun _ h => by cases h) (by kernel_rfl) (fun _ h => by cases h) zoneShifts_row_tie rfl ⟨rfl, rfl⟩ (by kernel_rfl) rfl
    (fun f fn hf hfn => by
      obtain rfl : f = 8 := Option.some.inj ((show Tryd.prog.funcNamed Rows.zoneShiftsRow.func = some 8 by kernel_rfl).symm.trans hf) |>.symm
      obtain rfl : fn = Tryd.f8 := (Option.some.inj (Tryd.func8.symm.trans hfn)).symm
      exact ⟨looks0, fun j t ht => by
        rw [Tryd.params8] at ht
        have hm : t ∈ [2, 44] := by simpa using Array.mem_of_getElem? ht
        have hall : ([2, 44].all fun u => !Tryd.prog.wantsStandIn u) = true := by kernel_rfl
        exact (show Tryd.prog.wantsStandIn t = false by simpa using List.all_eq_true.1 hall t hm)⟩)
    (by kernel_rfl)
end Go.Proofs.YtbnhbfemoaokkaaDoor.zoneShifts
