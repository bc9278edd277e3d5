/- For every time, PlanNone returns true: a plan without a kind has no times. Condition: the program's tables start as its text lays them (tied). -/
import Derived.Test.YtljackjcgfaanaaGreatDoorGPlaL
namespace Go.Proofs.YtljackjcgfaanaaGreatDoor.planNone
open Go.ChangeShapes Go.WideShapes Go.ChangeAt Go.RowKit Go.ChangeMaps

theorem okZ : Pl.pZ.Ok := .none rfl rfl rfl rfl rfl rfl rfl
theorem noZ (t : Int) : ¬ Pl.pZ.K t := fun k => by have := k.1; rw [Pl.P.T_0 (q := Pl.pZ) rfl] at this; exact this
theorem cellsZ {w W : World} {B : Nat} (h : RC w B [.int .i64 0, .int .u64 0, .int .u64 0, .int .u64 0, .int .u64 0, .int .u64 0, .int .u64 0, .bool false, .bool false, .int .i64 0, .int .i64 0, .int .i64 0, .int .i64 0, .slice none 0 0] W) : W.cell? ⟨B, 0, none⟩ = some (.int .i64 0) ∧ W.cell? ⟨B, 1, none⟩ = some (.int .u64 0) ∧ W.cell? ⟨B, 2, none⟩ = some (.int .u64 0) ∧ W.cell? ⟨B, 3, none⟩ = some (.int .u64 0) ∧ W.cell? ⟨B, 4, none⟩ = some (.int .u64 0) ∧ W.cell? ⟨B, 5, none⟩ = some (.int .u64 0) ∧ W.cell? ⟨B, 6, none⟩ = some (.int .u64 0) ∧ W.cell? ⟨B, 7, none⟩ = some (.bool false) ∧ W.cell? ⟨B, 8, none⟩ = some (.bool false) ∧ W.cell? ⟨B, 9, none⟩ = some (.int .i64 0) ∧ W.cell? ⟨B, 10, none⟩ = some (.int .i64 0) ∧ W.cell? ⟨B, 11, none⟩ = some (.int .i64 0) ∧ W.cell? ⟨B, 12, none⟩ = some (.int .i64 0) ∧ W.cell? ⟨B, 13, none⟩ = some (.slice none 0 0) := ⟨h.row.cell 0, h.row.cell 1, h.row.cell 2, h.row.cell 3, h.row.cell 4, h.row.cell 5, h.row.cell 6, h.row.cell 7, h.row.cell 8, h.row.cell 9, h.row.cell 10, h.row.cell 11, h.row.cell 12, h.row.cell 13⟩
set_option maxRecDepth 100000 in
set_option maxHeartbeats 4000000 in
theorem walk (t : Int) (w : World) (L : LayM w) (_ : (Lit.int .i64 t).wf = true) :
    Calls Tryz.prog 10 #[.int .i64 t] w fun e w' => e = .returned (.bool true) ∧ Below w.heap.size w w' := by
  have Q := Lib.hid (show RC w w.heap.size [.int .i64 0, .int .u64 0, .int .u64 0, .int .u64 0, .int .u64 0, .int .u64 0, .int .u64 0, .bool false, .bool false, .int .i64 0, .int .i64 0, .int .i64 0, .int .i64 0, .slice none 0 0] (w.alloc (.cells #[.int .i64 0, .int .u64 0, .int .u64 0, .int .u64 0, .int .u64 0, .int .u64 0, .int .u64 0, .bool false, .bool false, .int .i64 0, .int .i64 0, .int .i64 0, .int .i64 0, .slice none 0 0] 29)) from ⟨(Below.refl _ _).alloc (Nat.le_refl _) _, L.alloc _, Row.new w _ _⟩)
  have WK := Lib.hid (fun W L => works_any W L)
  clear L
  obtain ⟨r, hr⟩ : ∃ r, (if Pl.vt t then (0 : Int) else 14) = r := ⟨_, rfl⟩
  have e1 : Pl.pZ.errT [t] = r := by
    rw [← hr]
    by_cases k : Pl.vt t
    · rw [if_pos k]; exact Pl.errT_one okZ k
    · rw [if_neg k]
      rcases Pl.pZ.errT_cases [t] with ⟨_, z⟩ | ⟨_, z, _⟩ | ⟨_, _, z⟩
      · rw [Pl.P.err_ok.2 okZ] at z; omega
      · exact z
      · exact absurd (z t (by simp)) k
  have e2 : Pl.pZ.errT [t, 253402300799] = r := by
    rw [← hr]
    by_cases k : Pl.vt t
    · rw [if_pos k]; exact Pl.errT_two okZ k (by omega)
    · rw [if_neg k]
      rcases Pl.pZ.errT_cases [t, 253402300799] with ⟨_, z⟩ | ⟨_, z, _⟩ | ⟨_, _, z⟩
      · rw [Pl.P.err_ok.2 okZ] at z; omega
      · exact z
      · exact absurd (z t (by simp)) k
  have e3 : Pl.pZ.errT [0, t] = r := by
    rw [← hr]
    by_cases k : Pl.vt t
    · rw [if_pos k]; exact Pl.errT_two okZ (by omega) k
    · rw [if_neg k]
      rcases Pl.pZ.errT_cases [0, t] with ⟨_, z⟩ | ⟨_, z, _⟩ | ⟨_, _, z⟩
      · rw [Pl.P.err_ok.2 okZ] at z; omega
      · exact z
      · exact absurd (z t (by simp)) k
  have i1 : Pl.IsR Pl.pZ t false r := ⟨e1.symm, ⟨fun h => (by cases h), fun h => absurd h.2 (noZ t)⟩⟩
  have i2 : Pl.NextR Pl.pZ t 0 false r := ⟨e1.symm, by
    by_cases z : r = 0
    · exact .inr ⟨z, none, fun y _ _ => noZ y, rfl, rfl⟩
    · exact .inl ⟨z, rfl, rfl⟩⟩
  have i3 : Pl.ListR Pl.pZ t 253402300799 5 [] r := ⟨e2.symm, by
    by_cases z : r = 0
    · exact .inr ⟨z, none, fun y _ _ => noZ y, rfl⟩
    · exact .inl ⟨z, rfl⟩⟩
  have i4 : Pl.CountR Pl.pZ 0 t 0 r := ⟨e3.symm, by
    by_cases z : r = 0
    · refine .inr ⟨z, ?_⟩
      unfold Pl.P.cnt
      rw [cnt_zero fun k _ => noZ _]
      rfl
    · exact .inl ⟨z, rfl⟩⟩
  have IS := Lib.hid (fun W (L : LayM W) => (show Calls Tryz.prog 15 #[.agg #[.int .i64 0, .int .u64 0, .int .u64 0, .int .u64 0, .int .u64 0, .int .u64 0, .int .u64 0, .bool false, .bool false, .int .i64 0, .int .i64 0, .int .i64 0, .int .i64 0, .slice none 0 0], .int .i64 t] W fun e w' => e = .returned (.tuple #[.bool false, .int .i64 r]) ∧ Below W.heap.size W w' from pis_any Pl.pZ bd0 (.slice none 0 0) t false r i1 W L (Bo.RowS.nil W)))
  have NX := Lib.hid (fun W (L : LayM W) => (show Calls Tryz.prog 17 #[.agg #[.int .i64 0, .int .u64 0, .int .u64 0, .int .u64 0, .int .u64 0, .int .u64 0, .int .u64 0, .bool false, .bool false, .int .i64 0, .int .i64 0, .int .i64 0, .int .i64 0, .slice none 0 0], .int .i64 t] W fun e w' => e = .returned (.tuple #[.int .i64 0, .bool false, .int .i64 r]) ∧ Below W.heap.size W w' from pnext_any Pl.pZ bd0 (.slice none 0 0) t 0 false r i2 W L (Bo.RowS.nil W)))
  have LI := Lib.hid (fun W (L : LayM W) => (show Calls Tryz.prog 22 #[.agg #[.int .i64 0, .int .u64 0, .int .u64 0, .int .u64 0, .int .u64 0, .int .u64 0, .int .u64 0, .bool false, .bool false, .int .i64 0, .int .i64 0, .int .i64 0, .int .i64 0, .slice none 0 0], .int .i64 t, .int .i64 253402300799, .int .i64 5] W fun e w' => ∃ u, e = .returned (.tuple #[u, .int .i64 r]) ∧ OwnT W u [] w' from plist_any Pl.pZ bd0 (.slice none 0 0) t 253402300799 5 [] r i3 W L (Bo.RowS.nil W)))
  have CO := Lib.hid (fun W (L : LayM W) => (show Calls Tryz.prog 25 #[.agg #[.int .i64 0, .int .u64 0, .int .u64 0, .int .u64 0, .int .u64 0, .int .u64 0, .int .u64 0, .bool false, .bool false, .int .i64 0, .int .i64 0, .int .i64 0, .int .i64 0, .slice none 0 0], .int .i64 0, .int .i64 t] W fun e w' => e = .returned (.tuple #[.int .i64 0, .int .i64 r]) ∧ Below W.heap.size W w' from pcount_any Pl.pZ bd0 (.slice none 0 0) 0 t 0 r i4 W L (Bo.RowS.nil W)))
  have HRR := Lib.hid hr
  clear e1 e2 e3 i1 i2 i3 i4 hr
  go_enter Tryz.func10, Tryz.ntmps10
  go_wp2_with fail
  refine (IS.out _ Q.out.lay).mono ?_
  rintro e w1 ⟨rfl, hb1⟩
  have Q1 := Lib.hid (Q.out.next hb1)
  obtain ⟨c0, c1, c2, c3, c4, c5, c6, c7, c8, c9, c10, c11, c12, c13⟩ := cellsZ Q1.out
  clear hb1
  go_wp2_with fail
  refine (NX.out _ Q1.out.lay).mono ?_
  rintro e w2 ⟨rfl, hb2⟩
  have Q2 := Lib.hid (Q1.out.next hb2)
  clear hb2 c0 c1 c2 c3 c4 c5 c6 c7 c8 c9 c10 c11 c12 c13
  obtain ⟨c0, c1, c2, c3, c4, c5, c6, c7, c8, c9, c10, c11, c12, c13⟩ := cellsZ Q2.out
  go_wp2_with fail
  refine (LI.out _ Q2.out.lay).mono ?_
  rintro e w3 ⟨u, rfl, hu⟩
  have Q3 := Lib.hid (Q2.out.next hu.below)
  obtain ⟨A, c, rfl⟩ := hu.len
  clear hu c0 c1 c2 c3 c4 c5 c6 c7 c8 c9 c10 c11 c12 c13
  obtain ⟨c0, c1, c2, c3, c4, c5, c6, c7, c8, c9, c10, c11, c12, c13⟩ := cellsZ Q3.out
  go_wp2_with fail
  refine (CO.out _ Q3.out.lay).mono ?_
  rintro e w4 ⟨rfl, hb4⟩
  have Q4 := Lib.hid (Q3.out.next hb4)
  clear hb4 c0 c1 c2 c3 c4 c5 c6 c7 c8 c9 c10 c11 c12 c13
  by_cases k : Pl.vt t
  · obtain rfl : r = 0 := by have := HRR.out; rw [if_pos k] at this; exact this.symm
    have t1 : decide (0 ≤ t) = true := decide_eq_true k.1
    have t2 : decide (t ≤ 253402300799) = true := decide_eq_true k.2
    clear k
    go_wp2_with fail
    refine (WK.out _ Q4.out.lay).mono ?_
    rintro e w5 ⟨rfl, hb5⟩
    have Q5 := Lib.hid (Q4.out.next hb5)
    clear hb5
    go_wp2_with fail
    go_ret
    exact ⟨rfl, Q5.out.below⟩
  · obtain rfl : r = 14 := by have := HRR.out; rw [if_neg k] at this; exact this.symm
    by_cases a : 0 ≤ t
    · have t1 : decide (0 ≤ t) = true := decide_eq_true a
      have t2 : decide (t ≤ 253402300799) = false := decide_eq_false fun z => k ⟨a, z⟩
      clear k a
      go_wp2_with fail
      refine (WK.out _ Q4.out.lay).mono ?_
      rintro e w5 ⟨rfl, hb5⟩
      have Q5 := Lib.hid (Q4.out.next hb5)
      clear hb5
      go_wp2_with fail
      go_ret
      exact ⟨rfl, Q5.out.below⟩
    · have t1 : decide (0 ≤ t) = false := decide_eq_false a
      clear k a
      go_wp2_with fail
      refine (WK.out _ Q4.out.lay).mono ?_
      rintro e w5 ⟨rfl, hb5⟩
      have Q5 := Lib.hid (Q4.out.next hb5)
      clear hb5
      go_wp2_with fail
      go_ret
      exact ⟨rfl, Q5.out.below⟩

set_option maxRecDepth 100000 in
theorem lifted (os : Os) (started : os.Started) (H : Type) (enc : TypeId × Value → H) :
    ReturnsInHanded {} Tryz.checked os 10 .any (fun w args => (Rows.planNoneSpec.pre enc Tryz.prog Tryz.f10 [] false w args ∧ laidMetH Tryz.prog Rows.planNoneRow.laid w) ∧ sizedMet enc Tryz.prog Tryz.f10 (OpenSpec.ofChange Rows.planNoneSpec) false w args)
      (Rows.planNoneSpec.post enc Tryz.prog Tryz.f10 false true false false) := by
  refine returnsInHanded_of_change_and (C := Tryz.checked) (X := fun w _ => laidMetH Tryz.prog Rows.planNoneRow.laid w) (fun _ _ _ hh h => h.of_heap hh) own started (by kernel_rfl) Tryz.func10
    (ChangeSpec.witness_shaped (enc := enc) (C := Tryz.checked) (os := os) (X := fun w _ => laidMetH Tryz.prog Rows.planNoneRow.laid w) false (World.laidAll Tryz.prog os Rows.planNoneRow.laid) #[.int .i64 0] 8 (World.laidAll_os _ _ _) (World.shaped_of_ZipB (by kernel_rfl) (by kernel_rfl)) (by kernel_rfl) (by kernel_rfl) (by kernel_rfl) (by rw [MakeChecks.laidMetH_plain _ _ _ (by kernel_rfl)]; exact laidMet_laidAll _ (by kernel_rfl) (by kernel_rfl))) ?_
  intro W base args ds gs before hval0 hW _ _ hL _
  have hval : ∀ (j : Nat) t v, Tryz.f10.params[j]? = some t → args[j]? = some v → Value.okWide Tryz.prog W .any base t v := hval0
  have hW' := hW
  obtain ⟨p, q, hA0, hV, rfl, hfz, hnd⟩ := hW
  have hA : DataW.TrodAll enc Tryz.prog W 0 (fun _ => true) true Tryz.f10.params.toList args.toList ds p := hA0
  rw [Tryz.params10] at hA hval
  obtain ⟨v0, vs0, d0, ds0, p0, q0, hargs, rfl, rfl, h0, r0⟩ := trodAll_cons hA
  obtain ⟨rfl, rfl, rfl⟩ := trodAll_nil r0
  obtain rfl : args = #[v0] := by cases args; simp_all
  obtain ⟨rfl, rfl⟩ := trodVars_none hV
  obtain ⟨a0, rfl, rfl, rfl, w0⟩ := open_int Tryz.underlying2 (hval 0 2 v0 rfl rfl) h0
  clear hA0 hval0
  refine (walk a0 W (layM_of _ W (by kernel_rfl) (.head _) (.tail _ (.head _)) (by kernel_rfl) (by kernel_rfl) hL) w0).mono fun e W' ⟨he, bel⟩ => ?_
  subst he
  exact ⟨_, rfl, _, _, _, [], _, [], hW', trodAll_mk1 (shut_bool Tryz.underlying4 _), (trodAll_cons_mk (shut_int Tryz.underlying2 w0) trodAll_mk0), rfl, bel.frame _, fun h => by cases h⟩

theorem row_holds : Rows.PlanNoneSaid :=
  OpenClaim.holds_of_wide 10 Tryz.f10 rfl rfl rfl rfl rfl rfl rfl ⟨rfl, rfl, rfl, rfl, rfl⟩ rfl rfl rfl rfl rfl (by kernel_rfl) Tryz.func10 (by kernel_rfl)
    (of_decide_eq_true (by kernel_rfl)) (by unfold Func.isWrapper; first | (rw [if_pos (by decide +kernel)]; kernel_rfl) | (rw [if_neg (by decide +kernel)]; exact ⟨rfl, rfl⟩))
    (fun os started H enc _ => lifted os started H enc)

theorem proved : Rows.PlanNoneCardSaid :=
  Claim7.holds_tied_plain_at .later [] Rows.planNoneCard.laidKinds true Rows.planNoneCard.stood.harness Rows.planNoneCard.stood.looks
    row_holds (fun _ h => by cases h) (by kernel_rfl) (fun _ h => by cases h) planNone_row_tie rfl ⟨rfl, rfl⟩ (by kernel_rfl) rfl
    (fun f fn hf hfn => by
      obtain rfl : f = 10 := Option.some.inj ((show Tryz.prog.funcNamed Rows.planNoneRow.func = some 10 by kernel_rfl).symm.trans hf) |>.symm
      obtain rfl : fn = Tryz.f10 := (Option.some.inj (Tryz.func10.symm.trans hfn)).symm
      exact ⟨looks0, fun j t ht => by
        rw [Tryz.params10] at ht
        have hm : t ∈ [2] := by simpa using Array.mem_of_getElem? ht
        have hall : ([2].all fun u => !Tryz.prog.wantsStandIn u) = true := by kernel_rfl
        exact (show Tryz.prog.wantsStandIn t = false by simpa using List.all_eq_true.1 hall t hm)⟩)
    (by kernel_rfl)

end Go.Proofs.YtljackjcgfaanaaGreatDoor.planNone
