/- For all uint64 sets s and t, BitsLists returns true: List, Count, Runs and Inside of package bits give what the document's give. Condition: the table of math/bits starts as the program's text lays it (tied). -/
import Derived.Test.YteabmnaepmkkaaaDoorBitLaid
import Derived.Test.YteabmnaepmkkaaaDoorBitU
namespace Go.Proofs.YteabmnaepmkkaaaDoor.bitsLists
open Go.ChangeShapes Go.WideShapes Go.ChangeAt Go.RowKit

set_option maxRecDepth 100000 in
theorem walk (s t : Int) (w : World) (L : Lay w) (hs : (Lit.int .u64 s).wf = true) (ht : (Lit.int .u64 t).wf = true) :
    Calls Tryd.prog 5 #[.int .u64 s, .int .u64 t] w fun e w' => e = .returned (.bool true) ∧ Below w.heap.size w w' := by
  obtain ⟨S, rfl, hS⟩ := nat_u64 hs
  obtain ⟨T, rfl, hT⟩ := nat_u64 ht
  have A := Lib.hid (fun w L => list_any S hS w L)
  have A' := Lib.hid (fun w => listR_any S hS w)
  have I := Lib.hid (fun b1 b2 v u w h1 h2 => ints_same b1 b2 v u (Bit.mem S) w (Bit.mem_len S) h1 h2)
  have C := Lib.hid (fun w => count_any S hS w)
  have C' := Lib.hid (fun w => countR_any S hS w)
  have R := Lib.hid (fun w L => runs_any S hS w L)
  have R' := Lib.hid (fun w => runsR_any S hS w)
  have J := Lib.hid (fun b1 b2 v u w h1 h2 => runs_same b1 b2 v u (Bit.runs (Bit.mem S)) w (Nat.le_trans (Bit.runs_len _) (Bit.mem_len S)) h1 h2)
  have B := Lib.hid (fun w => inside_any S T w hS hT)
  have B' := Lib.hid (fun w => insideR_any S T w hS hT)
  obtain ⟨l, hl⟩ : ∃ l, Bit.mem S = l := ⟨_, rfl⟩
  rw [hl] at I J
  simp only [hl] at A A' C C' R R'
  obtain ⟨rs, hrs⟩ : ∃ rs, Bit.runs l = rs := ⟨_, rfl⟩
  rw [hrs] at J
  simp only [hrs] at R R'
  obtain ⟨x, hx⟩ : ∃ x, subB S T = x := ⟨_, rfl⟩
  simp only [hx] at B B'
  clear hl hrs hx hs ht
  go_enter Tryd.func5, Tryd.ntmps5
  go_wp2_with fail
  refine (A.out _ L).mono ?_
  rintro e w1 ⟨v, rfl, hr1, hb1⟩
  have H1 := Lib.hid hr1
  have B1 := Lib.hid hb1
  clear hr1 hb1
  go_wp2_with fail
  refine (A'.out _).mono ?_
  rintro e w2 ⟨u, rfl, ho2⟩
  have H2 := Lib.hid ho2
  have B2 : Hid (Below w.heap.size w w2) := Lib.hid (B1.out.trans (ho2.below.mono B1.out.size))
  clear ho2
  go_wp2_with fail
  refine (I.out _ _ _ _ _ (own_below H1.out H2.out.below) H2.out.row).mono ?_
  rintro e w3 ⟨rfl, m, rfl⟩
  have B3 : Hid (Below w.heap.size w (w2.drewN m)) := Lib.hid (below_drewN B2.out m)
  go_wp2_with fail
  refine (C.out _).mono ?_
  rintro e w' ⟨rfl, rfl⟩
  go_wp2_with fail
  refine (C'.out _).mono ?_
  rintro e w4 ⟨rfl, hb4⟩
  have B4 : Hid (Below w.heap.size w w4) := Lib.hid (B3.out.trans (hb4.mono B3.out.size))
  clear hb4
  go_wp2_with fail
  refine (R.out _ (L.below B4.out)).mono ?_
  rintro e w5 ⟨v5, rfl, ho5⟩
  have H5 := Lib.hid ho5
  have B5 : Hid (Below w.heap.size w w5) := Lib.hid (B4.out.trans (ho5.below.mono B4.out.size))
  clear ho5
  go_wp2_with fail
  refine (R'.out _).mono ?_
  rintro e w6 ⟨v6, rfl, ho6⟩
  have H6 := Lib.hid ho6
  have B6 : Hid (Below w.heap.size w w6) := Lib.hid (B5.out.trans (ho6.below.mono B5.out.size))
  clear ho6
  go_wp2_with fail
  refine (J.out _ _ _ _ _ (own_below H5.out.row H6.out.below) H6.out.row).mono ?_
  rintro e w7 ⟨rfl, m7, rfl⟩
  have B7 : Hid (Below w.heap.size w (w6.drewN m7)) := Lib.hid (below_drewN B6.out m7)
  go_wp2_with fail
  refine (B.out _).mono ?_
  rintro e w' ⟨rfl, rfl⟩
  go_wp2_with fail
  refine (B'.out _).mono ?_
  rintro e w' ⟨rfl, rfl⟩
  go_wp2_with fail
  refine (works_any _ (L.below B7.out)).mono ?_
  rintro e w8 ⟨rfl, hb8⟩
  go_wp2_with fail
  go_ret
  exact ⟨rfl, B7.out.trans (hb8.mono B7.out.size)⟩

theorem listed : Rows.bitsListsRow.laid.find? isTab = some (((Rows.bitsListsRow.laid.find? isTab).map (·.1)).getD "", Rows.laid_math_bits_deBruijn64tab) := by kernel_rfl

set_option maxRecDepth 100000 in
theorem lifted (os : Os) (started : os.Started) (H : Type) (enc : TypeId × Value → H) :
    ReturnsInHanded {} Tryd.checked os 5 .any (fun w args => (Rows.bitsListsSpec.pre enc Tryd.prog Tryd.f5 [] false w args ∧ laidMetH Tryd.prog Rows.bitsListsRow.laid w) ∧ sizedMet enc Tryd.prog Tryd.f5 (OpenSpec.ofChange Rows.bitsListsSpec) false w args)
      (Rows.bitsListsSpec.post enc Tryd.prog Tryd.f5 false true false false) := by
  refine returnsInHanded_of_change_and (C := Tryd.checked) (X := fun w _ => laidMetH Tryd.prog Rows.bitsListsRow.laid w) (fun _ _ _ hh h => h.of_heap hh) own started (by kernel_rfl) Tryd.func5
    (ChangeSpec.witness_shaped (enc := enc) (C := Tryd.checked) (os := os) (X := fun w _ => laidMetH Tryd.prog Rows.bitsListsRow.laid w) false (World.doorLaid Tryd.prog 400 os) #[.int .u64 0, .int .u64 0] 8 rfl (shaped0 os _) (by kernel_rfl) (by kernel_rfl) (by kernel_rfl) (door_met os _)) ?_
  intro W base args ds gs before hval0 hW _ _ hL _
  have hval : ∀ (j : Nat) t v, Tryd.f5.params[j]? = some t → args[j]? = some v → Value.okWide Tryd.prog W .any base t v := hval0
  have hW' := hW
  obtain ⟨p, q, hA0, hV, rfl, hfz, hnd⟩ := hW
  have hA : DataW.TrodAll enc Tryd.prog W 0 (fun _ => true) true Tryd.f5.params.toList args.toList ds p := hA0
  rw [Tryd.params5] at hA hval
  obtain ⟨v0, vs0, d0, ds0, p0, q0, hargs, rfl, rfl, h0, r0⟩ := trodAll_cons hA
  obtain ⟨v1, vs1, d1, ds1, p1, q1, rfl, rfl, rfl, h1, r1⟩ := trodAll_cons r0
  obtain ⟨rfl, rfl, rfl⟩ := trodAll_nil r1
  obtain rfl : args = #[v0, v1] := by cases args; simp_all
  obtain ⟨rfl, rfl⟩ := trodVars_none hV
  obtain ⟨a0, rfl, rfl, rfl, w0⟩ := open_int Tryd.underlying24 (hval 0 24 v0 rfl rfl) h0
  obtain ⟨a1, rfl, rfl, rfl, w1⟩ := open_int Tryd.underlying24 (hval 1 24 v1 rfl rfl) h1
  clear hA0 hval0
  refine (walk a0 a1 W (lay_of _ W (by kernel_rfl) _ listed hL) w0 w1).mono fun e W' ⟨he, bel⟩ => ?_
  subst he
  exact ⟨_, rfl, _, _, _, [], _, [], hW', trodAll_mk1 (shut_bool Tryd.underlying4 _), (trodAll_cons_mk (shut_int Tryd.underlying24 w0) (trodAll_cons_mk (shut_int Tryd.underlying24 w1) trodAll_mk0)), rfl, bel.frame _, fun h => by cases h⟩

theorem row_holds : Rows.BitsListsSaid :=
  OpenClaim.holds_of_wide 5 Tryd.f5 rfl rfl rfl rfl rfl rfl rfl ⟨rfl, rfl, rfl, rfl, rfl⟩ rfl rfl rfl rfl rfl (by kernel_rfl) Tryd.func5 (by kernel_rfl)
    (of_decide_eq_true (by kernel_rfl)) (by unfold Func.isWrapper; first | (rw [if_pos (by decide +kernel)]; kernel_rfl) | (rw [if_neg (by decide +kernel)]; exact ⟨rfl, rfl⟩))
    (fun os started H enc _ => lifted os started H enc)

theorem proved : Rows.BitsListsCardSaid :=
  Claim7.holds_tied_plain_at .later [] Rows.bitsListsCard.laidKinds true Rows.bitsListsCard.stood.harness Rows.bitsListsCard.stood.looks
    row_holds (fun _ h => by cases h) (by kernel_rfl) (fun _ h => by cases h) bitsLists_row_tie rfl ⟨rfl, rfl⟩ (by kernel_rfl) rfl
    (fun f fn hf hfn => by
      obtain rfl : f = 5 := Option.some.inj ((show Tryd.prog.funcNamed Rows.bitsListsRow.func = some 5 by kernel_rfl).symm.trans hf) |>.symm
      obtain rfl : fn = Tryd.f5 := (Option.some.inj (Tryd.func5.symm.trans hfn)).symm
      exact ⟨looks0, fun j t ht => by
        rw [Tryd.params5] at ht
        have hm : t ∈ [24] := by simpa using Array.mem_of_getElem? ht
        have hall : ([24].all fun u => !Tryd.prog.wantsStandIn u) = true := by kernel_rfl
        exact (show Tryd.prog.wantsStandIn t = false by simpa using List.all_eq_true.1 hall t hm)⟩)
    (by kernel_rfl)
end Go.Proofs.YteabmnaepmkkaaaDoor.bitsLists
