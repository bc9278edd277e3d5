/- For every slice of plans and time, PlanDues returns true: which plans are due is as the document says. Condition: the program's tables start as its text lays them (tied). -/
import Derived.Test.YtljackjcgfaanaaGreatDoorPlaAr2
import Derived.Test.YtljackjcgfaanaaGreatDoorPlaV
namespace Go.Proofs.YtljackjcgfaanaaGreatDoor.planDues
open Go.ChangeShapes Go.WideShapes Go.ChangeAt Go.RowKit Go.ChangeMaps

theorem dueR_len {ps : List Pl.P} {t : Int} {l : List Int} {r : Int} (h : Pl.DueR ps t l r) : l.length ≤ ps.length := by
  rcases h.2 with ⟨_, e⟩ | ⟨_, e⟩
  · rw [e]; simp
  · rw [e]; exact Pl.dueK_len _ _ _
set_option maxRecDepth 100000 in
set_option maxHeartbeats 8000000 in
theorem walk (a0 : Option Addr) (n0 cap : Nat) (z : List (Pl.P × Value)) (t : Int) (w : World) (L : LayM w) (e0 : z.length = n0) (hI : InPs w (.slice a0 n0 cap) z) (_ : (Lit.int .i64 t).wf = true) :
    Calls Tryz.prog 6 #[.slice a0 n0 cap, .int .i64 t] w fun e w' => e = .returned (.bool true) ∧ Below w.heap.size w w' := by
  subst e0
  have LL := Lib.hid L
  have WK := Lib.hid (fun W L => works_any W L)
  have HI := Lib.hid hI
  clear hI L
  by_cases big : 100 < z.length
  · have t0 : decide ((100 : Int) < (z.length : Int)) = true := by rw [decide_eq_true_iff]; omega
    clear big
    go_enter Tryz.func6, Tryz.ntmps6
    go_wp2_with fail
    refine (WK.out _ LL.out).mono ?_
    rintro e w1 ⟨rfl, hb1⟩
    go_wp2_with fail
    go_ret
    exact ⟨rfl, hb1⟩
  have t0 : decide ((100 : Int) < (z.length : Int)) = false := by rw [decide_eq_false_iff_not]; omega
  have BG := Lib.hid big
  clear big
  go_enter Tryz.func6, Tryz.ntmps6
  go_wp2_with fail
  go_loopw [5] (fun iv wr => ∃ k : Nat, k ≤ z.length ∧ iv = .int .i64 k ∧ Hid (∀ j, j < k → (z.getD j (Pl.pZ, .nilFunc)).1.l.length ≤ 200) ∧ w = wr) (fun iv _ => z.length - (intOf iv).toNat)
  case atStart => exact ⟨0, by omega, rfl, Lib.hid (fun j hj => by omega), rfl⟩
  case round =>
    obtain ⟨k, hk, rfl, hs, rfl⟩ := hrel
    by_cases lt : k < z.length
    · have e0 : decide ((k : Int) < (z.length : Int)) = true := by rw [decide_eq_true_iff]; omega
      have wi : IntKind.i64.wrap ((k : Int) + 1) = (k : Int) + 1 := by have := BG.out; rw [IntKind.wrap_i64]; omega
      obtain ⟨⟨q, vq⟩, hq⟩ : ∃ x, z.getD k (Pl.pZ, .nilFunc) = x := ⟨_, rfl⟩
      obtain ⟨b, o, rfl, cc, _, hq2⟩ := HI.out.2.2 _ _ _ rfl k lt
      rw [hq] at cc hq2
      obtain ⟨A2, cap2, rfl⟩ : ∃ A c, vq = .slice A q.l.length c := hq2.1
      have c13 := cc 13 _ rfl
      have HQ := Lib.hid hq
      clear cc hq2 hq
      by_cases wide : 200 < q.l.length
      · have t1 : decide ((200 : Int) < (q.l.length : Int)) = true := by rw [decide_eq_true_iff]; omega
        clear wide
        go_wp2_with fail
        refine (WK.out _ LL.out).mono ?_
        rintro e w1 ⟨rfl, hb1⟩
        go_wp2_with fail
        go_ret
        exact ⟨rfl, hb1⟩
      · have t1 : decide ((200 : Int) < (q.l.length : Int)) = false := by rw [decide_eq_false_iff_not]; omega
        have HS2 : Hid (∀ j, j < k + 1 → (z.getD j (Pl.pZ, .nilFunc)).1.l.length ≤ 200) := Lib.hid (fun j hj => by
          by_cases e : j = k
          · subst e; rw [HQ.out]; exact Nat.not_lt.1 wide
          · exact hs.out j (by omega))
        clear wide
        go_wp2_with fail
        go_roundw
        case rel => exact ⟨k + 1, by omega, by first | rfl | go_num, HS2, by first | rfl | trivial⟩
        case measure => simp [intOf] <;> omega
    · have e0 : decide ((k : Int) < (z.length : Int)) = false := by rw [decide_eq_false_iff_not]; omega
      obtain rfl : k = z.length := by omega
      have RP := Lib.hid (HI.out.rowP (by have := BG.out; omega) (fun j hj => by have := hs.out j hj; omega))
      obtain ⟨l, r, hr⟩ := Pl.dueR_ex (z.map (·.1)) t
      have DU := Lib.hid (pdue_any _ z t l r hr w LL.out RP.out)
      have DV := Lib.hid (fun W (hb : Below w.heap.size w W) => rpdue_any _ z t l r hr W (LL.out.below hb) (RP.out.below hb))
      have LE := Lib.hid (dueR_len hr)
      have SI := Lib.hid (fun v1 v2 W h1 h2 => ints_any v1 v2 l l true (by simp) (by have := LE.out; have := BG.out; simp at this; simp at *; omega) W h1 h2)
      have rr : (r == r) = true := by simp
      clear lt hk hs hr
      go_wp2_with fail
      refine (DU.out).mono ?_
      rintro e w1 ⟨u, rfl, hu⟩
      have RM := Lib.hid hu.rowT
      have B1 := Lib.hid hu.below
      obtain ⟨A9, c9, rfl⟩ := hu.len
      clear hu
      go_wp2_with fail
      refine (DV.out _ B1.out).mono ?_
      rintro e w2 ⟨u2, rfl, hu2⟩
      have RN := Lib.hid hu2.rowT
      have RM2 := Lib.hid (RM.out.below hu2.below)
      have B2 := Lib.hid (B1.out.trans (hu2.below.mono B1.out.size))
      obtain ⟨A8, c8, rfl⟩ := hu2.len
      clear hu2
      go_wp2_with fail
      refine (SI.out _ _ _ RM2.out RN.out).mono ?_
      rintro e w3 ⟨rfl, hb3⟩
      have B3 := Lib.hid (B2.out.trans (hb3.mono B2.out.size))
      clear hb3
      go_wp2_with fail
      refine (WK.out _ (LL.out.below B3.out)).mono ?_
      rintro e w5 ⟨rfl, hb5⟩
      have B5 := Lib.hid (B3.out.trans (hb5.mono B3.out.size))
      clear hb5
      go_wp2_with fail
      go_ret
      exact ⟨rfl, B5.out⟩

set_option maxRecDepth 100000 in
theorem lifted (os : Os) (started : os.Started) (H : Type) (enc : TypeId × Value → H) :
    ReturnsInHanded {} Tryz.checked os 6 .any (fun w args => (Rows.planDuesSpec.pre enc Tryz.prog Tryz.f6 [] false w args ∧ laidMetH Tryz.prog Rows.planDuesRow.laid w) ∧ sizedMet enc Tryz.prog Tryz.f6 (OpenSpec.ofChange Rows.planDuesSpec) false w args)
      (Rows.planDuesSpec.post enc Tryz.prog Tryz.f6 false true false false) := by
  refine returnsInHanded_of_change_and (C := Tryz.checked) (X := fun w _ => laidMetH Tryz.prog Rows.planDuesRow.laid w) (fun _ _ _ hh h => h.of_heap hh) own started (by kernel_rfl) Tryz.func6
    (ChangeSpec.witness_shaped (enc := enc) (C := Tryz.checked) (os := os) (X := fun w _ => laidMetH Tryz.prog Rows.planDuesRow.laid w) false (World.laidAll Tryz.prog os Rows.planDuesRow.laid) #[.slice none 0 0, .int .i64 0] 8 (World.laidAll_os _ _ _) (World.shaped_of_ZipB (by kernel_rfl) (by kernel_rfl)) (by kernel_rfl) (by kernel_rfl) (by kernel_rfl) (by rw [MakeChecks.laidMetH_plain _ _ _ (by kernel_rfl)]; exact laidMet_laidAll _ (by kernel_rfl) (by kernel_rfl))) ?_
  intro W base args ds gs before hval0 hW _ _ hL _
  have hval : ∀ (j : Nat) t v, Tryz.f6.params[j]? = some t → args[j]? = some v → Value.okWide Tryz.prog W .any base t v := hval0
  have hW' := hW
  obtain ⟨p, q, hA0, hV, rfl, hfz, hnd⟩ := hW
  have hA : DataW.TrodAll enc Tryz.prog W 0 (fun _ => true) true Tryz.f6.params.toList args.toList ds p := hA0
  rw [Tryz.params6] at hA hval
  obtain ⟨v0, vs0, d0, ds0, p0, q0, hargs, rfl, rfl, h0, r0⟩ := trodAll_cons hA
  obtain ⟨v1, vs1, d1, ds1, p1, q1, rfl, rfl, rfl, h1, r1⟩ := trodAll_cons r0
  obtain ⟨rfl, rfl, rfl⟩ := trodAll_nil r1
  obtain rfl : args = #[v0, v1] := by cases args; simp_all
  obtain ⟨rfl, rfl⟩ := trodVars_none hV
  obtain ⟨a0, len0, cap0, rfl⟩ := okWide_slice Tryz.underlying49 (hval 0 49 v0 rfl rfl)
  have k0 := h0
  have lt0 : ∀ x ∈ p0, x.block < W.heap.size := by obtain ⟨m, hm⟩ := k0; exact DataW.trod_lt m _ _ _ hm
  obtain ⟨z0, e0, w0⟩ : ∃ l, l.length = len0 ∧ InPs W (.slice a0 len0 cap0) l := by obtain ⟨fuel, hf⟩ := h0; exact open_plans (by simpa [Value.cells] using hf)
  obtain ⟨a1, rfl, rfl, rfl, w1⟩ := open_int Tryz.underlying2 (hval 1 2 v1 rfl rfl) h1
  clear hA0 hval0
  refine (walk a0 len0 cap0 z0 a1 W (layM_of _ W (by kernel_rfl) (.head _) (.tail _ (.head _)) (by kernel_rfl) (by kernel_rfl) hL) e0 w0 w1).mono fun e W' ⟨he, bel⟩ => ?_
  subst he
  exact ⟨_, rfl, _, _, _, [], _, [], hW', trodAll_mk1 (shut_bool Tryz.underlying4 _), (trodAll_cons_mk (Below.trod laidOut (by kernel_rfl) (of_decide_eq_true (by kernel_rfl)) k0 bel lt0) (trodAll_cons_mk (shut_int Tryz.underlying2 w1) trodAll_mk0)), rfl, bel.frame _, fun h => by cases h⟩

theorem row_holds : Rows.PlanDuesSaid :=
  OpenClaim.holds_of_wide 6 Tryz.f6 rfl rfl rfl rfl rfl rfl rfl ⟨rfl, rfl, rfl, rfl, rfl⟩ rfl rfl rfl rfl rfl (by kernel_rfl) Tryz.func6 (by kernel_rfl)
    (of_decide_eq_true (by kernel_rfl)) (by unfold Func.isWrapper; first | (rw [if_pos (by decide +kernel)]; kernel_rfl) | (rw [if_neg (by decide +kernel)]; exact ⟨rfl, rfl⟩))
    (fun os started H enc _ => lifted os started H enc)

theorem proved : Rows.PlanDuesCardSaid :=
  Claim7.holds_tied_plain_at .later [] Rows.planDuesCard.laidKinds true Rows.planDuesCard.stood.harness Rows.planDuesCard.stood.looks
    row_holds (fun _ h => by cases h) (by kernel_rfl) (fun _ h => by cases h) planDues_row_tie rfl ⟨rfl, rfl⟩ (by kernel_rfl) rfl
    (fun f fn hf hfn => by
      obtain rfl : f = 6 := Option.some.inj ((show Tryz.prog.funcNamed Rows.planDuesRow.func = some 6 by kernel_rfl).symm.trans hf) |>.symm
      obtain rfl : fn = Tryz.f6 := (Option.some.inj (Tryz.func6.symm.trans hfn)).symm
      exact ⟨looks0, fun j t ht => by
        rw [Tryz.params6] at ht
        have hm : t ∈ [49, 2] := by simpa using Array.mem_of_getElem? ht
        have hall : ([49, 2].all fun u => !Tryz.prog.wantsStandIn u) = true := by kernel_rfl
        exact (show Tryz.prog.wantsStandIn t = false by simpa using List.all_eq_true.1 hall t hm)⟩)
    (by kernel_rfl)

end Go.Proofs.YtljackjcgfaanaaGreatDoor.planDues
