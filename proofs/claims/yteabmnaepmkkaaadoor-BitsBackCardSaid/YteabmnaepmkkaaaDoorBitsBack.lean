/- For all uint64 sets s, BitsBack returns true: the numbers of a set make the set; they increase, and are those that it has. Condition: the table of math/bits starts as the program's text lays it (tied). -/
import Derived.Test.YteabmnaepmkkaaaDoorBitLaid
import Derived.Test.YteabmnaepmkkaaaDoorBitU
namespace Go.Proofs.YteabmnaepmkkaaaDoor.bitsBack
open Go.ChangeShapes Go.WideShapes Go.ChangeAt Go.RowKit

theorem memTo_pre (S k : Nat) : ∀ m, k ≤ m → Bit.memTo S k <+: Bit.memTo S m := by
  intro m
  induction m with
  | zero => intro h; obtain rfl : k = 0 := by omega
            exact List.prefix_refl _
  | succ m ih =>
    intro h
    by_cases e : k = m + 1
    · subst e; exact List.prefix_refl _
    · refine (ih (by omega)).trans ?_
      rw [Bit.memTo_succ]
      split
      · exact List.prefix_append _ _
      · exact List.prefix_refl _
/-- the number u of the set stands behind those that are smaller -/
theorem at_num {S u : Nat} (hu : u < 64) (h : S.testBit u = true) : (Bit.mem S)[(Bit.memTo S u).length]? = some u := by
  obtain ⟨r, hr⟩ := memTo_pre S (u + 1) 64 (by omega)
  rw [Bit.memTo_succ, if_pos h] at hr
  rw [← Bit.memTo_all, ← hr]
  simp
theorem count_succ (S u : Nat) : (Bit.memTo S (u + 1)).length = (Bit.memTo S u).length + (if S.testBit u then 1 else 0) := by
  rw [Bit.memTo_succ]
  split <;> simp
theorem of_mem {S : Nat} (hS : S < 2 ^ 64) : IsOf (asInts (Bit.mem S)) S 0 := by
  refine .inl ⟨fun z hz => ?_, ?_, rfl⟩
  · obtain ⟨x, hx, rfl⟩ := List.mem_map.1 hz
    have := Bit.mem_lt hx
    unfold okN; omega
  · unfold setOf
    rw [show (asInts (Bit.mem S)).map Int.toNat = Bit.mem S by simp [asInts, Function.comp_def], Bit.ofL_mem S hS]
theorem bit_test {S : Nat} (u : Nat) (hS : S < 2 ^ 64) : (bits .and .u64 ((S : Int) / 2 ^ u) 1 == 1) = S.testBit u := by
  have q : (S : Int) / 2 ^ u = ((S / 2 ^ u : Nat) : Int) := by simp
  have q1 : S / 2 ^ u < 2 ^ 64 := Nat.lt_of_le_of_lt (Nat.div_le_self _ _) hS
  rw [q, show bits .and .u64 ((S / 2 ^ u : Nat) : Int) 1 = ((S / 2 ^ u &&& 1 : Nat) : Int) from u64_and_nat (S / 2 ^ u) 1 q1 (by decide), Nat.and_one_is_mod, Nat.testBit_eq_decide_div_mod_eq]
  clear q q1
  generalize S / 2 ^ u = z
  by_cases c : z % 2 = 1
  · simp [c]
  · have : z % 2 = 0 := by omega
    simp [this]
set_option maxRecDepth 100000 in
set_option maxHeartbeats 2000000 in
theorem walk (s : Int) (w : World) (L : Lay w) (hs : (Lit.int .u64 s).wf = true) :
    Calls Tryd.prog 6 #[.int .u64 s] w fun e w' => e = .returned (.bool true) ∧ Below w.heap.size w w' := by
  obtain ⟨S, rfl, hS⟩ := nat_u64 hs
  have LI := Lib.hid (fun w L => list_any S hS w L)
  have OF := Lib.hid (fun b v w ho => of_own b v (Bit.mem S).length (asInts (Bit.mem S)) S 0 w ho (by have := Bit.mem_len S; omega) (of_mem hS))
  have CO := Lib.hid (fun w => count_any S hS w)
  have HA := Lib.hid (fun (v : Int) w => has_any S v w hS)
  have HN := Lib.hid (fun x => has_nat hS x)
  have AT := Lib.hid (fun u (hu : u < 64) h => at_num (S := S) hu h)
  have BT := Lib.hid (fun u => bit_test (S := S) u hS)
  have ALL := Lib.hid (Bit.memTo_all S)
  have ML := Bit.mem_len S
  have MT := Lib.hid (fun k => Bit.memTo_len S k)
  obtain ⟨l, hl⟩ : ∃ l, Bit.mem S = l := ⟨_, rfl⟩
  simp only [hl] at LI OF CO AT
  rw [hl] at ML ALL
  clear hl hs
  go_enter Tryd.func6, Tryd.ntmps6
  go_wp2_with fail
  refine (LI.out _ L).mono ?_
  rintro e w1 ⟨v, rfl, hr, hb⟩
  have O := Lib.hid (OF.out _ _ _ hr)
  obtain ⟨n, ad, g, cap, hn, rfl, hg, hc⟩ : ∃ (n : Nat) (ad : Option Addr) (g cap : Nat), n = l.length ∧ v = .slice ad n cap ∧ (0 < n → ad = some ⟨g, 0, none⟩) ∧ ∀ i x, l[i]? = some x → w1.cell? ⟨g, i, none⟩ = some (.int .i64 (x : Nat)) := by
    rcases hr.2 with ⟨rfl, h0⟩ | ⟨g, cap, cur, rfl, _⟩
    · exact ⟨l.length, none, 0, 0, rfl, by rw [h0], fun h => by omega, fun i x h => by rw [List.eq_nil_of_length_eq_zero h0] at h; simp at h⟩
    · refine ⟨l.length, _, g, cap, rfl, rfl, fun _ => rfl, fun i x h => ?_⟩
      obtain ⟨hi, rfl⟩ := List.getElem?_eq_some_iff.1 h
      have hi' : i < (asInts l).length := by rw [asInts_len]; exact hi
      rw [hr.cellAt i (by omega)]
      simp [asInts, hi]
  have HC := Lib.hid hc
  have HG := Lib.hid hg
  have HB := Lib.hid hb
  have HL := Lib.hid hn
  rw [← hn] at ML
  simp only [← hn] at CO
  clear hr hc hg hb hn OF
  go_wp2_with fail
  refine O.out.mono ?_
  rintro e w' ⟨rfl, rfl⟩
  go_wp2_with fail
  refine (CO.out _).mono ?_
  rintro e w' ⟨rfl, rfl⟩
  go_wp2_with fail
  go_loop [6, 7] (fun c v => ∃ j : Nat, j ≤ 72 ∧ v = .int .i64 ((j : Int) - 2) ∧ c = .int .i64 ((Bit.memTo S (min (j - 2) 64)).length : Nat)) (fun _ v => (72 - (intOf v + 2)).toNat)
  case atStart => exact ⟨0, by omega, rfl, rfl⟩
  case round =>
    obtain ⟨j, hj, rfl, rfl⟩ := hrel
    have CL := MT.out (min (j - 2) 64)
    obtain ⟨c, hc⟩ : ∃ c, (Bit.memTo S (min (j - 2) 64)).length = c := ⟨_, rfl⟩
    rw [hc] at CL ⊢
    have HCC := Lib.hid hc
    clear hc
    by_cases c0 : j < 2
    · have d0 : decide (0 ≤ (j : Int) - 2) = false := by simp; omega
      have d9 : decide ((j : Int) - 2 < 70) = true := by simp; omega
      have hb : hasB S ((j : Int) - 2) = false := by unfold hasB; simp; omega
      have H := Lib.hid (fun w => HA.out ((j : Int) - 2) w)
      rw [hb] at H
      clear hb
      go_wp2_with fail
      refine (H.out _).mono ?_
      rintro e w' ⟨rfl, rfl⟩
      go_wp2_with fail
      go_round
      case rel => exact ⟨j + 1, by omega, by go_num, by rw [← HCC.out, show j + 1 - 2 = 0 by omega, show j - 2 = 0 by omega]⟩
      case measure => simp [intOf]; omega
    · by_cases c1 : j < 66
      · obtain ⟨u, rfl⟩ : ∃ u, j = u + 2 := ⟨j - 2, by omega⟩
        have u64' : u < 64 := by omega
        rw [show ((u + 2 : Nat) : Int) - 2 = (u : Int) by omega]
        rw [show min (u + 2 - 2) 64 = u by omega] at HCC
        have d0 : decide (0 ≤ (u : Int)) = true := by simp
        have d1 : decide ((u : Int) < 64) = true := by simp; omega
        have d9 : decide ((u : Int) < 70) = true := by simp; omega
        have H := Lib.hid (fun w => HA.out (u : Int) w)
        rw [HN.out] at H
        have bt := BT.out u
        have CS := Lib.hid (count_succ S u)
        cases tb : S.testBit u with
        | true =>
          rw [tb] at H bt
          rw [tb, if_pos rfl, HCC.out] at CS
          have A := AT.out u u64' tb
          rw [HCC.out] at A
          have cell := HC.out c u A
          have cn : c < n := by rw [HL.out]; exact (List.getElem?_eq_some_iff.1 A).1
          obtain rfl := HG.out (by omega)
          have g1 : decide (n ≤ c) = false := by simp; omega
          have g2 : decide ((n : Int) ≤ c) = false := by simp; omega
          have g3 : (c : Int) < (n : Int) := by omega
          clear tb A
          go_wp2_with fail
          refine (H.out _).mono ?_
          rintro e w' ⟨rfl, rfl⟩
          go_wp2_with fail
          go_round
          case rel => exact ⟨u + 3, by omega, by go_num, by rw [show min (u + 3 - 2) 64 = u + 1 by omega, CS.out]; rfl⟩
          case measure => simp [intOf]; omega
        | false =>
          rw [tb] at H bt
          rw [tb, if_neg (by simp), HCC.out] at CS
          clear tb
          go_wp2_with fail
          refine (H.out _).mono ?_
          rintro e w' ⟨rfl, rfl⟩
          go_wp2_with fail
          go_round
          case rel => exact ⟨u + 3, by omega, by go_num, by rw [show min (u + 3 - 2) 64 = u + 1 by omega, CS.out]; rfl⟩
          case measure => simp [intOf]; omega
      · have d0 : decide (0 ≤ (j : Int) - 2) = true := by simp; omega
        have d1 : decide ((j : Int) - 2 < 64) = false := by simp; omega
        have hb : hasB S ((j : Int) - 2) = false := by unfold hasB; simp; omega
        have H := Lib.hid (fun w => HA.out ((j : Int) - 2) w)
        rw [hb] at H
        by_cases c2 : j < 72
        · have d9 : decide ((j : Int) - 2 < 70) = true := by simp; omega
          clear hb
          go_wp2_with fail
          refine (H.out _).mono ?_
          rintro e w' ⟨rfl, rfl⟩
          go_wp2_with fail
          go_round
          case rel => exact ⟨j + 1, by omega, by go_num, by rw [← HCC.out, show min (j + 1 - 2) 64 = 64 by omega, show min (j - 2) 64 = 64 by omega]⟩
          case measure => simp [intOf]; omega
        · have d9 : decide ((j : Int) - 2 < 70) = false := by simp; omega
          obtain rfl : c = n := by rw [← HCC.out, show min (j - 2) 64 = 64 by omega, ALL.out, HL.out]
          clear hb
          go_wp2_with fail
          refine (works_any _ (L.below HB.out)).mono ?_
          rintro e w8 ⟨rfl, hb8⟩
          go_wp2_with fail
          go_ret
          exact ⟨rfl, HB.out.trans (hb8.mono HB.out.size)⟩

theorem listed : Rows.bitsBackRow.laid.find? isTab = some (((Rows.bitsBackRow.laid.find? isTab).map (·.1)).getD "", Rows.laid_math_bits_deBruijn64tab) := by kernel_rfl

set_option maxRecDepth 100000 in
theorem lifted (os : Os) (started : os.Started) (H : Type) (enc : TypeId × Value → H) :
    ReturnsInHanded {} Tryd.checked os 6 .any (fun w args => (Rows.bitsBackSpec.pre enc Tryd.prog Tryd.f6 [] false w args ∧ laidMetH Tryd.prog Rows.bitsBackRow.laid w) ∧ sizedMet enc Tryd.prog Tryd.f6 (OpenSpec.ofChange Rows.bitsBackSpec) false w args)
      (Rows.bitsBackSpec.post enc Tryd.prog Tryd.f6 false true false false) := by
  refine returnsInHanded_of_change_and (C := Tryd.checked) (X := fun w _ => laidMetH Tryd.prog Rows.bitsBackRow.laid w) (fun _ _ _ hh h => h.of_heap hh) own started (by kernel_rfl) Tryd.func6
    (ChangeSpec.witness_shaped (enc := enc) (C := Tryd.checked) (os := os) (X := fun w _ => laidMetH Tryd.prog Rows.bitsBackRow.laid w) false (World.doorLaid Tryd.prog 400 os) #[.int .u64 0] 8 rfl (shaped0 os _) (by kernel_rfl) (by kernel_rfl) (by kernel_rfl) (door_met os _)) ?_
  intro W base args ds gs before hval0 hW _ _ hL _
  have hval : ∀ (j : Nat) t v, Tryd.f6.params[j]? = some t → args[j]? = some v → Value.okWide Tryd.prog W .any base t v := hval0
  have hW' := hW
  obtain ⟨p, q, hA0, hV, rfl, hfz, hnd⟩ := hW
  have hA : DataW.TrodAll enc Tryd.prog W 0 (fun _ => true) true Tryd.f6.params.toList args.toList ds p := hA0
  rw [Tryd.params6] at hA hval
  obtain ⟨v0, vs0, d0, ds0, p0, q0, hargs, rfl, rfl, h0, r0⟩ := trodAll_cons hA
  obtain ⟨rfl, rfl, rfl⟩ := trodAll_nil r0
  obtain rfl : args = #[v0] := by cases args; simp_all
  obtain ⟨rfl, rfl⟩ := trodVars_none hV
  obtain ⟨a0, rfl, rfl, rfl, w0⟩ := open_int Tryd.underlying24 (hval 0 24 v0 rfl rfl) h0
  clear hA0 hval0
  refine (walk a0 W (lay_of _ W (by kernel_rfl) _ listed hL) w0).mono fun e W' ⟨he, bel⟩ => ?_
  subst he
  exact ⟨_, rfl, _, _, _, [], _, [], hW', trodAll_mk1 (shut_bool Tryd.underlying4 _), (trodAll_cons_mk (shut_int Tryd.underlying24 w0) trodAll_mk0), rfl, bel.frame _, fun h => by cases h⟩

theorem row_holds : Rows.BitsBackSaid :=
  OpenClaim.holds_of_wide 6 Tryd.f6 rfl rfl rfl rfl rfl rfl rfl ⟨rfl, rfl, rfl, rfl, rfl⟩ rfl rfl rfl rfl rfl (by kernel_rfl) Tryd.func6 (by kernel_rfl)
    (of_decide_eq_true (by kernel_rfl)) (by unfold Func.isWrapper; first | (rw [if_pos (by decide +kernel)]; kernel_rfl) | (rw [if_neg (by decide +kernel)]; exact ⟨rfl, rfl⟩))
    (fun os started H enc _ => lifted os started H enc)

theorem proved : Rows.BitsBackCardSaid :=
  Claim7.holds_tied_plain_at .later [] Rows.bitsBackCard.laidKinds true Rows.bitsBackCard.stood.harness Rows.bitsBackCard.stood.looks
    row_holds (fun _ h => by cases h) (by kernel_rfl) (fun _ h => by cases h) bitsBack_row_tie rfl ⟨rfl, rfl⟩ (by kernel_rfl) rfl
    (fun f fn hf hfn => by
      obtain rfl : f = 6 := Option.some.inj ((show Tryd.prog.funcNamed Rows.bitsBackRow.func = some 6 by kernel_rfl).symm.trans hf) |>.symm
      obtain rfl : fn = Tryd.f6 := (Option.some.inj (Tryd.func6.symm.trans hfn)).symm
      exact ⟨looks0, fun j t ht => by
        rw [Tryd.params6] at ht
        have hm : t ∈ [24] := by simpa using Array.mem_of_getElem? ht
        have hall : ([24].all fun u => !Tryd.prog.wantsStandIn u) = true := by kernel_rfl
        exact (show Tryd.prog.wantsStandIn t = false by simpa using List.all_eq_true.1 hall t hm)⟩)
    (by kernel_rfl)
end Go.Proofs.YteabmnaepmkkaaaDoor.bitsBack
