/- For all uint64 sets s and int numbers v, BitsNeighbours returns true: between what Next and Prev return and v no number of the set lies. Condition: the table of math/bits starts as the program's text lays it (tied). -/
import Derived.Test.YteabmnaepmkkaaaDoorBitLaid
import Derived.Test.YteabmnaepmkkaaaDoorBitU
namespace Go.Proofs.YteabmnaepmkkaaaDoor.bitsNeighbours
open Go.ChangeShapes Go.WideShapes Go.ChangeAt Go.RowKit

set_option maxRecDepth 100000 in
set_option maxHeartbeats 2000000 in
theorem walk (s v : Int) (w : World) (L : Lay w) (hs : (Lit.int .u64 s).wf = true) (hv : (Lit.int .i64 v).wf = true) :
    Calls Tryd.prog 9 #[.int .u64 s, .int .i64 v] w fun e w' => e = .returned (.bool true) ∧ Below w.heap.size w w' := by
  obtain ⟨S, rfl, hS⟩ := nat_u64 hs
  obtain ⟨v0, v1⟩ := int_i64 hv
  have HS := Lib.hid (fun (x : Nat) w => has_any S x w hS)
  have HN := Lib.hid (fun x => has_nat hS x)
  have HP := Lib.hid (prv_ex v hS)
  clear hs hv
  go_enter Tryd.func9, Tryd.ntmps9
  rcases nxt_ex v hS with hn | ⟨a, hn⟩
  · have D := Lib.hid (fun w L => next_any S v 0 false w L hS v1 (.inl ⟨hn, rfl, rfl⟩))
    have NN := Lib.hid hn
    clear hn
    go_wp2_with fail
    refine (D.out _ L).mono ?_
    rintro e w' ⟨rfl, rfl⟩
    go_wp2_with fail
    go_loop [7] (fun i => ∃ k : Nat, k ≤ 64 ∧ i = .int .i64 k) (fun i => 64 - (intOf i).toNat)
    case atStart => exact ⟨0, by omega, rfl⟩
    case round =>
      obtain ⟨k, hk, rfl⟩ := hrel
      by_cases c : k < 64
      · have H := Lib.hid (fun w => HS.out k w)
        rw [HN.out] at H
        by_cases p : v ≤ (k : Int)
        · have d0 : decide (v ≤ (k : Int)) = true := by simpa using p
          have t := show S.testBit k = false by
            cases h : S.testBit k with
            | false => rfl
            | true => have := NN.out k h; omega
          rw [t] at H
          clear t
          go_wp2_with fail
          refine (H.out _).mono ?_
          rintro e w' ⟨rfl, rfl⟩
          go_wp2_with fail
          go_round
          case rel => exact ⟨k + 1, by omega, by go_num⟩
          case measure => simp [intOf]; omega
        · have d0 : decide (v ≤ (k : Int)) = false := by simpa using p
          go_wp2_with fail
          go_round
          case rel => exact ⟨k + 1, by omega, by go_num⟩
          case measure => simp [intOf]; omega
      · obtain rfl : k = 64 := by omega
        clear c
        rcases HP.out with hp | ⟨b, hp⟩
        · have E := Lib.hid (fun w => prev_any S v 0 false w hS v0 v1 (.inl ⟨hp, rfl, rfl⟩))
          have NP := Lib.hid hp
          clear hp
          go_wp2_with fail
          refine (E.out _).mono ?_
          rintro e w' ⟨rfl, rfl⟩
          go_wp2_with fail
          go_loop [10] (fun i => ∃ k : Nat, k ≤ 64 ∧ i = .int .i64 k) (fun i => 64 - (intOf i).toNat)
          case atStart => exact ⟨0, by omega, rfl⟩
          case round =>
            obtain ⟨k, hk, rfl⟩ := hrel
            by_cases c : k < 64
            · have H := Lib.hid (fun w => HS.out k w)
              rw [HN.out] at H
              by_cases p : (k : Int) ≤ v
              · have d0 : decide ((k : Int) ≤ v) = true := by simpa using p
                have t := show S.testBit k = false by
                  cases h : S.testBit k with
                  | false => rfl
                  | true => have := NP.out k h; omega
                rw [t] at H
                clear t
                go_wp2_with fail
                refine (H.out _).mono ?_
                rintro e w' ⟨rfl, rfl⟩
                go_wp2_with fail
                go_round
                case rel => exact ⟨k + 1, by omega, by go_num⟩
                case measure => simp [intOf]; omega
              · have d0 : decide ((k : Int) ≤ v) = false := by simpa using p
                go_wp2_with fail
                go_round
                case rel => exact ⟨k + 1, by omega, by go_num⟩
                case measure => simp [intOf]; omega
            · obtain rfl : k = 64 := by omega
              clear c
              go_wp2_with fail
              refine (works_any _ L).mono ?_
              rintro e w1 ⟨rfl, hb⟩
              go_wp2_with fail
              go_ret
              exact ⟨rfl, hb⟩
        · have E := Lib.hid (fun w => prev_any S v b true w hS v0 v1 (.inr ⟨b, hp, rfl, rfl⟩))
          have HB := Lib.hid (fun w => HS.out b w)
          rw [HN.out, hp.has] at HB
          have b64 := prv_lt hS hp
          have bv := hp.le
          have d5 : decide (v < (b : Int)) = false := by simp; omega
          have NP := Lib.hid hp.max
          clear hp bv
          go_wp2_with fail
          refine (E.out _).mono ?_
          rintro e w' ⟨rfl, rfl⟩
          go_wp2_with fail
          refine (HB.out _).mono ?_
          rintro e w' ⟨rfl, rfl⟩
          go_wp2_with fail
          go_loop [10] (fun i => ∃ k : Nat, k ≤ 64 ∧ i = .int .i64 k) (fun i => 64 - (intOf i).toNat)
          case atStart => exact ⟨0, by omega, rfl⟩
          case round =>
            obtain ⟨k, hk, rfl⟩ := hrel
            by_cases c : k < 64
            · have H := Lib.hid (fun w => HS.out k w)
              rw [HN.out] at H
              by_cases p : (k : Int) ≤ v
              · have d0 : decide ((k : Int) ≤ v) = true := by simpa using p
                by_cases q : (b : Int) < k
                · have d1 : decide ((b : Int) < k) = true := by simpa using q
                  have d2 : decide (b < k) = true := by simp; omega
                  have t := show S.testBit k = false by
                    cases h : S.testBit k with
                    | false => rfl
                    | true => have := NP.out k h p; omega
                  rw [t] at H
                  clear t
                  go_wp2_with fail
                  refine (H.out _).mono ?_
                  rintro e w' ⟨rfl, rfl⟩
                  go_wp2_with fail
                  go_round
                  case rel => exact ⟨k + 1, by omega, by go_num⟩
                  case measure => simp [intOf]; omega
                · have d1 : decide ((b : Int) < k) = false := by simpa using q
                  have d2 : decide (b < k) = false := by simp; omega
                  go_wp2_with fail
                  go_round
                  case rel => exact ⟨k + 1, by omega, by go_num⟩
                  case measure => simp [intOf]; omega
              · have d0 : decide ((k : Int) ≤ v) = false := by simpa using p
                go_wp2_with fail
                go_round
                case rel => exact ⟨k + 1, by omega, by go_num⟩
                case measure => simp [intOf]; omega
            · obtain rfl : k = 64 := by omega
              clear c
              go_wp2_with fail
              refine (works_any _ L).mono ?_
              rintro e w1 ⟨rfl, hb⟩
              go_wp2_with fail
              go_ret
              exact ⟨rfl, hb⟩
  · have D := Lib.hid (fun w L => next_any S v a true w L hS v1 (.inr ⟨a, hn, rfl, rfl⟩))
    have HA := Lib.hid (fun w => HS.out a w)
    rw [HN.out, hn.has] at HA
    have a64 := nxt_lt hS hn
    have av := hn.ge
    have d4 : decide ((a : Int) < v) = false := by simp; omega
    have NN := Lib.hid hn.min
    clear hn av
    go_wp2_with fail
    refine (D.out _ L).mono ?_
    rintro e w' ⟨rfl, rfl⟩
    go_wp2_with fail
    refine (HA.out _).mono ?_
    rintro e w' ⟨rfl, rfl⟩
    go_wp2_with fail
    go_loop [7] (fun i => ∃ k : Nat, k ≤ 64 ∧ i = .int .i64 k) (fun i => 64 - (intOf i).toNat)
    case atStart => exact ⟨0, by omega, rfl⟩
    case round =>
      obtain ⟨k, hk, rfl⟩ := hrel
      by_cases c : k < 64
      · have H := Lib.hid (fun w => HS.out k w)
        rw [HN.out] at H
        by_cases p : v ≤ (k : Int)
        · have d0 : decide (v ≤ (k : Int)) = true := by simpa using p
          by_cases q : (k : Int) < a
          · have d1 : decide ((k : Int) < a) = true := by simpa using q
            have d2 : decide (k < a) = true := by simp; omega
            have t := show S.testBit k = false by
              cases h : S.testBit k with
              | false => rfl
              | true => have := NN.out k h p; omega
            rw [t] at H
            clear t
            go_wp2_with fail
            refine (H.out _).mono ?_
            rintro e w' ⟨rfl, rfl⟩
            go_wp2_with fail
            go_round
            case rel => exact ⟨k + 1, by omega, by go_num⟩
            case measure => simp [intOf]; omega
          · have d1 : decide ((k : Int) < a) = false := by simpa using q
            have d2 : decide (k < a) = false := by simp; omega
            go_wp2_with fail
            go_round
            case rel => exact ⟨k + 1, by omega, by go_num⟩
            case measure => simp [intOf]; omega
        · have d0 : decide (v ≤ (k : Int)) = false := by simpa using p
          go_wp2_with fail
          go_round
          case rel => exact ⟨k + 1, by omega, by go_num⟩
          case measure => simp [intOf]; omega
      · obtain rfl : k = 64 := by omega
        clear c
        rcases HP.out with hp | ⟨b, hp⟩
        · have E := Lib.hid (fun w => prev_any S v 0 false w hS v0 v1 (.inl ⟨hp, rfl, rfl⟩))
          have NP := Lib.hid hp
          clear hp
          go_wp2_with fail
          refine (E.out _).mono ?_
          rintro e w' ⟨rfl, rfl⟩
          go_wp2_with fail
          go_loop [10] (fun i => ∃ k : Nat, k ≤ 64 ∧ i = .int .i64 k) (fun i => 64 - (intOf i).toNat)
          case atStart => exact ⟨0, by omega, rfl⟩
          case round =>
            obtain ⟨k, hk, rfl⟩ := hrel
            by_cases c : k < 64
            · have H := Lib.hid (fun w => HS.out k w)
              rw [HN.out] at H
              by_cases p : (k : Int) ≤ v
              · have d0 : decide ((k : Int) ≤ v) = true := by simpa using p
                have t := show S.testBit k = false by
                  cases h : S.testBit k with
                  | false => rfl
                  | true => have := NP.out k h; omega
                rw [t] at H
                clear t
                go_wp2_with fail
                refine (H.out _).mono ?_
                rintro e w' ⟨rfl, rfl⟩
                go_wp2_with fail
                go_round
                case rel => exact ⟨k + 1, by omega, by go_num⟩
                case measure => simp [intOf]; omega
              · have d0 : decide ((k : Int) ≤ v) = false := by simpa using p
                go_wp2_with fail
                go_round
                case rel => exact ⟨k + 1, by omega, by go_num⟩
                case measure => simp [intOf]; omega
            · obtain rfl : k = 64 := by omega
              clear c
              go_wp2_with fail
              refine (works_any _ L).mono ?_
              rintro e w1 ⟨rfl, hb⟩
              go_wp2_with fail
              go_ret
              exact ⟨rfl, hb⟩
        · have E := Lib.hid (fun w => prev_any S v b true w hS v0 v1 (.inr ⟨b, hp, rfl, rfl⟩))
          have HB := Lib.hid (fun w => HS.out b w)
          rw [HN.out, hp.has] at HB
          have b64 := prv_lt hS hp
          have bv := hp.le
          have d5 : decide (v < (b : Int)) = false := by simp; omega
          have NP := Lib.hid hp.max
          clear hp bv
          go_wp2_with fail
          refine (E.out _).mono ?_
          rintro e w' ⟨rfl, rfl⟩
          go_wp2_with fail
          refine (HB.out _).mono ?_
          rintro e w' ⟨rfl, rfl⟩
          go_wp2_with fail
          go_loop [10] (fun i => ∃ k : Nat, k ≤ 64 ∧ i = .int .i64 k) (fun i => 64 - (intOf i).toNat)
          case atStart => exact ⟨0, by omega, rfl⟩
          case round =>
            obtain ⟨k, hk, rfl⟩ := hrel
            by_cases c : k < 64
            · have H := Lib.hid (fun w => HS.out k w)
              rw [HN.out] at H
              by_cases p : (k : Int) ≤ v
              · have d0 : decide ((k : Int) ≤ v) = true := by simpa using p
                by_cases q : (b : Int) < k
                · have d1 : decide ((b : Int) < k) = true := by simpa using q
                  have d2 : decide (b < k) = true := by simp; omega
                  have t := show S.testBit k = false by
                    cases h : S.testBit k with
                    | false => rfl
                    | true => have := NP.out k h p; omega
                  rw [t] at H
                  clear t
                  go_wp2_with fail
                  refine (H.out _).mono ?_
                  rintro e w' ⟨rfl, rfl⟩
                  go_wp2_with fail
                  go_round
                  case rel => exact ⟨k + 1, by omega, by go_num⟩
                  case measure => simp [intOf]; omega
                · have d1 : decide ((b : Int) < k) = false := by simpa using q
                  have d2 : decide (b < k) = false := by simp; omega
                  go_wp2_with fail
                  go_round
                  case rel => exact ⟨k + 1, by omega, by go_num⟩
                  case measure => simp [intOf]; omega
              · have d0 : decide ((k : Int) ≤ v) = false := by simpa using p
                go_wp2_with fail
                go_round
                case rel => exact ⟨k + 1, by omega, by go_num⟩
                case measure => simp [intOf]; omega
            · obtain rfl : k = 64 := by omega
              clear c
              go_wp2_with fail
              refine (works_any _ L).mono ?_
              rintro e w1 ⟨rfl, hb⟩
              go_wp2_with fail
              go_ret
              exact ⟨rfl, hb⟩

theorem listed : Rows.bitsNeighboursRow.laid.find? isTab = some (((Rows.bitsNeighboursRow.laid.find? isTab).map (·.1)).getD "", Rows.laid_math_bits_deBruijn64tab) := by kernel_rfl

set_option maxRecDepth 100000 in
theorem lifted (os : Os) (started : os.Started) (H : Type) (enc : TypeId × Value → H) :
    ReturnsInHanded {} Tryd.checked os 9 .any (fun w args => (Rows.bitsNeighboursSpec.pre enc Tryd.prog Tryd.f9 [] false w args ∧ laidMetH Tryd.prog Rows.bitsNeighboursRow.laid w) ∧ sizedMet enc Tryd.prog Tryd.f9 (OpenSpec.ofChange Rows.bitsNeighboursSpec) false w args)
      (Rows.bitsNeighboursSpec.post enc Tryd.prog Tryd.f9 false true false false) := by
  refine returnsInHanded_of_change_and (C := Tryd.checked) (X := fun w _ => laidMetH Tryd.prog Rows.bitsNeighboursRow.laid w) (fun _ _ _ hh h => h.of_heap hh) own started (by kernel_rfl) Tryd.func9
    (ChangeSpec.witness_shaped (enc := enc) (C := Tryd.checked) (os := os) (X := fun w _ => laidMetH Tryd.prog Rows.bitsNeighboursRow.laid w) false (World.doorLaid Tryd.prog 400 os) #[.int .u64 0, .int .i64 0] 8 rfl (shaped0 os _) (by kernel_rfl) (by kernel_rfl) (by kernel_rfl) (door_met os _)) ?_
  intro W base args ds gs before hval0 hW _ _ hL _
  have hval : ∀ (j : Nat) t v, Tryd.f9.params[j]? = some t → args[j]? = some v → Value.okWide Tryd.prog W .any base t v := hval0
  have hW' := hW
  obtain ⟨p, q, hA0, hV, rfl, hfz, hnd⟩ := hW
  have hA : DataW.TrodAll enc Tryd.prog W 0 (fun _ => true) true Tryd.f9.params.toList args.toList ds p := hA0
  rw [Tryd.params9] at hA hval
  obtain ⟨v0, vs0, d0, ds0, p0, q0, hargs, rfl, rfl, h0, r0⟩ := trodAll_cons hA
  obtain ⟨v1, vs1, d1, ds1, p1, q1, rfl, rfl, rfl, h1, r1⟩ := trodAll_cons r0
  obtain ⟨rfl, rfl, rfl⟩ := trodAll_nil r1
  obtain rfl : args = #[v0, v1] := by cases args; simp_all
  obtain ⟨rfl, rfl⟩ := trodVars_none hV
  obtain ⟨a0, rfl, rfl, rfl, w0⟩ := open_int Tryd.underlying24 (hval 0 24 v0 rfl rfl) h0
  obtain ⟨a1, rfl, rfl, rfl, w1⟩ := open_int Tryd.underlying3 (hval 1 3 v1 rfl rfl) h1
  clear hA0 hval0
  refine (walk a0 a1 W (lay_of _ W (by kernel_rfl) _ listed hL) w0 w1).mono fun e W' ⟨he, bel⟩ => ?_
  subst he
  exact ⟨_, rfl, _, _, _, [], _, [], hW', trodAll_mk1 (shut_bool Tryd.underlying4 _), (trodAll_cons_mk (shut_int Tryd.underlying24 w0) (trodAll_cons_mk (shut_int Tryd.underlying3 w1) trodAll_mk0)), rfl, bel.frame _, fun h => by cases h⟩

theorem row_holds : Rows.BitsNeighboursSaid :=
  OpenClaim.holds_of_wide 9 Tryd.f9 rfl rfl rfl rfl rfl rfl rfl ⟨rfl, rfl, rfl, rfl, rfl⟩ rfl rfl rfl rfl rfl (by kernel_rfl) Tryd.func9 (by kernel_rfl)
    (of_decide_eq_true (by kernel_rfl)) (by unfold Func.isWrapper; first | (rw [if_pos (by decide +kernel)]; kernel_rfl) | (rw [if_neg (by decide +kernel)]; exact ⟨rfl, rfl⟩))
    (fun os started H enc _ => lifted os started H enc)

theorem proved : Rows.BitsNeighboursCardSaid :=
  Claim7.holds_tied_plain_at .later [] Rows.bitsNeighboursCard.laidKinds true Rows.bitsNeighboursCard.stood.harness Rows.bitsNeighboursCard.stood.looks
    row_holds (fun _ h => by cases h) (by kernel_rfl) (fun _ h => by cases h) bitsNeighbours_row_tie rfl ⟨rfl, rfl⟩ (by kernel_rfl) rfl
    (fun f fn hf hfn => by
      obtain rfl : f = 9 := Option.some.inj ((show Tryd.prog.funcNamed Rows.bitsNeighboursRow.func = some 9 by kernel_rfl).symm.trans hf) |>.symm
      obtain rfl : fn = Tryd.f9 := (Option.some.inj (Tryd.func9.symm.trans hfn)).symm
      exact ⟨looks0, fun j t ht => by
        rw [Tryd.params9] at ht
        have hm : t ∈ [24, 3] := by simpa using Array.mem_of_getElem? ht
        have hall : ([24, 3].all fun u => !Tryd.prog.wantsStandIn u) = true := by kernel_rfl
        exact (show Tryd.prog.wantsStandIn t = false by simpa using List.all_eq_true.1 hall t hm)⟩)
    (by kernel_rfl)
end Go.Proofs.YteabmnaepmkkaaaDoor.bitsNeighbours
