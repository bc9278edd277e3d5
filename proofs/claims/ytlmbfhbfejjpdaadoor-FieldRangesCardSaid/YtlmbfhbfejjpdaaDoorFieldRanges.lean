/- For all bytes 'which', a, b and c, FieldRanges returns true: a range with a step has just the numbers from its first number to its last one that are so many steps behind the first one; others are refused. Conditions: the variables of Go's library that the row lists start as the program's text lays them (tied). -/
import Derived.Test.YtlmbfhbfejjpdaaDoorFldLaid
import Derived.Test.YtlmbfhbfejjpdaaDoorFldX
import Derived.Test.YtlmbfhbfejjpdaaDoorFldY
import Derived.Deep.RegionHeld3
namespace Go.Proofs.YtlmbfhbfejjpdaaDoor.fieldRanges
open Go.ChangeShapes Go.WideShapes Go.ChangeAt Go.RowKit Go.ChangeMaps

set_option maxRecDepth 100000 in
set_option maxHeartbeats 4000000 in
theorem walk (u a0 b0 c0 : Int) (w : World) (L : Lay w) (hu : (Lit.int .u8 u).wf = true) (ha : (Lit.int .u8 a0).wf = true) (hb : (Lit.int .u8 b0).wf = true) (hc : (Lit.int .u8 c0).wf = true) :
    Calls Tryd.prog 7 #[.int .u8 u, .int .u8 a0, .int .u8 b0, .int .u8 c0] w fun e w' => e = .returned (.bool true) ∧ Below w.heap.size w w' := by
  obtain ⟨U, rfl, hU⟩ := nat_u8 hu
  obtain ⟨A0, rfl, hA0⟩ := nat_u8 ha
  obtain ⟨B0, rfl, hB0⟩ := nat_u8 hb
  obtain ⟨C0, rfl, hC0⟩ := nat_u8 hc
  obtain ⟨i, hi⟩ : ∃ i, i = U % 6 := ⟨_, rfl⟩
  have i6 : i < 6 := by omega
  have O := kd6_ok i i6
  have hle := O.le
  have h62 := O.hi
  have SX := Lib.hid (fun w => six_any U hU i hi w)
  have LL := Lib.hid L
  obtain ⟨a, hA⟩ : ∃ a, a = A0 % 63 := ⟨_, rfl⟩
  obtain ⟨b, hB⟩ : ∃ b, b = B0 % 63 := ⟨_, rfl⟩
  obtain ⟨c, hC⟩ : ∃ c, c = C0 % 100 := ⟨_, rfl⟩
  have a63 : a < 63 := by omega
  have b63 : b < 63 := by omega
  have c100 : c < 100 := by omega
  have ma : (A0 : Int).tmod 63 = (a : Int) := by rw [Int.tmod_eq_emod_of_nonneg (by omega)]; omega
  have mb : (B0 : Int).tmod 63 = (b : Int) := by rw [Int.tmod_eq_emod_of_nonneg (by omega)]; omega
  have mc : (C0 : Int).tmod 100 = (c : Int) := by rw [Int.tmod_eq_emod_of_nonneg (by omega)]; omega
  have na : (A0 : Int) % 63 = (a : Int) := by omega
  have nb : (B0 : Int) % 63 = (b : Int) := by omega
  have nc : (C0 : Int) % 100 = (c : Int) := by omega
  obtain ⟨q, hq, hP⟩ := Fld.parse_range (kd6 i) (a := a) (b := b) (c := c) (by omega) (by omega) c100
  rw [← range_text] at hP
  have hz := range_size a b c
  obtain ⟨z1, z2⟩ := dstr_size a
  obtain ⟨z3, z4⟩ := dstr_size b
  obtain ⟨z5, z6⟩ := dstr_size c
  have g1 : ¬ (9223372036854775807 : Int) < ((dstr a).size : Int) + 1 := by omega
  have g1' : ¬ 9223372036854775807 < (dstr a).size + 1 := by omega
  have g2 : ¬ (9223372036854775807 : Int) < ((dstr a).size : Int) + 1 + ((dstr b).size : Int) := by omega
  have g2' : ¬ 9223372036854775807 < (dstr a).size + 1 + (dstr b).size := by omega
  have g3 : ¬ (9223372036854775807 : Int) < ((dstr a).size : Int) + 1 + ((dstr b).size : Int) + 1 := by omega
  have g3' : ¬ 9223372036854775807 < (dstr a).size + 1 + (dstr b).size + 1 := by omega
  have g4 : ¬ (9223372036854775807 : Int) < ((dstr a).size : Int) + 1 + ((dstr b).size : Int) + 1 + ((dstr c).size : Int) := by omega
  have g4' : ¬ 9223372036854775807 < (dstr a).size + 1 + (dstr b).size + 1 + (dstr c).size := by omega
  have hwr := Fld.wrong_range O ⟨a, 0, b, 0, c, 0⟩
  simp only at hwr
  have hmost : Fld.most (kd6 i) ≤ 62 := by
    unfold Fld.most
    split
    · omega
    · exact h62
  have hwk : ((kd6 i).week = true ∧ Fld.most (kd6 i) = 7) ∨ ((kd6 i).week = false ∧ Fld.most (kd6 i) = (kd6 i).hi) := by
    unfold Fld.most
    cases (kd6 i).week with
    | true => exact .inl ⟨rfl, rfl⟩
    | false => exact .inr ⟨rfl, rfl⟩
  have HWK := Lib.hid hwk
  have HO := Lib.hid O
  clear L hi hA hB hC hwk O
  by_cases hbad : a < (kd6 i).lo ∨ Fld.most (kd6 i) < b ∨ b < a ∨ c = 0
  · rw [if_neg (fun e => (hwr.1 e) hbad)] at hP
    have HP := Lib.hid hP
    have HZ := Lib.hid hz
    have HB := Lib.hid hbad
    clear hP hz hwr hbad
    go_enter Tryd.func7, Tryd.ntmps7
    go_wp2_with fail
    refine (SX.out _).mono ?_
    rintro e w1 ⟨v, rfl, hb, hv⟩
    have X := Lib.hid (Ctx.first LL.out hb hv)
    obtain ⟨A, cap, rfl, _, _⟩ := hv
    clear hb
    go_wp2_with fail
    have c0 := X.out.c0
    have c1 := X.out.c1
    have c2 := X.out.c2
    have c3 := X.out.c3
    go_region_held3 (fun w' => w'.cell? ⟨w1.heap.size, 0, none⟩ = some (.int .i64 (kd6 i).lo) ∧ w'.cell? ⟨w1.heap.size, 1, none⟩ = some (.int .i64 (kd6 i).hi) ∧ w'.cell? ⟨w1.heap.size, 2, none⟩ = some (.slice A (xs6 i).length cap) ∧ w'.cell? ⟨w1.heap.size, 3, none⟩ = some (.bool (kd6 i).week)) (go_keep)
      (first
        | (go_at_call 24; refine (digits_ctx (by first | exact X.out | exact X.out.drew) _ (by omega)).mono ?_; rintro e w2 ⟨rfl, x2⟩; have X := Lib.hid x2; have c0 := x2.c0; have c1 := x2.c1; have c2 := x2.c2; have c3 := x2.c3; clear x2)
        | (go_at_call 22; refine (parse_ctx (by first | exact X.out | exact X.out.drew) i6 _ HZ.out HP.out).mono ?_; rintro e w3 ⟨rfl, x2⟩; have X := Lib.hid x2; have c0 := x2.c0; have c1 := x2.c1; have c2 := x2.c2; have c3 := x2.c3; clear x2))
    have Z := Lib.hid (And.intro X.out.below X.out.lay)
    clear X HP HZ LL SX g1 g1' g2 g2' g3 g3' g4 g4' z1 z2 z3 z4 z5 z6 ma mb mc na nb nc
    have e6 : decide ((q : Int) ≤ 6) = true := by rw [decide_eq_true_iff]; omega
    have e6n : decide (q ≤ 6) = true := by rw [decide_eq_true_iff]; omega
    have e7 : decide (q ≤ 6) = true := by rw [decide_eq_true_iff]; omega
    have hbad := HB.out
    obtain ⟨m, hm⟩ : ∃ m, Fld.most (kd6 i) = m := ⟨_, rfl⟩
    rw [hm] at hbad hmost
    have hwk := HWK.out
    rw [hm] at hwk
    clear HB HWK hm HO
    rcases hwk with ⟨w1, w2⟩ | ⟨w1, w2⟩
    · rw [w1] at c3
      subst w2
      clear w1
      by_cases b1 : a < (kd6 i).lo
      · have d1 : decide ((a : Int) < ((kd6 i).lo : Int)) = true := by rw [decide_eq_true_iff]; omega
        have d1n : decide (a < (kd6 i).lo) = true := by rw [decide_eq_true_iff]; omega
        clear hbad b1
        go_wp2_with fail
        refine (works_any _ Z.out.2).mono ?_
        rintro e w9 ⟨rfl, hb⟩
        have HB := Lib.hid (Z.out.1.trans (hb.mono Z.out.1.size))
        clear hb
        go_wp2_with fail
        go_ret
        exact ⟨rfl, HB.out⟩
      have d1 : decide ((a : Int) < ((kd6 i).lo : Int)) = false := by rw [decide_eq_false_iff_not]; omega
      have d1n : decide (a < (kd6 i).lo) = false := by rw [decide_eq_false_iff_not]; omega
      by_cases b2 : 7 < b
      · have d2 : decide ((7 : Int) < (b : Int)) = true := by rw [decide_eq_true_iff]; omega
        have d2n : decide (7 < b) = true := by rw [decide_eq_true_iff]; omega
        clear hbad b2
        go_wp2_with fail
        refine (works_any _ Z.out.2).mono ?_
        rintro e w9 ⟨rfl, hb⟩
        have HB := Lib.hid (Z.out.1.trans (hb.mono Z.out.1.size))
        clear hb
        go_wp2_with fail
        go_ret
        exact ⟨rfl, HB.out⟩
      have d2 : decide ((7 : Int) < (b : Int)) = false := by rw [decide_eq_false_iff_not]; omega
      have d2n : decide (7 < b) = false := by rw [decide_eq_false_iff_not]; omega
      by_cases b3 : b < a
      · have d3 : decide ((b : Int) < (a : Int)) = true := by rw [decide_eq_true_iff]; omega
        have d3n : decide (b < a) = true := by rw [decide_eq_true_iff]; omega
        have d3' : decide (b < a) = true := by rw [decide_eq_true_iff]; omega
        clear hbad b3
        go_wp2_with fail
        refine (works_any _ Z.out.2).mono ?_
        rintro e w9 ⟨rfl, hb⟩
        have HB := Lib.hid (Z.out.1.trans (hb.mono Z.out.1.size))
        clear hb
        go_wp2_with fail
        go_ret
        exact ⟨rfl, HB.out⟩
      have d3 : decide ((b : Int) < (a : Int)) = false := by rw [decide_eq_false_iff_not]; omega
      have d3n : decide (b < a) = false := by rw [decide_eq_false_iff_not]; omega
      have d3' : decide (b < a) = false := by rw [decide_eq_false_iff_not]; omega
      obtain rfl : c = 0 := by omega
      clear hbad
      go_wp2_with fail
      refine (works_any _ Z.out.2).mono ?_
      rintro e w9 ⟨rfl, hb⟩
      have HB := Lib.hid (Z.out.1.trans (hb.mono Z.out.1.size))
      clear hb
      go_wp2_with fail
      go_ret
      exact ⟨rfl, HB.out⟩
    · rw [w1] at c3
      subst w2
      clear w1
      by_cases b1 : a < (kd6 i).lo
      · have d1 : decide ((a : Int) < ((kd6 i).lo : Int)) = true := by rw [decide_eq_true_iff]; omega
        have d1n : decide (a < (kd6 i).lo) = true := by rw [decide_eq_true_iff]; omega
        clear hbad b1
        go_wp2_with fail
        refine (works_any _ Z.out.2).mono ?_
        rintro e w9 ⟨rfl, hb⟩
        have HB := Lib.hid (Z.out.1.trans (hb.mono Z.out.1.size))
        clear hb
        go_wp2_with fail
        go_ret
        exact ⟨rfl, HB.out⟩
      have d1 : decide ((a : Int) < ((kd6 i).lo : Int)) = false := by rw [decide_eq_false_iff_not]; omega
      have d1n : decide (a < (kd6 i).lo) = false := by rw [decide_eq_false_iff_not]; omega
      by_cases b2 : (kd6 i).hi < b
      · have d2 : decide (((kd6 i).hi : Int) < (b : Int)) = true := by rw [decide_eq_true_iff]; omega
        have d2n : decide ((kd6 i).hi < b) = true := by rw [decide_eq_true_iff]; omega
        clear hbad b2
        go_wp2_with fail
        refine (works_any _ Z.out.2).mono ?_
        rintro e w9 ⟨rfl, hb⟩
        have HB := Lib.hid (Z.out.1.trans (hb.mono Z.out.1.size))
        clear hb
        go_wp2_with fail
        go_ret
        exact ⟨rfl, HB.out⟩
      have d2 : decide (((kd6 i).hi : Int) < (b : Int)) = false := by rw [decide_eq_false_iff_not]; omega
      have d2n : decide ((kd6 i).hi < b) = false := by rw [decide_eq_false_iff_not]; omega
      by_cases b3 : b < a
      · have d3 : decide ((b : Int) < (a : Int)) = true := by rw [decide_eq_true_iff]; omega
        have d3n : decide (b < a) = true := by rw [decide_eq_true_iff]; omega
        have d3' : decide (b < a) = true := by rw [decide_eq_true_iff]; omega
        clear hbad b3
        go_wp2_with fail
        refine (works_any _ Z.out.2).mono ?_
        rintro e w9 ⟨rfl, hb⟩
        have HB := Lib.hid (Z.out.1.trans (hb.mono Z.out.1.size))
        clear hb
        go_wp2_with fail
        go_ret
        exact ⟨rfl, HB.out⟩
      have d3 : decide ((b : Int) < (a : Int)) = false := by rw [decide_eq_false_iff_not]; omega
      have d3n : decide (b < a) = false := by rw [decide_eq_false_iff_not]; omega
      have d3' : decide (b < a) = false := by rw [decide_eq_false_iff_not]; omega
      obtain rfl : c = 0 := by omega
      clear hbad
      go_wp2_with fail
      refine (works_any _ Z.out.2).mono ?_
      rintro e w9 ⟨rfl, hb⟩
      have HB := Lib.hid (Z.out.1.trans (hb.mono Z.out.1.size))
      clear hb
      go_wp2_with fail
      go_ret
      exact ⟨rfl, HB.out⟩
  · rw [if_pos (hwr.2 hbad)] at hP
    have hwn := hwr.2 hbad
    have HW := Lib.hid (Fld.want_all HO.out hwn)
    simp only at HW
    have HP := Lib.hid hP
    have HZ := Lib.hid hz
    have hb1 : (kd6 i).lo ≤ a := by omega
    have hb2 : b ≤ Fld.most (kd6 i) := by omega
    have hb3 : a ≤ b := by omega
    have hb4 : 1 ≤ c := by omega
    have d1 : decide ((a : Int) < ((kd6 i).lo : Int)) = false := by rw [decide_eq_false_iff_not]; omega
    have d1n : decide (a < (kd6 i).lo) = false := by rw [decide_eq_false_iff_not]; omega
    have d3 : decide ((b : Int) < (a : Int)) = false := by rw [decide_eq_false_iff_not]; omega
    have d3n : decide (b < a) = false := by rw [decide_eq_false_iff_not]; omega
    have d3' : decide (b < a) = false := by rw [decide_eq_false_iff_not]; omega
    have d4 : ((c : Int) == 0) = false := by rw [beq_eq_false_iff_ne]; omega
    have d4' : (c == 0) = false := by rw [beq_eq_false_iff_ne]; omega
    have hslt : Fld.setOf (kd6 i) ⟨a, 0, b, 0, c, 0⟩ < 2 ^ 64 := itSet_lt HO.out hwn
    clear hP hz hwr hbad hwn hq
    go_enter Tryd.func7, Tryd.ntmps7
    go_wp2_with fail
    refine (SX.out _).mono ?_
    rintro e w1 ⟨v, rfl, hb, hv⟩
    have X := Lib.hid (Ctx.first LL.out hb hv)
    obtain ⟨A, cap, rfl, _, _⟩ := hv
    clear hb
    go_wp2_with fail
    have c0 := X.out.c0
    have c1 := X.out.c1
    have c2 := X.out.c2
    have c3 := X.out.c3
    go_region_held3 (fun w' => w'.cell? ⟨w1.heap.size, 0, none⟩ = some (.int .i64 (kd6 i).lo) ∧ w'.cell? ⟨w1.heap.size, 1, none⟩ = some (.int .i64 (kd6 i).hi) ∧ w'.cell? ⟨w1.heap.size, 2, none⟩ = some (.slice A (xs6 i).length cap) ∧ w'.cell? ⟨w1.heap.size, 3, none⟩ = some (.bool (kd6 i).week)) (go_keep)
      (first
        | (go_at_call 24; refine (digits_ctx (by first | exact X.out | exact X.out.drew) _ (by omega)).mono ?_; rintro e w2 ⟨rfl, x2⟩; have X := Lib.hid x2; have c0 := x2.c0; have c1 := x2.c1; have c2 := x2.c2; have c3 := x2.c3; clear x2)
        | (go_at_call 22; refine (parse_ctx (by first | exact X.out | exact X.out.drew) i6 _ HZ.out HP.out).mono ?_; rintro e w3 ⟨rfl, x2⟩; have X := Lib.hid x2; have c0 := x2.c0; have c1 := x2.c1; have c2 := x2.c2; have c3 := x2.c3; clear x2))
    have Z := Lib.hid (And.intro X.out.below X.out.lay)
    clear X HP HZ LL SX g1 g1' g2 g2' g3 g3' g4 g4' z1 z2 z3 z4 z5 z6 ma mb mc na nb nc
    have WB := Lib.hid (fun k h => Fld.wantN_lt (kd6 i) a b c k h)
    have W0 := Lib.hid (Fld.wantN_below (kd6 i) a b c (kd6 i).lo hb1)
    have WS := Lib.hid (fun k => show Fld.wantN (kd6 i) a b c (k + 1) = if a ≤ k ∧ k ≤ b ∧ (k - a) % c = 0 then Fld.wantN (kd6 i) a b c k ||| (if (kd6 i).week = true ∧ k = 7 then 1 else 2 ^ k) else Fld.wantN (kd6 i) a b c k from rfl)
    obtain ⟨m, hm⟩ : ∃ m, Fld.most (kd6 i) = m := ⟨_, rfl⟩
    rw [hm] at hmost hb2 HW
    have hwk := HWK.out
    rw [hm] at hwk
    obtain ⟨T, hT⟩ : ∃ T, Fld.setOf (kd6 i) ⟨a, 0, b, 0, c, 0⟩ = T := ⟨_, rfl⟩
    rw [hT] at HW hslt ⊢
    clear HWK hm HO hT
    rcases hwk with ⟨w1, w2⟩ | ⟨w1, w2⟩
    · rw [w1] at c3
      subst w2
      have d2 : decide ((7 : Int) < (b : Int)) = false := by rw [decide_eq_false_iff_not]; omega
      have d2n : decide (7 < b) = false := by rw [decide_eq_false_iff_not]; omega
      have W1 := Lib.hid w1
      clear w1
      go_wp2_with fail
      go_loop [20, 21] (fun x v => ∃ k : Nat, (kd6 i).lo ≤ k ∧ k ≤ 7 + 1 ∧ v = .int .i64 k ∧ x = .int .u64 (Fld.wantN (kd6 i) a b c k : Nat)) (fun _ v => 7 + 1 - (intOf v).toNat)
      case atStart => exact ⟨(kd6 i).lo, Nat.le_refl _, by omega, rfl, by rw [W0.out]; rfl⟩
      case round =>
        obtain ⟨k, k0, k1, rfl, rfl⟩ := hrel
        by_cases hk : k ≤ 7
        · have q1 : decide ((k : Int) ≤ (7 : Int)) = true := by rw [decide_eq_true_iff]; omega
          have q1n : decide (k ≤ 7) = true := by rw [decide_eq_true_iff]; omega
          have wl := WB.out k (by omega)
          have wl2 := WB.out (k + 1) (by omega)
          have ws := WS.out k
          by_cases r1 : k < a
          · have p1 : decide ((k : Int) < (a : Int)) = true := by rw [decide_eq_true_iff]; omega
            have p1n : decide (k < a) = true := by rw [decide_eq_true_iff]; omega
            rw [if_neg (by omega)] at ws
            have HS := Lib.hid ws
            clear ws r1
            go_wp2_with fail
            go_round
            case rel => exact ⟨k + 1, by omega, by omega, by go_num, by rw [HS.out]⟩
            case measure => simp [intOf]; omega
          have p1 : decide ((k : Int) < (a : Int)) = false := by rw [decide_eq_false_iff_not]; omega
          have p1n : decide (k < a) = false := by rw [decide_eq_false_iff_not]; omega
          by_cases r2 : b < k
          · have p2 : decide ((b : Int) < (k : Int)) = true := by rw [decide_eq_true_iff]; omega
            have p2n : decide (b < k) = true := by rw [decide_eq_true_iff]; omega
            rw [if_neg (by omega)] at ws
            have HS := Lib.hid ws
            clear ws r1 r2
            go_wp2_with fail
            go_round
            case rel => exact ⟨k + 1, by omega, by omega, by go_num, by rw [HS.out]⟩
            case measure => simp [intOf]; omega
          have p2 : decide ((b : Int) < (k : Int)) = false := by rw [decide_eq_false_iff_not]; omega
          have p2n : decide (b < k) = false := by rw [decide_eq_false_iff_not]; omega
          obtain ⟨D, hD⟩ : ∃ D, D = k - a := ⟨_, rfl⟩
          obtain ⟨R, hR⟩ : ∃ R, R = D % c := ⟨_, rfl⟩
          have iv : (k : Int) - (a : Int) = (D : Int) := by omega
          have iw : IntKind.i64.wrap (D : Int) = (D : Int) := IntWalk.i64_in _ (by omega)
          have tm : (D : Int).tmod (c : Int) = (R : Int) := by rw [Int.tmod_eq_emod_of_nonneg (by omega), hR]; rfl
          have em : (D : Int) % (c : Int) = (R : Int) := by rw [hR]; rfl
          rw [← hD, ← hR] at ws
          clear hD hR
          by_cases r3 : R = 0
          rotate_left
          · have z1 : ((R : Int) != 0) = true := by rw [bne_iff_ne]; omega
            have z2 : (R != 0) = true := by rw [bne_iff_ne]; omega
            rw [if_neg (fun q => r3 q.2.2)] at ws
            have HS := Lib.hid ws
            clear ws r1 r2 r3
            go_wp2_with fail
            go_round
            case rel => exact ⟨k + 1, by omega, by omega, by go_num, by rw [HS.out]⟩
            case measure => simp [intOf]; omega
          have z1 : ((R : Int) != 0) = false := by rw [bne_eq_false_iff_eq]; omega
          have z2 : (R != 0) = false := by rw [bne_eq_false_iff_eq]; omega
          rw [if_pos ⟨by omega, by omega, r3⟩, W1.out] at ws
          by_cases r4 : k = 7
          · have z7 : ((k : Int) == 7) = true := by rw [beq_iff_eq]; omega
            have z7' : (k == 7) = true := by rw [beq_iff_eq]; omega
            rw [if_pos ⟨rfl, r4⟩] at ws
            have or_ : bits .or .u64 ((Fld.wantN (kd6 i) a b c k : Nat) : Int) 1 = ((Fld.wantN (kd6 i) a b c k ||| 1 : Nat) : Int) := u64_or_nat _ _ wl (by decide)
            have HS := Lib.hid ws
            clear ws r1 r2 r3 r4
            obtain ⟨x, hx⟩ : ∃ x : Nat, Fld.wantN (kd6 i) a b c k = x := ⟨_, rfl⟩
            rw [hx] at wl HS or_ ⊢
            clear hx
            go_wp2_with fail
            go_round
            case rel => exact ⟨k + 1, by omega, by omega, by go_num, by rw [HS.out]⟩
            case measure => simp [intOf]; omega
          · have z7 : ((k : Int) == 7) = false := by rw [beq_eq_false_iff_ne]; omega
            have z7' : (k == 7) = false := by rw [beq_eq_false_iff_ne]; omega
            rw [if_neg (fun q => r4 q.2)] at ws
            clear r4
            have HS := Lib.hid ws
            clear ws r1 r2 r3
            obtain ⟨x, hx⟩ : ∃ x : Nat, Fld.wantN (kd6 i) a b c k = x := ⟨_, rfl⟩
            rw [hx] at wl HS ⊢
            clear hx
            have pw : IntKind.u64.wrap ((2 : Int) ^ k) = ((2 ^ k : Nat) : Int) := wrap_pow (by omega)
            have or_ : bits .or .u64 (x : Int) ((2 ^ k : Nat) : Int) = ((x ||| 2 ^ k : Nat) : Int) := u64_or_nat _ _ wl (Bit.one_lt (by omega))
            obtain ⟨m, hm⟩ : ∃ m : Nat, 2 ^ k = m := ⟨_, rfl⟩
            rw [hm] at pw or_ HS
            clear hm
            go_wp2_with fail
            go_round
            case rel => exact ⟨k + 1, by omega, by omega, by go_num, by rw [HS.out]⟩
            case measure => simp [intOf]; omega
        · have hk2 : k = 7 + 1 := by omega
          have HW2 : Fld.wantN (kd6 i) a b c k = T := by rw [hk2]; exact HW.out
          have q1 : decide ((k : Int) ≤ (7 : Int)) = false := by rw [decide_eq_false_iff_not]; omega
          have q1n : decide (k ≤ 7) = false := by rw [decide_eq_false_iff_not]; omega
          rw [HW2]
          clear hk hk2 HW2
          go_wp2_with fail
          refine (works_any _ Z.out.2).mono ?_
          rintro e w9 ⟨rfl, hb⟩
          have HB := Lib.hid (Z.out.1.trans (hb.mono Z.out.1.size))
          clear hb
          go_wp2_with fail
          go_ret
          exact ⟨rfl, HB.out⟩
    · rw [w1] at c3
      subst w2
      have d2 : decide (((kd6 i).hi : Int) < (b : Int)) = false := by rw [decide_eq_false_iff_not]; omega
      have d2n : decide ((kd6 i).hi < b) = false := by rw [decide_eq_false_iff_not]; omega
      have W1 := Lib.hid w1
      clear w1
      go_wp2_with fail
      go_loop [20, 21] (fun x v => ∃ k : Nat, (kd6 i).lo ≤ k ∧ k ≤ (kd6 i).hi + 1 ∧ v = .int .i64 k ∧ x = .int .u64 (Fld.wantN (kd6 i) a b c k : Nat)) (fun _ v => (kd6 i).hi + 1 - (intOf v).toNat)
      case atStart => exact ⟨(kd6 i).lo, Nat.le_refl _, by omega, rfl, by rw [W0.out]; rfl⟩
      case round =>
        obtain ⟨k, k0, k1, rfl, rfl⟩ := hrel
        by_cases hk : k ≤ (kd6 i).hi
        · have q1 : decide ((k : Int) ≤ ((kd6 i).hi : Int)) = true := by rw [decide_eq_true_iff]; omega
          have q1n : decide (k ≤ (kd6 i).hi) = true := by rw [decide_eq_true_iff]; omega
          have wl := WB.out k (by omega)
          have wl2 := WB.out (k + 1) (by omega)
          have ws := WS.out k
          by_cases r1 : k < a
          · have p1 : decide ((k : Int) < (a : Int)) = true := by rw [decide_eq_true_iff]; omega
            have p1n : decide (k < a) = true := by rw [decide_eq_true_iff]; omega
            rw [if_neg (by omega)] at ws
            have HS := Lib.hid ws
            clear ws r1
            go_wp2_with fail
            go_round
            case rel => exact ⟨k + 1, by omega, by omega, by go_num, by rw [HS.out]⟩
            case measure => simp [intOf]; omega
          have p1 : decide ((k : Int) < (a : Int)) = false := by rw [decide_eq_false_iff_not]; omega
          have p1n : decide (k < a) = false := by rw [decide_eq_false_iff_not]; omega
          by_cases r2 : b < k
          · have p2 : decide ((b : Int) < (k : Int)) = true := by rw [decide_eq_true_iff]; omega
            have p2n : decide (b < k) = true := by rw [decide_eq_true_iff]; omega
            rw [if_neg (by omega)] at ws
            have HS := Lib.hid ws
            clear ws r1 r2
            go_wp2_with fail
            go_round
            case rel => exact ⟨k + 1, by omega, by omega, by go_num, by rw [HS.out]⟩
            case measure => simp [intOf]; omega
          have p2 : decide ((b : Int) < (k : Int)) = false := by rw [decide_eq_false_iff_not]; omega
          have p2n : decide (b < k) = false := by rw [decide_eq_false_iff_not]; omega
          obtain ⟨D, hD⟩ : ∃ D, D = k - a := ⟨_, rfl⟩
          obtain ⟨R, hR⟩ : ∃ R, R = D % c := ⟨_, rfl⟩
          have iv : (k : Int) - (a : Int) = (D : Int) := by omega
          have iw : IntKind.i64.wrap (D : Int) = (D : Int) := IntWalk.i64_in _ (by omega)
          have tm : (D : Int).tmod (c : Int) = (R : Int) := by rw [Int.tmod_eq_emod_of_nonneg (by omega), hR]; rfl
          have em : (D : Int) % (c : Int) = (R : Int) := by rw [hR]; rfl
          rw [← hD, ← hR] at ws
          clear hD hR
          by_cases r3 : R = 0
          rotate_left
          · have z1 : ((R : Int) != 0) = true := by rw [bne_iff_ne]; omega
            have z2 : (R != 0) = true := by rw [bne_iff_ne]; omega
            rw [if_neg (fun q => r3 q.2.2)] at ws
            have HS := Lib.hid ws
            clear ws r1 r2 r3
            go_wp2_with fail
            go_round
            case rel => exact ⟨k + 1, by omega, by omega, by go_num, by rw [HS.out]⟩
            case measure => simp [intOf]; omega
          have z1 : ((R : Int) != 0) = false := by rw [bne_eq_false_iff_eq]; omega
          have z2 : (R != 0) = false := by rw [bne_eq_false_iff_eq]; omega
          rw [if_pos ⟨by omega, by omega, r3⟩, W1.out] at ws
          rw [if_neg (fun q => by cases q.1)] at ws
          have HS := Lib.hid ws
          clear ws r1 r2 r3
          obtain ⟨x, hx⟩ : ∃ x : Nat, Fld.wantN (kd6 i) a b c k = x := ⟨_, rfl⟩
          rw [hx] at wl HS ⊢
          clear hx
          have pw : IntKind.u64.wrap ((2 : Int) ^ k) = ((2 ^ k : Nat) : Int) := wrap_pow (by omega)
          have or_ : bits .or .u64 (x : Int) ((2 ^ k : Nat) : Int) = ((x ||| 2 ^ k : Nat) : Int) := u64_or_nat _ _ wl (Bit.one_lt (by omega))
          obtain ⟨m, hm⟩ : ∃ m : Nat, 2 ^ k = m := ⟨_, rfl⟩
          rw [hm] at pw or_ HS
          clear hm
          go_wp2_with fail
          go_round
          case rel => exact ⟨k + 1, by omega, by omega, by go_num, by rw [HS.out]⟩
          case measure => simp [intOf]; omega
        · have hk2 : k = (kd6 i).hi + 1 := by omega
          have HW2 : Fld.wantN (kd6 i) a b c k = T := by rw [hk2]; exact HW.out
          have q1 : decide ((k : Int) ≤ ((kd6 i).hi : Int)) = false := by rw [decide_eq_false_iff_not]; omega
          have q1n : decide (k ≤ (kd6 i).hi) = false := by rw [decide_eq_false_iff_not]; omega
          rw [HW2]
          clear hk hk2 HW2
          go_wp2_with fail
          refine (works_any _ Z.out.2).mono ?_
          rintro e w9 ⟨rfl, hb⟩
          have HB := Lib.hid (Z.out.1.trans (hb.mono Z.out.1.size))
          clear hb
          go_wp2_with fail
          go_ret
          exact ⟨rfl, HB.out⟩

set_option maxRecDepth 100000 in
theorem lifted (os : Os) (started : os.Started) (H : Type) (enc : TypeId × Value → H) :
    ReturnsInHanded {} Tryd.checked os 7 .any (fun w args => (Rows.fieldRangesSpec.pre enc Tryd.prog Tryd.f7 [] false w args ∧ laidMetH Tryd.prog Rows.fieldRangesRow.laid w) ∧ sizedMet enc Tryd.prog Tryd.f7 (OpenSpec.ofChange Rows.fieldRangesSpec) false w args)
      (Rows.fieldRangesSpec.post enc Tryd.prog Tryd.f7 false true false false) := by
  refine returnsInHanded_of_change_and (C := Tryd.checked) (X := fun w _ => laidMetH Tryd.prog Rows.fieldRangesRow.laid w) (fun _ _ _ hh h => h.of_heap hh) own started (by kernel_rfl) Tryd.func7
    (ChangeSpec.witness_shaped (enc := enc) (C := Tryd.checked) (os := os) (X := fun w _ => laidMetH Tryd.prog Rows.fieldRangesRow.laid w) false (World.laidAll Tryd.prog os Rows.fieldRangesRow.laid) #[.int .u8 0, .int .u8 0, .int .u8 0, .int .u8 0] 8 (World.laidAll_os _ _ _) (World.shaped_of_ZipB (by kernel_rfl) (by kernel_rfl)) (by kernel_rfl) (by kernel_rfl) (by kernel_rfl) (by rw [MakeChecks.laidMetH_plain _ _ _ (by kernel_rfl)]; exact laidMet_laidAll _ (by kernel_rfl) (by kernel_rfl))) ?_
  intro W base args ds gs before hval0 hW _ _ hL _
  have hval : ∀ (j : Nat) t v, Tryd.f7.params[j]? = some t → args[j]? = some v → Value.okWide Tryd.prog W .any base t v := hval0
  have hW' := hW
  obtain ⟨p, q, hA0, hV, rfl, hfz, hnd⟩ := hW
  have hA : DataW.TrodAll enc Tryd.prog W 0 (fun _ => true) true Tryd.f7.params.toList args.toList ds p := hA0
  rw [Tryd.params7] at hA hval
  obtain ⟨v0, vs0, d0, ds0, p0, q0, hargs, rfl, rfl, h0, r0⟩ := trodAll_cons hA
  obtain ⟨v1, vs1, d1, ds1, p1, q1, rfl, rfl, rfl, h1, r1⟩ := trodAll_cons r0
  obtain ⟨v2, vs2, d2, ds2, p2, q2, rfl, rfl, rfl, h2, r2⟩ := trodAll_cons r1
  obtain ⟨v3, vs3, d3, ds3, p3, q3, rfl, rfl, rfl, h3, r3⟩ := trodAll_cons r2
  obtain ⟨rfl, rfl, rfl⟩ := trodAll_nil r3
  obtain rfl : args = #[v0, v1, v2, v3] := by cases args; simp_all
  obtain ⟨rfl, rfl⟩ := trodVars_none hV
  obtain ⟨a0, rfl, rfl, rfl, w0⟩ := open_int Tryd.underlying5 (hval 0 5 v0 rfl rfl) h0
  obtain ⟨a1, rfl, rfl, rfl, w1⟩ := open_int Tryd.underlying5 (hval 1 5 v1 rfl rfl) h1
  obtain ⟨a2, rfl, rfl, rfl, w2⟩ := open_int Tryd.underlying5 (hval 2 5 v2 rfl rfl) h2
  obtain ⟨a3, rfl, rfl, rfl, w3⟩ := open_int Tryd.underlying5 (hval 3 5 v3 rfl rfl) h3
  clear hA0 hval0
  refine (walk a0 a1 a2 a3 W (lay_of _ W (by kernel_rfl) (.tail _ (.head _)) (by kernel_rfl) hL) w0 w1 w2 w3).mono fun e W' ⟨he, bel⟩ => ?_
  subst he
  exact ⟨_, rfl, _, _, _, [], _, [], hW', trodAll_mk1 (shut_bool Tryd.underlying4 _), (trodAll_cons_mk (shut_int Tryd.underlying5 w0) (trodAll_cons_mk (shut_int Tryd.underlying5 w1) (trodAll_cons_mk (shut_int Tryd.underlying5 w2) (trodAll_cons_mk (shut_int Tryd.underlying5 w3) trodAll_mk0)))), rfl, bel.frame _, fun h => by cases h⟩

theorem row_holds : Rows.FieldRangesSaid :=
  OpenClaim.holds_of_wide 7 Tryd.f7 rfl rfl rfl rfl rfl rfl rfl ⟨rfl, rfl, rfl, rfl, rfl⟩ rfl rfl rfl rfl rfl (by kernel_rfl) Tryd.func7 (by kernel_rfl)
    (of_decide_eq_true (by kernel_rfl)) (by unfold Func.isWrapper; first | (rw [if_pos (by decide +kernel)]; kernel_rfl) | (rw [if_neg (by decide +kernel)]; exact ⟨rfl, rfl⟩))
    (fun os started H enc _ => lifted os started H enc)

theorem proved : Rows.FieldRangesCardSaid :=
  Claim7.holds_tied_plain_at .later [] Rows.fieldRangesCard.laidKinds true Rows.fieldRangesCard.stood.harness Rows.fieldRangesCard.stood.looks
    row_holds (fun _ h => by cases h) (by kernel_rfl) (fun _ h => by cases h) fieldRanges_row_tie rfl ⟨rfl, rfl⟩ (by kernel_rfl) rfl
    (fun f fn hf hfn => by
      obtain rfl : f = 7 := Option.some.inj ((show Tryd.prog.funcNamed Rows.fieldRangesRow.func = some 7 by kernel_rfl).symm.trans hf) |>.symm
      obtain rfl : fn = Tryd.f7 := (Option.some.inj (Tryd.func7.symm.trans hfn)).symm
      exact ⟨looks0, fun j t ht => by
        rw [Tryd.params7] at ht
        have hm : t ∈ [5] := by simpa using Array.mem_of_getElem? ht
        have hall : ([5].all fun u => !Tryd.prog.wantsStandIn u) = true := by kernel_rfl
        exact (show Tryd.prog.wantsStandIn t = false by simpa using List.all_eq_true.1 hall t hm)⟩)
    (by kernel_rfl)
end Go.Proofs.YtlmbfhbfejjpdaaDoor.fieldRanges
