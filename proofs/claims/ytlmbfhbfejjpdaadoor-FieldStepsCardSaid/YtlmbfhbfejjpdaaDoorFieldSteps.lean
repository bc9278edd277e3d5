/- For all bytes 'which', a and c, FieldSteps returns true: a star with a step begins at the smallest number, a single number with a step at this number; both go on to the greatest one. Conditions: the variables of Go's library that the row lists start as the program's text lays them (tied). -/
import Derived.Test.YtlmbfhbfejjpdaaDoorFldLaid
import Derived.Test.YtlmbfhbfejjpdaaDoorFldX
import Derived.Test.YtlmbfhbfejjpdaaDoorFldY
import Derived.Deep.RegionHeld3
namespace Go.Proofs.YtlmbfhbfejjpdaaDoor.fieldSteps
open Go.ChangeShapes Go.WideShapes Go.ChangeAt Go.RowKit Go.ChangeMaps

set_option maxRecDepth 100000 in
set_option maxHeartbeats 4000000 in
theorem walk (u a0 c0 : Int) (w : World) (L : Lay w) (hu : (Lit.int .u8 u).wf = true) (ha : (Lit.int .u8 a0).wf = true) (hc : (Lit.int .u8 c0).wf = true) :
    Calls Tryd.prog 8 #[.int .u8 u, .int .u8 a0, .int .u8 c0] w fun e w' => e = .returned (.bool true) ∧ Below w.heap.size w w' := by
  obtain ⟨U, rfl, hU⟩ := nat_u8 hu
  obtain ⟨A0, rfl, hA0⟩ := nat_u8 ha
  obtain ⟨C0, rfl, hC0⟩ := nat_u8 hc
  obtain ⟨i, hi⟩ : ∃ i, i = U % 6 := ⟨_, rfl⟩
  have i6 : i < 6 := by omega
  have O := kd6_ok i i6
  have hle := O.le
  have h62 := O.hi
  obtain ⟨_, F1⟩ := six_full i i6
  have SX := Lib.hid (fun w => six_any U hU i hi w)
  have LL := Lib.hid L
  obtain ⟨D0, hD0⟩ : ∃ D, D = (kd6 i).hi - (kd6 i).lo := ⟨_, rfl⟩
  obtain ⟨r, hr⟩ : ∃ r, r = A0 % (D0 + 1) := ⟨_, rfl⟩
  have rl : r < D0 + 1 := by rw [hr]; exact Nat.mod_lt _ (by omega)
  obtain ⟨n, hn⟩ : ∃ n, n = (kd6 i).lo + r := ⟨_, rfl⟩
  obtain ⟨s, hs⟩ : ∃ s, s = C0 % 99 := ⟨_, rfl⟩
  obtain ⟨c, hc⟩ : ∃ c, c = 1 + s := ⟨_, rfl⟩
  have n1 : (kd6 i).lo ≤ n := by omega
  have n2 : n ≤ (kd6 i).hi := by omega
  have c1 : 1 ≤ c := by omega
  have c2 : c < 100 := by omega
  -- the region that reckons n
  have b0 : ((kd6 i).hi : Int) - ((kd6 i).lo : Int) = (D0 : Int) := by omega
  have b1 : IntKind.i64.wrap (D0 : Int) = (D0 : Int) := IntWalk.i64_in _ (by omega)
  have b2 : IntKind.i64.wrap ((D0 : Int) + 1) = (D0 : Int) + 1 := IntWalk.i64_in _ (by omega)
  have b3 : (A0 : Int).tmod ((D0 : Int) + 1) = (r : Int) := by
    rw [Int.tmod_eq_emod_of_nonneg (by omega), hr]
    exact (Int.natCast_emod A0 (D0 + 1)).symm
  have b4 : (A0 : Int) % ((D0 : Int) + 1) = (r : Int) := by
    rw [hr]
    exact (Int.natCast_emod A0 (D0 + 1)).symm
  have b5 : ((kd6 i).lo : Int) + (r : Int) = (n : Int) := by omega
  have b6 : IntKind.i64.wrap (n : Int) = (n : Int) := IntWalk.i64_in _ (by omega)
  have b7 : (((D0 : Int) + 1) == 0) = false := by rw [beq_eq_false_iff_ne]; omega
  have b8 : IntKind.i64.wrap (r : Int) = (r : Int) := IntWalk.i64_in _ (by omega)
  have e1 : (C0 : Int).tmod 99 = (s : Int) := by rw [Int.tmod_eq_emod_of_nonneg (by omega)]; omega
  have e2 : (C0 : Int) % 99 = (s : Int) := by omega
  have e3 : (1 : Int) + (s : Int) = (c : Int) := by omega
  have e4 : IntKind.i64.wrap (c : Int) = (c : Int) := IntWalk.i64_in _ (by omega)
  have hX := Fld.parse_stars O c1 c2
  have hY := Fld.parse_steps c1 c2 n1 n2 h62
  have hZ := Fld.parse_one n1 n2 h62
  rw [← stars_text] at hX
  rw [← steps_text] at hY
  rw [← dstr_list] at hZ
  have zX := stars_size c
  have zY := steps_size n c
  obtain ⟨z1, z2⟩ := dstr_size n
  obtain ⟨z3, z4⟩ := dstr_size c
  have zZ : (dstr n).size ≤ 9223372036854775000 := by omega
  rw [Fld.setOf_one O n1 n2] at hZ
  have wX := Fld.wrong_star O (t := c) c1 0
  have wY : Fld.wrong (kd6 i) ⟨n, 0, (kd6 i).hi, 0, c, 0⟩ = none := Fld.wrong_none.2 ⟨.inl ⟨n1, n2⟩, .inl ⟨hle, Nat.le_refl _⟩, n2, c1⟩
  have lX := itSet_lt O wX
  have lY := itSet_lt O wY
  have BX := Lib.hid (Fld.setOf_in_bit O wX (Nat.le_refl _))
  have BY := Lib.hid (Fld.setOf_in_bit O wY (Nat.le_refl _))
  have sX := (sub_iff lX F1).2 (Fld.sub_full O (Fld.setOf_in O wX).1)
  have sY := (sub_iff lY F1).2 (Fld.sub_full O (Fld.setOf_in O wY).1)
  have aX : bits .andNot .u64 ((Fld.setOf (kd6 i) ⟨(kd6 i).lo, 0, (kd6 i).hi, 0, c, 0⟩ : Nat) : Int) (fullK (kd6 i) : Nat) = 0 := by
    rw [u64_andNot_nat _ _ lX F1, sX]; rfl
  have aY : bits .andNot .u64 ((Fld.setOf (kd6 i) ⟨n, 0, (kd6 i).hi, 0, c, 0⟩ : Nat) : Int) (fullK (kd6 i) : Nat) = 0 := by
    rw [u64_andNot_nat _ _ lY F1, sY]; rfl
  have one : c = 1 → Fld.setOf (kd6 i) ⟨(kd6 i).lo, 0, (kd6 i).hi, 0, c, 0⟩ = fullK (kd6 i) := fun e => by subst e; exact Fld.setOf_star O 0
  simp only at BX BY
  generalize Fld.setOf (kd6 i) ⟨(kd6 i).lo, 0, (kd6 i).hi, 0, c, 0⟩ = X0 at *
  generalize Fld.setOf (kd6 i) ⟨n, 0, (kd6 i).hi, 0, c, 0⟩ = Y0 at *
  have pw : IntKind.u64.wrap ((2 : Int) ^ n) = ((2 ^ n : Nat) : Int) := wrap_pow (by omega)
  obtain ⟨m, hm⟩ : ∃ m : Nat, 2 ^ n = m := ⟨_, rfl⟩
  rw [hm] at pw hZ
  have HX := Lib.hid hX
  have HY := Lib.hid hY
  have HZ := Lib.hid hZ
  have ZX := Lib.hid zX
  have ZY := Lib.hid zY
  have ZZ := Lib.hid zZ
  have ONE := Lib.hid one
  have n0 : (0 : Int) ≤ (n : Int) := by omega
  have cz : ((c : Int) == 0) = false := by rw [beq_eq_false_iff_ne]; omega
  have cz' : (c == 0) = false := by rw [beq_eq_false_iff_ne]; omega
  have g1 : ¬ (9223372036854775807 : Int) < 2 + ((dstr c).size : Int) := by omega
  have g1' : ¬ 9223372036854775807 < 2 + (dstr c).size := by omega
  have g2 : ¬ (9223372036854775807 : Int) < ((dstr n).size : Int) + 1 := by omega
  have g2' : ¬ 9223372036854775807 < (dstr n).size + 1 := by omega
  have g3 : ¬ (9223372036854775807 : Int) < ((dstr n).size : Int) + 1 + ((dstr c).size : Int) := by omega
  have g3' : ¬ 9223372036854775807 < (dstr n).size + 1 + (dstr c).size := by omega
  clear L hi O hX hY hZ zX zY zZ wX wY sX sY one hD0 hr hn hc hs hm
  go_enter Tryd.func8, Tryd.ntmps8
  go_wp2_with fail
  refine (SX.out _).mono ?_
  rintro e w1 ⟨v, rfl, hb, hv⟩
  have X := Lib.hid (Ctx.first LL.out hb hv)
  obtain ⟨A, cap, rfl, _, _⟩ := hv
  clear hb
  go_wp2_with fail
  go_quiet (fail)
  have X := Lib.hid (X.out.drewN nq)
  have c0 := X.out.c0
  have c1 := X.out.c1
  have c2 := X.out.c2
  have c3 := X.out.c3
  go_wp2_with fail
  go_region_held3 (fun w' => w'.cell? ⟨w1.heap.size, 0, none⟩ = some (.int .i64 (kd6 i).lo) ∧ w'.cell? ⟨w1.heap.size, 1, none⟩ = some (.int .i64 (kd6 i).hi) ∧ w'.cell? ⟨w1.heap.size, 2, none⟩ = some (.slice A (xs6 i).length cap) ∧ w'.cell? ⟨w1.heap.size, 3, none⟩ = some (.bool (kd6 i).week)) (go_keep)
    (first
      | (go_at_call 24; refine (digits_ctx (by first | exact X.out | exact X.out.drew) _ (by omega)).mono ?_; rintro e w2 ⟨rfl, x2⟩; have X := Lib.hid x2; have c0 := x2.c0; have c1 := x2.c1; have c2 := x2.c2; have c3 := x2.c3; clear x2)
      | (go_at_call 22; refine (parse_ctx (by first | exact X.out | exact X.out.drew) i6 _ ZX.out HX.out).mono ?_; rintro e w3 ⟨rfl, x2⟩; have X := Lib.hid x2; have c0 := x2.c0; have c1 := x2.c1; have c2 := x2.c2; have c3 := x2.c3; clear x2))
  clear b0 b1 b2 b3 b4 b5 b6 b7 b8 e1 e2 e3 e4
  go_wp2_with fail
  have c0 := X.out.c0
  have c1 := X.out.c1
  have c2 := X.out.c2
  have c3 := X.out.c3
  go_region_held3 (fun w' => w'.cell? ⟨w1.heap.size, 0, none⟩ = some (.int .i64 (kd6 i).lo) ∧ w'.cell? ⟨w1.heap.size, 1, none⟩ = some (.int .i64 (kd6 i).hi) ∧ w'.cell? ⟨w1.heap.size, 2, none⟩ = some (.slice A (xs6 i).length cap) ∧ w'.cell? ⟨w1.heap.size, 3, none⟩ = some (.bool (kd6 i).week)) (go_keep)
    (first
      | (go_at_call 24; refine (digits_ctx (by first | exact X.out | exact X.out.drew) _ (by omega)).mono ?_; rintro e w4 ⟨rfl, x2⟩; have X := Lib.hid x2; have c0 := x2.c0; have c1 := x2.c1; have c2 := x2.c2; have c3 := x2.c3; clear x2)
      | (go_at_call 22; refine (parse_ctx (by first | exact X.out | exact X.out.drew) i6 _ ZY.out HY.out).mono ?_; rintro e w5 ⟨rfl, x2⟩; have X := Lib.hid x2; have c0 := x2.c0; have c1 := x2.c1; have c2 := x2.c2; have c3 := x2.c3; clear x2))
  go_wp2_with fail
  have c0 := X.out.c0
  have c1 := X.out.c1
  have c2 := X.out.c2
  have c3 := X.out.c3
  go_region_held3 (fun w' => w'.cell? ⟨w1.heap.size, 0, none⟩ = some (.int .i64 (kd6 i).lo) ∧ w'.cell? ⟨w1.heap.size, 1, none⟩ = some (.int .i64 (kd6 i).hi) ∧ w'.cell? ⟨w1.heap.size, 2, none⟩ = some (.slice A (xs6 i).length cap) ∧ w'.cell? ⟨w1.heap.size, 3, none⟩ = some (.bool (kd6 i).week)) (go_keep)
    (first
      | (go_at_call 24; refine (digits_ctx (by first | exact X.out | exact X.out.drew) _ (by omega)).mono ?_; rintro e w6 ⟨rfl, x2⟩; have X := Lib.hid x2; have c0 := x2.c0; have c1 := x2.c1; have c2 := x2.c2; have c3 := x2.c3; clear x2)
      | (go_at_call 22; refine (parse_ctx (by first | exact X.out | exact X.out.drew) i6 _ ZZ.out HZ.out).mono ?_; rintro e w7 ⟨rfl, x2⟩; have X := Lib.hid x2; have c0 := x2.c0; have c1 := x2.c1; have c2 := x2.c2; have c3 := x2.c3; clear x2))
  clear g1 g1' g2 g2' g3 g3' z1 z2 z3 z4 HX HY HZ ZX ZY ZZ LL SX
  have t1 : (((c : Int) == 1) = true ∧ (c == 1) = true ∧ ((X0 : Int) != (fullK (kd6 i) : Nat)) = false ∧ (X0 != fullK (kd6 i)) = false) ∨ (((c : Int) == 1) = false ∧ (c == 1) = false) := by
    by_cases q : c = 1
    · left
      have := ONE.out q
      subst q
      exact ⟨rfl, rfl, by rw [bne_eq_false_iff_eq, this], by rw [bne_eq_false_iff_eq, this]⟩
    · right
      exact ⟨by rw [beq_eq_false_iff_ne]; omega, by rw [beq_eq_false_iff_ne]; omega⟩
  clear ONE
  have T1 := Lib.hid t1
  clear t1
  rcases T1.out with ⟨o1, o2, o3, o4⟩ | ⟨o1, o2⟩
  all_goals
    go_wp2_with fail
    clear o1 o2 pw
    go_loopw [24] (fun x wr => ∃ k : Nat, (kd6 i).lo ≤ k ∧ k ≤ (kd6 i).hi + 1 ∧ x = .int .i64 k ∧ Hid (Ctx w wr w1.heap.size i (.slice A (xs6 i).length cap))) (fun x _ => (kd6 i).hi + 1 - (intOf x).toNat)
    case atStart => exact ⟨(kd6 i).lo, Nat.le_refl _, by omega, rfl, X⟩
    case round =>
      obtain ⟨k, k0, k1, rfl, X⟩ := hrel
      have c0 := X.out.c0
      have c1 := X.out.c1
      have kz : (0 : Int) ≤ (k : Int) := by omega
      by_cases hk : k ≤ (kd6 i).hi
      · have q1 : decide ((k : Int) ≤ ((kd6 i).hi : Int)) = true := by rw [decide_eq_true_iff]; omega
        have q1n : decide (k ≤ (kd6 i).hi) = true := by rw [decide_eq_true_iff]; omega
        have HKK := Lib.hid hk
        have bx := BX.out k
        have by_ := BY.out k
        obtain ⟨D, hD⟩ : ∃ D, D = k - (kd6 i).lo := ⟨_, rfl⟩
        obtain ⟨R, hR⟩ : ∃ R, R = D % c := ⟨_, rfl⟩
        have iv : (k : Int) - ((kd6 i).lo : Int) = (D : Int) := by omega
        have iw : IntKind.i64.wrap (D : Int) = (D : Int) := IntWalk.i64_in _ (by omega)
        have tm : (D : Int).tmod (c : Int) = (R : Int) := by rw [Int.tmod_eq_emod_of_nonneg (by omega), hR]; rfl
        have em : (D : Int) % (c : Int) = (R : Int) := by rw [hR]; rfl
        rw [← hD, ← hR] at bx
        have rx := bit_test (v := k) lX
        have ry := bit_test (v := k) lY
        have dx : X0.testBit k = decide (R = 0) := by rw [bx, decide_eq_decide]; exact ⟨fun h => h.2.2.2, fun h => ⟨⟨k0, hk⟩, k0, hk, h⟩⟩
        rw [dx] at rx
        obtain ⟨b1, hb1⟩ : ∃ b1, decide (R = 0) = b1 := ⟨_, rfl⟩
        rw [hb1] at rx
        have r1 : ((R : Int) == 0) = b1 := by rw [← hb1, Bool.eq_iff_iff, beq_iff_eq, decide_eq_true_iff]; omega
        have r2 : (R == 0) = b1 := by rw [← hb1, Bool.eq_iff_iff, beq_iff_eq, decide_eq_true_iff]
        clear hD hR bx dx hb1
        by_cases hn : n ≤ k
        · have p1 : decide ((n : Int) ≤ (k : Int)) = true := by rw [decide_eq_true_iff]; omega
          have p1n : decide (n ≤ k) = true := by rw [decide_eq_true_iff]; omega
          obtain ⟨E, hE⟩ : ∃ E, E = k - n := ⟨_, rfl⟩
          obtain ⟨Q, hQ⟩ : ∃ Q, Q = E % c := ⟨_, rfl⟩
          have jv : (k : Int) - (n : Int) = (E : Int) := by omega
          have jw : IntKind.i64.wrap (E : Int) = (E : Int) := IntWalk.i64_in _ (by omega)
          have tn : (E : Int).tmod (c : Int) = (Q : Int) := by rw [Int.tmod_eq_emod_of_nonneg (by omega), hQ]; rfl
          have en : (E : Int) % (c : Int) = (Q : Int) := by rw [hQ]; rfl
          rw [← hE, ← hQ] at by_
          have dy : Y0.testBit k = decide (Q = 0) := by rw [by_, decide_eq_decide]; exact ⟨fun h => h.2.2.2, fun h => ⟨⟨k0, hk⟩, hn, hk, h⟩⟩
          rw [dy] at ry
          obtain ⟨b2, hb2⟩ : ∃ b2, decide (Q = 0) = b2 := ⟨_, rfl⟩
          rw [hb2] at ry
          have s1 : ((Q : Int) == 0) = b2 := by rw [← hb2, Bool.eq_iff_iff, beq_iff_eq, decide_eq_true_iff]; omega
          have s2 : (Q == 0) = b2 := by rw [← hb2, Bool.eq_iff_iff, beq_iff_eq, decide_eq_true_iff]
          clear hE hQ by_ dy hb2 hk hn
          cases b1
          all_goals
            cases b2
            all_goals
              go_wp2_with fail
              go_quiet (fail)
              go_wp2_with fail
              go_roundw
              case rel => exact ⟨k + 1, by omega, by have := HKK.out; omega, by go_num, Lib.hid (X.out.drewN _)⟩
              case measure => have := HKK.out; simp [intOf]; omega
        · have p1 : decide ((n : Int) ≤ (k : Int)) = false := by rw [decide_eq_false_iff_not]; omega
          have p1n : decide (n ≤ k) = false := by rw [decide_eq_false_iff_not]; omega
          have dy : Y0.testBit k = false := by rw [by_, decide_eq_false_iff_not]; omega
          rw [dy] at ry
          clear by_ dy hk hn
          cases b1
          all_goals
            go_wp2_with fail
            go_quiet (fail)
            go_wp2_with fail
            go_roundw
            case rel => exact ⟨k + 1, by omega, by have := HKK.out; omega, by go_num, Lib.hid (X.out.drewN _)⟩
            case measure => have := HKK.out; simp [intOf]; omega
      · have q1 : decide ((k : Int) ≤ ((kd6 i).hi : Int)) = false := by rw [decide_eq_false_iff_not]; omega
        have q1n : decide (k ≤ (kd6 i).hi) = false := by rw [decide_eq_false_iff_not]; omega
        clear hk
        go_wp2_with fail
        refine (works_any _ X.out.lay).mono ?_
        rintro e w9 ⟨rfl, hb⟩
        have X := Lib.hid (X.out.next hb)
        clear hb
        go_wp2_with fail
        go_ret
        exact ⟨rfl, X.out.below⟩

set_option maxRecDepth 100000 in
theorem lifted (os : Os) (started : os.Started) (H : Type) (enc : TypeId × Value → H) :
    ReturnsInHanded {} Tryd.checked os 8 .any (fun w args => (Rows.fieldStepsSpec.pre enc Tryd.prog Tryd.f8 [] false w args ∧ laidMetH Tryd.prog Rows.fieldStepsRow.laid w) ∧ sizedMet enc Tryd.prog Tryd.f8 (OpenSpec.ofChange Rows.fieldStepsSpec) false w args)
      (Rows.fieldStepsSpec.post enc Tryd.prog Tryd.f8 false true false false) := by
  refine returnsInHanded_of_change_and (C := Tryd.checked) (X := fun w _ => laidMetH Tryd.prog Rows.fieldStepsRow.laid w) (fun _ _ _ hh h => h.of_heap hh) own started (by kernel_rfl) Tryd.func8
    (ChangeSpec.witness_shaped (enc := enc) (C := Tryd.checked) (os := os) (X := fun w _ => laidMetH Tryd.prog Rows.fieldStepsRow.laid w) false (World.laidAll Tryd.prog os Rows.fieldStepsRow.laid) #[.int .u8 0, .int .u8 0, .int .u8 0] 8 (World.laidAll_os _ _ _) (World.shaped_of_ZipB (by kernel_rfl) (by kernel_rfl)) (by kernel_rfl) (by kernel_rfl) (by kernel_rfl) (by rw [MakeChecks.laidMetH_plain _ _ _ (by kernel_rfl)]; exact laidMet_laidAll _ (by kernel_rfl) (by kernel_rfl))) ?_
  intro W base args ds gs before hval0 hW _ _ hL _
  have hval : ∀ (j : Nat) t v, Tryd.f8.params[j]? = some t → args[j]? = some v → Value.okWide Tryd.prog W .any base t v := hval0
  have hW' := hW
  obtain ⟨p, q, hA0, hV, rfl, hfz, hnd⟩ := hW
  have hA : DataW.TrodAll enc Tryd.prog W 0 (fun _ => true) true Tryd.f8.params.toList args.toList ds p := hA0
  rw [Tryd.params8] at hA hval
  obtain ⟨v0, vs0, d0, ds0, p0, q0, hargs, rfl, rfl, h0, r0⟩ := trodAll_cons hA
  obtain ⟨v1, vs1, d1, ds1, p1, q1, rfl, rfl, rfl, h1, r1⟩ := trodAll_cons r0
  obtain ⟨v2, vs2, d2, ds2, p2, q2, rfl, rfl, rfl, h2, r2⟩ := trodAll_cons r1
  obtain ⟨rfl, rfl, rfl⟩ := trodAll_nil r2
  obtain rfl : args = #[v0, v1, v2] := by cases args; simp_all
  obtain ⟨rfl, rfl⟩ := trodVars_none hV
  obtain ⟨a0, rfl, rfl, rfl, w0⟩ := open_int Tryd.underlying5 (hval 0 5 v0 rfl rfl) h0
  obtain ⟨a1, rfl, rfl, rfl, w1⟩ := open_int Tryd.underlying5 (hval 1 5 v1 rfl rfl) h1
  obtain ⟨a2, rfl, rfl, rfl, w2⟩ := open_int Tryd.underlying5 (hval 2 5 v2 rfl rfl) h2
  clear hA0 hval0
  refine (walk a0 a1 a2 W (lay_of _ W (by kernel_rfl) (.tail _ (.head _)) (by kernel_rfl) hL) w0 w1 w2).mono fun e W' ⟨he, bel⟩ => ?_
  subst he
  exact ⟨_, rfl, _, _, _, [], _, [], hW', trodAll_mk1 (shut_bool Tryd.underlying4 _), (trodAll_cons_mk (shut_int Tryd.underlying5 w0) (trodAll_cons_mk (shut_int Tryd.underlying5 w1) (trodAll_cons_mk (shut_int Tryd.underlying5 w2) trodAll_mk0))), rfl, bel.frame _, fun h => by cases h⟩

theorem row_holds : Rows.FieldStepsSaid :=
  OpenClaim.holds_of_wide 8 Tryd.f8 rfl rfl rfl rfl rfl rfl rfl ⟨rfl, rfl, rfl, rfl, rfl⟩ rfl rfl rfl rfl rfl (by kernel_rfl) Tryd.func8 (by kernel_rfl)
    (of_decide_eq_true (by kernel_rfl)) (by unfold Func.isWrapper; first | (rw [if_pos (by decide +kernel)]; kernel_rfl) | (rw [if_neg (by decide +kernel)]; exact ⟨rfl, rfl⟩))
    (fun os started H enc _ => lifted os started H enc)

theorem proved : Rows.FieldStepsCardSaid :=
  Claim7.holds_tied_plain_at .later [] Rows.fieldStepsCard.laidKinds true Rows.fieldStepsCard.stood.harness Rows.fieldStepsCard.stood.looks
    row_holds (fun _ h => by cases h) (by kernel_rfl) (fun _ h => by cases h) fieldSteps_row_tie rfl ⟨rfl, rfl⟩ (by kernel_rfl) rfl
    (fun f fn hf hfn => by
      obtain rfl : f = 8 := Option.some.inj ((show Tryd.prog.funcNamed Rows.fieldStepsRow.func = some 8 by kernel_rfl).symm.trans hf) |>.symm
      obtain rfl : fn = Tryd.f8 := (Option.some.inj (Tryd.func8.symm.trans hfn)).symm
      exact ⟨looks0, fun j t ht => by
        rw [Tryd.params8] at ht
        have hm : t ∈ [5] := by simpa using Array.mem_of_getElem? ht
        have hall : ([5].all fun u => !Tryd.prog.wantsStandIn u) = true := by kernel_rfl
        exact (show Tryd.prog.wantsStandIn t = false by simpa using List.all_eq_true.1 hall t hm)⟩)
    (by kernel_rfl)
end Go.Proofs.YtlmbfhbfejjpdaaDoor.fieldSteps
