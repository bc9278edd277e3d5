/- The document's letter, digit and number; its Full. -/
import Derived.Test.YtlmbfhbfejjpdaaGreatDoorFldAA
namespace Go.Proofs.YtlmbfhbfejjpdaaGreatDoor
open Go.ChangeShapes Go.WideShapes Go.RowKit Go.Shelf

theorem letterR_any (c : Nat) (b : Bool) (h : Fld.letN c = b) (w : World) :
    Calls Tryz.prog 83 #[.int .u8 c] w fun e w' => e = .returned (.bool b) ∧ w = w' := by
  unfold Fld.letN at h
  rw [upN_and, loN_and] at h
  cases h1 : decide (97 ≤ c) <;> cases h2 : decide (c ≤ 122) <;> cases h3 : decide (65 ≤ c) <;> cases h4 : decide (c ≤ 90)
  all_goals
    have g1 : decide ((97 : Int) ≤ (c : Int)) = _ := le_facts 97 c _ h1
    have g2 : decide ((c : Int) ≤ (122 : Int)) = _ := ge_facts 122 c _ h2
    have g3 : decide ((65 : Int) ≤ (c : Int)) = _ := le_facts 65 c _ h3
    have g4 : decide ((c : Int) ≤ (90 : Int)) = _ := ge_facts 90 c _ h4
    rw [h1, h2, h3, h4] at h
    subst h
    go_enter Tryz.func83, Tryz.ntmps83
    go_wp2
    go_ret
    exact ⟨rfl, rfl⟩
theorem digitR_any (c : Nat) (b : Bool) (h : Fld.digN c = b) (w : World) :
    Calls Tryz.prog 85 #[.int .u8 c] w fun e w' => e = .returned (.bool b) ∧ w = w' := by
  rw [digN_and] at h
  cases h1 : decide (48 ≤ c) <;> cases h2 : decide (c ≤ 57)
  all_goals
    have g1 : decide ((48 : Int) ≤ (c : Int)) = _ := le_facts 48 c _ h1
    have g2 : decide ((c : Int) ≤ (57 : Int)) = _ := ge_facts 57 c _ h2
    rw [h1, h2] at h
    subst h
    go_enter Tryz.func85, Tryz.ntmps85
    go_wp2
    go_ret
    exact ⟨rfl, rfl⟩

/-! numbers -/
theorem ret_iib {a a' b b' : Int} {c c' : Bool} (h1 : a = a') (h2 : b = b') (h3 : c = c') : Ending.returned (.tuple #[.int .i64 a, .int .i64 b, .bool c]) = .returned (.tuple #[.int .i64 a', .int .i64 b', .bool c']) := by rw [h1, h2, h3]
namespace Fld
theorem num_nil : num [] = none := rfl
theorem num_not {c : UInt8} {r : List UInt8} (h : isDig c = false) : num (c :: r) = none := by
  simp [num, digs, h]
theorem num_one {c : UInt8} {r : List UInt8} (h : isDig c = true) (hr : ∀ d, r.head? = some d → isDig d = false) : num (c :: r) = some (c.toNat - 48, 1) := by
  cases r with
  | nil => simp [num, digs, h, val]
  | cons d r => simp [num, digs, h, hr d rfl, val]
theorem num_two {c d : UInt8} {r : List UInt8} (h : isDig c = true) (h2 : isDig d = true) : num (c :: d :: r) = some (10 * (c.toNat - 48) + (d.toNat - 48), 2) := by
  simp [num, digs, h, h2, val]
end Fld
theorem numberR_none (s : ByteArray) (a : Nat) (w : World) (ha : a ≤ s.size) (_hs : s.size ≤ 9223372036854775000) (hn : Fld.num (s.data.toList.drop a) = none) :
    Calls Tryz.prog 69 #[.string s, .int .i64 a] w fun e w' => e = .returned (.tuple #[.int .i64 0, .int .i64 a, .bool false]) ∧ w = w' := by
  by_cases hl : a < s.size
  · have hd : Fld.digN s[a].toNat = false := by
      rw [drop_cons s a hl] at hn
      cases q : Fld.isDig s[a] with
      | false => exact q
      | true =>
        cases hr : s.data.toList.drop (a + 1) with
        | nil => rw [hr, Fld.num_one q (fun d hd => by cases hd)] at hn; cases hn
        | cons d r =>
          rw [hr] at hn
          cases q2 : Fld.isDig d with
          | true => rw [Fld.num_two q q2] at hn; cases hn
          | false => rw [Fld.num_one q (fun e he => by obtain rfl : d = e := by simpa using he
                                                       exact q2)] at hn; cases hn
    have D := Lib.hid (fun w => digitR_any s[a].toNat false hd w)
    have t1 : decide ((s.size : Int) ≤ (a : Int)) = false := by rw [decide_eq_false_iff_not]; omega
    have t1n : decide (s.size ≤ a) = false := by rw [decide_eq_false_iff_not]; omega
    have i0 : (0 : Int) ≤ (a : Int) := by omega
    have i1 : (a : Int) < (s.size : Int) := by omega
    clear hn hd
    go_enter Tryz.func69, Tryz.ntmps69
    go_wp2_with fail
    refine (D.out _).mono ?_
    rintro e w1 ⟨rfl, rfl⟩
    go_wp2_with fail
    go_ret3
    exact ⟨rfl, rfl⟩
  · have t1 : decide ((s.size : Int) ≤ (a : Int)) = true := by rw [decide_eq_true_iff]; omega
    have t1n : decide (s.size ≤ a) = true := by rw [decide_eq_true_iff]; omega
    clear hn
    go_enter Tryz.func69, Tryz.ntmps69
    go_wp2_with fail
    go_ret3
    exact ⟨rfl, rfl⟩
theorem dig_le {c : Nat} (h : Fld.digN c = true) : 48 ≤ c ∧ c ≤ 57 := by unfold Fld.digN at h; exact of_decide_eq_true h
theorem numberR_some (s : ByteArray) (a n k : Nat) (w : World) (_ha : a ≤ s.size) (hs : s.size ≤ 9223372036854775000) (hn : Fld.num (s.data.toList.drop a) = some (n, k)) :
    Calls Tryz.prog 69 #[.string s, .int .i64 a] w fun e w' => e = .returned (.tuple #[.int .i64 n, .int .i64 (a + k : Nat), .bool true]) ∧ w = w' := by
  have hl : a < s.size := by
    rcases Nat.lt_or_ge a s.size with q | q
    · exact q
    · rw [drop_end s a q, Fld.num_nil] at hn; cases hn
  rw [drop_cons s a hl] at hn
  have hd : Fld.digN s[a].toNat = true := by
    cases q : Fld.isDig s[a] with
    | true => exact q
    | false => rw [Fld.num_not q] at hn; cases hn
  have D := Lib.hid (fun w => digitR_any s[a].toNat true hd w)
  obtain ⟨d1, d2⟩ := dig_le hd
  have t1 : decide ((s.size : Int) ≤ (a : Int)) = false := by rw [decide_eq_false_iff_not]; omega
  have t1n : decide (s.size ≤ a) = false := by rw [decide_eq_false_iff_not]; omega
  have i0 : (0 : Int) ≤ (a : Int) := by omega
  have i1 : (a : Int) < (s.size : Int) := by omega
  have j0 : (0 : Int) ≤ ((a + 1 : Nat) : Int) := by omega
  by_cases hl2 : a + 1 < s.size
  · rw [drop_cons s (a + 1) hl2] at hn
    have s1 : decide (((a : Int) + 1) < (s.size : Int)) = true := by rw [decide_eq_true_iff]; omega
    have s1n : decide (a + 1 < s.size) = true := by rw [decide_eq_true_iff]; omega
    cases q : Fld.isDig s[a + 1] with
    | true =>
      rw [Fld.num_two hd q] at hn
      simp only [Option.some.injEq, Prod.mk.injEq] at hn
      obtain ⟨rfl, rfl⟩ := hn
      have E := Lib.hid (fun w => digitR_any s[a + 1].toNat true q w)
      obtain ⟨e1, e2⟩ := dig_le q
      clear hd q
      go_enter Tryz.func69, Tryz.ntmps69
      go_wp2_with fail
      refine (D.out _).mono ?_
      rintro e w1 ⟨rfl, rfl⟩
      go_wp2_with fail
      refine (E.out _).mono ?_
      rintro e w1 ⟨rfl, rfl⟩
      go_wp2_with fail
      go_ret3
      exact ⟨ret_iib (by omega) (by omega) rfl, rfl⟩
    | false =>
      rw [Fld.num_one hd (fun e he => by obtain rfl : s[a + 1] = e := by simpa using he
                                         exact q)] at hn
      simp only [Option.some.injEq, Prod.mk.injEq] at hn
      obtain ⟨rfl, rfl⟩ := hn
      have E := Lib.hid (fun w => digitR_any s[a + 1].toNat false q w)
      clear hd q
      go_enter Tryz.func69, Tryz.ntmps69
      go_wp2_with fail
      refine (D.out _).mono ?_
      rintro e w1 ⟨rfl, rfl⟩
      go_wp2_with fail
      refine (E.out _).mono ?_
      rintro e w1 ⟨rfl, rfl⟩
      go_wp2_with fail
      go_ret3
      exact ⟨ret_iib (by omega) (by omega) rfl, rfl⟩
  · rw [drop_end s (a + 1) (by omega), Fld.num_one hd (fun e he => by cases he)] at hn
    simp only [Option.some.injEq, Prod.mk.injEq] at hn
    obtain ⟨rfl, rfl⟩ := hn
    have s1 : decide (((a : Int) + 1) < (s.size : Int)) = false := by rw [decide_eq_false_iff_not]; omega
    have s1n : decide (a + 1 < s.size) = false := by rw [decide_eq_false_iff_not]; omega
    clear hd
    go_enter Tryz.func69, Tryz.ntmps69
    go_wp2_with fail
    refine (D.out _).mono ?_
    rintro e w1 ⟨rfl, rfl⟩
    go_wp2_with fail
    go_ret3
    exact ⟨ret_iib (by omega) (by omega) rfl, rfl⟩

/-! Full -/
theorem fullR_no (lo hi : Int) (v : Value) (xs : List ByteArray) (wk : Bool) (w : World) (hv : IsStrs w v xs) (h : ¬ Valid lo hi xs wk) (hs : ∀ x ∈ xs, x.size ≤ 9223372036854775807) :
    Calls Tryz.prog 17 #[.agg #[.int .i64 lo, .int .i64 hi, v, .bool wk]] w fun e w' => e = .returned (.tuple #[.int .u64 0, .int .i64 2]) ∧ Below w.heap.size w w' := by
  have X := Lib.hid (KBox.new w lo hi v xs wk 33 hv)
  have C := Lib.hid (checkR_no lo hi v xs wk _ X.out.strs h hs)
  obtain ⟨A, cap, rfl, _, _⟩ := hv
  clear h
  go_enter Tryz.func17, Tryz.ntmps17
  go_wp2_with fail
  refine C.out.mono ?_
  rintro e w1 ⟨rfl, hb⟩
  have X := Lib.hid (X.out.next hb)
  clear hb
  go_wp2_with fail
  go_ret2
  exact ⟨rfl, X.out.below⟩
theorem fullR_yes (lo hi : Int) (v : Value) (xs : List ByteArray) (wk : Bool) (w : World) (hv : IsStrs w v xs) (h : Valid lo hi xs wk) :
    Calls Tryz.prog 17 #[.agg #[.int .i64 lo, .int .i64 hi, v, .bool wk]] w fun e w' => e = .returned (.tuple #[.int .u64 (fullS lo hi : Nat), .int .i64 0]) ∧ Below w.heap.size w w' := by
  have X := Lib.hid (KBox.new w lo hi v xs wk 33 hv)
  have C := Lib.hid (checkR_yes lo hi v xs wk _ X.out.strs h)
  obtain ⟨A, cap, rfl, _, _⟩ := hv
  have hr : IsRange lo hi 1 (fullS lo hi) 0 := by
    obtain ⟨h1, h2, h3, _⟩ := h
    exact .inr (.inr ⟨lo.toNat, hi.toNat, 1, by omega, by omega, rfl, by omega, by omega, Nat.le_refl _, rfl, rfl⟩)
  have R := Lib.hid (fun w => rangeR_any lo hi 1 _ 0 w hr)
  clear h hr
  go_enter Tryz.func17, Tryz.ntmps17
  go_wp2_with fail
  refine C.out.mono ?_
  rintro e w1 ⟨rfl, hb⟩
  have X := Lib.hid (X.out.next hb)
  obtain ⟨_, _, _, c0, c1, c2, c3⟩ := X.out
  clear hb
  go_wp2_with fail
  refine (R.out _).mono ?_
  rintro e w2 ⟨rfl, rfl⟩
  go_wp2_with fail
  go_ret2
  exact ⟨rfl, X.out.below⟩
/-! one byte made a string -/
theorem conv_oneR (W : World) (k : Nat) (x : Int) (hk : W.heap.size = k) :
    (convert 96 9 (.slice (some ⟨k, 0, none⟩) 1 1)).run Tryz.prog (W.alloc (.cells #[.int .u8 x] 5)) = .ok (.string (strOfNums [x])) (W.alloc (.cells #[.int .u8 x] 5)) := by
  subst hk
  exact run_convert_bytes_arg _ 96 5 Tryz.underlying96 Tryz.underlying5 _ 0 1 1 [x] rfl (fun i hi => by
    obtain rfl : i = 0 := by omega
    simp [go_sem]) _ Tryz.underlying9
theorem nums_oneR (x : Int) (a : Nat) (h : x = a) : strOfNums [x] = ⟨#[UInt8.ofNat a]⟩ := by subst h; rfl
end Go.Proofs.YtlmbfhbfejjpdaaGreatDoor
