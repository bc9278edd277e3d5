/- The document's letter, digit and number; its Full. The document's items: what they say, beside the items as they are read; what is wrong with them, and their sets. No walk stands here. The document's name and value. Written by FldEE.gen.py. -/
import Derived.Test.YtpnfifhanmpapaaGreatDoorMRefA
/- The document's letter, digit and number; its Full. -/
namespace Go.Proofs.YtpnfifhanmpapaaGreatDoor
open Go.ChangeShapes Go.WideShapes Go.RowKit Go.Shelf

theorem letterR_any (c : Nat) (b : Bool) (h : Fld.letN c = b) (w : World) :
    Calls Tryz.prog 162 #[.int .u8 c] w fun e w' => e = .returned (.bool b) ∧ w = w' := by
  unfold Fld.letN at h
  rw [upN_and, loN_and] at h
  cases h1 : decide (97 ≤ c) <;> cases h2 : decide (c ≤ 122) <;> cases h3 : decide (65 ≤ c) <;> cases h4 : decide (c ≤ 90)
  all_goals
    have g1 : decide ((97 : Int) ≤ (c : Int)) = _ := le_facts 97 c _ h1
    have g2 : decide ((c : Int) ≤ (122 : Int)) = _ := ge_facts 122 c _ h2
    have g3 : decide ((65 : Int) ≤ (c : Int)) = _ := le_facts 65 c _ h3
    have g4 : decide ((c : Int) ≤ (90 : Int)) = _ := ge_facts 90 c _ h4
    rw [h1, h2, h3, h4] at h
    subst h
    go_enter Tryz.func162, Tryz.ntmps162
    go_wp2
    go_ret
    exact ⟨rfl, rfl⟩
theorem digitR_any (c : Nat) (b : Bool) (h : Fld.digN c = b) (w : World) :
    Calls Tryz.prog 164 #[.int .u8 c] w fun e w' => e = .returned (.bool b) ∧ w = w' := by
  rw [digN_and] at h
  cases h1 : decide (48 ≤ c) <;> cases h2 : decide (c ≤ 57)
  all_goals
    have g1 : decide ((48 : Int) ≤ (c : Int)) = _ := le_facts 48 c _ h1
    have g2 : decide ((c : Int) ≤ (57 : Int)) = _ := ge_facts 57 c _ h2
    rw [h1, h2] at h
    subst h
    go_enter Tryz.func164, Tryz.ntmps164
    go_wp2
    go_ret
    exact ⟨rfl, rfl⟩

/-! numbers -/
theorem ret_iib {a a' b b' : Int} {c c' : Bool} (h1 : a = a') (h2 : b = b') (h3 : c = c') : Ending.returned (.tuple #[.int .i64 a, .int .i64 b, .bool c]) = .returned (.tuple #[.int .i64 a', .int .i64 b', .bool c']) := by rw [h1, h2, h3]
namespace Fld
theorem num_nil : num [] = none := rfl
theorem num_not {c : UInt8} {r : List UInt8} (h : isDig c = false) : num (c :: r) = none := by
  simp [num, digs, h]
theorem num_one {c : UInt8} {r : List UInt8} (h : isDig c = true) (hr : ∀ d, r.head? = some d → isDig d = false) : num (c :: r) = some (c.toNat - 48, 1) := by
  cases r with
  | nil => simp [num, digs, h, val]
  | cons d r => simp [num, digs, h, hr d rfl, val]
theorem num_two {c d : UInt8} {r : List UInt8} (h : isDig c = true) (h2 : isDig d = true) : num (c :: d :: r) = some (10 * (c.toNat - 48) + (d.toNat - 48), 2) := by
  simp [num, digs, h, h2, val]
end Fld
theorem numberR_none (s : ByteArray) (a : Nat) (w : World) (ha : a ≤ s.size) (_hs : s.size ≤ 9223372036854775000) (hn : Fld.num (s.data.toList.drop a) = none) :
    Calls Tryz.prog 147 #[.string s, .int .i64 a] w fun e w' => e = .returned (.tuple #[.int .i64 0, .int .i64 a, .bool false]) ∧ w = w' := by
  by_cases hl : a < s.size
  · have hd : Fld.digN s[a].toNat = false := by
      rw [drop_cons s a hl] at hn
      cases q : Fld.isDig s[a] with
      | false => exact q
      | true =>
        cases hr : s.data.toList.drop (a + 1) with
        | nil => rw [hr, Fld.num_one q (fun d hd => by cases hd)] at hn; cases hn
        | cons d r =>
          rw [hr] at hn
          cases q2 : Fld.isDig d with
          | true => rw [Fld.num_two q q2] at hn; cases hn
          | false => rw [Fld.num_one q (fun e he => by obtain rfl : d = e := by simpa using he
                                                       exact q2)] at hn; cases hn
    have D := Lib.hid (fun w => digitR_any s[a].toNat false hd w)
    have t1 : decide ((s.size : Int) ≤ (a : Int)) = false := by rw [decide_eq_false_iff_not]; omega
    have t1n : decide (s.size ≤ a) = false := by rw [decide_eq_false_iff_not]; omega
    have i0 : (0 : Int) ≤ (a : Int) := by omega
    have i1 : (a : Int) < (s.size : Int) := by omega
    clear hn hd
    go_enter Tryz.func147, Tryz.ntmps147
    go_wp2_with fail
    refine (D.out _).mono ?_
    rintro e w1 ⟨rfl, rfl⟩
    go_wp2_with fail
    go_ret3
    exact ⟨rfl, rfl⟩
  · have t1 : decide ((s.size : Int) ≤ (a : Int)) = true := by rw [decide_eq_true_iff]; omega
    have t1n : decide (s.size ≤ a) = true := by rw [decide_eq_true_iff]; omega
    clear hn
    go_enter Tryz.func147, Tryz.ntmps147
    go_wp2_with fail
    go_ret3
    exact ⟨rfl, rfl⟩
theorem dig_le {c : Nat} (h : Fld.digN c = true) : 48 ≤ c ∧ c ≤ 57 := by unfold Fld.digN at h; exact of_decide_eq_true h
theorem numberR_some (s : ByteArray) (a n k : Nat) (w : World) (_ha : a ≤ s.size) (hs : s.size ≤ 9223372036854775000) (hn : Fld.num (s.data.toList.drop a) = some (n, k)) :
    Calls Tryz.prog 147 #[.string s, .int .i64 a] w fun e w' => e = .returned (.tuple #[.int .i64 n, .int .i64 (a + k : Nat), .bool true]) ∧ w = w' := by
  have hl : a < s.size := by
    rcases Nat.lt_or_ge a s.size with q | q
    · exact q
    · rw [drop_end s a q, Fld.num_nil] at hn; cases hn
  rw [drop_cons s a hl] at hn
  have hd : Fld.digN s[a].toNat = true := by
    cases q : Fld.isDig s[a] with
    | true => exact q
    | false => rw [Fld.num_not q] at hn; cases hn
  have D := Lib.hid (fun w => digitR_any s[a].toNat true hd w)
  obtain ⟨d1, d2⟩ := dig_le hd
  have t1 : decide ((s.size : Int) ≤ (a : Int)) = false := by rw [decide_eq_false_iff_not]; omega
  have t1n : decide (s.size ≤ a) = false := by rw [decide_eq_false_iff_not]; omega
  have i0 : (0 : Int) ≤ (a : Int) := by omega
  have i1 : (a : Int) < (s.size : Int) := by omega
  have j0 : (0 : Int) ≤ ((a + 1 : Nat) : Int) := by omega
  by_cases hl2 : a + 1 < s.size
  · rw [drop_cons s (a + 1) hl2] at hn
    have s1 : decide (((a : Int) + 1) < (s.size : Int)) = true := by rw [decide_eq_true_iff]; omega
    have s1n : decide (a + 1 < s.size) = true := by rw [decide_eq_true_iff]; omega
    cases q : Fld.isDig s[a + 1] with
    | true =>
      rw [Fld.num_two hd q] at hn
      simp only [Option.some.injEq, Prod.mk.injEq] at hn
      obtain ⟨rfl, rfl⟩ := hn
      have E := Lib.hid (fun w => digitR_any s[a + 1].toNat true q w)
      obtain ⟨e1, e2⟩ := dig_le q
      clear hd q
      go_enter Tryz.func147, Tryz.ntmps147
      go_wp2_with fail
      refine (D.out _).mono ?_
      rintro e w1 ⟨rfl, rfl⟩
      go_wp2_with fail
      refine (E.out _).mono ?_
      rintro e w1 ⟨rfl, rfl⟩
      go_wp2_with fail
      go_ret3
      exact ⟨ret_iib (by omega) (by omega) rfl, rfl⟩
    | false =>
      rw [Fld.num_one hd (fun e he => by obtain rfl : s[a + 1] = e := by simpa using he
                                         exact q)] at hn
      simp only [Option.some.injEq, Prod.mk.injEq] at hn
      obtain ⟨rfl, rfl⟩ := hn
      have E := Lib.hid (fun w => digitR_any s[a + 1].toNat false q w)
      clear hd q
      go_enter Tryz.func147, Tryz.ntmps147
      go_wp2_with fail
      refine (D.out _).mono ?_
      rintro e w1 ⟨rfl, rfl⟩
      go_wp2_with fail
      refine (E.out _).mono ?_
      rintro e w1 ⟨rfl, rfl⟩
      go_wp2_with fail
      go_ret3
      exact ⟨ret_iib (by omega) (by omega) rfl, rfl⟩
  · rw [drop_end s (a + 1) (by omega), Fld.num_one hd (fun e he => by cases he)] at hn
    simp only [Option.some.injEq, Prod.mk.injEq] at hn
    obtain ⟨rfl, rfl⟩ := hn
    have s1 : decide (((a : Int) + 1) < (s.size : Int)) = false := by rw [decide_eq_false_iff_not]; omega
    have s1n : decide (a + 1 < s.size) = false := by rw [decide_eq_false_iff_not]; omega
    clear hd
    go_enter Tryz.func147, Tryz.ntmps147
    go_wp2_with fail
    refine (D.out _).mono ?_
    rintro e w1 ⟨rfl, rfl⟩
    go_wp2_with fail
    go_ret3
    exact ⟨ret_iib (by omega) (by omega) rfl, rfl⟩

/-! Full -/
theorem fullR_no (lo hi : Int) (v : Value) (xs : List ByteArray) (wk : Bool) (w : World) (hv : IsStrs w v xs) (h : ¬ Valid lo hi xs wk) (hs : ∀ x ∈ xs, x.size ≤ 9223372036854775807) :
    Calls Tryz.prog 85 #[.agg #[.int .i64 lo, .int .i64 hi, v, .bool wk]] w fun e w' => e = .returned (.tuple #[.int .u64 0, .int .i64 2]) ∧ Below w.heap.size w w' := by
  have X := Lib.hid (KBox.new w lo hi v xs wk 95 hv)
  have C := Lib.hid (checkR_no lo hi v xs wk _ X.out.strs h hs)
  obtain ⟨A, cap, rfl, _, _⟩ := hv
  clear h
  go_enter Tryz.func85, Tryz.ntmps85
  go_wp2_with fail
  refine C.out.mono ?_
  rintro e w1 ⟨rfl, hb⟩
  have X := Lib.hid (X.out.next hb)
  clear hb
  go_wp2_with fail
  go_ret2
  exact ⟨rfl, X.out.below⟩
theorem fullR_yes (lo hi : Int) (v : Value) (xs : List ByteArray) (wk : Bool) (w : World) (hv : IsStrs w v xs) (h : Valid lo hi xs wk) :
    Calls Tryz.prog 85 #[.agg #[.int .i64 lo, .int .i64 hi, v, .bool wk]] w fun e w' => e = .returned (.tuple #[.int .u64 (fullS lo hi : Nat), .int .i64 0]) ∧ Below w.heap.size w w' := by
  have X := Lib.hid (KBox.new w lo hi v xs wk 95 hv)
  have C := Lib.hid (checkR_yes lo hi v xs wk _ X.out.strs h)
  obtain ⟨A, cap, rfl, _, _⟩ := hv
  have hr : IsRange lo hi 1 (fullS lo hi) 0 := by
    obtain ⟨h1, h2, h3, _⟩ := h
    exact .inr (.inr ⟨lo.toNat, hi.toNat, 1, by omega, by omega, rfl, by omega, by omega, Nat.le_refl _, rfl, rfl⟩)
  have R := Lib.hid (fun w => rangeR_any lo hi 1 _ 0 w hr)
  clear h hr
  go_enter Tryz.func85, Tryz.ntmps85
  go_wp2_with fail
  refine C.out.mono ?_
  rintro e w1 ⟨rfl, hb⟩
  have X := Lib.hid (X.out.next hb)
  obtain ⟨_, _, _, c0, c1, c2, c3⟩ := X.out
  clear hb
  go_wp2_with fail
  refine (R.out _).mono ?_
  rintro e w2 ⟨rfl, rfl⟩
  go_wp2_with fail
  go_ret2
  exact ⟨rfl, X.out.below⟩
/-! one byte made a string -/
theorem conv_oneR (W : World) (k : Nat) (x : Int) (hk : W.heap.size = k) :
    (convert 47 9 (.slice (some ⟨k, 0, none⟩) 1 1)).run Tryz.prog (W.alloc (.cells #[.int .u8 x] 5)) = .ok (.string (strOfNums [x])) (W.alloc (.cells #[.int .u8 x] 5)) := by
  subst hk
  exact run_convert_bytes_arg _ 47 5 Tryz.underlying47 Tryz.underlying5 _ 0 1 1 [x] rfl (fun i hi => by
    obtain rfl : i = 0 := by omega
    simp [go_sem]) _ Tryz.underlying9
theorem nums_oneR (x : Int) (a : Nat) (h : x = a) : strOfNums [x] = ⟨#[UInt8.ofNat a]⟩ := by subst h; rfl
end Go.Proofs.YtpnfifhanmpapaaGreatDoor
/- The document's items: what they say, beside the items as they are read; what is wrong with them, and their sets. No walk stands here. -/
namespace Go.Proofs.YtpnfifhanmpapaaGreatDoor
open Go.ChangeShapes Go.WideShapes Go.RowKit Go.Shelf

/-- an item of the document -/
structure DI where
  star : Bool
  a : Int
  b : Int
  c : Int
  p : Int
  q : Int
  r : Int
def DI.cells (d : DI) : List Value := [.bool d.star, .int .i64 d.a, .int .i64 d.b, .int .i64 d.c, .int .i64 d.p, .int .i64 d.q, .int .i64 d.r]
def DI.val (d : DI) : Value := .agg #[.bool d.star, .int .i64 d.a, .int .i64 d.b, .int .i64 d.c, .int .i64 d.p, .int .i64 d.q, .int .i64 d.r]
/-- the step of an item of the document, and of the item -/
def StepI (x : Fld.It) (d : DI) : Prop := (d.c = -1 ∧ x.t = 1) ∨ (d.c = x.t ∧ d.r = x.ta)
/-- the item that an item of the document stands for -/
def RI (K : Fld.Kd) (x : Fld.It) (d : DI) : Prop :=
  (d.star = true ∧ d.a = -1 ∧ d.b = -1 ∧ x.f = K.lo ∧ x.s = K.hi ∧ StepI x d) ∨
  (d.star = false ∧ d.a = x.f ∧ d.p = x.fa ∧ d.b = -1 ∧ ((d.c = -1 ∧ x.s = x.f ∧ x.t = 1) ∨ (d.c = x.t ∧ d.r = x.ta ∧ x.s = max x.f K.hi))) ∨
  (d.star = false ∧ d.a = x.f ∧ d.p = x.fa ∧ d.b = x.s ∧ d.q = x.sa ∧ StepI x d)
/-- items of the document stand for items -/
def RIs (K : Fld.Kd) (xs : List Fld.It) (ds : List DI) : Prop := xs.length = ds.length ∧ ∀ i (h1 : i < xs.length) (h2 : i < ds.length), RI K xs[i] ds[i]
theorem ris_nil (K : Fld.Kd) : RIs K [] [] := ⟨rfl, fun i h => by simp at h⟩
theorem RIs.snoc {K : Fld.Kd} {xs : List Fld.It} {ds : List DI} {x : Fld.It} {d : DI} (h : RIs K xs ds) (hx : RI K x d) : RIs K (xs ++ [x]) (ds ++ [d]) := by
  refine ⟨by simp [h.1], fun i h1 h2 => ?_⟩
  rw [List.getElem_append, List.getElem_append]
  by_cases q : i < xs.length
  · rw [dif_pos q, dif_pos (by rw [← h.1]; exact q)]
    exact h.2 i q (by rw [← h.1]; exact q)
  · rw [dif_neg q, dif_neg (by rw [← h.1]; exact q)]
    simpa using hx
/-! the cells of a list of them -/
def flatI (l : List DI) : List Value := l.flatMap DI.cells
theorem flatI_len (l : List DI) : (flatI l).length = l.length * 7 := by
  induction l with
  | nil => rfl
  | cons r l ih => simp [flatI, DI.cells] at ih ⊢; omega
theorem flatI_snoc (l : List DI) (d : DI) : flatI (l ++ [d]) = flatI l ++ d.cells := by simp [flatI]
theorem flatI_at : ∀ (l : List DI) (k : Nat) (h : k < l.length) (j : Nat), j < 7 → (flatI l)[k * 7 + j]? = l[k].cells[j]?
  | r :: l, 0, _, j, hj => by
    have e : flatI (r :: l) = r.cells ++ flatI l := by simp [flatI]
    rw [e, List.getElem?_append_left (by simp [DI.cells]; omega)]
    simp
  | r :: l, k + 1, h, j, hj => by
    have ih := flatI_at l k (by simpa using h) j hj
    have e : flatI (r :: l) = r.cells ++ flatI l := by simp [flatI]
    rw [e, List.getElem?_append_right (by simp [DI.cells]; omega)]
    have : (k + 1) * 7 + j - r.cells.length = k * 7 + j := by simp [DI.cells]; omega
    rw [this, ih]
    rfl
/-! sets -/
theorem fold7_add (K : Fld.Kd) (S v : Nat) (hS : S < 2 ^ 64) (hv : v < 64) : Fld.fold7 K (S ||| 2 ^ v) = Fld.fold7 K S ||| (if K.week = true ∧ v = 7 then 1 else 2 ^ v) := by
  have m : ∀ j, (18446744073709551615 - 128 : Nat).testBit j = (decide (j < 64) && !decide (j = 7)) := by
    intro j
    have e : (18446744073709551615 - 128 : Nat) = 2 ^ 64 - (128 + 1) := by decide
    rw [e, Nat.testBit_two_pow_sub_succ (by decide), show (128 : Nat) = 2 ^ 7 from rfl, Nat.testBit_two_pow]
    congr 2
    rw [Bool.eq_iff_iff]
    simp only [decide_eq_true_iff]
    omega
  have o : ∀ j, (1 : Nat).testBit j = decide (j = 0) := by
    intro j
    rw [show (1 : Nat) = 2 ^ 0 from rfl, Nat.testBit_two_pow, Bool.eq_iff_iff]
    simp only [decide_eq_true_iff]
    omega
  have hb : ∀ j, S.testBit j = true → j < 64 := fun j h => by
    rcases Nat.lt_or_ge j 64 with a | a
    · exact a
    · rw [Nat.testBit_lt_two_pow (Nat.lt_of_lt_of_le hS (Nat.pow_le_pow_right (by decide) a))] at h; cases h
  unfold Fld.fold7
  by_cases w : K.week = true
  · by_cases c : S.testBit 7 = true
    · have c2 : (S ||| 2 ^ v).testBit 7 = true := by rw [Nat.testBit_or, c]; rfl
      rw [if_pos ⟨w, c2⟩, if_pos ⟨w, c⟩]
      apply Nat.eq_of_testBit_eq
      intro j
      by_cases h7 : v = 7
      · rw [if_pos ⟨w, h7⟩]
        simp only [Nat.testBit_or, Nat.testBit_and, m, o, Nat.testBit_two_pow]
        by_cases j7 : j = 7
        · simp [j7]
        · have : ¬ v = j := by omega
          simp [this]
      · rw [if_neg (fun q => h7 q.2)]
        simp only [Nat.testBit_or, Nat.testBit_and, m, o, Nat.testBit_two_pow]
        by_cases e : v = j
        · subst e
          simp [h7, hv]
        · simp [e]
    · have cf : S.testBit 7 = false := by simpa using c
      rw [if_neg (c := K.week = true ∧ S.testBit 7 = true) (fun q => c q.2)]
      by_cases h7 : v = 7
      · have c2 : (S ||| 2 ^ v).testBit 7 = true := by rw [Nat.testBit_or, Nat.testBit_two_pow, h7]; simp
        rw [if_pos ⟨w, c2⟩, if_pos ⟨w, h7⟩]
        apply Nat.eq_of_testBit_eq
        intro j
        simp only [Nat.testBit_or, Nat.testBit_and, m, o, Nat.testBit_two_pow]
        by_cases j7 : j = 7
        · subst j7; simp [cf]
        · have e : ¬ v = j := by omega
          by_cases hj : j < 64
          · simp [e, j7, hj]
          · have : S.testBit j = false := by
              cases q : S.testBit j with
              | false => rfl
              | true => exact absurd (hb j q) hj
            simp [e, this]
      · have c2 : ¬ (S ||| 2 ^ v).testBit 7 = true := by rw [Nat.testBit_or, Nat.testBit_two_pow, cf]; simp [h7]
        rw [if_neg (fun q => c2 q.2), if_neg (fun q => h7 q.2)]
  · rw [if_neg (fun q => w q.1), if_neg (fun q => w q.1), if_neg (fun q => w q.1)]
/-! what is wrong, and the numbers: which road it goes -/
def StepOut (d : DI) (r : Int) : Prop := (d.c = 0 ∧ r = d.r) ∨ (d.c ≠ 0 ∧ r = -1)
def WrongRoad (K : Fld.Kd) (d : DI) (r : Int) : Prop :=
  (d.star = true ∧ d.b = -1 ∧ StepOut d r) ∨
  ∃ n : Nat, d.star = false ∧ d.a = n ∧ ((¬ Fld.has K n ∧ r = d.p) ∨ (Fld.has K n ∧ d.b = -1 ∧ StepOut d r) ∨
    ∃ m : Nat, Fld.has K n ∧ d.b = m ∧ ((¬ Fld.has K m ∧ r = d.q) ∨ (Fld.has K m ∧ m < n ∧ r = d.p) ∨ (Fld.has K m ∧ n ≤ m ∧ StepOut d r)))
def wrongI (o : Option Nat) : Int := match o with
  | none => -1
  | some a => a
theorem wrong_road {K : Fld.Kd} (O : K.Ok) {x : Fld.It} {d : DI} (h : RI K x d) : WrongRoad K d (wrongI (Fld.wrong K x)) := by
  have hle := O.le
  have step : ∀ (x : Fld.It) (d : DI), StepI x d → Fld.has K x.f → Fld.has K x.s → x.f ≤ x.s → StepOut d (wrongI (Fld.wrong K x)) := by
    intro x d h h1 h2 h3
    unfold Fld.wrong
    rw [if_neg (by simpa using h1), if_neg (by simpa using h2), if_neg (by omega)]
    rcases h with ⟨e, e2⟩ | ⟨e, e2⟩
    · rw [if_neg (by omega)]; exact .inr ⟨by omega, rfl⟩
    · by_cases q : x.t = 0
      · rw [if_pos q]; exact .inl ⟨by omega, e2.symm⟩
      · rw [if_neg q]; exact .inr ⟨by omega, rfl⟩
  rcases h with ⟨h1, h2, h3, h4, h5, h6⟩ | ⟨h1, h2, h3, h4, h5⟩ | ⟨h1, h2, h3, h4, h5, h6⟩
  · exact .inl ⟨h1, h3, step x d h6 (.inl ⟨by omega, by omega⟩) (.inl ⟨by omega, by omega⟩) (by omega)⟩
  · refine .inr ⟨x.f, h1, h2, ?_⟩
    by_cases c : Fld.has K x.f
    · refine .inr (.inl ⟨c, h4, ?_⟩)
      rcases h5 with ⟨a, b, e⟩ | ⟨a, b, e⟩
      · exact step x d (.inl ⟨a, e⟩) c (by rw [b]; exact c) (by omega)
      · refine step x d (.inr ⟨a, b⟩) c ?_ (by omega)
        rw [e]
        by_cases q : x.f ≤ K.hi
        · exact .inl ⟨by omega, by omega⟩
        · rw [Nat.max_eq_left (by omega)]; exact c
    · refine .inl ⟨c, ?_⟩
      unfold Fld.wrong
      rw [if_pos c]
      exact h3.symm
  · refine .inr ⟨x.f, h1, h2, ?_⟩
    by_cases c : Fld.has K x.f
    · refine .inr (.inr ⟨x.s, c, h4, ?_⟩)
      by_cases c2 : Fld.has K x.s
      · by_cases q : x.s < x.f
        · refine .inr (.inl ⟨c2, q, ?_⟩)
          unfold Fld.wrong
          rw [if_neg (by simpa using c), if_neg (by simpa using c2), if_pos q]
          exact h3.symm
        · exact .inr (.inr ⟨c2, by omega, step x d h6 c c2 (by omega)⟩)
      · refine .inl ⟨c2, ?_⟩
        unfold Fld.wrong
        rw [if_neg (by simpa using c), if_pos c2]
        exact h5.symm
    · refine .inl ⟨c, ?_⟩
      unfold Fld.wrong
      rw [if_pos c]
      exact h3.symm
/-- the first number, the last one and the step of an item of the document, as it reckons them -/
def NumRoad (K : Fld.Kd) (d : DI) (f s t : Nat) : Prop :=
  ((d.star = true ∧ f = K.lo ∧ s = K.hi) ∨ (d.star = false ∧ d.a = f ∧ ∃ m : Nat, d.b = m ∧ s = m) ∨ (d.star = false ∧ d.a = f ∧ d.b = -1 ∧ 0 < d.c ∧ s = max f K.hi) ∨ (d.star = false ∧ d.a = f ∧ d.b = -1 ∧ d.c = -1 ∧ s = f)) ∧
  ((d.c = -1 ∧ t = 1) ∨ (d.c = t ∧ 1 ≤ t))
theorem num_road {K : Fld.Kd} {x : Fld.It} {d : DI} (h : RI K x d) (ht : 1 ≤ x.t) : NumRoad K d x.f x.s x.t := by
  rcases h with ⟨h1, h2, h3, h4, h5, h6⟩ | ⟨h1, h2, h3, h4, h5⟩ | ⟨h1, h2, h3, h4, h5, h6⟩
  · refine ⟨.inl ⟨h1, h4, h5⟩, ?_⟩
    rcases h6 with ⟨a, b⟩ | ⟨a, b⟩
    · exact .inl ⟨a, b⟩
    · exact .inr ⟨a, ht⟩
  · rcases h5 with ⟨a, b, e⟩ | ⟨a, b, e⟩
    · exact ⟨.inr (.inr (.inr ⟨h1, h2, h4, a, b⟩)), .inl ⟨a, e⟩⟩
    · exact ⟨.inr (.inr (.inl ⟨h1, h2, h4, by omega, e⟩)), .inr ⟨a, ht⟩⟩
  · refine ⟨.inr (.inl ⟨h1, h2, x.s, h4, rfl⟩), ?_⟩
    rcases h6 with ⟨a, b⟩ | ⟨a, b⟩
    · exact .inl ⟨a, b⟩
    · exact .inr ⟨a, ht⟩
end Go.Proofs.YtpnfifhanmpapaaGreatDoor
/- The document's name and value. Written by FldEE.gen.py. -/
namespace Go.Proofs.YtpnfifhanmpapaaGreatDoor
open Go.ChangeShapes Go.WideShapes Go.RowKit Go.Shelf

theorem str_beq (x y : ByteArray) : (x.toList == y.toList) = (x.data.toList == y.data.toList) := by rw [ByteArray.toList_eq, ByteArray.toList_eq]
/-- the letters read so far, in upper case -/
def upTo (s : ByteArray) (a k : Nat) : List UInt8 := ((s.data.toList.drop a).take (k - a)).map Fld.up
theorem upTo_succ (s : ByteArray) (a k : Nat) (h1 : a ≤ k) (h2 : k < s.size) : upTo s a (k + 1) = upTo s a k ++ [Fld.up s[k]] := by
  unfold upTo
  have hl : k - a < (s.data.toList.drop a).length := by rw [List.length_drop, ← Lib.size_eq]; omega
  rw [show k + 1 - a = (k - a) + 1 by omega, List.take_succ_eq_append_getElem hl, List.map_append]
  congr 1
  simp only [List.map_cons, List.map_nil, List.cons.injEq, and_true]
  rw [List.getElem_drop]
  congr 1
  simp only [show a + (k - a) = k by omega]
  rfl
theorem up_lo {c : UInt8} (h : Fld.letN c.toNat = true) (h2 : 97 ≤ c.toNat) : Fld.up c = UInt8.ofNat (c.toNat - 32) := by
  unfold Fld.letN Fld.upN Fld.loN at h
  simp only [Bool.or_eq_true, decide_eq_true_iff] at h
  unfold Fld.up Fld.loN
  rw [if_pos (by simp only [decide_eq_true_iff]; omega)]
theorem up_hi {c : UInt8} (h2 : ¬ 97 ≤ c.toNat) : Fld.up c = c := by
  unfold Fld.up Fld.loN
  rw [if_neg (by simp only [decide_eq_true_iff]; omega)]
/-- what the document's name returns -/
def NameRes (K : Fld.Kd) (xs : List ByteArray) (D : List UInt8) (a e0 n b : Nat) (ok : Bool) : Prop :=
  ((∀ j (h : j < xs.length), (xs[j].data.toList == D) = false) ∧ n = 0 ∧ b = a ∧ ok = false) ∨
  ∃ k : Nat, ∃ h : k < xs.length, (xs[k].data.toList == D) = true ∧ (∀ j (hj : j < k), (xs[j].data.toList == D) = false) ∧ n = K.lo + k ∧ b = e0 ∧ ok = true
theorem letN_bd {c : Nat} (h : Fld.letN c = true) : 65 ≤ c ∧ c ≤ 122 := by
  unfold Fld.letN Fld.upN Fld.loN at h
  simp only [Bool.or_eq_true, decide_eq_true_iff] at h
  omega
attribute [local go_sem] conv_oneR
set_option maxRecDepth 100000 in
set_option maxHeartbeats 4000000 in
theorem nameR_raw (K : Fld.Kd) (v : Value) (xs : List ByteArray) (s : ByteArray) (a e0 n b : Nat) (ok : Bool) (w : World) (hv : IsStrs w v xs) (hu : Upto Fld.letN s a e0) (hs : s.size ≤ 9223372036854775000) (hlo : K.lo ≤ 62) (hl : xs.length ≤ 70) (hr : NameRes K xs (upTo s a e0) a e0 n b ok) :
    Calls Tryz.prog 163 #[.agg #[.int .i64 K.lo, .int .i64 K.hi, v, .bool K.week], .string s, .int .i64 a] w fun e w' => e = .returned (.tuple #[.int .i64 n, .int .i64 b, .bool ok]) ∧ Below w.heap.size w w' := by
  have X := Lib.hid (KBox.new w K.lo K.hi v xs K.week 95 hv)
  obtain ⟨A, cap, rfl, _, _⟩ := hv
  have HU := Lib.hid hu
  have hle := hu.le
  have hfit := hu.fit
  have HR := Lib.hid hr
  obtain ⟨D, hD⟩ : ∃ D, upTo s a e0 = D := ⟨_, rfl⟩
  rw [hD] at HR
  have HD := Lib.hid hD
  clear hu hr hD
  go_enter Tryz.func163, Tryz.ntmps163
  go_wp2_with fail
  go_loopw [9, 10] (fun e t wr => ∃ (k : Nat) (T : ByteArray), a ≤ k ∧ k ≤ e0 ∧ e = .int .i64 k ∧ t = .string T ∧ T.size ≤ k ∧ Hid (T.data.toList = upTo s a k) ∧ Hid (KBox w wr w.heap.size K.lo K.hi (.slice A xs.length cap) xs K.week)) (fun e _ _ => e0 - (intOf e).toNat)
  case atStart => exact ⟨a, ⟨#[]⟩, Nat.le_refl _, hle, rfl, rfl, Nat.zero_le _, Lib.hid (by unfold upTo; rw [Nat.sub_self, List.take_zero]; rfl), X⟩
  case round =>
    obtain ⟨k, T, hk1, hk2, rfl, rfl, hT, HT, X⟩ := hrel
    by_cases hk : k < s.size
    · have t1 : decide ((k : Int) < (s.size : Int)) = true := by rw [decide_eq_true_iff]; omega
      have t1n : decide (k < s.size) = true := by rw [decide_eq_true_iff]; omega
      have i0 : (0 : Int) ≤ (k : Int) := by omega
      have i1 : (k : Int) < (s.size : Int) := by omega
      by_cases hlt : k < e0
      · have hlet := HU.out.yes k hk hk1 hlt
        have LT := Lib.hid (fun w => letterR_any s[k].toNat true hlet w)
        obtain ⟨b65, b122⟩ := letN_bd hlet
        have US := Lib.hid (upTo_succ s a k hk1 hk)
        by_cases h97 : 97 ≤ s[k].toNat
        · have g1 : decide ((97 : Int) ≤ (s[k].toNat : Int)) = true := by rw [decide_eq_true_iff]; omega
          have g1n : decide (97 ≤ s[k].toNat) = true := by rw [decide_eq_true_iff]; omega
          have UP := Lib.hid (up_lo hlet h97)
          have sz : (strOfNums [(s[k].toNat : Int) - 97 + 65]).size = 1 := rfl
          clear hlet
          go_wp2_with fail
          refine (LT.out _).mono ?_
          rintro e w1 ⟨rfl, rfl⟩
          go_wp2_with fail
          go_roundw
          case rel => exact ⟨k + 1, _, by omega, by omega, by go_num, rfl, by rw [ByteArray.size_append]; show T.size + 1 ≤ _; omega, Lib.hid (by rw [app_list, HT.out, US.out, UP.out, nums_oneR _ (s[k].toNat - 32) (by omega)]), Lib.hid (X.out.next ((Below.refl _ _).alloc (Nat.le_refl _) _))⟩
          case measure => simp [intOf]; omega
        · have g1 : decide ((97 : Int) ≤ (s[k].toNat : Int)) = false := by rw [decide_eq_false_iff_not]; omega
          have g1n : decide (97 ≤ s[k].toNat) = false := by rw [decide_eq_false_iff_not]; omega
          have UP := Lib.hid (up_hi h97)
          have sz : (strOfNums [(s[k].toNat : Int)]).size = 1 := rfl
          clear hlet
          go_wp2_with fail
          refine (LT.out _).mono ?_
          rintro e w1 ⟨rfl, rfl⟩
          go_wp2_with fail
          go_roundw
          case rel => exact ⟨k + 1, _, by omega, by omega, by go_num, rfl, by rw [ByteArray.size_append]; show T.size + 1 ≤ _; omega, Lib.hid (by rw [app_list, HT.out, US.out, UP.out, nums_oneR _ s[k].toNat rfl]; simp), Lib.hid (X.out.next ((Below.refl _ _).alloc (Nat.le_refl _) _))⟩
          case measure => simp [intOf]; omega
      · obtain rfl : k = e0 := by omega
        have LT := Lib.hid (fun w => letterR_any s[k].toNat false (HU.out.no hk) w)
        have HTD : Hid (T.data.toList = D) := Lib.hid (HT.out.trans HD.out)
        clear hlt
        go_wp2_with fail
        refine (LT.out _).mono ?_
        rintro e w1 ⟨rfl, rfl⟩
        clear HU
        go_wp2_with fail
        go_loopw [12] (fun i wr => ∃ m : Nat, m ≤ xs.length ∧ i = .int .i64 m ∧ Hid (∀ j (h : j < xs.length), j < m → (xs[j].data.toList == D) = false) ∧ Hid (KBox w wr w.heap.size K.lo K.hi (.slice A xs.length cap) xs K.week)) (fun i _ => xs.length - (intOf i).toNat)
        case atStart => exact ⟨0, Nat.zero_le _, rfl, Lib.hid (fun j _ h => by omega), X⟩
        case round =>
          obtain ⟨m, hm, rfl, hno, X⟩ := hrel
          have c0 := X.out.c0
          have c2 := X.out.c2
          by_cases hml : m < xs.length
          · have m1 : decide ((m : Int) < (xs.length : Int)) = true := by rw [decide_eq_true_iff]; omega
            have m1n : decide (m < xs.length) = true := by rw [decide_eq_true_iff]; omega
            have i0 : (0 : Int) ≤ (m : Int) := by omega
            have i1 : (m : Int) < (xs.length : Int) := by omega
            obtain ⟨b, o, e, _, g⟩ := X.out.strs.at_ m hml
            cases e
            cases hq : (xs[m].data.toList == D) with
            | true =>
              have HQ := Lib.hid hq
              have ne : (xs[m].toList == T.toList) = true := by rw [str_beq, HTD.out]; exact hq
              obtain ⟨x, hx⟩ : ∃ x, xs[m] = x := ⟨_, rfl⟩
              rw [hx] at g ne
              clear hq hx
              go_wp2_with fail
              go_ret3
              rcases HR.out with ⟨h, _⟩ | ⟨k', h1, h2, h3, rfl, rfl, rfl⟩
              · have := h m hml; rw [HQ.out] at this; cases this
              · have a1 : ¬ m < k' := fun q => by have := h3 m q; rw [HQ.out] at this; cases this
                have a2 : ¬ k' < m := fun q => by have := hno.out k' h1 q; rw [h2] at this; cases this
                obtain rfl : m = k' := by omega
                exact ⟨ret_iib (by omega) rfl rfl, X.out.below⟩
            | false =>
              have HQ := Lib.hid hq
              have ne : (xs[m].toList == T.toList) = false := by rw [str_beq, HTD.out]; exact hq
              obtain ⟨x, hx⟩ : ∃ x, xs[m] = x := ⟨_, rfl⟩
              rw [hx] at g ne
              clear hq hx
              go_wp2_with fail
              go_roundw
              case rel => exact ⟨m + 1, by omega, by go_num, Lib.hid (fun j hj hjm => by
                rcases Nat.lt_or_ge j m with q | q
                · exact hno.out j hj q
                · obtain rfl : j = m := by omega
                  exact HQ.out), X⟩
              case measure => simp [intOf]; omega
          · have m1 : decide ((m : Int) < (xs.length : Int)) = false := by rw [decide_eq_false_iff_not]; omega
            have m1n : decide (m < xs.length) = false := by rw [decide_eq_false_iff_not]; omega
            go_wp2_with fail
            go_ret3
            rcases HR.out with ⟨_, rfl, rfl, rfl⟩ | ⟨k', h1, h2, h3, rfl, rfl, rfl⟩
            · exact ⟨rfl, X.out.below⟩
            · have := hno.out k' h1 (by omega); rw [h2] at this; cases this
    · obtain rfl : k = e0 := by omega
      have t1 : decide ((k : Int) < (s.size : Int)) = false := by rw [decide_eq_false_iff_not]; omega
      have t1n : decide (k < s.size) = false := by rw [decide_eq_false_iff_not]; omega
      have HTD : Hid (T.data.toList = D) := Lib.hid (HT.out.trans HD.out)
      clear HU
      go_wp2_with fail
      go_loopw [12] (fun i wr => ∃ m : Nat, m ≤ xs.length ∧ i = .int .i64 m ∧ Hid (∀ j (h : j < xs.length), j < m → (xs[j].data.toList == D) = false) ∧ Hid (KBox w wr w.heap.size K.lo K.hi (.slice A xs.length cap) xs K.week)) (fun i _ => xs.length - (intOf i).toNat)
      case atStart => exact ⟨0, Nat.zero_le _, rfl, Lib.hid (fun j _ h => by omega), X⟩
      case round =>
        obtain ⟨m, hm, rfl, hno, X⟩ := hrel
        have c0 := X.out.c0
        have c2 := X.out.c2
        by_cases hml : m < xs.length
        · have m1 : decide ((m : Int) < (xs.length : Int)) = true := by rw [decide_eq_true_iff]; omega
          have m1n : decide (m < xs.length) = true := by rw [decide_eq_true_iff]; omega
          have i0 : (0 : Int) ≤ (m : Int) := by omega
          have i1 : (m : Int) < (xs.length : Int) := by omega
          obtain ⟨b, o, e, _, g⟩ := X.out.strs.at_ m hml
          cases e
          cases hq : (xs[m].data.toList == D) with
          | true =>
            have HQ := Lib.hid hq
            have ne : (xs[m].toList == T.toList) = true := by rw [str_beq, HTD.out]; exact hq
            obtain ⟨x, hx⟩ : ∃ x, xs[m] = x := ⟨_, rfl⟩
            rw [hx] at g ne
            clear hq hx
            go_wp2_with fail
            go_ret3
            rcases HR.out with ⟨h, _⟩ | ⟨k', h1, h2, h3, rfl, rfl, rfl⟩
            · have := h m hml; rw [HQ.out] at this; cases this
            · have a1 : ¬ m < k' := fun q => by have := h3 m q; rw [HQ.out] at this; cases this
              have a2 : ¬ k' < m := fun q => by have := hno.out k' h1 q; rw [h2] at this; cases this
              obtain rfl : m = k' := by omega
              exact ⟨ret_iib (by omega) rfl rfl, X.out.below⟩
          | false =>
            have HQ := Lib.hid hq
            have ne : (xs[m].toList == T.toList) = false := by rw [str_beq, HTD.out]; exact hq
            obtain ⟨x, hx⟩ : ∃ x, xs[m] = x := ⟨_, rfl⟩
            rw [hx] at g ne
            clear hq hx
            go_wp2_with fail
            go_roundw
            case rel => exact ⟨m + 1, by omega, by go_num, Lib.hid (fun j hj hjm => by
              rcases Nat.lt_or_ge j m with q | q
              · exact hno.out j hj q
              · obtain rfl : j = m := by omega
                exact HQ.out), X⟩
            case measure => simp [intOf]; omega
        · have m1 : decide ((m : Int) < (xs.length : Int)) = false := by rw [decide_eq_false_iff_not]; omega
          have m1n : decide (m < xs.length) = false := by rw [decide_eq_false_iff_not]; omega
          go_wp2_with fail
          go_ret3
          rcases HR.out with ⟨_, rfl, rfl, rfl⟩ | ⟨k', h1, h2, h3, rfl, rfl, rfl⟩
          · exact ⟨rfl, X.out.below⟩
          · have := hno.out k' h1 (by omega); rw [h2] at this; cases this

/-! value -/
/-- what reading a value from place a on says: the number, the place behind it, whether there is one -/
def ValRes (K : Fld.Kd) (s : ByteArray) (a n b : Nat) (ok : Bool) : Prop :=
  (Fld.value K (s.data.toList.drop a) = none ∧ n = 0 ∧ b = a ∧ ok = false) ∨ ∃ k, Fld.value K (s.data.toList.drop a) = some (n, k) ∧ b = a + k ∧ ok = true
def NumRes (s : ByteArray) (a n b : Nat) (ok : Bool) : Prop :=
  (Fld.num (s.data.toList.drop a) = none ∧ n = 0 ∧ b = a ∧ ok = false) ∨ ∃ k, Fld.num (s.data.toList.drop a) = some (n, k) ∧ b = a + k ∧ ok = true
theorem numberR_any (s : ByteArray) (a n b : Nat) (ok : Bool) (w : World) (ha : a ≤ s.size) (hs : s.size ≤ 9223372036854775000) (h : NumRes s a n b ok) :
    Calls Tryz.prog 147 #[.string s, .int .i64 a] w fun e w' => e = .returned (.tuple #[.int .i64 n, .int .i64 b, .bool ok]) ∧ w = w' := by
  rcases h with ⟨h, rfl, rfl, rfl⟩ | ⟨k, h, rfl, rfl⟩
  · exact numberR_none s b w ha hs h
  · exact numberR_some s a n k w ha hs h
theorem lets_head {s : ByteArray} {a : Nat} (hl : a < s.size) : Fld.lets (s.data.toList.drop a) = [] ↔ Fld.letN s[a].toNat = false := by
  rw [drop_cons s a hl]
  unfold Fld.lets
  rw [List.takeWhile_cons]
  show (if Fld.letN s[a].toNat = true then _ else _) = [] ↔ _
  cases Fld.letN s[a].toNat <;> simp
theorem nameRes_of {K : Fld.Kd} {xs : List ByteArray} {s : ByteArray} {a e0 n b : Nat} {ok : Bool} (hk : KdIs K.lo K.hi xs K.week K) (hu : Upto Fld.letN s a e0) (hl : Fld.lets (s.data.toList.drop a) ≠ []) (h : ValRes K s a n b ok) : NameRes K xs (upTo s a e0) a e0 n b ok := by
  have hD : upTo s a e0 = (s.extract a e0).data.toList.map Fld.up := by unfold upTo; rw [extract_list]
  have hle : Fld.lets (s.data.toList.drop a) = (s.extract a e0).data.toList := lets_upto hu
  have hsz : (Fld.lets (s.data.toList.drop a)).length = e0 - a := by
    rw [hle, ← Lib.size_eq]
    have := hu.fit
    simp; omega
  have hle2 := hu.le
  unfold ValRes Fld.value at h
  rw [if_neg hl, hk.nm] at h
  cases q : Fld.look (bytesL xs) (Fld.lets (s.data.toList.drop a)) with
  | none =>
    rw [q] at h
    rcases h with ⟨_, rfl, rfl, rfl⟩ | ⟨k, h, _⟩
    · rw [hle] at q
      rcases look_none q with ⟨_, h⟩ | ⟨k, h, _⟩
      · exact .inl ⟨fun j hj => by rw [hD]; exact h j hj, rfl, rfl, rfl⟩
      · exact absurd h (by omega)
    · cases h
  | some i =>
    rw [q] at h
    rcases h with ⟨h, _⟩ | ⟨k, h, rfl, rfl⟩
    · cases h
    · simp only [Option.map_some, Option.some.injEq, Prod.mk.injEq] at h
      obtain ⟨rfl, rfl⟩ := h
      rw [hle] at q
      obtain ⟨hi, lk⟩ := look_some q
      rcases lk with ⟨h, _⟩ | ⟨k', h, h1, h2, h3⟩
      · exact absurd h (by omega)
      · obtain rfl : i = k' := by omega
        exact .inr ⟨i, h1, by rw [hD]; exact h2, fun j hj => by rw [hD]; exact h3 j hj, rfl, by rw [hsz]; omega, rfl⟩
theorem kd_count {K : Fld.Kd} {xs : List ByteArray} (h : KdIs K.lo K.hi xs K.week K) : xs.length ≤ 63 := by
  have := h.ok.hi
  rcases h.ok.count with c | c
  · have : xs.length = 0 := by rw [← bytesL_len, ← h.nm, c]; rfl
    omega
  · rw [h.nm, bytesL_len] at c; omega
theorem valueR_any (K : Fld.Kd) (v : Value) (xs : List ByteArray) (s : ByteArray) (a n b : Nat) (ok : Bool) (w : World) (hv : IsStrs w v xs) (hk : KdIs K.lo K.hi xs K.week K) (ha : a ≤ s.size) (hs : s.size ≤ 9223372036854775000) (h : ValRes K s a n b ok) :
    Calls Tryz.prog 146 #[.agg #[.int .i64 K.lo, .int .i64 K.hi, v, .bool K.week], .string s, .int .i64 a] w fun e w' => e = .returned (.tuple #[.int .i64 n, .int .i64 b, .bool ok]) ∧ Below w.heap.size w w' := by
  have X := Lib.hid (KBox.new w K.lo K.hi v xs K.week 95 hv)
  have hlo : K.lo ≤ 62 := by have := hk.ok.le; have := hk.ok.hi; omega
  by_cases hl : a < s.size
  · have t1 : decide ((a : Int) < (s.size : Int)) = true := by rw [decide_eq_true_iff]; omega
    have t1n : decide (a < s.size) = true := by rw [decide_eq_true_iff]; omega
    have i0 : (0 : Int) ≤ (a : Int) := by omega
    have i1 : (a : Int) < (s.size : Int) := by omega
    cases hq : Fld.letN s[a].toNat with
    | true =>
      have hne : Fld.lets (s.data.toList.drop a) ≠ [] := fun q => by rw [(lets_head hl).1 q] at hq; cases hq
      obtain ⟨e0, hu⟩ := upto_ex Fld.letN s a ha
      have LT := Lib.hid (fun w => letterR_any s[a].toNat true hq w)
      have NM := Lib.hid (fun w hv => nameR_raw K v xs s a e0 n b ok w hv hu hs hlo (by have := kd_count hk; omega) (nameRes_of hk hu hne h))
      obtain ⟨A, cap, rfl, _, _⟩ := hv
      obtain ⟨_, _, _, c0, c1, c2, c3⟩ := X.out
      clear hne hu h hq
      go_enter Tryz.func146, Tryz.ntmps146
      go_wp2_with fail
      refine (LT.out _).mono ?_
      rintro e w1 ⟨rfl, rfl⟩
      go_wp2_with fail
      refine (NM.out _ X.out.strs).mono ?_
      rintro e w1 ⟨rfl, hb⟩
      have X := Lib.hid (X.out.next hb)
      clear hb c0 c1 c2 c3
      go_wp2_with fail
      go_ret3
      exact ⟨rfl, X.out.below⟩
    | false =>
      have he := (lets_head hl).2 hq
      have hn : NumRes s a n b ok := by
        unfold ValRes Fld.value at h
        rw [if_pos he] at h
        exact h
      have LT := Lib.hid (fun w => letterR_any s[a].toNat false hq w)
      have NU := Lib.hid (fun w => numberR_any s a n b ok w ha hs hn)
      obtain ⟨A, cap, rfl, _, _⟩ := hv
      clear he h hn hq
      go_enter Tryz.func146, Tryz.ntmps146
      go_wp2_with fail
      refine (LT.out _).mono ?_
      rintro e w1 ⟨rfl, rfl⟩
      go_wp2_with fail
      refine (NU.out _).mono ?_
      rintro e w1 ⟨rfl, rfl⟩
      go_wp2_with fail
      go_ret3
      exact ⟨rfl, X.out.below⟩
  · have t1 : decide ((a : Int) < (s.size : Int)) = false := by rw [decide_eq_false_iff_not]; omega
    have t1n : decide (a < s.size) = false := by rw [decide_eq_false_iff_not]; omega
    have hn : NumRes s a n b ok := by
      unfold ValRes Fld.value at h
      rw [if_pos (by rw [drop_end s a (by omega)]; rfl)] at h
      exact h
    have NU := Lib.hid (fun w => numberR_any s a n b ok w ha hs hn)
    obtain ⟨A, cap, rfl, _, _⟩ := hv
    clear h hn
    go_enter Tryz.func146, Tryz.ntmps146
    go_wp2_with fail
    refine (NU.out _).mono ?_
    rintro e w1 ⟨rfl, rfl⟩
    go_wp2_with fail
    go_ret3
    exact ⟨rfl, X.out.below⟩
end Go.Proofs.YtpnfifhanmpapaaGreatDoor
