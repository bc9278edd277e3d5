/- Contracts of Place, of package lex and of the document. -/
import Derived.Test.YtjlipkklljjdjaaDoorLexH
namespace Go.Proofs.YtjlipkklljjdjaaDoor
open Go.ChangeShapes Go.RowKit Go.Shelf

/-- where the last line feed before k stands, and one more; 0 if there is none -/
def lastB (b : Nat → Bool) : Nat → Nat
  | 0 => 0
  | k + 1 => if b k then k + 1 else lastB b k
theorem lastB_yes {b : Nat → Bool} {k : Nat} (h : b k = true) : lastB b (k + 1) = k + 1 := by simp [lastB, h]
theorem lastB_no {b : Nat → Bool} {k : Nat} (h : b k = false) : lastB b (k + 1) = lastB b k := by simp [lastB, h]
theorem lastB_le (b : Nat → Bool) (k : Nat) : lastB b k ≤ k := by
  induction k with
  | zero => exact Nat.le_refl _
  | succ k ih => simp only [lastB]; split <;> omega
theorem lastB_spec (b : Nat → Bool) (k : Nat) : (lastB b k = 0 ∧ ∀ j, j < k → b j = false) ∨ (∃ i, i < k ∧ lastB b k = i + 1 ∧ b i = true ∧ ∀ j, i < j → j < k → b j = false) := by
  induction k with
  | zero => exact .inl ⟨rfl, fun j h => by omega⟩
  | succ k ih =>
    cases hb : b k with
    | true => exact .inr ⟨k, by omega, lastB_yes hb, hb, fun j a c => by omega⟩
    | false =>
      rw [lastB_no hb]
      rcases ih with ⟨h1, h2⟩ | ⟨i, h1, h2, h3, h4⟩
      · refine .inl ⟨h1, fun j hj => ?_⟩
        rcases Nat.lt_or_ge j k with a | a
        · exact h2 j a
        · obtain rfl : j = k := by omega
          exact hb
      · refine .inr ⟨i, by omega, h2, h3, fun j a hj => ?_⟩
        rcases Nat.lt_or_ge j k with c | c
        · exact h4 j a c
        · obtain rfl : j = k := by omega
          exact hb
theorem cnt_list (l : List UInt8) (c : UInt8) (b : Nat → Bool) (hb : ∀ k (h : k < l.length), b k = (l[k] == c)) (k : Nat) (hk : k ≤ l.length) : (l.take k).count c = Lex.cnt b k := by
  induction k with
  | zero => rfl
  | succ k ih =>
    have h : k < l.length := by omega
    rw [List.take_succ_eq_append_getElem h, List.count_append, ih (by omega)]
    have e := hb k h
    by_cases q : b k = true
    · rw [Lex.cnt_yes q]
      rw [e] at q
      simp [List.count_cons, q]
    · have q : b k = false := by simpa using q
      rw [Lex.cnt_no q]
      rw [e] at q
      simp [List.count_cons, q]
theorem byte_nl (c : UInt8) : nlB c.toNat = (c == 10) := by
  unfold nlB
  rw [Bool.eq_iff_iff, beq_iff_eq, beq_iff_eq]
  constructor
  · intro h; exact UInt8.toNat_inj.1 h
  · rintro rfl; rfl
theorem sep_list (s : ByteArray) (k : Nat) (h : k < s.data.toList.length) : sepAt nlB s k = (s.data.toList[k] == 10) := by
  have h' : k < s.size := by rw [Lib.size_eq]; exact h
  have e := Lib.data_getElem? s k h'
  rw [List.getElem?_eq_getElem h] at e
  rw [sepAt_in _ _ _ h', byte_nl, Option.some.inj e]
theorem ext_take (s : ByteArray) (k : Nat) : (s.extract 0 k).data.toList = s.data.toList.take k := by
  rw [Lib.extract_data]
  simp
theorem count_nl (s : ByteArray) (k : Nat) (h : k ≤ s.size) : Lib.countByte (s.extract 0 k).data.toList 10 = Lex.cnt (sepAt nlB s) k := by
  unfold Lib.countByte
  rw [ext_take]
  exact cnt_list _ _ _ (sep_list s) k (by rw [← Lib.size_eq]; exact h)
theorem at_bang (s : ByteArray) (k i : Nat) (h : k ≤ s.size) (hi : i < k) : (((s.extract 0 k).data[i]!).toNat : Int) = 10 ↔ sepAt nlB s i = true := by
  have hz : (s.extract 0 k).size = k := by simp; omega
  have h1 : i < (s.extract 0 k).size := by omega
  have h3 : i < s.size := by omega
  have e1 : (s.extract 0 k).data[i]! = s[i] := by
    have a : (s.extract 0 k).data.toList[i]? = some s[i] := by
      rw [ext_take, List.getElem?_take_of_lt hi, Lib.data_getElem? s i h3]
    rw [Array.getElem?_toList] at a
    rw [getElem!_def, a]
  rw [e1, sepAt_in _ _ _ h3]
  unfold nlB
  rw [beq_iff_eq]
  omega
theorem last_nl (s : ByteArray) (k : Nat) (h : k ≤ s.size) : (k : Int) - Lib.lastIndexByte (s.extract 0 k) 10 = ((k - lastB (sepAt nlB s) k + 1 : Nat) : Int) := by
  have hz : (s.extract 0 k).size = k := by simp; omega
  have le := lastB_le (sepAt nlB s) k
  rcases Lib.lastIndexByte_spec (s.extract 0 k) 10 with ⟨h1, h2⟩ | ⟨i, hi, h1, h2, h3⟩
  · rw [hz] at h2
    rcases lastB_spec (sepAt nlB s) k with ⟨a, _⟩ | ⟨j, a, b, c, d⟩
    · rw [h1, a]; omega
    · exact (h2 j a ((at_bang s k j h a).2 c)).elim
  · rw [hz] at hi h3
    have hi' := (at_bang s k i h hi).1 h2
    rcases lastB_spec (sepAt nlB s) k with ⟨a, b⟩ | ⟨j, a, b, c, d⟩
    · rw [b i hi] at hi'; cases hi'
    · rcases Nat.lt_trichotomy i j with q | q | q
      · exact (h3 j q a ((at_bang s k j h a).2 c)).elim
      · rw [h1, b, q]; omega
      · rw [d i q hi] at hi'; cases hi'
/-- the line and the column of a place, and the error -/
def PlaceIs (s : ByteArray) (at_ line col e : Int) : Prop :=
  (∃ k : Nat, at_ = k ∧ k ≤ s.size ∧ line = ((Lex.cnt (sepAt nlB s) k + 1 : Nat) : Int) ∧ col = ((k - lastB (sepAt nlB s) k + 1 : Nat) : Int) ∧ e = 0) ∨
  ((at_ < 0 ∨ (s.size : Int) < at_) ∧ line = 0 ∧ col = 0 ∧ e = 3)
theorem placeIs_ex (s : ByteArray) (a : Int) : ∃ l c e, PlaceIs s a l c e := by
  by_cases h : a < 0 ∨ (s.size : Int) < a
  · exact ⟨_, _, _, .inr ⟨h, rfl, rfl, rfl⟩⟩
  · exact ⟨_, _, _, .inl ⟨a.toNat, by omega, by omega, rfl, rfl, rfl⟩⟩
theorem ret_three {a b c a' b' c' : Int} (h1 : a = a') (h2 : b = b') (h3 : c = c') : Ending.returned (.tuple #[.int .i64 a, .int .i64 b, .int .i64 c]) = .returned (.tuple #[.int .i64 a', .int .i64 b', .int .i64 c']) := by rw [h1, h2, h3]
theorem place_any (s : ByteArray) (hs : s.size ≤ 65536) (a l c e : Int) (h : PlaceIs s a l c e) (w : World) :
    Calls Tryd.prog 30 #[.string s, .int .i64 a] w fun r w' => r = .returned (.tuple #[.int .i64 l, .int .i64 c, .int .i64 e]) ∧ w = w' := by
  rcases h with ⟨k, rfl, hk, rfl, rfl, rfl⟩ | ⟨h, rfl, rfl, rfl⟩
  · obtain ⟨B, hB⟩ : ∃ B, s.extract 0 k = B := ⟨_, rfl⟩
    have hz : B.size = k := by rw [← hB]; simp; omega
    have C := fun w => Tryd.strings_Count_one B 10 w
    have hc := count_nl s k hk
    have hl := last_nl s k hk
    have cl := Lex.cnt_le (sepAt nlB s) k
    have ll := lastB_le (sepAt nlB s) k
    rw [hB] at hc hl
    rw [hc] at C
    have L := fun w => Tryd.strings_LastIndexByte B 10 (by omega) w
    generalize Lex.cnt (sepAt nlB s) k = N at *
    generalize lastB (sepAt nlB s) k = M at *
    generalize Lib.lastIndexByte B 10 = x at *
    have C := Lib.hid C
    have L := Lib.hid L
    have HL := Lib.hid hl
    have x0 : -1 ≤ x := by omega
    have x1 : x ≤ (k : Int) := by omega
    clear hl hc
    have HZ := Lib.hid hz
    clear hz
    have t1 : decide ((k : Int) < 0) = false := by rw [decide_eq_false_iff_not]; omega
    have t2 : decide ((s.size : Int) < (k : Int)) = false := by rw [decide_eq_false_iff_not]; omega
    go_enter Tryd.func30, Tryd.ntmps30
    go_wp2_with fail
    refine (C.out _).mono ?_
    rintro e w1 ⟨rfl, rfl⟩
    go_wp2_with fail
    refine (L.out _).mono ?_
    rintro e w1 ⟨rfl, rfl⟩
    go_wp2_with fail
    go_ret3
    exact ⟨ret_three (by simp; omega) HL.out rfl, rfl⟩
  · by_cases h0 : a < 0
    · have t1 : decide (a < 0) = true := by rw [decide_eq_true_iff]; exact h0
      clear h
      go_enter Tryd.func30, Tryd.ntmps30
      go_wp2_with fail
      go_ret3
      exact ⟨rfl, rfl⟩
    · have t1 : decide (a < 0) = false := by rw [decide_eq_false_iff_not]; exact h0
      have t2 : decide ((s.size : Int) < a) = true := by rw [decide_eq_true_iff]; omega
      clear h
      go_enter Tryd.func30, Tryd.ntmps30
      go_wp2_with fail
      go_ret3
      exact ⟨rfl, rfl⟩
theorem rplace_any (s : ByteArray) (hs : s.size ≤ 65536) (a l c e : Int) (h : PlaceIs s a l c e) (w : World) :
    Calls Tryd.prog 31 #[.string s, .int .i64 a] w fun r w' => r = .returned (.tuple #[.int .i64 l, .int .i64 c, .int .i64 e]) ∧ w = w' := by
  rcases h with ⟨k0, rfl, hk0, rfl, rfl, rfl⟩ | ⟨h, rfl, rfl, rfl⟩
  · have t1 : decide ((k0 : Int) < 0) = false := by rw [decide_eq_false_iff_not]; omega
    have t2 : decide ((s.size : Int) < (k0 : Int)) = false := by rw [decide_eq_false_iff_not]; omega
    go_enter Tryd.func31, Tryd.ntmps31
    go_wp2_with fail
    go_loop [7, 8, 9] (fun l c i => ∃ k : Nat, k ≤ k0 ∧ i = .int .i64 k ∧ ∃ n m : Nat, n ≤ k + 1 ∧ m ≤ k + 1 ∧ l = .int .i64 n ∧ c = .int .i64 m ∧ Hid (Lex.cnt (sepAt nlB s) k + 1 = n) ∧ Hid (k - lastB (sepAt nlB s) k + 1 = m)) (fun _ _ i => k0 - (intOf i).toNat)
    case atStart => exact ⟨0, Nat.zero_le _, rfl, 1, 1, by omega, by omega, rfl, rfl, Lib.hid rfl, Lib.hid rfl⟩
    case round =>
      obtain ⟨k, hk, rfl, n, m, hn, hm, rfl, rfl, h1, h2⟩ := hrel
      by_cases hlt : k < k0
      · have hls : k < s.size := by omega
        have le := lastB_le (sepAt nlB s) k
        cases hp : nlB s[k].toNat with
        | false =>
          have hp' := nl_eq _ _ hp
          have hq : sepAt nlB s k = false := by rw [sepAt_in _ _ _ hls]; exact hp
          have H1 := Lib.hid (Lex.cnt_no hq)
          have H2 := Lib.hid (lastB_no hq)
          clear hp hq
          go_wp2_with fail
          go_round
          case rel => exact ⟨k + 1, by omega, by go_num, n, m + 1, by omega, by omega, rfl, by go_num, Lib.hid (by rw [H1.out, h1.out]), Lib.hid (by rw [H2.out, ← h2.out]; omega)⟩
          case measure => simp [intOf]; omega
        | true =>
          have hp' := nl_eq _ _ hp
          have hq : sepAt nlB s k = true := by rw [sepAt_in _ _ _ hls]; exact hp
          have H1 := Lib.hid (Lex.cnt_yes hq)
          have H2 := Lib.hid (lastB_yes hq)
          clear hp hq
          go_wp2_with fail
          go_round
          case rel => exact ⟨k + 1, by omega, by go_num, n + 1, 1, by omega, by omega, by go_num, rfl, Lib.hid (by rw [H1.out, h1.out]), Lib.hid (by rw [H2.out]; omega)⟩
          case measure => simp [intOf]; omega
      · obtain rfl : k = k0 := by omega
        go_wp2_with fail
        go_ret3
        exact ⟨ret_three (by have := h1.out; omega) (by have := h2.out; omega) rfl, rfl⟩
  · by_cases h0 : a < 0
    · have t1 : decide (a < 0) = true := by rw [decide_eq_true_iff]; exact h0
      clear h
      go_enter Tryd.func31, Tryd.ntmps31
      go_wp2_with fail
      go_ret3
      exact ⟨rfl, rfl⟩
    · have t1 : decide (a < 0) = false := by rw [decide_eq_false_iff_not]; exact h0
      have t2 : decide ((s.size : Int) < a) = true := by rw [decide_eq_true_iff]; omega
      clear h
      go_enter Tryd.func31, Tryd.ntmps31
      go_wp2_with fail
      go_ret3
      exact ⟨rfl, rfl⟩
end Go.Proofs.YtjlipkklljjdjaaDoor
