/- Contracts of digit, ofName, all and Name of package lex, and of the document's Name. -/
import Derived.Test.YtjlipkklljjdjaaDoorLexD
namespace Go.Proofs.YtjlipkklljjdjaaDoor
open Go.ChangeShapes Go.RowKit Go.Shelf

def digB (c : Nat) : Bool := decide (48 ≤ c) && decide (c ≤ 57)
def nameB (c : Nat) : Bool := decide (97 ≤ c) && decide (c ≤ 122) || (decide (65 ≤ c) && decide (c ≤ 90) || (digB c || (decide (c = 45) || decide (c = 95))))
theorem digB_iff (c : Nat) : digB c = true ↔ 48 ≤ c ∧ c ≤ 57 := by simp [digB]
theorem nameB_iff (c : Nat) : nameB c = true ↔ (97 ≤ c ∧ c ≤ 122) ∨ (65 ≤ c ∧ c ≤ 90) ∨ (48 ≤ c ∧ c ≤ 57) ∨ c = 45 ∨ c = 95 := by simp [nameB, digB]
theorem le_facts (a c : Nat) (b : Bool) (h : decide (a ≤ c) = b) : decide ((a : Int) ≤ (c : Int)) = b := by rw [← h, decide_eq_decide]; omega
theorem ge_facts (a c : Nat) (b : Bool) (h : decide (c ≤ a) = b) : decide ((c : Int) ≤ (a : Int)) = b := by rw [← h, decide_eq_decide]; omega
theorem eq_facts (a c : Nat) (b : Bool) (h : decide (c = a) = b) : ((c : Int) == (a : Int)) = b := by
  rw [← h, Bool.eq_iff_iff, beq_iff_eq, decide_eq_true_iff]; omega

theorem digit_any (c : Nat) (b : Bool) (h : digB c = b) (w : World) :
    Calls Tryd.prog 71 #[.int .u8 c] w fun e w' => e = .returned (.bool b) ∧ w = w' := by
  unfold digB at h
  cases h1 : decide (48 ≤ c) with
  | false =>
    have g1 : decide ((48 : Int) ≤ (c : Int)) = _ := le_facts 48 c _ h1
    rw [h1, Bool.false_and] at h
    subst h
    go_enter Tryd.func71, Tryd.ntmps71
    go_wp2
    go_ret
    exact ⟨rfl, rfl⟩
  | true =>
    have g1 : decide ((48 : Int) ≤ (c : Int)) = _ := le_facts 48 c _ h1
    rw [h1, Bool.true_and] at h
    have g2 : decide ((c : Int) ≤ (57 : Int)) = _ := ge_facts 57 c _ h
    cases b
    all_goals
      go_enter Tryd.func71, Tryd.ntmps71
      go_wp2
      go_ret
      exact ⟨rfl, rfl⟩

set_option maxHeartbeats 1000000 in
theorem ofName_any (c : Nat) (b : Bool) (h : nameB c = b) (w : World) :
    Calls Tryd.prog 48 #[.int .u8 c] w fun e w' => e = .returned (.bool b) ∧ w = w' := by
  have D := Lib.hid (fun b h w => digit_any c b h w)
  unfold nameB at h
  cases h1 : decide (97 ≤ c) <;> cases h2 : decide (c ≤ 122) <;> cases h3 : decide (65 ≤ c) <;> cases h4 : decide (c ≤ 90) <;> cases h5 : digB c <;> cases h6 : decide (c = 45) <;> cases h7 : decide (c = 95) <;> first
    | (exfalso; simp [digB] at h1 h2 h3 h4 h5 h6 h7; omega)
    | (have g1 : decide ((97 : Int) ≤ (c : Int)) = _ := le_facts 97 c _ h1
       have g2 : decide ((c : Int) ≤ (122 : Int)) = _ := ge_facts 122 c _ h2
       have g3 : decide ((65 : Int) ≤ (c : Int)) = _ := le_facts 65 c _ h3
       have g4 : decide ((c : Int) ≤ (90 : Int)) = _ := ge_facts 90 c _ h4
       have g6 : ((c : Int) == (45 : Int)) = _ := eq_facts 45 c _ h6
       have g7 : ((c : Int) == (95 : Int)) = _ := eq_facts 95 c _ h7
       have H5 := Lib.hid h5
       rw [h1, h2, h3, h4, h5, h6, h7] at h
       clear h1 h2 h3 h4 h5 h6 h7
       cases b <;> first
         | (exfalso; revert h; decide)
         | (clear h
            go_enter Tryd.func48, Tryd.ntmps48
            go_wp2_with (go_at_call 71; refine (D.out _ H5.out _).mono ?_; rintro e w' ⟨rfl, rfl⟩)
            go_ret
            exact ⟨rfl, rfl⟩))

/-- all bytes of the text are of this kind -/
def AllB (p : Nat → Bool) (s : ByteArray) : Prop := ∀ k (h : k < s.size), p s[k].toNat = true
theorem allB_first (p : Nat → Bool) (s : ByteArray) : AllB p s ∨ ∃ k, ∃ h : k < s.size, p s[k].toNat = false ∧ ∀ j (hj : j < k), p (s[j]'(by omega)).toNat = true := by
  have key : ∀ n, n ≤ s.size → (∀ k (h : k < s.size), k < n → p s[k].toNat = true) ∨ ∃ k, ∃ h : k < s.size, p s[k].toNat = false ∧ ∀ j (hj : j < k), p (s[j]'(by omega)).toNat = true := by
    intro n
    induction n with
    | zero => exact fun _ => .inl fun k _ h => by omega
    | succ n ih =>
      intro hn
      rcases ih (by omega) with h | h
      · cases hp : p (s[n]'(by omega)).toNat with
        | true =>
          refine .inl fun k hk hkn => ?_
          rcases Nat.lt_or_ge k n with a | a
          · exact h k hk a
          · obtain rfl : k = n := by omega
            exact hp
        | false => exact .inr ⟨n, by omega, hp, fun j hj => h j (by omega) hj⟩
      · exact .inr h
  rcases key s.size (Nat.le_refl _) with h | h
  · exact .inl fun k hk => h k hk hk
  · exact .inr h
theorem all_digit_yes (s : ByteArray) (hs : s.size ≤ 9223372036854775807) (h : AllB digB s) (w : World) :
    Calls Tryd.prog 47 #[.string s, .func (.func 71) #[] #[]] w fun e w' => e = .returned (.bool true) ∧ w = w' := by
  have H := Lib.hid h
  clear h
  go_enter Tryd.func47, Tryd.ntmps47
  go_wp2_with fail
  go_loop [8] (fun i => ∃ k : Nat, k ≤ s.size ∧ i = .int .i64 k) (fun i => s.size - (intOf i).toNat)
  case atStart => exact ⟨0, Nat.zero_le _, rfl⟩
  case round =>
    obtain ⟨k, hk, rfl⟩ := hrel
    by_cases hlt : k < s.size
    · go_wp2_with fail
      refine (digit_any _ true (H.out k hlt) _).mono ?_
      rintro e w1 ⟨rfl, rfl⟩
      go_wp2_with fail
      go_round
      case rel => exact ⟨k + 1, by omega, by go_num⟩
      case measure => simp [intOf]; omega
    · go_wp2_with fail
      go_ret
      exact ⟨rfl, rfl⟩
theorem all_digit_no (s : ByteArray) (hs : s.size ≤ 9223372036854775807) (h : ¬ AllB digB s) (w : World) :
    Calls Tryd.prog 47 #[.string s, .func (.func 71) #[] #[]] w fun e w' => e = .returned (.bool false) ∧ w = w' := by
  obtain ⟨k0, hk0, hp0, hl0⟩ : ∃ k, ∃ h : k < s.size, digB s[k].toNat = false ∧ ∀ j (hj : j < k), digB (s[j]'(by omega)).toNat = true := (allB_first digB s).resolve_left h
  have HP := Lib.hid hp0
  have HL := Lib.hid hl0
  clear h hp0 hl0
  go_enter Tryd.func47, Tryd.ntmps47
  go_wp2_with fail
  go_loop [8] (fun i => ∃ k : Nat, k ≤ k0 ∧ i = .int .i64 k) (fun i => s.size - (intOf i).toNat)
  case atStart => exact ⟨0, Nat.zero_le _, rfl⟩
  case round =>
    obtain ⟨k, hk, rfl⟩ := hrel
    have hlt : k < s.size := by omega
    rcases Nat.lt_or_ge k k0 with a | a
    · go_wp2_with fail
      refine (digit_any _ true (HL.out k a) _).mono ?_
      rintro e w1 ⟨rfl, rfl⟩
      go_wp2_with fail
      go_round
      case rel => exact ⟨k + 1, by omega, by go_num⟩
      case measure => simp [intOf]; omega
    · obtain rfl : k = k0 := by omega
      go_wp2_with fail
      refine (digit_any _ false HP.out _).mono ?_
      rintro e w1 ⟨rfl, rfl⟩
      go_wp2_with fail
      go_ret
      exact ⟨rfl, rfl⟩
theorem all_ofName_yes (s : ByteArray) (hs : s.size ≤ 9223372036854775807) (h : AllB nameB s) (w : World) :
    Calls Tryd.prog 47 #[.string s, .func (.func 48) #[] #[]] w fun e w' => e = .returned (.bool true) ∧ w = w' := by
  have H := Lib.hid h
  clear h
  go_enter Tryd.func47, Tryd.ntmps47
  go_wp2_with fail
  go_loop [8] (fun i => ∃ k : Nat, k ≤ s.size ∧ i = .int .i64 k) (fun i => s.size - (intOf i).toNat)
  case atStart => exact ⟨0, Nat.zero_le _, rfl⟩
  case round =>
    obtain ⟨k, hk, rfl⟩ := hrel
    by_cases hlt : k < s.size
    · go_wp2_with fail
      refine (ofName_any _ true (H.out k hlt) _).mono ?_
      rintro e w1 ⟨rfl, rfl⟩
      go_wp2_with fail
      go_round
      case rel => exact ⟨k + 1, by omega, by go_num⟩
      case measure => simp [intOf]; omega
    · go_wp2_with fail
      go_ret
      exact ⟨rfl, rfl⟩
theorem all_ofName_no (s : ByteArray) (hs : s.size ≤ 9223372036854775807) (h : ¬ AllB nameB s) (w : World) :
    Calls Tryd.prog 47 #[.string s, .func (.func 48) #[] #[]] w fun e w' => e = .returned (.bool false) ∧ w = w' := by
  obtain ⟨k0, hk0, hp0, hl0⟩ : ∃ k, ∃ h : k < s.size, nameB s[k].toNat = false ∧ ∀ j (hj : j < k), nameB (s[j]'(by omega)).toNat = true := (allB_first nameB s).resolve_left h
  have HP := Lib.hid hp0
  have HL := Lib.hid hl0
  clear h hp0 hl0
  go_enter Tryd.func47, Tryd.ntmps47
  go_wp2_with fail
  go_loop [8] (fun i => ∃ k : Nat, k ≤ k0 ∧ i = .int .i64 k) (fun i => s.size - (intOf i).toNat)
  case atStart => exact ⟨0, Nat.zero_le _, rfl⟩
  case round =>
    obtain ⟨k, hk, rfl⟩ := hrel
    have hlt : k < s.size := by omega
    rcases Nat.lt_or_ge k k0 with a | a
    · go_wp2_with fail
      refine (ofName_any _ true (HL.out k a) _).mono ?_
      rintro e w1 ⟨rfl, rfl⟩
      go_wp2_with fail
      go_round
      case rel => exact ⟨k + 1, by omega, by go_num⟩
      case measure => simp [intOf]; omega
    · obtain rfl : k = k0 := by omega
      go_wp2_with fail
      refine (ofName_any _ false HP.out _).mono ?_
      rintro e w1 ⟨rfl, rfl⟩
      go_wp2_with fail
      go_ret
      exact ⟨rfl, rfl⟩
/-- is the text a name? -/
def IsName (s : ByteArray) (b : Bool) : Prop := (b = true ∧ 1 ≤ s.size ∧ s.size ≤ 24 ∧ AllB nameB s) ∨ (b = false ∧ ¬ (1 ≤ s.size ∧ s.size ≤ 24 ∧ AllB nameB s))
theorem isName_ex (s : ByteArray) : ∃ b, IsName s b := by
  by_cases h : 1 ≤ s.size ∧ s.size ≤ 24 ∧ AllB nameB s
  · exact ⟨true, .inl ⟨rfl, h⟩⟩
  · exact ⟨false, .inr ⟨rfl, h⟩⟩
theorem IsName.yes {s : ByteArray} {b : Bool} (h : IsName s b) (q : 1 ≤ s.size ∧ s.size ≤ 24 ∧ AllB nameB s) : b = true := by
  rcases h with ⟨h, _⟩ | ⟨_, h⟩
  · exact h
  · exact (h q).elim
theorem IsName.no {s : ByteArray} {b : Bool} (h : IsName s b) (q : ¬ (1 ≤ s.size ∧ s.size ≤ 24 ∧ AllB nameB s)) : b = false := by
  rcases h with ⟨_, h⟩ | ⟨h, _⟩
  · exact (q h).elim
  · exact h
theorem str_len (s : ByteArray) : s.toList.length = s.size := by rw [ByteArray.toList_eq]; exact Array.length_toList
theorem str_empty {s : ByteArray} (h : s.size = 0) : s.toList = [] := List.length_eq_zero_iff.1 (by rw [str_len]; exact h)
theorem str_some {s : ByteArray} (h : 1 ≤ s.size) : s.toList.isEmpty = false := by
  have := str_len s
  cases e : s.toList with
  | nil => rw [e] at this; simp at this; omega
  | cons a r => rfl
theorem name_any (s : ByteArray) (b : Bool) (h : IsName s b) (w : World) :
    Calls Tryd.prog 26 #[.string s] w fun e w' => e = .returned (.bool b) ∧ w = w' := by
  by_cases h0 : s.size = 0
  · have e0 := str_empty h0
    have e1 : s.toList.isEmpty = true := by rw [e0]; rfl
    obtain rfl : b = false := h.no (by omega)
    clear h h0
    go_enter Tryd.func26, Tryd.ntmps26
    go_wp2_with fail
    go_ret
    exact ⟨rfl, rfl⟩
  · have e1 := str_some (show 1 ≤ s.size by omega)
    have e0 : ¬ s.toList = [] := fun e => by rw [e] at e1; cases e1
    by_cases h2 : s.size ≤ 24
    · have A := Lib.hid (all_ofName_yes s (by omega))
      have B := Lib.hid (all_ofName_no s (by omega))
      have t1 : decide ((s.size : Int) ≤ 24) = true := by simp; omega
      by_cases h3 : AllB nameB s
      · obtain rfl : b = true := h.yes ⟨by omega, h2, h3⟩
        have H3 := Lib.hid h3
        clear h h0 h3
        go_enter Tryd.func26, Tryd.ntmps26
        go_wp2_with (go_at_call 47; refine (A.out H3.out _).mono ?_; rintro e w' ⟨rfl, rfl⟩)
        go_ret
        exact ⟨rfl, rfl⟩
      · obtain rfl : b = false := h.no fun q => h3 q.2.2
        have H3 := Lib.hid h3
        clear h h0 h3
        go_enter Tryd.func26, Tryd.ntmps26
        go_wp2_with (go_at_call 47; refine (B.out H3.out _).mono ?_; rintro e w' ⟨rfl, rfl⟩)
        go_ret
        exact ⟨rfl, rfl⟩
    · have t1 : decide ((s.size : Int) ≤ 24) = false := by simp; omega
      obtain rfl : b = false := h.no (by omega)
      clear h h0
      go_enter Tryd.func26, Tryd.ntmps26
      go_wp2_with fail
      go_ret
      exact ⟨rfl, rfl⟩

set_option maxHeartbeats 2000000 in
theorem rname_any (s : ByteArray) (b : Bool) (h : IsName s b) (w : World) :
    Calls Tryd.prog 27 #[.string s] w fun e w' => e = .returned (.bool b) ∧ w = w' := by
  have H := Lib.hid h
  clear h
  by_cases h0 : s.size = 0
  · have t0 : decide ((s.size : Int) < 1) = true := by simp; omega
    obtain rfl : b = false := H.out.no (by omega)
    clear h0
    go_enter Tryd.func27, Tryd.ntmps27
    go_wp2_with fail
    go_ret
    exact ⟨rfl, rfl⟩
  · have t0 : decide ((s.size : Int) < 1) = false := by simp; omega
    by_cases h2 : s.size ≤ 24
    · have t1 : decide ((24 : Int) < (s.size : Int)) = false := by simp; omega
      go_enter Tryd.func27, Tryd.ntmps27
      go_wp2_with fail
      go_loop [3] (fun i => ∃ k : Nat, k ≤ s.size ∧ i = .int .i64 k ∧ Hid (∀ j (hj : j < s.size), j < k → nameB s[j].toNat = true)) (fun i => s.size - (intOf i).toNat)
      case atStart => exact ⟨0, Nat.zero_le _, rfl, Lib.hid fun j _ h => by omega⟩
      case round =>
        obtain ⟨k, hk, rfl, hall⟩ := hrel
        by_cases hlt : k < s.size
        · obtain ⟨c, hc⟩ : ∃ c, s[k].toNat = c := ⟨_, rfl⟩
          have HN := Lib.hid (show ∀ b, nameB c = b → nameB s[k].toNat = b by rw [hc]; exact fun _ h => h)
          have HC : ∀ P : Nat → Prop, P c → P s[k].toNat := fun P h => by rw [hc]; exact h
          cases h1 : decide (97 ≤ c) <;> cases h2 : decide (c ≤ 122) <;> cases h3 : decide (65 ≤ c) <;> cases h4 : decide (c ≤ 90) <;> cases h5 : decide (48 ≤ c) <;> cases h5' : decide (c ≤ 57) <;> cases h6 : decide (c = 45) <;> cases h7 : decide (c = 95) <;> first
            | (exfalso; simp at h1 h2 h3 h4 h5 h5' h6 h7; omega)
            | (have g1 : decide ((97 : Int) ≤ (s[k].toNat : Int)) = _ := HC (fun c => decide ((97 : Int) ≤ (c : Int)) = _) (le_facts 97 c _ h1)
               have g2 : decide ((s[k].toNat : Int) ≤ (122 : Int)) = _ := HC (fun c => decide ((c : Int) ≤ (122 : Int)) = _) (ge_facts 122 c _ h2)
               have g3 : decide ((65 : Int) ≤ (s[k].toNat : Int)) = _ := HC (fun c => decide ((65 : Int) ≤ (c : Int)) = _) (le_facts 65 c _ h3)
               have g4 : decide ((s[k].toNat : Int) ≤ (90 : Int)) = _ := HC (fun c => decide ((c : Int) ≤ (90 : Int)) = _) (ge_facts 90 c _ h4)
               have g5 : decide ((48 : Int) ≤ (s[k].toNat : Int)) = _ := HC (fun c => decide ((48 : Int) ≤ (c : Int)) = _) (le_facts 48 c _ h5)
               have g5' : decide ((s[k].toNat : Int) ≤ (57 : Int)) = _ := HC (fun c => decide ((c : Int) ≤ (57 : Int)) = _) (ge_facts 57 c _ h5')
               have g6 : ((s[k].toNat : Int) == (45 : Int)) = _ := HC (fun c => ((c : Int) == (45 : Int)) = _) (eq_facts 45 c _ h6)
               have g7 : ((s[k].toNat : Int) == (95 : Int)) = _ := HC (fun c => ((c : Int) == (95 : Int)) = _) (eq_facts 95 c _ h7)
               have HB := Lib.hid (HN.out _ (show nameB c = _ by unfold nameB digB; rw [h1, h2, h3, h4, h5, h5', h6, h7]))
               clear h1 h2 h3 h4 h5 h5' h6 h7 HC hc
               go_wp2_with fail
               first
                 | (go_ret
                    refine ⟨?_, rfl⟩
                    rw [H.out.no (fun q => by have h1 := q.2.2 k hlt; have h2 := HB.out; rw [h2] at h1; revert h1; decide)]
                    rfl)
                 | (go_round
                    case rel => exact ⟨k + 1, by omega, by go_num, Lib.hid fun j hj hjk => by
                      rcases Nat.lt_or_ge j k with a | a
                      · exact hall.out j hj a
                      · obtain rfl : j = k := by omega
                        exact HB.out.trans (by decide)⟩
                    case measure => simp [intOf]; omega))
        · obtain rfl : b = true := H.out.yes ⟨by omega, h2, fun j hj => hall.out j hj (by omega)⟩
          go_wp2_with fail
          go_ret
          exact ⟨rfl, rfl⟩
    · have t1 : decide ((24 : Int) < (s.size : Int)) = true := by simp; omega
      obtain rfl : b = false := H.out.no (by omega)
      clear h0
      go_enter Tryd.func27, Tryd.ntmps27
      go_wp2_with fail
      go_ret
      exact ⟨rfl, rfl⟩
end Go.Proofs.YtjlipkklljjdjaaDoor
