/- Contracts of Next, Prev and Turn, of package bits and of the document's: which number each returns, or that there is none; the world stays. -/
import Derived.Test.YteabmnaepmkkaaaDoorBitB
namespace Go.Proofs.YteabmnaepmkkaaaDoor
open Go.ChangeShapes Go.RowKit

theorem ret_2 {a a' : Int} {b b' : Bool} (h : a = a') (h' : b = b') : Ending.returned (.tuple #[.int .i64 a, .bool b]) = .returned (.tuple #[.int .i64 a', .bool b']) := by rw [h, h']
theorem ret_3 {a a' n n' : Int} {b b' : Bool} (h : a = a') (hn : n = n') (h' : b = b') : Ending.returned (.tuple #[.int .i64 a, .int .i64 n, .bool b]) = .returned (.tuple #[.int .i64 a', .int .i64 n', .bool b']) := by rw [h, hn, h']

/-- what Next returns, and what Prev -/
def IsNext (S : Nat) (v : Int) (a : Int) (b : Bool) : Prop := (NoNxt S v ∧ a = 0 ∧ b = false) ∨ ∃ r : Nat, Nxt S v r ∧ a = r ∧ b = true
def IsPrev (S : Nat) (v : Int) (a : Int) (b : Bool) : Prop := (NoPrv S v ∧ a = 0 ∧ b = false) ∨ ∃ r : Nat, Prv S v r ∧ a = r ∧ b = true
theorem isNext_ex {S : Nat} (v : Int) (hS : S < 2 ^ 64) : ∃ a b, IsNext S v a b := by
  rcases nxt_ex v hS with h | ⟨r, h⟩
  · exact ⟨_, _, .inl ⟨h, rfl, rfl⟩⟩
  · exact ⟨_, _, .inr ⟨r, h, rfl, rfl⟩⟩
theorem isPrev_ex {S : Nat} (v : Int) (hS : S < 2 ^ 64) : ∃ a b, IsPrev S v a b := by
  rcases prv_ex v hS with h | ⟨r, h⟩
  · exact ⟨_, _, .inl ⟨h, rfl, rfl⟩⟩
  · exact ⟨_, _, .inr ⟨r, h, rfl, rfl⟩⟩
theorem next_any (S : Nat) (v a : Int) (b : Bool) (w : World) (L : Lay w) (hS : S < 2 ^ 64) (v1 : v ≤ 9223372036854775807) (h : IsNext S v a b) :
    Calls Tryd.prog 17 #[.int .u64 S, .int .i64 v] w fun e w' => e = .returned (.tuple #[.int .i64 a, .bool b]) ∧ w = w' := by
  rcases h with ⟨h, rfl, rfl⟩ | ⟨r, h, rfl, rfl⟩
  · exact next_no S v w hS v1 h
  · exact next_yes S v r w L hS v1 h
theorem prev_yes (S : Nat) (v : Int) (r : Nat) (w : World) (hS : S < 2 ^ 64) (v0 : -9223372036854775808 ≤ v) (v1 : v ≤ 9223372036854775807) (h : Prv S v r) :
    Calls Tryd.prog 19 #[.int .u64 S, .int .i64 v] w fun e w' => e = .returned (.tuple #[.int .i64 r, .bool true]) ∧ w = w' := by
  have hu : ∀ j : Nat, j < 64 → ((j : Int) < min v 64 + 1 ↔ (j : Int) ≤ v) := fun j hj => by omega
  have B := Lib.hid (fun w => below_any (min v 64 + 1) w (by omega))
  have a : bits .and .u64 (S : Int) (low (min v 64 + 1) : Nat) = (upto S (min v 64 + 1) : Nat) := u64_and_nat S (low _) hS (low_lt _)
  have Z := Lib.hid (fun w => len_any (upto S (min v 64 + 1)) r w (upto_lt hS _) (h.most hS hu))
  have ne : (((upto S (min v 64 + 1) : Nat) : Int) == 0) = false := by
    have := h.ne hS hu
    rw [beq_eq_false_iff_ne]; omega
  obtain ⟨T, hT⟩ : ∃ T, upto S (min v 64 + 1) = T := ⟨_, rfl⟩
  obtain ⟨M, hM⟩ : ∃ M, low (min v 64 + 1) = M := ⟨_, rfl⟩
  rw [hT] at a Z ne
  rw [hM] at a B
  have r64 := prv_lt hS h
  clear hT hM h hu
  go_enter Tryd.func19, Tryd.ntmps19
  go_wp2_with fail
  all_goals
    refine (B.out _).mono ?_
    rintro e w1 ⟨rfl, rfl⟩
    go_wp2_with fail
    refine (Z.out _).mono ?_
    rintro e w1 ⟨rfl, rfl⟩
    go_wp2_with fail
    go_ret2
    exact ⟨by simp, rfl⟩
theorem prev_no (S : Nat) (v : Int) (w : World) (hS : S < 2 ^ 64) (v0 : -9223372036854775808 ≤ v) (v1 : v ≤ 9223372036854775807) (h : NoPrv S v) :
    Calls Tryd.prog 19 #[.int .u64 S, .int .i64 v] w fun e w' => e = .returned (.tuple #[.int .i64 0, .bool false]) ∧ w = w' := by
  have hu : ∀ j : Nat, j < 64 → ((j : Int) < min v 64 + 1 ↔ (j : Int) ≤ v) := fun j hj => by omega
  have B := Lib.hid (fun w => below_any (min v 64 + 1) w (by omega))
  have a : bits .and .u64 (S : Int) (low (min v 64 + 1) : Nat) = 0 := by
    rw [u64_and_nat S (low _) hS (low_lt _)]
    exact congrArg Int.ofNat (h.zero hS hu)
  obtain ⟨M, hM⟩ : ∃ M, low (min v 64 + 1) = M := ⟨_, rfl⟩
  rw [hM] at a B
  clear hM h hu
  go_enter Tryd.func19, Tryd.ntmps19
  go_wp2_with fail
  all_goals
    refine (B.out _).mono ?_
    rintro e w1 ⟨rfl, rfl⟩
    go_wp2_with fail
    go_ret2
    exact ⟨rfl, rfl⟩
theorem prev_any (S : Nat) (v a : Int) (b : Bool) (w : World) (hS : S < 2 ^ 64) (v0 : -9223372036854775808 ≤ v) (v1 : v ≤ 9223372036854775807) (h : IsPrev S v a b) :
    Calls Tryd.prog 19 #[.int .u64 S, .int .i64 v] w fun e w' => e = .returned (.tuple #[.int .i64 a, .bool b]) ∧ w = w' := by
  rcases h with ⟨h, rfl, rfl⟩ | ⟨r, h, rfl, rfl⟩
  · exact prev_no S v w hS v0 v1 h
  · exact prev_yes S v r w hS v0 v1 h

/-! the document's -/
theorem nextR_any (S : Nat) (v a : Int) (b : Bool) (w : World) (hS : S < 2 ^ 64) (h : IsNext S v a b) :
    Calls Tryd.prog 18 #[.int .u64 S, .int .i64 v] w fun e w' => e = .returned (.tuple #[.int .i64 a, .bool b]) ∧ w = w' := by
  have HH := Lib.hid h
  have A := Lib.hid (fun (k : Nat) w => hasR_any S k w hS)
  have E := Lib.hid (fun k => has_nat hS k)
  have hS' := Lib.hid hS
  clear h hS
  go_enter Tryd.func18, Tryd.ntmps18
  go_wp2_with fail
  go_loop [6] (fun i => ∃ k : Nat, k ≤ 64 ∧ i = .int .i64 k ∧ Hid (∀ j : Nat, j < k → S.testBit j = true → (j : Int) < v)) (fun i => 64 - (intOf i).toNat)
  case atStart => exact ⟨0, by omega, rfl, Lib.hid (fun j a _ => by omega)⟩
  case round =>
    obtain ⟨k, hk, rfl, hno⟩ := hrel
    by_cases c : k < 64
    · by_cases d : v ≤ k
      · have d0 : decide (v ≤ (k : Int)) = true := by simpa using d
        cases t : S.testBit k with
        | true =>
          have e : hasB S k = true := (E.out k).trans t
          have T := Lib.hid t
          clear t
          go_wp2_with (go_at_call 24; refine (A.out k _).mono ?_; rw [e]; rintro e w1 ⟨rfl, rfl⟩)
          go_ret2
          rcases HH.out with ⟨n, _⟩ | ⟨r, hr, rfl, rfl⟩
          · have := n k T.out; omega
          · have a := hr.min k T.out d
            have b : ¬ r < k := fun q => by have := hno.out r q hr.has; have := hr.ge; omega
            obtain rfl : r = k := by omega
            exact ⟨rfl, rfl⟩
        | false =>
          have e : hasB S k = false := (E.out k).trans t
          have T := Lib.hid t
          clear t
          go_wp2_with (go_at_call 24; refine (A.out k _).mono ?_; rw [e]; rintro e w1 ⟨rfl, rfl⟩)
          go_round
          case rel => exact ⟨k + 1, by omega, by go_num, Lib.hid (fun j a b => by
            by_cases e : j = k
            · subst e; rw [T.out] at b; cases b
            · exact hno.out j (by omega) b)⟩
          case measure => simp [intOf]; omega
      · have d0 : decide (v ≤ (k : Int)) = false := by simpa using d
        go_wp2_with fail
        go_round
        case rel => exact ⟨k + 1, by omega, by go_num, Lib.hid (fun j a b => by
          by_cases e : j = k
          · subst e; omega
          · exact hno.out j (by omega) b)⟩
        case measure => simp [intOf]; omega
    · obtain rfl : k = 64 := by omega
      clear c
      go_wp2_with fail
      go_ret2
      rcases HH.out with ⟨_, rfl, rfl⟩ | ⟨r, hr, rfl, rfl⟩
      · exact ⟨rfl, rfl⟩
      · have := hno.out r (nxt_lt hS'.out hr) hr.has
        have := hr.ge
        omega
theorem prevR_any (S : Nat) (v a : Int) (b : Bool) (w : World) (hS : S < 2 ^ 64) (h : IsPrev S v a b) :
    Calls Tryd.prog 20 #[.int .u64 S, .int .i64 v] w fun e w' => e = .returned (.tuple #[.int .i64 a, .bool b]) ∧ w = w' := by
  have HH := Lib.hid h
  have A := Lib.hid (fun (k : Nat) w => hasR_any S k w hS)
  have E := Lib.hid (fun k => has_nat hS k)
  have hS' := Lib.hid hS
  clear h hS
  go_enter Tryd.func20, Tryd.ntmps20
  go_wp2_with fail
  go_loop [6] (fun i => ∃ k : Nat, k ≤ 64 ∧ i = .int .i64 ((k : Int) - 1) ∧ Hid (∀ j : Nat, j < 64 → k ≤ j → S.testBit j = true → v < (j : Int))) (fun i => (intOf i + 1).toNat)
  case atStart => exact ⟨64, by omega, rfl, Lib.hid (fun j a _ => by omega)⟩
  case round =>
    obtain ⟨k, hk, rfl, hno⟩ := hrel
    cases k with
    | succ k =>
      have z : ((k + 1 : Nat) : Int) - 1 = k := by omega
      rw [z]
      clear z
      have d2 : decide (0 ≤ (k : Int)) = true := by simp
      by_cases d : (k : Int) ≤ v
      · have d0 : decide ((k : Int) ≤ v) = true := by simpa using d
        cases t : S.testBit k with
        | true =>
          have e : hasB S k = true := (E.out k).trans t
          have T := Lib.hid t
          clear t
          go_wp2_with (go_at_call 24; refine (A.out k _).mono ?_; rw [e]; rintro e w1 ⟨rfl, rfl⟩)
          go_ret2
          rcases HH.out with ⟨n, _⟩ | ⟨r, hr, rfl, rfl⟩
          · have := n k T.out; omega
          · have a := hr.max k T.out d
            have b : ¬ k < r := fun q => by have := hno.out r (prv_lt hS'.out hr) (by omega) hr.has; have := hr.le; omega
            obtain rfl : r = k := by omega
            exact ⟨rfl, rfl⟩
        | false =>
          have e : hasB S k = false := (E.out k).trans t
          have T := Lib.hid t
          clear t
          go_wp2_with (go_at_call 24; refine (A.out k _).mono ?_; rw [e]; rintro e w1 ⟨rfl, rfl⟩)
          go_round
          case rel => exact ⟨k, by omega, by go_num, Lib.hid (fun j a0 a b => by
            by_cases e : j = k
            · subst e; rw [T.out] at b; cases b
            · exact hno.out j a0 (by omega) b)⟩
          case measure => simp [intOf]
      · have d0 : decide ((k : Int) ≤ v) = false := by simpa using d
        go_wp2_with fail
        go_round
        case rel => exact ⟨k, by omega, by go_num, Lib.hid (fun j a0 a b => by
          by_cases e : j = k
          · subst e; omega
          · exact hno.out j a0 (by omega) b)⟩
        case measure => simp [intOf]
    | zero =>
      go_wp2_with fail
      go_ret2
      rcases HH.out with ⟨_, rfl, rfl⟩ | ⟨r, hr, rfl, rfl⟩
      · exact ⟨rfl, rfl⟩
      · have := hno.out r (prv_lt hS'.out hr) (by omega) hr.has
        have := hr.le
        omega
end Go.Proofs.YteabmnaepmkkaaaDoor
