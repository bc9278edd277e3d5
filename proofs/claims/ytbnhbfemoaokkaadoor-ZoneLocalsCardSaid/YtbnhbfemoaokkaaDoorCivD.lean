/- Contracts of Days, of package civil and of the document's: the days of each date, and the error of what is no date. -/
import Derived.Test.YtbnhbfemoaokkaaDoorCivC
import Derived.Test.YtbnhbfemoaokkaaDoorCivEq
namespace Go.Proofs.YtbnhbfemoaokkaaDoor
open Go.ChangeShapes Go.RowKit

theorem ret_v0 {a b : Int} (h : a = b) : Ending.returned (.tuple #[.int .i64 a, .int .i64 0]) = .returned (.tuple #[.int .i64 b, .int .i64 0]) := by rw [h]

set_option maxRecDepth 100000 in
theorem days_yes (y m d n : Int) (w : World) (L : Lay w) (v : Civ.Vld y m d) (hn : Civ.num y m d = n) :
    Calls Tryd.prog 51 #[.int .i64 y, .int .i64 m, .int .i64 d] w fun e w' => e = .returned (.tuple #[.int .i64 n, .int .i64 0]) ∧ w = w' := by
  have D := Lib.hid (date_yes y m d (Civ.dby y + Civ.cum y m + (d - 1)) w L v (by unfold Civ.num; omega))
  obtain ⟨n0, n1⟩ := Civ.num_range v
  rw [hn] at n0 n1
  have b0 := Civ.dby_mono v.1
  rw [Civ.dby_first] at b0
  have b1 := (num_dby v hn).1
  obtain ⟨y0, y1, m0, m1, d0, d1⟩ := v
  have hd := Civ.dim_bd y m
  unfold Civ.num at hn
  have HN := Lib.hid hn
  clear hn
  have q := same3_t y m d
  go_enter Tryd.func51, Tryd.ntmps51
  go_wp2_with (first
    | (go_at_call 54; refine (length_yes _ _ _ L (by omega) (by omega) (by omega) (by omega)).mono ?_; rintro e w' ⟨rfl, rfl⟩)
    | (go_at_call 53; refine (before_any _ _ (by omega) (by omega)).mono ?_; rintro e w' ⟨rfl, rfl⟩))
  go_loop [10, 11, 12, 13] (fun s a _ _ => ∃ k : Int, 1 ≤ k ∧ k ≤ m ∧ a = .int .i64 k ∧ s = .int .i64 (Civ.dby y + Civ.cum y k)) (fun _ a _ _ => (12 - intOf a).toNat)
  case atStart => exact ⟨1, by omega, by omega, rfl, by rw [Civ.cum_one]; simp⟩
  case round =>
    obtain ⟨k, k0, k1, rfl, rfl⟩ := hrel
    have c0 := Civ.cum_bd y k
    have c1 := Civ.dim_bd y k
    by_cases c : k < m
    · have CS := Lib.hid (Civ.cum_succ y k k0 (by omega))
      go_wp2_with (go_at_call 54; refine (length_yes _ _ _ L (by omega) (by omega) (by omega) (by omega)).mono ?_; rintro e w' ⟨rfl, rfl⟩)
      go_round
      case rel => exact ⟨k + 1, by omega, by omega, rfl, by rw [CS.out]; go_num⟩
      case measure => simp [intOf]; omega
    · obtain rfl : m = k := by omega
      clear c
      go_wp2_with fail
      refine D.out.mono ?_
      rintro e w' ⟨rfl, rfl⟩
      go_wp2
      go_ret2
      exact ⟨ret_v0 (by have := HN.out; omega), rfl⟩

/-- whatever the number: a valid date, or none -/
theorem date_some (n : Int) (w : World) (L : Lay w) :
    Calls Tryd.prog 47 #[.int .i64 n] w fun e w' => ∃ a b c r : Int, e = .returned (.tuple #[.int .i64 a, .int .i64 b, .int .i64 c, .int .i64 r]) ∧ (a = 0 ∨ Civ.Vld a b c) ∧ w = w' := by
  by_cases h : n < 0 ∨ 2932896 < n
  · exact (date_no n w h).mono fun e w' ⟨h1, h2⟩ => ⟨0, 0, 0, 14, h1, .inl rfl, h2⟩
  · obtain ⟨y, m, d, v, hn⟩ := Civ.date_ex n (by omega) (by omega)
    exact (date_yes y m d n w L v hn).mono fun e w' ⟨h1, h2⟩ => ⟨y, m, d, 0, h1, .inr v, h2⟩

set_option maxRecDepth 100000 in
theorem days_no (y m d : Int) (w : World) (L : Lay w) (v : ¬ Civ.Vld y m d) :
    Calls Tryd.prog 51 #[.int .i64 y, .int .i64 m, .int .i64 d] w fun e w' => e = .returned (.tuple #[.int .i64 0, .int .i64 2]) ∧ w = w' := by
  by_cases g : 1970 ≤ y ∧ y ≤ 9999 ∧ 1 ≤ m ∧ m ≤ 12
  · obtain ⟨y0, y1, m0, m1⟩ := g
    have b0 := Civ.dby_mono y0
    rw [Civ.dby_first] at b0
    have b1 := Civ.dby_mono (show y ≤ 10000 by omega)
    rw [Civ.dby_end] at b1
    have V := Lib.hid v
    clear v
    go_enter Tryd.func51, Tryd.ntmps51
    go_wp2_with (first
      | (go_at_call 54; refine (length_yes _ _ _ L (by omega) (by omega) (by omega) (by omega)).mono ?_; rintro e w' ⟨rfl, rfl⟩)
      | (go_at_call 53; refine (before_any _ _ (by omega) (by omega)).mono ?_; rintro e w' ⟨rfl, rfl⟩))
    go_loop [10, 11, 12, 13] (fun s a _ _ => ∃ k : Int, 1 ≤ k ∧ k ≤ m ∧ a = .int .i64 k ∧ s = .int .i64 (Civ.dby y + Civ.cum y k)) (fun _ a _ _ => (12 - intOf a).toNat)
    case atStart => exact ⟨1, by omega, by omega, rfl, by rw [Civ.cum_one]; simp⟩
    case round =>
      obtain ⟨k, k0, k1, rfl, rfl⟩ := hrel
      have c0 := Civ.cum_bd y k
      have c1 := Civ.dim_bd y k
      by_cases c : k < m
      · have CS := Lib.hid (Civ.cum_succ y k k0 (by omega))
        go_wp2_with (go_at_call 54; refine (length_yes _ _ _ L (by omega) (by omega) (by omega) (by omega)).mono ?_; rintro e w' ⟨rfl, rfl⟩)
        go_round
        case rel => exact ⟨k + 1, by omega, by omega, rfl, by rw [CS.out]; go_num⟩
        case measure => simp [intOf]; omega
      · obtain rfl : m = k := by omega
        clear c
        go_wp2_with fail
        refine (date_some _ _ L).mono ?_
        rintro e w' ⟨a', b', c', r', rfl, hd, rfl⟩
        have q : same3 a' b' c' y m d = false := same3_f (by
          rintro ⟨rfl, rfl, rfl⟩
          rcases hd with rfl | hd
          · omega
          · exact V.out hd)
        clear hd
        go_wp2
        go_ret2
        exact ⟨rfl, rfl⟩
  · clear v
    have G := Lib.hid (length_no y m w g)
    clear g
    go_enter Tryd.func51, Tryd.ntmps51
    go_wp2_with (go_at_call 54; refine G.out.mono ?_; rintro e w' ⟨rfl, rfl⟩)
    go_ret2
    exact ⟨rfl, rfl⟩

set_option maxRecDepth 100000 in
theorem daysR_yes (y m d n : Int) (w : World) (v : Civ.Vld y m d) (hn : Civ.num y m d = n) :
    Calls Tryd.prog 52 #[.int .i64 y, .int .i64 m, .int .i64 d] w fun e w' => e = .returned (.tuple #[.int .i64 n, .int .i64 0]) ∧ Below w.heap.size w w' := by
  obtain ⟨n0, n1⟩ := Civ.num_range v
  rw [hn] at n0 n1
  have b0 := Civ.dby_mono v.1
  rw [Civ.dby_first] at b0
  have b1 := (num_dby v hn).1
  obtain ⟨y0, y1, m0, m1, d0, d1⟩ := v
  have hd := Civ.dim_bd y m
  unfold Civ.num at hn
  have HN := Lib.hid hn
  clear hn
  go_enter Tryd.func52, Tryd.ntmps52
  go_wp2_with (first
    | (go_at_call 56; refine (lengthR_yes _ _ _ (by omega) (by omega) (by omega) (by omega)).mono ?_; rintro e w1 ⟨rfl, bel1⟩)
    | (go_at_call 55; refine (beforeR_any _ _ (by omega) (by omega)).mono ?_; rintro e w' ⟨rfl, rfl⟩))
  go_loopw [10, 11, 12, 13] (fun s a _ _ wr => Below w.heap.size w wr ∧ ∃ k : Int, 1 ≤ k ∧ k ≤ m ∧ a = .int .i64 k ∧ s = .int .i64 (Civ.dby y + Civ.cum y k)) (fun _ a _ _ _ => (12 - intOf a).toNat)
  case atStart => exact ⟨bel1, 1, by omega, by omega, rfl, by rw [Civ.cum_one]; simp⟩
  case round =>
    obtain ⟨bel, k, k0, k1, rfl, rfl⟩ := hrel
    have c0 := Civ.cum_bd y k
    have c1 := Civ.dim_bd y k
    by_cases c : k < m
    · have CS := Lib.hid (Civ.cum_succ y k k0 (by omega))
      go_wp2_with (go_at_call 56; refine (lengthR_yes _ _ _ (by omega) (by omega) (by omega) (by omega)).mono ?_; rintro e w2 ⟨rfl, bel2⟩)
      go_roundw
      case rel => exact ⟨bel.trans (bel2.mono bel.size), k + 1, by omega, by omega, rfl, by rw [CS.out]; go_num⟩
      case measure => simp [intOf]; omega
    · obtain rfl : m = k := by omega
      clear c
      go_wp2_with fail
      go_ret2
      exact ⟨ret_v0 (by have := HN.out; omega), bel⟩

theorem daysR_no (y m d : Int) (w : World) (v : ¬ Civ.Vld y m d) :
    Calls Tryd.prog 52 #[.int .i64 y, .int .i64 m, .int .i64 d] w fun e w' => e = .returned (.tuple #[.int .i64 0, .int .i64 2]) ∧ Below w.heap.size w w' := by
  by_cases g : 1970 ≤ y ∧ y ≤ 9999 ∧ 1 ≤ m ∧ m ≤ 12
  · obtain ⟨y0, y1, m0, m1⟩ := g
    by_cases d0 : d < 1
    · clear v
      go_enter Tryd.func52, Tryd.ntmps52
      go_wp2_with (go_at_call 56; refine (lengthR_yes _ _ _ (by omega) (by omega) (by omega) (by omega)).mono ?_; rintro e w1 ⟨rfl, bel1⟩)
      go_ret2
      exact ⟨rfl, bel1⟩
    · have d1 : Civ.dim y m < d := by
        have : ¬ d ≤ Civ.dim y m := fun h => v ⟨y0, y1, m0, m1, by omega, h⟩
        omega
      clear v
      go_enter Tryd.func52, Tryd.ntmps52
      go_wp2_with (go_at_call 56; refine (lengthR_yes _ _ _ (by omega) (by omega) (by omega) (by omega)).mono ?_; rintro e w1 ⟨rfl, bel1⟩)
      go_ret2
      exact ⟨rfl, bel1⟩
  · clear v
    have G := Lib.hid (lengthR_no y m w g)
    clear g
    go_enter Tryd.func52, Tryd.ntmps52
    go_wp2_with (go_at_call 56; refine G.out.mono ?_; rintro e w' ⟨rfl, rfl⟩)
    go_ret2
    exact ⟨rfl, Below.refl _ _⟩
end Go.Proofs.YtbnhbfemoaokkaaDoor
