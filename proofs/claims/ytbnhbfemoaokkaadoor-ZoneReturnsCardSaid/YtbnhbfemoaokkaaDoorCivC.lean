/- Contracts of Date, of package civil and of the document's: each number of days from 0 to 2932896 gives the one valid date with these days, any other an error. -/
import Derived.Test.YtbnhbfemoaokkaaDoorCivB
namespace Go.Proofs.YtbnhbfemoaokkaaDoor
open Go.ChangeShapes Go.RowKit

theorem date_no (n : Int) (w : World) (h : n < 0 ∨ 2932896 < n) :
    Calls Tryd.prog 47 #[.int .i64 n] w fun e w' => e = .returned (.tuple #[.int .i64 0, .int .i64 0, .int .i64 0, .int .i64 14]) ∧ w = w' := by
  rcases h with h | h
  · go_enter Tryd.func47, Tryd.ntmps47
    go_wp2
    exact bodyPost_ret (v := .tuple #[.int .i64 0, .int .i64 0, .int .i64 0, .int .i64 14]) (by simp [results, Tryd.results47, go_sem]) rfl ⟨rfl, rfl⟩
  · go_enter Tryd.func47, Tryd.ntmps47
    go_wp2
    exact bodyPost_ret (v := .tuple #[.int .i64 0, .int .i64 0, .int .i64 0, .int .i64 14]) (by simp [results, Tryd.results47, go_sem]) rfl ⟨rfl, rfl⟩

theorem guess_up (n : Int) (h0 : 0 ≤ n) (h1 : n ≤ 2932896) : 1970 ≤ 1970 + n / 365 ∧ 1970 + n / 365 ≤ 10005 ∧ n < Civ.dby (1970 + n / 365 + 1) := by
  have := Civ.dby_succ
  unfold Civ.dby Civ.lps
  omega

theorem num_dby {y m d n : Int} (v : Civ.Vld y m d) (hn : Civ.num y m d = n) : Civ.dby y ≤ n ∧ n < Civ.dby (y + 1) := by
  have a := Civ.num_bd v
  have b := Civ.dby_succ y
  omega
/-- the month m is the first one whose length exceeds what is left -/
theorem left_of {y m d n k : Int} (v : Civ.Vld y m d) (hn : Civ.num y m d = n) (k0 : 1 ≤ k) (k1 : k ≤ m) :
    0 ≤ n - Civ.dby y - Civ.cum y k ∧ n - Civ.dby y - Civ.cum y k ≤ 366 ∧ (k < m → Civ.dim y k ≤ n - Civ.dby y - Civ.cum y k ∧ n - Civ.dby y - Civ.cum y (k + 1) = n - Civ.dby y - Civ.cum y k - Civ.dim y k) ∧
    (k = m → n - Civ.dby y - Civ.cum y k < Civ.dim y k ∧ n - Civ.dby y - Civ.cum y k + 1 = d) := by
  obtain ⟨y0, y1, m0, m1, d0, d1⟩ := v
  have c := Civ.cum_bd y k
  have b := Civ.dim_bd y m
  have b2 := Civ.dim_bd y k
  have e := Civ.num_bd (show Civ.Vld y m d from ⟨y0, y1, m0, m1, d0, d1⟩)
  have l := Civ.lp_01 y
  rw [hn] at e
  unfold Civ.num at hn
  by_cases q : k < m
  · have := Civ.cum_lt y k0 q (by omega)
    have := Civ.cum_succ y k k0 (by omega)
    refine ⟨by omega, by omega, fun _ => ⟨by omega, by omega⟩, fun _ => by omega⟩
  · obtain rfl : k = m := by omega
    refine ⟨by omega, by omega, fun _ => by omega, fun _ => ⟨by omega, by omega⟩⟩
theorem ret_4 {a b c a' b' c' : Int} (h : a = a') (h' : b = b') (h'' : c = c') :
    Ending.returned (.tuple #[.int .i64 a, .int .i64 b, .int .i64 c, .int .i64 0]) = .returned (.tuple #[.int .i64 a', .int .i64 b', .int .i64 c', .int .i64 0]) := by rw [h, h', h'']

theorem date_yes (y m d n : Int) (w : World) (L : Lay w) (v : Civ.Vld y m d) (hn : Civ.num y m d = n) :
    Calls Tryd.prog 47 #[.int .i64 n] w fun e w' => e = .returned (.tuple #[.int .i64 y, .int .i64 m, .int .i64 d, .int .i64 0]) ∧ w = w' := by
  obtain ⟨n0, n1⟩ := Civ.num_range v
  obtain ⟨p0, p1⟩ := num_dby v hn
  have HL := fun k => @left_of y m d n k v hn
  have hy := v.1
  have hy' := v.2.1
  have hm' := v.2.2.2.1
  have hm0 := v.2.2.1
  rw [hn] at n0 n1
  obtain ⟨g0, g1, g2⟩ := guess_up n n0 n1
  have gy : y ≤ 1970 + n / 365 := by
    by_cases c : y ≤ 1970 + n / 365
    · exact c
    · have := Civ.dby_mono (show 1970 + n / 365 + 1 ≤ y by omega); omega
  clear hn v g2
  have hL := Lib.hid HL
  clear HL
  go_enter Tryd.func47, Tryd.ntmps47
  go_wp2
  go_loop [6] (fun t => ∃ k : Int, y ≤ k ∧ k ≤ 10005 ∧ t = .int .i64 k) (fun t => (intOf t).toNat)
  case atStart => exact ⟨_, gy, g1, rfl⟩
  case round =>
    obtain ⟨k, k0, k1, rfl⟩ := hrel
    by_cases c : y < k
    · have q : n < Civ.dby k := by have := Civ.dby_mono (show y + 1 ≤ k by omega); omega
      go_wp2_with (go_at_call 53; refine (before_any _ _ (by omega) (by omega)).mono ?_; rintro e w' ⟨rfl, rfl⟩)
      go_round
      case rel => exact ⟨k - 1, by omega, by omega, rfl⟩
      case measure => simp [intOf]; omega
    · obtain rfl : y = k := by omega
      clear c gy
      have l1 := Civ.lp_01 y
      have l2 := Civ.dby_succ y
      go_wp2_with (go_at_call 53; refine (before_any _ _ (by omega) (by omega)).mono ?_; rintro e w' ⟨rfl, rfl⟩)
      go_loop [7, 8] (fun a r => ∃ k : Int, 1 ≤ k ∧ k ≤ m ∧ a = .int .i64 k ∧ r = .int .i64 (n - Civ.dby y - Civ.cum y k)) (fun a _ => (12 - intOf a).toNat)
      case atStart => exact ⟨1, by omega, by omega, rfl, by rw [Civ.cum_one]; simp⟩
      case round =>
        obtain ⟨k, k0, k1, rfl, rfl⟩ := hrel
        obtain ⟨r0, r1, r2, r3⟩ := hL.out k k0 k1
        have b := Civ.dim_bd y k
        by_cases c : k < m
        · obtain ⟨r4, r5⟩ := r2 c
          have R5 := Lib.hid r5
          clear r2 r3 r5
          go_wp2_with (go_at_call 54; refine (length_yes _ _ _ L (by omega) (by omega) (by omega) (by omega)).mono ?_; rintro e w' ⟨rfl, rfl⟩)
          go_round
          case rel => exact ⟨k + 1, by omega, by omega, rfl, by rw [R5.out]⟩
          case measure => simp [intOf]; omega
        · obtain rfl : m = k := by omega
          obtain ⟨r4, r5⟩ := r3 rfl
          have R5 := Lib.hid r5
          clear r2 r3 r5
          go_wp2_with (go_at_call 54; refine (length_yes _ _ _ L (by omega) (by omega) (by omega) (by omega)).mono ?_; rintro e w' ⟨rfl, rfl⟩)
          exact bodyPost_ret (v := .tuple #[.int .i64 y, .int .i64 m, .int .i64 (n - Civ.dby y - Civ.cum y m + 1), .int .i64 0]) (by simp [results, Tryd.results47, go_sem]) rfl ⟨ret_4 rfl rfl R5.out, rfl⟩

theorem dateR_no (n : Int) (w : World) (h : n < 0 ∨ 2932896 < n) :
    Calls Tryd.prog 50 #[.int .i64 n] w fun e w' => e = .returned (.tuple #[.int .i64 0, .int .i64 0, .int .i64 0, .int .i64 14]) ∧ w = w' := by
  rcases h with h | h
  · go_enter Tryd.func50, Tryd.ntmps50
    go_wp2
    exact bodyPost_ret (v := .tuple #[.int .i64 0, .int .i64 0, .int .i64 0, .int .i64 14]) (by simp [results, Tryd.results50, go_sem]) rfl ⟨rfl, rfl⟩
  · go_enter Tryd.func50, Tryd.ntmps50
    go_wp2
    exact bodyPost_ret (v := .tuple #[.int .i64 0, .int .i64 0, .int .i64 0, .int .i64 14]) (by simp [results, Tryd.results50, go_sem]) rfl ⟨rfl, rfl⟩

theorem guess_down (n : Int) (h0 : 0 ≤ n) (h1 : n ≤ 2932896) : 1970 ≤ 1970 + n / 366 ∧ 1970 + n / 366 ≤ 10005 ∧ Civ.dby (1970 + n / 366) ≤ n := by
  unfold Civ.dby Civ.lps
  omega

theorem dateR_yes (y m d n : Int) (w : World) (v : Civ.Vld y m d) (hn : Civ.num y m d = n) :
    Calls Tryd.prog 50 #[.int .i64 n] w fun e w' => e = .returned (.tuple #[.int .i64 y, .int .i64 m, .int .i64 d, .int .i64 0]) ∧ Below w.heap.size w w' := by
  obtain ⟨n0, n1⟩ := Civ.num_range v
  obtain ⟨p0, p1⟩ := num_dby v hn
  have HL := fun k => @left_of y m d n k v hn
  have hy := v.1
  have hy' := v.2.1
  have hm' := v.2.2.2.1
  have hm0 := v.2.2.1
  rw [hn] at n0 n1
  obtain ⟨g0, g1, g2⟩ := guess_down n n0 n1
  have gy : 1970 + n / 366 ≤ y := by
    by_cases c : 1970 + n / 366 ≤ y
    · exact c
    · have := Civ.dby_mono (show y + 1 ≤ 1970 + n / 366 by omega); omega
  clear hn v g2
  have hL := Lib.hid HL
  clear HL
  go_enter Tryd.func50, Tryd.ntmps50
  go_wp2
  go_loop [6] (fun t => ∃ k : Int, 1970 ≤ k ∧ k ≤ y ∧ t = .int .i64 k) (fun t => (9999 - intOf t).toNat)
  case atStart => exact ⟨_, g0, gy, rfl⟩
  case round =>
    obtain ⟨k, k0, k1, rfl⟩ := hrel
    by_cases c : k < y
    · have q : Civ.dby (k + 1) ≤ n := by have := Civ.dby_mono (show k + 1 ≤ y by omega); omega
      go_wp2_with (go_at_call 55; refine (beforeR_any _ _ (by omega) (by omega)).mono ?_; rintro e w' ⟨rfl, rfl⟩)
      go_round
      case rel => exact ⟨k + 1, by omega, by omega, rfl⟩
      case measure => simp [intOf]; omega
    · obtain rfl : y = k := by omega
      clear c gy
      have l1 := Civ.lp_01 y
      have l2 := Civ.dby_succ y
      have l3 : n - Civ.dby y ≤ 366 := by omega
      clear l2
      go_wp2_with (go_at_call 55; refine (beforeR_any _ _ (by omega) (by omega)).mono ?_; rintro e w' ⟨rfl, rfl⟩)
      go_loopw [7, 8] (fun r a wr => Below w.heap.size w wr ∧ ∃ k : Int, 1 ≤ k ∧ k ≤ m ∧ a = .int .i64 k ∧ r = .int .i64 (n - Civ.dby y - Civ.cum y k)) (fun _ a _ => (12 - intOf a).toNat)
      case atStart => exact ⟨Below.refl _ _, 1, by omega, by omega, rfl, by rw [Civ.cum_one]; simp⟩
      case round =>
        obtain ⟨bel, k, k0, k1, rfl, rfl⟩ := hrel
        obtain ⟨r0, r1, r2, r3⟩ := hL.out k k0 k1
        have b := Civ.dim_bd y k
        by_cases c : k < m
        · obtain ⟨r4, r5⟩ := r2 c
          have R5 := Lib.hid r5
          clear r2 r3 r5
          go_wp2_with (go_at_call 56; refine (lengthR_yes _ _ _ (by omega) (by omega) (by omega) (by omega)).mono ?_; rintro e w1 ⟨rfl, b1⟩)
          go_roundw
          case rel => exact ⟨bel.trans (b1.mono bel.size), k + 1, by omega, by omega, rfl, by rw [R5.out]⟩
          case measure => simp [intOf]; omega
        · obtain rfl : m = k := by omega
          obtain ⟨r4, r5⟩ := r3 rfl
          have R5 := Lib.hid r5
          clear r2 r3 r5
          go_wp2_with (go_at_call 56; refine (lengthR_yes _ _ _ (by omega) (by omega) (by omega) (by omega)).mono ?_; rintro e w1 ⟨rfl, b1⟩)
          exact bodyPost_ret (v := .tuple #[.int .i64 y, .int .i64 m, .int .i64 (n - Civ.dby y - Civ.cum y m + 1), .int .i64 0]) (by simp [results, Tryd.results50, go_sem]) rfl ⟨ret_4 rfl rfl R5.out, bel.trans (b1.mono bel.size)⟩
end Go.Proofs.YtbnhbfemoaokkaaDoor
