/- Contracts of the small functions of package zone, of the document's and of the statements': Check, ahead, valid, pair, digit, written, two. -/
import Derived.Test.YtbnhbfemoaokkaaDoorCivF
import Derived.Test.YtbnhbfemoaokkaaDoorZonMath
import Derived.Laws.BytesArg
namespace Go.Proofs.YtbnhbfemoaokkaaDoor
open Go.ChangeShapes Go.RowKit

theorem check_yes (z : Int) (w : World) (a : -840 ≤ z) (b : z ≤ 840) :
    Calls Tryd.prog 18 #[.int .i64 z] w fun e w' => e = .returned (.int .i64 0) ∧ w = w' := by
  go_enter Tryd.func18, Tryd.ntmps18
  go_wp2
  go_ret
  exact ⟨rfl, rfl⟩
theorem check_no (z : Int) (w : World) (h : z < -840 ∨ 840 < z) :
    Calls Tryd.prog 18 #[.int .i64 z] w fun e w' => e = .returned (.int .i64 2) ∧ w = w' := by
  rcases h with h | h
  · have d : decide (z < -840) = true := by simp; omega
    go_enter Tryd.func18, Tryd.ntmps18
    go_wp2
    go_ret
    exact ⟨rfl, rfl⟩
  · have d0 : decide (z < -840) = false := by simp; omega
    have d : decide (840 < z) = true := by simp; omega
    go_enter Tryd.func18, Tryd.ntmps18
    go_wp2
    go_ret
    exact ⟨rfl, rfl⟩
theorem checkR_yes (z : Int) (w : World) (a : -840 ≤ z) (b : z ≤ 840) :
    Calls Tryd.prog 19 #[.int .i64 z] w fun e w' => e = .returned (.int .i64 0) ∧ w = w' := by
  go_enter Tryd.func19, Tryd.ntmps19
  go_wp2
  go_ret
  exact ⟨rfl, rfl⟩
theorem checkR_no (z : Int) (w : World) (h : z < -840 ∨ 840 < z) :
    Calls Tryd.prog 19 #[.int .i64 z] w fun e w' => e = .returned (.int .i64 2) ∧ w = w' := by
  rcases h with h | h
  · have d : decide (z < -840) = true := by simp; omega
    go_enter Tryd.func19, Tryd.ntmps19
    go_wp2
    go_ret
    exact ⟨rfl, rfl⟩
  · have d0 : decide (z < -840) = false := by simp; omega
    have d : decide (840 < z) = true := by simp; omega
    go_enter Tryd.func19, Tryd.ntmps19
    go_wp2
    go_ret
    exact ⟨rfl, rfl⟩
theorem validZ_t (t : Int) (w : World) (h0 : 0 ≤ t) (h1 : t ≤ 253402300799) :
    Calls Tryd.prog 43 #[.int .i64 t] w fun e w' => e = .returned (.bool true) ∧ w = w' := by
  go_enter Tryd.func43, Tryd.ntmps43
  go_wp2
  go_ret
  exact ⟨rfl, rfl⟩
theorem validZ_f (t : Int) (w : World) (h : t < 0 ∨ 253402300799 < t) :
    Calls Tryd.prog 43 #[.int .i64 t] w fun e w' => e = .returned (.bool false) ∧ w = w' := by
  rcases h with h | h
  · have d : decide (0 ≤ t) = false := by simp; omega
    go_enter Tryd.func43, Tryd.ntmps43
    go_wp2
    go_ret
    exact ⟨rfl, rfl⟩
  · have d0 : decide (0 ≤ t) = true := by simp; omega
    have d : decide (t ≤ 253402300799) = false := by simp; omega
    go_enter Tryd.func43, Tryd.ntmps43
    go_wp2
    go_ret
    exact ⟨rfl, rfl⟩
theorem validR_t (t : Int) (w : World) (h0 : 0 ≤ t) (h1 : t ≤ 253402300799) :
    Calls Tryd.prog 45 #[.int .i64 t] w fun e w' => e = .returned (.bool true) ∧ w = w' := by
  go_enter Tryd.func45, Tryd.ntmps45
  go_wp2
  go_ret
  exact ⟨rfl, rfl⟩
theorem validR_f (t : Int) (w : World) (h : t < 0 ∨ 253402300799 < t) :
    Calls Tryd.prog 45 #[.int .i64 t] w fun e w' => e = .returned (.bool false) ∧ w = w' := by
  rcases h with h | h
  · have d : decide (0 ≤ t) = false := by simp; omega
    go_enter Tryd.func45, Tryd.ntmps45
    go_wp2
    go_ret
    exact ⟨rfl, rfl⟩
  · have d0 : decide (0 ≤ t) = true := by simp; omega
    have d : decide (t ≤ 253402300799) = false := by simp; omega
    go_enter Tryd.func45, Tryd.ntmps45
    go_wp2
    go_ret
    exact ⟨rfl, rfl⟩
theorem validL_t (t : Int) (w : World) (h0 : 0 ≤ t) (h1 : t ≤ 253402300799) :
    Calls Tryd.prog 30 #[.int .i64 t] w fun e w' => e = .returned (.bool true) ∧ w = w' := by
  go_enter Tryd.func30, Tryd.ntmps30
  go_wp2
  go_ret
  exact ⟨rfl, rfl⟩
theorem validL_f (t : Int) (w : World) (h : t < 0 ∨ 253402300799 < t) :
    Calls Tryd.prog 30 #[.int .i64 t] w fun e w' => e = .returned (.bool false) ∧ w = w' := by
  rcases h with h | h
  · have d : decide (0 ≤ t) = false := by simp; omega
    go_enter Tryd.func30, Tryd.ntmps30
    go_wp2
    go_ret
    exact ⟨rfl, rfl⟩
  · have d0 : decide (0 ≤ t) = true := by simp; omega
    have d : decide (t ≤ 253402300799) = false := by simp; omega
    go_enter Tryd.func30, Tryd.ntmps30
    go_wp2
    go_ret
    exact ⟨rfl, rfl⟩
theorem ahead_any (z : Int) (w : World) (a : -840 ≤ z) (b : z ≤ 840) :
    Calls Tryd.prog 42 #[.int .i64 z] w fun e w' => e = .returned (.int .i64 (60 * z)) ∧ w = w' := by
  go_enter Tryd.func42, Tryd.ntmps42
  go_wp2
  go_ret
  exact ⟨rfl, rfl⟩
theorem pair_any (x y : Int) (w : World) (x0 : 0 ≤ x) (x1 : x ≤ 255) (y0 : 0 ≤ y) (y1 : y ≤ 255) :
    Calls Tryd.prog 49 #[.int .u8 x, .int .u8 y] w fun e w' => e = .returned (.int .i64 (10 * (x - 48) + y - 48)) ∧ w = w' := by
  go_enter Tryd.func49, Tryd.ntmps49
  go_wp2
  go_ret
  exact ⟨rfl, rfl⟩
theorem digit_any (n : Int) (w : World) (n0 : 0 ≤ n) (n1 : n ≤ 99) :
    Calls Tryd.prog 48 #[.int .i64 n] w fun e w' => e = .returned (.int .u8 (48 + n)) ∧ w = w' := by
  go_enter Tryd.func48, Tryd.ntmps48
  go_wp2
  go_ret
  exact ⟨rfl, rfl⟩

/-- the bytes of the text of a zone: sign, digits -/
structure ZT (z s a b c d : Int) : Prop where
  hs : Zon.sg z = s
  ha : Zon.b1 z = a
  hb : Zon.b2 z = b
  hc : Zon.b4 z = c
  hd : Zon.b5 z = d
theorem zt_ex (z : Int) : ∃ s a b c d, ZT z s a b c d := ⟨_, _, _, _, _, rfl, rfl, rfl, rfl, rfl⟩
theorem ZT.ret {z s a b c d s' a' b' c' d' : Int} (h : ZT z s a b c d) (h' : ZT z s' a' b' c' d') :
    Ending.returned (.agg #[.int .u8 s', .int .u8 a', .int .u8 b', .int .u8 58, .int .u8 c', .int .u8 d']) = .returned (.agg #[.int .u8 s, .int .u8 a, .int .u8 b, .int .u8 58, .int .u8 c, .int .u8 d]) := by
  obtain ⟨rfl, rfl, rfl, rfl, rfl⟩ := h
  obtain ⟨rfl, rfl, rfl, rfl, rfl⟩ := h'
  rfl
theorem zt_neg {p : Int} (a : 0 < p) : ZT (-p) 45 (48 + p / 60 / 10) (48 + p / 60 % 10) (48 + p % 60 / 10) (48 + p % 10) := by
  have f : Zon.far (-p) = p := by unfold Zon.far; rw [if_pos (by omega)]; omega
  exact ⟨by unfold Zon.sg; rw [if_pos (by omega)], by unfold Zon.b1; rw [f], by unfold Zon.b2; rw [f], by unfold Zon.b4; rw [f], by unfold Zon.b5; rw [f]⟩
theorem zt_pos {p : Int} (a : 0 ≤ p) : ZT p 43 (48 + p / 60 / 10) (48 + p / 60 % 10) (48 + p % 60 / 10) (48 + p % 10) := by
  have f : Zon.far p = p := by unfold Zon.far; rw [if_neg (by omega)]
  exact ⟨by unfold Zon.sg; rw [if_neg (by omega)], by unfold Zon.b1; rw [f], by unfold Zon.b2; rw [f], by unfold Zon.b4; rw [f], by unfold Zon.b5; rw [f]⟩
theorem ZT.bd {z s a b c d : Int} (h : ZT z s a b c d) (z0 : -840 ≤ z) (z1 : z ≤ 840) : (s = 45 ∨ s = 43) ∧ (48 ≤ a ∧ a ≤ 57) ∧ (48 ≤ b ∧ b ≤ 57) ∧ (48 ≤ c ∧ c ≤ 53) ∧ (48 ≤ d ∧ d ≤ 57) := by
  obtain ⟨rfl, rfl, rfl, rfl, rfl⟩ := h
  exact ⟨Zon.sg_or z, Zon.b1_bd z0 z1, Zon.b2_bd z0 z1, Zon.b4_bd z0 z1, Zon.b5_bd z0 z1⟩

theorem written_any (z s a b c d : Int) (w : World) (z0 : -840 ≤ z) (z1 : z ≤ 840) (h : ZT z s a b c d) :
    Calls Tryd.prog 33 #[.int .i64 z] w fun e w' => e = .returned (.agg #[.int .u8 s, .int .u8 a, .int .u8 b, .int .u8 58, .int .u8 c, .int .u8 d]) ∧ Below w.heap.size w w' := by
  by_cases q : z < 0
  · obtain ⟨p, rfl⟩ : ∃ p, z = -p := ⟨-z, by omega⟩
    have E := Lib.hid (h.ret (zt_neg (p := p) (by omega)))
    have p0 : 0 < p := by omega
    have p1 : p ≤ 840 := by omega
    clear h z0 z1 q
    go_enter Tryd.func33, Tryd.ntmps33
    iterate 4
      go_wp2_with fail
      refine (digit_any _ _ (by omega) (by omega)).mono ?_
      rintro e w' ⟨rfl, rfl⟩
    go_wp2_with fail
    exact bodyPost_ret (v := .agg #[.int .u8 45, .int .u8 (48 + p / 60 / 10), .int .u8 (48 + p / 60 % 10), .int .u8 58, .int .u8 (48 + p % 60 / 10), .int .u8 (48 + p % 10)]) (by simp [results, Tryd.results33, go_sem]) rfl ⟨E.out, (Below.refl _ _).alloc (Nat.le_refl _) _⟩
  · have E := Lib.hid (h.ret (zt_pos (p := z) (by omega)))
    have q' : decide (z < 0) = false := by simp; omega
    have z0 : 0 ≤ z := by omega
    clear h q
    go_enter Tryd.func33, Tryd.ntmps33
    iterate 4
      go_wp2_with fail
      refine (digit_any _ _ (by omega) (by omega)).mono ?_
      rintro e w' ⟨rfl, rfl⟩
    go_wp2_with fail
    exact bodyPost_ret (v := .agg #[.int .u8 43, .int .u8 (48 + z / 60 / 10), .int .u8 (48 + z / 60 % 10), .int .u8 58, .int .u8 (48 + z % 60 / 10), .int .u8 (48 + z % 10)]) (by simp [results, Tryd.results33, go_sem]) rfl ⟨E.out, (Below.refl _ _).alloc (Nat.le_refl _) _⟩

@[go_sem] theorem conv_two (W : World) (k : Nat) (x y : Int) (hk : W.heap.size = k) :
    (convert 56 9 (.slice (some ⟨k, 0, none⟩) 2 2)).run Tryd.prog (W.alloc (.cells #[.int .u8 x, .int .u8 y] 5)) = .ok (.string (strOfNums [x, y])) (W.alloc (.cells #[.int .u8 x, .int .u8 y] 5)) := by
  subst hk
  exact run_convert_bytes_arg _ 56 5 Tryd.underlying56 Tryd.underlying5 _ 0 2 2 [x, y] rfl (fun i hi => by
    have : i = 0 ∨ i = 1 := by omega
    rcases this with rfl | rfl <;> simp [go_sem]) _ Tryd.underlying9
theorem two_any (n x y : Int) (w : World) (n0 : 0 ≤ n) (n1 : n ≤ 99) (hx : x = 48 + n / 10) (hy : y = 48 + n % 10) :
    Calls Tryd.prog 34 #[.int .i64 n] w fun e w' => e = .returned (.string (strOfNums [x, y])) ∧ Below w.heap.size w w' := by
  subst hx hy
  go_enter Tryd.func34, Tryd.ntmps34
  go_wp2
  go_ret
  exact ⟨rfl, (Below.refl _ _).alloc (Nat.le_refl _) _⟩
end Go.Proofs.YtbnhbfemoaokkaaDoor
