/- For all numbers that choose a year and a month, CivilMonths returns true: months follow one another, and years have 365 or 366 days. Condition: the package-level tables start as the program's text lays them (tied). -/
import Derived.Test.YtjffnjoeeclckaaDoorCivDoor
import Derived.Test.YtjffnjoeeclckaaDoorCivBoth
namespace Go.Proofs.YtjffnjoeeclckaaDoor.civilMonths
open Go.ChangeShapes Go.WideShapes Go.ChangeAt Go.RowKit

theorem days_v (y m d n : Int) (w : World) (L : Lay w) (v : Civ.Vld y m d) (hn : Civ.dby y + Civ.cum y m + d - 1 = n) :
    Calls Tryd.prog 17 #[.int .i64 y, .int .i64 m, .int .i64 d] w fun e w' => e = .returned (.tuple #[.int .i64 n, .int .i64 0]) ∧ w = w' := days_yes y m d n w L v hn

set_option maxRecDepth 100000 in
set_option maxHeartbeats 1000000 in
theorem road_t_ma (a b y m : Int) (w : World) (L : Lay w) (a0 : 0 ≤ a) (a1 : a ≤ 65535) (b0 : 0 ≤ b) (b1 : b ≤ 255) (ey : 1970 + a % 8030 = y) (em : 1 + b % 12 = m) (lp : lpB y = true) (mm : m < 12) (yy : y < 9999) :
    Calls Tryd.prog 10 #[.int .u16 a, .int .u8 b] w fun e w' => e = .returned (.bool true) ∧ Below w.heap.size w w' := by
  have y0 : 1970 ≤ y := by omega
  have y1 : y ≤ 9999 := by omega
  have m0 : 1 ≤ m := by omega
  have m1 : m ≤ 12 := by omega
  obtain ⟨n, hn⟩ : ∃ n, Civ.dim y m = n := ⟨_, rfl⟩
  obtain ⟨p, hp⟩ : ∃ p, Civ.dby y + Civ.cum y m = p := ⟨_, rfl⟩
  obtain ⟨q, hq⟩ : ∃ q, Civ.dby y = q := ⟨_, rfl⟩
  obtain ⟨l, hl⟩ : ∃ l, Civ.lp y = l := ⟨_, rfl⟩
  have d := Civ.dim_bd y m
  have c := Civ.cum_bd y m
  have l01 := Civ.lp_01 y
  have q0 := Civ.dby_mono y0
  have q1 := Civ.dby_mono (show y ≤ 10000 by omega)
  have c1 := Civ.cum_one y
  have c12 : Civ.cum y 12 = 334 + Civ.lp y := by simp [Civ.cum]
  have d1 : Civ.dim y 1 = 31 := by simp [Civ.dim]
  have d12 : Civ.dim y 12 = 31 := by simp [Civ.dim]
  rw [Civ.dby_first] at q0
  rw [Civ.dby_end] at q1
  have A := Lib.hid (fun w L => length_yes y m w L y0 y1 m0 m1)
  have B := Lib.hid (fun w L => days_v y m 1 p w L ⟨y0, y1, m0, m1, by omega, by omega⟩ (by omega))
  have C := Lib.hid (fun w L => days_v y m n (p + n - 1) w L ⟨y0, y1, m0, m1, by omega, by omega⟩ (by omega))
  have D := Lib.hid (fun w L => days_no y m (n + 1) w L (fun v => by have := v.2.2.2.2.2; omega))
  have E := Lib.hid (fun w L => days_no y m 0 w L (fun v => by have := v.2.2.2.2.1; omega))
  have F := Lib.hid (fun w L => days_v y 1 1 q w L ⟨y0, y1, by omega, by omega, by omega, by omega⟩ (by omega))
  have G := Lib.hid (fun w L => days_v y 12 31 (q + 364 + l) w L ⟨y0, y1, by omega, by omega, by omega, by omega⟩ (by omega))
  rw [hn] at A
  have NX : Hid (∀ w, Lay w → m < 12 → Calls Tryd.prog 17 #[.int .i64 y, .int .i64 (m + 1), .int .i64 1] w fun e w' => e = .returned (.tuple #[.int .i64 (p + n), .int .i64 0]) ∧ w = w') := Lib.hid (fun w L hm => by
    have k := Civ.cum_succ y m m0 m1
    have d' := Civ.dim_bd y (m + 1)
    exact days_v y (m + 1) 1 (p + n) w L ⟨y0, y1, by omega, by omega, by omega, by omega⟩ (by omega))
  have NY : Hid (∀ w, Lay w → m = 12 → y < 9999 → Calls Tryd.prog 17 #[.int .i64 (y + 1), .int .i64 1, .int .i64 1] w fun e w' => e = .returned (.tuple #[.int .i64 (p + n), .int .i64 0]) ∧ w = w') := Lib.hid (fun w L hm hy => by
    have k := Civ.dby_succ y
    have c' := Civ.cum_one (y + 1)
    have d' : Civ.dim (y + 1) 1 = 31 := by simp [Civ.dim]
    subst hm
    exact days_v (y + 1) 1 1 (p + n) w L ⟨by omega, by omega, by omega, by omega, by omega, by omega⟩ (by omega))
  have n0 : 28 ≤ n := by omega
  have n1 : n ≤ 31 := by omega
  have p0 : 0 ≤ p := by omega
  have p1 : p ≤ 3000000 := by omega
  have q0' : 0 ≤ q := by omega
  have q1' : q ≤ 3000000 := by omega
  have LP : Hid (l = if lpB y = true then 1 else 0) := Lib.hid (by rw [← hl]; exact lpB_lp y)
  have EY := Lib.hid ey
  clear hn hp hq hl d c q0 q1 c1 c12 d1 d12
  have l1 : l = 1 := by rw [LP.out, if_pos lp]
  subst l1
  have H := Lib.hid (fun w => (by have := leap_any y w; rwa [lp] at this : Calls Tryd.prog 19 #[.int .i64 y] w fun e w' => e = .returned (.bool true) ∧ w = w'))
  clear LP lp
  have NX' := Lib.hid (fun w L => NX.out w L mm)
  have t0 : (m == 12) = false := by rw [beq_eq_false_iff_ne]; omega
  have mg : decide (12 < m + 1) = false := by simp; omega
  have t1 : (y == 9999) = false := by rw [beq_eq_false_iff_ne]; omega
  clear NX NY mm yy
  go_enter Tryd.func10, Tryd.ntmps10
  go_wp2_with fail
  refine (A.out w L).mono ?_
  rintro e w' ⟨rfl, rfl⟩
  go_wp2_with fail
  refine (B.out w L).mono ?_
  rintro e w' ⟨rfl, rfl⟩
  go_wp2_with fail
  refine (C.out w L).mono ?_
  rintro e w' ⟨rfl, rfl⟩
  go_wp2_with fail
  refine (D.out w L).mono ?_
  rintro e w' ⟨rfl, rfl⟩
  go_wp2_with fail
  refine (E.out w L).mono ?_
  rintro e w' ⟨rfl, rfl⟩
  go_wp2_with fail
  refine (F.out w L).mono ?_
  rintro e w' ⟨rfl, rfl⟩
  go_wp2_with fail
  refine (G.out w L).mono ?_
  rintro e w' ⟨rfl, rfl⟩
  go_wp2_with fail
  refine (H.out w).mono ?_
  rintro e w' ⟨rfl, rfl⟩
  go_wp2_with fail
  refine (NX'.out w L).mono ?_
  rintro e w' ⟨rfl, rfl⟩
  go_wp2_with fail
  refine (works_any w L).mono ?_
  rintro e w1 ⟨rfl, b⟩
  go_wp2_with fail
  go_ret
  exact ⟨rfl, b⟩

set_option maxRecDepth 100000 in
set_option maxHeartbeats 1000000 in
theorem road_t_mb (a b y m : Int) (w : World) (L : Lay w) (a0 : 0 ≤ a) (a1 : a ≤ 65535) (b0 : 0 ≤ b) (b1 : b ≤ 255) (ey : 1970 + a % 8030 = y) (em : 1 + b % 12 = m) (lp : lpB y = true) (mm : m < 12) (yy : y = 9999) :
    Calls Tryd.prog 10 #[.int .u16 a, .int .u8 b] w fun e w' => e = .returned (.bool true) ∧ Below w.heap.size w w' := by
  have y0 : 1970 ≤ y := by omega
  have y1 : y ≤ 9999 := by omega
  have m0 : 1 ≤ m := by omega
  have m1 : m ≤ 12 := by omega
  obtain ⟨n, hn⟩ : ∃ n, Civ.dim y m = n := ⟨_, rfl⟩
  obtain ⟨p, hp⟩ : ∃ p, Civ.dby y + Civ.cum y m = p := ⟨_, rfl⟩
  obtain ⟨q, hq⟩ : ∃ q, Civ.dby y = q := ⟨_, rfl⟩
  obtain ⟨l, hl⟩ : ∃ l, Civ.lp y = l := ⟨_, rfl⟩
  have d := Civ.dim_bd y m
  have c := Civ.cum_bd y m
  have l01 := Civ.lp_01 y
  have q0 := Civ.dby_mono y0
  have q1 := Civ.dby_mono (show y ≤ 10000 by omega)
  have c1 := Civ.cum_one y
  have c12 : Civ.cum y 12 = 334 + Civ.lp y := by simp [Civ.cum]
  have d1 : Civ.dim y 1 = 31 := by simp [Civ.dim]
  have d12 : Civ.dim y 12 = 31 := by simp [Civ.dim]
  rw [Civ.dby_first] at q0
  rw [Civ.dby_end] at q1
  have A := Lib.hid (fun w L => length_yes y m w L y0 y1 m0 m1)
  have B := Lib.hid (fun w L => days_v y m 1 p w L ⟨y0, y1, m0, m1, by omega, by omega⟩ (by omega))
  have C := Lib.hid (fun w L => days_v y m n (p + n - 1) w L ⟨y0, y1, m0, m1, by omega, by omega⟩ (by omega))
  have D := Lib.hid (fun w L => days_no y m (n + 1) w L (fun v => by have := v.2.2.2.2.2; omega))
  have E := Lib.hid (fun w L => days_no y m 0 w L (fun v => by have := v.2.2.2.2.1; omega))
  have F := Lib.hid (fun w L => days_v y 1 1 q w L ⟨y0, y1, by omega, by omega, by omega, by omega⟩ (by omega))
  have G := Lib.hid (fun w L => days_v y 12 31 (q + 364 + l) w L ⟨y0, y1, by omega, by omega, by omega, by omega⟩ (by omega))
  rw [hn] at A
  have NX : Hid (∀ w, Lay w → m < 12 → Calls Tryd.prog 17 #[.int .i64 y, .int .i64 (m + 1), .int .i64 1] w fun e w' => e = .returned (.tuple #[.int .i64 (p + n), .int .i64 0]) ∧ w = w') := Lib.hid (fun w L hm => by
    have k := Civ.cum_succ y m m0 m1
    have d' := Civ.dim_bd y (m + 1)
    exact days_v y (m + 1) 1 (p + n) w L ⟨y0, y1, by omega, by omega, by omega, by omega⟩ (by omega))
  have NY : Hid (∀ w, Lay w → m = 12 → y < 9999 → Calls Tryd.prog 17 #[.int .i64 (y + 1), .int .i64 1, .int .i64 1] w fun e w' => e = .returned (.tuple #[.int .i64 (p + n), .int .i64 0]) ∧ w = w') := Lib.hid (fun w L hm hy => by
    have k := Civ.dby_succ y
    have c' := Civ.cum_one (y + 1)
    have d' : Civ.dim (y + 1) 1 = 31 := by simp [Civ.dim]
    subst hm
    exact days_v (y + 1) 1 1 (p + n) w L ⟨by omega, by omega, by omega, by omega, by omega, by omega⟩ (by omega))
  have n0 : 28 ≤ n := by omega
  have n1 : n ≤ 31 := by omega
  have p0 : 0 ≤ p := by omega
  have p1 : p ≤ 3000000 := by omega
  have q0' : 0 ≤ q := by omega
  have q1' : q ≤ 3000000 := by omega
  have LP : Hid (l = if lpB y = true then 1 else 0) := Lib.hid (by rw [← hl]; exact lpB_lp y)
  have EY := Lib.hid ey
  clear hn hp hq hl d c q0 q1 c1 c12 d1 d12
  have l1 : l = 1 := by rw [LP.out, if_pos lp]
  subst l1
  have H := Lib.hid (fun w => (by have := leap_any y w; rwa [lp] at this : Calls Tryd.prog 19 #[.int .i64 y] w fun e w' => e = .returned (.bool true) ∧ w = w'))
  clear LP lp
  have NX' := Lib.hid (fun w L => NX.out w L mm)
  have t0 : (m == 12) = false := by rw [beq_eq_false_iff_ne]; omega
  have mg : decide (12 < m + 1) = false := by simp; omega
  have t1 : (y == 9999) = true := by rw [beq_iff_eq]; exact yy
  clear NX NY mm yy
  go_enter Tryd.func10, Tryd.ntmps10
  go_wp2_with fail
  refine (A.out w L).mono ?_
  rintro e w' ⟨rfl, rfl⟩
  go_wp2_with fail
  refine (B.out w L).mono ?_
  rintro e w' ⟨rfl, rfl⟩
  go_wp2_with fail
  refine (C.out w L).mono ?_
  rintro e w' ⟨rfl, rfl⟩
  go_wp2_with fail
  refine (D.out w L).mono ?_
  rintro e w' ⟨rfl, rfl⟩
  go_wp2_with fail
  refine (E.out w L).mono ?_
  rintro e w' ⟨rfl, rfl⟩
  go_wp2_with fail
  refine (F.out w L).mono ?_
  rintro e w' ⟨rfl, rfl⟩
  go_wp2_with fail
  refine (G.out w L).mono ?_
  rintro e w' ⟨rfl, rfl⟩
  go_wp2_with fail
  refine (H.out w).mono ?_
  rintro e w' ⟨rfl, rfl⟩
  go_wp2_with fail
  refine (NX'.out w L).mono ?_
  rintro e w' ⟨rfl, rfl⟩
  go_wp2_with fail
  refine (works_any w L).mono ?_
  rintro e w1 ⟨rfl, b⟩
  go_wp2_with fail
  go_ret
  exact ⟨rfl, b⟩

set_option maxRecDepth 100000 in
set_option maxHeartbeats 1000000 in
theorem road_t_na (a b y m : Int) (w : World) (L : Lay w) (a0 : 0 ≤ a) (a1 : a ≤ 65535) (b0 : 0 ≤ b) (b1 : b ≤ 255) (ey : 1970 + a % 8030 = y) (em : 1 + b % 12 = m) (lp : lpB y = true) (mm : m = 12) (yy : y < 9999) :
    Calls Tryd.prog 10 #[.int .u16 a, .int .u8 b] w fun e w' => e = .returned (.bool true) ∧ Below w.heap.size w w' := by
  have y0 : 1970 ≤ y := by omega
  have y1 : y ≤ 9999 := by omega
  have m0 : 1 ≤ m := by omega
  have m1 : m ≤ 12 := by omega
  obtain ⟨n, hn⟩ : ∃ n, Civ.dim y m = n := ⟨_, rfl⟩
  obtain ⟨p, hp⟩ : ∃ p, Civ.dby y + Civ.cum y m = p := ⟨_, rfl⟩
  obtain ⟨q, hq⟩ : ∃ q, Civ.dby y = q := ⟨_, rfl⟩
  obtain ⟨l, hl⟩ : ∃ l, Civ.lp y = l := ⟨_, rfl⟩
  have d := Civ.dim_bd y m
  have c := Civ.cum_bd y m
  have l01 := Civ.lp_01 y
  have q0 := Civ.dby_mono y0
  have q1 := Civ.dby_mono (show y ≤ 10000 by omega)
  have c1 := Civ.cum_one y
  have c12 : Civ.cum y 12 = 334 + Civ.lp y := by simp [Civ.cum]
  have d1 : Civ.dim y 1 = 31 := by simp [Civ.dim]
  have d12 : Civ.dim y 12 = 31 := by simp [Civ.dim]
  rw [Civ.dby_first] at q0
  rw [Civ.dby_end] at q1
  have A := Lib.hid (fun w L => length_yes y m w L y0 y1 m0 m1)
  have B := Lib.hid (fun w L => days_v y m 1 p w L ⟨y0, y1, m0, m1, by omega, by omega⟩ (by omega))
  have C := Lib.hid (fun w L => days_v y m n (p + n - 1) w L ⟨y0, y1, m0, m1, by omega, by omega⟩ (by omega))
  have D := Lib.hid (fun w L => days_no y m (n + 1) w L (fun v => by have := v.2.2.2.2.2; omega))
  have E := Lib.hid (fun w L => days_no y m 0 w L (fun v => by have := v.2.2.2.2.1; omega))
  have F := Lib.hid (fun w L => days_v y 1 1 q w L ⟨y0, y1, by omega, by omega, by omega, by omega⟩ (by omega))
  have G := Lib.hid (fun w L => days_v y 12 31 (q + 364 + l) w L ⟨y0, y1, by omega, by omega, by omega, by omega⟩ (by omega))
  rw [hn] at A
  have NX : Hid (∀ w, Lay w → m < 12 → Calls Tryd.prog 17 #[.int .i64 y, .int .i64 (m + 1), .int .i64 1] w fun e w' => e = .returned (.tuple #[.int .i64 (p + n), .int .i64 0]) ∧ w = w') := Lib.hid (fun w L hm => by
    have k := Civ.cum_succ y m m0 m1
    have d' := Civ.dim_bd y (m + 1)
    exact days_v y (m + 1) 1 (p + n) w L ⟨y0, y1, by omega, by omega, by omega, by omega⟩ (by omega))
  have NY : Hid (∀ w, Lay w → m = 12 → y < 9999 → Calls Tryd.prog 17 #[.int .i64 (y + 1), .int .i64 1, .int .i64 1] w fun e w' => e = .returned (.tuple #[.int .i64 (p + n), .int .i64 0]) ∧ w = w') := Lib.hid (fun w L hm hy => by
    have k := Civ.dby_succ y
    have c' := Civ.cum_one (y + 1)
    have d' : Civ.dim (y + 1) 1 = 31 := by simp [Civ.dim]
    subst hm
    exact days_v (y + 1) 1 1 (p + n) w L ⟨by omega, by omega, by omega, by omega, by omega, by omega⟩ (by omega))
  have n0 : 28 ≤ n := by omega
  have n1 : n ≤ 31 := by omega
  have p0 : 0 ≤ p := by omega
  have p1 : p ≤ 3000000 := by omega
  have q0' : 0 ≤ q := by omega
  have q1' : q ≤ 3000000 := by omega
  have LP : Hid (l = if lpB y = true then 1 else 0) := Lib.hid (by rw [← hl]; exact lpB_lp y)
  have EY := Lib.hid ey
  clear hn hp hq hl d c q0 q1 c1 c12 d1 d12
  have l1 : l = 1 := by rw [LP.out, if_pos lp]
  subst l1
  have H := Lib.hid (fun w => (by have := leap_any y w; rwa [lp] at this : Calls Tryd.prog 19 #[.int .i64 y] w fun e w' => e = .returned (.bool true) ∧ w = w'))
  clear LP lp
  have NX' := Lib.hid (fun w L => NY.out w L mm yy)
  have t0 : (m == 12) = true := by rw [beq_iff_eq]; exact mm
  have mg : decide (12 < m + 1) = true := by simp; omega
  have t1 : (y == 9999) = false := by rw [beq_eq_false_iff_ne]; omega
  clear NX NY mm yy
  go_enter Tryd.func10, Tryd.ntmps10
  go_wp2_with fail
  refine (A.out w L).mono ?_
  rintro e w' ⟨rfl, rfl⟩
  go_wp2_with fail
  refine (B.out w L).mono ?_
  rintro e w' ⟨rfl, rfl⟩
  go_wp2_with fail
  refine (C.out w L).mono ?_
  rintro e w' ⟨rfl, rfl⟩
  go_wp2_with fail
  refine (D.out w L).mono ?_
  rintro e w' ⟨rfl, rfl⟩
  go_wp2_with fail
  refine (E.out w L).mono ?_
  rintro e w' ⟨rfl, rfl⟩
  go_wp2_with fail
  refine (F.out w L).mono ?_
  rintro e w' ⟨rfl, rfl⟩
  go_wp2_with fail
  refine (G.out w L).mono ?_
  rintro e w' ⟨rfl, rfl⟩
  go_wp2_with fail
  refine (H.out w).mono ?_
  rintro e w' ⟨rfl, rfl⟩
  go_wp2_with fail
  refine (NX'.out w L).mono ?_
  rintro e w' ⟨rfl, rfl⟩
  go_wp2_with fail
  refine (works_any w L).mono ?_
  rintro e w1 ⟨rfl, b⟩
  go_wp2_with fail
  go_ret
  exact ⟨rfl, b⟩

set_option maxRecDepth 100000 in
set_option maxHeartbeats 1000000 in
theorem road_t_nb (a b y m : Int) (w : World) (L : Lay w) (a0 : 0 ≤ a) (a1 : a ≤ 65535) (b0 : 0 ≤ b) (b1 : b ≤ 255) (ey : 1970 + a % 8030 = y) (em : 1 + b % 12 = m) (lp : lpB y = true) (mm : m = 12) (yy : y = 9999) :
    Calls Tryd.prog 10 #[.int .u16 a, .int .u8 b] w fun e w' => e = .returned (.bool true) ∧ Below w.heap.size w w' := by
  have y0 : 1970 ≤ y := by omega
  have y1 : y ≤ 9999 := by omega
  have m0 : 1 ≤ m := by omega
  have m1 : m ≤ 12 := by omega
  obtain ⟨n, hn⟩ : ∃ n, Civ.dim y m = n := ⟨_, rfl⟩
  obtain ⟨p, hp⟩ : ∃ p, Civ.dby y + Civ.cum y m = p := ⟨_, rfl⟩
  obtain ⟨q, hq⟩ : ∃ q, Civ.dby y = q := ⟨_, rfl⟩
  obtain ⟨l, hl⟩ : ∃ l, Civ.lp y = l := ⟨_, rfl⟩
  have d := Civ.dim_bd y m
  have c := Civ.cum_bd y m
  have l01 := Civ.lp_01 y
  have q0 := Civ.dby_mono y0
  have q1 := Civ.dby_mono (show y ≤ 10000 by omega)
  have c1 := Civ.cum_one y
  have c12 : Civ.cum y 12 = 334 + Civ.lp y := by simp [Civ.cum]
  have d1 : Civ.dim y 1 = 31 := by simp [Civ.dim]
  have d12 : Civ.dim y 12 = 31 := by simp [Civ.dim]
  rw [Civ.dby_first] at q0
  rw [Civ.dby_end] at q1
  have A := Lib.hid (fun w L => length_yes y m w L y0 y1 m0 m1)
  have B := Lib.hid (fun w L => days_v y m 1 p w L ⟨y0, y1, m0, m1, by omega, by omega⟩ (by omega))
  have C := Lib.hid (fun w L => days_v y m n (p + n - 1) w L ⟨y0, y1, m0, m1, by omega, by omega⟩ (by omega))
  have D := Lib.hid (fun w L => days_no y m (n + 1) w L (fun v => by have := v.2.2.2.2.2; omega))
  have E := Lib.hid (fun w L => days_no y m 0 w L (fun v => by have := v.2.2.2.2.1; omega))
  have F := Lib.hid (fun w L => days_v y 1 1 q w L ⟨y0, y1, by omega, by omega, by omega, by omega⟩ (by omega))
  have G := Lib.hid (fun w L => days_v y 12 31 (q + 364 + l) w L ⟨y0, y1, by omega, by omega, by omega, by omega⟩ (by omega))
  rw [hn] at A
  have NX : Hid (∀ w, Lay w → m < 12 → Calls Tryd.prog 17 #[.int .i64 y, .int .i64 (m + 1), .int .i64 1] w fun e w' => e = .returned (.tuple #[.int .i64 (p + n), .int .i64 0]) ∧ w = w') := Lib.hid (fun w L hm => by
    have k := Civ.cum_succ y m m0 m1
    have d' := Civ.dim_bd y (m + 1)
    exact days_v y (m + 1) 1 (p + n) w L ⟨y0, y1, by omega, by omega, by omega, by omega⟩ (by omega))
  have NY : Hid (∀ w, Lay w → m = 12 → y < 9999 → Calls Tryd.prog 17 #[.int .i64 (y + 1), .int .i64 1, .int .i64 1] w fun e w' => e = .returned (.tuple #[.int .i64 (p + n), .int .i64 0]) ∧ w = w') := Lib.hid (fun w L hm hy => by
    have k := Civ.dby_succ y
    have c' := Civ.cum_one (y + 1)
    have d' : Civ.dim (y + 1) 1 = 31 := by simp [Civ.dim]
    subst hm
    exact days_v (y + 1) 1 1 (p + n) w L ⟨by omega, by omega, by omega, by omega, by omega, by omega⟩ (by omega))
  have n0 : 28 ≤ n := by omega
  have n1 : n ≤ 31 := by omega
  have p0 : 0 ≤ p := by omega
  have p1 : p ≤ 3000000 := by omega
  have q0' : 0 ≤ q := by omega
  have q1' : q ≤ 3000000 := by omega
  have LP : Hid (l = if lpB y = true then 1 else 0) := Lib.hid (by rw [← hl]; exact lpB_lp y)
  have EY := Lib.hid ey
  clear hn hp hq hl d c q0 q1 c1 c12 d1 d12
  have l1 : l = 1 := by rw [LP.out, if_pos lp]
  subst l1
  have H := Lib.hid (fun w => (by have := leap_any y w; rwa [lp] at this : Calls Tryd.prog 19 #[.int .i64 y] w fun e w' => e = .returned (.bool true) ∧ w = w'))
  clear LP lp
  have t0 : (m == 12) = true := by rw [beq_iff_eq]; exact mm
  have mg : decide (12 < m + 1) = true := by simp; omega
  have t1 : (y == 9999) = true := by rw [beq_iff_eq]; exact yy
  clear NX NY mm yy
  go_enter Tryd.func10, Tryd.ntmps10
  go_wp2_with fail
  refine (A.out w L).mono ?_
  rintro e w' ⟨rfl, rfl⟩
  go_wp2_with fail
  refine (B.out w L).mono ?_
  rintro e w' ⟨rfl, rfl⟩
  go_wp2_with fail
  refine (C.out w L).mono ?_
  rintro e w' ⟨rfl, rfl⟩
  go_wp2_with fail
  refine (D.out w L).mono ?_
  rintro e w' ⟨rfl, rfl⟩
  go_wp2_with fail
  refine (E.out w L).mono ?_
  rintro e w' ⟨rfl, rfl⟩
  go_wp2_with fail
  refine (F.out w L).mono ?_
  rintro e w' ⟨rfl, rfl⟩
  go_wp2_with fail
  refine (G.out w L).mono ?_
  rintro e w' ⟨rfl, rfl⟩
  go_wp2_with fail
  refine (H.out w).mono ?_
  rintro e w' ⟨rfl, rfl⟩
  go_wp2_with fail
  refine (works_any w L).mono ?_
  rintro e w1 ⟨rfl, b⟩
  go_wp2_with fail
  go_ret
  exact ⟨rfl, b⟩

set_option maxRecDepth 100000 in
set_option maxHeartbeats 1000000 in
theorem road_f_ma (a b y m : Int) (w : World) (L : Lay w) (a0 : 0 ≤ a) (a1 : a ≤ 65535) (b0 : 0 ≤ b) (b1 : b ≤ 255) (ey : 1970 + a % 8030 = y) (em : 1 + b % 12 = m) (lp : lpB y = false) (mm : m < 12) (yy : y < 9999) :
    Calls Tryd.prog 10 #[.int .u16 a, .int .u8 b] w fun e w' => e = .returned (.bool true) ∧ Below w.heap.size w w' := by
  have y0 : 1970 ≤ y := by omega
  have y1 : y ≤ 9999 := by omega
  have m0 : 1 ≤ m := by omega
  have m1 : m ≤ 12 := by omega
  obtain ⟨n, hn⟩ : ∃ n, Civ.dim y m = n := ⟨_, rfl⟩
  obtain ⟨p, hp⟩ : ∃ p, Civ.dby y + Civ.cum y m = p := ⟨_, rfl⟩
  obtain ⟨q, hq⟩ : ∃ q, Civ.dby y = q := ⟨_, rfl⟩
  obtain ⟨l, hl⟩ : ∃ l, Civ.lp y = l := ⟨_, rfl⟩
  have d := Civ.dim_bd y m
  have c := Civ.cum_bd y m
  have l01 := Civ.lp_01 y
  have q0 := Civ.dby_mono y0
  have q1 := Civ.dby_mono (show y ≤ 10000 by omega)
  have c1 := Civ.cum_one y
  have c12 : Civ.cum y 12 = 334 + Civ.lp y := by simp [Civ.cum]
  have d1 : Civ.dim y 1 = 31 := by simp [Civ.dim]
  have d12 : Civ.dim y 12 = 31 := by simp [Civ.dim]
  rw [Civ.dby_first] at q0
  rw [Civ.dby_end] at q1
  have A := Lib.hid (fun w L => length_yes y m w L y0 y1 m0 m1)
  have B := Lib.hid (fun w L => days_v y m 1 p w L ⟨y0, y1, m0, m1, by omega, by omega⟩ (by omega))
  have C := Lib.hid (fun w L => days_v y m n (p + n - 1) w L ⟨y0, y1, m0, m1, by omega, by omega⟩ (by omega))
  have D := Lib.hid (fun w L => days_no y m (n + 1) w L (fun v => by have := v.2.2.2.2.2; omega))
  have E := Lib.hid (fun w L => days_no y m 0 w L (fun v => by have := v.2.2.2.2.1; omega))
  have F := Lib.hid (fun w L => days_v y 1 1 q w L ⟨y0, y1, by omega, by omega, by omega, by omega⟩ (by omega))
  have G := Lib.hid (fun w L => days_v y 12 31 (q + 364 + l) w L ⟨y0, y1, by omega, by omega, by omega, by omega⟩ (by omega))
  rw [hn] at A
  have NX : Hid (∀ w, Lay w → m < 12 → Calls Tryd.prog 17 #[.int .i64 y, .int .i64 (m + 1), .int .i64 1] w fun e w' => e = .returned (.tuple #[.int .i64 (p + n), .int .i64 0]) ∧ w = w') := Lib.hid (fun w L hm => by
    have k := Civ.cum_succ y m m0 m1
    have d' := Civ.dim_bd y (m + 1)
    exact days_v y (m + 1) 1 (p + n) w L ⟨y0, y1, by omega, by omega, by omega, by omega⟩ (by omega))
  have NY : Hid (∀ w, Lay w → m = 12 → y < 9999 → Calls Tryd.prog 17 #[.int .i64 (y + 1), .int .i64 1, .int .i64 1] w fun e w' => e = .returned (.tuple #[.int .i64 (p + n), .int .i64 0]) ∧ w = w') := Lib.hid (fun w L hm hy => by
    have k := Civ.dby_succ y
    have c' := Civ.cum_one (y + 1)
    have d' : Civ.dim (y + 1) 1 = 31 := by simp [Civ.dim]
    subst hm
    exact days_v (y + 1) 1 1 (p + n) w L ⟨by omega, by omega, by omega, by omega, by omega, by omega⟩ (by omega))
  have n0 : 28 ≤ n := by omega
  have n1 : n ≤ 31 := by omega
  have p0 : 0 ≤ p := by omega
  have p1 : p ≤ 3000000 := by omega
  have q0' : 0 ≤ q := by omega
  have q1' : q ≤ 3000000 := by omega
  have LP : Hid (l = if lpB y = true then 1 else 0) := Lib.hid (by rw [← hl]; exact lpB_lp y)
  have EY := Lib.hid ey
  clear hn hp hq hl d c q0 q1 c1 c12 d1 d12
  have l1 : l = 0 := by rw [LP.out, if_neg (by simp [lp])]
  subst l1
  have H := Lib.hid (fun w => (by have := leap_any y w; rwa [lp] at this : Calls Tryd.prog 19 #[.int .i64 y] w fun e w' => e = .returned (.bool false) ∧ w = w'))
  clear LP lp
  have NX' := Lib.hid (fun w L => NX.out w L mm)
  have t0 : (m == 12) = false := by rw [beq_eq_false_iff_ne]; omega
  have mg : decide (12 < m + 1) = false := by simp; omega
  have t1 : (y == 9999) = false := by rw [beq_eq_false_iff_ne]; omega
  clear NX NY mm yy
  go_enter Tryd.func10, Tryd.ntmps10
  go_wp2_with fail
  refine (A.out w L).mono ?_
  rintro e w' ⟨rfl, rfl⟩
  go_wp2_with fail
  refine (B.out w L).mono ?_
  rintro e w' ⟨rfl, rfl⟩
  go_wp2_with fail
  refine (C.out w L).mono ?_
  rintro e w' ⟨rfl, rfl⟩
  go_wp2_with fail
  refine (D.out w L).mono ?_
  rintro e w' ⟨rfl, rfl⟩
  go_wp2_with fail
  refine (E.out w L).mono ?_
  rintro e w' ⟨rfl, rfl⟩
  go_wp2_with fail
  refine (F.out w L).mono ?_
  rintro e w' ⟨rfl, rfl⟩
  go_wp2_with fail
  refine (G.out w L).mono ?_
  rintro e w' ⟨rfl, rfl⟩
  go_wp2_with fail
  refine (H.out w).mono ?_
  rintro e w' ⟨rfl, rfl⟩
  go_wp2_with fail
  refine (NX'.out w L).mono ?_
  rintro e w' ⟨rfl, rfl⟩
  go_wp2_with fail
  refine (works_any w L).mono ?_
  rintro e w1 ⟨rfl, b⟩
  go_wp2_with fail
  go_ret
  exact ⟨rfl, b⟩

set_option maxRecDepth 100000 in
set_option maxHeartbeats 1000000 in
theorem road_f_mb (a b y m : Int) (w : World) (L : Lay w) (a0 : 0 ≤ a) (a1 : a ≤ 65535) (b0 : 0 ≤ b) (b1 : b ≤ 255) (ey : 1970 + a % 8030 = y) (em : 1 + b % 12 = m) (lp : lpB y = false) (mm : m < 12) (yy : y = 9999) :
    Calls Tryd.prog 10 #[.int .u16 a, .int .u8 b] w fun e w' => e = .returned (.bool true) ∧ Below w.heap.size w w' := by
  have y0 : 1970 ≤ y := by omega
  have y1 : y ≤ 9999 := by omega
  have m0 : 1 ≤ m := by omega
  have m1 : m ≤ 12 := by omega
  obtain ⟨n, hn⟩ : ∃ n, Civ.dim y m = n := ⟨_, rfl⟩
  obtain ⟨p, hp⟩ : ∃ p, Civ.dby y + Civ.cum y m = p := ⟨_, rfl⟩
  obtain ⟨q, hq⟩ : ∃ q, Civ.dby y = q := ⟨_, rfl⟩
  obtain ⟨l, hl⟩ : ∃ l, Civ.lp y = l := ⟨_, rfl⟩
  have d := Civ.dim_bd y m
  have c := Civ.cum_bd y m
  have l01 := Civ.lp_01 y
  have q0 := Civ.dby_mono y0
  have q1 := Civ.dby_mono (show y ≤ 10000 by omega)
  have c1 := Civ.cum_one y
  have c12 : Civ.cum y 12 = 334 + Civ.lp y := by simp [Civ.cum]
  have d1 : Civ.dim y 1 = 31 := by simp [Civ.dim]
  have d12 : Civ.dim y 12 = 31 := by simp [Civ.dim]
  rw [Civ.dby_first] at q0
  rw [Civ.dby_end] at q1
  have A := Lib.hid (fun w L => length_yes y m w L y0 y1 m0 m1)
  have B := Lib.hid (fun w L => days_v y m 1 p w L ⟨y0, y1, m0, m1, by omega, by omega⟩ (by omega))
  have C := Lib.hid (fun w L => days_v y m n (p + n - 1) w L ⟨y0, y1, m0, m1, by omega, by omega⟩ (by omega))
  have D := Lib.hid (fun w L => days_no y m (n + 1) w L (fun v => by have := v.2.2.2.2.2; omega))
  have E := Lib.hid (fun w L => days_no y m 0 w L (fun v => by have := v.2.2.2.2.1; omega))
  have F := Lib.hid (fun w L => days_v y 1 1 q w L ⟨y0, y1, by omega, by omega, by omega, by omega⟩ (by omega))
  have G := Lib.hid (fun w L => days_v y 12 31 (q + 364 + l) w L ⟨y0, y1, by omega, by omega, by omega, by omega⟩ (by omega))
  rw [hn] at A
  have NX : Hid (∀ w, Lay w → m < 12 → Calls Tryd.prog 17 #[.int .i64 y, .int .i64 (m + 1), .int .i64 1] w fun e w' => e = .returned (.tuple #[.int .i64 (p + n), .int .i64 0]) ∧ w = w') := Lib.hid (fun w L hm => by
    have k := Civ.cum_succ y m m0 m1
    have d' := Civ.dim_bd y (m + 1)
    exact days_v y (m + 1) 1 (p + n) w L ⟨y0, y1, by omega, by omega, by omega, by omega⟩ (by omega))
  have NY : Hid (∀ w, Lay w → m = 12 → y < 9999 → Calls Tryd.prog 17 #[.int .i64 (y + 1), .int .i64 1, .int .i64 1] w fun e w' => e = .returned (.tuple #[.int .i64 (p + n), .int .i64 0]) ∧ w = w') := Lib.hid (fun w L hm hy => by
    have k := Civ.dby_succ y
    have c' := Civ.cum_one (y + 1)
    have d' : Civ.dim (y + 1) 1 = 31 := by simp [Civ.dim]
    subst hm
    exact days_v (y + 1) 1 1 (p + n) w L ⟨by omega, by omega, by omega, by omega, by omega, by omega⟩ (by omega))
  have n0 : 28 ≤ n := by omega
  have n1 : n ≤ 31 := by omega
  have p0 : 0 ≤ p := by omega
  have p1 : p ≤ 3000000 := by omega
  have q0' : 0 ≤ q := by omega
  have q1' : q ≤ 3000000 := by omega
  have LP : Hid (l = if lpB y = true then 1 else 0) := Lib.hid (by rw [← hl]; exact lpB_lp y)
  have EY := Lib.hid ey
  clear hn hp hq hl d c q0 q1 c1 c12 d1 d12
  have l1 : l = 0 := by rw [LP.out, if_neg (by simp [lp])]
  subst l1
  have H := Lib.hid (fun w => (by have := leap_any y w; rwa [lp] at this : Calls Tryd.prog 19 #[.int .i64 y] w fun e w' => e = .returned (.bool false) ∧ w = w'))
  clear LP lp
  have NX' := Lib.hid (fun w L => NX.out w L mm)
  have t0 : (m == 12) = false := by rw [beq_eq_false_iff_ne]; omega
  have mg : decide (12 < m + 1) = false := by simp; omega
  have t1 : (y == 9999) = true := by rw [beq_iff_eq]; exact yy
  clear NX NY mm yy
  go_enter Tryd.func10, Tryd.ntmps10
  go_wp2_with fail
  refine (A.out w L).mono ?_
  rintro e w' ⟨rfl, rfl⟩
  go_wp2_with fail
  refine (B.out w L).mono ?_
  rintro e w' ⟨rfl, rfl⟩
  go_wp2_with fail
  refine (C.out w L).mono ?_
  rintro e w' ⟨rfl, rfl⟩
  go_wp2_with fail
  refine (D.out w L).mono ?_
  rintro e w' ⟨rfl, rfl⟩
  go_wp2_with fail
  refine (E.out w L).mono ?_
  rintro e w' ⟨rfl, rfl⟩
  go_wp2_with fail
  refine (F.out w L).mono ?_
  rintro e w' ⟨rfl, rfl⟩
  go_wp2_with fail
  refine (G.out w L).mono ?_
  rintro e w' ⟨rfl, rfl⟩
  go_wp2_with fail
  refine (H.out w).mono ?_
  rintro e w' ⟨rfl, rfl⟩
  go_wp2_with fail
  refine (NX'.out w L).mono ?_
  rintro e w' ⟨rfl, rfl⟩
  go_wp2_with fail
  refine (works_any w L).mono ?_
  rintro e w1 ⟨rfl, b⟩
  go_wp2_with fail
  go_ret
  exact ⟨rfl, b⟩

set_option maxRecDepth 100000 in
set_option maxHeartbeats 1000000 in
theorem road_f_na (a b y m : Int) (w : World) (L : Lay w) (a0 : 0 ≤ a) (a1 : a ≤ 65535) (b0 : 0 ≤ b) (b1 : b ≤ 255) (ey : 1970 + a % 8030 = y) (em : 1 + b % 12 = m) (lp : lpB y = false) (mm : m = 12) (yy : y < 9999) :
    Calls Tryd.prog 10 #[.int .u16 a, .int .u8 b] w fun e w' => e = .returned (.bool true) ∧ Below w.heap.size w w' := by
  have y0 : 1970 ≤ y := by omega
  have y1 : y ≤ 9999 := by omega
  have m0 : 1 ≤ m := by omega
  have m1 : m ≤ 12 := by omega
  obtain ⟨n, hn⟩ : ∃ n, Civ.dim y m = n := ⟨_, rfl⟩
  obtain ⟨p, hp⟩ : ∃ p, Civ.dby y + Civ.cum y m = p := ⟨_, rfl⟩
  obtain ⟨q, hq⟩ : ∃ q, Civ.dby y = q := ⟨_, rfl⟩
  obtain ⟨l, hl⟩ : ∃ l, Civ.lp y = l := ⟨_, rfl⟩
  have d := Civ.dim_bd y m
  have c := Civ.cum_bd y m
  have l01 := Civ.lp_01 y
  have q0 := Civ.dby_mono y0
  have q1 := Civ.dby_mono (show y ≤ 10000 by omega)
  have c1 := Civ.cum_one y
  have c12 : Civ.cum y 12 = 334 + Civ.lp y := by simp [Civ.cum]
  have d1 : Civ.dim y 1 = 31 := by simp [Civ.dim]
  have d12 : Civ.dim y 12 = 31 := by simp [Civ.dim]
  rw [Civ.dby_first] at q0
  rw [Civ.dby_end] at q1
  have A := Lib.hid (fun w L => length_yes y m w L y0 y1 m0 m1)
  have B := Lib.hid (fun w L => days_v y m 1 p w L ⟨y0, y1, m0, m1, by omega, by omega⟩ (by omega))
  have C := Lib.hid (fun w L => days_v y m n (p + n - 1) w L ⟨y0, y1, m0, m1, by omega, by omega⟩ (by omega))
  have D := Lib.hid (fun w L => days_no y m (n + 1) w L (fun v => by have := v.2.2.2.2.2; omega))
  have E := Lib.hid (fun w L => days_no y m 0 w L (fun v => by have := v.2.2.2.2.1; omega))
  have F := Lib.hid (fun w L => days_v y 1 1 q w L ⟨y0, y1, by omega, by omega, by omega, by omega⟩ (by omega))
  have G := Lib.hid (fun w L => days_v y 12 31 (q + 364 + l) w L ⟨y0, y1, by omega, by omega, by omega, by omega⟩ (by omega))
  rw [hn] at A
  have NX : Hid (∀ w, Lay w → m < 12 → Calls Tryd.prog 17 #[.int .i64 y, .int .i64 (m + 1), .int .i64 1] w fun e w' => e = .returned (.tuple #[.int .i64 (p + n), .int .i64 0]) ∧ w = w') := Lib.hid (fun w L hm => by
    have k := Civ.cum_succ y m m0 m1
    have d' := Civ.dim_bd y (m + 1)
    exact days_v y (m + 1) 1 (p + n) w L ⟨y0, y1, by omega, by omega, by omega, by omega⟩ (by omega))
  have NY : Hid (∀ w, Lay w → m = 12 → y < 9999 → Calls Tryd.prog 17 #[.int .i64 (y + 1), .int .i64 1, .int .i64 1] w fun e w' => e = .returned (.tuple #[.int .i64 (p + n), .int .i64 0]) ∧ w = w') := Lib.hid (fun w L hm hy => by
    have k := Civ.dby_succ y
    have c' := Civ.cum_one (y + 1)
    have d' : Civ.dim (y + 1) 1 = 31 := by simp [Civ.dim]
    subst hm
    exact days_v (y + 1) 1 1 (p + n) w L ⟨by omega, by omega, by omega, by omega, by omega, by omega⟩ (by omega))
  have n0 : 28 ≤ n := by omega
  have n1 : n ≤ 31 := by omega
  have p0 : 0 ≤ p := by omega
  have p1 : p ≤ 3000000 := by omega
  have q0' : 0 ≤ q := by omega
  have q1' : q ≤ 3000000 := by omega
  have LP : Hid (l = if lpB y = true then 1 else 0) := Lib.hid (by rw [← hl]; exact lpB_lp y)
  have EY := Lib.hid ey
  clear hn hp hq hl d c q0 q1 c1 c12 d1 d12
  have l1 : l = 0 := by rw [LP.out, if_neg (by simp [lp])]
  subst l1
  have H := Lib.hid (fun w => (by have := leap_any y w; rwa [lp] at this : Calls Tryd.prog 19 #[.int .i64 y] w fun e w' => e = .returned (.bool false) ∧ w = w'))
  clear LP lp
  have NX' := Lib.hid (fun w L => NY.out w L mm yy)
  have t0 : (m == 12) = true := by rw [beq_iff_eq]; exact mm
  have mg : decide (12 < m + 1) = true := by simp; omega
  have t1 : (y == 9999) = false := by rw [beq_eq_false_iff_ne]; omega
  clear NX NY mm yy
  go_enter Tryd.func10, Tryd.ntmps10
  go_wp2_with fail
  refine (A.out w L).mono ?_
  rintro e w' ⟨rfl, rfl⟩
  go_wp2_with fail
  refine (B.out w L).mono ?_
  rintro e w' ⟨rfl, rfl⟩
  go_wp2_with fail
  refine (C.out w L).mono ?_
  rintro e w' ⟨rfl, rfl⟩
  go_wp2_with fail
  refine (D.out w L).mono ?_
  rintro e w' ⟨rfl, rfl⟩
  go_wp2_with fail
  refine (E.out w L).mono ?_
  rintro e w' ⟨rfl, rfl⟩
  go_wp2_with fail
  refine (F.out w L).mono ?_
  rintro e w' ⟨rfl, rfl⟩
  go_wp2_with fail
  refine (G.out w L).mono ?_
  rintro e w' ⟨rfl, rfl⟩
  go_wp2_with fail
  refine (H.out w).mono ?_
  rintro e w' ⟨rfl, rfl⟩
  go_wp2_with fail
  refine (NX'.out w L).mono ?_
  rintro e w' ⟨rfl, rfl⟩
  go_wp2_with fail
  refine (works_any w L).mono ?_
  rintro e w1 ⟨rfl, b⟩
  go_wp2_with fail
  go_ret
  exact ⟨rfl, b⟩

set_option maxRecDepth 100000 in
set_option maxHeartbeats 1000000 in
theorem road_f_nb (a b y m : Int) (w : World) (L : Lay w) (a0 : 0 ≤ a) (a1 : a ≤ 65535) (b0 : 0 ≤ b) (b1 : b ≤ 255) (ey : 1970 + a % 8030 = y) (em : 1 + b % 12 = m) (lp : lpB y = false) (mm : m = 12) (yy : y = 9999) :
    Calls Tryd.prog 10 #[.int .u16 a, .int .u8 b] w fun e w' => e = .returned (.bool true) ∧ Below w.heap.size w w' := by
  have y0 : 1970 ≤ y := by omega
  have y1 : y ≤ 9999 := by omega
  have m0 : 1 ≤ m := by omega
  have m1 : m ≤ 12 := by omega
  obtain ⟨n, hn⟩ : ∃ n, Civ.dim y m = n := ⟨_, rfl⟩
  obtain ⟨p, hp⟩ : ∃ p, Civ.dby y + Civ.cum y m = p := ⟨_, rfl⟩
  obtain ⟨q, hq⟩ : ∃ q, Civ.dby y = q := ⟨_, rfl⟩
  obtain ⟨l, hl⟩ : ∃ l, Civ.lp y = l := ⟨_, rfl⟩
  have d := Civ.dim_bd y m
  have c := Civ.cum_bd y m
  have l01 := Civ.lp_01 y
  have q0 := Civ.dby_mono y0
  have q1 := Civ.dby_mono (show y ≤ 10000 by omega)
  have c1 := Civ.cum_one y
  have c12 : Civ.cum y 12 = 334 + Civ.lp y := by simp [Civ.cum]
  have d1 : Civ.dim y 1 = 31 := by simp [Civ.dim]
  have d12 : Civ.dim y 12 = 31 := by simp [Civ.dim]
  rw [Civ.dby_first] at q0
  rw [Civ.dby_end] at q1
  have A := Lib.hid (fun w L => length_yes y m w L y0 y1 m0 m1)
  have B := Lib.hid (fun w L => days_v y m 1 p w L ⟨y0, y1, m0, m1, by omega, by omega⟩ (by omega))
  have C := Lib.hid (fun w L => days_v y m n (p + n - 1) w L ⟨y0, y1, m0, m1, by omega, by omega⟩ (by omega))
  have D := Lib.hid (fun w L => days_no y m (n + 1) w L (fun v => by have := v.2.2.2.2.2; omega))
  have E := Lib.hid (fun w L => days_no y m 0 w L (fun v => by have := v.2.2.2.2.1; omega))
  have F := Lib.hid (fun w L => days_v y 1 1 q w L ⟨y0, y1, by omega, by omega, by omega, by omega⟩ (by omega))
  have G := Lib.hid (fun w L => days_v y 12 31 (q + 364 + l) w L ⟨y0, y1, by omega, by omega, by omega, by omega⟩ (by omega))
  rw [hn] at A
  have NX : Hid (∀ w, Lay w → m < 12 → Calls Tryd.prog 17 #[.int .i64 y, .int .i64 (m + 1), .int .i64 1] w fun e w' => e = .returned (.tuple #[.int .i64 (p + n), .int .i64 0]) ∧ w = w') := Lib.hid (fun w L hm => by
    have k := Civ.cum_succ y m m0 m1
    have d' := Civ.dim_bd y (m + 1)
    exact days_v y (m + 1) 1 (p + n) w L ⟨y0, y1, by omega, by omega, by omega, by omega⟩ (by omega))
  have NY : Hid (∀ w, Lay w → m = 12 → y < 9999 → Calls Tryd.prog 17 #[.int .i64 (y + 1), .int .i64 1, .int .i64 1] w fun e w' => e = .returned (.tuple #[.int .i64 (p + n), .int .i64 0]) ∧ w = w') := Lib.hid (fun w L hm hy => by
    have k := Civ.dby_succ y
    have c' := Civ.cum_one (y + 1)
    have d' : Civ.dim (y + 1) 1 = 31 := by simp [Civ.dim]
    subst hm
    exact days_v (y + 1) 1 1 (p + n) w L ⟨by omega, by omega, by omega, by omega, by omega, by omega⟩ (by omega))
  have n0 : 28 ≤ n := by omega
  have n1 : n ≤ 31 := by omega
  have p0 : 0 ≤ p := by omega
  have p1 : p ≤ 3000000 := by omega
  have q0' : 0 ≤ q := by omega
  have q1' : q ≤ 3000000 := by omega
  have LP : Hid (l = if lpB y = true then 1 else 0) := Lib.hid (by rw [← hl]; exact lpB_lp y)
  have EY := Lib.hid ey
  clear hn hp hq hl d c q0 q1 c1 c12 d1 d12
  have l1 : l = 0 := by rw [LP.out, if_neg (by simp [lp])]
  subst l1
  have H := Lib.hid (fun w => (by have := leap_any y w; rwa [lp] at this : Calls Tryd.prog 19 #[.int .i64 y] w fun e w' => e = .returned (.bool false) ∧ w = w'))
  clear LP lp
  have t0 : (m == 12) = true := by rw [beq_iff_eq]; exact mm
  have mg : decide (12 < m + 1) = true := by simp; omega
  have t1 : (y == 9999) = true := by rw [beq_iff_eq]; exact yy
  clear NX NY mm yy
  go_enter Tryd.func10, Tryd.ntmps10
  go_wp2_with fail
  refine (A.out w L).mono ?_
  rintro e w' ⟨rfl, rfl⟩
  go_wp2_with fail
  refine (B.out w L).mono ?_
  rintro e w' ⟨rfl, rfl⟩
  go_wp2_with fail
  refine (C.out w L).mono ?_
  rintro e w' ⟨rfl, rfl⟩
  go_wp2_with fail
  refine (D.out w L).mono ?_
  rintro e w' ⟨rfl, rfl⟩
  go_wp2_with fail
  refine (E.out w L).mono ?_
  rintro e w' ⟨rfl, rfl⟩
  go_wp2_with fail
  refine (F.out w L).mono ?_
  rintro e w' ⟨rfl, rfl⟩
  go_wp2_with fail
  refine (G.out w L).mono ?_
  rintro e w' ⟨rfl, rfl⟩
  go_wp2_with fail
  refine (H.out w).mono ?_
  rintro e w' ⟨rfl, rfl⟩
  go_wp2_with fail
  refine (works_any w L).mono ?_
  rintro e w1 ⟨rfl, b⟩
  go_wp2_with fail
  go_ret
  exact ⟨rfl, b⟩

theorem walk (a b : Int) (w : World) (L : Lay w) (wa : (Lit.int .u16 a).wf = true) (wb : (Lit.int .u8 b).wf = true) :
    Calls Tryd.prog 10 #[.int .u16 a, .int .u8 b] w fun e w' => e = .returned (.bool true) ∧ Below w.heap.size w w' := by
  obtain ⟨a0, a1⟩ := bounds_u16 wa
  obtain ⟨b0, b1⟩ := bounds_u8 wb
  by_cases mm : 1 + b % 12 < 12
  · by_cases yy : 1970 + a % 8030 < 9999
    · cases lp : lpB (1970 + a % 8030) with
      | true => exact road_t_ma a b _ _ w L a0 a1 b0 b1 rfl rfl lp mm yy
      | false => exact road_f_ma a b _ _ w L a0 a1 b0 b1 rfl rfl lp mm yy
    · cases lp : lpB (1970 + a % 8030) with
      | true => exact road_t_mb a b _ _ w L a0 a1 b0 b1 rfl rfl lp mm (by omega)
      | false => exact road_f_mb a b _ _ w L a0 a1 b0 b1 rfl rfl lp mm (by omega)
  · by_cases yy : 1970 + a % 8030 < 9999
    · cases lp : lpB (1970 + a % 8030) with
      | true => exact road_t_na a b _ _ w L a0 a1 b0 b1 rfl rfl lp (by omega) yy
      | false => exact road_f_na a b _ _ w L a0 a1 b0 b1 rfl rfl lp (by omega) yy
    · cases lp : lpB (1970 + a % 8030) with
      | true => exact road_t_nb a b _ _ w L a0 a1 b0 b1 rfl rfl lp (by omega) (by omega)
      | false => exact road_f_nb a b _ _ w L a0 a1 b0 b1 rfl rfl lp (by omega) (by omega)

theorem listed : Rows.civilMonthsRow.laid.find? isLengths = some (((Rows.civilMonthsRow.laid.find? isLengths).map (·.1)).getD "", Rows.laid_wakeman_civil_lengths) := by kernel_rfl

set_option maxRecDepth 100000 in
theorem lifted (os : Os) (started : os.Started) (H : Type) (enc : TypeId × Value → H) :
    ReturnsInHanded {} Tryd.checked os 10 .any (fun w args => (Rows.civilMonthsSpec.pre enc Tryd.prog Tryd.f10 [] false w args ∧ laidMetH Tryd.prog Rows.civilMonthsRow.laid w) ∧ sizedMet enc Tryd.prog Tryd.f10 (OpenSpec.ofChange Rows.civilMonthsSpec) false w args)
      (Rows.civilMonthsSpec.post enc Tryd.prog Tryd.f10 false true false false) := by
  refine returnsInHanded_of_change_and (C := Tryd.checked) (X := fun w _ => laidMetH Tryd.prog Rows.civilMonthsRow.laid w) (fun _ _ _ hh h => h.of_heap hh) own started (by kernel_rfl) Tryd.func10
    (ChangeSpec.witness_shaped (enc := enc) (C := Tryd.checked) (os := os) (X := fun w _ => laidMetH Tryd.prog Rows.civilMonthsRow.laid w) false (World.doorLaid Tryd.prog 400 os) #[.int .u16 0, .int .u8 0] 8 rfl (shaped0 os _) (by kernel_rfl) (by kernel_rfl) (by kernel_rfl) (door_met os _)) ?_
  intro W base args ds gs before hval0 hW _ _ hL _
  have hval : ∀ (j : Nat) t v, Tryd.f10.params[j]? = some t → args[j]? = some v → Value.okWide Tryd.prog W .any base t v := hval0
  have hW' := hW
  obtain ⟨p, q, hA0, hV, rfl, hfz, hnd⟩ := hW
  have hA : DataW.TrodAll enc Tryd.prog W 0 (fun _ => true) true Tryd.f10.params.toList args.toList ds p := hA0
  rw [Tryd.params10] at hA hval
  obtain ⟨v0, vs0, d0, ds0, p0, q0, hargs, rfl, rfl, h0, r0⟩ := trodAll_cons hA
  obtain ⟨v1, vs1, d1, ds1, p1, q1, rfl, rfl, rfl, h1, r1⟩ := trodAll_cons r0
  obtain ⟨rfl, rfl, rfl⟩ := trodAll_nil r1
  obtain rfl : args = #[v0, v1] := by cases args; simp_all
  obtain ⟨rfl, rfl⟩ := trodVars_none hV
  obtain ⟨a0, rfl, rfl, rfl, w0⟩ := open_int Tryd.underlying46 (hval 0 46 v0 rfl rfl) h0
  obtain ⟨a1, rfl, rfl, rfl, w1⟩ := open_int Tryd.underlying5 (hval 1 5 v1 rfl rfl) h1
  clear hA0 hval0
  refine (walk a0 a1 W (lay_of _ W (by kernel_rfl) _ listed hL) w0 w1).mono fun e W' ⟨he, bel⟩ => ?_
  subst he
  exact ⟨_, rfl, _, _, _, [], _, [], hW', trodAll_mk1 (shut_bool Tryd.underlying4 _), (trodAll_cons_mk (shut_int Tryd.underlying46 w0) (trodAll_cons_mk (shut_int Tryd.underlying5 w1) trodAll_mk0)), rfl, bel.frame _, fun h => by cases h⟩

theorem row_holds : Rows.CivilMonthsSaid :=
  OpenClaim.holds_of_wide 10 Tryd.f10 rfl rfl rfl rfl rfl rfl rfl ⟨rfl, rfl, rfl, rfl, rfl⟩ rfl rfl rfl rfl rfl (by kernel_rfl) Tryd.func10 (by kernel_rfl)
    (of_decide_eq_true (by kernel_rfl)) (by unfold Func.isWrapper; first | (rw [if_pos (by decide +kernel)]; kernel_rfl) | (rw [if_neg (by decide +kernel)]; exact ⟨rfl, rfl⟩))
    (fun os started H enc _ => lifted os started H enc)

theorem proved : Rows.CivilMonthsCardSaid :=
  Claim7.holds_tied_plain_at .later [] Rows.civilMonthsCard.laidKinds true Rows.civilMonthsCard.stood.harness Rows.civilMonthsCard.stood.looks
    row_holds (fun _ h => by cases h) (by kernel_rfl) (fun _ h => by cases h) civilMonths_row_tie rfl ⟨rfl, rfl⟩ (by kernel_rfl) rfl
    (fun f fn hf hfn => by
      obtain rfl : f = 10 := Option.some.inj ((show Tryd.prog.funcNamed Rows.civilMonthsRow.func = some 10 by kernel_rfl).symm.trans hf) |>.symm
      obtain rfl : fn = Tryd.f10 := (Option.some.inj (Tryd.func10.symm.trans hfn)).symm
      exact ⟨looks0, fun j t ht => by
        rw [Tryd.params10] at ht
        have hm : t ∈ [46, 5] := by simpa using Array.mem_of_getElem? ht
        have hall : ([46, 5].all fun u => !Tryd.prog.wantsStandIn u) = true := by kernel_rfl
        exact (show Tryd.prog.wantsStandIn t = false by simpa using List.all_eq_true.1 hall t hm)⟩)
    (by kernel_rfl)
end Go.Proofs.YtjffnjoeeclckaaDoor.civilMonths
