/- For all int64 numbers t and all numbers that choose a zone, ZoneDays returns true: the local day of a time began when clocks showed 00:00:00, less than a day before; the second before was another day; a day later it is the next day of the week, at the same time of day. Condition: the package-level tables start as the program's text lays them (tied). -/
import Derived.Test.YtbnhbfemoaokkaaDoorZonDoor
import Derived.Test.YtbnhbfemoaokkaaDoorZonK
namespace Go.Proofs.YtbnhbfemoaokkaaDoor.zoneDays
open Go.ChangeShapes Go.WideShapes Go.ChangeAt Go.RowKit

theorem no14 {t z r : Int} (n : NoLoc t z r) (z0 : -840 ≤ z) (z1 : z ≤ 840) : r = 14 := by
  rcases n with ⟨c, _⟩ | ⟨_, _, _, h⟩
  · omega
  · exact h
set_option maxRecDepth 100000 in
set_option maxHeartbeats 2000000 in
theorem way_none (t n z : Int) (w : World) (L : Lay w) (n0 : 0 ≤ n) (n1 : n ≤ 65535) (ez : n % 1681 - 840 = z)
    (A : ∀ w, Lay w → Calls Tryd.prog 22 #[.int .i64 t, .int .i64 z] w fun e w' => e = .returned (.tuple #[.int .i64 0, .int .i64 14]) ∧ Below w.heap.size w w')
    (B : ∀ w, Lay w → Calls Tryd.prog 20 #[.int .i64 (t), .int .i64 z] w fun e w' => e = .returned (.tuple #[.agg #[.int .i64 0, .int .i64 0, .int .i64 0, .int .i64 0, .int .i64 0, .int .i64 0], .int .i64 14]) ∧ Below w.heap.size w w') :
    Calls Tryd.prog 9 #[.int .i64 t, .int .u16 n] w fun e w' => e = .returned (.bool true) ∧ Below w.heap.size w w' := by
  have A := Lib.hid A
  have B := Lib.hid B
  go_enter Tryd.func9, Tryd.ntmps9
  go_wp2_with fail
  refine (A.out _ L).mono ?_
  rintro e w1 ⟨rfl, c1⟩
  go_wp2_with fail
  refine (B.out _ (L.below c1)).mono ?_
  rintro e w2 ⟨rfl, c2⟩
  have c2 := c1.trans (c2.mono c1.size)
  clear c1
  obtain ⟨W2, hW, P⟩ := civ6_start w w2 c2 0 0 0 0 0 0 31
  have H2 := Lib.hid hW
  have P2 := Lib.hid P
  clear hW P c2
  go_wp2_with fail
  rw [← H2.out]
  refine (works_any _ (L.below P2.out.bel)).mono ?_
  rintro e w9 ⟨rfl, c9⟩
  go_wp2_with fail
  go_ret
  exact ⟨rfl, P2.out.bel.trans (c9.mono P2.out.bel.size)⟩

set_option maxRecDepth 100000 in
set_option maxHeartbeats 2000000 in
theorem way_early (t n z y m d h i s q : Int) (w : World) (L : Lay w) (n0 : 0 ≤ n) (n1 : n ≤ 65535) (ez : n % 1681 - 840 = z) (h0 : 0 ≤ h) (h1 : h ≤ 23) (i0 : 0 ≤ i) (i1 : i ≤ 59) (s0 : 0 ≤ s) (s1 : s ≤ 59) (es : h * 3600 + i * 60 + s = q) (q0 : 0 ≤ q) (q1 : q ≤ 86399) (tq : decide (t < q) = true)
    (A : ∀ w, Lay w → Calls Tryd.prog 22 #[.int .i64 t, .int .i64 z] w fun e w' => e = .returned (.tuple #[.int .i64 0, .int .i64 14]) ∧ Below w.heap.size w w')
    (B : ∀ w, Lay w → Calls Tryd.prog 20 #[.int .i64 (t), .int .i64 z] w fun e w' => e = .returned (.tuple #[.agg #[.int .i64 y, .int .i64 m, .int .i64 d, .int .i64 h, .int .i64 i, .int .i64 s], .int .i64 0]) ∧ Below w.heap.size w w') :
    Calls Tryd.prog 9 #[.int .i64 t, .int .u16 n] w fun e w' => e = .returned (.bool true) ∧ Below w.heap.size w w' := by
  have A := Lib.hid A
  have B := Lib.hid B
  go_enter Tryd.func9, Tryd.ntmps9
  go_wp2_with fail
  refine (A.out _ L).mono ?_
  rintro e w1 ⟨rfl, c1⟩
  go_wp2_with fail
  refine (B.out _ (L.below c1)).mono ?_
  rintro e w2 ⟨rfl, c2⟩
  have c2 := c1.trans (c2.mono c1.size)
  clear c1
  obtain ⟨W2, hW, P⟩ := civ6_start w w2 c2 y m d h i s 31
  have H2 := Lib.hid hW
  have P2 := Lib.hid P
  clear hW P c2
  go_wp2_with fail
  rw [← H2.out]
  refine (works_any _ (L.below P2.out.bel)).mono ?_
  rintro e w9 ⟨rfl, c9⟩
  go_wp2_with fail
  go_ret
  exact ⟨rfl, P2.out.bel.trans (c9.mono P2.out.bel.size)⟩

set_option maxRecDepth 100000 in
set_option maxHeartbeats 2000000 in
theorem way_one (t n z y m d h i s q a k r : Int) (w : World) (L : Lay w) (n0 : 0 ≤ n) (n1 : n ≤ 65535) (ez : n % 1681 - 840 = z) (h0 : 0 ≤ h) (h1 : h ≤ 23) (i0 : 0 ≤ i) (i1 : i ≤ 59) (s0 : 0 ≤ s) (s1 : s ≤ 59) (es : h * 3600 + i * 60 + s = q) (q0 : 0 ≤ q) (q1 : q ≤ 86399) (tq : decide (t < q) = false) (ea : t - q = a) (a0 : 0 ≤ a) (a1 : a ≤ 253402300799) (t0 : 0 ≤ t) (t1 : t ≤ 253402300799) (k0 : 0 ≤ k) (k1 : k ≤ 6)
    (A : ∀ w, Lay w → Calls Tryd.prog 22 #[.int .i64 t, .int .i64 z] w fun e w' => e = .returned (.tuple #[.int .i64 a, .int .i64 0]) ∧ Below w.heap.size w w')
    (B : ∀ w, Lay w → Calls Tryd.prog 20 #[.int .i64 (t), .int .i64 z] w fun e w' => e = .returned (.tuple #[.agg #[.int .i64 y, .int .i64 m, .int .i64 d, .int .i64 h, .int .i64 i, .int .i64 s], .int .i64 0]) ∧ Below w.heap.size w w')
    (C : ∀ w, Lay w → Calls Tryd.prog 20 #[.int .i64 (a), .int .i64 z] w fun e w' => e = .returned (.tuple #[.agg #[.int .i64 y, .int .i64 m, .int .i64 d, .int .i64 0, .int .i64 0, .int .i64 0], .int .i64 0]) ∧ Below w.heap.size w w')
    (D : ∀ w, Lay w → Calls Tryd.prog 28 #[.int .i64 (a), .int .i64 t, .int .i64 z] w fun e w' => e = .returned (.tuple #[.bool true, .int .i64 0]) ∧ Below w.heap.size w w')
    (E : ∀ w, Lay w → Calls Tryd.prog 28 #[.int .i64 (a - 1), .int .i64 t, .int .i64 z] w fun e w' => e = .returned (.tuple #[.bool false, .int .i64 r]) ∧ Below w.heap.size w w')
    (F : ∀ w, Calls Tryd.prog 24 #[.int .i64 (t), .int .i64 z] w fun e w' => e = .returned (.tuple #[.int .i64 (k), .int .i64 0]) ∧ w = w')
    (G : ∀ w, Calls Tryd.prog 24 #[.int .i64 (t + 86400), .int .i64 z] w fun e w' => e = .returned (.tuple #[.int .i64 (0), .int .i64 14]) ∧ w = w')
    (H : ∀ w, Lay w → Calls Tryd.prog 20 #[.int .i64 (t + 86400), .int .i64 z] w fun e w' => e = .returned (.tuple #[.agg #[.int .i64 0, .int .i64 0, .int .i64 0, .int .i64 0, .int .i64 0, .int .i64 0], .int .i64 14]) ∧ Below w.heap.size w w') :
    Calls Tryd.prog 9 #[.int .i64 t, .int .u16 n] w fun e w' => e = .returned (.bool true) ∧ Below w.heap.size w w' := by
  have A := Lib.hid A
  have B := Lib.hid B
  have C := Lib.hid C
  have D := Lib.hid D
  have E := Lib.hid E
  have F := Lib.hid F
  have G := Lib.hid G
  have H := Lib.hid H
  obtain ⟨rb, hr⟩ : ∃ rb : Bool, (r == 0) = rb := ⟨_, rfl⟩
  cases rb
  all_goals
    go_enter Tryd.func9, Tryd.ntmps9
    go_wp2_with fail
    refine (A.out _ L).mono ?_
    rintro e w1 ⟨rfl, c1⟩
    go_wp2_with fail
    refine (B.out _ (L.below c1)).mono ?_
    rintro e w2 ⟨rfl, c2⟩
    have c2 := c1.trans (c2.mono c1.size)
    clear c1
    obtain ⟨W2, hW, P⟩ := civ6_start w w2 c2 y m d h i s 31
    have H2 := Lib.hid hW
    have P2 := Lib.hid P
    clear hW P c2
    go_wp2_with fail
    rw [← H2.out]
    refine (C.out _ (L.below P2.out.bel)).mono ?_
    rintro e w3 ⟨rfl, c3⟩
    obtain ⟨W3, hW, P, Q⟩ := civ6_next P2.out c3 y m d 0 0 0 31
    have H3 := Lib.hid hW
    have P3 := Lib.hid P
    have Q3 := Lib.hid Q
    clear hW P Q c3
    go_wp2_with fail
    rw [← H3.out]
    refine (D.out _ (L.below P3.out.bel)).mono ?_
    rintro e w4 ⟨rfl, c4⟩
    have P4 := Lib.hid (P3.out.below c4)
    have Q4 := Lib.hid (Q3.out.below c4)
    clear c4
    have p0 := P4.out.g0
    have p1 := P4.out.g1
    have p2 := P4.out.g2
    have p3 := P4.out.g3
    have p4 := P4.out.g4
    have p5 := P4.out.g5
    have x0 := Q4.out.g0
    have x1 := Q4.out.g1
    have x2 := Q4.out.g2
    have x3 := Q4.out.g3
    have x4 := Q4.out.g4
    have x5 := Q4.out.g5
    go_wp2_with fail
    refine (E.out _ (L.below P4.out.bel)).mono ?_
    rintro e w5 ⟨rfl, c5⟩
    have P5 := Lib.hid (P4.out.below c5)
    clear c5
    clear p0 p1 p2 p3 p4 p5 x0 x1 x2 x3 x4 x5
    go_wp2_with fail
    refine (F.out _).mono ?_
    rintro e w' ⟨rfl, rfl⟩
    go_wp2_with fail
    refine (G.out _).mono ?_
    rintro e w' ⟨rfl, rfl⟩
    go_wp2_with fail
    refine (H.out _ (L.below P5.out.bel)).mono ?_
    rintro e w6 ⟨rfl, c6⟩
    have P6 := Lib.hid (P5.out.below c6)
    obtain ⟨W6, hW, P, Q⟩ := civ6_next P5.out c6 0 0 0 0 0 0 31
    have H6 := Lib.hid hW
    have P7 := Lib.hid P
    clear hW P Q c6
    have hz : w2.heap.size < w6.heap.size := P6.out.hB
    have p0 := P6.out.g0
    have p1 := P6.out.g1
    have p2 := P6.out.g2
    have p3 := P6.out.g3
    have p4 := P6.out.g4
    have p5 := P6.out.g5
    go_wp2_with fail
    rw [← H6.out]
    refine (works_any _ (L.below P7.out.bel)).mono ?_
    rintro e w9 ⟨rfl, c9⟩
    go_wp2_with fail
    go_ret
    exact ⟨rfl, P7.out.bel.trans (c9.mono P7.out.bel.size)⟩

set_option maxRecDepth 100000 in
set_option maxHeartbeats 2000000 in
theorem way_two (t n z y m d h i s q a k r y' m' d' : Int) (w : World) (L : Lay w) (n0 : 0 ≤ n) (n1 : n ≤ 65535) (ez : n % 1681 - 840 = z) (h0 : 0 ≤ h) (h1 : h ≤ 23) (i0 : 0 ≤ i) (i1 : i ≤ 59) (s0 : 0 ≤ s) (s1 : s ≤ 59) (es : h * 3600 + i * 60 + s = q) (q0 : 0 ≤ q) (q1 : q ≤ 86399) (tq : decide (t < q) = false) (ea : t - q = a) (a0 : 0 ≤ a) (a1 : a ≤ 253402300799) (t0 : 0 ≤ t) (t1 : t ≤ 253402300799) (k0 : 0 ≤ k) (k1 : k ≤ 6)
    (A : ∀ w, Lay w → Calls Tryd.prog 22 #[.int .i64 t, .int .i64 z] w fun e w' => e = .returned (.tuple #[.int .i64 a, .int .i64 0]) ∧ Below w.heap.size w w')
    (B : ∀ w, Lay w → Calls Tryd.prog 20 #[.int .i64 (t), .int .i64 z] w fun e w' => e = .returned (.tuple #[.agg #[.int .i64 y, .int .i64 m, .int .i64 d, .int .i64 h, .int .i64 i, .int .i64 s], .int .i64 0]) ∧ Below w.heap.size w w')
    (C : ∀ w, Lay w → Calls Tryd.prog 20 #[.int .i64 (a), .int .i64 z] w fun e w' => e = .returned (.tuple #[.agg #[.int .i64 y, .int .i64 m, .int .i64 d, .int .i64 0, .int .i64 0, .int .i64 0], .int .i64 0]) ∧ Below w.heap.size w w')
    (D : ∀ w, Lay w → Calls Tryd.prog 28 #[.int .i64 (a), .int .i64 t, .int .i64 z] w fun e w' => e = .returned (.tuple #[.bool true, .int .i64 0]) ∧ Below w.heap.size w w')
    (E : ∀ w, Lay w → Calls Tryd.prog 28 #[.int .i64 (a - 1), .int .i64 t, .int .i64 z] w fun e w' => e = .returned (.tuple #[.bool false, .int .i64 r]) ∧ Below w.heap.size w w')
    (F : ∀ w, Calls Tryd.prog 24 #[.int .i64 (t), .int .i64 z] w fun e w' => e = .returned (.tuple #[.int .i64 (k), .int .i64 0]) ∧ w = w')
    (G : ∀ w, Calls Tryd.prog 24 #[.int .i64 (t + 86400), .int .i64 z] w fun e w' => e = .returned (.tuple #[.int .i64 ((k + 1) % 7), .int .i64 0]) ∧ w = w')
    (H : ∀ w, Lay w → Calls Tryd.prog 20 #[.int .i64 (t + 86400), .int .i64 z] w fun e w' => e = .returned (.tuple #[.agg #[.int .i64 y', .int .i64 m', .int .i64 d', .int .i64 h, .int .i64 i, .int .i64 s], .int .i64 0]) ∧ Below w.heap.size w w') :
    Calls Tryd.prog 9 #[.int .i64 t, .int .u16 n] w fun e w' => e = .returned (.bool true) ∧ Below w.heap.size w w' := by
  have A := Lib.hid A
  have B := Lib.hid B
  have C := Lib.hid C
  have D := Lib.hid D
  have E := Lib.hid E
  have F := Lib.hid F
  have G := Lib.hid G
  have H := Lib.hid H
  obtain ⟨rb, hr⟩ : ∃ rb : Bool, (r == 0) = rb := ⟨_, rfl⟩
  cases rb
  all_goals
    go_enter Tryd.func9, Tryd.ntmps9
    go_wp2_with fail
    refine (A.out _ L).mono ?_
    rintro e w1 ⟨rfl, c1⟩
    go_wp2_with fail
    refine (B.out _ (L.below c1)).mono ?_
    rintro e w2 ⟨rfl, c2⟩
    have c2 := c1.trans (c2.mono c1.size)
    clear c1
    obtain ⟨W2, hW, P⟩ := civ6_start w w2 c2 y m d h i s 31
    have H2 := Lib.hid hW
    have P2 := Lib.hid P
    clear hW P c2
    go_wp2_with fail
    rw [← H2.out]
    refine (C.out _ (L.below P2.out.bel)).mono ?_
    rintro e w3 ⟨rfl, c3⟩
    obtain ⟨W3, hW, P, Q⟩ := civ6_next P2.out c3 y m d 0 0 0 31
    have H3 := Lib.hid hW
    have P3 := Lib.hid P
    have Q3 := Lib.hid Q
    clear hW P Q c3
    go_wp2_with fail
    rw [← H3.out]
    refine (D.out _ (L.below P3.out.bel)).mono ?_
    rintro e w4 ⟨rfl, c4⟩
    have P4 := Lib.hid (P3.out.below c4)
    have Q4 := Lib.hid (Q3.out.below c4)
    clear c4
    have p0 := P4.out.g0
    have p1 := P4.out.g1
    have p2 := P4.out.g2
    have p3 := P4.out.g3
    have p4 := P4.out.g4
    have p5 := P4.out.g5
    have x0 := Q4.out.g0
    have x1 := Q4.out.g1
    have x2 := Q4.out.g2
    have x3 := Q4.out.g3
    have x4 := Q4.out.g4
    have x5 := Q4.out.g5
    go_wp2_with fail
    refine (E.out _ (L.below P4.out.bel)).mono ?_
    rintro e w5 ⟨rfl, c5⟩
    have P5 := Lib.hid (P4.out.below c5)
    clear c5
    clear p0 p1 p2 p3 p4 p5 x0 x1 x2 x3 x4 x5
    go_wp2_with fail
    refine (F.out _).mono ?_
    rintro e w' ⟨rfl, rfl⟩
    go_wp2_with fail
    refine (G.out _).mono ?_
    rintro e w' ⟨rfl, rfl⟩
    go_wp2_with fail
    refine (H.out _ (L.below P5.out.bel)).mono ?_
    rintro e w6 ⟨rfl, c6⟩
    have P6 := Lib.hid (P5.out.below c6)
    obtain ⟨W6, hW, P, Q⟩ := civ6_next P5.out c6 y' m' d' h i s 31
    have H6 := Lib.hid hW
    have P7 := Lib.hid P
    clear hW P Q c6
    have hz : w2.heap.size < w6.heap.size := P6.out.hB
    have p0 := P6.out.g0
    have p1 := P6.out.g1
    have p2 := P6.out.g2
    have p3 := P6.out.g3
    have p4 := P6.out.g4
    have p5 := P6.out.g5
    go_wp2_with fail
    rw [← H6.out]
    refine (works_any _ (L.below P7.out.bel)).mono ?_
    rintro e w9 ⟨rfl, c9⟩
    go_wp2_with fail
    go_ret
    exact ⟨rfl, P7.out.bel.trans (c9.mono P7.out.bel.size)⟩

theorem walk (t n : Int) (w : World) (L : Lay w) (_ : (Lit.int .i64 t).wf = true) (hn : (Lit.int .u16 n).wf = true) :
    Calls Tryd.prog 9 #[.int .i64 t, .int .u16 n] w fun e w' => e = .returned (.bool true) ∧ Below w.heap.size w w' := by
  obtain ⟨n0, n1⟩ := bounds_u16 hn
  obtain ⟨z, ez⟩ : ∃ z, n % 1681 - 840 = z := ⟨_, rfl⟩
  have z0 : -840 ≤ z := by omega
  have z1 : z ≤ 840 := by omega
  rcases loc_cases t z with ⟨r, N⟩ | ⟨y, m, d, h, i, s, N⟩
  · obtain rfl := no14 N z0 z1
    exact way_none t n z w L n0 n1 ez (fun w _ => N.mid w) (fun w _ => N.local w)
  · obtain ⟨u0, u1⟩ := N.range
    obtain ⟨_, _, t0, t1, v, hs⟩ := id N
    have rest := Civ.secs_rest v
    rw [hs] at rest
    obtain ⟨dt, h0, h1, i0, i1, s0, s1⟩ := v
    obtain ⟨q, es⟩ : ∃ q, h * 3600 + i * 60 + s = q := ⟨_, rfl⟩
    have rq : (t + 60 * z) % 86400 = q := by omega
    by_cases tq : t < q
    · exact way_early t n z y m d h i s q w L n0 n1 ez h0 h1 i0 i1 s0 s1 es (by omega) (by omega) (by simpa using tq)
        (fun w L => N.mid (v := 0) (r := 14) (.inl ⟨by omega, rfl, rfl⟩) w L) (fun w L => N.local w L)
    · obtain ⟨a, ea⟩ : ∃ a, t - q = a := ⟨_, rfl⟩
      have vd := day_vld N.2.2.2.2.1
      have sd := day_secs N.2.2.2.2.1
      rw [hs] at sd
      have M : IsLoc a z y m d 0 0 0 := ⟨z0, z1, by omega, by omega, vd, by omega⟩
      have sm : sameD y m d y m d = true := by simp [sameD]
      obtain ⟨r, E⟩ : ∃ r, ∀ w, Lay w → Calls Tryd.prog 28 #[.int .i64 (a - 1), .int .i64 t, .int .i64 z] w fun e w' => e = .returned (.tuple #[.bool false, .int .i64 r]) ∧ Below w.heap.size w w' := by
        rcases loc_cases (a - 1) z with ⟨r, N'⟩ | ⟨y', m', d', h', i', s', N'⟩
        · exact ⟨r, fun w _ => same_no N' w⟩
        · refine ⟨0, fun w L => ?_⟩
          have k := same_loc N' N w L
          have : sameD y' m' d' y m d = false := by
            rw [← sameD_days N'.2.2.2.2.1 N.2.2.2.2.1 N'.2.2.2.2.2 N.2.2.2.2.2, beq_eq_false_iff_ne]
            omega
          rwa [this] at k
      obtain ⟨k, ek⟩ : ∃ k, ((t + 60 * z) / 86400 + 4) % 7 = k := ⟨_, rfl⟩
      have F := fun w => weekz_yes t z w z0 z1 t0 t1 u0 u1
      rw [ek] at F
      rcases loc_cases (t + 86400) z with ⟨r', N'⟩ | ⟨y', m', d', h', i', s', N'⟩
      · obtain rfl := no14 N' z0 z1
        rcases N' with ⟨c, _⟩ | ⟨_, _, c, _⟩
        · omega
        · exact way_one t n z y m d h i s q a k r w L n0 n1 ez h0 h1 i0 i1 s0 s1 es (by omega) (by omega) (by simpa using tq) ea (by omega) (by omega) t0 t1 (by omega) (by omega)
            (fun w L => N.mid (.inr ⟨by omega, by omega, rfl⟩) w L) (fun w L => N.local w L) (fun w L => M.local w L) (fun w L => by have k := same_loc M N w L; rwa [sm] at k) E F
            (fun w => weekz_t (t + 86400) z w z0 z1 c) (fun w _ => local_t (t + 86400) z w z0 z1 c)
      · obtain ⟨u0', u1'⟩ := N'.range
        have rest' := Civ.secs_rest N'.2.2.2.2.1
        rw [N'.2.2.2.2.2] at rest'
        obtain ⟨_, _, t0', t1', ⟨_, h0', h1', i0', i1', s0', s1'⟩, _⟩ := id N'
        obtain rfl : h' = h := by omega
        obtain rfl : i' = i := by omega
        obtain rfl : s' = s := by omega
        have G := fun w => weekz_yes (t + 86400) z w z0 z1 t0' t1' u0' u1'
        have ek' : ((t + 86400 + 60 * z) / 86400 + 4) % 7 = (k + 1) % 7 := by omega
        rw [ek'] at G
        exact way_two t n z y m d h' i' s' q a k r y' m' d' w L n0 n1 ez h0 h1 i0 i1 s0 s1 es (by omega) (by omega) (by simpa using tq) ea (by omega) (by omega) t0 t1 (by omega) (by omega)
            (fun w L => N.mid (.inr ⟨by omega, by omega, rfl⟩) w L) (fun w L => N.local w L) (fun w L => M.local w L) (fun w L => by have k := same_loc M N w L; rwa [sm] at k) E F
            G (fun w L => N'.local w L)

theorem listed : Rows.zoneDaysRow.laid.find? isLengths = some (((Rows.zoneDaysRow.laid.find? isLengths).map (·.1)).getD "", Rows.laid_wakeman_civil_lengths) := by kernel_rfl

set_option maxRecDepth 100000 in
theorem lifted (os : Os) (started : os.Started) (H : Type) (enc : TypeId × Value → H) :
    ReturnsInHanded {} Tryd.checked os 9 .any (fun w args => (Rows.zoneDaysSpec.pre enc Tryd.prog Tryd.f9 [] false w args ∧ laidMetH Tryd.prog Rows.zoneDaysRow.laid w) ∧ sizedMet enc Tryd.prog Tryd.f9 (OpenSpec.ofChange Rows.zoneDaysSpec) false w args)
      (Rows.zoneDaysSpec.post enc Tryd.prog Tryd.f9 false true false false) := by
  refine returnsInHanded_of_change_and (C := Tryd.checked) (X := fun w _ => laidMetH Tryd.prog Rows.zoneDaysRow.laid w) (fun _ _ _ hh h => h.of_heap hh) own started (by kernel_rfl) Tryd.func9
    (ChangeSpec.witness_shaped (enc := enc) (C := Tryd.checked) (os := os) (X := fun w _ => laidMetH Tryd.prog Rows.zoneDaysRow.laid w) false (World.doorLaid Tryd.prog 400 os) #[.int .i64 0, .int .u16 0] 8 rfl (shaped0 os _) (by kernel_rfl) (by kernel_rfl) (by kernel_rfl) (door_met os _)) ?_
  intro W base args ds gs before hval0 hW _ _ hL _
  have hval : ∀ (j : Nat) t v, Tryd.f9.params[j]? = some t → args[j]? = some v → Value.okWide Tryd.prog W .any base t v := hval0
  have hW' := hW
  obtain ⟨p, q, hA0, hV, rfl, hfz, hnd⟩ := hW
  have hA : DataW.TrodAll enc Tryd.prog W 0 (fun _ => true) true Tryd.f9.params.toList args.toList ds p := hA0
  rw [Tryd.params9] at hA hval
  obtain ⟨v0, vs0, d0, ds0, p0, q0, hargs, rfl, rfl, h0, r0⟩ := trodAll_cons hA
  obtain ⟨v1, vs1, d1, ds1, p1, q1, rfl, rfl, rfl, h1, r1⟩ := trodAll_cons r0
  obtain ⟨rfl, rfl, rfl⟩ := trodAll_nil r1
  obtain rfl : args = #[v0, v1] := by cases args; simp_all
  obtain ⟨rfl, rfl⟩ := trodVars_none hV
  obtain ⟨a0, rfl, rfl, rfl, w0⟩ := open_int Tryd.underlying2 (hval 0 2 v0 rfl rfl) h0
  obtain ⟨a1, rfl, rfl, rfl, w1⟩ := open_int Tryd.underlying44 (hval 1 44 v1 rfl rfl) h1
  clear hA0 hval0
  refine (walk a0 a1 W (lay_of _ W (by kernel_rfl) _ listed hL) w0 w1).mono fun e W' ⟨he, bel⟩ => ?_
  subst he
  exact ⟨_, rfl, _, _, _, [], _, [], hW', trodAll_mk1 (shut_bool Tryd.underlying4 _), (trodAll_cons_mk (shut_int Tryd.underlying2 w0) (trodAll_cons_mk (shut_int Tryd.underlying44 w1) trodAll_mk0)), rfl, bel.frame _, fun h => by cases h⟩

theorem row_holds : Rows.ZoneDaysSaid :=
  OpenClaim.holds_of_wide 9 Tryd.f9 rfl rfl rfl rfl rfl rfl rfl ⟨rfl, rfl, rfl, rfl, rfl⟩ rfl rfl rfl rfl rfl (by kernel_rfl) Tryd.func9 (by kernel_rfl)
    (of_decide_eq_true (by kernel_rfl)) (by unfold Func.isWrapper; first | (rw [if_pos (by decide +kernel)]; kernel_rfl) | (rw [if_neg (by decide +kernel)]; exact ⟨rfl, rfl⟩))
    (fun os started H enc _ => lifted os started H enc)

theorem proved : Rows.ZoneDaysCardSaid :=
  Claim7.holds_tied_plain_at .later [] Rows.zoneDaysCard.laidKinds true Rows.zoneDaysCard.stood.harness Rows.zoneDaysCard.stood.looks
    row_holds (fun _ h => by cases h) (by kernel_rfl) (fun _ h => by cases h) zoneDays_row_tie rfl ⟨rfl, rfl⟩ (by kernel_rfl) rfl
    (fun f fn hf hfn => by
      obtain rfl : f = 9 := Option.some.inj ((show Tryd.prog.funcNamed Rows.zoneDaysRow.func = some 9 by kernel_rfl).symm.trans hf) |>.symm
      obtain rfl : fn = Tryd.f9 := (Option.some.inj (Tryd.func9.symm.trans hfn)).symm
      exact ⟨looks0, fun j t ht => by
        rw [Tryd.params9] at ht
        have hm : t ∈ [2, 44] := by simpa using Array.mem_of_getElem? ht
        have hall : ([2, 44].all fun u => !Tryd.prog.wantsStandIn u) = true := by kernel_rfl
        exact (show Tryd.prog.wantsStandIn t = false by simpa using List.all_eq_true.1 hall t hm)⟩)
    (by kernel_rfl)
end Go.Proofs.YtbnhbfemoaokkaaDoor.zoneDays
