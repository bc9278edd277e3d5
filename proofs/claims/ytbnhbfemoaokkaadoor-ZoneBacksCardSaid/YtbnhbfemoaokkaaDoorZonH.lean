/- Contracts of day, Back and Midnight, of package zone and of the document's. -/
import Derived.Test.YtbnhbfemoaokkaaDoorZonG
namespace Go.Proofs.YtbnhbfemoaokkaaDoor
open Go.ChangeShapes Go.RowKit

/-- the civil time in block B -/
structure Civ6 (w W : World) (B : Nat) (y m d h i s : Int) : Prop where
  bel : Below w.heap.size w W
  hB : B < W.heap.size
  g0 : W.cell? ⟨B, 0, none⟩ = some (.int .i64 y)
  g1 : W.cell? ⟨B, 1, none⟩ = some (.int .i64 m)
  g2 : W.cell? ⟨B, 2, none⟩ = some (.int .i64 d)
  g3 : W.cell? ⟨B, 3, none⟩ = some (.int .i64 h)
  g4 : W.cell? ⟨B, 4, none⟩ = some (.int .i64 i)
  g5 : W.cell? ⟨B, 5, none⟩ = some (.int .i64 s)
  f0 : W.frozen? ⟨B, 0, none⟩ = false
theorem civ6_start (w w1 : World) (hb : Below w.heap.size w w1) (y m d h i s : Int) (t : TypeId) :
    ∃ W, W = w1.alloc (.cells #[.int .i64 y, .int .i64 m, .int .i64 d, .int .i64 h, .int .i64 i, .int .i64 s] t) ∧ Civ6 w W w1.heap.size y m d h i s := by
  refine ⟨_, rfl, hb.alloc hb.size _, by simp, ?_, ?_, ?_, ?_, ?_, ?_, ?_⟩ <;> simp [go_sem]
theorem Civ6.drew {w W : World} {B : Nat} {y m d h i s : Int} (A : Civ6 w W B y m d h i s) : Civ6 w W.drew B y m d h i s :=
  ⟨A.bel.drew, A.hB, A.g0, A.g1, A.g2, A.g3, A.g4, A.g5, A.f0⟩
theorem Civ6.below {w W W' : World} {B : Nat} {y m d h i s : Int} (A : Civ6 w W B y m d h i s) (b : Below W.heap.size W W') : Civ6 w W' B y m d h i s where
  bel := A.bel.trans (b.mono A.bel.size)
  hB := Nat.lt_of_lt_of_le A.hB b.size
  g0 := (b.cell (p := ⟨B, 0, none⟩) A.hB).trans A.g0
  g1 := (b.cell (p := ⟨B, 1, none⟩) A.hB).trans A.g1
  g2 := (b.cell (p := ⟨B, 2, none⟩) A.hB).trans A.g2
  g3 := (b.cell (p := ⟨B, 3, none⟩) A.hB).trans A.g3
  g4 := (b.cell (p := ⟨B, 4, none⟩) A.hB).trans A.g4
  g5 := (b.cell (p := ⟨B, 5, none⟩) A.hB).trans A.g5
  f0 := (b.frozen (p := ⟨B, 0, none⟩) A.hB).trans A.f0
/-- a second civil time in a new block: the first one stays -/
theorem civ6_next {w W w2 : World} {B : Nat} {y m d h i s : Int} (A : Civ6 w W B y m d h i s) (b : Below W.heap.size W w2) (y' m' d' h' i' s' : Int) (t : TypeId) :
    ∃ W2, W2 = w2.alloc (.cells #[.int .i64 y', .int .i64 m', .int .i64 d', .int .i64 h', .int .i64 i', .int .i64 s'] t) ∧ Civ6 w W2 B y m d h i s ∧ Civ6 w W2 w2.heap.size y' m' d' h' i' s' := by
  have A2 := A.below b
  obtain ⟨W2, e, C⟩ := civ6_start w w2 A2.bel y' m' d' h' i' s' t
  exact ⟨W2, e, by rw [e]; exact A2.below ((Below.refl _ _).alloc (Nat.le_refl _) _), C⟩

theorem day_any (y m d h i s : Int) (w : World) :
    Calls Tryd.prog 39 #[.agg #[.int .i64 y, .int .i64 m, .int .i64 d, .int .i64 h, .int .i64 i, .int .i64 s]] w fun e w' => e = .returned (.agg #[.int .i64 y, .int .i64 m, .int .i64 d, .int .i64 0, .int .i64 0, .int .i64 0]) ∧ Below w.heap.size w w' := by
  go_enter Tryd.func39, Tryd.ntmps39
  go_wp2_with fail
  exact bodyPost_ret (v := .agg #[.int .i64 y, .int .i64 m, .int .i64 d, .int .i64 0, .int .i64 0, .int .i64 0]) (by simp [results, Tryd.results39, go_sem]) rfl ⟨rfl, ((Below.refl _ _).alloc (Nat.le_refl _) _).alloc (by simp) _⟩

theorem back_no (y m d h i s z : Int) (w : World) (q : z < -840 ∨ 840 < z) :
    Calls Tryd.prog 26 #[.agg #[.int .i64 y, .int .i64 m, .int .i64 d, .int .i64 h, .int .i64 i, .int .i64 s], .int .i64 z] w fun e w' => e = .returned (.tuple #[.int .i64 0, .int .i64 2]) ∧ Below w.heap.size w w' := by
  go_enter Tryd.func26, Tryd.ntmps26
  go_wp2_with fail
  refine (check_no _ _ q).mono ?_
  rintro e w' ⟨rfl, rfl⟩
  go_wp2_with fail
  go_ret2
  exact ⟨rfl, (Below.refl _ _).alloc (Nat.le_refl _) _⟩
theorem back_c (y m d h i s z : Int) (w : World) (L : Lay w) (z0 : -840 ≤ z) (z1 : z ≤ 840) (v : ¬ Civ.CVld y m d h i s) :
    Calls Tryd.prog 26 #[.agg #[.int .i64 y, .int .i64 m, .int .i64 d, .int .i64 h, .int .i64 i, .int .i64 s], .int .i64 z] w fun e w' => e = .returned (.tuple #[.int .i64 0, .int .i64 2]) ∧ Below w.heap.size w w' := by
  have F := Lib.hid (fun o => time_no y m d h i s _ (L.alloc o) v)
  clear v
  go_enter Tryd.func26, Tryd.ntmps26
  go_wp2_with fail
  refine (check_yes _ _ z0 z1).mono ?_
  rintro e w' ⟨rfl, rfl⟩
  go_wp2_with fail
  refine (F.out _).mono ?_
  rintro e w1 ⟨rfl, hb⟩
  go_wp2_with fail
  go_ret2
  exact ⟨rfl, ((Below.refl _ _).alloc (Nat.le_refl _) _).trans (hb.mono (by simp))⟩
theorem back_t (y m d h i s z u : Int) (w : World) (L : Lay w) (z0 : -840 ≤ z) (z1 : z ≤ 840) (v : Civ.CVld y m d h i s) (hs : Civ.secs y m d h i s = u) (q : u - 60 * z < 0 ∨ 253402300799 < u - 60 * z) :
    Calls Tryd.prog 26 #[.agg #[.int .i64 y, .int .i64 m, .int .i64 d, .int .i64 h, .int .i64 i, .int .i64 s], .int .i64 z] w fun e w' => e = .returned (.tuple #[.int .i64 0, .int .i64 14]) ∧ Below w.heap.size w w' := by
  have F := Lib.hid (fun o => time_yes y m d h i s u _ (L.alloc o) v hs)
  have G := Lib.hid (fun w => validZ_f (u - 60 * z) w q)
  obtain ⟨u0, u1⟩ := Civ.secs_range v
  rw [hs] at u0 u1
  clear v hs q
  go_enter Tryd.func26, Tryd.ntmps26
  go_wp2_with fail
  refine (check_yes _ _ z0 z1).mono ?_
  rintro e w' ⟨rfl, rfl⟩
  go_wp2_with fail
  refine (F.out _).mono ?_
  rintro e w1 ⟨rfl, hb⟩
  go_wp2_with fail
  refine (ahead_any _ _ z0 z1).mono ?_
  rintro e w' ⟨rfl, rfl⟩
  go_wp2_with fail
  refine (G.out _).mono ?_
  rintro e w' ⟨rfl, rfl⟩
  go_wp2_with fail
  go_ret2
  exact ⟨rfl, ((Below.refl _ _).alloc (Nat.le_refl _) _).trans (hb.mono (by simp))⟩
theorem back_yes (y m d h i s z u t : Int) (w : World) (L : Lay w) (z0 : -840 ≤ z) (z1 : z ≤ 840) (v : Civ.CVld y m d h i s) (hs : Civ.secs y m d h i s = u) (ht : u - 60 * z = t) (t0 : 0 ≤ t) (t1 : t ≤ 253402300799) :
    Calls Tryd.prog 26 #[.agg #[.int .i64 y, .int .i64 m, .int .i64 d, .int .i64 h, .int .i64 i, .int .i64 s], .int .i64 z] w fun e w' => e = .returned (.tuple #[.int .i64 t, .int .i64 0]) ∧ Below w.heap.size w w' := by
  subst ht
  have F := Lib.hid (fun o => time_yes y m d h i s u _ (L.alloc o) v hs)
  obtain ⟨u0, u1⟩ := Civ.secs_range v
  rw [hs] at u0 u1
  clear v hs
  go_enter Tryd.func26, Tryd.ntmps26
  go_wp2_with fail
  refine (check_yes _ _ z0 z1).mono ?_
  rintro e w' ⟨rfl, rfl⟩
  go_wp2_with fail
  refine (F.out _).mono ?_
  rintro e w1 ⟨rfl, hb⟩
  go_wp2_with fail
  refine (ahead_any _ _ z0 z1).mono ?_
  rintro e w' ⟨rfl, rfl⟩
  go_wp2_with fail
  refine (validZ_t _ _ t0 t1).mono ?_
  rintro e w' ⟨rfl, rfl⟩
  go_wp2_with fail
  go_ret2
  exact ⟨rfl, ((Below.refl _ _).alloc (Nat.le_refl _) _).trans (hb.mono (by simp))⟩
theorem backR_no (y m d h i s z : Int) (w : World) (q : z < -840 ∨ 840 < z) :
    Calls Tryd.prog 27 #[.agg #[.int .i64 y, .int .i64 m, .int .i64 d, .int .i64 h, .int .i64 i, .int .i64 s], .int .i64 z] w fun e w' => e = .returned (.tuple #[.int .i64 0, .int .i64 2]) ∧ Below w.heap.size w w' := by
  go_enter Tryd.func27, Tryd.ntmps27
  go_wp2_with fail
  refine (checkR_no _ _ q).mono ?_
  rintro e w' ⟨rfl, rfl⟩
  go_wp2_with fail
  go_ret2
  exact ⟨rfl, (Below.refl _ _).alloc (Nat.le_refl _) _⟩
theorem backR_c (y m d h i s z : Int) (w : World) (z0 : -840 ≤ z) (z1 : z ≤ 840) (v : ¬ Civ.CVld y m d h i s) :
    Calls Tryd.prog 27 #[.agg #[.int .i64 y, .int .i64 m, .int .i64 d, .int .i64 h, .int .i64 i, .int .i64 s], .int .i64 z] w fun e w' => e = .returned (.tuple #[.int .i64 0, .int .i64 2]) ∧ Below w.heap.size w w' := by
  have F := Lib.hid (fun w => timeR_no y m d h i s w v)
  clear v
  go_enter Tryd.func27, Tryd.ntmps27
  go_wp2_with fail
  refine (checkR_yes _ _ z0 z1).mono ?_
  rintro e w' ⟨rfl, rfl⟩
  go_wp2_with fail
  refine (F.out _).mono ?_
  rintro e w1 ⟨rfl, hb⟩
  go_wp2_with fail
  go_ret2
  exact ⟨rfl, ((Below.refl _ _).alloc (Nat.le_refl _) _).trans (hb.mono (by simp))⟩
theorem backR_t (y m d h i s z u : Int) (w : World) (z0 : -840 ≤ z) (z1 : z ≤ 840) (v : Civ.CVld y m d h i s) (hs : Civ.secs y m d h i s = u) (q : u - 60 * z < 0 ∨ 253402300799 < u - 60 * z) :
    Calls Tryd.prog 27 #[.agg #[.int .i64 y, .int .i64 m, .int .i64 d, .int .i64 h, .int .i64 i, .int .i64 s], .int .i64 z] w fun e w' => e = .returned (.tuple #[.int .i64 0, .int .i64 14]) ∧ Below w.heap.size w w' := by
  have F := Lib.hid (fun w => timeR_yes y m d h i s u w v hs)
  have G := Lib.hid (fun w => validR_f (u - 60 * z) w q)
  obtain ⟨u0, u1⟩ := Civ.secs_range v
  rw [hs] at u0 u1
  clear v hs q
  go_enter Tryd.func27, Tryd.ntmps27
  go_wp2_with fail
  refine (checkR_yes _ _ z0 z1).mono ?_
  rintro e w' ⟨rfl, rfl⟩
  go_wp2_with fail
  refine (F.out _).mono ?_
  rintro e w1 ⟨rfl, hb⟩
  go_wp2_with fail
  refine (G.out _).mono ?_
  rintro e w' ⟨rfl, rfl⟩
  go_wp2_with fail
  go_ret2
  exact ⟨rfl, ((Below.refl _ _).alloc (Nat.le_refl _) _).trans (hb.mono (by simp))⟩
theorem backR_yes (y m d h i s z u t : Int) (w : World) (z0 : -840 ≤ z) (z1 : z ≤ 840) (v : Civ.CVld y m d h i s) (hs : Civ.secs y m d h i s = u) (ht : u - 60 * z = t) (t0 : 0 ≤ t) (t1 : t ≤ 253402300799) :
    Calls Tryd.prog 27 #[.agg #[.int .i64 y, .int .i64 m, .int .i64 d, .int .i64 h, .int .i64 i, .int .i64 s], .int .i64 z] w fun e w' => e = .returned (.tuple #[.int .i64 t, .int .i64 0]) ∧ Below w.heap.size w w' := by
  subst ht
  have F := Lib.hid (fun w => timeR_yes y m d h i s u w v hs)
  obtain ⟨u0, u1⟩ := Civ.secs_range v
  rw [hs] at u0 u1
  clear v hs
  go_enter Tryd.func27, Tryd.ntmps27
  go_wp2_with fail
  refine (checkR_yes _ _ z0 z1).mono ?_
  rintro e w' ⟨rfl, rfl⟩
  go_wp2_with fail
  refine (F.out _).mono ?_
  rintro e w1 ⟨rfl, hb⟩
  go_wp2_with fail
  refine (validR_t _ _ t0 t1).mono ?_
  rintro e w' ⟨rfl, rfl⟩
  go_wp2_with fail
  go_ret2
  exact ⟨rfl, ((Below.refl _ _).alloc (Nat.le_refl _) _).trans (hb.mono (by simp))⟩

/-- Midnight where Local has an error -/
theorem mid_err (t z r : Int) (w : World) (hr : r ≠ 0)
    (F : Calls Tryd.prog 20 #[.int .i64 t, .int .i64 z] w fun e w' => e = .returned (.tuple #[.agg #[.int .i64 0, .int .i64 0, .int .i64 0, .int .i64 0, .int .i64 0, .int .i64 0], .int .i64 r]) ∧ Below w.heap.size w w') :
    Calls Tryd.prog 22 #[.int .i64 t, .int .i64 z] w fun e w' => e = .returned (.tuple #[.int .i64 0, .int .i64 r]) ∧ Below w.heap.size w w' := by
  have q : (r != 0) = true := by rw [bne_iff_ne]; exact hr
  have F := Lib.hid F
  clear hr
  go_enter Tryd.func22, Tryd.ntmps22
  go_wp2_with fail
  refine F.out.mono ?_
  rintro e w1 ⟨rfl, b⟩
  go_wp2_with fail
  go_ret2
  exact ⟨rfl, b.alloc b.size _⟩
/-- Midnight where Local has a time: what Back gives for the date -/
theorem mid_ok (t z y m d h i s v r : Int) (w : World) (L : Lay w)
    (F : Calls Tryd.prog 20 #[.int .i64 t, .int .i64 z] w fun e w' => e = .returned (.tuple #[.agg #[.int .i64 y, .int .i64 m, .int .i64 d, .int .i64 h, .int .i64 i, .int .i64 s], .int .i64 0]) ∧ Below w.heap.size w w')
    (G : ∀ w, Lay w → Calls Tryd.prog 26 #[.agg #[.int .i64 y, .int .i64 m, .int .i64 d, .int .i64 0, .int .i64 0, .int .i64 0], .int .i64 z] w fun e w' => e = .returned (.tuple #[.int .i64 v, .int .i64 r]) ∧ Below w.heap.size w w') :
    Calls Tryd.prog 22 #[.int .i64 t, .int .i64 z] w fun e w' => e = .returned (.tuple #[.int .i64 v, .int .i64 r]) ∧ Below w.heap.size w w' := by
  have F := Lib.hid F
  have G := Lib.hid G
  go_enter Tryd.func22, Tryd.ntmps22
  go_wp2_with fail
  refine F.out.mono ?_
  rintro e w1 ⟨rfl, b⟩
  obtain ⟨W1, hW, P⟩ := civ6_start w w1 b y m d h i s 31
  have H1 := Lib.hid hW
  have P1 := Lib.hid P
  have p0 := P.g0
  have p1 := P.g1
  have p2 := P.g2
  have p3 := P.g3
  have p4 := P.g4
  have p5 := P.g5
  clear hW P b
  go_wp2_with fail
  rw [← H1.out]
  refine (day_any _ _ _ _ _ _ _).mono ?_
  rintro e w2 ⟨rfl, b⟩
  have P2 := Lib.hid (P1.out.below b)
  clear b
  go_wp2_with fail
  refine (G.out _ (L.below P2.out.bel)).mono ?_
  rintro e w3 ⟨rfl, b⟩
  have P3 := Lib.hid (P2.out.below b)
  clear b
  go_wp2_with fail
  go_ret2
  exact ⟨rfl, P3.out.bel⟩
theorem midR_no (t z : Int) (w : World) (h : z < -840 ∨ 840 < z) :
    Calls Tryd.prog 23 #[.int .i64 t, .int .i64 z] w fun e w' => e = .returned (.tuple #[.int .i64 0, .int .i64 2]) ∧ w = w' := by
  go_enter Tryd.func23, Tryd.ntmps23
  go_wp2_with fail
  refine (shown_no _ _ _ h).mono ?_
  rintro e w' ⟨rfl, rfl⟩
  go_wp2_with fail
  go_ret2
  exact ⟨rfl, rfl⟩
theorem midR_t (t z : Int) (w : World) (z0 : -840 ≤ z) (z1 : z ≤ 840) (h : t < 0 ∨ 253402300799 < t ∨ t + 60 * z < 0 ∨ 253402300799 < t + 60 * z) :
    Calls Tryd.prog 23 #[.int .i64 t, .int .i64 z] w fun e w' => e = .returned (.tuple #[.int .i64 0, .int .i64 14]) ∧ w = w' := by
  have F := Lib.hid (fun w => shown_t t z w z0 z1 h)
  clear h
  go_enter Tryd.func23, Tryd.ntmps23
  go_wp2_with fail
  refine (F.out _).mono ?_
  rintro e w' ⟨rfl, rfl⟩
  go_wp2_with fail
  go_ret2
  exact ⟨rfl, rfl⟩
theorem midR_yes (t z v r : Int) (w : World) (z0 : -840 ≤ z) (z1 : z ≤ 840) (t0 : 0 ≤ t) (t1 : t ≤ 253402300799) (u0 : 0 ≤ t + 60 * z) (u1 : t + 60 * z ≤ 253402300799)
    (o : (t - (t + 60 * z) % 86400 < 0 ∧ v = 0 ∧ r = 14) ∨ (0 ≤ t - (t + 60 * z) % 86400 ∧ v = t - (t + 60 * z) % 86400 ∧ r = 0)) :
    Calls Tryd.prog 23 #[.int .i64 t, .int .i64 z] w fun e w' => e = .returned (.tuple #[.int .i64 v, .int .i64 r]) ∧ w = w' := by
  rcases o with ⟨o, rfl, rfl⟩ | ⟨o, rfl, rfl⟩
  · have q : decide (t - (t + 60 * z) % 86400 < 0) = true := by simpa using o
    clear o
    go_enter Tryd.func23, Tryd.ntmps23
    go_wp2_with fail
    refine (shown_yes _ _ _ z0 z1 t0 t1 u0 u1).mono ?_
    rintro e w' ⟨rfl, rfl⟩
    go_wp2_with fail
    go_ret2
    exact ⟨rfl, rfl⟩
  · have q : decide (t - (t + 60 * z) % 86400 < 0) = false := by simpa using o
    clear o
    go_enter Tryd.func23, Tryd.ntmps23
    go_wp2_with fail
    refine (shown_yes _ _ _ z0 z1 t0 t1 u0 u1).mono ?_
    rintro e w' ⟨rfl, rfl⟩
    go_wp2_with fail
    go_ret2
    exact ⟨rfl, rfl⟩
end Go.Proofs.YtbnhbfemoaokkaaDoor
