/- Contracts of Same, of package zone and of the document's. -/
import Derived.Test.YtbnhbfemoaokkaaDoorZonH
import Derived.Deep.RegionHeld3
import Derived.Deep.DrawnRows
namespace Go.Proofs.YtbnhbfemoaokkaaDoor
open Go.ChangeShapes Go.RowKit
attribute [local go_sem ↓] Go.wp_at_zero Go.wp_at_succ

/-- two civil times, each in its block -/
def Two6 (w W : World) (B B' : Nat) (y m d h i s y' m' d' h' i' s' : Int) : Prop := Civ6 w W B y m d h i s ∧ Civ6 w W B' y' m' d' h' i' s'
theorem Two6.below {w W W' : World} {B B' : Nat} {y m d h i s y' m' d' h' i' s' : Int} (A : Two6 w W B B' y m d h i s y' m' d' h' i' s') (b : Below W.heap.size W W') : Two6 w W' B B' y m d h i s y' m' d' h' i' s' := ⟨A.1.below b, A.2.below b⟩
theorem Two6.drew {w W : World} {B B' : Nat} {y m d h i s y' m' d' h' i' s' : Int} (A : Two6 w W B B' y m d h i s y' m' d' h' i' s') : Two6 w W.drew B B' y m d h i s y' m' d' h' i' s' := ⟨A.1.drew, A.2.drew⟩
theorem day_two {w W : World} {B B' : Nat} {y m d h i s y' m' d' h' i' s' : Int} (A : Two6 w W B B' y m d h i s y' m' d' h' i' s') (p q r p' q' r' : Int) :
    Calls Tryd.prog 39 #[.agg #[.int .i64 p, .int .i64 q, .int .i64 r, .int .i64 p', .int .i64 q', .int .i64 r']] W fun e w' => e = .returned (.agg #[.int .i64 p, .int .i64 q, .int .i64 r, .int .i64 0, .int .i64 0, .int .i64 0]) ∧ Two6 w w' B B' y m d h i s y' m' d' h' i' s' :=
  (day_any p q r p' q' r' W).mono fun _ _ ⟨h1, h2⟩ => ⟨h1, A.below h2⟩
theorem ret_br {a b : Bool} {r : Int} (h : a = b) : Ending.returned (.tuple #[.bool a, .int .i64 r]) = .returned (.tuple #[.bool b, .int .i64 r]) := by rw [h]

theorem same_e1 (a b z r : Int) (w : World) (hr : r ≠ 0)
    (F : Calls Tryd.prog 20 #[.int .i64 a, .int .i64 z] w fun e w' => e = .returned (.tuple #[.agg #[.int .i64 0, .int .i64 0, .int .i64 0, .int .i64 0, .int .i64 0, .int .i64 0], .int .i64 r]) ∧ Below w.heap.size w w') :
    Calls Tryd.prog 28 #[.int .i64 a, .int .i64 b, .int .i64 z] w fun e w' => e = .returned (.tuple #[.bool false, .int .i64 r]) ∧ Below w.heap.size w w' := by
  have q : (r != 0) = true := by rw [bne_iff_ne]; exact hr
  have F := Lib.hid F
  clear hr
  go_enter Tryd.func28, Tryd.ntmps28
  go_wp2_with fail
  refine F.out.mono ?_
  rintro e w1 ⟨rfl, b⟩
  go_wp2_with fail
  go_ret2
  exact ⟨rfl, b.alloc b.size _⟩
theorem same_e2 (a b z y m d h i s r : Int) (w : World) (L : Lay w) (hr : r ≠ 0)
    (F : Calls Tryd.prog 20 #[.int .i64 a, .int .i64 z] w fun e w' => e = .returned (.tuple #[.agg #[.int .i64 y, .int .i64 m, .int .i64 d, .int .i64 h, .int .i64 i, .int .i64 s], .int .i64 0]) ∧ Below w.heap.size w w')
    (G : ∀ w, Lay w → Calls Tryd.prog 20 #[.int .i64 b, .int .i64 z] w fun e w' => e = .returned (.tuple #[.agg #[.int .i64 0, .int .i64 0, .int .i64 0, .int .i64 0, .int .i64 0, .int .i64 0], .int .i64 r]) ∧ Below w.heap.size w w') :
    Calls Tryd.prog 28 #[.int .i64 a, .int .i64 b, .int .i64 z] w fun e w' => e = .returned (.tuple #[.bool false, .int .i64 r]) ∧ Below w.heap.size w w' := by
  have q : (r != 0) = true := by rw [bne_iff_ne]; exact hr
  have F := Lib.hid F
  have G := Lib.hid G
  clear hr
  go_enter Tryd.func28, Tryd.ntmps28
  go_wp2_with fail
  refine F.out.mono ?_
  rintro e w1 ⟨rfl, b⟩
  obtain ⟨W1, hW, P⟩ := civ6_start w w1 b y m d h i s 31
  have H1 := Lib.hid hW
  have P1 := Lib.hid P
  clear hW P b
  go_wp2_with fail
  rw [← H1.out]
  refine (G.out _ (L.below P1.out.bel)).mono ?_
  rintro e w2 ⟨rfl, b⟩
  have P2 := Lib.hid (P1.out.below b)
  have bz := b.size
  clear b
  go_wp2_with fail
  go_ret2
  exact ⟨rfl, P2.out.bel.alloc P2.out.bel.size _⟩
set_option maxRecDepth 100000 in
set_option maxHeartbeats 2000000 in
theorem same_way (a b z y m d h i s y' m' d' h' i' s' : Int) (o : Bool) (w : World) (L : Lay w)
    (ho : (o = true ∧ (y == y') = true ∧ (m == m') = true ∧ (d == d') = true) ∨ (o = false ∧ (y == y') = false) ∨ (o = false ∧ (y == y') = true ∧ (m == m') = false) ∨ (o = false ∧ (y == y') = true ∧ (m == m') = true ∧ (d == d') = false))
    (F : Calls Tryd.prog 20 #[.int .i64 a, .int .i64 z] w fun e w' => e = .returned (.tuple #[.agg #[.int .i64 y, .int .i64 m, .int .i64 d, .int .i64 h, .int .i64 i, .int .i64 s], .int .i64 0]) ∧ Below w.heap.size w w')
    (G : ∀ w, Lay w → Calls Tryd.prog 20 #[.int .i64 b, .int .i64 z] w fun e w' => e = .returned (.tuple #[.agg #[.int .i64 y', .int .i64 m', .int .i64 d', .int .i64 h', .int .i64 i', .int .i64 s'], .int .i64 0]) ∧ Below w.heap.size w w') :
    Calls Tryd.prog 28 #[.int .i64 a, .int .i64 b, .int .i64 z] w fun e w' => e = .returned (.tuple #[.bool o, .int .i64 0]) ∧ Below w.heap.size w w' := by
  have F := Lib.hid F
  have G := Lib.hid G
  rcases ho with ⟨rfl, k1, k2, k3⟩ | ⟨rfl, k1⟩ | ⟨rfl, k1, k2⟩ | ⟨rfl, k1, k2, k3⟩
  all_goals
    go_enter Tryd.func28, Tryd.ntmps28
    go_wp2_with fail
    refine F.out.mono ?_
    rintro e w1 ⟨rfl, b⟩
    obtain ⟨W1, hW, P⟩ := civ6_start w w1 b y m d h i s 31
    have H1 := Lib.hid hW
    have P1 := Lib.hid P
    clear hW P b
    go_wp2_with fail
    rw [← H1.out]
    refine (G.out _ (L.below P1.out.bel)).mono ?_
    rintro e w2 ⟨rfl, b⟩
    obtain ⟨W2, hW, P, Q⟩ := civ6_next P1.out b y' m' d' h' i' s' 31
    have H2 := Lib.hid hW
    have T := Lib.hid (show Two6 w W2 w1.heap.size w2.heap.size y m d h i s y' m' d' h' i' s' from ⟨P, Q⟩)
    clear hW P Q b
    have p0 := T.out.1.g0
    have p1 := T.out.1.g1
    have p2 := T.out.1.g2
    have p3 := T.out.1.g3
    have p4 := T.out.1.g4
    have p5 := T.out.1.g5
    have q0 := T.out.2.g0
    have q1 := T.out.2.g1
    have q2 := T.out.2.g2
    have q3 := T.out.2.g3
    have q4 := T.out.2.g4
    have q5 := T.out.2.g5
    go_wp2_with fail
    rw [← H2.out]
    go_region_held3 (fun w' => w'.cell? ⟨w1.heap.size, 0, none⟩ = some (.int .i64 y) ∧ w'.cell? ⟨w1.heap.size, 1, none⟩ = some (.int .i64 m) ∧ w'.cell? ⟨w1.heap.size, 2, none⟩ = some (.int .i64 d) ∧ w'.cell? ⟨w1.heap.size, 3, none⟩ = some (.int .i64 h) ∧ w'.cell? ⟨w1.heap.size, 4, none⟩ = some (.int .i64 i) ∧ w'.cell? ⟨w1.heap.size, 5, none⟩ = some (.int .i64 s) ∧ w'.cell? ⟨w2.heap.size, 0, none⟩ = some (.int .i64 y') ∧ w'.cell? ⟨w2.heap.size, 1, none⟩ = some (.int .i64 m') ∧ w'.cell? ⟨w2.heap.size, 2, none⟩ = some (.int .i64 d') ∧ w'.cell? ⟨w2.heap.size, 3, none⟩ = some (.int .i64 h') ∧ w'.cell? ⟨w2.heap.size, 4, none⟩ = some (.int .i64 i') ∧ w'.cell? ⟨w2.heap.size, 5, none⟩ = some (.int .i64 s')) (go_keep)
      ((go_at_call 39; refine (day_two (by first | exact T.out | exact T.out.drew) _ _ _ _ _ _).mono ?_; rintro e w5 ⟨rfl, t⟩; have T := Lib.hid t; clear t; have p0 := T.out.1.g0; have q0 := T.out.2.g0; have p1 := T.out.1.g1; have q1 := T.out.2.g1; have p2 := T.out.1.g2; have q2 := T.out.2.g2; have p3 := T.out.1.g3; have q3 := T.out.2.g3; have p4 := T.out.1.g4; have q4 := T.out.2.g4; have p5 := T.out.1.g5; have q5 := T.out.2.g5))
    go_wp2_with fail
    go_ret2
    exact ⟨rfl, T.out.1.bel⟩

theorem sameR_e1n (a b z : Int) (w : World) (h : z < -840 ∨ 840 < z) :
    Calls Tryd.prog 29 #[.int .i64 a, .int .i64 b, .int .i64 z] w fun e w' => e = .returned (.tuple #[.bool false, .int .i64 2]) ∧ w = w' := by
  go_enter Tryd.func29, Tryd.ntmps29
  go_wp2_with fail
  refine (shown_no _ _ _ h).mono ?_
  rintro e w' ⟨rfl, rfl⟩
  go_wp2_with fail
  go_ret2
  exact ⟨rfl, rfl⟩
theorem sameR_e1t (a b z : Int) (w : World) (z0 : -840 ≤ z) (z1 : z ≤ 840) (h : a < 0 ∨ 253402300799 < a ∨ a + 60 * z < 0 ∨ 253402300799 < a + 60 * z) :
    Calls Tryd.prog 29 #[.int .i64 a, .int .i64 b, .int .i64 z] w fun e w' => e = .returned (.tuple #[.bool false, .int .i64 14]) ∧ w = w' := by
  have F := Lib.hid (fun w => shown_t a z w z0 z1 h)
  clear h
  go_enter Tryd.func29, Tryd.ntmps29
  go_wp2_with fail
  refine (F.out _).mono ?_
  rintro e w' ⟨rfl, rfl⟩
  go_wp2_with fail
  go_ret2
  exact ⟨rfl, rfl⟩
theorem sameR_e2t (a b z : Int) (w : World) (z0 : -840 ≤ z) (z1 : z ≤ 840) (t0 : 0 ≤ a) (t1 : a ≤ 253402300799) (u0 : 0 ≤ a + 60 * z) (u1 : a + 60 * z ≤ 253402300799) (h : b < 0 ∨ 253402300799 < b ∨ b + 60 * z < 0 ∨ 253402300799 < b + 60 * z) :
    Calls Tryd.prog 29 #[.int .i64 a, .int .i64 b, .int .i64 z] w fun e w' => e = .returned (.tuple #[.bool false, .int .i64 14]) ∧ w = w' := by
  have F := Lib.hid (fun w => shown_t b z w z0 z1 h)
  clear h
  go_enter Tryd.func29, Tryd.ntmps29
  go_wp2_with fail
  refine (shown_yes _ _ _ z0 z1 t0 t1 u0 u1).mono ?_
  rintro e w' ⟨rfl, rfl⟩
  go_wp2_with fail
  refine (F.out _).mono ?_
  rintro e w' ⟨rfl, rfl⟩
  go_wp2_with fail
  go_ret2
  exact ⟨rfl, rfl⟩
theorem sameR_ok (a b z : Int) (o : Bool) (w : World) (z0 : -840 ≤ z) (z1 : z ≤ 840) (t0 : 0 ≤ a) (t1 : a ≤ 253402300799) (u0 : 0 ≤ a + 60 * z) (u1 : a + 60 * z ≤ 253402300799)
    (b0 : 0 ≤ b) (b1 : b ≤ 253402300799) (v0 : 0 ≤ b + 60 * z) (v1 : b + 60 * z ≤ 253402300799) (ho : ((a + 60 * z) / 86400 == (b + 60 * z) / 86400) = o) :
    Calls Tryd.prog 29 #[.int .i64 a, .int .i64 b, .int .i64 z] w fun e w' => e = .returned (.tuple #[.bool o, .int .i64 0]) ∧ w = w' := by
  go_enter Tryd.func29, Tryd.ntmps29
  go_wp2_with fail
  refine (shown_yes _ _ _ z0 z1 t0 t1 u0 u1).mono ?_
  rintro e w' ⟨rfl, rfl⟩
  go_wp2_with fail
  refine (shown_yes _ _ _ z0 z1 b0 b1 v0 v1).mono ?_
  rintro e w' ⟨rfl, rfl⟩
  go_wp2_with fail
  go_ret2
  exact ⟨rfl, rfl⟩
end Go.Proofs.YtbnhbfemoaokkaaDoor
