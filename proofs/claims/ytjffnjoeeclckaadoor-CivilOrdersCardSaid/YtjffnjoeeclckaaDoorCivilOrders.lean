/- For all civil times a, b and c, valid or not, CivilOrders returns true: of two of them one comes before the other one, or they are equal, and what comes before something comes before all that is behind it. Condition: the package-level tables start as the program's text lays them (tied). -/
import Derived.Test.YtjffnjoeeclckaaDoorCivDoor
import Derived.Test.YtjffnjoeeclckaaDoorCivBoth
import Derived.Test.YtjffnjoeeclckaaDoorCivOrd
namespace Go.Proofs.YtjffnjoeeclckaaDoor.civilOrders
open Go.ChangeShapes Go.WideShapes Go.ChangeAt Go.RowKit

/-- three civil times, each in its block -/
def Three (w W : World) (y1 m1 d1 h1 i1 s1 y2 m2 d2 h2 i2 s2 y3 m3 d3 h3 i3 s3 : Int) : Prop := Civ6 w W w.heap.size y1 m1 d1 h1 i1 s1 ∧ Civ6 w W (w.heap.size + 1) y2 m2 d2 h2 i2 s2 ∧ Civ6 w W (w.heap.size + 1 + 1) y3 m3 d3 h3 i3 s3
theorem Three.below {w W W' : World} {y1 m1 d1 h1 i1 s1 y2 m2 d2 h2 i2 s2 y3 m3 d3 h3 i3 s3 : Int} (h : Three w W y1 m1 d1 h1 i1 s1 y2 m2 d2 h2 i2 s2 y3 m3 d3 h3 i3 s3) (b : Below W.heap.size W W') : Three w W' y1 m1 d1 h1 i1 s1 y2 m2 d2 h2 i2 s2 y3 m3 d3 h3 i3 s3 := ⟨h.1.below b, h.2.1.below b, h.2.2.below b⟩
theorem order_keep {w W : World} {y1 m1 d1 h1 i1 s1 y2 m2 d2 h2 i2 s2 y3 m3 d3 h3 i3 s3 : Int} (h : Three w W y1 m1 d1 h1 i1 s1 y2 m2 d2 h2 i2 s2 y3 m3 d3 h3 i3 s3) (a b c d e f a' b' c' d' e' f' o : Int) (ho : Hid (ordI a b c d e f a' b' c' d' e' f' = o)) :
    Calls Tryd.prog 32 #[.agg #[.int .i64 a, .int .i64 b, .int .i64 c, .int .i64 d, .int .i64 e, .int .i64 f], .agg #[.int .i64 a', .int .i64 b', .int .i64 c', .int .i64 d', .int .i64 e', .int .i64 f']] W
      fun e w' => e = .returned (.int .i64 o) ∧ Three w w' y1 m1 d1 h1 i1 s1 y2 m2 d2 h2 i2 s2 y3 m3 d3 h3 i3 s3 :=
  (order_any a b c d e f a' b' c' d' e' f' W).mono fun _ _ ⟨h1, h2⟩ => ⟨by rw [h1, ho.out], h.below h2⟩
theorem three_start (w : World) (y1 m1 d1 h1 i1 s1 y2 m2 d2 h2 i2 s2 y3 m3 d3 h3 i3 s3 : Int) :
    ∃ W, W = ((w.alloc (.cells #[.int .i64 y1, .int .i64 m1, .int .i64 d1, .int .i64 h1, .int .i64 i1, .int .i64 s1] 34)).alloc (.cells #[.int .i64 y2, .int .i64 m2, .int .i64 d2, .int .i64 h2, .int .i64 i2, .int .i64 s2] 34)).alloc (.cells #[.int .i64 y3, .int .i64 m3, .int .i64 d3, .int .i64 h3, .int .i64 i3, .int .i64 s3] 34) ∧ Three w W y1 m1 d1 h1 i1 s1 y2 m2 d2 h2 i2 s2 y3 m3 d3 h3 i3 s3 := by
  obtain ⟨W1, e1, P1⟩ := civ6_start w w (Below.refl _ _) y1 m1 d1 h1 i1 s1 34
  obtain ⟨W2, e2, P2, Q2⟩ := civ6_next P1 (Below.refl _ _) y2 m2 d2 h2 i2 s2 34
  obtain ⟨W3, e3, P3, R3⟩ := civ6_next P2 (Below.refl _ _) y3 m3 d3 h3 i3 s3 34
  have Q3 := Q2.below (show Below W2.heap.size W2 W3 by rw [e3]; exact (Below.refl _ _).alloc (Nat.le_refl _) _)
  have z1 : W1.heap.size = w.heap.size + 1 := by rw [e1]; simp
  have z2 : W2.heap.size = w.heap.size + 1 + 1 := by rw [e2]; simp [z1]
  rw [z1] at Q3
  rw [z2] at R3
  exact ⟨W3, by rw [e3, e2, e1], P3, Q3, R3⟩

set_option maxRecDepth 100000 in
set_option maxHeartbeats 1600000 in
theorem road_0 (y1 m1 d1 h1 i1 s1 y2 m2 d2 h2 i2 s2 y3 m3 d3 h3 i3 s3 : Int) (w : World) (L : Lay w) (ne : y1 ≠ y2) :
    Calls Tryd.prog 13 #[.agg #[.int .i64 y1, .int .i64 m1, .int .i64 d1, .int .i64 h1, .int .i64 i1, .int .i64 s1], .agg #[.int .i64 y2, .int .i64 m2, .int .i64 d2, .int .i64 h2, .int .i64 i2, .int .i64 s2], .agg #[.int .i64 y3, .int .i64 m3, .int .i64 d3, .int .i64 h3, .int .i64 i3, .int .i64 s3]] w fun e w' => e = .returned (.bool true) ∧ Below w.heap.size w w' := by
  obtain ⟨x, hx⟩ : ∃ x, ordI y1 m1 d1 h1 i1 s1 y2 m2 d2 h2 i2 s2 = x := ⟨_, rfl⟩
  obtain ⟨y, hy⟩ : ∃ y, ordI y2 m2 d2 h2 i2 s2 y3 m3 d3 h3 i3 s3 = y := ⟨_, rfl⟩
  obtain ⟨z, hz⟩ : ∃ z, ordI y1 m1 d1 h1 i1 s1 y3 m3 d3 h3 i3 s3 = z := ⟨_, rfl⟩
  have bx := lex_bd [y1, m1, d1, h1, i1, s1] [y2, m2, d2, h2, i2, s2]
  have bY := lex_bd [y2, m2, d2, h2, i2, s2] [y3, m3, d3, h3, i3, s3]
  have tr := lex_trans [y1, m1, d1, h1, i1, s1] [y2, m2, d2, h2, i2, s2] [y3, m3, d3, h3, i3, s3] rfl rfl
  have zr := lex_zero [y1, m1, d1, h1, i1, s1] [y2, m2, d2, h2, i2, s2] rfl
  have an := lex_anti [y1, m1, d1, h1, i1, s1] [y2, m2, d2, h2, i2, s2]
  have re := lex_refl [y1, m1, d1, h1, i1, s1]
  rw [← ordI_lex, hx] at bx
  rw [← ordI_lex, hy] at bY
  rw [← ordI_lex, ← ordI_lex, ← ordI_lex, hx, hy, hz] at tr
  rw [← ordI_lex, hx] at zr
  rw [← ordI_lex, ← ordI_lex, hx] at an
  rw [← ordI_lex] at re
  have x0 : x ≠ 0 := fun e => ne (by have := zr e; simp at this; omega)
  have nb : (y1 == y2) = false := beq_eq_false_iff_ne.2 ne
  have xb : (x == 0) = false := beq_eq_false_iff_ne.2 x0
  have HX := Lib.hid hx
  have HY := Lib.hid hy
  have HZ := Lib.hid hz
  have HB := Lib.hid an
  have HR := Lib.hid re
  obtain ⟨W, hW, t⟩ := three_start w y1 m1 d1 h1 i1 s1 y2 m2 d2 h2 i2 s2 y3 m3 d3 h3 i3 s3
  have H := Lib.hid hW
  have T := Lib.hid t
  clear hx hy hz an re zr hW t ne
  have p00 := T.out.1.g0
  have p01 := T.out.1.g1
  have p02 := T.out.1.g2
  have p03 := T.out.1.g3
  have p04 := T.out.1.g4
  have p05 := T.out.1.g5
  have p10 := T.out.2.1.g0
  have p11 := T.out.2.1.g1
  have p12 := T.out.2.1.g2
  have p13 := T.out.2.1.g3
  have p14 := T.out.2.1.g4
  have p15 := T.out.2.1.g5
  have p20 := T.out.2.2.g0
  have p21 := T.out.2.2.g1
  have p22 := T.out.2.2.g2
  have p23 := T.out.2.2.g3
  have p24 := T.out.2.2.g4
  have p25 := T.out.2.2.g5
  have cs : (x = 1) ∨ (x = -1 ∧ 0 < y) ∨ (x = -1 ∧ y < 0 ∧ z = -1) ∨ (x = -1 ∧ y = 0 ∧ z = -1) := by omega
  clear tr bx bY x0
  rcases cs with c | ⟨c, c'⟩ | ⟨c, c', c2⟩ | ⟨c, c', c2⟩
  · subst c
    clear xb
    go_enter Tryd.func13, Tryd.ntmps13
    go_wp2_with fail
    rw [← H.out]
    go_wp2_with fail
    refine (order_keep T.out _ _ _ _ _ _ _ _ _ _ _ _ _ HX).mono ?_
    rintro e w1 ⟨rfl, t⟩
    clear p00 p01 p02 p03 p04 p05 p10 p11 p12 p13 p14 p15 p20 p21 p22 p23 p24 p25
    have T := Lib.hid t
    clear t
    have p00 := T.out.1.g0
    have p01 := T.out.1.g1
    have p02 := T.out.1.g2
    have p03 := T.out.1.g3
    have p04 := T.out.1.g4
    have p05 := T.out.1.g5
    have p10 := T.out.2.1.g0
    have p11 := T.out.2.1.g1
    have p12 := T.out.2.1.g2
    have p13 := T.out.2.1.g3
    have p14 := T.out.2.1.g4
    have p15 := T.out.2.1.g5
    have p20 := T.out.2.2.g0
    have p21 := T.out.2.2.g1
    have p22 := T.out.2.2.g2
    have p23 := T.out.2.2.g3
    have p24 := T.out.2.2.g4
    have p25 := T.out.2.2.g5
    go_wp2_with fail
    refine (order_keep T.out _ _ _ _ _ _ _ _ _ _ _ _ _ HY).mono ?_
    rintro e w1 ⟨rfl, t⟩
    clear p00 p01 p02 p03 p04 p05 p10 p11 p12 p13 p14 p15 p20 p21 p22 p23 p24 p25
    have T := Lib.hid t
    clear t
    have p00 := T.out.1.g0
    have p01 := T.out.1.g1
    have p02 := T.out.1.g2
    have p03 := T.out.1.g3
    have p04 := T.out.1.g4
    have p05 := T.out.1.g5
    have p10 := T.out.2.1.g0
    have p11 := T.out.2.1.g1
    have p12 := T.out.2.1.g2
    have p13 := T.out.2.1.g3
    have p14 := T.out.2.1.g4
    have p15 := T.out.2.1.g5
    have p20 := T.out.2.2.g0
    have p21 := T.out.2.2.g1
    have p22 := T.out.2.2.g2
    have p23 := T.out.2.2.g3
    have p24 := T.out.2.2.g4
    have p25 := T.out.2.2.g5
    go_wp2_with fail
    refine (order_keep T.out _ _ _ _ _ _ _ _ _ _ _ _ _ HZ).mono ?_
    rintro e w1 ⟨rfl, t⟩
    clear p00 p01 p02 p03 p04 p05 p10 p11 p12 p13 p14 p15 p20 p21 p22 p23 p24 p25
    have T := Lib.hid t
    clear t
    have p00 := T.out.1.g0
    have p01 := T.out.1.g1
    have p02 := T.out.1.g2
    have p03 := T.out.1.g3
    have p04 := T.out.1.g4
    have p05 := T.out.1.g5
    have p10 := T.out.2.1.g0
    have p11 := T.out.2.1.g1
    have p12 := T.out.2.1.g2
    have p13 := T.out.2.1.g3
    have p14 := T.out.2.1.g4
    have p15 := T.out.2.1.g5
    have p20 := T.out.2.2.g0
    have p21 := T.out.2.2.g1
    have p22 := T.out.2.2.g2
    have p23 := T.out.2.2.g3
    have p24 := T.out.2.2.g4
    have p25 := T.out.2.2.g5
    go_wp2_with fail
    refine (order_keep T.out _ _ _ _ _ _ _ _ _ _ _ _ _ HB).mono ?_
    rintro e w1 ⟨rfl, t⟩
    clear p00 p01 p02 p03 p04 p05 p10 p11 p12 p13 p14 p15 p20 p21 p22 p23 p24 p25
    have T := Lib.hid t
    clear t
    have p00 := T.out.1.g0
    have p01 := T.out.1.g1
    have p02 := T.out.1.g2
    have p03 := T.out.1.g3
    have p04 := T.out.1.g4
    have p05 := T.out.1.g5
    have p10 := T.out.2.1.g0
    have p11 := T.out.2.1.g1
    have p12 := T.out.2.1.g2
    have p13 := T.out.2.1.g3
    have p14 := T.out.2.1.g4
    have p15 := T.out.2.1.g5
    have p20 := T.out.2.2.g0
    have p21 := T.out.2.2.g1
    have p22 := T.out.2.2.g2
    have p23 := T.out.2.2.g3
    have p24 := T.out.2.2.g4
    have p25 := T.out.2.2.g5
    go_wp2_with fail
    refine (order_keep T.out _ _ _ _ _ _ _ _ _ _ _ _ _ HR).mono ?_
    rintro e w1 ⟨rfl, t⟩
    clear p00 p01 p02 p03 p04 p05 p10 p11 p12 p13 p14 p15 p20 p21 p22 p23 p24 p25
    have T := Lib.hid t
    clear t
    have p00 := T.out.1.g0
    have p01 := T.out.1.g1
    have p02 := T.out.1.g2
    have p03 := T.out.1.g3
    have p04 := T.out.1.g4
    have p05 := T.out.1.g5
    have p10 := T.out.2.1.g0
    have p11 := T.out.2.1.g1
    have p12 := T.out.2.1.g2
    have p13 := T.out.2.1.g3
    have p14 := T.out.2.1.g4
    have p15 := T.out.2.1.g5
    have p20 := T.out.2.2.g0
    have p21 := T.out.2.2.g1
    have p22 := T.out.2.2.g2
    have p23 := T.out.2.2.g3
    have p24 := T.out.2.2.g4
    have p25 := T.out.2.2.g5
    go_wp2_with fail
    refine (works_any _ (L.below T.out.1.bel)).mono ?_
    rintro e w2 ⟨rfl, b⟩
    go_wp2_with fail
    go_ret
    exact ⟨rfl, T.out.1.bel.trans (b.mono T.out.1.bel.size)⟩
  · subst c
    clear xb
    go_enter Tryd.func13, Tryd.ntmps13
    go_wp2_with fail
    rw [← H.out]
    go_wp2_with fail
    refine (order_keep T.out _ _ _ _ _ _ _ _ _ _ _ _ _ HX).mono ?_
    rintro e w1 ⟨rfl, t⟩
    clear p00 p01 p02 p03 p04 p05 p10 p11 p12 p13 p14 p15 p20 p21 p22 p23 p24 p25
    have T := Lib.hid t
    clear t
    have p00 := T.out.1.g0
    have p01 := T.out.1.g1
    have p02 := T.out.1.g2
    have p03 := T.out.1.g3
    have p04 := T.out.1.g4
    have p05 := T.out.1.g5
    have p10 := T.out.2.1.g0
    have p11 := T.out.2.1.g1
    have p12 := T.out.2.1.g2
    have p13 := T.out.2.1.g3
    have p14 := T.out.2.1.g4
    have p15 := T.out.2.1.g5
    have p20 := T.out.2.2.g0
    have p21 := T.out.2.2.g1
    have p22 := T.out.2.2.g2
    have p23 := T.out.2.2.g3
    have p24 := T.out.2.2.g4
    have p25 := T.out.2.2.g5
    go_wp2_with fail
    refine (order_keep T.out _ _ _ _ _ _ _ _ _ _ _ _ _ HY).mono ?_
    rintro e w1 ⟨rfl, t⟩
    clear p00 p01 p02 p03 p04 p05 p10 p11 p12 p13 p14 p15 p20 p21 p22 p23 p24 p25
    have T := Lib.hid t
    clear t
    have p00 := T.out.1.g0
    have p01 := T.out.1.g1
    have p02 := T.out.1.g2
    have p03 := T.out.1.g3
    have p04 := T.out.1.g4
    have p05 := T.out.1.g5
    have p10 := T.out.2.1.g0
    have p11 := T.out.2.1.g1
    have p12 := T.out.2.1.g2
    have p13 := T.out.2.1.g3
    have p14 := T.out.2.1.g4
    have p15 := T.out.2.1.g5
    have p20 := T.out.2.2.g0
    have p21 := T.out.2.2.g1
    have p22 := T.out.2.2.g2
    have p23 := T.out.2.2.g3
    have p24 := T.out.2.2.g4
    have p25 := T.out.2.2.g5
    go_wp2_with fail
    refine (order_keep T.out _ _ _ _ _ _ _ _ _ _ _ _ _ HZ).mono ?_
    rintro e w1 ⟨rfl, t⟩
    clear p00 p01 p02 p03 p04 p05 p10 p11 p12 p13 p14 p15 p20 p21 p22 p23 p24 p25
    have T := Lib.hid t
    clear t
    have p00 := T.out.1.g0
    have p01 := T.out.1.g1
    have p02 := T.out.1.g2
    have p03 := T.out.1.g3
    have p04 := T.out.1.g4
    have p05 := T.out.1.g5
    have p10 := T.out.2.1.g0
    have p11 := T.out.2.1.g1
    have p12 := T.out.2.1.g2
    have p13 := T.out.2.1.g3
    have p14 := T.out.2.1.g4
    have p15 := T.out.2.1.g5
    have p20 := T.out.2.2.g0
    have p21 := T.out.2.2.g1
    have p22 := T.out.2.2.g2
    have p23 := T.out.2.2.g3
    have p24 := T.out.2.2.g4
    have p25 := T.out.2.2.g5
    go_wp2_with fail
    refine (order_keep T.out _ _ _ _ _ _ _ _ _ _ _ _ _ HB).mono ?_
    rintro e w1 ⟨rfl, t⟩
    clear p00 p01 p02 p03 p04 p05 p10 p11 p12 p13 p14 p15 p20 p21 p22 p23 p24 p25
    have T := Lib.hid t
    clear t
    have p00 := T.out.1.g0
    have p01 := T.out.1.g1
    have p02 := T.out.1.g2
    have p03 := T.out.1.g3
    have p04 := T.out.1.g4
    have p05 := T.out.1.g5
    have p10 := T.out.2.1.g0
    have p11 := T.out.2.1.g1
    have p12 := T.out.2.1.g2
    have p13 := T.out.2.1.g3
    have p14 := T.out.2.1.g4
    have p15 := T.out.2.1.g5
    have p20 := T.out.2.2.g0
    have p21 := T.out.2.2.g1
    have p22 := T.out.2.2.g2
    have p23 := T.out.2.2.g3
    have p24 := T.out.2.2.g4
    have p25 := T.out.2.2.g5
    go_wp2_with fail
    refine (order_keep T.out _ _ _ _ _ _ _ _ _ _ _ _ _ HR).mono ?_
    rintro e w1 ⟨rfl, t⟩
    clear p00 p01 p02 p03 p04 p05 p10 p11 p12 p13 p14 p15 p20 p21 p22 p23 p24 p25
    have T := Lib.hid t
    clear t
    have p00 := T.out.1.g0
    have p01 := T.out.1.g1
    have p02 := T.out.1.g2
    have p03 := T.out.1.g3
    have p04 := T.out.1.g4
    have p05 := T.out.1.g5
    have p10 := T.out.2.1.g0
    have p11 := T.out.2.1.g1
    have p12 := T.out.2.1.g2
    have p13 := T.out.2.1.g3
    have p14 := T.out.2.1.g4
    have p15 := T.out.2.1.g5
    have p20 := T.out.2.2.g0
    have p21 := T.out.2.2.g1
    have p22 := T.out.2.2.g2
    have p23 := T.out.2.2.g3
    have p24 := T.out.2.2.g4
    have p25 := T.out.2.2.g5
    go_wp2_with fail
    refine (works_any _ (L.below T.out.1.bel)).mono ?_
    rintro e w2 ⟨rfl, b⟩
    go_wp2_with fail
    go_ret
    exact ⟨rfl, T.out.1.bel.trans (b.mono T.out.1.bel.size)⟩
  · subst c c2
    clear xb
    go_enter Tryd.func13, Tryd.ntmps13
    go_wp2_with fail
    rw [← H.out]
    go_wp2_with fail
    refine (order_keep T.out _ _ _ _ _ _ _ _ _ _ _ _ _ HX).mono ?_
    rintro e w1 ⟨rfl, t⟩
    clear p00 p01 p02 p03 p04 p05 p10 p11 p12 p13 p14 p15 p20 p21 p22 p23 p24 p25
    have T := Lib.hid t
    clear t
    have p00 := T.out.1.g0
    have p01 := T.out.1.g1
    have p02 := T.out.1.g2
    have p03 := T.out.1.g3
    have p04 := T.out.1.g4
    have p05 := T.out.1.g5
    have p10 := T.out.2.1.g0
    have p11 := T.out.2.1.g1
    have p12 := T.out.2.1.g2
    have p13 := T.out.2.1.g3
    have p14 := T.out.2.1.g4
    have p15 := T.out.2.1.g5
    have p20 := T.out.2.2.g0
    have p21 := T.out.2.2.g1
    have p22 := T.out.2.2.g2
    have p23 := T.out.2.2.g3
    have p24 := T.out.2.2.g4
    have p25 := T.out.2.2.g5
    go_wp2_with fail
    refine (order_keep T.out _ _ _ _ _ _ _ _ _ _ _ _ _ HY).mono ?_
    rintro e w1 ⟨rfl, t⟩
    clear p00 p01 p02 p03 p04 p05 p10 p11 p12 p13 p14 p15 p20 p21 p22 p23 p24 p25
    have T := Lib.hid t
    clear t
    have p00 := T.out.1.g0
    have p01 := T.out.1.g1
    have p02 := T.out.1.g2
    have p03 := T.out.1.g3
    have p04 := T.out.1.g4
    have p05 := T.out.1.g5
    have p10 := T.out.2.1.g0
    have p11 := T.out.2.1.g1
    have p12 := T.out.2.1.g2
    have p13 := T.out.2.1.g3
    have p14 := T.out.2.1.g4
    have p15 := T.out.2.1.g5
    have p20 := T.out.2.2.g0
    have p21 := T.out.2.2.g1
    have p22 := T.out.2.2.g2
    have p23 := T.out.2.2.g3
    have p24 := T.out.2.2.g4
    have p25 := T.out.2.2.g5
    go_wp2_with fail
    refine (order_keep T.out _ _ _ _ _ _ _ _ _ _ _ _ _ HZ).mono ?_
    rintro e w1 ⟨rfl, t⟩
    clear p00 p01 p02 p03 p04 p05 p10 p11 p12 p13 p14 p15 p20 p21 p22 p23 p24 p25
    have T := Lib.hid t
    clear t
    have p00 := T.out.1.g0
    have p01 := T.out.1.g1
    have p02 := T.out.1.g2
    have p03 := T.out.1.g3
    have p04 := T.out.1.g4
    have p05 := T.out.1.g5
    have p10 := T.out.2.1.g0
    have p11 := T.out.2.1.g1
    have p12 := T.out.2.1.g2
    have p13 := T.out.2.1.g3
    have p14 := T.out.2.1.g4
    have p15 := T.out.2.1.g5
    have p20 := T.out.2.2.g0
    have p21 := T.out.2.2.g1
    have p22 := T.out.2.2.g2
    have p23 := T.out.2.2.g3
    have p24 := T.out.2.2.g4
    have p25 := T.out.2.2.g5
    go_wp2_with fail
    refine (order_keep T.out _ _ _ _ _ _ _ _ _ _ _ _ _ HB).mono ?_
    rintro e w1 ⟨rfl, t⟩
    clear p00 p01 p02 p03 p04 p05 p10 p11 p12 p13 p14 p15 p20 p21 p22 p23 p24 p25
    have T := Lib.hid t
    clear t
    have p00 := T.out.1.g0
    have p01 := T.out.1.g1
    have p02 := T.out.1.g2
    have p03 := T.out.1.g3
    have p04 := T.out.1.g4
    have p05 := T.out.1.g5
    have p10 := T.out.2.1.g0
    have p11 := T.out.2.1.g1
    have p12 := T.out.2.1.g2
    have p13 := T.out.2.1.g3
    have p14 := T.out.2.1.g4
    have p15 := T.out.2.1.g5
    have p20 := T.out.2.2.g0
    have p21 := T.out.2.2.g1
    have p22 := T.out.2.2.g2
    have p23 := T.out.2.2.g3
    have p24 := T.out.2.2.g4
    have p25 := T.out.2.2.g5
    go_wp2_with fail
    refine (order_keep T.out _ _ _ _ _ _ _ _ _ _ _ _ _ HR).mono ?_
    rintro e w1 ⟨rfl, t⟩
    clear p00 p01 p02 p03 p04 p05 p10 p11 p12 p13 p14 p15 p20 p21 p22 p23 p24 p25
    have T := Lib.hid t
    clear t
    have p00 := T.out.1.g0
    have p01 := T.out.1.g1
    have p02 := T.out.1.g2
    have p03 := T.out.1.g3
    have p04 := T.out.1.g4
    have p05 := T.out.1.g5
    have p10 := T.out.2.1.g0
    have p11 := T.out.2.1.g1
    have p12 := T.out.2.1.g2
    have p13 := T.out.2.1.g3
    have p14 := T.out.2.1.g4
    have p15 := T.out.2.1.g5
    have p20 := T.out.2.2.g0
    have p21 := T.out.2.2.g1
    have p22 := T.out.2.2.g2
    have p23 := T.out.2.2.g3
    have p24 := T.out.2.2.g4
    have p25 := T.out.2.2.g5
    go_wp2_with fail
    refine (works_any _ (L.below T.out.1.bel)).mono ?_
    rintro e w2 ⟨rfl, b⟩
    go_wp2_with fail
    go_ret
    exact ⟨rfl, T.out.1.bel.trans (b.mono T.out.1.bel.size)⟩
  · subst c c' c2
    clear xb
    go_enter Tryd.func13, Tryd.ntmps13
    go_wp2_with fail
    rw [← H.out]
    go_wp2_with fail
    refine (order_keep T.out _ _ _ _ _ _ _ _ _ _ _ _ _ HX).mono ?_
    rintro e w1 ⟨rfl, t⟩
    clear p00 p01 p02 p03 p04 p05 p10 p11 p12 p13 p14 p15 p20 p21 p22 p23 p24 p25
    have T := Lib.hid t
    clear t
    have p00 := T.out.1.g0
    have p01 := T.out.1.g1
    have p02 := T.out.1.g2
    have p03 := T.out.1.g3
    have p04 := T.out.1.g4
    have p05 := T.out.1.g5
    have p10 := T.out.2.1.g0
    have p11 := T.out.2.1.g1
    have p12 := T.out.2.1.g2
    have p13 := T.out.2.1.g3
    have p14 := T.out.2.1.g4
    have p15 := T.out.2.1.g5
    have p20 := T.out.2.2.g0
    have p21 := T.out.2.2.g1
    have p22 := T.out.2.2.g2
    have p23 := T.out.2.2.g3
    have p24 := T.out.2.2.g4
    have p25 := T.out.2.2.g5
    go_wp2_with fail
    refine (order_keep T.out _ _ _ _ _ _ _ _ _ _ _ _ _ HY).mono ?_
    rintro e w1 ⟨rfl, t⟩
    clear p00 p01 p02 p03 p04 p05 p10 p11 p12 p13 p14 p15 p20 p21 p22 p23 p24 p25
    have T := Lib.hid t
    clear t
    have p00 := T.out.1.g0
    have p01 := T.out.1.g1
    have p02 := T.out.1.g2
    have p03 := T.out.1.g3
    have p04 := T.out.1.g4
    have p05 := T.out.1.g5
    have p10 := T.out.2.1.g0
    have p11 := T.out.2.1.g1
    have p12 := T.out.2.1.g2
    have p13 := T.out.2.1.g3
    have p14 := T.out.2.1.g4
    have p15 := T.out.2.1.g5
    have p20 := T.out.2.2.g0
    have p21 := T.out.2.2.g1
    have p22 := T.out.2.2.g2
    have p23 := T.out.2.2.g3
    have p24 := T.out.2.2.g4
    have p25 := T.out.2.2.g5
    go_wp2_with fail
    refine (order_keep T.out _ _ _ _ _ _ _ _ _ _ _ _ _ HZ).mono ?_
    rintro e w1 ⟨rfl, t⟩
    clear p00 p01 p02 p03 p04 p05 p10 p11 p12 p13 p14 p15 p20 p21 p22 p23 p24 p25
    have T := Lib.hid t
    clear t
    have p00 := T.out.1.g0
    have p01 := T.out.1.g1
    have p02 := T.out.1.g2
    have p03 := T.out.1.g3
    have p04 := T.out.1.g4
    have p05 := T.out.1.g5
    have p10 := T.out.2.1.g0
    have p11 := T.out.2.1.g1
    have p12 := T.out.2.1.g2
    have p13 := T.out.2.1.g3
    have p14 := T.out.2.1.g4
    have p15 := T.out.2.1.g5
    have p20 := T.out.2.2.g0
    have p21 := T.out.2.2.g1
    have p22 := T.out.2.2.g2
    have p23 := T.out.2.2.g3
    have p24 := T.out.2.2.g4
    have p25 := T.out.2.2.g5
    go_wp2_with fail
    refine (order_keep T.out _ _ _ _ _ _ _ _ _ _ _ _ _ HB).mono ?_
    rintro e w1 ⟨rfl, t⟩
    clear p00 p01 p02 p03 p04 p05 p10 p11 p12 p13 p14 p15 p20 p21 p22 p23 p24 p25
    have T := Lib.hid t
    clear t
    have p00 := T.out.1.g0
    have p01 := T.out.1.g1
    have p02 := T.out.1.g2
    have p03 := T.out.1.g3
    have p04 := T.out.1.g4
    have p05 := T.out.1.g5
    have p10 := T.out.2.1.g0
    have p11 := T.out.2.1.g1
    have p12 := T.out.2.1.g2
    have p13 := T.out.2.1.g3
    have p14 := T.out.2.1.g4
    have p15 := T.out.2.1.g5
    have p20 := T.out.2.2.g0
    have p21 := T.out.2.2.g1
    have p22 := T.out.2.2.g2
    have p23 := T.out.2.2.g3
    have p24 := T.out.2.2.g4
    have p25 := T.out.2.2.g5
    go_wp2_with fail
    refine (order_keep T.out _ _ _ _ _ _ _ _ _ _ _ _ _ HR).mono ?_
    rintro e w1 ⟨rfl, t⟩
    clear p00 p01 p02 p03 p04 p05 p10 p11 p12 p13 p14 p15 p20 p21 p22 p23 p24 p25
    have T := Lib.hid t
    clear t
    have p00 := T.out.1.g0
    have p01 := T.out.1.g1
    have p02 := T.out.1.g2
    have p03 := T.out.1.g3
    have p04 := T.out.1.g4
    have p05 := T.out.1.g5
    have p10 := T.out.2.1.g0
    have p11 := T.out.2.1.g1
    have p12 := T.out.2.1.g2
    have p13 := T.out.2.1.g3
    have p14 := T.out.2.1.g4
    have p15 := T.out.2.1.g5
    have p20 := T.out.2.2.g0
    have p21 := T.out.2.2.g1
    have p22 := T.out.2.2.g2
    have p23 := T.out.2.2.g3
    have p24 := T.out.2.2.g4
    have p25 := T.out.2.2.g5
    go_wp2_with fail
    refine (works_any _ (L.below T.out.1.bel)).mono ?_
    rintro e w2 ⟨rfl, b⟩
    go_wp2_with fail
    go_ret
    exact ⟨rfl, T.out.1.bel.trans (b.mono T.out.1.bel.size)⟩

set_option maxRecDepth 100000 in
set_option maxHeartbeats 1600000 in
theorem road_1 (y1 m1 d1 h1 i1 s1 m2 d2 h2 i2 s2 y3 m3 d3 h3 i3 s3 : Int) (w : World) (L : Lay w) (ne : m1 ≠ m2) :
    Calls Tryd.prog 13 #[.agg #[.int .i64 y1, .int .i64 m1, .int .i64 d1, .int .i64 h1, .int .i64 i1, .int .i64 s1], .agg #[.int .i64 y1, .int .i64 m2, .int .i64 d2, .int .i64 h2, .int .i64 i2, .int .i64 s2], .agg #[.int .i64 y3, .int .i64 m3, .int .i64 d3, .int .i64 h3, .int .i64 i3, .int .i64 s3]] w fun e w' => e = .returned (.bool true) ∧ Below w.heap.size w w' := by
  obtain ⟨x, hx⟩ : ∃ x, ordI y1 m1 d1 h1 i1 s1 y1 m2 d2 h2 i2 s2 = x := ⟨_, rfl⟩
  obtain ⟨y, hy⟩ : ∃ y, ordI y1 m2 d2 h2 i2 s2 y3 m3 d3 h3 i3 s3 = y := ⟨_, rfl⟩
  obtain ⟨z, hz⟩ : ∃ z, ordI y1 m1 d1 h1 i1 s1 y3 m3 d3 h3 i3 s3 = z := ⟨_, rfl⟩
  have bx := lex_bd [y1, m1, d1, h1, i1, s1] [y1, m2, d2, h2, i2, s2]
  have bY := lex_bd [y1, m2, d2, h2, i2, s2] [y3, m3, d3, h3, i3, s3]
  have tr := lex_trans [y1, m1, d1, h1, i1, s1] [y1, m2, d2, h2, i2, s2] [y3, m3, d3, h3, i3, s3] rfl rfl
  have zr := lex_zero [y1, m1, d1, h1, i1, s1] [y1, m2, d2, h2, i2, s2] rfl
  have an := lex_anti [y1, m1, d1, h1, i1, s1] [y1, m2, d2, h2, i2, s2]
  have re := lex_refl [y1, m1, d1, h1, i1, s1]
  rw [← ordI_lex, hx] at bx
  rw [← ordI_lex, hy] at bY
  rw [← ordI_lex, ← ordI_lex, ← ordI_lex, hx, hy, hz] at tr
  rw [← ordI_lex, hx] at zr
  rw [← ordI_lex, ← ordI_lex, hx] at an
  rw [← ordI_lex] at re
  have x0 : x ≠ 0 := fun e => ne (by have := zr e; simp at this; omega)
  have nb : (m1 == m2) = false := beq_eq_false_iff_ne.2 ne
  have xb : (x == 0) = false := beq_eq_false_iff_ne.2 x0
  have HX := Lib.hid hx
  have HY := Lib.hid hy
  have HZ := Lib.hid hz
  have HB := Lib.hid an
  have HR := Lib.hid re
  obtain ⟨W, hW, t⟩ := three_start w y1 m1 d1 h1 i1 s1 y1 m2 d2 h2 i2 s2 y3 m3 d3 h3 i3 s3
  have H := Lib.hid hW
  have T := Lib.hid t
  clear hx hy hz an re zr hW t ne
  have p00 := T.out.1.g0
  have p01 := T.out.1.g1
  have p02 := T.out.1.g2
  have p03 := T.out.1.g3
  have p04 := T.out.1.g4
  have p05 := T.out.1.g5
  have p10 := T.out.2.1.g0
  have p11 := T.out.2.1.g1
  have p12 := T.out.2.1.g2
  have p13 := T.out.2.1.g3
  have p14 := T.out.2.1.g4
  have p15 := T.out.2.1.g5
  have p20 := T.out.2.2.g0
  have p21 := T.out.2.2.g1
  have p22 := T.out.2.2.g2
  have p23 := T.out.2.2.g3
  have p24 := T.out.2.2.g4
  have p25 := T.out.2.2.g5
  have cs : (x = 1) ∨ (x = -1 ∧ 0 < y) ∨ (x = -1 ∧ y < 0 ∧ z = -1) ∨ (x = -1 ∧ y = 0 ∧ z = -1) := by omega
  clear tr bx bY x0
  rcases cs with c | ⟨c, c'⟩ | ⟨c, c', c2⟩ | ⟨c, c', c2⟩
  · subst c
    clear xb
    go_enter Tryd.func13, Tryd.ntmps13
    go_wp2_with fail
    rw [← H.out]
    go_wp2_with fail
    refine (order_keep T.out _ _ _ _ _ _ _ _ _ _ _ _ _ HX).mono ?_
    rintro e w1 ⟨rfl, t⟩
    clear p00 p01 p02 p03 p04 p05 p10 p11 p12 p13 p14 p15 p20 p21 p22 p23 p24 p25
    have T := Lib.hid t
    clear t
    have p00 := T.out.1.g0
    have p01 := T.out.1.g1
    have p02 := T.out.1.g2
    have p03 := T.out.1.g3
    have p04 := T.out.1.g4
    have p05 := T.out.1.g5
    have p10 := T.out.2.1.g0
    have p11 := T.out.2.1.g1
    have p12 := T.out.2.1.g2
    have p13 := T.out.2.1.g3
    have p14 := T.out.2.1.g4
    have p15 := T.out.2.1.g5
    have p20 := T.out.2.2.g0
    have p21 := T.out.2.2.g1
    have p22 := T.out.2.2.g2
    have p23 := T.out.2.2.g3
    have p24 := T.out.2.2.g4
    have p25 := T.out.2.2.g5
    go_wp2_with fail
    refine (order_keep T.out _ _ _ _ _ _ _ _ _ _ _ _ _ HY).mono ?_
    rintro e w1 ⟨rfl, t⟩
    clear p00 p01 p02 p03 p04 p05 p10 p11 p12 p13 p14 p15 p20 p21 p22 p23 p24 p25
    have T := Lib.hid t
    clear t
    have p00 := T.out.1.g0
    have p01 := T.out.1.g1
    have p02 := T.out.1.g2
    have p03 := T.out.1.g3
    have p04 := T.out.1.g4
    have p05 := T.out.1.g5
    have p10 := T.out.2.1.g0
    have p11 := T.out.2.1.g1
    have p12 := T.out.2.1.g2
    have p13 := T.out.2.1.g3
    have p14 := T.out.2.1.g4
    have p15 := T.out.2.1.g5
    have p20 := T.out.2.2.g0
    have p21 := T.out.2.2.g1
    have p22 := T.out.2.2.g2
    have p23 := T.out.2.2.g3
    have p24 := T.out.2.2.g4
    have p25 := T.out.2.2.g5
    go_wp2_with fail
    refine (order_keep T.out _ _ _ _ _ _ _ _ _ _ _ _ _ HZ).mono ?_
    rintro e w1 ⟨rfl, t⟩
    clear p00 p01 p02 p03 p04 p05 p10 p11 p12 p13 p14 p15 p20 p21 p22 p23 p24 p25
    have T := Lib.hid t
    clear t
    have p00 := T.out.1.g0
    have p01 := T.out.1.g1
    have p02 := T.out.1.g2
    have p03 := T.out.1.g3
    have p04 := T.out.1.g4
    have p05 := T.out.1.g5
    have p10 := T.out.2.1.g0
    have p11 := T.out.2.1.g1
    have p12 := T.out.2.1.g2
    have p13 := T.out.2.1.g3
    have p14 := T.out.2.1.g4
    have p15 := T.out.2.1.g5
    have p20 := T.out.2.2.g0
    have p21 := T.out.2.2.g1
    have p22 := T.out.2.2.g2
    have p23 := T.out.2.2.g3
    have p24 := T.out.2.2.g4
    have p25 := T.out.2.2.g5
    go_wp2_with fail
    refine (order_keep T.out _ _ _ _ _ _ _ _ _ _ _ _ _ HB).mono ?_
    rintro e w1 ⟨rfl, t⟩
    clear p00 p01 p02 p03 p04 p05 p10 p11 p12 p13 p14 p15 p20 p21 p22 p23 p24 p25
    have T := Lib.hid t
    clear t
    have p00 := T.out.1.g0
    have p01 := T.out.1.g1
    have p02 := T.out.1.g2
    have p03 := T.out.1.g3
    have p04 := T.out.1.g4
    have p05 := T.out.1.g5
    have p10 := T.out.2.1.g0
    have p11 := T.out.2.1.g1
    have p12 := T.out.2.1.g2
    have p13 := T.out.2.1.g3
    have p14 := T.out.2.1.g4
    have p15 := T.out.2.1.g5
    have p20 := T.out.2.2.g0
    have p21 := T.out.2.2.g1
    have p22 := T.out.2.2.g2
    have p23 := T.out.2.2.g3
    have p24 := T.out.2.2.g4
    have p25 := T.out.2.2.g5
    go_wp2_with fail
    refine (order_keep T.out _ _ _ _ _ _ _ _ _ _ _ _ _ HR).mono ?_
    rintro e w1 ⟨rfl, t⟩
    clear p00 p01 p02 p03 p04 p05 p10 p11 p12 p13 p14 p15 p20 p21 p22 p23 p24 p25
    have T := Lib.hid t
    clear t
    have p00 := T.out.1.g0
    have p01 := T.out.1.g1
    have p02 := T.out.1.g2
    have p03 := T.out.1.g3
    have p04 := T.out.1.g4
    have p05 := T.out.1.g5
    have p10 := T.out.2.1.g0
    have p11 := T.out.2.1.g1
    have p12 := T.out.2.1.g2
    have p13 := T.out.2.1.g3
    have p14 := T.out.2.1.g4
    have p15 := T.out.2.1.g5
    have p20 := T.out.2.2.g0
    have p21 := T.out.2.2.g1
    have p22 := T.out.2.2.g2
    have p23 := T.out.2.2.g3
    have p24 := T.out.2.2.g4
    have p25 := T.out.2.2.g5
    go_wp2_with fail
    refine (works_any _ (L.below T.out.1.bel)).mono ?_
    rintro e w2 ⟨rfl, b⟩
    go_wp2_with fail
    go_ret
    exact ⟨rfl, T.out.1.bel.trans (b.mono T.out.1.bel.size)⟩
  · subst c
    clear xb
    go_enter Tryd.func13, Tryd.ntmps13
    go_wp2_with fail
    rw [← H.out]
    go_wp2_with fail
    refine (order_keep T.out _ _ _ _ _ _ _ _ _ _ _ _ _ HX).mono ?_
    rintro e w1 ⟨rfl, t⟩
    clear p00 p01 p02 p03 p04 p05 p10 p11 p12 p13 p14 p15 p20 p21 p22 p23 p24 p25
    have T := Lib.hid t
    clear t
    have p00 := T.out.1.g0
    have p01 := T.out.1.g1
    have p02 := T.out.1.g2
    have p03 := T.out.1.g3
    have p04 := T.out.1.g4
    have p05 := T.out.1.g5
    have p10 := T.out.2.1.g0
    have p11 := T.out.2.1.g1
    have p12 := T.out.2.1.g2
    have p13 := T.out.2.1.g3
    have p14 := T.out.2.1.g4
    have p15 := T.out.2.1.g5
    have p20 := T.out.2.2.g0
    have p21 := T.out.2.2.g1
    have p22 := T.out.2.2.g2
    have p23 := T.out.2.2.g3
    have p24 := T.out.2.2.g4
    have p25 := T.out.2.2.g5
    go_wp2_with fail
    refine (order_keep T.out _ _ _ _ _ _ _ _ _ _ _ _ _ HY).mono ?_
    rintro e w1 ⟨rfl, t⟩
    clear p00 p01 p02 p03 p04 p05 p10 p11 p12 p13 p14 p15 p20 p21 p22 p23 p24 p25
    have T := Lib.hid t
    clear t
    have p00 := T.out.1.g0
    have p01 := T.out.1.g1
    have p02 := T.out.1.g2
    have p03 := T.out.1.g3
    have p04 := T.out.1.g4
    have p05 := T.out.1.g5
    have p10 := T.out.2.1.g0
    have p11 := T.out.2.1.g1
    have p12 := T.out.2.1.g2
    have p13 := T.out.2.1.g3
    have p14 := T.out.2.1.g4
    have p15 := T.out.2.1.g5
    have p20 := T.out.2.2.g0
    have p21 := T.out.2.2.g1
    have p22 := T.out.2.2.g2
    have p23 := T.out.2.2.g3
    have p24 := T.out.2.2.g4
    have p25 := T.out.2.2.g5
    go_wp2_with fail
    refine (order_keep T.out _ _ _ _ _ _ _ _ _ _ _ _ _ HZ).mono ?_
    rintro e w1 ⟨rfl, t⟩
    clear p00 p01 p02 p03 p04 p05 p10 p11 p12 p13 p14 p15 p20 p21 p22 p23 p24 p25
    have T := Lib.hid t
    clear t
    have p00 := T.out.1.g0
    have p01 := T.out.1.g1
    have p02 := T.out.1.g2
    have p03 := T.out.1.g3
    have p04 := T.out.1.g4
    have p05 := T.out.1.g5
    have p10 := T.out.2.1.g0
    have p11 := T.out.2.1.g1
    have p12 := T.out.2.1.g2
    have p13 := T.out.2.1.g3
    have p14 := T.out.2.1.g4
    have p15 := T.out.2.1.g5
    have p20 := T.out.2.2.g0
    have p21 := T.out.2.2.g1
    have p22 := T.out.2.2.g2
    have p23 := T.out.2.2.g3
    have p24 := T.out.2.2.g4
    have p25 := T.out.2.2.g5
    go_wp2_with fail
    refine (order_keep T.out _ _ _ _ _ _ _ _ _ _ _ _ _ HB).mono ?_
    rintro e w1 ⟨rfl, t⟩
    clear p00 p01 p02 p03 p04 p05 p10 p11 p12 p13 p14 p15 p20 p21 p22 p23 p24 p25
    have T := Lib.hid t
    clear t
    have p00 := T.out.1.g0
    have p01 := T.out.1.g1
    have p02 := T.out.1.g2
    have p03 := T.out.1.g3
    have p04 := T.out.1.g4
    have p05 := T.out.1.g5
    have p10 := T.out.2.1.g0
    have p11 := T.out.2.1.g1
    have p12 := T.out.2.1.g2
    have p13 := T.out.2.1.g3
    have p14 := T.out.2.1.g4
    have p15 := T.out.2.1.g5
    have p20 := T.out.2.2.g0
    have p21 := T.out.2.2.g1
    have p22 := T.out.2.2.g2
    have p23 := T.out.2.2.g3
    have p24 := T.out.2.2.g4
    have p25 := T.out.2.2.g5
    go_wp2_with fail
    refine (order_keep T.out _ _ _ _ _ _ _ _ _ _ _ _ _ HR).mono ?_
    rintro e w1 ⟨rfl, t⟩
    clear p00 p01 p02 p03 p04 p05 p10 p11 p12 p13 p14 p15 p20 p21 p22 p23 p24 p25
    have T := Lib.hid t
    clear t
    have p00 := T.out.1.g0
    have p01 := T.out.1.g1
    have p02 := T.out.1.g2
    have p03 := T.out.1.g3
    have p04 := T.out.1.g4
    have p05 := T.out.1.g5
    have p10 := T.out.2.1.g0
    have p11 := T.out.2.1.g1
    have p12 := T.out.2.1.g2
    have p13 := T.out.2.1.g3
    have p14 := T.out.2.1.g4
    have p15 := T.out.2.1.g5
    have p20 := T.out.2.2.g0
    have p21 := T.out.2.2.g1
    have p22 := T.out.2.2.g2
    have p23 := T.out.2.2.g3
    have p24 := T.out.2.2.g4
    have p25 := T.out.2.2.g5
    go_wp2_with fail
    refine (works_any _ (L.below T.out.1.bel)).mono ?_
    rintro e w2 ⟨rfl, b⟩
    go_wp2_with fail
    go_ret
    exact ⟨rfl, T.out.1.bel.trans (b.mono T.out.1.bel.size)⟩
  · subst c c2
    clear xb
    go_enter Tryd.func13, Tryd.ntmps13
    go_wp2_with fail
    rw [← H.out]
    go_wp2_with fail
    refine (order_keep T.out _ _ _ _ _ _ _ _ _ _ _ _ _ HX).mono ?_
    rintro e w1 ⟨rfl, t⟩
    clear p00 p01 p02 p03 p04 p05 p10 p11 p12 p13 p14 p15 p20 p21 p22 p23 p24 p25
    have T := Lib.hid t
    clear t
    have p00 := T.out.1.g0
    have p01 := T.out.1.g1
    have p02 := T.out.1.g2
    have p03 := T.out.1.g3
    have p04 := T.out.1.g4
    have p05 := T.out.1.g5
    have p10 := T.out.2.1.g0
    have p11 := T.out.2.1.g1
    have p12 := T.out.2.1.g2
    have p13 := T.out.2.1.g3
    have p14 := T.out.2.1.g4
    have p15 := T.out.2.1.g5
    have p20 := T.out.2.2.g0
    have p21 := T.out.2.2.g1
    have p22 := T.out.2.2.g2
    have p23 := T.out.2.2.g3
    have p24 := T.out.2.2.g4
    have p25 := T.out.2.2.g5
    go_wp2_with fail
    refine (order_keep T.out _ _ _ _ _ _ _ _ _ _ _ _ _ HY).mono ?_
    rintro e w1 ⟨rfl, t⟩
    clear p00 p01 p02 p03 p04 p05 p10 p11 p12 p13 p14 p15 p20 p21 p22 p23 p24 p25
    have T := Lib.hid t
    clear t
    have p00 := T.out.1.g0
    have p01 := T.out.1.g1
    have p02 := T.out.1.g2
    have p03 := T.out.1.g3
    have p04 := T.out.1.g4
    have p05 := T.out.1.g5
    have p10 := T.out.2.1.g0
    have p11 := T.out.2.1.g1
    have p12 := T.out.2.1.g2
    have p13 := T.out.2.1.g3
    have p14 := T.out.2.1.g4
    have p15 := T.out.2.1.g5
    have p20 := T.out.2.2.g0
    have p21 := T.out.2.2.g1
    have p22 := T.out.2.2.g2
    have p23 := T.out.2.2.g3
    have p24 := T.out.2.2.g4
    have p25 := T.out.2.2.g5
    go_wp2_with fail
    refine (order_keep T.out _ _ _ _ _ _ _ _ _ _ _ _ _ HZ).mono ?_
    rintro e w1 ⟨rfl, t⟩
    clear p00 p01 p02 p03 p04 p05 p10 p11 p12 p13 p14 p15 p20 p21 p22 p23 p24 p25
    have T := Lib.hid t
    clear t
    have p00 := T.out.1.g0
    have p01 := T.out.1.g1
    have p02 := T.out.1.g2
    have p03 := T.out.1.g3
    have p04 := T.out.1.g4
    have p05 := T.out.1.g5
    have p10 := T.out.2.1.g0
    have p11 := T.out.2.1.g1
    have p12 := T.out.2.1.g2
    have p13 := T.out.2.1.g3
    have p14 := T.out.2.1.g4
    have p15 := T.out.2.1.g5
    have p20 := T.out.2.2.g0
    have p21 := T.out.2.2.g1
    have p22 := T.out.2.2.g2
    have p23 := T.out.2.2.g3
    have p24 := T.out.2.2.g4
    have p25 := T.out.2.2.g5
    go_wp2_with fail
    refine (order_keep T.out _ _ _ _ _ _ _ _ _ _ _ _ _ HB).mono ?_
    rintro e w1 ⟨rfl, t⟩
    clear p00 p01 p02 p03 p04 p05 p10 p11 p12 p13 p14 p15 p20 p21 p22 p23 p24 p25
    have T := Lib.hid t
    clear t
    have p00 := T.out.1.g0
    have p01 := T.out.1.g1
    have p02 := T.out.1.g2
    have p03 := T.out.1.g3
    have p04 := T.out.1.g4
    have p05 := T.out.1.g5
    have p10 := T.out.2.1.g0
    have p11 := T.out.2.1.g1
    have p12 := T.out.2.1.g2
    have p13 := T.out.2.1.g3
    have p14 := T.out.2.1.g4
    have p15 := T.out.2.1.g5
    have p20 := T.out.2.2.g0
    have p21 := T.out.2.2.g1
    have p22 := T.out.2.2.g2
    have p23 := T.out.2.2.g3
    have p24 := T.out.2.2.g4
    have p25 := T.out.2.2.g5
    go_wp2_with fail
    refine (order_keep T.out _ _ _ _ _ _ _ _ _ _ _ _ _ HR).mono ?_
    rintro e w1 ⟨rfl, t⟩
    clear p00 p01 p02 p03 p04 p05 p10 p11 p12 p13 p14 p15 p20 p21 p22 p23 p24 p25
    have T := Lib.hid t
    clear t
    have p00 := T.out.1.g0
    have p01 := T.out.1.g1
    have p02 := T.out.1.g2
    have p03 := T.out.1.g3
    have p04 := T.out.1.g4
    have p05 := T.out.1.g5
    have p10 := T.out.2.1.g0
    have p11 := T.out.2.1.g1
    have p12 := T.out.2.1.g2
    have p13 := T.out.2.1.g3
    have p14 := T.out.2.1.g4
    have p15 := T.out.2.1.g5
    have p20 := T.out.2.2.g0
    have p21 := T.out.2.2.g1
    have p22 := T.out.2.2.g2
    have p23 := T.out.2.2.g3
    have p24 := T.out.2.2.g4
    have p25 := T.out.2.2.g5
    go_wp2_with fail
    refine (works_any _ (L.below T.out.1.bel)).mono ?_
    rintro e w2 ⟨rfl, b⟩
    go_wp2_with fail
    go_ret
    exact ⟨rfl, T.out.1.bel.trans (b.mono T.out.1.bel.size)⟩
  · subst c c' c2
    clear xb
    go_enter Tryd.func13, Tryd.ntmps13
    go_wp2_with fail
    rw [← H.out]
    go_wp2_with fail
    refine (order_keep T.out _ _ _ _ _ _ _ _ _ _ _ _ _ HX).mono ?_
    rintro e w1 ⟨rfl, t⟩
    clear p00 p01 p02 p03 p04 p05 p10 p11 p12 p13 p14 p15 p20 p21 p22 p23 p24 p25
    have T := Lib.hid t
    clear t
    have p00 := T.out.1.g0
    have p01 := T.out.1.g1
    have p02 := T.out.1.g2
    have p03 := T.out.1.g3
    have p04 := T.out.1.g4
    have p05 := T.out.1.g5
    have p10 := T.out.2.1.g0
    have p11 := T.out.2.1.g1
    have p12 := T.out.2.1.g2
    have p13 := T.out.2.1.g3
    have p14 := T.out.2.1.g4
    have p15 := T.out.2.1.g5
    have p20 := T.out.2.2.g0
    have p21 := T.out.2.2.g1
    have p22 := T.out.2.2.g2
    have p23 := T.out.2.2.g3
    have p24 := T.out.2.2.g4
    have p25 := T.out.2.2.g5
    go_wp2_with fail
    refine (order_keep T.out _ _ _ _ _ _ _ _ _ _ _ _ _ HY).mono ?_
    rintro e w1 ⟨rfl, t⟩
    clear p00 p01 p02 p03 p04 p05 p10 p11 p12 p13 p14 p15 p20 p21 p22 p23 p24 p25
    have T := Lib.hid t
    clear t
    have p00 := T.out.1.g0
    have p01 := T.out.1.g1
    have p02 := T.out.1.g2
    have p03 := T.out.1.g3
    have p04 := T.out.1.g4
    have p05 := T.out.1.g5
    have p10 := T.out.2.1.g0
    have p11 := T.out.2.1.g1
    have p12 := T.out.2.1.g2
    have p13 := T.out.2.1.g3
    have p14 := T.out.2.1.g4
    have p15 := T.out.2.1.g5
    have p20 := T.out.2.2.g0
    have p21 := T.out.2.2.g1
    have p22 := T.out.2.2.g2
    have p23 := T.out.2.2.g3
    have p24 := T.out.2.2.g4
    have p25 := T.out.2.2.g5
    go_wp2_with fail
    refine (order_keep T.out _ _ _ _ _ _ _ _ _ _ _ _ _ HZ).mono ?_
    rintro e w1 ⟨rfl, t⟩
    clear p00 p01 p02 p03 p04 p05 p10 p11 p12 p13 p14 p15 p20 p21 p22 p23 p24 p25
    have T := Lib.hid t
    clear t
    have p00 := T.out.1.g0
    have p01 := T.out.1.g1
    have p02 := T.out.1.g2
    have p03 := T.out.1.g3
    have p04 := T.out.1.g4
    have p05 := T.out.1.g5
    have p10 := T.out.2.1.g0
    have p11 := T.out.2.1.g1
    have p12 := T.out.2.1.g2
    have p13 := T.out.2.1.g3
    have p14 := T.out.2.1.g4
    have p15 := T.out.2.1.g5
    have p20 := T.out.2.2.g0
    have p21 := T.out.2.2.g1
    have p22 := T.out.2.2.g2
    have p23 := T.out.2.2.g3
    have p24 := T.out.2.2.g4
    have p25 := T.out.2.2.g5
    go_wp2_with fail
    refine (order_keep T.out _ _ _ _ _ _ _ _ _ _ _ _ _ HB).mono ?_
    rintro e w1 ⟨rfl, t⟩
    clear p00 p01 p02 p03 p04 p05 p10 p11 p12 p13 p14 p15 p20 p21 p22 p23 p24 p25
    have T := Lib.hid t
    clear t
    have p00 := T.out.1.g0
    have p01 := T.out.1.g1
    have p02 := T.out.1.g2
    have p03 := T.out.1.g3
    have p04 := T.out.1.g4
    have p05 := T.out.1.g5
    have p10 := T.out.2.1.g0
    have p11 := T.out.2.1.g1
    have p12 := T.out.2.1.g2
    have p13 := T.out.2.1.g3
    have p14 := T.out.2.1.g4
    have p15 := T.out.2.1.g5
    have p20 := T.out.2.2.g0
    have p21 := T.out.2.2.g1
    have p22 := T.out.2.2.g2
    have p23 := T.out.2.2.g3
    have p24 := T.out.2.2.g4
    have p25 := T.out.2.2.g5
    go_wp2_with fail
    refine (order_keep T.out _ _ _ _ _ _ _ _ _ _ _ _ _ HR).mono ?_
    rintro e w1 ⟨rfl, t⟩
    clear p00 p01 p02 p03 p04 p05 p10 p11 p12 p13 p14 p15 p20 p21 p22 p23 p24 p25
    have T := Lib.hid t
    clear t
    have p00 := T.out.1.g0
    have p01 := T.out.1.g1
    have p02 := T.out.1.g2
    have p03 := T.out.1.g3
    have p04 := T.out.1.g4
    have p05 := T.out.1.g5
    have p10 := T.out.2.1.g0
    have p11 := T.out.2.1.g1
    have p12 := T.out.2.1.g2
    have p13 := T.out.2.1.g3
    have p14 := T.out.2.1.g4
    have p15 := T.out.2.1.g5
    have p20 := T.out.2.2.g0
    have p21 := T.out.2.2.g1
    have p22 := T.out.2.2.g2
    have p23 := T.out.2.2.g3
    have p24 := T.out.2.2.g4
    have p25 := T.out.2.2.g5
    go_wp2_with fail
    refine (works_any _ (L.below T.out.1.bel)).mono ?_
    rintro e w2 ⟨rfl, b⟩
    go_wp2_with fail
    go_ret
    exact ⟨rfl, T.out.1.bel.trans (b.mono T.out.1.bel.size)⟩

set_option maxRecDepth 100000 in
set_option maxHeartbeats 1600000 in
theorem road_2 (y1 m1 d1 h1 i1 s1 d2 h2 i2 s2 y3 m3 d3 h3 i3 s3 : Int) (w : World) (L : Lay w) (ne : d1 ≠ d2) :
    Calls Tryd.prog 13 #[.agg #[.int .i64 y1, .int .i64 m1, .int .i64 d1, .int .i64 h1, .int .i64 i1, .int .i64 s1], .agg #[.int .i64 y1, .int .i64 m1, .int .i64 d2, .int .i64 h2, .int .i64 i2, .int .i64 s2], .agg #[.int .i64 y3, .int .i64 m3, .int .i64 d3, .int .i64 h3, .int .i64 i3, .int .i64 s3]] w fun e w' => e = .returned (.bool true) ∧ Below w.heap.size w w' := by
  obtain ⟨x, hx⟩ : ∃ x, ordI y1 m1 d1 h1 i1 s1 y1 m1 d2 h2 i2 s2 = x := ⟨_, rfl⟩
  obtain ⟨y, hy⟩ : ∃ y, ordI y1 m1 d2 h2 i2 s2 y3 m3 d3 h3 i3 s3 = y := ⟨_, rfl⟩
  obtain ⟨z, hz⟩ : ∃ z, ordI y1 m1 d1 h1 i1 s1 y3 m3 d3 h3 i3 s3 = z := ⟨_, rfl⟩
  have bx := lex_bd [y1, m1, d1, h1, i1, s1] [y1, m1, d2, h2, i2, s2]
  have bY := lex_bd [y1, m1, d2, h2, i2, s2] [y3, m3, d3, h3, i3, s3]
  have tr := lex_trans [y1, m1, d1, h1, i1, s1] [y1, m1, d2, h2, i2, s2] [y3, m3, d3, h3, i3, s3] rfl rfl
  have zr := lex_zero [y1, m1, d1, h1, i1, s1] [y1, m1, d2, h2, i2, s2] rfl
  have an := lex_anti [y1, m1, d1, h1, i1, s1] [y1, m1, d2, h2, i2, s2]
  have re := lex_refl [y1, m1, d1, h1, i1, s1]
  rw [← ordI_lex, hx] at bx
  rw [← ordI_lex, hy] at bY
  rw [← ordI_lex, ← ordI_lex, ← ordI_lex, hx, hy, hz] at tr
  rw [← ordI_lex, hx] at zr
  rw [← ordI_lex, ← ordI_lex, hx] at an
  rw [← ordI_lex] at re
  have x0 : x ≠ 0 := fun e => ne (by have := zr e; simp at this; omega)
  have nb : (d1 == d2) = false := beq_eq_false_iff_ne.2 ne
  have xb : (x == 0) = false := beq_eq_false_iff_ne.2 x0
  have HX := Lib.hid hx
  have HY := Lib.hid hy
  have HZ := Lib.hid hz
  have HB := Lib.hid an
  have HR := Lib.hid re
  obtain ⟨W, hW, t⟩ := three_start w y1 m1 d1 h1 i1 s1 y1 m1 d2 h2 i2 s2 y3 m3 d3 h3 i3 s3
  have H := Lib.hid hW
  have T := Lib.hid t
  clear hx hy hz an re zr hW t ne
  have p00 := T.out.1.g0
  have p01 := T.out.1.g1
  have p02 := T.out.1.g2
  have p03 := T.out.1.g3
  have p04 := T.out.1.g4
  have p05 := T.out.1.g5
  have p10 := T.out.2.1.g0
  have p11 := T.out.2.1.g1
  have p12 := T.out.2.1.g2
  have p13 := T.out.2.1.g3
  have p14 := T.out.2.1.g4
  have p15 := T.out.2.1.g5
  have p20 := T.out.2.2.g0
  have p21 := T.out.2.2.g1
  have p22 := T.out.2.2.g2
  have p23 := T.out.2.2.g3
  have p24 := T.out.2.2.g4
  have p25 := T.out.2.2.g5
  have cs : (x = 1) ∨ (x = -1 ∧ 0 < y) ∨ (x = -1 ∧ y < 0 ∧ z = -1) ∨ (x = -1 ∧ y = 0 ∧ z = -1) := by omega
  clear tr bx bY x0
  rcases cs with c | ⟨c, c'⟩ | ⟨c, c', c2⟩ | ⟨c, c', c2⟩
  · subst c
    clear xb
    go_enter Tryd.func13, Tryd.ntmps13
    go_wp2_with fail
    rw [← H.out]
    go_wp2_with fail
    refine (order_keep T.out _ _ _ _ _ _ _ _ _ _ _ _ _ HX).mono ?_
    rintro e w1 ⟨rfl, t⟩
    clear p00 p01 p02 p03 p04 p05 p10 p11 p12 p13 p14 p15 p20 p21 p22 p23 p24 p25
    have T := Lib.hid t
    clear t
    have p00 := T.out.1.g0
    have p01 := T.out.1.g1
    have p02 := T.out.1.g2
    have p03 := T.out.1.g3
    have p04 := T.out.1.g4
    have p05 := T.out.1.g5
    have p10 := T.out.2.1.g0
    have p11 := T.out.2.1.g1
    have p12 := T.out.2.1.g2
    have p13 := T.out.2.1.g3
    have p14 := T.out.2.1.g4
    have p15 := T.out.2.1.g5
    have p20 := T.out.2.2.g0
    have p21 := T.out.2.2.g1
    have p22 := T.out.2.2.g2
    have p23 := T.out.2.2.g3
    have p24 := T.out.2.2.g4
    have p25 := T.out.2.2.g5
    go_wp2_with fail
    refine (order_keep T.out _ _ _ _ _ _ _ _ _ _ _ _ _ HY).mono ?_
    rintro e w1 ⟨rfl, t⟩
    clear p00 p01 p02 p03 p04 p05 p10 p11 p12 p13 p14 p15 p20 p21 p22 p23 p24 p25
    have T := Lib.hid t
    clear t
    have p00 := T.out.1.g0
    have p01 := T.out.1.g1
    have p02 := T.out.1.g2
    have p03 := T.out.1.g3
    have p04 := T.out.1.g4
    have p05 := T.out.1.g5
    have p10 := T.out.2.1.g0
    have p11 := T.out.2.1.g1
    have p12 := T.out.2.1.g2
    have p13 := T.out.2.1.g3
    have p14 := T.out.2.1.g4
    have p15 := T.out.2.1.g5
    have p20 := T.out.2.2.g0
    have p21 := T.out.2.2.g1
    have p22 := T.out.2.2.g2
    have p23 := T.out.2.2.g3
    have p24 := T.out.2.2.g4
    have p25 := T.out.2.2.g5
    go_wp2_with fail
    refine (order_keep T.out _ _ _ _ _ _ _ _ _ _ _ _ _ HZ).mono ?_
    rintro e w1 ⟨rfl, t⟩
    clear p00 p01 p02 p03 p04 p05 p10 p11 p12 p13 p14 p15 p20 p21 p22 p23 p24 p25
    have T := Lib.hid t
    clear t
    have p00 := T.out.1.g0
    have p01 := T.out.1.g1
    have p02 := T.out.1.g2
    have p03 := T.out.1.g3
    have p04 := T.out.1.g4
    have p05 := T.out.1.g5
    have p10 := T.out.2.1.g0
    have p11 := T.out.2.1.g1
    have p12 := T.out.2.1.g2
    have p13 := T.out.2.1.g3
    have p14 := T.out.2.1.g4
    have p15 := T.out.2.1.g5
    have p20 := T.out.2.2.g0
    have p21 := T.out.2.2.g1
    have p22 := T.out.2.2.g2
    have p23 := T.out.2.2.g3
    have p24 := T.out.2.2.g4
    have p25 := T.out.2.2.g5
    go_wp2_with fail
    refine (order_keep T.out _ _ _ _ _ _ _ _ _ _ _ _ _ HB).mono ?_
    rintro e w1 ⟨rfl, t⟩
    clear p00 p01 p02 p03 p04 p05 p10 p11 p12 p13 p14 p15 p20 p21 p22 p23 p24 p25
    have T := Lib.hid t
    clear t
    have p00 := T.out.1.g0
    have p01 := T.out.1.g1
    have p02 := T.out.1.g2
    have p03 := T.out.1.g3
    have p04 := T.out.1.g4
    have p05 := T.out.1.g5
    have p10 := T.out.2.1.g0
    have p11 := T.out.2.1.g1
    have p12 := T.out.2.1.g2
    have p13 := T.out.2.1.g3
    have p14 := T.out.2.1.g4
    have p15 := T.out.2.1.g5
    have p20 := T.out.2.2.g0
    have p21 := T.out.2.2.g1
    have p22 := T.out.2.2.g2
    have p23 := T.out.2.2.g3
    have p24 := T.out.2.2.g4
    have p25 := T.out.2.2.g5
    go_wp2_with fail
    refine (order_keep T.out _ _ _ _ _ _ _ _ _ _ _ _ _ HR).mono ?_
    rintro e w1 ⟨rfl, t⟩
    clear p00 p01 p02 p03 p04 p05 p10 p11 p12 p13 p14 p15 p20 p21 p22 p23 p24 p25
    have T := Lib.hid t
    clear t
    have p00 := T.out.1.g0
    have p01 := T.out.1.g1
    have p02 := T.out.1.g2
    have p03 := T.out.1.g3
    have p04 := T.out.1.g4
    have p05 := T.out.1.g5
    have p10 := T.out.2.1.g0
    have p11 := T.out.2.1.g1
    have p12 := T.out.2.1.g2
    have p13 := T.out.2.1.g3
    have p14 := T.out.2.1.g4
    have p15 := T.out.2.1.g5
    have p20 := T.out.2.2.g0
    have p21 := T.out.2.2.g1
    have p22 := T.out.2.2.g2
    have p23 := T.out.2.2.g3
    have p24 := T.out.2.2.g4
    have p25 := T.out.2.2.g5
    go_wp2_with fail
    refine (works_any _ (L.below T.out.1.bel)).mono ?_
    rintro e w2 ⟨rfl, b⟩
    go_wp2_with fail
    go_ret
    exact ⟨rfl, T.out.1.bel.trans (b.mono T.out.1.bel.size)⟩
  · subst c
    clear xb
    go_enter Tryd.func13, Tryd.ntmps13
    go_wp2_with fail
    rw [← H.out]
    go_wp2_with fail
    refine (order_keep T.out _ _ _ _ _ _ _ _ _ _ _ _ _ HX).mono ?_
    rintro e w1 ⟨rfl, t⟩
    clear p00 p01 p02 p03 p04 p05 p10 p11 p12 p13 p14 p15 p20 p21 p22 p23 p24 p25
    have T := Lib.hid t
    clear t
    have p00 := T.out.1.g0
    have p01 := T.out.1.g1
    have p02 := T.out.1.g2
    have p03 := T.out.1.g3
    have p04 := T.out.1.g4
    have p05 := T.out.1.g5
    have p10 := T.out.2.1.g0
    have p11 := T.out.2.1.g1
    have p12 := T.out.2.1.g2
    have p13 := T.out.2.1.g3
    have p14 := T.out.2.1.g4
    have p15 := T.out.2.1.g5
    have p20 := T.out.2.2.g0
    have p21 := T.out.2.2.g1
    have p22 := T.out.2.2.g2
    have p23 := T.out.2.2.g3
    have p24 := T.out.2.2.g4
    have p25 := T.out.2.2.g5
    go_wp2_with fail
    refine (order_keep T.out _ _ _ _ _ _ _ _ _ _ _ _ _ HY).mono ?_
    rintro e w1 ⟨rfl, t⟩
    clear p00 p01 p02 p03 p04 p05 p10 p11 p12 p13 p14 p15 p20 p21 p22 p23 p24 p25
    have T := Lib.hid t
    clear t
    have p00 := T.out.1.g0
    have p01 := T.out.1.g1
    have p02 := T.out.1.g2
    have p03 := T.out.1.g3
    have p04 := T.out.1.g4
    have p05 := T.out.1.g5
    have p10 := T.out.2.1.g0
    have p11 := T.out.2.1.g1
    have p12 := T.out.2.1.g2
    have p13 := T.out.2.1.g3
    have p14 := T.out.2.1.g4
    have p15 := T.out.2.1.g5
    have p20 := T.out.2.2.g0
    have p21 := T.out.2.2.g1
    have p22 := T.out.2.2.g2
    have p23 := T.out.2.2.g3
    have p24 := T.out.2.2.g4
    have p25 := T.out.2.2.g5
    go_wp2_with fail
    refine (order_keep T.out _ _ _ _ _ _ _ _ _ _ _ _ _ HZ).mono ?_
    rintro e w1 ⟨rfl, t⟩
    clear p00 p01 p02 p03 p04 p05 p10 p11 p12 p13 p14 p15 p20 p21 p22 p23 p24 p25
    have T := Lib.hid t
    clear t
    have p00 := T.out.1.g0
    have p01 := T.out.1.g1
    have p02 := T.out.1.g2
    have p03 := T.out.1.g3
    have p04 := T.out.1.g4
    have p05 := T.out.1.g5
    have p10 := T.out.2.1.g0
    have p11 := T.out.2.1.g1
    have p12 := T.out.2.1.g2
    have p13 := T.out.2.1.g3
    have p14 := T.out.2.1.g4
    have p15 := T.out.2.1.g5
    have p20 := T.out.2.2.g0
    have p21 := T.out.2.2.g1
    have p22 := T.out.2.2.g2
    have p23 := T.out.2.2.g3
    have p24 := T.out.2.2.g4
    have p25 := T.out.2.2.g5
    go_wp2_with fail
    refine (order_keep T.out _ _ _ _ _ _ _ _ _ _ _ _ _ HB).mono ?_
    rintro e w1 ⟨rfl, t⟩
    clear p00 p01 p02 p03 p04 p05 p10 p11 p12 p13 p14 p15 p20 p21 p22 p23 p24 p25
    have T := Lib.hid t
    clear t
    have p00 := T.out.1.g0
    have p01 := T.out.1.g1
    have p02 := T.out.1.g2
    have p03 := T.out.1.g3
    have p04 := T.out.1.g4
    have p05 := T.out.1.g5
    have p10 := T.out.2.1.g0
    have p11 := T.out.2.1.g1
    have p12 := T.out.2.1.g2
    have p13 := T.out.2.1.g3
    have p14 := T.out.2.1.g4
    have p15 := T.out.2.1.g5
    have p20 := T.out.2.2.g0
    have p21 := T.out.2.2.g1
    have p22 := T.out.2.2.g2
    have p23 := T.out.2.2.g3
    have p24 := T.out.2.2.g4
    have p25 := T.out.2.2.g5
    go_wp2_with fail
    refine (order_keep T.out _ _ _ _ _ _ _ _ _ _ _ _ _ HR).mono ?_
    rintro e w1 ⟨rfl, t⟩
    clear p00 p01 p02 p03 p04 p05 p10 p11 p12 p13 p14 p15 p20 p21 p22 p23 p24 p25
    have T := Lib.hid t
    clear t
    have p00 := T.out.1.g0
    have p01 := T.out.1.g1
    have p02 := T.out.1.g2
    have p03 := T.out.1.g3
    have p04 := T.out.1.g4
    have p05 := T.out.1.g5
    have p10 := T.out.2.1.g0
    have p11 := T.out.2.1.g1
    have p12 := T.out.2.1.g2
    have p13 := T.out.2.1.g3
    have p14 := T.out.2.1.g4
    have p15 := T.out.2.1.g5
    have p20 := T.out.2.2.g0
    have p21 := T.out.2.2.g1
    have p22 := T.out.2.2.g2
    have p23 := T.out.2.2.g3
    have p24 := T.out.2.2.g4
    have p25 := T.out.2.2.g5
    go_wp2_with fail
    refine (works_any _ (L.below T.out.1.bel)).mono ?_
    rintro e w2 ⟨rfl, b⟩
    go_wp2_with fail
    go_ret
    exact ⟨rfl, T.out.1.bel.trans (b.mono T.out.1.bel.size)⟩
  · subst c c2
    clear xb
    go_enter Tryd.func13, Tryd.ntmps13
    go_wp2_with fail
    rw [← H.out]
    go_wp2_with fail
    refine (order_keep T.out _ _ _ _ _ _ _ _ _ _ _ _ _ HX).mono ?_
    rintro e w1 ⟨rfl, t⟩
    clear p00 p01 p02 p03 p04 p05 p10 p11 p12 p13 p14 p15 p20 p21 p22 p23 p24 p25
    have T := Lib.hid t
    clear t
    have p00 := T.out.1.g0
    have p01 := T.out.1.g1
    have p02 := T.out.1.g2
    have p03 := T.out.1.g3
    have p04 := T.out.1.g4
    have p05 := T.out.1.g5
    have p10 := T.out.2.1.g0
    have p11 := T.out.2.1.g1
    have p12 := T.out.2.1.g2
    have p13 := T.out.2.1.g3
    have p14 := T.out.2.1.g4
    have p15 := T.out.2.1.g5
    have p20 := T.out.2.2.g0
    have p21 := T.out.2.2.g1
    have p22 := T.out.2.2.g2
    have p23 := T.out.2.2.g3
    have p24 := T.out.2.2.g4
    have p25 := T.out.2.2.g5
    go_wp2_with fail
    refine (order_keep T.out _ _ _ _ _ _ _ _ _ _ _ _ _ HY).mono ?_
    rintro e w1 ⟨rfl, t⟩
    clear p00 p01 p02 p03 p04 p05 p10 p11 p12 p13 p14 p15 p20 p21 p22 p23 p24 p25
    have T := Lib.hid t
    clear t
    have p00 := T.out.1.g0
    have p01 := T.out.1.g1
    have p02 := T.out.1.g2
    have p03 := T.out.1.g3
    have p04 := T.out.1.g4
    have p05 := T.out.1.g5
    have p10 := T.out.2.1.g0
    have p11 := T.out.2.1.g1
    have p12 := T.out.2.1.g2
    have p13 := T.out.2.1.g3
    have p14 := T.out.2.1.g4
    have p15 := T.out.2.1.g5
    have p20 := T.out.2.2.g0
    have p21 := T.out.2.2.g1
    have p22 := T.out.2.2.g2
    have p23 := T.out.2.2.g3
    have p24 := T.out.2.2.g4
    have p25 := T.out.2.2.g5
    go_wp2_with fail
    refine (order_keep T.out _ _ _ _ _ _ _ _ _ _ _ _ _ HZ).mono ?_
    rintro e w1 ⟨rfl, t⟩
    clear p00 p01 p02 p03 p04 p05 p10 p11 p12 p13 p14 p15 p20 p21 p22 p23 p24 p25
    have T := Lib.hid t
    clear t
    have p00 := T.out.1.g0
    have p01 := T.out.1.g1
    have p02 := T.out.1.g2
    have p03 := T.out.1.g3
    have p04 := T.out.1.g4
    have p05 := T.out.1.g5
    have p10 := T.out.2.1.g0
    have p11 := T.out.2.1.g1
    have p12 := T.out.2.1.g2
    have p13 := T.out.2.1.g3
    have p14 := T.out.2.1.g4
    have p15 := T.out.2.1.g5
    have p20 := T.out.2.2.g0
    have p21 := T.out.2.2.g1
    have p22 := T.out.2.2.g2
    have p23 := T.out.2.2.g3
    have p24 := T.out.2.2.g4
    have p25 := T.out.2.2.g5
    go_wp2_with fail
    refine (order_keep T.out _ _ _ _ _ _ _ _ _ _ _ _ _ HB).mono ?_
    rintro e w1 ⟨rfl, t⟩
    clear p00 p01 p02 p03 p04 p05 p10 p11 p12 p13 p14 p15 p20 p21 p22 p23 p24 p25
    have T := Lib.hid t
    clear t
    have p00 := T.out.1.g0
    have p01 := T.out.1.g1
    have p02 := T.out.1.g2
    have p03 := T.out.1.g3
    have p04 := T.out.1.g4
    have p05 := T.out.1.g5
    have p10 := T.out.2.1.g0
    have p11 := T.out.2.1.g1
    have p12 := T.out.2.1.g2
    have p13 := T.out.2.1.g3
    have p14 := T.out.2.1.g4
    have p15 := T.out.2.1.g5
    have p20 := T.out.2.2.g0
    have p21 := T.out.2.2.g1
    have p22 := T.out.2.2.g2
    have p23 := T.out.2.2.g3
    have p24 := T.out.2.2.g4
    have p25 := T.out.2.2.g5
    go_wp2_with fail
    refine (order_keep T.out _ _ _ _ _ _ _ _ _ _ _ _ _ HR).mono ?_
    rintro e w1 ⟨rfl, t⟩
    clear p00 p01 p02 p03 p04 p05 p10 p11 p12 p13 p14 p15 p20 p21 p22 p23 p24 p25
    have T := Lib.hid t
    clear t
    have p00 := T.out.1.g0
    have p01 := T.out.1.g1
    have p02 := T.out.1.g2
    have p03 := T.out.1.g3
    have p04 := T.out.1.g4
    have p05 := T.out.1.g5
    have p10 := T.out.2.1.g0
    have p11 := T.out.2.1.g1
    have p12 := T.out.2.1.g2
    have p13 := T.out.2.1.g3
    have p14 := T.out.2.1.g4
    have p15 := T.out.2.1.g5
    have p20 := T.out.2.2.g0
    have p21 := T.out.2.2.g1
    have p22 := T.out.2.2.g2
    have p23 := T.out.2.2.g3
    have p24 := T.out.2.2.g4
    have p25 := T.out.2.2.g5
    go_wp2_with fail
    refine (works_any _ (L.below T.out.1.bel)).mono ?_
    rintro e w2 ⟨rfl, b⟩
    go_wp2_with fail
    go_ret
    exact ⟨rfl, T.out.1.bel.trans (b.mono T.out.1.bel.size)⟩
  · subst c c' c2
    clear xb
    go_enter Tryd.func13, Tryd.ntmps13
    go_wp2_with fail
    rw [← H.out]
    go_wp2_with fail
    refine (order_keep T.out _ _ _ _ _ _ _ _ _ _ _ _ _ HX).mono ?_
    rintro e w1 ⟨rfl, t⟩
    clear p00 p01 p02 p03 p04 p05 p10 p11 p12 p13 p14 p15 p20 p21 p22 p23 p24 p25
    have T := Lib.hid t
    clear t
    have p00 := T.out.1.g0
    have p01 := T.out.1.g1
    have p02 := T.out.1.g2
    have p03 := T.out.1.g3
    have p04 := T.out.1.g4
    have p05 := T.out.1.g5
    have p10 := T.out.2.1.g0
    have p11 := T.out.2.1.g1
    have p12 := T.out.2.1.g2
    have p13 := T.out.2.1.g3
    have p14 := T.out.2.1.g4
    have p15 := T.out.2.1.g5
    have p20 := T.out.2.2.g0
    have p21 := T.out.2.2.g1
    have p22 := T.out.2.2.g2
    have p23 := T.out.2.2.g3
    have p24 := T.out.2.2.g4
    have p25 := T.out.2.2.g5
    go_wp2_with fail
    refine (order_keep T.out _ _ _ _ _ _ _ _ _ _ _ _ _ HY).mono ?_
    rintro e w1 ⟨rfl, t⟩
    clear p00 p01 p02 p03 p04 p05 p10 p11 p12 p13 p14 p15 p20 p21 p22 p23 p24 p25
    have T := Lib.hid t
    clear t
    have p00 := T.out.1.g0
    have p01 := T.out.1.g1
    have p02 := T.out.1.g2
    have p03 := T.out.1.g3
    have p04 := T.out.1.g4
    have p05 := T.out.1.g5
    have p10 := T.out.2.1.g0
    have p11 := T.out.2.1.g1
    have p12 := T.out.2.1.g2
    have p13 := T.out.2.1.g3
    have p14 := T.out.2.1.g4
    have p15 := T.out.2.1.g5
    have p20 := T.out.2.2.g0
    have p21 := T.out.2.2.g1
    have p22 := T.out.2.2.g2
    have p23 := T.out.2.2.g3
    have p24 := T.out.2.2.g4
    have p25 := T.out.2.2.g5
    go_wp2_with fail
    refine (order_keep T.out _ _ _ _ _ _ _ _ _ _ _ _ _ HZ).mono ?_
    rintro e w1 ⟨rfl, t⟩
    clear p00 p01 p02 p03 p04 p05 p10 p11 p12 p13 p14 p15 p20 p21 p22 p23 p24 p25
    have T := Lib.hid t
    clear t
    have p00 := T.out.1.g0
    have p01 := T.out.1.g1
    have p02 := T.out.1.g2
    have p03 := T.out.1.g3
    have p04 := T.out.1.g4
    have p05 := T.out.1.g5
    have p10 := T.out.2.1.g0
    have p11 := T.out.2.1.g1
    have p12 := T.out.2.1.g2
    have p13 := T.out.2.1.g3
    have p14 := T.out.2.1.g4
    have p15 := T.out.2.1.g5
    have p20 := T.out.2.2.g0
    have p21 := T.out.2.2.g1
    have p22 := T.out.2.2.g2
    have p23 := T.out.2.2.g3
    have p24 := T.out.2.2.g4
    have p25 := T.out.2.2.g5
    go_wp2_with fail
    refine (order_keep T.out _ _ _ _ _ _ _ _ _ _ _ _ _ HB).mono ?_
    rintro e w1 ⟨rfl, t⟩
    clear p00 p01 p02 p03 p04 p05 p10 p11 p12 p13 p14 p15 p20 p21 p22 p23 p24 p25
    have T := Lib.hid t
    clear t
    have p00 := T.out.1.g0
    have p01 := T.out.1.g1
    have p02 := T.out.1.g2
    have p03 := T.out.1.g3
    have p04 := T.out.1.g4
    have p05 := T.out.1.g5
    have p10 := T.out.2.1.g0
    have p11 := T.out.2.1.g1
    have p12 := T.out.2.1.g2
    have p13 := T.out.2.1.g3
    have p14 := T.out.2.1.g4
    have p15 := T.out.2.1.g5
    have p20 := T.out.2.2.g0
    have p21 := T.out.2.2.g1
    have p22 := T.out.2.2.g2
    have p23 := T.out.2.2.g3
    have p24 := T.out.2.2.g4
    have p25 := T.out.2.2.g5
    go_wp2_with fail
    refine (order_keep T.out _ _ _ _ _ _ _ _ _ _ _ _ _ HR).mono ?_
    rintro e w1 ⟨rfl, t⟩
    clear p00 p01 p02 p03 p04 p05 p10 p11 p12 p13 p14 p15 p20 p21 p22 p23 p24 p25
    have T := Lib.hid t
    clear t
    have p00 := T.out.1.g0
    have p01 := T.out.1.g1
    have p02 := T.out.1.g2
    have p03 := T.out.1.g3
    have p04 := T.out.1.g4
    have p05 := T.out.1.g5
    have p10 := T.out.2.1.g0
    have p11 := T.out.2.1.g1
    have p12 := T.out.2.1.g2
    have p13 := T.out.2.1.g3
    have p14 := T.out.2.1.g4
    have p15 := T.out.2.1.g5
    have p20 := T.out.2.2.g0
    have p21 := T.out.2.2.g1
    have p22 := T.out.2.2.g2
    have p23 := T.out.2.2.g3
    have p24 := T.out.2.2.g4
    have p25 := T.out.2.2.g5
    go_wp2_with fail
    refine (works_any _ (L.below T.out.1.bel)).mono ?_
    rintro e w2 ⟨rfl, b⟩
    go_wp2_with fail
    go_ret
    exact ⟨rfl, T.out.1.bel.trans (b.mono T.out.1.bel.size)⟩

set_option maxRecDepth 100000 in
set_option maxHeartbeats 1600000 in
theorem road_3 (y1 m1 d1 h1 i1 s1 h2 i2 s2 y3 m3 d3 h3 i3 s3 : Int) (w : World) (L : Lay w) (ne : h1 ≠ h2) :
    Calls Tryd.prog 13 #[.agg #[.int .i64 y1, .int .i64 m1, .int .i64 d1, .int .i64 h1, .int .i64 i1, .int .i64 s1], .agg #[.int .i64 y1, .int .i64 m1, .int .i64 d1, .int .i64 h2, .int .i64 i2, .int .i64 s2], .agg #[.int .i64 y3, .int .i64 m3, .int .i64 d3, .int .i64 h3, .int .i64 i3, .int .i64 s3]] w fun e w' => e = .returned (.bool true) ∧ Below w.heap.size w w' := by
  obtain ⟨x, hx⟩ : ∃ x, ordI y1 m1 d1 h1 i1 s1 y1 m1 d1 h2 i2 s2 = x := ⟨_, rfl⟩
  obtain ⟨y, hy⟩ : ∃ y, ordI y1 m1 d1 h2 i2 s2 y3 m3 d3 h3 i3 s3 = y := ⟨_, rfl⟩
  obtain ⟨z, hz⟩ : ∃ z, ordI y1 m1 d1 h1 i1 s1 y3 m3 d3 h3 i3 s3 = z := ⟨_, rfl⟩
  have bx := lex_bd [y1, m1, d1, h1, i1, s1] [y1, m1, d1, h2, i2, s2]
  have bY := lex_bd [y1, m1, d1, h2, i2, s2] [y3, m3, d3, h3, i3, s3]
  have tr := lex_trans [y1, m1, d1, h1, i1, s1] [y1, m1, d1, h2, i2, s2] [y3, m3, d3, h3, i3, s3] rfl rfl
  have zr := lex_zero [y1, m1, d1, h1, i1, s1] [y1, m1, d1, h2, i2, s2] rfl
  have an := lex_anti [y1, m1, d1, h1, i1, s1] [y1, m1, d1, h2, i2, s2]
  have re := lex_refl [y1, m1, d1, h1, i1, s1]
  rw [← ordI_lex, hx] at bx
  rw [← ordI_lex, hy] at bY
  rw [← ordI_lex, ← ordI_lex, ← ordI_lex, hx, hy, hz] at tr
  rw [← ordI_lex, hx] at zr
  rw [← ordI_lex, ← ordI_lex, hx] at an
  rw [← ordI_lex] at re
  have x0 : x ≠ 0 := fun e => ne (by have := zr e; simp at this; omega)
  have nb : (h1 == h2) = false := beq_eq_false_iff_ne.2 ne
  have xb : (x == 0) = false := beq_eq_false_iff_ne.2 x0
  have HX := Lib.hid hx
  have HY := Lib.hid hy
  have HZ := Lib.hid hz
  have HB := Lib.hid an
  have HR := Lib.hid re
  obtain ⟨W, hW, t⟩ := three_start w y1 m1 d1 h1 i1 s1 y1 m1 d1 h2 i2 s2 y3 m3 d3 h3 i3 s3
  have H := Lib.hid hW
  have T := Lib.hid t
  clear hx hy hz an re zr hW t ne
  have p00 := T.out.1.g0
  have p01 := T.out.1.g1
  have p02 := T.out.1.g2
  have p03 := T.out.1.g3
  have p04 := T.out.1.g4
  have p05 := T.out.1.g5
  have p10 := T.out.2.1.g0
  have p11 := T.out.2.1.g1
  have p12 := T.out.2.1.g2
  have p13 := T.out.2.1.g3
  have p14 := T.out.2.1.g4
  have p15 := T.out.2.1.g5
  have p20 := T.out.2.2.g0
  have p21 := T.out.2.2.g1
  have p22 := T.out.2.2.g2
  have p23 := T.out.2.2.g3
  have p24 := T.out.2.2.g4
  have p25 := T.out.2.2.g5
  have cs : (x = 1) ∨ (x = -1 ∧ 0 < y) ∨ (x = -1 ∧ y < 0 ∧ z = -1) ∨ (x = -1 ∧ y = 0 ∧ z = -1) := by omega
  clear tr bx bY x0
  rcases cs with c | ⟨c, c'⟩ | ⟨c, c', c2⟩ | ⟨c, c', c2⟩
  · subst c
    clear xb
    go_enter Tryd.func13, Tryd.ntmps13
    go_wp2_with fail
    rw [← H.out]
    go_wp2_with fail
    refine (order_keep T.out _ _ _ _ _ _ _ _ _ _ _ _ _ HX).mono ?_
    rintro e w1 ⟨rfl, t⟩
    clear p00 p01 p02 p03 p04 p05 p10 p11 p12 p13 p14 p15 p20 p21 p22 p23 p24 p25
    have T := Lib.hid t
    clear t
    have p00 := T.out.1.g0
    have p01 := T.out.1.g1
    have p02 := T.out.1.g2
    have p03 := T.out.1.g3
    have p04 := T.out.1.g4
    have p05 := T.out.1.g5
    have p10 := T.out.2.1.g0
    have p11 := T.out.2.1.g1
    have p12 := T.out.2.1.g2
    have p13 := T.out.2.1.g3
    have p14 := T.out.2.1.g4
    have p15 := T.out.2.1.g5
    have p20 := T.out.2.2.g0
    have p21 := T.out.2.2.g1
    have p22 := T.out.2.2.g2
    have p23 := T.out.2.2.g3
    have p24 := T.out.2.2.g4
    have p25 := T.out.2.2.g5
    go_wp2_with fail
    refine (order_keep T.out _ _ _ _ _ _ _ _ _ _ _ _ _ HY).mono ?_
    rintro e w1 ⟨rfl, t⟩
    clear p00 p01 p02 p03 p04 p05 p10 p11 p12 p13 p14 p15 p20 p21 p22 p23 p24 p25
    have T := Lib.hid t
    clear t
    have p00 := T.out.1.g0
    have p01 := T.out.1.g1
    have p02 := T.out.1.g2
    have p03 := T.out.1.g3
    have p04 := T.out.1.g4
    have p05 := T.out.1.g5
    have p10 := T.out.2.1.g0
    have p11 := T.out.2.1.g1
    have p12 := T.out.2.1.g2
    have p13 := T.out.2.1.g3
    have p14 := T.out.2.1.g4
    have p15 := T.out.2.1.g5
    have p20 := T.out.2.2.g0
    have p21 := T.out.2.2.g1
    have p22 := T.out.2.2.g2
    have p23 := T.out.2.2.g3
    have p24 := T.out.2.2.g4
    have p25 := T.out.2.2.g5
    go_wp2_with fail
    refine (order_keep T.out _ _ _ _ _ _ _ _ _ _ _ _ _ HZ).mono ?_
    rintro e w1 ⟨rfl, t⟩
    clear p00 p01 p02 p03 p04 p05 p10 p11 p12 p13 p14 p15 p20 p21 p22 p23 p24 p25
    have T := Lib.hid t
    clear t
    have p00 := T.out.1.g0
    have p01 := T.out.1.g1
    have p02 := T.out.1.g2
    have p03 := T.out.1.g3
    have p04 := T.out.1.g4
    have p05 := T.out.1.g5
    have p10 := T.out.2.1.g0
    have p11 := T.out.2.1.g1
    have p12 := T.out.2.1.g2
    have p13 := T.out.2.1.g3
    have p14 := T.out.2.1.g4
    have p15 := T.out.2.1.g5
    have p20 := T.out.2.2.g0
    have p21 := T.out.2.2.g1
    have p22 := T.out.2.2.g2
    have p23 := T.out.2.2.g3
    have p24 := T.out.2.2.g4
    have p25 := T.out.2.2.g5
    go_wp2_with fail
    refine (order_keep T.out _ _ _ _ _ _ _ _ _ _ _ _ _ HB).mono ?_
    rintro e w1 ⟨rfl, t⟩
    clear p00 p01 p02 p03 p04 p05 p10 p11 p12 p13 p14 p15 p20 p21 p22 p23 p24 p25
    have T := Lib.hid t
    clear t
    have p00 := T.out.1.g0
    have p01 := T.out.1.g1
    have p02 := T.out.1.g2
    have p03 := T.out.1.g3
    have p04 := T.out.1.g4
    have p05 := T.out.1.g5
    have p10 := T.out.2.1.g0
    have p11 := T.out.2.1.g1
    have p12 := T.out.2.1.g2
    have p13 := T.out.2.1.g3
    have p14 := T.out.2.1.g4
    have p15 := T.out.2.1.g5
    have p20 := T.out.2.2.g0
    have p21 := T.out.2.2.g1
    have p22 := T.out.2.2.g2
    have p23 := T.out.2.2.g3
    have p24 := T.out.2.2.g4
    have p25 := T.out.2.2.g5
    go_wp2_with fail
    refine (order_keep T.out _ _ _ _ _ _ _ _ _ _ _ _ _ HR).mono ?_
    rintro e w1 ⟨rfl, t⟩
    clear p00 p01 p02 p03 p04 p05 p10 p11 p12 p13 p14 p15 p20 p21 p22 p23 p24 p25
    have T := Lib.hid t
    clear t
    have p00 := T.out.1.g0
    have p01 := T.out.1.g1
    have p02 := T.out.1.g2
    have p03 := T.out.1.g3
    have p04 := T.out.1.g4
    have p05 := T.out.1.g5
    have p10 := T.out.2.1.g0
    have p11 := T.out.2.1.g1
    have p12 := T.out.2.1.g2
    have p13 := T.out.2.1.g3
    have p14 := T.out.2.1.g4
    have p15 := T.out.2.1.g5
    have p20 := T.out.2.2.g0
    have p21 := T.out.2.2.g1
    have p22 := T.out.2.2.g2
    have p23 := T.out.2.2.g3
    have p24 := T.out.2.2.g4
    have p25 := T.out.2.2.g5
    go_wp2_with fail
    refine (works_any _ (L.below T.out.1.bel)).mono ?_
    rintro e w2 ⟨rfl, b⟩
    go_wp2_with fail
    go_ret
    exact ⟨rfl, T.out.1.bel.trans (b.mono T.out.1.bel.size)⟩
  · subst c
    clear xb
    go_enter Tryd.func13, Tryd.ntmps13
    go_wp2_with fail
    rw [← H.out]
    go_wp2_with fail
    refine (order_keep T.out _ _ _ _ _ _ _ _ _ _ _ _ _ HX).mono ?_
    rintro e w1 ⟨rfl, t⟩
    clear p00 p01 p02 p03 p04 p05 p10 p11 p12 p13 p14 p15 p20 p21 p22 p23 p24 p25
    have T := Lib.hid t
    clear t
    have p00 := T.out.1.g0
    have p01 := T.out.1.g1
    have p02 := T.out.1.g2
    have p03 := T.out.1.g3
    have p04 := T.out.1.g4
    have p05 := T.out.1.g5
    have p10 := T.out.2.1.g0
    have p11 := T.out.2.1.g1
    have p12 := T.out.2.1.g2
    have p13 := T.out.2.1.g3
    have p14 := T.out.2.1.g4
    have p15 := T.out.2.1.g5
    have p20 := T.out.2.2.g0
    have p21 := T.out.2.2.g1
    have p22 := T.out.2.2.g2
    have p23 := T.out.2.2.g3
    have p24 := T.out.2.2.g4
    have p25 := T.out.2.2.g5
    go_wp2_with fail
    refine (order_keep T.out _ _ _ _ _ _ _ _ _ _ _ _ _ HY).mono ?_
    rintro e w1 ⟨rfl, t⟩
    clear p00 p01 p02 p03 p04 p05 p10 p11 p12 p13 p14 p15 p20 p21 p22 p23 p24 p25
    have T := Lib.hid t
    clear t
    have p00 := T.out.1.g0
    have p01 := T.out.1.g1
    have p02 := T.out.1.g2
    have p03 := T.out.1.g3
    have p04 := T.out.1.g4
    have p05 := T.out.1.g5
    have p10 := T.out.2.1.g0
    have p11 := T.out.2.1.g1
    have p12 := T.out.2.1.g2
    have p13 := T.out.2.1.g3
    have p14 := T.out.2.1.g4
    have p15 := T.out.2.1.g5
    have p20 := T.out.2.2.g0
    have p21 := T.out.2.2.g1
    have p22 := T.out.2.2.g2
    have p23 := T.out.2.2.g3
    have p24 := T.out.2.2.g4
    have p25 := T.out.2.2.g5
    go_wp2_with fail
    refine (order_keep T.out _ _ _ _ _ _ _ _ _ _ _ _ _ HZ).mono ?_
    rintro e w1 ⟨rfl, t⟩
    clear p00 p01 p02 p03 p04 p05 p10 p11 p12 p13 p14 p15 p20 p21 p22 p23 p24 p25
    have T := Lib.hid t
    clear t
    have p00 := T.out.1.g0
    have p01 := T.out.1.g1
    have p02 := T.out.1.g2
    have p03 := T.out.1.g3
    have p04 := T.out.1.g4
    have p05 := T.out.1.g5
    have p10 := T.out.2.1.g0
    have p11 := T.out.2.1.g1
    have p12 := T.out.2.1.g2
    have p13 := T.out.2.1.g3
    have p14 := T.out.2.1.g4
    have p15 := T.out.2.1.g5
    have p20 := T.out.2.2.g0
    have p21 := T.out.2.2.g1
    have p22 := T.out.2.2.g2
    have p23 := T.out.2.2.g3
    have p24 := T.out.2.2.g4
    have p25 := T.out.2.2.g5
    go_wp2_with fail
    refine (order_keep T.out _ _ _ _ _ _ _ _ _ _ _ _ _ HB).mono ?_
    rintro e w1 ⟨rfl, t⟩
    clear p00 p01 p02 p03 p04 p05 p10 p11 p12 p13 p14 p15 p20 p21 p22 p23 p24 p25
    have T := Lib.hid t
    clear t
    have p00 := T.out.1.g0
    have p01 := T.out.1.g1
    have p02 := T.out.1.g2
    have p03 := T.out.1.g3
    have p04 := T.out.1.g4
    have p05 := T.out.1.g5
    have p10 := T.out.2.1.g0
    have p11 := T.out.2.1.g1
    have p12 := T.out.2.1.g2
    have p13 := T.out.2.1.g3
    have p14 := T.out.2.1.g4
    have p15 := T.out.2.1.g5
    have p20 := T.out.2.2.g0
    have p21 := T.out.2.2.g1
    have p22 := T.out.2.2.g2
    have p23 := T.out.2.2.g3
    have p24 := T.out.2.2.g4
    have p25 := T.out.2.2.g5
    go_wp2_with fail
    refine (order_keep T.out _ _ _ _ _ _ _ _ _ _ _ _ _ HR).mono ?_
    rintro e w1 ⟨rfl, t⟩
    clear p00 p01 p02 p03 p04 p05 p10 p11 p12 p13 p14 p15 p20 p21 p22 p23 p24 p25
    have T := Lib.hid t
    clear t
    have p00 := T.out.1.g0
    have p01 := T.out.1.g1
    have p02 := T.out.1.g2
    have p03 := T.out.1.g3
    have p04 := T.out.1.g4
    have p05 := T.out.1.g5
    have p10 := T.out.2.1.g0
    have p11 := T.out.2.1.g1
    have p12 := T.out.2.1.g2
    have p13 := T.out.2.1.g3
    have p14 := T.out.2.1.g4
    have p15 := T.out.2.1.g5
    have p20 := T.out.2.2.g0
    have p21 := T.out.2.2.g1
    have p22 := T.out.2.2.g2
    have p23 := T.out.2.2.g3
    have p24 := T.out.2.2.g4
    have p25 := T.out.2.2.g5
    go_wp2_with fail
    refine (works_any _ (L.below T.out.1.bel)).mono ?_
    rintro e w2 ⟨rfl, b⟩
    go_wp2_with fail
    go_ret
    exact ⟨rfl, T.out.1.bel.trans (b.mono T.out.1.bel.size)⟩
  · subst c c2
    clear xb
    go_enter Tryd.func13, Tryd.ntmps13
    go_wp2_with fail
    rw [← H.out]
    go_wp2_with fail
    refine (order_keep T.out _ _ _ _ _ _ _ _ _ _ _ _ _ HX).mono ?_
    rintro e w1 ⟨rfl, t⟩
    clear p00 p01 p02 p03 p04 p05 p10 p11 p12 p13 p14 p15 p20 p21 p22 p23 p24 p25
    have T := Lib.hid t
    clear t
    have p00 := T.out.1.g0
    have p01 := T.out.1.g1
    have p02 := T.out.1.g2
    have p03 := T.out.1.g3
    have p04 := T.out.1.g4
    have p05 := T.out.1.g5
    have p10 := T.out.2.1.g0
    have p11 := T.out.2.1.g1
    have p12 := T.out.2.1.g2
    have p13 := T.out.2.1.g3
    have p14 := T.out.2.1.g4
    have p15 := T.out.2.1.g5
    have p20 := T.out.2.2.g0
    have p21 := T.out.2.2.g1
    have p22 := T.out.2.2.g2
    have p23 := T.out.2.2.g3
    have p24 := T.out.2.2.g4
    have p25 := T.out.2.2.g5
    go_wp2_with fail
    refine (order_keep T.out _ _ _ _ _ _ _ _ _ _ _ _ _ HY).mono ?_
    rintro e w1 ⟨rfl, t⟩
    clear p00 p01 p02 p03 p04 p05 p10 p11 p12 p13 p14 p15 p20 p21 p22 p23 p24 p25
    have T := Lib.hid t
    clear t
    have p00 := T.out.1.g0
    have p01 := T.out.1.g1
    have p02 := T.out.1.g2
    have p03 := T.out.1.g3
    have p04 := T.out.1.g4
    have p05 := T.out.1.g5
    have p10 := T.out.2.1.g0
    have p11 := T.out.2.1.g1
    have p12 := T.out.2.1.g2
    have p13 := T.out.2.1.g3
    have p14 := T.out.2.1.g4
    have p15 := T.out.2.1.g5
    have p20 := T.out.2.2.g0
    have p21 := T.out.2.2.g1
    have p22 := T.out.2.2.g2
    have p23 := T.out.2.2.g3
    have p24 := T.out.2.2.g4
    have p25 := T.out.2.2.g5
    go_wp2_with fail
    refine (order_keep T.out _ _ _ _ _ _ _ _ _ _ _ _ _ HZ).mono ?_
    rintro e w1 ⟨rfl, t⟩
    clear p00 p01 p02 p03 p04 p05 p10 p11 p12 p13 p14 p15 p20 p21 p22 p23 p24 p25
    have T := Lib.hid t
    clear t
    have p00 := T.out.1.g0
    have p01 := T.out.1.g1
    have p02 := T.out.1.g2
    have p03 := T.out.1.g3
    have p04 := T.out.1.g4
    have p05 := T.out.1.g5
    have p10 := T.out.2.1.g0
    have p11 := T.out.2.1.g1
    have p12 := T.out.2.1.g2
    have p13 := T.out.2.1.g3
    have p14 := T.out.2.1.g4
    have p15 := T.out.2.1.g5
    have p20 := T.out.2.2.g0
    have p21 := T.out.2.2.g1
    have p22 := T.out.2.2.g2
    have p23 := T.out.2.2.g3
    have p24 := T.out.2.2.g4
    have p25 := T.out.2.2.g5
    go_wp2_with fail
    refine (order_keep T.out _ _ _ _ _ _ _ _ _ _ _ _ _ HB).mono ?_
    rintro e w1 ⟨rfl, t⟩
    clear p00 p01 p02 p03 p04 p05 p10 p11 p12 p13 p14 p15 p20 p21 p22 p23 p24 p25
    have T := Lib.hid t
    clear t
    have p00 := T.out.1.g0
    have p01 := T.out.1.g1
    have p02 := T.out.1.g2
    have p03 := T.out.1.g3
    have p04 := T.out.1.g4
    have p05 := T.out.1.g5
    have p10 := T.out.2.1.g0
    have p11 := T.out.2.1.g1
    have p12 := T.out.2.1.g2
    have p13 := T.out.2.1.g3
    have p14 := T.out.2.1.g4
    have p15 := T.out.2.1.g5
    have p20 := T.out.2.2.g0
    have p21 := T.out.2.2.g1
    have p22 := T.out.2.2.g2
    have p23 := T.out.2.2.g3
    have p24 := T.out.2.2.g4
    have p25 := T.out.2.2.g5
    go_wp2_with fail
    refine (order_keep T.out _ _ _ _ _ _ _ _ _ _ _ _ _ HR).mono ?_
    rintro e w1 ⟨rfl, t⟩
    clear p00 p01 p02 p03 p04 p05 p10 p11 p12 p13 p14 p15 p20 p21 p22 p23 p24 p25
    have T := Lib.hid t
    clear t
    have p00 := T.out.1.g0
    have p01 := T.out.1.g1
    have p02 := T.out.1.g2
    have p03 := T.out.1.g3
    have p04 := T.out.1.g4
    have p05 := T.out.1.g5
    have p10 := T.out.2.1.g0
    have p11 := T.out.2.1.g1
    have p12 := T.out.2.1.g2
    have p13 := T.out.2.1.g3
    have p14 := T.out.2.1.g4
    have p15 := T.out.2.1.g5
    have p20 := T.out.2.2.g0
    have p21 := T.out.2.2.g1
    have p22 := T.out.2.2.g2
    have p23 := T.out.2.2.g3
    have p24 := T.out.2.2.g4
    have p25 := T.out.2.2.g5
    go_wp2_with fail
    refine (works_any _ (L.below T.out.1.bel)).mono ?_
    rintro e w2 ⟨rfl, b⟩
    go_wp2_with fail
    go_ret
    exact ⟨rfl, T.out.1.bel.trans (b.mono T.out.1.bel.size)⟩
  · subst c c' c2
    clear xb
    go_enter Tryd.func13, Tryd.ntmps13
    go_wp2_with fail
    rw [← H.out]
    go_wp2_with fail
    refine (order_keep T.out _ _ _ _ _ _ _ _ _ _ _ _ _ HX).mono ?_
    rintro e w1 ⟨rfl, t⟩
    clear p00 p01 p02 p03 p04 p05 p10 p11 p12 p13 p14 p15 p20 p21 p22 p23 p24 p25
    have T := Lib.hid t
    clear t
    have p00 := T.out.1.g0
    have p01 := T.out.1.g1
    have p02 := T.out.1.g2
    have p03 := T.out.1.g3
    have p04 := T.out.1.g4
    have p05 := T.out.1.g5
    have p10 := T.out.2.1.g0
    have p11 := T.out.2.1.g1
    have p12 := T.out.2.1.g2
    have p13 := T.out.2.1.g3
    have p14 := T.out.2.1.g4
    have p15 := T.out.2.1.g5
    have p20 := T.out.2.2.g0
    have p21 := T.out.2.2.g1
    have p22 := T.out.2.2.g2
    have p23 := T.out.2.2.g3
    have p24 := T.out.2.2.g4
    have p25 := T.out.2.2.g5
    go_wp2_with fail
    refine (order_keep T.out _ _ _ _ _ _ _ _ _ _ _ _ _ HY).mono ?_
    rintro e w1 ⟨rfl, t⟩
    clear p00 p01 p02 p03 p04 p05 p10 p11 p12 p13 p14 p15 p20 p21 p22 p23 p24 p25
    have T := Lib.hid t
    clear t
    have p00 := T.out.1.g0
    have p01 := T.out.1.g1
    have p02 := T.out.1.g2
    have p03 := T.out.1.g3
    have p04 := T.out.1.g4
    have p05 := T.out.1.g5
    have p10 := T.out.2.1.g0
    have p11 := T.out.2.1.g1
    have p12 := T.out.2.1.g2
    have p13 := T.out.2.1.g3
    have p14 := T.out.2.1.g4
    have p15 := T.out.2.1.g5
    have p20 := T.out.2.2.g0
    have p21 := T.out.2.2.g1
    have p22 := T.out.2.2.g2
    have p23 := T.out.2.2.g3
    have p24 := T.out.2.2.g4
    have p25 := T.out.2.2.g5
    go_wp2_with fail
    refine (order_keep T.out _ _ _ _ _ _ _ _ _ _ _ _ _ HZ).mono ?_
    rintro e w1 ⟨rfl, t⟩
    clear p00 p01 p02 p03 p04 p05 p10 p11 p12 p13 p14 p15 p20 p21 p22 p23 p24 p25
    have T := Lib.hid t
    clear t
    have p00 := T.out.1.g0
    have p01 := T.out.1.g1
    have p02 := T.out.1.g2
    have p03 := T.out.1.g3
    have p04 := T.out.1.g4
    have p05 := T.out.1.g5
    have p10 := T.out.2.1.g0
    have p11 := T.out.2.1.g1
    have p12 := T.out.2.1.g2
    have p13 := T.out.2.1.g3
    have p14 := T.out.2.1.g4
    have p15 := T.out.2.1.g5
    have p20 := T.out.2.2.g0
    have p21 := T.out.2.2.g1
    have p22 := T.out.2.2.g2
    have p23 := T.out.2.2.g3
    have p24 := T.out.2.2.g4
    have p25 := T.out.2.2.g5
    go_wp2_with fail
    refine (order_keep T.out _ _ _ _ _ _ _ _ _ _ _ _ _ HB).mono ?_
    rintro e w1 ⟨rfl, t⟩
    clear p00 p01 p02 p03 p04 p05 p10 p11 p12 p13 p14 p15 p20 p21 p22 p23 p24 p25
    have T := Lib.hid t
    clear t
    have p00 := T.out.1.g0
    have p01 := T.out.1.g1
    have p02 := T.out.1.g2
    have p03 := T.out.1.g3
    have p04 := T.out.1.g4
    have p05 := T.out.1.g5
    have p10 := T.out.2.1.g0
    have p11 := T.out.2.1.g1
    have p12 := T.out.2.1.g2
    have p13 := T.out.2.1.g3
    have p14 := T.out.2.1.g4
    have p15 := T.out.2.1.g5
    have p20 := T.out.2.2.g0
    have p21 := T.out.2.2.g1
    have p22 := T.out.2.2.g2
    have p23 := T.out.2.2.g3
    have p24 := T.out.2.2.g4
    have p25 := T.out.2.2.g5
    go_wp2_with fail
    refine (order_keep T.out _ _ _ _ _ _ _ _ _ _ _ _ _ HR).mono ?_
    rintro e w1 ⟨rfl, t⟩
    clear p00 p01 p02 p03 p04 p05 p10 p11 p12 p13 p14 p15 p20 p21 p22 p23 p24 p25
    have T := Lib.hid t
    clear t
    have p00 := T.out.1.g0
    have p01 := T.out.1.g1
    have p02 := T.out.1.g2
    have p03 := T.out.1.g3
    have p04 := T.out.1.g4
    have p05 := T.out.1.g5
    have p10 := T.out.2.1.g0
    have p11 := T.out.2.1.g1
    have p12 := T.out.2.1.g2
    have p13 := T.out.2.1.g3
    have p14 := T.out.2.1.g4
    have p15 := T.out.2.1.g5
    have p20 := T.out.2.2.g0
    have p21 := T.out.2.2.g1
    have p22 := T.out.2.2.g2
    have p23 := T.out.2.2.g3
    have p24 := T.out.2.2.g4
    have p25 := T.out.2.2.g5
    go_wp2_with fail
    refine (works_any _ (L.below T.out.1.bel)).mono ?_
    rintro e w2 ⟨rfl, b⟩
    go_wp2_with fail
    go_ret
    exact ⟨rfl, T.out.1.bel.trans (b.mono T.out.1.bel.size)⟩

set_option maxRecDepth 100000 in
set_option maxHeartbeats 1600000 in
theorem road_4 (y1 m1 d1 h1 i1 s1 i2 s2 y3 m3 d3 h3 i3 s3 : Int) (w : World) (L : Lay w) (ne : i1 ≠ i2) :
    Calls Tryd.prog 13 #[.agg #[.int .i64 y1, .int .i64 m1, .int .i64 d1, .int .i64 h1, .int .i64 i1, .int .i64 s1], .agg #[.int .i64 y1, .int .i64 m1, .int .i64 d1, .int .i64 h1, .int .i64 i2, .int .i64 s2], .agg #[.int .i64 y3, .int .i64 m3, .int .i64 d3, .int .i64 h3, .int .i64 i3, .int .i64 s3]] w fun e w' => e = .returned (.bool true) ∧ Below w.heap.size w w' := by
  obtain ⟨x, hx⟩ : ∃ x, ordI y1 m1 d1 h1 i1 s1 y1 m1 d1 h1 i2 s2 = x := ⟨_, rfl⟩
  obtain ⟨y, hy⟩ : ∃ y, ordI y1 m1 d1 h1 i2 s2 y3 m3 d3 h3 i3 s3 = y := ⟨_, rfl⟩
  obtain ⟨z, hz⟩ : ∃ z, ordI y1 m1 d1 h1 i1 s1 y3 m3 d3 h3 i3 s3 = z := ⟨_, rfl⟩
  have bx := lex_bd [y1, m1, d1, h1, i1, s1] [y1, m1, d1, h1, i2, s2]
  have bY := lex_bd [y1, m1, d1, h1, i2, s2] [y3, m3, d3, h3, i3, s3]
  have tr := lex_trans [y1, m1, d1, h1, i1, s1] [y1, m1, d1, h1, i2, s2] [y3, m3, d3, h3, i3, s3] rfl rfl
  have zr := lex_zero [y1, m1, d1, h1, i1, s1] [y1, m1, d1, h1, i2, s2] rfl
  have an := lex_anti [y1, m1, d1, h1, i1, s1] [y1, m1, d1, h1, i2, s2]
  have re := lex_refl [y1, m1, d1, h1, i1, s1]
  rw [← ordI_lex, hx] at bx
  rw [← ordI_lex, hy] at bY
  rw [← ordI_lex, ← ordI_lex, ← ordI_lex, hx, hy, hz] at tr
  rw [← ordI_lex, hx] at zr
  rw [← ordI_lex, ← ordI_lex, hx] at an
  rw [← ordI_lex] at re
  have x0 : x ≠ 0 := fun e => ne (by have := zr e; simp at this; omega)
  have nb : (i1 == i2) = false := beq_eq_false_iff_ne.2 ne
  have xb : (x == 0) = false := beq_eq_false_iff_ne.2 x0
  have HX := Lib.hid hx
  have HY := Lib.hid hy
  have HZ := Lib.hid hz
  have HB := Lib.hid an
  have HR := Lib.hid re
  obtain ⟨W, hW, t⟩ := three_start w y1 m1 d1 h1 i1 s1 y1 m1 d1 h1 i2 s2 y3 m3 d3 h3 i3 s3
  have H := Lib.hid hW
  have T := Lib.hid t
  clear hx hy hz an re zr hW t ne
  have p00 := T.out.1.g0
  have p01 := T.out.1.g1
  have p02 := T.out.1.g2
  have p03 := T.out.1.g3
  have p04 := T.out.1.g4
  have p05 := T.out.1.g5
  have p10 := T.out.2.1.g0
  have p11 := T.out.2.1.g1
  have p12 := T.out.2.1.g2
  have p13 := T.out.2.1.g3
  have p14 := T.out.2.1.g4
  have p15 := T.out.2.1.g5
  have p20 := T.out.2.2.g0
  have p21 := T.out.2.2.g1
  have p22 := T.out.2.2.g2
  have p23 := T.out.2.2.g3
  have p24 := T.out.2.2.g4
  have p25 := T.out.2.2.g5
  have cs : (x = 1) ∨ (x = -1 ∧ 0 < y) ∨ (x = -1 ∧ y < 0 ∧ z = -1) ∨ (x = -1 ∧ y = 0 ∧ z = -1) := by omega
  clear tr bx bY x0
  rcases cs with c | ⟨c, c'⟩ | ⟨c, c', c2⟩ | ⟨c, c', c2⟩
  · subst c
    clear xb
    go_enter Tryd.func13, Tryd.ntmps13
    go_wp2_with fail
    rw [← H.out]
    go_wp2_with fail
    refine (order_keep T.out _ _ _ _ _ _ _ _ _ _ _ _ _ HX).mono ?_
    rintro e w1 ⟨rfl, t⟩
    clear p00 p01 p02 p03 p04 p05 p10 p11 p12 p13 p14 p15 p20 p21 p22 p23 p24 p25
    have T := Lib.hid t
    clear t
    have p00 := T.out.1.g0
    have p01 := T.out.1.g1
    have p02 := T.out.1.g2
    have p03 := T.out.1.g3
    have p04 := T.out.1.g4
    have p05 := T.out.1.g5
    have p10 := T.out.2.1.g0
    have p11 := T.out.2.1.g1
    have p12 := T.out.2.1.g2
    have p13 := T.out.2.1.g3
    have p14 := T.out.2.1.g4
    have p15 := T.out.2.1.g5
    have p20 := T.out.2.2.g0
    have p21 := T.out.2.2.g1
    have p22 := T.out.2.2.g2
    have p23 := T.out.2.2.g3
    have p24 := T.out.2.2.g4
    have p25 := T.out.2.2.g5
    go_wp2_with fail
    refine (order_keep T.out _ _ _ _ _ _ _ _ _ _ _ _ _ HY).mono ?_
    rintro e w1 ⟨rfl, t⟩
    clear p00 p01 p02 p03 p04 p05 p10 p11 p12 p13 p14 p15 p20 p21 p22 p23 p24 p25
    have T := Lib.hid t
    clear t
    have p00 := T.out.1.g0
    have p01 := T.out.1.g1
    have p02 := T.out.1.g2
    have p03 := T.out.1.g3
    have p04 := T.out.1.g4
    have p05 := T.out.1.g5
    have p10 := T.out.2.1.g0
    have p11 := T.out.2.1.g1
    have p12 := T.out.2.1.g2
    have p13 := T.out.2.1.g3
    have p14 := T.out.2.1.g4
    have p15 := T.out.2.1.g5
    have p20 := T.out.2.2.g0
    have p21 := T.out.2.2.g1
    have p22 := T.out.2.2.g2
    have p23 := T.out.2.2.g3
    have p24 := T.out.2.2.g4
    have p25 := T.out.2.2.g5
    go_wp2_with fail
    refine (order_keep T.out _ _ _ _ _ _ _ _ _ _ _ _ _ HZ).mono ?_
    rintro e w1 ⟨rfl, t⟩
    clear p00 p01 p02 p03 p04 p05 p10 p11 p12 p13 p14 p15 p20 p21 p22 p23 p24 p25
    have T := Lib.hid t
    clear t
    have p00 := T.out.1.g0
    have p01 := T.out.1.g1
    have p02 := T.out.1.g2
    have p03 := T.out.1.g3
    have p04 := T.out.1.g4
    have p05 := T.out.1.g5
    have p10 := T.out.2.1.g0
    have p11 := T.out.2.1.g1
    have p12 := T.out.2.1.g2
    have p13 := T.out.2.1.g3
    have p14 := T.out.2.1.g4
    have p15 := T.out.2.1.g5
    have p20 := T.out.2.2.g0
    have p21 := T.out.2.2.g1
    have p22 := T.out.2.2.g2
    have p23 := T.out.2.2.g3
    have p24 := T.out.2.2.g4
    have p25 := T.out.2.2.g5
    go_wp2_with fail
    refine (order_keep T.out _ _ _ _ _ _ _ _ _ _ _ _ _ HB).mono ?_
    rintro e w1 ⟨rfl, t⟩
    clear p00 p01 p02 p03 p04 p05 p10 p11 p12 p13 p14 p15 p20 p21 p22 p23 p24 p25
    have T := Lib.hid t
    clear t
    have p00 := T.out.1.g0
    have p01 := T.out.1.g1
    have p02 := T.out.1.g2
    have p03 := T.out.1.g3
    have p04 := T.out.1.g4
    have p05 := T.out.1.g5
    have p10 := T.out.2.1.g0
    have p11 := T.out.2.1.g1
    have p12 := T.out.2.1.g2
    have p13 := T.out.2.1.g3
    have p14 := T.out.2.1.g4
    have p15 := T.out.2.1.g5
    have p20 := T.out.2.2.g0
    have p21 := T.out.2.2.g1
    have p22 := T.out.2.2.g2
    have p23 := T.out.2.2.g3
    have p24 := T.out.2.2.g4
    have p25 := T.out.2.2.g5
    go_wp2_with fail
    refine (order_keep T.out _ _ _ _ _ _ _ _ _ _ _ _ _ HR).mono ?_
    rintro e w1 ⟨rfl, t⟩
    clear p00 p01 p02 p03 p04 p05 p10 p11 p12 p13 p14 p15 p20 p21 p22 p23 p24 p25
    have T := Lib.hid t
    clear t
    have p00 := T.out.1.g0
    have p01 := T.out.1.g1
    have p02 := T.out.1.g2
    have p03 := T.out.1.g3
    have p04 := T.out.1.g4
    have p05 := T.out.1.g5
    have p10 := T.out.2.1.g0
    have p11 := T.out.2.1.g1
    have p12 := T.out.2.1.g2
    have p13 := T.out.2.1.g3
    have p14 := T.out.2.1.g4
    have p15 := T.out.2.1.g5
    have p20 := T.out.2.2.g0
    have p21 := T.out.2.2.g1
    have p22 := T.out.2.2.g2
    have p23 := T.out.2.2.g3
    have p24 := T.out.2.2.g4
    have p25 := T.out.2.2.g5
    go_wp2_with fail
    refine (works_any _ (L.below T.out.1.bel)).mono ?_
    rintro e w2 ⟨rfl, b⟩
    go_wp2_with fail
    go_ret
    exact ⟨rfl, T.out.1.bel.trans (b.mono T.out.1.bel.size)⟩
  · subst c
    clear xb
    go_enter Tryd.func13, Tryd.ntmps13
    go_wp2_with fail
    rw [← H.out]
    go_wp2_with fail
    refine (order_keep T.out _ _ _ _ _ _ _ _ _ _ _ _ _ HX).mono ?_
    rintro e w1 ⟨rfl, t⟩
    clear p00 p01 p02 p03 p04 p05 p10 p11 p12 p13 p14 p15 p20 p21 p22 p23 p24 p25
    have T := Lib.hid t
    clear t
    have p00 := T.out.1.g0
    have p01 := T.out.1.g1
    have p02 := T.out.1.g2
    have p03 := T.out.1.g3
    have p04 := T.out.1.g4
    have p05 := T.out.1.g5
    have p10 := T.out.2.1.g0
    have p11 := T.out.2.1.g1
    have p12 := T.out.2.1.g2
    have p13 := T.out.2.1.g3
    have p14 := T.out.2.1.g4
    have p15 := T.out.2.1.g5
    have p20 := T.out.2.2.g0
    have p21 := T.out.2.2.g1
    have p22 := T.out.2.2.g2
    have p23 := T.out.2.2.g3
    have p24 := T.out.2.2.g4
    have p25 := T.out.2.2.g5
    go_wp2_with fail
    refine (order_keep T.out _ _ _ _ _ _ _ _ _ _ _ _ _ HY).mono ?_
    rintro e w1 ⟨rfl, t⟩
    clear p00 p01 p02 p03 p04 p05 p10 p11 p12 p13 p14 p15 p20 p21 p22 p23 p24 p25
    have T := Lib.hid t
    clear t
    have p00 := T.out.1.g0
    have p01 := T.out.1.g1
    have p02 := T.out.1.g2
    have p03 := T.out.1.g3
    have p04 := T.out.1.g4
    have p05 := T.out.1.g5
    have p10 := T.out.2.1.g0
    have p11 := T.out.2.1.g1
    have p12 := T.out.2.1.g2
    have p13 := T.out.2.1.g3
    have p14 := T.out.2.1.g4
    have p15 := T.out.2.1.g5
    have p20 := T.out.2.2.g0
    have p21 := T.out.2.2.g1
    have p22 := T.out.2.2.g2
    have p23 := T.out.2.2.g3
    have p24 := T.out.2.2.g4
    have p25 := T.out.2.2.g5
    go_wp2_with fail
    refine (order_keep T.out _ _ _ _ _ _ _ _ _ _ _ _ _ HZ).mono ?_
    rintro e w1 ⟨rfl, t⟩
    clear p00 p01 p02 p03 p04 p05 p10 p11 p12 p13 p14 p15 p20 p21 p22 p23 p24 p25
    have T := Lib.hid t
    clear t
    have p00 := T.out.1.g0
    have p01 := T.out.1.g1
    have p02 := T.out.1.g2
    have p03 := T.out.1.g3
    have p04 := T.out.1.g4
    have p05 := T.out.1.g5
    have p10 := T.out.2.1.g0
    have p11 := T.out.2.1.g1
    have p12 := T.out.2.1.g2
    have p13 := T.out.2.1.g3
    have p14 := T.out.2.1.g4
    have p15 := T.out.2.1.g5
    have p20 := T.out.2.2.g0
    have p21 := T.out.2.2.g1
    have p22 := T.out.2.2.g2
    have p23 := T.out.2.2.g3
    have p24 := T.out.2.2.g4
    have p25 := T.out.2.2.g5
    go_wp2_with fail
    refine (order_keep T.out _ _ _ _ _ _ _ _ _ _ _ _ _ HB).mono ?_
    rintro e w1 ⟨rfl, t⟩
    clear p00 p01 p02 p03 p04 p05 p10 p11 p12 p13 p14 p15 p20 p21 p22 p23 p24 p25
    have T := Lib.hid t
    clear t
    have p00 := T.out.1.g0
    have p01 := T.out.1.g1
    have p02 := T.out.1.g2
    have p03 := T.out.1.g3
    have p04 := T.out.1.g4
    have p05 := T.out.1.g5
    have p10 := T.out.2.1.g0
    have p11 := T.out.2.1.g1
    have p12 := T.out.2.1.g2
    have p13 := T.out.2.1.g3
    have p14 := T.out.2.1.g4
    have p15 := T.out.2.1.g5
    have p20 := T.out.2.2.g0
    have p21 := T.out.2.2.g1
    have p22 := T.out.2.2.g2
    have p23 := T.out.2.2.g3
    have p24 := T.out.2.2.g4
    have p25 := T.out.2.2.g5
    go_wp2_with fail
    refine (order_keep T.out _ _ _ _ _ _ _ _ _ _ _ _ _ HR).mono ?_
    rintro e w1 ⟨rfl, t⟩
    clear p00 p01 p02 p03 p04 p05 p10 p11 p12 p13 p14 p15 p20 p21 p22 p23 p24 p25
    have T := Lib.hid t
    clear t
    have p00 := T.out.1.g0
    have p01 := T.out.1.g1
    have p02 := T.out.1.g2
    have p03 := T.out.1.g3
    have p04 := T.out.1.g4
    have p05 := T.out.1.g5
    have p10 := T.out.2.1.g0
    have p11 := T.out.2.1.g1
    have p12 := T.out.2.1.g2
    have p13 := T.out.2.1.g3
    have p14 := T.out.2.1.g4
    have p15 := T.out.2.1.g5
    have p20 := T.out.2.2.g0
    have p21 := T.out.2.2.g1
    have p22 := T.out.2.2.g2
    have p23 := T.out.2.2.g3
    have p24 := T.out.2.2.g4
    have p25 := T.out.2.2.g5
    go_wp2_with fail
    refine (works_any _ (L.below T.out.1.bel)).mono ?_
    rintro e w2 ⟨rfl, b⟩
    go_wp2_with fail
    go_ret
    exact ⟨rfl, T.out.1.bel.trans (b.mono T.out.1.bel.size)⟩
  · subst c c2
    clear xb
    go_enter Tryd.func13, Tryd.ntmps13
    go_wp2_with fail
    rw [← H.out]
    go_wp2_with fail
    refine (order_keep T.out _ _ _ _ _ _ _ _ _ _ _ _ _ HX).mono ?_
    rintro e w1 ⟨rfl, t⟩
    clear p00 p01 p02 p03 p04 p05 p10 p11 p12 p13 p14 p15 p20 p21 p22 p23 p24 p25
    have T := Lib.hid t
    clear t
    have p00 := T.out.1.g0
    have p01 := T.out.1.g1
    have p02 := T.out.1.g2
    have p03 := T.out.1.g3
    have p04 := T.out.1.g4
    have p05 := T.out.1.g5
    have p10 := T.out.2.1.g0
    have p11 := T.out.2.1.g1
    have p12 := T.out.2.1.g2
    have p13 := T.out.2.1.g3
    have p14 := T.out.2.1.g4
    have p15 := T.out.2.1.g5
    have p20 := T.out.2.2.g0
    have p21 := T.out.2.2.g1
    have p22 := T.out.2.2.g2
    have p23 := T.out.2.2.g3
    have p24 := T.out.2.2.g4
    have p25 := T.out.2.2.g5
    go_wp2_with fail
    refine (order_keep T.out _ _ _ _ _ _ _ _ _ _ _ _ _ HY).mono ?_
    rintro e w1 ⟨rfl, t⟩
    clear p00 p01 p02 p03 p04 p05 p10 p11 p12 p13 p14 p15 p20 p21 p22 p23 p24 p25
    have T := Lib.hid t
    clear t
    have p00 := T.out.1.g0
    have p01 := T.out.1.g1
    have p02 := T.out.1.g2
    have p03 := T.out.1.g3
    have p04 := T.out.1.g4
    have p05 := T.out.1.g5
    have p10 := T.out.2.1.g0
    have p11 := T.out.2.1.g1
    have p12 := T.out.2.1.g2
    have p13 := T.out.2.1.g3
    have p14 := T.out.2.1.g4
    have p15 := T.out.2.1.g5
    have p20 := T.out.2.2.g0
    have p21 := T.out.2.2.g1
    have p22 := T.out.2.2.g2
    have p23 := T.out.2.2.g3
    have p24 := T.out.2.2.g4
    have p25 := T.out.2.2.g5
    go_wp2_with fail
    refine (order_keep T.out _ _ _ _ _ _ _ _ _ _ _ _ _ HZ).mono ?_
    rintro e w1 ⟨rfl, t⟩
    clear p00 p01 p02 p03 p04 p05 p10 p11 p12 p13 p14 p15 p20 p21 p22 p23 p24 p25
    have T := Lib.hid t
    clear t
    have p00 := T.out.1.g0
    have p01 := T.out.1.g1
    have p02 := T.out.1.g2
    have p03 := T.out.1.g3
    have p04 := T.out.1.g4
    have p05 := T.out.1.g5
    have p10 := T.out.2.1.g0
    have p11 := T.out.2.1.g1
    have p12 := T.out.2.1.g2
    have p13 := T.out.2.1.g3
    have p14 := T.out.2.1.g4
    have p15 := T.out.2.1.g5
    have p20 := T.out.2.2.g0
    have p21 := T.out.2.2.g1
    have p22 := T.out.2.2.g2
    have p23 := T.out.2.2.g3
    have p24 := T.out.2.2.g4
    have p25 := T.out.2.2.g5
    go_wp2_with fail
    refine (order_keep T.out _ _ _ _ _ _ _ _ _ _ _ _ _ HB).mono ?_
    rintro e w1 ⟨rfl, t⟩
    clear p00 p01 p02 p03 p04 p05 p10 p11 p12 p13 p14 p15 p20 p21 p22 p23 p24 p25
    have T := Lib.hid t
    clear t
    have p00 := T.out.1.g0
    have p01 := T.out.1.g1
    have p02 := T.out.1.g2
    have p03 := T.out.1.g3
    have p04 := T.out.1.g4
    have p05 := T.out.1.g5
    have p10 := T.out.2.1.g0
    have p11 := T.out.2.1.g1
    have p12 := T.out.2.1.g2
    have p13 := T.out.2.1.g3
    have p14 := T.out.2.1.g4
    have p15 := T.out.2.1.g5
    have p20 := T.out.2.2.g0
    have p21 := T.out.2.2.g1
    have p22 := T.out.2.2.g2
    have p23 := T.out.2.2.g3
    have p24 := T.out.2.2.g4
    have p25 := T.out.2.2.g5
    go_wp2_with fail
    refine (order_keep T.out _ _ _ _ _ _ _ _ _ _ _ _ _ HR).mono ?_
    rintro e w1 ⟨rfl, t⟩
    clear p00 p01 p02 p03 p04 p05 p10 p11 p12 p13 p14 p15 p20 p21 p22 p23 p24 p25
    have T := Lib.hid t
    clear t
    have p00 := T.out.1.g0
    have p01 := T.out.1.g1
    have p02 := T.out.1.g2
    have p03 := T.out.1.g3
    have p04 := T.out.1.g4
    have p05 := T.out.1.g5
    have p10 := T.out.2.1.g0
    have p11 := T.out.2.1.g1
    have p12 := T.out.2.1.g2
    have p13 := T.out.2.1.g3
    have p14 := T.out.2.1.g4
    have p15 := T.out.2.1.g5
    have p20 := T.out.2.2.g0
    have p21 := T.out.2.2.g1
    have p22 := T.out.2.2.g2
    have p23 := T.out.2.2.g3
    have p24 := T.out.2.2.g4
    have p25 := T.out.2.2.g5
    go_wp2_with fail
    refine (works_any _ (L.below T.out.1.bel)).mono ?_
    rintro e w2 ⟨rfl, b⟩
    go_wp2_with fail
    go_ret
    exact ⟨rfl, T.out.1.bel.trans (b.mono T.out.1.bel.size)⟩
  · subst c c' c2
    clear xb
    go_enter Tryd.func13, Tryd.ntmps13
    go_wp2_with fail
    rw [← H.out]
    go_wp2_with fail
    refine (order_keep T.out _ _ _ _ _ _ _ _ _ _ _ _ _ HX).mono ?_
    rintro e w1 ⟨rfl, t⟩
    clear p00 p01 p02 p03 p04 p05 p10 p11 p12 p13 p14 p15 p20 p21 p22 p23 p24 p25
    have T := Lib.hid t
    clear t
    have p00 := T.out.1.g0
    have p01 := T.out.1.g1
    have p02 := T.out.1.g2
    have p03 := T.out.1.g3
    have p04 := T.out.1.g4
    have p05 := T.out.1.g5
    have p10 := T.out.2.1.g0
    have p11 := T.out.2.1.g1
    have p12 := T.out.2.1.g2
    have p13 := T.out.2.1.g3
    have p14 := T.out.2.1.g4
    have p15 := T.out.2.1.g5
    have p20 := T.out.2.2.g0
    have p21 := T.out.2.2.g1
    have p22 := T.out.2.2.g2
    have p23 := T.out.2.2.g3
    have p24 := T.out.2.2.g4
    have p25 := T.out.2.2.g5
    go_wp2_with fail
    refine (order_keep T.out _ _ _ _ _ _ _ _ _ _ _ _ _ HY).mono ?_
    rintro e w1 ⟨rfl, t⟩
    clear p00 p01 p02 p03 p04 p05 p10 p11 p12 p13 p14 p15 p20 p21 p22 p23 p24 p25
    have T := Lib.hid t
    clear t
    have p00 := T.out.1.g0
    have p01 := T.out.1.g1
    have p02 := T.out.1.g2
    have p03 := T.out.1.g3
    have p04 := T.out.1.g4
    have p05 := T.out.1.g5
    have p10 := T.out.2.1.g0
    have p11 := T.out.2.1.g1
    have p12 := T.out.2.1.g2
    have p13 := T.out.2.1.g3
    have p14 := T.out.2.1.g4
    have p15 := T.out.2.1.g5
    have p20 := T.out.2.2.g0
    have p21 := T.out.2.2.g1
    have p22 := T.out.2.2.g2
    have p23 := T.out.2.2.g3
    have p24 := T.out.2.2.g4
    have p25 := T.out.2.2.g5
    go_wp2_with fail
    refine (order_keep T.out _ _ _ _ _ _ _ _ _ _ _ _ _ HZ).mono ?_
    rintro e w1 ⟨rfl, t⟩
    clear p00 p01 p02 p03 p04 p05 p10 p11 p12 p13 p14 p15 p20 p21 p22 p23 p24 p25
    have T := Lib.hid t
    clear t
    have p00 := T.out.1.g0
    have p01 := T.out.1.g1
    have p02 := T.out.1.g2
    have p03 := T.out.1.g3
    have p04 := T.out.1.g4
    have p05 := T.out.1.g5
    have p10 := T.out.2.1.g0
    have p11 := T.out.2.1.g1
    have p12 := T.out.2.1.g2
    have p13 := T.out.2.1.g3
    have p14 := T.out.2.1.g4
    have p15 := T.out.2.1.g5
    have p20 := T.out.2.2.g0
    have p21 := T.out.2.2.g1
    have p22 := T.out.2.2.g2
    have p23 := T.out.2.2.g3
    have p24 := T.out.2.2.g4
    have p25 := T.out.2.2.g5
    go_wp2_with fail
    refine (order_keep T.out _ _ _ _ _ _ _ _ _ _ _ _ _ HB).mono ?_
    rintro e w1 ⟨rfl, t⟩
    clear p00 p01 p02 p03 p04 p05 p10 p11 p12 p13 p14 p15 p20 p21 p22 p23 p24 p25
    have T := Lib.hid t
    clear t
    have p00 := T.out.1.g0
    have p01 := T.out.1.g1
    have p02 := T.out.1.g2
    have p03 := T.out.1.g3
    have p04 := T.out.1.g4
    have p05 := T.out.1.g5
    have p10 := T.out.2.1.g0
    have p11 := T.out.2.1.g1
    have p12 := T.out.2.1.g2
    have p13 := T.out.2.1.g3
    have p14 := T.out.2.1.g4
    have p15 := T.out.2.1.g5
    have p20 := T.out.2.2.g0
    have p21 := T.out.2.2.g1
    have p22 := T.out.2.2.g2
    have p23 := T.out.2.2.g3
    have p24 := T.out.2.2.g4
    have p25 := T.out.2.2.g5
    go_wp2_with fail
    refine (order_keep T.out _ _ _ _ _ _ _ _ _ _ _ _ _ HR).mono ?_
    rintro e w1 ⟨rfl, t⟩
    clear p00 p01 p02 p03 p04 p05 p10 p11 p12 p13 p14 p15 p20 p21 p22 p23 p24 p25
    have T := Lib.hid t
    clear t
    have p00 := T.out.1.g0
    have p01 := T.out.1.g1
    have p02 := T.out.1.g2
    have p03 := T.out.1.g3
    have p04 := T.out.1.g4
    have p05 := T.out.1.g5
    have p10 := T.out.2.1.g0
    have p11 := T.out.2.1.g1
    have p12 := T.out.2.1.g2
    have p13 := T.out.2.1.g3
    have p14 := T.out.2.1.g4
    have p15 := T.out.2.1.g5
    have p20 := T.out.2.2.g0
    have p21 := T.out.2.2.g1
    have p22 := T.out.2.2.g2
    have p23 := T.out.2.2.g3
    have p24 := T.out.2.2.g4
    have p25 := T.out.2.2.g5
    go_wp2_with fail
    refine (works_any _ (L.below T.out.1.bel)).mono ?_
    rintro e w2 ⟨rfl, b⟩
    go_wp2_with fail
    go_ret
    exact ⟨rfl, T.out.1.bel.trans (b.mono T.out.1.bel.size)⟩

set_option maxRecDepth 100000 in
set_option maxHeartbeats 1600000 in
theorem road_5 (y1 m1 d1 h1 i1 s1 s2 y3 m3 d3 h3 i3 s3 : Int) (w : World) (L : Lay w) (ne : s1 ≠ s2) :
    Calls Tryd.prog 13 #[.agg #[.int .i64 y1, .int .i64 m1, .int .i64 d1, .int .i64 h1, .int .i64 i1, .int .i64 s1], .agg #[.int .i64 y1, .int .i64 m1, .int .i64 d1, .int .i64 h1, .int .i64 i1, .int .i64 s2], .agg #[.int .i64 y3, .int .i64 m3, .int .i64 d3, .int .i64 h3, .int .i64 i3, .int .i64 s3]] w fun e w' => e = .returned (.bool true) ∧ Below w.heap.size w w' := by
  obtain ⟨x, hx⟩ : ∃ x, ordI y1 m1 d1 h1 i1 s1 y1 m1 d1 h1 i1 s2 = x := ⟨_, rfl⟩
  obtain ⟨y, hy⟩ : ∃ y, ordI y1 m1 d1 h1 i1 s2 y3 m3 d3 h3 i3 s3 = y := ⟨_, rfl⟩
  obtain ⟨z, hz⟩ : ∃ z, ordI y1 m1 d1 h1 i1 s1 y3 m3 d3 h3 i3 s3 = z := ⟨_, rfl⟩
  have bx := lex_bd [y1, m1, d1, h1, i1, s1] [y1, m1, d1, h1, i1, s2]
  have bY := lex_bd [y1, m1, d1, h1, i1, s2] [y3, m3, d3, h3, i3, s3]
  have tr := lex_trans [y1, m1, d1, h1, i1, s1] [y1, m1, d1, h1, i1, s2] [y3, m3, d3, h3, i3, s3] rfl rfl
  have zr := lex_zero [y1, m1, d1, h1, i1, s1] [y1, m1, d1, h1, i1, s2] rfl
  have an := lex_anti [y1, m1, d1, h1, i1, s1] [y1, m1, d1, h1, i1, s2]
  have re := lex_refl [y1, m1, d1, h1, i1, s1]
  rw [← ordI_lex, hx] at bx
  rw [← ordI_lex, hy] at bY
  rw [← ordI_lex, ← ordI_lex, ← ordI_lex, hx, hy, hz] at tr
  rw [← ordI_lex, hx] at zr
  rw [← ordI_lex, ← ordI_lex, hx] at an
  rw [← ordI_lex] at re
  have x0 : x ≠ 0 := fun e => ne (by have := zr e; simp at this; omega)
  have nb : (s1 == s2) = false := beq_eq_false_iff_ne.2 ne
  have xb : (x == 0) = false := beq_eq_false_iff_ne.2 x0
  have HX := Lib.hid hx
  have HY := Lib.hid hy
  have HZ := Lib.hid hz
  have HB := Lib.hid an
  have HR := Lib.hid re
  obtain ⟨W, hW, t⟩ := three_start w y1 m1 d1 h1 i1 s1 y1 m1 d1 h1 i1 s2 y3 m3 d3 h3 i3 s3
  have H := Lib.hid hW
  have T := Lib.hid t
  clear hx hy hz an re zr hW t ne
  have p00 := T.out.1.g0
  have p01 := T.out.1.g1
  have p02 := T.out.1.g2
  have p03 := T.out.1.g3
  have p04 := T.out.1.g4
  have p05 := T.out.1.g5
  have p10 := T.out.2.1.g0
  have p11 := T.out.2.1.g1
  have p12 := T.out.2.1.g2
  have p13 := T.out.2.1.g3
  have p14 := T.out.2.1.g4
  have p15 := T.out.2.1.g5
  have p20 := T.out.2.2.g0
  have p21 := T.out.2.2.g1
  have p22 := T.out.2.2.g2
  have p23 := T.out.2.2.g3
  have p24 := T.out.2.2.g4
  have p25 := T.out.2.2.g5
  have cs : (x = 1) ∨ (x = -1 ∧ 0 < y) ∨ (x = -1 ∧ y < 0 ∧ z = -1) ∨ (x = -1 ∧ y = 0 ∧ z = -1) := by omega
  clear tr bx bY x0
  rcases cs with c | ⟨c, c'⟩ | ⟨c, c', c2⟩ | ⟨c, c', c2⟩
  · subst c
    clear xb
    go_enter Tryd.func13, Tryd.ntmps13
    go_wp2_with fail
    rw [← H.out]
    go_wp2_with fail
    refine (order_keep T.out _ _ _ _ _ _ _ _ _ _ _ _ _ HX).mono ?_
    rintro e w1 ⟨rfl, t⟩
    clear p00 p01 p02 p03 p04 p05 p10 p11 p12 p13 p14 p15 p20 p21 p22 p23 p24 p25
    have T := Lib.hid t
    clear t
    have p00 := T.out.1.g0
    have p01 := T.out.1.g1
    have p02 := T.out.1.g2
    have p03 := T.out.1.g3
    have p04 := T.out.1.g4
    have p05 := T.out.1.g5
    have p10 := T.out.2.1.g0
    have p11 := T.out.2.1.g1
    have p12 := T.out.2.1.g2
    have p13 := T.out.2.1.g3
    have p14 := T.out.2.1.g4
    have p15 := T.out.2.1.g5
    have p20 := T.out.2.2.g0
    have p21 := T.out.2.2.g1
    have p22 := T.out.2.2.g2
    have p23 := T.out.2.2.g3
    have p24 := T.out.2.2.g4
    have p25 := T.out.2.2.g5
    go_wp2_with fail
    refine (order_keep T.out _ _ _ _ _ _ _ _ _ _ _ _ _ HY).mono ?_
    rintro e w1 ⟨rfl, t⟩
    clear p00 p01 p02 p03 p04 p05 p10 p11 p12 p13 p14 p15 p20 p21 p22 p23 p24 p25
    have T := Lib.hid t
    clear t
    have p00 := T.out.1.g0
    have p01 := T.out.1.g1
    have p02 := T.out.1.g2
    have p03 := T.out.1.g3
    have p04 := T.out.1.g4
    have p05 := T.out.1.g5
    have p10 := T.out.2.1.g0
    have p11 := T.out.2.1.g1
    have p12 := T.out.2.1.g2
    have p13 := T.out.2.1.g3
    have p14 := T.out.2.1.g4
    have p15 := T.out.2.1.g5
    have p20 := T.out.2.2.g0
    have p21 := T.out.2.2.g1
    have p22 := T.out.2.2.g2
    have p23 := T.out.2.2.g3
    have p24 := T.out.2.2.g4
    have p25 := T.out.2.2.g5
    go_wp2_with fail
    refine (order_keep T.out _ _ _ _ _ _ _ _ _ _ _ _ _ HZ).mono ?_
    rintro e w1 ⟨rfl, t⟩
    clear p00 p01 p02 p03 p04 p05 p10 p11 p12 p13 p14 p15 p20 p21 p22 p23 p24 p25
    have T := Lib.hid t
    clear t
    have p00 := T.out.1.g0
    have p01 := T.out.1.g1
    have p02 := T.out.1.g2
    have p03 := T.out.1.g3
    have p04 := T.out.1.g4
    have p05 := T.out.1.g5
    have p10 := T.out.2.1.g0
    have p11 := T.out.2.1.g1
    have p12 := T.out.2.1.g2
    have p13 := T.out.2.1.g3
    have p14 := T.out.2.1.g4
    have p15 := T.out.2.1.g5
    have p20 := T.out.2.2.g0
    have p21 := T.out.2.2.g1
    have p22 := T.out.2.2.g2
    have p23 := T.out.2.2.g3
    have p24 := T.out.2.2.g4
    have p25 := T.out.2.2.g5
    go_wp2_with fail
    refine (order_keep T.out _ _ _ _ _ _ _ _ _ _ _ _ _ HB).mono ?_
    rintro e w1 ⟨rfl, t⟩
    clear p00 p01 p02 p03 p04 p05 p10 p11 p12 p13 p14 p15 p20 p21 p22 p23 p24 p25
    have T := Lib.hid t
    clear t
    have p00 := T.out.1.g0
    have p01 := T.out.1.g1
    have p02 := T.out.1.g2
    have p03 := T.out.1.g3
    have p04 := T.out.1.g4
    have p05 := T.out.1.g5
    have p10 := T.out.2.1.g0
    have p11 := T.out.2.1.g1
    have p12 := T.out.2.1.g2
    have p13 := T.out.2.1.g3
    have p14 := T.out.2.1.g4
    have p15 := T.out.2.1.g5
    have p20 := T.out.2.2.g0
    have p21 := T.out.2.2.g1
    have p22 := T.out.2.2.g2
    have p23 := T.out.2.2.g3
    have p24 := T.out.2.2.g4
    have p25 := T.out.2.2.g5
    go_wp2_with fail
    refine (order_keep T.out _ _ _ _ _ _ _ _ _ _ _ _ _ HR).mono ?_
    rintro e w1 ⟨rfl, t⟩
    clear p00 p01 p02 p03 p04 p05 p10 p11 p12 p13 p14 p15 p20 p21 p22 p23 p24 p25
    have T := Lib.hid t
    clear t
    have p00 := T.out.1.g0
    have p01 := T.out.1.g1
    have p02 := T.out.1.g2
    have p03 := T.out.1.g3
    have p04 := T.out.1.g4
    have p05 := T.out.1.g5
    have p10 := T.out.2.1.g0
    have p11 := T.out.2.1.g1
    have p12 := T.out.2.1.g2
    have p13 := T.out.2.1.g3
    have p14 := T.out.2.1.g4
    have p15 := T.out.2.1.g5
    have p20 := T.out.2.2.g0
    have p21 := T.out.2.2.g1
    have p22 := T.out.2.2.g2
    have p23 := T.out.2.2.g3
    have p24 := T.out.2.2.g4
    have p25 := T.out.2.2.g5
    go_wp2_with fail
    refine (works_any _ (L.below T.out.1.bel)).mono ?_
    rintro e w2 ⟨rfl, b⟩
    go_wp2_with fail
    go_ret
    exact ⟨rfl, T.out.1.bel.trans (b.mono T.out.1.bel.size)⟩
  · subst c
    clear xb
    go_enter Tryd.func13, Tryd.ntmps13
    go_wp2_with fail
    rw [← H.out]
    go_wp2_with fail
    refine (order_keep T.out _ _ _ _ _ _ _ _ _ _ _ _ _ HX).mono ?_
    rintro e w1 ⟨rfl, t⟩
    clear p00 p01 p02 p03 p04 p05 p10 p11 p12 p13 p14 p15 p20 p21 p22 p23 p24 p25
    have T := Lib.hid t
    clear t
    have p00 := T.out.1.g0
    have p01 := T.out.1.g1
    have p02 := T.out.1.g2
    have p03 := T.out.1.g3
    have p04 := T.out.1.g4
    have p05 := T.out.1.g5
    have p10 := T.out.2.1.g0
    have p11 := T.out.2.1.g1
    have p12 := T.out.2.1.g2
    have p13 := T.out.2.1.g3
    have p14 := T.out.2.1.g4
    have p15 := T.out.2.1.g5
    have p20 := T.out.2.2.g0
    have p21 := T.out.2.2.g1
    have p22 := T.out.2.2.g2
    have p23 := T.out.2.2.g3
    have p24 := T.out.2.2.g4
    have p25 := T.out.2.2.g5
    go_wp2_with fail
    refine (order_keep T.out _ _ _ _ _ _ _ _ _ _ _ _ _ HY).mono ?_
    rintro e w1 ⟨rfl, t⟩
    clear p00 p01 p02 p03 p04 p05 p10 p11 p12 p13 p14 p15 p20 p21 p22 p23 p24 p25
    have T := Lib.hid t
    clear t
    have p00 := T.out.1.g0
    have p01 := T.out.1.g1
    have p02 := T.out.1.g2
    have p03 := T.out.1.g3
    have p04 := T.out.1.g4
    have p05 := T.out.1.g5
    have p10 := T.out.2.1.g0
    have p11 := T.out.2.1.g1
    have p12 := T.out.2.1.g2
    have p13 := T.out.2.1.g3
    have p14 := T.out.2.1.g4
    have p15 := T.out.2.1.g5
    have p20 := T.out.2.2.g0
    have p21 := T.out.2.2.g1
    have p22 := T.out.2.2.g2
    have p23 := T.out.2.2.g3
    have p24 := T.out.2.2.g4
    have p25 := T.out.2.2.g5
    go_wp2_with fail
    refine (order_keep T.out _ _ _ _ _ _ _ _ _ _ _ _ _ HZ).mono ?_
    rintro e w1 ⟨rfl, t⟩
    clear p00 p01 p02 p03 p04 p05 p10 p11 p12 p13 p14 p15 p20 p21 p22 p23 p24 p25
    have T := Lib.hid t
    clear t
    have p00 := T.out.1.g0
    have p01 := T.out.1.g1
    have p02 := T.out.1.g2
    have p03 := T.out.1.g3
    have p04 := T.out.1.g4
    have p05 := T.out.1.g5
    have p10 := T.out.2.1.g0
    have p11 := T.out.2.1.g1
    have p12 := T.out.2.1.g2
    have p13 := T.out.2.1.g3
    have p14 := T.out.2.1.g4
    have p15 := T.out.2.1.g5
    have p20 := T.out.2.2.g0
    have p21 := T.out.2.2.g1
    have p22 := T.out.2.2.g2
    have p23 := T.out.2.2.g3
    have p24 := T.out.2.2.g4
    have p25 := T.out.2.2.g5
    go_wp2_with fail
    refine (order_keep T.out _ _ _ _ _ _ _ _ _ _ _ _ _ HB).mono ?_
    rintro e w1 ⟨rfl, t⟩
    clear p00 p01 p02 p03 p04 p05 p10 p11 p12 p13 p14 p15 p20 p21 p22 p23 p24 p25
    have T := Lib.hid t
    clear t
    have p00 := T.out.1.g0
    have p01 := T.out.1.g1
    have p02 := T.out.1.g2
    have p03 := T.out.1.g3
    have p04 := T.out.1.g4
    have p05 := T.out.1.g5
    have p10 := T.out.2.1.g0
    have p11 := T.out.2.1.g1
    have p12 := T.out.2.1.g2
    have p13 := T.out.2.1.g3
    have p14 := T.out.2.1.g4
    have p15 := T.out.2.1.g5
    have p20 := T.out.2.2.g0
    have p21 := T.out.2.2.g1
    have p22 := T.out.2.2.g2
    have p23 := T.out.2.2.g3
    have p24 := T.out.2.2.g4
    have p25 := T.out.2.2.g5
    go_wp2_with fail
    refine (order_keep T.out _ _ _ _ _ _ _ _ _ _ _ _ _ HR).mono ?_
    rintro e w1 ⟨rfl, t⟩
    clear p00 p01 p02 p03 p04 p05 p10 p11 p12 p13 p14 p15 p20 p21 p22 p23 p24 p25
    have T := Lib.hid t
    clear t
    have p00 := T.out.1.g0
    have p01 := T.out.1.g1
    have p02 := T.out.1.g2
    have p03 := T.out.1.g3
    have p04 := T.out.1.g4
    have p05 := T.out.1.g5
    have p10 := T.out.2.1.g0
    have p11 := T.out.2.1.g1
    have p12 := T.out.2.1.g2
    have p13 := T.out.2.1.g3
    have p14 := T.out.2.1.g4
    have p15 := T.out.2.1.g5
    have p20 := T.out.2.2.g0
    have p21 := T.out.2.2.g1
    have p22 := T.out.2.2.g2
    have p23 := T.out.2.2.g3
    have p24 := T.out.2.2.g4
    have p25 := T.out.2.2.g5
    go_wp2_with fail
    refine (works_any _ (L.below T.out.1.bel)).mono ?_
    rintro e w2 ⟨rfl, b⟩
    go_wp2_with fail
    go_ret
    exact ⟨rfl, T.out.1.bel.trans (b.mono T.out.1.bel.size)⟩
  · subst c c2
    clear xb
    go_enter Tryd.func13, Tryd.ntmps13
    go_wp2_with fail
    rw [← H.out]
    go_wp2_with fail
    refine (order_keep T.out _ _ _ _ _ _ _ _ _ _ _ _ _ HX).mono ?_
    rintro e w1 ⟨rfl, t⟩
    clear p00 p01 p02 p03 p04 p05 p10 p11 p12 p13 p14 p15 p20 p21 p22 p23 p24 p25
    have T := Lib.hid t
    clear t
    have p00 := T.out.1.g0
    have p01 := T.out.1.g1
    have p02 := T.out.1.g2
    have p03 := T.out.1.g3
    have p04 := T.out.1.g4
    have p05 := T.out.1.g5
    have p10 := T.out.2.1.g0
    have p11 := T.out.2.1.g1
    have p12 := T.out.2.1.g2
    have p13 := T.out.2.1.g3
    have p14 := T.out.2.1.g4
    have p15 := T.out.2.1.g5
    have p20 := T.out.2.2.g0
    have p21 := T.out.2.2.g1
    have p22 := T.out.2.2.g2
    have p23 := T.out.2.2.g3
    have p24 := T.out.2.2.g4
    have p25 := T.out.2.2.g5
    go_wp2_with fail
    refine (order_keep T.out _ _ _ _ _ _ _ _ _ _ _ _ _ HY).mono ?_
    rintro e w1 ⟨rfl, t⟩
    clear p00 p01 p02 p03 p04 p05 p10 p11 p12 p13 p14 p15 p20 p21 p22 p23 p24 p25
    have T := Lib.hid t
    clear t
    have p00 := T.out.1.g0
    have p01 := T.out.1.g1
    have p02 := T.out.1.g2
    have p03 := T.out.1.g3
    have p04 := T.out.1.g4
    have p05 := T.out.1.g5
    have p10 := T.out.2.1.g0
    have p11 := T.out.2.1.g1
    have p12 := T.out.2.1.g2
    have p13 := T.out.2.1.g3
    have p14 := T.out.2.1.g4
    have p15 := T.out.2.1.g5
    have p20 := T.out.2.2.g0
    have p21 := T.out.2.2.g1
    have p22 := T.out.2.2.g2
    have p23 := T.out.2.2.g3
    have p24 := T.out.2.2.g4
    have p25 := T.out.2.2.g5
    go_wp2_with fail
    refine (order_keep T.out _ _ _ _ _ _ _ _ _ _ _ _ _ HZ).mono ?_
    rintro e w1 ⟨rfl, t⟩
    clear p00 p01 p02 p03 p04 p05 p10 p11 p12 p13 p14 p15 p20 p21 p22 p23 p24 p25
    have T := Lib.hid t
    clear t
    have p00 := T.out.1.g0
    have p01 := T.out.1.g1
    have p02 := T.out.1.g2
    have p03 := T.out.1.g3
    have p04 := T.out.1.g4
    have p05 := T.out.1.g5
    have p10 := T.out.2.1.g0
    have p11 := T.out.2.1.g1
    have p12 := T.out.2.1.g2
    have p13 := T.out.2.1.g3
    have p14 := T.out.2.1.g4
    have p15 := T.out.2.1.g5
    have p20 := T.out.2.2.g0
    have p21 := T.out.2.2.g1
    have p22 := T.out.2.2.g2
    have p23 := T.out.2.2.g3
    have p24 := T.out.2.2.g4
    have p25 := T.out.2.2.g5
    go_wp2_with fail
    refine (order_keep T.out _ _ _ _ _ _ _ _ _ _ _ _ _ HB).mono ?_
    rintro e w1 ⟨rfl, t⟩
    clear p00 p01 p02 p03 p04 p05 p10 p11 p12 p13 p14 p15 p20 p21 p22 p23 p24 p25
    have T := Lib.hid t
    clear t
    have p00 := T.out.1.g0
    have p01 := T.out.1.g1
    have p02 := T.out.1.g2
    have p03 := T.out.1.g3
    have p04 := T.out.1.g4
    have p05 := T.out.1.g5
    have p10 := T.out.2.1.g0
    have p11 := T.out.2.1.g1
    have p12 := T.out.2.1.g2
    have p13 := T.out.2.1.g3
    have p14 := T.out.2.1.g4
    have p15 := T.out.2.1.g5
    have p20 := T.out.2.2.g0
    have p21 := T.out.2.2.g1
    have p22 := T.out.2.2.g2
    have p23 := T.out.2.2.g3
    have p24 := T.out.2.2.g4
    have p25 := T.out.2.2.g5
    go_wp2_with fail
    refine (order_keep T.out _ _ _ _ _ _ _ _ _ _ _ _ _ HR).mono ?_
    rintro e w1 ⟨rfl, t⟩
    clear p00 p01 p02 p03 p04 p05 p10 p11 p12 p13 p14 p15 p20 p21 p22 p23 p24 p25
    have T := Lib.hid t
    clear t
    have p00 := T.out.1.g0
    have p01 := T.out.1.g1
    have p02 := T.out.1.g2
    have p03 := T.out.1.g3
    have p04 := T.out.1.g4
    have p05 := T.out.1.g5
    have p10 := T.out.2.1.g0
    have p11 := T.out.2.1.g1
    have p12 := T.out.2.1.g2
    have p13 := T.out.2.1.g3
    have p14 := T.out.2.1.g4
    have p15 := T.out.2.1.g5
    have p20 := T.out.2.2.g0
    have p21 := T.out.2.2.g1
    have p22 := T.out.2.2.g2
    have p23 := T.out.2.2.g3
    have p24 := T.out.2.2.g4
    have p25 := T.out.2.2.g5
    go_wp2_with fail
    refine (works_any _ (L.below T.out.1.bel)).mono ?_
    rintro e w2 ⟨rfl, b⟩
    go_wp2_with fail
    go_ret
    exact ⟨rfl, T.out.1.bel.trans (b.mono T.out.1.bel.size)⟩
  · subst c c' c2
    clear xb
    go_enter Tryd.func13, Tryd.ntmps13
    go_wp2_with fail
    rw [← H.out]
    go_wp2_with fail
    refine (order_keep T.out _ _ _ _ _ _ _ _ _ _ _ _ _ HX).mono ?_
    rintro e w1 ⟨rfl, t⟩
    clear p00 p01 p02 p03 p04 p05 p10 p11 p12 p13 p14 p15 p20 p21 p22 p23 p24 p25
    have T := Lib.hid t
    clear t
    have p00 := T.out.1.g0
    have p01 := T.out.1.g1
    have p02 := T.out.1.g2
    have p03 := T.out.1.g3
    have p04 := T.out.1.g4
    have p05 := T.out.1.g5
    have p10 := T.out.2.1.g0
    have p11 := T.out.2.1.g1
    have p12 := T.out.2.1.g2
    have p13 := T.out.2.1.g3
    have p14 := T.out.2.1.g4
    have p15 := T.out.2.1.g5
    have p20 := T.out.2.2.g0
    have p21 := T.out.2.2.g1
    have p22 := T.out.2.2.g2
    have p23 := T.out.2.2.g3
    have p24 := T.out.2.2.g4
    have p25 := T.out.2.2.g5
    go_wp2_with fail
    refine (order_keep T.out _ _ _ _ _ _ _ _ _ _ _ _ _ HY).mono ?_
    rintro e w1 ⟨rfl, t⟩
    clear p00 p01 p02 p03 p04 p05 p10 p11 p12 p13 p14 p15 p20 p21 p22 p23 p24 p25
    have T := Lib.hid t
    clear t
    have p00 := T.out.1.g0
    have p01 := T.out.1.g1
    have p02 := T.out.1.g2
    have p03 := T.out.1.g3
    have p04 := T.out.1.g4
    have p05 := T.out.1.g5
    have p10 := T.out.2.1.g0
    have p11 := T.out.2.1.g1
    have p12 := T.out.2.1.g2
    have p13 := T.out.2.1.g3
    have p14 := T.out.2.1.g4
    have p15 := T.out.2.1.g5
    have p20 := T.out.2.2.g0
    have p21 := T.out.2.2.g1
    have p22 := T.out.2.2.g2
    have p23 := T.out.2.2.g3
    have p24 := T.out.2.2.g4
    have p25 := T.out.2.2.g5
    go_wp2_with fail
    refine (order_keep T.out _ _ _ _ _ _ _ _ _ _ _ _ _ HZ).mono ?_
    rintro e w1 ⟨rfl, t⟩
    clear p00 p01 p02 p03 p04 p05 p10 p11 p12 p13 p14 p15 p20 p21 p22 p23 p24 p25
    have T := Lib.hid t
    clear t
    have p00 := T.out.1.g0
    have p01 := T.out.1.g1
    have p02 := T.out.1.g2
    have p03 := T.out.1.g3
    have p04 := T.out.1.g4
    have p05 := T.out.1.g5
    have p10 := T.out.2.1.g0
    have p11 := T.out.2.1.g1
    have p12 := T.out.2.1.g2
    have p13 := T.out.2.1.g3
    have p14 := T.out.2.1.g4
    have p15 := T.out.2.1.g5
    have p20 := T.out.2.2.g0
    have p21 := T.out.2.2.g1
    have p22 := T.out.2.2.g2
    have p23 := T.out.2.2.g3
    have p24 := T.out.2.2.g4
    have p25 := T.out.2.2.g5
    go_wp2_with fail
    refine (order_keep T.out _ _ _ _ _ _ _ _ _ _ _ _ _ HB).mono ?_
    rintro e w1 ⟨rfl, t⟩
    clear p00 p01 p02 p03 p04 p05 p10 p11 p12 p13 p14 p15 p20 p21 p22 p23 p24 p25
    have T := Lib.hid t
    clear t
    have p00 := T.out.1.g0
    have p01 := T.out.1.g1
    have p02 := T.out.1.g2
    have p03 := T.out.1.g3
    have p04 := T.out.1.g4
    have p05 := T.out.1.g5
    have p10 := T.out.2.1.g0
    have p11 := T.out.2.1.g1
    have p12 := T.out.2.1.g2
    have p13 := T.out.2.1.g3
    have p14 := T.out.2.1.g4
    have p15 := T.out.2.1.g5
    have p20 := T.out.2.2.g0
    have p21 := T.out.2.2.g1
    have p22 := T.out.2.2.g2
    have p23 := T.out.2.2.g3
    have p24 := T.out.2.2.g4
    have p25 := T.out.2.2.g5
    go_wp2_with fail
    refine (order_keep T.out _ _ _ _ _ _ _ _ _ _ _ _ _ HR).mono ?_
    rintro e w1 ⟨rfl, t⟩
    clear p00 p01 p02 p03 p04 p05 p10 p11 p12 p13 p14 p15 p20 p21 p22 p23 p24 p25
    have T := Lib.hid t
    clear t
    have p00 := T.out.1.g0
    have p01 := T.out.1.g1
    have p02 := T.out.1.g2
    have p03 := T.out.1.g3
    have p04 := T.out.1.g4
    have p05 := T.out.1.g5
    have p10 := T.out.2.1.g0
    have p11 := T.out.2.1.g1
    have p12 := T.out.2.1.g2
    have p13 := T.out.2.1.g3
    have p14 := T.out.2.1.g4
    have p15 := T.out.2.1.g5
    have p20 := T.out.2.2.g0
    have p21 := T.out.2.2.g1
    have p22 := T.out.2.2.g2
    have p23 := T.out.2.2.g3
    have p24 := T.out.2.2.g4
    have p25 := T.out.2.2.g5
    go_wp2_with fail
    refine (works_any _ (L.below T.out.1.bel)).mono ?_
    rintro e w2 ⟨rfl, b⟩
    go_wp2_with fail
    go_ret
    exact ⟨rfl, T.out.1.bel.trans (b.mono T.out.1.bel.size)⟩

set_option maxRecDepth 100000 in
set_option maxHeartbeats 1600000 in
theorem road_6 (y1 m1 d1 h1 i1 s1 y3 m3 d3 h3 i3 s3 : Int) (w : World) (L : Lay w) :
    Calls Tryd.prog 13 #[.agg #[.int .i64 y1, .int .i64 m1, .int .i64 d1, .int .i64 h1, .int .i64 i1, .int .i64 s1], .agg #[.int .i64 y1, .int .i64 m1, .int .i64 d1, .int .i64 h1, .int .i64 i1, .int .i64 s1], .agg #[.int .i64 y3, .int .i64 m3, .int .i64 d3, .int .i64 h3, .int .i64 i3, .int .i64 s3]] w fun e w' => e = .returned (.bool true) ∧ Below w.heap.size w w' := by
  obtain ⟨x, hx⟩ : ∃ x, ordI y1 m1 d1 h1 i1 s1 y1 m1 d1 h1 i1 s1 = x := ⟨_, rfl⟩
  obtain ⟨y, hy⟩ : ∃ y, ordI y1 m1 d1 h1 i1 s1 y3 m3 d3 h3 i3 s3 = y := ⟨_, rfl⟩
  have bY := lex_bd [y1, m1, d1, h1, i1, s1] [y3, m3, d3, h3, i3, s3]
  have re := lex_refl [y1, m1, d1, h1, i1, s1]
  rw [← ordI_lex, hy] at bY
  rw [← ordI_lex] at re
  have x0 : x = 0 := by rw [← hx]; exact re
  subst x0
  have HX := Lib.hid hx
  have HY := Lib.hid hy
  have HB := Lib.hid (show ordI y1 m1 d1 h1 i1 s1 y1 m1 d1 h1 i1 s1 = -0 from re)
  have HR := Lib.hid re
  obtain ⟨W, hW, t⟩ := three_start w y1 m1 d1 h1 i1 s1 y1 m1 d1 h1 i1 s1 y3 m3 d3 h3 i3 s3
  have H := Lib.hid hW
  have T := Lib.hid t
  clear hx hy re hW t
  have p00 := T.out.1.g0
  have p01 := T.out.1.g1
  have p02 := T.out.1.g2
  have p03 := T.out.1.g3
  have p04 := T.out.1.g4
  have p05 := T.out.1.g5
  have p10 := T.out.2.1.g0
  have p11 := T.out.2.1.g1
  have p12 := T.out.2.1.g2
  have p13 := T.out.2.1.g3
  have p14 := T.out.2.1.g4
  have p15 := T.out.2.1.g5
  have p20 := T.out.2.2.g0
  have p21 := T.out.2.2.g1
  have p22 := T.out.2.2.g2
  have p23 := T.out.2.2.g3
  have p24 := T.out.2.2.g4
  have p25 := T.out.2.2.g5
  have cs : (0 < y) ∨ (y = -1) ∨ (y = 0) := by omega
  clear bY
  rcases cs with c | c | c
  · skip
    go_enter Tryd.func13, Tryd.ntmps13
    go_wp2_with fail
    rw [← H.out]
    go_wp2_with fail
    refine (order_keep T.out _ _ _ _ _ _ _ _ _ _ _ _ _ HX).mono ?_
    rintro e w1 ⟨rfl, t⟩
    clear p00 p01 p02 p03 p04 p05 p10 p11 p12 p13 p14 p15 p20 p21 p22 p23 p24 p25
    have T := Lib.hid t
    clear t
    have p00 := T.out.1.g0
    have p01 := T.out.1.g1
    have p02 := T.out.1.g2
    have p03 := T.out.1.g3
    have p04 := T.out.1.g4
    have p05 := T.out.1.g5
    have p10 := T.out.2.1.g0
    have p11 := T.out.2.1.g1
    have p12 := T.out.2.1.g2
    have p13 := T.out.2.1.g3
    have p14 := T.out.2.1.g4
    have p15 := T.out.2.1.g5
    have p20 := T.out.2.2.g0
    have p21 := T.out.2.2.g1
    have p22 := T.out.2.2.g2
    have p23 := T.out.2.2.g3
    have p24 := T.out.2.2.g4
    have p25 := T.out.2.2.g5
    go_wp2_with fail
    refine (order_keep T.out _ _ _ _ _ _ _ _ _ _ _ _ _ HY).mono ?_
    rintro e w1 ⟨rfl, t⟩
    clear p00 p01 p02 p03 p04 p05 p10 p11 p12 p13 p14 p15 p20 p21 p22 p23 p24 p25
    have T := Lib.hid t
    clear t
    have p00 := T.out.1.g0
    have p01 := T.out.1.g1
    have p02 := T.out.1.g2
    have p03 := T.out.1.g3
    have p04 := T.out.1.g4
    have p05 := T.out.1.g5
    have p10 := T.out.2.1.g0
    have p11 := T.out.2.1.g1
    have p12 := T.out.2.1.g2
    have p13 := T.out.2.1.g3
    have p14 := T.out.2.1.g4
    have p15 := T.out.2.1.g5
    have p20 := T.out.2.2.g0
    have p21 := T.out.2.2.g1
    have p22 := T.out.2.2.g2
    have p23 := T.out.2.2.g3
    have p24 := T.out.2.2.g4
    have p25 := T.out.2.2.g5
    go_wp2_with fail
    refine (order_keep T.out _ _ _ _ _ _ _ _ _ _ _ _ _ HY).mono ?_
    rintro e w1 ⟨rfl, t⟩
    clear p00 p01 p02 p03 p04 p05 p10 p11 p12 p13 p14 p15 p20 p21 p22 p23 p24 p25
    have T := Lib.hid t
    clear t
    have p00 := T.out.1.g0
    have p01 := T.out.1.g1
    have p02 := T.out.1.g2
    have p03 := T.out.1.g3
    have p04 := T.out.1.g4
    have p05 := T.out.1.g5
    have p10 := T.out.2.1.g0
    have p11 := T.out.2.1.g1
    have p12 := T.out.2.1.g2
    have p13 := T.out.2.1.g3
    have p14 := T.out.2.1.g4
    have p15 := T.out.2.1.g5
    have p20 := T.out.2.2.g0
    have p21 := T.out.2.2.g1
    have p22 := T.out.2.2.g2
    have p23 := T.out.2.2.g3
    have p24 := T.out.2.2.g4
    have p25 := T.out.2.2.g5
    go_wp2_with fail
    refine (order_keep T.out _ _ _ _ _ _ _ _ _ _ _ _ _ HB).mono ?_
    rintro e w1 ⟨rfl, t⟩
    clear p00 p01 p02 p03 p04 p05 p10 p11 p12 p13 p14 p15 p20 p21 p22 p23 p24 p25
    have T := Lib.hid t
    clear t
    have p00 := T.out.1.g0
    have p01 := T.out.1.g1
    have p02 := T.out.1.g2
    have p03 := T.out.1.g3
    have p04 := T.out.1.g4
    have p05 := T.out.1.g5
    have p10 := T.out.2.1.g0
    have p11 := T.out.2.1.g1
    have p12 := T.out.2.1.g2
    have p13 := T.out.2.1.g3
    have p14 := T.out.2.1.g4
    have p15 := T.out.2.1.g5
    have p20 := T.out.2.2.g0
    have p21 := T.out.2.2.g1
    have p22 := T.out.2.2.g2
    have p23 := T.out.2.2.g3
    have p24 := T.out.2.2.g4
    have p25 := T.out.2.2.g5
    go_wp2_with fail
    refine (order_keep T.out _ _ _ _ _ _ _ _ _ _ _ _ _ HR).mono ?_
    rintro e w1 ⟨rfl, t⟩
    clear p00 p01 p02 p03 p04 p05 p10 p11 p12 p13 p14 p15 p20 p21 p22 p23 p24 p25
    have T := Lib.hid t
    clear t
    have p00 := T.out.1.g0
    have p01 := T.out.1.g1
    have p02 := T.out.1.g2
    have p03 := T.out.1.g3
    have p04 := T.out.1.g4
    have p05 := T.out.1.g5
    have p10 := T.out.2.1.g0
    have p11 := T.out.2.1.g1
    have p12 := T.out.2.1.g2
    have p13 := T.out.2.1.g3
    have p14 := T.out.2.1.g4
    have p15 := T.out.2.1.g5
    have p20 := T.out.2.2.g0
    have p21 := T.out.2.2.g1
    have p22 := T.out.2.2.g2
    have p23 := T.out.2.2.g3
    have p24 := T.out.2.2.g4
    have p25 := T.out.2.2.g5
    go_wp2_with fail
    refine (works_any _ (L.below T.out.1.bel)).mono ?_
    rintro e w2 ⟨rfl, b⟩
    go_wp2_with fail
    go_ret
    exact ⟨rfl, T.out.1.bel.trans (b.mono T.out.1.bel.size)⟩
  · subst c
    go_enter Tryd.func13, Tryd.ntmps13
    go_wp2_with fail
    rw [← H.out]
    go_wp2_with fail
    refine (order_keep T.out _ _ _ _ _ _ _ _ _ _ _ _ _ HX).mono ?_
    rintro e w1 ⟨rfl, t⟩
    clear p00 p01 p02 p03 p04 p05 p10 p11 p12 p13 p14 p15 p20 p21 p22 p23 p24 p25
    have T := Lib.hid t
    clear t
    have p00 := T.out.1.g0
    have p01 := T.out.1.g1
    have p02 := T.out.1.g2
    have p03 := T.out.1.g3
    have p04 := T.out.1.g4
    have p05 := T.out.1.g5
    have p10 := T.out.2.1.g0
    have p11 := T.out.2.1.g1
    have p12 := T.out.2.1.g2
    have p13 := T.out.2.1.g3
    have p14 := T.out.2.1.g4
    have p15 := T.out.2.1.g5
    have p20 := T.out.2.2.g0
    have p21 := T.out.2.2.g1
    have p22 := T.out.2.2.g2
    have p23 := T.out.2.2.g3
    have p24 := T.out.2.2.g4
    have p25 := T.out.2.2.g5
    go_wp2_with fail
    refine (order_keep T.out _ _ _ _ _ _ _ _ _ _ _ _ _ HY).mono ?_
    rintro e w1 ⟨rfl, t⟩
    clear p00 p01 p02 p03 p04 p05 p10 p11 p12 p13 p14 p15 p20 p21 p22 p23 p24 p25
    have T := Lib.hid t
    clear t
    have p00 := T.out.1.g0
    have p01 := T.out.1.g1
    have p02 := T.out.1.g2
    have p03 := T.out.1.g3
    have p04 := T.out.1.g4
    have p05 := T.out.1.g5
    have p10 := T.out.2.1.g0
    have p11 := T.out.2.1.g1
    have p12 := T.out.2.1.g2
    have p13 := T.out.2.1.g3
    have p14 := T.out.2.1.g4
    have p15 := T.out.2.1.g5
    have p20 := T.out.2.2.g0
    have p21 := T.out.2.2.g1
    have p22 := T.out.2.2.g2
    have p23 := T.out.2.2.g3
    have p24 := T.out.2.2.g4
    have p25 := T.out.2.2.g5
    go_wp2_with fail
    refine (order_keep T.out _ _ _ _ _ _ _ _ _ _ _ _ _ HY).mono ?_
    rintro e w1 ⟨rfl, t⟩
    clear p00 p01 p02 p03 p04 p05 p10 p11 p12 p13 p14 p15 p20 p21 p22 p23 p24 p25
    have T := Lib.hid t
    clear t
    have p00 := T.out.1.g0
    have p01 := T.out.1.g1
    have p02 := T.out.1.g2
    have p03 := T.out.1.g3
    have p04 := T.out.1.g4
    have p05 := T.out.1.g5
    have p10 := T.out.2.1.g0
    have p11 := T.out.2.1.g1
    have p12 := T.out.2.1.g2
    have p13 := T.out.2.1.g3
    have p14 := T.out.2.1.g4
    have p15 := T.out.2.1.g5
    have p20 := T.out.2.2.g0
    have p21 := T.out.2.2.g1
    have p22 := T.out.2.2.g2
    have p23 := T.out.2.2.g3
    have p24 := T.out.2.2.g4
    have p25 := T.out.2.2.g5
    go_wp2_with fail
    refine (order_keep T.out _ _ _ _ _ _ _ _ _ _ _ _ _ HB).mono ?_
    rintro e w1 ⟨rfl, t⟩
    clear p00 p01 p02 p03 p04 p05 p10 p11 p12 p13 p14 p15 p20 p21 p22 p23 p24 p25
    have T := Lib.hid t
    clear t
    have p00 := T.out.1.g0
    have p01 := T.out.1.g1
    have p02 := T.out.1.g2
    have p03 := T.out.1.g3
    have p04 := T.out.1.g4
    have p05 := T.out.1.g5
    have p10 := T.out.2.1.g0
    have p11 := T.out.2.1.g1
    have p12 := T.out.2.1.g2
    have p13 := T.out.2.1.g3
    have p14 := T.out.2.1.g4
    have p15 := T.out.2.1.g5
    have p20 := T.out.2.2.g0
    have p21 := T.out.2.2.g1
    have p22 := T.out.2.2.g2
    have p23 := T.out.2.2.g3
    have p24 := T.out.2.2.g4
    have p25 := T.out.2.2.g5
    go_wp2_with fail
    refine (order_keep T.out _ _ _ _ _ _ _ _ _ _ _ _ _ HR).mono ?_
    rintro e w1 ⟨rfl, t⟩
    clear p00 p01 p02 p03 p04 p05 p10 p11 p12 p13 p14 p15 p20 p21 p22 p23 p24 p25
    have T := Lib.hid t
    clear t
    have p00 := T.out.1.g0
    have p01 := T.out.1.g1
    have p02 := T.out.1.g2
    have p03 := T.out.1.g3
    have p04 := T.out.1.g4
    have p05 := T.out.1.g5
    have p10 := T.out.2.1.g0
    have p11 := T.out.2.1.g1
    have p12 := T.out.2.1.g2
    have p13 := T.out.2.1.g3
    have p14 := T.out.2.1.g4
    have p15 := T.out.2.1.g5
    have p20 := T.out.2.2.g0
    have p21 := T.out.2.2.g1
    have p22 := T.out.2.2.g2
    have p23 := T.out.2.2.g3
    have p24 := T.out.2.2.g4
    have p25 := T.out.2.2.g5
    go_wp2_with fail
    refine (works_any _ (L.below T.out.1.bel)).mono ?_
    rintro e w2 ⟨rfl, b⟩
    go_wp2_with fail
    go_ret
    exact ⟨rfl, T.out.1.bel.trans (b.mono T.out.1.bel.size)⟩
  · subst c
    go_enter Tryd.func13, Tryd.ntmps13
    go_wp2_with fail
    rw [← H.out]
    go_wp2_with fail
    refine (order_keep T.out _ _ _ _ _ _ _ _ _ _ _ _ _ HX).mono ?_
    rintro e w1 ⟨rfl, t⟩
    clear p00 p01 p02 p03 p04 p05 p10 p11 p12 p13 p14 p15 p20 p21 p22 p23 p24 p25
    have T := Lib.hid t
    clear t
    have p00 := T.out.1.g0
    have p01 := T.out.1.g1
    have p02 := T.out.1.g2
    have p03 := T.out.1.g3
    have p04 := T.out.1.g4
    have p05 := T.out.1.g5
    have p10 := T.out.2.1.g0
    have p11 := T.out.2.1.g1
    have p12 := T.out.2.1.g2
    have p13 := T.out.2.1.g3
    have p14 := T.out.2.1.g4
    have p15 := T.out.2.1.g5
    have p20 := T.out.2.2.g0
    have p21 := T.out.2.2.g1
    have p22 := T.out.2.2.g2
    have p23 := T.out.2.2.g3
    have p24 := T.out.2.2.g4
    have p25 := T.out.2.2.g5
    go_wp2_with fail
    refine (order_keep T.out _ _ _ _ _ _ _ _ _ _ _ _ _ HY).mono ?_
    rintro e w1 ⟨rfl, t⟩
    clear p00 p01 p02 p03 p04 p05 p10 p11 p12 p13 p14 p15 p20 p21 p22 p23 p24 p25
    have T := Lib.hid t
    clear t
    have p00 := T.out.1.g0
    have p01 := T.out.1.g1
    have p02 := T.out.1.g2
    have p03 := T.out.1.g3
    have p04 := T.out.1.g4
    have p05 := T.out.1.g5
    have p10 := T.out.2.1.g0
    have p11 := T.out.2.1.g1
    have p12 := T.out.2.1.g2
    have p13 := T.out.2.1.g3
    have p14 := T.out.2.1.g4
    have p15 := T.out.2.1.g5
    have p20 := T.out.2.2.g0
    have p21 := T.out.2.2.g1
    have p22 := T.out.2.2.g2
    have p23 := T.out.2.2.g3
    have p24 := T.out.2.2.g4
    have p25 := T.out.2.2.g5
    go_wp2_with fail
    refine (order_keep T.out _ _ _ _ _ _ _ _ _ _ _ _ _ HY).mono ?_
    rintro e w1 ⟨rfl, t⟩
    clear p00 p01 p02 p03 p04 p05 p10 p11 p12 p13 p14 p15 p20 p21 p22 p23 p24 p25
    have T := Lib.hid t
    clear t
    have p00 := T.out.1.g0
    have p01 := T.out.1.g1
    have p02 := T.out.1.g2
    have p03 := T.out.1.g3
    have p04 := T.out.1.g4
    have p05 := T.out.1.g5
    have p10 := T.out.2.1.g0
    have p11 := T.out.2.1.g1
    have p12 := T.out.2.1.g2
    have p13 := T.out.2.1.g3
    have p14 := T.out.2.1.g4
    have p15 := T.out.2.1.g5
    have p20 := T.out.2.2.g0
    have p21 := T.out.2.2.g1
    have p22 := T.out.2.2.g2
    have p23 := T.out.2.2.g3
    have p24 := T.out.2.2.g4
    have p25 := T.out.2.2.g5
    go_wp2_with fail
    refine (order_keep T.out _ _ _ _ _ _ _ _ _ _ _ _ _ HB).mono ?_
    rintro e w1 ⟨rfl, t⟩
    clear p00 p01 p02 p03 p04 p05 p10 p11 p12 p13 p14 p15 p20 p21 p22 p23 p24 p25
    have T := Lib.hid t
    clear t
    have p00 := T.out.1.g0
    have p01 := T.out.1.g1
    have p02 := T.out.1.g2
    have p03 := T.out.1.g3
    have p04 := T.out.1.g4
    have p05 := T.out.1.g5
    have p10 := T.out.2.1.g0
    have p11 := T.out.2.1.g1
    have p12 := T.out.2.1.g2
    have p13 := T.out.2.1.g3
    have p14 := T.out.2.1.g4
    have p15 := T.out.2.1.g5
    have p20 := T.out.2.2.g0
    have p21 := T.out.2.2.g1
    have p22 := T.out.2.2.g2
    have p23 := T.out.2.2.g3
    have p24 := T.out.2.2.g4
    have p25 := T.out.2.2.g5
    go_wp2_with fail
    refine (order_keep T.out _ _ _ _ _ _ _ _ _ _ _ _ _ HR).mono ?_
    rintro e w1 ⟨rfl, t⟩
    clear p00 p01 p02 p03 p04 p05 p10 p11 p12 p13 p14 p15 p20 p21 p22 p23 p24 p25
    have T := Lib.hid t
    clear t
    have p00 := T.out.1.g0
    have p01 := T.out.1.g1
    have p02 := T.out.1.g2
    have p03 := T.out.1.g3
    have p04 := T.out.1.g4
    have p05 := T.out.1.g5
    have p10 := T.out.2.1.g0
    have p11 := T.out.2.1.g1
    have p12 := T.out.2.1.g2
    have p13 := T.out.2.1.g3
    have p14 := T.out.2.1.g4
    have p15 := T.out.2.1.g5
    have p20 := T.out.2.2.g0
    have p21 := T.out.2.2.g1
    have p22 := T.out.2.2.g2
    have p23 := T.out.2.2.g3
    have p24 := T.out.2.2.g4
    have p25 := T.out.2.2.g5
    go_wp2_with fail
    refine (works_any _ (L.below T.out.1.bel)).mono ?_
    rintro e w2 ⟨rfl, b⟩
    go_wp2_with fail
    go_ret
    exact ⟨rfl, T.out.1.bel.trans (b.mono T.out.1.bel.size)⟩

theorem walk (y1 m1 d1 h1 i1 s1 y2 m2 d2 h2 i2 s2 y3 m3 d3 h3 i3 s3 : Int) (w : World) (L : Lay w) (_ : (Lit.int .i64 y1).wf = true ∧ (Lit.int .i64 m1).wf = true ∧ (Lit.int .i64 d1).wf = true ∧ (Lit.int .i64 h1).wf = true ∧ (Lit.int .i64 i1).wf = true ∧ (Lit.int .i64 s1).wf = true) (_ : (Lit.int .i64 y2).wf = true ∧ (Lit.int .i64 m2).wf = true ∧ (Lit.int .i64 d2).wf = true ∧ (Lit.int .i64 h2).wf = true ∧ (Lit.int .i64 i2).wf = true ∧ (Lit.int .i64 s2).wf = true) (_ : (Lit.int .i64 y3).wf = true ∧ (Lit.int .i64 m3).wf = true ∧ (Lit.int .i64 d3).wf = true ∧ (Lit.int .i64 h3).wf = true ∧ (Lit.int .i64 i3).wf = true ∧ (Lit.int .i64 s3).wf = true) :
    Calls Tryd.prog 13 #[.agg #[.int .i64 y1, .int .i64 m1, .int .i64 d1, .int .i64 h1, .int .i64 i1, .int .i64 s1], .agg #[.int .i64 y2, .int .i64 m2, .int .i64 d2, .int .i64 h2, .int .i64 i2, .int .i64 s2], .agg #[.int .i64 y3, .int .i64 m3, .int .i64 d3, .int .i64 h3, .int .i64 i3, .int .i64 s3]] w fun e w' => e = .returned (.bool true) ∧ Below w.heap.size w w' := by
  by_cases e0 : y1 = y2
  case neg => exact road_0 y1 m1 d1 h1 i1 s1 y2 m2 d2 h2 i2 s2 y3 m3 d3 h3 i3 s3 w L e0
  subst e0
  by_cases e1 : m1 = m2
  case neg => exact road_1 y1 m1 d1 h1 i1 s1 m2 d2 h2 i2 s2 y3 m3 d3 h3 i3 s3 w L e1
  subst e1
  by_cases e2 : d1 = d2
  case neg => exact road_2 y1 m1 d1 h1 i1 s1 d2 h2 i2 s2 y3 m3 d3 h3 i3 s3 w L e2
  subst e2
  by_cases e3 : h1 = h2
  case neg => exact road_3 y1 m1 d1 h1 i1 s1 h2 i2 s2 y3 m3 d3 h3 i3 s3 w L e3
  subst e3
  by_cases e4 : i1 = i2
  case neg => exact road_4 y1 m1 d1 h1 i1 s1 i2 s2 y3 m3 d3 h3 i3 s3 w L e4
  subst e4
  by_cases e5 : s1 = s2
  case neg => exact road_5 y1 m1 d1 h1 i1 s1 s2 y3 m3 d3 h3 i3 s3 w L e5
  subst e5
  exact road_6 y1 m1 d1 h1 i1 s1 y3 m3 d3 h3 i3 s3 w L

theorem listed : Rows.civilOrdersRow.laid.find? isLengths = some (((Rows.civilOrdersRow.laid.find? isLengths).map (·.1)).getD "", Rows.laid_wakeman_civil_lengths) := by kernel_rfl

set_option maxRecDepth 100000 in
theorem lifted (os : Os) (started : os.Started) (H : Type) (enc : TypeId × Value → H) :
    ReturnsInHanded {} Tryd.checked os 13 .any (fun w args => (Rows.civilOrdersSpec.pre enc Tryd.prog Tryd.f13 [] false w args ∧ laidMetH Tryd.prog Rows.civilOrdersRow.laid w) ∧ sizedMet enc Tryd.prog Tryd.f13 (OpenSpec.ofChange Rows.civilOrdersSpec) false w args)
      (Rows.civilOrdersSpec.post enc Tryd.prog Tryd.f13 false true false false) := by
  refine returnsInHanded_of_change_and (C := Tryd.checked) (X := fun w _ => laidMetH Tryd.prog Rows.civilOrdersRow.laid w) (fun _ _ _ hh h => h.of_heap hh) own started (by kernel_rfl) Tryd.func13
    (ChangeSpec.witness_shaped (enc := enc) (C := Tryd.checked) (os := os) (X := fun w _ => laidMetH Tryd.prog Rows.civilOrdersRow.laid w) false (World.doorLaid Tryd.prog 400 os) #[.agg #[.int .i64 0, .int .i64 0, .int .i64 0, .int .i64 0, .int .i64 0, .int .i64 0], .agg #[.int .i64 0, .int .i64 0, .int .i64 0, .int .i64 0, .int .i64 0, .int .i64 0], .agg #[.int .i64 0, .int .i64 0, .int .i64 0, .int .i64 0, .int .i64 0, .int .i64 0]] 8 rfl (shaped0 os _) (by kernel_rfl) (by kernel_rfl) (by kernel_rfl) (door_met os _)) ?_
  intro W base args ds gs before hval0 hW _ _ hL _
  have hval : ∀ (j : Nat) t v, Tryd.f13.params[j]? = some t → args[j]? = some v → Value.okWide Tryd.prog W .any base t v := hval0
  have hW' := hW
  obtain ⟨p, q, hA0, hV, rfl, hfz, hnd⟩ := hW
  have hA : DataW.TrodAll enc Tryd.prog W 0 (fun _ => true) true Tryd.f13.params.toList args.toList ds p := hA0
  rw [Tryd.params13] at hA hval
  obtain ⟨v0, vs0, d0, ds0, p0, q0, hargs, rfl, rfl, h0, r0⟩ := trodAll_cons hA
  obtain ⟨v1, vs1, d1, ds1, p1, q1, rfl, rfl, rfl, h1, r1⟩ := trodAll_cons r0
  obtain ⟨v2, vs2, d2, ds2, p2, q2, rfl, rfl, rfl, h2, r2⟩ := trodAll_cons r1
  obtain ⟨rfl, rfl, rfl⟩ := trodAll_nil r2
  obtain rfl : args = #[v0, v1, v2] := by cases args; simp_all
  obtain ⟨rfl, rfl⟩ := trodVars_none hV
  obtain ⟨y0, m0, t0, o0, i0, s0, rfl, w0⟩ := open_civil (hval 0 34 v0 rfl rfl) h0
  have k0 := h0
  have lt0 : ∀ x ∈ p0, x.block < W.heap.size := by obtain ⟨m, hm⟩ := k0; exact DataW.trod_lt m _ _ _ hm
  obtain ⟨y1, m1, t1, o1, i1, s1, rfl, w1⟩ := open_civil (hval 1 34 v1 rfl rfl) h1
  have k1 := h1
  have lt1 : ∀ x ∈ p1, x.block < W.heap.size := by obtain ⟨m, hm⟩ := k1; exact DataW.trod_lt m _ _ _ hm
  obtain ⟨y2, m2, t2, o2, i2, s2, rfl, w2⟩ := open_civil (hval 2 34 v2 rfl rfl) h2
  have k2 := h2
  have lt2 : ∀ x ∈ p2, x.block < W.heap.size := by obtain ⟨m, hm⟩ := k2; exact DataW.trod_lt m _ _ _ hm
  clear hA0 hval0
  refine (walk y0 m0 t0 o0 i0 s0 y1 m1 t1 o1 i1 s1 y2 m2 t2 o2 i2 s2 W (lay_of _ W (by kernel_rfl) _ listed hL) w0 w1 w2).mono fun e W' ⟨he, bel⟩ => ?_
  subst he
  exact ⟨_, rfl, _, _, _, [], _, [], hW', trodAll_mk1 (shut_bool Tryd.underlying4 _), (trodAll_cons_mk (Below.trod laidOut (by kernel_rfl) (of_decide_eq_true (by kernel_rfl)) k0 bel lt0) (trodAll_cons_mk (Below.trod laidOut (by kernel_rfl) (of_decide_eq_true (by kernel_rfl)) k1 bel lt1) (trodAll_cons_mk (Below.trod laidOut (by kernel_rfl) (of_decide_eq_true (by kernel_rfl)) k2 bel lt2) trodAll_mk0))), rfl, bel.frame _, fun h => by cases h⟩

theorem row_holds : Rows.CivilOrdersSaid :=
  OpenClaim.holds_of_wide 13 Tryd.f13 rfl rfl rfl rfl rfl rfl rfl ⟨rfl, rfl, rfl, rfl, rfl⟩ rfl rfl rfl rfl rfl (by kernel_rfl) Tryd.func13 (by kernel_rfl)
    (of_decide_eq_true (by kernel_rfl)) (by unfold Func.isWrapper; first | (rw [if_pos (by decide +kernel)]; kernel_rfl) | (rw [if_neg (by decide +kernel)]; exact ⟨rfl, rfl⟩))
    (fun os started H enc _ => lifted os started H enc)

theorem proved : Rows.CivilOrdersCardSaid :=
  Claim7.holds_tied_plain_at .later [] Rows.civilOrdersCard.laidKinds true Rows.civilOrdersCard.stood.harness Rows.civilOrdersCard.stood.looks
    row_holds (fun _ h => by cases h) (by kernel_rfl) (fun _ h => by cases h) civilOrders_row_tie rfl ⟨rfl, rfl⟩ (by kernel_rfl) rfl
    (fun f fn hf hfn => by
      obtain rfl : f = 13 := Option.some.inj ((show Tryd.prog.funcNamed Rows.civilOrdersRow.func = some 13 by kernel_rfl).symm.trans hf) |>.symm
      obtain rfl : fn = Tryd.f13 := (Option.some.inj (Tryd.func13.symm.trans hfn)).symm
      exact ⟨looks0, fun j t ht => by
        rw [Tryd.params13] at ht
        have hm : t ∈ [34] := by simpa using Array.mem_of_getElem? ht
        have hall : ([34].all fun u => !Tryd.prog.wantsStandIn u) = true := by kernel_rfl
        exact (show Tryd.prog.wantsStandIn t = false by simpa using List.all_eq_true.1 hall t hm)⟩)
    (by kernel_rfl)
end Go.Proofs.YtjffnjoeeclckaaDoor.civilOrders
