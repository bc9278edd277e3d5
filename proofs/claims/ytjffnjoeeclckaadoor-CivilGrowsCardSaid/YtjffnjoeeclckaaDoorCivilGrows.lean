/- For all int64 numbers t and u, CivilGrows returns true: of two times the smaller one has the smaller civil time and the smaller text. Condition: the package-level tables start as the program's text lays them (tied). -/
import Derived.Test.YtjffnjoeeclckaaDoorCivDoor
import Derived.Test.YtjffnjoeeclckaaDoorCivBoth
import Derived.Test.YtjffnjoeeclckaaDoorCivGr
import Derived.WalkLawsBesides
namespace Go.Proofs.YtjffnjoeeclckaaDoor.civilGrows
open Go.ChangeShapes Go.WideShapes Go.ChangeAt Go.RowKit

set_option maxRecDepth 100000 in
theorem no_xx (t u y m d h i s y' m' d' h' i' s' : Int) (S T : ByteArray) (w : World) (L : Lay w)
    (A : Hid (∀ w, Lay w → Calls Tryd.prog 24 #[.int .i64 t] w fun e w' => e = .returned (.tuple #[.agg #[.int .i64 y, .int .i64 m, .int .i64 d, .int .i64 h, .int .i64 i, .int .i64 s], .int .i64 14]) ∧ Below w.heap.size w w'))
    (B : Hid (∀ w, Lay w → Calls Tryd.prog 24 #[.int .i64 u] w fun e w' => e = .returned (.tuple #[.agg #[.int .i64 y', .int .i64 m', .int .i64 d', .int .i64 h', .int .i64 i', .int .i64 s'], .int .i64 14]) ∧ Below w.heap.size w w'))
    (C : Hid (∀ w, Lay w → Calls Tryd.prog 28 #[.int .i64 t] w fun e w' => e = .returned (.tuple #[.string S, .int .i64 14]) ∧ Below w.heap.size w w'))
    (D : Hid (∀ w, Lay w → Calls Tryd.prog 28 #[.int .i64 u] w fun e w' => e = .returned (.tuple #[.string T, .int .i64 14]) ∧ Below w.heap.size w w')) :
    Calls Tryd.prog 9 #[.int .i64 t, .int .i64 u] w fun e w' => e = .returned (.bool true) ∧ Below w.heap.size w w' := by
  go_enter Tryd.func9, Tryd.ntmps9
  go_wp2_with fail
  refine (A.out _ L).mono ?_
  rintro e w1 ⟨rfl, b⟩
  obtain ⟨W1, hW, P⟩ := civ6_start w w1 b y m d h i s 34
  have H1 := Lib.hid hW
  have P1 := Lib.hid P
  clear hW P b
  go_wp2_with fail
  rw [← H1.out]
  refine (B.out _ (L.below P1.out.bel)).mono ?_
  rintro e w2 ⟨rfl, b⟩
  obtain ⟨W2, hW, P, Q⟩ := civ6_next P1.out b y' m' d' h' i' s' 34
  have H2 := Lib.hid hW
  have P2 := Lib.hid P
  have Q2 := Lib.hid Q
  clear hW P Q b
  go_wp2_with fail
  rw [← H2.out]
  refine (C.out _ (L.below P2.out.bel)).mono ?_
  rintro e w3 ⟨rfl, b⟩
  have P3 := Lib.hid (P2.out.below b)
  have Q3 := Lib.hid (Q2.out.below b)
  clear b
  go_wp2_with fail
  refine (D.out _ (L.below P3.out.bel)).mono ?_
  rintro e w4 ⟨rfl, b⟩
  have P4 := Lib.hid (P3.out.below b)
  have Q4 := Lib.hid (Q3.out.below b)
  clear b
  go_wp2_with fail
  refine (works_any _ (L.below P4.out.bel)).mono ?_
  rintro e w5 ⟨rfl, b⟩
  go_wp2_with fail
  go_ret
  exact ⟨rfl, P4.out.bel.trans (b.mono P4.out.bel.size)⟩

set_option maxRecDepth 100000 in
theorem no_xo (t u y m d h i s y' m' d' h' i' s' : Int) (S T : ByteArray) (w : World) (L : Lay w)
    (A : Hid (∀ w, Lay w → Calls Tryd.prog 24 #[.int .i64 t] w fun e w' => e = .returned (.tuple #[.agg #[.int .i64 y, .int .i64 m, .int .i64 d, .int .i64 h, .int .i64 i, .int .i64 s], .int .i64 14]) ∧ Below w.heap.size w w'))
    (B : Hid (∀ w, Lay w → Calls Tryd.prog 24 #[.int .i64 u] w fun e w' => e = .returned (.tuple #[.agg #[.int .i64 y', .int .i64 m', .int .i64 d', .int .i64 h', .int .i64 i', .int .i64 s'], .int .i64 0]) ∧ Below w.heap.size w w'))
    (C : Hid (∀ w, Lay w → Calls Tryd.prog 28 #[.int .i64 t] w fun e w' => e = .returned (.tuple #[.string S, .int .i64 14]) ∧ Below w.heap.size w w'))
    (D : Hid (∀ w, Lay w → Calls Tryd.prog 28 #[.int .i64 u] w fun e w' => e = .returned (.tuple #[.string T, .int .i64 0]) ∧ Below w.heap.size w w')) :
    Calls Tryd.prog 9 #[.int .i64 t, .int .i64 u] w fun e w' => e = .returned (.bool true) ∧ Below w.heap.size w w' := by
  go_enter Tryd.func9, Tryd.ntmps9
  go_wp2_with fail
  refine (A.out _ L).mono ?_
  rintro e w1 ⟨rfl, b⟩
  obtain ⟨W1, hW, P⟩ := civ6_start w w1 b y m d h i s 34
  have H1 := Lib.hid hW
  have P1 := Lib.hid P
  clear hW P b
  go_wp2_with fail
  rw [← H1.out]
  refine (B.out _ (L.below P1.out.bel)).mono ?_
  rintro e w2 ⟨rfl, b⟩
  obtain ⟨W2, hW, P, Q⟩ := civ6_next P1.out b y' m' d' h' i' s' 34
  have H2 := Lib.hid hW
  have P2 := Lib.hid P
  have Q2 := Lib.hid Q
  clear hW P Q b
  go_wp2_with fail
  rw [← H2.out]
  refine (C.out _ (L.below P2.out.bel)).mono ?_
  rintro e w3 ⟨rfl, b⟩
  have P3 := Lib.hid (P2.out.below b)
  have Q3 := Lib.hid (Q2.out.below b)
  clear b
  go_wp2_with fail
  refine (D.out _ (L.below P3.out.bel)).mono ?_
  rintro e w4 ⟨rfl, b⟩
  have P4 := Lib.hid (P3.out.below b)
  have Q4 := Lib.hid (Q3.out.below b)
  clear b
  go_wp2_with fail
  refine (works_any _ (L.below P4.out.bel)).mono ?_
  rintro e w5 ⟨rfl, b⟩
  go_wp2_with fail
  go_ret
  exact ⟨rfl, P4.out.bel.trans (b.mono P4.out.bel.size)⟩

set_option maxRecDepth 100000 in
theorem no_ox (t u y m d h i s y' m' d' h' i' s' : Int) (S T : ByteArray) (w : World) (L : Lay w)
    (A : Hid (∀ w, Lay w → Calls Tryd.prog 24 #[.int .i64 t] w fun e w' => e = .returned (.tuple #[.agg #[.int .i64 y, .int .i64 m, .int .i64 d, .int .i64 h, .int .i64 i, .int .i64 s], .int .i64 0]) ∧ Below w.heap.size w w'))
    (B : Hid (∀ w, Lay w → Calls Tryd.prog 24 #[.int .i64 u] w fun e w' => e = .returned (.tuple #[.agg #[.int .i64 y', .int .i64 m', .int .i64 d', .int .i64 h', .int .i64 i', .int .i64 s'], .int .i64 14]) ∧ Below w.heap.size w w'))
    (C : Hid (∀ w, Lay w → Calls Tryd.prog 28 #[.int .i64 t] w fun e w' => e = .returned (.tuple #[.string S, .int .i64 0]) ∧ Below w.heap.size w w'))
    (D : Hid (∀ w, Lay w → Calls Tryd.prog 28 #[.int .i64 u] w fun e w' => e = .returned (.tuple #[.string T, .int .i64 14]) ∧ Below w.heap.size w w')) :
    Calls Tryd.prog 9 #[.int .i64 t, .int .i64 u] w fun e w' => e = .returned (.bool true) ∧ Below w.heap.size w w' := by
  go_enter Tryd.func9, Tryd.ntmps9
  go_wp2_with fail
  refine (A.out _ L).mono ?_
  rintro e w1 ⟨rfl, b⟩
  obtain ⟨W1, hW, P⟩ := civ6_start w w1 b y m d h i s 34
  have H1 := Lib.hid hW
  have P1 := Lib.hid P
  clear hW P b
  go_wp2_with fail
  rw [← H1.out]
  refine (B.out _ (L.below P1.out.bel)).mono ?_
  rintro e w2 ⟨rfl, b⟩
  obtain ⟨W2, hW, P, Q⟩ := civ6_next P1.out b y' m' d' h' i' s' 34
  have H2 := Lib.hid hW
  have P2 := Lib.hid P
  have Q2 := Lib.hid Q
  clear hW P Q b
  go_wp2_with fail
  rw [← H2.out]
  refine (C.out _ (L.below P2.out.bel)).mono ?_
  rintro e w3 ⟨rfl, b⟩
  have P3 := Lib.hid (P2.out.below b)
  have Q3 := Lib.hid (Q2.out.below b)
  clear b
  go_wp2_with fail
  refine (D.out _ (L.below P3.out.bel)).mono ?_
  rintro e w4 ⟨rfl, b⟩
  have P4 := Lib.hid (P3.out.below b)
  have Q4 := Lib.hid (Q3.out.below b)
  clear b
  go_wp2_with fail
  refine (works_any _ (L.below P4.out.bel)).mono ?_
  rintro e w5 ⟨rfl, b⟩
  go_wp2_with fail
  go_ret
  exact ⟨rfl, P4.out.bel.trans (b.mono P4.out.bel.size)⟩

set_option maxRecDepth 100000 in
theorem yes_lt (t u y m d h i s y' m' d' h' i' s' : Int) (S T : ByteArray) (w : World) (L : Lay w) (lt : t < u) (l1 : Op.bytesLess S.toList T.toList = true)
    (A : Hid (∀ w, Lay w → Calls Tryd.prog 24 #[.int .i64 t] w fun e w' => e = .returned (.tuple #[.agg #[.int .i64 y, .int .i64 m, .int .i64 d, .int .i64 h, .int .i64 i, .int .i64 s], .int .i64 0]) ∧ Below w.heap.size w w'))
    (B : Hid (∀ w, Lay w → Calls Tryd.prog 24 #[.int .i64 u] w fun e w' => e = .returned (.tuple #[.agg #[.int .i64 y', .int .i64 m', .int .i64 d', .int .i64 h', .int .i64 i', .int .i64 s'], .int .i64 0]) ∧ Below w.heap.size w w'))
    (C : Hid (∀ w, Lay w → Calls Tryd.prog 28 #[.int .i64 t] w fun e w' => e = .returned (.tuple #[.string S, .int .i64 0]) ∧ Below w.heap.size w w'))
    (D : Hid (∀ w, Lay w → Calls Tryd.prog 28 #[.int .i64 u] w fun e w' => e = .returned (.tuple #[.string T, .int .i64 0]) ∧ Below w.heap.size w w'))
    (O : Hid (ordI y m d h i s y' m' d' h' i' s' = -1)) :
    Calls Tryd.prog 9 #[.int .i64 t, .int .i64 u] w fun e w' => e = .returned (.bool true) ∧ Below w.heap.size w w' := by
  go_enter Tryd.func9, Tryd.ntmps9
  go_wp2_with fail
  refine (A.out _ L).mono ?_
  rintro e w1 ⟨rfl, b⟩
  obtain ⟨W1, hW, P⟩ := civ6_start w w1 b y m d h i s 34
  have H1 := Lib.hid hW
  have P1 := Lib.hid P
  clear hW P b
  go_wp2_with fail
  rw [← H1.out]
  refine (B.out _ (L.below P1.out.bel)).mono ?_
  rintro e w2 ⟨rfl, b⟩
  obtain ⟨W2, hW, P, Q⟩ := civ6_next P1.out b y' m' d' h' i' s' 34
  have H2 := Lib.hid hW
  have P2 := Lib.hid P
  have Q2 := Lib.hid Q
  clear hW P Q b
  go_wp2_with fail
  rw [← H2.out]
  refine (C.out _ (L.below P2.out.bel)).mono ?_
  rintro e w3 ⟨rfl, b⟩
  have P3 := Lib.hid (P2.out.below b)
  have Q3 := Lib.hid (Q2.out.below b)
  clear b
  go_wp2_with fail
  refine (D.out _ (L.below P3.out.bel)).mono ?_
  rintro e w4 ⟨rfl, b⟩
  have P4 := Lib.hid (P3.out.below b)
  have Q4 := Lib.hid (Q3.out.below b)
  clear b
  have p0 := P4.out.g0
  have p1 := P4.out.g1
  have p2 := P4.out.g2
  have p3 := P4.out.g3
  have p4 := P4.out.g4
  have p5 := P4.out.g5
  have q0 := Q4.out.g0
  have q1 := Q4.out.g1
  have q2 := Q4.out.g2
  have q3 := Q4.out.g3
  have q4 := Q4.out.g4
  have q5 := Q4.out.g5
  go_wp2_with fail
  refine (order_any _ _ _ _ _ _ _ _ _ _ _ _ _).mono ?_
  rintro e w6 ⟨he, b⟩
  rw [O.out] at he
  subst he
  have P5 := Lib.hid (P4.out.below b)
  clear b p0 p1 p2 p3 p4 p5 q0 q1 q2 q3 q4 q5
  go_wp2_with fail
  refine (works_any _ (L.below P5.out.bel)).mono ?_
  rintro e w5 ⟨rfl, b⟩
  go_wp2_with fail
  go_ret
  exact ⟨rfl, P5.out.bel.trans (b.mono P5.out.bel.size)⟩

set_option maxRecDepth 100000 in
theorem yes_gt (t u y m d h i s y' m' d' h' i' s' : Int) (S T : ByteArray) (w : World) (L : Lay w) (gt : u < t) (l1 : Op.bytesLess S.toList T.toList = false) (l2 : (S.toList == T.toList) = false)
    (A : Hid (∀ w, Lay w → Calls Tryd.prog 24 #[.int .i64 t] w fun e w' => e = .returned (.tuple #[.agg #[.int .i64 y, .int .i64 m, .int .i64 d, .int .i64 h, .int .i64 i, .int .i64 s], .int .i64 0]) ∧ Below w.heap.size w w'))
    (B : Hid (∀ w, Lay w → Calls Tryd.prog 24 #[.int .i64 u] w fun e w' => e = .returned (.tuple #[.agg #[.int .i64 y', .int .i64 m', .int .i64 d', .int .i64 h', .int .i64 i', .int .i64 s'], .int .i64 0]) ∧ Below w.heap.size w w'))
    (C : Hid (∀ w, Lay w → Calls Tryd.prog 28 #[.int .i64 t] w fun e w' => e = .returned (.tuple #[.string S, .int .i64 0]) ∧ Below w.heap.size w w'))
    (D : Hid (∀ w, Lay w → Calls Tryd.prog 28 #[.int .i64 u] w fun e w' => e = .returned (.tuple #[.string T, .int .i64 0]) ∧ Below w.heap.size w w'))
    (O : Hid (ordI y m d h i s y' m' d' h' i' s' = 1)) :
    Calls Tryd.prog 9 #[.int .i64 t, .int .i64 u] w fun e w' => e = .returned (.bool true) ∧ Below w.heap.size w w' := by
  have nlt : decide (t < u) = false := by simp; omega
  go_enter Tryd.func9, Tryd.ntmps9
  go_wp2_with fail
  refine (A.out _ L).mono ?_
  rintro e w1 ⟨rfl, b⟩
  obtain ⟨W1, hW, P⟩ := civ6_start w w1 b y m d h i s 34
  have H1 := Lib.hid hW
  have P1 := Lib.hid P
  clear hW P b
  go_wp2_with fail
  rw [← H1.out]
  refine (B.out _ (L.below P1.out.bel)).mono ?_
  rintro e w2 ⟨rfl, b⟩
  obtain ⟨W2, hW, P, Q⟩ := civ6_next P1.out b y' m' d' h' i' s' 34
  have H2 := Lib.hid hW
  have P2 := Lib.hid P
  have Q2 := Lib.hid Q
  clear hW P Q b
  go_wp2_with fail
  rw [← H2.out]
  refine (C.out _ (L.below P2.out.bel)).mono ?_
  rintro e w3 ⟨rfl, b⟩
  have P3 := Lib.hid (P2.out.below b)
  have Q3 := Lib.hid (Q2.out.below b)
  clear b
  go_wp2_with fail
  refine (D.out _ (L.below P3.out.bel)).mono ?_
  rintro e w4 ⟨rfl, b⟩
  have P4 := Lib.hid (P3.out.below b)
  have Q4 := Lib.hid (Q3.out.below b)
  clear b
  have p0 := P4.out.g0
  have p1 := P4.out.g1
  have p2 := P4.out.g2
  have p3 := P4.out.g3
  have p4 := P4.out.g4
  have p5 := P4.out.g5
  have q0 := Q4.out.g0
  have q1 := Q4.out.g1
  have q2 := Q4.out.g2
  have q3 := Q4.out.g3
  have q4 := Q4.out.g4
  have q5 := Q4.out.g5
  go_wp2_with fail
  refine (order_any _ _ _ _ _ _ _ _ _ _ _ _ _).mono ?_
  rintro e w6 ⟨he, b⟩
  rw [O.out] at he
  subst he
  have P5 := Lib.hid (P4.out.below b)
  clear b p0 p1 p2 p3 p4 p5 q0 q1 q2 q3 q4 q5
  go_wp2_with fail
  refine (works_any _ (L.below P5.out.bel)).mono ?_
  rintro e w5 ⟨rfl, b⟩
  go_wp2_with fail
  go_ret
  exact ⟨rfl, P5.out.bel.trans (b.mono P5.out.bel.size)⟩

set_option maxRecDepth 100000 in
theorem yes_eq (t y m d h i s : Int) (S : ByteArray) (w : World) (L : Lay w)
    (A : Hid (∀ w, Lay w → Calls Tryd.prog 24 #[.int .i64 t] w fun e w' => e = .returned (.tuple #[.agg #[.int .i64 y, .int .i64 m, .int .i64 d, .int .i64 h, .int .i64 i, .int .i64 s], .int .i64 0]) ∧ Below w.heap.size w w'))
    (C : Hid (∀ w, Lay w → Calls Tryd.prog 28 #[.int .i64 t] w fun e w' => e = .returned (.tuple #[.string S, .int .i64 0]) ∧ Below w.heap.size w w')) :
    Calls Tryd.prog 9 #[.int .i64 t, .int .i64 t] w fun e w' => e = .returned (.bool true) ∧ Below w.heap.size w w' := by
  have O := Lib.hid (ordI_lex y m d h i s y m d h i s)
  have nlt : decide (t < t) = false := by simp
  have B := A
  have D := C
  go_enter Tryd.func9, Tryd.ntmps9
  go_wp2_with fail
  refine (A.out _ L).mono ?_
  rintro e w1 ⟨rfl, b⟩
  obtain ⟨W1, hW, P⟩ := civ6_start w w1 b y m d h i s 34
  have H1 := Lib.hid hW
  have P1 := Lib.hid P
  clear hW P b
  go_wp2_with fail
  rw [← H1.out]
  refine (B.out _ (L.below P1.out.bel)).mono ?_
  rintro e w2 ⟨rfl, b⟩
  obtain ⟨W2, hW, P, Q⟩ := civ6_next P1.out b y m d h i s 34
  have H2 := Lib.hid hW
  have P2 := Lib.hid P
  have Q2 := Lib.hid Q
  clear hW P Q b
  go_wp2_with fail
  rw [← H2.out]
  refine (C.out _ (L.below P2.out.bel)).mono ?_
  rintro e w3 ⟨rfl, b⟩
  have P3 := Lib.hid (P2.out.below b)
  have Q3 := Lib.hid (Q2.out.below b)
  clear b
  go_wp2_with fail
  refine (D.out _ (L.below P3.out.bel)).mono ?_
  rintro e w4 ⟨rfl, b⟩
  have P4 := Lib.hid (P3.out.below b)
  have Q4 := Lib.hid (Q3.out.below b)
  clear b
  have p0 := P4.out.g0
  have p1 := P4.out.g1
  have p2 := P4.out.g2
  have p3 := P4.out.g3
  have p4 := P4.out.g4
  have p5 := P4.out.g5
  have q0 := Q4.out.g0
  have q1 := Q4.out.g1
  have q2 := Q4.out.g2
  have q3 := Q4.out.g3
  have q4 := Q4.out.g4
  have q5 := Q4.out.g5
  go_wp2_with fail
  refine (order_any _ _ _ _ _ _ _ _ _ _ _ _ _).mono ?_
  rintro e w6 ⟨he, b⟩
  rw [O.out, lex_refl] at he
  subst he
  have P5 := Lib.hid (P4.out.below b)
  clear b p0 p1 p2 p3 p4 p5 q0 q1 q2 q3 q4 q5
  go_wp2_with fail
  refine (works_any _ (L.below P5.out.bel)).mono ?_
  rintro e w5 ⟨rfl, b⟩
  go_wp2_with fail
  go_ret
  exact ⟨rfl, P5.out.bel.trans (b.mono P5.out.bel.size)⟩

/-- the text and the civil time of a number: both with an error, or both without -/
theorem kinds (t : Int) : (∃ y m d h i s : Int, ∃ S : ByteArray, (∀ w, Lay w → Calls Tryd.prog 24 #[.int .i64 t] w fun e w' => e = .returned (.tuple #[.agg #[.int .i64 y, .int .i64 m, .int .i64 d, .int .i64 h, .int .i64 i, .int .i64 s], .int .i64 14]) ∧ Below w.heap.size w w') ∧
      (∀ w, Lay w → Calls Tryd.prog 28 #[.int .i64 t] w fun e w' => e = .returned (.tuple #[.string S, .int .i64 14]) ∧ Below w.heap.size w w')) ∨
    ∃ y m d h i s : Int, Civ.CVld y m d h i s ∧ Civ.secs y m d h i s = t := by
  by_cases c : t < 0 ∨ 253402300799 < t
  · exact .inl ⟨_, _, _, _, _, _, _, fun w _ => of_no t w c, fun w _ => text_no t w c⟩
  · exact .inr (Civ.civil_ex t (by omega) (by omega))

theorem walk (t u : Int) (w : World) (L : Lay w) (_ : (Lit.int .i64 t).wf = true) (_ : (Lit.int .i64 u).wf = true) :
    Calls Tryd.prog 9 #[.int .i64 t, .int .i64 u] w fun e w' => e = .returned (.bool true) ∧ Below w.heap.size w w' := by
  rcases kinds t with ⟨_, _, _, _, _, _, _, A, C⟩ | ⟨y, m, d, h, i, s, v, ht⟩
  · rcases kinds u with ⟨_, _, _, _, _, _, _, B, D⟩ | ⟨y', m', d', h', i', s', v', hu⟩
    · exact no_xx t u _ _ _ _ _ _ _ _ _ _ _ _ _ _ w L (Lib.hid A) (Lib.hid B) (Lib.hid C) (Lib.hid D)
    · exact no_xo t u _ _ _ _ _ _ _ _ _ _ _ _ _ _ w L (Lib.hid A) (Lib.hid (fun w L => of_yes y' m' d' h' i' s' u w L v' hu)) (Lib.hid C) (Lib.hid (fun w L => text_yes y' m' d' h' i' s' u w L v' hu))
  · have A := Lib.hid (fun w L => of_yes y m d h i s t w L v ht)
    have C := Lib.hid (fun w L => text_yes y m d h i s t w L v ht)
    rcases kinds u with ⟨_, _, _, _, _, _, _, B, D⟩ | ⟨y', m', d', h', i', s', v', hu⟩
    · exact no_ox t u _ _ _ _ _ _ _ _ _ _ _ _ _ _ w L A (Lib.hid B) C (Lib.hid D)
    · have B := Lib.hid (fun w L => of_yes y' m' d' h' i' s' u w L v' hu)
      have D := Lib.hid (fun w L => text_yes y' m' d' h' i' s' u w L v' hu)
      by_cases lt : t < u
      · have b := Civ.civil_lt v v' (by omega)
        exact yes_lt t u _ _ _ _ _ _ _ _ _ _ _ _ _ _ w L lt (text_less v v' b) A B C D (Lib.hid (ord_before b))
      · by_cases gt : u < t
        · have b := Civ.civil_lt v' v (by omega)
          obtain ⟨l1, l2⟩ := less_asym _ _ (text_less v' v b)
          exact yes_gt t u _ _ _ _ _ _ _ _ _ _ _ _ _ _ w L gt l1 l2 A B C D (Lib.hid (ord_behind b))
        · obtain rfl : t = u := by omega
          exact yes_eq t y m d h i s _ w L A C

theorem listed : Rows.civilGrowsRow.laid.find? isLengths = some (((Rows.civilGrowsRow.laid.find? isLengths).map (·.1)).getD "", Rows.laid_wakeman_civil_lengths) := by kernel_rfl

set_option maxRecDepth 100000 in
theorem lifted (os : Os) (started : os.Started) (H : Type) (enc : TypeId × Value → H) :
    ReturnsInHanded {} Tryd.checked os 9 .any (fun w args => (Rows.civilGrowsSpec.pre enc Tryd.prog Tryd.f9 [] false w args ∧ laidMetH Tryd.prog Rows.civilGrowsRow.laid w) ∧ sizedMet enc Tryd.prog Tryd.f9 (OpenSpec.ofChange Rows.civilGrowsSpec) false w args)
      (Rows.civilGrowsSpec.post enc Tryd.prog Tryd.f9 false true false false) := by
  refine returnsInHanded_of_change_and (C := Tryd.checked) (X := fun w _ => laidMetH Tryd.prog Rows.civilGrowsRow.laid w) (fun _ _ _ hh h => h.of_heap hh) own started (by kernel_rfl) Tryd.func9
    (ChangeSpec.witness_shaped (enc := enc) (C := Tryd.checked) (os := os) (X := fun w _ => laidMetH Tryd.prog Rows.civilGrowsRow.laid w) false (World.doorLaid Tryd.prog 400 os) #[.int .i64 0, .int .i64 0] 8 rfl (shaped0 os _) (by kernel_rfl) (by kernel_rfl) (by kernel_rfl) (door_met os _)) ?_
  intro W base args ds gs before hval0 hW _ _ hL _
  have hval : ∀ (j : Nat) t v, Tryd.f9.params[j]? = some t → args[j]? = some v → Value.okWide Tryd.prog W .any base t v := hval0
  have hW' := hW
  obtain ⟨p, q, hA0, hV, rfl, hfz, hnd⟩ := hW
  have hA : DataW.TrodAll enc Tryd.prog W 0 (fun _ => true) true Tryd.f9.params.toList args.toList ds p := hA0
  rw [Tryd.params9] at hA hval
  obtain ⟨v0, vs0, d0, ds0, p0, q0, hargs, rfl, rfl, h0, r0⟩ := trodAll_cons hA
  obtain ⟨v1, vs1, d1, ds1, p1, q1, rfl, rfl, rfl, h1, r1⟩ := trodAll_cons r0
  obtain ⟨rfl, rfl, rfl⟩ := trodAll_nil r1
  obtain rfl : args = #[v0, v1] := by cases args; simp_all
  obtain ⟨rfl, rfl⟩ := trodVars_none hV
  obtain ⟨a0, rfl, rfl, rfl, w0⟩ := open_int Tryd.underlying2 (hval 0 2 v0 rfl rfl) h0
  obtain ⟨a1, rfl, rfl, rfl, w1⟩ := open_int Tryd.underlying2 (hval 1 2 v1 rfl rfl) h1
  clear hA0 hval0
  refine (walk a0 a1 W (lay_of _ W (by kernel_rfl) _ listed hL) w0 w1).mono fun e W' ⟨he, bel⟩ => ?_
  subst he
  exact ⟨_, rfl, _, _, _, [], _, [], hW', trodAll_mk1 (shut_bool Tryd.underlying4 _), (trodAll_cons_mk (shut_int Tryd.underlying2 w0) (trodAll_cons_mk (shut_int Tryd.underlying2 w1) trodAll_mk0)), rfl, bel.frame _, fun h => by cases h⟩

theorem row_holds : Rows.CivilGrowsSaid :=
  OpenClaim.holds_of_wide 9 Tryd.f9 rfl rfl rfl rfl rfl rfl rfl ⟨rfl, rfl, rfl, rfl, rfl⟩ rfl rfl rfl rfl rfl (by kernel_rfl) Tryd.func9 (by kernel_rfl)
    (of_decide_eq_true (by kernel_rfl)) (by unfold Func.isWrapper; first | (rw [if_pos (by decide +kernel)]; kernel_rfl) | (rw [if_neg (by decide +kernel)]; exact ⟨rfl, rfl⟩))
    (fun os started H enc _ => lifted os started H enc)

theorem proved : Rows.CivilGrowsCardSaid :=
  Claim7.holds_tied_plain_at .later [] Rows.civilGrowsCard.laidKinds true Rows.civilGrowsCard.stood.harness Rows.civilGrowsCard.stood.looks
    row_holds (fun _ h => by cases h) (by kernel_rfl) (fun _ h => by cases h) civilGrows_row_tie rfl ⟨rfl, rfl⟩ (by kernel_rfl) rfl
    (fun f fn hf hfn => by
      obtain rfl : f = 9 := Option.some.inj ((show Tryd.prog.funcNamed Rows.civilGrowsRow.func = some 9 by kernel_rfl).symm.trans hf) |>.symm
      obtain rfl : fn = Tryd.f9 := (Option.some.inj (Tryd.func9.symm.trans hfn)).symm
      exact ⟨looks0, fun j t ht => by
        rw [Tryd.params9] at ht
        have hm : t ∈ [2] := by simpa using Array.mem_of_getElem? ht
        have hall : ([2].all fun u => !Tryd.prog.wantsStandIn u) = true := by kernel_rfl
        exact (show Tryd.prog.wantsStandIn t = false by simpa using List.all_eq_true.1 hall t hm)⟩)
    (by kernel_rfl)
end Go.Proofs.YtjffnjoeeclckaaDoor.civilGrows
