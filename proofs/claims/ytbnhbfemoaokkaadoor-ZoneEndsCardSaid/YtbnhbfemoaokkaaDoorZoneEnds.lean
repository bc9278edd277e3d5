/- ZoneEnds returns true: the examples of the chapter, the first and the last local times, and errors in their order. Condition: the package-level tables start as the program's text lays them (tied). -/
import Derived.Test.YtbnhbfemoaokkaaDoorZonDoor
import Derived.Test.YtbnhbfemoaokkaaDoorZonK
namespace Go.Proofs.YtbnhbfemoaokkaaDoor.zoneEnds
open Go.ChangeShapes Go.WideShapes Go.ChangeAt Go.RowKit

/-- a time, a zone, the errors of Local and Midnight, row by row -/
def tbl : List Int := [0, 840, 0, 14, 0, -1, 14, 14, 60, -1, 0, 0, 59, -1, 14, 14, 253402300799, 0, 0, 0, 253402300799, 1, 14, 14, 253402300739, 1, 0, 0, 253402300799, -840, 0, 0, -1, 841, 2, 2, -1, 0, 14, 14,
  253402300800, -840, 14, 14, -9223372036854775808, -840, 14, 14, 9223372036854775807, 840, 14, 14, 0, 9223372036854775807, 2, 2]
/-- what the calls of a row answer -/
def RowOk (t z e f : Int) : Prop := ∃ (y m d h i s v u : Int) (o : Bool) (g : Int),
  (∀ w, Lay w → Calls Tryd.prog 20 #[.int .i64 t, .int .i64 z] w fun e' w' => e' = .returned (.tuple #[.agg #[.int .i64 y, .int .i64 m, .int .i64 d, .int .i64 h, .int .i64 i, .int .i64 s], .int .i64 e]) ∧ Below w.heap.size w w') ∧
  (∀ w, Lay w → Calls Tryd.prog 22 #[.int .i64 t, .int .i64 z] w fun e' w' => e' = .returned (.tuple #[.int .i64 v, .int .i64 f]) ∧ Below w.heap.size w w') ∧
  (∀ w, Calls Tryd.prog 24 #[.int .i64 t, .int .i64 z] w fun e' w' => e' = .returned (.tuple #[.int .i64 u, .int .i64 e]) ∧ w = w') ∧
  (∀ w, Lay w → Calls Tryd.prog 28 #[.int .i64 t, .int .i64 0, .int .i64 z] w fun e' w' => e' = .returned (.tuple #[.bool o, .int .i64 g]) ∧ Below w.heap.size w w') ∧
  ((e != 0) = false ∨ ((e != 0) = true ∧ g = e))
theorem row_no {t z r : Int} (n : NoLoc t z r) : RowOk t z r r := by
  refine ⟨0, 0, 0, 0, 0, 0, 0, 0, false, r, fun w _ => n.local w, fun w _ => n.mid w, ?_, fun w _ => same_no n w, .inr ⟨by rw [bne_iff_ne]; exact n.ne, rfl⟩⟩
  rcases n with ⟨c, rfl⟩ | ⟨a, b, c, rfl⟩
  · exact fun w => weekz_no t z w c
  · exact fun w => weekz_t t z w a b c
theorem row_ok {t z f : Int} (z0 : -840 ≤ z) (z1 : z ≤ 840) (t0 : 0 ≤ t) (t1 : t ≤ 253402300799) (u0 : 0 ≤ t + 60 * z) (u1 : t + 60 * z ≤ 253402300799)
    (o : (t - (t + 60 * z) % 86400 < 0 ∧ f = 14) ∨ (0 ≤ t - (t + 60 * z) % 86400 ∧ f = 0)) : RowOk t z 0 f := by
  obtain ⟨y, m, d, h, i, s, v, hs⟩ := Civ.civil_ex (t + 60 * z) u0 u1
  have n : IsLoc t z y m d h i s := ⟨z0, z1, t0, t1, v, hs⟩
  obtain ⟨v, r, M⟩ := midR_ex t z
  obtain rfl : r = f := by rcases M with ⟨_, _, _⟩ | ⟨_, _, _⟩ <;> rcases o with ⟨_, _⟩ | ⟨_, _⟩ <;> omega
  obtain ⟨b, g, S, _⟩ := same_both t 0 z
  exact ⟨y, m, d, h, i, s, v, _, b, g, fun w L => n.local w L, fun w L => n.mid M w L, fun w => weekz_yes t z w z0 z1 t0 t1 u0 u1, S, .inl rfl⟩
theorem rows (k : Nat) (hk : k < 14) : RowOk (tbl.getD (k * 4) 0) (tbl.getD (k * 4 + 1) 0) (tbl.getD (k * 4 + 2) 0) (tbl.getD (k * 4 + 3) 0) := by
  have : k = 0 ∨ k = 1 ∨ k = 2 ∨ k = 3 ∨ k = 4 ∨ k = 5 ∨ k = 6 ∨ k = 7 ∨ k = 8 ∨ k = 9 ∨ k = 10 ∨ k = 11 ∨ k = 12 ∨ k = 13 := by omega
  rcases this with rfl | rfl | rfl | rfl | rfl | rfl | rfl | rfl | rfl | rfl | rfl | rfl | rfl | rfl
  · exact row_ok (t := 0) (z := 840) (f := 14) (by decide) (by decide) (by decide) (by decide) (by decide) (by decide) (by decide)
  · exact row_no (t := 0) (z := -1) (r := 14) (by unfold NoLoc; decide)
  · exact row_ok (t := 60) (z := -1) (f := 0) (by decide) (by decide) (by decide) (by decide) (by decide) (by decide) (by decide)
  · exact row_no (t := 59) (z := -1) (r := 14) (by unfold NoLoc; decide)
  · exact row_ok (t := 253402300799) (z := 0) (f := 0) (by decide) (by decide) (by decide) (by decide) (by decide) (by decide) (by decide)
  · exact row_no (t := 253402300799) (z := 1) (r := 14) (by unfold NoLoc; decide)
  · exact row_ok (t := 253402300739) (z := 1) (f := 0) (by decide) (by decide) (by decide) (by decide) (by decide) (by decide) (by decide)
  · exact row_ok (t := 253402300799) (z := -840) (f := 0) (by decide) (by decide) (by decide) (by decide) (by decide) (by decide) (by decide)
  · exact row_no (t := -1) (z := 841) (r := 2) (by unfold NoLoc; decide)
  · exact row_no (t := -1) (z := 0) (r := 14) (by unfold NoLoc; decide)
  · exact row_no (t := 253402300800) (z := -840) (r := 14) (by unfold NoLoc; decide)
  · exact row_no (t := -9223372036854775808) (z := -840) (r := 14) (by unfold NoLoc; decide)
  · exact row_no (t := 9223372036854775807) (z := 840) (r := 14) (by unfold NoLoc; decide)
  · exact row_no (t := 0) (z := 9223372036854775807) (r := 2) (by unfold NoLoc; decide)

/-- the table in its block -/
structure Tab (w W : World) : Prop where
  bel : Below w.heap.size w W
  lt : w.heap.size < W.heap.size
  cell : ∀ j, j < 56 → W.cell? ⟨w.heap.size, j, none⟩ = some (.int .i64 (tbl.getD j 0))
theorem Tab.below {w W W' : World} (T : Tab w W) (b : Below W.heap.size W W') : Tab w W' :=
  ⟨T.bel.trans (b.mono T.bel.size), Nat.lt_of_lt_of_le T.lt b.size, fun j hj => (b.cell (p := ⟨w.heap.size, j, none⟩) T.lt).trans (T.cell j hj)⟩
theorem tab_start (w : World) (C : Array Value) (t : TypeId) (hC : C = (tbl.map fun n => Value.int .i64 n).toArray) : Tab w (w.alloc (.cells C t)) := by
  subst hC
  refine ⟨(Below.refl _ _).alloc (Nat.le_refl _) _, by simp, fun j hj => ?_⟩
  rw [World.cell?_alloc_mark]
  have hl : j < tbl.length := hj
  simp [List.getD, hl]
/-- a row in its block, and the table -/
structure Four (w W : World) (B : Nat) (t z e f : Int) : Prop where
  tab : Tab w W
  hB : B < W.heap.size
  g0 : W.cell? ⟨B, 0, none⟩ = some (.int .i64 t)
  g1 : W.cell? ⟨B, 1, none⟩ = some (.int .i64 z)
  g2 : W.cell? ⟨B, 2, none⟩ = some (.int .i64 e)
  g3 : W.cell? ⟨B, 3, none⟩ = some (.int .i64 f)
theorem Four.below {w W W' : World} {B : Nat} {t z e f : Int} (A : Four w W B t z e f) (b : Below W.heap.size W W') : Four w W' B t z e f where
  tab := A.tab.below b
  hB := Nat.lt_of_lt_of_le A.hB b.size
  g0 := (b.cell (p := ⟨B, 0, none⟩) A.hB).trans A.g0
  g1 := (b.cell (p := ⟨B, 1, none⟩) A.hB).trans A.g1
  g2 := (b.cell (p := ⟨B, 2, none⟩) A.hB).trans A.g2
  g3 := (b.cell (p := ⟨B, 3, none⟩) A.hB).trans A.g3
theorem four_alloc {w W : World} (T : Tab w W) (t z e f : Int) (ty : TypeId) : Four w (W.alloc (.cells #[.int .i64 t, .int .i64 z, .int .i64 e, .int .i64 f] ty)) W.heap.size t z e f := by
  refine ⟨T.below ((Below.refl _ _).alloc (Nat.le_refl _) _), by simp, ?_, ?_, ?_, ?_⟩ <;> simp [go_sem]
theorem bel_alloc (W : World) (o : Obj) : Below W.heap.size W (W.alloc o) := (Below.refl _ _).alloc (Nat.le_refl _) _

/-- texts of no zone -/
def stl : List ByteArray := [⟨#[]⟩, ⟨#[45, 48, 48, 58, 48, 48]⟩, ⟨#[43, 53, 58, 51, 48]⟩, ⟨#[43, 49, 52, 58, 48, 49]⟩, ⟨#[43, 49, 53, 58, 48, 48]⟩, ⟨#[43, 48, 53, 58, 54, 48]⟩, ⟨#[48, 53, 58, 51, 48]⟩, ⟨#[43, 48, 53, 51, 48]⟩,
  ⟨#[32, 43, 48, 53, 58, 51, 48]⟩, ⟨#[43, 48, 53, 58, 51, 48, 32]⟩, ⟨#[43, 48, 53, 45, 51, 48]⟩, ⟨#[43, 48, 53, 58, 51, 97]⟩, ⟨#[43, 50, 52, 58, 48, 48]⟩]
def Bad (s : ByteArray) : Prop := ∀ w, Calls Tryd.prog 16 #[.string s] w fun e w' => e = .returned (.tuple #[.int .i64 0, .int .i64 10]) ∧ Below w.heap.size w w'
theorem bad_near (x0 x1 x2 x3 x4 x5 : UInt8) (n s a b c d : Int) (hn : Zon.rd (bt x0) (bt x1) (bt x2) (bt x4) (bt x5) = n) (n0 : -840 ≤ n) (n1 : n ≤ 840) (h : ZT n s a b c d)
    (o : same6 s a b 58 c d (bt x0) (bt x1) (bt x2) (bt x3) (bt x4) (bt x5) = false) : Bad (six x0 x1 x2 x3 x4 x5) := fun w => parse_near x0 x1 x2 x3 x4 x5 n s a b c d 0 10 w hn n0 n1 h (.inr ⟨o, rfl, rfl⟩)
theorem bads (k : Nat) (hk : k < 13) : Bad (stl.getD k ⟨#[]⟩) := by
  have : k = 0 ∨ k = 1 ∨ k = 2 ∨ k = 3 ∨ k = 4 ∨ k = 5 ∨ k = 6 ∨ k = 7 ∨ k = 8 ∨ k = 9 ∨ k = 10 ∨ k = 11 ∨ k = 12 := by omega
  rcases this with rfl | rfl | rfl | rfl | rfl | rfl | rfl | rfl | rfl | rfl | rfl | rfl | rfl
  · exact fun w => parse_len _ w (by decide)
  · exact bad_near 45 48 48 58 48 48 0 43 48 48 48 48 (by decide) (by decide) (by decide) ⟨by decide, by decide, by decide, by decide, by decide⟩ (by decide)
  · exact fun w => parse_len _ w (by decide)
  · exact fun w => parse_far 43 49 52 58 48 49 w (by decide)
  · exact fun w => parse_far 43 49 53 58 48 48 w (by decide)
  · exact bad_near 43 48 53 58 54 48 360 43 48 54 48 48 (by decide) (by decide) (by decide) ⟨by decide, by decide, by decide, by decide, by decide⟩ (by decide)
  · exact fun w => parse_len _ w (by decide)
  · exact fun w => parse_len _ w (by decide)
  · exact fun w => parse_len _ w (by decide)
  · exact fun w => parse_len _ w (by decide)
  · exact bad_near 43 48 53 45 51 48 330 43 48 53 51 48 (by decide) (by decide) (by decide) ⟨by decide, by decide, by decide, by decide, by decide⟩ (by decide)
  · exact bad_near 43 48 53 58 51 97 379 43 48 54 49 57 (by decide) (by decide) (by decide) ⟨by decide, by decide, by decide, by decide, by decide⟩ (by decide)
  · exact fun w => parse_far 43 50 52 58 48 48 w (by decide)
/-- the texts in their block -/
structure Stab (w W : World) (B : Nat) : Prop where
  bel : Below w.heap.size w W
  lt : B < W.heap.size
  cell : ∀ j, j < 13 → W.cell? ⟨B, j, none⟩ = some (.string (stl.getD j ⟨#[]⟩))
theorem Stab.below {w W W' : World} {B : Nat} (T : Stab w W B) (b : Below W.heap.size W W') : Stab w W' B :=
  ⟨T.bel.trans (b.mono T.bel.size), Nat.lt_of_lt_of_le T.lt b.size, fun j hj => (b.cell (p := ⟨B, j, none⟩) T.lt).trans (T.cell j hj)⟩
theorem stab_start {w W : World} (bel : Below w.heap.size w W) (C : Array Value) (t : TypeId) (hC : C = (stl.map fun n => Value.string n).toArray) : Stab w (W.alloc (.cells C t)) W.heap.size := by
  subst hC
  refine ⟨bel.alloc bel.size _, by simp, fun j hj => ?_⟩
  rw [World.cell?_alloc_mark]
  have hl : j < stl.length := hj
  simp [List.getD, hl]

theorem back1 (w : World) (L : Lay w) : Calls Tryd.prog 26 #[.agg #[.int .i64 1970, .int .i64 1, .int .i64 1, .int .i64 0, .int .i64 30, .int .i64 0], .int .i64 60] w fun e w' => e = .returned (.tuple #[.int .i64 0, .int .i64 14]) ∧ Below w.heap.size w w' :=
  back_t 1970 1 1 0 30 0 60 1800 w L (by decide) (by decide) (by unfold Civ.CVld Civ.Vld; decide) (by decide) (by decide)
theorem back2 (w : World) (L : Lay w) : Calls Tryd.prog 26 #[.agg #[.int .i64 1970, .int .i64 2, .int .i64 30, .int .i64 0, .int .i64 0, .int .i64 0], .int .i64 60] w fun e w' => e = .returned (.tuple #[.int .i64 0, .int .i64 2]) ∧ Below w.heap.size w w' :=
  back_c 1970 2 30 0 0 0 60 w L (by decide) (by decide) (by unfold Civ.CVld Civ.Vld; decide)
theorem back3 (w : World) : Calls Tryd.prog 26 #[.agg #[.int .i64 0, .int .i64 0, .int .i64 0, .int .i64 0, .int .i64 0, .int .i64 0], .int .i64 841] w fun e w' => e = .returned (.tuple #[.int .i64 0, .int .i64 2]) ∧ Below w.heap.size w w' :=
  back_no 0 0 0 0 0 0 841 w (by decide)
theorem back4 (w : World) (L : Lay w) : Calls Tryd.prog 26 #[.agg #[.int .i64 9999, .int .i64 12, .int .i64 31, .int .i64 23, .int .i64 59, .int .i64 59], .int .i64 840] w fun e w' => e = .returned (.tuple #[.int .i64 253402250399, .int .i64 0]) ∧ Below w.heap.size w w' :=
  back_yes 9999 12 31 23 59 59 840 253402300799 _ w L (by decide) (by decide) (by unfold Civ.CVld Civ.Vld; decide) (by decide) (by decide) (by decide) (by decide)
theorem back5 (w : World) (L : Lay w) : Calls Tryd.prog 26 #[.agg #[.int .i64 9999, .int .i64 12, .int .i64 31, .int .i64 23, .int .i64 59, .int .i64 59], .int .i64 (-1)] w fun e w' => e = .returned (.tuple #[.int .i64 0, .int .i64 14]) ∧ Below w.heap.size w w' :=
  back_t 9999 12 31 23 59 59 (-1) 253402300799 w L (by decide) (by decide) (by unfold Civ.CVld Civ.Vld; decide) (by decide) (by decide)

set_option maxRecDepth 100000 in
set_option maxHeartbeats 4000000 in
theorem walk (w : World) (L : Lay w) :
    Calls Tryd.prog 12 #[] w fun e w' => e = .returned (.bool true) ∧ Below w.heap.size w w' := by
  go_enter Tryd.func12, Tryd.ntmps12
  go_wp2_with fail
  go_loopw [42] (fun i wr => ∃ k : Nat, k ≤ 14 ∧ i = .int .i64 k ∧ Hid (Tab w wr)) (fun i _ => 14 - (intOf i).toNat)
  case atStart => exact ⟨0, by omega, rfl, Lib.hid (tab_start w _ _ rfl)⟩
  case round =>
    obtain ⟨k, hk, rfl, T⟩ := hrel
    by_cases c : k < 14
    · obtain ⟨t, ht⟩ : ∃ n, tbl.getD (k * 4) 0 = n := ⟨_, rfl⟩
      obtain ⟨z, hz⟩ : ∃ n, tbl.getD (k * 4 + 1) 0 = n := ⟨_, rfl⟩
      obtain ⟨e, he⟩ : ∃ n, tbl.getD (k * 4 + 2) 0 = n := ⟨_, rfl⟩
      obtain ⟨f, hf⟩ : ∃ n, tbl.getD (k * 4 + 3) 0 = n := ⟨_, rfl⟩
      have R := rows k c
      rw [ht, hz, he, hf] at R
      obtain ⟨y, m, d, h, i, s, v, u, o, g, A, B, C, D, eg⟩ := R
      have c0 := T.out.cell (k * 4) (by omega)
      have c1 := T.out.cell (k * 4 + 1) (by omega)
      have c2 := T.out.cell (k * 4 + 2) (by omega)
      have c3 := T.out.cell (k * 4 + 3) (by omega)
      rw [ht] at c0
      rw [hz] at c1
      rw [he] at c2
      rw [hf] at c3
      have A := Lib.hid A
      have B := Lib.hid B
      have C := Lib.hid C
      have D := Lib.hid D
      clear ht hz he hf
      rcases eg with eg | ⟨eg, rfl⟩
      all_goals
        go_wp2_with fail
        refine (A.out _ (L.below (four_alloc T.out t z _ f _).tab.bel)).mono ?_
        rintro e' w1 ⟨rfl, b1⟩
        have X1 := Lib.hid ((four_alloc T.out t z _ f _).below b1)
        clear b1 c0 c1 c2 c3
        have x0 := X1.out.g0
        have x1 := X1.out.g1
        have hz1 : wr.heap.size < w1.heap.size := X1.out.hB
        go_wp2_with fail
        refine (B.out _ (L.below (X1.out.below (bel_alloc _ _)).tab.bel)).mono ?_
        rintro e' w2 ⟨rfl, b2⟩
        have X2 := Lib.hid ((X1.out.below (bel_alloc _ _)).below b2)
        clear b2 x0 x1
        have x0 := X2.out.g0
        have x1 := X2.out.g1
        go_wp2_with fail
        refine (C.out _).mono ?_
        rintro e' w' ⟨rfl, rfl⟩
        go_wp2_with fail
        refine (D.out _ (L.below X2.out.tab.bel)).mono ?_
        rintro e' w3 ⟨rfl, b3⟩
        have X3 := Lib.hid (X2.out.below b3)
        clear b3 x0 x1
        have x2 := X3.out.g2
        have x3 := X3.out.g3
        go_wp2_with fail
        go_roundw
        case rel => exact ⟨k + 1, by omega, by go_num, Lib.hid X3.out.tab⟩
        case measure => simp [intOf]; omega
    · obtain rfl : k = 14 := by omega
      clear c hk
      have bel := Lib.hid T.out.bel
      clear T
      go_wp2_with fail
      go_loopw [108, 12, 13, 14] (fun i _ _ _ ws => ∃ k : Nat, k ≤ 13 ∧ i = .int .i64 k ∧ Hid (Stab w ws wr.heap.size)) (fun i _ _ _ _ => 13 - (intOf i).toNat)
      case atStart => exact ⟨0, by omega, rfl, Lib.hid (stab_start bel.out _ _ rfl)⟩
      case round =>
        obtain ⟨k, hk, rfl, T⟩ := hrel
        by_cases c : k < 13
        · obtain ⟨S, hS⟩ : ∃ n, stl.getD k ⟨#[]⟩ = n := ⟨_, rfl⟩
          have A := bads k c
          have c0 := T.out.cell k c
          rw [hS] at A c0
          have A := Lib.hid A
          clear hS
          go_wp2_with fail
          refine (A.out _).mono ?_
          rintro e' w1 ⟨rfl, b1⟩
          go_wp2_with fail
          refine ⟨⟨_, _, _, _, _, _, _, _, _, _, _, _, _, _, _, _, ⟨k + 1, by omega, by go_num, Lib.hid (T.out.below b1)⟩, rfl⟩, ?_⟩
          simp [intOf]
          omega
        · obtain rfl : k = 13 := by omega
          clear c hk
          have P0 := Lib.hid T.out.bel
          clear T
          go_wp2_with fail
          refine (back1 _ (L.below (P0.out.alloc P0.out.size _))).mono ?_
          rintro e' w1 ⟨rfl, b1⟩
          have P1 := Lib.hid ((P0.out.alloc P0.out.size _).trans (b1.mono (P0.out.alloc P0.out.size _).size))
          clear b1
          go_wp2_with fail
          refine (back2 _ (L.below P1.out)).mono ?_
          rintro e' w2 ⟨rfl, b2⟩
          have P2 := Lib.hid (P1.out.trans (b2.mono P1.out.size))
          clear b2
          go_wp2_with fail
          refine (back3 _).mono ?_
          rintro e' w3 ⟨rfl, b3⟩
          have P3 := Lib.hid (P2.out.trans (b3.mono P2.out.size))
          clear b3
          go_wp2_with fail
          refine (back4 _ (L.below P3.out)).mono ?_
          rintro e' w4 ⟨rfl, b4⟩
          have P4 := Lib.hid (P3.out.trans (b4.mono P3.out.size))
          clear b4
          go_wp2_with fail
          refine (back5 _ (L.below P4.out)).mono ?_
          rintro e' w5 ⟨rfl, b5⟩
          have P5 := Lib.hid (P4.out.trans (b5.mono P4.out.size))
          clear b5
          go_wp2_with fail
          refine (works_any _ (L.below P5.out)).mono ?_
          rintro e' w6 ⟨rfl, b6⟩
          go_wp2_with fail
          go_ret
          exact ⟨rfl, P5.out.trans (b6.mono P5.out.size)⟩

theorem listed : Rows.zoneEndsRow.laid.find? isLengths = some (((Rows.zoneEndsRow.laid.find? isLengths).map (·.1)).getD "", Rows.laid_wakeman_civil_lengths) := by kernel_rfl

set_option maxRecDepth 100000 in
theorem lifted (os : Os) (started : os.Started) (H : Type) (enc : TypeId × Value → H) :
    ReturnsInHanded {} Tryd.checked os 12 .any (fun w args => (Rows.zoneEndsSpec.pre enc Tryd.prog Tryd.f12 [] false w args ∧ laidMetH Tryd.prog Rows.zoneEndsRow.laid w) ∧ sizedMet enc Tryd.prog Tryd.f12 (OpenSpec.ofChange Rows.zoneEndsSpec) false w args)
      (Rows.zoneEndsSpec.post enc Tryd.prog Tryd.f12 false true false false) := by
  refine returnsInHanded_of_change_and (C := Tryd.checked) (X := fun w _ => laidMetH Tryd.prog Rows.zoneEndsRow.laid w) (fun _ _ _ hh h => h.of_heap hh) own started (by kernel_rfl) Tryd.func12
    (ChangeSpec.witness_shaped (enc := enc) (C := Tryd.checked) (os := os) (X := fun w _ => laidMetH Tryd.prog Rows.zoneEndsRow.laid w) false (World.doorLaid Tryd.prog 400 os) #[] 8 rfl (shaped0 os _) (by kernel_rfl) (by kernel_rfl) (by kernel_rfl) (door_met os _)) ?_
  intro W base args ds gs before hval0 hW _ _ hL _
  have hval : ∀ (j : Nat) t v, Tryd.f12.params[j]? = some t → args[j]? = some v → Value.okWide Tryd.prog W .any base t v := hval0
  have hW' := hW
  obtain ⟨p, q, hA0, hV, rfl, hfz, hnd⟩ := hW
  have hA : DataW.TrodAll enc Tryd.prog W 0 (fun _ => true) true Tryd.f12.params.toList args.toList ds p := hA0
  rw [Tryd.params12] at hA hval

  obtain ⟨hargs, rfl, rfl⟩ := trodAll_nil hA
  obtain rfl : args = #[] := by cases args; simp_all
  obtain ⟨rfl, rfl⟩ := trodVars_none hV
  clear hA0 hval0
  refine (walk  W (lay_of _ W (by kernel_rfl) _ listed hL) ).mono fun e W' ⟨he, bel⟩ => ?_
  subst he
  exact ⟨_, rfl, _, _, _, [], _, [], hW', trodAll_mk1 (shut_bool Tryd.underlying4 _), trodAll_mk0, rfl, bel.frame _, fun h => by cases h⟩

theorem row_holds : Rows.ZoneEndsSaid :=
  OpenClaim.holds_of_wide 12 Tryd.f12 rfl rfl rfl rfl rfl rfl rfl ⟨rfl, rfl, rfl, rfl, rfl⟩ rfl rfl rfl rfl rfl (by kernel_rfl) Tryd.func12 (by kernel_rfl)
    (of_decide_eq_true (by kernel_rfl)) (by unfold Func.isWrapper; first | (rw [if_pos (by decide +kernel)]; kernel_rfl) | (rw [if_neg (by decide +kernel)]; exact ⟨rfl, rfl⟩))
    (fun os started H enc _ => lifted os started H enc)

theorem proved : Rows.ZoneEndsCardSaid :=
  Claim7.holds_tied_plain_at .later [] Rows.zoneEndsCard.laidKinds true Rows.zoneEndsCard.stood.harness Rows.zoneEndsCard.stood.looks
    row_holds (fun _ h => by cases h) (by kernel_rfl) (fun _ h => by cases h) zoneEnds_row_tie rfl ⟨rfl, rfl⟩ (by kernel_rfl) rfl
    (fun f fn hf hfn => by
      obtain rfl : f = 12 := Option.some.inj ((show Tryd.prog.funcNamed Rows.zoneEndsRow.func = some 12 by kernel_rfl).symm.trans hf) |>.symm
      obtain rfl : fn = Tryd.f12 := (Option.some.inj (Tryd.func12.symm.trans hfn)).symm
      exact ⟨looks0, fun j t ht => by
        rw [Tryd.params12] at ht
        have hm : t ∈ [] := by simpa using Array.mem_of_getElem? ht
        have hall : ([].all fun u => !Tryd.prog.wantsStandIn u) = true := by kernel_rfl
        exact (show Tryd.prog.wantsStandIn t = false by simpa using List.all_eq_true.1 hall t hm)⟩)
    (by kernel_rfl)
end Go.Proofs.YtbnhbfemoaokkaaDoor.zoneEnds
