/- Contract of Print of package field. Contracts of Specs of package field and of six, of the statements: the six kinds. Plain facts: what is written for a set is read as this set; a star is read as all numbers. Plain facts: a comma behind a field; places; what Parse returns for two fields, and for a normal one. Contracts of six and digits, of the statements. Kinds as the statements have them, and the document's: short, spec, ref, texts; the document's upper and Check. Plain mathematics of crontab expressions: which are valid, their texts, how texts are read. No program stands here. Blocks of a call's own, told cell by cell; an expression in a block; where its fields lie. Contract of Check of package expr. What a round of a loop over an iterator keeps: all cells but the caller's own. Contracts of the small functions of package match: past, first, find, clock, ahead, local, numbers, and of zone.Check and the document's Check of a zone. Contract of the iterator over the numbers of a set, from one on, in a direction. Contracts of matcher, its closure, and ever of package match. -/
import Derived.Test.YtljackjcgfaanaaGreatDoorFldM
import Derived.Lib.ItoaNum
import Derived.Laws.StructEq
import Derived.Maps.AppendAt
import Derived.Lib.ConvBytes
import Derived.Laws.Rows
import Derived.Deep.RegionHeld3
import Derived.WalkSmall
import Derived.RangeFuncBox
import Derived.RangeFuncLeaves
import Derived.RangeFuncNested
import Derived.Test.YtljackjcgfaanaaGreatDoorGMPlain
import Derived.Test.YtljackjcgfaanaaGreatDoorMBitG
import Derived.Shelf.Abstract
import Derived.WalkKit
import Derived.OwnWalkIn
import Derived.TacticsInMore
import Derived.LoopNIn
import Derived.LoopIn
import Derived.Test.YtljackjcgfaanaaGreatDoorCivE
import Derived.Deep.QuietTactic
import Derived.BigQuiet
/- Contract of Print of package field. Contracts of Specs of package field and of six, of the statements: the six kinds. Plain facts: what is written for a set is read as this set; a star is read as all numbers. Plain facts: a comma behind a field; places; what Parse returns for two fields, and for a normal one. -/
/- Contract of Print of package field. -/
namespace Go.Proofs.YtljackjcgfaanaaGreatDoor
open Go.ChangeShapes Go.WideShapes Go.RowKit Go.Shelf

/-- all numbers of a kind -/
def fullK (K : Fld.Kd) : Nat := Bit.rangeS K.lo K.hi 1
theorem fullK_is (K : Fld.Kd) : fullS K.lo K.hi = fullK K := by simp [fullS, fullK]
end Go.Proofs.YtljackjcgfaanaaGreatDoor
/- Contracts of Specs of package field and of six, of the statements: the six kinds. -/
namespace Go.Proofs.YtljackjcgfaanaaGreatDoor
open Go.ChangeShapes Go.WideShapes Go.RowKit Go.Shelf

/-- the names of the months, and of the days of the week -/
def xsM : List ByteArray := [⟨#[74, 65, 78]⟩, ⟨#[70, 69, 66]⟩, ⟨#[77, 65, 82]⟩, ⟨#[65, 80, 82]⟩, ⟨#[77, 65, 89]⟩, ⟨#[74, 85, 78]⟩, ⟨#[74, 85, 76]⟩, ⟨#[65, 85, 71]⟩, ⟨#[83, 69, 80]⟩, ⟨#[79, 67, 84]⟩, ⟨#[78, 79, 86]⟩, ⟨#[68, 69, 67]⟩]
def xsW : List ByteArray := [⟨#[83, 85, 78]⟩, ⟨#[77, 79, 78]⟩, ⟨#[84, 85, 69]⟩, ⟨#[87, 69, 68]⟩, ⟨#[84, 72, 85]⟩, ⟨#[70, 82, 73]⟩, ⟨#[83, 65, 84]⟩]
def xs6 (i : Nat) : List ByteArray := match i with
  | 0 => []
  | 1 => []
  | 2 => []
  | 3 => []
  | 4 => xsM
  | _ => xsW
/-- the six kinds -/
def kd6 (i : Nat) : Fld.Kd := match i with
  | 0 => ⟨0, 59, bytesL [], false⟩
  | 1 => ⟨0, 59, bytesL [], false⟩
  | 2 => ⟨0, 23, bytesL [], false⟩
  | 3 => ⟨1, 31, bytesL [], false⟩
  | 4 => ⟨1, 12, bytesL xsM, false⟩
  | _ => ⟨0, 6, bytesL xsW, true⟩
theorem six_cases {i : Nat} (h : i < 6) {P : Nat → Prop} (h0 : P 0) (h1 : P 1) (h2 : P 2) (h3 : P 3) (h4 : P 4) (h5 : P 5) : P i := by
  match i, h with
  | 0, _ => exact h0
  | 1, _ => exact h1
  | 2, _ => exact h2
  | 3, _ => exact h3
  | 4, _ => exact h4
  | 5, _ => exact h5
theorem kd6_ok (i : Nat) (h : i < 6) : (kd6 i).Ok := by
  refine six_cases h (P := fun i => (kd6 i).Ok) ?_ ?_ ?_ ?_ ?_ ?_
  · exact ⟨by decide, by decide, by decide, .inl rfl, (fun s hs => by cases hs), List.Pairwise.nil⟩
  · exact ⟨by decide, by decide, by decide, .inl rfl, (fun s hs => by cases hs), List.Pairwise.nil⟩
  · exact ⟨by decide, by decide, by decide, .inl rfl, (fun s hs => by cases hs), List.Pairwise.nil⟩
  · exact ⟨by decide, by decide, by decide, .inl rfl, (fun s hs => by cases hs), List.Pairwise.nil⟩
  · exact ⟨by decide, by decide, by decide, .inr rfl, by decide, by decide⟩
  · exact ⟨by decide, by decide, by decide, .inr rfl, by decide, by decide⟩
theorem kd6_is (i : Nat) (h : i < 6) : KdIs (kd6 i).lo (kd6 i).hi (xs6 i) (kd6 i).week (kd6 i) :=
  ⟨rfl, rfl, six_cases h (P := fun i => (kd6 i).names = bytesL (xs6 i)) rfl rfl rfl rfl rfl rfl, rfl, kd6_ok i h⟩
/-- the names of a kind, in memory -/
def na6 (a i : Nat) : Value := match i with
  | 0 => .slice none 0 0
  | 1 => .slice none 0 0
  | 2 => .slice none 0 0
  | 3 => .slice none 0 0
  | 4 => .slice (some ⟨a, 0, none⟩) 12 12
  | _ => .slice (some ⟨a + 1, 0, none⟩) 7 7
/-- the six kinds, in three blocks from a on -/
structure Six (W : World) (a : Nat) : Prop where
  months : W.heap[a]? = some (.cells (xsM.map Value.string).toArray 9 (0, 0))
  days : W.heap[a + 1]? = some (.cells (xsW.map Value.string).toArray 9 (0, 0))
  kinds : W.heap[a + 1 + 1]? = some (.cells #[.int .i64 0, .int .i64 59, .slice none 0 0, .bool false, .int .i64 0, .int .i64 59, .slice none 0 0, .bool false, .int .i64 0, .int .i64 23, .slice none 0 0, .bool false, .int .i64 1, .int .i64 31, .slice none 0 0, .bool false, .int .i64 1, .int .i64 12, .slice (some ⟨a, 0, none⟩) 12 12, .bool false, .int .i64 0, .int .i64 6, .slice (some ⟨a + 1, 0, none⟩) 7 7, .bool true] 147 (0, 0))
theorem Six.lt {W : World} {a : Nat} (h : Six W a) : a + 1 + 1 < W.heap.size := (Array.getElem?_eq_some_iff.1 h.kinds).1
theorem Six.below {W W' : World} {a : Nat} (h : Six W a) (hb : Below W.heap.size W W') : Six W' a := by
  have := h.lt
  exact ⟨(hb.block _ (by omega)).trans h.months, (hb.block _ (by omega)).trans h.days, (hb.block _ this).trans h.kinds⟩
theorem Six.cell {W : World} {a : Nat} (h : Six W a) (k : Nat) : W.cell? ⟨a + 1 + 1, k, none⟩ = (#[Value.int .i64 0, .int .i64 59, .slice none 0 0, .bool false, .int .i64 0, .int .i64 59, .slice none 0 0, .bool false, .int .i64 0, .int .i64 23, .slice none 0 0, .bool false, .int .i64 1, .int .i64 31, .slice none 0 0, .bool false, .int .i64 1, .int .i64 12, .slice (some ⟨a, 0, none⟩) 12 12, .bool false, .int .i64 0, .int .i64 6, .slice (some ⟨a + 1, 0, none⟩) 7 7, .bool true] : Array Value)[k]? := by
  simp only [World.cell?, h.kinds]
  cases h' : (_ : Array Value)[k]? <;> rfl
theorem strs_block {W : World} {a : Nat} {xs : List ByteArray} (h : W.heap[a]? = some (.cells (xs.map Value.string).toArray 9 (0, 0))) : IsStrs W (.slice (some ⟨a, 0, none⟩) xs.length xs.length) xs := by
  refine ⟨_, _, rfl, Nat.le_refl _, fun _ => ⟨a, 0, rfl, (Array.getElem?_eq_some_iff.1 h).1, fun j x hx => ?_⟩⟩
  rw [Nat.zero_add]
  simp only [World.cell?, h, List.getElem?_toArray, List.getElem?_map, hx]
  rfl
theorem strs_nil (W : World) : IsStrs W (.slice none 0 0) [] := ⟨none, 0, rfl, Nat.le_refl _, fun h => by simp at h⟩
theorem Six.strs {W : World} {a : Nat} (h : Six W a) (i : Nat) (hi : i < 6) : IsStrs W (na6 a i) (xs6 i) :=
  six_cases hi (P := fun i => IsStrs W (na6 a i) (xs6 i)) (strs_nil W) (strs_nil W) (strs_nil W) (strs_nil W) (strs_block h.months) (strs_block h.days)
theorem heap_old (w : World) (o : Obj) (b : Nat) (h : b < w.heap.size) : (w.alloc o).heap[b]? = w.heap[b]? := Below.heap_alloc w o b h
theorem six_allocs {w : World} {o1 o2 o3 : Obj} (h1 : o1 = .cells (xsM.map Value.string).toArray 9) (h2 : o2 = .cells (xsW.map Value.string).toArray 9)
    (h3 : o3 = .cells #[.int .i64 0, .int .i64 59, .slice none 0 0, .bool false, .int .i64 0, .int .i64 59, .slice none 0 0, .bool false, .int .i64 0, .int .i64 23, .slice none 0 0, .bool false, .int .i64 1, .int .i64 31, .slice none 0 0, .bool false, .int .i64 1, .int .i64 12, .slice (some ⟨w.heap.size, 0, none⟩) 12 12, .bool false, .int .i64 0, .int .i64 6, .slice (some ⟨w.heap.size + 1, 0, none⟩) 7 7, .bool true] 147) : Six (((w.alloc o1).alloc o2).alloc o3) w.heap.size := by
  have s1 : (w.alloc o1).heap.size = w.heap.size + 1 := by simp
  have s2 : ((w.alloc o1).alloc o2).heap.size = (w.alloc o1).heap.size + 1 := by simp
  refine ⟨?_, ?_, ?_⟩
  · rw [heap_old _ _ _ (by omega), heap_old _ _ _ (by omega), World.alloc_heap_new, h1]
  · rw [heap_old _ _ _ (by omega), ← s1, World.alloc_heap_new, h2]
  · rw [show w.heap.size + 1 + 1 = ((w.alloc o1).alloc o2).heap.size by omega, World.alloc_heap_new, h3]
theorem three_below (w : World) (o1 o2 o3 : Obj) : Below w.heap.size w (((w.alloc o1).alloc o2).alloc o3) :=
  (((Below.refl _ w).alloc (Nat.le_refl _) o1).alloc (by simp) o2).alloc (by simp; omega) o3
set_option maxRecDepth 100000 in
set_option maxHeartbeats 2000000 in
theorem specs_any (w : World) :
    Calls Tryz.prog 125 #[] w fun e w' => e = .returned (.slice (some ⟨w.heap.size + 1 + 1, 0, none⟩) 6 6) ∧ Below w.heap.size w w' ∧ Six w' w.heap.size := by
  go_enter Tryz.func125, Tryz.ntmps125
  go_wp2
  go_ret
  exact ⟨rfl, three_below _ _ _ _, six_allocs rfl rfl rfl⟩
end Go.Proofs.YtljackjcgfaanaaGreatDoor
/- Plain facts: what is written for a set is read as this set; a star is read as all numbers. -/
namespace Go.Proofs.YtljackjcgfaanaaGreatDoor
namespace Fld

/-- what stands behind an item that is whole -/
def Ends (r : List UInt8) : Prop := r = [] ∨ ∃ t, r = 44 :: t
theorem Ends.no {r : List UInt8} (h : Ends r) {k : UInt8} (hk : k ≠ 44) : ¬ r.head? = some k := by
  rcases h with rfl | ⟨t, rfl⟩
  · intro q; cases q
  · intro q
    exact hk (by simpa using q.symm)
theorem full_bit {K : Kd} (O : K.Ok) (v : Nat) : (fullK K).testBit v = decide (K.lo ≤ v ∧ v ≤ K.hi) := by
  unfold fullK
  rw [Bit.rangeS_bit O.le (Nat.le_refl _)]
  congr 1
  simp [Nat.mod_one]
/-- all numbers of S are numbers of the kind -/
def In (K : Kd) (S : Nat) : Prop := ∀ v, S.testBit v = true → K.lo ≤ v ∧ v ≤ K.hi
theorem in_of_sub {K : Kd} (O : K.Ok) {S : Nat} (h : S &&& fullK K = S) : In K S := fun v hv => by
  rw [← h, Nat.testBit_and, full_bit O] at hv
  simpa using (Bool.and_eq_true_iff.1 hv).2
end Fld
end Go.Proofs.YtljackjcgfaanaaGreatDoor
/- Plain facts: a comma behind a field; places; what Parse returns for two fields, and for a normal one. -/
namespace Go.Proofs.YtljackjcgfaanaaGreatDoor
namespace Fld

/-- more stands behind it -/
def Res.ext (m : List UInt8) : Res → Res
  | .inl (x, q, r) => .inl (x, q, r ++ m)
  | .inr q => .inr q
def two (P Q : Nat × Bool × Nat × Nat) (n : Nat) : Nat × Bool × Nat × Nat :=
  if P.2.2.2 = 10 then (0, false, P.2.2.1, 10) else if Q.2.2.2 = 10 then (0, false, Q.2.2.1 + (n + 1), 10) else if P.2.2.2 = 2 then (0, false, P.2.2.1, 2)
  else if Q.2.2.2 = 2 then (0, false, Q.2.2.1 + (n + 1), 2) else (P.1 ||| Q.1, false, 0, 0)
def Pl (x : It) (q : Nat) : Prop := x.fa < q ∧ x.sa < q ∧ x.ta < q
theorem Pl.mono {x : It} {p q : Nat} (h : Pl x p) (e : p ≤ q) : Pl x q := ⟨by have := h.1; omega, by have := h.2.1; omega, by have := h.2.2; omega⟩
theorem sub_full {K : Kd} (O : K.Ok) {S : Nat} (h : In K S) : subB S (fullK K) = true := by
  unfold subB
  rw [decide_eq_true_iff]
  apply Nat.eq_of_testBit_eq
  intro v
  rw [Nat.testBit_and, full_bit O]
  cases q : S.testBit v with
  | false => rfl
  | true => rw [Bool.true_and, decide_eq_true (h v q)]
end Fld
end Go.Proofs.YtljackjcgfaanaaGreatDoor
/- Contracts of six and digits, of the statements. Kinds as the statements have them, and the document's: short, spec, ref, texts; the document's upper and Check. -/
/- Contracts of six and digits, of the statements. -/
namespace Go.Proofs.YtljackjcgfaanaaGreatDoor
open Go.ChangeShapes Go.WideShapes Go.RowKit Go.Shelf

theorem six_full (i : Nat) (h : i < 6) : fullK (kd6 i) ≠ 0 ∧ fullK (kd6 i) < 2 ^ 64 :=
  six_cases h (P := fun i => fullK (kd6 i) ≠ 0 ∧ fullK (kd6 i) < 2 ^ 64) (by decide) (by decide) (by decide) (by decide) (by decide) (by decide)
/-- the kind i in memory -/
theorem Six.at_ {W : World} {a : Nat} (h : Six W a) (i : Nat) (hi : i < 6) :
    W.cell? ⟨a + 1 + 1, i * 4, none⟩ = some (.int .i64 (kd6 i).lo) ∧ W.cell? ⟨a + 1 + 1, i * 4 + 1, none⟩ = some (.int .i64 (kd6 i).hi) ∧ W.cell? ⟨a + 1 + 1, i * 4 + 2, none⟩ = some (na6 a i) ∧ W.cell? ⟨a + 1 + 1, i * 4 + 3, none⟩ = some (.bool (kd6 i).week) := by
  simp only [h.cell]
  match i, hi with
  | 0, _ => exact ⟨rfl, rfl, rfl, rfl⟩
  | 1, _ => exact ⟨rfl, rfl, rfl, rfl⟩
  | 2, _ => exact ⟨rfl, rfl, rfl, rfl⟩
  | 3, _ => exact ⟨rfl, rfl, rfl, rfl⟩
  | 4, _ => exact ⟨rfl, rfl, rfl, rfl⟩
  | 5, _ => exact ⟨rfl, rfl, rfl, rfl⟩
theorem na6_slice (a i : Nat) (hi : i < 6) : ∃ A L C, na6 a i = .slice A L C ∧ ∀ b o, A = some ⟨b, o, none⟩ → a ≤ b := by
  match i, hi with
  | 0, _ => exact ⟨_, _, _, rfl, fun _ _ h => by cases h⟩
  | 1, _ => exact ⟨_, _, _, rfl, fun _ _ h => by cases h⟩
  | 2, _ => exact ⟨_, _, _, rfl, fun _ _ h => by cases h⟩
  | 3, _ => exact ⟨_, _, _, rfl, fun _ _ h => by cases h⟩
  | 4, _ => exact ⟨_, _, _, rfl, fun _ _ h => by cases h; omega⟩
  | 5, _ => exact ⟨_, _, _, rfl, fun _ _ h => by cases h; omega⟩
end Go.Proofs.YtljackjcgfaanaaGreatDoor
/- Kinds as the statements have them, and the document's: short, spec, ref, texts; the document's upper and Check. -/
namespace Go.Proofs.YtljackjcgfaanaaGreatDoor
open Go.ChangeShapes Go.WideShapes Go.RowKit Go.Shelf

/-- a kind in block B, in a world since w -/
structure KBox (w W : World) (B : Nat) (lo hi : Int) (v : Value) (xs : List ByteArray) (wk : Bool) : Prop where
  below : Below w.heap.size w W
  lt : B < W.heap.size
  strs : IsStrs W v xs
  c0 : W.cell? ⟨B, 0, none⟩ = some (.int .i64 lo)
  c1 : W.cell? ⟨B, 1, none⟩ = some (.int .i64 hi)
  c2 : W.cell? ⟨B, 2, none⟩ = some v
  c3 : W.cell? ⟨B, 3, none⟩ = some (.bool wk)
theorem KBox.new (w : World) (lo hi : Int) (v : Value) (xs : List ByteArray) (wk : Bool) (t : TypeId) (hv : IsStrs w v xs) : KBox w (w.alloc (.cells #[.int .i64 lo, .int .i64 hi, v, .bool wk] t)) w.heap.size lo hi v xs wk := by
  have B1 : Below w.heap.size w (w.alloc (.cells #[.int .i64 lo, .int .i64 hi, v, .bool wk] t)) := (Below.refl _ _).alloc (Nat.le_refl _) _
  have hh := World.alloc_heap_new w (.cells #[.int .i64 lo, .int .i64 hi, v, .bool wk] t)
  exact ⟨B1, by simp, hv.below B1, by simp only [World.cell?, hh]; rfl, by simp only [World.cell?, hh]; rfl, by simp only [World.cell?, hh]; rfl, by simp only [World.cell?, hh]; rfl⟩
theorem KBox.next {w W W' : World} {B : Nat} {lo hi : Int} {v : Value} {xs : List ByteArray} {wk : Bool} (h : KBox w W B lo hi v xs wk) (hb : Below W.heap.size W W') : KBox w W' B lo hi v xs wk :=
  ⟨h.below.trans (hb.mono h.below.size), Nat.lt_of_lt_of_le h.lt hb.size, h.strs.below hb, (hb.cell (p := ⟨B, 0, none⟩) h.lt).trans h.c0, (hb.cell (p := ⟨B, 1, none⟩) h.lt).trans h.c1, (hb.cell (p := ⟨B, 2, none⟩) h.lt).trans h.c2, (hb.cell (p := ⟨B, 3, none⟩) h.lt).trans h.c3⟩
theorem KBox.drewN {w W : World} {B : Nat} {lo hi : Int} {v : Value} {xs : List ByteArray} {wk : Bool} (h : KBox w W B lo hi v xs wk) (n : Nat) : KBox w (W.drewN n) B lo hi v xs wk := h.next (below_drewN _ W n)
theorem two_new (w : World) (o1 o2 : Obj) : Below w.heap.size w ((w.alloc o1).alloc o2) := ((Below.refl _ w).alloc (Nat.le_refl _) o1).alloc (by simp) o2
end Go.Proofs.YtljackjcgfaanaaGreatDoor
/- Plain mathematics of crontab expressions: which are valid, their texts, how texts are read. No program stands here. Blocks of a call's own, told cell by cell; an expression in a block; where its fields lie. -/
/- Plain mathematics of crontab expressions: which are valid, their texts, how texts are read. No program stands here. -/
namespace Go.Proofs.YtljackjcgfaanaaGreatDoor.Exp

/-- an expression -/
structure Ex where
  a0 : Nat
  a1 : Nat
  a2 : Nat
  a3 : Nat
  a4 : Nat
  a5 : Nat
  b3 : Bool
  b5 : Bool
def Ex.at (x : Ex) : Nat → Nat
  | 0 => x.a0
  | 1 => x.a1
  | 2 => x.a2
  | 3 => x.a3
  | 4 => x.a4
  | _ => x.a5
def zero : Ex := ⟨0, 0, 0, 0, 0, 0, false, false⟩
/-- all numbers of a field -/
def fl (i : Nat) : Nat := fullK (kd6 i)
/-- an expression that is valid -/
structure Ex.Ok (x : Ex) : Prop where
  ne : ∀ i, i < 6 → x.at i ≠ 0
  inn : ∀ i, i < 6 → Fld.In (kd6 i) (x.at i)
  d : x.b3 = true → x.a3 = fl 3
  w : x.b5 = true → x.a5 = fl 5
theorem kd_ok {i : Nat} (h : i < 6) : (kd6 i).Ok := kd6_ok i h
theorem at_lt {x : Ex} (h : x.Ok) {i : Nat} (hi : i < 6) : x.at i < 2 ^ 64 := by
  apply Nat.lt_pow_two_of_testBit
  intro v hv
  cases e : (x.at i).testBit v with
  | false => rfl
  | true =>
    have a := h.inn i hi v e
    have b := (kd_ok hi).hi
    omega
end Go.Proofs.YtljackjcgfaanaaGreatDoor.Exp
/- Blocks of a call's own, told cell by cell; an expression in a block; where its fields lie. -/
namespace Go.Proofs.YtljackjcgfaanaaGreatDoor
open Go.ChangeShapes Go.WideShapes Go.RowKit Go.Shelf

theorem bel_cell {B b : Nat} {w W : World} (h : Below B w W) (hb : B ≤ b) (k : Nat) (v : Value) : Below B w (W.setCell ⟨b, k, none⟩ v) := h.setCell (p := ⟨b, k, none⟩) hb v
/-- what a block holds -/
def Row (W : World) (b : Nat) (t : TypeId) (cs : List Value) : Prop := W.heap[b]? = some (.cells cs.toArray t (0, 0))
theorem Row.lt {W : World} {b : Nat} {t : TypeId} {cs : List Value} (h : Row W b t cs) : b < W.heap.size := (Array.getElem?_eq_some_iff.1 h).1
theorem Row.cell {W : World} {b : Nat} {t : TypeId} {cs : List Value} (h : Row W b t cs) (k : Nat) : W.cell? ⟨b, k, none⟩ = cs[k]? := by
  have h' : W.heap[b]? = some (.cells cs.toArray t (0, 0)) := h
  simp only [World.cell?, h']
  simp
theorem Row.free {W : World} {b : Nat} {t : TypeId} {cs : List Value} (h : Row W b t cs) (k : Nat) : W.frozen? ⟨b, k, none⟩ = false := by
  have h' : W.heap[b]? = some (.cells cs.toArray t (0, 0)) := h
  simp [World.frozen?, h']
theorem Row.new (W : World) (cs : List Value) (t : TypeId) : Row (W.alloc (.cells cs.toArray t)) W.heap.size t cs := World.alloc_heap_new W _
theorem Row.below {W W' : World} {b : Nat} {t : TypeId} {cs : List Value} (h : Row W b t cs) (hb : Below W.heap.size W W') : Row W' b t cs := (hb.block _ h.lt).trans h
theorem Row.alloc {W : World} {b : Nat} {t : TypeId} {cs : List Value} (h : Row W b t cs) (o : Obj) : Row (W.alloc o) b t cs := h.below ((Below.refl _ _).alloc (Nat.le_refl _) _)
theorem Row.drew {W : World} {b : Nat} {t : TypeId} {cs : List Value} (h : Row W b t cs) : Row W.drew b t cs := h
theorem Row.drewN {W : World} {b : Nat} {t : TypeId} {cs : List Value} (h : Row W b t cs) (n : Nat) : Row (W.drewN n) b t cs := h.below (below_drewN _ W n)
theorem Row.other {W : World} {b : Nat} {t : TypeId} {cs : List Value} (h : Row W b t cs) (a : Addr) (v : Value) (hb : b ≠ a.block) : Row (W.setCell a v) b t cs := (Below.heap_setCell _ _ _ _ hb).trans h
theorem Row.set {W : World} {b : Nat} {t : TypeId} {cs : List Value} (h : Row W b t cs) (k : Nat) (v : Value) : Row (W.setCell ⟨b, k, none⟩ v) b t (cs.set k v) := by
  unfold Row
  rw [heap_setCell_same W b k cs.toArray t v h]
  simp
theorem grown_set (W : World) (b k : Nat) (v : Value) : W.grownBy (W.setCell ⟨b, k, none⟩ v) (some b) := ⟨rfl, rfl, rfl, by simp, fun j _ hj => Below.heap_setCell _ _ _ _ (fun e => hj (by rw [e]))⟩
theorem Row.grown {W W' : World} {b c : Nat} {t : TypeId} {cs : List Value} (h : Row W c t cs) (hg : W.grownBy W' (some b)) (hn : c ≠ b) : Row W' c t cs := (hg.block c h.lt (fun e => hn (by cases e; rfl))).trans h
/-- an expression in memory -/
def exL (x : Exp.Ex) : List Value := [.int .u64 x.a0, .int .u64 x.a1, .int .u64 x.a2, .int .u64 x.a3, .int .u64 x.a4, .int .u64 x.a5, .bool x.b3, .bool x.b5]
/-- each of the six sets fits -/
def Exp.Ex.Bd (x : Exp.Ex) : Prop := ∀ i, i < 6 → x.at i < 2 ^ 64
theorem exL_at (x : Exp.Ex) (i : Nat) (h : i < 6) : (exL x)[i]? = some (.int .u64 (x.at i)) :=
  six_cases h (P := fun i => (exL x)[i]? = some (.int .u64 (x.at i))) rfl rfl rfl rfl rfl rfl
theorem ptr_index (B k : Nat) (h : k < 6) (W : World) : (Instr.index 118 (.agg #[.pointer (some ⟨B, 0, none⟩), .pointer (some ⟨B, 1, none⟩), .pointer (some ⟨B, 2, none⟩), .pointer (some ⟨B, 3, none⟩), .pointer (some ⟨B, 4, none⟩), .pointer (some ⟨B, 5, none⟩)]) (.int .i64 (k : Int))).run Tryz.prog W = .ok (.pointer (some ⟨B, k, none⟩)) W :=
  six_cases h (P := fun k => (Instr.index 118 (.agg #[.pointer (some ⟨B, 0, none⟩), .pointer (some ⟨B, 1, none⟩), .pointer (some ⟨B, 2, none⟩), .pointer (some ⟨B, 3, none⟩), .pointer (some ⟨B, 4, none⟩), .pointer (some ⟨B, 5, none⟩)]) (.int .i64 (k : Int))).run Tryz.prog W = .ok (.pointer (some ⟨B, k, none⟩)) W)
    (by kernel_rfl) (by kernel_rfl) (by kernel_rfl) (by kernel_rfl) (by kernel_rfl) (by kernel_rfl)

set_option maxRecDepth 100000 in
set_option maxHeartbeats 2000000 in
theorem fields_any (B : Nat) (w : World) :
    Calls Tryz.prog 103 #[.pointer (some ⟨B, 0, none⟩)] w fun e w' => e = .returned (.agg #[.pointer (some ⟨B, 0, none⟩), .pointer (some ⟨B, 1, none⟩), .pointer (some ⟨B, 2, none⟩), .pointer (some ⟨B, 3, none⟩), .pointer (some ⟨B, 4, none⟩), .pointer (some ⟨B, 5, none⟩)]) ∧ Below w.heap.size w w' := by
  go_enter Tryz.func103, Tryz.ntmps103
  go_wp2_with fail
  go_region_held3 (fun _ => True) (trivial) (fail)
  go_wp2_with fail
  refine bodyPost_ret (v := .agg #[.pointer (some ⟨B, 0, none⟩), .pointer (some ⟨B, 1, none⟩), .pointer (some ⟨B, 2, none⟩), .pointer (some ⟨B, 3, none⟩), .pointer (some ⟨B, 4, none⟩), .pointer (some ⟨B, 5, none⟩)]) (by simp [results, Tryz.results103, go_sem]) rfl ⟨rfl, ?_⟩
  exact ((Below.refl _ w).alloc (Nat.le_refl _) _).drew

theorem full_at {i : Nat} (h6 : i < 6) (v : Value) (w : World) (hv : IsStrs w v (xs6 i)) :
    Calls Tryz.prog 126 #[.agg #[.int .i64 (kd6 i).lo, .int .i64 (kd6 i).hi, v, .bool (kd6 i).week]] w fun e w' => e = .returned (.tuple #[.int .u64 (Exp.fl i : Nat), .int .i64 0]) ∧ Below w.heap.size w w' := by
  have c := full_yes (kd6 i).lo (kd6 i).hi v (xs6 i) (kd6 i).week w hv (kd6_is i h6).valid
  rw [fullK_is] at c
  exact c
/-- the first k of the six full sets -/
def fulls (k : Nat) : List Value := (List.range 6).map fun j => if j < k then .int .u64 (Exp.fl j : Nat) else .int .u64 0
theorem fulls_step (k : Nat) (h : k < 6) : (fulls k).set k (.int .u64 (Exp.fl k : Nat)) = fulls (k + 1) :=
  six_cases h (P := fun k => (fulls k).set k (.int .u64 (Exp.fl k : Nat)) = fulls (k + 1)) rfl rfl rfl rfl rfl rfl
theorem fulls_at (k : Nat) (h : k < 6) : (fulls k)[k]? = some (.int .u64 0) :=
  six_cases h (P := fun k => (fulls k)[k]? = some (.int .u64 0)) rfl rfl rfl rfl rfl rfl
theorem fulls_at0 (k : Nat) (h : k < 6) : (fulls 0)[k]? = some (.int .u64 0) :=
  six_cases h (P := fun k => (fulls 0)[k]? = some (.int .u64 0)) rfl rfl rfl rfl rfl rfl
theorem fulls_all : fulls 6 = [.int .u64 (Exp.fl 0 : Nat), .int .u64 (Exp.fl 1 : Nat), .int .u64 (Exp.fl 2 : Nat), .int .u64 (Exp.fl 3 : Nat), .int .u64 (Exp.fl 4 : Nat), .int .u64 (Exp.fl 5 : Nat)] := rfl
/-- the world in fullFields: the result's block, the array's, the six kinds -/
structure FF (w : World) (k : Nat) (W : World) : Prop where
  below : Below w.heap.size w W
  r0 : Row W w.heap.size 115 (fulls 0)
  r1 : Row W (w.heap.size + 1) 115 (fulls k)
  six : Six W (w.heap.size + 1 + 1)
theorem FF.next {w W W' : World} {k : Nat} (h : FF w k W) (hb : Below W.heap.size W W') : FF w k W' := ⟨h.below.trans (hb.mono h.below.size), h.r0.below hb, h.r1.below hb, h.six.below hb⟩
theorem FF.set {w W : World} {k : Nat} (h : FF w k W) (hk : k < 6) : FF w (k + 1) (W.setCell ⟨w.heap.size + 1, k, none⟩ (.int .u64 (Exp.fl k : Nat))) := by
  have hz := h.six.lt
  refine ⟨h.below.setCell (by show w.heap.size ≤ w.heap.size + 1; omega) _, h.r0.other _ _ (by show w.heap.size ≠ w.heap.size + 1; omega), by rw [← fulls_step k hk]; exact h.r1.set k _, ?_⟩
  exact ⟨(Below.heap_setCell _ _ _ _ (by show w.heap.size + 1 + 1 ≠ w.heap.size + 1; omega)).trans h.six.months, (Below.heap_setCell _ _ _ _ (by show w.heap.size + 1 + 1 + 1 ≠ w.heap.size + 1; omega)).trans h.six.days, (Below.heap_setCell _ _ _ _ (by show w.heap.size + 1 + 1 + 1 + 1 ≠ w.heap.size + 1; omega)).trans h.six.kinds⟩
set_option maxRecDepth 100000 in
set_option maxHeartbeats 2000000 in
theorem fullFields_any (w : World) :
    Calls Tryz.prog 102 #[] w fun e w' => e = .returned (.agg #[.int .u64 (Exp.fl 0 : Nat), .int .u64 (Exp.fl 1 : Nat), .int .u64 (Exp.fl 2 : Nat), .int .u64 (Exp.fl 3 : Nat), .int .u64 (Exp.fl 4 : Nat), .int .u64 (Exp.fl 5 : Nat)]) ∧ Below w.heap.size w w' := by
  have A0 : Row ((w.alloc (.cells (fulls 0).toArray 115)).alloc (.cells (fulls 0).toArray 115)) w.heap.size 115 (fulls 0) := (Row.new w _ _).alloc _
  have A1 : Row ((w.alloc (.cells (fulls 0).toArray 115)).alloc (.cells (fulls 0).toArray 115)) (w.heap.size + 1) 115 (fulls 0) := by
    have := Row.new (w.alloc (.cells (fulls 0).toArray 115)) (fulls 0) 115
    rwa [World.size_alloc] at this
  have B0 := two_new w (.cells (fulls 0).toArray 115) (.cells (fulls 0).toArray 115)
  have HA0 := Lib.hid A0
  have HA1 := Lib.hid A1
  have HB0 := Lib.hid B0
  clear A0 A1 B0
  go_enter Tryz.func102, Tryz.ntmps102
  go_wp2_with fail
  refine (specs_any _).mono ?_
  rintro e w1 ⟨rfl, hb, h6⟩
  have F0 : FF w 0 w1 := ⟨HB0.out.trans (hb.mono (by simp; omega)), HA0.out.below hb, HA1.out.below hb, by simpa using h6⟩
  have HF := Lib.hid F0
  obtain ⟨a, ha⟩ : ∃ a, w.heap.size + 1 + 1 = a := ⟨_, rfl⟩
  simp only [World.size_alloc, ha]
  clear hb h6 HA0 HA1 HB0 F0
  go_wp2_with fail
  go_loopw [6] (fun i wr => ∃ k : Nat, k ≤ 6 ∧ i = .int .i64 k ∧ Hid (FF w k wr)) (fun i _ => 6 - (intOf i).toNat)
  case atStart => exact ⟨0, Nat.zero_le _, rfl, HF⟩
  case round =>
    obtain ⟨k, hk, rfl, hf⟩ := hrel
    by_cases hlt : k < 6
    · have six := hf.out.six
      rw [ha] at six
      obtain ⟨c0, c1, c2, c3⟩ := six.at_ k hlt
      have SK := Lib.hid (six.strs k hlt)
      obtain ⟨A, L, C, e, _⟩ := na6_slice a k hlt
      rw [e] at c2 SK
      have q1 : decide ((k : Int) < 6) = true := by rw [decide_eq_true_iff]; omega
      have q1n : decide (k < 6) = true := by rw [decide_eq_true_iff]; omega
      have i0 : (0 : Int) ≤ (k : Int) := by omega
      have i1 : (k : Int) < 6 := by omega
      have FU := Lib.hid (fun w hv => full_at hlt (.slice A L C) w hv)
      clear six e
      go_wp2_with fail
      have bp : Below wr.heap.size wr (wr.alloc (.cells #[.int .i64 (kd6 k).lo, .int .i64 (kd6 k).hi, .slice A L C, .bool (kd6 k).week] 147)) := (Below.refl _ _).alloc (Nat.le_refl _) _
      refine (FU.out _ (SK.out.below bp)).mono ?_
      rintro e w2 ⟨rfl, hb⟩
      have hf2 := (hf.out.next bp).next hb
      have d := (hf2.r1.cell k).trans (fulls_at k hlt)
      have dz := hf2.r1.free k
      have HN := Lib.hid (hf2.set hlt)
      clear hb hf2 bp SK FU c0 c1 c2 c3
      go_wp2_with fail
      go_roundw
      case rel => exact ⟨k + 1, by omega, by go_num, HN⟩
      case measure => simp [intOf]; omega
    · obtain rfl : k = 6 := by omega
      have r1 := hf.out.r1
      have r0 := hf.out.r0
      have c0 := r1.cell 0; have c1 := r1.cell 1; have c2 := r1.cell 2; have c3 := r1.cell 3; have c4 := r1.cell 4; have c5 := r1.cell 5
      have n0 := r0.cell 0; have n1 := r0.cell 1; have n2 := r0.cell 2; have n3 := r0.cell 3; have n4 := r0.cell 4; have n5 := r0.cell 5
      have f0 := r0.free 0; have f1 := r0.free 1; have f2 := r0.free 2; have f3 := r0.free 3; have f4 := r0.free 4; have f5 := r0.free 5
      rw [fulls_all] at c0 c1 c2 c3 c4 c5
      simp only [List.getElem?_cons_zero, List.getElem?_cons_succ] at c0 c1 c2 c3 c4 c5
      replace n0 := n0.trans (fulls_at0 0 (by decide)); replace n1 := n1.trans (fulls_at0 1 (by decide)); replace n2 := n2.trans (fulls_at0 2 (by decide)); replace n3 := n3.trans (fulls_at0 3 (by decide)); replace n4 := n4.trans (fulls_at0 4 (by decide)); replace n5 := n5.trans (fulls_at0 5 (by decide))
      clear r1 r0
      go_wp2_with fail
      refine bodyPost_ret (v := .agg #[.int .u64 (Exp.fl 0 : Nat), .int .u64 (Exp.fl 1 : Nat), .int .u64 (Exp.fl 2 : Nat), .int .u64 (Exp.fl 3 : Nat), .int .u64 (Exp.fl 4 : Nat), .int .u64 (Exp.fl 5 : Nat)]) (by simp [results, Tryz.results102, go_sem, n0, n1, n2, n3, n4, n5]) rfl ⟨rfl, ?_⟩
      have b := hf.out.below
      repeat' refine bel_cell ?_ (by omega) _ _
      exact b
end Go.Proofs.YtljackjcgfaanaaGreatDoor
/- Contract of Check of package expr. -/
namespace Go.Proofs.YtljackjcgfaanaaGreatDoor
open Go.ChangeShapes Go.WideShapes Go.RowKit Go.Shelf

namespace Exp
/-- is a field of an expression right? -/
def Ex.good (x : Ex) (i : Nat) : Bool := !(x.at i == 0) && subB (x.at i) (fl i)
/-- do the stars say what is so? -/
def Ex.stars (x : Ex) : Bool := (!x.b3 || x.a3 == fl 3) && (!x.b5 || x.a5 == fl 5)
def Ex.okB (x : Ex) : Bool := (List.range 6).all x.good && x.stars
theorem okB_iff {x : Ex} : x.okB = true ↔ x.Ok := by
  unfold Ex.okB
  rw [Bool.and_eq_true, List.all_eq_true]
  have g : ∀ i, i < 6 → (x.good i = true ↔ x.at i ≠ 0 ∧ Fld.In (kd6 i) (x.at i)) := fun i hi => by
    unfold Ex.good
    rw [Bool.and_eq_true]
    constructor
    · rintro ⟨a, b⟩
      refine ⟨by simpa using a, Fld.in_of_sub (kd_ok hi) ?_⟩
      unfold subB at b
      exact of_decide_eq_true b
    · rintro ⟨a, b⟩
      exact ⟨by simpa using a, Fld.sub_full (kd_ok hi) b⟩
  have s : x.stars = true ↔ (x.b3 = true → x.a3 = fl 3) ∧ (x.b5 = true → x.a5 = fl 5) := by
    unfold Ex.stars
    cases x.b3 <;> cases x.b5 <;> simp
  rw [s]
  constructor
  · rintro ⟨h, d, w⟩
    exact ⟨fun i hi => ((g i hi).1 (h i (by simpa using hi))).1, fun i hi => ((g i hi).1 (h i (by simpa using hi))).2, d, w⟩
  · intro h
    exact ⟨fun i hi => (g i (by simpa using hi)).2 ⟨h.ne i (by simpa using hi), h.inn i (by simpa using hi)⟩, h.d, h.w⟩
theorem okB_bad {x : Ex} {i : Nat} (hi : i < 6) (h : x.good i = false) : x.okB = false := by
  unfold Ex.okB
  rw [Bool.and_eq_false_iff]
  left
  rw [List.all_eq_false]
  exact ⟨i, by simpa using hi, by simp [h]⟩
theorem okB_good {x : Ex} (h : ∀ i, i < 6 → x.good i = true) : x.okB = x.stars := by
  unfold Ex.okB
  have : (List.range 6).all x.good = true := by
    rw [List.all_eq_true]
    exact fun i hi => h i (by simpa using hi)
  rw [this, Bool.true_and]
end Exp
/-- what Check returns -/
def errOk (b : Bool) : Int := if b = true then 0 else 16
/-- the world in Check: the expression's block, that of the full sets -/
structure CC (w : World) (x : Exp.Ex) (W : World) (F : Nat) : Prop where
  below : Below w.heap.size w W
  ex : Row W w.heap.size 24 (exL x)
  full : Row W F 115 (fulls 6)
theorem CC.next {w W W' : World} {x : Exp.Ex} {F : Nat} (h : CC w x W F) (hb : Below W.heap.size W W') : CC w x W' F := ⟨h.below.trans (hb.mono h.below.size), h.ex.below hb, h.full.below hb⟩
theorem fulls6_at (k : Nat) (h : k < 6) : (fulls 6)[k]? = some (.int .u64 (Exp.fl k : Nat)) :=
  six_cases h (P := fun k => (fulls 6)[k]? = some (.int .u64 (Exp.fl k : Nat))) rfl rfl rfl rfl rfl rfl
theorem fl_lt (k : Nat) (h : k < 6) : Exp.fl k < 2 ^ 64 := (six_full k h).2
set_option maxRecDepth 100000 in
set_option maxHeartbeats 4000000 in
theorem check_ex (x : Exp.Ex) (hx : x.Bd) (w : World) :
    Calls Tryz.prog 69 #[.agg #[.int .u64 x.a0, .int .u64 x.a1, .int .u64 x.a2, .int .u64 x.a3, .int .u64 x.a4, .int .u64 x.a5, .bool x.b3, .bool x.b5]] w fun e w' => e = .returned (.int .i64 (errOk x.okB)) ∧ Below w.heap.size w w' := by
  have E0 : Row (w.alloc (.cells (exL x).toArray 24)) w.heap.size 24 (exL x) := Row.new w _ _
  have B0 : Below w.heap.size w (w.alloc (.cells (exL x).toArray 24)) := (Below.refl _ w).alloc (Nat.le_refl _) _
  have HE0 := Lib.hid E0
  have HB0 := Lib.hid B0
  have HX := Lib.hid hx
  clear E0 B0 hx
  go_enter Tryz.func69, Tryz.ntmps69
  go_wp2_with fail
  refine (fullFields_any _).mono ?_
  rintro e w1 ⟨rfl, hb⟩
  have E1 := HE0.out.below hb
  have B1 := HB0.out.trans (hb.mono (by simp))
  have C1 : CC w x (w1.alloc (.cells (fulls 6).toArray 115)) w1.heap.size := ⟨B1.alloc B1.size _, E1.alloc _, Row.new w1 _ _⟩
  have HC := Lib.hid C1
  obtain ⟨F, hF⟩ : ∃ F, w1.heap.size = F := ⟨_, rfl⟩
  rw [hF] at HC
  clear hb HE0 HB0 E1 B1 C1
  go_wp2_with fail
  refine (fields_any _ _).mono ?_
  rintro e w2 ⟨rfl, hb⟩
  have HC := Lib.hid (HC.out.next hb)
  clear hb hF
  go_wp2_with fail
  go_loopw [8] (fun i wr => ∃ k : Nat, k ≤ 6 ∧ i = .int .i64 k ∧ Hid (CC w x wr F) ∧ Hid (∀ j, j < k → x.good j = true)) (fun i _ => 6 - (intOf i).toNat)
  case atStart => exact ⟨0, Nat.zero_le _, rfl, HC, Lib.hid (fun j h => by omega)⟩
  case round =>
    obtain ⟨k, hk, rfl, hc, hg⟩ := hrel
    by_cases hlt : k < 6
    · have d := (hc.out.ex.cell k).trans (exL_at x k hlt)
      have df := (hc.out.full.cell k).trans (fulls6_at k hlt)
      have q1 : decide ((k : Int) < 6) = true := by rw [decide_eq_true_iff]; omega
      have q1n : decide (k < 6) = true := by rw [decide_eq_true_iff]; omega
      have i0 : (0 : Int) ≤ (k : Int) := by omega
      have i1 : (k : Int) < 6 := by omega
      have ix := ptr_index w.heap.size k hlt
      have IN := Lib.hid (fun w => inside_any (x.at k) (Exp.fl k) w (HX.out k hlt) (fl_lt k hlt))
      have GD := Lib.hid (fun (h : x.good k = true) => fun j (hj : j < k + 1) => (by
        rcases Nat.lt_or_ge j k with a | a
        · exact hg.out j a
        · obtain rfl : j = k := by omega
          exact h : x.good j = true))
      have BD := Lib.hid (fun (h : x.good k = false) => Exp.okB_bad hlt h)
      obtain ⟨A, hA⟩ : ∃ A, x.at k = A := ⟨_, rfl⟩
      have gd : x.good k = (!(A == 0) && subB A (Exp.fl k)) := by unfold Exp.Ex.good; rw [hA]
      rw [hA] at d IN
      obtain ⟨G, hG⟩ : ∃ G, Exp.fl k = G := ⟨_, rfl⟩
      rw [hG] at df IN gd
      clear hA hG hg
      have HC := Lib.hid hc
      by_cases z : A = 0
      · subst z
        have t0 : ((0 : Int) == 0) = true := rfl
        have OK := Lib.hid (BD.out (by rw [gd]; rfl))
        clear gd IN GD BD
        go_wp2_with fail
        go_quiet (fail)
        go_wp2_with fail
        go_ret
        exact ⟨by rw [OK.out]; rfl, hc.out.below.trans ((below_drewN _ _ _).mono hc.out.below.size)⟩
      · have t0 : ((A : Int) == 0) = false := by rw [beq_eq_false_iff_ne]; omega
        have t0n : (A == 0) = false := by rw [beq_eq_false_iff_ne]; omega
        rw [t0n] at gd
        obtain ⟨sb, hsb⟩ : ∃ sb, subB A G = sb := ⟨_, rfl⟩
        rw [hsb] at gd IN
        clear hsb
        cases sb with
        | false =>
          have OK := Lib.hid (BD.out (by rw [gd]; rfl))
          clear gd GD BD z
          go_wp2_with fail
          go_quiet (first | (go_at_call 104; exact Calls.quiet_of_same ((IN.out _).mono fun _ _ ⟨h1, h2⟩ => ⟨h1, h2.symm⟩)))
          go_wp2_with fail
          go_ret
          exact ⟨by rw [OK.out]; rfl, hc.out.below.trans ((below_drewN _ _ _).mono hc.out.below.size)⟩
        | true =>
          have OK := Lib.hid (GD.out (by rw [gd]; rfl))
          clear gd GD BD z
          go_wp2_with fail
          go_quiet (first | (go_at_call 104; exact Calls.quiet_of_same ((IN.out _).mono fun _ _ ⟨h1, h2⟩ => ⟨h1, h2.symm⟩)))
          go_wp2_with fail
          go_roundw
          case rel => exact ⟨k + 1, by omega, by go_num, Lib.hid (hc.out.next (below_drewN _ _ _)), OK⟩
          case measure => simp [intOf]; omega
    · obtain rfl : k = 6 := by omega
      have OK := Lib.hid (Exp.okB_good hg.out)
      have e3 := hc.out.ex.cell 3
      have e5 := hc.out.ex.cell 5
      have e6 := hc.out.ex.cell 6
      have e7 := hc.out.ex.cell 7
      have f3 := (hc.out.full.cell 3).trans (fulls6_at 3 (by decide))
      have f5 := (hc.out.full.cell 5).trans (fulls6_at 5 (by decide))
      simp only [exL, List.getElem?_cons_zero, List.getElem?_cons_succ] at e3 e5 e6 e7
      have BW := Lib.hid hc.out.below
      obtain ⟨a0, a1, a2, a3, a4, a5, b3, b5⟩ := x
      unfold Exp.Ex.stars at OK
      simp only at e3 e5 e6 e7 OK
      obtain ⟨G3, h3⟩ : ∃ G, Exp.fl 3 = G := ⟨_, rfl⟩
      obtain ⟨G5, h5⟩ : ∃ G, Exp.fl 5 = G := ⟨_, rfl⟩
      rw [h3] at f3 OK
      rw [h5] at f5 OK
      clear hg h3 h5 hc
      have key : ∀ b : Bool, Exp.Ex.okB ⟨a0, a1, a2, a3, a4, a5, b3, b5⟩ = b → errOk b = errOk (Exp.Ex.okB ⟨a0, a1, a2, a3, a4, a5, b3, b5⟩) := fun b h => by rw [h]
      cases b3 <;> cases b5
      · go_wp2_with fail
        go_ret
        exact ⟨by rw [OK.out]; rfl, BW.out⟩
      · by_cases q : a5 = G5
        · subst q
          have t1 : ((a5 : Int) != (a5 : Int)) = false := by simp
          go_wp2_with fail
          go_ret
          exact ⟨by rw [OK.out]; simp [errOk], BW.out⟩
        · have t1 : ((a5 : Int) != (G5 : Int)) = true := by rw [bne_iff_ne]; omega
          have OK : Hid (_ = false) := Lib.hid (OK.out.trans (by simpa using q))
          clear q
          go_wp2_with fail
          go_ret
          exact ⟨by rw [OK.out]; rfl, BW.out⟩
      · by_cases q : a3 = G3
        · subst q
          have t1 : ((a3 : Int) != (a3 : Int)) = false := by simp
          go_wp2_with fail
          go_ret
          exact ⟨by rw [OK.out]; simp [errOk], BW.out⟩
        · have t1 : ((a3 : Int) != (G3 : Int)) = true := by rw [bne_iff_ne]; omega
          have OK : Hid (_ = false) := Lib.hid (OK.out.trans (by simpa using q))
          clear q
          go_wp2_with fail
          go_ret
          exact ⟨by rw [OK.out]; rfl, BW.out⟩
      · by_cases q : a3 = G3
        · subst q
          have t1 : ((a3 : Int) != (a3 : Int)) = false := by simp
          by_cases q : a5 = G5
          · subst q
            have t2 : ((a5 : Int) != (a5 : Int)) = false := by simp
            go_wp2_with fail
            go_ret
            exact ⟨by rw [OK.out]; simp [errOk], BW.out⟩
          · have t2 : ((a5 : Int) != (G5 : Int)) = true := by rw [bne_iff_ne]; omega
            have OK : Hid (_ = false) := Lib.hid (OK.out.trans (by simpa using q))
            clear q
            go_wp2_with fail
            go_ret
            exact ⟨by rw [OK.out]; rfl, BW.out⟩
        · have t1 : ((a3 : Int) != (G3 : Int)) = true := by rw [bne_iff_ne]; omega
          have OK : Hid (_ = false) := Lib.hid (OK.out.trans (by simp [q]))
          clear q
          go_wp2_with fail
          go_ret
          exact ⟨by rw [OK.out]; rfl, BW.out⟩
end Go.Proofs.YtljackjcgfaanaaGreatDoor
/- What a round of a loop over an iterator keeps: all cells but the caller's own. -/
namespace Go.Proofs.YtljackjcgfaanaaGreatDoor
open Go.ChangeShapes Go.RowKit

/-- all cells but those of own blocks are kept -/
structure Kc (own : Nat → Prop) (A B : World) : Prop where
  size : A.heap.size ≤ B.heap.size
  keep : ∀ b o, ¬ own b → A.heap[b]? = some o → o.isCells = true → B.heap[b]? = some o
theorem Kc.refl (own : Nat → Prop) (A : World) : Kc own A A := ⟨Nat.le_refl _, fun _ _ _ h _ => h⟩
theorem Kc.trans {own : Nat → Prop} {A B C : World} (h : Kc own A B) (k : Kc own B C) : Kc own A C :=
  ⟨Nat.le_trans h.size k.size, fun b o hb ho hc => k.keep b o hb (h.keep b o hb ho hc) hc⟩
theorem Kc.mono {own own' : Nat → Prop} {A B : World} (h : Kc own A B) (hs : ∀ b, own b → own' b) : Kc own' A B :=
  ⟨h.size, fun b o hb => h.keep b o fun q => hb (hs b q)⟩
theorem Kc.put {own : Nat → Prop} (W : World) (l : Nat) (o o' : Obj) (hl : W.heap[l]? = some o) (ho : o.isCells = false) : Kc own W (W.putObj l o') :=
  ⟨by simp, fun b p _ hp hc => by
    by_cases e : b = l
    · subst e; rw [hl] at hp; cases hp; rw [ho] at hc; cases hc
    · exact (World.putObj_heap_other e).trans hp⟩
/-- what the laws for loops ask -/
theorem Kc.book {own : Nat → Prop} {w : World} (W : World) (l : Nat) (o o' : Obj) (_ : w.heap.size ≤ l) (h : W.heap[l]? = some o) (hc : o.isCells = false) (_ : o.isWalk = false) : Kc own W (W.putObj l o') := Kc.put W l o o' h hc
theorem Kc.of_below {own : Nat → Prop} {W W' : World} (h : Below W.heap.size W W') : Kc own W W' :=
  ⟨h.size, fun b _ _ ho _ => (h.block b (Array.getElem?_eq_some_iff.1 ho).1).trans ho⟩
theorem Kc.alloc {own : Nat → Prop} {A B : World} (h : Kc own A B) (o : Obj) : Kc own A (B.alloc o) := h.trans (Kc.of_below ((Below.refl _ _).alloc (Nat.le_refl _) _))
theorem Kc.setCell {own : Nat → Prop} {A B : World} (h : Kc own A B) (b : Nat) (v : Value) (hb : own b) : Kc own A (B.setCell ⟨b, 0, none⟩ v) :=
  h.trans ⟨(grownBy_setCell' B b v).size, fun k o hk ho _ => (Below.heap_setCell _ _ _ k (fun e => hk (by rw [e]; exact hb))).trans ho⟩
theorem Kc.box {own : Nat → Prop} {A B : World} (h : Kc own A B) {b : Nat} {t : TypeId} {v : Value} (hb : ¬ own b) (k : Boxed A b t v) : Boxed B b t v := h.keep b _ hb k rfl
theorem Kc.cell {own : Nat → Prop} {A B : World} (h : Kc own A B) {p : Addr} {v : Value} (hb : ¬ own p.block) (k : A.cell? p = some v) : B.cell? p = some v := by
  cases ho : A.heap[p.block]? with
  | none => unfold World.cell? at k; rw [ho] at k; cases k
  | some o =>
    have hc : o.isCells = true := by
      unfold World.cell? at k
      rw [ho] at k
      cases o <;> first | rfl | (cases k)
    have := h.keep p.block o hb ho hc
    rw [World.cell?_of_block (w := A) (w' := B) (this.trans ho.symm)]
    exact k
theorem Kc.own {own : Nat → Prop} {β : Type} {w0 : World} : Own (fun (_ : β) W => Kc own w0 W) := fun _ A B row h hg hr =>
  h.trans ⟨hg.size, fun b o _ ho hc => (hg.block b (Array.getElem?_eq_some_iff.1 ho).1 fun e => by
    obtain ⟨p, hp, q⟩ := hr b e.symm
    rw [ho] at hp; cases hp; rw [q] at hc; cases hc).trans ho⟩
theorem Kc.lay {own : Nat → Prop} {A B : World} (h : Kc own A B) (hb : ¬ own 1) (L : Lay A) : Lay B :=
  ⟨fun j hj => h.cell (p := ⟨1, j, none⟩) hb (L.c j hj), Nat.lt_of_lt_of_le L.lt h.size⟩
theorem Kc.row {own : Nat → Prop} {A B : World} (h : Kc own A B) {b : Nat} {t : TypeId} {cs : List Value} (hb : ¬ own b) (k : Row A b t cs) : Row B b t cs := h.keep b _ hb k rfl
end Go.Proofs.YtljackjcgfaanaaGreatDoor
/- Contracts of the small functions of package match: past, first, find, clock, ahead, local, numbers, and of zone.Check and the document's Check of a zone. -/
namespace Go.Proofs.YtljackjcgfaanaaGreatDoor
open Go.ChangeShapes Go.RowKit Go.Shelf

/-- does a lie behind b in a direction? -/
def Mat.Dir.past (d : Mat.Dir) (a b : Int) : Bool := decide (0 < d.val * (a - b))
theorem past_any (d : Mat.Dir) (a b : Int) (p : Bool) (hp : d.past a b = p) (w : World) (a0 : -1000000000000000 ≤ a) (a1 : a ≤ 1000000000000000) (b0 : -1000000000000000 ≤ b) (b1 : b ≤ 1000000000000000) :
    Calls Tryz.prog 130 #[.int .i64 d.val, .int .i64 a, .int .i64 b] w fun e w' => e = .returned (.bool p) ∧ w = w' := by
  have w1 : IntKind.i64.wrap (a - b) = a - b := by rw [IntKind.wrap_i64]; omega
  unfold Mat.Dir.past at hp
  cases d with
  | up =>
    have w2 : IntKind.i64.wrap (1 * (a - b)) = a - b := by rw [IntKind.wrap_i64]; omega
    obtain ⟨c, hc⟩ : ∃ c, a - b = c := ⟨_, rfl⟩
    simp only [Mat.Dir.val, Int.one_mul, hc] at hp w1 w2 ⊢
    clear a0 a1 b0 b1
    have w3 : IntKind.i64.wrap (a - b) = c := by rw [hc]; exact w1
    clear hc w1
    go_enter Tryz.func130, Tryz.ntmps130
    go_wp2
    all_goals (go_ret; exact ⟨rfl, rfl⟩)
  | down =>
    obtain ⟨c, hc⟩ : ∃ c, a - b = c := ⟨_, rfl⟩
    have w2 : IntKind.i64.wrap (-1 * c) = -c := by rw [IntKind.wrap_i64]; omega
    have w4 : IntKind.i64.wrap (-c) = -c := by rw [IntKind.wrap_i64]; omega
    have e : -1 * c = -c := by omega
    have e2 : decide (0 < -c) = decide (c < 0) := by rw [decide_eq_decide]; omega
    simp only [Mat.Dir.val, hc, e] at hp w1 ⊢
    rw [e2] at hp
    clear a0 a1 b0 b1
    have w3 : IntKind.i64.wrap (a - b) = c := by rw [hc]; exact w1
    clear hc w1
    go_enter Tryz.func130, Tryz.ntmps130
    go_wp2
    all_goals (go_ret; exact ⟨rfl, rfl⟩)
theorem first_any (d : Mat.Dir) (n : Nat) (w : World) (h0 : 1 ≤ n) (h1 : n ≤ 86400) :
    Calls Tryz.prog 128 #[.int .i64 d.val, .int .i64 n] w fun e w' => e = .returned (.int .i64 (d.fst n : Nat)) ∧ w = w' := by
  cases d with
  | up =>
    simp only [Mat.Dir.val, Mat.Dir.fst]
    go_enter Tryz.func128, Tryz.ntmps128
    go_wp2
    all_goals (go_ret; exact ⟨rfl, rfl⟩)
  | down =>
    simp only [Mat.Dir.val, Mat.Dir.fst]
    have w1 : IntKind.i64.wrap ((n : Int) - 1) = ((n - 1 : Nat) : Int) := by rw [IntKind.wrap_i64]; omega
    go_enter Tryz.func128, Tryz.ntmps128
    go_wp2
    all_goals (go_ret; exact ⟨rfl, rfl⟩)
/-- the number that is found: the first one of the set from v on, or none -/
def IsFound (d : Mat.Dir) (S : Nat) (v a : Int) (b : Bool) : Prop := match d with
  | .up => IsNext S v a b
  | .down => IsPrev S v a b
theorem found_nil {d : Mat.Dir} {S : Nat} {v : Int} (hS : S < 2 ^ 64) (h : d.nums S v = []) : IsFound d S v 0 false := by
  have q : ∀ j, S.testBit j = true → ¬ d.val * v ≤ d.val * (j : Int) := fun j hj hv => by
    have : j ∈ d.nums S v := Mat.nums_mem.2 ⟨set_hi hS hj, hj, hv⟩
    rw [h] at this
    simp at this
  cases d with
  | up => exact .inl ⟨fun j hj => by have := q j hj; simp only [Mat.Dir.val] at this; omega, rfl, rfl⟩
  | down => exact .inl ⟨fun j hj => by have := q j hj; simp only [Mat.Dir.val] at this; omega, rfl, rfl⟩
theorem found_cons {d : Mat.Dir} {S x : Nat} {v : Int} {r : List Nat} (hS : S < 2 ^ 64) (h : d.nums S v = x :: r) : IsFound d S v x true := by
  obtain ⟨h1, h2, h3⟩ := Mat.nums_head h
  have h4 := Mat.nums_first h
  cases d with
  | up => exact .inr ⟨x, ⟨h2, by simp only [Mat.Dir.val] at h3; omega, fun j hj hv => by have := h4 j (set_hi hS hj) hj (by simp only [Mat.Dir.val]; omega); simp only [Mat.Dir.val] at this; omega⟩, rfl, rfl⟩
  | down => exact .inr ⟨x, ⟨h2, by simp only [Mat.Dir.val] at h3; omega, fun j hj hv => by have := h4 j (set_hi hS hj) hj (by simp only [Mat.Dir.val]; omega); simp only [Mat.Dir.val] at this; omega⟩, rfl, rfl⟩
theorem find_any (d : Mat.Dir) (S : Nat) (v a : Int) (b : Bool) (w : World) (L : Lay w) (hS : S < 2 ^ 64) (v0 : -9223372036854775808 ≤ v) (v1 : v ≤ 9223372036854775807) (h : IsFound d S v a b) :
    Calls Tryz.prog 164 #[.int .i64 d.val, .int .u64 S, .int .i64 v] w fun e w' => e = .returned (.tuple #[.int .i64 a, .bool b]) ∧ w = w' := by
  cases d with
  | up =>
    have N := Lib.hid (next_any S v a b w L hS v1 h)
    clear h L hS v0 v1
    simp only [Mat.Dir.val]
    go_enter Tryz.func164, Tryz.ntmps164
    go_wp2_with fail
    refine N.out.mono ?_
    rintro e w1 ⟨rfl, rfl⟩
    go_wp2_with fail
    go_ret2
    exact ⟨rfl, rfl⟩
  | down =>
    have N := Lib.hid (prev_any S v a b w hS v0 v1 h)
    clear h L hS v0 v1
    simp only [Mat.Dir.val]
    go_enter Tryz.func164, Tryz.ntmps164
    go_wp2_with fail
    refine N.out.mono ?_
    rintro e w1 ⟨rfl, rfl⟩
    go_wp2_with fail
    go_ret2
    exact ⟨rfl, rfl⟩
theorem clock_any (t : Nat) (w : World) (h : t < 86400) :
    Calls Tryz.prog 133 #[.int .i64 t] w fun e w' => e = .returned (.tuple #[.int .i64 (t / 3600 : Nat), .int .i64 (t % 3600 / 60 : Nat), .int .i64 (t % 60 : Nat)]) ∧ w = w' := by
  go_enter Tryz.func133, Tryz.ntmps133
  go_wp2
  go_ret3
  exact ⟨rfl, rfl⟩
theorem ahead_any (z : Int) (w : World) (h0 : -840 ≤ z) (h1 : z ≤ 840) :
    Calls Tryz.prog 108 #[.int .i64 z] w fun e w' => e = .returned (.int .i64 (60 * z)) ∧ w = w' := by
  have w1 : IntKind.i64.wrap (60 * z) = 60 * z := by rw [IntKind.wrap_i64]; omega
  go_enter Tryz.func108, Tryz.ntmps108
  go_wp2
  go_ret
  exact ⟨rfl, rfl⟩
theorem local_any (z a b f t : Int) (w : World) (h0 : -840 ≤ z) (h1 : z ≤ 840) (a0 : -1 ≤ a) (a1 : a ≤ 253402300800) (b0 : -1 ≤ b) (b1 : b ≤ 253402300800) (hf : max (a + 60 * z) 0 = f) (ht : min (b + 60 * z) 253402300799 = t) :
    Calls Tryz.prog 106 #[.int .i64 z, .int .i64 a, .int .i64 b] w fun e w' => e = .returned (.tuple #[.int .i64 f, .int .i64 t]) ∧ w = w' := by
  obtain ⟨g, hg⟩ : ∃ g, 60 * z = g := ⟨_, rfl⟩
  have A := Lib.hid (fun w0 : World => ahead_any z w0 h0 h1)
  rw [hg] at A hf ht
  have w1 : IntKind.i64.wrap (a + g) = a + g := by rw [IntKind.wrap_i64]; omega
  have w2 : IntKind.i64.wrap (b + g) = b + g := by rw [IntKind.wrap_i64]; omega
  have HF := Lib.hid hf
  have HT := Lib.hid ht
  clear hg h0 h1 a0 a1 b0 b1 hf ht
  go_enter Tryz.func106, Tryz.ntmps106
  go_wp2_with fail
  refine (A.out _).mono ?_
  rintro e w3 ⟨rfl, rfl⟩
  go_wp2_with fail
  all_goals
    refine (A.out _).mono ?_
    rintro e w3 ⟨rfl, rfl⟩
    go_wp2_with fail
  go_ret2
  have f1 := HF.out
  have f2 := HT.out
  refine ⟨?_, rfl⟩
  rw [← f1, ← f2]
  rfl
theorem zcheck_yes (z : Int) (w : World) (a : -840 ≤ z) (b : z ≤ 840) :
    Calls Tryz.prog 70 #[.int .i64 z] w fun e w' => e = .returned (.int .i64 0) ∧ w = w' := by
  go_enter Tryz.func70, Tryz.ntmps70
  go_wp2
  go_ret
  exact ⟨rfl, rfl⟩
theorem zcheck_no (z : Int) (w : World) (h : z < -840 ∨ 840 < z) :
    Calls Tryz.prog 70 #[.int .i64 z] w fun e w' => e = .returned (.int .i64 2) ∧ w = w' := by
  rcases h with h | h
  · have d : decide (z < -840) = true := by simp; omega
    go_enter Tryz.func70, Tryz.ntmps70
    go_wp2
    go_ret
    exact ⟨rfl, rfl⟩
  · have d0 : decide (z < -840) = false := by simp; omega
    have d : decide (840 < z) = true := by simp; omega
    go_enter Tryz.func70, Tryz.ntmps70
    go_wp2
    go_ret
    exact ⟨rfl, rfl⟩
theorem zcheckR_yes (z : Int) (w : World) (a : -840 ≤ z) (b : z ≤ 840) :
    Calls Tryz.prog 46 #[.int .i64 z] w fun e w' => e = .returned (.int .i64 0) ∧ w = w' := by
  go_enter Tryz.func46, Tryz.ntmps46
  go_wp2
  go_ret
  exact ⟨rfl, rfl⟩
theorem zcheckR_no (z : Int) (w : World) (h : z < -840 ∨ 840 < z) :
    Calls Tryz.prog 46 #[.int .i64 z] w fun e w' => e = .returned (.int .i64 2) ∧ w = w' := by
  rcases h with h | h
  · have d : decide (z < -840) = true := by simp; omega
    go_enter Tryz.func46, Tryz.ntmps46
    go_wp2
    go_ret
    exact ⟨rfl, rfl⟩
  · have d0 : decide (z < -840) = false := by simp; omega
    have d : decide (840 < z) = true := by simp; omega
    go_enter Tryz.func46, Tryz.ntmps46
    go_wp2
    go_ret
    exact ⟨rfl, rfl⟩
/-- the error of a zone -/
def errZ (z : Int) : Int := if -840 ≤ z ∧ z ≤ 840 then 0 else 2
theorem zcheck_any (z : Int) (w : World) : Calls Tryz.prog 70 #[.int .i64 z] w fun e w' => e = .returned (.int .i64 (errZ z)) ∧ w = w' := by
  unfold errZ
  split
  · exact zcheck_yes z w (by omega) (by omega)
  · exact zcheck_no z w (by omega)
theorem zcheckR_any (z : Int) (w : World) : Calls Tryz.prog 46 #[.int .i64 z] w fun e w' => e = .returned (.int .i64 (errZ z)) ∧ w = w' := by
  unfold errZ
  split
  · exact zcheckR_yes z w (by omega) (by omega)
  · exact zcheckR_no z w (by omega)
theorem numbers_any (d : Mat.Dir) (S : Nat) (v : Int) (w : World) :
    Calls Tryz.prog 148 #[.int .i64 d.val, .int .u64 S, .int .i64 v] w fun e w' => e = .returned (.func (.func 163) #[] #[.pointer (some ⟨w.heap.size, 0, none⟩), .pointer (some ⟨w.heap.size + 1, 0, none⟩), .pointer (some ⟨w.heap.size + 1 + 1, 0, none⟩)]) ∧
      w' = ((w.alloc (.cells #[.int .i64 d.val] 124)).alloc (.cells #[.int .u64 S] 22)).alloc (.cells #[.int .i64 v] 3) := by
  obtain ⟨q, hq⟩ : ∃ q, d.val = q := ⟨_, rfl⟩
  rw [hq]
  clear hq
  go_enter Tryz.func148, Tryz.ntmps148
  go_wp2
  go_ret
  exact ⟨rfl, rfl⟩
end Go.Proofs.YtljackjcgfaanaaGreatDoor
/- Contract of the iterator over the numbers of a set, from one on, in a direction. -/
namespace Go.Proofs.YtljackjcgfaanaaGreatDoor
open Go.ChangeShapes Go.RowKit Go.Shelf

attribute [local go_sem] Oper.semAt_some

/-- what the two variables of the loop hold, ahead of the numbers that are still to come -/
def AheadD (rest : List Nat) (v ok : Value) : Prop :=
  match rest with
  | [] => v = .int .i64 0 ∧ ok = .bool false
  | x :: _ => v = .int .i64 x ∧ ok = .bool true
theorem aheadD_ex {d : Mat.Dir} {S : Nat} {v : Int} (hS : S < 2 ^ 64) : ∃ a b, IsFound d S v a b ∧ AheadD (d.nums S v) (.int .i64 a) (.bool b) := by
  cases h : d.nums S v with
  | nil => exact ⟨_, _, found_nil hS h, rfl, rfl⟩
  | cons x r => exact ⟨_, _, found_cons hS h, rfl, rfl⟩
/-- how far the loop still goes -/
def farD (d : Mat.Dir) : Value → Value → Nat
  | v, .bool true => (match d with
    | .up => 65 - (intOf v).toNat
    | .down => (intOf v).toNat + 1)
  | _, _ => 0

set_option maxRecDepth 100000 in
set_option maxHeartbeats 2000000 in
theorem numbers_in (own : Nat → Prop) (n : Nat) (hn : 1 ≤ n) (l Bw Bs Bv : Nat) (d : Mat.Dir) (S : Nat) (v : Int) (hS : S < 2 ^ 64) (v0 : -1000000 ≤ v) (v1 : v ≤ 1000000)
    (ow : ¬ own Bw) (os : ¬ own Bs) (ot : ¬ own 1) (J Jx : List (Fin 64) → World → Prop)
    (hY : ∀ pre x W, J pre W → pre.length < 64 → YieldAt Fence.wide (n - 1) Tryz.prog l #[.int .i64 ((x : Fin 64).val : Nat)] W fun e W' =>
      (e = .returned (.bool true) ∧ J (pre ++ [x]) W' ∧ Kc own W W') ∨ (e = .returned (.bool false) ∧ Jx (pre ++ [x]) W'))
    (W : World) (cw : W.cell? ⟨Bw, 0, none⟩ = some (.int .i64 d.val)) (cs : W.cell? ⟨Bs, 0, none⟩ = some (.int .u64 S)) (cv : W.cell? ⟨Bv, 0, none⟩ = some (.int .i64 v)) (L0 : Lay W) (h0 : J [] W) :
    CallsIn Fence.wide n Tryz.prog 163 #[.func (.yield l) #[] #[], .pointer (some ⟨Bw, 0, none⟩), .pointer (some ⟨Bs, 0, none⟩), .pointer (some ⟨Bv, 0, none⟩)] W fun e W' => (∃ v, e = .returned v) ∧
      ((∃ ys : List (Fin 64), ys.map (fun x => x.val) = d.nums S v ∧ J ys W') ∨ (∃ pre : List (Fin 64), pre.map (fun x => x.val) <+: d.nums S v ∧ Jx pre W')) := by
  obtain ⟨a0, b0, hn0, ha0⟩ := aheadD_ex (d := d) (S := S) (v := v) hS
  obtain ⟨D, hD⟩ : ∃ D, d.val = D := ⟨_, rfl⟩
  have N0 := Lib.hid (fun w (L : Lay w) => find_any d S v a0 b0 w L hS (by omega) (by omega) hn0)
  have N := Lib.hid (fun (u a : Int) b w (L : Lay w) (u0 : -5 ≤ u) (u1 : u ≤ 70) (h : IsFound d S u a b) => find_any d S u a b w L hS (by omega) (by omega) h)
  rw [hD] at N0 N cw
  have HD := Lib.hid hD
  have HY := Lib.hid hY
  have HS := Lib.hid hS
  have AH := Lib.hid ha0
  have OW := Lib.hid ow; have OS := Lib.hid os; have OT := Lib.hid ot
  have LL := Lib.hid L0
  clear hn0 hY hS ha0 hD ow os ot L0 v0 v1
  refine callsIn_of_wp Tryz.func163 rfl trivial ?_ rfl
  simp only [Tryz.ntmps163, List.size_toArray, List.length_cons, List.length_nil, Nat.reduceAdd, Nat.reduceSub, Array.replicate_succ, Array.replicate_zero, List.push_toArray, List.append_toArray, List.nil_append, List.cons_append]
  gi_wp2_with (refine ⟨trivial, ?_⟩; gi_at_call 164; refine (callsIn_wide.2 (N0.out _ LL.out)).mono ?_; rintro e w' ⟨rfl, rfl⟩)
  gi_loopw [5, 6] (fun v' ok wr => ∃ (pre : List (Fin 64)) (u : Int), Hid (pre.map (fun x => x.val) ++ d.nums S u = d.nums S v) ∧ Hid (AheadD (d.nums S u) v' ok) ∧ J pre wr ∧ Kc own W wr) (fun v' ok _ => farD d v' ok)
  case atStart => exact ⟨[], v, Lib.hid (by simp), AH, h0, Kc.refl _ _⟩
  case round =>
    obtain ⟨pre, u, HX, HA, hJ, hk⟩ := hrel
    cases hr : d.nums S u with
    | nil =>
      obtain ⟨rfl, rfl⟩ : _ ∧ _ := by have := HA.out; rw [hr] at this; exact this
      have HR := Lib.hid hr
      clear hr
      gi_wp2
      refine ⟨fun _ h => (by cases h), ?_⟩
      gi_wp2
      go_end0
      exact ⟨⟨_, rfl⟩, .inl ⟨pre, by have := HX.out; rw [HR.out, List.append_nil] at this; exact this, hJ⟩⟩
    | cons x rest =>
      obtain ⟨rfl, rfl⟩ : _ ∧ _ := by have := HA.out; rw [hr] at this; exact this
      obtain ⟨X, rfl⟩ : ∃ X : Fin 64, X.val = x := ⟨⟨x, (Mat.nums_head hr).1⟩, rfl⟩
      have X64 := Lib.hid X.isLt
      have hlen : pre.length < 64 := by
        have h1 := Mat.nums_len d S v
        have h2 := congrArg List.length HX.out
        rw [hr] at h2
        simp at h2
        omega
      obtain ⟨fn, tmps, assign, body, hy, hR⟩ := HY.out pre X _ hJ hlen
      have HR := Lib.hid hr
      clear hr hlen
      obtain ⟨a1, b1, hn1, ha1⟩ := aheadD_ex (d := d) (S := S) (v := (X.val : Int) + d.val) HS.out
      rw [HD.out] at hn1
      have HN1 := Lib.hid hn1
      have HA1 := Lib.hid ha1
      have us : Hid (-5 ≤ (X.val : Int) + D ∧ (X.val : Int) + D ≤ 70) := Lib.hid (by have := HD.out; have := X64.out; rcases d.val_or with e | e <;> omega)
      have wx : IntKind.i64.wrap ((X.val : Int) + D) = (X.val : Int) + D := by have := us.out; rw [IntKind.wrap_i64]; omega
      clear hn1 ha1
      gi_wp2
      refine hR.mono ?_
      rintro e W3 (⟨rfl, hJ3, hk3⟩ | ⟨rfl, hJx3⟩)
      · have hk4 : Kc own W W3 := hk.trans hk3
        have c1 : W3.cell? ⟨Bw, 0, none⟩ = some (.int .i64 D) := hk4.cell (p := ⟨Bw, 0, none⟩) OW.out cw
        have c2 : W3.cell? ⟨Bs, 0, none⟩ = some (.int .u64 S) := hk4.cell (p := ⟨Bs, 0, none⟩) OS.out cs
        have L3 := Lib.hid (hk4.lay OT.out LL.out)
        gi_wp2_with (refine ⟨trivial, ?_⟩; gi_at_call 164; refine (callsIn_wide.2 (N.out _ _ _ _ L3.out us.out.1 us.out.2 HN1.out)).mono ?_; rintro e w' ⟨rfl, rfl⟩)
        go_roundw
        case rel =>
          refine ⟨pre ++ [X], (X.val : Int) + d.val, Lib.hid ?_, HA1, hJ3, hk4⟩
          have := HX.out
          rw [HR.out] at this
          rw [Mat.nums_more HR.out]
          simpa using this
        case measure =>
          have h := HA1.out
          have m := Mat.nums_more HR.out
          rw [m] at h
          cases rest with
          | nil =>
            obtain ⟨ha, hb⟩ := h
            rw [ha, hb]
            have := X64.out
            cases d <;> simp [farD, intOf] <;> omega
          | cons y r =>
            obtain ⟨ha, hb⟩ := h
            rw [ha, hb]
            have q := (Mat.nums_head m)
            have := X64.out
            have q3 := q.2.2
            cases d <;> simp [farD, intOf, Mat.Dir.val] at q3 ⊢ <;> omega
      · gi_wp2
        go_end0
        exact ⟨⟨_, rfl⟩, .inr ⟨pre ++ [X], ⟨rest, by have := HX.out; rw [HR.out] at this; simpa using this⟩, hJx3⟩⟩
theorem numbers_stops (own : Nat → Prop) (n : Nat) (hn : 1 ≤ n) (Bw Bs Bv : Nat) (d : Mat.Dir) (S : Nat) (v : Int) (hS : S < 2 ^ 64) (v0 : -1000000 ≤ v) (v1 : v ≤ 1000000)
    (ow : ¬ own Bw) (os : ¬ own Bs) (ot : ¬ own 1) (w : World)
    (bw : Boxed w Bw 124 (.int .i64 d.val)) (bs : Boxed w Bs 22 (.int .u64 S)) (bv : Boxed w Bv 3 (.int .i64 v)) (L : Lay w) :
    SeqStopsK Fence.wide n Tryz.prog 163 #[.pointer (some ⟨Bw, 0, none⟩), .pointer (some ⟨Bs, 0, none⟩), .pointer (some ⟨Bv, 0, none⟩)] (fun x : Fin 64 => #[Value.int .i64 (x.val : Nat)]) (Kc own)
      (fun ys => ys.map (fun x => x.val) = d.nums S v) (fun pre => pre.map (fun x => x.val) <+: d.nums S v) 64 w := fun l J Jx W hW _ _ hY h0 =>
  numbers_in own n hn l Bw Bs Bv d S v hS v0 v1 ow os ot J Jx hY W ((hW.cell (p := ⟨Bw, 0, none⟩) bw.lt).trans bw.cell) ((hW.cell (p := ⟨Bs, 0, none⟩) bs.lt).trans bs.cell) ((hW.cell (p := ⟨Bv, 0, none⟩) bv.lt).trans bv.cell) (L.below hW) h0
end Go.Proofs.YtljackjcgfaanaaGreatDoor
/- Contracts of matcher, its closure, and ever of package match. -/
namespace Go.Proofs.YtljackjcgfaanaaGreatDoor
open Go.ChangeShapes Go.RowKit Go.Shelf

/-- both tables -/
structure LayM (w : World) : Prop where
  b : Lay w
  c : Cv.Lay w
theorem LayM.below {w w' : World} (L : LayM w) (h : Below w.heap.size w w') : LayM w' := ⟨L.b.below h, L.c.below h⟩
theorem LayM.alloc {w : World} (L : LayM w) (o : Obj) : LayM (w.alloc o) := L.below ((Below.refl _ _).alloc (Nat.le_refl _) _)
theorem LayM.kc {own : Nat → Prop} {A B : World} (h : Kc own A B) (ob : ¬ own 1) (oc : ¬ own 0) (L : LayM A) : LayM B where
  b := h.lay ob L.b
  c := by
    have g := fun k v (e : A.cell? ⟨0, k, none⟩ = some v) => h.cell (p := ⟨0, k, none⟩) oc e
    have s := h.size
    have q := L.c.lt
    constructor
    all_goals first | exact g _ _ (by first | exact L.c.c0 | exact L.c.c1 | exact L.c.c2 | exact L.c.c3 | exact L.c.c4 | exact L.c.c5 | exact L.c.c6 | exact L.c.c7 | exact L.c.c8 | exact L.c.c9 | exact L.c.c10 | exact L.c.c11) | omega

theorem fl3_eq : Exp.fl 3 = 4294967294 := by decide +kernel
theorem fl5_eq : Exp.fl 5 = 127 := by decide +kernel
theorem fl3_bit : ∀ d : Nat, 1 ≤ d → d ≤ 31 → (Exp.fl 3).testBit d = true := by
  intro d h1 h2
  rw [fl3_eq]
  have : ∀ k : Fin 32, 1 ≤ k.val → (4294967294 : Nat).testBit k.val = true := by decide +kernel
  exact this ⟨d, by omega⟩ h1
theorem fl5_bit : ∀ d : Nat, d ≤ 6 → (Exp.fl 5).testBit d = true := by
  intro d h2
  rw [fl5_eq]
  have : ∀ k : Fin 7, (127 : Nat).testBit k.val = true := by decide +kernel
  exact this ⟨d, by omega⟩
/-- the day with this number is matched -/
def Exp.Ex.On (x : Exp.Ex) (n : Int) : Prop := Mat.On x.a4 x.a3 x.a5 x.b3 x.b5 n
/-- some day is matched -/
def Exp.Ex.Evr (x : Exp.Ex) : Prop := ∃ n, x.On n
/-- what the closure answers -/
def Exp.Ex.mB (x : Exp.Ex) (m d k : Nat) : Bool := if (x.b3 || x.b5) = true then x.a4.testBit m && x.a3.testBit d && x.a5.testBit k else x.a4.testBit m && (x.a3.testBit d || x.a5.testBit k)
theorem mB_mt {x : Exp.Ex} (hok : x.Ok) (m : Nat) {d k : Nat} (d1 : 1 ≤ d) (d2 : d ≤ 31) (k2 : k ≤ 6) : x.mB m d k = Mat.mt x.a4 x.a3 x.a5 x.b3 x.b5 m d k := by
  unfold Exp.Ex.mB Mat.mt
  cases h3 : x.b3 <;> cases h5 : x.b5
  · simp
  · have e : x.a5.testBit k = true := by rw [hok.w h5]; exact fl5_bit k k2
    simp [e]
  · have e : x.a3.testBit d = true := by rw [hok.d h3]; exact fl3_bit d d1 d2
    simp [e]
  · have e : x.a5.testBit k = true := by rw [hok.w h5]; exact fl5_bit k k2
    have e' : x.a3.testBit d = true := by rw [hok.d h3]; exact fl3_bit d d1 d2
    simp [e, e']
theorem mB_on {x : Exp.Ex} (hok : x.Ok) {y m d n : Int} (v : Civ.Vld y m d) (hn : Civ.num y m d = n) : x.mB m.toNat d.toNat ((n + 4) % 7).toNat = true ↔ x.On n := by
  have b := Civ.dim_bd y m
  obtain ⟨_, _, v3, v4, v5, v6⟩ := id v
  rw [mB_mt hok _ (by omega) (by omega) (by omega), ← hn]
  exact (Mat.on_iff v).symm
theorem bit4 {x : Exp.Ex} (hok : x.Ok) {v : Nat} (h : x.a4.testBit v = true) : 1 ≤ v ∧ v ≤ 12 := hok.inn 4 (by decide) v h
theorem bit3 {x : Exp.Ex} (hok : x.Ok) {v : Nat} (h : x.a3.testBit v = true) : 1 ≤ v ∧ v ≤ 31 := hok.inn 3 (by decide) v h
theorem bit5 {x : Exp.Ex} (hok : x.Ok) {v : Nat} (h : x.a5.testBit v = true) : v ≤ 6 := (hok.inn 5 (by decide) v h).2
theorem bit2 {x : Exp.Ex} (hok : x.Ok) {v : Nat} (h : x.a2.testBit v = true) : v ≤ 23 := (hok.inn 2 (by decide) v h).2
theorem bit1 {x : Exp.Ex} (hok : x.Ok) {v : Nat} (h : x.a1.testBit v = true) : v ≤ 59 := (hok.inn 1 (by decide) v h).2
theorem bit0 {x : Exp.Ex} (hok : x.Ok) {v : Nat} (h : x.a0.testBit v = true) : v ≤ 59 := (hok.inn 0 (by decide) v h).2
theorem bit_some {S : Nat} (h : S ≠ 0) : ∃ v, S.testBit v = true := Nat.exists_testBit_of_ne_zero h
/-- the length of a month of a leap year; 0 for what is no month -/
def lenM (m : Nat) : Int := if 1 ≤ m ∧ m ≤ 12 then Civ.dim 2000 m else 0
theorem evr_week {x : Exp.Ex} (hok : x.Ok) (h5 : x.b5 = false) : x.Evr := by
  obtain ⟨m, hm⟩ := bit_some (hok.ne 4 (by decide))
  obtain ⟨k, hk⟩ := bit_some (hok.ne 5 (by decide))
  have m1 := bit4 hok hm
  have k1 := bit5 hok hk
  obtain ⟨f, hf⟩ : ∃ f, Civ.num 2000 m 1 = f := ⟨_, rfl⟩
  obtain ⟨j, j0, j6, jw⟩ : ∃ j : Int, 0 ≤ j ∧ j ≤ 6 ∧ (f + j + 4) % 7 = k := ⟨(k - f - 4) % 7, by omega, by omega, by omega⟩
  have bd := Civ.dim_bd 2000 m
  have v : Civ.Vld 2000 m (1 + j) := ⟨by omega, by omega, by omega, by omega, by omega, by omega⟩
  have e : Civ.num 2000 m (1 + j) = f + j := by rw [← hf]; unfold Civ.num; omega
  refine ⟨f + j, 2000, m, 1 + j, v, e, ?_⟩
  unfold Mat.mt
  have hk' : x.a5.testBit ((f + j + 4) % 7).toNat = true := by rw [jw]; exact hk
  have hm' : x.a4.testBit (m : Int).toNat = true := hm
  rw [hm', hk', h5]
  cases x.b3 <;> simp
theorem dim2000 (y m : Int) : Civ.dim y m ≤ Civ.dim 2000 m := by
  have := Civ.lp_01 y
  have l : Civ.lp 2000 = 1 := by decide
  unfold Civ.dim
  rw [l]
  split
  · omega
  · exact Int.le_refl _
/-- is a day matched, where any day of the week is right: the smallest day, and the lengths of the months -/
theorem evr_star {x : Exp.Ex} (hok : x.Ok) (h5 : x.b5 = true) {a : Int} {b : Bool} (ha : IsNext x.a3 1 a b) : x.Evr ↔ ∃ m, x.a4.testBit m = true ∧ a ≤ lenM m := by
  obtain ⟨d0, hd0⟩ := bit_some (hok.ne 3 (by decide))
  have e0 := bit3 hok hd0
  obtain ⟨r, hr, rfl, rfl⟩ : ∃ r : Nat, Nxt x.a3 1 r ∧ a = r ∧ b = true := by
    rcases ha with ⟨h, _⟩ | h
    · have := h d0 hd0; omega
    · exact h
  have hr1 := bit3 hok hr.has
  constructor
  · rintro ⟨n, y, m, d, v, _, t⟩
    obtain ⟨_, _, v3, v4, v5, v6⟩ := id v
    unfold Mat.mt at t
    simp only [Bool.and_eq_true] at t
    refine ⟨m.toNat, t.1, ?_⟩
    unfold lenM
    have em : ((m.toNat : Nat) : Int) = m := by omega
    rw [if_pos (by omega), em]
    have g := dim2000 y m
    have hd : x.a3.testBit d.toNat = true := by
      cases h3 : x.b3 with
      | true => rw [hok.d h3]; exact fl3_bit _ (by omega) (by have := Civ.dim_bd y m; omega)
      | false =>
        have := t.2
        rw [h3, h5] at this
        simpa using this
    have := hr.min d.toNat hd (by omega)
    omega
  · rintro ⟨m, hm, hl⟩
    have m1 := bit4 hok hm
    unfold lenM at hl
    rw [if_pos m1] at hl
    have v : Civ.Vld 2000 m r := ⟨by omega, by omega, by omega, by omega, by omega, hl⟩
    refine ⟨_, 2000, m, r, v, rfl, ?_⟩
    unfold Mat.mt
    have hm' : x.a4.testBit (m : Int).toNat = true := hm
    have hr' : x.a3.testBit (r : Int).toNat = true := hr.has
    rw [hm', hr', h5]
    cases x.b3 <;> simp
theorem bd_of {x : Exp.Ex} (hok : x.Ok) : x.Bd := fun _ hi => Exp.at_lt hok hi

theorem has_nat_any (S j : Nat) (r : Bool) (hS : S < 2 ^ 64) (h : S.testBit j = r) (w : World) :
    Calls Tryz.prog 134 #[.int .u64 S, .int .i64 j] w fun e w' => e = .returned (.bool r) ∧ w' = w := by
  have := has_any S j w hS
  rw [has_nat hS, h] at this
  exact this.mono fun _ _ ⟨h1, h2⟩ => ⟨h1, h2.symm⟩
set_option maxRecDepth 100000 in
set_option maxHeartbeats 2000000 in
theorem matcher1_any (x : Exp.Ex) (hx : x.Bd) (m d k B : Nat) (r : Bool) (hr : x.mB m d k = r) (w : World) (R : Row w B 24 (exL x)) :
    Calls Tryz.prog 159 #[.int .i64 m, .int .i64 d, .int .i64 k, .pointer (some ⟨B, 0, none⟩)] w fun e w' => e = .returned (.bool r) ∧ Below w.heap.size w w' := by
  have c3 := R.cell 3; have c4 := R.cell 4; have c5 := R.cell 5; have c6 := R.cell 6; have c7 := R.cell 7
  simp only [exL, List.getElem?_cons_zero, List.getElem?_cons_succ] at c3 c4 c5 c6 c7
  obtain ⟨bm, hm⟩ : ∃ b, x.a4.testBit m = b := ⟨_, rfl⟩
  obtain ⟨bd, hd⟩ : ∃ b, x.a3.testBit d = b := ⟨_, rfl⟩
  obtain ⟨bk, hk⟩ : ∃ b, x.a5.testBit k = b := ⟨_, rfl⟩
  unfold Exp.Ex.mB at hr
  rw [hm, hd, hk] at hr
  have lm := hx 4 (by decide); have ld := hx 3 (by decide); have lk := hx 5 (by decide)
  simp only [Exp.Ex.at] at lm ld lk
  have BW := Lib.hid (fun nq => below_drewN w.heap.size w nq)
  have HR := Lib.hid hr
  clear hx R hr
  cases h3 : x.b3 <;> cases h5 : x.b5
  all_goals
    rw [h3] at c6
    rw [h5] at c7
    go_enter Tryz.func159, Tryz.ntmps159
    go_wp2_with fail
    go_quiet (first | (go_at_call 134; exact Calls.quiet_of_same (has_nat_any _ _ _ (by assumption) (by assumption) _)))
    have hr := HR.out
    rw [h3, h5] at hr
    clear HR h3 h5
    cases bm <;> cases bd <;> cases bk
    all_goals
      obtain rfl := hr
      go_wp2_with (go_at_call 134; refine (has_nat_any _ _ _ lm hm _).mono ?_; rintro e w1 ⟨rfl, rfl⟩)
      go_ret
      exact ⟨rfl, BW.out _⟩
theorem matcher_any (x : Exp.Ex) (w : World) :
    Calls Tryz.prog 144 #[.agg #[.int .u64 x.a0, .int .u64 x.a1, .int .u64 x.a2, .int .u64 x.a3, .int .u64 x.a4, .int .u64 x.a5, .bool x.b3, .bool x.b5]] w fun e w' => e = .returned (.func (.func 159) #[] #[.pointer (some ⟨w.heap.size, 0, none⟩)]) ∧ w' = w.alloc (.cells #[.int .u64 x.a0, .int .u64 x.a1, .int .u64 x.a2, .int .u64 x.a3, .int .u64 x.a4, .int .u64 x.a5, .bool x.b3, .bool x.b5] 24) := by
  go_enter Tryz.func144, Tryz.ntmps144
  go_wp2
  go_ret
  exact ⟨rfl, rfl⟩
theorem lenM_any (m : Nat) (w : World) (L : LayM w) :
    Calls Tryz.prog 146 #[.int .i64 2000, .int .i64 m] w fun e w' => (∃ q, e = .returned (.tuple #[.int .i64 (lenM m), .int .i64 q])) ∧ w = w' := by
  unfold lenM
  split
  · exact (Cv.length_yes 2000 m w L.c (by omega) (by omega) (by omega) (by omega)).mono fun _ _ ⟨h1, h2⟩ => ⟨⟨_, h1⟩, h2⟩
  · exact (Cv.length_no 2000 m w (by omega)).mono fun _ _ ⟨h1, h2⟩ => ⟨⟨_, h1⟩, h2⟩
theorem numbers_up (S : Nat) (v : Int) (w : World) :
    Calls Tryz.prog 148 #[.int .i64 1, .int .u64 S, .int .i64 v] w fun e w' => e = .returned (.func (.func 163) #[] #[.pointer (some ⟨w.heap.size, 0, none⟩), .pointer (some ⟨w.heap.size + 1, 0, none⟩), .pointer (some ⟨w.heap.size + 1 + 1, 0, none⟩)]) ∧
      w' = ((w.alloc (.cells #[.int .i64 1] 124)).alloc (.cells #[.int .u64 S] 22)).alloc (.cells #[.int .i64 v] 3) := numbers_any .up S v w
end Go.Proofs.YtljackjcgfaanaaGreatDoor
