/- Contracts of six and digits, of the statements. Kinds as the statements have them, and the document's: short, spec, ref, texts; the document's upper and Check. -/
import Derived.Test.YtbehendogcghjaaDoorMFldO
import Derived.Lib.ConvBytes
/- Contracts of six and digits, of the statements. -/
namespace Go.Proofs.YtbehendogcghjaaDoor
open Go.ChangeShapes Go.WideShapes Go.RowKit Go.Shelf

theorem six_full (i : Nat) (h : i < 6) : fullK (kd6 i) ≠ 0 ∧ fullK (kd6 i) < 2 ^ 64 :=
  six_cases h (P := fun i => fullK (kd6 i) ≠ 0 ∧ fullK (kd6 i) < 2 ^ 64) (by decide) (by decide) (by decide) (by decide) (by decide) (by decide)
/-- the kind i in memory -/
theorem Six.at_ {W : World} {a : Nat} (h : Six W a) (i : Nat) (hi : i < 6) :
    W.cell? ⟨a + 1 + 1, i * 4, none⟩ = some (.int .i64 (kd6 i).lo) ∧ W.cell? ⟨a + 1 + 1, i * 4 + 1, none⟩ = some (.int .i64 (kd6 i).hi) ∧ W.cell? ⟨a + 1 + 1, i * 4 + 2, none⟩ = some (na6 a i) ∧ W.cell? ⟨a + 1 + 1, i * 4 + 3, none⟩ = some (.bool (kd6 i).week) := by
  simp only [h.cell]
  match i, hi with
  | 0, _ => exact ⟨rfl, rfl, rfl, rfl⟩
  | 1, _ => exact ⟨rfl, rfl, rfl, rfl⟩
  | 2, _ => exact ⟨rfl, rfl, rfl, rfl⟩
  | 3, _ => exact ⟨rfl, rfl, rfl, rfl⟩
  | 4, _ => exact ⟨rfl, rfl, rfl, rfl⟩
  | 5, _ => exact ⟨rfl, rfl, rfl, rfl⟩
theorem na6_slice (a i : Nat) (hi : i < 6) : ∃ A L C, na6 a i = .slice A L C ∧ ∀ b o, A = some ⟨b, o, none⟩ → a ≤ b := by
  match i, hi with
  | 0, _ => exact ⟨_, _, _, rfl, fun _ _ h => by cases h⟩
  | 1, _ => exact ⟨_, _, _, rfl, fun _ _ h => by cases h⟩
  | 2, _ => exact ⟨_, _, _, rfl, fun _ _ h => by cases h⟩
  | 3, _ => exact ⟨_, _, _, rfl, fun _ _ h => by cases h⟩
  | 4, _ => exact ⟨_, _, _, rfl, fun _ _ h => by cases h; omega⟩
  | 5, _ => exact ⟨_, _, _, rfl, fun _ _ h => by cases h; omega⟩
end Go.Proofs.YtbehendogcghjaaDoor
/- Kinds as the statements have them, and the document's: short, spec, ref, texts; the document's upper and Check. -/
namespace Go.Proofs.YtbehendogcghjaaDoor
open Go.ChangeShapes Go.WideShapes Go.RowKit Go.Shelf

/-- a kind in block B, in a world since w -/
structure KBox (w W : World) (B : Nat) (lo hi : Int) (v : Value) (xs : List ByteArray) (wk : Bool) : Prop where
  below : Below w.heap.size w W
  lt : B < W.heap.size
  strs : IsStrs W v xs
  c0 : W.cell? ⟨B, 0, none⟩ = some (.int .i64 lo)
  c1 : W.cell? ⟨B, 1, none⟩ = some (.int .i64 hi)
  c2 : W.cell? ⟨B, 2, none⟩ = some v
  c3 : W.cell? ⟨B, 3, none⟩ = some (.bool wk)
theorem KBox.new (w : World) (lo hi : Int) (v : Value) (xs : List ByteArray) (wk : Bool) (t : TypeId) (hv : IsStrs w v xs) : KBox w (w.alloc (.cells #[.int .i64 lo, .int .i64 hi, v, .bool wk] t)) w.heap.size lo hi v xs wk := by
  have B1 : Below w.heap.size w (w.alloc (.cells #[.int .i64 lo, .int .i64 hi, v, .bool wk] t)) := (Below.refl _ _).alloc (Nat.le_refl _) _
  have hh := World.alloc_heap_new w (.cells #[.int .i64 lo, .int .i64 hi, v, .bool wk] t)
  exact ⟨B1, by simp, hv.below B1, by simp only [World.cell?, hh]; rfl, by simp only [World.cell?, hh]; rfl, by simp only [World.cell?, hh]; rfl, by simp only [World.cell?, hh]; rfl⟩
theorem KBox.next {w W W' : World} {B : Nat} {lo hi : Int} {v : Value} {xs : List ByteArray} {wk : Bool} (h : KBox w W B lo hi v xs wk) (hb : Below W.heap.size W W') : KBox w W' B lo hi v xs wk :=
  ⟨h.below.trans (hb.mono h.below.size), Nat.lt_of_lt_of_le h.lt hb.size, h.strs.below hb, (hb.cell (p := ⟨B, 0, none⟩) h.lt).trans h.c0, (hb.cell (p := ⟨B, 1, none⟩) h.lt).trans h.c1, (hb.cell (p := ⟨B, 2, none⟩) h.lt).trans h.c2, (hb.cell (p := ⟨B, 3, none⟩) h.lt).trans h.c3⟩
theorem KBox.drewN {w W : World} {B : Nat} {lo hi : Int} {v : Value} {xs : List ByteArray} {wk : Bool} (h : KBox w W B lo hi v xs wk) (n : Nat) : KBox w (W.drewN n) B lo hi v xs wk := h.next (below_drewN _ W n)
theorem two_new (w : World) (o1 o2 : Obj) : Below w.heap.size w ((w.alloc o1).alloc o2) := ((Below.refl _ w).alloc (Nat.le_refl _) o1).alloc (by simp) o2
end Go.Proofs.YtbehendogcghjaaDoor
