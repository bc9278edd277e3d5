/- Contracts of Specs of package field and of six, of the statements: the six kinds. -/
import Derived.Test.YtlmbfhbfejjpdaaGreatDoorFldP
namespace Go.Proofs.YtlmbfhbfejjpdaaGreatDoor
open Go.ChangeShapes Go.WideShapes Go.RowKit Go.Shelf

/-- the names of the months, and of the days of the week -/
def xsM : List ByteArray := [⟨#[74, 65, 78]⟩, ⟨#[70, 69, 66]⟩, ⟨#[77, 65, 82]⟩, ⟨#[65, 80, 82]⟩, ⟨#[77, 65, 89]⟩, ⟨#[74, 85, 78]⟩, ⟨#[74, 85, 76]⟩, ⟨#[65, 85, 71]⟩, ⟨#[83, 69, 80]⟩, ⟨#[79, 67, 84]⟩, ⟨#[78, 79, 86]⟩, ⟨#[68, 69, 67]⟩]
def xsW : List ByteArray := [⟨#[83, 85, 78]⟩, ⟨#[77, 79, 78]⟩, ⟨#[84, 85, 69]⟩, ⟨#[87, 69, 68]⟩, ⟨#[84, 72, 85]⟩, ⟨#[70, 82, 73]⟩, ⟨#[83, 65, 84]⟩]
def xs6 (i : Nat) : List ByteArray := match i with
  | 0 => []
  | 1 => []
  | 2 => []
  | 3 => []
  | 4 => xsM
  | _ => xsW
/-- the six kinds -/
def kd6 (i : Nat) : Fld.Kd := match i with
  | 0 => ⟨0, 59, bytesL [], false⟩
  | 1 => ⟨0, 59, bytesL [], false⟩
  | 2 => ⟨0, 23, bytesL [], false⟩
  | 3 => ⟨1, 31, bytesL [], false⟩
  | 4 => ⟨1, 12, bytesL xsM, false⟩
  | _ => ⟨0, 6, bytesL xsW, true⟩
theorem six_cases {i : Nat} (h : i < 6) {P : Nat → Prop} (h0 : P 0) (h1 : P 1) (h2 : P 2) (h3 : P 3) (h4 : P 4) (h5 : P 5) : P i := by
  match i, h with
  | 0, _ => exact h0
  | 1, _ => exact h1
  | 2, _ => exact h2
  | 3, _ => exact h3
  | 4, _ => exact h4
  | 5, _ => exact h5
theorem kd6_ok (i : Nat) (h : i < 6) : (kd6 i).Ok := by
  refine six_cases h (P := fun i => (kd6 i).Ok) ?_ ?_ ?_ ?_ ?_ ?_
  · exact ⟨by decide, by decide, by decide, .inl rfl, (fun s hs => by cases hs), List.Pairwise.nil⟩
  · exact ⟨by decide, by decide, by decide, .inl rfl, (fun s hs => by cases hs), List.Pairwise.nil⟩
  · exact ⟨by decide, by decide, by decide, .inl rfl, (fun s hs => by cases hs), List.Pairwise.nil⟩
  · exact ⟨by decide, by decide, by decide, .inl rfl, (fun s hs => by cases hs), List.Pairwise.nil⟩
  · exact ⟨by decide, by decide, by decide, .inr rfl, by decide, by decide⟩
  · exact ⟨by decide, by decide, by decide, .inr rfl, by decide, by decide⟩
theorem kd6_is (i : Nat) (h : i < 6) : KdIs (kd6 i).lo (kd6 i).hi (xs6 i) (kd6 i).week (kd6 i) :=
  ⟨rfl, rfl, six_cases h (P := fun i => (kd6 i).names = bytesL (xs6 i)) rfl rfl rfl rfl rfl rfl, rfl, kd6_ok i h⟩
/-- the names of a kind, in memory -/
def na6 (a i : Nat) : Value := match i with
  | 0 => .slice none 0 0
  | 1 => .slice none 0 0
  | 2 => .slice none 0 0
  | 3 => .slice none 0 0
  | 4 => .slice (some ⟨a, 0, none⟩) 12 12
  | _ => .slice (some ⟨a + 1, 0, none⟩) 7 7
/-- the six kinds, in three blocks from a on -/
structure Six (W : World) (a : Nat) : Prop where
  months : W.heap[a]? = some (.cells (xsM.map Value.string).toArray 9 (0, 0))
  days : W.heap[a + 1]? = some (.cells (xsW.map Value.string).toArray 9 (0, 0))
  kinds : W.heap[a + 1 + 1]? = some (.cells #[.int .i64 0, .int .i64 59, .slice none 0 0, .bool false, .int .i64 0, .int .i64 59, .slice none 0 0, .bool false, .int .i64 0, .int .i64 23, .slice none 0 0, .bool false, .int .i64 1, .int .i64 31, .slice none 0 0, .bool false, .int .i64 1, .int .i64 12, .slice (some ⟨a, 0, none⟩) 12 12, .bool false, .int .i64 0, .int .i64 6, .slice (some ⟨a + 1, 0, none⟩) 7 7, .bool true] 30 (0, 0))
theorem Six.lt {W : World} {a : Nat} (h : Six W a) : a + 1 + 1 < W.heap.size := (Array.getElem?_eq_some_iff.1 h.kinds).1
theorem Six.below {W W' : World} {a : Nat} (h : Six W a) (hb : Below W.heap.size W W') : Six W' a := by
  have := h.lt
  exact ⟨(hb.block _ (by omega)).trans h.months, (hb.block _ (by omega)).trans h.days, (hb.block _ this).trans h.kinds⟩
theorem Six.cell {W : World} {a : Nat} (h : Six W a) (k : Nat) : W.cell? ⟨a + 1 + 1, k, none⟩ = (#[Value.int .i64 0, .int .i64 59, .slice none 0 0, .bool false, .int .i64 0, .int .i64 59, .slice none 0 0, .bool false, .int .i64 0, .int .i64 23, .slice none 0 0, .bool false, .int .i64 1, .int .i64 31, .slice none 0 0, .bool false, .int .i64 1, .int .i64 12, .slice (some ⟨a, 0, none⟩) 12 12, .bool false, .int .i64 0, .int .i64 6, .slice (some ⟨a + 1, 0, none⟩) 7 7, .bool true] : Array Value)[k]? := by
  simp only [World.cell?, h.kinds]
  cases h' : (_ : Array Value)[k]? <;> rfl
theorem strs_block {W : World} {a : Nat} {xs : List ByteArray} (h : W.heap[a]? = some (.cells (xs.map Value.string).toArray 9 (0, 0))) : IsStrs W (.slice (some ⟨a, 0, none⟩) xs.length xs.length) xs := by
  refine ⟨_, _, rfl, Nat.le_refl _, fun _ => ⟨a, 0, rfl, (Array.getElem?_eq_some_iff.1 h).1, fun j x hx => ?_⟩⟩
  rw [Nat.zero_add]
  simp only [World.cell?, h, List.getElem?_toArray, List.getElem?_map, hx]
  rfl
theorem strs_nil (W : World) : IsStrs W (.slice none 0 0) [] := ⟨none, 0, rfl, Nat.le_refl _, fun h => by simp at h⟩
theorem Six.strs {W : World} {a : Nat} (h : Six W a) (i : Nat) (hi : i < 6) : IsStrs W (na6 a i) (xs6 i) :=
  six_cases hi (P := fun i => IsStrs W (na6 a i) (xs6 i)) (strs_nil W) (strs_nil W) (strs_nil W) (strs_nil W) (strs_block h.months) (strs_block h.days)
theorem heap_old (w : World) (o : Obj) (b : Nat) (h : b < w.heap.size) : (w.alloc o).heap[b]? = w.heap[b]? := Below.heap_alloc w o b h
theorem six_allocs {w : World} {o1 o2 o3 : Obj} (h1 : o1 = .cells (xsM.map Value.string).toArray 9) (h2 : o2 = .cells (xsW.map Value.string).toArray 9)
    (h3 : o3 = .cells #[.int .i64 0, .int .i64 59, .slice none 0 0, .bool false, .int .i64 0, .int .i64 59, .slice none 0 0, .bool false, .int .i64 0, .int .i64 23, .slice none 0 0, .bool false, .int .i64 1, .int .i64 31, .slice none 0 0, .bool false, .int .i64 1, .int .i64 12, .slice (some ⟨w.heap.size, 0, none⟩) 12 12, .bool false, .int .i64 0, .int .i64 6, .slice (some ⟨w.heap.size + 1, 0, none⟩) 7 7, .bool true] 30) : Six (((w.alloc o1).alloc o2).alloc o3) w.heap.size := by
  have s1 : (w.alloc o1).heap.size = w.heap.size + 1 := by simp
  have s2 : ((w.alloc o1).alloc o2).heap.size = (w.alloc o1).heap.size + 1 := by simp
  refine ⟨?_, ?_, ?_⟩
  · rw [heap_old _ _ _ (by omega), heap_old _ _ _ (by omega), World.alloc_heap_new, h1]
  · rw [heap_old _ _ _ (by omega), ← s1, World.alloc_heap_new, h2]
  · rw [show w.heap.size + 1 + 1 = ((w.alloc o1).alloc o2).heap.size by omega, World.alloc_heap_new, h3]
theorem three_below (w : World) (o1 o2 o3 : Obj) : Below w.heap.size w (((w.alloc o1).alloc o2).alloc o3) :=
  (((Below.refl _ w).alloc (Nat.le_refl _) o1).alloc (by simp) o2).alloc (by simp; omega) o3
set_option maxRecDepth 100000 in
set_option maxHeartbeats 2000000 in
theorem specs_any (w : World) :
    Calls Tryz.prog 20 #[] w fun e w' => e = .returned (.slice (some ⟨w.heap.size + 1 + 1, 0, none⟩) 6 6) ∧ Below w.heap.size w w' ∧ Six w' w.heap.size := by
  go_enter Tryz.func20, Tryz.ntmps20
  go_wp2
  go_ret
  exact ⟨rfl, three_below _ _ _ _, six_allocs rfl rfl rfl⟩
end Go.Proofs.YtlmbfhbfejjpdaaGreatDoor
