/- Contract of Print of package field. Contracts of Specs of package field and of six, of the statements: the six kinds. Plain facts: what is written for a set is read as this set; a star is read as all numbers. Plain facts: a comma behind a field; places; what Parse returns for two fields, and for a normal one. -/
import Derived.Test.YtbehendogcghjaaDoorFldM
import Derived.Lib.ItoaNum
import Derived.Laws.StructEq
import Derived.Maps.AppendAt
/- Contract of Print of package field. -/
namespace Go.Proofs.YtbehendogcghjaaDoor
open Go.ChangeShapes Go.WideShapes Go.RowKit Go.Shelf

/-- all numbers of a kind -/
def fullK (K : Fld.Kd) : Nat := Bit.rangeS K.lo K.hi 1
theorem fullK_is (K : Fld.Kd) : fullS K.lo K.hi = fullK K := by simp [fullS, fullK]
end Go.Proofs.YtbehendogcghjaaDoor
/- Contracts of Specs of package field and of six, of the statements: the six kinds. -/
namespace Go.Proofs.YtbehendogcghjaaDoor
open Go.ChangeShapes Go.WideShapes Go.RowKit Go.Shelf

/-- the names of the months, and of the days of the week -/
def xsM : List ByteArray := [⟨#[74, 65, 78]⟩, ⟨#[70, 69, 66]⟩, ⟨#[77, 65, 82]⟩, ⟨#[65, 80, 82]⟩, ⟨#[77, 65, 89]⟩, ⟨#[74, 85, 78]⟩, ⟨#[74, 85, 76]⟩, ⟨#[65, 85, 71]⟩, ⟨#[83, 69, 80]⟩, ⟨#[79, 67, 84]⟩, ⟨#[78, 79, 86]⟩, ⟨#[68, 69, 67]⟩]
def xsW : List ByteArray := [⟨#[83, 85, 78]⟩, ⟨#[77, 79, 78]⟩, ⟨#[84, 85, 69]⟩, ⟨#[87, 69, 68]⟩, ⟨#[84, 72, 85]⟩, ⟨#[70, 82, 73]⟩, ⟨#[83, 65, 84]⟩]
def xs6 (i : Nat) : List ByteArray := match i with
  | 0 => []
  | 1 => []
  | 2 => []
  | 3 => []
  | 4 => xsM
  | _ => xsW
/-- the six kinds -/
def kd6 (i : Nat) : Fld.Kd := match i with
  | 0 => ⟨0, 59, bytesL [], false⟩
  | 1 => ⟨0, 59, bytesL [], false⟩
  | 2 => ⟨0, 23, bytesL [], false⟩
  | 3 => ⟨1, 31, bytesL [], false⟩
  | 4 => ⟨1, 12, bytesL xsM, false⟩
  | _ => ⟨0, 6, bytesL xsW, true⟩
theorem six_cases {i : Nat} (h : i < 6) {P : Nat → Prop} (h0 : P 0) (h1 : P 1) (h2 : P 2) (h3 : P 3) (h4 : P 4) (h5 : P 5) : P i := by
  match i, h with
  | 0, _ => exact h0
  | 1, _ => exact h1
  | 2, _ => exact h2
  | 3, _ => exact h3
  | 4, _ => exact h4
  | 5, _ => exact h5
theorem kd6_ok (i : Nat) (h : i < 6) : (kd6 i).Ok := by
  refine six_cases h (P := fun i => (kd6 i).Ok) ?_ ?_ ?_ ?_ ?_ ?_
  · exact ⟨by decide, by decide, by decide, .inl rfl, (fun s hs => by cases hs), List.Pairwise.nil⟩
  · exact ⟨by decide, by decide, by decide, .inl rfl, (fun s hs => by cases hs), List.Pairwise.nil⟩
  · exact ⟨by decide, by decide, by decide, .inl rfl, (fun s hs => by cases hs), List.Pairwise.nil⟩
  · exact ⟨by decide, by decide, by decide, .inl rfl, (fun s hs => by cases hs), List.Pairwise.nil⟩
  · exact ⟨by decide, by decide, by decide, .inr rfl, by decide, by decide⟩
  · exact ⟨by decide, by decide, by decide, .inr rfl, by decide, by decide⟩
theorem kd6_is (i : Nat) (h : i < 6) : KdIs (kd6 i).lo (kd6 i).hi (xs6 i) (kd6 i).week (kd6 i) :=
  ⟨rfl, rfl, six_cases h (P := fun i => (kd6 i).names = bytesL (xs6 i)) rfl rfl rfl rfl rfl rfl, rfl, kd6_ok i h⟩
/-- the names of a kind, in memory -/
def na6 (a i : Nat) : Value := match i with
  | 0 => .slice none 0 0
  | 1 => .slice none 0 0
  | 2 => .slice none 0 0
  | 3 => .slice none 0 0
  | 4 => .slice (some ⟨a, 0, none⟩) 12 12
  | _ => .slice (some ⟨a + 1, 0, none⟩) 7 7
/-- the six kinds, in three blocks from a on -/
structure Six (W : World) (a : Nat) : Prop where
  months : W.heap[a]? = some (.cells (xsM.map Value.string).toArray 9 (0, 0))
  days : W.heap[a + 1]? = some (.cells (xsW.map Value.string).toArray 9 (0, 0))
  kinds : W.heap[a + 1 + 1]? = some (.cells #[.int .i64 0, .int .i64 59, .slice none 0 0, .bool false, .int .i64 0, .int .i64 59, .slice none 0 0, .bool false, .int .i64 0, .int .i64 23, .slice none 0 0, .bool false, .int .i64 1, .int .i64 31, .slice none 0 0, .bool false, .int .i64 1, .int .i64 12, .slice (some ⟨a, 0, none⟩) 12 12, .bool false, .int .i64 0, .int .i64 6, .slice (some ⟨a + 1, 0, none⟩) 7 7, .bool true] 105 (0, 0))
theorem Six.lt {W : World} {a : Nat} (h : Six W a) : a + 1 + 1 < W.heap.size := (Array.getElem?_eq_some_iff.1 h.kinds).1
theorem Six.below {W W' : World} {a : Nat} (h : Six W a) (hb : Below W.heap.size W W') : Six W' a := by
  have := h.lt
  exact ⟨(hb.block _ (by omega)).trans h.months, (hb.block _ (by omega)).trans h.days, (hb.block _ this).trans h.kinds⟩
theorem Six.cell {W : World} {a : Nat} (h : Six W a) (k : Nat) : W.cell? ⟨a + 1 + 1, k, none⟩ = (#[Value.int .i64 0, .int .i64 59, .slice none 0 0, .bool false, .int .i64 0, .int .i64 59, .slice none 0 0, .bool false, .int .i64 0, .int .i64 23, .slice none 0 0, .bool false, .int .i64 1, .int .i64 31, .slice none 0 0, .bool false, .int .i64 1, .int .i64 12, .slice (some ⟨a, 0, none⟩) 12 12, .bool false, .int .i64 0, .int .i64 6, .slice (some ⟨a + 1, 0, none⟩) 7 7, .bool true] : Array Value)[k]? := by
  simp only [World.cell?, h.kinds]
  cases h' : (_ : Array Value)[k]? <;> rfl
theorem strs_block {W : World} {a : Nat} {xs : List ByteArray} (h : W.heap[a]? = some (.cells (xs.map Value.string).toArray 9 (0, 0))) : IsStrs W (.slice (some ⟨a, 0, none⟩) xs.length xs.length) xs := by
  refine ⟨_, _, rfl, Nat.le_refl _, fun _ => ⟨a, 0, rfl, (Array.getElem?_eq_some_iff.1 h).1, fun j x hx => ?_⟩⟩
  rw [Nat.zero_add]
  simp only [World.cell?, h, List.getElem?_toArray, List.getElem?_map, hx]
  rfl
theorem strs_nil (W : World) : IsStrs W (.slice none 0 0) [] := ⟨none, 0, rfl, Nat.le_refl _, fun h => by simp at h⟩
theorem Six.strs {W : World} {a : Nat} (h : Six W a) (i : Nat) (hi : i < 6) : IsStrs W (na6 a i) (xs6 i) :=
  six_cases hi (P := fun i => IsStrs W (na6 a i) (xs6 i)) (strs_nil W) (strs_nil W) (strs_nil W) (strs_nil W) (strs_block h.months) (strs_block h.days)
theorem heap_old (w : World) (o : Obj) (b : Nat) (h : b < w.heap.size) : (w.alloc o).heap[b]? = w.heap[b]? := Below.heap_alloc w o b h
theorem six_allocs {w : World} {o1 o2 o3 : Obj} (h1 : o1 = .cells (xsM.map Value.string).toArray 9) (h2 : o2 = .cells (xsW.map Value.string).toArray 9)
    (h3 : o3 = .cells #[.int .i64 0, .int .i64 59, .slice none 0 0, .bool false, .int .i64 0, .int .i64 59, .slice none 0 0, .bool false, .int .i64 0, .int .i64 23, .slice none 0 0, .bool false, .int .i64 1, .int .i64 31, .slice none 0 0, .bool false, .int .i64 1, .int .i64 12, .slice (some ⟨w.heap.size, 0, none⟩) 12 12, .bool false, .int .i64 0, .int .i64 6, .slice (some ⟨w.heap.size + 1, 0, none⟩) 7 7, .bool true] 105) : Six (((w.alloc o1).alloc o2).alloc o3) w.heap.size := by
  have s1 : (w.alloc o1).heap.size = w.heap.size + 1 := by simp
  have s2 : ((w.alloc o1).alloc o2).heap.size = (w.alloc o1).heap.size + 1 := by simp
  refine ⟨?_, ?_, ?_⟩
  · rw [heap_old _ _ _ (by omega), heap_old _ _ _ (by omega), World.alloc_heap_new, h1]
  · rw [heap_old _ _ _ (by omega), ← s1, World.alloc_heap_new, h2]
  · rw [show w.heap.size + 1 + 1 = ((w.alloc o1).alloc o2).heap.size by omega, World.alloc_heap_new, h3]
theorem three_below (w : World) (o1 o2 o3 : Obj) : Below w.heap.size w (((w.alloc o1).alloc o2).alloc o3) :=
  (((Below.refl _ w).alloc (Nat.le_refl _) o1).alloc (by simp) o2).alloc (by simp; omega) o3
set_option maxRecDepth 100000 in
set_option maxHeartbeats 2000000 in
theorem specs_any (w : World) :
    Calls Tryd.prog 79 #[] w fun e w' => e = .returned (.slice (some ⟨w.heap.size + 1 + 1, 0, none⟩) 6 6) ∧ Below w.heap.size w w' ∧ Six w' w.heap.size := by
  go_enter Tryd.func79, Tryd.ntmps79
  go_wp2
  go_ret
  exact ⟨rfl, three_below _ _ _ _, six_allocs rfl rfl rfl⟩
end Go.Proofs.YtbehendogcghjaaDoor
/- Plain facts: what is written for a set is read as this set; a star is read as all numbers. -/
namespace Go.Proofs.YtbehendogcghjaaDoor
namespace Fld

/-- what stands behind an item that is whole -/
def Ends (r : List UInt8) : Prop := r = [] ∨ ∃ t, r = 44 :: t
theorem Ends.no {r : List UInt8} (h : Ends r) {k : UInt8} (hk : k ≠ 44) : ¬ r.head? = some k := by
  rcases h with rfl | ⟨t, rfl⟩
  · intro q; cases q
  · intro q
    exact hk (by simpa using q.symm)
theorem full_bit {K : Kd} (O : K.Ok) (v : Nat) : (fullK K).testBit v = decide (K.lo ≤ v ∧ v ≤ K.hi) := by
  unfold fullK
  rw [Bit.rangeS_bit O.le (Nat.le_refl _)]
  congr 1
  simp [Nat.mod_one]
/-- all numbers of S are numbers of the kind -/
def In (K : Kd) (S : Nat) : Prop := ∀ v, S.testBit v = true → K.lo ≤ v ∧ v ≤ K.hi
theorem in_of_sub {K : Kd} (O : K.Ok) {S : Nat} (h : S &&& fullK K = S) : In K S := fun v hv => by
  rw [← h, Nat.testBit_and, full_bit O] at hv
  simpa using (Bool.and_eq_true_iff.1 hv).2
end Fld
end Go.Proofs.YtbehendogcghjaaDoor
/- Plain facts: a comma behind a field; places; what Parse returns for two fields, and for a normal one. -/
namespace Go.Proofs.YtbehendogcghjaaDoor
namespace Fld

/-- more stands behind it -/
def Res.ext (m : List UInt8) : Res → Res
  | .inl (x, q, r) => .inl (x, q, r ++ m)
  | .inr q => .inr q
def two (P Q : Nat × Bool × Nat × Nat) (n : Nat) : Nat × Bool × Nat × Nat :=
  if P.2.2.2 = 10 then (0, false, P.2.2.1, 10) else if Q.2.2.2 = 10 then (0, false, Q.2.2.1 + (n + 1), 10) else if P.2.2.2 = 2 then (0, false, P.2.2.1, 2)
  else if Q.2.2.2 = 2 then (0, false, Q.2.2.1 + (n + 1), 2) else (P.1 ||| Q.1, false, 0, 0)
def Pl (x : It) (q : Nat) : Prop := x.fa < q ∧ x.sa < q ∧ x.ta < q
theorem Pl.mono {x : It} {p q : Nat} (h : Pl x p) (e : p ≤ q) : Pl x q := ⟨by have := h.1; omega, by have := h.2.1; omega, by have := h.2.2; omega⟩
theorem sub_full {K : Kd} (O : K.Ok) {S : Nat} (h : In K S) : subB S (fullK K) = true := by
  unfold subB
  rw [decide_eq_true_iff]
  apply Nat.eq_of_testBit_eq
  intro v
  rw [Nat.testBit_and, full_bit O]
  cases q : S.testBit v with
  | false => rfl
  | true => rw [Bool.true_and, decide_eq_true (h v q)]
end Fld
end Go.Proofs.YtbehendogcghjaaDoor
