/- The document's items as a slice of the call's own; what scanning a field says, place by place. No walk stands here. -/
import Derived.Test.YtlmbfhbfejjpdaaGreatDoorFldFF
import Derived.Test.YtlmbfhbfejjpdaaGreatDoorFldO
namespace Go.Proofs.YtlmbfhbfejjpdaaGreatDoor
open Go.ChangeShapes Go.WideShapes Go.RowKit Go.Shelf

/-- a list of items of the document of the call's own; z: what lay before -/
structure Own7 (z : Nat) (w : World) (v : Value) (l : List DI) (wr : World) : Prop where
  row : wr.ownsRow z 72 7 v l.length (flatI l)
  below : Below z w wr
theorem info7 : (Tryz.prog.info? 72).map (fun i => (i.zero, i.size, i.bytes)) = some (some (.agg #[.bool false, .int .i64 0, .int .i64 0, .int .i64 0, .int .i64 0, .int .i64 0, .int .i64 0]), 7, 56) := by kernel_rfl
theorem Own7.step {z : Nat} {w wr w1 : World} {v v' : Value} {l : List DI} {o : Obj} {d : DI} (h : Own7 z w v l wr) (hz : z ≤ wr.heap.size)
    (hown : w1.ownsRow z 72 7 v' (l.length + 1) (flatI l ++ d.cells)) (hg : (wr.alloc o).grownBy w1 v.ownBlock) : Own7 z w v' (l ++ [d]) w1 := by
  refine ⟨by rw [flatI_snoc]; simpa using hown, (h.below.alloc hz o).grown hg (by simp; omega) (fun k hk => (h.row.lt k hk).1)⟩
theorem Own7.next {z : Nat} {w wr w1 : World} {v : Value} {l : List DI} (h : Own7 z w v l wr) (hz : z ≤ wr.heap.size) (hb : Below wr.heap.size wr w1) : Own7 z w v l w1 :=
  ⟨own_below h.row hb, h.below.trans (hb.mono hz)⟩
/-! scanning from a place on -/
theorem scan_f {K : Fld.Kd} {s : ByteArray} {a q : Nat} (h : Fld.item K (s.data.toList.drop a) a = .inr q) : Fld.scan K (s.data.toList.drop a) a = ([], some q) := by
  rw [Fld.scan_go, h, Fld.go_fail]
theorem scan_e {K : Fld.Kd} {s : ByteArray} {a q : Nat} {x : Fld.It} {r : List UInt8} (h : Fld.item K (s.data.toList.drop a) a = .inl (x, q, r)) (hr : r = s.data.toList.drop q) (hq : q = s.size) : Fld.scan K (s.data.toList.drop a) a = ([x], none) := by
  rw [Fld.scan_go, h, hr, drop_end s q (by omega), Fld.go_end]
theorem scan_c {K : Fld.Kd} {s : ByteArray} {a q : Nat} {x : Fld.It} {r : List UInt8} (h : Fld.item K (s.data.toList.drop a) a = .inl (x, q, r)) (hr : r = s.data.toList.drop q) (hq : q < s.size) (hc : s[q] = 44) :
    Fld.scan K (s.data.toList.drop a) a = (x :: (Fld.scan K (s.data.toList.drop (q + 1)) (q + 1)).1, (Fld.scan K (s.data.toList.drop (q + 1)) (q + 1)).2) := by
  rw [Fld.scan_go, h, hr, drop_cons s q hq, hc, Fld.go_comma]
theorem scan_j {K : Fld.Kd} {s : ByteArray} {a q : Nat} {x : Fld.It} {r : List UInt8} (h : Fld.item K (s.data.toList.drop a) a = .inl (x, q, r)) (hr : r = s.data.toList.drop q) (hq : q < s.size) (hc : s[q] ≠ 44) :
    Fld.scan K (s.data.toList.drop a) a = ([], some q) := by
  rw [Fld.scan_go, h, hr, drop_cons s q hq, Fld.go_junk _ _ _ _ _ hc]
/-- where an item ends -/
theorem item_rest {K : Fld.Kd} {s : ByteArray} {a q : Nat} {x : Fld.It} {r : List UInt8} (ha : a ≤ s.size) (h : Fld.item K (s.data.toList.drop a) a = .inl (x, q, r)) : a ≤ q ∧ q ≤ s.size ∧ r = s.data.toList.drop q := by
  obtain ⟨h1, h2, h3⟩ := Fld.item_len h
  rw [List.length_drop, ← Lib.size_eq] at h2
  refine ⟨h1, by omega, ?_⟩
  rw [h3, List.drop_drop]
  congr 1
  omega
theorem item_stop {K : Fld.Kd} {s : ByteArray} {a q : Nat} (ha : a ≤ s.size) (h : Fld.item K (s.data.toList.drop a) a = .inr q) : a ≤ q ∧ q ≤ s.size := by
  obtain ⟨h1, h2⟩ := Fld.item_fail h
  rw [List.length_drop, ← Lib.size_eq] at h2
  exact ⟨h1, by omega⟩
/-- how far the items have been read: pre are those before place a -/
def ScanAt (K : Fld.Kd) (s : ByteArray) (pre : List Fld.It) (a : Nat) : Prop :=
  ∀ ys o, Fld.scan K (s.data.toList.drop a) a = (ys, o) → (o = none → Fld.scan K s.data.toList 0 = (pre ++ ys, none)) ∧ (∀ q, o = some q → (Fld.scan K s.data.toList 0).2 = some q)
theorem scanAt_zero (K : Fld.Kd) (s : ByteArray) : ScanAt K s [] 0 := by
  intro ys o h
  rw [List.drop_zero] at h
  rw [h]
  exact ⟨fun e => by rw [e]; rfl, fun q e => e⟩
theorem ScanAt.comma {K : Fld.Kd} {s : ByteArray} {pre : List Fld.It} {a q : Nat} {x : Fld.It} {r : List UInt8} (S : ScanAt K s pre a) (h : Fld.item K (s.data.toList.drop a) a = .inl (x, q, r)) (hr : r = s.data.toList.drop q) (hq : q < s.size) (hc : s[q] = 44) : ScanAt K s (pre ++ [x]) (q + 1) := by
  intro ys o e
  have := S (x :: ys) o (by rw [scan_c h hr hq hc, e])
  exact ⟨fun z => by rw [this.1 z]; simp, this.2⟩
theorem ScanAt.stop {K : Fld.Kd} {s : ByteArray} {pre : List Fld.It} {a q : Nat} (S : ScanAt K s pre a) (h : Fld.item K (s.data.toList.drop a) a = .inr q) : (Fld.scan K s.data.toList 0).2 = some q := (S _ _ (scan_f h)).2 q rfl
theorem ScanAt.junk {K : Fld.Kd} {s : ByteArray} {pre : List Fld.It} {a q : Nat} {x : Fld.It} {r : List UInt8} (S : ScanAt K s pre a) (h : Fld.item K (s.data.toList.drop a) a = .inl (x, q, r)) (hr : r = s.data.toList.drop q) (hq : q < s.size) (hc : s[q] ≠ 44) : (Fld.scan K s.data.toList 0).2 = some q := (S _ _ (scan_j h hr hq hc)).2 q rfl
theorem ScanAt.done {K : Fld.Kd} {s : ByteArray} {pre : List Fld.It} {a q : Nat} {x : Fld.It} {r : List UInt8} (S : ScanAt K s pre a) (h : Fld.item K (s.data.toList.drop a) a = .inl (x, q, r)) (hr : r = s.data.toList.drop q) (hq : q = s.size) : Fld.scan K s.data.toList 0 = (pre ++ [x], none) := (S _ _ (scan_e h hr hq)).1 rfl
end Go.Proofs.YtlmbfhbfejjpdaaGreatDoor
