/- The document's items as a slice of the call's own; what scanning a field says, place by place. No walk stands here. The document's Parse: what is read, item by item; the limits of steps and places. No walk stands here. -/
import Derived.Test.YtpnfifhanmpapaaGreatDoorMRefG
import Derived.Test.YtpnfifhanmpapaaGreatDoorMFldO
/- The document's items as a slice of the call's own; what scanning a field says, place by place. No walk stands here. -/
namespace Go.Proofs.YtpnfifhanmpapaaGreatDoor
open Go.ChangeShapes Go.WideShapes Go.RowKit Go.Shelf

/-- a list of items of the document of the call's own; z: what lay before -/
structure Own7 (z : Nat) (w : World) (v : Value) (l : List DI) (wr : World) : Prop where
  row : wr.ownsRow z 150 7 v l.length (flatI l)
  below : Below z w wr
theorem info7 : (Tryz.prog.info? 150).map (fun i => (i.zero, i.size, i.bytes)) = some (some (.agg #[.bool false, .int .i64 0, .int .i64 0, .int .i64 0, .int .i64 0, .int .i64 0, .int .i64 0]), 7, 56) := by kernel_rfl
theorem Own7.step {z : Nat} {w wr w1 : World} {v v' : Value} {l : List DI} {o : Obj} {d : DI} (h : Own7 z w v l wr) (hz : z ≤ wr.heap.size)
    (hown : w1.ownsRow z 150 7 v' (l.length + 1) (flatI l ++ d.cells)) (hg : (wr.alloc o).grownBy w1 v.ownBlock) : Own7 z w v' (l ++ [d]) w1 := by
  refine ⟨by rw [flatI_snoc]; simpa using hown, (h.below.alloc hz o).grown hg (by simp; omega) (fun k hk => (h.row.lt k hk).1)⟩
theorem Own7.next {z : Nat} {w wr w1 : World} {v : Value} {l : List DI} (h : Own7 z w v l wr) (hz : z ≤ wr.heap.size) (hb : Below wr.heap.size wr w1) : Own7 z w v l w1 :=
  ⟨own_below h.row hb, h.below.trans (hb.mono hz)⟩
/-! scanning from a place on -/
theorem scan_f {K : Fld.Kd} {s : ByteArray} {a q : Nat} (h : Fld.item K (s.data.toList.drop a) a = .inr q) : Fld.scan K (s.data.toList.drop a) a = ([], some q) := by
  rw [Fld.scan_go, h, Fld.go_fail]
theorem scan_e {K : Fld.Kd} {s : ByteArray} {a q : Nat} {x : Fld.It} {r : List UInt8} (h : Fld.item K (s.data.toList.drop a) a = .inl (x, q, r)) (hr : r = s.data.toList.drop q) (hq : q = s.size) : Fld.scan K (s.data.toList.drop a) a = ([x], none) := by
  rw [Fld.scan_go, h, hr, drop_end s q (by omega), Fld.go_end]
theorem scan_c {K : Fld.Kd} {s : ByteArray} {a q : Nat} {x : Fld.It} {r : List UInt8} (h : Fld.item K (s.data.toList.drop a) a = .inl (x, q, r)) (hr : r = s.data.toList.drop q) (hq : q < s.size) (hc : s[q] = 44) :
    Fld.scan K (s.data.toList.drop a) a = (x :: (Fld.scan K (s.data.toList.drop (q + 1)) (q + 1)).1, (Fld.scan K (s.data.toList.drop (q + 1)) (q + 1)).2) := by
  rw [Fld.scan_go, h, hr, drop_cons s q hq, hc, Fld.go_comma]
theorem scan_j {K : Fld.Kd} {s : ByteArray} {a q : Nat} {x : Fld.It} {r : List UInt8} (h : Fld.item K (s.data.toList.drop a) a = .inl (x, q, r)) (hr : r = s.data.toList.drop q) (hq : q < s.size) (hc : s[q] ≠ 44) :
    Fld.scan K (s.data.toList.drop a) a = ([], some q) := by
  rw [Fld.scan_go, h, hr, drop_cons s q hq, Fld.go_junk _ _ _ _ _ hc]
/-- where an item ends -/
theorem item_rest {K : Fld.Kd} {s : ByteArray} {a q : Nat} {x : Fld.It} {r : List UInt8} (ha : a ≤ s.size) (h : Fld.item K (s.data.toList.drop a) a = .inl (x, q, r)) : a ≤ q ∧ q ≤ s.size ∧ r = s.data.toList.drop q := by
  obtain ⟨h1, h2, h3⟩ := Fld.item_len h
  rw [List.length_drop, ← Lib.size_eq] at h2
  refine ⟨h1, by omega, ?_⟩
  rw [h3, List.drop_drop]
  congr 1
  omega
theorem item_stop {K : Fld.Kd} {s : ByteArray} {a q : Nat} (ha : a ≤ s.size) (h : Fld.item K (s.data.toList.drop a) a = .inr q) : a ≤ q ∧ q ≤ s.size := by
  obtain ⟨h1, h2⟩ := Fld.item_fail h
  rw [List.length_drop, ← Lib.size_eq] at h2
  exact ⟨h1, by omega⟩
/-- how far the items have been read: pre are those before place a -/
def ScanAt (K : Fld.Kd) (s : ByteArray) (pre : List Fld.It) (a : Nat) : Prop :=
  ∀ ys o, Fld.scan K (s.data.toList.drop a) a = (ys, o) → (o = none → Fld.scan K s.data.toList 0 = (pre ++ ys, none)) ∧ (∀ q, o = some q → (Fld.scan K s.data.toList 0).2 = some q)
theorem scanAt_zero (K : Fld.Kd) (s : ByteArray) : ScanAt K s [] 0 := by
  intro ys o h
  rw [List.drop_zero] at h
  rw [h]
  exact ⟨fun e => by rw [e]; rfl, fun q e => e⟩
theorem ScanAt.comma {K : Fld.Kd} {s : ByteArray} {pre : List Fld.It} {a q : Nat} {x : Fld.It} {r : List UInt8} (S : ScanAt K s pre a) (h : Fld.item K (s.data.toList.drop a) a = .inl (x, q, r)) (hr : r = s.data.toList.drop q) (hq : q < s.size) (hc : s[q] = 44) : ScanAt K s (pre ++ [x]) (q + 1) := by
  intro ys o e
  have := S (x :: ys) o (by rw [scan_c h hr hq hc, e])
  exact ⟨fun z => by rw [this.1 z]; simp, this.2⟩
theorem ScanAt.stop {K : Fld.Kd} {s : ByteArray} {pre : List Fld.It} {a q : Nat} (S : ScanAt K s pre a) (h : Fld.item K (s.data.toList.drop a) a = .inr q) : (Fld.scan K s.data.toList 0).2 = some q := (S _ _ (scan_f h)).2 q rfl
theorem ScanAt.junk {K : Fld.Kd} {s : ByteArray} {pre : List Fld.It} {a q : Nat} {x : Fld.It} {r : List UInt8} (S : ScanAt K s pre a) (h : Fld.item K (s.data.toList.drop a) a = .inl (x, q, r)) (hr : r = s.data.toList.drop q) (hq : q < s.size) (hc : s[q] ≠ 44) : (Fld.scan K s.data.toList 0).2 = some q := (S _ _ (scan_j h hr hq hc)).2 q rfl
theorem ScanAt.done {K : Fld.Kd} {s : ByteArray} {pre : List Fld.It} {a q : Nat} {x : Fld.It} {r : List UInt8} (S : ScanAt K s pre a) (h : Fld.item K (s.data.toList.drop a) a = .inl (x, q, r)) (hr : r = s.data.toList.drop q) (hq : q = s.size) : Fld.scan K s.data.toList 0 = (pre ++ [x], none) := (S _ _ (scan_e h hr hq)).1 rfl
end Go.Proofs.YtpnfifhanmpapaaGreatDoor
/- The document's Parse: what is read, item by item; the limits of steps and places. No walk stands here. -/
namespace Go.Proofs.YtpnfifhanmpapaaGreatDoor
open Go.ChangeShapes Go.WideShapes Go.RowKit Go.Shelf

/-- the step of what was read is below 100, and its places lie within 300 bytes -/
def T99 (n : Nat) : Fld.Res → Prop
  | .inr _ => True
  | .inl (x, _, _) => x.t ≤ 99 ∧ x.fa ≤ n ∧ x.sa ≤ n ∧ x.ta ≤ n
theorem rStep_99 {n : Nat} (x : Fld.It) (l : List UInt8) (p : Nat) (hp : p ≤ n) (h1 : x.fa ≤ n) (h2 : x.sa ≤ n) : T99 n (Fld.rStep x l p) := by
  unfold Fld.rStep
  split
  · trivial
  · rename_i k j h
    exact ⟨num_bd h, h1, h2, hp⟩
theorem rNums_99 {n : Nat} (x : Fld.It) (l : List UInt8) (p : Nat) (hp : p + l.length ≤ n) (h0 : x.t ≤ 99) (h1 : x.fa ≤ n) (h2 : x.sa ≤ n) (h3 : x.ta ≤ n) : T99 n (Fld.rNums x l p) := by
  unfold Fld.rNums
  split
  · rename_i h
    obtain ⟨_, _, a⟩ := Fld.at_tail h
    exact rStep_99 x _ _ (by omega) h1 h2
  · exact ⟨h0, h1, h2, h3⟩
theorem rSec_99 {n : Nat} (K : Fld.Kd) (x : Fld.It) (l : List UInt8) (p : Nat) (hp : p + l.length ≤ n) (h0 : x.t ≤ 99) (h1 : x.fa ≤ n) (h3 : x.ta ≤ n) : T99 n (Fld.rSec K x l p) := by
  unfold Fld.rSec
  split
  · trivial
  · rename_i k j h
    have := (Fld.value_len h).2
    exact rNums_99 _ _ _ (by rw [List.length_drop]; omega) h0 h1 (by show p ≤ n; omega) h3
theorem rVal_99 {n : Nat} (K : Fld.Kd) (x : Fld.It) (l : List UInt8) (p : Nat) (hp : p + l.length ≤ n) (h0 : x.t ≤ 99) (h1 : x.fa ≤ n) (h2 : x.sa ≤ n) (h3 : x.ta ≤ n) : T99 n (Fld.rVal K x l p) := by
  unfold Fld.rVal
  split
  · rename_i h
    obtain ⟨e, _, a⟩ := Fld.at_tail h
    have : l.tail.length = l.length - 1 := by rw [List.length_tail]
    exact rSec_99 K x _ _ (by omega) h0 h1 h3
  · split
    · rename_i h
      obtain ⟨_, _, a⟩ := Fld.at_tail h
      exact rStep_99 _ _ _ (by omega) h1 h2
    · exact ⟨h0, h1, h2, h3⟩
theorem item_99 {n : Nat} (K : Fld.Kd) (l : List UInt8) (p : Nat) (hp : p + l.length ≤ n) : T99 n (Fld.item K l p) := by
  unfold Fld.item
  split
  · rename_i h
    obtain ⟨_, _, a⟩ := Fld.at_tail h
    have : l.tail.length = l.length - 1 := by rw [List.length_tail]
    exact rNums_99 _ _ _ (by omega) (by show 1 ≤ 99; omega) (Nat.zero_le _) (Nat.zero_le _) (Nat.zero_le _)
  · split
    · trivial
    · rename_i k j h
      have := (Fld.value_len h).2
      exact rVal_99 K _ _ _ (by rw [List.length_drop]; omega) (by show 1 ≤ 99; omega) (by show p ≤ n; omega) (by show p ≤ n; omega) (Nat.zero_le _)
/-- an item whose step and places are within bounds -/
def Bd (n : Nat) (x : Fld.It) : Prop := x.t ≤ 99 ∧ x.fa ≤ n ∧ x.sa ≤ n ∧ x.ta ≤ n
theorem item_bd {K : Fld.Kd} {s : ByteArray} {a q : Nat} {x : Fld.It} {r : List UInt8} (ha : a ≤ s.size) (h : Fld.item K (s.data.toList.drop a) a = .inl (x, q, r)) : Bd s.size x := by
  have := item_99 (n := s.size) K (s.data.toList.drop a) a (by rw [List.length_drop, ← Lib.size_eq]; omega)
  rw [h] at this
  exact this
/-! Parse, item by item -/
theorem bad_none_nil (K : Fld.Kd) (xs : List Fld.It) : Fld.bad K (xs.take 0) = none := rfl
theorem total_nil (K : Fld.Kd) (xs : List Fld.It) : Fld.total K (xs.take 0) = 0 := rfl
theorem bad_here {K : Fld.Kd} {xs : List Fld.It} {i q : Nat} (h : Fld.bad K (xs.take i) = none) (hi : i < xs.length) (hw : Fld.wrong K xs[i] = some q) : Fld.bad K xs = some q := by
  have e : xs = xs.take (i + 1) ++ xs.drop (i + 1) := (List.take_append_drop _ _).symm
  rw [e, Fld.bad_app, List.take_succ_eq_append_getElem hi, Fld.bad_snoc, h, hw]
  rfl
theorem bad_on {K : Fld.Kd} {xs : List Fld.It} {i : Nat} (h : Fld.bad K (xs.take i) = none) (hi : i < xs.length) (hw : Fld.wrong K xs[i] = none) : Fld.bad K (xs.take (i + 1)) = none := by
  rw [List.take_succ_eq_append_getElem hi, Fld.bad_snoc, h, hw]
  rfl
theorem total_on {K : Fld.Kd} {xs : List Fld.It} {i : Nat} (hi : i < xs.length) : Fld.total K (xs.take (i + 1)) = Fld.total K (xs.take i) ||| Fld.setOf K xs[i] := by
  rw [List.take_succ_eq_append_getElem hi, Fld.total_snoc]
theorem total_lt' {K : Fld.Kd} (O : K.Ok) {xs : List Fld.It} (h : Fld.bad K xs = none) : Fld.total K xs < 2 ^ 64 := total_lt O xs (Fld.bad_none.1 h)
theorem parse_form {K : Fld.Kd} {l : List UInt8} {q : Nat} (h : (Fld.scan K l 0).2 = some q) : Fld.parse K l = (0, false, q, 10) := by unfold Fld.parse; rw [h]
theorem parse_arg {K : Fld.Kd} {l : List UInt8} {q : Nat} (h : (Fld.scan K l 0).2 = none) (hb : Fld.bad K (Fld.scan K l 0).1 = some q) : Fld.parse K l = (0, false, q, 2) := by unfold Fld.parse; rw [h]; simp only [hb]
theorem parse_ok {K : Fld.Kd} {l : List UInt8} (h : (Fld.scan K l 0).2 = none) (hb : Fld.bad K (Fld.scan K l 0).1 = none) : Fld.parse K l = (Fld.total K (Fld.scan K l 0).1, l == [42], 0, 0) := by unfold Fld.parse; rw [h]; simp only [hb]
/-- what the document's items returns, in world W -/
def ItemsRes (K : Fld.Kd) (s : ByteArray) (W : World) (v : Value) (q : Nat) (ok : Bool) : Prop :=
  ((Fld.scan K s.data.toList 0).2 = some q ∧ q ≤ s.size ∧ ok = false ∧ v = .slice none 0 0) ∨
  ((Fld.scan K s.data.toList 0).2 = none ∧ q = 0 ∧ ok = true ∧ ∃ ds, RIs K (Fld.scan K s.data.toList 0).1 ds ∧ ds.length ≤ s.size + 1 ∧ (∀ x ∈ (Fld.scan K s.data.toList 0).1, Bd s.size x) ∧
    ∃ g cap, v = .slice (some ⟨g, 0, none⟩) ds.length cap ∧ g < W.heap.size ∧ ∀ (j : Nat) u, (flatI ds)[j]? = some u → W.cell? ⟨g, j, none⟩ = some u)
end Go.Proofs.YtpnfifhanmpapaaGreatDoor
