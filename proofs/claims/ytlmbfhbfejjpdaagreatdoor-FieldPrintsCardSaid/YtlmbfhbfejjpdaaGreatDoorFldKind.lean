/- A kind that came in: what the frames of the statements over kinds take out of it. -/
import Derived.Test.YtlmbfhbfejjpdaaGreatDoorFldV
import Derived.Test.YtlmbfhbfejjpdaaGreatDoorFldLaid
import Derived.SliceStrings
namespace Go.Proofs.YtlmbfhbfejjpdaaGreatDoor
open Go.ChangeShapes Go.WideShapes Go.ChangeAt Go.RowKit

theorem strs_arg (W : World) (x : Addr) (len cap : Nat) (ss : List ByteArray) (hl : len ≤ cap) (hz : ss.length = cap) (hcell : ∀ i, i < ss.length → W.cell? (x.add i) = some (.string (ss.getD i ByteArray.empty))) :
    IsStrs W (.slice (some x) len cap) (ss.take len) ∧ (ss.take len).length = len := by
  have hlen : (ss.take len).length = len := by rw [List.length_take]; omega
  refine ⟨⟨some x, cap, by rw [hlen], by omega, fun hp => ?_⟩, hlen⟩
  obtain ⟨b, o, s⟩ := x
  have hs' : s = none := by simpa [Addr.add] using World.cell?_spot (hcell 0 (by omega))
  subst hs'
  refine ⟨b, o, rfl, ?_, fun j y hy => ?_⟩
  · have := hcell 0 (by omega)
    exact Lib.lt_of_cell (a := ⟨b, o, none⟩) (by rw [add_flat, Nat.add_zero] at this; exact this)
  · have hj : j < (ss.take len).length := (List.getElem?_eq_some_iff.1 hy).1
    have hc := hcell j (by omega)
    rw [add_flat] at hc
    rw [hc]
    rw [List.getElem?_take_of_lt (by omega)] at hy
    rw [List.getD_eq_getElem?_getD, hy]
    rfl
set_option maxRecDepth 100000 in
theorem open_kind_or {H : Type} {enc : TypeId × Value → H} {W : World} {base b : Nat} {held : Bool} {r : Reach} {v : Value} {d : DataW H} {p : List MemPlace}
    (hv : Value.okWide Tryz.prog W r b 24 v) (h : DataW.Trod enc Tryz.prog W base (fun _ => true) held 24 v d p) :
    ∃ (lo hi : Int) (u : Value) (xs : List ByteArray) (wk : Bool), v = .agg #[.int .i64 lo, .int .i64 hi, u, .bool wk] ∧
      (IsStrs W u xs ∧ xs.length ≤ 9223372036854775807 ∧ ∀ x ∈ xs, x.size ≤ 9223372036854775807) ∧ (u = .slice none 0 0 ∨ ∃ x n c, u = .slice (some x) n c) := by
  obtain ⟨cs, rfl, hsz⟩ := okWide_struct Tryz.underlying24 hv
  obtain ⟨fuel, hf⟩ := h
  obtain ⟨xs, n, _, _, hl, hlen, hg⟩ := DataW.trod_struct Tryz.underlying24 hf
  have c1 : Tryz.prog.cellsOf 3 = 1 := by kernel_rfl
  have c2 : Tryz.prog.cellsOf 22 = 1 := by kernel_rfl
  have c3 : Tryz.prog.cellsOf 4 = 1 := by kernel_rfl
  have c4 : Tryz.prog.cellsOf 24 = 4 := by kernel_rfl
  obtain ⟨l⟩ := cs
  have hl4 : l.length = 4 := by rw [← c4]; simpa [Value.cells] using hl
  have hx4 : xs.length = 4 := hlen
  match l, hl4, xs, hx4 with
  | [v0, v1, v2, v3], _, [x0, x1, x2, x3], _ =>
    have g0 := hg 0 _ rfl
    change DataW.trod enc Tryz.prog W base (fun _ => true) held n 3 (([v0, v1, v2, v3].drop 0).take (Tryz.prog.cellsOf 3)) = some x0 at g0
    rw [c1] at g0
    change DataW.trod enc Tryz.prog W base (fun _ => true) held n 3 [v0] = some x0 at g0
    have g1 := hg 1 _ rfl
    change DataW.trod enc Tryz.prog W base (fun _ => true) held n 3 (([v0, v1, v2, v3].drop 1).take (Tryz.prog.cellsOf 3)) = some x1 at g1
    rw [c1] at g1
    change DataW.trod enc Tryz.prog W base (fun _ => true) held n 3 [v1] = some x1 at g1
    have g2 := hg 2 _ rfl
    change DataW.trod enc Tryz.prog W base (fun _ => true) held n 22 (([v0, v1, v2, v3].drop 2).take (Tryz.prog.cellsOf 22)) = some x2 at g2
    rw [c2] at g2
    change DataW.trod enc Tryz.prog W base (fun _ => true) held n 22 [v2] = some x2 at g2
    have g3 := hg 3 _ rfl
    change DataW.trod enc Tryz.prog W base (fun _ => true) held n 4 (([v0, v1, v2, v3].drop 3).take (Tryz.prog.cellsOf 4)) = some x3 at g3
    rw [c3] at g3
    change DataW.trod enc Tryz.prog W base (fun _ => true) held n 4 [v3] = some x3 at g3
    obtain ⟨n0, e0, _, w0⟩ := DataW.trod_int Tryz.underlying3 g0
    obtain ⟨n1, e1, _, w1⟩ := DataW.trod_int Tryz.underlying3 g1
    obtain ⟨b3, e3, _⟩ := DataW.trod_bool Tryz.underlying4 g3
    simp only [List.cons.injEq, and_true] at e0 e1 e3
    subst e0 e1 e3
    rcases open_strings Tryz.underlying22 Tryz.underlying9 (by kernel_rfl) g2 with ⟨hcs, _⟩ | ⟨x, len, cap, ss, hcs, _, hlc, hm, hz, _, hcell, hs⟩
    · simp only [List.cons.injEq, and_true] at hcs
      subst hcs
      exact ⟨n0, n1, _, [], b3, rfl, ⟨⟨none, 0, rfl, Nat.le_refl _, fun h => by simp at h⟩, by simp, fun x h => by cases h⟩, .inl rfl⟩
    · simp only [List.cons.injEq, and_true] at hcs
      subst hcs
      obtain ⟨s1, s2⟩ := strs_arg W x len cap ss hlc (by simpa using hz) hcell
      refine ⟨n0, n1, _, _, b3, rfl, ⟨s1, by rw [s2]; unfold maxLen at hm; omega, fun y hy => ?_⟩, .inr ⟨_, _, _, rfl⟩⟩
      have := hs y (List.mem_of_mem_take hy)
      unfold maxLen at this
      exact this
set_option maxRecDepth 100000 in
theorem open_kind {H : Type} {enc : TypeId × Value → H} {W : World} {base b : Nat} {held : Bool} {r : Reach} {v : Value} {d : DataW H} {p : List MemPlace}
    (hv : Value.okWide Tryz.prog W r b 24 v) (h : DataW.Trod enc Tryz.prog W base (fun _ => true) held 24 v d p) :
    ∃ (lo hi : Int) (u : Value) (xs : List ByteArray) (wk : Bool), v = .agg #[.int .i64 lo, .int .i64 hi, u, .bool wk] ∧
      (IsStrs W u xs ∧ xs.length ≤ 9223372036854775807 ∧ ∀ x ∈ xs, x.size ≤ 9223372036854775807) := by
  obtain ⟨lo, hi, u, xs, wk, h1, h2, _⟩ := open_kind_or hv h
  exact ⟨lo, hi, u, xs, wk, h1, h2⟩
end Go.Proofs.YtlmbfhbfejjpdaaGreatDoor
