/- A slice of strings that came in. -/
import Derived.Test.YtjlipkklljjdjaaDoorLexS
import Derived.SliceStrings
import Derived.SizedLaws
namespace Go.Proofs.YtjlipkklljjdjaaDoor
open Go.ChangeShapes Go.WideShapes Go.RowKit Go.Shelf

/-- the strings of a slice that came in: none is longer than the reach -/
structure StrArg (W : World) (a : Option Addr) (len cap : Nat) (xs : List ByteArray) : Prop where
  is_ : IsStrs W (.slice a len cap) xs
  count : xs.length = len
  small : ∀ x ∈ xs, x.size ≤ 140737488351232
  fit : len ≤ 9223372036854775807
  nil : a = none → len = 0 ∧ cap = 0
theorem strArg_nil (W : World) : StrArg W none 0 0 [] := ⟨⟨none, 0, rfl, Nat.le_refl _, fun h => by simp at h⟩, rfl, fun x h => by simp at h, by omega, fun _ => ⟨rfl, rfl⟩⟩
theorem strArg_mk (W : World) (x : Addr) (len cap : Nat) (ss : List ByteArray) (hl : len ≤ cap) (hm : cap ≤ maxLen) (hz : ss.length = cap) (hcell : ∀ i, i < ss.length → W.cell? (x.add i) = some (.string (ss.getD i ByteArray.empty)))
    (hs : ∀ s ∈ ss, s.size ≤ reachBytes) : StrArg W (some x) len cap (ss.take len) := by
  have hlen : (ss.take len).length = len := by rw [List.length_take]; omega
  refine ⟨⟨some x, cap, by rw [hlen], by omega, fun hp => ?_⟩, hlen, fun y hy => ?_, by unfold maxLen at hm; omega, fun e => by cases e⟩
  · obtain ⟨b, o, s⟩ := x
    have hs' : s = none := by simpa [Addr.add] using World.cell?_spot (hcell 0 (by omega))
    subst hs'
    refine ⟨b, o, rfl, ?_, fun j y hy => ?_⟩
    · have := hcell 0 (by omega)
      exact Lib.lt_of_cell (a := ⟨b, o, none⟩) (by rw [add_flat, Nat.add_zero] at this; exact this)
    · have hj : j < (ss.take len).length := (List.getElem?_eq_some_iff.1 hy).1
      have hc := hcell j (by omega)
      rw [add_flat] at hc
      rw [hc]
      rw [List.getElem?_take_of_lt (by omega)] at hy
      rw [List.getD_eq_getElem?_getD, hy]
      rfl
  · have := hs y (List.mem_of_mem_take hy)
    simp only [reachBytes] at this
    omega
/-- each string of a slice among the arguments is within the reach -/
theorem strs_reach {H : Type} {P : Program} {ts : List TypeId} {ds : List (DataW H)} (h : (DataW.weightsEach P ts ds).all (· ≤ reachBytes) = true) {j len : Nat} {t e : TypeId} {ss : List ByteArray} (ht : ts[j]? = some t)
    (hd : ds[j]? = some (.slice (strs (ss.take len)) (strs (ss.drop len)))) (hu : P.underlying t = some (.slice e)) : ∀ s ∈ ss, s.size ≤ reachBytes := by
  intro s hs
  have key : ∀ l : List ByteArray, s ∈ l → s.data.toList.length ∈ DataW.weightsAll P e (strs (H := H) l) := by
    intro l
    induction l with
    | nil => intro h; simp at h
    | cons x r ih =>
      intro h
      simp only [strs, List.map_cons, DataW.weightsAll, DataW.weights, List.mem_append]
      rcases List.mem_cons.1 h with rfl | h
      · exact .inl (by simp)
      · exact .inr (ih h)
  have hm : s.data.toList.length ∈ (DataW.slice (strs (H := H) (ss.take len)) (strs (ss.drop len))).weights P t := by
    simp only [DataW.weights, hu, List.mem_cons, List.mem_append]
    rw [← List.take_append_drop len ss, List.mem_append] at hs
    rcases hs with h | h
    · exact .inr (.inl (key _ h))
    · exact .inr (.inr (key _ h))
  have := List.all_eq_true.1 h _ (DataW.weights_mem_each ht hd _ hm)
  rw [Lib.size_eq]
  simpa using this
/-- where string k of a slice stands -/
theorem IsStrs.at_ {W : World} {a : Option Addr} {len cap : Nat} {xs : List ByteArray} (h : IsStrs W (.slice a len cap) xs) (k : Nat) (hk : k < xs.length) :
    ∃ b o, a = some ⟨b, o, none⟩ ∧ W.cell? ⟨b, o + k, none⟩ = some (.string xs[k]) := by
  obtain ⟨A, c, e, _, h2⟩ := h
  cases e
  obtain ⟨b, o, rfl, _, hc⟩ := h2 (by omega)
  exact ⟨b, o, rfl, hc k _ (List.getElem?_eq_getElem hk)⟩
theorem strs_own {W : World} {base : Nat} {e : TypeId} {v : Value} {xs : List ByteArray} (h : W.ownsRow base e 1 v xs.length (xs.map Value.string)) : IsStrs W v xs := by
  obtain ⟨A, cap, rfl, hc, hs⟩ := own_any h
  refine ⟨A, cap, rfl, hc, fun hp => ?_⟩
  obtain ⟨g, rfl, hg, hcell⟩ := hs hp
  refine ⟨g, 0, rfl, hg, fun j x hx => ?_⟩
  rw [Nat.zero_add]
  exact hcell j _ (by rw [List.getElem?_map, hx]; rfl)
theorem strs_news {W : World} {x : Addr} {len cap : Nat} {xs : List ByteArray} (h : IsStrs W (.slice (some x) len cap) xs) : ∀ (j : Nat) u, (xs.map Value.string)[j]? = some u → W.cell? (x.add j) = some u := by
  intro j u hu
  rw [List.getElem?_map] at hu
  have hj : j < xs.length := by
    rcases Nat.lt_or_ge j xs.length with a | a
    · exact a
    · rw [List.getElem?_eq_none a] at hu; simp at hu
  rw [List.getElem?_eq_getElem hj] at hu
  obtain rfl : Value.string xs[j] = u := by simpa using hu
  obtain ⟨b, o, e, hc⟩ := h.at_ j hj
  cases e
  rw [add_flat]
  exact hc
theorem own_empty (w : World) (t : TypeId) : (w.alloc (.cells #[] t)).ownsRow w.heap.size t 1 (.slice (some ⟨w.heap.size, 0, none⟩) 0 0) 0 [] :=
  ⟨rfl, .inr ⟨w.heap.size, 0, #[], rfl, Nat.le_refl _, World.alloc_heap_new w _, Nat.le_refl _, by unfold maxLen; omega, rfl, rfl⟩⟩
theorem infoStr : (Tryd.prog.info? 9).map (fun i => (i.zero, i.size, i.bytes)) = some (some (.string ⟨#[]⟩), 1, 16) := by kernel_rfl
end Go.Proofs.YtjlipkklljjdjaaDoor
