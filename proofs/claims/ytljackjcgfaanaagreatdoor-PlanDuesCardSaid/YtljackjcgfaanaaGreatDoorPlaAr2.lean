/- Slices of plans that came in. -/
import Derived.Test.YtljackjcgfaanaaGreatDoorPlaArg
namespace Go.Proofs.YtljackjcgfaanaaGreatDoor
open Go.ChangeShapes Go.WideShapes Go.ChangeAt Go.RowKit Go.Deep

/-- what is known of a slice of plans that came in -/
def InPs (W : World) (v : Value) (l : List (Pl.P × Value)) : Prop := (∃ A cap, v = .slice A l.length cap) ∧ l.length ≤ maxLen ∧ ∀ A n cap, v = .slice A n cap → ∀ j, j < l.length → ∃ b o, A = some ⟨b, o, none⟩ ∧ (∀ i c, (plL (l.getD j (Pl.pZ, .nilFunc)).1 (l.getD j (Pl.pZ, .nilFunc)).2)[i]? = some c → W.cell? ⟨b, o + j * 14 + i, none⟩ = some c) ∧ (l.getD j (Pl.pZ, .nilFunc)).1.x.Bd ∧ Bo.InS W (l.getD j (Pl.pZ, .nilFunc)).2 (l.getD j (Pl.pZ, .nilFunc)).1.l
theorem InPs.rowP {W : World} {v : Value} {l : List (Pl.P × Value)} (h : InPs W v l) (h0 : l.length ≤ 1000000) (hs : ∀ j, j < l.length → (l.getD j (Pl.pZ, .nilFunc)).1.l.length ≤ 1000000) : RowP W v l := by
  obtain ⟨⟨A, cap, e⟩, _, h⟩ := h
  refine ⟨h0, A, cap, e, fun j hj => ?_⟩
  obtain ⟨b, o, e1, e2, e3, e4⟩ := h A _ cap e j hj
  exact ⟨b, o, e1, e2, e4.2.2 (hs j hj), e3⟩
instance : Inhabited (Pl.P × Value) := ⟨(Pl.pZ, .nilFunc)⟩
set_option maxRecDepth 100000 in
theorem open_plans {H : Type} {enc : TypeId × Value → H} {W : World} {base fuel : Nat} {spare : Nat → Bool} {held : Bool} {a : Option Addr} {len cap : Nat} {x : DataW H × List MemPlace}
    (h : DataW.trod enc Tryz.prog W base spare held fuel 49 [.slice a len cap] = some x) : ∃ l, l.length = len ∧ InPs W (.slice a len cap) l := by
  have c14 : Tryz.prog.cellsOf 29 = 14 := by kernel_rfl
  rcases DataW.trod_slice Tryz.underlying49 h with ⟨h0, _⟩ | ⟨p, l, c, elems, rest, n, _, hcs, _, hb, hl, hm, hlen, hel, _, _⟩
  · simp at h0
    obtain ⟨rfl, rfl, rfl⟩ := h0
    exact ⟨[], rfl, ⟨_, _, rfl⟩, by simp, fun A n cap e j hj => by simp at hj⟩
  · simp at hcs
    obtain ⟨rfl, rfl, rfl⟩ := hcs
    obtain ⟨b, o, s⟩ := p
    have each : ∀ i, i < len → ∃ q : Pl.P × Value, (∀ k c, (plL q.1 q.2)[k]? = some c → W.cell? ((Addr.add ⟨b, o, s⟩ (i * 14)).add k) = some c) ∧ q.1.x.Bd ∧ Bo.InS W q.2 q.1.l := by
      intro i hi
      have q := hel i hi
      rw [c14, List.getElem?_eq_getElem (by omega), Option.bind_eq_some_iff] at q
      obtain ⟨cs, hcs, hq⟩ := q
      obtain ⟨g, a1, len1, cap1, e, rfl, bd, _, hI⟩ := plan_of hq
      obtain ⟨_, lc, g2⟩ := World.cells?_some hcs
      refine ⟨(g, .slice a1 g.l.length cap1), fun k c hk => ?_, bd, hI⟩
      have hk14 : k < 14 := (List.getElem?_eq_some_iff.1 hk).1
      rw [g2 k hk14, e]
      exact hk
    obtain ⟨f, hf⟩ := choose_lt each
    have hlen2 : ((List.range len).map f).length = len := by simp
    refine ⟨(List.range len).map f, hlen2, ⟨_, _, by rw [hlen2]⟩, by rw [hlen2]; unfold maxLen at *; omega, fun A n cap' e j hj => ?_⟩
    cases e
    rw [hlen2] at hj
    have g : ((List.range len).map f).getD j (Pl.pZ, .nilFunc) = f j := by simp [List.getD_eq_getElem?_getD, hj]
    rw [g]
    obtain ⟨h1, h2, h3⟩ := hf j hj
    have hs : s = none := by
      have := (hf 0 (by omega)).1 0 _ rfl
      simpa [Addr.add] using World.cell?_spot this
    subst hs
    refine ⟨b, o, rfl, fun i c hic => ?_, h2, h3⟩
    have := h1 i c hic
    rw [Bo.add_flat, Bo.add_flat] at this
    exact this
end Go.Proofs.YtljackjcgfaanaaGreatDoor
