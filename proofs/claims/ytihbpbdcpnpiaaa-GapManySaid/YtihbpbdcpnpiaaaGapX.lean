/- Slices that came in; the statements' few on one slice, on two. -/
import Derived.Test.YtihbpbdcpnpiaaaGapM
import Derived.Test.YtihbpbdcpnpiaaaGapW
namespace Go.Proofs.Ytihbpbdcpnpiaaa
open Go.ChangeShapes Go.RowKit

/-- what is known of a slice of integers that came in: nil, or a row of cap cells, whose numbers are zs -/
def IsRow (k : IntKind) (w : World) (a : Option Addr) (len cap : Nat) (zs : List Int) : Prop :=
  (a = none ∧ len = 0 ∧ cap = 0 ∧ zs = []) ∨
  ∃ x, a = some x ∧ len ≤ cap ∧ cap ≤ maxLen ∧ zs.length = cap ∧ (∀ i, i < zs.length → w.cell? (x.add i) = some (.int k (zs.getD i 0))) ∧ ∀ n ∈ zs, (Lit.int k n).wf = true
theorem IsRow.spot {k : IntKind} {w : World} {a : Option Addr} {len cap : Nat} {zs : List Int} (h : IsRow k w a len cap zs) (j : Nat) (hj : j < len) :
    ∃ b o, a = some ⟨b, o, none⟩ ∧ w.cell? ⟨b, o + j, none⟩ = some (.int k (zs.getD j 0)) := by
  rcases h with ⟨_, h, _, _⟩ | ⟨x, rfl, h1, h2, h3, h4, h5⟩
  · omega
  · obtain ⟨b, o, s⟩ := x
    have hs : s = none := by simpa [Addr.add] using World.cell?_spot (h4 0 (by omega))
    subst hs
    exact ⟨b, o, rfl, by rw [← add_flat]; exact h4 j (by omega)⟩
theorem IsRow.len {k : IntKind} {w : World} {a : Option Addr} {len cap : Nat} {zs : List Int} (h : IsRow k w a len cap zs) : len ≤ zs.length := by
  rcases h with ⟨_, rfl, _, _⟩ | ⟨x, _, h1, _, h3, _⟩
  · omega
  · omega
theorem IsRow.rowT {w : World} {a : Option Addr} {len cap : Nat} {zs : List Int} (h : IsRow .i64 w a len cap zs) (hl : len ≤ 1000000) : RowT w (.slice a len cap) (zs.take len) := by
  have e : (zs.take len).length = len := by have := h.len; simp; omega
  refine ⟨by omega, a, cap, by rw [e], fun j hj => ?_⟩
  rw [e] at hj
  obtain ⟨b, o, e1, e2⟩ := h.spot j hj
  refine ⟨b, o, e1, ?_⟩
  rw [e2]
  simp [List.getD_eq_getElem?_getD, hj]
theorem few_one (g : Nat) (a : Option Addr) (n c : Nat) (r : Bool) (hr : decide (n ≤ 700) = r) (W : World) (hc : W.cell? ⟨g, 0, none⟩ = some (.slice a n c)) :
    Calls Try.prog 14 #[.slice (some ⟨g, 0, none⟩) 1 1] W fun e w' => e = .returned (.bool r) ∧ W = w' :=
  few_any g 1 [n] (by simp) r (by subst hr; simp) W (fun k hk => by
    obtain rfl : k = 0 := by simpa using hk
    exact ⟨a, c, hc⟩)
theorem few_two (g : Nat) (a a' : Option Addr) (n c n' c' : Nat) (r : Bool) (hr : decide (n ≤ 700 ∧ n' ≤ 700) = r) (W : World) (hc : W.cell? ⟨g, 0, none⟩ = some (.slice a n c)) (hd : W.cell? ⟨g, 1, none⟩ = some (.slice a' n' c')) :
    Calls Try.prog 14 #[.slice (some ⟨g, 0, none⟩) 2 2] W fun e w' => e = .returned (.bool r) ∧ W = w' :=
  few_any g 2 [n, n'] (by simp) r (by subst hr; simp) W (fun k hk => by
    have : k = 0 ∨ k = 1 := by simp at hk; omega
    rcases this with rfl | rfl
    · exact ⟨a, c, hc⟩
    · exact ⟨a', c', hd⟩)
theorem OwnT.rowG {w W : World} {v : Value} {l : List Int} (h : OwnT w v l W) (hl : l.length ≤ 1000000) : RowT W v l ∧ ∃ a c, v = .slice a l.length c := ⟨h.rowT hl, h.len⟩
theorem mergeO_len (a b : List Int) : (mergeO a b).length ≤ a.length + b.length := by unfold mergeO; split; exact Gp.ms_len a b; simp
theorem onlyAO_len (a b : List Int) : (onlyAO a b).length ≤ a.length := by unfold onlyAO; split; exact minus_len a b; simp
theorem onlyBO_len (a b : List Int) : (onlyBO a b).length ≤ b.length := by unfold onlyBO; split; exact minus_len b a; simp
theorem rmergeO_is (a b : List Int) : rmergeO a b = mergeO a b := rfl
theorem onlyO_is (a b : List Int) : onlyO a b = onlyAO a b := rfl
theorem onlyO2_is (a b : List Int) : onlyO2 a b = onlyBO a b := rfl
end Go.Proofs.Ytihbpbdcpnpiaaa
