/- Contracts of the statements' comparison of two lists of runs, and of the document's Runs. -/
import Derived.Test.YtlmbfhbfejjpdaaDoorBitS
import Derived.Deep.RegionLaw
import Derived.WalkSmall
namespace Go.Proofs.YtlmbfhbfejjpdaaDoor
open Go.ChangeShapes Go.RowKit

/-- append to a slice of the call's own, as one step of a region that draws -/
theorem step_append_own {P : Program} {ops : Array Oper} {o : Oper} {a : Act} {w : World} {K : Act → World → Prop} {Q : Exit → Act → World → Prop} {E : Prop}
    (hgd : o.guard = none) (s x : Operand) (t : TypeId) (ho : o.op = .call { callee := .builtin .append, args := #[s, x], argTypes := #[t, t] })
    (base : Nat) (e : TypeId) (i : TypeInfo) (z : Value) (size bytes : Nat) (ht : P.underlying t = some (.slice e)) (hi : P.info? e = some i) (hz : i.zero = some z)
    (hsize : i.size = size) (hby : i.bytes = bytes) (hzs : z.cells.size = size) (hsz : 0 < size)
    (v : Value) (n : Nat) (xs : List Value) (hs : a.eval s = v) (hown : w.ownsRow base e size v n xs)
    (ad : Addr) (m c : Nat) (news : List Value) (hx : a.eval x = .slice (some ad) m c) (hl : news.length = m * size) (hnews : ∀ j u, news[j]? = some u → w.cell? (ad.add j) = some u) (h1 : ∀ u ∈ news, u.oneCell' = true)
    (h63 : n + m ≤ maxLen) (hbytes : (n + m) * bytes ≤ 140737488355328) (hbase : base ≤ w.heap.size)
    (h : ∀ v' w', w'.ownsRow base e size v' (n + m) (xs ++ news) → w.grownBy w' v.ownBlock → K (a.put o.dst v') w') :
    if Region.wanted o (yielded ops a.tmps) = true then Oper.wp P o a w K Q else E := by
  have hw : Region.wanted o (yielded ops a.tmps) = true := by simp [Region.wanted, hgd]
  rw [if_pos hw]
  obtain ⟨v', w', hr, h2, h3, h4, h5⟩ := run_append_own_at (P := P) w base t o.type e i z size bytes ht hi hz hsize hby hzs hsz v n xs hown ad m c news hl hnews h1 h63 hbytes hbase
  unfold Oper.wp execOp
  simp only [ho, resolve, invoke, builtin, Sem.run_bind, Sem.run_pure, Result.andThen_ok, List.map_toArray, List.map_cons, List.map_nil, hs, hx, hr]
  exact h _ _ h2 h3
/-- block g holds the list's runs -/
def Cells3 (w : World) (g : Nat) (l : List (Nat × Nat × Nat)) : Prop := ∀ k (h : k < l.length), w.cell? ⟨g, k * 3, none⟩ = some (.int .i64 l[k].1) ∧ w.cell? ⟨g, k * 3 + 1, none⟩ = some (.int .i64 l[k].2.1) ∧ w.cell? ⟨g, k * 3 + 2, none⟩ = some (.int .i64 l[k].2.2)
theorem cells3_own {w : World} {b g cap : Nat} {l : List (Nat × Nat × Nat)} (h : w.ownsRow b 64 3 (.slice (some ⟨g, 0, none⟩) l.length cap) l.length (flat l)) : Cells3 w g l := by
  intro k hk
  obtain ⟨f1, f2, f3⟩ := flat_at l k hk
  exact ⟨by rw [h.cellAt _ (by omega), f1], by rw [h.cellAt _ (by omega), f2], by rw [h.cellAt _ (by omega), f3]⟩
/-- what is left: a slice of numbers -/
def Left (w : World) (v : Value) (l : List Nat) : Prop :=
  (l = [] ∧ ∃ a c, v = .slice a 0 c) ∨ ∃ g off cap, g < w.heap.size ∧ v = .slice (some ⟨g, off, none⟩) l.length cap ∧ l.length ≤ cap ∧ cap ≤ 9223372036854775807 ∧ ∀ i (h : i < l.length), w.cell? ⟨g, off + i, none⟩ = some (.int .i64 l[i])
theorem left_own {w wr : World} {v : Value} {l : List Nat} (h : Own1 w v l wr) : Left wr v l := by
  rcases h.row.2 with ⟨rfl, h0⟩ | ⟨g, cap, cur, rfl, hb, hc, h1, h2, _⟩
  · exact .inl ⟨List.eq_nil_of_length_eq_zero h0, _, _, rfl⟩
  · refine .inr ⟨g, 0, cap, (Array.getElem?_eq_some_iff.1 hc).1, rfl, h1, by simpa [maxLen] using h2, fun i hi => ?_⟩
    have hi' : i < (asInts l).length := by rw [asInts_len]; exact hi
    rw [Nat.zero_add, h.row.cellAt i (by omega)]
    simp [asInts, hi]
theorem keep_is (d : Nat) : ∀ (r : List Nat) (prev m : Nat), m ≤ r.length → (∀ i, i < m → (prev :: r).getD (i + 1) 0 - (prev :: r).getD i 0 = d) → (m = r.length ∨ (prev :: r).getD (m + 1) 0 - (prev :: r).getD m 0 ≠ d) → Bit.keep d prev r = m
  | [], _, m, hm, _, _ => by
    have : m = 0 := by simpa using hm
    subst this; rfl
  | x :: r, prev, 0, _, _, hx => by
    rcases hx with h | h
    · simp at h
    · unfold Bit.keep
      rw [if_neg (by simpa using h)]
  | x :: r, prev, m + 1, hm, h, hx => by
    unfold Bit.keep
    rw [if_pos (by simpa using h 0 (by omega)), keep_is d r x m (by simpa using hm) (fun i hi => by simpa using h (i + 1) (by omega)) (by simpa using hx)]
/-- the first run of a list, by the count of the numbers that keep the distance -/
theorem take_is {a b d k : Nat} {r : List Nat} (hd : b = a + d) (h2 : 2 ≤ k) (hk : k ≤ (a :: b :: r).length) (h : ∀ i, 2 ≤ i → i < k → (a :: b :: r).getD i 0 - (a :: b :: r).getD (i - 1) 0 = d)
    (hx : k = (a :: b :: r).length ∨ (a :: b :: r).getD k 0 - (a :: b :: r).getD (k - 1) 0 ≠ d) :
    (k = 2 ∧ 1 < d → Bit.take1 (a :: b :: r) = 1 ∧ Bit.step1 (a :: b :: r) = 1 ∧ lastOf (a :: b :: r) = a) ∧
    (¬ (k = 2 ∧ 1 < d) → Bit.take1 (a :: b :: r) = k ∧ Bit.step1 (a :: b :: r) = d ∧ lastOf (a :: b :: r) = (a :: b :: r).getD (k - 1) 0) := by
  obtain ⟨m, rfl⟩ : ∃ m, k = m + 2 := ⟨k - 2, by omega⟩
  have e : ∀ i, (a :: b :: r).getD (i + 1) 0 = (b :: r).getD i 0 := fun i => by simp
  have kk : Bit.keep d b r = m := keep_is d r b m (by simpa using hk) (fun i hi => by
      have := h (i + 2) (by omega) (by omega)
      rw [show i + 2 - 1 = i + 1 by omega, e, e] at this
      exact this) (by
      rcases hx with q | q
      · left; simpa using q
      · right
        rw [show m + 2 - 1 = m + 1 by omega, e, e] at q
        exact q)
  have t1 := Bit.take1_two a b r
  have s1 := Bit.step1_two a b r
  rw [show b - a = d by omega, kk] at t1 s1
  unfold lastOf
  constructor
  · rintro ⟨c1, c2⟩
    rw [if_pos ⟨by omega, c2⟩] at t1 s1
    rw [t1, s1]
    exact ⟨rfl, rfl, rfl⟩
  · intro c
    rw [if_neg (by omega)] at t1 s1
    rw [t1, s1]
    exact ⟨rfl, rfl, rfl⟩
def lenOf : Value → Nat
  | .slice _ n _ => n
  | _ => 0
end Go.Proofs.YtlmbfhbfejjpdaaDoor
