/- The document's program of blackout: add, borders, wanted. -/
import Derived.Test.YtljackjcgfaanaaGreatDoorBlkC
import Derived.Laws.AppendOwnNone
namespace Go.Proofs.YtljackjcgfaanaaGreatDoor.Bo
open Go.ChangeShapes Go.RowKit

/-- a slice of numbers -/
def RowI (W : World) (v : Value) (l : List Int) : Prop := l.length ≤ 1000000 ∧ ((v = .slice none 0 0 ∧ l = []) ∨ ∃ b o cap, v = .slice (some ⟨b, o, none⟩) l.length cap ∧ l.length ≤ cap ∧ ∀ j, j < l.length → W.cell? ⟨b, o + j, none⟩ = some (.int .i64 (l.getD j 0)))
theorem RowI.below {W W' : World} {v : Value} {l : List Int} (h : RowI W v l) (hb : Below W.heap.size W W') : RowI W' v l := by
  obtain ⟨h0, h | ⟨b, o, cap, e, hc, h⟩⟩ := h
  · exact ⟨h0, .inl h⟩
  · exact ⟨h0, .inr ⟨b, o, cap, e, hc, fun j hj => (hb.cell (p := ⟨b, o + j, none⟩) (lt_of_cell (h j hj))).trans (h j hj)⟩⟩
theorem RowI.nil (W : World) : RowI W (.slice none 0 0) [] := ⟨by simp, .inl ⟨rfl, rfl⟩⟩
theorem RowI.len {W : World} {v : Value} {l : List Int} (h : RowI W v l) : ∃ A cap, v = .slice A l.length cap := by
  obtain ⟨_, ⟨rfl, rfl⟩ | ⟨b, o, cap, e, _⟩⟩ := h
  · exact ⟨_, _, rfl⟩
  · exact ⟨_, _, e⟩
theorem RowI.at {W : World} {A : Option Addr} {n cap : Nat} {l : List Int} (h : RowI W (.slice A n cap) l) {j : Nat} (hj : j < l.length) : ∃ b o, A = some ⟨b, o, none⟩ ∧ W.cell? ⟨b, o + j, none⟩ = some (.int .i64 (l.getD j 0)) := by
  obtain ⟨_, ⟨_, rfl⟩ | ⟨b, o, cap', e, _, h⟩⟩ := h
  · simp at hj
  · cases e; exact ⟨b, o, rfl, h j hj⟩
theorem RowS.none {W : World} {n cap : Nat} {l : List (Int × Int)} (h : RowS W (.slice none n cap) l) : l = [] ∧ cap = 0 := by
  obtain ⟨_, hz, A', cap', e, h⟩ := h
  cases e
  refine ⟨?_, hz _ _ rfl⟩
  cases l with
  | nil => rfl
  | cons x r => obtain ⟨b, o, q, _⟩ := h 0 (by simp); cases q
section
variable {ops : Array Oper} {rest : List Oper} {o : Oper} {a : Act} {w : World} {Q : Exit → Act → World → Prop}
/-- append of a slice of spans to a slice of the call's own -/
theorem wpList_append_rowS (hgd : o.guard = none) (s x : Operand) (ho : o.op = .call { callee := .builtin .append, args := #[s, x], argTypes := #[27, 27] })
    (base : Nat) (v : Value) (n : Nat) (xs : List Value) (hs : a.eval s = v) (hown : w.ownsRow base 48 2 v n xs) (vx : Value) (l : List (Int × Int)) (hx : a.eval x = vx) (hr : RowS w vx l) (hn : n + l.length ≤ 2000000) (hbase : base ≤ w.heap.size)
    (h : ∀ v' w', w'.ownsRow base 48 2 v' (n + l.length) (xs ++ l.flatMap encS) → w.grownBy w' v.ownBlock → wpList Tryz.prog ops Q rest (a.put o.dst v') w') : wpList Tryz.prog ops Q (o :: rest) a w := by
  obtain ⟨i0, hi, hz0, hz1, hz2⟩ := info_parts infoS
  obtain ⟨A, cap, rfl⟩ := hr.len
  cases A with
  | none =>
    obtain ⟨rfl, rfl⟩ := hr.none
    refine wpList_append_own_none hgd s x _ ho base 48 i0 2 Tryz.underlying27 hi v n xs hs hown hx ?_
    exact h v w (by simpa using hown) ⟨rfl, rfl, rfl, Nat.le_refl _, fun _ _ _ => rfl⟩
  | some ad =>
    refine wpList_append_own w hgd s x _ ho base 48 i0 (.agg #[.int .i64 0, .int .i64 0]) 2 16 Tryz.underlying27 hi hz0 hz1 hz2 rfl (by decide) v n xs hs hown ad l.length cap (l.flatMap encS) hx (flatS_len l) (fun j u hj => ?_) flatS_one (by simp [maxLen]; omega) (by omega) hbase (fun v' w' h2 h3 _ => h v' w' h2 h3)
    have hjl : j < l.length * 2 := by have := (List.getElem?_eq_some_iff.1 hj).1; rwa [flatS_len] at this
    obtain ⟨b, off, e, c1, c2⟩ := hr.at (j := j / 2) (by omega)
    cases e
    have g := flatS_get l (j / 2) (by omega)
    rw [add_flat]
    by_cases q : j % 2 = 0
    · rw [show j = j / 2 * 2 by omega] at hj ⊢
      rw [g.1] at hj
      cases hj
      rw [c1]
    · rw [show j = j / 2 * 2 + 1 by omega] at hj ⊢
      rw [g.2] at hj
      cases hj
      rw [← Nat.add_assoc, c2]
end
/-- a list of numbers of the call's own -/
structure OwnI (w : World) (v : Value) (l : List Int) (wr : World) : Prop where
  row : wr.ownsRow w.heap.size 2 1 v l.length (l.map (.int .i64 ·))
  below : Below w.heap.size w wr
theorem OwnI.grow {w wr w1 : World} {v v' : Value} {l m : List Int} (h : OwnI w v l wr)
    (hown : w1.ownsRow w.heap.size 2 1 v' (l.length + m.length) (l.map (.int .i64 ·) ++ m.map (.int .i64 ·))) (hg : wr.grownBy w1 v.ownBlock) : OwnI w v' (l ++ m) w1 := by
  refine ⟨by rw [List.map_append, List.length_append]; exact hown, h.below.grown hg h.below.size (fun k hk => (h.row.lt k hk).1)⟩
theorem OwnI.alloc {w wr : World} {v : Value} {l : List Int} (h : OwnI w v l wr) (o : Obj) : OwnI w v l (wr.alloc o) := ⟨h.row.alloc o, h.below.alloc h.below.size o⟩
theorem OwnI.len {w wr : World} {v : Value} {l : List Int} (h : OwnI w v l wr) : ∃ a cap, v = .slice a l.length cap := by
  rcases h.row.2 with ⟨rfl, h0⟩ | ⟨g, cap, cur, rfl, _⟩
  · rw [h0]; exact ⟨_, _, rfl⟩
  · exact ⟨_, _, rfl⟩
end Go.Proofs.YtljackjcgfaanaaGreatDoor.Bo
