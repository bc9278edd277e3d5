/- Plain facts of three loops, one in another, that look for the first second of a day: what they find is the first one. -/
import Derived.Test.YtbehendogcghjaaDoorMatDir
namespace Go.Proofs.YtbehendogcghjaaDoor.Mat

/-- the loop over minutes: the second from which it looks, what it finds, and the second that it leaves behind -/
def Dir.goM (w : Dir) (S0 i : Nat) : List Nat → Nat → Option (Nat × Nat) × Nat
  | [], s => (none, s)
  | m :: r, s => match w.fs S0 (if m = i then s else w.fst 60) with
    | some n => (some (m, n), 0)
    | none => w.goM S0 i r (if m = i then s else w.fst 60)
/-- the loop over hours -/
def Dir.goH (w : Dir) (S0 S1 h : Nat) : List Nat → Nat → Nat → Option (Nat × Nat × Nat)
  | [], _, _ => none
  | k :: r, i, s => match w.goM S0 (if k = h then i else w.fst 60) (w.nums S1 (if k = h then i else w.fst 60 : Nat)) (if k = h then s else w.fst 60) with
    | (some p, _) => some (k, p)
    | (none, s') => w.goH S0 S1 h r (if k = h then i else w.fst 60) s'
theorem goM_other {w : Dir} {S0 i : Nat} : ∀ {l : List Nat} (s : Nat), (∀ m ∈ l, m ≠ i) → (w.goM S0 i l s).1 = l.findSome? fun m => (w.fs S0 (if m = i then s else w.fst 60)).map (Prod.mk m)
  | [], _, _ => rfl
  | m :: r, s, h => by
    have e : m ≠ i := h m (by simp)
    have ih := fun s => goM_other (w := w) (S0 := S0) (i := i) (l := r) s (fun k hk => h k (by simp [hk]))
    rw [Dir.goM, List.findSome?_cons, if_neg e]
    cases w.fs S0 (w.fst 60) with
    | none =>
      simp only [Option.map_none]
      rw [ih]
      have : ∀ l : List Nat, (∀ k ∈ l, k ≠ i) → ∀ s1 s2, l.findSome? (fun m => (w.fs S0 (if m = i then s1 else w.fst 60)).map (Prod.mk m)) = l.findSome? (fun m => (w.fs S0 (if m = i then s2 else w.fst 60)).map (Prod.mk m)) := by
        intro l hl s1 s2
        induction l with
        | nil => rfl
        | cons a l ih =>
          rw [List.findSome?_cons, List.findSome?_cons, if_neg (hl a (by simp)), if_neg (hl a (by simp)), ih (fun k hk => hl k (by simp [hk]))]
      exact this r (fun k hk => h k (by simp [hk])) _ _
    | some n => rfl
theorem nums_tail {w : Dir} {S : Nat} {v : Nat} {x : Nat} {r : List Nat} (h : w.nums S v = x :: r) : ∀ m ∈ r, m ≠ v := by
  have s := nums_sorted w S v
  have q := (nums_head h).2.2
  rw [h, List.pairwise_cons] at s
  intro m hm e
  have := s.1 m hm
  rw [e] at this
  omega
theorem goM_is (w : Dir) (S0 S1 i s : Nat) : (w.goM S0 i (w.nums S1 i) s).1 = w.fm S0 S1 i s := by
  unfold Dir.fm
  cases h : w.nums S1 i with
  | nil => rfl
  | cons m r =>
    have t := nums_tail h
    rw [Dir.goM, List.findSome?_cons]
    cases e : w.fs S0 (if m = i then s else w.fst 60) with
    | some n => rfl
    | none =>
      simp only [Option.map_none]
      rw [goM_other _ t]
      have : ∀ l : List Nat, (∀ k ∈ l, k ≠ i) → ∀ s1 s2, l.findSome? (fun m => (w.fs S0 (if m = i then s1 else w.fst 60)).map (Prod.mk m)) = l.findSome? (fun m => (w.fs S0 (if m = i then s2 else w.fst 60)).map (Prod.mk m)) := by
        intro l hl s1 s2
        induction l with
        | nil => rfl
        | cons a l ih =>
          rw [List.findSome?_cons, List.findSome?_cons, if_neg (hl a (by simp)), if_neg (hl a (by simp)), ih (fun k hk => hl k (by simp [hk]))]
      exact this r t _ _
theorem goH_other {w : Dir} {S0 S1 h : Nat} : ∀ {l : List Nat} (i s : Nat), (∀ k ∈ l, k ≠ h) → w.goH S0 S1 h l i s = l.findSome? fun k => (w.fm S0 S1 (w.fst 60) (w.fst 60)).map (Prod.mk k)
  | [], _, _, _ => rfl
  | k :: r, i, s, hk => by
    have e : k ≠ h := hk k (by simp)
    have ih := fun i s => goH_other (w := w) (S0 := S0) (S1 := S1) (h := h) (l := r) i s (fun k hk' => hk k (by simp [hk']))
    rw [Dir.goH, List.findSome?_cons, if_neg e, if_neg e]
    have g := goM_is w S0 S1 (w.fst 60) (w.fst 60)
    cases e2 : w.goM S0 (w.fst 60) (w.nums S1 (w.fst 60 : Nat)) (w.fst 60) with
    | mk a b =>
      rw [e2] at g
      simp only at g
      cases a with
      | some p => rw [← g]; rfl
      | none => simp only [← g, Option.map_none]; rw [ih]; simp only [← g, Option.map_none]
theorem goH_is (w : Dir) (S0 S1 S2 h i s : Nat) : w.goH S0 S1 h (w.nums S2 h) i s = w.fh S0 S1 S2 h i s := by
  unfold Dir.fh
  cases hn : w.nums S2 h with
  | nil => rfl
  | cons k r =>
    have t := nums_tail hn
    rw [Dir.goH, List.findSome?_cons]
    have g := goM_is w S0 S1 (if k = h then i else w.fst 60) (if k = h then s else w.fst 60)
    cases e2 : w.goM S0 (if k = h then i else w.fst 60) (w.nums S1 (if k = h then i else w.fst 60 : Nat)) (if k = h then s else w.fst 60) with
    | mk a b =>
      rw [e2] at g
      simp only at g
      cases a with
      | some p => rw [← g]; rfl
      | none =>
        rw [← g]
        simp only [Option.map_none]
        rw [goH_other _ _ t]
        have : ∀ l : List Nat, (∀ k ∈ l, k ≠ h) → l.findSome? (fun k => (w.fm S0 S1 (w.fst 60) (w.fst 60)).map (Prod.mk k)) = l.findSome? (fun k => (w.fm S0 S1 (if k = h then i else w.fst 60) (if k = h then s else w.fst 60)).map (Prod.mk k)) := by
          intro l hl
          induction l with
          | nil => rfl
          | cons a l ih =>
            rw [List.findSome?_cons, List.findSome?_cons, if_neg (hl a (by simp)), if_neg (hl a (by simp)), ih (fun k hk => hl k (by simp [hk]))]
        exact this r t
end Go.Proofs.YtbehendogcghjaaDoor.Mat
