/- Plain mathematics of looking for numbers in a direction, up or down: the numbers of a set from one on, the first second of a day. No program stands here. -/
import Derived.Test.YtbehendogcghjaaDoorMPlain
import Derived.Test.YtbehendogcghjaaDoorMatMath
namespace Go.Proofs.YtbehendogcghjaaDoor.Mat

inductive Dir where
  | up
  | down
def Dir.val : Dir → Int
  | .up => 1
  | .down => -1
/-- the first one of so many numbers, from 0 on -/
def Dir.fst (w : Dir) (n : Nat) : Nat := match w with
  | .up => 0
  | .down => n - 1
theorem Dir.val_or (w : Dir) : w.val = 1 ∨ w.val = -1 := by cases w <;> simp [Dir.val]
theorem Dir.fst_lt (w : Dir) {n : Nat} (h : 1 ≤ n) : w.fst n < n := by cases w <;> simp [Dir.fst] <;> omega
theorem Dir.fst_le (w : Dir) {n j : Nat} (h : j < n) : w.val * (w.fst n : Int) ≤ w.val * (j : Int) := by cases w <;> simp [Dir.fst, Dir.val] <;> omega
/-- a list that goes up, in the direction -/
def Dir.ord (w : Dir) (l : List Nat) : List Nat := match w with
  | .up => l
  | .down => l.reverse
/-- the numbers of a set from one on, in a direction -/
def Dir.nums (w : Dir) (S : Nat) (v : Int) : List Nat := (w.ord (Bit.mem S)).filter fun j => decide (w.val * v ≤ w.val * (j : Int))

theorem filt {f : Nat → Int} : ∀ {L : List Nat}, L.Pairwise (fun a b => f a < f b) → ∀ {u : Int} {x : Nat} {r : List Nat}, L.filter (fun j => decide (u ≤ f j)) = x :: r → L.filter (fun j => decide (f x + 1 ≤ f j)) = r
  | [], _, _, _, _, h => by simp at h
  | a :: L, hp, u, x, r, h => by
    rw [List.pairwise_cons] at hp
    by_cases c : u ≤ f a
    · rw [List.filter_cons_of_pos (by simpa using c)] at h
      simp only [List.cons.injEq] at h
      obtain ⟨rfl, h⟩ := h
      rw [List.filter_cons_of_neg (by simp; omega), ← h]
      refine List.filter_congr fun y hy => ?_
      have := hp.1 y hy
      rw [decide_eq_decide]
      omega
    · rw [List.filter_cons_of_neg (by simpa using c)] at h
      have hx : x ∈ L := by
        have : x ∈ L.filter (fun j => decide (u ≤ f j)) := by rw [h]; simp
        exact (List.mem_filter.1 this).1
      have := hp.1 x hx
      rw [List.filter_cons_of_neg (by simp; omega)]
      exact filt hp.2 h
theorem ord_mem (w : Dir) (l : List Nat) (j : Nat) : j ∈ w.ord l ↔ j ∈ l := by cases w <;> simp [Dir.ord]
theorem ord_sorted (w : Dir) (S : Nat) : (w.ord (Bit.mem S)).Pairwise (fun a b : Nat => w.val * (a : Int) < w.val * (b : Int)) := by
  have h := Bit.mem_sorted S
  cases w with
  | up => exact List.Pairwise.imp (fun {a b} h => by simp [Dir.val]; omega) h
  | down =>
    show (Bit.mem S).reverse.Pairwise _
    rw [List.pairwise_reverse]
    exact List.Pairwise.imp (fun {a b} h => by simp [Dir.val]; omega) h
theorem nums_mem {w : Dir} {S j : Nat} {v : Int} : j ∈ w.nums S v ↔ j < 64 ∧ S.testBit j = true ∧ w.val * v ≤ w.val * (j : Int) := by
  unfold Dir.nums
  rw [List.mem_filter, ord_mem, Bit.mem_iff]
  simp [and_assoc]
theorem nums_sorted (w : Dir) (S : Nat) (v : Int) : (w.nums S v).Pairwise (fun a b : Nat => w.val * (a : Int) < w.val * (b : Int)) := (ord_sorted w S).filter _
/-- behind the first one -/
theorem nums_more {w : Dir} {S x : Nat} {v : Int} {r : List Nat} (h : w.nums S v = x :: r) : w.nums S ((x : Int) + w.val) = r := by
  have q := filt (f := fun j => w.val * (j : Int)) (ord_sorted w S) h
  rw [← q]
  unfold Dir.nums
  refine List.filter_congr fun y _ => ?_
  rw [decide_eq_decide]
  cases w <;> simp [Dir.val] <;> omega
theorem nums_first {w : Dir} {S x : Nat} {v : Int} {r : List Nat} (h : w.nums S v = x :: r) : ∀ j, j < 64 → S.testBit j = true → w.val * v ≤ w.val * (j : Int) → w.val * (x : Int) ≤ w.val * (j : Int) := by
  intro j hj hb hv
  have m : j ∈ w.nums S v := nums_mem.2 ⟨hj, hb, hv⟩
  have s := nums_sorted w S v
  rw [h] at m s
  rw [List.pairwise_cons] at s
  rcases List.mem_cons.1 m with rfl | q
  · exact Int.le_refl _
  · exact Int.le_of_lt (s.1 j q)
theorem nums_head {w : Dir} {S x : Nat} {v : Int} {r : List Nat} (h : w.nums S v = x :: r) : x < 64 ∧ S.testBit x = true ∧ w.val * v ≤ w.val * (x : Int) := nums_mem.1 (by rw [h]; simp)
theorem nums_len (w : Dir) (S : Nat) (v : Int) : (w.nums S v).length ≤ 64 := by
  refine Nat.le_trans (List.length_filter_le _ _) ?_
  have := Bit.mem_len S
  cases w <;> simp [Dir.ord] <;> omega

/-- the first answer -/
theorem some_first {β : Type} {w : Dir} {S k : Nat} {v : Int} {g : Nat → Option β} {b : β} (h : (w.nums S v).findSome? (fun k => (g k).map (Prod.mk k)) = some (k, b)) :
    k < 64 ∧ S.testBit k = true ∧ w.val * v ≤ w.val * (k : Int) ∧ g k = some b ∧ ∀ j, j < 64 → S.testBit j = true → w.val * v ≤ w.val * (j : Int) → w.val * (j : Int) < w.val * (k : Int) → g j = none := by
  obtain ⟨p, x, q, e, hx, hp⟩ := List.findSome?_eq_some_iff.1 h
  have ex : x = k ∧ g x = some b := by
    cases e' : g x with
    | none => rw [e'] at hx; simp at hx
    | some c => rw [e'] at hx; simp at hx; exact ⟨hx.1, by rw [hx.2]⟩
  obtain ⟨rfl, eb⟩ := ex
  have m := nums_mem.1 (show x ∈ w.nums S v by rw [e]; simp)
  refine ⟨m.1, m.2.1, m.2.2, eb, fun j h1 h2 h3 h4 => ?_⟩
  have mj : j ∈ w.nums S v := nums_mem.2 ⟨h1, h2, h3⟩
  have s := nums_sorted w S v
  rw [e] at mj s
  rw [List.pairwise_append, List.pairwise_cons] at s
  rcases List.mem_append.1 mj with q1 | q1
  · have := hp j q1
    cases e' : g j with
    | none => rfl
    | some c => rw [e'] at this; simp at this
  · rcases List.mem_cons.1 q1 with rfl | q1
    · omega
    · have := s.2.1.1 j q1
      omega
theorem none_first {β : Type} {w : Dir} {S : Nat} {v : Int} {g : Nat → Option β} (h : (w.nums S v).findSome? (fun k => (g k).map (Prod.mk k)) = none) :
    ∀ j, j < 64 → S.testBit j = true → w.val * v ≤ w.val * (j : Int) → g j = none := by
  intro j h1 h2 h3
  have := List.findSome?_eq_none_iff.1 h j (nums_mem.2 ⟨h1, h2, h3⟩)
  cases e' : g j with
  | none => rfl
  | some c => rw [e'] at this; simp at this

/-- the first second, minute and second, hour and minute and second, from those on, in a direction -/
def Dir.fs (w : Dir) (S0 : Nat) (s : Nat) : Option Nat := (w.nums S0 s).head?
def Dir.fm (w : Dir) (S0 S1 : Nat) (i s : Nat) : Option (Nat × Nat) := (w.nums S1 i).findSome? fun m => (w.fs S0 (if m = i then s else w.fst 60)).map (Prod.mk m)
def Dir.fh (w : Dir) (S0 S1 S2 : Nat) (h i s : Nat) : Option (Nat × Nat × Nat) := (w.nums S2 h).findSome? fun k => (w.fm S0 S1 (if k = h then i else w.fst 60) (if k = h then s else w.fst 60)).map (Prod.mk k)
theorem fs_some {w : Dir} {S0 s j : Nat} (h : w.fs S0 s = some j) : j < 64 ∧ S0.testBit j = true ∧ w.val * (s : Int) ≤ w.val * (j : Int) ∧ ∀ k, k < 64 → S0.testBit k = true → w.val * (s : Int) ≤ w.val * (k : Int) → w.val * (j : Int) ≤ w.val * (k : Int) := by
  unfold Dir.fs at h
  cases e : w.nums S0 s with
  | nil => rw [e] at h; cases h
  | cons x r =>
    rw [e] at h
    obtain rfl : x = j := by simpa using h
    have m := nums_head e
    exact ⟨m.1, m.2.1, m.2.2, nums_first e⟩
theorem fs_none {w : Dir} {S0 s : Nat} (h : w.fs S0 s = none) : ∀ k, k < 64 → S0.testBit k = true → ¬ w.val * (s : Int) ≤ w.val * (k : Int) := by
  intro k h1 h2 h3
  unfold Dir.fs at h
  have : k ∈ w.nums S0 s := nums_mem.2 ⟨h1, h2, h3⟩
  rw [List.head?_eq_none_iff.1 h] at this
  simp at this
/-- a minute and a second lie from others on -/
def Dir.le2 (w : Dir) (i s i' s' : Nat) : Prop := w.val * (i : Int) < w.val * (i' : Int) ∨ i = i' ∧ w.val * (s : Int) ≤ w.val * (s' : Int)
def Dir.le3 (w : Dir) (h i s h' i' s' : Nat) : Prop := w.val * (h : Int) < w.val * (h' : Int) ∨ h = h' ∧ w.le2 i s i' s'
theorem fm_none {w : Dir} {S0 S1 i s : Nat} (h : w.fm S0 S1 i s = none) : ∀ i' s', i' < 60 → s' < 60 → S1.testBit i' = true → S0.testBit s' = true → ¬ w.le2 i s i' s' := by
  intro i' s' h1 h2 h3 h4 hl
  have hi : w.val * (i : Int) ≤ w.val * (i' : Int) := by
    rcases hl with hl | ⟨rfl, _⟩
    · omega
    · exact Int.le_refl _
  have q := none_first h i' (by omega) h3 hi
  refine fs_none q s' (by omega) h4 ?_
  rcases hl with hl | ⟨rfl, hl⟩
  · rw [if_neg (by rintro rfl; omega)]
    exact w.fst_le h2
  · rw [if_pos rfl]; exact hl
theorem fm_some {w : Dir} {S0 S1 i s m n : Nat} (h : w.fm S0 S1 i s = some (m, n)) : m < 64 ∧ n < 64 ∧ S1.testBit m = true ∧ S0.testBit n = true ∧ w.le2 i s m n ∧
    ∀ i' s', i' < 60 → s' < 60 → S1.testBit i' = true → S0.testBit s' = true → w.le2 i s i' s' → w.le2 m n i' s' := by
  obtain ⟨a1, a2, a3, a4, a5⟩ := some_first h
  obtain ⟨b1, b2, b3, b4⟩ := fs_some a4
  refine ⟨a1, b1, a2, b2, ?_, ?_⟩
  · by_cases c : m = i
    · subst c
      rw [if_pos rfl] at b3
      exact .inr ⟨rfl, b3⟩
    · exact .inl (by rcases w.val_or with e | e <;> rw [e] at a3 ⊢ <;> omega)
  · intro i' s' h1 h2 h3 h4 hl
    have hi : w.val * (i : Int) ≤ w.val * (i' : Int) := by
      rcases hl with hl | ⟨rfl, _⟩
      · omega
      · exact Int.le_refl _
    have hs' : w.val * ((if i' = i then s else w.fst 60 : Nat) : Int) ≤ w.val * (s' : Int) := by
      rcases hl with hl | ⟨rfl, hl⟩
      · rw [if_neg (by rintro rfl; omega)]
        exact w.fst_le h2
      · rw [if_pos rfl]; exact hl
    rcases Int.lt_trichotomy (w.val * (i' : Int)) (w.val * (m : Int)) with c | c | c
    · exact absurd hs' (fs_none (a5 i' (by omega) h3 hi c) s' (by omega) h4)
    · obtain rfl : i' = m := by rcases w.val_or with e | e <;> rw [e] at c <;> omega
      exact .inr ⟨rfl, b4 s' (by omega) h4 hs'⟩
    · exact .inl c
theorem fh_none {w : Dir} {S0 S1 S2 h i s : Nat} (e : w.fh S0 S1 S2 h i s = none) : ∀ h' i' s', h' < 24 → i' < 60 → s' < 60 → S2.testBit h' = true → S1.testBit i' = true → S0.testBit s' = true → ¬ w.le3 h i s h' i' s' := by
  intro h' i' s' h1 h2 h3 h4 h5 h6 hl
  have hi : w.val * (h : Int) ≤ w.val * (h' : Int) := by
    rcases hl with hl | ⟨rfl, _⟩
    · omega
    · exact Int.le_refl _
  have q := none_first e h' (by omega) h4 hi
  refine fm_none q i' s' h2 h3 h5 h6 ?_
  rcases hl with hl | ⟨rfl, hl⟩
  · have ne : h' ≠ h := by rintro rfl; omega
    rw [if_neg ne, if_neg ne]
    have a := w.fst_le h2
    by_cases c : w.fst 60 = i'
    · exact .inr ⟨c, w.fst_le h3⟩
    · exact .inl (by rcases w.val_or with e | e <;> rw [e] at a ⊢ <;> omega)
  · rw [if_pos rfl, if_pos rfl]; exact hl
theorem fh_some {w : Dir} {S0 S1 S2 h i s k m n : Nat} (e : w.fh S0 S1 S2 h i s = some (k, m, n)) : k < 64 ∧ m < 64 ∧ n < 64 ∧ S2.testBit k = true ∧ S1.testBit m = true ∧ S0.testBit n = true ∧ w.le3 h i s k m n ∧
    ∀ h' i' s', h' < 24 → i' < 60 → s' < 60 → S2.testBit h' = true → S1.testBit i' = true → S0.testBit s' = true → w.le3 h i s h' i' s' → w.le3 k m n h' i' s' := by
  obtain ⟨a1, a2, a3, a4, a5⟩ := some_first e
  obtain ⟨b1, b2, b3, b4, b5, b6⟩ := fm_some a4
  refine ⟨a1, b1, b2, a2, b3, b4, ?_, ?_⟩
  · by_cases c : k = h
    · subst c
      rw [if_pos rfl, if_pos rfl] at b5
      exact .inr ⟨rfl, b5⟩
    · exact .inl (by rcases w.val_or with e | e <;> rw [e] at a3 ⊢ <;> omega)
  · intro h' i' s' h1 h2 h3 h4 h5 h6 hl
    have hi : w.val * (h : Int) ≤ w.val * (h' : Int) := by
      rcases hl with hl | ⟨rfl, _⟩
      · omega
      · exact Int.le_refl _
    have hs' : w.le2 (if h' = h then i else w.fst 60) (if h' = h then s else w.fst 60) i' s' := by
      rcases hl with hl | ⟨rfl, hl⟩
      · have ne : h' ≠ h := by rintro rfl; omega
        rw [if_neg ne, if_neg ne]
        have a := w.fst_le h2
        by_cases c : w.fst 60 = i'
        · exact .inr ⟨c, w.fst_le h3⟩
        · exact .inl (by rcases w.val_or with e | e <;> rw [e] at a ⊢ <;> omega)
      · rw [if_pos rfl, if_pos rfl]; exact hl
    rcases Int.lt_trichotomy (w.val * (h' : Int)) (w.val * (k : Int)) with c | c | c
    · exact absurd hs' (fm_none (a5 h' (by omega) h4 hi c) i' s' h2 h3 h5 h6)
    · obtain rfl : h' = k := by rcases w.val_or with e | e <;> rw [e] at c <;> omega
      exact .inr ⟨rfl, b6 i' s' h2 h3 h5 h6 hs'⟩
    · exact .inl c

/-- the first number with a property from a to b, in a direction, or none -/
def Dir.Fst (w : Dir) (P : Int → Prop) (a b : Int) (r : Option Int) : Prop := match r with
  | some x => w.val * a ≤ w.val * x ∧ w.val * x ≤ w.val * b ∧ P x ∧ ∀ y, w.val * a ≤ w.val * y → w.val * y < w.val * x → ¬ P y
  | none => ∀ y, w.val * a ≤ w.val * y → w.val * y ≤ w.val * b → ¬ P y
theorem fst_up {P : Int → Prop} {a b : Int} {r : Option Int} : Dir.up.Fst P a b r ↔ Least P a b r := by
  cases r with
  | none => simp [Dir.Fst, Least, Dir.val]
  | some x => simp [Dir.Fst, Least, Dir.val]
theorem fst_down {P : Int → Prop} {a b : Int} {r : Option Int} : Dir.down.Fst P a b r ↔ Most P b a r := by
  cases r with
  | none =>
    simp only [Dir.Fst, Most, Dir.val]
    exact ⟨fun h y h1 h2 => h y (by omega) (by omega), fun h y h1 h2 => h y (by omega) (by omega)⟩
  | some x =>
    simp only [Dir.Fst, Most, Dir.val]
    exact ⟨fun ⟨h1, h2, h3, h4⟩ => ⟨by omega, by omega, h3, fun y h5 h6 => h4 y (by omega) (by omega)⟩, fun ⟨h1, h2, h3, h4⟩ => ⟨by omega, by omega, h3, fun y h5 h6 => h4 y (by omega) (by omega)⟩⟩

/-- the sets of hours, minutes and seconds hold numbers of these kinds alone -/
structure Hms (H I S : Nat) : Prop where
  h : ∀ j, H.testBit j = true → j < 24
  i : ∀ j, I.testBit j = true → j < 60
  s : ∀ j, S.testBit j = true → j < 60
def sec3 (p : Nat × Nat × Nat) : Int := 3600 * (p.1 : Int) + 60 * (p.2.1 : Int) + (p.2.2 : Int)
theorem le3_iff {w : Dir} {h i s h' i' s' : Nat} (h2 : i < 60) (h3 : s < 60) (h5 : i' < 60) (h6 : s' < 60) : w.le3 h i s h' i' s' ↔ w.val * (sec3 (h, i, s)) ≤ w.val * (sec3 (h', i', s')) := by
  unfold Dir.le3 Dir.le2 sec3
  cases w <;> simp only [Dir.val] <;> omega
/-- is a second of a day matched -/
def Ck (H I S : Nat) (t : Int) : Prop := 0 ≤ t ∧ t < 86400 ∧ clk H I S t = true
theorem ck_iff {H I S : Nat} {t : Int} : Ck H I S t ↔ ∃ h i s : Nat, h < 24 ∧ i < 60 ∧ s < 60 ∧ H.testBit h = true ∧ I.testBit i = true ∧ S.testBit s = true ∧ t = sec3 (h, i, s) := by
  unfold Ck
  constructor
  · rintro ⟨h0, h1, h2⟩
    refine ⟨(t / 3600).toNat, (t / 60 % 60).toNat, (t % 60).toNat, by omega, by omega, by omega, ?_⟩
    unfold clk at h2
    simp only [Bool.and_eq_true] at h2
    refine ⟨h2.1, h2.2.1, h2.2.2, ?_⟩
    unfold sec3
    simp only
    omega
  · rintro ⟨h, i, s, h1, h2, h3, h4, h5, h6, rfl⟩
    have e : sec3 (h, i, s) = ((3600 * h + 60 * i + s : Nat) : Int) := by unfold sec3; simp only; omega
    refine ⟨by rw [e]; omega, by rw [e]; omega, ?_⟩
    rw [e, clk_at h2 h3, h4, h5, h6]
    rfl
/-- **the first second of a day**, from one on, in a direction -/
theorem fh_is {w : Dir} {H I S : Nat} (hb : Hms H I S) {t : Nat} (_ : t < 86400) : w.Fst (Ck H I S) t (86399 - (w.fst 86400 : Nat) : Int) ((w.fh S I H (t / 3600) (t % 3600 / 60) (t % 60)).map sec3) := by
  have et : sec3 (t / 3600, t % 3600 / 60, t % 60) = t := by unfold sec3; simp only; omega
  have end_ : ∀ y : Int, 0 ≤ y → y < 86400 → w.val * y ≤ w.val * (86399 - (w.fst 86400 : Nat) : Int) := fun y a b => by cases w <;> simp [Dir.val, Dir.fst] <;> omega
  cases e : w.fh S I H (t / 3600) (t % 3600 / 60) (t % 60) with
  | none =>
    intro y h1 _ h3
    obtain ⟨h, i, s, g1, g2, g3, g4, g5, g6, rfl⟩ := ck_iff.1 h3
    refine fh_none e h i s g1 g2 g3 g4 g5 g6 ((le3_iff (by omega) (by omega) g2 g3).2 ?_)
    rw [et]; exact h1
  | some p =>
    obtain ⟨k, m, n⟩ := p
    obtain ⟨_, _, _, a4, a5, a6, a7, a8⟩ := fh_some e
    have k1 := hb.h k a4; have m1 := hb.i m a5; have n1 := hb.s n a6
    have c : Ck H I S (sec3 (k, m, n)) := ck_iff.2 ⟨k, m, n, k1, m1, n1, a4, a5, a6, rfl⟩
    have l := (le3_iff (by omega) (by omega) m1 n1).1 a7
    rw [et] at l
    refine ⟨l, end_ _ c.1 c.2.1, c, ?_⟩
    intro y h1 h2 h3
    obtain ⟨h, i, s, g1, g2, g3, g4, g5, g6, rfl⟩ := ck_iff.1 h3
    have q := a8 h i s g1 g2 g3 g4 g5 g6 ((le3_iff (by omega) (by omega) g2 g3).2 (by rw [et]; exact h1))
    have q := (le3_iff m1 n1 g2 g3).1 q
    omega
end Go.Proofs.YtbehendogcghjaaDoor.Mat
