/- Plain facts on windows over lists of times: how many times lie in a window, and how few windows hold all. No program stands here. -/
import Derived.Test.YtihbpbdcpnpiaaaGapMc
namespace Go.Proofs.Ytihbpbdcpnpiaaa.Gp

/-- how many of the first k times lie in the window of the length w at a -/
def insTo (l : List Int) (a w : Int) : Nat → Nat
  | 0 => 0
  | k + 1 => insTo l a w k + if a ≤ l.getD k 0 ∧ l.getD k 0 - a < w then 1 else 0
theorem insTo_le (l : List Int) (a w : Int) : ∀ (k : Nat), insTo l a w k ≤ k
  | 0 => Nat.le_refl _
  | k + 1 => by
    have := insTo_le l a w k
    unfold insTo
    split <;> omega
theorem insTo_is {l : List Int} (h : Inc l) (a : Int) {w : Int} (hw : 0 ≤ w) : ∀ {k : Nat}, k ≤ l.length → insTo l a w k = min k (cl l (a + w)) - min k (cl l a)
  | 0, _ => by simp [insTo]
  | k + 1, hk => by
    have ih := insTo_is h a hw (k := k) (by omega)
    have c1 := cl_iff h a (j := k) (by omega)
    have c2 := cl_iff h (a + w) (j := k) (by omega)
    have m := cl_mono h (show a ≤ a + w by omega)
    show insTo l a w k + (if a ≤ l.getD k 0 ∧ l.getD k 0 - a < w then 1 else 0) = _
    by_cases p : a ≤ l.getD k 0 ∧ l.getD k 0 - a < w
    · rw [if_pos p, ih]
      have q1 : ¬ k < cl l a := fun q => by have := c1.1 q; omega
      have q2 : k < cl l (a + w) := c2.2 (by omega)
      omega
    · rw [if_neg p, ih]
      by_cases q1 : k < cl l a
      · omega
      · have q2 : ¬ k < cl l (a + w) := fun q => by
          have := c2.1 q
          apply p
          constructor
          · apply Classical.byContradiction
            intro r
            exact q1 (c1.2 (by omega))
          · omega
        omega
theorem ins_is {l : List Int} (h : Inc l) (a : Int) {w : Int} (hw : 0 ≤ w) : insTo l a w l.length = cl l (a + w) - cl l a := by
  have := cl_le l a
  have := cl_le l (a + w)
  rw [insTo_is h a hw (Nat.le_refl _)]
  omega
/-- what GapWindows asks of Most -/
structure Wins (l : List Int) (w : Int) (n : Nat) (a : Int) : Prop where
  pos : 1 ≤ n
  le : n ≤ l.length
  here : insTo l a w l.length = n
  mem : a ∈ l
  no : ∀ b, insTo l b w l.length ≤ n
  first : ∀ t, t ∈ l → t < a → insTo l t w l.length < n
theorem wins {l : List Int} (h : Inc l) {w : Int} (hw : 1 ≤ w) (h0 : 0 < l.length) {n : Nat} {a : Int} (e : best l w l.length = (n, a)) : Wins l w n a := by
  obtain ⟨i, hi, e1, e2, e3⟩ := best_is h hw h0 (Nat.le_refl _)
  rw [e] at e1 e2 e3
  simp only [Prod.mk.injEq] at e1
  obtain ⟨rfl, rfl⟩ := e1
  have nx := cl_next h hi hw
  have le := cl_le l (l.getD i 0 + w)
  have at_ : ∀ j, j < l.length → insTo l (l.getD j 0) w l.length = cl l (l.getD j 0 + w) - j := fun j hj => by
    rw [ins_is h _ (by omega), cl_self h hj]
  refine ⟨by omega, by omega, at_ i hi, getD_mem hi, fun b => ?_, fun t ht lt => ?_⟩
  · rw [ins_is h b (by omega)]
    have lb := cl_le l b
    have lbw := cl_le l (b + w)
    by_cases c : cl l b < l.length
    · have q : ¬ l.getD (cl l b) 0 < b := fun q => by have := (cl_iff h b c).2 q; omega
      have m := cl_mono h (show b + w ≤ l.getD (cl l b) 0 + w by omega)
      have := e2 (cl l b) c
      dsimp only at this
      omega
    · omega
  · obtain ⟨j, hj, rfl⟩ := mem_getD ht
    rw [at_ j hj]
    have ji : j < i := by
      apply Classical.byContradiction
      intro q
      have := h.le (i := i) (j := j) (by omega) hj
      omega
    have := e3 j ji
    dsimp only at this
    exact this
/-- the windows of Cover hold all times, each at most so many -/
theorem cov_many {l : List Int} (h : Tl l) {w : Int} (hw : 1 ≤ w) {n : Nat} (hn : ∀ j, j < l.length → cl l (l.getD j 0 + w) - j ≤ n) : ∀ {k : Nat}, 0 < k → k ≤ l.length →
    ∃ s, s < k ∧ 1 ≤ (cov l w k).1 ∧ (cov l w k).2 = l.getD s 0 + w ∧ k ≤ cl l (cov l w k).2 ∧ s ≤ n * ((cov l w k).1 - 1)
  | k + 1, _, hk => by
    have nx := cl_next h.inc (i := k) (by omega) hw
    have un : cov l w (k + 1) = if (cov l w k).2 ≤ l.getD k 0 then ((cov l w k).1 + 1, l.getD k 0 + w) else cov l w k := rfl
    rw [un]
    by_cases c : (cov l w k).2 ≤ l.getD k 0
    · rw [if_pos c]
      refine ⟨k, by omega, by simp, rfl, nx, ?_⟩
      show k ≤ n * ((cov l w k).1 + 1 - 1)
      rw [Nat.add_sub_cancel]
      by_cases k0 : k = 0
      · omega
      · obtain ⟨s, h1, h2, h3, h4, h5⟩ := cov_many h hw hn (k := k) (by omega) (by omega)
        have h6 := hn s (by omega)
        rw [h3] at h4
        have : n * (cov l w k).1 = n * ((cov l w k).1 - 1) + n := by
          obtain ⟨m, hm⟩ : ∃ m, (cov l w k).1 = m + 1 := ⟨(cov l w k).1 - 1, by omega⟩
          rw [hm, Nat.add_sub_cancel, Nat.mul_succ]
        omega
    · rw [if_neg c]
      have k0 : 0 < k := by
        apply Classical.byContradiction
        intro q
        have e : k = 0 := by omega
        rw [e] at c
        have := h.ok _ (getD_mem (l := l) (i := 0) (by omega))
        unfold okT at this
        exact c this.1
      obtain ⟨s, h1, h2, h3, h4, h5⟩ := cov_many h hw hn k0 (by omega)
      have := (cl_iff h.inc (cov l w k).2 (j := k) (by omega)).2 (by omega)
      exact ⟨s, by omega, h2, h3, by omega, h5⟩
theorem cov_mul {l : List Int} (h : Tl l) {w : Int} (hw : 1 ≤ w) (h0 : 0 < l.length) {n : Nat} {a : Int} (e : best l w l.length = (n, a)) : 1 ≤ (cov l w l.length).1 ∧ l.length ≤ n * (cov l w l.length).1 := by
  obtain ⟨i, hi, e1, e2, e3⟩ := best_is h.inc hw h0 (Nat.le_refl _)
  rw [e] at e2
  obtain ⟨s, h1, h2, h3, h4, h5⟩ := cov_many h hw (n := n) (fun j hj => e2 j hj) h0 (Nat.le_refl _)
  have h6 := e2 s h1
  dsimp only at h6
  rw [h3] at h4
  have : n * (cov l w l.length).1 = n * ((cov l w l.length).1 - 1) + n := by
    obtain ⟨m, hm⟩ : ∃ m, (cov l w l.length).1 = m + 1 := ⟨(cov l w l.length).1 - 1, by omega⟩
    rw [hm, Nat.add_sub_cancel, Nat.mul_succ]
  exact ⟨h2, by omega⟩

/-- how many windows hold the times from the k-th on -/
def Fw (l : List Int) (w : Int) (k : Nat) : Nat := if _h : k < l.length then 1 + Fw l w (max (k + 1) (cl l (l.getD k 0 + w))) else 0
termination_by l.length - k
theorem Fw_step {l : List Int} (h : Inc l) {w : Int} (hw : 1 ≤ w) {k : Nat} (hk : k < l.length) : Fw l w k = 1 + Fw l w (cl l (l.getD k 0 + w)) := by
  have := cl_next h hk hw
  rw [Fw, dif_pos hk, show max (k + 1) (cl l (l.getD k 0 + w)) = cl l (l.getD k 0 + w) by omega]
theorem Fw_end (l : List Int) (w : Int) {k : Nat} (hk : l.length ≤ k) : Fw l w k = 0 := by rw [Fw, dif_neg (by omega)]
theorem Fw_anti {l : List Int} (h : Inc l) {w : Int} (hw : 1 ≤ w) : ∀ (d i j : Nat), l.length - i ≤ d → i ≤ j → Fw l w j ≤ Fw l w i := by
  intro d
  induction d with
  | zero => intro i j hd hij; rw [Fw_end l w (k := j) (by omega)]; omega
  | succ d ih =>
    intro i j hd hij
    by_cases e : i = j
    · subst e; exact Nat.le_refl _
    · by_cases hj : j < l.length
      · have ni := cl_next h (i := i) (by omega) hw
        have lt := h.lt (i := i) (j := j) (by omega) hj
        have m := cl_mono h (show l.getD i 0 + w ≤ l.getD j 0 + w by omega)
        rw [Fw_step h hw hj, Fw_step h hw (k := i) (by omega)]
        have := ih (cl l (l.getD i 0 + w)) (cl l (l.getD j 0 + w)) (by omega) m
        omega
      · rw [Fw_end l w (k := j) (by omega)]; omega
/-- the greatest number of times that are apart, taken from the end on -/
def apR (l : List Int) (w : Int) : Nat → Nat × Int
  | 0 => (0, 4611686018427387904)
  | m + 1 => if l.getD (l.length - 1 - m) 0 + w ≤ (apR l w m).2 then ((apR l w m).1 + 1, l.getD (l.length - 1 - m) 0) else apR l w m
theorem apR_is {l : List Int} (h : Tl l) {w : Int} (hw : 1 ≤ w) (hw2 : w ≤ 68719476736) : ∀ {m : Nat}, m ≤ l.length →
    (apR l w m).1 = Fw l w (l.length - m) ∧ ((m = 0 ∧ (apR l w m).2 = 4611686018427387904) ∨ ∃ p, l.length - m ≤ p ∧ p < l.length ∧ (apR l w m).2 = l.getD p 0 ∧ Fw l w p = Fw l w (l.length - m) ∧ ∀ q, p < q → Fw l w q < Fw l w (l.length - m))
  | 0, _ => by
    refine ⟨?_, .inl ⟨rfl, rfl⟩⟩
    rw [Fw_end l w (by omega)]; rfl
  | m + 1, hm => by
    obtain ⟨i1, i2⟩ := apR_is h hw hw2 (m := m) (by omega)
    obtain ⟨k, hk⟩ : ∃ k, l.length - 1 - m = k := ⟨_, rfl⟩
    have un : apR l w (m + 1) = if l.getD (l.length - 1 - m) 0 + w ≤ (apR l w m).2 then ((apR l w m).1 + 1, l.getD (l.length - 1 - m) 0) else apR l w m := rfl
    rw [un, hk, show l.length - (m + 1) = k by omega]
    have kl : k < l.length := by omega
    have km : l.length - m = k + 1 := by omega
    rw [km] at i1 i2
    have st := Fw_step h.inc hw kl
    have nx := cl_next h.inc kl hw
    have lec := cl_le l (l.getD k 0 + w)
    have anti := fun i j (hij : i ≤ j) => Fw_anti h.inc hw l.length i j (by omega) hij
    have ok := h.ok _ (getD_mem kl)
    unfold okT at ok
    rcases i2 with ⟨rfl, e⟩ | ⟨p, p1, p2, e, f1, f2⟩
    · rw [if_pos (by rw [e]; omega)]
      have c : cl l (l.getD k 0 + w) = l.length := by omega
      rw [c, Fw_end l w (Nat.le_refl _)] at st
      refine ⟨by show (apR l w 0).1 + 1 = _; rw [st]; show 0 + 1 = _; omega, .inr ⟨k, Nat.le_refl _, kl, rfl, rfl, fun q hq => ?_⟩⟩
      rw [Fw_end l w (k := q) (by omega), st]
      omega
    · rw [e]
      have ci := cl_iff h.inc (l.getD k 0 + w) (j := p) p2
      by_cases c : l.getD k 0 + w ≤ l.getD p 0
      · rw [if_pos c]
        have cp : cl l (l.getD k 0 + w) ≤ p := by
          apply Classical.byContradiction
          intro q
          have := ci.1 (by omega)
          omega
        have g1 := anti _ _ cp
        have g2 := anti _ _ nx
        refine ⟨by show (apR l w m).1 + 1 = _; omega, .inr ⟨k, Nat.le_refl _, kl, rfl, rfl, fun q hq => ?_⟩⟩
        have := anti (k + 1) q (by omega)
        omega
      · rw [if_neg c]
        have cp : p < cl l (l.getD k 0 + w) := ci.2 (by omega)
        have g1 := f2 _ cp
        have g2 := anti k (k + 1) (by omega)
        refine ⟨by omega, .inr ⟨p, by omega, p2, e, by omega, fun q hq => ?_⟩⟩
        have := f2 q hq
        omega
theorem cov_F {l : List Int} (h : Tl l) {w : Int} (hw : 1 ≤ w) : ∀ {k : Nat}, k ≤ l.length → k ≤ cl l (cov l w k).2 ∧ (cov l w k).1 + Fw l w (cl l (cov l w k).2) = Fw l w 0
  | 0, _ => by
    have e : cl l (cov l w 0).2 = 0 := by
      show cl l 0 = 0
      by_cases z : 0 < l.length
      · apply Classical.byContradiction
        intro q
        have := (cl_iff h.inc 0 z).1 (by omega)
        have o := h.ok _ (getD_mem z)
        unfold okT at o
        omega
      · have := cl_le l 0; omega
    rw [e]
    exact ⟨Nat.le_refl _, by show 0 + _ = _; omega⟩
  | k + 1, hk => by
    obtain ⟨i1, i2⟩ := cov_F h hw (k := k) (by omega)
    have un : cov l w (k + 1) = if (cov l w k).2 ≤ l.getD k 0 then ((cov l w k).1 + 1, l.getD k 0 + w) else cov l w k := rfl
    rw [un]
    have ci := cl_iff h.inc (cov l w k).2 (j := k) (by omega)
    by_cases c : (cov l w k).2 ≤ l.getD k 0
    · rw [if_pos c]
      have e : cl l (cov l w k).2 = k := by
        apply Nat.le_antisymm _ i1
        apply Classical.byContradiction
        intro q
        have := ci.1 (by omega)
        omega
      rw [e] at i2
      have st := Fw_step h.inc hw (k := k) (by omega)
      exact ⟨cl_next h.inc (by omega) hw, by dsimp only; omega⟩
    · rw [if_neg c]
      exact ⟨ci.2 (by omega), i2⟩
/-- as many windows as times that are apart -/
theorem cover_apart {l : List Int} (h : Tl l) {w : Int} (hw : 1 ≤ w) (hw2 : w ≤ 68719476736) : (cov l w l.length).1 = (apR l w l.length).1 := by
  have a := (apR_is h hw hw2 (Nat.le_refl _)).1
  obtain ⟨b1, b2⟩ := cov_F h hw (Nat.le_refl _)
  have c := cl_le l (cov l w l.length).2
  rw [Fw_end l w (by omega)] at b2
  rw [a, Nat.sub_self]
  omega
/-- one window holds all, if it is long enough -/
theorem cov_one {l : List Int} (h : Tl l) : ∀ {k : Nat}, 0 < k → k ≤ l.length → cov l (l.getD (l.length - 1) 0 - l.getD 0 0 + 1) k = (1, l.getD 0 0 + (l.getD (l.length - 1) 0 - l.getD 0 0 + 1))
  | k + 1, _, hk => by
    have un : ∀ w, cov l w (k + 1) = if (cov l w k).2 ≤ l.getD k 0 then ((cov l w k).1 + 1, l.getD k 0 + w) else cov l w k := fun _ => rfl
    rw [un]
    by_cases k0 : k = 0
    · subst k0
      have o := h.ok _ (getD_mem (l := l) (i := 0) (by omega))
      unfold okT at o
      rw [if_pos (by show (0 : Int) ≤ _; exact o.1)]
      rfl
    · rw [cov_one h (k := k) (by omega) (by omega)]
      have := h.inc.le (i := k) (j := l.length - 1) (by omega) (by omega)
      rw [if_neg (by dsimp only; omega)]
/-- windows of one second hold one time each -/
theorem cov_all {l : List Int} (h : Tl l) : ∀ {k : Nat}, k ≤ l.length → (cov l 1 k).1 = k ∧ (0 < k → (cov l 1 k).2 = l.getD (k - 1) 0 + 1)
  | 0, _ => ⟨rfl, fun q => by omega⟩
  | k + 1, hk => by
    obtain ⟨a, b⟩ := cov_all h (k := k) (by omega)
    have un : cov l 1 (k + 1) = if (cov l 1 k).2 ≤ l.getD k 0 then ((cov l 1 k).1 + 1, l.getD k 0 + 1) else cov l 1 k := rfl
    have c : (cov l 1 k).2 ≤ l.getD k 0 := by
      by_cases k0 : k = 0
      · subst k0
        have o := h.ok _ (getD_mem (l := l) (i := 0) (by omega))
        unfold okT at o
        exact o.1
      · rw [b (by omega)]
        have := h.inc.lt (i := k - 1) (j := k) (by omega) (by omega)
        omega
    rw [un, if_pos c]
    exact ⟨by dsimp only; omega, fun _ => by dsimp only; rw [Nat.add_sub_cancel]⟩
end Go.Proofs.Ytihbpbdcpnpiaaa.Gp
