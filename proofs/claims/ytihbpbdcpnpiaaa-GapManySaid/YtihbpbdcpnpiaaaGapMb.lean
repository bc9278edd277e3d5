/- More plain facts on lists of times: the errors of Near, merged lists. No program stands here. -/
import Derived.Test.YtihbpbdcpnpiaaaGapMath
namespace Go.Proofs.Ytihbpbdcpnpiaaa.Gp

open Classical in
theorem errL_near (l : List Int) (t : Int) : errL [l, [t]] = if errL [l] ≠ 12 ∧ errL [l] ≠ 14 ∧ ¬ okT t then 14 else errL [l] := by
  have two : ∀ (P : List Int → Prop), (∃ m ∈ [l, [t]], P m) ↔ P l ∨ P [t] := fun P => by simp
  have one : ∀ (P : List Int → Prop), (∃ m ∈ [l], P m) ↔ P l := fun P => by simp
  have s : (100000 < ([t] : List Int).length) ↔ False := by simp
  have i : ¬ Inc [t] ↔ False := by have := inc_one t; simp [this]
  have k : (∃ z ∈ ([t] : List Int), ¬ okT z) ↔ ¬ okT t := by simp
  unfold errL
  simp only [two, one, s, i, k, or_false]
  by_cases a : 100000 < l.length
  · simp [a]
  · by_cases b : ∃ z ∈ l, ¬ okT z
    · simp only [if_neg a, if_pos b, if_pos (show (∃ z ∈ l, ¬ okT z) ∨ ¬ okT t from .inl b)]
      simp
    · by_cases c : okT t
      · have : ¬ ((∃ z ∈ l, ¬ okT z) ∨ ¬ okT t) := fun q => by rcases q with q | q; exact b q; exact q c
        simp only [if_neg a, if_neg b, if_neg this]
        by_cases d : Inc l
        · simp [d, c]
        · simp [d, c]
      · simp only [if_neg a, if_neg b, if_pos (show (∃ z ∈ l, ¬ okT z) ∨ ¬ okT t from .inr c)]
        by_cases d : Inc l
        · simp [d, c]
        · simp [d, c]

/-- two lists gone through together: each time, and which of the two have it -/
def mg : List Int → List Int → List (Int × Bool × Bool)
  | [], [] => []
  | [], y :: b => (y, false, true) :: mg [] b
  | x :: a, [] => (x, true, false) :: mg a []
  | x :: a, y :: b => if x < y then (x, true, false) :: mg a (y :: b) else if y < x then (y, false, true) :: mg (x :: a) b else (x, true, true) :: mg a b
termination_by a b => a.length + b.length
/-- the times of both, in order -/
def ms (a b : List Int) : List Int := (mg a b).map (·.1)
def onlyA (a b : List Int) : List Int := ((mg a b).filter fun p => p.2.1 && !p.2.2).map (·.1)
def onlyB (a b : List Int) : List Int := ((mg a b).filter fun p => !p.2.1 && p.2.2).map (·.1)
theorem mg_len : ∀ (a b : List Int), (mg a b).length ≤ a.length + b.length
  | [], [] => by simp [mg]
  | [], y :: b => by have := mg_len [] b; simp [mg] at this ⊢; omega
  | x :: a, [] => by have := mg_len a []; simp [mg] at this ⊢; omega
  | x :: a, y :: b => by
    unfold mg
    split
    · have := mg_len a (y :: b); simp at this ⊢; omega
    · split
      · have := mg_len (x :: a) b; simp at this ⊢; omega
      · have := mg_len a b; simp at this ⊢; omega
termination_by a b => a.length + b.length
/-- the elements of both, with who has them -/
theorem mem_mg : ∀ {a b : List Int} (_ : Inc a) (_ : Inc b) (t : Int) (p q : Bool), (t, p, q) ∈ mg a b ↔ (p = true ↔ t ∈ a) ∧ (q = true ↔ t ∈ b) ∧ (t ∈ a ∨ t ∈ b)
  | [], [], _, _, t, p, q => by simp [mg]
  | [], y :: b, ha, hb, t, p, q => by
    have hb' := List.pairwise_cons.1 hb
    have ih := mem_mg ha hb'.2 t p q
    rw [mg, List.mem_cons, ih]
    constructor
    · rintro (e | ⟨h1, h2, h3⟩)
      · simp only [Prod.mk.injEq] at e
        obtain ⟨rfl, rfl, rfl⟩ := e
        simp
      · refine ⟨h1, ?_, ?_⟩
        · rw [h2]; simp at h3; simp [h3]
        · simp at h3; simp [h3]
    · rintro ⟨h1, h2, h3⟩
      by_cases e : t = y
      · subst e
        have p0 : p = false := by cases p <;> simp at h1 ⊢
        have q0 : q = true := h2.2 (by simp)
        exact .inl (by rw [p0, q0])
      · simp [e] at h2 h3
        exact .inr ⟨h1, h2, .inr h3⟩
  | x :: a, [], ha, hb, t, p, q => by
    have ha' := List.pairwise_cons.1 ha
    have ih := mem_mg ha'.2 hb t p q
    rw [mg, List.mem_cons, ih]
    constructor
    · rintro (e | ⟨h1, h2, h3⟩)
      · simp only [Prod.mk.injEq] at e
        obtain ⟨rfl, rfl, rfl⟩ := e
        simp
      · refine ⟨?_, h2, ?_⟩
        · rw [h1]; simp at h3; simp [h3]
        · simp at h3; simp [h3]
    · rintro ⟨h1, h2, h3⟩
      by_cases e : t = x
      · subst e
        have q0 : q = false := by cases q <;> simp at h2 ⊢
        have p0 : p = true := h1.2 (by simp)
        exact .inl (by rw [p0, q0])
      · simp [e] at h1 h3
        exact .inr ⟨h1, h2, .inl h3⟩
  | x :: a, y :: b, ha, hb, t, p, q => by
    have ha' := List.pairwise_cons.1 ha
    have hb' := List.pairwise_cons.1 hb
    rw [mg]
    by_cases c : x < y
    · have ih := mem_mg ha'.2 hb t p q
      have nb : x ∉ y :: b := fun m => by
        rcases List.mem_cons.1 m with m | m
        · omega
        · have := hb'.1 x m; omega
      have na : x ∉ a := fun m => by have := ha'.1 x m; omega
      rw [if_pos c, List.mem_cons, ih]
      constructor
      · rintro (e | ⟨h1, h2, h3⟩)
        · simp only [Prod.mk.injEq] at e
          obtain ⟨rfl, rfl, rfl⟩ := e
          exact ⟨by simp, by simpa using nb, by simp⟩
        · have e : t ≠ x := fun e => by
            subst e
            rcases h3 with h3 | h3
            · exact na h3
            · exact nb h3
          refine ⟨?_, h2, ?_⟩
          · rw [h1]; simp [e]
          · rcases h3 with h3 | h3
            · exact .inl (by simp [h3])
            · exact .inr h3
      · rintro ⟨h1, h2, h3⟩
        by_cases e : t = x
        · subst e
          have p0 : p = true := h1.2 (by simp)
          have q0 : q = false := by
            cases q with
            | false => rfl
            | true => exact absurd (h2.1 rfl) nb
          exact .inl (by rw [p0, q0])
        · have m : t ∈ x :: a ↔ t ∈ a := by simp [e]
          rw [m] at h1 h3
          exact .inr ⟨h1, h2, h3⟩
    · by_cases d : y < x
      · have ih := mem_mg ha hb'.2 t p q
        have na : y ∉ x :: a := fun m => by
          rcases List.mem_cons.1 m with m | m
          · omega
          · have := ha'.1 y m; omega
        have nb : y ∉ b := fun m => by have := hb'.1 y m; omega
        rw [if_neg c, if_pos d, List.mem_cons, ih]
        constructor
        · rintro (e | ⟨h1, h2, h3⟩)
          · simp only [Prod.mk.injEq] at e
            obtain ⟨rfl, rfl, rfl⟩ := e
            exact ⟨by simpa using na, by simp, by simp⟩
          · have e : t ≠ y := fun e => by
              subst e
              rcases h3 with h3 | h3
              · exact na h3
              · exact nb h3
            refine ⟨h1, ?_, ?_⟩
            · rw [h2]; simp [e]
            · rcases h3 with h3 | h3
              · exact .inl h3
              · exact .inr (by simp [h3])
        · rintro ⟨h1, h2, h3⟩
          by_cases e : t = y
          · subst e
            have q0 : q = true := h2.2 (by simp)
            have p0 : p = false := by
              cases p with
              | false => rfl
              | true => exact absurd (h1.1 rfl) na
            exact .inl (by rw [p0, q0])
          · have m : t ∈ y :: b ↔ t ∈ b := by simp [e]
            rw [m] at h2 h3
            exact .inr ⟨h1, h2, h3⟩
      · obtain rfl : x = y := by omega
        have ih := mem_mg ha'.2 hb'.2 t p q
        have na : x ∉ a := fun m => by have := ha'.1 x m; omega
        have nb : x ∉ b := fun m => by have := hb'.1 x m; omega
        rw [if_neg c, if_neg d, List.mem_cons, ih]
        constructor
        · rintro (e | ⟨h1, h2, h3⟩)
          · simp only [Prod.mk.injEq] at e
            obtain ⟨rfl, rfl, rfl⟩ := e
            simp
          · have e : t ≠ x := fun e => by
              subst e
              rcases h3 with h3 | h3
              · exact na h3
              · exact nb h3
            simp [e, h1, h2, h3]
        · rintro ⟨h1, h2, h3⟩
          by_cases e : t = x
          · subst e
            exact .inl (by rw [h1.2 (by simp), h2.2 (by simp)])
          · simp [e] at h1 h2 h3
            exact .inr ⟨h1, h2, h3⟩
termination_by a b => a.length + b.length
theorem mem_ms {a b : List Int} (ha : Inc a) (hb : Inc b) (t : Int) : t ∈ ms a b ↔ t ∈ a ∨ t ∈ b := by
  unfold ms
  rw [List.mem_map]
  constructor
  · rintro ⟨⟨u, p, q⟩, h, rfl⟩
    exact ((mem_mg ha hb u p q).1 h).2.2
  · intro h
    exact ⟨(t, decide (t ∈ a), decide (t ∈ b)), (mem_mg ha hb t _ _).2 ⟨by simp, by simp, h⟩, rfl⟩
theorem head_le {a b : List Int} (ha : Inc a) (hb : Inc b) {z : Int} (h1 : ∀ u ∈ a, z < u) (h2 : ∀ u ∈ b, z < u) : ∀ p ∈ mg a b, z < p.1 := by
  rintro ⟨u, p, q⟩ h
  rcases ((mem_mg ha hb u p q).1 h).2.2 with m | m
  · exact h1 u m
  · exact h2 u m
theorem inc_mg : ∀ {a b : List Int} (_ : Inc a) (_ : Inc b), (mg a b).Pairwise (fun p q => p.1 < q.1)
  | [], [], _, _ => by simp [mg]
  | [], y :: b, ha, hb => by
    have hb' := List.pairwise_cons.1 hb
    rw [mg, List.pairwise_cons]
    exact ⟨head_le ha hb'.2 (by simp) hb'.1, inc_mg ha hb'.2⟩
  | x :: a, [], ha, hb => by
    have ha' := List.pairwise_cons.1 ha
    rw [mg, List.pairwise_cons]
    exact ⟨head_le ha'.2 hb ha'.1 (by simp), inc_mg ha'.2 hb⟩
  | x :: a, y :: b, ha, hb => by
    have ha' := List.pairwise_cons.1 ha
    have hb' := List.pairwise_cons.1 hb
    rw [mg]
    by_cases c : x < y
    · rw [if_pos c, List.pairwise_cons]
      exact ⟨head_le ha'.2 hb ha'.1 (fun u m => by
        rcases List.mem_cons.1 m with m | m
        · rw [m]; exact c
        · have := hb'.1 u m; dsimp only; omega), inc_mg ha'.2 hb⟩
    · by_cases d : y < x
      · rw [if_neg c, if_pos d, List.pairwise_cons]
        exact ⟨head_le ha hb'.2 (fun u m => by
          rcases List.mem_cons.1 m with m | m
          · rw [m]; exact d
          · have := ha'.1 u m; dsimp only; omega) hb'.1, inc_mg ha hb'.2⟩
      · obtain rfl : x = y := by omega
        rw [if_neg c, if_neg d, List.pairwise_cons]
        exact ⟨head_le ha'.2 hb'.2 ha'.1 hb'.1, inc_mg ha'.2 hb'.2⟩
termination_by a b => a.length + b.length
theorem inc_ms {a b : List Int} (ha : Inc a) (hb : Inc b) : Inc (ms a b) := List.pairwise_map.2 (inc_mg ha hb)
theorem inc_sub {a b : List Int} (ha : Inc a) (hb : Inc b) (f : Int × Bool × Bool → Bool) : Inc (((mg a b).filter f).map (·.1)) :=
  List.pairwise_map.2 ((inc_mg ha hb).filter f)
theorem mem_onlyA {a b : List Int} (ha : Inc a) (hb : Inc b) (t : Int) : t ∈ onlyA a b ↔ t ∈ a ∧ t ∉ b := by
  unfold onlyA
  rw [List.mem_map]
  constructor
  · rintro ⟨⟨u, p, q⟩, h, rfl⟩
    rw [List.mem_filter] at h
    obtain ⟨h1, h2, _⟩ := (mem_mg ha hb u p q).1 h.1
    have hh := h.2
    simp at hh
    exact ⟨h1.1 hh.1, fun m => by have := h2.2 m; rw [hh.2] at this; simp at this⟩
  · rintro ⟨m, n⟩
    exact ⟨(t, true, false), List.mem_filter.2 ⟨(mem_mg ha hb t _ _).2 ⟨by simp [m], by simp [n], .inl m⟩, rfl⟩, rfl⟩
theorem mem_onlyB {a b : List Int} (ha : Inc a) (hb : Inc b) (t : Int) : t ∈ onlyB a b ↔ t ∈ b ∧ t ∉ a := by
  unfold onlyB
  rw [List.mem_map]
  constructor
  · rintro ⟨⟨u, p, q⟩, h, rfl⟩
    rw [List.mem_filter] at h
    obtain ⟨h1, h2, _⟩ := (mem_mg ha hb u p q).1 h.1
    have hh := h.2
    simp at hh
    exact ⟨h2.1 hh.2, fun m => by have := h1.2 m; rw [hh.1] at this; simp at this⟩
  · rintro ⟨m, n⟩
    exact ⟨(t, false, true), List.mem_filter.2 ⟨(mem_mg ha hb t _ _).2 ⟨by simp [n], by simp [m], .inr m⟩, rfl⟩, rfl⟩
/-- those of a that b has not, looked at one after the other -/
def minus (a b : List Int) : List Int := a.filter fun t => decide (t ∉ b)
theorem onlyA_is {a b : List Int} (ha : Inc a) (hb : Inc b) : onlyA a b = minus a b :=
  Inc.uniq (inc_sub ha hb _) (ha.filter _) fun t => by rw [mem_onlyA ha hb]; unfold minus; simp
theorem onlyB_is {a b : List Int} (ha : Inc a) (hb : Inc b) : onlyB a b = minus b a :=
  Inc.uniq (inc_sub ha hb _) (hb.filter _) fun t => by rw [mem_onlyB ha hb]; unfold minus; simp
theorem minus_take (a b : List Int) (k : Nat) (h : k < a.length) : minus (a.take (k + 1)) b = minus (a.take k) b ++ if a.getD k 0 ∈ b then [] else [a.getD k 0] := by
  unfold minus
  rw [List.take_succ_eq_append_getElem h, List.filter_append]
  congr 1
  have e : a.getD k 0 = a[k] := by simp [h]
  rw [e]
  by_cases c : a[k] ∈ b
  · simp [c]
  · simp [c]
/-- a time put into its place -/
theorem inc_ins {p q : List Int} {y : Int} (h : Inc (p ++ q)) (h1 : ∀ u ∈ p, u < y) (h2 : ∀ u ∈ q, y < u) : Inc (p ++ y :: q) := by
  unfold Inc at *
  rw [List.pairwise_append] at h ⊢
  refine ⟨h.1, List.pairwise_cons.2 ⟨h2, h.2.1⟩, fun a ha b hb => ?_⟩
  rcases List.mem_cons.1 hb with e | m
  · rw [e]; exact h1 a ha
  · exact h.2.2 a ha b m
/-- lists merged twice the same, in another order, with nothing -/
theorem ms_comm {a b : List Int} (ha : Inc a) (hb : Inc b) : ms a b = ms b a :=
  (inc_ms ha hb).uniq (inc_ms hb ha) fun t => by rw [mem_ms ha hb, mem_ms hb ha]; exact Or.comm
theorem ms_self {a : List Int} (ha : Inc a) : ms a a = a := (inc_ms ha ha).uniq ha fun t => by rw [mem_ms ha ha]; simp
theorem ms_nil {a : List Int} (ha : Inc a) : ms [] a = a := (inc_ms List.Pairwise.nil ha).uniq ha fun t => by rw [mem_ms List.Pairwise.nil ha]; simp
theorem ms_len (a b : List Int) : (ms a b).length ≤ a.length + b.length := by unfold ms; rw [List.length_map]; exact mg_len a b
end Go.Proofs.Ytihbpbdcpnpiaaa.Gp
