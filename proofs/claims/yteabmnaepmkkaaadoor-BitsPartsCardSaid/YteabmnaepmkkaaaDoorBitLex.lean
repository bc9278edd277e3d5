/- A region that asks for its order, with very many operations: the question whether the order of the text serves every order, reckoned pair by pair. No program stands here. -/
import Derived.Deep.QuietTactic
import Derived.BigQuiet
namespace Go.Proofs.YteabmnaepmkkaaaDoor
open Go

/-- each later operation waits for this one, or has nothing to do with it -/
def pairsOk (ops : Array Oper) (o : Oper) (k : Nat) : List Oper → Bool
  | [] => true
  | x :: r => (x.after.any (fun e => Region.binds .any e && e.on == k) || o.apart ops x) && pairsOk ops o k r
def lexL (ops : Array Oper) : List Oper → Nat → Bool
  | [], _ => true
  | o :: r, k => o.after.all (fun e => !Region.binds .any e || decide (e.on < k)) && pairsOk ops o k r && lexL ops r (k + 1)
theorem pairsOk_at {ops : Array Oper} {o : Oper} {k : Nat} : ∀ {r : List Oper} {j : Nat} {x : Oper}, pairsOk ops o k r = true → r[j]? = some x → (x.after.any (fun e => Region.binds .any e && e.on == k) || o.apart ops x) = true
  | [], _, _, _, h => by simp at h
  | y :: r, 0, x, h, hx => by
    simp only [List.getElem?_cons_zero, Option.some.injEq] at hx
    subst hx
    simp only [pairsOk, Bool.and_eq_true] at h
    exact h.1
  | y :: r, j + 1, x, h, hx => by
    simp only [pairsOk, Bool.and_eq_true] at h
    exact pairsOk_at h.2 (by simpa using hx)
theorem lexFrom_of {ops : Array Oper} : ∀ (r : List Oper) (k : Nat) (listed : Array Bool), (∀ j, r[j]? = ops[k + j]?) → (∀ j, j < ops.size → listed[j]? = some (decide (j < k))) → listed.size = ops.size →
    lexL ops r k = true → Region.lexFrom .any ops r.length k listed = true
  | [], k, listed, hr, hl, hs, _ => by
    show (Region.ready .any ops listed).isEmpty = true
    rw [List.isEmpty_iff]
    apply List.eq_nil_iff_forall_not_mem.2
    intro j hj
    obtain ⟨h1, o, ho, _⟩ := mem_ready.1 hj
    have hk : ops[k]? = none := by have := hr 0; simpa using this.symm
    have hk' : ops.size ≤ k := by simpa using hk
    obtain ⟨hjs, _⟩ := Array.getElem?_eq_some_iff.1 ho
    rw [Array.getD_eq_getD_getElem?, hl j hjs] at h1
    have : j < k := by omega
    simp [this] at h1
  | o :: r, k, listed, hr, hl, hs, h => by
    simp only [lexL, Bool.and_eq_true] at h
    obtain ⟨⟨h1, h2⟩, h3⟩ := h
    have ho : ops[k]? = some o := by have := hr 0; simpa using this.symm
    obtain ⟨hk, _⟩ := Array.getElem?_eq_some_iff.1 ho
    simp only [List.length_cons, Region.lexFrom, Bool.and_eq_true]
    refine ⟨⟨?_, ?_⟩, ?_⟩
    · rw [List.contains_iff_mem]
      refine mem_ready.2 ⟨?_, o, ho, fun e he hb => ?_⟩
      · rw [Array.getD_eq_getD_getElem?, hl k hk]; simp
      · have q := Array.all_eq_true'.1 h1 e he
        simp only [hb, Bool.not_true, Bool.false_or, decide_eq_true_eq] at q
        rw [Array.getD_eq_getD_getElem?, hl e.on (by omega)]
        simpa using q
    · simp only [Region.free, ho, List.all_eq_true, List.mem_range]
      intro j hj
      rw [Array.getD_eq_getD_getElem?, hl j hj]
      by_cases c : j < k
      · simp [c]
      · by_cases e : j = k
        · simp [e]
        · have hx : ops[j]? = some ops[j] := Array.getElem?_eq_getElem hj
          have hq := hr (j - k)
          rw [show k + (j - k) = j by omega, hx] at hq
          obtain ⟨d, hd⟩ : ∃ d, j - k = d + 1 := ⟨j - k - 1, by omega⟩
          rw [hd, List.getElem?_cons_succ] at hq
          have p := pairsOk_at h2 hq
          rw [hx]
          simp only [p, Bool.or_true]
    · refine lexFrom_of r (k + 1) _ (fun j => ?_) (fun j hj => ?_) (by simpa using hs) h3
      · have := hr (j + 1)
        rw [List.getElem?_cons_succ] at this
        rw [this]
        congr 1
        omega
      · rw [Array.getElem?_setIfInBounds]
        by_cases e : k = j
        · subst e
          rw [if_pos rfl, if_pos (by omega)]
          simp
        · rw [if_neg e, hl j hj]
          congr 1
          rw [decide_eq_decide]
          omega
theorem lexB_of {l : List Oper} (hs : Region.noSelect l.toArray = true) (h : lexL l.toArray l 0 = true) : Region.lexB .any l.toArray = true := by
  simp only [Region.lexB, Bool.and_eq_true]
  refine ⟨hs, ?_⟩
  have := lexFrom_of (ops := l.toArray) l 0 (Array.replicate l.toArray.size false) (by simp) (fun j hj => by
    rw [Array.getElem?_replicate, if_pos hj]; simp) (by simp) h
  simpa using this
/-- as the kit's law, but for the question of the order, which is reckoned pair by pair -/
theorem wp_region_quiet_big {P : Program} {id : Nat} {Q : Exit → Act → World → Prop} {a : Act} {w : World} {l : List Oper} (hm : P.follows .mixedOrders = true) (hs : Region.noSelect l.toArray = true) (hB : lexL l.toArray l 0 = true)
    (h : wpQuiet P l.toArray (fun w' => ∃ n, w' = w.drewN n) (fun a' => ∀ w', (∃ n, w' = w.drewN n) → Q .normal a' w') l a) : (Code.region id l.toArray true).wp P Q a w :=
  wp_region_quiet_lit hm (lexB_of hs hB) h
end Go.Proofs.YteabmnaepmkkaaaDoor
