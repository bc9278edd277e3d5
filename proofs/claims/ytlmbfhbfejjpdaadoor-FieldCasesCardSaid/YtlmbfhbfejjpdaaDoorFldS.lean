/- Plain facts: what is written for a set is read as this set; a star is read as all numbers. -/
import Derived.Test.YtlmbfhbfejjpdaaDoorFldP
namespace Go.Proofs.YtlmbfhbfejjpdaaDoor
namespace Fld

/-! digits -/
theorem dec_head : ∀ n, n < 100 → ∃ c t, dec n = c :: t ∧ isDig c = true := by
  intro n h
  unfold dec
  split
  · exact ⟨_, _, rfl, (by decide +kernel : ∀ n, n < 10 → isDig (48 + n).toUInt8 = true) n (by omega)⟩
  · exact ⟨_, _, rfl, (by decide +kernel : ∀ n, n < 100 → 10 ≤ n → isDig (48 + n / 10).toUInt8 = true) n h (by omega)⟩
theorem dec_dig : ∀ n, n < 100 → ∀ c ∈ dec n, isDig c = true := by decide +kernel
theorem val_dec : ∀ n, n < 100 → val (dec n) = n := by decide +kernel
theorem dig_not_let {c : UInt8} (h : isDig c = true) : isLet c = false := by
  unfold isDig digN at h
  unfold isLet letN upN loN
  have h := of_decide_eq_true h
  simp only [Bool.or_eq_false_iff, decide_eq_false_iff_not]
  omega
/-- no digit comes next -/
def NoDig (r : List UInt8) : Prop := ∀ c, r.head? = some c → isDig c = false
theorem noDig_nil : NoDig [] := fun c h => by cases h
theorem noDig_cons {c : UInt8} {r : List UInt8} (h : isDig c = false) : NoDig (c :: r) := fun d e => by
  obtain rfl : c = d := by simpa using e
  exact h
theorem noDig_comma (r : List UInt8) : NoDig (44 :: r) := noDig_cons (by decide)
theorem noDig_minus (r : List UInt8) : NoDig (45 :: r) := noDig_cons (by decide)
theorem noDig_slash (r : List UInt8) : NoDig (47 :: r) := noDig_cons (by decide)
theorem digs_app {d r : List UInt8} (hd : ∀ c ∈ d, isDig c = true) (hl : d.length ≤ 2) (hr : NoDig r) : digs (d ++ r) = d := by
  unfold digs
  rw [List.takeWhile_append_of_pos hd]
  have e : r.takeWhile isDig = [] := by
    cases r with
    | nil => rfl
    | cons c r => rw [List.takeWhile_cons, hr c rfl]; rfl
  rw [e, List.append_nil, List.take_of_length_le hl]
theorem num_dec {n : Nat} (h : n < 100) {r : List UInt8} (hr : NoDig r) : num (dec n ++ r) = some (n, (dec n).length) := by
  obtain ⟨c, t, e, _⟩ := dec_head n h
  unfold num
  rw [digs_app (dec_dig n h) (dec_len n).2 hr, if_neg (by rw [e]; simp), val_dec n h]
theorem lets_dec {n : Nat} (h : n < 100) (r : List UInt8) : lets (dec n ++ r) = [] := by
  obtain ⟨c, t, e, hc⟩ := dec_head n h
  unfold lets
  rw [e, List.cons_append, List.takeWhile_cons, dig_not_let hc]
  rfl
theorem value_dec (K : Kd) {n : Nat} (h : n < 100) {r : List UInt8} (hr : NoDig r) : value K (dec n ++ r) = some (n, (dec n).length) := by
  unfold value
  rw [if_pos (lets_dec h r), num_dec h hr]
theorem head_dec {n : Nat} (h : n < 100) (r : List UInt8) {k : UInt8} (hk : isDig k = false) : ¬ (dec n ++ r).head? = some k := by
  obtain ⟨c, t, e, hc⟩ := dec_head n h
  rw [e]
  intro q
  obtain rfl : c = k := by simpa using q
  rw [hc] at hk
  cases hk
/-- what stands behind an item that is whole -/
def Ends (r : List UInt8) : Prop := r = [] ∨ ∃ t, r = 44 :: t
theorem Ends.noDig {r : List UInt8} (h : Ends r) : NoDig r := by
  rcases h with rfl | ⟨t, rfl⟩
  · exact noDig_nil
  · exact noDig_comma t
theorem Ends.no {r : List UInt8} (h : Ends r) {k : UInt8} (hk : k ≠ 44) : ¬ r.head? = some k := by
  rcases h with rfl | ⟨t, rfl⟩
  · intro q; cases q
  · intro q
    exact hk (by simpa using q.symm)
theorem drop_dec (n : Nat) (r : List UInt8) : (dec n ++ r).drop (dec n).length = r := List.drop_left

/-! items -/
theorem rStep_dec (x : It) {c : Nat} (h : c < 100) {r : List UInt8} (hr : NoDig r) (p : Nat) : rStep x (dec c ++ r) p = .inl ({ x with t := c, ta := p }, p + (dec c).length, r) := by
  unfold rStep
  rw [num_dec h hr]
  show Sum.inl (_, _, (dec c ++ r).drop (dec c).length) = _
  rw [drop_dec]
/-- a single number -/
theorem item_one (K : Kd) {a : Nat} (ha : a < 100) {r : List UInt8} (hr : Ends r) (p : Nat) : item K (dec a ++ r) p = .inl (⟨a, p, a, p, 1, 0⟩, p + (dec a).length, r) := by
  unfold item
  rw [if_neg (head_dec ha r (by decide)), value_dec K ha hr.noDig]
  show rVal K _ ((dec a ++ r).drop (dec a).length) _ = _
  rw [drop_dec]
  unfold rVal
  rw [if_neg (hr.no (by decide)), if_neg (hr.no (by decide))]
/-- a single number with a step -/
theorem item_step (K : Kd) {a c : Nat} (ha : a < 100) (hc : c < 100) {r : List UInt8} (hr : Ends r) (p : Nat) :
    item K (dec a ++ 47 :: (dec c ++ r)) p = .inl (⟨a, p, max a K.hi, p, c, p + (dec a).length + 1⟩, p + (dec a).length + 1 + (dec c).length, r) := by
  unfold item
  rw [if_neg (head_dec ha _ (by decide)), value_dec K ha (noDig_slash _)]
  show rVal K _ ((dec a ++ _).drop (dec a).length) _ = _
  rw [drop_dec]
  unfold rVal
  rw [if_neg (by simp), if_pos (by simp)]
  exact rStep_dec _ hc hr.noDig _
/-- a range -/
theorem item_range (K : Kd) {a b : Nat} (ha : a < 100) (hb : b < 100) {r : List UInt8} (hr : Ends r) (p : Nat) :
    item K (dec a ++ 45 :: (dec b ++ r)) p = .inl (⟨a, p, b, p + (dec a).length + 1, 1, 0⟩, p + (dec a).length + 1 + (dec b).length, r) := by
  unfold item
  rw [if_neg (head_dec ha _ (by decide)), value_dec K ha (noDig_minus _)]
  show rVal K _ ((dec a ++ _).drop (dec a).length) _ = _
  rw [drop_dec]
  unfold rVal
  rw [if_pos (by simp)]
  unfold rSec
  show (match value K (dec b ++ r) with | none => _ | some (v, k) => _) = _
  rw [value_dec K hb hr.noDig]
  show rNums _ ((dec b ++ r).drop (dec b).length) _ = _
  rw [drop_dec]
  unfold rNums
  rw [if_neg (hr.no (by decide))]
/-- a range with a step -/
theorem item_full (K : Kd) {a b c : Nat} (ha : a < 100) (hb : b < 100) (hc : c < 100) {r : List UInt8} (hr : Ends r) (p : Nat) :
    item K (dec a ++ 45 :: (dec b ++ 47 :: (dec c ++ r))) p =
      .inl (⟨a, p, b, p + (dec a).length + 1, c, p + (dec a).length + 1 + (dec b).length + 1⟩, p + (dec a).length + 1 + (dec b).length + 1 + (dec c).length, r) := by
  unfold item
  rw [if_neg (head_dec ha _ (by decide)), value_dec K ha (noDig_minus _)]
  show rVal K _ ((dec a ++ _).drop (dec a).length) _ = _
  rw [drop_dec]
  unfold rVal
  rw [if_pos (by simp)]
  unfold rSec
  show (match value K (dec b ++ 47 :: (dec c ++ r)) with | none => _ | some (v, k) => _) = _
  rw [value_dec K hb (noDig_slash _)]
  show rNums _ ((dec b ++ _).drop (dec b).length) _ = _
  rw [drop_dec]
  unfold rNums
  rw [if_pos (by simp)]
  exact rStep_dec _ hc hr.noDig _
/-- a star, alone or with a step -/
theorem item_star (K : Kd) {r : List UInt8} (hr : Ends r) (p : Nat) : item K (42 :: r) p = .inl (⟨K.lo, 0, K.hi, 0, 1, 0⟩, p + 1, r) := by
  unfold item
  rw [if_pos (by simp)]
  show rNums _ r _ = _
  unfold rNums
  rw [if_neg (hr.no (by decide))]
theorem item_stars (K : Kd) {c : Nat} (hc : c < 100) {r : List UInt8} (hr : Ends r) (p : Nat) : item K (42 :: 47 :: (dec c ++ r)) p = .inl (⟨K.lo, 0, K.hi, 0, c, p + 1 + 1⟩, p + 1 + 1 + (dec c).length, r) := by
  unfold item
  rw [if_pos (by simp)]
  show rNums _ (47 :: (dec c ++ r)) _ = _
  unfold rNums
  rw [if_pos (by simp)]
  exact rStep_dec _ hc hr.noDig _
theorem scan_one {K : Kd} {l : List UInt8} {p q : Nat} {x : It} (h : item K l p = .inl (x, q, [])) : scan K l p = ([x], none) := by rw [scan_go, h]; rfl
theorem scan_comma {K : Kd} {l t : List UInt8} {p q : Nat} {x : It} (h : item K l p = .inl (x, q, 44 :: t)) : scan K l p = (x :: (scan K t (q + 1)).1, (scan K t (q + 1)).2) := by rw [scan_go, h, go_comma]
def trip (x : It) : Nat × Nat × Nat := (x.f, x.s, x.t)
/-- the item that is written for a run -/
theorem item_run (K : Kd) {r : Nat × Nat × Nat} (h1 : r.1 < 100) (h2 : r.2.1 < 100) (h3 : r.2.2 < 100) (h : r.1 = r.2.1 → r.2.2 = 1) {t : List UInt8} (ht : Ends t) (p : Nat) :
    ∃ x q, item K (runT r ++ t) p = .inl (x, q, t) ∧ trip x = r := by
  obtain ⟨a, b, c⟩ := r
  simp only at h1 h2 h3 h
  unfold runT
  by_cases e : a = b
  · obtain rfl := e
    obtain rfl := h rfl
    refine ⟨_, _, Eq.trans (congrArg (fun l => item K l p) ?_) (item_one K h1 ht p), rfl⟩
    rw [if_pos rfl, if_pos rfl, List.append_nil, List.append_nil]
  · by_cases f : c = 1
    · obtain rfl := f
      refine ⟨_, _, Eq.trans (congrArg (fun l => item K l p) ?_) (item_range K h1 h2 ht p), rfl⟩
      rw [if_neg e, if_pos rfl, List.append_nil, List.append_assoc, List.cons_append]
    · refine ⟨_, _, Eq.trans (congrArg (fun l => item K l p) ?_) (item_full K h1 h2 h3 ht p), rfl⟩
      rw [if_neg e, if_neg f, List.append_assoc, List.append_assoc, List.cons_append, List.cons_append]
/-- runs behind a comma each -/
def tailT (rs : List (Nat × Nat × Nat)) : List UInt8 := Lib.joinTail [44] (rs.map runT)
theorem tailT_nil : tailT [] = [] := rfl
theorem tailT_cons (r : Nat × Nat × Nat) (rs : List (Nat × Nat × Nat)) : tailT (r :: rs) = 44 :: (runT r ++ tailT rs) := by simp [tailT, Lib.joinTail]
theorem tailT_ends (rs : List (Nat × Nat × Nat)) : Ends (tailT rs) := by
  cases rs with
  | nil => exact .inl rfl
  | cons r rs => exact .inr ⟨_, tailT_cons r rs⟩
theorem txtR_cons (r : Nat × Nat × Nat) (rs : List (Nat × Nat × Nat)) : txtR (r :: rs) = runT r ++ tailT rs := by
  unfold txtR tailT
  rw [List.map_cons, Lib.join_cons]
def RunOk (r : Nat × Nat × Nat) : Prop := r.1 < 100 ∧ r.2.1 < 100 ∧ r.2.2 < 100 ∧ (r.1 = r.2.1 → r.2.2 = 1)
theorem scan_runs (K : Kd) : ∀ (rs : List (Nat × Nat × Nat)) (r : Nat × Nat × Nat) (p : Nat), (∀ r' ∈ r :: rs, RunOk r') → ∃ xs, scan K (runT r ++ tailT rs) p = (xs, none) ∧ xs.map trip = r :: rs := by
  intro rs
  induction rs with
  | nil =>
    intro r p h
    obtain ⟨a, b, c, d⟩ := h r (by simp)
    obtain ⟨x, q, e, et⟩ := item_run K a b c d (t := tailT []) (tailT_ends []) p
    exact ⟨[x], scan_one e, by simp [et]⟩
  | cons r' rs ih =>
    intro r p h
    obtain ⟨a, b, c, d⟩ := h r (by simp)
    obtain ⟨x, q, e, et⟩ := item_run K a b c d (t := tailT (r' :: rs)) (tailT_ends _) p
    rw [tailT_cons] at e ⊢
    obtain ⟨xs, e2, et2⟩ := ih r' (q + 1) (fun z hz => h z (by simp only [List.mem_cons] at hz ⊢; exact .inr hz))
    refine ⟨x :: xs, ?_, by simp [et, et2]⟩
    rw [scan_comma e, e2]

/-! sets -/
theorem total_bit (K : Kd) (xs : List It) (v : Nat) : (total K xs).testBit v = xs.any (fun x => (setOf K x).testBit v) := by
  unfold total
  suffices h : ∀ (xs : List It) (A : Nat), (xs.foldl (fun S x => S ||| setOf K x) A).testBit v = (A.testBit v || xs.any (fun x => (setOf K x).testBit v)) by
    rw [h xs 0, Nat.zero_testBit, Bool.false_or]
  intro xs
  induction xs with
  | nil => intro A; simp
  | cons x r ih => intro A; rw [List.foldl_cons, ih, Nat.testBit_or, List.any_cons, Bool.or_assoc]
theorem full_bit {K : Kd} (O : K.Ok) (v : Nat) : (fullK K).testBit v = decide (K.lo ≤ v ∧ v ≤ K.hi) := by
  unfold fullK
  rw [Bit.rangeS_bit O.le (Nat.le_refl _)]
  congr 1
  simp [Nat.mod_one]
/-- all numbers of S are numbers of the kind -/
def In (K : Kd) (S : Nat) : Prop := ∀ v, S.testBit v = true → K.lo ≤ v ∧ v ≤ K.hi
theorem in_of_sub {K : Kd} (O : K.Ok) {S : Nat} (h : S &&& fullK K = S) : In K S := fun v hv => by
  rw [← h, Nat.testBit_and, full_bit O] at hv
  simpa using (Bool.and_eq_true_iff.1 hv).2
theorem bit_lt {S v : Nat} (hS : S < 2 ^ 64) (h : S.testBit v = true) : v < 64 := by
  rcases Nat.lt_or_ge v 64 with a | a
  · exact a
  · rw [Nat.testBit_lt_two_pow (Nat.lt_of_lt_of_le hS (Nat.pow_le_pow_right (by decide) a))] at h; cases h
theorem run_mem {S : Nat} {v : Nat} : v ∈ Bit.mem S ↔ ∃ r ∈ Bit.runs (Bit.mem S), r.1 ≤ v ∧ v ≤ r.2.1 ∧ (v - r.1) % r.2.2 = 0 := by
  obtain ⟨h1, h2⟩ := Bit.runs_all (Bit.mem S) (Bit.mem_sorted S)
  constructor
  · intro h
    rw [← h2] at h
    obtain ⟨r, hr, hv⟩ := List.mem_flatMap.1 h
    obtain ⟨a, b, _⟩ := h1 r hr
    exact ⟨r, hr, (Bit.nums_range a b).1 hv⟩
  · rintro ⟨r, hr, hv⟩
    obtain ⟨a, b, _⟩ := h1 r hr
    rw [← h2]
    exact List.mem_flatMap.2 ⟨r, hr, (Bit.nums_range a b).2 hv⟩
theorem runs_ok (S : Nat) : ∀ r ∈ Bit.runs (Bit.mem S), RunOk r := fun r hr => by
  obtain ⟨a, b, c, _⟩ := run_bd r hr
  obtain ⟨h1, _⟩ := Bit.runs_all (Bit.mem S) (Bit.mem_sorted S)
  exact ⟨by omega, by omega, c, (h1 r hr).2.2.2.1⟩
/-- what is written for a set is read as this set -/
theorem parse_txt {K : Kd} (O : K.Ok) {S : Nat} (h0 : S ≠ 0) (hS : S < 2 ^ 64) (hI : In K S) : parse K (txt S) = (S, false, 0, 0) := by
  have hne : Bit.mem S ≠ [] := fun q => h0 (mem_nil hS q)
  have hB := runs_ok S
  obtain ⟨hR, _⟩ := Bit.runs_all (Bit.mem S) (Bit.mem_sorted S)
  have hM := fun v => run_mem (S := S) (v := v)
  have key : ∃ xs, scan K (txt S) 0 = (xs, none) ∧ xs.map trip = Bit.runs (Bit.mem S) := by
    unfold txt
    cases q : Bit.runs (Bit.mem S) with
    | nil =>
      rw [q] at hM
      cases e : Bit.mem S with
      | nil => exact (hne e).elim
      | cons a l =>
        obtain ⟨r, hr, _⟩ := (hM a).1 (by rw [e]; simp)
        cases hr
    | cons r rs =>
      rw [q] at hB
      rw [txtR_cons]
      exact scan_runs K rs r 0 hB
  have hstar : (txt S == [42]) = false := by
    rw [beq_eq_false_iff_ne]
    intro e
    obtain ⟨xs, e2, e3⟩ := key
    rw [e, scan_one (item_star K (.inl rfl) 0)] at e2
    cases hq : Bit.runs (Bit.mem S) with
    | nil =>
      rw [hq] at e3
      cases e2
      simp at e3
    | cons r rs =>
      have : txt S = runT r ++ tailT rs := by unfold txt; rw [hq, txtR_cons]
      rw [this] at e
      have hr := hB r (by rw [hq]; simp)
      obtain ⟨c, t, ec, hc⟩ := dec_head r.1 hr.1
      unfold runT at e
      rw [ec] at e
      simp only [List.cons_append, List.cons.injEq] at e
      rw [e.1] at hc
      exact absurd hc (by decide)
  obtain ⟨xs, e2, e3⟩ := key
  have hw : ∀ x ∈ xs, wrong K x = none ∧ trip x ∈ Bit.runs (Bit.mem S) := by
    intro x hx
    have hx' : trip x ∈ Bit.runs (Bit.mem S) := by rw [← e3]; exact List.mem_map_of_mem hx
    obtain ⟨a, b, c, _⟩ := hR _ hx'
    have m1 : x.f ∈ Bit.mem S := (hM _).2 ⟨_, hx', Nat.le_refl _, a, by show (x.f - x.f) % _ = 0; simp⟩
    have m2 : x.s ∈ Bit.mem S := (hM _).2 ⟨_, hx', a, Nat.le_refl _, c⟩
    have i1 := hI _ (Bit.mem_iff.1 m1).2
    have i2 := hI _ (Bit.mem_iff.1 m2).2
    exact ⟨wrong_none.2 ⟨.inl i1, .inl i2, a, b⟩, hx'⟩
  unfold parse
  rw [e2]
  show (match bad K xs with | some a => _ | none => _) = _
  rw [bad_none.2 (fun x hx => (hw x hx).1)]
  show (total K xs, txt S == [42], 0, 0) = _
  rw [hstar]
  have : total K xs = S := by
    apply Nat.eq_of_testBit_eq
    intro v
    rw [total_bit, Bool.eq_iff_iff, List.any_eq_true]
    constructor
    · rintro ⟨x, hx, hv⟩
      obtain ⟨w1, w2⟩ := hw x hx
      obtain ⟨u1, u2, _, _⟩ := wrong_none.1 w1
      rw [setOf_bit O w1] at hv
      have hv := of_decide_eq_true hv
      rcases hv.2 with g | ⟨g1, g2, g3, g4, g5⟩
      · exact (Bit.mem_iff.1 ((hM v).2 ⟨_, w2, g⟩)).2
      · obtain ⟨a, b, c, _⟩ := hR _ w2
        have m2 : x.s ∈ Bit.mem S := (hM _).2 ⟨_, w2, a, Nat.le_refl _, c⟩
        have i2 := hI _ (Bit.mem_iff.1 m2).2
        have := O.week g1
        omega
    · intro hv
      obtain ⟨r, hr, g⟩ := (hM v).1 (Bit.mem_iff.2 ⟨bit_lt hS hv, hv⟩)
      rw [← e3] at hr
      obtain ⟨x, hx, rfl⟩ := List.mem_map.1 hr
      refine ⟨x, hx, ?_⟩
      rw [setOf_bit O (hw x hx).1]
      exact decide_eq_true ⟨hI v hv, .inl g⟩
  rw [this]
theorem wrong_star {K : Kd} (O : K.Ok) {t : Nat} (ht : 1 ≤ t) (a : Nat) : wrong K ⟨K.lo, 0, K.hi, 0, t, a⟩ = none := wrong_none.2 ⟨.inl ⟨Nat.le_refl _, O.le⟩, .inl ⟨O.le, Nat.le_refl _⟩, O.le, ht⟩
theorem week_top {K : Kd} (O : K.Ok) (w : K.week = true) : K.hi < 7 := by have := O.week w; omega
theorem setOf_star {K : Kd} (O : K.Ok) (a : Nat) : setOf K ⟨K.lo, 0, K.hi, 0, 1, a⟩ = fullK K := by
  apply Nat.eq_of_testBit_eq
  intro v
  rw [setOf_bit O (wrong_star O (Nat.le_refl _) a), full_bit O]
  rw [Bool.eq_iff_iff]
  simp only [decide_eq_true_iff, Nat.mod_one]
  constructor
  · exact fun h => h.1
  · exact fun h => ⟨h, .inl ⟨h.1, h.2, trivial⟩⟩
/-- a star is read as all numbers -/
theorem parse_star {K : Kd} (O : K.Ok) : parse K [42] = (fullK K, true, 0, 0) := by
  unfold parse
  rw [scan_one (item_star K (.inl rfl) 0)]
  show (match bad K [⟨K.lo, 0, K.hi, 0, 1, 0⟩] with | some a => _ | none => _) = _
  rw [bad_none.2 (fun x hx => by rw [List.mem_singleton] at hx; subst hx; exact wrong_star O (Nat.le_refl _) 0)]
  show (total K [⟨K.lo, 0, K.hi, 0, 1, 0⟩], _, 0, 0) = _
  have : total K [⟨K.lo, 0, K.hi, 0, 1, 0⟩] = fullK K := by
    unfold total
    rw [List.foldl_cons, List.foldl_nil, Nat.zero_or, setOf_star O]
  rw [this]
  rfl
end Fld
end Go.Proofs.YtlmbfhbfejjpdaaDoor
