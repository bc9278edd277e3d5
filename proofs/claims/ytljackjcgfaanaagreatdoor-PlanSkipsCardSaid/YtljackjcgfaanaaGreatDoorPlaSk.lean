/- Plain facts for PlanSkips: a plan without its spans, and with one span more. -/
import Derived.Test.YtljackjcgfaanaaGreatDoorGPlaDef
namespace Go.Proofs.YtljackjcgfaanaaGreatDoor.Pl
def P.free (q : P) : P := ⟨q.k, q.x, q.z, q.s, q.p, q.c, []⟩
def P.more (q : P) (f g : Int) : P := ⟨q.k, q.x, q.z, q.s, q.p, q.c, q.l ++ [(f, g)]⟩
theorem free_ok {q : P} (h : q.Ok) : q.free.Ok := by
  cases h with
  | none k x z s p c l => exact .none k x z s p c rfl
  | cron k x z s p c l => exact .cron k x z s p c rfl
  | ever k e x z l => exact .ever k e x z rfl
theorem free_K {q : P} {t : Int} : q.free.K t ↔ q.T t := by
  show Kept q.T [] t ↔ q.T t
  exact kept_nil
theorem more_K {q : P} {f g t : Int} : (q.more f g).K t ↔ q.K t ∧ (t < f ∨ g < t) := by
  show Kept q.T (q.l ++ [(f, g)]) t ↔ Kept q.T q.l t ∧ (t < f ∨ g < t)
  exact kept_snoc
theorem more_ok {q : P} (h : q.Ok) (k0 : q.k ≠ 0) (n : q.l.length ≤ 63) (f g : Int) : (q.more f g).Ok ↔ 0 ≤ f ∧ g ≤ 253402300799 ∧ f ≤ g := by
  have e : Bk.errL (q.l ++ [(f, g)]) = 0 ↔ 0 ≤ f ∧ g ≤ 253402300799 ∧ f ≤ g := by
    rw [Bk.errL_zero]
    constructor
    · intro o
      have a : (0 ≤ f ∧ f ≤ 253402300799) ∧ (0 ≤ g ∧ g ≤ 253402300799) ∧ f ≤ g := o.2 (f, g) (by simp)
      omega
    · intro o
      refine ⟨by simp; omega, fun x hx => ?_⟩
      rcases List.mem_append.1 hx with k | k
      · exact h.few.2 x k
      · obtain rfl : x = (f, g) := by simpa using k
        show (0 ≤ f ∧ f ≤ 253402300799) ∧ (0 ≤ g ∧ g ≤ 253402300799) ∧ f ≤ g
        omega
  constructor
  · intro o; exact e.1 o.spans
  · intro o
    cases h with
    | none k x z s p c l => exact absurd k k0
    | cron k x z s p c l => exact .cron k x z s p c (e.2 o)
    | ever k ee x z l => exact .ever k ee x z (e.2 o)
theorem K_split {q : P} {t : Int} : q.K t ↔ q.T t ∧ ¬ Bk.has q.l t := Iff.rfl
/-- what the three calls answer at a valid plan -/
theorem three {q : P} (h : q.Ok) (t : Int) : ∃ (a b n : Bool) (r : Int), (r = 0 ∨ r = 14) ∧ IsR q t a r ∧ IsR q.free t b r ∧ Bk.errI q.l t = r ∧ decide (r = 0 ∧ Bk.has q.l t) = n ∧ (r = 0 → a = (b && !n)) ∧ (r = 0 → vt t) ∧ (a = true → q.K t) ∧ (r = 0 → q.K t → a = true) := by
  classical
  by_cases v : vt t
  · have e1 : q.errT [t] = 0 := P.errT_zero.2 ⟨h, fun u hu => by obtain rfl : u = t := (by simpa using hu); exact v⟩
    have e2 : q.free.errT [t] = 0 := P.errT_zero.2 ⟨free_ok h, fun u hu => by obtain rfl : u = t := (by simpa using hu); exact v⟩
    have e3 : Bk.errI q.l t = 0 := Bk.errI_zero.2 ⟨h.spans, v⟩
    refine ⟨decide (q.K t), decide (q.T t), decide (Bk.has q.l t), 0, .inl rfl, ⟨e1.symm, by simp⟩, ⟨e2.symm, by simp [free_K]⟩, e3, by simp, fun _ => ?_, fun _ => v, fun k => of_decide_eq_true k, fun _ k => decide_eq_true k⟩
    by_cases k1 : q.T t <;> by_cases k2 : Bk.has q.l t <;> simp [K_split, k1, k2]
  · have e1 : q.errT [t] = 14 := by
      rcases q.errT_cases [t] with ⟨_, k⟩ | ⟨_, k, _⟩ | ⟨_, _, k⟩
      · rw [P.err_ok.2 h] at k; cases k
      · exact k
      · exact absurd (k t (by simp)) v
    have e2 : q.free.errT [t] = 14 := by
      rcases q.free.errT_cases [t] with ⟨_, k⟩ | ⟨_, k, _⟩ | ⟨_, _, k⟩
      · rw [P.err_ok.2 (free_ok h)] at k; cases k
      · exact k
      · exact absurd (k t (by simp)) v
    have e3 : Bk.errI q.l t = 14 := by
      unfold Bk.errI
      rw [if_pos h.spans, if_neg (show ¬ Bk.okT t from v)]
    exact ⟨false, false, false, 14, .inr rfl, ⟨e1.symm, by simp⟩, ⟨e2.symm, by simp⟩, e3, by simp, (fun k => by cases k), (fun k => by cases k), (fun k => by cases k), (fun k => by cases k)⟩
/-- what the two calls answer at the plan with one span more -/
theorem moreR {q : P} (h : q.Ok) (k0 : q.k ≠ 0) (n : q.l.length ≤ 63) (f g t : Int) (v : vt t) {a : Bool} (ha : a = true ↔ q.K t) :
    ((q.more f g).err = 16 ∧ (f < 0 ∨ 253402300799 < g ∨ g < f)) ∨ ((q.more f g).err = 0 ∧ IsR (q.more f g) t (a && (decide (t < f) || decide (g < t))) 0) := by
  by_cases o : 0 ≤ f ∧ g ≤ 253402300799 ∧ f ≤ g
  · have ok := (more_ok h k0 n f g).2 o
    refine .inr ⟨P.err_ok.2 ok, ((P.errT_zero (q := q.more f g) (ts := [t])).2 ⟨ok, fun u hu => by obtain rfl : u = t := (by simpa using hu); exact v⟩).symm, ?_⟩
    rw [more_K, ← ha]
    simp
  · exact .inl ⟨P.err_no (fun k => o ((more_ok h k0 n f g).1 k)), by omega⟩
end Go.Proofs.YtljackjcgfaanaaGreatDoor.Pl
