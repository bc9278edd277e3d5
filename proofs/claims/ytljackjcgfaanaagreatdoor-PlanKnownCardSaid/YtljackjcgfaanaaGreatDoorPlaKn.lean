/- Plain facts for PlanKnown: plans that are not valid, and what the calls answer at them. -/
import Derived.Test.YtljackjcgfaanaaGreatDoorGPlaDef
import Derived.Test.YtljackjcgfaanaaGreatDoorGPlaH
namespace Go.Proofs.YtljackjcgfaanaaGreatDoor.Pl
theorem ok0 {q : P} (h : q.Ok) (k : q.k = 0) : q.x = x0 ∧ q.z = 0 ∧ q.s = 0 ∧ q.p = 0 ∧ q.c = 0 ∧ q.l = [] := by
  cases h with
  | none k x z s p c l => exact ⟨x, z, s, p, c, l⟩
  | cron k1 => omega
  | ever k1 => omega
theorem ok1 {q : P} (h : q.Ok) (k : q.k = 1) : q.x.okB = true ∧ errZ q.z = 0 ∧ q.s = 0 := by
  cases h with
  | none k1 => omega
  | cron k x z s p c l => exact ⟨x, z, s⟩
  | ever k1 => omega
def kn0 : P := ⟨0, x0, 5, 0, 0, 0, []⟩
def kn1 : P := ⟨3, x0, 0, 0, 0, 0, []⟩
def kn2 : P := ⟨0, x0, 0, 0, 0, 0, [(0, 0)]⟩
def kn3 : P := ⟨0, x0, 0, 0, 1, 0, []⟩
def kn4 : P := ⟨1, x0, 0, 0, 0, 0, []⟩
def kn5 : P := ⟨2, x0, 0, 0, 0, 0, []⟩
def kn6 : P := ⟨1, eD, 841, 0, 0, 0, []⟩
def kn7 : P := ⟨1, eD, 0, 1, 0, 0, []⟩
def kn8 : P := pE [(2, 1)]
def z65 : List (Int × Int) := List.replicate 65 (0, 0)
def kn9 : P := pE z65
def kn10 : P := pE [(-1, 1)]
theorem no0 : ¬ kn0.Ok := fun h => by have := (ok0 h rfl).2.1; cases this
theorem no1 : ¬ kn1.Ok := fun h => by rcases h.kinds with k | k | k <;> cases k
theorem no2 : ¬ kn2.Ok := fun h => by have := (ok0 h rfl).2.2.2.2.2; cases this
theorem no3 : ¬ kn3.Ok := fun h => by have := (ok0 h rfl).2.2.2.1; cases this
theorem no4 : ¬ kn4.Ok := fun h => by have := (ok1 h rfl).1; revert this; decide +kernel
theorem no5 : ¬ kn5.Ok := fun h => absurd (h.is2 rfl).p0 (by decide)
theorem no6 : ¬ kn6.Ok := fun h => by have := (ok1 h rfl).2.1; revert this; decide +kernel
theorem no7 : ¬ kn7.Ok := fun h => by have := (ok1 h rfl).2.2; cases this
theorem no8 : ¬ kn8.Ok := fun h => by have := h.spans; revert this; decide +kernel
theorem no9 : ¬ kn9.Ok := fun h => by have := h.few.1; revert this; decide +kernel
theorem no10 : ¬ kn10.Ok := fun h => by have := h.spans; revert this; decide +kernel
/-- what the calls answer at a plan that is not valid -/
theorem bad_is {q : P} (h : ¬ q.Ok) (t : Int) : IsR q t false 16 := by
  have e : q.errT [t] = 16 := by
    rcases q.errT_cases [t] with ⟨k, _⟩ | ⟨k, _⟩ | ⟨k, _⟩
    · exact k
    · exact absurd (P.err_ok.1 k) h
    · exact absurd (P.err_ok.1 k) h
  exact ⟨e.symm, by simp⟩
theorem bad_due {q : P} (h : ¬ q.Ok) (t : Int) : DueR [pD, q] t [] 16 := by
  have e : dueE [pD, q] t = 16 := by
    unfold dueE
    rw [if_neg (by simp), if_neg (fun k => h (k q (by simp)))]
  exact ⟨e.symm, .inl ⟨by omega, rfl⟩⟩
theorem due_many (t : Int) : DueR (List.replicate 65 pZ) t [] 12 := by
  have e : dueE (List.replicate 65 pZ) t = 12 := by
    unfold dueE
    rw [if_pos (by simp)]
  exact ⟨e.symm, .inl ⟨by omega, rfl⟩⟩
theorem okZ : pZ.Ok := .none rfl rfl rfl rfl rfl rfl rfl
theorem due_time : DueR (List.replicate 64 pZ) (-1) [] 14 := by
  have e : dueE (List.replicate 64 pZ) (-1) = 14 := by
    unfold dueE
    rw [if_neg (by simp), if_pos (fun p hp => by rw [List.eq_of_mem_replicate hp]; exact okZ), if_neg (by unfold vt; omega)]
  exact ⟨e.symm, .inl ⟨by omega, rfl⟩⟩
theorem count_late : CountR pD 0 253402300800 0 14 := by
  have e : pD.errT [0, 253402300800] = 14 := by
    rcases pD.errT_cases [0, 253402300800] with ⟨_, k⟩ | ⟨_, k, _⟩ | ⟨_, _, k⟩
    · rw [P.err_ok.2 okD] at k; cases k
    · exact k
    · have := k 253402300800 (by simp); unfold vt at this; omega
  exact ⟨e.symm, .inl ⟨by omega, rfl⟩⟩
end Go.Proofs.YtljackjcgfaanaaGreatDoor.Pl
