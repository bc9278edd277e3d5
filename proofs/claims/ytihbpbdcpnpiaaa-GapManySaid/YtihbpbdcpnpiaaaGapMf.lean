/- Plain facts: the list of every third number. -/
import Derived.Test.YtihbpbdcpnpiaaaGapMath
namespace Go.Proofs.Ytihbpbdcpnpiaaa.Gp

/-- n numbers, the first k of them 0, 3, 6, .., the others 0 -/
def fl (n k : Nat) : List Int := (List.range n).map fun i => if i < k then 3 * (i : Int) else 0
theorem fl_len (n k : Nat) : (fl n k).length = n := by simp [fl]
theorem fl_at {n k i : Nat} (h : i < n) : (fl n k).getD i 0 = if i < k then 3 * (i : Int) else 0 := by simp [fl, h]
theorem fl_zero (n : Nat) : fl n 0 = List.replicate n 0 := by
  apply List.ext_getElem
  · simp [fl]
  · intro i h1 h2; simp [fl]
theorem fl_set {n k : Nat} (_ : k < n) : (fl n k).set k (3 * (k : Int)) = fl n (k + 1) := by
  apply List.ext_getElem
  · simp [fl]
  · intro i h1 h2
    rw [List.getElem_set]
    by_cases e : k = i
    · subst e; simp [fl]
    · rw [if_neg e]
      simp only [fl, List.getElem_map, List.getElem_range]
      by_cases q : i < k
      · rw [if_pos q, if_pos (by omega)]
      · rw [if_neg q, if_neg (by omega)]
theorem fl_full {n i : Nat} (h : i < n) : (fl n n).getD i 0 = 3 * (i : Int) := by rw [fl_at h, if_pos h]
theorem fl_inc (n : Nat) : Inc (fl n n) := inc_of fun i hi => by
  rw [fl_len] at hi
  rw [fl_full hi, fl_full (by omega)]
  omega
theorem fl_tl {n : Nat} (h : n ≤ 100000) : Tl (fl n n) := ⟨by rw [fl_len]; exact h, fun z hz => by
  obtain ⟨i, hi, e⟩ := mem_getD hz
  rw [fl_len] at hi
  rw [fl_full hi] at e
  unfold okT
  omega, fl_inc n⟩
theorem fl_best {n : Nat} (h3 : 3 ≤ n) : ∀ (k : Nat), k < n → best (fl n n) 7 (k + 1) = (3, 0)
  | 0, _ => by
    have e : cl (fl n n) ((fl n n).getD 0 0 + 7) = 3 := by
      refine cl_mid (fl_inc n) _ (fun j hj => ?_) (fun j hj hn => ?_) (by rw [fl_len]; exact h3)
      · rw [fl_full (by omega), fl_full (by omega)]; omega
      · rw [fl_len] at hn
        rw [fl_full (by omega), fl_full (by omega)]; omega
    rw [best, e, best, if_pos (by decide), fl_full (by omega)]
    rfl
  | k + 1, hk => by
    rw [best, fl_best h3 k (by omega), if_neg ?_]
    intro q
    replace q : 3 < cl (fl n n) ((fl n n).getD (k + 1) 0 + 7) - (k + 1) := q
    have l0 := cl_le (fl n n) ((fl n n).getD (k + 1) 0 + 7)
    rw [fl_len] at l0
    have := (cl_iff (fl_inc n) ((fl n n).getD (k + 1) 0 + 7) (j := k + 1 + 3) (by rw [fl_len]; omega)).1 (by omega)
    rw [fl_full (by omega), fl_full (by omega)] at this
    omega
theorem fl_cov {n : Nat} : ∀ (k : Nat), k ≤ n → cov (fl n n) 3 k = (k, 3 * (k : Int))
  | 0, _ => rfl
  | k + 1, hk => by
    rw [cov, fl_cov k (by omega), fl_full (by omega), if_pos (by simp)]
    simp
    omega
end Go.Proofs.Ytihbpbdcpnpiaaa.Gp
