/- Plain facts on lists of times that are made of gaps. No program stands here. -/
import Derived.Test.YtihbpbdcpnpiaaaGapMb
namespace Go.Proofs.Ytihbpbdcpnpiaaa.Gp

/-- the k-th time of a list that begins at f and has these gaps, one more each -/
def tAt (f : Int) (gs : List Int) : Nat → Int
  | 0 => f
  | k + 1 => tAt f gs k + (gs.getD k 0 + 1)
/-- its first n + 1 times -/
def md (f : Int) (gs : List Int) (n : Nat) : List Int := (List.range (n + 1)).map (tAt f gs)
theorem md_zero (f : Int) (gs : List Int) : md f gs 0 = [f] := rfl
theorem md_succ (f : Int) (gs : List Int) (k : Nat) : md f gs (k + 1) = md f gs k ++ [tAt f gs (k + 1)] := by
  unfold md
  rw [List.range_succ (n := k + 1), List.map_append]
  rfl
theorem md_len (f : Int) (gs : List Int) (n : Nat) : (md f gs n).length = n + 1 := by simp [md]
theorem md_at (f : Int) (gs : List Int) {n i : Nat} (h : i < n + 1) : (md f gs n).getD i 0 = tAt f gs i := by
  unfold md
  rw [List.getD_eq_getElem?_getD, List.getElem?_map, List.getElem?_range h]
  rfl
/-- the gaps are numbers of 16 bits -/
def G16 (gs : List Int) (n : Nat) : Prop := ∀ k, k < n → 0 ≤ gs.getD k 0 ∧ gs.getD k 0 ≤ 65535
theorem tAt_bd {f : Int} {gs : List Int} {n : Nat} (h : G16 gs n) : ∀ (k : Nat), k ≤ n → f + k ≤ tAt f gs k ∧ tAt f gs k ≤ f + 65536 * (k : Int)
  | 0, _ => by simp [tAt]
  | k + 1, hk => by
    have a := tAt_bd (f := f) h k (by omega)
    have b := h k (by omega)
    show f + ((k + 1 : Nat) : Int) ≤ tAt f gs k + (gs.getD k 0 + 1) ∧ tAt f gs k + (gs.getD k 0 + 1) ≤ f + 65536 * ((k + 1 : Nat) : Int)
    omega
theorem md_inc {f : Int} {gs : List Int} {n : Nat} (h : G16 gs n) : Inc (md f gs n) := by
  apply inc_of
  intro i hi
  rw [md_len] at hi
  rw [md_at f gs (by omega), md_at f gs (by omega)]
  have := h i (by omega)
  show tAt f gs i < tAt f gs i + (gs.getD i 0 + 1)
  omega
theorem md_in {f : Int} {gs : List Int} {n : Nat} (h : G16 gs n) {z : Int} (hz : z ∈ md f gs n) : f ≤ z ∧ z ≤ f + 65536 * (n : Int) := by
  obtain ⟨i, hi, e⟩ := mem_getD hz
  rw [md_len] at hi
  rw [md_at f gs hi] at e
  have := tAt_bd (f := f) h i (by omega)
  omega
theorem md_tl {f : Int} {gs : List Int} {n : Nat} (h : G16 gs n) (h0 : 0 ≤ f) (h1 : f ≤ 4294967295) (hn : n ≤ 300) : Tl (md f gs n) :=
  ⟨by rw [md_len]; omega, fun z hz => by have := md_in h hz; unfold okT; omega, md_inc h⟩
theorem md_gap (f : Int) (gs : List Int) {n i : Nat} (h : i < n) : (gapsL (md f gs n)).getD i 0 = gs.getD i 0 + 1 := by
  unfold gapsL
  rw [md_len, gapsTo_at _ (by omega), md_at f gs (by omega), md_at f gs (by omega)]
  show tAt f gs i + (gs.getD i 0 + 1) - tAt f gs i = _
  omega
/-- the first gaps add up -/
theorem md_sum (f : Int) (gs : List Int) (k : Nat) : tAt f gs (k + 1) - f = tAt f gs k - f + (gs.getD k 0 + 1) := by
  show tAt f gs k + (gs.getD k 0 + 1) - f = _
  omega
end Go.Proofs.Ytihbpbdcpnpiaaa.Gp
