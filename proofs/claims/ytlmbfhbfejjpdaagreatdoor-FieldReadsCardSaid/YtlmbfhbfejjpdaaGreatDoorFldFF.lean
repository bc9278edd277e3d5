/- The document's one: what reading an item says, road by road. No walk stands here. -/
import Derived.Test.YtlmbfhbfejjpdaaGreatDoorFldGG
namespace Go.Proofs.YtlmbfhbfejjpdaaGreatDoor
open Go.ChangeShapes Go.WideShapes Go.RowKit Go.Shelf

theorem hd_yes (s : ByteArray) (a : Nat) (c : UInt8) (h : a < s.size) (hc : s[a] = c) : (s.data.toList.drop a).head? = some c := by rw [drop_cons s a h, hc]; rfl
theorem hd_no (s : ByteArray) (a : Nat) (c : UInt8) (hc : ∀ h : a < s.size, s[a] ≠ c) : ¬ (s.data.toList.drop a).head? = some c := by
  rcases Nat.lt_or_ge a s.size with h | h
  · rw [drop_cons s a h]
    intro q
    exact hc h (by simpa using q)
  · rw [drop_end s a h]
    intro q
    cases q
theorem tl_drop (s : ByteArray) (a : Nat) : (s.data.toList.drop a).tail = s.data.toList.drop (a + 1) := by rw [List.tail_drop]
theorem dr_more (s : ByteArray) (a k : Nat) : (s.data.toList.drop a).drop k = s.data.toList.drop (a + k) := by rw [List.drop_drop]
/-- reading a step -/
theorem rStep_f {s : ByteArray} {x : Fld.It} {e : Nat} (h : Fld.num (s.data.toList.drop e) = none) : Fld.rStep x (s.data.toList.drop e) e = .inr e := by unfold Fld.rStep; rw [h]
theorem rStep_t {s : ByteArray} {x : Fld.It} {e n k : Nat} (h : Fld.num (s.data.toList.drop e) = some (n, k)) : Fld.rStep x (s.data.toList.drop e) e = .inl ({ x with t := n, ta := e }, e + k, s.data.toList.drop (e + k)) := by
  unfold Fld.rStep; rw [h]; simp only [dr_more]
theorem rNums_f {s : ByteArray} {x : Fld.It} {e : Nat} (h : ∀ h : e < s.size, s[e] ≠ 47) : Fld.rNums x (s.data.toList.drop e) e = .inl (x, e, s.data.toList.drop e) := by
  unfold Fld.rNums; rw [if_neg (hd_no s e 47 h)]
theorem rNums_t {s : ByteArray} {x : Fld.It} {e : Nat} (h : e < s.size) (hc : s[e] = 47) : Fld.rNums x (s.data.toList.drop e) e = Fld.rStep x (s.data.toList.drop (e + 1)) (e + 1) := by
  unfold Fld.rNums; rw [if_pos (hd_yes s e 47 h hc), tl_drop]
theorem rSec_f {K : Fld.Kd} {s : ByteArray} {x : Fld.It} {e : Nat} (h : Fld.value K (s.data.toList.drop e) = none) : Fld.rSec K x (s.data.toList.drop e) e = .inr e := by unfold Fld.rSec; rw [h]
theorem rSec_t {K : Fld.Kd} {s : ByteArray} {x : Fld.It} {e n k : Nat} (h : Fld.value K (s.data.toList.drop e) = some (n, k)) : Fld.rSec K x (s.data.toList.drop e) e = Fld.rNums { x with s := n, sa := e } (s.data.toList.drop (e + k)) (e + k) := by
  unfold Fld.rSec; rw [h]; simp only [dr_more]
theorem rVal_m {K : Fld.Kd} {s : ByteArray} {x : Fld.It} {e : Nat} (h : e < s.size) (hc : s[e] = 45) : Fld.rVal K x (s.data.toList.drop e) e = Fld.rSec K x (s.data.toList.drop (e + 1)) (e + 1) := by
  unfold Fld.rVal; rw [if_pos (hd_yes s e 45 h hc), tl_drop]
theorem rVal_s {K : Fld.Kd} {s : ByteArray} {x : Fld.It} {e : Nat} (h : e < s.size) (hc : s[e] = 47) : Fld.rVal K x (s.data.toList.drop e) e = Fld.rStep { x with s := max x.f K.hi } (s.data.toList.drop (e + 1)) (e + 1) := by
  unfold Fld.rVal; rw [if_neg (hd_no s e 45 (fun h' q => by rw [hc] at q; revert q; decide)), if_pos (hd_yes s e 47 h hc), tl_drop]
theorem rVal_f {K : Fld.Kd} {s : ByteArray} {x : Fld.It} {e : Nat} (h : ∀ h : e < s.size, s[e] ≠ 45) (h2 : ∀ h : e < s.size, s[e] ≠ 47) : Fld.rVal K x (s.data.toList.drop e) e = .inl (x, e, s.data.toList.drop e) := by
  unfold Fld.rVal; rw [if_neg (hd_no s e 45 h), if_neg (hd_no s e 47 h2)]
theorem item_star {K : Fld.Kd} {s : ByteArray} {e : Nat} (h : e < s.size) (hc : s[e] = 42) : Fld.item K (s.data.toList.drop e) e = Fld.rNums ⟨K.lo, 0, K.hi, 0, 1, 0⟩ (s.data.toList.drop (e + 1)) (e + 1) := by
  unfold Fld.item; rw [if_pos (hd_yes s e 42 h hc), tl_drop]
theorem item_f {K : Fld.Kd} {s : ByteArray} {e : Nat} (h : ∀ h : e < s.size, s[e] ≠ 42) (hv : Fld.value K (s.data.toList.drop e) = none) : Fld.item K (s.data.toList.drop e) e = .inr e := by
  unfold Fld.item; rw [if_neg (hd_no s e 42 h), hv]
theorem item_t {K : Fld.Kd} {s : ByteArray} {e n k : Nat} (h : ∀ h : e < s.size, s[e] ≠ 42) (hv : Fld.value K (s.data.toList.drop e) = some (n, k)) : Fld.item K (s.data.toList.drop e) e = Fld.rVal K ⟨n, e, n, e, 1, 0⟩ (s.data.toList.drop (e + k)) (e + k) := by
  unfold Fld.item; rw [if_neg (hd_no s e 42 h), hv]; simp only [dr_more]
/-- what one returns -/
def OneRes (K : Fld.Kd) (s : ByteArray) (a : Nat) (d : DI) (q : Nat) (ok : Bool) : Prop := match Fld.item K (s.data.toList.drop a) a with
  | .inr q' => q = q' ∧ ok = false
  | .inl (x, q', _) => RI K x d ∧ q = q' ∧ ok = true
theorem one_f {K : Fld.Kd} {s : ByteArray} {a q : Nat} (d : DI) (h : Fld.item K (s.data.toList.drop a) a = .inr q) : OneRes K s a d q false := by unfold OneRes; rw [h]; exact ⟨rfl, rfl⟩
theorem one_t {K : Fld.Kd} {s : ByteArray} {a q : Nat} {x : Fld.It} {r : List UInt8} {d : DI} (h : Fld.item K (s.data.toList.drop a) a = .inl (x, q, r)) (hr : RI K x d) : OneRes K s a d q true := by unfold OneRes; rw [h]; exact ⟨hr, rfl, rfl⟩
theorem byte_ne {c : UInt8} {n : Nat} (hn : n < 256) : c ≠ UInt8.ofNat n ↔ c.toNat ≠ n := by
  rw [Ne, Ne, ← UInt8.toNat_inj]
  rw [UInt8.toNat_ofNat_of_lt' hn]
theorem byte_eq {c : UInt8} {n : Nat} (hn : n < 256) : c = UInt8.ofNat n ↔ c.toNat = n := by
  rw [← UInt8.toNat_inj, UInt8.toNat_ofNat_of_lt' hn]
end Go.Proofs.YtlmbfhbfejjpdaaGreatDoor
