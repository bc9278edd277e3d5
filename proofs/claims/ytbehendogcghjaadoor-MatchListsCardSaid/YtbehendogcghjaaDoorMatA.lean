/- Contracts of the small functions of package match: past, first, find, clock, ahead, local, numbers, and of zone.Check and the document's Check of a zone. -/
import Derived.Test.YtbehendogcghjaaDoorMatDir
import Derived.Test.YtbehendogcghjaaDoorMatKc
import Derived.Test.YtbehendogcghjaaDoorMBitG
namespace Go.Proofs.YtbehendogcghjaaDoor
open Go.ChangeShapes Go.RowKit Go.Shelf

/-- does a lie behind b in a direction? -/
def Mat.Dir.past (d : Mat.Dir) (a b : Int) : Bool := decide (0 < d.val * (a - b))
theorem past_any (d : Mat.Dir) (a b : Int) (p : Bool) (hp : d.past a b = p) (w : World) (a0 : -1000000000000000 ≤ a) (a1 : a ≤ 1000000000000000) (b0 : -1000000000000000 ≤ b) (b1 : b ≤ 1000000000000000) :
    Calls Tryd.prog 59 #[.int .i64 d.val, .int .i64 a, .int .i64 b] w fun e w' => e = .returned (.bool p) ∧ w = w' := by
  have w1 : IntKind.i64.wrap (a - b) = a - b := by rw [IntKind.wrap_i64]; omega
  unfold Mat.Dir.past at hp
  cases d with
  | up =>
    have w2 : IntKind.i64.wrap (1 * (a - b)) = a - b := by rw [IntKind.wrap_i64]; omega
    obtain ⟨c, hc⟩ : ∃ c, a - b = c := ⟨_, rfl⟩
    simp only [Mat.Dir.val, Int.one_mul, hc] at hp w1 w2 ⊢
    clear a0 a1 b0 b1
    have w3 : IntKind.i64.wrap (a - b) = c := by rw [hc]; exact w1
    clear hc w1
    go_enter Tryd.func59, Tryd.ntmps59
    go_wp2
    all_goals (go_ret; exact ⟨rfl, rfl⟩)
  | down =>
    obtain ⟨c, hc⟩ : ∃ c, a - b = c := ⟨_, rfl⟩
    have w2 : IntKind.i64.wrap (-1 * c) = -c := by rw [IntKind.wrap_i64]; omega
    have w4 : IntKind.i64.wrap (-c) = -c := by rw [IntKind.wrap_i64]; omega
    have e : -1 * c = -c := by omega
    have e2 : decide (0 < -c) = decide (c < 0) := by rw [decide_eq_decide]; omega
    simp only [Mat.Dir.val, hc, e] at hp w1 ⊢
    rw [e2] at hp
    clear a0 a1 b0 b1
    have w3 : IntKind.i64.wrap (a - b) = c := by rw [hc]; exact w1
    clear hc w1
    go_enter Tryd.func59, Tryd.ntmps59
    go_wp2
    all_goals (go_ret; exact ⟨rfl, rfl⟩)
theorem first_any (d : Mat.Dir) (n : Nat) (w : World) (h0 : 1 ≤ n) (h1 : n ≤ 86400) :
    Calls Tryd.prog 57 #[.int .i64 d.val, .int .i64 n] w fun e w' => e = .returned (.int .i64 (d.fst n : Nat)) ∧ w = w' := by
  cases d with
  | up =>
    simp only [Mat.Dir.val, Mat.Dir.fst]
    go_enter Tryd.func57, Tryd.ntmps57
    go_wp2
    all_goals (go_ret; exact ⟨rfl, rfl⟩)
  | down =>
    simp only [Mat.Dir.val, Mat.Dir.fst]
    have w1 : IntKind.i64.wrap ((n : Int) - 1) = ((n - 1 : Nat) : Int) := by rw [IntKind.wrap_i64]; omega
    go_enter Tryd.func57, Tryd.ntmps57
    go_wp2
    all_goals (go_ret; exact ⟨rfl, rfl⟩)
/-- the number that is found: the first one of the set from v on, or none -/
def IsFound (d : Mat.Dir) (S : Nat) (v a : Int) (b : Bool) : Prop := match d with
  | .up => IsNext S v a b
  | .down => IsPrev S v a b
theorem found_nil {d : Mat.Dir} {S : Nat} {v : Int} (hS : S < 2 ^ 64) (h : d.nums S v = []) : IsFound d S v 0 false := by
  have q : ∀ j, S.testBit j = true → ¬ d.val * v ≤ d.val * (j : Int) := fun j hj hv => by
    have : j ∈ d.nums S v := Mat.nums_mem.2 ⟨set_hi hS hj, hj, hv⟩
    rw [h] at this
    simp at this
  cases d with
  | up => exact .inl ⟨fun j hj => by have := q j hj; simp only [Mat.Dir.val] at this; omega, rfl, rfl⟩
  | down => exact .inl ⟨fun j hj => by have := q j hj; simp only [Mat.Dir.val] at this; omega, rfl, rfl⟩
theorem found_cons {d : Mat.Dir} {S x : Nat} {v : Int} {r : List Nat} (hS : S < 2 ^ 64) (h : d.nums S v = x :: r) : IsFound d S v x true := by
  obtain ⟨h1, h2, h3⟩ := Mat.nums_head h
  have h4 := Mat.nums_first h
  cases d with
  | up => exact .inr ⟨x, ⟨h2, by simp only [Mat.Dir.val] at h3; omega, fun j hj hv => by have := h4 j (set_hi hS hj) hj (by simp only [Mat.Dir.val]; omega); simp only [Mat.Dir.val] at this; omega⟩, rfl, rfl⟩
  | down => exact .inr ⟨x, ⟨h2, by simp only [Mat.Dir.val] at h3; omega, fun j hj hv => by have := h4 j (set_hi hS hj) hj (by simp only [Mat.Dir.val]; omega); simp only [Mat.Dir.val] at this; omega⟩, rfl, rfl⟩
theorem find_any (d : Mat.Dir) (S : Nat) (v a : Int) (b : Bool) (w : World) (L : Lay w) (hS : S < 2 ^ 64) (v0 : -9223372036854775808 ≤ v) (v1 : v ≤ 9223372036854775807) (h : IsFound d S v a b) :
    Calls Tryd.prog 84 #[.int .i64 d.val, .int .u64 S, .int .i64 v] w fun e w' => e = .returned (.tuple #[.int .i64 a, .bool b]) ∧ w = w' := by
  cases d with
  | up =>
    have N := Lib.hid (next_any S v a b w L hS v1 h)
    clear h L hS v0 v1
    simp only [Mat.Dir.val]
    go_enter Tryd.func84, Tryd.ntmps84
    go_wp2_with fail
    refine N.out.mono ?_
    rintro e w1 ⟨rfl, rfl⟩
    go_wp2_with fail
    go_ret2
    exact ⟨rfl, rfl⟩
  | down =>
    have N := Lib.hid (prev_any S v a b w hS v0 v1 h)
    clear h L hS v0 v1
    simp only [Mat.Dir.val]
    go_enter Tryd.func84, Tryd.ntmps84
    go_wp2_with fail
    refine N.out.mono ?_
    rintro e w1 ⟨rfl, rfl⟩
    go_wp2_with fail
    go_ret2
    exact ⟨rfl, rfl⟩
theorem clock_any (t : Nat) (w : World) (h : t < 86400) :
    Calls Tryd.prog 71 #[.int .i64 t] w fun e w' => e = .returned (.tuple #[.int .i64 (t / 3600 : Nat), .int .i64 (t % 3600 / 60 : Nat), .int .i64 (t % 60 : Nat)]) ∧ w = w' := by
  go_enter Tryd.func71, Tryd.ntmps71
  go_wp2
  go_ret3
  exact ⟨rfl, rfl⟩
theorem ahead_any (z : Int) (w : World) (h0 : -840 ≤ z) (h1 : z ≤ 840) :
    Calls Tryd.prog 45 #[.int .i64 z] w fun e w' => e = .returned (.int .i64 (60 * z)) ∧ w = w' := by
  have w1 : IntKind.i64.wrap (60 * z) = 60 * z := by rw [IntKind.wrap_i64]; omega
  go_enter Tryd.func45, Tryd.ntmps45
  go_wp2
  go_ret
  exact ⟨rfl, rfl⟩
theorem local_any (z a b f t : Int) (w : World) (h0 : -840 ≤ z) (h1 : z ≤ 840) (a0 : -1 ≤ a) (a1 : a ≤ 253402300800) (b0 : -1 ≤ b) (b1 : b ≤ 253402300800) (hf : max (a + 60 * z) 0 = f) (ht : min (b + 60 * z) 253402300799 = t) :
    Calls Tryd.prog 34 #[.int .i64 z, .int .i64 a, .int .i64 b] w fun e w' => e = .returned (.tuple #[.int .i64 f, .int .i64 t]) ∧ w = w' := by
  obtain ⟨g, hg⟩ : ∃ g, 60 * z = g := ⟨_, rfl⟩
  have A := Lib.hid (fun w0 : World => ahead_any z w0 h0 h1)
  rw [hg] at A hf ht
  have w1 : IntKind.i64.wrap (a + g) = a + g := by rw [IntKind.wrap_i64]; omega
  have w2 : IntKind.i64.wrap (b + g) = b + g := by rw [IntKind.wrap_i64]; omega
  have HF := Lib.hid hf
  have HT := Lib.hid ht
  clear hg h0 h1 a0 a1 b0 b1 hf ht
  go_enter Tryd.func34, Tryd.ntmps34
  go_wp2_with fail
  refine (A.out _).mono ?_
  rintro e w3 ⟨rfl, rfl⟩
  go_wp2_with fail
  all_goals
    refine (A.out _).mono ?_
    rintro e w3 ⟨rfl, rfl⟩
    go_wp2_with fail
  go_ret2
  have f1 := HF.out
  have f2 := HT.out
  refine ⟨?_, rfl⟩
  rw [← f1, ← f2]
  rfl
theorem zcheck_yes (z : Int) (w : World) (a : -840 ≤ z) (b : z ≤ 840) :
    Calls Tryd.prog 52 #[.int .i64 z] w fun e w' => e = .returned (.int .i64 0) ∧ w = w' := by
  go_enter Tryd.func52, Tryd.ntmps52
  go_wp2
  go_ret
  exact ⟨rfl, rfl⟩
theorem zcheck_no (z : Int) (w : World) (h : z < -840 ∨ 840 < z) :
    Calls Tryd.prog 52 #[.int .i64 z] w fun e w' => e = .returned (.int .i64 2) ∧ w = w' := by
  rcases h with h | h
  · have d : decide (z < -840) = true := by simp; omega
    go_enter Tryd.func52, Tryd.ntmps52
    go_wp2
    go_ret
    exact ⟨rfl, rfl⟩
  · have d0 : decide (z < -840) = false := by simp; omega
    have d : decide (840 < z) = true := by simp; omega
    go_enter Tryd.func52, Tryd.ntmps52
    go_wp2
    go_ret
    exact ⟨rfl, rfl⟩
theorem zcheckR_yes (z : Int) (w : World) (a : -840 ≤ z) (b : z ≤ 840) :
    Calls Tryd.prog 54 #[.int .i64 z] w fun e w' => e = .returned (.int .i64 0) ∧ w = w' := by
  go_enter Tryd.func54, Tryd.ntmps54
  go_wp2
  go_ret
  exact ⟨rfl, rfl⟩
theorem zcheckR_no (z : Int) (w : World) (h : z < -840 ∨ 840 < z) :
    Calls Tryd.prog 54 #[.int .i64 z] w fun e w' => e = .returned (.int .i64 2) ∧ w = w' := by
  rcases h with h | h
  · have d : decide (z < -840) = true := by simp; omega
    go_enter Tryd.func54, Tryd.ntmps54
    go_wp2
    go_ret
    exact ⟨rfl, rfl⟩
  · have d0 : decide (z < -840) = false := by simp; omega
    have d : decide (840 < z) = true := by simp; omega
    go_enter Tryd.func54, Tryd.ntmps54
    go_wp2
    go_ret
    exact ⟨rfl, rfl⟩
/-- the error of a zone -/
def errZ (z : Int) : Int := if -840 ≤ z ∧ z ≤ 840 then 0 else 2
theorem zcheck_any (z : Int) (w : World) : Calls Tryd.prog 52 #[.int .i64 z] w fun e w' => e = .returned (.int .i64 (errZ z)) ∧ w = w' := by
  unfold errZ
  split
  · exact zcheck_yes z w (by omega) (by omega)
  · exact zcheck_no z w (by omega)
theorem zcheckR_any (z : Int) (w : World) : Calls Tryd.prog 54 #[.int .i64 z] w fun e w' => e = .returned (.int .i64 (errZ z)) ∧ w = w' := by
  unfold errZ
  split
  · exact zcheckR_yes z w (by omega) (by omega)
  · exact zcheckR_no z w (by omega)
theorem numbers_any (d : Mat.Dir) (S : Nat) (v : Int) (w : World) :
    Calls Tryd.prog 64 #[.int .i64 d.val, .int .u64 S, .int .i64 v] w fun e w' => e = .returned (.func (.func 83) #[] #[.pointer (some ⟨w.heap.size, 0, none⟩), .pointer (some ⟨w.heap.size + 1, 0, none⟩), .pointer (some ⟨w.heap.size + 1 + 1, 0, none⟩)]) ∧
      w' = ((w.alloc (.cells #[.int .i64 d.val] 55)).alloc (.cells #[.int .u64 S] 22)).alloc (.cells #[.int .i64 v] 3) := by
  obtain ⟨q, hq⟩ : ∃ q, d.val = q := ⟨_, rfl⟩
  rw [hq]
  clear hq
  go_enter Tryd.func64, Tryd.ntmps64
  go_wp2
  go_ret
  exact ⟨rfl, rfl⟩
end Go.Proofs.YtbehendogcghjaaDoor
