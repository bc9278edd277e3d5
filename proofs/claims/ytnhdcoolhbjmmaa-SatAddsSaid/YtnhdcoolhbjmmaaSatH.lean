/- The examples hold: 'works' returns true; nothing in memory that was there changes. -/
import Derived.Test.YtnhdcoolhbjmmaaSatG
import Derived.WalkSmall
namespace Go.Proofs.Ytnhdcoolhbjmmaa
open Go.ChangeShapes Go.RowKit

theorem divV (a b p q : Int) (w : World) (a0 : -9223372036854775808 ≤ a) (a1 : a ≤ 9223372036854775807) (b0 : 1 ≤ b) (b1 : b ≤ 9223372036854775807) (hp : a / b = p) (hq : a % b = q) :
    Calls Try.prog 27 #[.int .i64 a, .int .i64 b] w fun e w' => e = .returned (.tuple #[.int .i64 p, .int .i64 q, .int .i64 0]) ∧ Below w.heap.size w w' := by
  subst hp hq
  exact (div_any a b w a0 a1 b0 b1).mono fun e w' ⟨he, n, hw⟩ => ⟨he, by subst hw; exact below_drewN (Below.refl _ _) n⟩
theorem addV (a b c : Int) (w : World) (hc : addS a b = c) :
    Calls Try.prog 18 #[.int .i64 a, .int .i64 b] w fun e w' => e = .returned (.int .i64 c) ∧ w = w' := by
  subst hc; exact add_any a b w
theorem subV (a b c : Int) (w : World) (hc : subS a b = c) :
    Calls Try.prog 20 #[.int .i64 a, .int .i64 b] w fun e w' => e = .returned (.int .i64 c) ∧ w = w' := by
  subst hc; exact sub_any a b w
theorem powV (a n c : Int) (w : World) (h1 : n ≤ 9223372036854775807) (hc : powS a n = c) :
    Calls Try.prog 31 #[.int .i64 a, .int .i64 n] w fun e w' => e = .returned (.int .i64 c) ∧ Below w.heap.size w w' := by
  subst hc; exact pow_any a n w h1
theorem sumV (b off len cap : Nat) (zs : List Int) (c : Int) (w : World) (h0 : 0 < len) (hz : len ≤ zs.length) (hm : len ≤ 9223372036854775807) (hs : sumS (zs.take len) = c) (hc : ∀ i, i < len → w.cell? ⟨b, off + i, none⟩ = some (.int .i64 (zs.getD i 0))) :
    Calls Try.prog 33 #[.slice (some ⟨b, off, none⟩) len cap] w fun e w' => e = .returned (.int .i64 c) ∧ w = w' := by
  subst hs; exact sum_row b off len cap zs w h0 hz hm hc

theorem works_any (w : World) : Calls Try.prog 22 #[] w fun e w' => e = .returned (.bool true) ∧ Below w.heap.size w w' := by
  go_enter Try.func22, Try.ntmps22
  go_wp2_with fail
  refine (divV _ _ (-3) 2 _ (by decide) (by decide) (by decide) (by decide) (by decide) (by decide)).mono ?_
  rintro e w1 ⟨rfl, hb1⟩
  go_wp2_with fail
  refine (plus_over _ _ _ (by decide) (by decide) (by decide) (by decide) (by decide)).mono ?_
  rintro e w' ⟨rfl, rfl⟩
  go_wp2_with fail
  refine (addV _ _ 4611686018427387904 _ (by decide)).mono ?_
  rintro e w' ⟨rfl, rfl⟩
  go_wp2_with fail
  refine (subV _ _ 4611686018427387904 _ (by decide)).mono ?_
  rintro e w' ⟨rfl, rfl⟩
  go_wp2_with fail
  refine (mulP_any _ _ (-4611686018427387904) (by decide) _).mono ?_
  rintro e w2 ⟨rfl, hb2⟩
  go_wp2_with fail
  refine (sumV _ 0 3 3 [4611686018427387904, 5, -7] 4611686018427387897 _ (by decide) (by decide) (by decide) (by decide) ?_).mono ?_
  · intro i hi
    have : i = 0 ∨ i = 1 ∨ i = 2 := by omega
    rcases this with rfl | rfl | rfl <;> simp [go_sem]
  rintro e w' ⟨rfl, rfl⟩
  go_wp2_with fail
  refine (powV _ _ 1024 _ (by decide) (by decide +kernel)).mono ?_
  rintro e w3 ⟨rfl, hb3⟩
  go_wp2_with fail
  refine (powV _ _ (-4611686018427387904) _ (by decide) (by decide +kernel)).mono ?_
  rintro e w4 ⟨rfl, hb4⟩
  go_wp2_with fail
  go_ret
  refine ⟨rfl, ?_⟩
  have s1 := hb1.size
  have s2 := hb2.size
  have s3 := hb3.size
  have s4 := hb4.size
  simp at s3
  refine (hb1.trans (hb2.mono (by omega))).trans ?_
  refine (((Below.refl _ _).alloc (by omega) _).trans (hb3.mono (by simp; omega))).trans (hb4.mono (by omega))
end Go.Proofs.Ytnhdcoolhbjmmaa
