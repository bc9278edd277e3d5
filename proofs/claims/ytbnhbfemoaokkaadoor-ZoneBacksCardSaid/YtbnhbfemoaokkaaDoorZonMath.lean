/- Plain mathematics of zones: the six bytes of a zone's text, and the zone that six bytes say. No program stands here. -/
namespace Go.Proofs.YtbnhbfemoaokkaaDoor.Zon
/-- the sign's byte -/
def sg (z : Int) : Int := if z < 0 then 45 else 43
/-- how far the zone lies from UTC -/
def far (z : Int) : Int := if z < 0 then -z else z
def b1 (z : Int) : Int := 48 + far z / 60 / 10
def b2 (z : Int) : Int := 48 + far z / 60 % 10
def b4 (z : Int) : Int := 48 + far z % 60 / 10
def b5 (z : Int) : Int := 48 + far z % 10
/-- the bytes of the text of a zone -/
def zl (z : Int) : List Int := [sg z, b1 z, b2 z, 58, b4 z, b5 z]
/-- what six bytes say -/
def rd (x0 x1 x2 x4 x5 : Int) : Int :=
  if x0 = 45 then -(60 * (10 * (x1 - 48) + x2 - 48) + (10 * (x4 - 48) + x5 - 48)) else 60 * (10 * (x1 - 48) + x2 - 48) + (10 * (x4 - 48) + x5 - 48)
theorem far_bd {z : Int} (a : -840 ≤ z) (b : z ≤ 840) : 0 ≤ far z ∧ far z ≤ 840 := by unfold far; split <;> omega
theorem sg_or (z : Int) : sg z = 45 ∨ sg z = 43 := by unfold sg; split <;> simp
theorem b1_bd {z : Int} (a : -840 ≤ z) (b : z ≤ 840) : 48 ≤ b1 z ∧ b1 z ≤ 57 := by have := far_bd a b; unfold b1; omega
theorem b2_bd {z : Int} (a : -840 ≤ z) (b : z ≤ 840) : 48 ≤ b2 z ∧ b2 z ≤ 57 := by have := far_bd a b; unfold b2; omega
theorem b4_bd {z : Int} (a : -840 ≤ z) (b : z ≤ 840) : 48 ≤ b4 z ∧ b4 z ≤ 53 := by have := far_bd a b; unfold b4; omega
theorem b5_bd {z : Int} (a : -840 ≤ z) (b : z ≤ 840) : 48 ≤ b5 z ∧ b5 z ≤ 57 := by have := far_bd a b; unfold b5; omega
theorem rd_zl {z : Int} (a : -840 ≤ z) (b : z ≤ 840) : rd (sg z) (b1 z) (b2 z) (b4 z) (b5 z) = z := by
  have := far_bd a b
  unfold rd sg b1 b2 b4 b5 far
  by_cases c : z < 0
  · simp only [c, if_true]; omega
  · simp only [c, if_false]; rw [if_neg (by decide)]; omega
theorem zl_inj {z z' : Int} (a : -840 ≤ z) (b : z ≤ 840) (a' : -840 ≤ z') (b' : z' ≤ 840) (h : zl z = zl z') : z = z' := by
  unfold zl at h
  simp only [List.cons.injEq, and_true, true_and] at h
  obtain ⟨h0, h1, h2, h4, h5⟩ := h
  rw [← rd_zl a b, ← rd_zl a' b', h0, h1, h2, h4, h5]
end Go.Proofs.YtbnhbfemoaokkaaDoor.Zon
