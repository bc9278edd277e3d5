/- Plain facts of the statements' examples. -/
import Derived.Test.YtbehendogcghjaaDoorMatO
namespace Go.Proofs.YtbehendogcghjaaDoor
open Go.ChangeShapes Go.RowKit

/-- the expressions of the examples -/
def exStar : Exp.Ex := ⟨1, 1152921504606846975, 16777215, 4294967294, 8190, 127, true, true⟩
def exX : Exp.Ex := ⟨1, 35185445863425, 261632, 4294967294, 8190, 62, true, false⟩
def exY : Exp.Ex := ⟨1, 1, 1, 8192, 8190, 32, false, false⟩
theorem exStar_ok : exStar.okB = true := by decide +kernel
theorem exX_ok : exX.okB = true := by decide +kernel
theorem exY_ok : exY.okB = true := by decide +kernel
theorem on_jan (x : Exp.Ex) (n : Nat) (h : n < 31) : x.On (n : Int) ↔ Mat.mt x.a4 x.a3 x.a5 x.b3 x.b5 1 (n + 1) ((n + 4) % 7) = true := by
  have dm : Civ.dim 1970 1 = 31 := by decide
  have v : Civ.Vld 1970 1 ((n : Int) + 1) := ⟨by omega, by omega, by omega, by omega, by omega, by omega⟩
  have e : Civ.num 1970 1 ((n : Int) + 1) = n := by unfold Civ.num Civ.cum; rw [Civ.dby_first]; simp
  have q := Mat.on_iff (M := x.a4) (D := x.a3) (W := x.a5) (b3 := x.b3) (b5 := x.b5) v
  rw [e] at q
  have e1 : ((n : Int) + 1).toNat = n + 1 := by omega
  have e2 : (((n : Int) + 4) % 7).toNat = (n + 4) % 7 := by omega
  rw [e1, e2] at q
  exact q
theorem lm_at {x : Exp.Ex} {t : Int} (h : x.Lm t) : ∃ (n : Int) (hh i s : Nat), x.On n ∧ hh < 24 ∧ i < 60 ∧ s < 60 ∧ x.a2.testBit hh = true ∧ x.a1.testBit i = true ∧ x.a0.testBit s = true ∧ t = 86400 * n + 3600 * (hh : Int) + 60 * (i : Int) + (s : Int) := by
  rw [lm_iff] at h
  obtain ⟨h1, h2⟩ := h
  obtain ⟨hh, i, s, a1, a2, a3, a4, a5, a6, a7⟩ := Mat.ck_iff.1 h2
  unfold Mat.sec3 at a7
  simp only at a7
  exact ⟨t / 86400, hh, i, s, h1, a1, a2, a3, a4, a5, a6, by omega⟩
theorem lm_mk {x : Exp.Ex} {n : Int} {hh i s : Nat} (h : x.On n) (h1 : hh < 24) (h2 : i < 60) (h3 : s < 60) (h4 : x.a2.testBit hh = true) (h5 : x.a1.testBit i = true) (h6 : x.a0.testBit s = true) : x.Lm (86400 * n + 3600 * (hh : Int) + 60 * (i : Int) + (s : Int)) := by
  rw [lm_iff]
  have e1 : (86400 * n + 3600 * (hh : Int) + 60 * (i : Int) + (s : Int)) / 86400 = n := by omega
  have e2 : (86400 * n + 3600 * (hh : Int) + 60 * (i : Int) + (s : Int)) % 86400 = 3600 * (hh : Int) + 60 * (i : Int) + (s : Int) := by omega
  rw [e1, e2]
  exact ⟨h, Mat.ck_iff.2 ⟨hh, i, s, h1, h2, h3, h4, h5, h6, rfl⟩⟩
theorem bit_one0 {k : Nat} (h : (1 : Nat).testBit k = true) : k = 0 := by
  have := Bit.bit_one 0 k
  rw [Nat.pow_zero, h] at this
  exact (of_decide_eq_true this.symm).symm
theorem exX_min : ∀ k : Fin 60, (35185445863425 : Nat).testBit k.val = true → k.val = 0 ∨ k.val = 15 ∨ k.val = 30 ∨ k.val = 45 := by decide +kernel
theorem exX_hour : ∀ k : Fin 24, (261632 : Nat).testBit k.val = true → 9 ≤ k.val ∧ k.val ≤ 17 := by decide +kernel
theorem next_of {x : Exp.Ex} {z t u : Int} (e : errC x z [t] = 0) (h : Mat.Least (fun s => x.Lm (s + 60 * z)) (t + 1) 253402300799 (some u)) : nextO x z t = some u := (nextO_is e).uniq h
set_option maxRecDepth 100000 in
theorem wk_next : nextO exX 0 150300 = some 378000 := by
  have e : errC exX 0 [150300] = 0 := errC_mk exX_ok ⟨by omega, by omega⟩ (fun t ht => by
    have : t = 150300 := by simpa using ht
    omega)
  refine next_of e ⟨by omega, by omega, ?_, ?_⟩
  · exact lm_mk (x := exX) (n := 4) (hh := 9) (i := 0) (s := 0) ((on_jan exX 4 (by omega)).2 (by decide +kernel)) (by omega) (by omega) (by omega) (by decide +kernel) (by decide +kernel) (by decide +kernel)
  · intro y y1 y2 y3
    obtain ⟨n, hh, i, s, g1, g2, g3, g4, g5, g6, g7, g8⟩ := lm_at y3
    have hs := bit_one0 g7
    have hm := exX_min ⟨i, g3⟩ g6
    have hr := exX_hour ⟨hh, g2⟩ g5
    simp only at hm hr
    have d2 : ¬ exX.On 2 := fun q => absurd ((on_jan exX 2 (by omega)).1 q) (by decide +kernel)
    have d3 : ¬ exX.On 3 := fun q => absurd ((on_jan exX 3 (by omega)).1 q) (by decide +kernel)
    have e2 : n ≠ 2 := fun e => d2 (e ▸ g1)
    have e3 : n ≠ 3 := fun e => d3 (e ▸ g1)
    omega
theorem exY_days : ∀ k : Fin 13, Mat.mt 8190 8192 32 false false 1 (k.val + 1) ((k.val + 4) % 7) = true → k.val = 1 ∨ k.val = 8 ∨ k.val = 12 := by decide +kernel
theorem exY_lm {y : Int} (h : exY.Lm y) (h0 : 0 ≤ y) (h1 : y < 1123200) : y = 86400 ∨ y = 691200 ∨ y = 1036800 := by
  obtain ⟨n, hh, i, s, g1, g2, g3, g4, g5, g6, g7, g8⟩ := lm_at h
  have a := bit_one0 g5
  have b := bit_one0 g6
  have c := bit_one0 g7
  obtain ⟨m, rfl⟩ := Int.eq_ofNat_of_zero_le (show 0 ≤ n by omega)
  have d := exY_days ⟨m, by omega⟩ ((on_jan exY m (by omega)).1 g1)
  simp only at d
  omega
theorem exY_at (n : Nat) (h : n < 31) (hm : Mat.mt 8190 8192 32 false false 1 (n + 1) ((n + 4) % 7) = true) : exY.Lm (86400 * (n : Int)) := by
  have := lm_mk (x := exY) (n := (n : Int)) (hh := 0) (i := 0) (s := 0) ((on_jan exY n h).2 hm) (by omega) (by omega) (by omega) (by decide +kernel) (by decide +kernel) (by decide +kernel)
  simpa using this
set_option maxRecDepth 100000 in
theorem wk_list : listO exY 0 0 1100000 9 = [86400, 691200, 1036800] := by
  have h := listO_is (x := exY) (z := 0) (a := 0) (b := 1100000) 9 (errC_mk exY_ok (by omega) (fun t ht => by
    have : t = 0 ∨ t = 1100000 := by simpa using ht
    omega))
  refine h.uniq (show Tms _ _ 9 0 [86400, 691200, 1036800] from ?_)
  have p : ∀ s, exY.Lm (s + 60 * 0) ↔ exY.Lm s := fun s => by rw [show s + 60 * 0 = s by omega]
  refine ⟨some 86400, ⟨by omega, by omega, (p _).2 (exY_at 1 (by omega) (by decide +kernel)), fun y y1 y2 y3 => ?_⟩, _, rfl, some 691200, ⟨by omega, by omega, (p _).2 (exY_at 8 (by omega) (by decide +kernel)), fun y y1 y2 y3 => ?_⟩, _, rfl, some 1036800, ⟨by omega, by omega, (p _).2 (exY_at 12 (by omega) (by decide +kernel)), fun y y1 y2 y3 => ?_⟩, _, rfl, none, fun y y1 y2 y3 => ?_, rfl⟩
  · have := exY_lm ((p _).1 y3) (by omega) (by omega); omega
  · have := exY_lm ((p _).1 y3) (by omega) (by omega); omega
  · have := exY_lm ((p _).1 y3) (by omega) (by omega); omega
  · have := exY_lm ((p _).1 y3) (by omega) (by omega); omega
set_option maxRecDepth 100000 in
theorem wk_count : countN exStar 0 0 86399 = 1440 := by
  have hok := Exp.okB_iff.1 exStar_ok
  have h := countN_loc (x := exStar) (z := 0) (a := 0) (b := 86399) (by decide)
  rw [h]
  have d := cnt_days hok 1
  have e : (loc1 0 86399 - loc0 0 0 + 1).toNat = 86400 * 1 := by decide
  have e0 : loc0 0 0 = 0 := by decide
  rw [e, e0, d, cnt_yes (P := exStar.On) (a := 0) (n := 0) ((on_jan exStar 0 (by omega)).2 (by decide +kernel))]
  have s : exStar.secs = 1440 := by decide +kernel
  rw [s]
  rfl
end Go.Proofs.YtbehendogcghjaaDoor
