/- Contracts of Text, of package civil and of the document's: the text of each time from 0 to MaxTime, and the error otherwise. -/
import Derived.Test.YtjffnjoeeclckaaDoorCivT
import Derived.Deep.RegionHeld3
import Derived.Lib.SlBytesConst
namespace Go.Proofs.YtjffnjoeeclckaaDoor
open Go.ChangeShapes Go.RowKit

@[go_sem] theorem conv_const (W : World) (k : Nat) (C : Array Value) (n c : Nat) (hk : W.heap.size = k) :
    (convert 49 49 (.slice (some ⟨k, 0, none⟩) n c)).run Tryd.prog (W.alloc (.cells C 5)) = .ok (.slice (some ⟨k, 0, none⟩) n c) (W.alloc (.cells C 5 (C.size, C.size + 1))) := by
  subst hk
  exact Lib.run_convert_bytes_const W 49 5 C n c Tryd.underlying49 Tryd.underlying5

/-- the bytes of the text of a civil time -/
def txt (y m d h i s : Int) : List Int :=
  [48 + y / 10 / 10 / 10 % 10, 48 + y / 10 / 10 % 10, 48 + y / 10 % 10, 48 + y % 10, 45, 48 + m / 10 % 10, 48 + m % 10, 45, 48 + d / 10 % 10, 48 + d % 10, 32,
   48 + h / 10 % 10, 48 + h % 10, 58, 48 + i / 10 % 10, 48 + i % 10, 58, 48 + s / 10 % 10, 48 + s % 10]

/-- the civil time in block B, the bytes l in the next one -/
structure At (w W : World) (B : Nat) (y m d h i s : Int) (l : List Int) : Prop where
  bel : Below w.heap.size w W
  hB : w.heap.size ≤ B
  len : l.length = 19
  g0 : W.cell? ⟨B, 0, none⟩ = some (.int .i64 y)
  g1 : W.cell? ⟨B, 1, none⟩ = some (.int .i64 m)
  g2 : W.cell? ⟨B, 2, none⟩ = some (.int .i64 d)
  g3 : W.cell? ⟨B, 3, none⟩ = some (.int .i64 h)
  g4 : W.cell? ⟨B, 4, none⟩ = some (.int .i64 i)
  g5 : W.cell? ⟨B, 5, none⟩ = some (.int .i64 s)
  c : ∀ k, k < 19 → W.cell? ⟨B + 1, k, none⟩ = some (.int .u8 (l.getD k 0))
  f : ∀ k, k < 19 → W.frozen? ⟨B + 1, k, none⟩ = false

theorem At.drew {w W : World} {B : Nat} {y m d h i s : Int} {l : List Int} (t : At w W B y m d h i s l) : At w W.drew B y m d h i s l :=
  ⟨t.bel.drew, t.hB, t.len, t.g0, t.g1, t.g2, t.g3, t.g4, t.g5, t.c, t.f⟩
theorem At.set {w W : World} {B : Nat} {y m d h i s : Int} {l : List Int} (t : At w W B y m d h i s l) (k : Nat) (hk : k < 19) (v : Int) :
    At w (W.setCell ⟨B + 1, k, none⟩ (.int .u8 v)) B y m d h i s (l.set k v) where
  bel := t.bel.setCell (by have := t.hB; simp; omega) _
  hB := t.hB
  len := by simp [t.len]
  g0 := by rw [World.cell?_setCell_other _ _ _ _ (by simp)]; exact t.g0
  g1 := by rw [World.cell?_setCell_other _ _ _ _ (by simp)]; exact t.g1
  g2 := by rw [World.cell?_setCell_other _ _ _ _ (by simp)]; exact t.g2
  g3 := by rw [World.cell?_setCell_other _ _ _ _ (by simp)]; exact t.g3
  g4 := by rw [World.cell?_setCell_other _ _ _ _ (by simp)]; exact t.g4
  g5 := by rw [World.cell?_setCell_other _ _ _ _ (by simp)]; exact t.g5
  c := fun j hj => by
    by_cases e : j = k
    · subst e
      rw [World.cell?_setCell_same _ _ _ (t.c j hj)]
      simp [List.getD, t.len, hj]
    · rw [World.cell?_setCell_other _ _ _ _ (by simp <;> omega), t.c j hj]
      simp [List.getD, List.getElem?_set_ne (Ne.symm e)]
  f := fun j hj => by rw [World.frozen?_setCell]; exact t.f j hj

theorem text_no (t : Int) (w : World) (h : t < 0 ∨ 253402300799 < t) :
    Calls Tryd.prog 28 #[.int .i64 t] w fun e w' => e = .returned (.tuple #[.string ⟨#[]⟩, .int .i64 14]) ∧ Below w.heap.size w w' := by
  go_enter Tryd.func28, Tryd.ntmps28
  go_wp2_with fail
  refine (of_no _ _ h).mono ?_
  rintro e w1 ⟨rfl, hb⟩
  go_wp2_with fail
  go_ret2
  exact ⟨rfl, hb.alloc hb.size _⟩

theorem frozen_mark (w : World) (C : Array Value) (t : TypeId) (fr : Nat × Nat) (j : Nat) : (w.alloc (.cells C t fr)).frozen? ⟨w.heap.size, j, none⟩ = (decide (fr.1 ≤ j) && decide (j < fr.2)) := by
  have h : (w.alloc (.cells C t fr)).heap[w.heap.size]? = some (.cells C t fr) := by
    show (w.heap.push (.cells C t fr))[w.heap.size]? = _
    simp
  unfold World.frozen?
  rw [h]
theorem at_start (w w1 : World) (hb : Below w.heap.size w w1) (y m d h i s : Int) (t : TypeId) :
    ∃ W, W = (w1.alloc (.cells #[.int .i64 y, .int .i64 m, .int .i64 d, .int .i64 h, .int .i64 i, .int .i64 s] t)).alloc (.cells #[.int .u8 48, .int .u8 48, .int .u8 48, .int .u8 48, .int .u8 45, .int .u8 48, .int .u8 48, .int .u8 45, .int .u8 48, .int .u8 48, .int .u8 32, .int .u8 48, .int .u8 48, .int .u8 58, .int .u8 48, .int .u8 48, .int .u8 58, .int .u8 48, .int .u8 48] 5 (19, 20)) ∧
      At w W w1.heap.size y m d h i s [48, 48, 48, 48, 45, 48, 48, 45, 48, 48, 32, 48, 48, 58, 48, 48, 58, 48, 48] := by
  have e : w1.heap.size + 1 = (w1.alloc (.cells #[.int .i64 y, .int .i64 m, .int .i64 d, .int .i64 h, .int .i64 i, .int .i64 s] t)).heap.size := by simp
  refine ⟨_, rfl, (hb.alloc hb.size _).alloc (by have := hb.size; simp; omega) _, hb.size, rfl, by simp [go_sem], by simp [go_sem], by simp [go_sem], by simp [go_sem], by simp [go_sem], by simp [go_sem], fun k hk => ?_, fun k hk => ?_⟩
  · rw [e, World.cell?_alloc_mark]
    have : k = 0 ∨ k = 1 ∨ k = 2 ∨ k = 3 ∨ k = 4 ∨ k = 5 ∨ k = 6 ∨ k = 7 ∨ k = 8 ∨ k = 9 ∨ k = 10 ∨ k = 11 ∨ k = 12 ∨ k = 13 ∨ k = 14 ∨ k = 15 ∨ k = 16 ∨ k = 17 ∨ k = 18 := by omega
    rcases this with rfl | rfl | rfl | rfl | rfl | rfl | rfl | rfl | rfl | rfl | rfl | rfl | rfl | rfl | rfl | rfl | rfl | rfl | rfl <;> rfl
  · rw [e, frozen_mark]
    simp
    omega

theorem put_0 {w W : World} {B : Nat} {y m d h i s : Int} {l : List Int} (A : At w W B y m d h i s l) (cap : Nat) (n : Int) (h0 : 0 ≤ n) (h1 : n ≤ 9999) :
    Calls Tryd.prog 39 #[.slice (some ⟨B + 1, 0, none⟩) 4 cap, .int .i64 n] W fun e w' => e = .returned (.tuple #[]) ∧
      At w w' B y m d h i s ((((l.set 3 (48 + n % 10)).set 2 (48 + n / 10 % 10)).set 1 (48 + n / 10 / 10 % 10)).set 0 (48 + n / 10 / 10 / 10 % 10)) :=
  (write_0 (B + 1) cap n _ _ _ _ W h0 h1 (A.c 0 (by decide)) (A.c 1 (by decide)) (A.c 2 (by decide)) (A.c 3 (by decide)) (A.f 0 (by decide)) (A.f 1 (by decide)) (A.f 2 (by decide)) (A.f 3 (by decide))).mono fun e w' ⟨he, hw⟩ =>
    ⟨he, by rw [hw]; exact (((A.set 3 (by decide) _).set 2 (by decide) _).set 1 (by decide) _).set 0 (by decide) _⟩
theorem put_5 {w W : World} {B : Nat} {y m d h i s : Int} {l : List Int} (A : At w W B y m d h i s l) (cap : Nat) (n : Int) (h0 : 0 ≤ n) (h1 : n ≤ 99) :
    Calls Tryd.prog 39 #[.slice (some ⟨B + 1, 5, none⟩) 2 cap, .int .i64 n] W fun e w' => e = .returned (.tuple #[]) ∧
      At w w' B y m d h i s ((l.set 6 (48 + n % 10)).set 5 (48 + n / 10 % 10)) :=
  (write_5 (B + 1) cap n _ _ W h0 h1 (A.c 5 (by decide)) (A.c 6 (by decide)) (A.f 5 (by decide)) (A.f 6 (by decide))).mono fun e w' ⟨he, hw⟩ =>
    ⟨he, by rw [hw]; exact (A.set 6 (by decide) _).set 5 (by decide) _⟩
theorem put_8 {w W : World} {B : Nat} {y m d h i s : Int} {l : List Int} (A : At w W B y m d h i s l) (cap : Nat) (n : Int) (h0 : 0 ≤ n) (h1 : n ≤ 99) :
    Calls Tryd.prog 39 #[.slice (some ⟨B + 1, 8, none⟩) 2 cap, .int .i64 n] W fun e w' => e = .returned (.tuple #[]) ∧
      At w w' B y m d h i s ((l.set 9 (48 + n % 10)).set 8 (48 + n / 10 % 10)) :=
  (write_8 (B + 1) cap n _ _ W h0 h1 (A.c 8 (by decide)) (A.c 9 (by decide)) (A.f 8 (by decide)) (A.f 9 (by decide))).mono fun e w' ⟨he, hw⟩ =>
    ⟨he, by rw [hw]; exact (A.set 9 (by decide) _).set 8 (by decide) _⟩
theorem put_11 {w W : World} {B : Nat} {y m d h i s : Int} {l : List Int} (A : At w W B y m d h i s l) (cap : Nat) (n : Int) (h0 : 0 ≤ n) (h1 : n ≤ 99) :
    Calls Tryd.prog 39 #[.slice (some ⟨B + 1, 11, none⟩) 2 cap, .int .i64 n] W fun e w' => e = .returned (.tuple #[]) ∧
      At w w' B y m d h i s ((l.set 12 (48 + n % 10)).set 11 (48 + n / 10 % 10)) :=
  (write_11 (B + 1) cap n _ _ W h0 h1 (A.c 11 (by decide)) (A.c 12 (by decide)) (A.f 11 (by decide)) (A.f 12 (by decide))).mono fun e w' ⟨he, hw⟩ =>
    ⟨he, by rw [hw]; exact (A.set 12 (by decide) _).set 11 (by decide) _⟩
theorem put_14 {w W : World} {B : Nat} {y m d h i s : Int} {l : List Int} (A : At w W B y m d h i s l) (cap : Nat) (n : Int) (h0 : 0 ≤ n) (h1 : n ≤ 99) :
    Calls Tryd.prog 39 #[.slice (some ⟨B + 1, 14, none⟩) 2 cap, .int .i64 n] W fun e w' => e = .returned (.tuple #[]) ∧
      At w w' B y m d h i s ((l.set 15 (48 + n % 10)).set 14 (48 + n / 10 % 10)) :=
  (write_14 (B + 1) cap n _ _ W h0 h1 (A.c 14 (by decide)) (A.c 15 (by decide)) (A.f 14 (by decide)) (A.f 15 (by decide))).mono fun e w' ⟨he, hw⟩ =>
    ⟨he, by rw [hw]; exact (A.set 15 (by decide) _).set 14 (by decide) _⟩
theorem put_17 {w W : World} {B : Nat} {y m d h i s : Int} {l : List Int} (A : At w W B y m d h i s l) (cap : Nat) (n : Int) (h0 : 0 ≤ n) (h1 : n ≤ 99) :
    Calls Tryd.prog 39 #[.slice (some ⟨B + 1, 17, none⟩) 2 cap, .int .i64 n] W fun e w' => e = .returned (.tuple #[]) ∧
      At w w' B y m d h i s ((l.set 18 (48 + n % 10)).set 17 (48 + n / 10 % 10)) :=
  (write_17 (B + 1) cap n _ _ W h0 h1 (A.c 17 (by decide)) (A.c 18 (by decide)) (A.f 17 (by decide)) (A.f 18 (by decide))).mono fun e w' ⟨he, hw⟩ =>
    ⟨he, by rw [hw]; exact (A.set 18 (by decide) _).set 17 (by decide) _⟩

set_option maxRecDepth 100000 in
theorem text_yes (y m d h i s t : Int) (w : World) (L : Lay w) (v : Civ.CVld y m d h i s) (ht : Civ.secs y m d h i s = t) :
    Calls Tryd.prog 28 #[.int .i64 t] w fun e w' => e = .returned (.tuple #[.string (strOfNums (txt y m d h i s)), .int .i64 0]) ∧ Below w.heap.size w w' := by
  have O := Lib.hid (of_yes y m d h i s t w L v ht)
  obtain ⟨⟨y0, y1, m0, m1, d0, d1⟩, h0, h1, i0, i1, s0, s1⟩ := v
  have d2 := (Civ.dim_bd y m).2
  clear ht
  go_enter Tryd.func28, Tryd.ntmps28
  go_wp2_with fail
  refine O.out.mono ?_
  rintro e w1 ⟨rfl, hb⟩
  obtain ⟨W, hW, A⟩ := at_start w w1 hb y m d h i s 34
  have H := Lib.hid hW
  have AA := Lib.hid A
  clear hW A
  go_wp2_with fail
  rw [← H.out]
  have q0 := AA.out.g0
  refine wp_region_still_tail 4 (by kernel_rfl) (by kernel_rfl) ?_
  simp only [List.take_succ_cons, List.take_zero, List.drop_succ_cons, List.drop_zero]
  iterate 4 still_step
  refine wpStill_nil ?_
  change wpList _ _ _ _ _ W.drew
  clear q0
  go_wp2_with fail
  refine (put_0 AA.out.drew _ _ (by omega) (by omega)).mono ?_
  rintro e w2 ⟨rfl, a2⟩
  have A2 := Lib.hid a2
  clear a2
  go_wp2_with fail
  have q1 := A2.out.g1
  refine wp_region_still_tail 4 (by kernel_rfl) (by kernel_rfl) ?_
  simp only [List.take_succ_cons, List.take_zero, List.drop_succ_cons, List.drop_zero]
  iterate 4 still_step
  refine wpStill_nil ?_
  change wpList _ _ _ _ _ w2.drew
  clear q1
  go_wp2_with fail
  refine (put_5 A2.out.drew _ _ (by omega) (by omega)).mono ?_
  rintro e w3 ⟨rfl, a3⟩
  have A3 := Lib.hid a3
  clear a3
  go_wp2_with fail
  have q2 := A3.out.g2
  refine wp_region_still_tail 4 (by kernel_rfl) (by kernel_rfl) ?_
  simp only [List.take_succ_cons, List.take_zero, List.drop_succ_cons, List.drop_zero]
  iterate 4 still_step
  refine wpStill_nil ?_
  change wpList _ _ _ _ _ w3.drew
  clear q2
  go_wp2_with fail
  refine (put_8 A3.out.drew _ _ (by omega) (by omega)).mono ?_
  rintro e w4 ⟨rfl, a4⟩
  have A4 := Lib.hid a4
  clear a4
  go_wp2_with fail
  have q3 := A4.out.g3
  refine wp_region_still_tail 4 (by kernel_rfl) (by kernel_rfl) ?_
  simp only [List.take_succ_cons, List.take_zero, List.drop_succ_cons, List.drop_zero]
  iterate 4 still_step
  refine wpStill_nil ?_
  change wpList _ _ _ _ _ w4.drew
  clear q3
  go_wp2_with fail
  refine (put_11 A4.out.drew _ _ (by omega) (by omega)).mono ?_
  rintro e w5 ⟨rfl, a5⟩
  have A5 := Lib.hid a5
  clear a5
  go_wp2_with fail
  have q4 := A5.out.g4
  refine wp_region_still_tail 4 (by kernel_rfl) (by kernel_rfl) ?_
  simp only [List.take_succ_cons, List.take_zero, List.drop_succ_cons, List.drop_zero]
  iterate 4 still_step
  refine wpStill_nil ?_
  change wpList _ _ _ _ _ w5.drew
  clear q4
  go_wp2_with fail
  refine (put_14 A5.out.drew _ _ (by omega) (by omega)).mono ?_
  rintro e w6 ⟨rfl, a6⟩
  have A6 := Lib.hid a6
  clear a6
  go_wp2_with fail
  have q5 := A6.out.g5
  refine wp_region_still_tail 4 (by kernel_rfl) (by kernel_rfl) ?_
  simp only [List.take_succ_cons, List.take_zero, List.drop_succ_cons, List.drop_zero]
  iterate 4 still_step
  refine wpStill_nil ?_
  change wpList _ _ _ _ _ w6.drew
  clear q5
  go_wp2_with fail
  refine (put_17 A6.out.drew _ _ (by omega) (by omega)).mono ?_
  rintro e w7 ⟨rfl, a7⟩
  have cv := run_convert_bytes_arg (P := Tryd.prog) w7 49 5 Tryd.underlying49 Tryd.underlying5 (w1.heap.size + 1) 0 19 19 (txt y m d h i s) rfl (fun k hk => by rw [Nat.zero_add]; exact a7.c k hk) 9 Tryd.underlying9
  have A7 := Lib.hid a7.bel
  clear a7
  go_wp2_with fail
  go_ret2
  exact ⟨rfl, A7.out⟩
end Go.Proofs.YtjffnjoeeclckaaDoor
