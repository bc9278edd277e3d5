/- Contracts of Text of the document: the text of each time from 0 to MaxTime, and the error otherwise. -/
import Derived.Test.YtjffnjoeeclckaaDoorCivText
import Derived.Deep.RegionHeld3
import Derived.Deep.DrawnRows
namespace Go.Proofs.YtjffnjoeeclckaaDoor
open Go.ChangeShapes Go.RowKit
attribute [local go_sem ↓] Go.wp_at_zero Go.wp_at_succ

/-- the last k digits of n -/
def dgs (n k : Int) : List Int := if k = 4 then [48 + n / 10 / 10 / 10 % 10, 48 + n / 10 / 10 % 10, 48 + n / 10 % 10, 48 + n % 10] else [48 + n / 10 % 10, 48 + n % 10]
theorem dgs_4 (n : Int) : dgs n 4 = [48 + n / 10 / 10 / 10 % 10, 48 + n / 10 / 10 % 10, 48 + n / 10 % 10, 48 + n % 10] := rfl
theorem dgs_2 (n : Int) : dgs n 2 = [48 + n / 10 % 10, 48 + n % 10] := rfl
def dgsS (n k : Int) : ByteArray := strOfNums (dgs n k)
theorem dgsS_4 (n : Int) : (dgsS n 4).size = 4 := by unfold dgsS; rw [strOfNums_size, dgs_4]; rfl
theorem dgsS_2 (n : Int) : (dgsS n 2).size = 2 := by unfold dgsS; rw [strOfNums_size, dgs_2]; rfl
theorem digits_any (n k : Int) (w : World) (h0 : 0 ≤ n) (h : k = 4 ∧ n ≤ 9999 ∨ k = 2 ∧ n ≤ 99) :
    Calls Tryd.prog 40 #[.int .i64 n, .int .i64 k] w fun e w' => e = .returned (.string (dgsS n k)) ∧ Below w.heap.size w w' := by
  rcases h with ⟨rfl, h⟩ | ⟨rfl, h⟩
  · exact digits_4 n w h0 h
  · exact digits_2 n w h0 h
theorem textR_no (t : Int) (w : World) (h : t < 0 ∨ 253402300799 < t) :
    Calls Tryd.prog 29 #[.int .i64 t] w fun e w' => e = .returned (.tuple #[.string ⟨#[]⟩, .int .i64 14]) ∧ Below w.heap.size w w' := by
  go_enter Tryd.func29, Tryd.ntmps29
  go_wp2_with fail
  refine (ofR_no _ _ h).mono ?_
  rintro e w1 ⟨rfl, hb⟩
  go_wp2_with fail
  go_ret2
  exact ⟨rfl, hb.alloc hb.size _⟩

/-- the civil time in block B -/
structure Civ6 (w W : World) (B : Nat) (y m d h i s : Int) : Prop where
  bel : Below w.heap.size w W
  hB : B < W.heap.size
  g0 : W.cell? ⟨B, 0, none⟩ = some (.int .i64 y)
  g1 : W.cell? ⟨B, 1, none⟩ = some (.int .i64 m)
  g2 : W.cell? ⟨B, 2, none⟩ = some (.int .i64 d)
  g3 : W.cell? ⟨B, 3, none⟩ = some (.int .i64 h)
  g4 : W.cell? ⟨B, 4, none⟩ = some (.int .i64 i)
  g5 : W.cell? ⟨B, 5, none⟩ = some (.int .i64 s)
  f0 : W.frozen? ⟨B, 0, none⟩ = false
theorem civ6_start (w w1 : World) (hb : Below w.heap.size w w1) (y m d h i s : Int) (t : TypeId) :
    ∃ W, W = w1.alloc (.cells #[.int .i64 y, .int .i64 m, .int .i64 d, .int .i64 h, .int .i64 i, .int .i64 s] t) ∧ Civ6 w W w1.heap.size y m d h i s := by
  refine ⟨_, rfl, hb.alloc hb.size _, by simp, ?_, ?_, ?_, ?_, ?_, ?_, ?_⟩ <;> simp [go_sem]

theorem one_45 : (⟨#[45]⟩ : ByteArray) = strOfNums [45] := rfl
theorem one_32 : (⟨#[32]⟩ : ByteArray) = strOfNums [32] := rfl
theorem one_58 : (⟨#[58]⟩ : ByteArray) = strOfNums [58] := rfl
def joined (y m d h i s : Int) : ByteArray := dgsS y 4 ++ ⟨#[45]⟩ ++ dgsS m 2 ++ ⟨#[45]⟩ ++ dgsS d 2 ++ ⟨#[32]⟩ ++ dgsS h 2 ++ ⟨#[58]⟩ ++ dgsS i 2 ++ ⟨#[58]⟩ ++ dgsS s 2
theorem joined_txt (y m d h i s : Int) : joined y m d h i s = strOfNums (txt y m d h i s) := by
  unfold joined dgsS
  rw [one_45, one_32, one_58]
  simp only [strOfNums_append]
  rfl
theorem ret_txt {y m d h i s : Int} {a : ByteArray} (e : a = joined y m d h i s) : Ending.returned (.tuple #[.string a, .int .i64 0]) = .returned (.tuple #[.string (strOfNums (txt y m d h i s)), .int .i64 0]) := by
  rw [e, joined_txt]
theorem Civ6.drew {w W : World} {B : Nat} {y m d h i s : Int} (A : Civ6 w W B y m d h i s) : Civ6 w W.drew B y m d h i s :=
  ⟨A.bel.drew, A.hB, A.g0, A.g1, A.g2, A.g3, A.g4, A.g5, A.f0⟩
theorem Civ6.below {w W W' : World} {B : Nat} {y m d h i s : Int} (A : Civ6 w W B y m d h i s) (b : Below W.heap.size W W') : Civ6 w W' B y m d h i s where
  bel := A.bel.trans (b.mono A.bel.size)
  hB := Nat.lt_of_lt_of_le A.hB b.size
  g0 := (b.cell (p := ⟨B, 0, none⟩) A.hB).trans A.g0
  g1 := (b.cell (p := ⟨B, 1, none⟩) A.hB).trans A.g1
  g2 := (b.cell (p := ⟨B, 2, none⟩) A.hB).trans A.g2
  g3 := (b.cell (p := ⟨B, 3, none⟩) A.hB).trans A.g3
  g4 := (b.cell (p := ⟨B, 4, none⟩) A.hB).trans A.g4
  g5 := (b.cell (p := ⟨B, 5, none⟩) A.hB).trans A.g5
  f0 := (b.frozen (p := ⟨B, 0, none⟩) A.hB).trans A.f0
theorem digits_civ {w W : World} {B : Nat} {y m d h i s : Int} (A : Civ6 w W B y m d h i s) (n k : Int) (h0 : 0 ≤ n) (hk : k = 4 ∧ n ≤ 9999 ∨ k = 2 ∧ n ≤ 99) :
    Calls Tryd.prog 40 #[.int .i64 n, .int .i64 k] W fun e w' => e = .returned (.string (dgsS n k)) ∧ Civ6 w w' B y m d h i s :=
  (digits_any n k W h0 hk).mono fun _ _ ⟨he, hb⟩ => ⟨he, A.below hb⟩

/-- a second civil time in a new block: the first one stays -/
theorem civ6_next {w W w2 : World} {B : Nat} {y m d h i s : Int} (A : Civ6 w W B y m d h i s) (b : Below W.heap.size W w2) (y' m' d' h' i' s' : Int) (t : TypeId) :
    ∃ W2, W2 = w2.alloc (.cells #[.int .i64 y', .int .i64 m', .int .i64 d', .int .i64 h', .int .i64 i', .int .i64 s'] t) ∧ Civ6 w W2 B y m d h i s ∧ Civ6 w W2 w2.heap.size y' m' d' h' i' s' := by
  have A2 := A.below b
  obtain ⟨W2, e, C⟩ := civ6_start w w2 A2.bel y' m' d' h' i' s' t
  exact ⟨W2, e, by rw [e]; exact A2.below ((Below.refl _ _).alloc (Nat.le_refl _) _), C⟩

set_option maxRecDepth 100000 in
set_option maxHeartbeats 1600000 in
theorem textR_yes (y m d h i s t : Int) (w : World) (v : Civ.CVld y m d h i s) (ht : Civ.secs y m d h i s = t) :
    Calls Tryd.prog 29 #[.int .i64 t] w fun e w' => e = .returned (.tuple #[.string (strOfNums (txt y m d h i s)), .int .i64 0]) ∧ Below w.heap.size w w' := by
  have O := Lib.hid (ofR_yes y m d h i s t w v ht)
  obtain ⟨⟨y0, y1, m0, m1, d0, d1⟩, h0, h1, i0, i1, s0, s1⟩ := v
  have d2 := (Civ.dim_bd y m).2
  have hs := strOfNums_size
  clear ht
  go_enter Tryd.func29, Tryd.ntmps29
  go_wp2_with fail
  refine O.out.mono ?_
  rintro e w1 ⟨rfl, hb⟩
  obtain ⟨W, hW, A⟩ := civ6_start w w1 hb y m d h i s 34
  have H := Lib.hid hW
  have AA := Lib.hid A
  clear hW A
  go_wp2_with fail
  rw [← H.out]
  have hd4 := dgsS_4
  have hd2 := dgsS_2
  have q0 := AA.out.g0
  have q1 := AA.out.g1
  have q2 := AA.out.g2
  go_region_held3 (fun w' => w'.cell? ⟨w1.heap.size, 0, none⟩ = some (.int .i64 y) ∧ w'.cell? ⟨w1.heap.size, 1, none⟩ = some (.int .i64 m) ∧ w'.cell? ⟨w1.heap.size, 2, none⟩ = some (.int .i64 d)) (go_keep)
    ((go_at_call 40; refine (digits_civ (by first | exact AA.out | exact AA.out.drew) _ _ (by omega) (by omega)).mono ?_; rintro e w2 ⟨rfl, a2⟩; have AA := Lib.hid a2; have q0 := a2.g0; have q1 := a2.g1; have q2 := a2.g2; clear a2))
  clear q0 q1 q2
  have q3 := AA.out.g3
  have q4 := AA.out.g4
  have q5 := AA.out.g5
  go_wp2_with fail
  go_region_held3 (fun w' => w'.cell? ⟨w1.heap.size, 3, none⟩ = some (.int .i64 h) ∧ w'.cell? ⟨w1.heap.size, 4, none⟩ = some (.int .i64 i) ∧ w'.cell? ⟨w1.heap.size, 5, none⟩ = some (.int .i64 s)) (go_keep)
    ((go_at_call 40; refine (digits_civ (by first | exact AA.out | exact AA.out.drew) _ _ (by omega) (by omega)).mono ?_; rintro e w2 ⟨rfl, a2⟩; have AA := Lib.hid a2; have q3 := a2.g3; have q4 := a2.g4; have q5 := a2.g5; clear a2))
  go_wp2_with fail
  go_ret2
  exact ⟨ret_txt rfl, AA.out.bel⟩
end Go.Proofs.YtjffnjoeeclckaaDoor
