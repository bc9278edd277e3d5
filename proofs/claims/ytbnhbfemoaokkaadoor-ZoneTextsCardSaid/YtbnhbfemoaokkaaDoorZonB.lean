/- Contracts of Text, of package zone and of the document's: the text of each zone, and the error otherwise. -/
import Derived.Test.YtbnhbfemoaokkaaDoorZonA
namespace Go.Proofs.YtbnhbfemoaokkaaDoor
open Go.ChangeShapes Go.RowKit

theorem strOfNums_append (xs ys : List Int) : strOfNums xs ++ strOfNums ys = strOfNums (xs ++ ys) := by
  apply ByteArray.ext
  simp [strOfNums]
theorem one_45 : (⟨#[45]⟩ : ByteArray) = strOfNums [45] := rfl
theorem one_43 : (⟨#[43]⟩ : ByteArray) = strOfNums [43] := rfl
theorem one_58 : (⟨#[58]⟩ : ByteArray) = strOfNums [58] := rfl
theorem ret_sr {s s' : ByteArray} {r : Int} (h : s = s') : Ending.returned (.tuple #[.string s, .int .i64 r]) = .returned (.tuple #[.string s', .int .i64 r]) := by rw [h]

@[go_sem] theorem conv_six (W : World) (k : Nat) (s a b x c d : Int) (t : TypeId) (hk : W.heap.size = k) :
    (convert 56 9 (.slice (some ⟨k, 0, none⟩) 6 6)).run Tryd.prog (W.alloc (.cells #[.int .u8 s, .int .u8 a, .int .u8 b, .int .u8 x, .int .u8 c, .int .u8 d] t)) = .ok (.string (strOfNums [s, a, b, x, c, d])) (W.alloc (.cells #[.int .u8 s, .int .u8 a, .int .u8 b, .int .u8 x, .int .u8 c, .int .u8 d] t)) := by
  subst hk
  exact run_convert_bytes_arg _ 56 5 Tryd.underlying56 Tryd.underlying5 _ 0 6 6 [s, a, b, x, c, d] rfl (fun i hi => by
    have : i = 0 ∨ i = 1 ∨ i = 2 ∨ i = 3 ∨ i = 4 ∨ i = 5 := by omega
    rcases this with rfl | rfl | rfl | rfl | rfl | rfl <;> simp [go_sem]) _ Tryd.underlying9

theorem text_no (z : Int) (w : World) (h : z < -840 ∨ 840 < z) :
    Calls Tryd.prog 14 #[.int .i64 z] w fun e w' => e = .returned (.tuple #[.string ⟨#[]⟩, .int .i64 2]) ∧ w = w' := by
  go_enter Tryd.func14, Tryd.ntmps14
  go_wp2_with fail
  refine (check_no _ _ h).mono ?_
  rintro e w' ⟨rfl, rfl⟩
  go_wp2_with fail
  go_ret2
  exact ⟨rfl, rfl⟩
theorem text_yes (z s a b c d : Int) (w : World) (z0 : -840 ≤ z) (z1 : z ≤ 840) (h : ZT z s a b c d) :
    Calls Tryd.prog 14 #[.int .i64 z] w fun e w' => e = .returned (.tuple #[.string (strOfNums [s, a, b, 58, c, d]), .int .i64 0]) ∧ Below w.heap.size w w' := by
  have W := Lib.hid (fun w => written_any z s a b c d w z0 z1 h)
  go_enter Tryd.func14, Tryd.ntmps14
  go_wp2_with fail
  refine (check_yes _ _ z0 z1).mono ?_
  rintro e w' ⟨rfl, rfl⟩
  go_wp2_with fail
  refine (W.out _).mono ?_
  rintro e w1 ⟨rfl, b⟩
  go_wp2_with fail
  go_ret2
  exact ⟨rfl, b.alloc b.size _⟩
theorem textR_no (z : Int) (w : World) (h : z < -840 ∨ 840 < z) :
    Calls Tryd.prog 15 #[.int .i64 z] w fun e w' => e = .returned (.tuple #[.string ⟨#[]⟩, .int .i64 2]) ∧ w = w' := by
  go_enter Tryd.func15, Tryd.ntmps15
  go_wp2_with fail
  refine (checkR_no _ _ h).mono ?_
  rintro e w' ⟨rfl, rfl⟩
  go_wp2_with fail
  go_ret2
  exact ⟨rfl, rfl⟩
theorem textR_yes (z s a b c d : Int) (w : World) (z0 : -840 ≤ z) (z1 : z ≤ 840) (h : ZT z s a b c d) :
    Calls Tryd.prog 15 #[.int .i64 z] w fun e w' => e = .returned (.tuple #[.string (strOfNums [s, a, b, 58, c, d]), .int .i64 0]) ∧ Below w.heap.size w w' := by
  have hs := strOfNums_size
  by_cases q : z < 0
  · obtain ⟨p, rfl⟩ : ∃ p, z = -p := ⟨-z, by omega⟩
    obtain ⟨e0, e1, e2, e3, e4⟩ := h
    obtain ⟨f0, f1, f2, f3, f4⟩ := zt_neg (p := p) (by omega)
    rw [f0] at e0; rw [f1] at e1; rw [f2] at e2; rw [f3] at e3; rw [f4] at e4
    subst e0
    have A := Lib.hid (fun w => two_any (p / 60) a b w (by omega) (by omega) e1.symm e2.symm)
    have B := Lib.hid (fun w => two_any (p % 60) c d w (by omega) (by omega) e3.symm (by omega))
    have p0 : 0 < p := by omega
    have p1 : p ≤ 840 := by omega
    have C := Lib.hid (fun w => checkR_yes (-p) w (by omega) (by omega))
    clear e1 e2 e3 e4 f0 f1 f2 f3 f4 z0 z1 q
    go_enter Tryd.func15, Tryd.ntmps15
    go_wp2_with fail
    refine (C.out _).mono ?_
    rintro e w' ⟨rfl, rfl⟩
    go_wp2_with fail
    refine (A.out _).mono ?_
    rintro e w1 ⟨rfl, b1⟩
    go_wp2_with fail
    refine (B.out _).mono ?_
    rintro e w2 ⟨rfl, b2⟩
    go_wp2_with fail
    go_ret2
    exact ⟨ret_sr (by rw [one_45, one_58]; simp only [strOfNums_append]; rfl), b1.trans (b2.mono b1.size)⟩
  · obtain ⟨e0, e1, e2, e3, e4⟩ := h
    obtain ⟨f0, f1, f2, f3, f4⟩ := zt_pos (p := z) (by omega)
    rw [f0] at e0; rw [f1] at e1; rw [f2] at e2; rw [f3] at e3; rw [f4] at e4
    subst e0
    have A := Lib.hid (fun w => two_any (z / 60) a b w (by omega) (by omega) e1.symm e2.symm)
    have B := Lib.hid (fun w => two_any (z % 60) c d w (by omega) (by omega) e3.symm (by omega))
    have q' : decide (z < 0) = false := by simp; omega
    have p0 : 0 ≤ z := by omega
    clear e1 e2 e3 e4 f0 f1 f2 f3 f4 q
    go_enter Tryd.func15, Tryd.ntmps15
    go_wp2_with fail
    refine (checkR_yes _ _ (by omega) (by omega)).mono ?_
    rintro e w' ⟨rfl, rfl⟩
    go_wp2_with fail
    refine (A.out _).mono ?_
    rintro e w1 ⟨rfl, b1⟩
    go_wp2_with fail
    refine (B.out _).mono ?_
    rintro e w2 ⟨rfl, b2⟩
    go_wp2_with fail
    go_ret2
    exact ⟨ret_sr (by rw [one_43, one_58]; simp only [strOfNums_append]; rfl), b1.trans (b2.mono b1.size)⟩
end Go.Proofs.YtbnhbfemoaokkaaDoor
