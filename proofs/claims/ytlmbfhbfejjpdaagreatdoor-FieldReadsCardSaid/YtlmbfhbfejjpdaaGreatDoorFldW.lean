/- The examples of the chapter hold: what each of the statements asks besides. -/
import Derived.Test.YtlmbfhbfejjpdaaGreatDoorFldR
namespace Go.Proofs.YtlmbfhbfejjpdaaGreatDoor
open Go.ChangeShapes Go.WideShapes Go.RowKit Go.Shelf

theorem ex_p1 : Fld.parse (kd6 1) [48, 44, 53, 45, 55] = (225, false, 0, 0) := by decide +kernel
theorem ex_p2 : Fld.parse (kd6 5) [53, 45, 55] = (97, false, 0, 0) := by decide +kernel
theorem ex_p3 : Fld.parse (kd6 1) [57, 57, 44, 120] = (0, false, 3, 10) := by decide +kernel
theorem ex_p4 : Fld.parse (kd6 1) [49, 44, 55, 45, 53] = (0, false, 2, 2) := by decide +kernel
theorem ex_p5 : Fld.parse (kd6 5) [102, 114, 105, 45, 55, 44, 77, 79, 78] = (99, false, 0, 0) := by decide +kernel
theorem ex_m1 : Bit.mem 99 = [0, 1, 5, 6] := by decide +kernel
theorem ex_m2 : Bit.mem 35185445863425 = [0, 15, 30, 45] := by decide +kernel
theorem ex_r1 : Bit.runs (Bit.mem 99) = [(0, 1, 1), (5, 6, 1)] := by
  rw [ex_m1]
  simp [Bit.runs_cons, Bit.runs_nil, Bit.take1, Bit.step1, Bit.keep]
theorem ex_r2 : Bit.runs (Bit.mem 35185445863425) = [(0, 45, 15)] := by
  rw [ex_m2]
  simp [Bit.runs_cons, Bit.runs_nil, Bit.take1, Bit.step1, Bit.keep]
theorem ex_t1 : txt 99 = [48, 45, 49, 44, 53, 45, 54] := by
  unfold txt
  rw [ex_r1]
  decide +kernel
theorem ex_t2 : txt 35185445863425 = [48, 45, 52, 53, 47, 49, 53] := by
  unfold txt
  rw [ex_r2]
  decide +kernel
theorem ex_b1 : subB 99 (fullK (kd6 5)) = true := by decide +kernel
theorem ex_b2 : subB 35185445863425 (fullK (kd6 1)) = true := by decide +kernel
theorem ex_n1 : normR (kd6 5) [102, 114, 105, 45, 55, 44, 77, 79, 78] = ([48, 45, 49, 44, 53, 45, 54], 0, 0) := by
  unfold normR
  rw [ex_p5]
  simp [printR, ex_b1, ex_t1]
theorem ex_n2 : printR (kd6 1) 35185445863425 false = ([48, 45, 52, 53, 47, 49, 53], 0) := by
  simp [printR, ex_b2, ex_t2]
theorem ex_v4 : Valid 1 12 xsM false := (kd6_is 4 (by omega)).valid
theorem w_p1 (w : World) (hv : IsStrs w (.slice none 0 0) []) :
    Calls Tryz.prog 7 #[.agg #[.int .i64 0, .int .i64 59, .slice none 0 0, .bool false], .string ⟨#[48, 44, 53, 45, 55]⟩] w fun e w' => e = .returned (.tuple #[.int .u64 225, .bool false, .int .i64 0, .int .i64 0]) ∧ Below w.heap.size w w' := by
  have h := parse_yes (kd6 1) (.slice none 0 0) [] ⟨#[48, 44, 53, 45, 55]⟩ w hv (kd6_is 1 (by decide)) (by decide)
  rw [show (⟨#[48, 44, 53, 45, 55]⟩ : ByteArray).data.toList = [48, 44, 53, 45, 55] from rfl, ex_p1] at h
  exact h
theorem w_p2 (v : Value) (w : World) (hv : IsStrs w (v) xsW) :
    Calls Tryz.prog 7 #[.agg #[.int .i64 0, .int .i64 6, v, .bool true], .string ⟨#[53, 45, 55]⟩] w fun e w' => e = .returned (.tuple #[.int .u64 97, .bool false, .int .i64 0, .int .i64 0]) ∧ Below w.heap.size w w' := by
  have h := parse_yes (kd6 5) (v) xsW ⟨#[53, 45, 55]⟩ w hv (kd6_is 5 (by decide)) (by decide)
  rw [show (⟨#[53, 45, 55]⟩ : ByteArray).data.toList = [53, 45, 55] from rfl, ex_p2] at h
  exact h
theorem w_p3 (w : World) (hv : IsStrs w (.slice none 0 0) []) :
    Calls Tryz.prog 7 #[.agg #[.int .i64 0, .int .i64 59, .slice none 0 0, .bool false], .string ⟨#[57, 57, 44, 120]⟩] w fun e w' => e = .returned (.tuple #[.int .u64 0, .bool false, .int .i64 3, .int .i64 10]) ∧ Below w.heap.size w w' := by
  have h := parse_yes (kd6 1) (.slice none 0 0) [] ⟨#[57, 57, 44, 120]⟩ w hv (kd6_is 1 (by decide)) (by decide)
  rw [show (⟨#[57, 57, 44, 120]⟩ : ByteArray).data.toList = [57, 57, 44, 120] from rfl, ex_p3] at h
  exact h
theorem w_p4 (w : World) (hv : IsStrs w (.slice none 0 0) []) :
    Calls Tryz.prog 7 #[.agg #[.int .i64 0, .int .i64 59, .slice none 0 0, .bool false], .string ⟨#[49, 44, 55, 45, 53]⟩] w fun e w' => e = .returned (.tuple #[.int .u64 0, .bool false, .int .i64 2, .int .i64 2]) ∧ Below w.heap.size w w' := by
  have h := parse_yes (kd6 1) (.slice none 0 0) [] ⟨#[49, 44, 55, 45, 53]⟩ w hv (kd6_is 1 (by decide)) (by decide)
  rw [show (⟨#[49, 44, 55, 45, 53]⟩ : ByteArray).data.toList = [49, 44, 55, 45, 53] from rfl, ex_p4] at h
  exact h
theorem w_n1 (v : Value) (w : World) (L : Lay w) (hv : IsStrs w v xsW) :
    Calls Tryz.prog 11 #[.agg #[.int .i64 0, .int .i64 6, v, .bool true], .string ⟨#[102, 114, 105, 45, 55, 44, 77, 79, 78]⟩] w fun e w' => e = .returned (.tuple #[.string ⟨#[48, 45, 49, 44, 53, 45, 54]⟩, .int .i64 0, .int .i64 0]) ∧ Below w.heap.size w w' := by
  have h := normal_yes (kd6 5) v xsW ⟨#[102, 114, 105, 45, 55, 44, 77, 79, 78]⟩ w L hv (kd6_is 5 (by decide)) (by decide)
  rw [show (⟨#[102, 114, 105, 45, 55, 44, 77, 79, 78]⟩ : ByteArray).data.toList = [102, 114, 105, 45, 55, 44, 77, 79, 78] from rfl, ex_n1] at h
  exact h
theorem w_n2 (w : World) (L : Lay w) (hv : IsStrs w (.slice none 0 0) []) :
    Calls Tryz.prog 14 #[.agg #[.int .i64 0, .int .i64 59, .slice none 0 0, .bool false], .int .u64 35185445863425, .bool false] w fun e w' => e = .returned (.tuple #[.string ⟨#[48, 45, 52, 53, 47, 49, 53]⟩, .int .i64 0]) ∧ Below w.heap.size w w' := by
  have h := print_yes (kd6 1) (.slice none 0 0) [] 35185445863425 false w L hv (kd6_is 1 (by decide)) (by decide)
  rw [ex_n2] at h
  exact h
theorem w_v1 (v : Value) (w : World) (hv : IsStrs w v xsM) :
    Calls Tryz.prog 21 #[.agg #[.int .i64 1, .int .i64 12, v, .bool false], .int .i64 2] w fun e w' => e = .returned (.tuple #[.string ⟨#[70, 69, 66]⟩, .int .i64 0]) ∧ Below w.heap.size w w' :=
  name_any 1 12 v xsM false 2 ⟨#[70, 69, 66]⟩ 0 w hv (by decide) (.inr (.inr (.inr ⟨ex_v4, by decide, by decide, 1, by decide, rfl, rfl, rfl⟩)))
theorem six_cells {W : World} {a : Nat} (h : Six W a) :
    W.cell? ⟨a + 1 + 1, 4, none⟩ = some (.int .i64 0) ∧ W.cell? ⟨a + 1 + 1, 5, none⟩ = some (.int .i64 59) ∧ W.cell? ⟨a + 1 + 1, 6, none⟩ = some (.slice none 0 0) ∧ W.cell? ⟨a + 1 + 1, 7, none⟩ = some (.bool false) ∧
    W.cell? ⟨a + 1 + 1, 16, none⟩ = some (.int .i64 1) ∧ W.cell? ⟨a + 1 + 1, 17, none⟩ = some (.int .i64 12) ∧ W.cell? ⟨a + 1 + 1, 18, none⟩ = some (.slice (some ⟨a, 0, none⟩) 12 12) ∧ W.cell? ⟨a + 1 + 1, 19, none⟩ = some (.bool false) ∧
    W.cell? ⟨a + 1 + 1, 20, none⟩ = some (.int .i64 0) ∧ W.cell? ⟨a + 1 + 1, 21, none⟩ = some (.int .i64 6) ∧ W.cell? ⟨a + 1 + 1, 22, none⟩ = some (.slice (some ⟨a + 1, 0, none⟩) 7 7) ∧ W.cell? ⟨a + 1 + 1, 23, none⟩ = some (.bool true) := by
  simp only [h.cell]
  exact ⟨rfl, rfl, rfl, rfl, rfl, rfl, rfl, rfl, rfl, rfl, rfl, rfl⟩
set_option maxRecDepth 100000 in
set_option maxHeartbeats 2000000 in
theorem works_any (w : World) (L : Lay w) : Calls Tryz.prog 6 #[] w fun e w' => e = .returned (.bool true) ∧ Below w.heap.size w w' := by
  have LL := Lib.hid L
  clear L
  go_enter Tryz.func6, Tryz.ntmps6
  go_wp2_with fail
  refine (specs_any w).mono ?_
  rintro e w1 ⟨rfl, hb, h6⟩
  have S := Lib.hid h6
  have B := Lib.hid hb
  have L := Lib.hid (LL.out.below hb)
  obtain ⟨c4, c5, c6, c7, _⟩ := six_cells h6
  have N := Lib.hid (strs_nil w1)
  clear hb h6 LL
  go_wp2_with fail
  refine (w_p1 _ N.out).mono ?_
  rintro e w2 ⟨rfl, hb⟩
  have S := Lib.hid (S.out.below hb)
  have L := Lib.hid (L.out.below hb)
  have B := Lib.hid (B.out.trans (hb.mono B.out.size))
  obtain ⟨c4, c5, c6, c7, c16, c17, c18, c19, c20, c21, c22, c23⟩ := six_cells S.out
  clear hb
  go_wp2_with fail
  refine (w_p2 _ _ (S.out.strs 5 (by decide))).mono ?_
  rintro e w3 ⟨rfl, hb⟩
  have S := Lib.hid (S.out.below hb)
  have L := Lib.hid (L.out.below hb)
  have B := Lib.hid (B.out.trans (hb.mono B.out.size))
  obtain ⟨c4, c5, c6, c7, c16, c17, c18, c19, c20, c21, c22, c23⟩ := six_cells S.out
  clear hb
  go_wp2_with fail
  refine (w_p3 _ (strs_nil _)).mono ?_
  rintro e w4 ⟨rfl, hb⟩
  have S := Lib.hid (S.out.below hb)
  have L := Lib.hid (L.out.below hb)
  have B := Lib.hid (B.out.trans (hb.mono B.out.size))
  obtain ⟨c4, c5, c6, c7, c16, c17, c18, c19, c20, c21, c22, c23⟩ := six_cells S.out
  clear hb
  go_wp2_with fail
  refine (w_p4 _ (strs_nil _)).mono ?_
  rintro e w5 ⟨rfl, hb⟩
  have S := Lib.hid (S.out.below hb)
  have L := Lib.hid (L.out.below hb)
  have B := Lib.hid (B.out.trans (hb.mono B.out.size))
  obtain ⟨c4, c5, c6, c7, c16, c17, c18, c19, c20, c21, c22, c23⟩ := six_cells S.out
  clear hb
  go_wp2_with fail
  refine (w_n1 _ _ L.out (S.out.strs 5 (by decide))).mono ?_
  rintro e w6 ⟨rfl, hb⟩
  have S := Lib.hid (S.out.below hb)
  have L := Lib.hid (L.out.below hb)
  have B := Lib.hid (B.out.trans (hb.mono B.out.size))
  obtain ⟨c4, c5, c6, c7, c16, c17, c18, c19, c20, c21, c22, c23⟩ := six_cells S.out
  clear hb
  go_wp2_with fail
  refine (w_n2 _ L.out (strs_nil _)).mono ?_
  rintro e w7 ⟨rfl, hb⟩
  have S := Lib.hid (S.out.below hb)
  have L := Lib.hid (L.out.below hb)
  have B := Lib.hid (B.out.trans (hb.mono B.out.size))
  obtain ⟨c4, c5, c6, c7, c16, c17, c18, c19, c20, c21, c22, c23⟩ := six_cells S.out
  clear hb
  go_wp2_with fail
  refine (w_v1 _ _ (S.out.strs 4 (by decide))).mono ?_
  rintro e w8 ⟨rfl, hb⟩
  have S := Lib.hid (S.out.below hb)
  have L := Lib.hid (L.out.below hb)
  have B := Lib.hid (B.out.trans (hb.mono B.out.size))
  obtain ⟨c4, c5, c6, c7, c16, c17, c18, c19, c20, c21, c22, c23⟩ := six_cells S.out
  clear hb
  go_wp2_with fail
  go_ret
  exact ⟨rfl, B.out⟩
end Go.Proofs.YtlmbfhbfejjpdaaGreatDoor
