/- The chapter's examples hold: the statements' function works returns true; and Lines and Words outside a fence. -/
import Derived.Test.YtjlipkklljjdjaaDoorLexJ
import Derived.Laws.StructEq
import Derived.Laws.OwnMore
import Derived.DataShut
import Derived.Deep.AppendLies
namespace Go.Proofs.YtjlipkklljjdjaaDoor
open Go.ChangeShapes Go.RowKit Go.Shelf

theorem lines_any (s : ByteArray) (hs : s.size ≤ 65536) (w : World) :
    Calls Tryd.prog 16 #[.string s] w fun e W' =>
      ∃ v, e = .returned (.tuple #[v, .int .i64 0]) ∧ OwnR w.heap.size 31 3 w v (pcsOf nlB s).length (flatL s 0 (pcsOf nlB s)) W' :=
  (callsIn_wide.1 (lines_in 5 (by omega) s hs w)).mono fun _ _ ⟨v, he, hr, hb⟩ => ⟨v, he, hr, hb⟩
theorem words_any (s : ByteArray) (hs : s.size ≤ 65536) (w : World) :
    Calls Tryd.prog 18 #[.string s] w fun e W' =>
      ∃ v, e = .returned v ∧ OwnR w.heap.size 39 2 w v (Lex.full (pcsOf blB s)).length (flatW s (Lex.full (pcsOf blB s))) W' :=
  (callsIn_wide.1 (words_in 5 (by omega) s hs w)).mono fun _ _ ⟨v, he, hr, hb⟩ => ⟨v, he, hr, hb⟩
theorem own_spot {W : World} {base : Nat} {e : TypeId} {size : Nat} {v : Value} {k : Nat} {xs : List Value} (h : W.ownsRow base e size v k xs) (h0 : 0 < k) :
    ∃ g cap, v = .slice (some ⟨g, 0, none⟩) k cap ∧ g < W.heap.size ∧ ∀ (j : Nat) u, xs[j]? = some u → W.cell? ⟨g, j, none⟩ = some u := by
  obtain ⟨g, cap, hv, _, hlt⟩ := h.form h0
  subst hv
  refine ⟨g, cap, rfl, hlt, fun j u hu => ?_⟩
  have hj : j < k * size := by rw [← h.1]; exact (List.getElem?_eq_some_iff.1 hu).1
  exact (World.ownsRow.cellAt h j hj).trans hu
def exA : ByteArray := ⟨#[97, 98, 10, 10, 99]⟩
theorem exA_p : pcsOf nlB ⟨#[97, 98, 10, 10, 99]⟩ = [(0, 2), (3, 3), (4, 5)] := by decide +kernel
theorem exA_c : (⟨#[97, 98, 10, 10, 99]⟩ : ByteArray).extract 4 5 = ⟨#[99]⟩ := by apply str_ext; decide +kernel
theorem exB_p : Lex.full (pcsOf blB ⟨#[32, 97, 98, 9, 32, 99]⟩) = [(1, 3), (5, 6)] := by decide +kernel
theorem exB_c : (⟨#[32, 97, 98, 9, 32, 99]⟩ : ByteArray).extract 5 6 = ⟨#[99]⟩ := by apply str_ext; decide +kernel
theorem exC : CutOf ⟨#[97, 61, 98, 61, 99]⟩ 61 ⟨#[97]⟩ ⟨#[98, 61, 99]⟩ true := by
  refine .inl ⟨1, ⟨by decide, rfl⟩, fun j hj => ?_, by apply str_ext; decide +kernel, by apply str_ext; decide +kernel, rfl⟩
  obtain rfl : j = 0 := by omega
  rintro ⟨_, h⟩
  exact (by decide : ¬ (97 : Nat) = 61) h
theorem exD : NumIs [45, 49, 50] (-12) 0 := .inr (.inl ⟨⟨by decide, by unfold Num.Dg; decide, by decide⟩, by decide, by decide, by decide, rfl⟩)
theorem exE : NumIs [48, 48, 55] 0 10 := .inl ⟨fun h => by have := h.2.2 (by decide); revert this; decide, rfl, rfl⟩
theorem exF : PlaceIs ⟨#[97, 98, 10, 99, 100]⟩ 4 2 2 0 := .inl ⟨4, rfl, by decide, by decide +kernel, by decide +kernel, rfl⟩
theorem exG : numStr (-12) = ⟨#[45, 49, 50]⟩ := by
  apply str_ext
  unfold numStr Lib.itoa
  rw [if_pos (by decide)]
  show 45 :: Lib.decDigits 12 = _
  rw [Lib.decDigits_two (by decide) (by decide)]
  decide
set_option maxRecDepth 100000 in
set_option maxHeartbeats 2000000 in
theorem works_any (w : World) (L : Lay w) : Calls Tryd.prog 15 #[] w fun e w' => e = .returned (.bool true) ∧ Below w.heap.size w w' := by
  have A := Lib.hid (lines_any ⟨#[97, 98, 10, 10, 99]⟩ (by decide) w)
  rw [exA_p] at A
  have B := Lib.hid (fun w => words_any ⟨#[32, 97, 98, 9, 32, 99]⟩ (by decide) w)
  rw [exB_p] at B
  have C := Lib.hid (fun w => cut_any ⟨#[97, 61, 98, 61, 99]⟩ 61 (by decide) (by decide) _ _ _ exC w)
  have D := Lib.hid (fun w L => number_any ⟨#[45, 49, 50]⟩ (by decide) _ _ exD w L)
  have E := Lib.hid (fun w L => number_any ⟨#[48, 48, 55]⟩ (by decide) _ _ exE w L)
  have F := Lib.hid (fun w => place_any ⟨#[97, 98, 10, 99, 100]⟩ (by decide) 4 _ _ _ exF w)
  have G := Lib.hid (fun w L => digits_any (-12) (by omega) (by omega) w L)
  rw [exG] at G
  have LL := Lib.hid L
  clear L
  go_enter Tryd.func15, Tryd.ntmps15
  go_wp2_with fail
  refine A.out.mono ?_
  rintro e w1 ⟨v1, rfl, o1⟩
  obtain ⟨g1, cap1, rfl, lt1, c1⟩ := own_spot o1.row (by decide)
  have q0 := c1 6 _ rfl
  have q1 := c1 7 _ rfl
  have q2 := c1 8 _ rfl
  have B1 := Lib.hid o1.below
  have L1 := Lib.hid (LL.out.below o1.below)
  rw [exA_c] at q2
  clear c1 o1
  go_wp2_with fail
  refine (B.out _).mono ?_
  rintro e w2 ⟨v2, rfl, o2⟩
  obtain ⟨g2, cap2, rfl, lt2, c2⟩ := own_spot o2.row (by decide)
  have r0 := c2 2 _ rfl
  have r1 := c2 3 _ rfl
  rw [exB_c] at r1
  have q0' := (o2.below.cell (p := ⟨g1, 6, none⟩) lt1).trans q0
  have q1' := (o2.below.cell (p := ⟨g1, 7, none⟩) lt1).trans q1
  have q2' := (o2.below.cell (p := ⟨g1, 8, none⟩) lt1).trans q2
  have B2 := Lib.hid (B1.out.trans (o2.below.mono B1.out.size))
  have L2 := Lib.hid (L1.out.below o2.below)
  have lt1' : g1 < w2.heap.size := Nat.lt_of_lt_of_le lt1 o2.below.size
  clear c2 o2 q0 q1 q2 lt1
  go_wp2_with fail
  refine (C.out _).mono ?_
  rintro e w3 ⟨rfl, hb⟩
  have s0 := (hb.cell (p := ⟨g2, 2, none⟩) lt2).trans r0
  have s1 := (hb.cell (p := ⟨g2, 3, none⟩) lt2).trans r1
  have q0 := (hb.cell (p := ⟨g1, 6, none⟩) lt1').trans q0'
  have q1 := (hb.cell (p := ⟨g1, 7, none⟩) lt1').trans q1'
  have q2 := (hb.cell (p := ⟨g1, 8, none⟩) lt1').trans q2'
  have z1 : g1 < w3.heap.size := Nat.lt_of_lt_of_le lt1' hb.size
  have z2 : g2 < w3.heap.size := Nat.lt_of_lt_of_le lt2 hb.size
  have B3 := Lib.hid (B2.out.trans (hb.mono B2.out.size))
  have L3 := Lib.hid (L2.out.below hb)
  clear hb r0 r1 q0' q1' q2' lt1' lt2
  go_wp2_with fail
  refine (D.out _ L3.out).mono ?_
  rintro e w4 ⟨rfl, hb⟩
  have s0' := (hb.cell (p := ⟨g2, 2, none⟩) z2).trans s0
  have s1' := (hb.cell (p := ⟨g2, 3, none⟩) z2).trans s1
  have q0' := (hb.cell (p := ⟨g1, 6, none⟩) z1).trans q0
  have q1' := (hb.cell (p := ⟨g1, 7, none⟩) z1).trans q1
  have q2' := (hb.cell (p := ⟨g1, 8, none⟩) z1).trans q2
  have z1' : g1 < w4.heap.size := Nat.lt_of_lt_of_le z1 hb.size
  have z2' : g2 < w4.heap.size := Nat.lt_of_lt_of_le z2 hb.size
  have B4 := Lib.hid (B3.out.trans (hb.mono B3.out.size))
  have L4 := Lib.hid (L3.out.below hb)
  clear hb s0 s1 q0 q1 q2 z1 z2
  go_wp2_with fail
  refine (E.out _ L4.out).mono ?_
  rintro e w5 ⟨rfl, hb⟩
  have s0 := (hb.cell (p := ⟨g2, 2, none⟩) z2').trans s0'
  have s1 := (hb.cell (p := ⟨g2, 3, none⟩) z2').trans s1'
  have q0 := (hb.cell (p := ⟨g1, 6, none⟩) z1').trans q0'
  have q1 := (hb.cell (p := ⟨g1, 7, none⟩) z1').trans q1'
  have q2 := (hb.cell (p := ⟨g1, 8, none⟩) z1').trans q2'
  have B5 := Lib.hid (B4.out.trans (hb.mono B4.out.size))
  have L5 := Lib.hid (L4.out.below hb)
  clear hb s0' s1' q0' q1' q2' z1' z2'
  go_wp2_with fail
  refine (F.out _).mono ?_
  rintro e w6 ⟨rfl, rfl⟩
  go_wp2_with (go_at_call 24; refine (G.out _ L5.out).mono ?_; rintro e w7 ⟨rfl, hb⟩; have B6 := Lib.hid (B5.out.trans (hb.mono B5.out.size)); clear hb)
  go_ret
  exact ⟨rfl, B6.out⟩
theorem nat_u8 {s : Int} (h : (Lit.int .u8 s).wf = true) : ∃ S : Nat, s = S ∧ S ≤ 255 := by
  rw [Lit.wf_int_iff] at h
  have h1 : 0 ≤ s ∧ s ≤ 255 := by simpa [IntKind.min, IntKind.max, IntKind.signed, IntKind.bits] using h
  obtain ⟨S, rfl⟩ := Int.eq_ofNat_of_zero_le h1.1
  exact ⟨S, rfl, by omega⟩
theorem nat_u16 {s : Int} (h : (Lit.int .u16 s).wf = true) : ∃ S : Nat, s = S ∧ S ≤ 65535 := by
  rw [Lit.wf_int_iff] at h
  have h1 : 0 ≤ s ∧ s ≤ 65535 := by simpa [IntKind.min, IntKind.max, IntKind.signed, IntKind.bits] using h
  obtain ⟨S, rfl⟩ := Int.eq_ofNat_of_zero_le h1.1
  exact ⟨S, rfl, by omega⟩
theorem int_i64 {s : Int} (h : (Lit.int .i64 s).wf = true) : -9223372036854775808 ≤ s ∧ s ≤ 9223372036854775807 := by
  rw [Lit.wf_int_iff] at h
  simpa [IntKind.min, IntKind.max, IntKind.signed, IntKind.bits] using h
end Go.Proofs.YtjlipkklljjdjaaDoor
