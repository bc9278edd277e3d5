/- Contracts of the document's Same, of the statements' star and works: the examples of the chapter hold. -/
import Derived.Test.YtbehendogcghjaaDoorMatWp
namespace Go.Proofs.YtbehendogcghjaaDoor
open Go.ChangeShapes Go.RowKit Go.Shelf

/-- a slice of these times -/
def RowT (W : World) (v : Value) (l : List Int) : Prop := ∃ A cap, v = .slice A l.length cap ∧ ∀ (j : Nat) (x : Int), l[j]? = some x → ∃ b o, A = some ⟨b, o, none⟩ ∧ W.cell? ⟨b, o + j, none⟩ = some (.int .i64 x)
theorem OwnT.rowT {w W : World} {v : Value} {l : List Int} (h : OwnT w v l W) : RowT W v l := by
  rcases h.row.2 with ⟨rfl, h0⟩ | ⟨g, cap, cur, rfl, _, hg, _, _, _, ht⟩
  · have : l = [] := List.length_eq_zero_iff.1 h0
    subst this
    exact ⟨_, _, rfl, fun j x h => by simp at h⟩
  · refine ⟨_, _, rfl, fun j x hj => ⟨g, 0, rfl, ?_⟩⟩
    have hlt : j < l.length := (List.getElem?_eq_some_iff.1 hj).1
    have e : (cur.toList.take (l.length * 1))[j]? = some (.int .i64 x) := by rw [ht, List.getElem?_map, hj]; rfl
    rw [Nat.mul_one, List.getElem?_take_of_lt hlt] at e
    simp only [World.cell?, hg]
    simpa using e
theorem Row.rowT {W : World} {B : Nat} {l : List Int} {cap : Nat} (h : Row W B 2 (l.map (.int .i64 ·))) : RowT W (.slice (some ⟨B, 0, none⟩) l.length cap) l :=
  ⟨_, _, rfl, fun j x hj => ⟨B, 0, rfl, by rw [Nat.zero_add, h.cell j, List.getElem?_map, hj]; rfl⟩⟩
theorem RowT.below {W W' : World} {v : Value} {l : List Int} (h : RowT W v l) (hb : Below W.heap.size W W') : RowT W' v l := by
  obtain ⟨A, cap, e, h⟩ := h
  refine ⟨A, cap, e, fun j x hj => ?_⟩
  obtain ⟨b, o, e1, e2⟩ := h j x hj
  exact ⟨b, o, e1, (hb.cell (p := ⟨b, o + j, none⟩) (World.block_lt_of_cell? W _ e2)).trans e2⟩
set_option maxRecDepth 100000 in
set_option maxHeartbeats 4000000 in
theorem same_any (v1 v2 : Value) (l m : List Int) (r : Bool) (hr : r = true ↔ l = m) (hl : l.length ≤ 1000000) (w : World) (h1 : RowT w v1 l) (h2 : RowT w v2 m) :
    Calls Tryd.prog 28 #[v1, v2] w fun e W' => e = .returned (.bool r) ∧ Below w.heap.size w W' := by
  obtain ⟨A, c1, rfl, g1⟩ := h1
  obtain ⟨B, c2, rfl, g2⟩ := h2
  have G1 := Lib.hid g1
  have G2 := Lib.hid g2
  clear g1 g2
  by_cases he : l.length = m.length
  · have t1 : ((l.length : Int) != (m.length : Int)) = false := by rw [he]; simp
    have t2 : (l.length != m.length) = false := by rw [he]; simp
    have HE := Lib.hid he
    have HL := Lib.hid hl
    clear he hl
    go_enter Tryd.func28, Tryd.ntmps28
    go_wp2_with fail
    go_loopw [5] (fun iv wr => ∃ k : Nat, k ≤ l.length ∧ iv = .int .i64 k ∧ Hid (Below w.heap.size w wr) ∧ Hid (l.take k = m.take k)) (fun iv _ => l.length - (intOf iv).toNat)
    case atStart => exact ⟨0, by omega, rfl, Lib.hid (Below.refl _ _), Lib.hid rfl⟩
    case round =>
      obtain ⟨k, hk, rfl, hb, hs⟩ := hrel
      by_cases hlt : k < l.length
      · have hlm : k < m.length := by have := HE.out; omega
        obtain ⟨x, hx⟩ : ∃ x, l[k]? = some x := ⟨_, List.getElem?_eq_getElem hlt⟩
        obtain ⟨y, hy⟩ : ∃ y, m[k]? = some y := ⟨_, List.getElem?_eq_getElem hlm⟩
        obtain ⟨b1, o1, rfl, e1⟩ := G1.out k x hx
        obtain ⟨b2, o2, rfl, e2⟩ := G2.out k y hy
        have d1 := (hb.out.cell (p := ⟨b1, o1 + k, none⟩) (World.block_lt_of_cell? w _ e1)).trans e1
        have d2 := (hb.out.cell (p := ⟨b2, o2 + k, none⟩) (World.block_lt_of_cell? w _ e2)).trans e2
        have wk : IntKind.i64.wrap ((k : Int) + 1) = (k : Int) + 1 := by have := HL.out; rw [IntKind.wrap_i64]; omega
        have tk : Hid (l.take (k + 1) = l.take k ++ [x] ∧ m.take (k + 1) = m.take k ++ [y]) := Lib.hid ⟨by rw [List.take_add_one, hx]; rfl, by rw [List.take_add_one, hy]; rfl⟩
        have HX := Lib.hid hx
        have HY := Lib.hid hy
        clear e1 e2 hx hy
        by_cases q : x = y
        · have t3 : (x != y) = false := by rw [q]; simp
          have HQ := Lib.hid q
          clear q
          go_wp2_with fail
          go_quiet (fail)
          go_wp2_with fail
          go_roundw
          case rel => exact ⟨k + 1, by omega, by go_num, Lib.hid (below_drewN' hb.out _), Lib.hid (by rw [tk.out.1, tk.out.2, hs.out, HQ.out])⟩
          case measure => simp [intOf]; omega
        · have t3 : (x != y) = true := by rw [bne_iff_ne]; exact q
          have NO : Hid (r = false) := Lib.hid (by
            cases r with
            | false => rfl
            | true =>
              have := hr.1 rfl
              have h1 := HX.out
              rw [this, HY.out] at h1
              exact absurd (by simpa using h1.symm) q)
          clear q
          go_wp2_with fail
          go_quiet (fail)
          go_wp2_with fail
          go_ret
          exact ⟨by rw [NO.out]; rfl, below_drewN' hb.out _⟩
      · have YES : Hid (r = true) := Lib.hid (hr.2 (by
          have := hs.out
          have e := HE.out
          rwa [List.take_of_length_le (by omega), List.take_of_length_le (by omega)] at this))
        have e := HE.out
        go_wp2_with fail
        go_ret
        exact ⟨by rw [YES.out]; rfl, hb.out⟩
  · have t1 : ((l.length : Int) != (m.length : Int)) = true := by rw [bne_iff_ne]; omega
    have t2 : (l.length != m.length) = true := by rw [bne_iff_ne]; exact he
    have NO : Hid (r = false) := Lib.hid (by
      cases r with
      | false => rfl
      | true => exact absurd (congrArg List.length (hr.1 rfl)) he)
    clear he
    go_enter Tryd.func28, Tryd.ntmps28
    go_wp2_with fail
    go_ret
    exact ⟨by rw [NO.out]; rfl, Below.refl _ _⟩
theorem star_any (w : World) :
    Calls Tryd.prog 32 #[] w fun e W' => e = .returned (.agg #[.int .u64 1, .int .u64 1152921504606846975, .int .u64 16777215, .int .u64 4294967294, .int .u64 8190, .int .u64 127, .bool true, .bool true]) ∧ Below w.heap.size w W' := by
  have HB := Lib.hid ((Below.refl _ w).alloc (Nat.le_refl _) (.cells #[.int .u64 1, .int .u64 1152921504606846975, .int .u64 16777215, .int .u64 4294967294, .int .u64 8190, .int .u64 127, .bool true, .bool true] 24))
  go_enter Tryd.func32, Tryd.ntmps32
  go_wp2_with fail
  refine bodyPost_ret (v := .agg #[.int .u64 1, .int .u64 1152921504606846975, .int .u64 16777215, .int .u64 4294967294, .int .u64 8190, .int .u64 127, .bool true, .bool true]) (by simp [results, Tryd.results32, go_sem]) rfl ⟨rfl, ?_⟩
  exact HB.out
set_option maxRecDepth 100000 in
set_option maxHeartbeats 4000000 in
theorem works_any (w : World) (L : LayM w) :
    Calls Tryd.prog 21 #[] w fun e W' => e = .returned (.bool true) ∧ Below w.heap.size w W' := by
  have SA := Lib.hid (fun w0 : World => star_any w0)
  have NX := Lib.hid (show ∀ (w0 : World), LayM w0 → Calls Tryd.prog 22 #[.agg #[.int .u64 1, .int .u64 35185445863425, .int .u64 261632, .int .u64 4294967294, .int .u64 8190, .int .u64 62, .bool true, .bool false], .int .i64 0, .int .i64 150300] w0 fun e W' => e = .returned (.tuple #[.int .i64 378000, .bool true, .int .i64 0]) ∧ Below w0.heap.size w0 W' from fun w0 L0 => by
    have h := mnext_any exX (bd_of (Exp.okB_iff.1 exX_ok)) 0 150300 w0 L0
    rw [wk_next, errC_mk exX_ok ⟨by omega, by omega⟩ (fun t ht => by
      have : t = 150300 := by simpa using ht
      omega)] at h
    exact h)
  have LI := Lib.hid (show ∀ (w0 : World), LayM w0 → Calls Tryd.prog 26 #[.agg #[.int .u64 1, .int .u64 1, .int .u64 1, .int .u64 8192, .int .u64 8190, .int .u64 32, .bool false, .bool false], .int .i64 0, .int .i64 0, .int .i64 1100000, .int .i64 9] w0 fun e W' => ∃ v, e = .returned (.tuple #[v, .int .i64 0]) ∧ OwnT w0 v [86400, 691200, 1036800] W' from fun w0 L0 => by
    have h := mlist_any exY (bd_of (Exp.okB_iff.1 exY_ok)) 0 0 1100000 9 w0 L0
    rw [wk_list, errC_mk exY_ok ⟨by omega, by omega⟩ (fun t ht => by
      have : t = 0 ∨ t = 1100000 := by simpa using ht
      omega)] at h
    exact h)
  have CO := Lib.hid (show ∀ (w0 : World), LayM w0 → Calls Tryd.prog 30 #[.agg #[.int .u64 1, .int .u64 1152921504606846975, .int .u64 16777215, .int .u64 4294967294, .int .u64 8190, .int .u64 127, .bool true, .bool true], .int .i64 0, .int .i64 0, .int .i64 86399] w0 fun e W' => e = .returned (.tuple #[.int .i64 1440, .int .i64 0]) ∧ Below w0.heap.size w0 W' from fun w0 L0 => by
    have h := mcount_any exStar (bd_of (Exp.okB_iff.1 exStar_ok)) 0 0 86399 w0 L0
    have e : errC exStar 0 [0, 86399] = 0 := errC_mk exStar_ok ⟨by omega, by omega⟩ (fun t ht => by
      have : t = 0 ∨ t = 86399 := by simpa using ht
      omega)
    rw [e, if_pos rfl, wk_count] at h
    exact h)
  have LL := Lib.hid L
  clear L
  go_enter Tryd.func21, Tryd.ntmps21
  go_wp2_with fail
  refine (SA.out _).mono ?_
  rintro e' w1 ⟨rfl, hb⟩
  have HB1 := Lib.hid hb
  clear hb
  go_wp2_with fail
  have b1 := HB1.out.alloc HB1.out.size (.cells #[.int .u64 1, .int .u64 35185445863425, .int .u64 261632, .int .u64 4294967294, .int .u64 8190, .int .u64 62, .bool true, .bool false] 24)
  have HL1 := Lib.hid (LL.out.below b1)
  have HB1 := Lib.hid b1
  clear b1
  refine (NX.out _ HL1.out).mono ?_
  rintro e' w2 ⟨rfl, hb⟩
  have HB2 := Lib.hid (HB1.out.trans (hb.mono HB1.out.size))
  clear hb
  go_wp2_with fail
  refine (SA.out _).mono ?_
  rintro e' w3 ⟨rfl, hb⟩
  have HB3 := Lib.hid (HB2.out.trans (hb.mono HB2.out.size))
  clear hb
  go_wp2_with fail
  have b3 := HB3.out.alloc HB3.out.size (.cells #[.int .u64 1, .int .u64 1, .int .u64 1, .int .u64 8192, .int .u64 8190, .int .u64 32, .bool false, .bool false] 24)
  have HL3 := Lib.hid (LL.out.below b3)
  have HB3 := Lib.hid b3
  clear b3
  refine (LI.out _ HL3.out).mono ?_
  rintro e' w4 ⟨v, rfl, ho⟩
  obtain ⟨va, vc, hv⟩ := ho.len
  subst hv
  have HO := Lib.hid ho.rowT
  have HB4 := Lib.hid (HB3.out.trans (ho.below.mono HB3.out.size))
  clear ho
  go_wp2_with fail
  refine (SA.out _).mono ?_
  rintro e' w5 ⟨rfl, hb⟩
  have HO := Lib.hid (HO.out.below hb)
  have HB5 := Lib.hid (HB4.out.trans (hb.mono HB4.out.size))
  clear hb
  go_wp2_with fail
  refine (CO.out _ (LL.out.below HB5.out)).mono ?_
  rintro e' w6 ⟨rfl, hb⟩
  have HO := Lib.hid (HO.out.below hb)
  have HB6 := Lib.hid (HB5.out.trans (hb.mono HB5.out.size))
  clear hb
  go_wp2_with fail
  have B7 := Lib.hid (HB6.out.alloc HB6.out.size (.cells #[.int .i64 86400, .int .i64 691200, .int .i64 1036800] 2))
  have R7 : Row (w6.alloc (.cells #[.int .i64 86400, .int .i64 691200, .int .i64 1036800] 2)) w6.heap.size 2 (([86400, 691200, 1036800] : List Int).map (.int .i64 ·)) := Row.new w6 [.int .i64 86400, .int .i64 691200, .int .i64 1036800] 2
  have T7 := Lib.hid (R7.rowT (cap := 3))
  have O7 := Lib.hid (HO.out.below ((Below.refl _ _).alloc (Nat.le_refl _) (.cells #[.int .i64 86400, .int .i64 691200, .int .i64 1036800] 2)))
  clear R7
  refine (same_any _ _ [86400, 691200, 1036800] [86400, 691200, 1036800] true (by simp) (by simp) _ O7.out T7.out).mono ?_
  rintro e' w7 ⟨rfl, hb⟩
  have HB7 := Lib.hid (B7.out.trans (hb.mono B7.out.size))
  clear hb
  go_wp2_with fail
  go_ret
  exact ⟨rfl, HB7.out⟩
end Go.Proofs.YtbehendogcghjaaDoor
