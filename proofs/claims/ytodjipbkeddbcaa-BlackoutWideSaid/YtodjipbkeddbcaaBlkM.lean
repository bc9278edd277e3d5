/- For the statement on orders: slices.Grow and Concat at spans; spans cut in two. -/
import Derived.Test.YtodjipbkeddbcaaBlkGr
import Derived.Test.YtodjipbkeddbcaaBlkL
namespace Go.Proofs.Ytodjipbkeddbcaa.Bk
/-- a span, or its two parts -/
def pieces (e : Int) (i : Nat) (x : Int × Int) : List (Int × Int) := if i % 2 = 0 ∧ x.1 + e < x.2 then [(x.1 + e + 1, x.2), (x.1, x.1 + e)] else [x]
def cutTo (e : Int) (l : List (Int × Int)) : Nat → List (Int × Int)
  | 0 => []
  | k + 1 => cutTo e l k ++ pieces e k (l.getD k (0, 0))
theorem pieces_len (e : Int) (i : Nat) (x : Int × Int) : (pieces e i x).length ≤ 2 := by unfold pieces; split <;> simp
theorem cutTo_len (e : Int) (l : List (Int × Int)) : ∀ k, (cutTo e l k).length ≤ 2 * k
  | 0 => by simp [cutTo]
  | k + 1 => by
    have h1 := cutTo_len e l k
    have h2 := pieces_len e k (l.getD k (0, 0))
    simp only [cutTo, List.length_append]
    omega
theorem pieces_has {e : Int} (he : 0 ≤ e) (i : Nat) (x : Int × Int) (t : Int) : has (pieces e i x) t ↔ has [x] t := by
  unfold pieces
  split
  · rename_i h
    rw [has_cons, has_one, has_one]
    simp only
    omega
  · rfl
theorem cutTo_has {e : Int} (he : 0 ≤ e) (l : List (Int × Int)) (t : Int) : ∀ k, k ≤ l.length → (has (cutTo e l k) t ↔ has (l.take k) t)
  | 0, _ => by simp [cutTo]
  | k + 1, h => by
    have ih := cutTo_has he l t k (by omega)
    have e1 : l.take (k + 1) = l.take k ++ [l.getD k (0, 0)] := by
      rw [List.take_add_one]
      simp [show k < l.length by omega]
    rw [e1, has_append, cutTo, has_append, ih, pieces_has he]
theorem pieces_ok {e : Int} (he : 0 ≤ e) (i : Nat) {x : Int × Int} (h : okT x.1 ∧ okT x.2 ∧ x.1 ≤ x.2) : OkS (pieces e i x) := by
  unfold pieces okT at *
  split
  · rename_i q
    intro y hy
    simp only [List.mem_cons, List.not_mem_nil, or_false] at hy
    rcases hy with rfl | rfl
    · unfold okT; simp only; omega
    · unfold okT; simp only; omega
  · intro y hy
    simp only [List.mem_singleton] at hy
    subst hy
    exact h
theorem cutTo_ok {e : Int} (he : 0 ≤ e) {l : List (Int × Int)} (h : OkS l) : ∀ k, k ≤ l.length → OkS (cutTo e l k)
  | 0, _ => okS_nil
  | k + 1, hk => by
    have a := cutTo_ok he h k (by omega)
    exact a.append (pieces_ok he k (h _ (by simp [show k < l.length by omega])))
theorem turn_has (l : List (Int × Int)) (k : Nat) (t : Int) : has (l.drop k ++ l.take k) t ↔ has l t := by
  conv => rhs; rw [← List.take_append_drop k l]
  rw [has_append, has_append]
  exact Or.comm
/-- the same answers for lists with the same times -/
theorem ResR.same {a b a' b' l : List (Int × Int)} {k : Int} (ha : ∀ t, has a t ↔ has a' t) (hb : ∀ t, has b t ↔ has b' t) (oa : errL a' = 0) (ob : errL b' = 0) (h : ResR a b k l 0) : ResR a' b' k l 0 :=
  ⟨(err2_zero.2 ⟨oa, ob⟩).symm, .inl ⟨rfl, h.res.same ha hb⟩⟩
theorem ResR.comm {a b l : List (Int × Int)} {k : Int} (hk : k = 1 ∨ k = 2) (h : ResR a b k l 0) : ResR b a k l 0 := by
  obtain ⟨oa, ob⟩ := err2_zero.1 h.1.symm
  exact ⟨(err2_zero.2 ⟨ob, oa⟩).symm, .inl ⟨rfl, h.res.comm hk⟩⟩
end Go.Proofs.Ytodjipbkeddbcaa.Bk
namespace Go.Proofs.Ytodjipbkeddbcaa
open Go.ChangeShapes Go.RowKit

/-- slices.Grow of nil -/
theorem grow_any (n : Nat) (hn : n ≤ 1000) (w : World) :
    Calls Try.prog 53 #[.slice none 0 0, .int .i64 n] w fun e w' => ∃ u, e = .returned u ∧ OwnS w u [] w' := by
  by_cases z : n = 0
  · subst z
    have h := Any8.slices_Grow_room Try.growS none 0 0 0 w (by omega) (by omega) (by omega) (by omega)
    refine h.mono ?_
    rintro e w' ⟨rfl, rfl⟩
    exact ⟨_, rfl, .nil (Below.refl _ _)⟩
  · obtain ⟨i0, hi, hz0, hz1, hz2⟩ := info_parts infoS
    have h := Any8.slices_Grow_grow Try.growS i0 (.agg #[.int .i64 0, .int .i64 0]) hi hz0 (by omega) none 0 0 n [] w (by omega) (by omega) (by rw [hz2]; omega) (by omega) (by simp) (fun _ => rfl) (fun a h => by cases h)
    refine h.mono ?_
    rintro e w' ⟨rfl, rfl⟩
    have g1 := grownCap_ge w (0 + n) 0 27
    have g2 := grownCap_le_maxLen w (0 + n) 0 27 (by simp [maxLen]; omega)
    have g3 : n ≤ grownCap w n 0 27 := by simpa using g1
    refine ⟨_, rfl, ?_, (Below.refl _ w).drew.alloc (Nat.le_refl _) _⟩
    have := World.ownsRow_made (base := w.heap.size) (e := 27) (size := 2) w.drew ((#[] : Array Value) ++ Builtin.zeroCells (Value.agg #[.int .i64 0, .int .i64 0]).cells (0 + n - 0) ++ Builtin.zeroCells (Value.agg #[.int .i64 0, .int .i64 0]).cells (grownCap w (0 + n) 0 27 - (0 + n))) (grownCap w (0 + n) 0 27) (Nat.le_refl _) g2 (by
      simp only [Array.size_append, Builtin.zeroCells]
      simp [Value.cells]
      omega)
    exact this

set_option maxRecDepth 100000 in
set_option maxHeartbeats 4000000 in
/-- slices.Concat of two slices of spans -/
theorem concat_two (g : Nat) (va vb : Value) (a b : List (Int × Int)) (la : a.length ≤ 100) (lb : b.length ≤ 100) (W : World) (hc : W.cell? ⟨g, 0, none⟩ = some va) (hd : W.cell? ⟨g, 1, none⟩ = some vb) (ha : RowS W va a) (hb : RowS W vb b) :
    Calls Try.prog 34 #[.slice (some ⟨g, 0, none⟩) 2 2] W fun e w' => ∃ u, e = .returned u ∧ OwnS W u (a ++ b) w' := by
  have RA := Lib.hid ha
  have RB := Lib.hid hb
  have CA := Lib.hid hc
  have CB := Lib.hid hd
  have GL := Lib.hid (lt_of_cell hc)
  have GR := Lib.hid (fun n hn W => grow_any n hn W)
  obtain ⟨A1, c1, rfl⟩ := ha.len
  obtain ⟨A2, c2, rfl⟩ := hb.len
  clear ha hb
  go_enter Try.func34, Try.ntmps34
  go_wp2_with fail
  go_loop [3, 11] (fun sv iv => ∃ k s : Nat, k ≤ 2 ∧ iv = .int .i64 k ∧ sv = .int .i64 s ∧ ((k = 0 ∧ s = 0) ∨ (k = 1 ∧ s = a.length) ∨ (k = 2 ∧ s = a.length + b.length))) (fun _ iv => 2 - (intOf iv).toNat)
  case atStart => exact ⟨0, 0, by omega, rfl, rfl, .inl ⟨rfl, rfl⟩⟩
  case round =>
    obtain ⟨k, s, hk, rfl, rfl, hs⟩ := hrel
    rcases hs with ⟨rfl, rfl⟩ | ⟨rfl, rfl⟩ | ⟨rfl, rfl⟩
    · have w1 : IntKind.i64.wrap (0 + (a.length : Int)) = (a.length : Int) := by rw [IntKind.wrap_i64]; omega
      have w2 : IntKind.i64.wrap (a.length : Int) = (a.length : Int) := by rw [IntKind.wrap_i64]; omega
      have n1 : decide ((a.length : Int) < 0) = false := by rw [decide_eq_false_iff_not]; omega
      clear hd
      go_wp2_with fail
      go_round
      case rel => exact ⟨1, a.length, by omega, by go_num, by go_num, .inr (.inl ⟨rfl, rfl⟩)⟩
      case measure => simp [intOf]
    · have w1 : IntKind.i64.wrap ((a.length : Int) + (b.length : Int)) = ((a.length + b.length : Nat) : Int) := by rw [IntKind.wrap_i64]; omega
      have w2 : IntKind.i64.wrap ((a.length : Int) + (b.length : Int)) = (a.length : Int) + (b.length : Int) := by rw [IntKind.wrap_i64]; omega
      have n1 : decide (((a.length + b.length : Nat) : Int) < 0) = false := by rw [decide_eq_false_iff_not]; omega
      have n2 : decide ((a.length : Int) + (b.length : Int) < 0) = false := by rw [decide_eq_false_iff_not]; omega
      clear hc w1 n1
      go_wp2_with fail
      go_round
      case rel => exact ⟨2, a.length + b.length, by omega, by go_num, by go_num, .inr (.inr ⟨rfl, rfl⟩)⟩
      case measure => simp [intOf]
    · have G1 := Lib.hid (GR.out (a.length + b.length) (by omega) W)
      clear hc hd hk
      go_wp2_with fail
      refine G1.out.mono ?_
      rintro e W1 ⟨u, rfl, hu⟩
      have HU := Lib.hid hu
      clear hu
      go_wp2_with fail
      go_loopw [6, 27] (fun ov iv wr => ∃ (k : Nat) (v : Value) (l : List (Int × Int)), k ≤ 2 ∧ iv = .int .i64 k ∧ v = ov ∧ ((k = 0 ∧ l = []) ∨ (k = 1 ∧ l = a) ∨ (k = 2 ∧ l = a ++ b)) ∧ Hid (OwnS W v l wr)) (fun _ iv _ => 2 - (intOf iv).toNat)
      case atStart => exact ⟨0, _, [], by omega, rfl, rfl, .inl ⟨rfl, rfl⟩, HU⟩
      case round =>
        obtain ⟨k, v, l, hk, rfl, rfl, hs, ho⟩ := hrel
        have cA := (ho.out.below.cell (p := ⟨g, 0, none⟩) GL.out).trans CA.out
        have cB := (ho.out.below.cell (p := ⟨g, 1, none⟩) GL.out).trans CB.out
        have RA1 := Lib.hid (RA.out.below ho.out.below)
        have RB1 := Lib.hid (RB.out.below ho.out.below)
        have hsz := ho.out.below.size
        rcases hs with ⟨rfl, rfl⟩ | ⟨rfl, rfl⟩ | ⟨rfl, rfl⟩
        · clear cB
          go_wp2_with (at_builtin; refine wpList_append_rowS rfl _ _ rfl W.heap.size _ 0 [] rfl ho.out.row _ a rfl RA1.out (by omega) hsz ?_; intro v2 w2 hown hg2)
          have h2 := Lib.hid (ho.out.grow (m := a) hown hg2)
          clear hown hg2
          go_wp2_with fail
          go_roundw
          case rel => exact ⟨1, _, a, by omega, by go_num, rfl, .inr (.inl ⟨rfl, rfl⟩), Lib.hid (by simpa using h2.out)⟩
          case measure => simp [intOf]
        · clear cA
          go_wp2_with (at_builtin; refine wpList_append_rowS rfl _ _ rfl W.heap.size _ _ _ rfl ho.out.row _ b rfl RB1.out (by omega) hsz ?_; intro v2 w2 hown hg2)
          have h2 := Lib.hid (ho.out.grow (m := b) hown hg2)
          clear hown hg2
          go_wp2_with fail
          go_roundw
          case rel => exact ⟨2, _, _, by omega, by go_num, rfl, .inr (.inr ⟨rfl, rfl⟩), h2⟩
          case measure => simp [intOf]
        · clear cA cB
          go_wp2_with fail
          go_ret
          exact ⟨_, rfl, ho.out⟩
theorem cell_pair (W : World) (k : Nat) (hk : W.heap.size = k) (x y : Value) (T : TypeId) : (W.alloc (.cells #[x, y] T)).cell? ⟨k, 0, none⟩ = some x ∧ (W.alloc (.cells #[x, y] T)).cell? ⟨k, 1, none⟩ = some y :=
  ⟨cells_new W k hk [x, y] T 0 x rfl, cells_new W k hk [x, y] T 1 y rfl⟩
/-- the two parts of an own row -/
theorem part_row {W : World} {g cap : Nat} {l : List (Int × Int)} (h : RowS W (.slice (some ⟨g, 0, none⟩) l.length cap) l) {k : Nat} (hk : k ≤ l.length) :
    RowS W (.slice (some ⟨g, 0, none⟩) k cap) (l.take k) ∧ RowS W (.slice (some ⟨g, k * 2, none⟩) (l.length - k) (cap - k)) (l.drop k) := by
  have h0 := h.1
  constructor
  · have e : (l.take k).length = k := by rw [List.length_take]; omega
    refine ⟨by omega, (fun n c h => by cases h), _, _, by rw [e], fun j hj => ?_⟩
    rw [e] at hj
    obtain ⟨b, o, e1, e2, e3⟩ := h.at (j := j) (by omega)
    refine ⟨b, o, e1, ?_, ?_⟩
    · rw [e2]; simp [List.getD_eq_getElem?_getD, hj]
    · rw [e3]; simp [List.getD_eq_getElem?_getD, hj]
  · have e : (l.drop k).length = l.length - k := by rw [List.length_drop]
    refine ⟨by omega, (fun n c h => by cases h), _, _, by rw [e], fun j hj => ⟨g, k * 2, rfl, ?_⟩⟩
    rw [e] at hj
    obtain ⟨b, o, e1, e2, e3⟩ := h.at (j := k + j) (by omega)
    cases e1
    rw [show k * 2 + j * 2 = 0 + (k + j) * 2 by omega, e2, e3]
    simp [List.getD_eq_getElem?_getD]
theorem part_full {W : World} {b o c : Nat} {l : List (Int × Int)} {k : Nat} (hk : l.length ≤ k) : RowS W (.slice (some ⟨b, o, none⟩) 0 c) (l.drop k) := by
  have e : l.drop k = [] := List.drop_eq_nil_of_le hk
  rw [e]
  exact ⟨by simp, (fun n c h => by cases h), _, _, rfl, fun j hj => by simp at hj⟩
end Go.Proofs.Ytodjipbkeddbcaa
