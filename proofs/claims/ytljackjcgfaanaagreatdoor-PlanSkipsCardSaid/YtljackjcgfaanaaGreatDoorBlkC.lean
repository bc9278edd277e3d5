/- Contract of edges of package blackout: sorted edges of two lists. -/
import Derived.Test.YtljackjcgfaanaaGreatDoorBlkS
import Derived.Shelf.SlSortCmp.NoneTotal
namespace Go.Proofs.YtljackjcgfaanaaGreatDoor.Bo
open Go.ChangeShapes Go.RowKit

theorem cells_new (W : World) (k : Nat) (hk : W.heap.size = k) (vs : List Value) (T : TypeId) : ∀ j u, vs[j]? = some u → (W.alloc (.cells vs.toArray T)).cell? (Addr.add ⟨k, 0, none⟩ j) = some u := by
  subst hk
  intro j u h
  rw [add_flat]
  simp only [World.cell?, heap_alloc_new]
  simpa using h
/-- a list of edges of the call's own -/
structure OwnE (w : World) (v : Value) (l : List (Int × Int × Int)) (wr : World) : Prop where
  row : wr.ownsRow w.heap.size 162 3 v l.length (l.flatMap encE)
  below : Below w.heap.size w wr
theorem OwnE.nil {w wr : World} (h : Below w.heap.size w wr) : OwnE w (.slice none 0 0) [] wr := ⟨World.ownsRow_nil _ _ _ _, h⟩
theorem OwnE.len {w wr : World} {v : Value} {l : List (Int × Int × Int)} (h : OwnE w v l wr) : ∃ a cap, v = .slice a l.length cap := by
  rcases h.row.2 with ⟨rfl, h0⟩ | ⟨g, cap, cur, rfl, _⟩
  · rw [h0]; exact ⟨_, _, rfl⟩
  · exact ⟨_, _, rfl⟩
theorem OwnE.next {w wr w1 : World} {v : Value} {l : List (Int × Int × Int)} (h : OwnE w v l wr) (hb : Below wr.heap.size wr w1) : OwnE w v l w1 := by
  refine ⟨h.row.kept ⟨hb.os, hb.tape, hb.output, hb.size, fun k hk _ => hb.block k hk⟩ (row := none) ?_, h.below.trans (hb.mono h.below.size)⟩
  rcases h.row.2 with ⟨rfl, _⟩ | ⟨g, cap, cur, rfl, _⟩
  · exact .inl rfl
  · exact .inr (by simp [Value.ownBlock])
theorem OwnE.alloc {w wr : World} {v : Value} {l : List (Int × Int × Int)} (h : OwnE w v l wr) (o : Obj) : OwnE w v l (wr.alloc o) := h.next ((Below.refl _ wr).alloc (Nat.le_refl _) o)
theorem OwnE.step {w wr w1 : World} {v v' : Value} {l : List (Int × Int × Int)} {o : Obj} {x y : Int × Int × Int} (h : OwnE w v l wr)
    (hown : w1.ownsRow w.heap.size 162 3 v' (l.length + 2) (l.flatMap encE ++ (encE x ++ encE y))) (hg : (wr.alloc o).grownBy w1 v.ownBlock) : OwnE w v' (l ++ [x, y]) w1 := by
  have hs := h.below.size
  refine ⟨by rw [List.flatMap_append]; simpa [encE] using hown, (h.below.alloc hs o).grown hg (by simp; omega) (fun k hk => (h.row.lt k hk).1)⟩
theorem edgesA_take {l : List (Int × Int)} {k : Nat} (h : k < l.length) : Bk.edgesA (l.take (k + 1)) = Bk.edgesA (l.take k) ++ [((l.getD k (0, 0)).1, 1, 0), ((l.getD k (0, 0)).2 + 1, -1, 0)] := by
  rw [← Bk.edgesA_snoc, List.take_add_one]
  simp [h]
theorem edgesB_take {l : List (Int × Int)} {k : Nat} (h : k < l.length) : Bk.edgesB (l.take (k + 1)) = Bk.edgesB (l.take k) ++ [((l.getD k (0, 0)).1, 0, 1), ((l.getD k (0, 0)).2 + 1, 0, -1)] := by
  rw [← Bk.edgesB_snoc, List.take_add_one]
  simp [h]
theorem okS_at {l : List (Int × Int)} (h : Bk.OkS l) {k : Nat} (hk : k < l.length) : (0 ≤ (l.getD k (0, 0)).1 ∧ (l.getD k (0, 0)).1 ≤ 253402300799) ∧ (0 ≤ (l.getD k (0, 0)).2 ∧ (l.getD k (0, 0)).2 ≤ 253402300799) ∧ (l.getD k (0, 0)).1 ≤ (l.getD k (0, 0)).2 := h _ (by simp [hk])

/-- the sort, at any row of edges of the call's own -/
theorem sort_own (w : World) (v : Value) (E : List (Int × Int × Int)) (W : World) (hl : E.length ≤ 1000000) (h : OwnE w v E W) :
    Calls Tryz.prog 152 #[v, .func (.func 153) #[] #[]] W fun e w' => e = .returned (.tuple #[]) ∧ ∃ E', E'.Perm E ∧ Bk.Srt E' ∧ RowE w.heap.size w' v E' ∧ Below w.heap.size w w' := by
  by_cases z : 0 < E.length
  · refine (sort_any w.heap.size v E W z hl h.row).mono ?_
    rintro e w' ⟨rfl, E', h1, h2, h3, h4⟩
    exact ⟨rfl, E', h1, h2, h3, h.below.trans h4⟩
  · have : E = [] := List.length_eq_zero_iff.1 (by omega)
    subst this
    obtain ⟨A, cap, rfl⟩ := h.len
    have hn := AnyF.slices_SortFunc_none Tryz.sortEdges A cap (.func (.func 153) #[] #[]) W
    refine hn.mono ?_
    rintro e w' ⟨rfl, rfl⟩
    exact ⟨rfl, [], List.Perm.refl _, List.Pairwise.nil, ⟨by simp, _, _, rfl, fun j hj => by simp at hj⟩, h.below⟩

set_option maxRecDepth 100000 in
set_option maxHeartbeats 4000000 in
theorem edges_any (va vb : Value) (a b : List (Int × Int)) (oa : Bk.OkL a) (ob : Bk.OkL b) (w : World) (ha : RowS w va a) (hb : RowS w vb b) :
    Calls Tryz.prog 136 #[va, vb] w fun e w' => ∃ v E, e = .returned v ∧ E.Perm (Bk.edgesL a b) ∧ Bk.Srt E ∧ RowE w.heap.size w' v E ∧ Below w.heap.size w w' := by
  obtain ⟨i0, hi, hz0, hz1, hz2⟩ := info_parts infoE
  have RA := Lib.hid ha
  have RB := Lib.hid hb
  have LA := oa.1
  have LB := ob.1
  have OA := Lib.hid oa.2
  have OB := Lib.hid ob.2
  obtain ⟨A1, c1, rfl⟩ := ha.len
  obtain ⟨A2, c2, rfl⟩ := hb.len
  clear ha hb oa ob
  go_enter Tryz.func136, Tryz.ntmps136
  go_wp2_with fail
  go_loopw [5, 12] (fun ov iv wr => ∃ (k : Nat) (v : Value), k ≤ a.length ∧ iv = .int .i64 k ∧ v = ov ∧ Hid (OwnE w v (Bk.edgesA (a.take k)) wr)) (fun _ iv _ => a.length - (intOf iv).toNat)
  case atStart => exact ⟨0, _, by omega, rfl, rfl, Lib.hid (by simpa [Bk.edgesA] using OwnE.nil (Below.refl _ w))⟩
  case round =>
    obtain ⟨k, v, hk, rfl, rfl, ho⟩ := hrel
    by_cases lt : k < a.length
    · have e0 : decide ((k : Int) < (a.length : Int)) = true := by rw [decide_eq_true_iff]; omega
      have wk : IntKind.i64.wrap ((k : Int) + 1) = (k : Int) + 1 := by rw [IntKind.wrap_i64]; omega
      obtain ⟨b', o, rfl, d1, d2⟩ := (RA.out.below ho.out.below).at lt
      have OK := okS_at OA.out lt
      have ET := Lib.hid (edgesA_take lt)
      have EL := Bk.edgesA_len (a.take k)
      rw [List.length_take] at EL
      obtain ⟨x, hx⟩ : ∃ x, a.getD k (0, 0) = x := ⟨_, rfl⟩
      rw [hx] at d1 d2 OK ET
      obtain ⟨x1, x2⟩ := x
      simp only at d1 d2 OK
      have wx : IntKind.i64.wrap (x2 + 1) = x2 + 1 := by rw [IntKind.wrap_i64]; omega
      obtain ⟨G, hG⟩ : ∃ G, Bk.edgesA (a.take k) = G := ⟨_, rfl⟩
      rw [hG] at ho ET EL
      have HO1 := Lib.hid (ho.out.alloc (.cells #[.int .i64 x1, .int .i64 x2] 48))
      have hs := ho.out.below.size
      clear hx hG OK
      go_wp2_with (at_builtin; refine wpList_append_own _ rfl _ _ 159 rfl w.heap.size 162 i0 (.agg #[.int .i64 0, .int .i64 0, .int .i64 0]) 3 24 Tryz.underlying159 hi hz0 hz1 hz2 rfl (by decide) _ G.length _ rfl (HO1.out.row.alloc _) ⟨wr.heap.size + 1, 0, none⟩ 2 2 [.int .i64 x1, .int .i64 1, .int .i64 0, .int .i64 (x2 + 1), .int .i64 (-1), .int .i64 0] rfl rfl (cells_new _ _ (by simp) [.int .i64 x1, .int .i64 1, .int .i64 0, .int .i64 (x2 + 1), .int .i64 (-1), .int .i64 0] _) (by simp [Value.oneCell']) (by simp [maxLen]; omega) (by omega) (by simp; omega) ?_; intro v2 w2 hown hg2 _)
      have h2 := HO1.out.step (x := (x1, 1, 0)) (y := (x2 + 1, -1, 0)) (by simpa [encE] using hown) hg2
      rw [← ET.out] at h2
      have H2 := Lib.hid h2
      clear h2 hown hg2
      go_wp2_with fail
      go_roundw
      case rel => exact ⟨k + 1, _, by omega, by go_num, rfl, H2⟩
      case measure => simp [intOf]; omega
    · have e0 : decide ((k : Int) < (a.length : Int)) = false := by rw [decide_eq_false_iff_not]; omega
      obtain rfl : k = a.length := by omega
      have HA : Hid (OwnE w v (Bk.edgesA a ++ Bk.edgesB (b.take 0)) wr) := Lib.hid (by have := ho.out; rw [List.take_length] at this; simpa [Bk.edgesB] using this)
      clear ho lt hk
      go_wp2_with fail
      go_loopw [5, 29] (fun ov iv wr => ∃ (k : Nat) (v : Value), k ≤ b.length ∧ iv = .int .i64 k ∧ v = ov ∧ Hid (OwnE w v (Bk.edgesA a ++ Bk.edgesB (b.take k)) wr)) (fun _ iv _ => b.length - (intOf iv).toNat)
      case atStart => exact ⟨0, _, by omega, rfl, rfl, HA⟩
      case round =>
        obtain ⟨k, v, hk, rfl, rfl, ho⟩ := hrel
        by_cases lt : k < b.length
        · have e0 : decide ((k : Int) < (b.length : Int)) = true := by rw [decide_eq_true_iff]; omega
          have wk : IntKind.i64.wrap ((k : Int) + 1) = (k : Int) + 1 := by rw [IntKind.wrap_i64]; omega
          obtain ⟨b', o, rfl, d1, d2⟩ := (RB.out.below ho.out.below).at lt
          have OK := okS_at OB.out lt
          have ET := Lib.hid (show Bk.edgesA a ++ Bk.edgesB (b.take (k + 1)) = _ by rw [edgesB_take lt, ← List.append_assoc])
          have EL := Bk.edgesA_len a
          have EL2 := Bk.edgesB_len (b.take k)
          rw [List.length_take] at EL2
          have EL3 : (Bk.edgesA a ++ Bk.edgesB (b.take k)).length ≤ 256 := by rw [List.length_append]; omega
          obtain ⟨x, hx⟩ : ∃ x, b.getD k (0, 0) = x := ⟨_, rfl⟩
          rw [hx] at d1 d2 OK ET
          obtain ⟨x1, x2⟩ := x
          simp only at d1 d2 OK
          have wx : IntKind.i64.wrap (x2 + 1) = x2 + 1 := by rw [IntKind.wrap_i64]; omega
          obtain ⟨G, hG⟩ : ∃ G, Bk.edgesA a ++ Bk.edgesB (b.take k) = G := ⟨_, rfl⟩
          rw [hG] at ho ET EL3
          have HO1 := Lib.hid (ho.out.alloc (.cells #[.int .i64 x1, .int .i64 x2] 48))
          have hs := ho.out.below.size
          clear hx hG OK EL EL2
          go_wp2_with (at_builtin; refine wpList_append_own _ rfl _ _ 159 rfl w.heap.size 162 i0 (.agg #[.int .i64 0, .int .i64 0, .int .i64 0]) 3 24 Tryz.underlying159 hi hz0 hz1 hz2 rfl (by decide) _ G.length _ rfl (HO1.out.row.alloc _) ⟨wr.heap.size + 1, 0, none⟩ 2 2 [.int .i64 x1, .int .i64 0, .int .i64 1, .int .i64 (x2 + 1), .int .i64 0, .int .i64 (-1)] rfl rfl (cells_new _ _ (by simp) [.int .i64 x1, .int .i64 0, .int .i64 1, .int .i64 (x2 + 1), .int .i64 0, .int .i64 (-1)] _) (by simp [Value.oneCell']) (by simp [maxLen]; omega) (by omega) (by simp; omega) ?_; intro v2 w2 hown hg2 _)
          have h2 := HO1.out.step (x := (x1, 0, 1)) (y := (x2 + 1, 0, -1)) (by simpa [encE] using hown) hg2
          rw [← ET.out] at h2
          have H2 := Lib.hid h2
          clear h2 hown hg2
          go_wp2_with fail
          go_roundw
          case rel => exact ⟨k + 1, _, by omega, by go_num, rfl, H2⟩
          case measure => simp [intOf]; omega
        · have e0 : decide ((k : Int) < (b.length : Int)) = false := by rw [decide_eq_false_iff_not]; omega
          obtain rfl : k = b.length := by omega
          have HB : Hid (OwnE w v (Bk.edgesL a b) wr) := Lib.hid (by have := ho.out; rwa [List.take_length] at this)
          have BL := Bk.edgesL_len a b
          have SO := Lib.hid (sort_own w v (Bk.edgesL a b) wr (by omega) HB.out)
          clear ho lt hk BL HB
          go_wp2_with fail
          refine SO.out.mono ?_
          rintro e V ⟨rfl, E', hp, hs, hr, hb⟩
          have HP := Lib.hid (And.intro hp (And.intro hs (And.intro hr hb)))
          clear hp hs hr hb
          go_wp2_with fail
          go_ret
          exact ⟨_, E', rfl, HP.out⟩
end Go.Proofs.YtljackjcgfaanaaGreatDoor.Bo
