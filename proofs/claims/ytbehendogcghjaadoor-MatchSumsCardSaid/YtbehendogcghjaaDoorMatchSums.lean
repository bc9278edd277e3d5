/- For every expression, zone, time and two lengths, MatchSums returns true: the times of two spans, one behind the other, are those of both; their numbers add up; each of them is matched. Condition: the program's tables start as its text lays them (tied). -/
import Derived.Test.YtbehendogcghjaaDoorMatCy
import Derived.Test.YtbehendogcghjaaDoorMatSm
namespace Go.Proofs.YtbehendogcghjaaDoor.matchSums
open Go.ChangeShapes Go.WideShapes Go.ChangeAt Go.RowKit Go.ChangeMaps

/-- the context: the expression in its box, and the cells of the list -/
structure SC (w : World) (B : Nat) (x : Exp.Ex) (g o : Nat) (l : List Int) (W : World) : Prop where
  mc : MC w [(B, x)] W
  at0 : ∀ (j : Nat) (v : Int), l[j]? = some v → W.cell? ⟨g, o + j, none⟩ = some (.int .i64 v)
theorem SC.next {w W W' : World} {B g o : Nat} {x : Exp.Ex} {l : List Int} (h : SC w B x g o l W) (m : MC w [(B, x)] W') (hb : Below W.heap.size W W') : SC w B x g o l W' :=
  ⟨m, fun j v e => (hb.cell (p := ⟨g, o + j, none⟩) (World.block_lt_of_cell? W _ (h.at0 j v e))).trans (h.at0 j v e)⟩
theorem SC.drew {w W : World} {B g o : Nat} {x : Exp.Ex} {l : List Int} (h : SC w B x g o l W) : SC w B x g o l W.drew := h.next h.mc.drew (Below.refl _ _).drew
theorem SC.drewN {w W : World} {B g o : Nat} {x : Exp.Ex} {l : List Int} (h : SC w B x g o l W) (n : Nat) : SC w B x g o l (W.drewN n) := h.next (h.mc.drewN n) (below_drewN _ W n)
theorem SC.is {w W : World} {B g o : Nat} {x : Exp.Ex} {l : List Int} (h : SC w B x g o l W) (hx : x.Bd) (z t : Int) (r : Bool) (e : Int) (hr : isO x z t = r) (he : errC x z [t] = e) :
    Calls Tryd.prog 17 #[.agg #[.int .u64 x.a0, .int .u64 x.a1, .int .u64 x.a2, .int .u64 x.a3, .int .u64 x.a4, .int .u64 x.a5, .bool x.b3, .bool x.b5], .int .i64 z, .int .i64 t] W fun e' W' => e' = .returned (.tuple #[.bool r, .int .i64 e]) ∧ SC w B x g o l W' :=
  (mis_any x hx z t W h.mc.lay).mono fun _ _ ⟨h1, h2⟩ => ⟨by rw [h1, hr, he], h.next (h.mc.next h2) h2⟩
theorem SC.toNext {w W : World} {B g o : Nat} {x : Exp.Ex} {l : List Int} (h : SC w B x g o l W) (hx : x.Bd) (z t : Int) (n : Int) (r : Bool) (e : Int) (hn : (nextO x z t).getD 0 = n) (hr : (nextO x z t).isSome = r) (he : errC x z [t] = e) :
    Calls Tryd.prog 22 #[.agg #[.int .u64 x.a0, .int .u64 x.a1, .int .u64 x.a2, .int .u64 x.a3, .int .u64 x.a4, .int .u64 x.a5, .bool x.b3, .bool x.b5], .int .i64 z, .int .i64 t] W fun e' W' => e' = .returned (.tuple #[.int .i64 n, .bool r, .int .i64 e]) ∧ SC w B x g o l W' :=
  (mnext_any x hx z t W h.mc.lay).mono fun _ _ ⟨h1, h2⟩ => ⟨by rw [h1, hn, hr, he], h.next (h.mc.next h2) h2⟩
theorem SC.works {w W : World} {B g o : Nat} {x : Exp.Ex} {l : List Int} (h : SC w B x g o l W) :
    Calls Tryd.prog 21 #[] W fun e W' => e = .returned (.bool true) ∧ SC w B x g o l W' :=
  (works_any W h.mc.lay).mono fun _ _ ⟨h1, h2⟩ => ⟨h1, h.next (h.mc.next h2) h2⟩
set_option maxRecDepth 100000 in
set_option maxHeartbeats 4000000 in
theorem walk_skip (x : Exp.Ex) (z a f s c : Int) (w : World) (L : LayM w) (h : a < 0 ∨ (0 ≤ a ∧ 253402300799 < a) ∨ (0 ≤ a ∧ a ≤ 253402300799 ∧ 253402300799 ≤ c))
    (hc : c = IntKind.i64.wrap (IntKind.i64.wrap (a + IntKind.i64.wrap (f.tmod 17280000)) + IntKind.i64.wrap (s.tmod 17280000))) :
    Calls Tryd.prog 10 #[.agg #[.int .u64 x.a0, .int .u64 x.a1, .int .u64 x.a2, .int .u64 x.a3, .int .u64 x.a4, .int .u64 x.a5, .bool x.b3, .bool x.b5], .int .i64 z, .int .i64 a, .int .u32 f, .int .u32 s] w fun e w' => e = .returned (.bool true) ∧ Below w.heap.size w w' := by
  have Q := Lib.hid ((MC.start L).box x)
  obtain ⟨f1, e1⟩ : ∃ v, f.tmod 17280000 = v := ⟨_, rfl⟩
  obtain ⟨s1, e2⟩ : ∃ v, s.tmod 17280000 = v := ⟨_, rfl⟩
  rw [e1, e2] at hc
  obtain ⟨f2, e3⟩ : ∃ v, IntKind.i64.wrap f1 = v := ⟨_, rfl⟩
  obtain ⟨s2, e4⟩ : ∃ v, IntKind.i64.wrap s1 = v := ⟨_, rfl⟩
  rw [e3, e4] at hc
  obtain ⟨b, e5⟩ : ∃ v, IntKind.i64.wrap (a + f2) = v := ⟨_, rfl⟩
  rw [e5] at hc
  have e6 := hc.symm
  rcases h with h | ⟨h0, h1⟩ | ⟨h0, h1, h2⟩
  · have t1 : decide (a < 0) = true := decide_eq_true h
    clear hc h L
    go_enter Tryd.func10, Tryd.ntmps10
    go_wp2_with fail
    refine (MC.works Q.out).mono ?_
    rintro e' wc1 ⟨rfl, q⟩
    have Q := Lib.hid q
    clear q
    go_wp2_with fail
    go_ret
    exact ⟨rfl, Q.out.below⟩
  · have t1 : decide (a < 0) = false := by rw [decide_eq_false_iff_not]; omega
    have t2 : decide (253402300799 < a) = true := decide_eq_true h1
    clear hc h0 h1 L
    go_enter Tryd.func10, Tryd.ntmps10
    go_wp2_with fail
    refine (MC.works Q.out).mono ?_
    rintro e' wc2 ⟨rfl, q⟩
    have Q := Lib.hid q
    clear q
    go_wp2_with fail
    go_ret
    exact ⟨rfl, Q.out.below⟩
  · have t1 : decide (a < 0) = false := by rw [decide_eq_false_iff_not]; omega
    have t2 : decide (253402300799 < a) = false := by rw [decide_eq_false_iff_not]; omega
    have t3 : decide (253402300799 ≤ c) = true := decide_eq_true h2
    clear hc h0 h1 h2 L
    go_enter Tryd.func10, Tryd.ntmps10
    go_wp2_with fail
    refine (MC.works Q.out).mono ?_
    rintro e' wc3 ⟨rfl, q⟩
    have Q := Lib.hid q
    clear q
    go_wp2_with fail
    go_ret
    exact ⟨rfl, Q.out.below⟩
/-- the numbers of a call that is not skipped -/
structure Nums (a f s f1 s1 b c : Int) : Prop where
  w1 : f.tmod 17280000 = f1
  w2 : s.tmod 17280000 = s1
  w3 : IntKind.i64.wrap f1 = f1
  w4 : IntKind.i64.wrap s1 = s1
  w5 : IntKind.i64.wrap (a + f1) = b
  w6 : IntKind.i64.wrap (b + s1) = c
  w7 : IntKind.i64.wrap (b + 1) = b + 1
  w8 : IntKind.i64.wrap (c + 1) = c + 1
  a0 : 0 ≤ a
  a1 : a ≤ 253402300799
  ab : a ≤ b
  bc : b ≤ c
  c1 : c < 253402300799
set_option maxRecDepth 100000 in
set_option maxHeartbeats 4000000 in
theorem walk_err (x : Exp.Ex) (z a f s f1 s1 b c e : Int) (w : World) (L : LayM w) (hx : x.Bd) (N : Nums a f s f1 s1 b c) (he : errC x z [a, b] = e) (hne : e ≠ 0) :
    Calls Tryd.prog 10 #[.agg #[.int .u64 x.a0, .int .u64 x.a1, .int .u64 x.a2, .int .u64 x.a3, .int .u64 x.a4, .int .u64 x.a5, .bool x.b3, .bool x.b5], .int .i64 z, .int .i64 a, .int .u32 f, .int .u32 s] w fun e w' => e = .returned (.bool true) ∧ Below w.heap.size w w' := by
  obtain ⟨w1, w2, w3, w4, w5, w6, w7, w8, a0, a1, ab, bc, c1⟩ := N
  have t0 : (e != 0) = true := by simpa using hne
  have t1 : decide (a < 0) = false := by rw [decide_eq_false_iff_not]; omega
  have t2 : decide (253402300799 < a) = false := by rw [decide_eq_false_iff_not]; omega
  have t3 : decide (253402300799 ≤ c) = false := by rw [decide_eq_false_iff_not]; omega
  have Q := Lib.hid ((MC.start L).box x)
  have CO := Lib.hid (fun l W (h : MC w l W) => h.count x hx z a b 0 e (by rw [he, if_neg hne]) he)
  clear hx he hne a0 a1 ab bc c1 L
  go_enter Tryd.func10, Tryd.ntmps10
  go_wp2_with fail
  refine (CO.out _ _ Q.out).mono ?_
  rintro e' wc4 ⟨rfl, q⟩
  obtain ⟨B, hB⟩ : ∃ B, w.heap.size = B := ⟨_, rfl⟩
  rw [hB] at q
  obtain ⟨c0, c1, c2, c3, c4, c5, c6, c7⟩ := q.cells B x (by simp)
  have Q := Lib.hid q
  clear q
  go_wp2_with fail
  refine (MC.works Q.out).mono ?_
  rintro e' wc5 ⟨rfl, q⟩
  have Q := Lib.hid q
  clear q
  go_wp2_with fail
  go_ret
  exact ⟨rfl, Q.out.below⟩
/-- what the list is -/
structure Lst (x : Exp.Ex) (z a b : Int) (l : List Int) (m : Nat) : Prop where
  at0 : ∀ (i : Nat) (v : Int), l[i]? = some v → a ≤ v ∧ v ≤ b ∧ isO x z v = true ∧ errC x z [v] = 0
  up : ∀ (i : Nat) (v u : Int), l[i]? = some v → l[i + 1]? = some u → v < u ∧ nextO x z v = some u
  len : l.length = min 30 m
  few : ∀ v, l.getLast? = some v → l.length < 30 → nextO x z v = none ∨ ∃ u, nextO x z v = some u ∧ b < u
  more : ∀ v, l.getLast? = some v → 30 < m → ∃ u, nextO x z v = some u ∧ u ≤ b
set_option maxRecDepth 100000 in
set_option maxHeartbeats 4000000 in
theorem walk_nil (x : Exp.Ex) (z a f s f1 s1 b c : Int) (n : Nat) (w : World) (L : LayM w) (hx : x.Bd) (N : Nums a f s f1 s1 b c) (he : errC x z [a, b] = 0) (he2 : errC x z [b + 1, c + 1] = 0) (he3 : errC x z [a, c + 1] = 0)
    (hm : countN x z a b = 0) (hn : countN x z (b + 1) (c + 1) = n) (hall : countN x z a (c + 1) = n) (wn : IntKind.i64.wrap (n : Int) = n) (hl : listO x z a b 30 = []) :
    Calls Tryd.prog 10 #[.agg #[.int .u64 x.a0, .int .u64 x.a1, .int .u64 x.a2, .int .u64 x.a3, .int .u64 x.a4, .int .u64 x.a5, .bool x.b3, .bool x.b5], .int .i64 z, .int .i64 a, .int .u32 f, .int .u32 s] w fun e w' => e = .returned (.bool true) ∧ Below w.heap.size w w' := by
  obtain ⟨w1, w2, w3, w4, w5, w6, w7, w8, a0, a1, ab, bc, c1⟩ := N
  have t1 : decide (a < 0) = false := by rw [decide_eq_false_iff_not]; omega
  have t2 : decide (253402300799 < a) = false := by rw [decide_eq_false_iff_not]; omega
  have t3 : decide (253402300799 ≤ c) = false := by rw [decide_eq_false_iff_not]; omega
  have Q := Lib.hid ((MC.start L).box x)
  have C1 := Lib.hid (fun l W (h : MC w l W) => h.count x hx z a b 0 0 (by rw [he, if_pos rfl, hm]) he)
  have C2 := Lib.hid (fun l W (h : MC w l W) => h.count x hx z (b + 1) (c + 1) n 0 (by rw [he2, if_pos rfl, hn]) he2)
  have C3 := Lib.hid (fun l W (h : MC w l W) => h.count x hx z a (c + 1) n 0 (by rw [he3, if_pos rfl, hall]) he3)
  have LI := Lib.hid (fun l W (h : MC w l W) => h.list x hx z a b 30 [] 0 hl he)
  clear hx he he2 he3 hm hn hall hl a0 a1 ab bc c1 L
  go_enter Tryd.func10, Tryd.ntmps10
  go_wp2_with fail
  refine (C1.out _ _ Q.out).mono ?_
  rintro e' wc6 ⟨rfl, q⟩
  obtain ⟨B, hB⟩ : ∃ B, w.heap.size = B := ⟨_, rfl⟩
  rw [hB] at q
  obtain ⟨c0, c1, c2, c3, c4, c5, c6, c7⟩ := q.cells B x (by simp)
  have Q := Lib.hid q
  clear q
  go_wp2_with fail
  refine (C2.out _ _ Q.out).mono ?_
  rintro e' wc7 ⟨rfl, q⟩
  obtain ⟨c0, c1, c2, c3, c4, c5, c6, c7⟩ := q.cells B x (by simp)
  have Q := Lib.hid q
  clear q
  go_wp2_with fail
  refine (C3.out _ _ Q.out).mono ?_
  rintro e' wc8 ⟨rfl, q⟩
  obtain ⟨c0, c1, c2, c3, c4, c5, c6, c7⟩ := q.cells B x (by simp)
  have Q := Lib.hid q
  clear q
  go_wp2_with fail
  refine (LI.out _ _ Q.out).mono ?_
  rintro e' w9 ⟨A, cap, rfl, _, q⟩
  have Q := Lib.hid q
  clear q
  go_wp2_with fail
  go_loopw [21] (fun iv wr => iv = .int .i64 0 ∧ Hid (MC w [(B, x)] wr)) (fun iv _ => 0)
  case atStart => exact ⟨rfl, Q⟩
  case round =>
    obtain ⟨rfl, Q⟩ := hrel
    go_wp2_with fail
    refine (MC.works Q.out).mono ?_
    rintro e' wc9 ⟨rfl, q⟩
    have Q := Lib.hid q
    clear q
    go_wp2_with fail
    go_ret
    exact ⟨rfl, Q.out.below⟩
/-- List, its slice taken apart -/
theorem lst_any {w W : World} {B : Nat} {x : Exp.Ex} (h : MC w [(B, x)] W) (hx : x.Bd) (z a b : Int) (l : List Int) (e : Nat) (hr : listO x z a b 30 = l) (hl : l.length = e + 1) (he : errC x z [a, b] = 0) :
    Calls Tryd.prog 26 #[.agg #[.int .u64 x.a0, .int .u64 x.a1, .int .u64 x.a2, .int .u64 x.a3, .int .u64 x.a4, .int .u64 x.a5, .bool x.b3, .bool x.b5], .int .i64 z, .int .i64 a, .int .i64 b, .int .i64 30] W fun e' W' => ∃ g o cap, e' = .returned (.tuple #[.slice (some ⟨g, o, none⟩) (e + 1) cap, .int .i64 0]) ∧ SC w B x g o l W' :=
  (h.list x hx z a b 30 l 0 hr he).mono fun e' W' ⟨A, cap, h1, h2, h3⟩ => by
    obtain ⟨A', cap', e1, h2⟩ := h2
    cases e1
    obtain ⟨g, o, e2, _⟩ := h2 0 (l[0]'(by omega)) (List.getElem?_eq_getElem _)
    subst e2
    refine ⟨g, o, cap, by rw [h1, hl], h3, fun j v hj => ?_⟩
    obtain ⟨g', o', e3, h4⟩ := h2 j v hj
    cases e3
    exact h4
set_option maxRecDepth 100000 in
set_option maxHeartbeats 8000000 in
theorem walk_some (x : Exp.Ex) (z a f s f1 s1 b c : Int) (m n q0 e : Nat) (l : List Int) (w : World) (L : LayM w) (hx : x.Bd) (N : Nums a f s f1 s1 b c) (he : errC x z [a, b] = 0) (he2 : errC x z [b + 1, c + 1] = 0) (he3 : errC x z [a, c + 1] = 0)
    (hm : countN x z a b = m) (hn : countN x z (b + 1) (c + 1) = n) (hall : countN x z a (c + 1) = q0) (wn : IntKind.i64.wrap ((m : Int) + (n : Int)) = q0) (hl : listO x z a b 30 = l) (hlen : l.length = e + 1) (K : Lst x z a b l m) :
    Calls Tryd.prog 10 #[.agg #[.int .u64 x.a0, .int .u64 x.a1, .int .u64 x.a2, .int .u64 x.a3, .int .u64 x.a4, .int .u64 x.a5, .bool x.b3, .bool x.b5], .int .i64 z, .int .i64 a, .int .u32 f, .int .u32 s] w fun e w' => e = .returned (.bool true) ∧ Below w.heap.size w w' := by
  obtain ⟨w1, w2, w3, w4, w5, w6, w7, w8, a0, a1, ab, bc, c1⟩ := N
  have t1 : decide (a < 0) = false := by rw [decide_eq_false_iff_not]; omega
  have t2 : decide (253402300799 < a) = false := by rw [decide_eq_false_iff_not]; omega
  have t3 : decide (253402300799 ≤ c) = false := by rw [decide_eq_false_iff_not]; omega
  have klen := K.len
  have hmin : min (m : Int) 30 = (e : Int) + 1 := by omega
  have e30 : e ≤ 29 := by omega
  have z1 : ((e : Int) + 1 == 0) = false := by rw [beq_eq_false_iff_ne]; omega
  have wl : IntKind.i64.wrap ((e : Int) + 1 - 1) = (e : Int) := by rw [IntKind.wrap_i64]; omega
  have Q := Lib.hid ((MC.start L).box x)
  have C1 := Lib.hid (fun l W (h : MC w l W) => h.count x hx z a b m 0 (by rw [he, if_pos rfl, hm]) he)
  have C2 := Lib.hid (fun l W (h : MC w l W) => h.count x hx z (b + 1) (c + 1) n 0 (by rw [he2, if_pos rfl, hn]) he2)
  have C3 := Lib.hid (fun l W (h : MC w l W) => h.count x hx z a (c + 1) q0 0 (by rw [he3, if_pos rfl, hall]) he3)
  have LI := Lib.hid (fun B W (h : MC w [(B, x)] W) => lst_any h hx z a b l e hl hlen he)
  have HX := Lib.hid hx
  have KK := Lib.hid K
  have HN := Lib.hid hlen
  have HM := Lib.hid klen
  clear hx he he2 he3 hm hn hall hl a0 a1 ab bc c1 L K hlen klen
  go_enter Tryd.func10, Tryd.ntmps10
  go_wp2_with fail
  refine (C1.out _ _ Q.out).mono ?_
  rintro e' wc10 ⟨rfl, q⟩
  obtain ⟨B, hB⟩ : ∃ B, w.heap.size = B := ⟨_, rfl⟩
  rw [hB] at q
  obtain ⟨c0, c1, c2, c3, c4, c5, c6, c7⟩ := q.cells B x (by simp)
  have Q := Lib.hid q
  clear q
  go_wp2_with fail
  refine (C2.out _ _ Q.out).mono ?_
  rintro e' wc11 ⟨rfl, q⟩
  obtain ⟨c0, c1, c2, c3, c4, c5, c6, c7⟩ := q.cells B x (by simp)
  have Q := Lib.hid q
  clear q
  go_wp2_with fail
  refine (C3.out _ _ Q.out).mono ?_
  rintro e' wc12 ⟨rfl, q⟩
  obtain ⟨c0, c1, c2, c3, c4, c5, c6, c7⟩ := q.cells B x (by simp)
  have Q := Lib.hid q
  clear q
  go_wp2_with fail
  refine (LI.out _ _ Q.out).mono ?_
  rintro e' w9 ⟨g, o, cap, rfl, q⟩
  have Q := Lib.hid q
  clear q c0 c1 c2 c3 c4 c5 c6 c7
  go_wp2_with fail
  go_loopw [21] (fun iv wr => ∃ i : Nat, i ≤ e + 1 ∧ iv = .int .i64 i ∧ Hid (SC w B x g o l wr)) (fun iv _ => 40 - (intOf iv).toNat)
  case atStart => exact ⟨0, by omega, rfl, Q⟩
  case round =>
    obtain ⟨i, hi, rfl, Q⟩ := hrel
    obtain ⟨c0, c1, c2, c3, c4, c5, c6, c7⟩ := Q.out.mc.cells B x (by simp)
    by_cases hlt : i < e + 1
    · obtain ⟨v, hv⟩ : ∃ v, l[i]? = some v := ⟨_, List.getElem?_eq_getElem (by have := HN.out; omega)⟩
      obtain ⟨k1, k2, k3, k4⟩ := KK.out.at0 i v hv
      have IV := Lib.hid (fun W (h : SC w B x g o l W) => h.is HX.out z v true 0 k3 k4)
      have HV := Lib.hid hv
      have cv := Q.out.at0 i v hv
      have d1 : decide ((i : Int) < (e : Int) + 1) = true := by rw [decide_eq_true_iff]; omega
      have d3 : decide (v < a) = false := by rw [decide_eq_false_iff_not]; omega
      have d4 : decide (b < v) = false := by rw [decide_eq_false_iff_not]; omega
      have wi : IntKind.i64.wrap ((i : Int) + 1) = (i : Int) + 1 := by rw [IntKind.wrap_i64]; omega
      have HL := Lib.hid (And.intro hlt e30)
      have b0 : (0 : Int) ≤ (i : Int) := by omega
      have b1 : (i : Int) < (e : Int) + 1 := by omega
      by_cases hp : 0 < i
      · obtain ⟨j, hj⟩ : ∃ j, i = j + 1 := ⟨i - 1, by omega⟩
        obtain ⟨u, hu⟩ : ∃ u, l[j]? = some u := ⟨_, List.getElem?_eq_getElem (by have := HN.out; omega)⟩
        have up := (KK.out.up j u v hu (by rw [← hj]; exact hv)).1
        have HU := Lib.hid hu
        have cu := Q.out.at0 j u hu
        have d5 : decide (0 < (i : Int)) = true := by rw [decide_eq_true_iff]; omega
        have d5n : decide (0 < i) = true := decide_eq_true hp
        have d6 : decide (v ≤ u) = false := by rw [decide_eq_false_iff_not]; omega
        have wj : IntKind.i64.wrap ((i : Int) - 1) = (j : Int) := by rw [IntKind.wrap_i64]; omega
        have HJ := Lib.hid hj
        have lj : j < e + 1 := by omega
        clear hv k1 k2 k3 k4 hu hj up
        go_wp2_with fail
        go_region_held3 (fun w' => w'.cell? ⟨B, 0, none⟩ = some (.int .u64 x.a0) ∧ w'.cell? ⟨B, 1, none⟩ = some (.int .u64 x.a1) ∧ w'.cell? ⟨B, 2, none⟩ = some (.int .u64 x.a2) ∧ w'.cell? ⟨B, 3, none⟩ = some (.int .u64 x.a3) ∧ w'.cell? ⟨B, 4, none⟩ = some (.int .u64 x.a4) ∧ w'.cell? ⟨B, 5, none⟩ = some (.int .u64 x.a5) ∧ w'.cell? ⟨B, 6, none⟩ = some (.bool x.b3) ∧ w'.cell? ⟨B, 7, none⟩ = some (.bool x.b5) ∧ w'.cell? ⟨g, o + i, none⟩ = some (.int .i64 v)) (go_keep)
          (first | (go_at_call 17; refine (IV.out _ (by first | exact Q.out | exact Q.out.drew)).mono ?_; rintro e' w20 ⟨rfl, q⟩; obtain ⟨c0, c1, c2, c3, c4, c5, c6, c7⟩ := q.mc.cells B x (by simp); have cv := q.at0 _ _ HV.out; have cu := q.at0 _ _ HU.out; have Q := Lib.hid q; clear q))
        go_wp2_with fail
        go_quiet (fail)
        go_wp2_with fail
        go_roundw
        case rel => exact ⟨i + 1, by omega, by go_num, Lib.hid (by first | exact Q.out | exact Q.out.drew | exact Q.out.drewN _)⟩
        case measure => simp [intOf]; have := HL.out; omega
      · have d5 : decide (0 < (i : Int)) = false := by rw [decide_eq_false_iff_not]; omega
        have d5n : decide (0 < i) = false := decide_eq_false hp
        clear hv k1 k2 k3 k4
        go_wp2_with fail
        go_region_held3 (fun w' => w'.cell? ⟨B, 0, none⟩ = some (.int .u64 x.a0) ∧ w'.cell? ⟨B, 1, none⟩ = some (.int .u64 x.a1) ∧ w'.cell? ⟨B, 2, none⟩ = some (.int .u64 x.a2) ∧ w'.cell? ⟨B, 3, none⟩ = some (.int .u64 x.a3) ∧ w'.cell? ⟨B, 4, none⟩ = some (.int .u64 x.a4) ∧ w'.cell? ⟨B, 5, none⟩ = some (.int .u64 x.a5) ∧ w'.cell? ⟨B, 6, none⟩ = some (.bool x.b3) ∧ w'.cell? ⟨B, 7, none⟩ = some (.bool x.b5) ∧ w'.cell? ⟨g, o + i, none⟩ = some (.int .i64 v)) (go_keep)
          (first | (go_at_call 17; refine (IV.out _ (by first | exact Q.out | exact Q.out.drew)).mono ?_; rintro e' w20 ⟨rfl, q⟩; obtain ⟨c0, c1, c2, c3, c4, c5, c6, c7⟩ := q.mc.cells B x (by simp); have cv := q.at0 _ _ HV.out; have Q := Lib.hid q; clear q))
        go_wp2_with fail
        go_quiet (fail)
        go_wp2_with fail
        go_roundw
        case rel => exact ⟨i + 1, by omega, by go_num, Lib.hid (by first | exact Q.out | exact Q.out.drew | exact Q.out.drewN _)⟩
        case measure => simp [intOf]; have := HL.out; omega
    · have d1 : decide ((i : Int) < (e : Int) + 1) = false := by rw [decide_eq_false_iff_not]; omega
      clear hlt hi
      obtain ⟨r, hr⟩ : ∃ r, f.tmod 2 = r := ⟨_, rfl⟩
      by_cases hcase : r = 0 ∧ 1 ≤ e
      · obtain ⟨hr0, he1⟩ := hcase
        have p1 : (r == 0) = true := by rw [hr0]; rfl
        have p2 : decide ((1 : Int) < (e : Int) + 1) = true := by rw [decide_eq_true_iff]; omega
        have p3 : decide (1 < e + 1) = true := by rw [decide_eq_true_iff]; omega
        have p4 : decide (0 < e) = true := by rw [decide_eq_true_iff]; omega
        obtain ⟨v, hv⟩ : ∃ v, l[0]? = some v := ⟨_, List.getElem?_eq_getElem (by have := HN.out; omega)⟩
        obtain ⟨u, hu⟩ : ∃ u, l[1]? = some u := ⟨_, List.getElem?_eq_getElem (by have := HN.out; omega)⟩
        have up := (KK.out.up 0 v u hv hu).2
        obtain ⟨k1, k2, k3, k4⟩ := KK.out.at0 0 v hv
        have NV := Lib.hid (fun W (h : SC w B x g o l W) => h.toNext HX.out z v u true 0 (by rw [up]; rfl) (by rw [up]; rfl) k4)
        have HV := Lib.hid hv
        have HU := Lib.hid hu
        have cv := Q.out.at0 0 v hv
        have cu := Q.out.at0 1 u hu
        rw [Nat.add_zero] at cv
        have b1 : (1 : Int) < (e : Int) + 1 := by omega
        clear hr0 hv hu up k1 k2 k3 k4
        go_wp2_with fail
        go_region_held3 (fun w' => w'.cell? ⟨B, 0, none⟩ = some (.int .u64 x.a0) ∧ w'.cell? ⟨B, 1, none⟩ = some (.int .u64 x.a1) ∧ w'.cell? ⟨B, 2, none⟩ = some (.int .u64 x.a2) ∧ w'.cell? ⟨B, 3, none⟩ = some (.int .u64 x.a3) ∧ w'.cell? ⟨B, 4, none⟩ = some (.int .u64 x.a4) ∧ w'.cell? ⟨B, 5, none⟩ = some (.int .u64 x.a5) ∧ w'.cell? ⟨B, 6, none⟩ = some (.bool x.b3) ∧ w'.cell? ⟨B, 7, none⟩ = some (.bool x.b5) ∧ w'.cell? ⟨g, o, none⟩ = some (.int .i64 v)) (go_keep)
          (first | (go_at_call 22; refine (NV.out _ (by first | exact Q.out | exact Q.out.drew)).mono ?_; rintro e' w20 ⟨rfl, q⟩; obtain ⟨c0, c1, c2, c3, c4, c5, c6, c7⟩ := q.mc.cells B x (by simp); have cv := q.at0 _ _ HV.out; rw [Nat.add_zero] at cv; have cu := q.at0 _ _ HU.out; have Q := Lib.hid q; clear q))
        go_wp2_with fail
        refine (SC.works (by first | exact Q.out | exact Q.out.drewN _)).mono ?_
        rintro e' w30 ⟨rfl, q⟩
        have Q := Lib.hid q
        clear q
        go_wp2_with fail
        go_ret
        exact ⟨rfl, Q.out.mc.below⟩
      · obtain ⟨v, hv⟩ : ∃ v, l[e]? = some v := ⟨_, List.getElem?_eq_getElem (by have := HN.out; omega)⟩
        obtain ⟨k1, k2, k3, k4⟩ := KK.out.at0 e v hv
        have hlast : l.getLast? = some v := by rw [List.getLast?_eq_getElem?, HN.out]; simpa using hv
        obtain ⟨t, ht⟩ : ∃ t, (nextO x z v).getD 0 = t := ⟨_, rfl⟩
        obtain ⟨ok, hok⟩ : ∃ r, (nextO x z v).isSome = r := ⟨_, rfl⟩
        have HO : (e + 1 < 30 ∧ ok = false) ∨ (e + 1 < 30 ∧ ok = true ∧ b < t) ∨ (e + 1 = 30 ∧ m = 30) ∨ (e + 1 = 30 ∧ m ≠ 30 ∧ ok = true ∧ t ≤ b) := by
          have hl := HN.out
          have hmm := HM.out
          by_cases q : e + 1 < 30
          · rcases KK.out.few v hlast (by omega) with h | ⟨u, h, hu⟩
            · rw [h] at hok; exact .inl ⟨q, hok.symm⟩
            · rw [h] at hok ht
              obtain rfl : u = t := ht
              exact .inr (.inl ⟨q, hok.symm, hu⟩)
          · by_cases q2 : m = 30
            · exact .inr (.inr (.inl ⟨by omega, q2⟩))
            · obtain ⟨u, h, hu⟩ := KK.out.more v hlast (by omega)
              rw [h] at hok ht
              obtain rfl : u = t := ht
              exact .inr (.inr (.inr ⟨by omega, q2, hok.symm, hu⟩))
        have NV := Lib.hid (fun W (h : SC w B x g o l W) => h.toNext HX.out z v t ok 0 ht hok k4)
        have HV := Lib.hid hv
        have cv := Q.out.at0 e v hv
        have b0 : (0 : Int) ≤ (e : Int) := by omega
        have b1 : (e : Int) < (e : Int) + 1 := by omega
        have b2 : e < e + 1 := by omega
        have b3 : (e : Int) < ((e + 1 : Nat) : Int) := by omega
        have wl3 : IntKind.i64.wrap (e : Int) = (e : Int) := by rw [IntKind.wrap_i64]; omega
        have wl2 : IntKind.i64.wrap (((e + 1 : Nat) : Int) - 1) = (e : Int) := by rw [IntKind.wrap_i64]; omega
        clear hv k1 k2 k3 k4 hlast ht hok
        have HR : ((r == 0) = false) ∨ ((r == 0) = true ∧ e = 0) := by
          by_cases q : r = 0
          · exact .inr ⟨by rw [q]; rfl, by omega⟩
          · exact .inl (by rw [beq_eq_false_iff_ne]; exact q)
        clear hcase
        rcases HR with p1 | ⟨p1, p2⟩
        · have p9 : decide ((1 : Int) < (e : Int) + 1) = decide ((1 : Int) < (e : Int) + 1) := rfl
          clear p9
          rcases HO with ⟨o1, rfl⟩ | ⟨o1, rfl, o2⟩ | ⟨o1, o2⟩ | ⟨o1, o2, rfl, o3⟩
          · have d30 : decide ((e : Int) + 1 < 30) = true := by rw [decide_eq_true_iff]; omega
            clear o1
            go_wp2_with fail
            go_region_held3 (fun w' => w'.cell? ⟨B, 0, none⟩ = some (.int .u64 x.a0) ∧ w'.cell? ⟨B, 1, none⟩ = some (.int .u64 x.a1) ∧ w'.cell? ⟨B, 2, none⟩ = some (.int .u64 x.a2) ∧ w'.cell? ⟨B, 3, none⟩ = some (.int .u64 x.a3) ∧ w'.cell? ⟨B, 4, none⟩ = some (.int .u64 x.a4) ∧ w'.cell? ⟨B, 5, none⟩ = some (.int .u64 x.a5) ∧ w'.cell? ⟨B, 6, none⟩ = some (.bool x.b3) ∧ w'.cell? ⟨B, 7, none⟩ = some (.bool x.b5) ∧ w'.cell? ⟨g, o + e, none⟩ = some (.int .i64 v)) (go_keep)
              (first | (go_at_call 22; refine (NV.out _ (by first | exact Q.out | exact Q.out.drew)).mono ?_; rintro e' w20 ⟨rfl, q⟩; obtain ⟨c0, c1, c2, c3, c4, c5, c6, c7⟩ := q.mc.cells B x (by simp); have cv := q.at0 _ _ HV.out; have Q := Lib.hid q; clear q))
            go_wp2_with fail
            refine (SC.works (by first | exact Q.out | exact Q.out.drewN _)).mono ?_
            rintro e' w30 ⟨rfl, q⟩
            have Q := Lib.hid q
            clear q
            go_wp2_with fail
            go_ret
            exact ⟨rfl, Q.out.mc.below⟩
          · have d30 : decide ((e : Int) + 1 < 30) = true := by rw [decide_eq_true_iff]; omega
            have d31 : decide (b < t) = true := decide_eq_true o2
            clear o1 o2
            go_wp2_with fail
            go_region_held3 (fun w' => w'.cell? ⟨B, 0, none⟩ = some (.int .u64 x.a0) ∧ w'.cell? ⟨B, 1, none⟩ = some (.int .u64 x.a1) ∧ w'.cell? ⟨B, 2, none⟩ = some (.int .u64 x.a2) ∧ w'.cell? ⟨B, 3, none⟩ = some (.int .u64 x.a3) ∧ w'.cell? ⟨B, 4, none⟩ = some (.int .u64 x.a4) ∧ w'.cell? ⟨B, 5, none⟩ = some (.int .u64 x.a5) ∧ w'.cell? ⟨B, 6, none⟩ = some (.bool x.b3) ∧ w'.cell? ⟨B, 7, none⟩ = some (.bool x.b5) ∧ w'.cell? ⟨g, o + e, none⟩ = some (.int .i64 v)) (go_keep)
              (first | (go_at_call 22; refine (NV.out _ (by first | exact Q.out | exact Q.out.drew)).mono ?_; rintro e' w20 ⟨rfl, q⟩; obtain ⟨c0, c1, c2, c3, c4, c5, c6, c7⟩ := q.mc.cells B x (by simp); have cv := q.at0 _ _ HV.out; have Q := Lib.hid q; clear q))
            go_wp2_with fail
            refine (SC.works (by first | exact Q.out | exact Q.out.drewN _)).mono ?_
            rintro e' w30 ⟨rfl, q⟩
            have Q := Lib.hid q
            clear q
            go_wp2_with fail
            go_ret
            exact ⟨rfl, Q.out.mc.below⟩
          · have d30 : decide ((e : Int) + 1 < 30) = false := by rw [decide_eq_false_iff_not]; omega
            have d31 : ((e : Int) + 1 == 30) = true := by rw [beq_iff_eq]; omega
            have d32 : ((m : Int) == 30) = true := by rw [beq_iff_eq]; omega
            clear o1 o2
            go_wp2_with fail
            go_region_held3 (fun w' => w'.cell? ⟨B, 0, none⟩ = some (.int .u64 x.a0) ∧ w'.cell? ⟨B, 1, none⟩ = some (.int .u64 x.a1) ∧ w'.cell? ⟨B, 2, none⟩ = some (.int .u64 x.a2) ∧ w'.cell? ⟨B, 3, none⟩ = some (.int .u64 x.a3) ∧ w'.cell? ⟨B, 4, none⟩ = some (.int .u64 x.a4) ∧ w'.cell? ⟨B, 5, none⟩ = some (.int .u64 x.a5) ∧ w'.cell? ⟨B, 6, none⟩ = some (.bool x.b3) ∧ w'.cell? ⟨B, 7, none⟩ = some (.bool x.b5) ∧ w'.cell? ⟨g, o + e, none⟩ = some (.int .i64 v)) (go_keep)
              (first | (go_at_call 22; refine (NV.out _ (by first | exact Q.out | exact Q.out.drew)).mono ?_; rintro e' w20 ⟨rfl, q⟩; obtain ⟨c0, c1, c2, c3, c4, c5, c6, c7⟩ := q.mc.cells B x (by simp); have cv := q.at0 _ _ HV.out; have Q := Lib.hid q; clear q))
            go_wp2_with fail
            refine (SC.works (by first | exact Q.out | exact Q.out.drewN _)).mono ?_
            rintro e' w30 ⟨rfl, q⟩
            have Q := Lib.hid q
            clear q
            go_wp2_with fail
            go_ret
            exact ⟨rfl, Q.out.mc.below⟩
          · have d30 : decide ((e : Int) + 1 < 30) = false := by rw [decide_eq_false_iff_not]; omega
            have d31 : ((e : Int) + 1 == 30) = true := by rw [beq_iff_eq]; omega
            have d32 : ((m : Int) == 30) = false := by rw [beq_eq_false_iff_ne]; omega
            have d33 : decide (t ≤ b) = true := decide_eq_true o3
            clear o1 o2 o3
            go_wp2_with fail
            go_region_held3 (fun w' => w'.cell? ⟨B, 0, none⟩ = some (.int .u64 x.a0) ∧ w'.cell? ⟨B, 1, none⟩ = some (.int .u64 x.a1) ∧ w'.cell? ⟨B, 2, none⟩ = some (.int .u64 x.a2) ∧ w'.cell? ⟨B, 3, none⟩ = some (.int .u64 x.a3) ∧ w'.cell? ⟨B, 4, none⟩ = some (.int .u64 x.a4) ∧ w'.cell? ⟨B, 5, none⟩ = some (.int .u64 x.a5) ∧ w'.cell? ⟨B, 6, none⟩ = some (.bool x.b3) ∧ w'.cell? ⟨B, 7, none⟩ = some (.bool x.b5) ∧ w'.cell? ⟨g, o + e, none⟩ = some (.int .i64 v)) (go_keep)
              (first | (go_at_call 22; refine (NV.out _ (by first | exact Q.out | exact Q.out.drew)).mono ?_; rintro e' w20 ⟨rfl, q⟩; obtain ⟨c0, c1, c2, c3, c4, c5, c6, c7⟩ := q.mc.cells B x (by simp); have cv := q.at0 _ _ HV.out; have Q := Lib.hid q; clear q))
            go_wp2_with fail
            refine (SC.works (by first | exact Q.out | exact Q.out.drewN _)).mono ?_
            rintro e' w30 ⟨rfl, q⟩
            have Q := Lib.hid q
            clear q
            go_wp2_with fail
            go_ret
            exact ⟨rfl, Q.out.mc.below⟩
        · have p3 : decide ((1 : Int) < (e : Int) + 1) = false := by rw [decide_eq_false_iff_not]; omega
          have p4 : decide (0 < e) = false := by rw [decide_eq_false_iff_not]; omega
          have p5 : decide (1 < e + 1) = false := by rw [decide_eq_false_iff_not]; omega
          clear p2
          rcases HO with ⟨o1, rfl⟩ | ⟨o1, rfl, o2⟩ | ⟨o1, o2⟩ | ⟨o1, o2, rfl, o3⟩
          · have d30 : decide ((e : Int) + 1 < 30) = true := by rw [decide_eq_true_iff]; omega
            clear o1
            go_wp2_with fail
            go_region_held3 (fun w' => w'.cell? ⟨B, 0, none⟩ = some (.int .u64 x.a0) ∧ w'.cell? ⟨B, 1, none⟩ = some (.int .u64 x.a1) ∧ w'.cell? ⟨B, 2, none⟩ = some (.int .u64 x.a2) ∧ w'.cell? ⟨B, 3, none⟩ = some (.int .u64 x.a3) ∧ w'.cell? ⟨B, 4, none⟩ = some (.int .u64 x.a4) ∧ w'.cell? ⟨B, 5, none⟩ = some (.int .u64 x.a5) ∧ w'.cell? ⟨B, 6, none⟩ = some (.bool x.b3) ∧ w'.cell? ⟨B, 7, none⟩ = some (.bool x.b5) ∧ w'.cell? ⟨g, o + e, none⟩ = some (.int .i64 v)) (go_keep)
              (first | (go_at_call 22; refine (NV.out _ (by first | exact Q.out | exact Q.out.drew)).mono ?_; rintro e' w20 ⟨rfl, q⟩; obtain ⟨c0, c1, c2, c3, c4, c5, c6, c7⟩ := q.mc.cells B x (by simp); have cv := q.at0 _ _ HV.out; have Q := Lib.hid q; clear q))
            go_wp2_with fail
            refine (SC.works (by first | exact Q.out | exact Q.out.drewN _)).mono ?_
            rintro e' w30 ⟨rfl, q⟩
            have Q := Lib.hid q
            clear q
            go_wp2_with fail
            go_ret
            exact ⟨rfl, Q.out.mc.below⟩
          · have d30 : decide ((e : Int) + 1 < 30) = true := by rw [decide_eq_true_iff]; omega
            have d31 : decide (b < t) = true := decide_eq_true o2
            clear o1 o2
            go_wp2_with fail
            go_region_held3 (fun w' => w'.cell? ⟨B, 0, none⟩ = some (.int .u64 x.a0) ∧ w'.cell? ⟨B, 1, none⟩ = some (.int .u64 x.a1) ∧ w'.cell? ⟨B, 2, none⟩ = some (.int .u64 x.a2) ∧ w'.cell? ⟨B, 3, none⟩ = some (.int .u64 x.a3) ∧ w'.cell? ⟨B, 4, none⟩ = some (.int .u64 x.a4) ∧ w'.cell? ⟨B, 5, none⟩ = some (.int .u64 x.a5) ∧ w'.cell? ⟨B, 6, none⟩ = some (.bool x.b3) ∧ w'.cell? ⟨B, 7, none⟩ = some (.bool x.b5) ∧ w'.cell? ⟨g, o + e, none⟩ = some (.int .i64 v)) (go_keep)
              (first | (go_at_call 22; refine (NV.out _ (by first | exact Q.out | exact Q.out.drew)).mono ?_; rintro e' w20 ⟨rfl, q⟩; obtain ⟨c0, c1, c2, c3, c4, c5, c6, c7⟩ := q.mc.cells B x (by simp); have cv := q.at0 _ _ HV.out; have Q := Lib.hid q; clear q))
            go_wp2_with fail
            refine (SC.works (by first | exact Q.out | exact Q.out.drewN _)).mono ?_
            rintro e' w30 ⟨rfl, q⟩
            have Q := Lib.hid q
            clear q
            go_wp2_with fail
            go_ret
            exact ⟨rfl, Q.out.mc.below⟩
          · have d30 : decide ((e : Int) + 1 < 30) = false := by rw [decide_eq_false_iff_not]; omega
            have d31 : ((e : Int) + 1 == 30) = true := by rw [beq_iff_eq]; omega
            have d32 : ((m : Int) == 30) = true := by rw [beq_iff_eq]; omega
            clear o1 o2
            go_wp2_with fail
            go_region_held3 (fun w' => w'.cell? ⟨B, 0, none⟩ = some (.int .u64 x.a0) ∧ w'.cell? ⟨B, 1, none⟩ = some (.int .u64 x.a1) ∧ w'.cell? ⟨B, 2, none⟩ = some (.int .u64 x.a2) ∧ w'.cell? ⟨B, 3, none⟩ = some (.int .u64 x.a3) ∧ w'.cell? ⟨B, 4, none⟩ = some (.int .u64 x.a4) ∧ w'.cell? ⟨B, 5, none⟩ = some (.int .u64 x.a5) ∧ w'.cell? ⟨B, 6, none⟩ = some (.bool x.b3) ∧ w'.cell? ⟨B, 7, none⟩ = some (.bool x.b5) ∧ w'.cell? ⟨g, o + e, none⟩ = some (.int .i64 v)) (go_keep)
              (first | (go_at_call 22; refine (NV.out _ (by first | exact Q.out | exact Q.out.drew)).mono ?_; rintro e' w20 ⟨rfl, q⟩; obtain ⟨c0, c1, c2, c3, c4, c5, c6, c7⟩ := q.mc.cells B x (by simp); have cv := q.at0 _ _ HV.out; have Q := Lib.hid q; clear q))
            go_wp2_with fail
            refine (SC.works (by first | exact Q.out | exact Q.out.drewN _)).mono ?_
            rintro e' w30 ⟨rfl, q⟩
            have Q := Lib.hid q
            clear q
            go_wp2_with fail
            go_ret
            exact ⟨rfl, Q.out.mc.below⟩
          · have d30 : decide ((e : Int) + 1 < 30) = false := by rw [decide_eq_false_iff_not]; omega
            have d31 : ((e : Int) + 1 == 30) = true := by rw [beq_iff_eq]; omega
            have d32 : ((m : Int) == 30) = false := by rw [beq_eq_false_iff_ne]; omega
            have d33 : decide (t ≤ b) = true := decide_eq_true o3
            clear o1 o2 o3
            go_wp2_with fail
            go_region_held3 (fun w' => w'.cell? ⟨B, 0, none⟩ = some (.int .u64 x.a0) ∧ w'.cell? ⟨B, 1, none⟩ = some (.int .u64 x.a1) ∧ w'.cell? ⟨B, 2, none⟩ = some (.int .u64 x.a2) ∧ w'.cell? ⟨B, 3, none⟩ = some (.int .u64 x.a3) ∧ w'.cell? ⟨B, 4, none⟩ = some (.int .u64 x.a4) ∧ w'.cell? ⟨B, 5, none⟩ = some (.int .u64 x.a5) ∧ w'.cell? ⟨B, 6, none⟩ = some (.bool x.b3) ∧ w'.cell? ⟨B, 7, none⟩ = some (.bool x.b5) ∧ w'.cell? ⟨g, o + e, none⟩ = some (.int .i64 v)) (go_keep)
              (first | (go_at_call 22; refine (NV.out _ (by first | exact Q.out | exact Q.out.drew)).mono ?_; rintro e' w20 ⟨rfl, q⟩; obtain ⟨c0, c1, c2, c3, c4, c5, c6, c7⟩ := q.mc.cells B x (by simp); have cv := q.at0 _ _ HV.out; have Q := Lib.hid q; clear q))
            go_wp2_with fail
            refine (SC.works (by first | exact Q.out | exact Q.out.drewN _)).mono ?_
            rintro e' w30 ⟨rfl, q⟩
            have Q := Lib.hid q
            clear q
            go_wp2_with fail
            go_ret
            exact ⟨rfl, Q.out.mc.below⟩
theorem u32_bd {s : Int} (h : (Lit.int .u32 s).wf = true) : 0 ≤ s := by
  rw [Lit.wf_int_iff] at h
  have h1 : 0 ≤ s ∧ s ≤ 4294967295 := by simpa [IntKind.min, IntKind.max, IntKind.signed, IntKind.bits] using h
  exact h1.1
theorem lst_mk {x : Exp.Ex} {z a b : Int} (he : errC x z [a, b] = 0) : Lst x z a b (listO x z a b 30) (countN x z a b) := by
  obtain ⟨hk, hz, ha, hb⟩ := errC_two he
  have T : Tms (fun s => x.Lm (s + 60 * z)) b 30 a (listO x z a b 30) := listO_is 30 he
  have one : ∀ s, 0 ≤ s → s ≤ 253402300799 → errC x z [s] = 0 := fun s a b => errC_mk hk hz (fun r hr => by
    have : r = s := by simpa using hr
    omega)
  have last : ∀ v, (listO x z a b 30).getLast? = some v → a ≤ v ∧ v ≤ b := fun v hv => by
    rw [List.getLast?_eq_getElem?] at hv
    have := tms_at T _ v hv
    exact ⟨this.1, this.2.1⟩
  refine ⟨fun i v e => ?_, fun i v u e1 e2 => ?_, tms_len T, fun v hv hl => ?_, fun v hv hm => ?_⟩
  · obtain ⟨h1, h2, h3⟩ := tms_at T i v e
    have ev := one v (by omega) (by omega)
    exact ⟨h1, h2, (isO_iff ev).2 h3, ev⟩
  · obtain ⟨h1, h2, h3⟩ := tms_at T i v e1
    have ev := one v (by omega) (by omega)
    obtain ⟨k1, k2, k3, k4⟩ := tms_up T i v u e1 e2
    exact ⟨by omega, Mat.Least.uniq (nextO_is ev) ⟨k1, by omega, k3, k4⟩⟩
  · have hb' := last v hv
    have ev := one v (by omega) (by omega)
    have l := nextO_is ev
    cases hq : nextO x z v with
    | none => exact .inl rfl
    | some u =>
      rw [hq] at l
      obtain ⟨k1, k2, k3, k4⟩ := l
      refine .inr ⟨u, rfl, ?_⟩
      refine Classical.byContradiction fun no => ?_
      exact (tms_last T v hv).1 hl u (by omega) (by omega) k3
  · have hb' := last v hv
    have ev := one v (by omega) (by omega)
    have l := nextO_is ev
    obtain ⟨y, y1, y2, y3⟩ := (tms_last T v hv).2 hm
    cases hq : nextO x z v with
    | none =>
      rw [hq] at l
      exact absurd y3 (l y (by omega) (by omega))
    | some u =>
      rw [hq] at l
      obtain ⟨k1, k2, k3, k4⟩ := l
      refine ⟨u, rfl, ?_⟩
      refine Classical.byContradiction fun no => ?_
      exact k4 y (by omega) (by omega) y3
theorem walk (x : Exp.Ex) (z a f s : Int) (w : World) (L : LayM w) (hx : x.Bd) (_ : (Lit.int .i64 z).wf = true) (_ : (Lit.int .i64 a).wf = true) (hf : (Lit.int .u32 f).wf = true) (hs : (Lit.int .u32 s).wf = true) :
    Calls Tryd.prog 10 #[.agg #[.int .u64 x.a0, .int .u64 x.a1, .int .u64 x.a2, .int .u64 x.a3, .int .u64 x.a4, .int .u64 x.a5, .bool x.b3, .bool x.b5], .int .i64 z, .int .i64 a, .int .u32 f, .int .u32 s] w fun e w' => e = .returned (.bool true) ∧ Below w.heap.size w w' := by
  by_cases a0 : a < 0
  · exact walk_skip x z a f s _ w L (.inl a0) rfl
  by_cases a1 : 253402300799 < a
  · exact walk_skip x z a f s _ w L (.inr (.inl ⟨by omega, a1⟩)) rfl
  have f0 := u32_bd hf
  have s0 := u32_bd hs
  obtain ⟨f1, e1⟩ : ∃ v, f.tmod 17280000 = v := ⟨_, rfl⟩
  obtain ⟨s1, e2⟩ : ∃ v, s.tmod 17280000 = v := ⟨_, rfl⟩
  have g1 : 0 ≤ f1 ∧ f1 < 17280000 := by rw [Int.tmod_eq_emod_of_nonneg f0] at e1; omega
  have g2 : 0 ≤ s1 ∧ s1 < 17280000 := by rw [Int.tmod_eq_emod_of_nonneg s0] at e2; omega
  have w3 : IntKind.i64.wrap f1 = f1 := by rw [IntKind.wrap_i64]; omega
  have w4 : IntKind.i64.wrap s1 = s1 := by rw [IntKind.wrap_i64]; omega
  have w5 : IntKind.i64.wrap (a + f1) = a + f1 := by rw [IntKind.wrap_i64]; omega
  have w6 : IntKind.i64.wrap (a + f1 + s1) = a + f1 + s1 := by rw [IntKind.wrap_i64]; omega
  by_cases c0 : 253402300799 ≤ a + f1 + s1
  · exact walk_skip x z a f s (a + f1 + s1) w L (.inr (.inr ⟨by omega, by omega, c0⟩)) (by rw [e1, e2, w3, w4, w5, w6])
  have N : Nums a f s f1 s1 (a + f1) (a + f1 + s1) := ⟨e1, e2, w3, w4, w5, w6, by rw [IntKind.wrap_i64]; omega, by rw [IntKind.wrap_i64]; omega, by omega, by omega, by omega, by omega, by omega⟩
  by_cases he : errC x z [a, a + f1] = 0
  · obtain ⟨hk, hz, ha, hb⟩ := errC_two he
    have two : ∀ u v, 0 ≤ u → u ≤ 253402300799 → 0 ≤ v → v ≤ 253402300799 → errC x z [u, v] = 0 := fun u v _ _ _ _ => errC_mk hk hz (fun r hr => by
      have : r = u ∨ r = v := by simpa using hr
      omega)
    have he2 := two (a + f1 + 1) (a + f1 + s1 + 1) (by omega) (by omega) (by omega) (by omega)
    have he3 := two a (a + f1 + s1 + 1) (by omega) (by omega) (by omega) (by omega)
    have add := countN_add (x := x) (z := z) (a := a) (b := a + f1) (c := a + f1 + s1 + 1) (by omega) (by omega)
    have q1 : countN x z a (a + f1 + s1 + 1) ≤ 100000000 := by
      unfold countN
      have := cnt_le (fun s => x.Lm (s + 60 * z)) a (a + f1 + s1 + 1 - a + 1).toNat
      omega
    have K := lst_mk he
    cases hl : listO x z a (a + f1) 30 with
    | nil =>
      have len := K.len
      rw [hl] at len
      have m0 : countN x z a (a + f1) = 0 := by simp at len; omega
      refine walk_nil x z a f s f1 s1 (a + f1) (a + f1 + s1) (countN x z a (a + f1 + s1 + 1)) w L hx N he he2 he3 m0 (by omega) rfl (by rw [IntKind.wrap_i64]; omega) hl
    | cons v l =>
      refine walk_some x z a f s f1 s1 (a + f1) (a + f1 + s1) _ _ (countN x z a (a + f1 + s1 + 1)) l.length (v :: l) w L hx N he he2 he3 rfl rfl rfl ?_ hl (by simp) (by rw [← hl]; exact K)
      rw [IntKind.wrap_i64]; omega
  · exact walk_err x z a f s f1 s1 (a + f1) (a + f1 + s1) _ w L hx N rfl he

set_option maxRecDepth 100000 in
theorem lifted (os : Os) (started : os.Started) (H : Type) (enc : TypeId × Value → H) :
    ReturnsInHanded {} Tryd.checked os 10 .any (fun w args => (Rows.matchSumsSpec.pre enc Tryd.prog Tryd.f10 [] false w args ∧ laidMetH Tryd.prog Rows.matchSumsRow.laid w) ∧ sizedMet enc Tryd.prog Tryd.f10 (OpenSpec.ofChange Rows.matchSumsSpec) false w args)
      (Rows.matchSumsSpec.post enc Tryd.prog Tryd.f10 false true false false) := by
  refine returnsInHanded_of_change_and (C := Tryd.checked) (X := fun w _ => laidMetH Tryd.prog Rows.matchSumsRow.laid w) (fun _ _ _ hh h => h.of_heap hh) own started (by kernel_rfl) Tryd.func10
    (ChangeSpec.witness_shaped (enc := enc) (C := Tryd.checked) (os := os) (X := fun w _ => laidMetH Tryd.prog Rows.matchSumsRow.laid w) false (World.laidAll Tryd.prog os Rows.matchSumsRow.laid) #[.agg #[.int .u64 0, .int .u64 0, .int .u64 0, .int .u64 0, .int .u64 0, .int .u64 0, .bool false, .bool false], .int .i64 0, .int .i64 0, .int .u32 0, .int .u32 0] 8 (World.laidAll_os _ _ _) (World.shaped_of_ZipB (by kernel_rfl) (by kernel_rfl)) (by kernel_rfl) (by kernel_rfl) (by kernel_rfl) (by rw [MakeChecks.laidMetH_plain _ _ _ (by kernel_rfl)]; exact laidMet_laidAll _ (by kernel_rfl) (by kernel_rfl))) ?_
  intro W base args ds gs before hval0 hW _ _ hL _
  have hval : ∀ (j : Nat) t v, Tryd.f10.params[j]? = some t → args[j]? = some v → Value.okWide Tryd.prog W .any base t v := hval0
  have hW' := hW
  obtain ⟨p, q, hA0, hV, rfl, hfz, hnd⟩ := hW
  have hA : DataW.TrodAll enc Tryd.prog W 0 (fun _ => true) true Tryd.f10.params.toList args.toList ds p := hA0
  rw [Tryd.params10] at hA hval
  obtain ⟨v0, vs0, d0, ds0, p0, q0, hargs, rfl, rfl, h0, r0⟩ := trodAll_cons hA
  obtain ⟨v1, vs1, d1, ds1, p1, q1, rfl, rfl, rfl, h1, r1⟩ := trodAll_cons r0
  obtain ⟨v2, vs2, d2, ds2, p2, q2, rfl, rfl, rfl, h2, r2⟩ := trodAll_cons r1
  obtain ⟨v3, vs3, d3, ds3, p3, q3, rfl, rfl, rfl, h3, r3⟩ := trodAll_cons r2
  obtain ⟨v4, vs4, d4, ds4, p4, q4, rfl, rfl, rfl, h4, r4⟩ := trodAll_cons r3
  obtain ⟨rfl, rfl, rfl⟩ := trodAll_nil r4
  obtain rfl : args = #[v0, v1, v2, v3, v4] := by cases args; simp_all
  obtain ⟨rfl, rfl⟩ := trodVars_none hV
  obtain ⟨x0, rfl, w0⟩ := open_expr (hval 0 24 v0 rfl rfl) h0
  have k0 := h0
  have lt0 : ∀ x ∈ p0, x.block < W.heap.size := by obtain ⟨m, hm⟩ := k0; exact DataW.trod_lt m _ _ _ hm
  obtain ⟨a1, rfl, rfl, rfl, w1⟩ := open_int Tryd.underlying3 (hval 1 3 v1 rfl rfl) h1
  obtain ⟨a2, rfl, rfl, rfl, w2⟩ := open_int Tryd.underlying2 (hval 2 2 v2 rfl rfl) h2
  obtain ⟨a3, rfl, rfl, rfl, w3⟩ := open_int Tryd.underlying42 (hval 3 42 v3 rfl rfl) h3
  obtain ⟨a4, rfl, rfl, rfl, w4⟩ := open_int Tryd.underlying42 (hval 4 42 v4 rfl rfl) h4
  clear hA0 hval0
  refine (walk x0 a1 a2 a3 a4 W (layM_of _ W (by kernel_rfl) (.head _) (.tail _ (.head _)) (by kernel_rfl) (by kernel_rfl) hL) w0 w1 w2 w3 w4).mono fun e W' ⟨he, bel⟩ => ?_
  subst he
  exact ⟨_, rfl, _, _, _, [], _, [], hW', trodAll_mk1 (shut_bool Tryd.underlying4 _), (trodAll_cons_mk (Below.trod laidOut (by kernel_rfl) (of_decide_eq_true (by kernel_rfl)) k0 bel lt0) (trodAll_cons_mk (shut_int Tryd.underlying3 w1) (trodAll_cons_mk (shut_int Tryd.underlying2 w2) (trodAll_cons_mk (shut_int Tryd.underlying42 w3) (trodAll_cons_mk (shut_int Tryd.underlying42 w4) trodAll_mk0))))), rfl, bel.frame _, fun h => by cases h⟩

theorem row_holds : Rows.MatchSumsSaid :=
  OpenClaim.holds_of_wide 10 Tryd.f10 rfl rfl rfl rfl rfl rfl rfl ⟨rfl, rfl, rfl, rfl, rfl⟩ rfl rfl rfl rfl rfl (by kernel_rfl) Tryd.func10 (by kernel_rfl)
    (of_decide_eq_true (by kernel_rfl)) (by unfold Func.isWrapper; first | (rw [if_pos (by decide +kernel)]; kernel_rfl) | (rw [if_neg (by decide +kernel)]; exact ⟨rfl, rfl⟩))
    (fun os started H enc _ => lifted os started H enc)

theorem proved : Rows.MatchSumsCardSaid :=
  Claim7.holds_tied_plain_at .later [] Rows.matchSumsCard.laidKinds true Rows.matchSumsCard.stood.harness Rows.matchSumsCard.stood.looks
    row_holds (fun _ h => by cases h) (by kernel_rfl) (fun _ h => by cases h) matchSums_row_tie rfl ⟨rfl, rfl⟩ (by kernel_rfl) rfl
    (fun f fn hf hfn => by
      obtain rfl : f = 10 := Option.some.inj ((show Tryd.prog.funcNamed Rows.matchSumsRow.func = some 10 by kernel_rfl).symm.trans hf) |>.symm
      obtain rfl : fn = Tryd.f10 := (Option.some.inj (Tryd.func10.symm.trans hfn)).symm
      exact ⟨looks0, fun j t ht => by
        rw [Tryd.params10] at ht
        have hm : t ∈ [24, 3, 2, 42] := by simpa using Array.mem_of_getElem? ht
        have hall : ([24, 3, 2, 42].all fun u => !Tryd.prog.wantsStandIn u) = true := by kernel_rfl
        exact (show Tryd.prog.wantsStandIn t = false by simpa using List.all_eq_true.1 hall t hm)⟩)
    (by kernel_rfl)

end Go.Proofs.YtbehendogcghjaaDoor.matchSums
