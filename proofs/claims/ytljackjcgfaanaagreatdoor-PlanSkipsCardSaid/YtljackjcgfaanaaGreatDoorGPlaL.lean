/- The examples of the chapter hold: the statements' ints, ever, daily, works. The contexts of the statements: a plan in a box, calls under it. -/
import Derived.Test.YtljackjcgfaanaaGreatDoorGPlaH
import Derived.Test.YtljackjcgfaanaaGreatDoorGPlaDef
import Derived.Test.YtljackjcgfaanaaGreatDoorGMatO
import Derived.Test.YtljackjcgfaanaaGreatDoorBlkW
import Derived.Test.YtljackjcgfaanaaGreatDoorMatLaid
/- The examples of the chapter hold: the statements' ints, ever, daily, works. -/
namespace Go.Proofs.YtljackjcgfaanaaGreatDoor
open Go.ChangeShapes Go.RowKit Go.Shelf

theorem OwnN.rowT {w W : World} {v : Value} {l : List Int} (h : OwnN w v l W) : RowT W v l := by
  rcases h.row.2 with ⟨rfl, h0⟩ | ⟨g, cap, cur, rfl, _, hg, _, _, _, ht⟩
  · have : l = [] := List.length_eq_zero_iff.1 h0
    subst this
    exact ⟨_, _, rfl, fun j x h => by simp at h⟩
  · refine ⟨_, _, rfl, fun j x hj => ⟨g, 0, rfl, ?_⟩⟩
    have hlt : j < l.length := (List.getElem?_eq_some_iff.1 hj).1
    have e : (cur.toList.take (l.length * 1))[j]? = some (.int .i64 x) := by rw [ht, List.getElem?_map, hj]; rfl
    rw [Nat.mul_one, List.getElem?_take_of_lt hlt] at e
    simp only [World.cell?, hg]
    simpa using e
theorem rowT_two (w : World) (x y : Int) (t : TypeId) (c : Nat) : RowT (w.alloc (.cells #[.int .i64 x, .int .i64 y] t)) (.slice (some ⟨w.heap.size, 0, none⟩) 2 c) [x, y] :=
  ⟨_, _, rfl, fun j z hj => ⟨w.heap.size, 0, rfl, by
    have r := Row.new w [.int .i64 x, .int .i64 y] t
    match j, hj with
    | 0, hj => obtain rfl : x = z := by simpa using hj
               exact r.cell 0
    | 1, hj => obtain rfl : y = z := by simpa using hj
               exact r.cell 1
    | j + 2, hj => simp at hj⟩⟩
set_option maxRecDepth 100000 in
set_option maxHeartbeats 4000000 in
theorem ints_any (v1 v2 : Value) (l m : List Int) (r : Bool) (hr : r = true ↔ l = m) (hl : l.length ≤ 1000000) (w : World) (h1 : RowT w v1 l) (h2 : RowT w v2 m) :
    Calls Tryz.prog 31 #[v1, v2] w fun e W' => e = .returned (.bool r) ∧ Below w.heap.size w W' := by
  obtain ⟨A, c1, rfl, g1⟩ := h1
  obtain ⟨B, c2, rfl, g2⟩ := h2
  have G1 := Lib.hid g1
  have G2 := Lib.hid g2
  clear g1 g2
  by_cases he : l.length = m.length
  · have t1 : ((l.length : Int) != (m.length : Int)) = false := by rw [he]; simp
    have t2 : (l.length != m.length) = false := by rw [he]; simp
    have HE := Lib.hid he
    have HL := Lib.hid hl
    clear he hl
    go_enter Tryz.func31, Tryz.ntmps31
    go_wp2_with fail
    go_loopw [5] (fun iv wr => ∃ k : Nat, k ≤ l.length ∧ iv = .int .i64 k ∧ Hid (Below w.heap.size w wr) ∧ Hid (l.take k = m.take k)) (fun iv _ => l.length - (intOf iv).toNat)
    case atStart => exact ⟨0, by omega, rfl, Lib.hid (Below.refl _ _), Lib.hid rfl⟩
    case round =>
      obtain ⟨k, hk, rfl, hb, hs⟩ := hrel
      by_cases hlt : k < l.length
      · have hlm : k < m.length := by have := HE.out; omega
        obtain ⟨x, hx⟩ : ∃ x, l[k]? = some x := ⟨_, List.getElem?_eq_getElem hlt⟩
        obtain ⟨y, hy⟩ : ∃ y, m[k]? = some y := ⟨_, List.getElem?_eq_getElem hlm⟩
        obtain ⟨b1, o1, rfl, e1⟩ := G1.out k x hx
        obtain ⟨b2, o2, rfl, e2⟩ := G2.out k y hy
        have d1 := (hb.out.cell (p := ⟨b1, o1 + k, none⟩) (World.block_lt_of_cell? w _ e1)).trans e1
        have d2 := (hb.out.cell (p := ⟨b2, o2 + k, none⟩) (World.block_lt_of_cell? w _ e2)).trans e2
        have wk : IntKind.i64.wrap ((k : Int) + 1) = (k : Int) + 1 := by have := HL.out; rw [IntKind.wrap_i64]; omega
        have tk : Hid (l.take (k + 1) = l.take k ++ [x] ∧ m.take (k + 1) = m.take k ++ [y]) := Lib.hid ⟨by rw [List.take_add_one, hx]; rfl, by rw [List.take_add_one, hy]; rfl⟩
        have HX := Lib.hid hx
        have HY := Lib.hid hy
        clear e1 e2 hx hy
        by_cases q : x = y
        · have t3 : (x != y) = false := by rw [q]; simp
          have HQ := Lib.hid q
          clear q
          go_wp2_with fail
          go_quiet (fail)
          go_wp2_with fail
          go_roundw
          case rel => exact ⟨k + 1, by omega, by go_num, Lib.hid (below_drewN' hb.out _), Lib.hid (by rw [tk.out.1, tk.out.2, hs.out, HQ.out])⟩
          case measure => simp [intOf]; omega
        · have t3 : (x != y) = true := by rw [bne_iff_ne]; exact q
          have NO : Hid (r = false) := Lib.hid (by
            cases r with
            | false => rfl
            | true =>
              have := hr.1 rfl
              have h1 := HX.out
              rw [this, HY.out] at h1
              exact absurd (by simpa using h1.symm) q)
          clear q
          go_wp2_with fail
          go_quiet (fail)
          go_wp2_with fail
          go_ret
          exact ⟨by rw [NO.out]; rfl, below_drewN' hb.out _⟩
      · have YES : Hid (r = true) := Lib.hid (hr.2 (by
          have := hs.out
          have e := HE.out
          rwa [List.take_of_length_le (by omega), List.take_of_length_le (by omega)] at this))
        have e := HE.out
        go_wp2_with fail
        go_ret
        exact ⟨by rw [YES.out]; rfl, hb.out⟩
  · have t1 : ((l.length : Int) != (m.length : Int)) = true := by rw [bne_iff_ne]; omega
    have t2 : (l.length != m.length) = true := by rw [bne_iff_ne]; exact he
    have NO : Hid (r = false) := Lib.hid (by
      cases r with
      | false => rfl
      | true => exact absurd (congrArg List.length (hr.1 rfl)) he)
    clear he
    go_enter Tryz.func31, Tryz.ntmps31
    go_wp2_with fail
    go_ret
    exact ⟨by rw [NO.out]; rfl, Below.refl _ _⟩

theorem flatP_get : ∀ (l : List (Pl.P × Value)) (j i : Nat) (c : Value), j < l.length → (plL (l.getD j (Pl.pZ, .nilFunc)).1 (l.getD j (Pl.pZ, .nilFunc)).2)[i]? = some c → (l.flatMap fun x => plL x.1 x.2)[j * 14 + i]? = some c
  | [], j, _, _, h, _ => by simp at h
  | x :: r, 0, i, c, _, h => by
    have hl : i < 14 := (List.getElem?_eq_some_iff.1 h).1
    have h' : (plL x.1 x.2)[i]? = some c := h
    rw [List.flatMap_cons, Nat.zero_mul, Nat.zero_add, List.getElem?_append_left (show i < (plL x.1 x.2).length from hl)]
    exact h'
  | x :: r, j + 1, i, c, hj, h => by
    have e : (x :: r).getD (j + 1) (Pl.pZ, .nilFunc) = r.getD j (Pl.pZ, .nilFunc) := by simp
    rw [e] at h
    have ih := flatP_get r j i c (by simpa using hj) h
    rw [List.flatMap_cons, List.getElem?_append_right (by show (plL x.1 x.2).length ≤ _; simp [plL]; omega)]
    have : (j + 1) * 14 + i - (plL x.1 x.2).length = j * 14 + i := by simp [plL]; omega
    rw [this]
    exact ih
/-- a slice of plans written out -/
theorem rowP_lit (w : World) (l : List (Pl.P × Value)) (n : Nat) (hn : n = l.length) (cs : Array Value) (hc : cs.toList = l.flatMap fun x => plL x.1 x.2) (hl : l.length ≤ 1000000) (c : Nat) (T : TypeId)
    (hs : ∀ x ∈ l, Bo.RowS w x.2 x.1.l ∧ x.1.x.Bd) : RowP (w.alloc (.cells cs T)) (.slice (some ⟨w.heap.size, 0, none⟩) n c) l := by
  subst hn
  refine ⟨hl, _, _, rfl, fun j hj => ⟨w.heap.size, 0, rfl, fun i c hic => ?_, ?_⟩⟩
  · have hw : (w.alloc (.cells cs T)).heap[w.heap.size]? = some (.cells cs T) := heap_alloc_new w _
    simp only [World.cell?, hw, Nat.zero_add]
    rw [← Array.getElem?_toList, hc]
    exact flatP_get l j i c hj hic
  · have hm : l.getD j (Pl.pZ, .nilFunc) ∈ l := by rw [List.getD_eq_getElem?_getD, List.getElem?_eq_getElem hj]; exact List.getElem_mem _
    obtain ⟨h1, h2⟩ := hs _ hm
    exact ⟨h1.alloc _, h2⟩
theorem bdD : Pl.pD.x.Bd := bd_of (Exp.okB_iff.1 Pl.eD_ok)
theorem bd0 : Pl.x0.Bd := fun i hi => six_cases hi (P := fun i => Pl.x0.at i < 2 ^ 64) (by decide) (by decide) (by decide) (by decide) (by decide) (by decide)
theorem dueW : Pl.DueR [Pl.pD, Pl.pE [], Pl.pE [(60, 80)]] 130 [1, 2] 0 := by
  have e : Pl.dueE [Pl.pD, Pl.pE [], Pl.pE [(60, 80)]] 130 = 0 := Pl.dueE_zero.2 ⟨by simp, by
    intro p hp
    rcases (by simpa using hp : p = Pl.pD ∨ p = Pl.pE [] ∨ p = Pl.pE [(60, 80)]) with rfl | rfl | rfl
    · exact Pl.okD
    · exact Pl.okE rfl
    · exact Pl.okE Pl.errS, by unfold Pl.vt; omega⟩
  refine ⟨e.symm, .inr ⟨rfl, ?_⟩⟩
  show _ = Pl.dueK [Pl.pD, Pl.pE [], Pl.pE [(60, 80)]] 130 3
  rw [Pl.dueK_yes (ps := [Pl.pD, Pl.pE [], Pl.pE [(60, 80)]]) (t := 130) (k := 2) (show (Pl.pE [(60, 80)]).K 130 from Pl.kS.2 (.inr rfl)), Pl.dueK_yes (ps := [Pl.pD, Pl.pE [], Pl.pE [(60, 80)]]) (t := 130) (k := 1) (show (Pl.pE []).K 130 from Pl.kE.2 (.inr (.inr rfl))), Pl.dueK_no (ps := [Pl.pD, Pl.pE [], Pl.pE [(60, 80)]]) (t := 130) (k := 0) (fun k => by obtain ⟨n, hn⟩ := Pl.eD_lm (Pl.kD.1 (show Pl.pD.K 130 from k)); omega)]
  rfl
theorem daily_any (w : World) : Calls Tryz.prog 34 #[] w fun e w' => e = .returned (.agg #[.int .i64 1, .int .u64 1, .int .u64 1, .int .u64 1, .int .u64 4294967294, .int .u64 8190, .int .u64 127, .bool true, .bool true, .int .i64 0, .int .i64 0, .int .i64 0, .int .i64 0, .slice none 0 0]) ∧ Below w.heap.size w w' := by
  have HB := Lib.hid ((Below.refl _ w).alloc (Nat.le_refl _) (.cells #[.int .i64 1, .int .u64 1, .int .u64 1, .int .u64 1, .int .u64 4294967294, .int .u64 8190, .int .u64 127, .bool true, .bool true, .int .i64 0, .int .i64 0, .int .i64 0, .int .i64 0, .slice none 0 0] 29))
  go_enter Tryz.func34, Tryz.ntmps34
  go_wp2_with fail
  exact bodyPost_ret (v := .agg #[.int .i64 1, .int .u64 1, .int .u64 1, .int .u64 1, .int .u64 4294967294, .int .u64 8190, .int .u64 127, .bool true, .bool true, .int .i64 0, .int .i64 0, .int .i64 0, .int .i64 0, .slice none 0 0]) (by simp [results, Tryz.results34, go_sem]) rfl ⟨rfl, HB.out⟩
theorem ever_any' (A : Option Addr) (k c : Nat) (w : World) : Calls Tryz.prog 33 #[.slice A k c] w fun e w' => e = .returned (.agg #[.int .i64 2, .int .u64 0, .int .u64 0, .int .u64 0, .int .u64 0, .int .u64 0, .int .u64 0, .bool false, .bool false, .int .i64 0, .int .i64 10, .int .i64 60, .int .i64 3, .slice A k c]) ∧ Below w.heap.size w w' := by
  have HB := Lib.hid ((Below.refl _ w).alloc (Nat.le_refl _) (.cells #[.int .i64 2, .int .u64 0, .int .u64 0, .int .u64 0, .int .u64 0, .int .u64 0, .int .u64 0, .bool false, .bool false, .int .i64 0, .int .i64 10, .int .i64 60, .int .i64 3, .slice A k c] 29))
  go_enter Tryz.func33, Tryz.ntmps33
  go_wp2_with fail
  exact bodyPost_ret (v := .agg #[.int .i64 2, .int .u64 0, .int .u64 0, .int .u64 0, .int .u64 0, .int .u64 0, .int .u64 0, .bool false, .bool false, .int .i64 0, .int .i64 10, .int .i64 60, .int .i64 3, .slice A k c]) (by simp [results, Tryz.results33, go_sem]) rfl ⟨rfl, HB.out⟩
/-- the context of works: the plan S in its box -/
structure WC (w : World) (B : Nat) (v : Value) (W : World) : Prop where
  below : Below w.heap.size w W
  lay : LayM W
  sp : Bo.RowS W v [(60, 80)]
  row : Row W B 29 [.int .i64 2, .int .u64 0, .int .u64 0, .int .u64 0, .int .u64 0, .int .u64 0, .int .u64 0, .bool false, .bool false, .int .i64 0, .int .i64 10, .int .i64 60, .int .i64 3, v]
theorem WC.next {w W W' : World} {B : Nat} {v : Value} (h : WC w B v W) (hb : Below W.heap.size W W') : WC w B v W' := ⟨h.below.trans (hb.mono h.below.size), h.lay.below hb, h.sp.below hb, h.row.below hb⟩
theorem WC.drew {w W : World} {B : Nat} {v : Value} (h : WC w B v W) : WC w B v W.drew := h.next (Below.refl _ _).drew
theorem WC.alloc {w W : World} {B : Nat} {v : Value} (h : WC w B v W) (o : Obj) : WC w B v (W.alloc o) := h.next ((Below.refl _ W).alloc (Nat.le_refl _) o)
theorem WC.cells {w W : World} {B : Nat} {v : Value} (h : WC w B v W) : W.cell? ⟨B, 0, none⟩ = some (.int .i64 2) ∧ W.cell? ⟨B, 1, none⟩ = some (.int .u64 0) ∧ W.cell? ⟨B, 2, none⟩ = some (.int .u64 0) ∧ W.cell? ⟨B, 3, none⟩ = some (.int .u64 0) ∧ W.cell? ⟨B, 4, none⟩ = some (.int .u64 0) ∧ W.cell? ⟨B, 5, none⟩ = some (.int .u64 0) ∧ W.cell? ⟨B, 6, none⟩ = some (.int .u64 0) ∧ W.cell? ⟨B, 7, none⟩ = some (.bool false) ∧ W.cell? ⟨B, 8, none⟩ = some (.bool false) ∧ W.cell? ⟨B, 9, none⟩ = some (.int .i64 0) ∧ W.cell? ⟨B, 10, none⟩ = some (.int .i64 10) ∧ W.cell? ⟨B, 11, none⟩ = some (.int .i64 60) ∧ W.cell? ⟨B, 12, none⟩ = some (.int .i64 3) ∧ W.cell? ⟨B, 13, none⟩ = some (v) := ⟨h.row.cell 0, h.row.cell 1, h.row.cell 2, h.row.cell 3, h.row.cell 4, h.row.cell 5, h.row.cell 6, h.row.cell 7, h.row.cell 8, h.row.cell 9, h.row.cell 10, h.row.cell 11, h.row.cell 12, h.row.cell 13⟩
theorem WC.due {w W : World} {B : Nat} {v : Value} (h : WC w B v W) : RowP (W.alloc (.cells #[.int .i64 1, .int .u64 1, .int .u64 1, .int .u64 1, .int .u64 4294967294, .int .u64 8190, .int .u64 127, .bool true, .bool true, .int .i64 0, .int .i64 0, .int .i64 0, .int .i64 0, .slice none 0 0, .int .i64 2, .int .u64 0, .int .u64 0, .int .u64 0, .int .u64 0, .int .u64 0, .int .u64 0, .bool false, .bool false, .int .i64 0, .int .i64 10, .int .i64 60, .int .i64 3, .slice none 0 0, .int .i64 2, .int .u64 0, .int .u64 0, .int .u64 0, .int .u64 0, .int .u64 0, .int .u64 0, .bool false, .bool false, .int .i64 0, .int .i64 10, .int .i64 60, .int .i64 3, v] 29)) (.slice (some ⟨W.heap.size, 0, none⟩) 3 3) [(Pl.pD, .slice none 0 0), (Pl.pE [], .slice none 0 0), (Pl.pE [(60, 80)], v)] :=
  rowP_lit W _ 3 rfl _ rfl (by simp) 3 _ (by
    intro x hx
    rcases (by simpa using hx : x = (Pl.pD, .slice none 0 0) ∨ x = (Pl.pE [], .slice none 0 0) ∨ x = (Pl.pE [(60, 80)], v)) with rfl | rfl | rfl
    · exact ⟨Bo.RowS.nil W, bdD⟩
    · exact ⟨Bo.RowS.nil W, bd0⟩
    · exact ⟨h.sp, bd0⟩)
set_option maxRecDepth 100000 in
set_option maxHeartbeats 8000000 in
theorem works_any (w : World) (L : LayM w) : Calls Tryz.prog 13 #[] w fun e w' => e = .returned (.bool true) ∧ Below w.heap.size w w' := by
  have R0 := Lib.hid (Bo.rowS_one w 60 80 1)
  have B0 := Lib.hid ((Below.refl _ w).alloc (Nat.le_refl _) (.cells #[.int .i64 60, .int .i64 80] 48))
  have L0 := Lib.hid (L.alloc (.cells #[.int .i64 60, .int .i64 80] 48))
  have EV := Lib.hid (fun A k c W => ever_any' A k c W)
  have DA := Lib.hid (fun W => daily_any W)
  have NX := Lib.hid (fun W (L : LayM W) => (show Calls Tryz.prog 17 #[.agg #[.int .i64 1, .int .u64 1, .int .u64 1, .int .u64 1, .int .u64 4294967294, .int .u64 8190, .int .u64 127, .bool true, .bool true, .int .i64 0, .int .i64 0, .int .i64 0, .int .i64 0, .slice none 0 0], .int .i64 0] W fun e w' => e = .returned (.tuple #[.int .i64 86400, .bool true, .int .i64 0]) ∧ Below W.heap.size W w' from pnext_any Pl.pD bdD (.slice none 0 0) 0 86400 true 0 Pl.nextD W L (Bo.RowS.nil W)))
  have LI := Lib.hid (fun v W (L : LayM W) (h : Bo.RowS W v [(60, 80)]) => (show Calls Tryz.prog 22 #[.agg #[.int .i64 2, .int .u64 0, .int .u64 0, .int .u64 0, .int .u64 0, .int .u64 0, .int .u64 0, .bool false, .bool false, .int .i64 0, .int .i64 10, .int .i64 60, .int .i64 3, v], .int .i64 0, .int .i64 1000, .int .i64 9] W fun e w' => ∃ u, e = .returned (.tuple #[u, .int .i64 0]) ∧ OwnT W u [10, 130] w' from plist_any (Pl.pE [(60, 80)]) bd0 v 0 1000 9 [10, 130] 0 Pl.listS W L h))
  have CO := Lib.hid (fun v W (L : LayM W) (h : Bo.RowS W v [(60, 80)]) => (show Calls Tryz.prog 25 #[.agg #[.int .i64 2, .int .u64 0, .int .u64 0, .int .u64 0, .int .u64 0, .int .u64 0, .int .u64 0, .bool false, .bool false, .int .i64 0, .int .i64 10, .int .i64 60, .int .i64 3, v], .int .i64 0, .int .i64 1000] W fun e w' => e = .returned (.tuple #[.int .i64 2, .int .i64 0]) ∧ Below W.heap.size W w' from pcount_any (Pl.pE [(60, 80)]) bd0 v 0 1000 2 0 Pl.countS W L h))
  have DU := Lib.hid (fun v u W (L : LayM W) (h : RowP W u [(Pl.pD, .slice none 0 0), (Pl.pE [], .slice none 0 0), (Pl.pE [(60, 80)], v)]) => pdue_any u [(Pl.pD, .slice none 0 0), (Pl.pE [], .slice none 0 0), (Pl.pE [(60, 80)], v)] 130 [1, 2] 0 dueW W L h)
  have SA := Lib.hid (fun v1 v2 W h1 h2 => same_any v1 v2 [10, 130] [10, 130] true (by simp) (by simp) W h1 h2)
  have SI := Lib.hid (fun v1 v2 W h1 h2 => ints_any v1 v2 [1, 2] [1, 2] true (by simp) (by simp) W h1 h2)
  clear L
  go_enter Tryz.func13, Tryz.ntmps13
  go_wp2_with fail
  refine (EV.out _ _ _ _).mono ?_
  rintro e w1 ⟨rfl, hb1⟩
  have Q := Lib.hid (show ∃ S, Value.slice (some ⟨w.heap.size, 0, none⟩) 1 1 = S ∧ WC w w1.heap.size S (w1.alloc (.cells #[.int .i64 2, .int .u64 0, .int .u64 0, .int .u64 0, .int .u64 0, .int .u64 0, .int .u64 0, .bool false, .bool false, .int .i64 0, .int .i64 10, .int .i64 60, .int .i64 3, S] 29)) from ⟨_, rfl, (B0.out.trans (hb1.mono B0.out.size)).alloc (B0.out.trans (hb1.mono B0.out.size)).size _, (L0.out.below hb1).alloc _, (R0.out.below hb1).alloc _, Row.new w1 _ _⟩)
  clear hb1
  go_wp2_with fail
  obtain ⟨S, hS, q⟩ := Q.out
  have Q := Lib.hid q
  simp only [hS]
  clear hS q
  refine (DA.out _).mono ?_
  rintro e w2 ⟨rfl, hb2⟩
  have Q2 := Lib.hid (Q.out.next hb2)
  clear hb2
  go_wp2_with fail
  refine (NX.out _ Q2.out.lay).mono ?_
  rintro e w3 ⟨rfl, hb3⟩
  have Q3 := Lib.hid (Q2.out.next hb3)
  obtain ⟨c0, c1, c2, c3, c4, c5, c6, c7, c8, c9, c10, c11, c12, c13⟩ := Q3.out.cells
  clear hb3
  go_wp2_with fail
  refine (LI.out _ _ Q3.out.lay Q3.out.sp).mono ?_
  rintro e w4 ⟨u, rfl, hu⟩
  have Q4 := Lib.hid (Q3.out.next hu.below)
  have RU := Lib.hid hu.rowT
  clear c0 c1 c2 c3 c4 c5 c6 c7 c8 c9 c10 c11 c12 c13 hu
  obtain ⟨c0, c1, c2, c3, c4, c5, c6, c7, c8, c9, c10, c11, c12, c13⟩ := Q4.out.cells
  go_wp2_with fail
  refine (CO.out _ _ Q4.out.lay Q4.out.sp).mono ?_
  rintro e w5 ⟨rfl, hb5⟩
  have Q5 := Lib.hid (Q4.out.next hb5)
  have RU5 := Lib.hid (RU.out.below hb5)
  clear c0 c1 c2 c3 c4 c5 c6 c7 c8 c9 c10 c11 c12 c13 hb5 RU
  obtain ⟨c0, c1, c2, c3, c4, c5, c6, c7, c8, c9, c10, c11, c12, c13⟩ := Q5.out.cells
  go_wp2_with fail
  have QR := Lib.hid (show WC w5 w1.heap.size S w5 from ⟨Below.refl _ _, Q5.out.lay, Q5.out.sp, Q5.out.row⟩)
  go_region_held3 (fun w' => w'.cell? ⟨w1.heap.size, 0, none⟩ = some (.int .i64 2) ∧ w'.cell? ⟨w1.heap.size, 1, none⟩ = some (.int .u64 0) ∧ w'.cell? ⟨w1.heap.size, 2, none⟩ = some (.int .u64 0) ∧ w'.cell? ⟨w1.heap.size, 3, none⟩ = some (.int .u64 0) ∧ w'.cell? ⟨w1.heap.size, 4, none⟩ = some (.int .u64 0) ∧ w'.cell? ⟨w1.heap.size, 5, none⟩ = some (.int .u64 0) ∧ w'.cell? ⟨w1.heap.size, 6, none⟩ = some (.int .u64 0) ∧ w'.cell? ⟨w1.heap.size, 7, none⟩ = some (.bool false) ∧ w'.cell? ⟨w1.heap.size, 8, none⟩ = some (.bool false) ∧ w'.cell? ⟨w1.heap.size, 9, none⟩ = some (.int .i64 0) ∧ w'.cell? ⟨w1.heap.size, 10, none⟩ = some (.int .i64 10) ∧ w'.cell? ⟨w1.heap.size, 11, none⟩ = some (.int .i64 60) ∧ w'.cell? ⟨w1.heap.size, 12, none⟩ = some (.int .i64 3) ∧ w'.cell? ⟨w1.heap.size, 13, none⟩ = some (S)) (go_keep)
    ((first
      | (go_at_call 34; refine (DA.out _).mono ?_; rintro e w6 ⟨rfl, hb6⟩; have QR := Lib.hid ((show WC w5 w1.heap.size S _ by first | exact QR.out | exact QR.out.drew).next hb6); obtain ⟨y0, y1, y2, y3, y4, y5, y6, y7, y8, y9, y10, y11, y12, y13⟩ := QR.out.cells)
      | (go_at_call 33; refine (EV.out _ _ _ _).mono ?_; rintro e w7 ⟨rfl, hb7⟩; have QR := Lib.hid (QR.out.next hb7); obtain ⟨z0, z1, z2, z3, z4, z5, z6, z7, z8, z9, z10, z11, z12, z13⟩ := QR.out.cells)
      | (go_at_call 29; refine (DU.out S _ _ (QR.out.alloc _).lay QR.out.due).mono ?_; rintro e w8 ⟨mm, rfl, hm⟩; have QR := Lib.hid ((QR.out.alloc (.cells #[.int .i64 1, .int .u64 1, .int .u64 1, .int .u64 1, .int .u64 4294967294, .int .u64 8190, .int .u64 127, .bool true, .bool true, .int .i64 0, .int .i64 0, .int .i64 0, .int .i64 0, .slice none 0 0, .int .i64 2, .int .u64 0, .int .u64 0, .int .u64 0, .int .u64 0, .int .u64 0, .int .u64 0, .bool false, .bool false, .int .i64 0, .int .i64 10, .int .i64 60, .int .i64 3, .slice none 0 0, .int .i64 2, .int .u64 0, .int .u64 0, .int .u64 0, .int .u64 0, .int .u64 0, .int .u64 0, .bool false, .bool false, .int .i64 0, .int .i64 10, .int .i64 60, .int .i64 3, S] 29)).next hm.below); have RM := Lib.hid hm.rowT; obtain ⟨x0, x1, x2, x3, x4, x5, x6, x7, x8, x9, x10, x11, x12, x13⟩ := QR.out.cells)))
  all_goals
    have T1 := Lib.hid (rowT_two w8 10 130 2 2)
    have Q8 := Lib.hid (Q5.out.below.trans (QR.out.below.mono Q5.out.below.size))
    have RU8 := Lib.hid ((RU5.out.below QR.out.below).below ((Below.refl _ w8).alloc (Nat.le_refl _) (.cells #[.int .i64 10, .int .i64 130] 2)))
    have RM8 := Lib.hid (RM.out.below ((Below.refl _ w8).alloc (Nat.le_refl _) (.cells #[.int .i64 10, .int .i64 130] 2)))
    have B8 := Lib.hid (Q8.out.alloc Q8.out.size (.cells #[.int .i64 10, .int .i64 130] 2))
    go_wp2_with fail
    refine (SA.out _ _ _ RU8.out T1.out).mono ?_
    rintro e w9 ⟨rfl, hb9⟩
    have T2 := Lib.hid (rowT_two w9 1 2 3 2)
    have RM9 := Lib.hid ((RM8.out.below hb9).below ((Below.refl _ w9).alloc (Nat.le_refl _) (.cells #[.int .i64 1, .int .i64 2] 3)))
    have B9 := Lib.hid (B8.out.trans (hb9.mono B8.out.size))
    have B10 := Lib.hid (B9.out.alloc B9.out.size (.cells #[.int .i64 1, .int .i64 2] 3))
    clear hb9
    go_wp2_with fail
    refine (SI.out _ _ _ RM9.out T2.out).mono ?_
    rintro e w10 ⟨rfl, hb10⟩
    have B11 := Lib.hid (B10.out.trans (hb10.mono B10.out.size))
    clear hb10
    go_wp2_with fail
    go_ret
    exact ⟨rfl, B11.out⟩
end Go.Proofs.YtljackjcgfaanaaGreatDoor
/- The contexts of the statements: a plan in a box, calls under it. -/
namespace Go.Proofs.YtljackjcgfaanaaGreatDoor
open Go.ChangeShapes Go.WideShapes Go.ChangeAt Go.RowKit Go.ChangeMaps

/-- a block of the call's own, and the tables -/
structure RC (w : World) (B : Nat) (cs : List Value) (W : World) : Prop where
  below : Below w.heap.size w W
  lay : LayM W
  row : Row W B 29 cs
theorem RC.next {w W W' : World} {B : Nat} {cs : List Value} (h : RC w B cs W) (hb : Below W.heap.size W W') : RC w B cs W' := ⟨h.below.trans (hb.mono h.below.size), h.lay.below hb, h.row.below hb⟩
theorem PB.works {w W : World} {B : Nat} {q : Pl.P} {v : Value} (h : PB w B q v W) : Calls Tryz.prog 13 #[] W fun e W' => e = .returned (.bool true) ∧ PB w B q v W' :=
  (works_any W h.lay).mono fun _ _ ⟨h1, h2⟩ => ⟨h1, h.next h2⟩
theorem PB.chk {w W : World} {B : Nat} {q : Pl.P} {v : Value} (h : PB w B q v W) (hx : q.x.Bd) (r : Int) (hr : q.err = r) : Calls Tryz.prog 19 #[.agg #[.int .i64 q.k, .int .u64 q.x.a0, .int .u64 q.x.a1, .int .u64 q.x.a2, .int .u64 q.x.a3, .int .u64 q.x.a4, .int .u64 q.x.a5, .bool q.x.b3, .bool q.x.b5, .int .i64 q.z, .int .i64 q.s, .int .i64 q.p, .int .i64 q.c, v]] W fun e W' => e = .returned (.int .i64 r) ∧ PB w B q v W' :=
  (pchk_any q hx v r hr W h.lay h.sp).mono fun _ _ ⟨h1, h2⟩ => ⟨h1, h.next h2⟩
theorem PB.is {w W : World} {B : Nat} {q : Pl.P} {v : Value} (h : PB w B q v W) (hx : q.x.Bd) (t : Int) (b : Bool) (r : Int) (hr : Pl.IsR q t b r) : Calls Tryz.prog 15 #[.agg #[.int .i64 q.k, .int .u64 q.x.a0, .int .u64 q.x.a1, .int .u64 q.x.a2, .int .u64 q.x.a3, .int .u64 q.x.a4, .int .u64 q.x.a5, .bool q.x.b3, .bool q.x.b5, .int .i64 q.z, .int .i64 q.s, .int .i64 q.p, .int .i64 q.c, v], .int .i64 t] W fun e W' => e = .returned (.tuple #[.bool b, .int .i64 r]) ∧ PB w B q v W' :=
  (pis_any q hx v t b r hr W h.lay h.sp).mono fun _ _ ⟨h1, h2⟩ => ⟨h1, h.next h2⟩
theorem PB.toNext {w W : World} {B : Nat} {q : Pl.P} {v : Value} (h : PB w B q v W) (hx : q.x.Bd) (t y : Int) (p : Bool) (r : Int) (hr : Pl.NextR q t y p r) : Calls Tryz.prog 17 #[.agg #[.int .i64 q.k, .int .u64 q.x.a0, .int .u64 q.x.a1, .int .u64 q.x.a2, .int .u64 q.x.a3, .int .u64 q.x.a4, .int .u64 q.x.a5, .bool q.x.b3, .bool q.x.b5, .int .i64 q.z, .int .i64 q.s, .int .i64 q.p, .int .i64 q.c, v], .int .i64 t] W fun e W' => e = .returned (.tuple #[.int .i64 y, .bool p, .int .i64 r]) ∧ PB w B q v W' :=
  (pnext_any q hx v t y p r hr W h.lay h.sp).mono fun _ _ ⟨h1, h2⟩ => ⟨h1, h.next h2⟩
theorem PB.count {w W : World} {B : Nat} {q : Pl.P} {v : Value} (h : PB w B q v W) (hx : q.x.Bd) (a b c r : Int) (hr : Pl.CountR q a b c r) : Calls Tryz.prog 25 #[.agg #[.int .i64 q.k, .int .u64 q.x.a0, .int .u64 q.x.a1, .int .u64 q.x.a2, .int .u64 q.x.a3, .int .u64 q.x.a4, .int .u64 q.x.a5, .bool q.x.b3, .bool q.x.b5, .int .i64 q.z, .int .i64 q.s, .int .i64 q.p, .int .i64 q.c, v], .int .i64 a, .int .i64 b] W fun e W' => e = .returned (.tuple #[.int .i64 c, .int .i64 r]) ∧ PB w B q v W' :=
  (pcount_any q hx v a b c r hr W h.lay h.sp).mono fun _ _ ⟨h1, h2⟩ => ⟨h1, h.next h2⟩
theorem PB.list {w W : World} {B : Nat} {q : Pl.P} {v : Value} (h : PB w B q v W) (hx : q.x.Bd) (a b mo : Int) (l : List Int) (r : Int) (hr : Pl.ListR q a b mo l r) : Calls Tryz.prog 22 #[.agg #[.int .i64 q.k, .int .u64 q.x.a0, .int .u64 q.x.a1, .int .u64 q.x.a2, .int .u64 q.x.a3, .int .u64 q.x.a4, .int .u64 q.x.a5, .bool q.x.b3, .bool q.x.b5, .int .i64 q.z, .int .i64 q.s, .int .i64 q.p, .int .i64 q.c, v], .int .i64 a, .int .i64 b, .int .i64 mo] W fun e W' => ∃ A c, e = .returned (.tuple #[.slice A l.length c, .int .i64 r]) ∧ RowT W' (.slice A l.length c) l ∧ PB w B q v W' ∧ Below W.heap.size W W' :=
  (plist_any q hx v a b mo l r hr W h.lay h.sp).mono fun _ _ ⟨u, h1, h2⟩ => by
    obtain ⟨A, c, rfl⟩ := h2.len
    exact ⟨A, c, h1, h2.rowT, h.next h2.below, h2.below⟩
end Go.Proofs.YtljackjcgfaanaaGreatDoor
