/- slices.Insert at a slice of words (two cells each): one word ahead of five. Contract of Parse of package expr at texts that are no macro. -/
import Derived.Test.YtpnfifhanmpapaaGreatDoorMExpIt
import Derived.Test.YtpnfifhanmpapaaGreatDoorMExpA
import Derived.Test.YtpnfifhanmpapaaGreatDoorMExpB
import Derived.Shelf.Spec.SlicesInsert
import Derived.Lib.AppendZerosOnto
/- slices.Insert at a slice of words (two cells each): one word ahead of five. -/
namespace Go.Proofs.YtpnfifhanmpapaaGreatDoor
open Go.ChangeShapes Go.WideShapes Go.RowKit Go.Shelf

/-- copy at elements of any number of cells -/
theorem run_copy_wide {P : Program} (w : World) (dT sT ty elem : TypeId) (size b o dLen dCap : Nat) (a : Addr) (sLen sCap m : Nat) (cs : List Value)
    (hu : P.underlying dT = some (.slice elem)) (hs : (P.info? elem).map (·.size) = some size) (hm : Nat.min sLen dLen = m) (hn : cs.length = m * size)
    (hsrc : ∀ j v, cs[j]? = some v → w.cell? (a.add j) = some v) (hc : ∀ j, j < cs.length → (w.cell? ⟨b, o + j, none⟩).isSome = true) (hf : ∀ j, j < cs.length → w.frozen? ⟨b, o + j, none⟩ = false) (h1 : ∀ v ∈ cs, v.oneCell' = true) :
    (Builtin.copy_ #[dT, sT] ty #[.slice (some ⟨b, o, none⟩) dLen dCap, .slice (some a) sLen sCap]).run P w = .ok (goInt m) (w.setCells b o cs) := by
  have hl := run_loadCells_list (P := P) w a cs hsrc
  have hst := run_storeCells_cells (P := P) b o cs 0 w (by simpa using hc) (by simpa using hf) h1
  cases hq : P.info? elem with
  | none => simp [hq] at hs
  | some i =>
    have hi : i.size = size := by simpa [hq] using hs
    have hm' : min sLen dLen = m := hm
    simp [Builtin.copy_, run_underlying hu, Builtin.lenOf, Builtin.firstCells, sizeOf, typeInfo, hq, hi, hm', ← hn, hl, hst]

theorem setCells_row {W : World} {b : Nat} {t : TypeId} : ∀ (vs : List Value) (o : Nat) (cs : List Value), Row W b t cs → ∀ (W' : World), W' = W.setCells b o vs → ∃ cs', Row W' b t cs' ∧ cs'.length = cs.length
  | [], _, cs, h, _, e => ⟨cs, by rw [e]; exact h, rfl⟩
  | v :: r, o, cs, h, _, e => by
    obtain ⟨cs', h', l⟩ := setCells_row (W := W.setCell ⟨b, o, none⟩ v) r (o + 1) _ (h.set o v) _ e
    exact ⟨cs', h', by rw [l]; simp⟩
theorem grown_setCells (b : Nat) : ∀ (vs : List Value) (o : Nat) (W : World), W.grownBy (W.setCells b o vs) (some b)
  | [], _, _ => ⟨rfl, rfl, rfl, Nat.le_refl _, fun _ _ _ => rfl⟩
  | v :: r, o, W => grown_two (grown_set W b o v) (grown_setCells b r (o + 1) _)
theorem grown_drew {A B : World} {r : Option Nat} (h : A.grownBy B r) : A.grownBy B.drew r := ⟨h.os, h.tape, h.output, h.size, h.block⟩

set_option maxRecDepth 100000 in
set_option maxHeartbeats 2000000 in
theorem insert_room (b vb c : Nat) (cur : Array Value) (cs : List Value) (x y : Value) (w : World) (h6 : 6 ≤ c) (h63 : c ≤ maxLen) (hvb : vb ≠ b) (hl : cs.length = 10)
    (hb : w.heap[b]? = some (.cells cur 86 (0, 0))) (hcz : cur.size = c * 2) (hcs : ∀ (j : Nat) (v : Value), cs[j]? = some v → cur[j]? = some v) (hv : w.heap[vb]? = some (.cells #[x, y] 86 (0, 0))) (h1 : ∀ v ∈ cs, v.oneCell' = true) (hx : x.oneCell' = true) (hy : y.oneCell' = true) :
    Calls Tryz.prog 41 #[.slice (some ⟨b, 0, none⟩) 5 c, .int .i64 0, .slice (some ⟨vb, 0, none⟩) 1 1] w fun e w' =>
      e = .returned (.slice (some ⟨b, 0, none⟩) 6 c) ∧ (w.drew.setCells b 2 cs).setCells b 0 [x, y] = w' := by
  have info : (Tryz.prog.info? 86).map (·.size) = some 2 := by kernel_rfl
  have cell : ∀ j, w.cell? ⟨b, j, none⟩ = cur[j]? := fun j => by simp only [World.cell?, hb]; simp
  have frz : ∀ j, w.frozen? ⟨b, j, none⟩ = false := fun j => by simp [World.frozen?, hb]
  have vcell : ∀ (j : Nat) (u : Value), [x, y][j]? = some u → w.cell? ⟨vb, j, none⟩ = some u := fun j u hj => by simp only [World.cell?, hv]; simpa using hj
  have some_ : ∀ j, j < 12 → (w.cell? ⟨b, j, none⟩).isSome = true := fun j hj => by rw [cell, Array.getElem?_eq_getElem (by omega)]; rfl
  have hov : ∀ lb cb, (callFunc 74 #[.slice (some ⟨vb, 0, none⟩) 1 1, .slice (some ⟨b, 2, none⟩) lb cb]).run Tryz.prog w = .ok (.value (.bool false)) w := fun lb cb => by
    rw [run_callFunc_extern Tryz.func74 (by kernel_rfl) (by kernel_rfl) (by kernel_rfl) (e := Extern.SlicesOverlaps.overlaps #[83, 83] #[4]) (by kernel_rfl),
      Lib.run_overlaps_apart w 83 4 86 Tryz.underlying83 2 (fun w => by simp only [Go.sizeOf]; kernel_rfl) ⟨vb, 0, none⟩ ⟨b, 2, none⟩ 1 1 lb cb hvb 86 86 2 (c * 2) (by simp [World.shape?, hv]) (by simp [World.shape?, hb, hcz]) (by omega) (by simp [World.frozen?, hv]) (by simp [World.frozen?, hv])]
    rfl
  have hcp1 : ∀ ty dc sc, (Builtin.copy_ #[83, 83] ty #[.slice (some ⟨b, 2, none⟩) 5 dc, .slice (some ⟨b, 0, none⟩) 6 sc]).run Tryz.prog w.drew = .ok (goInt 5) (w.drew.setCells b 2 cs) := fun ty dc sc =>
    run_copy_wide w.drew _ _ ty 86 2 b 2 5 dc ⟨b, 0, none⟩ 6 sc 5 cs Tryz.underlying83 info rfl hl
      (fun j v hj => by rw [add_flat, Nat.zero_add]; exact (cell j).trans (hcs j v hj)) (fun j hj => some_ _ (by omega)) (fun j hj => frz _) h1
  have some2 : ∀ j, j < 12 → ((w.drew.setCells b 2 cs).cell? ⟨b, j, none⟩).isSome = true := fun j hj => isSome_setCells b cs 2 w.drew (fun k hk => some_ _ (by omega)) j (some_ j hj)
  have hcp2 : ∀ (W : World), W = w.drew.setCells b 2 cs → ∀ ty dc, (Builtin.copy_ #[83, 83] ty #[.slice (some ⟨b, 0, none⟩) 6 dc, .slice (some ⟨vb, 0, none⟩) 1 1]).run Tryz.prog W = .ok (goInt 1) (W.setCells b 0 [x, y]) := fun W hW ty dc =>
    run_copy_wide W _ _ ty 86 2 b 0 6 dc ⟨vb, 0, none⟩ 1 1 1 [x, y] Tryz.underlying83 info rfl rfl
      (fun j u hj => by rw [add_flat, Nat.zero_add, hW, World.cell?_setCells_out b _ _ _ _ (fun h _ => absurd h hvb)]; exact vcell j u hj)
      (fun j hj => by rw [hW, Nat.zero_add]; exact some2 j (by simp at hj; omega)) (fun j hj => by rw [hW, World.frozen?_setCells]; exact frz _) (by simp [hx, hy])
  obtain ⟨W1, hW1⟩ : ∃ W1, w.drew.setCells b 2 cs = W1 := ⟨_, rfl⟩
  rw [hW1] at hcp1 hcp2 ⊢
  have t1 : decide ((c : Int) < 6) = false := by rw [decide_eq_false_iff_not]; omega
  have t1n : decide (c < 6) = false := by rw [decide_eq_false_iff_not]; omega
  have t2 : (6 : Int) ≤ (c : Int) := by omega
  have hcz63 : c ≤ 9223372036854775807 := by simpa [maxLen] using h63
  have b1 : (1 : Int) ≤ 6 := by decide
  have c1 : ¬ (c = 1) := by omega
  have c0 : ¬ (c = 0) := by omega
  have hmix : Tryz.prog.follows .mixedOrders = true := by kernel_rfl
  have w1 : IntKind.i64.wrap 1 = 1 := by decide
  clear cell frz vcell some_ some2 hcs hb hv h1 hx hy hcz hl info
  go_enter Tryz.func41, Tryz.ntmps41
  go_wp2_with (simp only [hov])
  go_region_law_o (refine step_copy_runI rfl _ _ 83 83 rfl _ _ (by simp [Act.eval, Act.put]) (by simp [Act.eval, Act.put]) (hcp1 _ _ _) ?_)
  go_wp2_with (at_builtin; refine wpList_copy_runI _ rfl _ _ 83 83 rfl _ _ rfl rfl (hcp2 _ rfl _ _) ?_)
  go_ret
  exact ⟨rfl, rfl⟩

set_option maxRecDepth 100000 in
set_option maxHeartbeats 2000000 in
theorem insert_grow (b vb : Nat) (cs : List Value) (x y : Value) (w : World) (hl : cs.length = 10) (hbw : b < w.heap.size) (hvw : vb < w.heap.size)
    (hcs : ∀ (j : Nat) (v : Value), cs[j]? = some v → w.cell? ⟨b, j, none⟩ = some v) (hv : w.heap[vb]? = some (.cells #[x, y] 86 (0, 0))) (h1 : ∀ v ∈ cs, v.oneCell' = true) (hx : x.oneCell' = true) (hy : y.oneCell' = true) :
    Calls Tryz.prog 41 #[.slice (some ⟨b, 0, none⟩) 5 5, .int .i64 0, .slice (some ⟨vb, 0, none⟩) 1 1] w fun e w' =>
      ∃ G row W1, 6 ≤ G ∧ 12 ≤ row.size ∧ e = .returned (.slice (some ⟨w.heap.size, 0, none⟩) 6 G) ∧ W1 = w.drew.alloc (.cells row 86) ∧ (W1.setCells w.heap.size 0 [x, y]).drew.setCells w.heap.size 2 cs = w' := by
  have info : (Tryz.prog.info? 86).map (·.size) = some 2 := by kernel_rfl
  obtain ⟨i0, hi, hz0, hz1, hz2⟩ := info_parts infoWordX
  have vcell : ∀ (j : Nat) (u : Value), [x, y][j]? = some u → w.cell? ⟨vb, j, none⟩ = some u := fun j u hj => by simp only [World.cell?, hv]; simpa using hj
  have hold : (Builtin.firstCells i0.size 0 (.slice (some ⟨b, 0, none⟩) 0 5)).run Tryz.prog w.drew = .ok ([] : List Value).toArray w.drew := by
    rw [hz1]
    simpa [Builtin.firstCells] using run_loadCells_list (P := Tryz.prog) w.drew ⟨b, 0, none⟩ [] (by simp)
  have hrz := fun ty => Lib.run_append_grow_zeros (P := Tryz.prog) w 83 3 ty 86 i0 _ .i64 .i64 Tryz.underlying83 Tryz.underlying3 hi hz0 (some ⟨b, 0, none⟩) 0 5 [] hold 6 (by decide) (by omega) (by omega) (by omega) (by rw [hz2]; omega) (by rw [hz2]; exact growslice_fits (by omega) (by omega))
  obtain ⟨G, hG⟩ : ∃ G, grownCap w (0 + 6) 5 86 = G := ⟨_, rfl⟩
  have hG6 : 6 ≤ G := by rw [← hG]; exact grownCap_ge w _ _ _
  have hG63 : G ≤ 9223372036854775807 := by
    have := grownCap_le_maxLen w (0 + 6) 5 86 (by unfold maxLen; omega)
    rw [hG] at this
    unfold maxLen at this
    omega
  rw [hG] at hrz
  obtain ⟨row, hrow⟩ : ∃ row : Array Value, ([] : List Value).toArray ++ Builtin.zeroCells (Value.agg #[.int .i64 0, .string ⟨#[]⟩]).cells 6 ++ Builtin.zeroCells (Value.agg #[.int .i64 0, .string ⟨#[]⟩]).cells (G - (0 + 6)) = row := ⟨_, rfl⟩
  have hr12 : 12 ≤ row.size := by
    rw [← hrow]
    simp [Builtin.zeroCells, Value.cells]
  rw [hrow] at hrz
  obtain ⟨W1, hW1⟩ : ∃ W1, W1 = w.drew.alloc (.cells row 86) := ⟨_, rfl⟩
  rw [← hW1] at hrz
  have hN : ∀ j, j < 12 → (W1.cell? ⟨w.heap.size, j, none⟩).isSome = true := fun j hj => by
    rw [hW1, World.cell?_alloc_at (w := w.drew) row _ w.heap.size j rfl, Array.getElem?_eq_getElem (by omega)]; rfl
  have hNf : ∀ j, W1.frozen? ⟨w.heap.size, j, none⟩ = false := fun j => by rw [hW1]; exact World.frozen?_alloc_at (w := w.drew) row _ w.heap.size j rfl
  have hOb : ∀ j v, w.cell? ⟨b, j, none⟩ = some v → W1.cell? ⟨b, j, none⟩ = some v := fun j v h => by rw [hW1, World.cell?_alloc_past (w := w.drew) _ b j hbw]; exact h
  have hOv : ∀ j v, w.cell? ⟨vb, j, none⟩ = some v → W1.cell? ⟨vb, j, none⟩ = some v := fun j v h => by rw [hW1, World.cell?_alloc_past (w := w.drew) _ vb j hvw]; exact h
  have hcp1 : ∀ (W : World), W = W1 → ∀ ty dc, (Builtin.copy_ #[83, 83] ty #[.slice (some ⟨w.heap.size, 0, none⟩) 6 dc, .slice (some ⟨vb, 0, none⟩) 1 1]).run Tryz.prog W = .ok (goInt 1) (W.setCells w.heap.size 0 [x, y]) := fun W hW ty dc =>
    run_copy_wide W _ _ ty 86 2 w.heap.size 0 6 dc ⟨vb, 0, none⟩ 1 1 1 [x, y] Tryz.underlying83 info rfl rfl
      (fun j u hj => by rw [add_flat, Nat.zero_add, hW]; exact hOv _ _ (vcell j u hj))
      (fun j hj => by rw [hW, Nat.zero_add]; exact hN j (by simp at hj; omega)) (fun j hj => by rw [hW]; exact hNf _) (by simp [hx, hy])
  obtain ⟨W2, hW2⟩ : ∃ W2, W1.setCells w.heap.size 0 [x, y] = W2 := ⟨_, rfl⟩
  have some2 : ∀ j, j < 12 → (W2.cell? ⟨w.heap.size, j, none⟩).isSome = true := fun j hj => by rw [← hW2]; exact isSome_setCells _ _ 0 W1 (fun k hk => by rw [Nat.zero_add]; exact hN _ (by simp at hk; omega)) j (hN j hj)
  have hcp2 : ∀ ty dc, (Builtin.copy_ #[83, 83] ty #[.slice (some ⟨w.heap.size, 2, none⟩) 5 dc, .slice (some ⟨b, 0, none⟩) 5 5]).run Tryz.prog W2.drew = .ok (goInt 5) (W2.drew.setCells w.heap.size 2 cs) := fun ty dc =>
    run_copy_wide W2.drew _ _ ty 86 2 w.heap.size 2 5 dc ⟨b, 0, none⟩ 5 5 5 cs Tryz.underlying83 info rfl hl
      (fun j v hj => by
        rw [add_flat, Nat.zero_add]
        show W2.cell? ⟨b, j, none⟩ = some v
        rw [← hW2, World.cell?_setCells_out _ _ _ _ _ (fun h _ => absurd h (by show b ≠ w.heap.size; omega))]
        exact hOb j v (hcs j v hj)) (fun j hj => some2 _ (by omega)) (fun j hj => by show W2.frozen? ⟨w.heap.size, 2 + j, none⟩ = false; rw [← hW2, World.frozen?_setCells]; exact hNf _) h1
  have HR := Lib.hid (And.intro hG6 (And.intro hr12 hW1))
  have HW2 := Lib.hid hW2
  have hG1 : ¬ (G = 1) := by omega
  have hG0 : ¬ (G = 0) := by omega
  have hmix : Tryz.prog.follows .mixedOrders = true := by kernel_rfl
  have w1 : IntKind.i64.wrap 1 = 1 := by decide
  have hrz' : ∀ ty, (Builtin.append_ #[83, 3] ty #[.slice (some ⟨b, 0, none⟩) 0 5, .int .i64 6]).run Tryz.prog w = .ok (.slice (some ⟨w.heap.size, 0, none⟩) 6 G) W1 := hrz
  have HC2 := Lib.hid hcp2
  clear hrz hcs hOb hOv hN hNf some2 vcell hold hW1 hrow hG hcp2 hr12 hv hz0 hz1 hz2 hi h1 hx hy hl info
  go_enter Tryz.func41, Tryz.ntmps41
  go_wp2_with (first
    | (at_builtin; refine Lib.wpList_append_run _ rfl _ _ _ _ rfl _ _ rfl rfl _ _ (hrz' _) ?_)
    | (at_builtin; refine wpList_copy_runI _ rfl _ _ 83 83 rfl _ _ rfl rfl (hcp1 _ rfl _ _) ?_; rw [HW2.out]))
  go_region_law_o (refine step_copy_runI rfl _ _ 83 83 rfl (.slice (some ⟨w.heap.size, 2, none⟩) 5 (G - 1)) (.slice (some ⟨b, 0, none⟩) 5 5) (by simp [Act.eval, Act.put]) (by simp [Act.eval, Act.put]) (HC2.out _ _) ?_)
  go_wp2
  go_ret
  exact ⟨G, row, W1, HR.out.1, HR.out.2.1, rfl, HR.out.2.2, by rw [HW2.out]⟩

theorem wAt_of {ws : List (Nat × List UInt8)} {k : Nat} (h : k < ws.length) : Exp.wAt ws k = ws[k] := by
  unfold Exp.wAt
  rw [List.getD_eq_getElem?_getD, List.getElem?_eq_getElem h]
  rfl
/-- words in a slice of the call's own -/
theorem isWds_own {w : World} {base : Nat} {v : Value} {ws : List (Nat × List UInt8)} (hn : ws ≠ []) (h : w.ownsRow base 86 2 v ws.length (flatX ws)) : IsWds w v ws := by
  have hl : 0 < ws.length := List.length_pos_iff.2 hn
  rcases h.2 with ⟨_, h0⟩ | ⟨g, cap, cur, rfl, hb, hg, hc, _, hs, ht⟩
  · omega
  · refine ⟨g, cap, rfl, hc, (Array.getElem?_eq_some_iff.1 hg).1, fun k hk => ?_⟩
    have cell : ∀ j, j < ws.length * 2 → w.cell? ⟨g, j, none⟩ = (flatX ws)[j]? := fun j hj => by
      rw [← ht, List.getElem?_take, if_pos hj]
      simp only [World.cell?, hg]
      simp
    obtain ⟨a, b⟩ := flatX_at ws k hk
    rw [cell _ (by omega), cell _ (by omega), a, b, wAt_of hk]
    exact ⟨rfl, rfl⟩
theorem one_flatX : ∀ (ws : List (Nat × List UInt8)), ∀ v ∈ flatX ws, v.oneCell' = true
  | [], v, h => by cases h
  | x :: r, v, h => by
    simp only [flatX, List.flatMap_cons, List.mem_append, List.mem_cons, List.not_mem_nil, or_false] at h
    rcases h with (rfl | rfl) | h
    · rfl
    · rfl
    · exact one_flatX r v h
/-- twelve cells -/
theorem isWds_six {W : World} {g cap : Nat} {ws : List (Nat × List UInt8)} (x : Nat × List UInt8) (hl : ws.length = 5) (hc : 6 ≤ cap) (hg : g < W.heap.size)
    (h0 : W.cell? ⟨g, 0, none⟩ = some (.int .i64 (x.1 : Nat))) (h1 : W.cell? ⟨g, 1, none⟩ = some (.string ⟨x.2.toArray⟩)) (hs : ∀ (j : Nat) (v : Value), (flatX ws)[j]? = some v → W.cell? ⟨g, 2 + j, none⟩ = some v) :
    IsWds W (.slice (some ⟨g, 0, none⟩) 6 cap) (x :: ws) := by
  refine ⟨g, cap, by simp [hl], by simp [hl, hc], hg, fun k hk => ?_⟩
  match k, hk with
  | 0, _ => exact ⟨h0, h1⟩
  | k + 1, hk =>
    have hk' : k < ws.length := by simpa using hk
    obtain ⟨a, b⟩ := flatX_at ws k hk'
    have e : Exp.wAt (x :: ws) (k + 1) = ws[k] := by rw [wAt_of hk]; rfl
    rw [e, show (k + 1) * 2 = 2 + k * 2 by omega, Nat.add_assoc]
    exact ⟨hs _ _ a, hs _ _ b⟩

/-- a word ahead of five, in memory of the call's own -/
theorem insert_any (base : Nat) (ws : List (Nat × List UInt8)) (hl : ws.length = 5) (v : Value) (vb : Nat) (w : World) (hrow : w.ownsRow base 86 2 v 5 (flatX ws)) (hne : v.ownBlock ≠ some vb)
    (hv : w.heap[vb]? = some (.cells #[.int .i64 0, .string ⟨#[48]⟩] 86 (0, 0))) (hbase : base ≤ w.heap.size) :
    Calls Tryz.prog 41 #[v, .int .i64 0, .slice (some ⟨vb, 0, none⟩) 1 1] w fun e w' => ∃ v', e = .returned v' ∧ IsWds w' v' ((0, [48]) :: ws) ∧ Below base w w' := by
  have hvw := (Array.getElem?_eq_some_iff.1 hv).1
  rcases hrow.2 with ⟨_, h0⟩ | ⟨g, cap, cur, rfl, hb, hg, hc, hm, hs, ht⟩
  · cases h0
  · have hgw := (Array.getElem?_eq_some_iff.1 hg).1
    have hvg : vb ≠ g := fun e => hne (by rw [e]; rfl)
    have hfl : (flatX ws).length = 10 := by rw [flatX_len, hl]
    have hin : ∀ (j : Nat) (u : Value), (flatX ws)[j]? = some u → cur[j]? = some u := fun j u hj => by
      have hj10 : j < 10 := by rw [← hfl]; exact (List.getElem?_eq_some_iff.1 hj).1
      rw [← ht, List.getElem?_take, if_pos (by omega)] at hj
      simpa using hj
    have cell : ∀ j, w.cell? ⟨g, j, none⟩ = cur[j]? := fun j => by simp only [World.cell?, hg]; simp
    by_cases h6 : 6 ≤ cap
    · refine (insert_room g vb cap cur (flatX ws) (.int .i64 0) (.string ⟨#[48]⟩) w h6 hm hvg hfl hg hs hin hv (one_flatX ws) rfl rfl).mono ?_
      rintro e w' ⟨rfl, rfl⟩
      have some_ : ∀ j, j < 12 → (w.drew.cell? ⟨g, j, none⟩).isSome = true := fun j hj => by
        show (w.cell? ⟨g, j, none⟩).isSome = true
        rw [cell, Array.getElem?_eq_getElem (by omega)]; rfl
      have some2 : ∀ j, j < 12 → ((w.drew.setCells g 2 (flatX ws)).cell? ⟨g, j, none⟩).isSome = true := fun j hj => isSome_setCells g _ 2 w.drew (fun k hk => some_ _ (by omega)) j (some_ j hj)
      have in0 := World.cell?_setCells_in g [.int .i64 0, .string ⟨#[48]⟩] 0 (w.drew.setCells g 2 (flatX ws)) (fun j hj => by rw [Nat.zero_add]; exact some2 j (by simp at hj; omega))
      have gr : w.grownBy ((w.drew.setCells g 2 (flatX ws)).setCells g 0 [.int .i64 0, .string ⟨#[48]⟩]) (some g) :=
        grown_two (grown_two (grown_drew ⟨rfl, rfl, rfl, Nat.le_refl _, fun _ _ _ => rfl⟩) (grown_setCells _ _ _ _)) (grown_setCells _ _ _ _)
      refine ⟨_, rfl, isWds_six _ hl h6 (Nat.lt_of_lt_of_le hgw gr.size) (in0 0 (by decide)) (in0 1 (by decide)) (fun j u hj => ?_), ⟨gr.os, gr.tape, gr.output, gr.size, fun k hk => gr.block k (by omega) (by simp; omega)⟩⟩
      have hj10 : j < 10 := by rw [← hfl]; exact (List.getElem?_eq_some_iff.1 hj).1
      rw [World.cell?_setCells_out g _ 0 _ _ (fun _ _ => .inr (by simp))]
      rw [World.cell?_setCells_in g (flatX ws) 2 w.drew (fun k hk => some_ _ (by omega)) j (by omega)]
      rw [← hj, List.getElem?_eq_getElem (by omega)]
    · obtain rfl : cap = 5 := by omega
      refine (insert_grow g vb (flatX ws) (.int .i64 0) (.string ⟨#[48]⟩) w hfl hgw hvw (fun j u hj => (cell j).trans (hin j u hj)) hv (one_flatX ws) rfl rfl).mono ?_
      rintro e w' ⟨G, row, W1, hG, hr, rfl, hW1, rfl⟩
      have some_ : ∀ j, j < 12 → (W1.cell? ⟨w.heap.size, j, none⟩).isSome = true := fun j hj => by
        rw [hW1, World.cell?_alloc_at (w := w.drew) row _ w.heap.size j rfl, Array.getElem?_eq_getElem (by omega)]; rfl
      have some2 : ∀ j, j < 12 → ((W1.setCells w.heap.size 0 [.int .i64 0, .string ⟨#[48]⟩]).drew.cell? ⟨w.heap.size, j, none⟩).isSome = true := fun j hj =>
        isSome_setCells w.heap.size [.int .i64 0, .string ⟨#[48]⟩] 0 W1 (fun k hk => by rw [Nat.zero_add]; exact some_ k (by simp at hk; omega)) j (some_ j hj)
      have in0 := World.cell?_setCells_in w.heap.size [.int .i64 0, .string ⟨#[48]⟩] 0 W1 (fun j hj => by rw [Nat.zero_add]; exact some_ j (by simp at hj; omega))
      have b1 : Below w.heap.size w W1 := by rw [hW1]; exact ((Below.refl _ w).drew).alloc (Nat.le_refl _) _
      have sz : w.heap.size < W1.heap.size := by rw [hW1, World.size_alloc]; exact Nat.lt_succ_self _
      have gr : W1.grownBy ((W1.setCells w.heap.size 0 [.int .i64 0, .string ⟨#[48]⟩]).drew.setCells w.heap.size 2 (flatX ws)) (some w.heap.size) :=
        grown_two (grown_drew (grown_setCells _ _ _ _)) (grown_setCells _ _ _ _)
      have b2 : Below w.heap.size W1 ((W1.setCells w.heap.size 0 [.int .i64 0, .string ⟨#[48]⟩]).drew.setCells w.heap.size 2 (flatX ws)) := ⟨gr.os, gr.tape, gr.output, gr.size, fun k hk => gr.block k (by omega) (by simp; omega)⟩
      refine ⟨_, rfl, isWds_six _ hl hG (Nat.lt_of_lt_of_le sz gr.size) ?_ ?_ (fun j u hj => ?_), (b1.trans b2).mono hbase⟩
      · rw [World.cell?_setCells_out _ _ 2 _ _ (fun _ _ => .inl (by simp))]
        exact in0 0 (by decide)
      · rw [World.cell?_setCells_out _ _ 2 _ _ (fun _ _ => .inl (by simp))]
        exact in0 1 (by decide)
      · have hj10 : j < 10 := by rw [← hfl]; exact (List.getElem?_eq_some_iff.1 hj).1
        rw [World.cell?_setCells_in w.heap.size (flatX ws) 2 _ (fun k hk => some2 _ (by omega)) j (by omega)]
        rw [← hj, List.getElem?_eq_getElem (by omega)]
end Go.Proofs.YtpnfifhanmpapaaGreatDoor
/- Contract of Parse of package expr at texts that are no macro. -/
namespace Go.Proofs.YtpnfifhanmpapaaGreatDoor
open Go.ChangeShapes Go.WideShapes Go.RowKit Go.Shelf

theorem Row.belowB {W W' : World} {b B : Nat} {t : TypeId} {cs : List Value} (h : Row W b t cs) (hb : Below B W W') (hB : b < B) : Row W' b t cs := (hb.block _ hB).trans h
/-- what Parse returns, as a value -/
def resV (x : Exp.Ex) (a e : Nat) : Value := .tuple #[.agg #[.int .u64 x.a0, .int .u64 x.a1, .int .u64 x.a2, .int .u64 x.a3, .int .u64 x.a4, .int .u64 x.a5, .bool x.b3, .bool x.b5], .int .i64 a, .int .i64 e]

set_option maxRecDepth 100000 in
set_option maxHeartbeats 4000000 in
theorem parse_plain (s : ByteArray) (hs : s.size ≤ 100000) (hm : Exp.isMac (Exp.words s.data.toList) = false) (x : Exp.Ex) (a e : Nat) (hr : Exp.plain s.data.toList = (x, a, e)) (w : World) :
    Calls Tryz.prog 13 #[.string s] w fun r w' => r = .returned (.tuple #[.agg #[.int .u64 x.a0, .int .u64 x.a1, .int .u64 x.a2, .int .u64 x.a3, .int .u64 x.a4, .int .u64 x.a5, .bool x.b3, .bool x.b5], .int .i64 a, .int .i64 e]) ∧ Below w.heap.size w w' := by
  have R0 : ∀ w1 : World, Below (w.alloc (.cells (exL Exp.zero).toArray 25)).heap.size (w.alloc (.cells (exL Exp.zero).toArray 25)) w1 → Below w.heap.size w w1 ∧ Row w1 w.heap.size 25 (exL Exp.zero) := fun w1 hb =>
    ⟨((Below.refl _ w).alloc (Nat.le_refl _) _).trans (hb.mono (by simp)), (Row.new w _ _).below hb⟩
  have HR0 := Lib.hid R0
  have FW := Lib.hid (fun w0 : World => callsIn_wide.1 (first_words 3 (by decide) s hs w0))
  have HM := Lib.hid hm
  have HR := Lib.hid hr
  have hsz : s.size = s.data.toList.length := Lib.size_eq s
  have HZ := Lib.hid hsz
  clear R0 hm hr hsz
  go_enter Tryz.func13, Tryz.ntmps13
  go_wp2_with fail
  refine (FW.out _).mono ?_
  rintro e' w1 ⟨v, rfl, hrow, hb⟩
  obtain ⟨bw, R⟩ := HR0.out w1 hb
  obtain ⟨T, hT⟩ : ∃ T, (Exp.words s.data.toList).take 7 = T := ⟨_, rfl⟩
  rw [hT] at hrow
  simp only [World.size_alloc] at hrow
  have hl7 : T.length = min 7 (Exp.words s.data.toList).length := by rw [← hT, List.length_take]
  have HT := Lib.hid hT
  have HL := Lib.hid hl7
  have BW := Lib.hid bw
  have HRR := Lib.hid R
  have n0 := R.cell 0; have n1 := R.cell 1; have n2 := R.cell 2; have n3 := R.cell 3; have n4 := R.cell 4; have n5 := R.cell 5; have n6 := R.cell 6; have n7 := R.cell 7
  have f0 := R.free 0; have f1 := R.free 1; have f2 := R.free 2; have f3 := R.free 3; have f4 := R.free 4; have f5 := R.free 5; have f6 := R.free 6; have f7 := R.free 7
  simp only [exL, Exp.zero, List.getElem?_cons_zero, List.getElem?_cons_succ, Int.natCast_zero] at n0 n1 n2 n3 n4 n5 n6 n7
  clear hb HR0 FW hT bw R
  by_cases hA : T.length < 5 ∧ T.length ≠ 1
  · obtain ⟨ad, cap, rfl⟩ : ∃ ad cap, v = .slice ad T.length cap := by
      rcases hrow.2 with ⟨rfl, hk⟩ | ⟨g, cap, cur, rfl, _⟩
      · exact ⟨none, 0, by simp [hk]⟩
      · exact ⟨_, _, rfl⟩
    obtain ⟨n, hn⟩ : ∃ n, T.length = n := ⟨_, rfl⟩
    rw [hn] at hA ⊢ 
    have t1 : ((n : Int) == 1) = false := by rw [beq_eq_false_iff_ne]; omega
    have t1n : (n == 1) = false := by rw [beq_eq_false_iff_ne]; omega
    have t2 : decide ((n : Int) < 5) = true := by rw [decide_eq_true_iff]; omega
    have t2n : decide (n < 5) = true := by rw [decide_eq_true_iff]; omega
    have HP : Hid ((x, a, e) = (Exp.zero, s.size, 10)) := Lib.hid (by
      rw [← HR.out]
      unfold Exp.plain
      rw [if_pos (by have := HL.out; omega), HZ.out])
    clear hrow hl7 hn hA
    go_wp2_with fail
    have hp := HP.out
    simp only [Prod.mk.injEq] at hp
    obtain ⟨rfl, rfl, rfl⟩ := hp
    refine bodyPost_ret (v := .tuple #[.agg #[.int .u64 0, .int .u64 0, .int .u64 0, .int .u64 0, .int .u64 0, .int .u64 0, .bool false, .bool false], .int .i64 (s.size : Nat), .int .i64 (10 : Nat)]) (by simp [results, Tryz.results13, go_sem, n0, n1, n2, n3, n4, n5, n6, n7]) rfl ⟨rfl, ?_⟩
    have b := BW.out
    repeat' refine bel_cell ?_ (by omega) _ _
    exact b
  · have hne : T ≠ [] := by rintro rfl; exact hA ⟨by decide, by decide⟩
    have W0 := isWds_own hne hrow
    obtain ⟨g, cap, rfl, hcap, hg, hcell⟩ := W0
    have hbg : w.heap.size + 1 ≤ g := (hrow.lt g rfl).1
    have HW := Lib.hid hrow
    have ws_len : T.length < 7 → Exp.words s.data.toList = T := fun h => by
      have q := HT.out
      rw [List.take_of_length_le (by omega)] at q
      exact q
    have HQ := Lib.hid ws_len
    clear hrow
    rcases (show T.length = 1 ∨ T.length = 5 ∨ T.length = 6 ∨ T.length = 7 by omega) with h1 | h5 | h6 | h7
    · -- one word, which is no macro
      obtain ⟨c0, c1⟩ := hcell 0 (by omega)
      have eT := ws_len (by omega)
      have hin := Exp.words_in s.data.toList _ (by rw [eT]; exact Exp.wAt_mem (ws := T) (i := 0) (by omega))
      have hm := HM.out
      rw [eT] at hm
      unfold Exp.isMac at hm
      rw [h1] at hm ⊢
      obtain ⟨p, b, rest, hx⟩ : ∃ p b rest, Exp.wAt T 0 = (p, b :: rest) := by
        cases hq : (Exp.wAt T 0).2 with
        | nil => exact absurd hq hin.2.1
        | cons b rest => exact ⟨(Exp.wAt T 0).1, b, rest, by rw [← hq]⟩
      rw [hx] at hm c0 c1 hin
      have hb64 : ¬ b = 64 := by simpa using hm
      have hb64n : b.toNat ≠ 64 := fun e => hb64 (UInt8.toNat_inj.1 e)
      have t1 : ((b.toNat : Int) == 64) = false := by rw [beq_eq_false_iff_ne]; omega
      have t1n : (b.toNat == 64) = false := by rw [beq_eq_false_iff_ne]; omega
      have HP : Hid ((x, a, e) = (Exp.zero, s.size, 10)) := Lib.hid (by
        rw [← HR.out]
        unfold Exp.plain
        rw [if_pos (by rw [eT]; omega), HZ.out])
      have sz := hin.1
      obtain ⟨t, ht⟩ : ∃ t : ByteArray, (⟨(b :: rest).toArray⟩ : ByteArray) = t := ⟨_, rfl⟩
      have tz : 0 < t.size := by rw [← ht]; simp [ByteArray.size]
      have tz' : ((0 : Int) < (t.size : Int)) := by omega
      have tb : t[0]'tz = b := by subst ht; rfl
      simp only [ht] at c1
      clear hm hin hx hcell hl7 hA hb64 ws_len eT sz ht h1
      go_wp2_with fail
      have hp := HP.out
      simp only [Prod.mk.injEq] at hp
      obtain ⟨rfl, rfl, rfl⟩ := hp
      refine bodyPost_ret (v := .tuple #[.agg #[.int .u64 0, .int .u64 0, .int .u64 0, .int .u64 0, .int .u64 0, .int .u64 0, .bool false, .bool false], .int .i64 (s.size : Nat), .int .i64 (10 : Nat)]) (by simp [results, Tryz.results13, go_sem, n0, n1, n2, n3, n4, n5, n6, n7]) rfl ⟨rfl, ?_⟩
      have b := BW.out
      repeat' refine bel_cell ?_ (by omega) _ _
      exact b
    · -- five words: the first field is left out
      rw [h5] at HW ⊢
      have hrow := HW.out.alloc (.cells #[.int .i64 0, .string ⟨#[48]⟩] 86)
      have hvn : w1.heap[w1.heap.size]? = none := by simp
      have hvb := World.alloc_heap_new w1 (.cells #[.int .i64 0, .string ⟨#[48]⟩] 86)
      have CI := Lib.hid (insert_any (w.heap.size + 1) T h5 (.slice (some ⟨g, 0, none⟩) 5 cap) w1.heap.size _ hrow (by simp [Value.ownBlock]; omega) hvb (by rw [World.size_alloc]; omega))
      have eT := ws_len (by omega)
      have hr := HR.out
      unfold Exp.plain at hr
      have h6 : Exp.six T = (0, [48]) :: T := by unfold Exp.six; rw [if_pos h5]
      have hbd := Exp.six_bd (l := s.data.toList) (by rw [eT]; exact .inl h5)
      rw [eT, if_neg (by omega), if_neg (by omega), h6] at hr
      rw [eT, h6] at hbd
      have HB6 : Hid (∀ i, i < 6 → (Exp.wAt ((0, [48]) :: T) i).1 + (Exp.wAt ((0, [48]) :: T) i).2.length ≤ 1000000) := Lib.hid (fun i hi => by have := hbd i hi; have := HZ.out; omega)
      have HRD := Lib.hid hr
      have HLEN : Hid (((0, [48]) :: T).length = 6) := Lib.hid (by simp [h5])
      clear hrow hvn hvb eT hr h6 hbd hcell hl7 hA ws_len n0 n1 n2 n3 n4 n5 n6 n7 f0 f1 f2 f3 f4 f5 f6 f7 h5
      go_wp2_with fail
      refine CI.out.mono ?_
      rintro e' w3 ⟨v', rfl, hwd, hb3⟩
      have BB : Below (w.heap.size + 1) w1 w3 := ((Below.refl _ w1).alloc (by omega) _).trans hb3
      have HB3 := Lib.hid BB
      have HWD := Lib.hid hwd
      obtain ⟨g', cap', e1, -⟩ := hwd
      have el : ((0, [48]) :: T : List (Nat × List UInt8)).length = 6 := HLEN.out
      rw [el] at e1
      subst e1
      clear hb3 BB CI el
      go_wp2_with fail
      refine (read_any ((0, [48]) :: T) HLEN.out HB6.out _ _ HWD.out x a e HRD.out).mono ?_
      rintro e' w2 ⟨rfl, hb⟩
      have R := (HRR.out.belowB HB3.out (Nat.lt_succ_self _)).below hb
      have n0 := R.cell 0; have n1 := R.cell 1; have n2 := R.cell 2; have n3 := R.cell 3; have n4 := R.cell 4; have n5 := R.cell 5; have n6 := R.cell 6; have n7 := R.cell 7
      have f0 := R.free 0; have f1 := R.free 1; have f2 := R.free 2; have f3 := R.free 3; have f4 := R.free 4; have f5 := R.free 5; have f6 := R.free 6; have f7 := R.free 7
      simp only [exL, Exp.zero, List.getElem?_cons_zero, List.getElem?_cons_succ, Int.natCast_zero] at n0 n1 n2 n3 n4 n5 n6 n7
      have BZ := Lib.hid (BW.out.trans ((HB3.out.mono (Nat.le_succ _)).trans (hb.mono (Nat.le_trans BW.out.size HB3.out.size))))
      clear R hb
      go_wp2_with fail
      refine bodyPost_ret (v := .tuple #[.agg #[.int .u64 x.a0, .int .u64 x.a1, .int .u64 x.a2, .int .u64 x.a3, .int .u64 x.a4, .int .u64 x.a5, .bool x.b3, .bool x.b5], .int .i64 a, .int .i64 e]) (by simp [results, Tryz.results13, go_sem, n0, n1, n2, n3, n4, n5, n6, n7]) rfl ⟨rfl, ?_⟩
      have b := BZ.out
      repeat' refine bel_cell ?_ (by omega) _ _
      exact b
    · -- six words
      rw [h6] at HW ⊢
      have eT := ws_len (by omega)
      have hr := HR.out
      unfold Exp.plain at hr
      have hsix : Exp.six T = T := by unfold Exp.six; rw [if_neg (by omega)]
      have hbd := Exp.six_bd (l := s.data.toList) (by rw [eT]; exact .inr h6)
      rw [eT, if_neg (by omega), if_neg (by omega), hsix] at hr
      rw [eT, hsix] at hbd
      have HB6 : Hid (∀ i, i < 6 → (Exp.wAt T i).1 + (Exp.wAt T i).2.length ≤ 1000000) := Lib.hid (fun i hi => by have := hbd i hi; have := HZ.out; omega)
      have HRD := Lib.hid hr
      have HLEN := Lib.hid h6
      have HWD : Hid (IsWds w1 (.slice (some ⟨g, 0, none⟩) 6 cap) T) := Lib.hid ⟨g, cap, by rw [h6], hcap, hg, hcell⟩
      clear eT hr hsix hbd hcell hl7 hA ws_len n0 n1 n2 n3 n4 n5 n6 n7 f0 f1 f2 f3 f4 f5 f6 f7 h6
      go_wp2_with fail
      refine (read_any T HLEN.out HB6.out _ _ HWD.out x a e HRD.out).mono ?_
      rintro e' w2 ⟨rfl, hb⟩
      have R := HRR.out.below hb
      have n0 := R.cell 0; have n1 := R.cell 1; have n2 := R.cell 2; have n3 := R.cell 3; have n4 := R.cell 4; have n5 := R.cell 5; have n6 := R.cell 6; have n7 := R.cell 7
      have f0 := R.free 0; have f1 := R.free 1; have f2 := R.free 2; have f3 := R.free 3; have f4 := R.free 4; have f5 := R.free 5; have f6 := R.free 6; have f7 := R.free 7
      simp only [exL, Exp.zero, List.getElem?_cons_zero, List.getElem?_cons_succ, Int.natCast_zero] at n0 n1 n2 n3 n4 n5 n6 n7
      have BZ := Lib.hid (BW.out.trans (hb.mono BW.out.size))
      clear R hb
      go_wp2_with fail
      refine bodyPost_ret (v := .tuple #[.agg #[.int .u64 x.a0, .int .u64 x.a1, .int .u64 x.a2, .int .u64 x.a3, .int .u64 x.a4, .int .u64 x.a5, .bool x.b3, .bool x.b5], .int .i64 a, .int .i64 e]) (by simp [results, Tryz.results13, go_sem, n0, n1, n2, n3, n4, n5, n6, n7]) rfl ⟨rfl, ?_⟩
      have b := BZ.out
      repeat' refine bel_cell ?_ (by omega) _ _
      exact b
    · -- seven words or more
      obtain ⟨c0, c1⟩ := hcell 6 (by omega)
      rw [h7] at HW ⊢
      have HP : Hid ((x, a, e) = (Exp.zero, (Exp.wAt T 6).1, 10)) := Lib.hid (by
        rw [← HR.out]
        unfold Exp.plain
        have e6 : Exp.wAt (Exp.words s.data.toList) 6 = Exp.wAt T 6 := by
          rw [← HT.out]
          unfold Exp.wAt
          rw [List.getD_eq_getElem?_getD, List.getD_eq_getElem?_getD, List.getElem?_take, if_pos (by decide)]
        have := HL.out
        rw [if_neg (by omega), if_pos (by omega), e6])
      obtain ⟨p, hp⟩ : ∃ p, (Exp.wAt T 6).1 = p := ⟨_, rfl⟩
      rw [hp] at HP c0
      have gn : g ≠ w.heap.size := by omega
      have gn2 : w.heap.size ≠ g := by omega
      have KE : Hid (∀ v0 v1 v2 v3 v4 v5 v6 v7, ((((((((w1.setCell ⟨w.heap.size, 0, none⟩ v0).setCell ⟨w.heap.size, 1, none⟩ v1).setCell ⟨w.heap.size, 2, none⟩ v2).setCell ⟨w.heap.size, 3, none⟩ v3).setCell ⟨w.heap.size, 4, none⟩ v4).setCell ⟨w.heap.size, 5, none⟩ v5).setCell ⟨w.heap.size, 6, none⟩ v6).setCell ⟨w.heap.size, 7, none⟩ v7).cell? ⟨g, 12, none⟩ = some (.int .i64 p)) := Lib.hid (fun v0 v1 v2 v3 v4 v5 v6 v7 => ((set8_grown w1 w.heap.size v0 v1 v2 v3 v4 v5 v6 v7).cell (a := ⟨g, 12, none⟩) c0 (fun e => gn (by cases e; rfl))))
      clear hcell hl7 hA ws_len h7 hp c1
      go_wp2_with fail
      go_region_held3 (fun w' => w'.cell? ⟨g, 12, none⟩ = some (.int .i64 p)) (first | (go_keep; done) | exact KE.out _ _ _ _ _ _ _ _) (fail)
      go_wp2_with fail
      have hp := HP.out
      simp only [Prod.mk.injEq] at hp
      obtain ⟨rfl, rfl, rfl⟩ := hp
      refine bodyPost_ret (v := .tuple #[.agg #[.int .u64 0, .int .u64 0, .int .u64 0, .int .u64 0, .int .u64 0, .int .u64 0, .bool false, .bool false], .int .i64 (a : Nat), .int .i64 (10 : Nat)]) (by simp [results, Tryz.results13, go_sem, n0, n1, n2, n3, n4, n5, n6, n7]) rfl ⟨rfl, ?_⟩
      have b := BW.out
      refine Below.drew ?_
      repeat' refine bel_cell ?_ (by omega) _ _
      exact b
end Go.Proofs.YtpnfifhanmpapaaGreatDoor
