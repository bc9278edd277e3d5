/- Contract of the iterator over a field's items, of package field. -/
import Derived.Test.YtpnfifhanmpapaaGreatDoorMFldJ
import Derived.Laws.EntriesVeiled
import Derived.RangeFuncLeaves
import Derived.Shelf.Abstract
namespace Go.Proofs.YtpnfifhanmpapaaGreatDoor
open Go.ChangeShapes Go.WideShapes Go.RowKit Go.Shelf

attribute [local go_sem] Oper.semAt_some

/-- what a round keeps: all that was there, but what the loop's own variables hold -/
def KpR (n₁ : Nat) (own : Nat → Prop) (A B : World) : Prop := A.heap.size ≤ B.heap.size ∧ ∀ b, b < n₁ → ¬ own b → B.heap[b]? = A.heap[b]?
theorem KpR.refl (n₁ : Nat) (own : Nat → Prop) (A : World) : KpR n₁ own A A := ⟨Nat.le_refl _, fun _ _ _ => rfl⟩
theorem KpR.trans {n₁ : Nat} {own : Nat → Prop} {A B C : World} (h : KpR n₁ own A B) (k : KpR n₁ own B C) : KpR n₁ own A C := ⟨Nat.le_trans h.1 k.1, fun b h1 h2 => (k.2 b h1 h2).trans (h.2 b h1 h2)⟩
theorem KR.keep {n₁ : Nat} {own : Nat → Prop} {A B : World} {R : Nat} {st : RS} {K : Fld.Kd} {xs : List ByteArray} (h : KR A R st K xs) (k : KpR n₁ own A B) (h1 : R < n₁) (h2 : ¬ own R)
    (h3 : ∀ b o, st.nA = some ⟨b, o, none⟩ → 0 < xs.length → b < n₁ ∧ ¬ own b) : KR B R st K xs := by
  refine ⟨(k.2 R h1 h2).trans h.rd, ?_, h.apart, h.lo, h.hi, h.nm, h.wk, h.ok, h.fit, h.at_⟩
  obtain ⟨A', cap, e, hc, hp⟩ := h.strs
  have e' := e
  simp only [Value.slice.injEq] at e'
  obtain ⟨e1, e2, e3⟩ := e'
  refine ⟨A', cap, e, hc, fun q => ?_⟩
  obtain ⟨b, o, e, h4, h5⟩ := hp q
  obtain ⟨g1, g2⟩ := h3 b o (by rw [e1]; exact e) q
  refine ⟨b, o, e, Nat.lt_of_lt_of_le h4 k.1, fun j x hx => ?_⟩
  rw [World.cell?_of_block (w := A) (a := ⟨b, o + j, none⟩) (k.2 b g1 g2)]
  exact h5 j x hx

/-! how far the loop still goes -/
def rank (f : Nat) : Nat := if f = partF 0 then 0 else if f = partF 1 then 1 else if f = partF 2 then 2 else if f = partF 3 then 3 else if f = partF 4 then 4 else 5
theorem rank_part (p : Nat) (h : p ≤ 5) : rank (partF p) = p := by
  match p, h with
  | 0, _ => rfl
  | 1, _ => rfl
  | 2, _ => rfl
  | 3, _ => rfl
  | 4, _ => rfl
  | 5, _ => rfl
def leftC (c : Array Value) : Nat := match (c[4]? : Option Value), (c[5]? : Option Value), (c[6]? : Option Value) with
  | some (Value.string s), some (Value.int _ a), some (Value.func (Fn.func f) _ _) => 6 * (s.size - a.toNat) + (5 - rank f) + 1
  | _, _, _ => 0
def leftW (R : Nat) (W : World) : Nat := match W.heap[R]? with
  | some (.cells c _ _) => leftC c
  | _ => 0
theorem left_part {W : World} {R : Nat} {st : RS} {p : Nat} (h : Rd W R st) (hp : p ≤ 5) (e : st.nx = partV p) : leftW R W = meas p st + 1 := by
  unfold leftW
  rw [show W.heap[R]? = _ from h]
  simp only [leftC, RS.cells, List.getElem?_toArray, List.getElem?_cons_succ, List.getElem?_cons_zero, e, partV, rank_part p hp, meas, Int.toNat_natCast]
theorem left_nil {W : World} {R : Nat} {st : RS} (h : Rd W R st) (e : st.nx = .nilFunc) : leftW R W = 0 := by
  unfold leftW
  rw [show W.heap[R]? = _ from h]
  simp only [leftC, RS.cells, List.getElem?_toArray, List.getElem?_cons_succ, List.getElem?_cons_zero, e]

theorem part_enters (p : Nat) (hp : p ≤ 5) : ∀ args w, (callFunc (partF p) args).run Tryz.prog w = .ok (.enter (partF p) args) w := by
  match p, hp with
  | 0, _ => exact enters_of Tryz.func69 (by kernel_rfl) rfl
  | 1, _ => exact enters_of Tryz.func107 (by kernel_rfl) rfl
  | 2, _ => exact enters_of Tryz.func141 (by kernel_rfl) rfl
  | 3, _ => exact enters_of Tryz.func105 (by kernel_rfl) rfl
  | 4, _ => exact enters_of Tryz.func133 (by kernel_rfl) rfl
  | 5, _ => exact enters_of Tryz.func134 (by kernel_rfl) rfl

theorem neq_part (f : Nat) (w : World) : (binOp .neq 127 (.func (.func f) #[] #[]) .nilFunc).run Tryz.prog w = .ok (.bool true) w := by kernel_rfl
theorem neq_nil (w : World) : (binOp .neq 127 .nilFunc .nilFunc).run Tryz.prog w = .ok (.bool false) w := by kernel_rfl
/-- between two rounds: what has come, and what is still to come -/
structure Mid (K : Fld.Kd) (T : List Fld.It × Option Nat) (pre : List Fld.It) (st : RS) : Prop where
  is_ : (∃ p, p ≤ 5 ∧ st.nx = partV p ∧ (p = 0 ∨ st.wh = false) ∧ T.1 = pre ++ (fut K p st).1 ∧ T.2 = (fut K p st).2) ∨
    (st.nx = .nilFunc ∧ T.1 = pre ∧ ((st.wh = true ∧ T.2 = none) ∨ (st.wh = false ∧ T.2 = some st.at_)))

set_option maxRecDepth 100000 in
set_option maxHeartbeats 2000000 in
theorem items_in (n : Nat) (hn : 1 ≤ n) (l Bx R n₁ : Nat) (own : Nat → Prop) (K : Fld.Kd) (xs : List ByteArray) (T : List Fld.It × Option Nat) (st0 : RS) (J : List Fld.It → World → Prop)
    (hJ : ∀ pre A B, J pre A → Only R A B → J pre B)
    (hY : ∀ pre x A, J pre A → YieldAt Fence.wide (n - 1) Tryz.prog l #[itv x true] A fun e B => e = .returned (.bool true) ∧ J (pre ++ [x]) B ∧ KpR n₁ own A B)
    (W : World) (hK : KR W R st0 K xs) (hM : Mid K T [] st0) (hx : W.cell? ⟨Bx, 0, none⟩ = some (.pointer (some ⟨R, 0, none⟩))) (hxl : Bx < n₁) (hxo : ¬ own Bx) (hxR : Bx ≠ R) (hn₁ : n₁ ≤ W.heap.size)
    (hR : R < n₁) (hRo : ¬ own R) (hN : ∀ b o, st0.nA = some ⟨b, o, none⟩ → 0 < xs.length → b < n₁ ∧ ¬ own b) (h0 : J [] W) :
    CallsIn Fence.wide n Tryz.prog 108 #[.func (.yield l) #[] #[], .pointer (some ⟨Bx, 0, none⟩)] W fun e B => (∃ v, e = .returned v) ∧
      ∃ ys, (ys = T.1 ∧ ∃ st, KR B R st K xs ∧ ((st.wh = true ∧ T.2 = none) ∨ (st.wh = false ∧ T.2 = some st.at_))) ∧ J ys B := by
  have HJ := Lib.hid hJ
  have HY := Lib.hid hY
  have HM := Lib.hid hM
  have HN := Lib.hid hN
  clear hJ hY hM hN
  refine callsIn_of_wp Tryz.func108 rfl trivial ?_ rfl
  simp only [Tryz.ntmps108, List.size_toArray, List.length_cons, List.length_nil, Nat.reduceAdd, Nat.reduceSub, Array.replicate_succ, Array.replicate_zero, List.push_toArray, List.append_toArray, List.nil_append, List.cons_append]
  gi_wp2
  gi_loopw [] (fun wr => ∃ pre st, Hid (Mid K T pre st) ∧ KR wr R st K xs ∧ st.nA = st0.nA ∧ Hid (wr.cell? ⟨Bx, 0, none⟩ = some (.pointer (some ⟨R, 0, none⟩))) ∧ n₁ ≤ wr.heap.size ∧ J pre wr) (fun wr => leftW R wr)
  case atStart => exact ⟨[], st0, HM, hK, rfl, Lib.hid hx, hn₁, h0⟩
  case round =>
    obtain ⟨pre, st, hm, hk, hna, hbx, hsz, hj⟩ := hrel
    have b0 := hbx.out
    have c6 := hk.rd.cell 6
    simp only [RS.cells, List.getElem?_toArray, List.getElem?_cons_succ, List.getElem?_cons_zero] at c6
    rcases hm.out.is_ with ⟨p, hp, hnx, hwh, hT1, hT2⟩ | ⟨hnx, hT1, hT2⟩
    · have PC := Lib.hid (part_ok p hp)
      have EN := part_enters p hp
      obtain ⟨f, hf⟩ : ∃ f, partF p = f := ⟨_, rfl⟩
      have hpf : partV p = .func (.func f) #[] #[] := by rw [← hf]; rfl
      rw [hnx, hpf] at c6
      rw [hf] at EN
      have HX := Lib.hid hnx
      have HT1 := Lib.hid hT1
      have HT2 := Lib.hid hT2
      have HWH := Lib.hid hwh
      have HF := Lib.hid hf
      have KK := Lib.hid hk
      have JJ := Lib.hid hj
      have NA := Lib.hid hna
      have nf := neq_part f
      clear hnx hT1 hT2 hwh hf hk hj hna hm hpf
      gi_wp2
      refine wpIn_wide.2 ?_
      have b0d : wr.drew.cell? ⟨Bx, 0, none⟩ = some (.pointer (some ⟨R, 0, none⟩)) := b0
      refine wp_region_held_drew (S := fun w' => w'.cell? ⟨Bx, 0, none⟩ = some (.pointer (some ⟨R, 0, none⟩))) (by kernel_rfl) ?mhS (fun hHeld => ?mhR)
      case mhS => exact b0d
      refine wpAnyH_take (i := 0) (v := ?mv0) rfl (by kernel_rfl) (by kernel_rfl) (by kernel_rfl) (fun _ _ _ h => h) (Or.inl ⟨by rfl, ?my0⟩) (by assumption) ?mr0
      case my0 => (intro w hSw; (try dsimp only at hSw); (try simp only [List.getElem_toArray, List.getElem_cons_zero]); go_simp; try with_reducible rfl)
      simp only [Act.put, List.getElem_toArray, List.getElem_cons_zero, List.setIfInBounds_toArray, List.set_cons_zero, List.set_cons_succ]
      refine wpAnyH_take (i := 1) (v := ?mv1) rfl (by kernel_rfl) (by kernel_rfl) (by kernel_rfl) (fun _ _ _ h => h) (Or.inl ⟨by rfl, ?my1⟩) (by assumption) ?mr1
      case my1 => (intro w hSw; (try dsimp only at hSw); (try simp only [List.getElem_toArray, List.getElem_cons_zero, List.getElem_cons_succ]); go_simp; try with_reducible rfl)
      simp only [Act.put, List.getElem_toArray, List.getElem_cons_zero, List.getElem_cons_succ, List.setIfInBounds_toArray, List.set_cons_zero, List.set_cons_succ]
      refine wpAnyH_take (i := 2) (v := ?mv2) rfl (by kernel_rfl) (by kernel_rfl) (by kernel_rfl) (fun _ _ _ h => h) (Or.inl ⟨by rfl, ?my2⟩) (by assumption) ?mr2
      case my2 => (intro w hSw; (try dsimp only at hSw); (try simp only [List.getElem_toArray, List.getElem_cons_zero, List.getElem_cons_succ]); go_simp; try with_reducible rfl)
      simp only [Act.put, List.getElem_toArray, List.getElem_cons_zero, List.getElem_cons_succ, List.setIfInBounds_toArray, List.set_cons_zero, List.set_cons_succ]
      refine wpAnyH_take (i := 3) (v := ?mv3) rfl (by kernel_rfl) (by kernel_rfl) (by kernel_rfl) (fun _ _ _ h => h) (Or.inl ⟨by rfl, ?my3⟩) (by assumption) ?mr3
      case my3 => (intro w hSw; (try dsimp only at hSw); (try simp only [List.getElem_toArray, List.getElem_cons_zero, List.getElem_cons_succ]); go_simp; try with_reducible rfl)
      simp only [Act.put, List.getElem_toArray, List.getElem_cons_zero, List.getElem_cons_succ, List.setIfInBounds_toArray, List.set_cons_zero, List.set_cons_succ]
      refine wpAnyH_take (i := 5) (v := ?mv5) rfl (by kernel_rfl) (by kernel_rfl) (by kernel_rfl) (fun _ _ _ h => h) (Or.inl ⟨by rfl, ?my5⟩) (by assumption) ?mr5
      case my5 => (intro w hSw; (try dsimp only at hSw); (try simp only [List.getElem_toArray, List.getElem_cons_zero, List.getElem_cons_succ]); go_simp; try with_reducible rfl)
      simp only [Act.put, List.getElem_toArray, List.getElem_cons_zero, List.getElem_cons_succ, List.setIfInBounds_toArray, List.set_cons_zero, List.set_cons_succ]
      refine wpAnyH_ready (rs := [4]) (by kernel_rfl) (by simp) ?_
      refine AllReadyH.cons rfl (fun K1 hK1 => ?_) AllReadyH.nil
      rw [if_pos (by rfl)]
      simp only [List.getElem_toArray, List.getElem_cons_zero, List.getElem_cons_succ]
      go_simp
      refine hK1.out _ _ ?mhS4 (fun hHeld => ?mhR4)
      case mhS4 => exact b0d
      clear hK1 K1
      (try simp only [Act.put, List.setIfInBounds_toArray, List.set_cons_zero, List.set_cons_succ])
      refine wpAnyH_ready (rs := [6]) (by kernel_rfl) (by simp) ?_
      refine AllReadyH.cons rfl (fun K1 hK1 => ?_) AllReadyH.nil
      rw [if_pos (by rfl)]
      simp only [List.getElem_toArray, List.getElem_cons_zero, List.getElem_cons_succ]
      go_simp
      have PC2 := PC.out R st K xs wr.drew (KK.out.step (KK.out.rd.drewN 1) (Only.drewN R wr 1) rfl rfl rfl rfl rfl rfl rfl KK.out.at_) HWH.out
      rw [HF.out] at PC2
      refine PC2.mono ?_
      clear PC2 EN c6
      rintro e w2 ⟨v, st', rfl, hk2, ho2, ⟨hnx2, hna2⟩, hs⟩
      have NAE := Lib.hid hna2
      have hbx2 : w2.cell? ⟨Bx, 0, none⟩ = some (.pointer (some ⟨R, 0, none⟩)) := (ho2.cells (b := Bx) (by show Bx < wr.heap.size; omega) hxR 0).1.trans b0
      have hsz2 : n₁ ≤ w2.heap.size := Nat.le_trans hsz ho2.size
      have O2 := Lib.hid (((Only.drewN R wr 1).trans ho2))
      have d6 := hk2.rd.cell 6
      have y6 := hk2.rd.frozen 6
      have d7 := hk2.rd.cell 7
      have d8 := hk2.rd.cell 8
      have d9 := hk2.rd.cell 9
      have d10 := hk2.rd.cell 10
      have d11 := hk2.rd.cell 11
      have d12 := hk2.rd.cell 12
      have d13 := hk2.rd.cell 13
      simp only [RS.cells, List.getElem?_toArray, List.getElem?_cons_succ, List.getElem?_cons_zero] at d6 d7 d8 d9 d10 d11 d12 d13
      have K2 := Lib.hid hk2
      have hat2 := hk2.at_
      have hRx : R ≠ Bx := fun e => hxR e.symm
      have LW := Lib.hid (left_part KK.out.rd hp HX.out)
      refine hK1.out _ _ ?mhS6 (fun hHeld => ?mhR6)
      case mhS6 => exact hbx2
      clear hK1 K1 hnx2 hna2 hk2 ho2 b0 b0d
      (try simp only [Act.put, List.setIfInBounds_toArray, List.set_cons_zero, List.set_cons_succ])
      refine wpAnyH_take (i := 7) (v := ?mv7) rfl (by kernel_rfl) (by kernel_rfl) (by kernel_rfl) (fun _ _ _ h => h) (Or.inl ⟨by rfl, ?my7⟩) (by assumption) ?mr7
      case my7 => (intro w hSw; (try dsimp only at hSw); (try simp only [List.getElem_toArray, List.getElem_cons_zero, List.getElem_cons_succ]); go_simp; try with_reducible rfl)
      simp only [Act.put, List.getElem_toArray, List.getElem_cons_zero, List.getElem_cons_succ, List.setIfInBounds_toArray, List.set_cons_zero, List.set_cons_succ]
      refine wpAnyH_take (i := 8) (v := ?mv8) rfl (by kernel_rfl) (by kernel_rfl) (by kernel_rfl) (fun _ _ _ h => h) (Or.inl ⟨by rfl, ?my8⟩) (by assumption) ?mr8
      case my8 => (intro w hSw; (try dsimp only at hSw); (try simp only [List.getElem_toArray, List.getElem_cons_zero, List.getElem_cons_succ]); go_simp; try with_reducible rfl)
      simp only [Act.put, List.getElem_toArray, List.getElem_cons_zero, List.getElem_cons_succ, List.setIfInBounds_toArray, List.set_cons_zero, List.set_cons_succ]
      rcases hs with ⟨p', rfl, hp1, hp5, hw2, hfut, hme⟩ | ⟨rfl, hw2, hfut⟩ | ⟨rfl, hw2, hfut⟩ | ⟨rfl, hw2, hfut, hme⟩
      · have hfun : partV p' = .func (.func (partF p')) #[] #[] := rfl
        obtain ⟨f', hf'⟩ : ∃ f', partF p' = f' := ⟨_, rfl⟩
        rw [hf'] at hfun
        rw [hfun]
        have HF' := Lib.hid hfun
        clear hfun hf'
        refine wpAnyH_ready (rs := [9]) (by kernel_rfl) (by simp) ?_
        refine AllReadyH.cons rfl (fun K1 hK1 => ?_) AllReadyH.nil
        rw [if_pos (by rfl)]
        simp only [List.getElem_toArray, List.getElem_cons_zero, List.getElem_cons_succ]
        go_simp
        refine hK1.out _ _ ?mhS9a (fun hHeld => ?mhR9a)
        case mhS9a => (simp [hbx2, go_sem])
        clear hK1 K1
        (try simp only [Act.put, List.setIfInBounds_toArray, List.set_cons_zero, List.set_cons_succ])
        refine wpAnyH_done (by kernel_rfl) ?_ _
        have K3 := Lib.hid (K2.out.step (K2.out.rd.set 6 (.func (.func f') #[] #[]) (st' := { st' with nx := .func (.func f') #[] #[] }) (by simp [RS.cells])) (Only.set R 6 w2 (.func (.func f') #[] #[])) rfl rfl rfl rfl rfl rfl rfl hat2)
        have O3 := Lib.hid (O2.out.trans (Only.set R 6 w2 (.func (.func f') #[] #[])))
        have hsz3 : n₁ ≤ (w2.setCell ⟨R, 6, none⟩ (.func (.func f') #[] #[])).heap.size := Nat.le_trans hsz2 (Only.set R 6 w2 (.func (.func f') #[] #[])).size
        have hbx3 : (w2.setCell ⟨R, 6, none⟩ (.func (.func f') #[] #[])).cell? ⟨Bx, 0, none⟩ = some (.pointer (some ⟨R, 0, none⟩)) := by simp [hbx2, go_sem]
        have J3 := Lib.hid (HJ.out pre wr _ JJ.out O3.out)
        clear O3
        have HW2 := Lib.hid hw2
        rw [hw2] at d13
        have FUT := Lib.hid hfut
        clear hw2 hfut
        gi_wp2
        refine ⟨fun _ h => (by cases h), ?_⟩
        gi_wp2
        go_roundw
        case rel => exact ⟨pre, { st' with nx := .func (.func f') #[] #[] }, Lib.hid ⟨.inl ⟨p', hp5, HF'.out.symm, .inr HW2.out, by rw [HT1.out, ← FUT.out]; rfl, by rw [HT2.out, ← FUT.out]; rfl⟩⟩, K3.out, NAE.out.trans NA.out, Lib.hid hbx3, hsz3, J3.out⟩
        case measure => rw [left_part K3.out.rd hp5 HF'.out.symm, LW.out]; show meas p' st' + 1 < meas p st + 1; omega
      · refine wpAnyH_ready (rs := [9]) (by kernel_rfl) (by simp) ?_
        refine AllReadyH.cons rfl (fun K1 hK1 => ?_) AllReadyH.nil
        rw [if_pos (by rfl)]
        simp only [List.getElem_toArray, List.getElem_cons_zero, List.getElem_cons_succ]
        go_simp
        refine hK1.out _ _ ?mhS9b (fun hHeld => ?mhR9b)
        case mhS9b => (simp [hbx2, go_sem])
        clear hK1 K1
        (try simp only [Act.put, List.setIfInBounds_toArray, List.set_cons_zero, List.set_cons_succ])
        refine wpAnyH_done (by kernel_rfl) ?_ _
        have K3 := Lib.hid (K2.out.step (K2.out.rd.set 6 (.nilFunc) (st' := { st' with nx := .nilFunc }) (by simp [RS.cells])) (Only.set R 6 w2 (.nilFunc)) rfl rfl rfl rfl rfl rfl rfl hat2)
        have O3 := Lib.hid (O2.out.trans (Only.set R 6 w2 (.nilFunc)))
        have hsz3 : n₁ ≤ (w2.setCell ⟨R, 6, none⟩ (.nilFunc)).heap.size := Nat.le_trans hsz2 (Only.set R 6 w2 (.nilFunc)).size
        have hbx3 : (w2.setCell ⟨R, 6, none⟩ (.nilFunc)).cell? ⟨Bx, 0, none⟩ = some (.pointer (some ⟨R, 0, none⟩)) := by simp [hbx2, go_sem]
        have J3 := Lib.hid (HJ.out pre wr _ JJ.out O3.out)
        clear O3
        have HW2 := Lib.hid hw2
        rw [hw2] at d13
        have FUT := Lib.hid hfut
        clear hw2 hfut
        gi_wp2
        refine ⟨fun _ h => (by cases h), ?_⟩
        gi_wp2
        go_roundw
        case rel => exact ⟨pre, { st' with nx := .nilFunc }, Lib.hid ⟨.inr ⟨rfl, by rw [HT1.out, FUT.out]; simp, .inr ⟨HW2.out, by rw [HT2.out, FUT.out]⟩⟩⟩, K3.out, NAE.out.trans NA.out, Lib.hid hbx3, hsz3, J3.out⟩
        case measure => rw [left_nil K3.out.rd rfl, LW.out]; omega
      · refine wpAnyH_ready (rs := [9]) (by kernel_rfl) (by simp) ?_
        refine AllReadyH.cons rfl (fun K1 hK1 => ?_) AllReadyH.nil
        rw [if_pos (by rfl)]
        simp only [List.getElem_toArray, List.getElem_cons_zero, List.getElem_cons_succ]
        go_simp
        refine hK1.out _ _ ?mhS9c (fun hHeld => ?mhR9c)
        case mhS9c => (simp [hbx2, go_sem])
        clear hK1 K1
        (try simp only [Act.put, List.setIfInBounds_toArray, List.set_cons_zero, List.set_cons_succ])
        refine wpAnyH_done (by kernel_rfl) ?_ _
        have K3 := Lib.hid (K2.out.step (K2.out.rd.set 6 (.nilFunc) (st' := { st' with nx := .nilFunc }) (by simp [RS.cells])) (Only.set R 6 w2 (.nilFunc)) rfl rfl rfl rfl rfl rfl rfl hat2)
        have O3 := Lib.hid (O2.out.trans (Only.set R 6 w2 (.nilFunc)))
        have hsz3 : n₁ ≤ (w2.setCell ⟨R, 6, none⟩ (.nilFunc)).heap.size := Nat.le_trans hsz2 (Only.set R 6 w2 (.nilFunc)).size
        have hbx3 : (w2.setCell ⟨R, 6, none⟩ (.nilFunc)).cell? ⟨Bx, 0, none⟩ = some (.pointer (some ⟨R, 0, none⟩)) := by simp [hbx2, go_sem]
        have J3 := Lib.hid (HJ.out pre wr _ JJ.out O3.out)
        clear O3
        have HW2 := Lib.hid hw2
        rw [hw2] at d13
        have FUT := Lib.hid hfut
        obtain ⟨fn, tmps, assign, rbody, hy, hRd⟩ := HY.out pre st'.it _ J3.out
        simp only [itv, RS.it] at hy
        have HRd := Lib.hid hRd
        clear hw2 hfut hRd
        gi_wp2
        refine HRd.out.mono ?_
        rintro e W3 ⟨rfl, hJ3, hk3⟩
        have K4 := K3.out.keep hk3 hR hRo (fun b o e q => HN.out b o (by rw [← NAE.out.trans NA.out]; exact e) q)
        have hbx4 : W3.cell? ⟨Bx, 0, none⟩ = some (.pointer (some ⟨R, 0, none⟩)) := (World.cell?_of_block (a := ⟨Bx, 0, none⟩) (hk3.2 Bx hxl hxo)).trans hbx3
        have hsz4 : n₁ ≤ W3.heap.size := Nat.le_trans hsz3 hk3.1
        clear hk3 d6 d7 d8 d9 d10 d11 d12 d13 y6 hbx2
        gi_wp2
        go_roundw
        case rel => exact ⟨pre ++ [st'.it], { st' with nx := .nilFunc }, Lib.hid ⟨.inr ⟨rfl, by rw [HT1.out, FUT.out], .inl ⟨HW2.out, by rw [HT2.out, FUT.out]⟩⟩⟩, K4, NAE.out.trans NA.out, Lib.hid hbx4, hsz4, hJ3⟩
        case measure => rw [left_nil K4.rd rfl, LW.out]; omega
      · have hfun : partV 0 = .func (.func (partF 0)) #[] #[] := rfl
        obtain ⟨f', hf'⟩ : ∃ f', partF 0 = f' := ⟨_, rfl⟩
        rw [hf'] at hfun
        rw [hfun]
        have HF' := Lib.hid hfun
        clear hfun hf'
        refine wpAnyH_ready (rs := [9]) (by kernel_rfl) (by simp) ?_
        refine AllReadyH.cons rfl (fun K1 hK1 => ?_) AllReadyH.nil
        rw [if_pos (by rfl)]
        simp only [List.getElem_toArray, List.getElem_cons_zero, List.getElem_cons_succ]
        go_simp
        refine hK1.out _ _ ?mhS9d (fun hHeld => ?mhR9d)
        case mhS9d => (simp [hbx2, go_sem])
        clear hK1 K1
        (try simp only [Act.put, List.setIfInBounds_toArray, List.set_cons_zero, List.set_cons_succ])
        refine wpAnyH_done (by kernel_rfl) ?_ _
        have K3 := Lib.hid (K2.out.step (K2.out.rd.set 6 (.func (.func f') #[] #[]) (st' := { st' with nx := .func (.func f') #[] #[] }) (by simp [RS.cells])) (Only.set R 6 w2 (.func (.func f') #[] #[])) rfl rfl rfl rfl rfl rfl rfl hat2)
        have O3 := Lib.hid (O2.out.trans (Only.set R 6 w2 (.func (.func f') #[] #[])))
        have hsz3 : n₁ ≤ (w2.setCell ⟨R, 6, none⟩ (.func (.func f') #[] #[])).heap.size := Nat.le_trans hsz2 (Only.set R 6 w2 (.func (.func f') #[] #[])).size
        have hbx3 : (w2.setCell ⟨R, 6, none⟩ (.func (.func f') #[] #[])).cell? ⟨Bx, 0, none⟩ = some (.pointer (some ⟨R, 0, none⟩)) := by simp [hbx2, go_sem]
        have J3 := Lib.hid (HJ.out pre wr _ JJ.out O3.out)
        clear O3
        have HW2 := Lib.hid hw2
        rw [hw2] at d13
        have FUT := Lib.hid hfut
        obtain ⟨fn, tmps, assign, rbody, hy, hRd⟩ := HY.out pre st'.it _ J3.out
        simp only [itv, RS.it] at hy
        have HRd := Lib.hid hRd
        clear hw2 hfut hRd
        gi_wp2
        refine HRd.out.mono ?_
        rintro e W3 ⟨rfl, hJ3, hk3⟩
        have K4 := K3.out.keep hk3 hR hRo (fun b o e q => HN.out b o (by rw [← NAE.out.trans NA.out]; exact e) q)
        have hbx4 : W3.cell? ⟨Bx, 0, none⟩ = some (.pointer (some ⟨R, 0, none⟩)) := (World.cell?_of_block (a := ⟨Bx, 0, none⟩) (hk3.2 Bx hxl hxo)).trans hbx3
        have hsz4 : n₁ ≤ W3.heap.size := Nat.le_trans hsz3 hk3.1
        clear hk3 d6 d7 d8 d9 d10 d11 d12 d13 y6 hbx2
        gi_wp2
        go_roundw
        case rel => exact ⟨pre ++ [st'.it], { st' with nx := .func (.func f') #[] #[] }, Lib.hid ⟨.inl ⟨0, Nat.zero_le _, HF'.out.symm, .inl rfl, by rw [HT1.out, FUT.out]; simp; rfl, by rw [HT2.out, FUT.out]; rfl⟩⟩, K4, NAE.out.trans NA.out, Lib.hid hbx4, hsz4, hJ3⟩
        case measure => rw [left_part K4.rd (Nat.zero_le _) HF'.out.symm, LW.out]; show meas 0 st' + 1 < meas p st + 1; omega
    · rw [hnx] at c6
      have HT1 := Lib.hid hT1
      have HT2 := Lib.hid hT2
      have nf := neq_nil
      clear hnx hT1 hT2
      gi_wp2
      go_end0
      exact ⟨⟨_, rfl⟩, pre, ⟨HT1.out.symm, st, hk, HT2.out⟩, hj⟩
end Go.Proofs.YtpnfifhanmpapaaGreatDoor
