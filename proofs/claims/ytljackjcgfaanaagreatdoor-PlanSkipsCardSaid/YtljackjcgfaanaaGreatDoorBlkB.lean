/- Contracts of check, only, find, In, Free of package blackout. -/
import Derived.Test.YtljackjcgfaanaaGreatDoorBlkA
import Derived.Shelf.Abstract
namespace Go.Proofs.YtljackjcgfaanaaGreatDoor.Bk
/-- the errors of one list, and then those of another -/
def err2 (a b : List (Int × Int)) : Int := if errL a = 0 then errL b else errL a
theorem err2_zero {a b : List (Int × Int)} : err2 a b = 0 ↔ errL a = 0 ∧ errL b = 0 := by
  unfold err2
  split
  · rename_i h; exact ⟨fun q => ⟨h, q⟩, fun q => q.2⟩
  · rename_i h; exact ⟨fun q => absurd q h, fun q => absurd q.1 h⟩
/-- the errors of a list, and then that of a time -/
def errI (l : List (Int × Int)) (t : Int) : Int := if errL l = 0 then (if okT t then 0 else 14) else errL l
theorem errI_is (l : List (Int × Int)) (t : Int) : err2 l [(t, t)] = errI l t := by
  unfold err2 errI
  split
  · unfold errL errS errS
    by_cases h : okT t
    · simp [h]
    · simp [h]
  · rfl
theorem errI_zero {l : List (Int × Int)} {t : Int} : errI l t = 0 ↔ errL l = 0 ∧ okT t := by
  unfold errI
  split
  · rename_i h
    split
    · rename_i k; exact ⟨fun _ => ⟨h, k⟩, fun _ => rfl⟩
    · rename_i k; exact ⟨fun q => by omega, fun q => absurd q.2 k⟩
  · rename_i h; exact ⟨fun q => absurd q h, fun q => absurd q.1 h⟩
/-- the errors of a list, and then those of two times -/
def errR (l : List (Int × Int)) (a b : Int) : Int := if errL l = 0 then (if okT a ∧ okT b then (if b < a then 8 else 0) else 14) else errL l
theorem errR_zero {l : List (Int × Int)} {a b : Int} : errR l a b = 0 ↔ errL l = 0 ∧ okT a ∧ okT b ∧ a ≤ b := by
  unfold errR
  split
  · rename_i h
    split
    · rename_i k
      split
      · exact ⟨fun q => by omega, fun q => by omega⟩
      · exact ⟨fun _ => ⟨h, k.1, k.2, by omega⟩, fun _ => rfl⟩
    · rename_i k; exact ⟨fun q => by omega, fun q => absurd ⟨q.2.1, q.2.2.1⟩ k⟩
  · rename_i h; exact ⟨fun q => absurd q h, fun q => absurd q.1 h⟩
/-- what Free answers -/
def FreeR (l : List (Int × Int)) (t x : Int) (p : Bool) (g : Int) : Prop := g = errI l t ∧ ((g = 0 ∧ IsFree l t x p) ∨ (g ≠ 0 ∧ x = 0 ∧ p = false))
theorem freeR_ex (l : List (Int × Int)) (t : Int) : ∃ x p g, FreeR l t x p g := by
  by_cases h : errI l t = 0
  · obtain ⟨v, b, hv⟩ := free_ex (l := l) t (errL_zero.1 (errI_zero.1 h).1).2
    exact ⟨v, b, 0, h.symm, .inl ⟨rfl, hv⟩⟩
  · exact ⟨0, false, errI l t, rfl, .inr ⟨h, rfl, rfl⟩⟩
theorem find_at {l : List (Int × Int)} {t : Int} {k : Nat} (hk : k < l.length) (no : ∀ j, j < k → (decide ((l.getD j (0, 0)).1 ≤ t) && decide (t ≤ (l.getD j (0, 0)).2)) = false) (yes : (decide ((l.getD k (0, 0)).1 ≤ t) && decide (t ≤ (l.getD k (0, 0)).2)) = true) : find l t = k := by
  have e : l.findIdx? (fun s => decide (s.1 ≤ t) && decide (t ≤ s.2)) = some k := by
    rw [List.findIdx?_eq_some_iff_getElem]
    refine ⟨hk, by simpa [hk] using yes, fun j hj => ?_⟩
    have := no j hj
    simpa [show j < l.length by omega] using this
  unfold find
  rw [e]
theorem find_no {l : List (Int × Int)} {t : Int} (no : ∀ j, j < l.length → (decide ((l.getD j (0, 0)).1 ≤ t) && decide (t ≤ (l.getD j (0, 0)).2)) = false) : find l t = -1 := by
  have e : l.findIdx? (fun s => decide (s.1 ≤ t) && decide (t ≤ s.2)) = none := by
    rw [List.findIdx?_eq_none_iff]
    intro x hx
    obtain ⟨j, hj, rfl⟩ := List.getElem_of_mem hx
    have := no j hj
    simpa [hj] using this
  unfold find
  rw [e]
end Go.Proofs.YtljackjcgfaanaaGreatDoor.Bk
namespace Go.Proofs.YtljackjcgfaanaaGreatDoor.Bo
open Go.ChangeShapes Go.RowKit

set_option maxRecDepth 100000 in
set_option maxHeartbeats 4000000 in
theorem check_two (g : Nat) (va vb : Value) (a b : List (Int × Int)) (r : Int) (hr : Bk.err2 a b = r) (W : World) (hc : W.cell? ⟨g, 0, none⟩ = some va) (hd : W.cell? ⟨g, 1, none⟩ = some vb) (ha : RowS W va a) (hb : RowS W vb b) :
    Calls Tryz.prog 52 #[.slice (some ⟨g, 0, none⟩) 2 2] W fun e w' => e = .returned (.int .i64 r) ∧ Below W.heap.size W w' := by
  subst hr
  have RA := Lib.hid ha
  have RB := Lib.hid hb
  have CA := Lib.hid hc
  have CB := Lib.hid hd
  have GL := Lib.hid (lt_of_cell hc)
  obtain ⟨ra, hra⟩ : ∃ r, Bk.errL a = r := ⟨_, rfl⟩
  obtain ⟨rb, hrb⟩ : ∃ r, Bk.errL b = r := ⟨_, rfl⟩
  have KA := Lib.hid (fun W (h : RowS W va a) => chk_any va a ra hra W h)
  have KB := Lib.hid (fun W (h : RowS W vb b) => chk_any vb b rb hrb W h)
  have E : Hid (Bk.err2 a b = if ra = 0 then rb else ra) := Lib.hid (by unfold Bk.err2; rw [hra, hrb])
  obtain ⟨A1, c1, rfl⟩ := ha.len
  obtain ⟨A2, c2, rfl⟩ := hb.len
  generalize a.length = na at *
  generalize b.length = nb at *
  clear ha hb hc hd hra hrb
  go_enter Tryz.func52, Tryz.ntmps52
  go_wp2_with fail
  go_loopw [8] (fun iv wr => ∃ k : Nat, k ≤ 2 ∧ iv = .int .i64 k ∧ Hid (0 < k → ra = 0) ∧ Hid (1 < k → rb = 0) ∧ Hid (Below W.heap.size W wr)) (fun iv _ => 2 - (intOf iv).toNat)
  case atStart => exact ⟨0, by omega, rfl, Lib.hid (fun h => by omega), Lib.hid (fun h => by omega), Lib.hid (Below.refl _ _)⟩
  case round =>
    obtain ⟨k, hk, rfl, o1, o2, hB⟩ := hrel
    have hk3 : k = 0 ∨ k = 1 ∨ k = 2 := by omega
    have cA := (hB.out.cell (p := ⟨g, 0, none⟩) GL.out).trans CA.out
    have cB := (hB.out.cell (p := ⟨g, 1, none⟩) GL.out).trans CB.out
    rcases hk3 with rfl | rfl | rfl
    · clear cB hk
      go_wp2_with fail
      refine (KA.out _ (RA.out.below hB.out)).mono ?_
      rintro e V ⟨rfl, hv⟩
      have HV := Lib.hid (below_next hB.out hv)
      clear hv
      by_cases z : ra = 0
      · subst z
        go_wp2_with fail
        go_roundw
        case rel => exact ⟨1, by omega, by go_num, Lib.hid (by simp), Lib.hid (fun h => by omega), HV⟩
        case measure => simp [intOf]
      · have t1 : (ra != 0) = true := by rw [bne_iff_ne]; exact z
        have R := Lib.hid (E.out.trans (if_neg z))
        clear z
        go_wp2_with fail
        go_ret
        exact ⟨ret_int R.out.symm, HV.out⟩
    · clear cA hk
      go_wp2_with fail
      refine (KB.out _ (RB.out.below hB.out)).mono ?_
      rintro e V ⟨rfl, hv⟩
      have HV := Lib.hid (below_next hB.out hv)
      have ra0 := o1.out (by omega)
      have R := Lib.hid (E.out.trans (if_pos ra0))
      clear hv ra0
      by_cases z : rb = 0
      · subst z
        go_wp2_with fail
        go_roundw
        case rel => exact ⟨2, by omega, by go_num, Lib.hid (fun _ => o1.out (by omega)), Lib.hid (by simp), HV⟩
        case measure => simp [intOf]
      · have t1 : (rb != 0) = true := by rw [bne_iff_ne]; exact z
        clear z
        go_wp2_with fail
        go_ret
        exact ⟨ret_int R.out.symm, HV.out⟩
    · clear cA cB hk
      have R := Lib.hid (E.out.trans ((if_pos (o1.out (by omega))).trans (o2.out (by omega))))
      go_wp2_with fail
      go_ret
      exact ⟨ret_int R.out.symm, hB.out⟩

theorem only_any (a b : Int) (w : World) :
    Calls Tryz.prog 53 #[.int .i64 a, .int .i64 b] w fun e w' => e = .returned (.slice (some ⟨w.heap.size, 0, none⟩) 1 1) ∧ w' = w.alloc (.cells #[.int .i64 a, .int .i64 b] 48) := by
  go_enter Tryz.func53, Tryz.ntmps53
  go_wp2_with fail
  go_ret
  exact ⟨rfl, rfl⟩
theorem rowS_one (w : World) (a b : Int) (c : Nat) : RowS (w.alloc (.cells #[.int .i64 a, .int .i64 b] 48)) (.slice (some ⟨w.heap.size, 0, none⟩) 1 c) [(a, b)] := by
  refine ⟨by simp, (fun n c h => by cases h), _, _, rfl, fun j hj => ⟨w.heap.size, 0, rfl, ?_⟩⟩
  obtain rfl : j = 0 := by simpa using hj
  constructor <;> simp [go_sem]

/-- the closure of find -/
theorem findp_any (t x1 x2 : Int) (B : Nat) (W : World) (hc : W.cell? ⟨B, 0, none⟩ = some (.int .i64 t)) :
    Calls Tryz.prog 95 #[.agg #[.int .i64 x1, .int .i64 x2], .pointer (some ⟨B, 0, none⟩)] W fun e w' => e = .returned (.bool (decide (x1 ≤ t) && decide (t ≤ x2))) ∧ Below W.heap.size W w' := by
  have hb := lt_of_cell hc
  have hne : B ≠ W.heap.size := by omega
  have HB := Lib.hid ((Below.refl _ W).alloc (Nat.le_refl _) (.cells #[.int .i64 x1, .int .i64 x2] 48))
  generalize h1 : decide (x1 ≤ t) = p
  generalize h2 : decide (t ≤ x2) = q
  cases p with
  | false =>
    go_enter Tryz.func95, Tryz.ntmps95
    go_wp2_with fail
    go_ret
    exact ⟨rfl, HB.out⟩
  | true =>
    go_enter Tryz.func95, Tryz.ntmps95
    go_wp2_with fail
    go_ret
    exact ⟨by simp, HB.out⟩

set_option maxRecDepth 100000 in
set_option maxHeartbeats 4000000 in
/-- slices.IndexFunc at spans, for a closure that asks whether a span has the time in its box -/
theorem index_any (g : Nat) (eg : ∀ args w, (callFunc g args).run Tryz.prog w = .ok (.enter g args) w) (t : Int) (B : Nat) (v : Value) (l : List (Int × Int)) (w : World)
    (hp : ∀ (x1 x2 : Int) (W : World), Below w.heap.size w W → Calls Tryz.prog g #[.agg #[.int .i64 x1, .int .i64 x2], .pointer (some ⟨B, 0, none⟩)] W fun e w' => e = .returned (.bool (decide (x1 ≤ t) && decide (t ≤ x2))) ∧ Below W.heap.size W w')
    (h : RowS w v l) :
    Calls Tryz.prog 94 #[v, .func (.func g) #[] #[.pointer (some ⟨B, 0, none⟩)]] w fun e w' => e = .returned (.int .i64 (Bk.find l t)) ∧ Below w.heap.size w w' := by
  have LL := h.1
  have HR := Lib.hid h
  have HP := Lib.hid hp
  obtain ⟨A, cap, rfl⟩ := h.len
  clear h hp
  go_enter Tryz.func94, Tryz.ntmps94
  go_wp2_with fail
  go_loopw [8] (fun iv wr => ∃ k : Nat, k ≤ l.length ∧ iv = .int .i64 k ∧ Hid (∀ j, j < k → (decide ((l.getD j (0, 0)).1 ≤ t) && decide (t ≤ (l.getD j (0, 0)).2)) = false) ∧ Hid (Below w.heap.size w wr)) (fun iv _ => l.length - (intOf iv).toNat)
  case atStart => exact ⟨0, by omega, rfl, Lib.hid (fun j hj => by omega), Lib.hid (Below.refl _ _)⟩
  case round =>
    obtain ⟨k, hk, rfl, no, hb⟩ := hrel
    by_cases lt : k < l.length
    · have e0 : decide ((k : Int) < (l.length : Int)) = true := by rw [decide_eq_true_iff]; omega
      have wk : IntKind.i64.wrap ((k : Int) + 1) = (k : Int) + 1 := by rw [IntKind.wrap_i64]; omega
      obtain ⟨b, o, rfl, c1, c2⟩ := (HR.out.below hb.out).at lt
      obtain ⟨x, hx⟩ : ∃ x, l.getD k (0, 0) = x := ⟨_, rfl⟩
      have HX := Lib.hid hx
      rw [hx] at c1 c2
      obtain ⟨x1, x2⟩ := x
      simp only at c1 c2
      have hcall := HP.out x1 x2 wr hb.out
      clear hx
      generalize hq : (decide (x1 ≤ t) && decide (t ≤ x2)) = q at hcall
      have HQ := Lib.hid hq
      clear hq
      cases q with
      | true =>
        have R := Lib.hid (Bk.find_at lt no.out (by rw [HX.out]; exact HQ.out))
        go_wp2_with fail
        refine hcall.mono ?_
        rintro e V ⟨rfl, hb'⟩
        go_wp2_with fail
        go_ret
        exact ⟨ret_int R.out.symm, below_next hb.out hb'⟩
      | false =>
        go_wp2_with fail
        refine hcall.mono ?_
        rintro e V ⟨rfl, hb'⟩
        go_wp2_with fail
        go_roundw
        case rel => exact ⟨k + 1, by omega, by go_num, Lib.hid (fun j hj => by
          by_cases e : j = k
          · subst e; rw [HX.out]; exact HQ.out
          · exact no.out j (by omega)), Lib.hid (below_next hb.out hb')⟩
        case measure => simp [intOf]; omega
    · have e0 : decide ((k : Int) < (l.length : Int)) = false := by rw [decide_eq_false_iff_not]; omega
      obtain rfl : k = l.length := by omega
      have R := Lib.hid (Bk.find_no no.out)
      clear lt hk no
      go_wp2_with fail
      go_ret
      exact ⟨ret_int R.out.symm, hb.out⟩

theorem find_any (v : Value) (l : List (Int × Int)) (t : Int) (i : Int) (hi : Bk.find l t = i) (w : World) (h : RowS w v l) :
    Calls Tryz.prog 54 #[v, .int .i64 t] w fun e w' => e = .returned (.int .i64 i) ∧ Below w.heap.size w w' := by
  subst hi
  have eg : ∀ args w, (callFunc 95 args).run Tryz.prog w = .ok (.enter 95 args) w := enters_of Tryz.func95 (by kernel_rfl) rfl
  have hcell : (w.alloc (.cells #[.int .i64 t] 2)).cell? ⟨w.heap.size, 0, none⟩ = some (.int .i64 t) := by simp [go_sem]
  have hcon := Lib.hid (index_any 95 eg t w.heap.size v l (w.alloc (.cells #[.int .i64 t] 2))
    (fun x1 x2 W hb => findp_any t x1 x2 w.heap.size W ((hb.cell (p := ⟨w.heap.size, 0, none⟩) (by simp)).trans hcell)) (h.alloc _))
  have HB := Lib.hid ((Below.refl _ w).alloc (Nat.le_refl _) (.cells #[.int .i64 t] 2))
  obtain ⟨A, cap, rfl⟩ := h.len
  generalize Bk.find l t = r at hcon ⊢
  clear h eg hcell
  go_enter Tryz.func54, Tryz.ntmps54
  go_wp2_with fail
  refine hcon.out.mono ?_
  rintro e V ⟨rfl, hb⟩
  have HV := Lib.hid (HB.out.trans (hb.mono (by simp)))
  clear hb
  go_wp2_with fail
  go_ret
  exact ⟨rfl, HV.out⟩

theorem in_any (v : Value) (l : List (Int × Int)) (t : Int) (p : Bool) (r : Int) (hr : Bk.errI l t = r) (hp : decide (r = 0 ∧ Bk.has l t) = p) (w : World) (h : RowS w v l) :
    Calls Tryz.prog 32 #[v, .int .i64 t] w fun e w' => e = .returned (.tuple #[.bool p, .int .i64 r]) ∧ Below w.heap.size w w' := by
  have HR := Lib.hid h
  have CK := Lib.hid (fun g va vb W hc hd ha hb => check_two g va vb l [(t, t)] r ((Bk.errI_is l t).trans hr) W hc hd ha hb)
  have FI := Lib.hid (fun i hi W hh => find_any v l t i hi W hh)
  have ON := Lib.hid (only_any t t w)
  have B0 := Lib.hid (below_new (below_new (Below.refl _ w) (.cells #[.int .i64 t, .int .i64 t] 48) (Nat.le_refl _)) (.cells #[v, .slice (some ⟨w.heap.size, 0, none⟩) 1 1] 27) (Nat.le_refl _))
  have R1 := Lib.hid ((rowS_one w t t 1).alloc (.cells #[v, .slice (some ⟨w.heap.size, 0, none⟩) 1 1] 27))
  have FN := Lib.hid (Bk.find_none (l := l) (t := t))
  have HP := Lib.hid hp
  obtain ⟨A, cap, rfl⟩ := h.len
  clear h hr hp
  go_enter Tryz.func32, Tryz.ntmps32
  go_wp2_with fail
  refine ON.out.mono ?_
  rintro e V ⟨rfl, rfl⟩
  go_wp2_with fail
  refine (CK.out _ _ _ _ (by simp [go_sem]) (by simp [go_sem]) (HR.out.below B0.out) R1.out).mono ?_
  rintro e V ⟨rfl, hb⟩
  have B1 := Lib.hid (below_next B0.out hb)
  clear hb
  by_cases z : r = 0
  · subst z
    go_wp2_with fail
    obtain ⟨i, hi⟩ : ∃ i, Bk.find l t = i := ⟨_, rfl⟩
    refine (FI.out i hi _ (HR.out.below B1.out)).mono ?_
    rintro e V' ⟨rfl, hb⟩
    have B2 := Lib.hid (below_next B1.out hb)
    have q : decide (0 ≤ i) = p := by
      rw [← HP.out, decide_eq_decide]
      have := FN.out
      rw [hi] at this
      simp only [true_and]
      constructor
      · intro k; exact Classical.byContradiction fun z => by have := this.2 z; omega
      · intro k; exact Classical.byContradiction fun z => this.1 (by omega) k
    clear hi hb
    go_wp2_with fail
    go_ret2
    exact ⟨rfl, B2.out⟩
  · have t1 : (r != 0) = true := by rw [bne_iff_ne]; exact z
    obtain rfl : false = p := by rw [← HP.out]; symm; rw [decide_eq_false_iff_not]; exact fun q => z q.1
    clear z
    go_wp2_with fail
    go_ret2
    exact ⟨rfl, B1.out⟩

set_option maxRecDepth 100000 in
set_option maxHeartbeats 4000000 in
theorem free_any (v : Value) (l : List (Int × Int)) (t x : Int) (p : Bool) (r : Int) (hr : Bk.FreeR l t x p r) (w : World) (h : RowS w v l) :
    Calls Tryz.prog 61 #[v, .int .i64 t] w fun e w' => e = .returned (.tuple #[.int .i64 x, .bool p, .int .i64 r]) ∧ Below w.heap.size w w' := by
  have HR := Lib.hid h
  have CK := Lib.hid (fun g va vb W hc hd ha hb => check_two g va vb l [(t, t)] r ((Bk.errI_is l t).trans hr.1.symm) W hc hd ha hb)
  have FI := Lib.hid (fun u i hi W hh => find_any v l u i hi W hh)
  have ON := Lib.hid (only_any t t w)
  have B0 := Lib.hid (below_new (below_new (Below.refl _ w) (.cells #[.int .i64 t, .int .i64 t] 48) (Nat.le_refl _)) (.cells #[v, .slice (some ⟨w.heap.size, 0, none⟩) 1 1] 27) (Nat.le_refl _))
  have R1 := Lib.hid ((rowS_one w t t 1).alloc (.cells #[v, .slice (some ⟨w.heap.size, 0, none⟩) 1 1] 27))
  have FN := Lib.hid (fun t => Bk.find_none (l := l) (t := t))
  have FS := Lib.hid (fun t h => Bk.find_some (l := l) (t := t) h)
  have HF := Lib.hid hr
  obtain ⟨A, cap, rfl⟩ := h.len
  clear h hr
  go_enter Tryz.func61, Tryz.ntmps61
  go_wp2_with fail
  refine ON.out.mono ?_
  rintro e V ⟨rfl, rfl⟩
  go_wp2_with fail
  refine (CK.out _ _ _ _ (by simp [go_sem]) (by simp [go_sem]) (HR.out.below B0.out) R1.out).mono ?_
  rintro e V ⟨rfl, hb⟩
  have B1 := Lib.hid (below_next B0.out hb)
  clear hb
  by_cases z : r = 0
  · have FF : Hid (Bk.IsFree l t x p) := Lib.hid (by
      rcases HF.out.2 with q | q
      · exact q.2
      · exact absurd z q.1)
    have OK := Lib.hid (Bk.errI_zero.1 (HF.out.1.symm.trans z))
    subst z
    have OS := Lib.hid (Bk.errL_zero.1 OK.out.1).2
    go_wp2_with fail
    go_loopw [1] (fun tv wr => ∃ u : Int, t ≤ u ∧ u ≤ 253402300800 ∧ tv = .int .i64 u ∧ Hid (∀ s, t ≤ s → s < u → Bk.has l s) ∧ Hid (Below w.heap.size w wr)) (fun tv _ => (253402300801 - intOf tv).toNat)
    case atStart => exact ⟨t, Int.le_refl _, by have := OK.out.2.2; omega, rfl, Lib.hid (fun s h1 h2 => by omega), B1⟩
    case round =>
      obtain ⟨u, h1, h2, rfl, hs, hb⟩ := hrel
      by_cases le : u ≤ 253402300799
      · have e0 : decide (u ≤ 253402300799) = true := decide_eq_true le
        go_wp2_with fail
        obtain ⟨i, hi⟩ : ∃ i, Bk.find l u = i := ⟨_, rfl⟩
        refine (FI.out u i hi _ (HR.out.below hb.out)).mono ?_
        rintro e V' ⟨rfl, hb'⟩
        have B2 := Lib.hid (below_next hb.out hb')
        clear hb'
        by_cases neg : i < 0
        · have f0 : decide (i < 0) = true := decide_eq_true neg
          have nh : ¬ Bk.has l u := (FN.out u).1 (by omega)
          obtain ⟨rfl, rfl⟩ := FF.out.uniq (.inl ⟨rfl, h1, le, nh, hs.out⟩ : Bk.IsFree l t u true)
          clear neg nh hi
          go_wp2_with fail
          go_ret3
          exact ⟨rfl, B2.out⟩
        · have f0 : decide (i < 0) = false := decide_eq_false neg
          have hh : Bk.has l u := Classical.byContradiction fun q => by have := (FN.out u).2 q; omega
          obtain ⟨k, e1, e2, e3, e4⟩ := FS.out u hh
          rw [hi] at e1
          subst e1
          obtain ⟨b, o, rfl, c1, c2⟩ := (HR.out.below B2.out).at e2
          have MEM : l.getD k (0, 0) ∈ l := by simp [e2]
          obtain ⟨y, hy⟩ : ∃ y, l.getD k (0, 0) = y := ⟨_, rfl⟩
          rw [hy] at c1 c2 e3 e4 MEM
          obtain ⟨y1, y2⟩ := y
          simp only at c1 c2 e3 e4
          have oy := (OS.out _ MEM).2.1
          unfold Bk.okT at oy
          simp only at oy
          have MM := Lib.hid MEM
          have wy : IntKind.i64.wrap (y2 + 1) = y2 + 1 := by rw [IntKind.wrap_i64]; omega
          have k0 : (0 : Int) ≤ (k : Int) := by omega
          clear hi hy MEM neg hh c1
          go_wp2_with fail
          go_roundw
          case rel => exact ⟨y2 + 1, by omega, by omega, rfl, Lib.hid (fun s q1 q2 => by
            by_cases q : s < u
            · exact hs.out s q1 q
            · exact ⟨_, MM.out, by simp only; omega, by simp only; omega⟩), B2⟩
          case measure => simp [intOf]; omega
      · have e0 : decide (u ≤ 253402300799) = false := decide_eq_false le
        obtain ⟨rfl, rfl⟩ := FF.out.uniq (.inr ⟨rfl, rfl, fun s q1 q2 => hs.out s q1 (by omega)⟩ : Bk.IsFree l t 0 false)
        go_wp2_with fail
        go_ret3
        exact ⟨rfl, hb.out⟩
  · have t1 : (r != 0) = true := by rw [bne_iff_ne]; exact z
    obtain ⟨rfl, rfl⟩ : x = 0 ∧ p = false := by
      rcases HF.out.2 with q | q
      · exact absurd q.1 z
      · exact q.2
    clear z
    go_wp2_with fail
    go_ret3
    exact ⟨rfl, B1.out⟩
end Go.Proofs.YtljackjcgfaanaaGreatDoor.Bo
