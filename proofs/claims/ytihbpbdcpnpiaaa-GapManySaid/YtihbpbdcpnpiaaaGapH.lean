/- Contracts of Near, of package gap and of the document's. -/
import Derived.Test.YtihbpbdcpnpiaaaGapG
import Derived.Test.YtihbpbdcpnpiaaaGapMb
namespace Go.Proofs.Ytihbpbdcpnpiaaa
open Go.ChangeShapes Go.RowKit

/-- what Near returns -/
def IsNear (l : List Int) (t : Int) (i : Nat) (r : Int) : Prop :=
  (r = Gp.errL [l, [t]] ∧ r ≠ 0 ∧ i = 0) ∨ (Gp.errL [l, [t]] = 0 ∧ l = [] ∧ i = 0 ∧ r = 5) ∨ (Gp.errL [l, [t]] = 0 ∧ Gp.Near l t l.length i ∧ r = 0)
theorem isNear_ex (l : List Int) (t : Int) : ∃ i r, IsNear l t i r := by
  by_cases z : Gp.errL [l, [t]] = 0
  · cases l with
    | nil => exact ⟨0, 5, .inr (.inl ⟨z, rfl, rfl, rfl⟩)⟩
    | cons x l =>
      obtain ⟨i, hi⟩ := Gp.Near.ex (x :: l) t (n := (x :: l).length) (by simp)
      exact ⟨i, 0, .inr (.inr ⟨z, hi, rfl⟩)⟩
  · exact ⟨0, _, .inl ⟨rfl, z, rfl⟩⟩
theorem RowT.single {W : World} {g : Nat} {t : Int} (h : W.cell? ⟨g, 0, none⟩ = some (.int .i64 t)) : RowT W (.slice (some ⟨g, 0, none⟩) 1 1) [t] := by
  refine ⟨by simp, _, _, rfl, fun j hj => ⟨g, 0, rfl, ?_⟩⟩
  obtain rfl : j = 0 := by simpa using hj
  exact h

set_option maxRecDepth 100000 in
set_option maxHeartbeats 4000000 in
theorem near_any (v : Value) (l : List Int) (t : Int) (i : Nat) (r : Int) (hn : IsNear l t i r) (w : World) (h : RowT w v l) :
    Calls Try.prog 32 #[v, .int .i64 t] w fun e w' => e = .returned (.tuple #[.int .i64 i, .int .i64 r]) ∧ Below w.heap.size w w' := by
  have HR := Lib.hid h
  have HB := Lib.hid (((Below.refl _ w).alloc (Nat.le_refl _) (.cells #[.int .i64 t] 2)).alloc (by simp) (.cells #[v, .slice (some ⟨w.heap.size, 0, none⟩) 1 1] 22))
  have HR2 := Lib.hid ((h.alloc (.cells #[.int .i64 t] 2)).alloc (.cells #[v, .slice (some ⟨w.heap.size, 0, none⟩) 1 1] 22))
  have CK := Lib.hid (fun r0 hr0 g u W hc hd h h' => check_two g v u l [t] r0 hr0 W hc hd h h')
  obtain ⟨r0, hr0⟩ : ∃ r0, Gp.errL [l, [t]] = r0 := ⟨_, rfl⟩
  have CK := Lib.hid (CK.out r0 hr0)
  have SE := Lib.hid (fun (hs : Gp.Inc l) W (h : RowT W v l) => search_any v l t W h hs)
  unfold IsNear at hn
  rw [hr0] at hn
  obtain ⟨h0, A, cap, rfl, _⟩ := h
  rcases hn with ⟨rfl, q, rfl⟩ | ⟨rfl, rfl, rfl, rfl⟩ | ⟨rfl, nr, rfl⟩
  · have d1 : (r != 0) = true := by rw [bne_iff_ne]; exact q
    clear q hr0
    go_enter Try.func32, Try.ntmps32
    go_wp2_with fail
    refine (CK.out _ (.slice (some ⟨w.heap.size, 0, none⟩) 1 1) _ (by simp [go_sem]) (by simp [go_sem]) HR2.out (.single (by simp [go_sem]))).mono ?_
    rintro e V ⟨rfl, hb⟩
    have B1 : Hid (Below w.heap.size w V) := Lib.hid (HB.out.trans (hb.mono (by simp; omega)))
    clear hb
    go_wp2_with fail
    go_ret2
    exact ⟨rfl, B1.out⟩
  · clear hr0
    go_enter Try.func32, Try.ntmps32
    go_wp2_with fail
    refine (CK.out _ (.slice (some ⟨w.heap.size, 0, none⟩) 1 1) _ (by simp [go_sem]) (by simp [go_sem]) HR2.out (.single (by simp [go_sem]))).mono ?_
    rintro e V ⟨rfl, hb⟩
    have B1 : Hid (Below w.heap.size w V) := Lib.hid (HB.out.trans (hb.mono (by simp; omega)))
    clear hb
    go_wp2_with fail
    go_ret2
    exact ⟨rfl, B1.out⟩
  · have TL := Gp.errL_tl hr0 l (by simp)
    have TT := Gp.errL_tl hr0 [t] (by simp)
    have TO := TT.ok t (by simp)
    unfold Gp.okT at TO
    have L0 : 0 < l.length := by have := nr.lt; omega
    have SE := Lib.hid (SE.out TL.inc)
    have BACK := Lib.hid (fun q => nr.uniq (Gp.near_back TL.inc t L0 q))
    have HERE := Lib.hid (fun h1 q => nr.uniq (Gp.near_here TL.inc t h1 q))
    have HT := Lib.hid TL
    have CL := Gp.cl_le l t
    have d2 : ((l.length : Int) == 0) = false := by rw [beq_eq_false_iff_ne]; omega
    obtain ⟨p, hp⟩ : ∃ p, Gp.cl l t = p := ⟨_, rfl⟩
    have HP := Lib.hid hp
    rw [hp] at BACK HERE CL
    clear hr0 TL TT nr hp
    go_enter Try.func32, Try.ntmps32
    go_wp2_with fail
    refine (CK.out _ (.slice (some ⟨w.heap.size, 0, none⟩) 1 1) _ (by simp [go_sem]) (by simp [go_sem]) HR2.out (.single (by simp [go_sem]))).mono ?_
    rintro e V ⟨rfl, hb⟩
    have B1 : Hid (Below w.heap.size w V) := Lib.hid (HB.out.trans (hb.mono (by simp; omega)))
    clear hb
    obtain ⟨_, A', cap', e1, cells⟩ := HR.out.below B1.out
    cases e1
    have CC := Lib.hid cells
    clear cells
    go_wp2_with fail
    refine (SE.out _ (HR.out.below B1.out)).mono ?_
    rintro e V2 ⟨bb, rfl, rfl⟩
    rw [HP.out]
    by_cases q : p = l.length
    · have e1 : ((p : Int) == (l.length : Int)) = true := by rw [beq_iff_eq]; omega
      have e1' : (p == l.length) = true := by rw [beq_iff_eq]; exact q
      have E := Lib.hid (BACK.out (.inl q))
      have wi : IntKind.i64.wrap ((p : Int) - 1) = (p : Int) - 1 := by rw [IntKind.wrap_i64]; omega
      clear BACK HERE
      go_wp2_with fail
      go_quiet (fail)
      go_wp2_with fail
      go_ret2
      exact ⟨by rw [← show (l.length : Int) - 1 = (i : Int) by have := E.out; omega]; rfl, below_drewN B1.out _⟩
    · have e1 : ((p : Int) == (l.length : Int)) = false := by rw [beq_eq_false_iff_ne]; omega
      have e1' : (p == l.length) = false := by rw [beq_eq_false_iff_ne]; exact q
      have pl : p < l.length := by omega
      obtain ⟨b, o, rfl, c2⟩ := CC.out p pl
      have yo := HT.out.ok _ (Gp.getD_mem pl)
      by_cases p0 : 0 < p
      · have e2 : decide ((0 : Int) < (p : Int)) = true := by rw [decide_eq_true_iff]; omega
        have e2' : decide (0 < p) = true := decide_eq_true p0
        have wi : IntKind.i64.wrap ((p : Int) - 1) = ((p - 1 : Nat) : Int) := by rw [IntKind.wrap_i64]; omega
        obtain ⟨b', o', e', c3⟩ := CC.out (p - 1) (by omega)
        cases e'
        have xo := HT.out.ok _ (Gp.getD_mem (l := l) (i := p - 1) (by omega))
        obtain ⟨y, hy⟩ : ∃ y, l.getD p 0 = y := ⟨_, rfl⟩
        obtain ⟨x, hx⟩ : ∃ x, l.getD (p - 1) 0 = x := ⟨_, rfl⟩
        rw [hy] at c2 yo BACK HERE
        rw [hx] at c3 xo BACK HERE
        unfold Gp.okT at xo yo
        have w1 : IntKind.i64.wrap (t - x) = t - x := by rw [IntKind.wrap_i64]; omega
        have w2 : IntKind.i64.wrap (y - t) = y - t := by rw [IntKind.wrap_i64]; omega
        obtain ⟨m, hm⟩ : ∃ m, p - 1 = m := ⟨_, rfl⟩
        have pm : p = m + 1 := by omega
        rw [hm] at c3 wi BACK
        have ml : m < l.length := by omega
        subst pm
        have wi' : IntKind.i64.wrap ((m : Int) + 1 - 1) = (m : Int) := by rw [IntKind.wrap_i64]; omega
        have wi2 : IntKind.i64.wrap (m : Int) = (m : Int) := by rw [IntKind.wrap_i64]; omega
        have q0 : (0 : Int) ≤ (m : Int) + 1 := by omega
        have q1 : (0 : Int) < (m : Int) + 1 := by omega
        have q3 : ((m : Int) + 1 == (l.length : Int)) = false := by rw [beq_eq_false_iff_ne]; omega
        have q4 : ((m : Int) + 1 < (l.length : Int)) := by omega
        clear hx hy hm xo yo
        by_cases g : t - x ≤ y - t
        · have e3 : decide (t - x ≤ y - t) = true := decide_eq_true g
          have E := Lib.hid (BACK.out (.inr ⟨p0, g⟩))
          clear BACK HERE g
          go_wp2_with fail
          go_quiet (fail)
          go_wp2_with fail
          go_ret2
          exact ⟨by rw [E.out]; rfl, below_drewN B1.out _⟩
        · have e3 : decide (t - x ≤ y - t) = false := decide_eq_false g
          have E := Lib.hid (HERE.out pl (fun q => g q.2))
          clear BACK HERE g
          go_wp2_with fail
          go_quiet (fail)
          go_wp2_with fail
          go_ret2
          exact ⟨by rw [E.out]; rfl, below_drewN B1.out _⟩
      · obtain rfl : p = 0 := by omega
        have E := Lib.hid (HERE.out pl (fun q => p0 q.1))
        have q4 : ((0 : Int) == (l.length : Int)) = false := by rw [beq_eq_false_iff_ne]; omega
        have q5 : (0 == l.length) = false := by rw [beq_eq_false_iff_ne]; omega
        clear BACK HERE
        go_wp2_with fail
        go_quiet (fail)
        go_wp2_with fail
        go_ret2
        exact ⟨by rw [E.out]; rfl, below_drewN B1.out _⟩

set_option maxRecDepth 100000 in
set_option maxHeartbeats 4000000 in
theorem rnear_any (v : Value) (l : List Int) (t : Int) (i : Nat) (r : Int) (hn : IsNear l t i r) (w : World) (h : RowT w v l) :
    Calls Try.prog 33 #[v, .int .i64 t] w fun e w' => e = .returned (.tuple #[.int .i64 i, .int .i64 r]) ∧ Below w.heap.size w w' := by
  have HR := Lib.hid h
  have HB := Lib.hid ((Below.refl _ w).alloc (Nat.le_refl _) (.cells #[v] 22))
  have CK := Lib.hid (fun r0 hr0 g W hc h => rcheck_one g v l r0 hr0 W hc h)
  obtain ⟨r0, hr0⟩ : ∃ r0, Gp.errL [l] = r0 := ⟨_, rfl⟩
  have CK := Lib.hid (CK.out r0 hr0)
  have VA := Lib.hid (fun b hb W => valid_any t b hb W)
  have NE := Gp.errL_near l t
  unfold IsNear at hn
  rw [hr0] at NE
  -- the error ahead of the list's length
  have T : (r0 = 12 ∧ Gp.errL [l, [t]] = 12) ∨ (r0 = 14 ∧ Gp.errL [l, [t]] = 14) ∨ (r0 ≠ 12 ∧ r0 ≠ 14 ∧ ¬ Gp.okT t ∧ Gp.errL [l, [t]] = 14) ∨ (r0 ≠ 12 ∧ r0 ≠ 14 ∧ Gp.okT t ∧ r0 ≠ 0 ∧ Gp.errL [l, [t]] = r0) ∨ (r0 = 0 ∧ Gp.okT t ∧ Gp.errL [l, [t]] = 0) := by
    by_cases c : r0 ≠ 12 ∧ r0 ≠ 14 ∧ ¬ Gp.okT t
    · rw [if_pos c] at NE; exact .inr (.inr (.inl ⟨c.1, c.2.1, c.2.2, NE⟩))
    · rw [if_neg c] at NE
      by_cases c1 : r0 = 12
      · exact .inl ⟨c1, by rw [NE, c1]⟩
      · by_cases c2 : r0 = 14
        · exact .inr (.inl ⟨c2, by rw [NE, c2]⟩)
        · have o : Gp.okT t := by
            apply Classical.byContradiction
            intro q
            exact c ⟨c1, c2, q⟩
          by_cases c3 : r0 = 0
          · exact .inr (.inr (.inr (.inr ⟨c3, o, by rw [NE, c3]⟩)))
          · exact .inr (.inr (.inr (.inl ⟨c1, c2, o, c3, NE⟩)))
  clear NE
  obtain ⟨h0, A, cap, rfl, _⟩ := h
  rcases T with ⟨rfl, T⟩ | ⟨rfl, T⟩ | ⟨t1, t2, t3, T⟩ | ⟨t1, t2, t3, t4, T⟩ | ⟨rfl, t3, T⟩
  · rw [T] at hn
    obtain ⟨rfl, rfl⟩ : r = 12 ∧ i = 0 := by
      rcases hn with ⟨h1, _, h2⟩ | ⟨h1, _⟩ | ⟨h1, _⟩
      · exact ⟨h1, h2⟩
      · simp at h1
      · simp at h1
    clear hn T hr0
    go_enter Try.func33, Try.ntmps33
    go_wp2_with fail
    refine (CK.out _ _ (by simp [go_sem]) (HR.out.alloc _)).mono ?_
    rintro e V ⟨rfl, hb⟩
    have B1 : Hid (Below w.heap.size w V) := Lib.hid (HB.out.trans (hb.mono (by simp)))
    clear hb
    go_wp2_with fail
    go_ret2
    exact ⟨rfl, B1.out⟩
  · rw [T] at hn
    obtain ⟨rfl, rfl⟩ : r = 14 ∧ i = 0 := by
      rcases hn with ⟨h1, _, h2⟩ | ⟨h1, _⟩ | ⟨h1, _⟩
      · exact ⟨h1, h2⟩
      · simp at h1
      · simp at h1
    clear hn T hr0
    go_enter Try.func33, Try.ntmps33
    go_wp2_with fail
    refine (CK.out _ _ (by simp [go_sem]) (HR.out.alloc _)).mono ?_
    rintro e V ⟨rfl, hb⟩
    have B1 : Hid (Below w.heap.size w V) := Lib.hid (HB.out.trans (hb.mono (by simp)))
    clear hb
    go_wp2_with fail
    go_ret2
    exact ⟨rfl, B1.out⟩
  · rw [T] at hn
    obtain ⟨rfl, rfl⟩ : r = 14 ∧ i = 0 := by
      rcases hn with ⟨h1, _, h2⟩ | ⟨h1, _⟩ | ⟨h1, _⟩
      · exact ⟨h1, h2⟩
      · simp at h1
      · simp at h1
    have d1 : (r0 != 12) = true := by rw [bne_iff_ne]; exact t1
    have d2 : (r0 != 14) = true := by rw [bne_iff_ne]; exact t2
    have VF := Lib.hid (VA.out false ⟨fun q => by simp at q, fun q => absurd q t3⟩)
    clear hn T hr0 t1 t2 t3
    go_enter Try.func33, Try.ntmps33
    go_wp2_with fail
    refine (CK.out _ _ (by simp [go_sem]) (HR.out.alloc _)).mono ?_
    rintro e V ⟨rfl, hb⟩
    have B1 : Hid (Below w.heap.size w V) := Lib.hid (HB.out.trans (hb.mono (by simp)))
    clear hb
    go_wp2_with (go_at_call 49; refine (VF.out _).mono ?_; rintro e w' ⟨rfl, rfl⟩)
    go_ret2
    exact ⟨rfl, B1.out⟩
  · rw [T] at hn
    obtain ⟨rfl, rfl⟩ : r = r0 ∧ i = 0 := by
      rcases hn with ⟨h1, _, h2⟩ | ⟨h1, _⟩ | ⟨h1, _⟩
      · exact ⟨h1, h2⟩
      · exact absurd h1 t4
      · exact absurd h1 t4
    have d1 : (r != 12) = true := by rw [bne_iff_ne]; exact t1
    have d2 : (r != 14) = true := by rw [bne_iff_ne]; exact t2
    have d3 : (r == 0) = false := by rw [beq_eq_false_iff_ne]; exact t4
    have d4 : (r != 0) = true := by rw [bne_iff_ne]; exact t4
    have VF := Lib.hid (VA.out true ⟨fun _ => t3, fun _ => rfl⟩)
    clear hn T hr0 t1 t2 t3 t4
    go_enter Try.func33, Try.ntmps33
    go_wp2_with fail
    refine (CK.out _ _ (by simp [go_sem]) (HR.out.alloc _)).mono ?_
    rintro e V ⟨rfl, hb⟩
    have B1 : Hid (Below w.heap.size w V) := Lib.hid (HB.out.trans (hb.mono (by simp)))
    clear hb
    go_wp2_with (go_at_call 49; refine (VF.out _).mono ?_; rintro e w' ⟨rfl, rfl⟩)
    go_ret2
    exact ⟨rfl, B1.out⟩
  · rw [T] at hn
    have VF := Lib.hid (VA.out true ⟨fun _ => t3, fun _ => rfl⟩)
    have TL := Gp.errL_tl hr0 l (by simp)
    rcases hn with ⟨h1, h2, _⟩ | ⟨_, rfl, rfl, rfl⟩ | ⟨_, nr, rfl⟩
    · exact absurd h1 h2
    · clear T hr0 t3
      go_enter Try.func33, Try.ntmps33
      go_wp2_with fail
      refine (CK.out _ _ (by simp [go_sem]) (HR.out.alloc _)).mono ?_
      rintro e V ⟨rfl, hb⟩
      have B1 : Hid (Below w.heap.size w V) := Lib.hid (HB.out.trans (hb.mono (by simp)))
      clear hb
      go_wp2_with (go_at_call 49; refine (VF.out _).mono ?_; rintro e w' ⟨rfl, rfl⟩)
      go_ret2
      exact ⟨rfl, B1.out⟩
    · unfold Gp.okT at t3
      have L0 : 0 < l.length := by have := nr.lt; omega
      have HT := Lib.hid TL
      have NR := Lib.hid nr
      have d2 : ((l.length : Int) == 0) = false := by rw [beq_eq_false_iff_ne]; omega
      clear T hr0 TL nr
      go_enter Try.func33, Try.ntmps33
      go_wp2_with fail
      refine (CK.out _ _ (by simp [go_sem]) (HR.out.alloc _)).mono ?_
      rintro e V ⟨rfl, hb⟩
      have B1 : Hid (Below w.heap.size w V) := Lib.hid (HB.out.trans (hb.mono (by simp)))
      clear hb
      obtain ⟨_, A', cap', e1, cells⟩ := HR.out.below B1.out
      cases e1
      have CC := Lib.hid cells
      clear cells
      go_wp2_with (go_at_call 49; refine (VF.out _).mono ?_; rintro e w' ⟨rfl, rfl⟩)
      go_loopw [7, 8] (fun bv iv wr => ∃ (k j : Nat), k ≤ l.length ∧ j < l.length ∧ iv = .int .i64 k ∧ bv = .int .i64 j ∧ Hid ((k = 0 ∧ j = 0) ∨ Gp.Near l t k j) ∧ ∃ m, wr = V.drewN m) (fun _ iv _ => l.length - (intOf iv).toNat)
      case atStart => exact ⟨0, 0, by omega, L0, rfl, rfl, Lib.hid (.inl ⟨rfl, rfl⟩), 0, rfl⟩
      case round =>
        obtain ⟨k, j, hk, hj, rfl, rfl, inv, m, rfl⟩ := hrel
        by_cases lt : k < l.length
        · have e0 : decide ((k : Int) < (l.length : Int)) = true := by rw [decide_eq_true_iff]; omega
          have wi : IntKind.i64.wrap ((k : Int) + 1) = (k : Int) + 1 := by rw [IntKind.wrap_i64]; omega
          obtain ⟨b, o, rfl, c2⟩ := CC.out k lt
          obtain ⟨b', o', e', c3⟩ := CC.out j hj
          cases e'
          have xo := HT.out.ok _ (Gp.getD_mem lt)
          have yo := HT.out.ok _ (Gp.getD_mem hj)
          have MV := Lib.hid (fun (q : max (l.getD k 0 - t) (t - l.getD k 0) < max (l.getD j 0 - t) (t - l.getD j 0)) => show (Gp.Near l t (k + 1) k) by
            rcases inv.out with ⟨rfl, rfl⟩ | h
            · exact Gp.Near.one l t
            · exact h.move q)
          have ST := Lib.hid (fun (q : ¬ max (l.getD k 0 - t) (t - l.getD k 0) < max (l.getD j 0 - t) (t - l.getD j 0)) => show (Gp.Near l t (k + 1) j) by
            rcases inv.out with ⟨rfl, rfl⟩ | h
            · exact Gp.Near.one l t
            · exact h.stay q)
          obtain ⟨x, hx⟩ : ∃ x, l.getD k 0 = x := ⟨_, rfl⟩
          obtain ⟨y, hy⟩ : ∃ y, l.getD j 0 = y := ⟨_, rfl⟩
          rw [hx] at c2 xo MV ST
          rw [hy] at c3 yo MV ST
          unfold Gp.okT at xo yo
          have w1 : IntKind.i64.wrap (x - t) = x - t := by rw [IntKind.wrap_i64]; omega
          have w2 : IntKind.i64.wrap (t - x) = t - x := by rw [IntKind.wrap_i64]; omega
          have w3 : IntKind.i64.wrap (y - t) = y - t := by rw [IntKind.wrap_i64]; omega
          have w4 : IntKind.i64.wrap (t - y) = t - y := by rw [IntKind.wrap_i64]; omega
          have kr := hk
          have r1 : (0 : Int) ≤ (k : Int) := by omega
          have r2 : (0 : Int) ≤ (j : Int) := by omega
          have r3 : (k : Int) < (l.length : Int) := by omega
          have r4 : (j : Int) < (l.length : Int) := by omega
          clear hx hy xo yo inv t3
          obtain ⟨dx, hdx⟩ : ∃ d, max (x - t) (t - x) = d := ⟨_, rfl⟩
          obtain ⟨dy, hdy⟩ : ∃ d, max (y - t) (t - y) = d := ⟨_, rfl⟩
          rw [hdx, hdy] at MV ST
          have CX : (x - t < t - x ∧ dx = t - x) ∨ (¬ x - t < t - x ∧ dx = x - t) := by omega
          have CY : (y - t < t - y ∧ dy = t - y) ∨ (¬ y - t < t - y ∧ dy = y - t) := by omega
          clear hdx hdy
          rcases CX with ⟨cx, rfl⟩ | ⟨cx, rfl⟩
          all_goals rcases CY with ⟨cy, rfl⟩ | ⟨cy, rfl⟩
          · by_cases g : t - x < t - y
            · have e3 : decide (t - x < t - y) = true := decide_eq_true g
              have NN := Lib.hid (MV.out g)
              clear MV ST
              go_wp2_with fail
              go_quiet (fail)
              go_wp2_with fail
              go_roundw
              case rel => exact ⟨k + 1, k, by omega, by omega, by go_num, rfl, Lib.hid (.inr NN.out), _, by first | rfl | exact World.drewN_drewN _ _ _⟩
              case measure => simp [intOf]; omega
            · have e3 : decide (t - x < t - y) = false := decide_eq_false g
              have NN := Lib.hid (ST.out g)
              clear MV ST
              go_wp2_with fail
              go_quiet (fail)
              go_wp2_with fail
              go_roundw
              case rel => exact ⟨k + 1, j, by omega, by omega, by go_num, rfl, Lib.hid (.inr NN.out), _, by first | rfl | exact World.drewN_drewN _ _ _⟩
              case measure => simp [intOf]; omega
          · by_cases g : t - x < y - t
            · have e3 : decide (t - x < y - t) = true := decide_eq_true g
              have NN := Lib.hid (MV.out g)
              clear MV ST
              go_wp2_with fail
              go_quiet (fail)
              go_wp2_with fail
              go_roundw
              case rel => exact ⟨k + 1, k, by omega, by omega, by go_num, rfl, Lib.hid (.inr NN.out), _, by first | rfl | exact World.drewN_drewN _ _ _⟩
              case measure => simp [intOf]; omega
            · have e3 : decide (t - x < y - t) = false := decide_eq_false g
              have NN := Lib.hid (ST.out g)
              clear MV ST
              go_wp2_with fail
              go_quiet (fail)
              go_wp2_with fail
              go_roundw
              case rel => exact ⟨k + 1, j, by omega, by omega, by go_num, rfl, Lib.hid (.inr NN.out), _, by first | rfl | exact World.drewN_drewN _ _ _⟩
              case measure => simp [intOf]; omega
          · by_cases g : x - t < t - y
            · have e3 : decide (x - t < t - y) = true := decide_eq_true g
              have NN := Lib.hid (MV.out g)
              clear MV ST
              go_wp2_with fail
              go_quiet (fail)
              go_wp2_with fail
              go_roundw
              case rel => exact ⟨k + 1, k, by omega, by omega, by go_num, rfl, Lib.hid (.inr NN.out), _, by first | rfl | exact World.drewN_drewN _ _ _⟩
              case measure => simp [intOf]; omega
            · have e3 : decide (x - t < t - y) = false := decide_eq_false g
              have NN := Lib.hid (ST.out g)
              clear MV ST
              go_wp2_with fail
              go_quiet (fail)
              go_wp2_with fail
              go_roundw
              case rel => exact ⟨k + 1, j, by omega, by omega, by go_num, rfl, Lib.hid (.inr NN.out), _, by first | rfl | exact World.drewN_drewN _ _ _⟩
              case measure => simp [intOf]; omega
          · by_cases g : x - t < y - t
            · have e3 : decide (x - t < y - t) = true := decide_eq_true g
              have NN := Lib.hid (MV.out g)
              clear MV ST
              go_wp2_with fail
              go_quiet (fail)
              go_wp2_with fail
              go_roundw
              case rel => exact ⟨k + 1, k, by omega, by omega, by go_num, rfl, Lib.hid (.inr NN.out), _, by first | rfl | exact World.drewN_drewN _ _ _⟩
              case measure => simp [intOf]; omega
            · have e3 : decide (x - t < y - t) = false := decide_eq_false g
              have NN := Lib.hid (ST.out g)
              clear MV ST
              go_wp2_with fail
              go_quiet (fail)
              go_wp2_with fail
              go_roundw
              case rel => exact ⟨k + 1, j, by omega, by omega, by go_num, rfl, Lib.hid (.inr NN.out), _, by first | rfl | exact World.drewN_drewN _ _ _⟩
              case measure => simp [intOf]; omega
        · have e0 : decide ((k : Int) < (l.length : Int)) = false := by rw [decide_eq_false_iff_not]; omega
          obtain rfl : l.length = k := by omega
          have E : Hid (i = j) := Lib.hid (by
            rcases inv.out with ⟨h, _⟩ | h
            · omega
            · exact NR.out.uniq h)
          go_wp2_with fail
          go_ret2
          exact ⟨by rw [E.out]; rfl, below_drewN B1.out _⟩
end Go.Proofs.Ytihbpbdcpnpiaaa
