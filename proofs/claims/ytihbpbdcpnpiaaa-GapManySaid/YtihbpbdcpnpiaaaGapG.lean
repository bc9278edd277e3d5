/- Contracts of checkWindow and wide, and of Most and Cover, of package gap and of the document's. -/
import Derived.Test.YtihbpbdcpnpiaaaGapF
namespace Go.Proofs.Ytihbpbdcpnpiaaa
open Go.ChangeShapes Go.RowKit

theorem errW_ok {l : List Int} {wd : Int} (h : errW l wd = 0) : Gp.Tl l ∧ 1 ≤ wd ∧ wd ≤ 68719476736 := by
  unfold errW at h
  by_cases z : Gp.errL [l] = 0
  · rw [if_pos z] at h
    by_cases q : 1 ≤ wd ∧ wd ≤ 68719476736
    · exact ⟨Gp.errL_tl z l (by simp), q.1, q.2⟩
    · rw [if_neg q] at h; simp at h
  · rw [if_neg z] at h; exact absurd h z
open Classical in
/-- what Most returns beside the error -/
noncomputable def mostO (l : List Int) (wd : Int) : Nat × Int := if errW l wd = 0 then Gp.best l wd l.length else (0, 0)
open Classical in
/-- what Cover returns beside the error -/
noncomputable def coverO (l : List Int) (wd : Int) : Nat := if errW l wd = 0 then (Gp.cov l wd l.length).1 else 0

set_option maxRecDepth 100000 in
theorem win_any (v : Value) (l : List Int) (wd r : Int) (hr : errW l wd = r) (w : World) (h : RowT w v l) :
    Calls Try.prog 44 #[v, .int .i64 wd] w fun e w' => e = .returned (.int .i64 r) ∧ Below w.heap.size w w' := by
  have HR := Lib.hid h
  have HB := Lib.hid ((Below.refl _ w).alloc (Nat.le_refl _) (.cells #[v] 22))
  have CK := Lib.hid (fun r0 hr0 g W hc h => check_one g v l r0 hr0 W hc h)
  unfold errW at hr
  obtain ⟨r0, hr0⟩ : ∃ r0, Gp.errL [l] = r0 := ⟨_, rfl⟩
  have CK := Lib.hid (CK.out r0 hr0)
  rw [hr0] at hr
  clear hr0
  obtain ⟨h0, A, cap, rfl, _⟩ := h
  clear h0
  have T : (r0 = 0 ∧ 1 ≤ wd ∧ wd ≤ 68719476736 ∧ r = 0) ∨ (r0 = 0 ∧ wd < 1 ∧ r = 2) ∨ (r0 = 0 ∧ 1 ≤ wd ∧ 68719476736 < wd ∧ r = 2) ∨ (r0 ≠ 0 ∧ r = r0) := by
    by_cases z : r0 = 0
    · rw [if_pos z] at hr
      by_cases q : 1 ≤ wd ∧ wd ≤ 68719476736
      · rw [if_pos q] at hr; omega
      · rw [if_neg q] at hr; omega
    · rw [if_neg z] at hr; omega
  clear hr
  rcases T with ⟨rfl, q1, q2, rfl⟩ | ⟨rfl, q1, rfl⟩ | ⟨rfl, q1, q2, rfl⟩ | ⟨q1, rfl⟩
  · have d1 : decide (wd < 1) = false := by rw [decide_eq_false_iff_not]; omega
    have d2 : decide (68719476736 < wd) = false := by rw [decide_eq_false_iff_not]; omega
    clear q1 q2
    go_enter Try.func44, Try.ntmps44
    go_wp2_with fail
    refine (CK.out _ _ (by simp [go_sem]) (HR.out.alloc _)).mono ?_
    rintro e W1 ⟨rfl, hb⟩
    have B1 : Hid (Below w.heap.size w W1) := Lib.hid (HB.out.trans (hb.mono (by simp)))
    clear hb
    go_wp2_with fail
    go_ret
    exact ⟨rfl, B1.out⟩
  · have d1 : decide (wd < 1) = true := by rw [decide_eq_true_iff]; omega
    clear q1
    go_enter Try.func44, Try.ntmps44
    go_wp2_with fail
    refine (CK.out _ _ (by simp [go_sem]) (HR.out.alloc _)).mono ?_
    rintro e W1 ⟨rfl, hb⟩
    have B1 : Hid (Below w.heap.size w W1) := Lib.hid (HB.out.trans (hb.mono (by simp)))
    clear hb
    go_wp2_with fail
    go_ret
    exact ⟨rfl, B1.out⟩
  · have d1 : decide (wd < 1) = false := by rw [decide_eq_false_iff_not]; omega
    have d2 : decide (68719476736 < wd) = true := by rw [decide_eq_true_iff]; omega
    clear q1 q2
    go_enter Try.func44, Try.ntmps44
    go_wp2_with fail
    refine (CK.out _ _ (by simp [go_sem]) (HR.out.alloc _)).mono ?_
    rintro e W1 ⟨rfl, hb⟩
    have B1 : Hid (Below w.heap.size w W1) := Lib.hid (HB.out.trans (hb.mono (by simp)))
    clear hb
    go_wp2_with fail
    go_ret
    exact ⟨rfl, B1.out⟩
  · have d1 : (r != 0) = true := by rw [bne_iff_ne]; exact q1
    have d2 : (r == 0) = false := by rw [beq_eq_false_iff_ne]; exact q1
    clear q1
    go_enter Try.func44, Try.ntmps44
    go_wp2_with fail
    refine (CK.out _ _ (by simp [go_sem]) (HR.out.alloc _)).mono ?_
    rintro e W1 ⟨rfl, hb⟩
    have B1 : Hid (Below w.heap.size w W1) := Lib.hid (HB.out.trans (hb.mono (by simp)))
    clear hb
    go_wp2_with fail
    go_ret
    exact ⟨rfl, B1.out⟩

set_option maxRecDepth 100000 in
theorem rwin_any (v : Value) (l : List Int) (wd r : Int) (hr : errW l wd = r) (w : World) (h : RowT w v l) :
    Calls Try.prog 45 #[v, .int .i64 wd] w fun e w' => e = .returned (.int .i64 r) ∧ Below w.heap.size w w' := by
  have HR := Lib.hid h
  have HB := Lib.hid ((Below.refl _ w).alloc (Nat.le_refl _) (.cells #[v] 22))
  have CK := Lib.hid (fun r0 hr0 g W hc h => rcheck_one g v l r0 hr0 W hc h)
  unfold errW at hr
  obtain ⟨r0, hr0⟩ : ∃ r0, Gp.errL [l] = r0 := ⟨_, rfl⟩
  have CK := Lib.hid (CK.out r0 hr0)
  rw [hr0] at hr
  clear hr0
  obtain ⟨h0, A, cap, rfl, _⟩ := h
  clear h0
  have T : (r0 = 0 ∧ 1 ≤ wd ∧ wd ≤ 68719476736 ∧ r = 0) ∨ (r0 = 0 ∧ wd < 1 ∧ r = 2) ∨ (r0 = 0 ∧ 1 ≤ wd ∧ 68719476736 < wd ∧ r = 2) ∨ (r0 ≠ 0 ∧ r = r0) := by
    by_cases z : r0 = 0
    · rw [if_pos z] at hr
      by_cases q : 1 ≤ wd ∧ wd ≤ 68719476736
      · rw [if_pos q] at hr; omega
      · rw [if_neg q] at hr; omega
    · rw [if_neg z] at hr; omega
  clear hr
  rcases T with ⟨rfl, q1, q2, rfl⟩ | ⟨rfl, q1, rfl⟩ | ⟨rfl, q1, q2, rfl⟩ | ⟨q1, rfl⟩
  · have d1 : decide (wd < 1) = false := by rw [decide_eq_false_iff_not]; omega
    have d2 : decide (68719476736 < wd) = false := by rw [decide_eq_false_iff_not]; omega
    clear q1 q2
    go_enter Try.func45, Try.ntmps45
    go_wp2_with fail
    refine (CK.out _ _ (by simp [go_sem]) (HR.out.alloc _)).mono ?_
    rintro e W1 ⟨rfl, hb⟩
    have B1 : Hid (Below w.heap.size w W1) := Lib.hid (HB.out.trans (hb.mono (by simp)))
    clear hb
    go_wp2_with fail
    go_ret
    exact ⟨rfl, B1.out⟩
  · have d1 : decide (wd < 1) = true := by rw [decide_eq_true_iff]; omega
    clear q1
    go_enter Try.func45, Try.ntmps45
    go_wp2_with fail
    refine (CK.out _ _ (by simp [go_sem]) (HR.out.alloc _)).mono ?_
    rintro e W1 ⟨rfl, hb⟩
    have B1 : Hid (Below w.heap.size w W1) := Lib.hid (HB.out.trans (hb.mono (by simp)))
    clear hb
    go_wp2_with fail
    go_ret
    exact ⟨rfl, B1.out⟩
  · have d1 : decide (wd < 1) = false := by rw [decide_eq_false_iff_not]; omega
    have d2 : decide (68719476736 < wd) = true := by rw [decide_eq_true_iff]; omega
    clear q1 q2
    go_enter Try.func45, Try.ntmps45
    go_wp2_with fail
    refine (CK.out _ _ (by simp [go_sem]) (HR.out.alloc _)).mono ?_
    rintro e W1 ⟨rfl, hb⟩
    have B1 : Hid (Below w.heap.size w W1) := Lib.hid (HB.out.trans (hb.mono (by simp)))
    clear hb
    go_wp2_with fail
    go_ret
    exact ⟨rfl, B1.out⟩
  · have d1 : (r != 0) = true := by rw [bne_iff_ne]; exact q1
    have d2 : (r == 0) = false := by rw [beq_eq_false_iff_ne]; exact q1
    clear q1
    go_enter Try.func45, Try.ntmps45
    go_wp2_with fail
    refine (CK.out _ _ (by simp [go_sem]) (HR.out.alloc _)).mono ?_
    rintro e W1 ⟨rfl, hb⟩
    have B1 : Hid (Below w.heap.size w W1) := Lib.hid (HB.out.trans (hb.mono (by simp)))
    clear hb
    go_wp2_with fail
    go_ret
    exact ⟨rfl, B1.out⟩

set_option maxRecDepth 100000 in
set_option maxHeartbeats 4000000 in
theorem most_any (v : Value) (l : List Int) (wd : Int) (n : Nat) (a : Int) (hn : mostO l wd = (n, a)) (w : World) (h : RowT w v l) :
    Calls Try.prog 24 #[v, .int .i64 wd] w fun e w' => e = .returned (.tuple #[.int .i64 n, .int .i64 a, .int .i64 (errW l wd)]) ∧ Below w.heap.size w w' := by
  have HR := Lib.hid h
  have WI := Lib.hid (fun r hr W (h : RowT W v l) => win_any v l wd r hr W h)
  unfold mostO at hn
  obtain ⟨r, hr⟩ : ∃ r, errW l wd = r := ⟨_, rfl⟩
  have WI := Lib.hid (WI.out r hr)
  rw [hr] at hn ⊢
  obtain ⟨h0, A, cap, rfl, _⟩ := h
  by_cases z : r = 0
  · subst z
    rw [if_pos rfl] at hn
    obtain ⟨TL, W0, W1⟩ := errW_ok hr
    have HT := Lib.hid TL
    have HN := Lib.hid hn
    clear hn TL hr
    go_enter Try.func24, Try.ntmps24
    go_wp2_with fail
    refine (WI.out _ HR.out).mono ?_
    rintro e V ⟨rfl, hb⟩
    have B1 := Lib.hid hb
    obtain ⟨_, A', cap', e1, cells⟩ := HR.out.below hb
    cases e1
    have CC := Lib.hid cells
    clear hb cells
    go_wp2_with fail
    go_loop [8, 9, 10, 21] (fun nv av ev iv => ∃ (k n : Nat) (a : Int) (en : Nat), k ≤ l.length ∧ nv = .int .i64 n ∧ av = .int .i64 a ∧ ev = .int .i64 en ∧ iv = .int .i64 k ∧ en ≤ l.length ∧ n ≤ l.length ∧ Hid (Gp.best l wd k = (n, a)) ∧ Hid (∀ j, k ≤ j → j < l.length → en ≤ Gp.cl l (l.getD j 0 + wd))) (fun _ _ _ iv => l.length - (intOf iv).toNat)
    case atStart => exact ⟨0, 0, 0, 0, by omega, rfl, rfl, rfl, rfl, by omega, by omega, Lib.hid rfl, Lib.hid (fun j _ _ => by omega)⟩
    case round =>
      obtain ⟨k, n, a, en, hk, rfl, rfl, rfl, rfl, en1, nl, hbst, hen⟩ := hrel
      by_cases lt : k < l.length
      · have e0 : decide ((k : Int) < (l.length : Int)) = true := by rw [decide_eq_true_iff]; omega
        have wi : IntKind.i64.wrap ((k : Int) + 1) = (k : Int) + 1 := by rw [IntKind.wrap_i64]; omega
        obtain ⟨b, o, rfl, c2⟩ := CC.out k lt
        have zok := HT.out.ok _ (Gp.getD_mem lt)
        have EN := Lib.hid (hen.out k (Nat.le_refl _) lt)
        have KN := Lib.hid (Gp.cl_next HT.out.inc lt W0)
        have EL := Lib.hid (Gp.cl_le l (l.getD k 0 + wd))
        have CI := Lib.hid (fun j hj => Gp.cl_iff HT.out.inc (l.getD k 0 + wd) (j := j) hj)
        have IS := Lib.hid (fun en he hx => Gp.cl_is HT.out.inc (l.getD k 0 + wd) (e := en) he hx)
        have MONO := Lib.hid (fun j (h1 : k ≤ j) (h2 : j < l.length) => Gp.cl_mono HT.out.inc (show l.getD k 0 + wd ≤ l.getD j 0 + wd by have := HT.out.inc.le h1 h2; omega))
        have BS := Lib.hid (show Gp.best l wd (k + 1) = if n < Gp.cl l (l.getD k 0 + wd) - k then (Gp.cl l (l.getD k 0 + wd) - k, l.getD k 0) else (n, a) by rw [Gp.best, hbst.out])
        obtain ⟨x, hx⟩ : ∃ x, l.getD k 0 = x := ⟨_, rfl⟩
        rw [hx] at c2 zok EN KN EL CI IS MONO BS
        unfold Gp.okT at zok
        have wx : IntKind.i64.wrap (x + wd) = x + wd := by rw [IntKind.wrap_i64]; omega
        obtain ⟨E, hE⟩ : ∃ E, Gp.cl l (x + wd) = E := ⟨_, rfl⟩
        rw [hE] at EN KN EL CI IS MONO BS
        have en2 := EN.out
        have kn2 := KN.out
        have el2 := EL.out
        clear hx hE hbst hen zok
        go_wp2_with fail
        go_loop [10] (fun ev => ∃ en : Nat, en ≤ E ∧ ev = .int .i64 en) (fun ev => E - (intOf ev).toNat)
        case atStart => exact ⟨en, en2, rfl⟩
        case round =>
          obtain ⟨en, en3, rfl⟩ := hrel
          by_cases lt2 : en < l.length
          · have e2 : decide ((en : Int) < (l.length : Int)) = true := by rw [decide_eq_true_iff]; omega
            have we : IntKind.i64.wrap ((en : Int) + 1) = (en : Int) + 1 := by rw [IntKind.wrap_i64]; omega
            obtain ⟨b', o', e', c3⟩ := CC.out en lt2
            cases e'
            have CJ := Lib.hid (CI.out en lt2)
            have IJ := Lib.hid (fun he q => IS.out en he (.inr ⟨lt2, q⟩))
            obtain ⟨y, hy⟩ : ∃ y, l.getD en 0 = y := ⟨_, rfl⟩
            rw [hy] at c3 CJ IJ
            clear hy
            by_cases q : y < x + wd
            · have e3 : decide (y < x + wd) = true := decide_eq_true q
              have q2 := CJ.out.2 q
              clear q
              go_wp2_with fail
              go_round
              case rel => exact ⟨en + 1, by omega, by go_num⟩
              case measure => simp [intOf]; omega
            · have e3 : decide (y < x + wd) = false := decide_eq_false q
              have q2 := IJ.out en3 (by omega)
              subst q2
              clear q
              obtain ⟨D, hD⟩ : ∃ D, en - k = D := ⟨_, rfl⟩
              have wd2 : IntKind.i64.wrap ((en : Int) - (k : Int)) = (D : Int) := by rw [IntKind.wrap_i64]; omega
              have DL : D ≤ l.length := by omega
              rw [hD] at BS
              clear hD
              by_cases g : n < D
              · have e4 : decide ((n : Int) < (D : Int)) = true := by rw [decide_eq_true_iff]; omega
                have e5 : decide (n < D) = true := decide_eq_true g
                rw [if_pos g] at BS
                clear g
                go_wp2_with fail
                go_round
                case rel => exact ⟨k + 1, D, x, en, by omega, rfl, rfl, rfl, by go_num, by omega, by omega, BS, Lib.hid (fun j h1 h2 => MONO.out j (by omega) h2)⟩
                case measure => simp [intOf]; omega
              · have e4 : decide ((n : Int) < (D : Int)) = false := by rw [decide_eq_false_iff_not]; omega
                have e5 : decide (n < D) = false := decide_eq_false g
                rw [if_neg g] at BS
                clear g
                go_wp2_with fail
                go_round
                case rel => exact ⟨k + 1, n, a, en, by omega, rfl, rfl, rfl, by go_num, by omega, by omega, BS, Lib.hid (fun j h1 h2 => MONO.out j (by omega) h2)⟩
                case measure => simp [intOf]; omega
          · have e2 : decide ((en : Int) < (l.length : Int)) = false := by rw [decide_eq_false_iff_not]; omega
            have q2 : en = E := by omega
            have q := lt2
            subst q2
            clear q
            obtain ⟨D, hD⟩ : ∃ D, en - k = D := ⟨_, rfl⟩
            have wd2 : IntKind.i64.wrap ((en : Int) - (k : Int)) = (D : Int) := by rw [IntKind.wrap_i64]; omega
            have DL : D ≤ l.length := by omega
            rw [hD] at BS
            clear hD
            by_cases g : n < D
            · have e4 : decide ((n : Int) < (D : Int)) = true := by rw [decide_eq_true_iff]; omega
              have e5 : decide (n < D) = true := decide_eq_true g
              rw [if_pos g] at BS
              clear g
              go_wp2_with fail
              go_round
              case rel => exact ⟨k + 1, D, x, en, by omega, rfl, rfl, rfl, by go_num, by omega, by omega, BS, Lib.hid (fun j h1 h2 => MONO.out j (by omega) h2)⟩
              case measure => simp [intOf]; omega
            · have e4 : decide ((n : Int) < (D : Int)) = false := by rw [decide_eq_false_iff_not]; omega
              have e5 : decide (n < D) = false := decide_eq_false g
              rw [if_neg g] at BS
              clear g
              go_wp2_with fail
              go_round
              case rel => exact ⟨k + 1, n, a, en, by omega, rfl, rfl, rfl, by go_num, by omega, by omega, BS, Lib.hid (fun j h1 h2 => MONO.out j (by omega) h2)⟩
              case measure => simp [intOf]; omega
      · have e0 : decide ((k : Int) < (l.length : Int)) = false := by rw [decide_eq_false_iff_not]; omega
        obtain rfl : l.length = k := by omega
        go_wp2_with fail
        go_ret3
        have hq := HN.out
        rw [hbst.out] at hq
        cases hq
        exact ⟨rfl, B1.out⟩
  · rw [if_neg z] at hn
    cases hn
    have d1 : (r != 0) = true := by rw [bne_iff_ne]; exact z
    clear z hr
    go_enter Try.func24, Try.ntmps24
    go_wp2_with fail
    refine (WI.out _ HR.out).mono ?_
    rintro e V ⟨rfl, hb⟩
    have B1 := Lib.hid hb
    clear hb
    go_wp2_with fail
    go_ret3
    exact ⟨rfl, B1.out⟩

set_option maxRecDepth 100000 in
set_option maxHeartbeats 4000000 in
theorem cover_any (v : Value) (l : List Int) (wd : Int) (n : Nat) (hn : coverO l wd = n) (w : World) (h : RowT w v l) :
    Calls Try.prog 26 #[v, .int .i64 wd] w fun e w' => e = .returned (.tuple #[.int .i64 n, .int .i64 (errW l wd)]) ∧ Below w.heap.size w w' := by
  have HR := Lib.hid h
  have WI := Lib.hid (fun r hr W (h : RowT W v l) => win_any v l wd r hr W h)
  unfold coverO at hn
  obtain ⟨r, hr⟩ : ∃ r, errW l wd = r := ⟨_, rfl⟩
  have WI := Lib.hid (WI.out r hr)
  rw [hr] at hn ⊢
  obtain ⟨h0, A, cap, rfl, _⟩ := h
  by_cases z : r = 0
  · subst z
    rw [if_pos rfl] at hn
    obtain ⟨TL, W0, W1⟩ := errW_ok hr
    have HT := Lib.hid TL
    have HN := Lib.hid hn
    clear hn TL hr
    go_enter Try.func26, Try.ntmps26
    go_wp2_with fail
    refine (WI.out _ HR.out).mono ?_
    rintro e V ⟨rfl, hb⟩
    have B1 := Lib.hid hb
    obtain ⟨_, A', cap', e1, cells⟩ := HR.out.below hb
    cases e1
    have CC := Lib.hid cells
    clear hb cells
    go_wp2_with fail
    go_loop [7, 8, 19] (fun nv ev iv => ∃ (k n : Nat) (en : Int), k ≤ l.length ∧ n ≤ k ∧ nv = .int .i64 n ∧ ev = .int .i64 en ∧ iv = .int .i64 k ∧ Hid (Gp.cov l wd k = (n, en))) (fun _ _ iv => l.length - (intOf iv).toNat)
    case atStart => exact ⟨0, 0, 0, by omega, by omega, rfl, rfl, rfl, Lib.hid rfl⟩
    case round =>
      obtain ⟨k, n, en, hk, nl, rfl, rfl, rfl, hcv⟩ := hrel
      by_cases lt : k < l.length
      · have e0 : decide ((k : Int) < (l.length : Int)) = true := by rw [decide_eq_true_iff]; omega
        have wi : IntKind.i64.wrap ((k : Int) + 1) = (k : Int) + 1 := by rw [IntKind.wrap_i64]; omega
        have wn : IntKind.i64.wrap ((n : Int) + 1) = (n : Int) + 1 := by rw [IntKind.wrap_i64]; omega
        obtain ⟨b, o, rfl, c2⟩ := CC.out k lt
        have zok := HT.out.ok _ (Gp.getD_mem lt)
        have BS := Lib.hid (show Gp.cov l wd (k + 1) = if en ≤ l.getD k 0 then (n + 1, l.getD k 0 + wd) else (n, en) by rw [Gp.cov, hcv.out])
        obtain ⟨x, hx⟩ : ∃ x, l.getD k 0 = x := ⟨_, rfl⟩
        rw [hx] at c2 zok BS
        unfold Gp.okT at zok
        have wx : IntKind.i64.wrap (x + wd) = x + wd := by rw [IntKind.wrap_i64]; omega
        clear hx hcv zok
        by_cases q : en ≤ x
        · have e1 : decide (en ≤ x) = true := decide_eq_true q
          rw [if_pos q] at BS
          clear q
          go_wp2_with fail
          go_round
          case rel => exact ⟨k + 1, n + 1, x + wd, by omega, by omega, by go_num, rfl, by go_num, BS⟩
          case measure => simp [intOf]; omega
        · have e1 : decide (en ≤ x) = false := decide_eq_false q
          rw [if_neg q] at BS
          clear q
          go_wp2_with fail
          go_round
          case rel => exact ⟨k + 1, n, en, by omega, by omega, rfl, rfl, by go_num, BS⟩
          case measure => simp [intOf]; omega
      · have e0 : decide ((k : Int) < (l.length : Int)) = false := by rw [decide_eq_false_iff_not]; omega
        obtain rfl : l.length = k := by omega
        go_wp2_with fail
        go_ret2
        have hq := HN.out
        rw [hcv.out] at hq
        cases hq
        exact ⟨rfl, B1.out⟩
  · rw [if_neg z] at hn
    cases hn
    have d1 : (r != 0) = true := by rw [bne_iff_ne]; exact z
    clear z hr
    go_enter Try.func26, Try.ntmps26
    go_wp2_with fail
    refine (WI.out _ HR.out).mono ?_
    rintro e V ⟨rfl, hb⟩
    have B1 := Lib.hid hb
    clear hb
    go_wp2_with fail
    go_ret2
    exact ⟨rfl, B1.out⟩

set_option maxRecDepth 100000 in
set_option maxHeartbeats 4000000 in
theorem rmost_any (v : Value) (l : List Int) (wd : Int) (n : Nat) (a : Int) (hn : mostO l wd = (n, a)) (w : World) (h : RowT w v l) :
    Calls Try.prog 25 #[v, .int .i64 wd] w fun e w' => e = .returned (.tuple #[.int .i64 n, .int .i64 a, .int .i64 (errW l wd)]) ∧ Below w.heap.size w w' := by
  have HR := Lib.hid h
  have WI := Lib.hid (fun r hr W (h : RowT W v l) => rwin_any v l wd r hr W h)
  unfold mostO at hn
  obtain ⟨r, hr⟩ : ∃ r, errW l wd = r := ⟨_, rfl⟩
  have WI := Lib.hid (WI.out r hr)
  rw [hr] at hn ⊢
  obtain ⟨h0, A, cap, rfl, _⟩ := h
  by_cases z : r = 0
  · subst z
    rw [if_pos rfl] at hn
    obtain ⟨TL, W0, W1⟩ := errW_ok hr
    have HT := Lib.hid TL
    have HN := Lib.hid hn
    clear hn TL hr
    go_enter Try.func25, Try.ntmps25
    go_wp2_with fail
    refine (WI.out _ HR.out).mono ?_
    rintro e V ⟨rfl, hb⟩
    have B1 := Lib.hid hb
    obtain ⟨_, A', cap', e1, cells⟩ := HR.out.below hb
    cases e1
    have CC := Lib.hid cells
    clear hb cells
    go_wp2_with fail
    go_loopw [8, 9, 10] (fun nv av iv wr => ∃ (k n : Nat) (a : Int), k ≤ l.length ∧ nv = .int .i64 n ∧ av = .int .i64 a ∧ iv = .int .i64 k ∧ n ≤ l.length ∧ Hid (Gp.best l wd k = (n, a)) ∧ ∃ m, wr = V.drewN m) (fun _ _ iv _ => l.length - (intOf iv).toNat)
    case atStart => exact ⟨0, 0, 0, by omega, rfl, rfl, rfl, by omega, Lib.hid rfl, 0, rfl⟩
    case round =>
      obtain ⟨k, n, a, hk, rfl, rfl, rfl, nl, hbst, m0, rfl⟩ := hrel
      by_cases lt : k < l.length
      · have e0 : decide ((k : Int) < (l.length : Int)) = true := by rw [decide_eq_true_iff]; omega
        have wi : IntKind.i64.wrap ((k : Int) + 1) = (k : Int) + 1 := by rw [IntKind.wrap_i64]; omega
        obtain ⟨b, o, rfl, c2⟩ := CC.out k lt
        have zok := HT.out.ok _ (Gp.getD_mem lt)
        have KN := Lib.hid (Gp.cl_next HT.out.inc lt W0)
        have EL := Lib.hid (Gp.cl_le l (l.getD k 0 + wd))
        have CI := Lib.hid (fun j hj => Gp.cl_iff HT.out.inc (l.getD k 0 + wd) (j := j) hj)
        have IS := Lib.hid (fun en he hx => Gp.cl_is HT.out.inc (l.getD k 0 + wd) (e := en) he hx)
        have BS := Lib.hid (show Gp.best l wd (k + 1) = if n < Gp.cl l (l.getD k 0 + wd) - k then (Gp.cl l (l.getD k 0 + wd) - k, l.getD k 0) else (n, a) by rw [Gp.best, hbst.out])
        obtain ⟨x, hx⟩ : ∃ x, l.getD k 0 = x := ⟨_, rfl⟩
        rw [hx] at c2 zok KN EL CI IS BS
        unfold Gp.okT at zok
        have wx : IntKind.i64.wrap (x + wd) = x + wd := by rw [IntKind.wrap_i64]; omega
        obtain ⟨E, hE⟩ : ∃ E, Gp.cl l (x + wd) = E := ⟨_, rfl⟩
        rw [hE] at KN EL CI IS BS
        have kn2 := KN.out
        have el2 := EL.out
        clear hx hE hbst zok
        go_wp2_with fail
        go_loopw [11, 12] (fun cv ev wr => ∃ c en : Nat, k ≤ en ∧ en ≤ E ∧ en = k + c ∧ cv = .int .i64 c ∧ ev = .int .i64 en ∧ ∃ m, wr = V.drewN m) (fun _ ev _ => E - (intOf ev).toNat)
        case atStart => exact ⟨0, k, by omega, by omega, by omega, rfl, rfl, _, rfl⟩
        case round =>
          obtain ⟨c, en, en0, en3, hc, rfl, rfl, m1, rfl⟩ := hrel
          by_cases lt2 : en < l.length
          · have e2 : decide ((en : Int) < (l.length : Int)) = true := by rw [decide_eq_true_iff]; omega
            have we : IntKind.i64.wrap ((en : Int) + 1) = (en : Int) + 1 := by rw [IntKind.wrap_i64]; omega
            have wc : IntKind.i64.wrap ((c : Int) + 1) = (c : Int) + 1 := by rw [IntKind.wrap_i64]; omega
            obtain ⟨b', o', e', c3⟩ := CC.out en lt2
            cases e'
            have CJ := Lib.hid (CI.out en lt2)
            have IJ := Lib.hid (fun he q => IS.out en he (.inr ⟨lt2, q⟩))
            obtain ⟨y, hy⟩ : ∃ y, l.getD en 0 = y := ⟨_, rfl⟩
            rw [hy] at c3 CJ IJ
            have HCC := Lib.hid hc
            clear hy hc
            by_cases q : y < x + wd
            · have e3 : decide (y < x + wd) = true := decide_eq_true q
              have q2 := CJ.out.2 q
              clear q
              go_wp2_with fail
              go_quiet (fail)
              go_wp2_with fail
              go_roundw
              case rel => exact ⟨c + 1, en + 1, by omega, by omega, by have := HCC.out; omega, by go_num, by go_num, _, by first | rfl | exact World.drewN_drewN _ _ _⟩
              case measure => simp [intOf]; omega
            · have e3 : decide (y < x + wd) = false := decide_eq_false q
              have q2 := IJ.out en3 (by omega)
              subst q2
              clear q
              rw [show en - k = c by have := HCC.out; omega] at BS
              have cl1 : c ≤ l.length := by have := HCC.out; omega
              by_cases g : n < c
              · have e4 : decide ((n : Int) < (c : Int)) = true := by rw [decide_eq_true_iff]; omega
                have e5 : decide (n < c) = true := decide_eq_true g
                rw [if_pos g] at BS
                clear g HCC
                go_wp2_with fail
                go_quiet (fail)
                go_wp2_with fail
                go_quiet (fail)
                go_wp2_with fail
                go_roundw
                case rel => exact ⟨k + 1, c, x, by omega, rfl, rfl, by go_num, by omega, BS, _, by first | rfl | exact World.drewN_drewN _ _ _⟩
                case measure => simp [intOf]; omega
              · have e4 : decide ((n : Int) < (c : Int)) = false := by rw [decide_eq_false_iff_not]; omega
                have e5 : decide (n < c) = false := decide_eq_false g
                rw [if_neg g] at BS
                clear g HCC
                go_wp2_with fail
                go_quiet (fail)
                go_wp2_with fail
                go_roundw
                case rel => exact ⟨k + 1, n, a, by omega, rfl, rfl, by go_num, by omega, BS, _, by first | rfl | exact World.drewN_drewN _ _ _⟩
                case measure => simp [intOf]; omega
          · have e2 : decide ((en : Int) < (l.length : Int)) = false := by rw [decide_eq_false_iff_not]; omega
            have q2 : en = E := by omega
            have q := lt2
            have HCC := Lib.hid hc
            clear hc
            subst q2
            clear q
            rw [show en - k = c by have := HCC.out; omega] at BS
            have cl1 : c ≤ l.length := by have := HCC.out; omega
            by_cases g : n < c
            · have e4 : decide ((n : Int) < (c : Int)) = true := by rw [decide_eq_true_iff]; omega
              have e5 : decide (n < c) = true := decide_eq_true g
              rw [if_pos g] at BS
              clear g HCC
              go_wp2_with fail
              go_quiet (fail)
              go_wp2_with fail
              go_quiet (fail)
              go_wp2_with fail
              go_roundw
              case rel => exact ⟨k + 1, c, x, by omega, rfl, rfl, by go_num, by omega, BS, _, by first | rfl | exact World.drewN_drewN _ _ _⟩
              case measure => simp [intOf]; omega
            · have e4 : decide ((n : Int) < (c : Int)) = false := by rw [decide_eq_false_iff_not]; omega
              have e5 : decide (n < c) = false := decide_eq_false g
              rw [if_neg g] at BS
              clear g HCC
              go_wp2_with fail
              go_quiet (fail)
              go_wp2_with fail
              go_roundw
              case rel => exact ⟨k + 1, n, a, by omega, rfl, rfl, by go_num, by omega, BS, _, by first | rfl | exact World.drewN_drewN _ _ _⟩
              case measure => simp [intOf]; omega
      · have e0 : decide ((k : Int) < (l.length : Int)) = false := by rw [decide_eq_false_iff_not]; omega
        obtain rfl : l.length = k := by omega
        go_wp2_with fail
        go_ret3
        have hq := HN.out
        rw [hbst.out] at hq
        cases hq
        exact ⟨rfl, below_drewN B1.out _⟩
  · rw [if_neg z] at hn
    cases hn
    have d1 : (r != 0) = true := by rw [bne_iff_ne]; exact z
    clear z hr
    go_enter Try.func25, Try.ntmps25
    go_wp2_with fail
    refine (WI.out _ HR.out).mono ?_
    rintro e V ⟨rfl, hb⟩
    have B1 := Lib.hid hb
    clear hb
    go_wp2_with fail
    go_ret3
    exact ⟨rfl, B1.out⟩

set_option maxRecDepth 100000 in
set_option maxHeartbeats 4000000 in
theorem rcover_any (v : Value) (l : List Int) (wd : Int) (n : Nat) (hn : coverO l wd = n) (w : World) (h : RowT w v l) :
    Calls Try.prog 27 #[v, .int .i64 wd] w fun e w' => e = .returned (.tuple #[.int .i64 n, .int .i64 (errW l wd)]) ∧ Below w.heap.size w w' := by
  have HR := Lib.hid h
  have WI := Lib.hid (fun r hr W (h : RowT W v l) => rwin_any v l wd r hr W h)
  unfold coverO at hn
  obtain ⟨r, hr⟩ : ∃ r, errW l wd = r := ⟨_, rfl⟩
  have WI := Lib.hid (WI.out r hr)
  rw [hr] at hn ⊢
  obtain ⟨h0, A, cap, rfl, _⟩ := h
  by_cases z : r = 0
  · subst z
    rw [if_pos rfl] at hn
    obtain ⟨TL, W0, W1⟩ := errW_ok hr
    have HT := Lib.hid TL
    have HN := Lib.hid hn
    clear hn TL hr
    go_enter Try.func27, Try.ntmps27
    go_wp2_with fail
    refine (WI.out _ HR.out).mono ?_
    rintro e V ⟨rfl, hb⟩
    have B1 := Lib.hid hb
    obtain ⟨_, A', cap', e1, cells⟩ := HR.out.below hb
    cases e1
    have CC := Lib.hid cells
    clear hb cells
    go_wp2_with fail
    go_loopw [7, 8, 9] (fun nv ev iv wr => ∃ (k n : Nat) (en : Int), k ≤ l.length ∧ n ≤ k ∧ nv = .int .i64 n ∧ ev = .int .i64 en ∧ iv = .int .i64 k ∧ Hid (Gp.cov l wd k = (n, en)) ∧ ∃ m, wr = V.drewN m) (fun _ _ iv _ => l.length - (intOf iv).toNat)
    case atStart => exact ⟨0, 0, 0, by omega, by omega, rfl, rfl, rfl, Lib.hid rfl, 0, rfl⟩
    case round =>
      obtain ⟨k, n, en, hk, nl, rfl, rfl, rfl, hcv, m0, rfl⟩ := hrel
      by_cases lt : k < l.length
      · have e0 : decide ((k : Int) < (l.length : Int)) = true := by rw [decide_eq_true_iff]; omega
        have wi : IntKind.i64.wrap ((k : Int) + 1) = (k : Int) + 1 := by rw [IntKind.wrap_i64]; omega
        have wn : IntKind.i64.wrap ((n : Int) + 1) = (n : Int) + 1 := by rw [IntKind.wrap_i64]; omega
        obtain ⟨b, o, rfl, c2⟩ := CC.out k lt
        have zok := HT.out.ok _ (Gp.getD_mem lt)
        have CZ := Lib.hid (Gp.cov_zero l wd k)
        rw [hcv.out] at CZ
        have BS := Lib.hid (show Gp.cov l wd (k + 1) = if en ≤ l.getD k 0 then (n + 1, l.getD k 0 + wd) else (n, en) by rw [Gp.cov, hcv.out])
        obtain ⟨x, hx⟩ : ∃ x, l.getD k 0 = x := ⟨_, rfl⟩
        rw [hx] at c2 zok BS
        unfold Gp.okT at zok
        have wx : IntKind.i64.wrap (x + wd) = x + wd := by rw [IntKind.wrap_i64]; omega
        have NZ : Hid (n = 0 → en ≤ x) := Lib.hid (fun q => by have := CZ.out q; dsimp only at this; omega)
        clear hx hcv zok CZ
        by_cases q : en ≤ x
        · have e1 : decide (en ≤ x) = true := decide_eq_true q
          rw [if_pos q] at BS
          clear q
          by_cases n0 : n = 0
          · have e5 : ((n : Int) == 0) = true := by rw [beq_iff_eq]; omega
            clear n0
            go_wp2_with fail
            go_quiet (fail)
            go_wp2_with fail
            go_roundw
            case rel => exact ⟨k + 1, n + 1, x + wd, by omega, by omega, by go_num, rfl, by go_num, BS, _, by first | rfl | exact World.drewN_drewN _ _ _⟩
            case measure => simp [intOf]; omega
          · have e5 : ((n : Int) == 0) = false := by rw [beq_eq_false_iff_ne]; omega
            clear n0
            go_wp2_with fail
            go_quiet (fail)
            go_wp2_with fail
            go_roundw
            case rel => exact ⟨k + 1, n + 1, x + wd, by omega, by omega, by go_num, rfl, by go_num, BS, _, by first | rfl | exact World.drewN_drewN _ _ _⟩
            case measure => simp [intOf]; omega
        · have e1 : decide (en ≤ x) = false := decide_eq_false q
          have e5 : ((n : Int) == 0) = false := by rw [beq_eq_false_iff_ne]; intro z; exact q (NZ.out (by omega))
          rw [if_neg q] at BS
          clear q
          go_wp2_with fail
          go_roundw
          case rel => exact ⟨k + 1, n, en, by omega, by omega, rfl, rfl, by go_num, BS, _, rfl⟩
          case measure => simp [intOf]; omega
      · have e0 : decide ((k : Int) < (l.length : Int)) = false := by rw [decide_eq_false_iff_not]; omega
        obtain rfl : l.length = k := by omega
        go_wp2_with fail
        go_ret2
        have hq := HN.out
        rw [hcv.out] at hq
        cases hq
        exact ⟨rfl, below_drewN B1.out _⟩
  · rw [if_neg z] at hn
    cases hn
    have d1 : (r != 0) = true := by rw [bne_iff_ne]; exact z
    clear z hr
    go_enter Try.func27, Try.ntmps27
    go_wp2_with fail
    refine (WI.out _ HR.out).mono ?_
    rintro e V ⟨rfl, hb⟩
    have B1 := Lib.hid hb
    clear hb
    go_wp2_with fail
    go_ret2
    exact ⟨rfl, B1.out⟩
end Go.Proofs.Ytihbpbdcpnpiaaa
