/- The document's check, Is, next, Next. -/
import Derived.Test.YtljackjcgfaanaaGreatDoorGPlaC
import Derived.Test.YtljackjcgfaanaaGreatDoorGPlaDef
import Derived.Test.YtljackjcgfaanaaGreatDoorGPlaE
import Derived.Test.YtljackjcgfaanaaGreatDoorGMatRZ
import Derived.Test.YtljackjcgfaanaaGreatDoorGEveB
namespace Go.Proofs.YtljackjcgfaanaaGreatDoor
open Go.ChangeShapes Go.RowKit

set_option maxRecDepth 100000 in
set_option maxHeartbeats 4000000 in
theorem rpcheck_any (q : Pl.P) (hx : q.x.Bd) (v : Value) (B : Nat) (ts : List Int) (hl : ts.length ≤ 2) (r : Int) (hr : q.errT ts = r) (w : World) (L : LayM w) (h : Bo.RowS w v q.l) (R : Row w B 2 (ts.map (.int .i64 ·))) :
    Calls Tryz.prog 37 #[.agg #[.int .i64 q.k, .int .u64 q.x.a0, .int .u64 q.x.a1, .int .u64 q.x.a2, .int .u64 q.x.a3, .int .u64 q.x.a4, .int .u64 q.x.a5, .bool q.x.b3, .bool q.x.b5, .int .i64 q.z, .int .i64 q.s, .int .i64 q.p, .int .i64 q.c, v], .slice (some ⟨B, 0, none⟩) ts.length ts.length] w fun e w' => e = .returned (.int .i64 r) ∧ Below w.heap.size w w' := by
  have Q := Lib.hid (PB.start L h)
  have RR := Lib.hid (R.alloc (.cells #[.int .i64 q.k, .int .u64 q.x.a0, .int .u64 q.x.a1, .int .u64 q.x.a2, .int .u64 q.x.a3, .int .u64 q.x.a4, .int .u64 q.x.a5, .bool q.x.b3, .bool q.x.b5, .int .i64 q.z, .int .i64 q.s, .int .i64 q.p, .int .i64 q.c, v] 29))
  have LN := Lib.hid hl
  obtain ⟨ep, hep⟩ : ∃ ep, q.err = ep := ⟨_, rfl⟩
  have CK := Lib.hid (fun W L h => rpchk_any q hx v ep hep W L h)
  have E0 : Hid ((ep = r ∧ r ≠ 0) ∨ (ep = 0 ∧ (r = if ts.all (fun t => decide (Pl.vt t)) = true then 0 else 14))) := Lib.hid (by
    rcases q.errT_cases ts with ⟨e1, e2⟩ | e3
    · exact .inl ⟨by omega, by omega⟩
    · have e2 : q.err = 0 := by rcases e3 with h | h <;> exact h.1
      exact .inr ⟨by omega, by rw [← hr]; unfold Pl.P.errT; rw [if_pos e2]⟩)
  clear R hl hr hep h L hx
  go_enter Tryz.func37, Tryz.ntmps37
  go_wp2_with fail
  refine (CK.out _ Q.out.lay Q.out.sp).mono ?_
  rintro e V ⟨rfl, hb1⟩
  have Q1 := Lib.hid (Q.out.next hb1)
  have RV := Lib.hid (RR.out.below hb1)
  clear hb1 RR
  go_wp2_with fail
  go_loopw [5, 6] (fun ev iv wr => ∃ (k : Nat) (u : Int), k ≤ ts.length ∧ iv = .int .i64 k ∧ ev = .int .i64 u ∧ Hid ((u = r ∧ r ≠ 0) ∨ (u = 0 ∧ (ts.take k).all (fun t => decide (Pl.vt t)) = true ∧ (r = if ts.all (fun t => decide (Pl.vt t)) = true then 0 else 14))) ∧ V = wr) (fun _ iv _ => ts.length - (intOf iv).toNat)
  case atStart => exact ⟨0, ep, Nat.zero_le _, rfl, rfl, Lib.hid (by rcases E0.out with h | ⟨h1, h2⟩; exact .inl h; exact .inr ⟨h1, rfl, h2⟩), rfl⟩
  case round =>
    obtain ⟨k, u, hk, rfl, rfl, st, rfl⟩ := hrel
    by_cases hlt : k < ts.length
    · have e0 : decide ((k : Int) < (ts.length : Int)) = true := by rw [decide_eq_true_iff]; omega
      rcases st.out with ⟨s1, s2⟩ | ⟨rfl, s2, s3⟩
      · have t1 : (u == 0) = false := by rw [beq_eq_false_iff_ne]; omega
        have E := Lib.hid s1
        clear s1 s2
        go_wp2_with fail
        go_ret
        exact ⟨Bo.ret_int E.out, Q1.out.below⟩
      · obtain ⟨t, ht⟩ : ∃ t, ts[k] = t := ⟨_, rfl⟩
        have hc : V.cell? ⟨B, k, none⟩ = some (.int .i64 t) := by rw [RV.out.cell k, List.getElem?_map, List.getElem?_eq_getElem hlt, ht]; rfl
        have TK : Hid (ts.take (k + 1) = ts.take k ++ [t]) := Lib.hid (by rw [← ht]; exact (List.take_append_getElem hlt).symm)
        have TM : t ∈ ts := by rw [← ht]; exact List.getElem_mem hlt
        have wk : IntKind.i64.wrap ((k : Int) + 1) = (k : Int) + 1 := by have := LN.out; rw [IntKind.wrap_i64]; omega
        have NOF : ¬ Pl.vt t → r = 14 := fun tv => by
          have : ts.all (fun t => decide (Pl.vt t)) = false := by
            rw [List.all_eq_false]
            exact ⟨t, TM, by simpa using tv⟩
          rw [this] at s3
          exact s3
        clear ht
        by_cases a : t < 0
        · have t1 : decide (t < 0) = true := decide_eq_true a
          have E := Lib.hid (NOF (fun z => by have := z.1; omega))
          clear a NOF TM s2 s3 st
          go_wp2_with fail
          go_roundw
          case rel => exact ⟨k + 1, 14, by omega, by first | rfl | go_num, rfl, Lib.hid (.inl ⟨E.out.symm, by rw [E.out]; omega⟩), by first | rfl | trivial⟩
          case measure => simp [intOf]; omega
        · have t1 : decide (t < 0) = false := decide_eq_false a
          by_cases b : 253402300799 < t
          · have t2 : decide (253402300799 < t) = true := decide_eq_true b
            have E := Lib.hid (NOF (fun z => by have := z.2; omega))
            clear a b NOF TM s2 s3 st
            go_wp2_with fail
            go_roundw
            case rel => exact ⟨k + 1, 14, by omega, by first | rfl | go_num, rfl, Lib.hid (.inl ⟨E.out.symm, by rw [E.out]; omega⟩), by first | rfl | trivial⟩
            case measure => simp [intOf]; omega
          · have t2 : decide (253402300799 < t) = false := decide_eq_false b
            have S : Hid ((ts.take (k + 1)).all (fun t => decide (Pl.vt t)) = true ∧ (r = if ts.all (fun t => decide (Pl.vt t)) = true then 0 else 14)) := Lib.hid ⟨by rw [TK.out, List.all_append, s2]; simp [show Pl.vt t from ⟨by omega, by omega⟩], s3⟩
            clear a b NOF TM s2 s3 st
            go_wp2_with fail
            go_roundw
            case rel => exact ⟨k + 1, 0, by omega, by first | rfl | go_num, rfl, Lib.hid (.inr ⟨rfl, S.out.1, S.out.2⟩), by first | rfl | trivial⟩
            case measure => simp [intOf]; omega
    · have e0 : decide ((k : Int) < (ts.length : Int)) = false := by rw [decide_eq_false_iff_not]; omega
      have E : Hid (u = r) := Lib.hid (by
        rcases st.out with ⟨s1, _⟩ | ⟨s1, s2, s3⟩
        · exact s1
        · rw [List.take_of_length_le (by omega)] at s2
          rw [s2] at s3
          rw [s1, s3]
          rfl)
      obtain rfl : k = ts.length := by omega
      clear hlt hk st
      go_wp2_with fail
      go_ret
      exact ⟨Bo.ret_int E.out, Q1.out.below⟩

set_option maxRecDepth 100000 in
set_option maxHeartbeats 8000000 in
theorem rpis_any (q : Pl.P) (hx : q.x.Bd) (v : Value) (t : Int) (b : Bool) (r : Int) (hr : Pl.IsR q t b r) (w : World) (L : LayM w) (h : Bo.RowS w v q.l) :
    Calls Tryz.prog 16 #[.agg #[.int .i64 q.k, .int .u64 q.x.a0, .int .u64 q.x.a1, .int .u64 q.x.a2, .int .u64 q.x.a3, .int .u64 q.x.a4, .int .u64 q.x.a5, .bool q.x.b3, .bool q.x.b5, .int .i64 q.z, .int .i64 q.s, .int .i64 q.p, .int .i64 q.c, v], .int .i64 t] w fun e w' => e = .returned (.tuple #[.bool b, .int .i64 r]) ∧ Below w.heap.size w w' := by
  obtain ⟨q1, q2⟩ := isR_one q v t w L h
  have Q := Lib.hid q1
  have RW := Lib.hid q2
  obtain ⟨h1, h2⟩ := hr
  have CK := Lib.hid (fun W L h R => rpcheck_any q hx v (w.heap.size + 1) [t] (by simp) r h1.symm W L h R)
  by_cases z : r = 0
  · subst z
    obtain ⟨ok, ht0⟩ := Pl.P.errT_zero.1 h1.symm
    have ht := ht0 t (by simp)
    obtain ⟨o, ho⟩ : ∃ o, Pl.beh q.l t = o := ⟨_, rfl⟩
    have BH := Lib.hid (fun W h => behind_any v q.l t o ho W h)
    have bo : decide (o < 0) = decide (¬ Bk.has q.l t) := by rw [decide_eq_decide, ← ho]; exact Pl.beh_neg ht.1
    obtain ⟨isT, hT⟩ : ∃ isT : Bool, isT = true ↔ q.T t := by
      by_cases k : q.T t
      · exact ⟨true, by simp [k]⟩
      · exact ⟨false, by simp [k]⟩
    have BT : Hid (isT = true → decide (o < 0) = b) := Lib.hid fun k => by
      rw [bo]
      cases b with
      | true => exact decide_eq_true (h2.1 rfl).2.2
      | false => exact decide_eq_false fun y => by cases h2.2 ⟨rfl, hT.1 k, y⟩
    have BF : Hid (isT = false → b = false) := Lib.hid fun k => r_no h2 (fun y => by rw [hT.2 y.2.1] at k; cases k)
    rcases ok.kinds with hk | hk | hk
    · obtain ⟨k1, k1'⟩ := neq_t (show q.k ≠ 1 by omega)
      obtain ⟨k2, k2'⟩ := neq_t (show q.k ≠ 2 by omega)
      have NO := Lib.hid (BF.out (by
        cases isT with
        | false => rfl
        | true => have := hT.1 rfl; rw [Pl.P.T_0 hk] at this; exact this.elim))
      clear hx L h h1 h2 ok ht ht0 q1 q2 hk ho bo hT BT BF BH
      go_enter Tryz.func16, Tryz.ntmps16
      go_wp2_with fail
      refine (CK.out _ Q.out.lay Q.out.sp RW.out).mono ?_
      rintro e w1 ⟨rfl, hb1⟩
      have Q1 := Lib.hid (Q.out.next hb1)
      obtain ⟨c0, c1, c2, c3, c4, c5, c6, c7, c8, c9, c10, c11, c12, c13⟩ := Q1.out.cells
      clear hb1
      go_wp2_with fail
      go_ret2
      exact ⟨by rw [NO.out]; rfl, Q1.out.below⟩
    · obtain ⟨k1, k1'⟩ := neq_f (show q.k = 1 from hk)
      obtain ⟨k2, k2'⟩ := neq_t (show q.k ≠ 2 by omega)
      obtain ⟨he, hv⟩ := Pl.has_cron ok hk ht
      have EI : isO q.x q.z t = isT := by rw [Bool.eq_iff_iff, hv, hT]
      have KC := Lib.hid (fun W (L : LayM W) => (show Calls Tryz.prog 38 #[.agg #[.int .u64 q.x.a0, .int .u64 q.x.a1, .int .u64 q.x.a2, .int .u64 q.x.a3, .int .u64 q.x.a4, .int .u64 q.x.a5, .bool q.x.b3, .bool q.x.b5], .int .i64 q.z, .int .i64 t] W fun e' W' => e' = .returned (.tuple #[.bool isT, .int .i64 0]) ∧ Below W.heap.size W W' from by rw [← EI, ← he]; exact ris_any q.x hx q.z t W L))
      clear hx L h h1 h2 ok ht ht0 q1 q2 hk ho bo hT he hv EI
      cases isT with
      | true =>
        have BO := BT.out rfl
        clear BT BF
        go_enter Tryz.func16, Tryz.ntmps16
        go_wp2_with fail
        refine (CK.out _ Q.out.lay Q.out.sp RW.out).mono ?_
        rintro e w1 ⟨rfl, hb1⟩
        have Q1 := Lib.hid (Q.out.next hb1)
        obtain ⟨c0, c1, c2, c3, c4, c5, c6, c7, c8, c9, c10, c11, c12, c13⟩ := Q1.out.cells
        clear hb1
        go_wp2_with fail
        refine (KC.out _ Q1.out.lay).mono ?_
        rintro e w2 ⟨rfl, hb2⟩
        have Q2 := Lib.hid (Q1.out.next hb2)
        clear hb2 c0 c1 c2 c3 c4 c5 c6 c7 c8 c9 c10 c11 c12 c13
        obtain ⟨c0, c1, c2, c3, c4, c5, c6, c7, c8, c9, c10, c11, c12, c13⟩ := Q2.out.cells
        go_wp2_with fail
        refine (BH.out _ Q2.out.sp).mono ?_
        rintro e w3 ⟨rfl, hb3⟩
        have Q3 := Lib.hid (Q2.out.next hb3)
        clear hb3
        go_wp2_with fail
        go_ret2
        exact ⟨by first | rfl | rw [BO], Q3.out.below⟩
      | false =>
        have NO := Lib.hid (BF.out rfl)
        clear BT BF
        go_enter Tryz.func16, Tryz.ntmps16
        go_wp2_with fail
        refine (CK.out _ Q.out.lay Q.out.sp RW.out).mono ?_
        rintro e w1 ⟨rfl, hb1⟩
        have Q1 := Lib.hid (Q.out.next hb1)
        obtain ⟨c0, c1, c2, c3, c4, c5, c6, c7, c8, c9, c10, c11, c12, c13⟩ := Q1.out.cells
        clear hb1
        go_wp2_with fail
        refine (KC.out _ Q1.out.lay).mono ?_
        rintro e w2 ⟨rfl, hb2⟩
        have Q2 := Lib.hid (Q1.out.next hb2)
        clear hb2 c0 c1 c2 c3 c4 c5 c6 c7 c8 c9 c10 c11 c12 c13
        obtain ⟨c0, c1, c2, c3, c4, c5, c6, c7, c8, c9, c10, c11, c12, c13⟩ := Q2.out.cells
        go_wp2_with fail
        go_ret2
        exact ⟨by rw [NO.out]; rfl, Q2.out.below⟩
    · obtain ⟨k1, k1'⟩ := neq_t (show q.k ≠ 1 by omega)
      obtain ⟨k2, k2'⟩ := neq_f (show q.k = 2 from hk)
      obtain ⟨b', hv, hb'⟩ := Pl.has_ever ok hk ht
      obtain rfl : b' = isT := by rw [Bool.eq_iff_iff, hb', hT]
      have KC := Lib.hid (fun W (_ : LayM W) => En.ris_any q.s q.p q.c t b' 0 W hv)
      clear hx L h h1 h2 ok ht ht0 q1 q2 hk ho bo hT hv hb'
      cases b' with
      | true =>
        have BO := BT.out rfl
        clear BT BF
        go_enter Tryz.func16, Tryz.ntmps16
        go_wp2_with fail
        refine (CK.out _ Q.out.lay Q.out.sp RW.out).mono ?_
        rintro e w1 ⟨rfl, hb1⟩
        have Q1 := Lib.hid (Q.out.next hb1)
        obtain ⟨c0, c1, c2, c3, c4, c5, c6, c7, c8, c9, c10, c11, c12, c13⟩ := Q1.out.cells
        clear hb1
        go_wp2_with fail
        refine (KC.out _ Q1.out.lay).mono ?_
        rintro e w2 ⟨rfl, hb2⟩
        have Q2 := Lib.hid (Q1.out.next hb2)
        clear hb2 c0 c1 c2 c3 c4 c5 c6 c7 c8 c9 c10 c11 c12 c13
        obtain ⟨c0, c1, c2, c3, c4, c5, c6, c7, c8, c9, c10, c11, c12, c13⟩ := Q2.out.cells
        go_wp2_with fail
        refine (BH.out _ Q2.out.sp).mono ?_
        rintro e w3 ⟨rfl, hb3⟩
        have Q3 := Lib.hid (Q2.out.next hb3)
        clear hb3
        go_wp2_with fail
        go_ret2
        exact ⟨by first | rfl | rw [BO], Q3.out.below⟩
      | false =>
        have NO := Lib.hid (BF.out rfl)
        clear BT BF
        go_enter Tryz.func16, Tryz.ntmps16
        go_wp2_with fail
        refine (CK.out _ Q.out.lay Q.out.sp RW.out).mono ?_
        rintro e w1 ⟨rfl, hb1⟩
        have Q1 := Lib.hid (Q.out.next hb1)
        obtain ⟨c0, c1, c2, c3, c4, c5, c6, c7, c8, c9, c10, c11, c12, c13⟩ := Q1.out.cells
        clear hb1
        go_wp2_with fail
        refine (KC.out _ Q1.out.lay).mono ?_
        rintro e w2 ⟨rfl, hb2⟩
        have Q2 := Lib.hid (Q1.out.next hb2)
        clear hb2 c0 c1 c2 c3 c4 c5 c6 c7 c8 c9 c10 c11 c12 c13
        obtain ⟨c0, c1, c2, c3, c4, c5, c6, c7, c8, c9, c10, c11, c12, c13⟩ := Q2.out.cells
        go_wp2_with fail
        go_ret2
        exact ⟨by rw [NO.out]; rfl, Q2.out.below⟩
  · have d1 : (r != 0) = true := by simpa using z
    obtain rfl : b = false := r_no h2 (fun k => z k.1)
    clear hx L h h1 h2 z q1 q2
    go_enter Tryz.func16, Tryz.ntmps16
    go_wp2_with fail
    refine (CK.out _ Q.out.lay Q.out.sp RW.out).mono ?_
    rintro e w1 ⟨rfl, hb1⟩
    have Q1 := Lib.hid (Q.out.next hb1)
    clear hb1
    go_wp2_with fail
    go_ret2
    exact ⟨rfl, Q1.out.below⟩

set_option maxRecDepth 100000 in
set_option maxHeartbeats 16000000 in
theorem rpnext_any (q : Pl.P) (ok : q.Ok) (hx : q.x.Bd) (v : Value) (t0 : Int) (h0 : -1 ≤ t0) (h1 : t0 ≤ 253402300799) (r : Option Int) (hr : Mat.Least q.K (t0 + 1) 253402300799 r) (w : World) (L : LayM w) (h : Bo.RowS w v q.l) :
    Calls Tryz.prog 42 #[.agg #[.int .i64 q.k, .int .u64 q.x.a0, .int .u64 q.x.a1, .int .u64 q.x.a2, .int .u64 q.x.a3, .int .u64 q.x.a4, .int .u64 q.x.a5, .bool q.x.b3, .bool q.x.b5, .int .i64 q.z, .int .i64 q.s, .int .i64 q.p, .int .i64 q.c, v], .int .i64 t0] w fun e w' => e = .returned (.tuple #[.int .i64 (r.getD 0), .bool r.isSome]) ∧ Below w.heap.size w w' := by
  have Q := Lib.hid (PB.start L h)
  have HR := Lib.hid hr
  have T0 := Lib.hid (And.intro h0 h1)
  have okS := Lib.hid ok.few.2
  have ISZ := Lib.hid (fun b (hb : b = true ↔ q.K 0) W L h => rpis_any q hx v 0 b 0 ⟨(show q.errT [0] = 0 from Pl.P.errT_zero.2 ⟨ok, fun u hu => by obtain rfl : u = 0 := (by simpa using hu); exact ⟨by omega, by omega⟩⟩).symm, hb.trans (by simp)⟩ W L h)
  have BH := Lib.hid (fun n o ho W h => behind_any v q.l n o ho W h)
  rcases ok.kinds with hk | hk | hk
  · have kf1 := neq_t (show q.k ≠ 1 by omega)
    obtain ⟨k1, k1'⟩ := kf1
    have kf2 := neq_t (show q.k ≠ 2 by omega)
    obtain ⟨k2, k2'⟩ := kf2
    have TN := Lib.hid (show ∀ t, ¬ q.T t from fun t => by rw [Pl.P.T_0 hk]; exact fun z => z)
    clear hk ok hx L h h0 h1 hr
    go_enter Tryz.func42, Tryz.ntmps42
    go_wp2_with fail
    go_loopw [1] (fun tv wr => ∃ tt : Int, tv = .int .i64 tt ∧ Hid (t0 ≤ tt ∧ tt ≤ 253402300799) ∧ Hid (∀ y, t0 < y → y ≤ tt → ¬ q.K y) ∧ Hid (PB w w.heap.size q v wr)) (fun tv _ => (253402300800 - intOf tv).toNat)
    case atStart => exact ⟨t0, rfl, Lib.hid ⟨Int.le_refl _, T0.out.2⟩, Lib.hid (fun y y1 y2 => by omega), Q⟩
    case round =>
      obtain ⟨tt, rfl, tb, no, QK⟩ := hrel
      obtain ⟨c0, c1, c2, c3, c4, c5, c6, c7, c8, c9, c10, c11, c12, c13⟩ := QK.out.cells
      by_cases neg : tt < 0
      · have e1 : decide (tt < 0) = true := decide_eq_true neg
        obtain ⟨b, hb⟩ : ∃ b : Bool, b = true ↔ q.K 0 := by
          by_cases k : q.K 0
          · exact ⟨true, by simp [k]⟩
          · exact ⟨false, by simp [k]⟩
        have IZ := Lib.hid (fun W L h => ISZ.out b hb W L h)
        have NG := Lib.hid neg
        have HB := Lib.hid hb
        clear neg hb
        cases b with
        | true =>
          have E : Hid (r = some 0) := Lib.hid (HR.out.uniq ⟨by have := tb.out; have := NG.out; omega, by omega, HB.out.1 (by first | rfl | trivial), fun y y1 y2 => by have := tb.out; have := NG.out; have := T0.out; omega⟩)
          go_wp2_with fail
          refine (IZ.out _ QK.out.lay QK.out.sp).mono ?_
          rintro e W8 ⟨rfl, hb8⟩
          have Q8 := Lib.hid (QK.out.next hb8)
          clear hb8
          go_wp2_with fail
          go_ret2
          exact ⟨by rw [E.out]; rfl, Q8.out.below⟩
        | false =>
          have NO2 : Hid (∀ y, t0 < y → y ≤ 0 → ¬ q.K y) := Lib.hid (fun y y1 y2 z => by
            by_cases e : y = 0
            · subst e; have := HB.out.2 z; simp at this
            · have := T0.out; omega)
          have TB2 : Hid (t0 ≤ 0 ∧ (0 : Int) ≤ 253402300799) := Lib.hid ⟨by have := tb.out; have := NG.out; omega, by omega⟩
          go_wp2_with fail
          refine (IZ.out _ QK.out.lay QK.out.sp).mono ?_
          rintro e W8 ⟨rfl, hb8⟩
          have Q8 := Lib.hid (QK.out.next hb8)
          clear hb8 c0 c1 c2 c3 c4 c5 c6 c7 c8 c9 c10 c11 c12 c13
          obtain ⟨c0, c1, c2, c3, c4, c5, c6, c7, c8, c9, c10, c11, c12, c13⟩ := Q8.out.cells
          have E : Hid (r = none) := Lib.hid (HR.out.uniq (fun y _ _ z => TN.out y z.1))
          go_wp2_with fail
          go_ret2
          exact ⟨by rw [E.out]; rfl, Q8.out.below⟩
      · have e1 : decide (tt < 0) = false := decide_eq_false neg
        have NG := Lib.hid neg
        clear neg
        have E : Hid (r = none) := Lib.hid (HR.out.uniq (fun y _ _ z => TN.out y z.1))
        go_wp2_with fail
        go_ret2
        exact ⟨by rw [E.out]; rfl, QK.out.below⟩
  · have kf1 := neq_f (show q.k = 1 from hk)
    obtain ⟨k1, k1'⟩ := kf1
    have kf2 := neq_t (show q.k ≠ 2 by omega)
    obtain ⟨k2, k2'⟩ := kf2
    have KC := Lib.hid (fun tt (vt : Pl.vt tt) o (ho : Mat.Least q.T (tt + 1) 253402300799 o) W (L : LayM W) => (show Calls Tryz.prog 62 #[.agg #[.int .u64 q.x.a0, .int .u64 q.x.a1, .int .u64 q.x.a2, .int .u64 q.x.a3, .int .u64 q.x.a4, .int .u64 q.x.a5, .bool q.x.b3, .bool q.x.b5], .int .i64 q.z, .int .i64 tt] W fun e' W' => e' = .returned (.tuple #[.int .i64 (o.getD 0), .bool o.isSome, .int .i64 0]) ∧ Below W.heap.size W W' from by obtain ⟨he, hv⟩ := Pl.next_cron ok hk vt; obtain rfl := ho.uniq hv; have := rnext_any q.x hx q.z tt W L; rwa [he] at this))
    clear hk ok hx L h h0 h1 hr
    go_enter Tryz.func42, Tryz.ntmps42
    go_wp2_with fail
    go_loopw [1] (fun tv wr => ∃ tt : Int, tv = .int .i64 tt ∧ Hid (t0 ≤ tt ∧ tt ≤ 253402300799) ∧ Hid (∀ y, t0 < y → y ≤ tt → ¬ q.K y) ∧ Hid (PB w w.heap.size q v wr)) (fun tv _ => (253402300800 - intOf tv).toNat)
    case atStart => exact ⟨t0, rfl, Lib.hid ⟨Int.le_refl _, T0.out.2⟩, Lib.hid (fun y y1 y2 => by omega), Q⟩
    case round =>
      obtain ⟨tt, rfl, tb, no, QK⟩ := hrel
      obtain ⟨c0, c1, c2, c3, c4, c5, c6, c7, c8, c9, c10, c11, c12, c13⟩ := QK.out.cells
      by_cases neg : tt < 0
      · have e1 : decide (tt < 0) = true := decide_eq_true neg
        obtain ⟨b, hb⟩ : ∃ b : Bool, b = true ↔ q.K 0 := by
          by_cases k : q.K 0
          · exact ⟨true, by simp [k]⟩
          · exact ⟨false, by simp [k]⟩
        have IZ := Lib.hid (fun W L h => ISZ.out b hb W L h)
        have NG := Lib.hid neg
        have HB := Lib.hid hb
        clear neg hb
        cases b with
        | true =>
          have E : Hid (r = some 0) := Lib.hid (HR.out.uniq ⟨by have := tb.out; have := NG.out; omega, by omega, HB.out.1 (by first | rfl | trivial), fun y y1 y2 => by have := tb.out; have := NG.out; have := T0.out; omega⟩)
          go_wp2_with fail
          refine (IZ.out _ QK.out.lay QK.out.sp).mono ?_
          rintro e W8 ⟨rfl, hb8⟩
          have Q8 := Lib.hid (QK.out.next hb8)
          clear hb8
          go_wp2_with fail
          go_ret2
          exact ⟨by rw [E.out]; rfl, Q8.out.below⟩
        | false =>
          have NO2 : Hid (∀ y, t0 < y → y ≤ 0 → ¬ q.K y) := Lib.hid (fun y y1 y2 z => by
            by_cases e : y = 0
            · subst e; have := HB.out.2 z; simp at this
            · have := T0.out; omega)
          have TB2 : Hid (t0 ≤ 0 ∧ (0 : Int) ≤ 253402300799) := Lib.hid ⟨by have := tb.out; have := NG.out; omega, by omega⟩
          go_wp2_with fail
          refine (IZ.out _ QK.out.lay QK.out.sp).mono ?_
          rintro e W8 ⟨rfl, hb8⟩
          have Q8 := Lib.hid (QK.out.next hb8)
          clear hb8 c0 c1 c2 c3 c4 c5 c6 c7 c8 c9 c10 c11 c12 c13
          obtain ⟨c0, c1, c2, c3, c4, c5, c6, c7, c8, c9, c10, c11, c12, c13⟩ := Q8.out.cells
          obtain ⟨oo, hoo⟩ := Mat.least_ex q.T (0 + 1) 253402300799
          have C := Lib.hid (fun W L => KC.out (0) (show Pl.vt (0) from ⟨(by omega), TB2.out.2⟩) oo hoo W L)
          have HO := Lib.hid hoo
          clear hoo
          cases oo with
          | none =>
            have E : Hid (r = none) := Lib.hid (HR.out.uniq (Pl.next_none NO2.out HO.out))
            go_wp2_with fail
            refine (C.out _ Q8.out.lay).mono ?_
            rintro e W9 ⟨rfl, hb9⟩
            have Q9 := Lib.hid (Q8.out.next hb9)
            clear hb9 c0 c1 c2 c3 c4 c5 c6 c7 c8 c9 c10 c11 c12 c13
            obtain ⟨c0, c1, c2, c3, c4, c5, c6, c7, c8, c9, c10, c11, c12, c13⟩ := Q9.out.cells
            go_wp2_with fail
            go_ret2
            exact ⟨by rw [E.out]; rfl, Q9.out.below⟩
          | some n =>
            obtain ⟨o, ho⟩ : ∃ o, Pl.beh q.l n = o := ⟨_, rfl⟩
            have BHC := Lib.hid (fun W h => BH.out n o ho W h)
            have n0 : 0 ≤ n := by have := HO.out.1; have : 0 ≤ 0 := (by omega); omega
            by_cases skip : Bk.has q.l n
            · obtain ⟨b1, ⟨x, hx1, hx2⟩, b3⟩ := Pl.beh_yes n0 skip
              rw [ho] at b1 hx2 b3
              have d1 : decide (o < 0) = false := by rw [decide_eq_false_iff_not]; omega
              have ox : o ≤ 253402300799 := by rw [hx2]; exact (okS.out x hx1).2.1.2
              have NS := Lib.hid (Pl.next_skip NO2.out HO.out b3)
              have TS : Hid (t0 ≤ o ∧ o ≤ 253402300799) := Lib.hid ⟨by have := HO.out.1; have := TB2.out.1; omega, ox⟩
              have MS : Hid (0 < o) := Lib.hid (by have := HO.out.1; omega)
              clear b1 hx1 hx2 b3 ox skip n0 ho
              go_wp2_with fail
              refine (C.out _ Q8.out.lay).mono ?_
              rintro e W9 ⟨rfl, hb9⟩
              have Q9 := Lib.hid (Q8.out.next hb9)
              clear hb9 c0 c1 c2 c3 c4 c5 c6 c7 c8 c9 c10 c11 c12 c13
              obtain ⟨c0, c1, c2, c3, c4, c5, c6, c7, c8, c9, c10, c11, c12, c13⟩ := Q9.out.cells
              go_wp2_with fail
              refine (BHC.out _ Q9.out.sp).mono ?_
              rintro e W10 ⟨rfl, hb10⟩
              have Q10 := Lib.hid (Q9.out.next hb10)
              clear hb10
              go_wp2_with fail
              go_roundw
              case rel => exact ⟨o, by first | rfl | go_num, TS, NS, Q10⟩
              case measure => simp [intOf] <;> (have := MS.out; have := TS.out; have := NG.out; omega)
            · have d1 : decide (o < 0) = true := by rw [decide_eq_true_iff, ← ho]; exact (Pl.beh_neg n0).2 skip
              have E : Hid (r = some n) := Lib.hid (HR.out.uniq (Pl.next_hit TB2.out.1 NO2.out HO.out skip))
              clear skip n0 ho
              go_wp2_with fail
              refine (C.out _ Q8.out.lay).mono ?_
              rintro e W9 ⟨rfl, hb9⟩
              have Q9 := Lib.hid (Q8.out.next hb9)
              clear hb9 c0 c1 c2 c3 c4 c5 c6 c7 c8 c9 c10 c11 c12 c13
              obtain ⟨c0, c1, c2, c3, c4, c5, c6, c7, c8, c9, c10, c11, c12, c13⟩ := Q9.out.cells
              go_wp2_with fail
              refine (BHC.out _ Q9.out.sp).mono ?_
              rintro e W10 ⟨rfl, hb10⟩
              have Q10 := Lib.hid (Q9.out.next hb10)
              clear hb10
              go_wp2_with fail
              go_ret2
              exact ⟨by rw [E.out]; rfl, Q10.out.below⟩
      · have e1 : decide (tt < 0) = false := decide_eq_false neg
        have NG := Lib.hid neg
        clear neg
        obtain ⟨oo, hoo⟩ := Mat.least_ex q.T (tt + 1) 253402300799
        have C := Lib.hid (fun W L => KC.out (tt) (show Pl.vt (tt) from ⟨Int.not_lt.1 NG.out, tb.out.2⟩) oo hoo W L)
        have HO := Lib.hid hoo
        clear hoo
        cases oo with
        | none =>
          have E : Hid (r = none) := Lib.hid (HR.out.uniq (Pl.next_none no.out HO.out))
          go_wp2_with fail
          refine (C.out _ QK.out.lay).mono ?_
          rintro e W9 ⟨rfl, hb9⟩
          have Q9 := Lib.hid (QK.out.next hb9)
          clear hb9 c0 c1 c2 c3 c4 c5 c6 c7 c8 c9 c10 c11 c12 c13
          obtain ⟨c0, c1, c2, c3, c4, c5, c6, c7, c8, c9, c10, c11, c12, c13⟩ := Q9.out.cells
          go_wp2_with fail
          go_ret2
          exact ⟨by rw [E.out]; rfl, Q9.out.below⟩
        | some n =>
          obtain ⟨o, ho⟩ : ∃ o, Pl.beh q.l n = o := ⟨_, rfl⟩
          have BHC := Lib.hid (fun W h => BH.out n o ho W h)
          have n0 : 0 ≤ n := by have := HO.out.1; have : 0 ≤ tt := Int.not_lt.1 NG.out; omega
          by_cases skip : Bk.has q.l n
          · obtain ⟨b1, ⟨x, hx1, hx2⟩, b3⟩ := Pl.beh_yes n0 skip
            rw [ho] at b1 hx2 b3
            have d1 : decide (o < 0) = false := by rw [decide_eq_false_iff_not]; omega
            have ox : o ≤ 253402300799 := by rw [hx2]; exact (okS.out x hx1).2.1.2
            have NS := Lib.hid (Pl.next_skip no.out HO.out b3)
            have TS : Hid (t0 ≤ o ∧ o ≤ 253402300799) := Lib.hid ⟨by have := HO.out.1; have := tb.out.1; omega, ox⟩
            have MS : Hid (tt < o) := Lib.hid (by have := HO.out.1; omega)
            clear b1 hx1 hx2 b3 ox skip n0 ho
            go_wp2_with fail
            refine (C.out _ QK.out.lay).mono ?_
            rintro e W9 ⟨rfl, hb9⟩
            have Q9 := Lib.hid (QK.out.next hb9)
            clear hb9 c0 c1 c2 c3 c4 c5 c6 c7 c8 c9 c10 c11 c12 c13
            obtain ⟨c0, c1, c2, c3, c4, c5, c6, c7, c8, c9, c10, c11, c12, c13⟩ := Q9.out.cells
            go_wp2_with fail
            refine (BHC.out _ Q9.out.sp).mono ?_
            rintro e W10 ⟨rfl, hb10⟩
            have Q10 := Lib.hid (Q9.out.next hb10)
            clear hb10
            go_wp2_with fail
            go_roundw
            case rel => exact ⟨o, by first | rfl | go_num, TS, NS, Q10⟩
            case measure => simp [intOf] <;> (have := MS.out; have := TS.out; have := NG.out; omega)
          · have d1 : decide (o < 0) = true := by rw [decide_eq_true_iff, ← ho]; exact (Pl.beh_neg n0).2 skip
            have E : Hid (r = some n) := Lib.hid (HR.out.uniq (Pl.next_hit tb.out.1 no.out HO.out skip))
            clear skip n0 ho
            go_wp2_with fail
            refine (C.out _ QK.out.lay).mono ?_
            rintro e W9 ⟨rfl, hb9⟩
            have Q9 := Lib.hid (QK.out.next hb9)
            clear hb9 c0 c1 c2 c3 c4 c5 c6 c7 c8 c9 c10 c11 c12 c13
            obtain ⟨c0, c1, c2, c3, c4, c5, c6, c7, c8, c9, c10, c11, c12, c13⟩ := Q9.out.cells
            go_wp2_with fail
            refine (BHC.out _ Q9.out.sp).mono ?_
            rintro e W10 ⟨rfl, hb10⟩
            have Q10 := Lib.hid (Q9.out.next hb10)
            clear hb10
            go_wp2_with fail
            go_ret2
            exact ⟨by rw [E.out]; rfl, Q10.out.below⟩
  · have kf1 := neq_t (show q.k ≠ 1 by omega)
    obtain ⟨k1, k1'⟩ := kf1
    have kf2 := neq_f (show q.k = 2 from hk)
    obtain ⟨k2, k2'⟩ := kf2
    have KC := Lib.hid (fun tt (vt : Pl.vt tt) o (ho : Mat.Least q.T (tt + 1) 253402300799 o) W (_ : LayM W) => (show Calls Tryz.prog 63 #[.agg #[.int .i64 q.s, .int .i64 q.p, .int .i64 q.c], .int .i64 tt] W fun e' W' => e' = .returned (.tuple #[.int .i64 (o.getD 0), .bool o.isSome, .int .i64 0]) ∧ Below W.heap.size W W' from by obtain ⟨y, p, o', hn, hv, rfl, rfl⟩ := Pl.next_ever ok hk vt; obtain rfl := ho.uniq hv; exact En.rnext_any q.s q.p q.c tt _ _ 0 W hn))
    clear hk ok hx L h h0 h1 hr
    go_enter Tryz.func42, Tryz.ntmps42
    go_wp2_with fail
    go_loopw [1] (fun tv wr => ∃ tt : Int, tv = .int .i64 tt ∧ Hid (t0 ≤ tt ∧ tt ≤ 253402300799) ∧ Hid (∀ y, t0 < y → y ≤ tt → ¬ q.K y) ∧ Hid (PB w w.heap.size q v wr)) (fun tv _ => (253402300800 - intOf tv).toNat)
    case atStart => exact ⟨t0, rfl, Lib.hid ⟨Int.le_refl _, T0.out.2⟩, Lib.hid (fun y y1 y2 => by omega), Q⟩
    case round =>
      obtain ⟨tt, rfl, tb, no, QK⟩ := hrel
      obtain ⟨c0, c1, c2, c3, c4, c5, c6, c7, c8, c9, c10, c11, c12, c13⟩ := QK.out.cells
      by_cases neg : tt < 0
      · have e1 : decide (tt < 0) = true := decide_eq_true neg
        obtain ⟨b, hb⟩ : ∃ b : Bool, b = true ↔ q.K 0 := by
          by_cases k : q.K 0
          · exact ⟨true, by simp [k]⟩
          · exact ⟨false, by simp [k]⟩
        have IZ := Lib.hid (fun W L h => ISZ.out b hb W L h)
        have NG := Lib.hid neg
        have HB := Lib.hid hb
        clear neg hb
        cases b with
        | true =>
          have E : Hid (r = some 0) := Lib.hid (HR.out.uniq ⟨by have := tb.out; have := NG.out; omega, by omega, HB.out.1 (by first | rfl | trivial), fun y y1 y2 => by have := tb.out; have := NG.out; have := T0.out; omega⟩)
          go_wp2_with fail
          refine (IZ.out _ QK.out.lay QK.out.sp).mono ?_
          rintro e W8 ⟨rfl, hb8⟩
          have Q8 := Lib.hid (QK.out.next hb8)
          clear hb8
          go_wp2_with fail
          go_ret2
          exact ⟨by rw [E.out]; rfl, Q8.out.below⟩
        | false =>
          have NO2 : Hid (∀ y, t0 < y → y ≤ 0 → ¬ q.K y) := Lib.hid (fun y y1 y2 z => by
            by_cases e : y = 0
            · subst e; have := HB.out.2 z; simp at this
            · have := T0.out; omega)
          have TB2 : Hid (t0 ≤ 0 ∧ (0 : Int) ≤ 253402300799) := Lib.hid ⟨by have := tb.out; have := NG.out; omega, by omega⟩
          go_wp2_with fail
          refine (IZ.out _ QK.out.lay QK.out.sp).mono ?_
          rintro e W8 ⟨rfl, hb8⟩
          have Q8 := Lib.hid (QK.out.next hb8)
          clear hb8 c0 c1 c2 c3 c4 c5 c6 c7 c8 c9 c10 c11 c12 c13
          obtain ⟨c0, c1, c2, c3, c4, c5, c6, c7, c8, c9, c10, c11, c12, c13⟩ := Q8.out.cells
          obtain ⟨oo, hoo⟩ := Mat.least_ex q.T (0 + 1) 253402300799
          have C := Lib.hid (fun W L => KC.out (0) (show Pl.vt (0) from ⟨(by omega), TB2.out.2⟩) oo hoo W L)
          have HO := Lib.hid hoo
          clear hoo
          cases oo with
          | none =>
            have E : Hid (r = none) := Lib.hid (HR.out.uniq (Pl.next_none NO2.out HO.out))
            go_wp2_with fail
            refine (C.out _ Q8.out.lay).mono ?_
            rintro e W9 ⟨rfl, hb9⟩
            have Q9 := Lib.hid (Q8.out.next hb9)
            clear hb9 c0 c1 c2 c3 c4 c5 c6 c7 c8 c9 c10 c11 c12 c13
            obtain ⟨c0, c1, c2, c3, c4, c5, c6, c7, c8, c9, c10, c11, c12, c13⟩ := Q9.out.cells
            go_wp2_with fail
            go_ret2
            exact ⟨by rw [E.out]; rfl, Q9.out.below⟩
          | some n =>
            obtain ⟨o, ho⟩ : ∃ o, Pl.beh q.l n = o := ⟨_, rfl⟩
            have BHC := Lib.hid (fun W h => BH.out n o ho W h)
            have n0 : 0 ≤ n := by have := HO.out.1; have : 0 ≤ 0 := (by omega); omega
            by_cases skip : Bk.has q.l n
            · obtain ⟨b1, ⟨x, hx1, hx2⟩, b3⟩ := Pl.beh_yes n0 skip
              rw [ho] at b1 hx2 b3
              have d1 : decide (o < 0) = false := by rw [decide_eq_false_iff_not]; omega
              have ox : o ≤ 253402300799 := by rw [hx2]; exact (okS.out x hx1).2.1.2
              have NS := Lib.hid (Pl.next_skip NO2.out HO.out b3)
              have TS : Hid (t0 ≤ o ∧ o ≤ 253402300799) := Lib.hid ⟨by have := HO.out.1; have := TB2.out.1; omega, ox⟩
              have MS : Hid (0 < o) := Lib.hid (by have := HO.out.1; omega)
              clear b1 hx1 hx2 b3 ox skip n0 ho
              go_wp2_with fail
              refine (C.out _ Q8.out.lay).mono ?_
              rintro e W9 ⟨rfl, hb9⟩
              have Q9 := Lib.hid (Q8.out.next hb9)
              clear hb9 c0 c1 c2 c3 c4 c5 c6 c7 c8 c9 c10 c11 c12 c13
              obtain ⟨c0, c1, c2, c3, c4, c5, c6, c7, c8, c9, c10, c11, c12, c13⟩ := Q9.out.cells
              go_wp2_with fail
              refine (BHC.out _ Q9.out.sp).mono ?_
              rintro e W10 ⟨rfl, hb10⟩
              have Q10 := Lib.hid (Q9.out.next hb10)
              clear hb10
              go_wp2_with fail
              go_roundw
              case rel => exact ⟨o, by first | rfl | go_num, TS, NS, Q10⟩
              case measure => simp [intOf] <;> (have := MS.out; have := TS.out; have := NG.out; omega)
            · have d1 : decide (o < 0) = true := by rw [decide_eq_true_iff, ← ho]; exact (Pl.beh_neg n0).2 skip
              have E : Hid (r = some n) := Lib.hid (HR.out.uniq (Pl.next_hit TB2.out.1 NO2.out HO.out skip))
              clear skip n0 ho
              go_wp2_with fail
              refine (C.out _ Q8.out.lay).mono ?_
              rintro e W9 ⟨rfl, hb9⟩
              have Q9 := Lib.hid (Q8.out.next hb9)
              clear hb9 c0 c1 c2 c3 c4 c5 c6 c7 c8 c9 c10 c11 c12 c13
              obtain ⟨c0, c1, c2, c3, c4, c5, c6, c7, c8, c9, c10, c11, c12, c13⟩ := Q9.out.cells
              go_wp2_with fail
              refine (BHC.out _ Q9.out.sp).mono ?_
              rintro e W10 ⟨rfl, hb10⟩
              have Q10 := Lib.hid (Q9.out.next hb10)
              clear hb10
              go_wp2_with fail
              go_ret2
              exact ⟨by rw [E.out]; rfl, Q10.out.below⟩
      · have e1 : decide (tt < 0) = false := decide_eq_false neg
        have NG := Lib.hid neg
        clear neg
        obtain ⟨oo, hoo⟩ := Mat.least_ex q.T (tt + 1) 253402300799
        have C := Lib.hid (fun W L => KC.out (tt) (show Pl.vt (tt) from ⟨Int.not_lt.1 NG.out, tb.out.2⟩) oo hoo W L)
        have HO := Lib.hid hoo
        clear hoo
        cases oo with
        | none =>
          have E : Hid (r = none) := Lib.hid (HR.out.uniq (Pl.next_none no.out HO.out))
          go_wp2_with fail
          refine (C.out _ QK.out.lay).mono ?_
          rintro e W9 ⟨rfl, hb9⟩
          have Q9 := Lib.hid (QK.out.next hb9)
          clear hb9 c0 c1 c2 c3 c4 c5 c6 c7 c8 c9 c10 c11 c12 c13
          obtain ⟨c0, c1, c2, c3, c4, c5, c6, c7, c8, c9, c10, c11, c12, c13⟩ := Q9.out.cells
          go_wp2_with fail
          go_ret2
          exact ⟨by rw [E.out]; rfl, Q9.out.below⟩
        | some n =>
          obtain ⟨o, ho⟩ : ∃ o, Pl.beh q.l n = o := ⟨_, rfl⟩
          have BHC := Lib.hid (fun W h => BH.out n o ho W h)
          have n0 : 0 ≤ n := by have := HO.out.1; have : 0 ≤ tt := Int.not_lt.1 NG.out; omega
          by_cases skip : Bk.has q.l n
          · obtain ⟨b1, ⟨x, hx1, hx2⟩, b3⟩ := Pl.beh_yes n0 skip
            rw [ho] at b1 hx2 b3
            have d1 : decide (o < 0) = false := by rw [decide_eq_false_iff_not]; omega
            have ox : o ≤ 253402300799 := by rw [hx2]; exact (okS.out x hx1).2.1.2
            have NS := Lib.hid (Pl.next_skip no.out HO.out b3)
            have TS : Hid (t0 ≤ o ∧ o ≤ 253402300799) := Lib.hid ⟨by have := HO.out.1; have := tb.out.1; omega, ox⟩
            have MS : Hid (tt < o) := Lib.hid (by have := HO.out.1; omega)
            clear b1 hx1 hx2 b3 ox skip n0 ho
            go_wp2_with fail
            refine (C.out _ QK.out.lay).mono ?_
            rintro e W9 ⟨rfl, hb9⟩
            have Q9 := Lib.hid (QK.out.next hb9)
            clear hb9 c0 c1 c2 c3 c4 c5 c6 c7 c8 c9 c10 c11 c12 c13
            obtain ⟨c0, c1, c2, c3, c4, c5, c6, c7, c8, c9, c10, c11, c12, c13⟩ := Q9.out.cells
            go_wp2_with fail
            refine (BHC.out _ Q9.out.sp).mono ?_
            rintro e W10 ⟨rfl, hb10⟩
            have Q10 := Lib.hid (Q9.out.next hb10)
            clear hb10
            go_wp2_with fail
            go_roundw
            case rel => exact ⟨o, by first | rfl | go_num, TS, NS, Q10⟩
            case measure => simp [intOf] <;> (have := MS.out; have := TS.out; have := NG.out; omega)
          · have d1 : decide (o < 0) = true := by rw [decide_eq_true_iff, ← ho]; exact (Pl.beh_neg n0).2 skip
            have E : Hid (r = some n) := Lib.hid (HR.out.uniq (Pl.next_hit tb.out.1 no.out HO.out skip))
            clear skip n0 ho
            go_wp2_with fail
            refine (C.out _ QK.out.lay).mono ?_
            rintro e W9 ⟨rfl, hb9⟩
            have Q9 := Lib.hid (QK.out.next hb9)
            clear hb9 c0 c1 c2 c3 c4 c5 c6 c7 c8 c9 c10 c11 c12 c13
            obtain ⟨c0, c1, c2, c3, c4, c5, c6, c7, c8, c9, c10, c11, c12, c13⟩ := Q9.out.cells
            go_wp2_with fail
            refine (BHC.out _ Q9.out.sp).mono ?_
            rintro e W10 ⟨rfl, hb10⟩
            have Q10 := Lib.hid (Q9.out.next hb10)
            clear hb10
            go_wp2_with fail
            go_ret2
            exact ⟨by rw [E.out]; rfl, Q10.out.below⟩

set_option maxRecDepth 100000 in
set_option maxHeartbeats 4000000 in
theorem rpNext_any (q : Pl.P) (hx : q.x.Bd) (v : Value) (t y : Int) (p : Bool) (r : Int) (hr : Pl.NextR q t y p r) (w : World) (L : LayM w) (h : Bo.RowS w v q.l) :
    Calls Tryz.prog 18 #[.agg #[.int .i64 q.k, .int .u64 q.x.a0, .int .u64 q.x.a1, .int .u64 q.x.a2, .int .u64 q.x.a3, .int .u64 q.x.a4, .int .u64 q.x.a5, .bool q.x.b3, .bool q.x.b5, .int .i64 q.z, .int .i64 q.s, .int .i64 q.p, .int .i64 q.c, v], .int .i64 t] w fun e w' => e = .returned (.tuple #[.int .i64 y, .bool p, .int .i64 r]) ∧ Below w.heap.size w w' := by
  obtain ⟨q1, q2⟩ := isR_one q v t w L h
  have Q := Lib.hid q1
  have RW := Lib.hid q2
  obtain ⟨h1, h2⟩ := hr
  have CK := Lib.hid (fun W L h R => rpcheck_any q hx v (w.heap.size + 1) [t] (by simp) r h1.symm W L h R)
  rcases h2 with ⟨z, rfl, rfl⟩ | ⟨rfl, o, ho, rfl, rfl⟩
  · have d1 : (r != 0) = true := by simpa using z
    clear hx L h h1 z q1 q2
    go_enter Tryz.func18, Tryz.ntmps18
    go_wp2_with fail
    refine (CK.out _ Q.out.lay Q.out.sp RW.out).mono ?_
    rintro e w1 ⟨rfl, hb1⟩
    have Q1 := Lib.hid (Q.out.next hb1)
    clear hb1
    go_wp2_with fail
    go_ret3
    exact ⟨rfl, Q1.out.below⟩
  · obtain ⟨ok, hv⟩ := Pl.P.errT_zero.1 h1.symm
    have vt := hv t (by simp)
    have NX := Lib.hid (fun W L h => rpnext_any q ok hx v t (by have := vt.1; omega) vt.2 o ho W L h)
    obtain ⟨yy, hyy⟩ : ∃ yy, o.getD 0 = yy := ⟨_, rfl⟩
    obtain ⟨pp, hpp⟩ : ∃ pp, o.isSome = pp := ⟨_, rfl⟩
    rw [hyy, hpp] at NX
    rw [hyy, hpp]
    clear hx L h h1 q1 q2 ok hv vt ho hyy hpp
    go_enter Tryz.func18, Tryz.ntmps18
    go_wp2_with fail
    refine (CK.out _ Q.out.lay Q.out.sp RW.out).mono ?_
    rintro e w1 ⟨rfl, hb1⟩
    have Q1 := Lib.hid (Q.out.next hb1)
    obtain ⟨c0, c1, c2, c3, c4, c5, c6, c7, c8, c9, c10, c11, c12, c13⟩ := Q1.out.cells
    clear hb1
    go_wp2_with fail
    refine (NX.out _ Q1.out.lay Q1.out.sp).mono ?_
    rintro e w2 ⟨rfl, hb2⟩
    have Q2 := Lib.hid (Q1.out.next hb2)
    clear hb2
    go_wp2_with fail
    go_ret3
    exact ⟨rfl, Q2.out.below⟩
end Go.Proofs.YtljackjcgfaanaaGreatDoor
