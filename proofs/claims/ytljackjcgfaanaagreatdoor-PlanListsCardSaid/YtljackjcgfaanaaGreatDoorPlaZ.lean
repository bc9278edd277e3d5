/- The document's Count. -/
import Derived.Test.YtljackjcgfaanaaGreatDoorPlaW
import Derived.Test.YtljackjcgfaanaaGreatDoorPlaY
import Derived.Test.YtljackjcgfaanaaGreatDoorGPlaH
namespace Go.Proofs.YtljackjcgfaanaaGreatDoor
open Go.ChangeShapes Go.RowKit

set_option maxRecDepth 100000 in
set_option maxHeartbeats 8000000 in
theorem rpcount_any (q : Pl.P) (hx : q.x.Bd) (v : Value) (a b c r : Int) (hr : Pl.CountR q a b c r) (w : World) (L : LayM w) (h : Bo.RowS w v q.l) :
    Calls Tryz.prog 26 #[.agg #[.int .i64 q.k, .int .u64 q.x.a0, .int .u64 q.x.a1, .int .u64 q.x.a2, .int .u64 q.x.a3, .int .u64 q.x.a4, .int .u64 q.x.a5, .bool q.x.b3, .bool q.x.b5, .int .i64 q.z, .int .i64 q.s, .int .i64 q.p, .int .i64 q.c, v], .int .i64 a, .int .i64 b] w fun e w' => e = .returned (.tuple #[.int .i64 c, .int .i64 r]) ∧ Below w.heap.size w w' := by
  obtain ⟨q1, q2⟩ := list_two q v a b w L h
  have Q := Lib.hid q1
  have RW := Lib.hid q2
  obtain ⟨h1, h2⟩ := hr
  have CK := Lib.hid (fun W L h R => rpcheck_any q hx v (w.heap.size + 1) [a, b] (by simp) r h1.symm W L h R)
  rcases h2 with ⟨z, rfl⟩ | ⟨rfl, rfl⟩
  · have d1 : (r != 0) = true := by simpa using z
    clear hx L h h1 z q1 q2
    go_enter Tryz.func26, Tryz.ntmps26
    go_wp2_with fail
    refine (CK.out _ Q.out.lay Q.out.sp RW.out).mono ?_
    rintro e w1 ⟨rfl, hb1⟩
    have Q1 := Lib.hid (Q.out.next hb1)
    clear hb1
    go_wp2_with fail
    go_ret2
    exact ⟨rfl, Q1.out.below⟩
  · obtain ⟨ok, hv⟩ := Pl.P.errT_zero.1 h1.symm
    have va := hv a (by simp)
    have vb := hv b (by simp)
    have LN : q.l.length ≤ 1000000 := h.1
    have okS := Lib.hid ok.few.2
    have CN := Lib.hid (fun a b ha hb le n hn W L h => rpcnt_any q ok hx v a b ha hb le n hn W L h)
    have BH := Lib.hid (fun t o ho W h => behind_any v q.l t o ho W h)
    have VA := Lib.hid va
    have VB := Lib.hid vb
    obtain ⟨A, cap, rfl⟩ := h.len
    clear hx L h h1 q1 q2 ok hv va vb
    go_enter Tryz.func26, Tryz.ntmps26
    go_wp2_with fail
    refine (CK.out _ Q.out.lay Q.out.sp RW.out).mono ?_
    rintro e w1 ⟨rfl, hb1⟩
    have Q1 := Lib.hid (Q.out.next hb1)
    clear hb1
    go_wp2_with fail
    go_loopw [9, 10] (fun sv tv wr => ∃ (n : Nat) (t : Int), sv = .int .i64 (n : Nat) ∧ tv = .int .i64 t ∧ Hid (a ≤ t ∧ t ≤ 253402300800 ∧ n = cntN q.K a (min t (b + 1) - a).toNat) ∧ Hid (PB w w.heap.size q (.slice A q.l.length cap) wr)) (fun _ tv _ => (b + 1 - intOf tv).toNat)
    case atStart => exact ⟨0, a, rfl, rfl, Lib.hid ⟨Int.le_refl _, by have := VA.out.2; omega, by rw [show (min a (b + 1) - a).toNat = 0 by omega]; rfl⟩, Q1⟩
    case round =>
      obtain ⟨n, t, rfl, rfl, st, QK⟩ := hrel
      obtain ⟨c0, c1, c2, c3, c4, c5, c6, c7, c8, c9, c10, c11, c12, c13⟩ := QK.out.cells
      by_cases tb : t ≤ b
      · have e0 : decide (t ≤ b) = true := decide_eq_true tb
        have vt : Pl.vt t := ⟨by have := VA.out.1; have := st.out.1; omega, by have := VB.out.2; omega⟩
        obtain ⟨o, ho⟩ : ∃ o, Pl.beh q.l t = o := ⟨_, rfl⟩
        have BC := Lib.hid (fun W h => BH.out t o ho W h)
        by_cases skip : Bk.has q.l t
        · obtain ⟨b1, ⟨x, hx1, hx2⟩, b3⟩ := Pl.beh_yes vt.1 skip
          rw [ho] at b1 hx2 b3
          have e1 : decide (0 ≤ o) = true := decide_eq_true (by have := vt.1; omega)
          have ox : o ≤ 253402300799 := by rw [hx2]; exact (okS.out x hx1).2.1.2
          have wo : IntKind.i64.wrap (o + 1) = o + 1 := by have := vt.1; rw [IntKind.wrap_i64]; omega
          have ST : Hid (a ≤ o + 1 ∧ o + 1 ≤ 253402300800 ∧ n = cntN q.K a (min (o + 1) (b + 1) - a).toNat) := Lib.hid ⟨by have := st.out.1; omega, by omega, by unfold Pl.P.K; rw [Pl.cnt_over st.out.1 tb b1 b3]; exact st.out.2.2⟩
          have MS : Hid (t ≤ b ∧ t ≤ o) := Lib.hid ⟨tb, b1⟩
          clear b1 hx1 hx2 b3 skip ho tb ox vt
          go_wp2_with fail
          refine (BC.out _ QK.out.sp).mono ?_
          rintro e w2 ⟨rfl, hb2⟩
          have Q2 := Lib.hid (QK.out.next hb2)
          clear hb2
          go_wp2_with fail
          go_roundw
          case rel => exact ⟨n, o + 1, rfl, by first | rfl | go_num, ST, Q2⟩
          case measure => have := MS.out; simp [intOf]; omega
        · have e1 : decide (0 ≤ o) = false := decide_eq_false (by have := (Pl.beh_neg vt.1).2 skip; omega)
          have SK := Lib.hid skip
          have TB := Lib.hid tb
          have VT := Lib.hid vt
          clear skip ho tb vt
          go_wp2_with fail
          refine (BC.out _ QK.out.sp).mono ?_
          rintro e w2 ⟨rfl, hb2⟩
          have Q2 := Lib.hid (QK.out.next hb2)
          clear hb2 c0 c1 c2 c3 c4 c5 c6 c7 c8 c9 c10 c11 c12 c13
          go_wp2_with fail
          go_loopw [12, 13] (fun ov iv wr => ∃ k : Nat, k ≤ q.l.length ∧ iv = .int .i64 k ∧ ov = .int .i64 (Pl.upK q.l t b k) ∧ Hid (PB w w.heap.size q (.slice A q.l.length cap) wr)) (fun _ iv _ => q.l.length - (intOf iv).toNat)
          case atStart => exact ⟨0, by omega, rfl, rfl, Q2⟩
          case round =>
            obtain ⟨k, hk, rfl, rfl, QJ⟩ := hrel
            obtain ⟨c0, c1, c2, c3, c4, c5, c6, c7, c8, c9, c10, c11, c12, c13⟩ := QJ.out.cells
            obtain ⟨u, hu⟩ : ∃ u, Pl.upK q.l t b k = u := ⟨_, rfl⟩
            rw [hu]
            by_cases lt : k < q.l.length
            · have e2 : decide ((k : Int) < (q.l.length : Int)) = true := by rw [decide_eq_true_iff]; omega
              have e2n : decide (k < q.l.length) = true := decide_eq_true lt
              have wi : IntKind.i64.wrap ((k : Int) + 1) = (k : Int) + 1 := by rw [IntKind.wrap_i64]; omega
              obtain ⟨b0, off, rfl, y1, y2⟩ := QJ.out.sp.at lt
              obtain ⟨⟨x1, x2⟩, hxx⟩ : ∃ x, q.l.getD k (0, 0) = x := ⟨_, rfl⟩
              have okx := okS.out (q.l.getD k (0, 0)) (by rw [List.getD_eq_getElem?_getD, List.getElem?_eq_getElem lt]; exact List.getElem_mem _)
              rw [hxx] at y1 y2 okx
              by_cases far : t < x1
              · have e3 : decide (t < x1) = true := decide_eq_true far
                have wf : IntKind.i64.wrap (x1 - 1) = x1 - 1 := by have := okx.1.1; have := okx.1.2; simp at *; rw [IntKind.wrap_i64]; omega
                have E : Hid (Pl.upK q.l t b (k + 1) = min u (x1 - 1)) := Lib.hid (by rw [Pl.upK, hxx, if_pos far, hu])
                clear far okx hxx hu
                go_wp2_with fail
                go_roundw
                case rel => exact ⟨k + 1, by omega, by first | rfl | go_num, by rw [E.out], QJ⟩
                case measure => simp [intOf]; omega
              · have e3 : decide (t < x1) = false := decide_eq_false far
                have E : Hid (Pl.upK q.l t b (k + 1) = u) := Lib.hid (by rw [Pl.upK, hxx, if_neg far, hu])
                clear far okx hxx hu
                go_wp2_with fail
                go_roundw
                case rel => exact ⟨k + 1, by omega, by first | rfl | go_num, by rw [E.out], QJ⟩
                case measure => simp [intOf]; omega
            · have e2 : decide ((k : Int) < (q.l.length : Int)) = false := by rw [decide_eq_false_iff_not]; omega
              have e2n : decide (k < q.l.length) = false := decide_eq_false lt
              obtain rfl : k = q.l.length := by omega
              have ub := Pl.upK_le q.l TB.out q.l.length
              have stp := Pl.cnt_step (B := q.T) st.out.1 TB.out SK.out
              rw [hu] at ub stp
              obtain ⟨m, hm⟩ : ∃ m, cntN q.T t (u - t + 1).toNat = m := ⟨_, rfl⟩
              have C := Lib.hid (fun W L h => CN.out t u VT.out ⟨by have := VT.out.1; omega, by have := VB.out.2; omega⟩ ub.1 m hm W L h)
              have NB : n + m = cntN q.K a (u + 1 - a).toNat := by
                unfold Pl.P.K
                rw [stp, hm, st.out.2.2, show (min t (b + 1) - a).toNat = (t - a).toNat by have := TB.out; omega]
                rfl
              have BB := Pl.cnt_le q.K a (u + 1 - a).toNat
              have wu : IntKind.i64.wrap (u + 1) = u + 1 := by have := VT.out.1; have := VB.out.2; rw [IntKind.wrap_i64]; omega
              have wn : IntKind.i64.wrap ((n : Int) + (m : Int)) = ((n + m : Nat) : Int) := by have := VA.out.1; have := VB.out.2; rw [IntKind.wrap_i64]; omega
              have ST : Hid (a ≤ u + 1 ∧ u + 1 ≤ 253402300800 ∧ n + m = cntN q.K a (min (u + 1) (b + 1) - a).toNat) := Lib.hid ⟨by have := st.out.1; omega, by have := VB.out.2; omega, by rw [NB]; congr 1; omega⟩
              have MS : Hid (t ≤ u ∧ u ≤ b) := Lib.hid ub
              clear lt hk ub stp hm NB BB hu
              go_wp2_with fail
              refine (C.out _ QJ.out.lay QJ.out.sp).mono ?_
              rintro e w3 ⟨rfl, hb3⟩
              have Q3 := Lib.hid (QJ.out.next hb3)
              clear hb3
              go_wp2_with fail
              go_roundw
              case rel => exact ⟨n + m, u + 1, by first | rfl | go_num, by first | rfl | go_num, ST, Q3⟩
              case measure => have := MS.out; simp [intOf]; omega
      · have e0 : decide (t ≤ b) = false := decide_eq_false tb
        have E : Hid ((n : Int) = (q.cnt a b : Nat)) := Lib.hid (by
          have := st.out.2.2
          rw [this]
          unfold Pl.P.cnt
          congr 2
          omega)
        clear tb
        go_wp2_with fail
        go_ret2
        exact ⟨by simpa using E.out, QK.out.below⟩
end Go.Proofs.YtljackjcgfaanaaGreatDoor
