/- Contract of the iterator over the days that an expression matches, in a direction. -/
import Derived.Sort.QuietIn
import Derived.Test.YtbehendogcghjaaDoorMatFp
namespace Go.Proofs.YtbehendogcghjaaDoor
open Go.ChangeShapes Go.RowKit Go.Shelf

attribute [local go_sem] Oper.semAt_some
theorem ever_any (x : Exp.Ex) (hok : x.Ok) (r : Bool) (hr : r = true ↔ x.Evr) (w : World) (L : LayM w) :
    Calls Tryd.prog 42 #[.agg #[.int .u64 x.a0, .int .u64 x.a1, .int .u64 x.a2, .int .u64 x.a3, .int .u64 x.a4, .int .u64 x.a5, .bool x.b3, .bool x.b5]] w fun e W' => e = .returned (.bool r) ∧ Below w.heap.size w W' := callsIn_wide.1 (ever_in 3 (by omega) x hok r hr w L)

/-- the cells of an expression in memory -/
theorem row_cells {W : World} {b : Nat} {x : Exp.Ex} (h : Row W b 24 (exL x)) : W.cell? ⟨b, 0, none⟩ = some (.int .u64 x.a0) ∧ W.cell? ⟨b, 1, none⟩ = some (.int .u64 x.a1) ∧ W.cell? ⟨b, 2, none⟩ = some (.int .u64 x.a2) ∧ W.cell? ⟨b, 3, none⟩ = some (.int .u64 x.a3) ∧ W.cell? ⟨b, 4, none⟩ = some (.int .u64 x.a4) ∧ W.cell? ⟨b, 5, none⟩ = some (.int .u64 x.a5) ∧ W.cell? ⟨b, 6, none⟩ = some (.bool x.b3) ∧ W.cell? ⟨b, 7, none⟩ = some (.bool x.b5) :=
  ⟨h.cell 0, h.cell 1, h.cell 2, h.cell 3, h.cell 4, h.cell 5, h.cell 6, h.cell 7⟩
set_option maxRecDepth 100000 in
set_option maxHeartbeats 4000000 in
theorem days_in (own : Nat → Prop) (n : Nat) (hn : 1 ≤ n) (l Bw Bf Bt Bx : Nat) (d : Mat.Dir) (x : Exp.Ex) (hok : x.Ok) (f t : Int) (fl : -1000000000000 ≤ f) (fh : f ≤ 1000000000000) (tl : -1000000000000 ≤ t) (th : t ≤ 1000000000000)
    (hin : d.past f t = false → 0 ≤ f ∧ f ≤ 253402300800 ∧ 0 ≤ t ∧ t ≤ 253402300800 ∧ (d = .up ∨ f ≤ 253402300799))
    (ow : ¬ own Bw) (oF : ¬ own Bf) (oT : ¬ own Bt) (ox : ¬ own Bx) (ob : ¬ own 1) (oc : ¬ own 0) (B : Nat) (J Jx : List Dy → World → Prop) (hJ : AbidesFrom B J)
    (hY : ∀ pre q W, J pre W → pre.length < d.lim f t → YieldAt Fence.wide (n - 1) Tryd.prog l #[.int .i64 (q : Dy).val] W fun e W' =>
      (e = .returned (.bool true) ∧ J (pre ++ [q]) W' ∧ Kc own W W') ∨ (e = .returned (.bool false) ∧ Jx (pre ++ [q]) W'))
    (W : World) (hown : ∀ b, own b → b < W.heap.size) (cw : W.cell? ⟨Bw, 0, none⟩ = some (.int .i64 d.val)) (cf : W.cell? ⟨Bf, 0, none⟩ = some (.int .i64 f)) (ct : W.cell? ⟨Bt, 0, none⟩ = some (.int .i64 t)) (rx : Row W Bx 24 (exL x))
    (L0 : LayM W) (h0 : J [] W) :
    CallsIn Fence.wide n Tryd.prog 74 #[.func (.yield l) #[] #[], .pointer (some ⟨Bw, 0, none⟩), .pointer (some ⟨Bf, 0, none⟩), .pointer (some ⟨Bt, 0, none⟩), .pointer (some ⟨Bx, 0, none⟩)] W fun e W' => (∃ v, e = .returned v) ∧
      ((∃ ys : List Dy, ys.map (fun q => q.val) = d.daysL x f t ∧ J ys W') ∨ (∃ pre : List Dy, pre.map (fun q => q.val) <+: d.daysL x f t ∧ Jx pre W')) := by
  obtain ⟨p0, hp0⟩ : ∃ p, d.past f t = p := ⟨_, rfl⟩
  obtain ⟨r, hr⟩ : ∃ r : Bool, r = true ↔ x.Evr := by
    by_cases c : x.Evr
    · exact ⟨true, by simpa using c⟩
    · exact ⟨false, by simpa using c⟩
  have P0 := Lib.hid (fun w0 : World => past_any d f t p0 hp0 w0 (by omega) (by omega) (by omega) (by omega))
  have EV := Lib.hid (fun w0 (L : LayM w0) => ever_any x hok r hr w0 L)
  have HP0 := Lib.hid hp0
  have HJ := Lib.hid hJ
  have HY := Lib.hid hY
  have HR := Lib.hid hr
  have OK := Lib.hid hok
  have LL := Lib.hid L0
  have OW := Lib.hid ow; have OF := Lib.hid oF; have OT := Lib.hid oT; have OX := Lib.hid ox; have OB := Lib.hid ob; have OC := Lib.hid oc
  have HO := Lib.hid hown
  have IN := Lib.hid hin
  obtain ⟨x0, x1, x2, x3, x4, x5, x6, x7⟩ := row_cells rx
  have RX := Lib.hid rx
  clear hp0 hJ hY hr hok L0 ow oF oT ox ob oc hown hin rx fl fh tl th
  cases p0 with
  | true =>
    have DL : d.daysL x f t = [] := by unfold Mat.Dir.daysL; rw [if_pos HP0.out]
    have DL := Lib.hid DL
    refine callsIn_of_wp Tryd.func74 rfl trivial ?_ rfl
    simp only [Tryd.ntmps74, List.size_toArray, List.length_cons, List.length_nil, Nat.reduceAdd, Nat.reduceSub, Array.replicate_succ, Array.replicate_zero, List.push_toArray, List.append_toArray, List.nil_append, List.cons_append]
    gi_wp2_with (refine ⟨trivial, ?_⟩; gi_at_call 59; refine (callsIn_wide.2 (P0.out _)).mono ?_; rintro e w' ⟨rfl, rfl⟩)
    refine ⟨trivial, ?_⟩
    gi_wp2
    refine bodyPost_ret (results_none rfl _ _ _) rfl ?_
    exact ⟨⟨_, rfl⟩, .inl ⟨[], DL.out.symm, h0⟩⟩
  | false =>
    cases r with
    | false =>
      have DL := Lib.hid (daysL_never (x := x) (fun h => by have := HR.out.2 h; cases this) d f t)
      refine callsIn_of_wp Tryd.func74 rfl trivial ?_ rfl
      simp only [Tryd.ntmps74, List.size_toArray, List.length_cons, List.length_nil, Nat.reduceAdd, Nat.reduceSub, Array.replicate_succ, Array.replicate_zero, List.push_toArray, List.append_toArray, List.nil_append, List.cons_append]
      gi_wp2_with (refine ⟨trivial, ?_⟩; first
        | (gi_at_call 59; refine (callsIn_wide.2 (P0.out _)).mono ?_; rintro e w' ⟨rfl, rfl⟩)
        | (gi_at_call 42; refine (callsIn_wide.2 (EV.out _ LL.out)).mono ?_; rintro e w' ⟨rfl, hb⟩; have HB := Lib.hid hb; clear hb))
      refine bodyPost_ret (results_none rfl _ _ _) rfl ?_
      exact ⟨⟨_, rfl⟩, .inl ⟨[], DL.out.symm, abides_below HJ.out h0 HB.out⟩⟩
    | true =>
      refine callsIn_of_wp Tryd.func74 rfl trivial ?_ rfl
      simp only [Tryd.ntmps74, List.size_toArray, List.length_cons, List.length_nil, Nat.reduceAdd, Nat.reduceSub, Array.replicate_succ, Array.replicate_zero, List.push_toArray, List.append_toArray, List.nil_append, List.cons_append]
      gi_wp2_with (refine ⟨trivial, ?_⟩; first
        | (gi_at_call 59; refine (callsIn_wide.2 (P0.out _)).mono ?_; rintro e w' ⟨rfl, rfl⟩)
        | (gi_at_call 42; refine (callsIn_wide.2 (EV.out _ LL.out)).mono ?_; rintro e V ⟨rfl, hb⟩; have HB := Lib.hid hb; obtain ⟨y0, y1, y2, y3, y4, y5, y6, y7⟩ := row_cells ((Kc.of_below (own := own) hb).row OX.out RX.out); clear hb)
        | (gi_at_call 75; refine (callsIn_wide.2 (matcher_any x _)).mono ?_; rintro e V1 ⟨rfl, hV1⟩; have HV1 := Lib.hid hV1; clear hV1 y0 y1 y2 y3 y4 y5 y6 y7 x0 x1 x2 x3 x4 x5 x6 x7))
      obtain ⟨M, hM⟩ : ∃ M, V.heap.size = M := ⟨_, rfl⟩
      have hb1 : Below W.heap.size W V1 := by rw [HV1.out]; exact HB.out.alloc HB.out.size _
      have RM := Lib.hid (show Row V1 M 24 (exL x) by rw [HV1.out, ← hM]; exact Row.new V (exL x) _)
      have oM := Lib.hid (show ¬ own M from fun h => by have := HO.out M h; have := HB.out.size; omega)
      rw [hM]
      have K1 : Kc own W V1 := Kc.of_below hb1
      have J1 := Lib.hid (abides_below HJ.out h0 hb1)
      have cw1 := K1.cell (p := ⟨Bw, 0, none⟩) OW.out cw
      have cf1 := K1.cell (p := ⟨Bf, 0, none⟩) OF.out cf
      have ct1 := K1.cell (p := ⟨Bt, 0, none⟩) OT.out ct
      have L1 := Lib.hid (LL.out.below hb1)
      have HK1 := Lib.hid K1
      clear hM hb1 h0 cw cf ct HB HV1 K1 LL RX OX
      obtain ⟨i1, i2, i3, i4, i5⟩ := IN.out HP0.out
      have qf : f.tdiv 86400 = f / 86400 := Int.tdiv_eq_ediv_of_nonneg i1
      have qt : t.tdiv 86400 = t / 86400 := Int.tdiv_eq_ediv_of_nonneg i3
      obtain ⟨F, hF⟩ : ∃ F, f / 86400 = F := ⟨_, rfl⟩
      obtain ⟨T, hT⟩ : ∃ T, t / 86400 = T := ⟨_, rfl⟩
      rw [hF] at qf
      rw [hT] at qt
      have MD := Lib.hid (fun k (hk : k < d.cnt f t) => mid_day (k := k) HP0.out i1 i2 i3 i4 hk)
      have LD := Lib.hid (fun k (hk : k < d.cnt f t) he => last_day (k := k) HP0.out i4 i5 hk he)
      have PM := Lib.hid (fun k => past_mid (d := d) (f := f) (t := t) (k := k) HP0.out)
      have TB := Lib.hid (show 0 ≤ T ∧ T ≤ 2932897 by omega)
      have FB := Lib.hid (show 0 ≤ F ∧ F ≤ 2932897 by omega)
      have DL : d.daysL x f t = d.daysTo x F (d.cnt f t) := by unfold Mat.Dir.daysL; rw [if_neg (by rw [HP0.out]; simp), hF]
      obtain ⟨C, hC⟩ : ∃ C, d.cnt f t = C := ⟨_, rfl⟩
      rw [hC] at MD PM DL LD
      rw [hF] at MD PM LD
      rw [hT] at PM
      have DL := Lib.hid DL
      have CB : Hid (C ≤ 2932898) := Lib.hid (by rw [← hC]; unfold Mat.Dir.cnt; rcases d.val_or with e | e <;> rw [e] <;> omega)
      have wF : IntKind.i64.wrap F = F := by have := FB.out; rw [IntKind.wrap_i64]; omega
      have wT : IntKind.i64.wrap T = T := by have := TB.out; rw [IntKind.wrap_i64]; omega
      clear hC hF hT i1 i2 i3 i4 i5 IN P0 EV
      refine wpIn_region_quiet_lit rfl (by kernel_rfl) (by kernel_rfl) ?_
      iterate 6 (gi_big_quiet_step (fail))
      refine wpQuietIn_nil ?_
      intro _ hw'
      obtain ⟨nq, rfl⟩ := hw'
      obtain ⟨V2, hV2⟩ : ∃ V2, V1.drewN nq = V2 := ⟨_, rfl⟩
      have hb2 : Below V1.heap.size V1 V2 := by rw [← hV2]; exact below_drewN _ _ _
      rw [hV2]
      have J2 := Lib.hid (abides_below HJ.out J1.out hb2)
      have K2 : Kc own V1 V2 := Kc.of_below hb2
      have RM := Lib.hid (K2.row oM.out RM.out)
      have L2 := Lib.hid (L1.out.below hb2)
      have CW := Lib.hid (K2.cell (p := ⟨Bw, 0, none⟩) OW.out cw1)
      clear hV2 hb2 K2 J1 L1 cw1 cf1 ct1 qf qt HK1 wF wT
      gi_wp2
      gi_loopw [7] (fun day wr => ∃ (k : Nat) (pre : List Dy), day = .int .i64 (F + d.val * (k : Int)) ∧ Hid (k ≤ C) ∧ Hid (pre.map (fun q => q.val) = d.daysTo x F k) ∧ Hid (J pre wr) ∧ Hid (Kc own V2 wr)) (fun day _ => leftD d F C day)
      case atStart => exact ⟨0, [], by simp, Lib.hid (by omega), Lib.hid rfl, J2, Lib.hid (Kc.refl _ _)⟩
      case round =>
        obtain ⟨k, pre, rfl, hkC, hpre, hj, hkc⟩ := hrel
        obtain ⟨e, he⟩ : ∃ e, F + d.val * (k : Int) = e := ⟨_, rfl⟩
        have HE := Lib.hid he
        have cw := hkc.out.cell (p := ⟨Bw, 0, none⟩) OW.out CW.out
        by_cases c : k < C
        · have hm := MD.out k c
          have hpm := PM.out k
          rw [he] at hm hpm ⊢
          rw [decide_eq_false (by omega)] at hpm
          have PF := Lib.hid (fun w0 : World => past_any d e T false hpm w0 (by omega) (by omega) (by have := TB.out; omega) (by have := TB.out; omega))
          by_cases hel : 2932896 < e
          · have DN := Lib.hid (fun w0 : World => Cv.date_no e w0 (.inr hel))
            have ec := LD.out k c (by rw [he]; exact hel)
            have dk : d.daysTo x F C = d.daysTo x F k := by rw [ec]; exact daysTo_no (onB_out (by rw [he]; exact hel))
            have DK := Lib.hid dk
            clear hel ec dk hm hpm he c
            gi_wp2_with (refine ⟨trivial, ?_⟩; first
              | (gi_at_call 59; refine (callsIn_wide.2 (PF.out _)).mono ?_; rintro e' w' ⟨rfl, rfl⟩)
              | (gi_at_call 76; refine (callsIn_wide.2 (DN.out _)).mono ?_; rintro e' w' ⟨rfl, rfl⟩))
            refine bodyPost_ret (results_none rfl _ _ _) rfl ?_
            exact ⟨⟨_, rfl⟩, .inl ⟨pre, by rw [DL.out, DK.out]; exact hpre.out, hj.out⟩⟩
          obtain ⟨y, m, dd, v, hn⟩ := Civ.date_ex e hm.1 (by omega)
          obtain ⟨m, rfl⟩ := Int.eq_ofNat_of_zero_le (show 0 ≤ m by have := v.2.2.1; omega)
          obtain ⟨dd, rfl⟩ := Int.eq_ofNat_of_zero_le (show 0 ≤ dd by have := v.2.2.2.2.1; omega)
          have DT := Lib.hid (fun w0 (L : LayM w0) => Cv.date_yes y m dd e w0 L.c v hn)
          have LN := Lib.hid (fun w0 (L : LayM w0) => Cv.length_yes y m w0 L.c v.1 v.2.1 v.2.2.1 v.2.2.2.1)
          obtain ⟨ln, hln⟩ : ∃ ln, Civ.dim y m = ln := ⟨_, rfl⟩
          rw [hln] at LN
          have VV := Lib.hid v
          have HN := Lib.hid hn
          have HL := Lib.hid hln
          have HC := Lib.hid c
          have LW := Lib.hid (LayM.kc hkc.out OB.out OC.out L2.out)
          clear hm hpm v hn hln c he
          gi_wp2_with (refine ⟨trivial, ?_⟩; first
            | (gi_at_call 59; refine (callsIn_wide.2 (PF.out _)).mono ?_; rintro e' w' ⟨rfl, rfl⟩)
            | (gi_at_call 76; refine (callsIn_wide.2 (DT.out _ LW.out)).mono ?_; rintro e' w' ⟨rfl, rfl⟩)
            | (gi_at_call 65; refine (callsIn_wide.2 (LN.out _ LW.out)).mono ?_; rintro e' w' ⟨rfl, rfl⟩))
          gi_loopw [7, 11] (fun day dt wr => ∃ (k' : Nat) (pre' : List Dy) (q : Nat), day = .int .i64 (F + d.val * (k' : Int)) ∧ dt = .int .i64 (q : Nat) ∧ Hid (k ≤ k' ∧ k' ≤ C ∧ Civ.num y m q = F + d.val * (k' : Int) ∧ q ≤ 32 ∧ (k' = k → 1 ≤ q ∧ (q : Int) ≤ ln)) ∧ Hid (pre'.map (fun q => q.val) = d.daysTo x F k') ∧ Hid (J pre' wr) ∧ Hid (Kc own V2 wr)) (fun day _ _ => leftD d F C day)
          case atStart =>
            refine ⟨k, pre, dd, by rw [HE.out], rfl, Lib.hid ⟨Nat.le_refl _, hkC.out, by rw [HN.out, HE.out], ?_, fun _ => ?_⟩, hpre, hj, hkc⟩
            · have a := VV.out.2.2.2.2.2
              have b := Civ.dim_bd y m
              omega
            · have a := VV.out.2.2.2.2
              have b := HL.out
              exact ⟨by omega, by omega⟩
          case round =>
            clear cw
            obtain ⟨k', pre', q, rfl, rfl, HA, hpre', hj', hkc'⟩ := hrel
            obtain ⟨e', he'⟩ : ∃ e', F + d.val * (k' : Int) = e' := ⟨_, rfl⟩
            have HE' := Lib.hid he'
            have cw := hkc'.out.cell (p := ⟨Bw, 0, none⟩) OW.out CW.out
            have eb := Lib.hid (show -3000000 ≤ e' ∧ e' ≤ 6000000 by
              have := FB.out; have := CB.out; have := HA.out.2.1
              rcases d.val_or with e | e <;> rw [e] at he' <;> omega)
            have PM' := PM.out k'
            rw [he'] at PM' ⊢
            have PF2 := Lib.hid (fun w0 : World => past_any d e' T _ PM' w0 (by have := eb.out; omega) (by have := eb.out; omega) (by have := TB.out; omega) (by have := TB.out; omega))
            clear PM' he' PF DT LN LW
            by_cases q1 : 1 ≤ q
            · by_cases q2 : (q : Int) ≤ ln
              · by_cases q3 : k' < C
                · have pf : decide (C ≤ k') = false := decide_eq_false (by omega)
                  rw [pf] at PF2
                  have HQ := Lib.hid q3
                  have v' : Civ.Vld y m q := ⟨VV.out.1, VV.out.2.1, VV.out.2.2.1, VV.out.2.2.2.1, by omega, by rw [HL.out]; exact q2⟩
                  have hn' : Civ.num y m q = e' := by rw [HA.out.2.2.1, HE'.out]
                  have md := Civ.num_range v'
                  rw [hn'] at md
                  have wz : IntKind.i64.wrap (86400 * e') = 86400 * e' := by rw [IntKind.wrap_i64]; omega
                  obtain ⟨wk, hwk⟩ : ∃ wk : Nat, (86400 * e' / 86400 + 4) % 7 = (wk : Int) := ⟨((e' + 4) % 7).toNat, by omega⟩
                  have WK := Lib.hid (fun w0 : World => Cv.week_yes (86400 * e') w0 (by omega) (by omega))
                  rw [hwk] at WK
                  have hm := mB_on OK.out v' hn'
                  have ew : ((e' + 4) % 7).toNat = wk := by omega
                  rw [ew, Int.toNat_natCast, Int.toNat_natCast] at hm
                  obtain ⟨b, hb⟩ : ∃ b, x.mB m q wk = b := ⟨_, rfl⟩
                  rw [hb] at hm
                  have MB := Lib.hid (fun w0 R => matcher1_any x (bd_of OK.out) m q wk M b hb w0 R)
                  have HM := Lib.hid hm
                  have HMD := Lib.hid md
                  have RW := Lib.hid (hkc'.out.row oM.out RM.out)
                  clear pf q3 hm hb ew hn' v' hwk md
                  gi_wp2_with (refine ⟨trivial, ?_⟩; first | (gi_at_call 59; refine (callsIn_wide.2 (PF2.out _)).mono ?_; rintro e' w' ⟨rfl, rfl⟩) | (gi_at_call 77; refine (callsIn_wide.2 (WK.out _)).mono ?_; rintro e' w' ⟨rfl, rfl⟩))
                  refine ⟨trivial, (callsIn_wide.2 (MB.out _ RW.out)).mono ?_⟩
                  rintro e1 V3 ⟨rfl, hb3⟩
                  have k3 : Kc own wr V3 := Kc.of_below hb3
                  have HK3 := Lib.hid (hkc'.out.trans k3)
                  have HJ3 := Lib.hid (abides_below HJ.out hj'.out hb3)
                  have cw3 := k3.cell (p := ⟨Bw, 0, none⟩) OW.out cw
                  have HCW3 := Lib.hid cw3
                  have we : IntKind.i64.wrap (e' + d.val) = e' + d.val := by have := HMD.out; rw [IntKind.wrap_i64]; rcases d.val_or with e | e <;> omega
                  obtain ⟨q2, hq2⟩ : ∃ q2 : Nat, (q : Int) + d.val = (q2 : Int) := ⟨((q : Int) + d.val).toNat, by rcases d.val_or with e | e <;> omega⟩
                  have wq : IntKind.i64.wrap ((q : Int) + d.val) = (q2 : Int) := by rw [hq2, IntKind.wrap_i64]; have := HA.out.2.2.2.1; rcases d.val_or with e | e <;> omega
                  have HQ2 := Lib.hid (show q2 ≤ 32 ∧ (q2 : Int) = (q : Int) + d.val by refine ⟨?_, hq2.symm⟩; have := Civ.dim_bd y m; have := HL.out; rcases d.val_or with e | e <;> omega)
                  have HS := Lib.hid (show F + d.val * (k' : Int) = e' ∧ e' + d.val = F + d.val * ((k' + 1 : Nat) : Int) by refine ⟨HE'.out, ?_⟩; have := HE'.out; rcases d.val_or with e | e <;> rw [e] at this ⊢ <;> omega)
                  clear hb3 k3 cw hq2 WK PF2
                  cases b with
                  | false =>
                    have HNO := Lib.hid (onB_no.2 (fun h => by have := HM.out.2 h; cases this))
                    have HJ4 := HJ3
                    have HK4 := HK3
                    gi_wp2
                    refine ⟨fun _ h => (by cases h), ?_⟩
                    gi_wp2
                    refine wpIn_region_quiet_lit rfl (by kernel_rfl) (by kernel_rfl) ?_
                    iterate 8 (gi_big_quiet_step (fail))
                    refine wpQuietIn_nil ?_
                    intro _ hw'
                    obtain ⟨nq, rfl⟩ := hw'
                    gi_wp2
                    go_roundw
                    case rel =>
                      refine ⟨k' + 1, pre', q2, by rw [HS.out.2], rfl, Lib.hid ?_, Lib.hid ?_, Lib.hid (abides_below HJ.out HJ4.out (below_drewN _ _ _)), Lib.hid (HK4.out.trans (Kc.of_below (below_drewN _ _ _)))⟩
                      · have a := HA.out
                        have g := HQ2.out
                        exact ⟨by omega, by have := HQ.out; omega, by rw [g.2, ← HS.out.2]; unfold Civ.num at *; have := a.2.2.1; have := HE'.out; omega, by omega, fun h => by omega⟩
                      · rw [daysTo_no (by rw [HS.out.1]; exact HNO.out)]; exact hpre'.out
                    case measure =>
                      have a := HA.out
                      have ec := HQ.out
                      have e1 := leftD_at d F C k' .i64
                      have e2 := leftD_at d F C (k' + 1) .i64
                      rw [HE'.out] at e1
                      rw [← HS.out.2] at e2
                      rw [e1, e2]
                      omega
                  | true =>
                    have HYES := Lib.hid (onB_iff.2 (HM.out.1 rfl))
                    have hlen : pre'.length < d.lim f t := by
                      rw [lim_of HP0.out]
                      have h1 := congrArg List.length hpre'.out
                      have h2 := daysTo_len d x F k'
                      have := HQ.out
                      have := CB.out
                      simp at h1
                      omega
                    obtain ⟨fn, tmps, assign, body, hy, hR⟩ := HY.out pre' ⟨e', HMD.out⟩ V3 HJ3.out hlen
                    dsimp only at hy
                    clear hlen
                    gi_wp2
                    refine hR.mono ?_
                    rintro e1 V4 (⟨rfl, hJ4, hk4⟩ | ⟨rfl, hJx4⟩)
                    · have HJ4 := Lib.hid hJ4
                      have HK4 := Lib.hid (HK3.out.trans hk4)
                      have cw4 := hk4.cell (p := ⟨Bw, 0, none⟩) OW.out HCW3.out
                      clear cw3 hJ4 hk4
                      gi_wp2
                      refine wpIn_region_quiet_lit rfl (by kernel_rfl) (by kernel_rfl) ?_
                      iterate 8 (gi_big_quiet_step (fail))
                      refine wpQuietIn_nil ?_
                      intro _ hw'
                      obtain ⟨nq, rfl⟩ := hw'
                      gi_wp2
                      go_roundw
                      case rel =>
                        refine ⟨k' + 1, (pre' ++ [⟨e', HMD.out⟩]), q2, by rw [HS.out.2], rfl, Lib.hid ?_, Lib.hid ?_, Lib.hid (abides_below HJ.out HJ4.out (below_drewN _ _ _)), Lib.hid (HK4.out.trans (Kc.of_below (below_drewN _ _ _)))⟩
                        · have a := HA.out
                          have g := HQ2.out
                          exact ⟨by omega, by have := HQ.out; omega, by rw [g.2, ← HS.out.2]; unfold Civ.num at *; have := a.2.2.1; have := HE'.out; omega, by omega, fun h => by omega⟩
                        · rw [daysTo_yes (by rw [HS.out.1]; exact HYES.out), HS.out.1, List.map_append, hpre'.out]; rfl
                      case measure =>
                        have a := HA.out
                        have ec := HQ.out
                        have e1 := leftD_at d F C k' .i64
                        have e2 := leftD_at d F C (k' + 1) .i64
                        rw [HE'.out] at e1
                        rw [← HS.out.2] at e2
                        rw [e1, e2]
                        omega
                    · have HJX := Lib.hid hJx4
                      clear hJx4
                      gi_wp2
                      refine bodyPost_ret (results_none rfl _ _ _) rfl ?_
                      refine ⟨⟨_, rfl⟩, .inr ⟨pre' ++ [⟨e', HMD.out⟩], ?_, HJX.out⟩⟩
                      rw [DL.out, List.map_append, hpre'.out]
                      have h1 := daysTo_pre d x F (k' + 1) (C - (k' + 1))
                      rw [daysTo_yes (by rw [HS.out.1]; exact HYES.out), HS.out.1, show k' + 1 + (C - (k' + 1)) = C by have := HQ.out; omega] at h1
                      exact h1
                · have pf : decide (C ≤ k') = true := decide_eq_true (by omega)
                  rw [pf] at PF2
                  have HQ := Lib.hid q3
                  clear pf q3
                  gi_wp2_with (refine ⟨trivial, ?_⟩; first | (gi_at_call 59; refine (callsIn_wide.2 (PF2.out _)).mono ?_; rintro e' w' ⟨rfl, rfl⟩))
                  go_roundw
                  case rel => exact ⟨k', pre', by rw [HE'.out], Lib.hid HA.out.2.1, hpre', hj', hkc'⟩
                  case measure =>
                    have a := HA.out
                    have ec := HC.out
                    have e1 := leftD_at d F C k .i64
                    have e2 := leftD_at d F C k' .i64
                    rw [HE.out] at e1
                    rw [HE'.out] at e2
                    rw [e1, e2]
                    by_cases ek : k' = k
                    · have := a.2.2.2.2 ek
                      first | omega | (have := HQ.out; omega)
                    · omega
              · gi_wp2
                refine ⟨trivial, ?_⟩
                gi_wp2
                go_roundw
                case rel => exact ⟨k', pre', by rw [HE'.out], Lib.hid HA.out.2.1, hpre', hj', hkc'⟩
                case measure =>
                  have a := HA.out
                  have ec := HC.out
                  have e1 := leftD_at d F C k .i64
                  have e2 := leftD_at d F C k' .i64
                  rw [HE.out] at e1
                  rw [HE'.out] at e2
                  rw [e1, e2]
                  by_cases ek : k' = k
                  · have := a.2.2.2.2 ek
                    first | omega | (have := HQ.out; omega)
                  · omega
            · gi_wp2
              refine ⟨trivial, ?_⟩
              gi_wp2
              go_roundw
              case rel => exact ⟨k', pre', by rw [HE'.out], Lib.hid HA.out.2.1, hpre', hj', hkc'⟩
              case measure =>
                have a := HA.out
                have ec := HC.out
                have e1 := leftD_at d F C k .i64
                have e2 := leftD_at d F C k' .i64
                rw [HE.out] at e1
                rw [HE'.out] at e2
                rw [e1, e2]
                by_cases ek : k' = k
                · have := a.2.2.2.2 ek
                  first | omega | (have := HQ.out; omega)
                · omega
        · have hpm := PM.out k
          rw [he] at hpm ⊢
          rw [decide_eq_true (by omega)] at hpm
          have PF := Lib.hid (fun w0 : World => past_any d e T true hpm w0 (by have := FB.out; have := CB.out; have := hkC.out; rcases d.val_or with e | e <;> rw [e] at he <;> omega) (by have := FB.out; have := CB.out; have := hkC.out; rcases d.val_or with e | e <;> rw [e] at he <;> omega) (by have := TB.out; omega) (by have := TB.out; omega))
          have ek : k = C := by have := hkC.out; omega
          subst ek
          have HP := Lib.hid hpre
          clear hpm he c
          gi_wp2_with (refine ⟨trivial, ?_⟩; gi_at_call 59; refine (callsIn_wide.2 (PF.out _)).mono ?_; rintro e' w' ⟨rfl, rfl⟩)
          go_end0
          exact ⟨⟨_, rfl⟩, .inl ⟨pre, by rw [DL.out]; exact hpre.out, hj.out⟩⟩
theorem days_any (d : Mat.Dir) (x : Exp.Ex) (f t : Int) (w : World) :
    Calls Tryd.prog 53 #[.int .i64 d.val, .agg #[.int .u64 x.a0, .int .u64 x.a1, .int .u64 x.a2, .int .u64 x.a3, .int .u64 x.a4, .int .u64 x.a5, .bool x.b3, .bool x.b5], .int .i64 f, .int .i64 t] w fun e w' => e = .returned (.func (.func 74) #[] #[.pointer (some ⟨w.heap.size, 0, none⟩), .pointer (some ⟨w.heap.size + 1 + 1, 0, none⟩), .pointer (some ⟨w.heap.size + 1 + 1 + 1, 0, none⟩), .pointer (some ⟨w.heap.size + 1, 0, none⟩)]) ∧
      w' = (((w.alloc (.cells #[.int .i64 d.val] 55)).alloc (.cells #[.int .u64 x.a0, .int .u64 x.a1, .int .u64 x.a2, .int .u64 x.a3, .int .u64 x.a4, .int .u64 x.a5, .bool x.b3, .bool x.b5] 24)).alloc (.cells #[.int .i64 f] 2)).alloc (.cells #[.int .i64 t] 2) := by
  obtain ⟨q, hq⟩ : ∃ q, d.val = q := ⟨_, rfl⟩
  rw [hq]
  clear hq
  go_enter Tryd.func53, Tryd.ntmps53
  go_wp2
  go_ret
  exact ⟨rfl, rfl⟩
theorem days_stops (own : Nat → Prop) (n : Nat) (hn : 1 ≤ n) (Bw Bf Bt Bx : Nat) (d : Mat.Dir) (x : Exp.Ex) (hok : x.Ok) (f t : Int) (fl : -1000000000000 ≤ f) (fh : f ≤ 1000000000000) (tl : -1000000000000 ≤ t) (th : t ≤ 1000000000000)
    (hin : d.past f t = false → 0 ≤ f ∧ f ≤ 253402300800 ∧ 0 ≤ t ∧ t ≤ 253402300800 ∧ (d = .up ∨ f ≤ 253402300799))
    (ow : ¬ own Bw) (oF : ¬ own Bf) (oT : ¬ own Bt) (ox : ¬ own Bx) (ob : ¬ own 1) (oc : ¬ own 0) (w : World) (hown : ∀ b, own b → b < w.heap.size)
    (bw : Boxed w Bw 55 (.int .i64 d.val)) (bf : Boxed w Bf 2 (.int .i64 f)) (bt : Boxed w Bt 2 (.int .i64 t)) (rx : Row w Bx 24 (exL x)) (L : LayM w) :
    SeqStopsK Fence.wide n Tryd.prog 74 #[.pointer (some ⟨Bw, 0, none⟩), .pointer (some ⟨Bf, 0, none⟩), .pointer (some ⟨Bt, 0, none⟩), .pointer (some ⟨Bx, 0, none⟩)] (fun q : Dy => #[Value.int .i64 q.val]) (Kc own)
      (fun ys => ys.map (fun q => q.val) = d.daysL x f t) (fun pre => pre.map (fun q => q.val) <+: d.daysL x f t) (d.lim f t) w := fun l J Jx W hW hJ _ hY h0 =>
  days_in own n hn l Bw Bf Bt Bx d x hok f t fl fh tl th hin ow oF oT ox ob oc _ J Jx hJ hY W (fun b h => Nat.lt_of_lt_of_le (hown b h) hW.size) ((hW.cell (p := ⟨Bw, 0, none⟩) bw.lt).trans bw.cell) ((hW.cell (p := ⟨Bf, 0, none⟩) bf.lt).trans bf.cell) ((hW.cell (p := ⟨Bt, 0, none⟩) bt.lt).trans bt.cell) (rx.below hW) (L.below hW) h0
end Go.Proofs.YtbehendogcghjaaDoor
