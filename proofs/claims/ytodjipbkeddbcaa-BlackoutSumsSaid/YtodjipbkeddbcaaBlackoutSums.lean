/- For all pairs of slices of pairs of bytes and all bytes, BlackoutSums returns true: lengths up to a time, and from the next one on, add up; those of the union and of what both have are those of both lists; what the first one has alone, and what both have, is the first one. No conditions. -/
import Derived.Test.YtodjipbkeddbcaaBlkL
namespace Go.Proofs.Ytodjipbkeddbcaa.blackoutSums
open Go.ChangeShapes Go.WideShapes Go.ChangeAt Go.RowKit

set_option maxRecDepth 100000 in
set_option maxHeartbeats 4000000 in
theorem walk (a : Option Addr) (len cap : Nat) (z : List (Nat × Nat)) (a' : Option Addr) (len' cap' : Nat) (z' : List (Nat × Nat)) (f g c : Int) (w : World) (h : InP w a len cap z) (h' : InP w a' len' cap' z') (hf : (Lit.int .u8 f).wf = true) (hg : (Lit.int .u8 g).wf = true) (hc : (Lit.int .u8 c).wf = true) :
    Calls Try.prog 10 #[.slice a len cap, .slice a' len' cap', .int .u8 f, .int .u8 g, .int .u8 c] w fun e w' => e = .returned (.bool true) ∧ Below w.heap.size w w' := by
  obtain ⟨f0, f1⟩ := bd8 hf
  obtain ⟨g0, g1⟩ := bd8 hg
  obtain ⟨c0, c1⟩ := bd8 hc
  obtain ⟨i0, hi, hz0, hz1, hz2⟩ := info_parts infoI
  have B0 : Hid (Below w.heap.size w w) := Lib.hid (Below.refl _ _)
  have SP := Lib.hid (spans_any a len cap z w h)
  have SQ := Lib.hid (fun W (hb : Below w.heap.size w W) => spans_any a' len' cap' z' W (h'.below hb))
  have SL := Bk.spansL_len z
  have SM := Bk.spansL_len z'
  have OL := Bk.spansL_ok z
  have OM := Bk.spansL_ok z'
  obtain ⟨l, hl⟩ : ∃ l, Bk.spansL z = l := ⟨_, rfl⟩
  obtain ⟨m, hm⟩ : ∃ l, Bk.spansL z' = l := ⟨_, rfl⟩
  rw [hl] at SP SL OL
  rw [hm] at SQ SM OM
  obtain ⟨u, ru, hu⟩ := Bk.resR_ex l m 1
  obtain ⟨v, rv, hv⟩ := Bk.resR_ex l m 2
  obtain ⟨q, rq, hq⟩ := Bk.resR_ex l m 3
  have e2 : Bk.err2 l m = 0 := Bk.err2_zero.2 ⟨Bk.errL_zero.2 OL, Bk.errL_zero.2 OM⟩
  have eu : ru = 0 := by rw [hu.1, e2]
  have ev : rv = 0 := by rw [hv.1, e2]
  have eq : rq = 0 := by rw [hq.1, e2]
  subst eu ev eq
  have UL := Bk.res_half hu SL SM
  have VL := Bk.res_half hv SL SM
  have QL := Bk.res_half hq SL SM
  have HU := Lib.hid hu
  have HV := Lib.hid hv
  have HQ := Lib.hid hq
  obtain ⟨x, hx⟩ : ∃ x, min f g = x := ⟨_, rfl⟩
  obtain ⟨y2, hy2⟩ : ∃ x, max f g = x := ⟨_, rfl⟩
  have x0 : 0 ≤ x ∧ x ≤ y2 ∧ y2 ≤ 255 := by omega
  obtain ⟨D, hD⟩ : ∃ D, y2 - x = D := ⟨_, rfl⟩
  obtain ⟨E, hE⟩ : ∃ E, D + 1 = E := ⟨_, rfl⟩
  have E0 : 0 < E ∧ E ≤ 256 ∧ E = y2 - x + 1 := by omega
  obtain ⟨R, hR⟩ : ∃ R, c % E = R := ⟨_, rfl⟩
  have R0 : 0 ≤ R ∧ R < E := by rw [← hR]; exact ⟨Int.emod_nonneg _ (by omega), Int.emod_lt_of_pos _ (by omega)⟩
  have hR2 : c.tmod E = R := by rw [Int.tmod_eq_emod_of_nonneg c0, hR]
  obtain ⟨y, hy⟩ : ∃ y, x + R = y := ⟨_, rfl⟩
  have Y0 : x ≤ y ∧ y ≤ y2 := by omega
  have w1 : IntKind.i64.wrap x = x := by rw [IntKind.wrap_i64]; omega
  have w2 : IntKind.i64.wrap y2 = y2 := by rw [IntKind.wrap_i64]; omega
  have w3 : IntKind.i64.wrap c = c := by rw [IntKind.wrap_i64]; omega
  have w4 : IntKind.i64.wrap (y2 - x) = D := by rw [IntKind.wrap_i64]; omega
  have w5 : IntKind.i64.wrap (D + 1) = E := by rw [IntKind.wrap_i64]; omega
  have w6 : IntKind.i64.wrap R = R := by rw [IntKind.wrap_i64]; omega
  have w7 : IntKind.i64.wrap (x + R) = y := by rw [IntKind.wrap_i64]; omega
  have z1 : (E == 0) = false := by rw [beq_eq_false_iff_ne]; omega
  have z2 : ¬ E = 0 := by omega
  have z3 : (E != 0) = true := by rw [bne_iff_ne]; omega
  have XX := Lib.hid (And.intro x0 (And.intro Y0 E0))
  have LS := Lib.hid (show ∀ k, k < 5 → Bk.errL (([l, m, u, v, q] : List (List (Int × Int))).getD k []) = 0 from fun k hk => by
    have : k = 0 ∨ k = 1 ∨ k = 2 ∨ k = 3 ∨ k = 4 := by omega
    rcases this with rfl | rfl | rfl | rfl | rfl
    · exact Bk.errL_zero.2 OL
    · exact Bk.errL_zero.2 OM
    · exact Bk.errL_zero.2 ⟨by show u.length ≤ 64; omega, hu.okS⟩
    · exact Bk.errL_zero.2 ⟨by show v.length ≤ 64; omega, hv.okS⟩
    · exact Bk.errL_zero.2 ⟨by show q.length ≤ 64; omega, hq.okS⟩)
  have T1 := Lib.hid (Bk.len_two (x := x) (y := y2) hu.res hv.res)
  have T2 := Lib.hid (Bk.len_part (x := x) (y := y2) hv.res hq.res)
  have BN := Lib.hid (fun s => Bk.len_bounds (l := s) x0.2.1)
  clear h h' hf hg hc hl hm hu hv hq e2 OL OM hD hE hR hy E0 R0 Y0 x0
  go_enter Try.func10, Try.ntmps10
  go_wp2_with fail
  refine (SP.out).mono ?_
  rintro e V1 ⟨c, rfl, h_c⟩
  have B1 := Lib.hid (below_next B0.out h_c.below)
  have RA1 := Lib.hid (h_c.rowS (by omega))
  obtain ⟨a_c, c_c, rfl⟩ := h_c.len
  clear h_c
  clear B0
  go_wp2_with fail
  refine (SQ.out _ B1.out).mono ?_
  rintro e V2 ⟨d, rfl, h_d⟩
  have B2 := Lib.hid (below_next B1.out h_d.below)
  have RA2 := Lib.hid (RA1.out.below h_d.below)
  have RB2 := Lib.hid (h_d.rowS (by omega))
  obtain ⟨a_d, c_d, rfl⟩ := h_d.len
  clear h_d
  clear RA1 B1
  go_wp2_with fail
  refine (union_any _ _ l m u 0 HU.out _ RA2.out RB2.out).mono ?_
  rintro e V3 ⟨u0, rfl, h_u0⟩
  have B3 := Lib.hid (below_next B2.out h_u0.below)
  have RA3 := Lib.hid (RA2.out.below h_u0.below)
  have RB3 := Lib.hid (RB2.out.below h_u0.below)
  have RU3 := Lib.hid (h_u0.rowS (by omega))
  obtain ⟨a_u0, c_u0, rfl⟩ := h_u0.len
  clear h_u0
  clear RA2 RB2 B2
  go_wp2_with fail
  refine (meet_any _ _ l m v 0 HV.out _ RA3.out RB3.out).mono ?_
  rintro e V4 ⟨v0, rfl, h_v0⟩
  have B4 := Lib.hid (below_next B3.out h_v0.below)
  have RA4 := Lib.hid (RA3.out.below h_v0.below)
  have RB4 := Lib.hid (RB3.out.below h_v0.below)
  have RU4 := Lib.hid (RU3.out.below h_v0.below)
  have RV4 := Lib.hid (h_v0.rowS (by omega))
  obtain ⟨a_v0, c_v0, rfl⟩ := h_v0.len
  clear h_v0
  clear RA3 RB3 RU3 B3
  go_wp2_with fail
  refine (without_any _ _ l m q 0 HQ.out _ RA4.out RB4.out).mono ?_
  rintro e V5 ⟨q0, rfl, h_q0⟩
  have B5 := Lib.hid (below_next B4.out h_q0.below)
  have RA5 := Lib.hid (RA4.out.below h_q0.below)
  have RB5 := Lib.hid (RB4.out.below h_q0.below)
  have RU5 := Lib.hid (RU4.out.below h_q0.below)
  have RV5 := Lib.hid (RV4.out.below h_q0.below)
  have RX5 := Lib.hid (h_q0.rowS (by omega))
  obtain ⟨a_q0, c_q0, rfl⟩ := h_q0.len
  clear h_q0
  clear RA4 RB4 RU4 RV4 B4
  obtain ⟨W0, hW0⟩ : ∃ W0, V5.alloc (.cells #[.slice a_c l.length c_c, .slice a_d m.length c_d, .slice a_u0 u.length c_u0, .slice a_v0 v.length c_v0, .slice a_q0 q.length c_q0] 22) = W0 := ⟨_, rfl⟩
  have BW := Lib.hid (show Below w.heap.size w W0 by rw [← hW0]; exact below_new B5.out _ (Nat.le_refl _))
  have CELL := Lib.hid (show ∀ k, k < 5 → ∃ vk, W0.cell? ⟨V5.heap.size, k, none⟩ = some vk ∧ RowS W0 vk (([l, m, u, v, q] : List (List (Int × Int))).getD k []) from fun k hk => by
    have : k = 0 ∨ k = 1 ∨ k = 2 ∨ k = 3 ∨ k = 4 := by omega
    rw [← hW0]
    rcases this with rfl | rfl | rfl | rfl | rfl
    · exact ⟨_, by simp [go_sem], RA5.out.alloc _⟩
    · exact ⟨_, by simp [go_sem], RB5.out.alloc _⟩
    · exact ⟨_, by simp [go_sem], RU5.out.alloc _⟩
    · exact ⟨_, by simp [go_sem], RV5.out.alloc _⟩
    · exact ⟨_, by simp [go_sem], RX5.out.alloc _⟩)
  have GL := Lib.hid (show V5.heap.size < W0.heap.size by rw [← hW0]; simp)
  go_wp2_with fail
  try rw [hW0]
  clear hW0
  go_loopw [22, 87] (fun ov iv wr => ∃ (k : Nat) (vo : Value), k ≤ 5 ∧ iv = .int .i64 k ∧ vo = ov ∧ Hid (OwnI W0 vo ((([l, m, u, v, q] : List (List (Int × Int))).map fun s => Bk.len s x y2).take k) wr)) (fun _ iv _ => 5 - (intOf iv).toNat)
  case atStart => exact ⟨0, _, by omega, rfl, rfl, Lib.hid ⟨World.ownsRow_nil _ _ _ _, Below.refl _ _⟩⟩
  case round =>
    obtain ⟨k, vo, hk, rfl, rfl, ho⟩ := hrel
    by_cases lt : k < 5
    · have e0 : decide ((k : Int) < 5) = true := by rw [decide_eq_true_iff]; omega
      have wk : IntKind.i64.wrap ((k : Int) + 1) = (k : Int) + 1 := by rw [IntKind.wrap_i64]; omega
      obtain ⟨vk, ck, rk⟩ := CELL.out k lt
      have ck' := (ho.out.below.cell (p := ⟨V5.heap.size, k, none⟩) GL.out).trans ck
      have RK0 := Lib.hid (rk.below ho.out.below)
      have ES := LS.out k lt
      have TK : ((([l, m, u, v, q] : List (List (Int × Int))).map fun s => Bk.len s x y2).take (k + 1)) = ((([l, m, u, v, q] : List (List (Int × Int))).map fun s => Bk.len s x y2).take k) ++ [Bk.len (([l, m, u, v, q] : List (List (Int × Int))).getD k []) x y2] := by
        have : k = 0 ∨ k = 1 ∨ k = 2 ∨ k = 3 ∨ k = 4 := by omega
        rcases this with rfl | rfl | rfl | rfl | rfl <;> rfl
      obtain ⟨G, hG⟩ : ∃ G, ((([l, m, u, v, q] : List (List (Int × Int))).map fun s => Bk.len s x y2).take k) = G := ⟨_, rfl⟩
      have GLEN : G.length ≤ 5 := by rw [← hG, List.length_take]; omega
      obtain ⟨s, hs⟩ : ∃ s, ([l, m, u, v, q] : List (List (Int × Int))).getD k [] = s := ⟨_, rfl⟩
      rw [hs] at RK0 ES TK
      rw [hG] at TK ho
      have BS := BN.out s
      have hmax : 0 ≤ x ∧ y2 ≤ 255 ∧ x ≤ y ∧ y ≤ y2 ∧ E = y2 - x + 1 := by have := XX.out; omega
      have LA := Lib.hid (show Bk.LenR s x y2 (Bk.len s x y2) 0 from ⟨(Bk.errR_zero.2 ⟨ES, by unfold Bk.okT; omega, by unfold Bk.okT; omega, by omega⟩).symm, .inl ⟨rfl, rfl⟩⟩)
      have LB := Lib.hid (show Bk.LenR s x y (Bk.len s x y) 0 from ⟨(Bk.errR_zero.2 ⟨ES, by unfold Bk.okT; omega, by unfold Bk.okT; omega, by omega⟩).symm, .inl ⟨rfl, rfl⟩⟩)
      have LC := Lib.hid (fun (hlt : y < y2) => show Bk.LenR s (y + 1) y2 (Bk.len s (y + 1) y2) 0 from ⟨(Bk.errR_zero.2 ⟨ES, by unfold Bk.okT; omega, by unfold Bk.okT; omega, by omega⟩).symm, .inl ⟨rfl, rfl⟩⟩)
      have SPL := Lib.hid (fun (hlt : y < y2) => Bk.len_split (l := s) (a := x) (y := y) (b := y2) hmax.2.2.1 hlt)
      obtain ⟨all, hall⟩ : ∃ n, Bk.len s x y2 = n := ⟨_, rfl⟩
      obtain ⟨left, hleft⟩ : ∃ n, Bk.len s x y = n := ⟨_, rfl⟩
      obtain ⟨right, hright⟩ : ∃ n, Bk.len s (y + 1) y2 = n := ⟨_, rfl⟩
      have EQ := Lib.hid (fun (hge : y = y2) => show all = left by rw [← hall, ← hleft, hge])
      rw [hall] at BS TK LA SPL
      rw [hleft] at LB SPL
      rw [hright] at LC SPL
      have t1 : decide (all < 0) = false := by rw [decide_eq_false_iff_not]; omega
      have t2 : decide (E < all) = false := by rw [decide_eq_false_iff_not]; omega
      have HTK := Lib.hid TK
      have HO := Lib.hid ho.out
      obtain ⟨A9, c9, rfl⟩ := RK0.out.len
      have bal : 0 ≤ all ∧ all ≤ 256 := by omega
      have HYB := Lib.hid (And.intro hmax.1 (And.intro hmax.2.1 (And.intro hmax.2.2.1 hmax.2.2.2.1)))
      clear hG hs hall hleft hright ES BS TK ck rk ho hmax
      go_wp2_with fail
      refine (length_any _ s x y2 all 0 LA.out _ RK0.out).mono ?_
      rintro e W2 ⟨rfl, b⟩
      have B2 := Lib.hid b
      have RK2 := Lib.hid (RK0.out.below b)
      clear b
      go_wp2_with fail
      refine (length_any _ s x y left 0 LB.out _ RK2.out).mono ?_
      rintro e W3 ⟨rfl, b⟩
      have B3 := Lib.hid (below_next B2.out b)
      have RK3 := Lib.hid (RK2.out.below b)
      clear b
      by_cases ylt : y < y2
      · have d0 : decide (y < y2) = true := decide_eq_true ylt
        have wy : IntKind.i64.wrap (y + 1) = y + 1 := by have := HYB.out; rw [IntKind.wrap_i64]; omega
        have sp := SPL.out ylt
        have ws : IntKind.i64.wrap (left + right) = all := by rw [IntKind.wrap_i64]; omega
        have LC1 := Lib.hid (LC.out ylt)
        clear sp ylt
        go_wp2_with fail
        refine (length_any _ s (y + 1) y2 right 0 LC1.out _ RK3.out).mono ?_
        rintro e W4 ⟨rfl, b⟩
        have OB := Lib.hid (own_next HO.out (below_next B3.out b))
        have SZ := OB.out.below.size
        clear b
        go_wp2_with (at_builtin; refine wpList_append_own _ rfl _ _ 49 rfl W0.heap.size 2 i0 (.int .i64 0) 1 8 Try.underlying49 hi hz0 hz1 hz2 rfl (by decide) _ G.length _ rfl (OB.out.alloc _).row ⟨W4.heap.size, 0, none⟩ 1 1 [.int .i64 all] rfl rfl (cells_new _ _ rfl [.int .i64 all] _) (by simp [Value.oneCell']) (by simp [maxLen]; omega) (by omega) (by simp; omega) ?_; intro v2 w2 hown hg2 _)
        have h2 := (OB.out.alloc (.cells #[.int .i64 all] 2)).grow (m := [all]) hown hg2
        rw [← HTK.out] at h2
        have H2 := Lib.hid h2
        clear h2 hown hg2
        go_wp2_with fail
        go_roundw
        case rel => exact ⟨k + 1, _, by omega, by go_num, rfl, H2⟩
        case measure => simp [intOf]; omega
      · have d0 : decide (y < y2) = false := decide_eq_false ylt
        have sp := EQ.out (by have := HYB.out; omega)
        have ws : IntKind.i64.wrap left = all := by rw [IntKind.wrap_i64]; omega
        have ws2 : IntKind.i64.wrap (left + 0) = all := by rw [IntKind.wrap_i64]; omega
        have OB := Lib.hid (own_next HO.out B3.out)
        have SZ := OB.out.below.size
        clear sp ylt
        go_wp2_with (at_builtin; refine wpList_append_own _ rfl _ _ 49 rfl W0.heap.size 2 i0 (.int .i64 0) 1 8 Try.underlying49 hi hz0 hz1 hz2 rfl (by decide) _ G.length _ rfl (OB.out.alloc _).row ⟨W3.heap.size, 0, none⟩ 1 1 [.int .i64 all] rfl rfl (cells_new _ _ rfl [.int .i64 all] _) (by simp [Value.oneCell']) (by simp [maxLen]; omega) (by omega) (by simp; omega) ?_; intro v2 w2 hown hg2 _)
        have h2 := (OB.out.alloc (.cells #[.int .i64 all] 2)).grow (m := [all]) hown hg2
        rw [← HTK.out] at h2
        have H2 := Lib.hid h2
        clear h2 hown hg2
        go_wp2_with fail
        go_roundw
        case rel => exact ⟨k + 1, _, by omega, by go_num, rfl, H2⟩
        case measure => simp [intOf]; omega
    · have e0 : decide ((k : Int) < 5) = false := by rw [decide_eq_false_iff_not]; omega
      obtain rfl : k = 5 := by omega
      have HO := Lib.hid ho.out
      have RI := Lib.hid (rowI_own HO.out.row (by simp))
      obtain ⟨A8, c8, rfl⟩ := HO.out.len
      have k0 := RI.out.at (j := 0) (by simp)
      have k1 := RI.out.at (j := 1) (by simp)
      have k2 := RI.out.at (j := 2) (by simp)
      have k3 := RI.out.at (j := 3) (by simp)
      have k4 := RI.out.at (j := 4) (by simp)
      obtain ⟨gb, go, rfl, k0⟩ := k0
      obtain ⟨b', o', e', k1⟩ := k1
      cases e'
      obtain ⟨b', o', e', k2⟩ := k2
      cases e'
      obtain ⟨b', o', e', k3⟩ := k3
      cases e'
      obtain ⟨b', o', e', k4⟩ := k4
      cases e'
      simp only [List.map_cons, List.map_nil, List.take_succ_cons, List.take_zero, List.getD_cons_zero, List.getD_cons_succ] at k0 k1 k2 k3 k4
      have b0 := BN.out l
      have b1 := BN.out m
      have b2 := BN.out u
      have b3 := BN.out v
      have b4 := BN.out q
      have hmax := XX.out
      have E1 := T1.out
      have E2 := T2.out
      obtain ⟨s0, h0⟩ : ∃ n, Bk.len l x y2 = n := ⟨_, rfl⟩
      obtain ⟨s1, h1⟩ : ∃ n, Bk.len m x y2 = n := ⟨_, rfl⟩
      obtain ⟨s2, h2⟩ : ∃ n, Bk.len u x y2 = n := ⟨_, rfl⟩
      obtain ⟨s3, h3⟩ : ∃ n, Bk.len v x y2 = n := ⟨_, rfl⟩
      obtain ⟨s4, h4⟩ : ∃ n, Bk.len q x y2 = n := ⟨_, rfl⟩
      rw [h0] at k0 b0 E1 E2
      rw [h1] at k1 b1 E1
      rw [h2] at k2 b2 E1
      rw [h3] at k3 b3 E1 E2
      rw [h4] at k4 b4 E2
      obtain ⟨S, hS⟩ : ∃ S, s0 + s1 = S := ⟨_, rfl⟩
      have y1 : IntKind.i64.wrap (s0 + s1) = S := by rw [IntKind.wrap_i64]; omega
      have y3 : IntKind.i64.wrap (s2 + s3) = S := by rw [IntKind.wrap_i64]; omega
      have y4 : IntKind.i64.wrap (s3 + s4) = s0 := by rw [IntKind.wrap_i64]; omega
      rw [Nat.add_zero] at k0
      have gb0 := lt_of_cell k0
      have Q : Hid (CtxW w wr gb go s0 s1 s2 s3 s4 wr) := Lib.hid ⟨(BW.out.trans (HO.out.below.mono BW.out.size)), k0, k1, k2, k3, k4⟩
      have WK := Lib.hid (fun W (h : CtxW w wr gb go s0 s1 s2 s3 s4 W) => works_ctx h)
      clear b0 b1 b2 b3 b4 E1 E2 h0 h1 h2 h3 h4 hS hmax ho RI HO lt hk CELL BN T1 T2 XX LS
      go_wp2_with fail
      go_region_held3 (fun w' => w'.cell? ⟨gb, go, none⟩ = some (.int .i64 s0) ∧ w'.cell? ⟨gb, go + 1, none⟩ = some (.int .i64 s1) ∧ w'.cell? ⟨gb, go + 2, none⟩ = some (.int .i64 s2) ∧ w'.cell? ⟨gb, go + 3, none⟩ = some (.int .i64 s3) ∧ w'.cell? ⟨gb, go + 4, none⟩ = some (.int .i64 s4)) (go_keep)
        (first | (go_at_call 13; refine (WK.out _ (by first | exact Q.out | exact Q.out.drew)).mono ?_; rintro e w20 ⟨rfl, q⟩; have x5 := q.2.1; have x6 := q.2.2.1; have x7 := q.2.2.2.1; have x8 := q.2.2.2.2.1; have x9 := q.2.2.2.2.2; have Q := Lib.hid q; clear q))
      all_goals
        go_wp2_with fail
        go_ret
        exact ⟨rfl, by first | exact Q.out.1 | exact Q.out.1.drew⟩

set_option maxRecDepth 100000 in
theorem lifted (os : Os) (started : os.Started) (H : Type) (enc : TypeId × Value → H) :
    ReturnsInHanded {} Try.checked os 10 .any (Rows.blackoutSumsSpec.pre6 enc Try.prog Try.f10 Rows.blackoutSumsRow.domain false) (Rows.blackoutSumsSpec.post enc Try.prog Try.f10 false true false false) := by
  refine returnsInHanded_of_change (C := Try.checked) own started (by kernel_rfl) Try.func10
    (ChangeSpec.witness6 (enc := enc) (C := Try.checked) false ⟨#[], #[.slice none 0 0, .slice none 0 0, .int .u8 0, .int .u8 0, .int .u8 0], []⟩ 8 (by kernel_rfl) (by kernel_rfl) (by kernel_rfl) (by kernel_rfl)) ?_
  intro W base args ds gs before hval0 hW hcnd _
  have hval : ∀ (j : Nat) t v, Try.f10.params[j]? = some t → args[j]? = some v → Value.okWide Try.prog W .any base t v := hval0
  have hW' := hW
  obtain ⟨p, q, hA0, hV, rfl, hfz, hnd⟩ := hW
  have hA : DataW.TrodAll enc Try.prog W 0 (fun _ => true) true Try.f10.params.toList args.toList ds p := hA0
  rw [Try.params10] at hA hval
  obtain ⟨v0, vs0, d0, ds0, p0, q0, hargs, rfl, rfl, h0, r0⟩ := trodAll_cons hA
  obtain ⟨v1, vs1, d1, ds1, p1, q1, rfl, rfl, rfl, h1, r1⟩ := trodAll_cons r0
  obtain ⟨v2, vs2, d2, ds2, p2, q2, rfl, rfl, rfl, h2, r2⟩ := trodAll_cons r1
  obtain ⟨v3, vs3, d3, ds3, p3, q3, rfl, rfl, rfl, h3, r3⟩ := trodAll_cons r2
  obtain ⟨v4, vs4, d4, ds4, p4, q4, rfl, rfl, rfl, h4, r4⟩ := trodAll_cons r3
  obtain ⟨rfl, rfl, rfl⟩ := trodAll_nil r4
  obtain rfl : args = #[v0, v1, v2, v3, v4] := by cases args; simp_all
  obtain ⟨rfl, rfl⟩ := trodVars_none hV
  obtain ⟨a0, len0, cap0, rfl⟩ := okWide_slice Try.underlying43 (hval 0 43 v0 rfl rfl)
  have k0 := h0
  have lt0 : ∀ x ∈ p0, x.block < W.heap.size := by obtain ⟨m, hm⟩ := k0; exact DataW.trod_lt m _ _ _ hm
  obtain ⟨z0, w0⟩ : ∃ l, InP W a0 len0 cap0 l := by obtain ⟨fuel, hf⟩ := h0; exact open_pairs2 (by simpa [Value.cells] using hf)
  obtain ⟨a1, len1, cap1, rfl⟩ := okWide_slice Try.underlying43 (hval 1 43 v1 rfl rfl)
  have k1 := h1
  have lt1 : ∀ x ∈ p1, x.block < W.heap.size := by obtain ⟨m, hm⟩ := k1; exact DataW.trod_lt m _ _ _ hm
  obtain ⟨z1, w1⟩ : ∃ l, InP W a1 len1 cap1 l := by obtain ⟨fuel, hf⟩ := h1; exact open_pairs2 (by simpa [Value.cells] using hf)
  obtain ⟨a2, rfl, rfl, rfl, w2⟩ := open_int Try.underlying5 (hval 2 5 v2 rfl rfl) h2
  obtain ⟨a3, rfl, rfl, rfl, w3⟩ := open_int Try.underlying5 (hval 3 5 v3 rfl rfl) h3
  obtain ⟨a4, rfl, rfl, rfl, w4⟩ := open_int Try.underlying5 (hval 4 5 v4 rfl rfl) h4
  clear hA0 hval0
  refine (walk a0 len0 cap0 z0 a1 len1 cap1 z1 a2 a3 a4 W w0 w1 w2 w3 w4).mono fun e W' ⟨he, bel⟩ => ?_
  subst he
  exact ⟨_, rfl, _, _, _, [], _, [], hW', trodAll_mk1 (shut_bool Try.underlying4 _), (trodAll_cons_mk (Below.trod laidOut (by kernel_rfl) (of_decide_eq_true (by kernel_rfl)) k0 bel lt0) (trodAll_cons_mk (Below.trod laidOut (by kernel_rfl) (of_decide_eq_true (by kernel_rfl)) k1 bel lt1) (trodAll_cons_mk (shut_int Try.underlying5 w2) (trodAll_cons_mk (shut_int Try.underlying5 w3) (trodAll_cons_mk (shut_int Try.underlying5 w4) trodAll_mk0))))), rfl, bel.frame _, fun h => by cases h⟩

theorem proved : Rows.BlackoutSumsSaid :=
  OpenClaim.holds_of_wide 10 Try.f10 rfl rfl rfl rfl rfl rfl rfl ⟨rfl, rfl, rfl, rfl, rfl⟩ rfl rfl rfl rfl rfl (by kernel_rfl) Try.func10 (by kernel_rfl)
    (of_decide_eq_true (by kernel_rfl)) (by unfold Func.isWrapper; first | (rw [if_pos (by decide +kernel)]; kernel_rfl) | (rw [if_neg (by decide +kernel)]; exact ⟨rfl, rfl⟩))
    (fun os started H enc _ => lifted os started H enc)

end Go.Proofs.Ytodjipbkeddbcaa.blackoutSums
