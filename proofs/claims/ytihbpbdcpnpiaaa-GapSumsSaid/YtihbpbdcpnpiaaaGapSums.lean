/- For all beginnings and all slices of gaps, GapSums returns true: the gaps are those that the list was made of, and add up; Least is the smallest one, Even its value if all are the same. No conditions. -/
import Derived.Test.YtihbpbdcpnpiaaaRows
import Derived.Test.YtihbpbdcpnpiaaaGapN
import Derived.OpenShut
import Derived.ChangeOld
namespace Go.Proofs.Ytihbpbdcpnpiaaa.gapSums
open Go.ChangeShapes Go.WideShapes Go.ChangeAt Go.RowKit

set_option maxRecDepth 100000 in
set_option maxHeartbeats 8000000 in
theorem walk (f : Int) (a : Option Addr) (len cap : Nat) (zs : List Int) (w : World) (hf : (Lit.int .u32 f).wf = true) (hr : IsRow .u16 w a len cap zs) :
    Calls Try.prog 8 #[.int .u32 f, .slice a len cap] w fun e w' => e = .returned (.bool true) ∧ Below w.heap.size w w' := by
  have hf : 0 ≤ f ∧ f ≤ 4294967295 := by simpa [Lit.wf, show IntKind.u32.min = 0 from rfl, show IntKind.u32.max = 4294967295 from rfl] using hf
  obtain ⟨f0, f1⟩ := hf
  have B0 : Hid (Below w.heap.size w w) := Lib.hid (Below.refl _ w)
  have MA := Lib.hid (made_any f a len cap zs w f0 f1 hr)
  obtain ⟨N, hN⟩ : ∃ N, min len 300 = N := ⟨_, rfl⟩
  rw [hN] at MA
  have G6 := hr.g16 N (by omega)
  have TL := Gp.md_tl (f := f) G6 f0 f1 (by omega)
  have MG := Lib.hid (fun i (hi : i < N) => Gp.md_gap f zs (n := N) (i := i) hi)
  have MT := Lib.hid (fun i (hi : i < N + 1) => Gp.md_at f zs (n := N) (i := i) hi)
  have TB := Lib.hid (fun k (hk : k ≤ N) => Gp.tAt_bd (f := f) G6 k hk)
  have GS := Lib.hid (fun j (hj : j < N) => hr.spot j (by omega))
  have G7 := Lib.hid G6
  have EL : Gp.errL [Gp.md f zs N] = 0 := Gp.errL_ok (by intro l h; simp at h; subst h; exact TL)
  have ML := Gp.md_len f zs N
  have N3 : N ≤ 300 := by omega
  have NL : N ≤ len := by omega
  clear hr hN TL G6
  obtain ⟨l, hl⟩ : ∃ l, Gp.md f zs N = l := ⟨_, rfl⟩
  rw [hl] at MA MG MT EL ML
  clear hl
  have GA := Lib.hid (fun v W h => gaps_any v l W h)
  have GE : gapsO l = Gp.gapsL l := by unfold gapsO; rw [if_pos EL]
  have GL : (Gp.gapsL l).length = N := by rw [Gp.gapsL_len]; omega
  obtain ⟨n1, b1, h1⟩ : ∃ n b, leastO l = (n, b) := ⟨_, _, rfl⟩
  obtain ⟨n2, b2, h2⟩ : ∃ n b, evenO l = (n, b) := ⟨_, _, rfl⟩
  have LE := Lib.hid (fun v W h => least_any v l n1 b1 h1 W h)
  have EV := Lib.hid (fun v W h => even_any v l n2 b2 h2 W h)
  unfold leastO at h1
  unfold evenO at h2
  obtain ⟨G, hG⟩ : ∃ G, Gp.gapsL l = G := ⟨_, rfl⟩
  rw [GE, hG] at h1 h2
  rw [EL, GE, hG] at GA
  rw [EL] at LE EV
  rw [hG] at GL MG
  have LN : Hid (l.length = N + 1) := Lib.hid ML
  have GN : Hid (G.length = N) := Lib.hid GL
  clear EL GE hG ML GL
  have wl : IntKind.i64.wrap ((l.length : Int) - 1) = (G.length : Int) := by have := LN.out; have := GN.out; rw [IntKind.wrap_i64]; omega
  by_cases z : G = []
  · subst z
    rw [if_pos rfl] at h1 h2
    cases h1
    cases h2
    go_enter Try.func8, Try.ntmps8
    go_wp2_with fail
    refine (MA.out).mono ?_
    rintro e V1 ⟨u1, rfl, o1⟩
    have B1 := Lib.hid (below_next B0.out o1.below)
    have L1 := Lib.hid (o1.rowT (by have := LN.out; omega))
    obtain ⟨a_1, c_1, rfl⟩ := o1.len
    clear o1
    clear B0
    go_wp2_with fail
    refine (GA.out _ _ L1.out).mono ?_
    rintro e V2 ⟨u2, rfl, o2⟩
    have B2 := Lib.hid (below_next B1.out o2.below)
    have L2 := Lib.hid (L1.out.below o2.below)
    have G_2 := Lib.hid (o2.rowT (by have := GN.out; omega))
    obtain ⟨a_2, c_2, rfl⟩ := o2.len
    clear o2
    clear L1 B1
    go_wp2_with fail
    refine (LE.out _ _ L2.out).mono ?_
    rintro e V3 ⟨rfl, b⟩
    have B3 := Lib.hid (below_next B2.out b)
    have L3 := Lib.hid (L2.out.below b)
    have G_3 := Lib.hid (G_2.out.below b)
    clear b
    clear L2 G_2 B2
    go_wp2_with fail
    refine (EV.out _ _ L3.out).mono ?_
    rintro e V4 ⟨rfl, b⟩
    have B4 := Lib.hid (below_next B3.out b)
    have L4 := Lib.hid (L3.out.below b)
    have G_4 := Lib.hid (G_3.out.below b)
    clear b
    clear L3 G_3 B3
    go_wp2_with fail
    go_loop [14, 65] (fun sv iv => sv = .int .i64 0 ∧ iv = .int .i64 0) (fun _ _ => 0)
    case atStart => exact ⟨rfl, rfl⟩
    case round =>
      obtain ⟨rfl, rfl⟩ := hrel
      have SUM : Hid ((0 : Int) = Gp.tAt f zs ([] : List Int).length - f) := Lib.hid (show (0 : Int) = f - f by omega)
      have NG : l.length = ([] : List Int).length + 1 := by have := LN.out; have := GN.out; omega
      obtain ⟨_, A1, k1, e1, lc⟩ := L4.out
      cases e1
      obtain ⟨b5, o5, e5, x5⟩ := lc ([] : List Int).length (by omega)
      obtain ⟨b6, o6, e6, x6⟩ := lc 0 (by omega)
      cases e5
      cases e6
      rw [Nat.add_zero] at x6
      rw [MT.out 0 (by omega)] at x6
      have hgn := GN.out
      rw [MT.out ([] : List Int).length (by omega)] at x5
      have tb := TB.out ([] : List Int).length (by omega)
      obtain ⟨E, hE⟩ : ∃ E, Gp.tAt f zs ([] : List Int).length = E := ⟨_, rfl⟩
      rw [hE] at x5 tb SUM
      replace x6 : V4.cell? ⟨b5, o5, none⟩ = some (.int .i64 f) := x6
      have we : IntKind.i64.wrap (E - f) = E - f := by rw [IntKind.wrap_i64]; omega
      have r1 : ([] : List Int).length < l.length := by omega
      have r2 : 0 < l.length := by omega
      have r3 : (([] : List Int).length : Int) < (l.length : Int) := by omega
      have r4 : (0 : Int) < (l.length : Int) := by omega
      have wg : IntKind.i64.wrap (([] : List Int).length : Int) = (([] : List Int).length : Int) := by rw [IntKind.wrap_i64]; omega
      have ne : (E - f != E - f) = false := by simp
      clear hE lc hgn tb
      have ef : E = f := by have := SUM.out; omega
      subst ef
      have nz : (0 != E - E) = false := by rw [bne_eq_false_iff_eq]; omega
      have we0 : IntKind.i64.wrap (E - E) = 0 := by rw [IntKind.wrap_i64]; omega
      go_wp2_with fail
      go_quiet (fail)
      go_wp2_with fail
      refine (works_any _).mono ?_
      rintro e W9 ⟨rfl, b⟩
      have B9 := Lib.hid (below_next (Lib.hid (below_drewN B4.out nq)).out b)
      clear b
      go_wp2_with fail
      go_ret
      exact ⟨rfl, B9.out⟩
  · rw [if_neg z] at h1 h2
    have GP := len_pos z
    clear z
    cases h1
    have g0 : decide ((0 : Int) < (G.length : Int)) = true := by rw [decide_eq_true_iff]; omega
    have g0' : decide (0 < G.length) = true := decide_eq_true GP
    have g1 : ((G.length : Int) == 0) = false := by rw [beq_eq_false_iff_ne]; omega
    have MI := Lib.hid (fun u W (h : RowT W u G) => mins_any u G GP W h)
    have MX := Lib.hid (fun u W (h : RowT W u G) => maxs_any u G GP W h)
    obtain ⟨mi, hmi⟩ : ∃ m, Gp.minTo G G.length = m := ⟨_, rfl⟩
    obtain ⟨ma, hma⟩ : ∃ m, Gp.maxTo G G.length = m := ⟨_, rfl⟩
    rw [hmi] at MI h2 LE
    rw [hma] at MX h2
    clear hmi hma
    by_cases q : mi = ma
    · have q0 : (mi == ma) = true := by rw [beq_iff_eq]; exact q
      rw [if_pos q] at h2
      obtain ⟨y0, hy⟩ : ∃ y, G.getD 0 0 = y := ⟨_, rfl⟩
      have HY := Lib.hid hy
      rw [hy] at h2
      cases h2
      clear hy
      clear q
      go_enter Try.func8, Try.ntmps8
      go_wp2_with fail
      refine (MA.out).mono ?_
      rintro e V1 ⟨u1, rfl, o1⟩
      have B1 := Lib.hid (below_next B0.out o1.below)
      have L1 := Lib.hid (o1.rowT (by have := LN.out; omega))
      obtain ⟨a_1, c_1, rfl⟩ := o1.len
      clear o1
      clear B0
      go_wp2_with fail
      refine (GA.out _ _ L1.out).mono ?_
      rintro e V2 ⟨u2, rfl, o2⟩
      have B2 := Lib.hid (below_next B1.out o2.below)
      have L2 := Lib.hid (L1.out.below o2.below)
      have G_2 := Lib.hid (o2.rowT (by have := GN.out; omega))
      obtain ⟨a_2, c_2, rfl⟩ := o2.len
      clear o2
      clear L1 B1
      go_wp2_with fail
      refine (LE.out _ _ L2.out).mono ?_
      rintro e V3 ⟨rfl, b⟩
      have B3 := Lib.hid (below_next B2.out b)
      have L3 := Lib.hid (L2.out.below b)
      have G_3 := Lib.hid (G_2.out.below b)
      clear b
      clear L2 G_2 B2
      go_wp2_with fail
      refine (EV.out _ _ L3.out).mono ?_
      rintro e V4 ⟨rfl, b⟩
      have B4 := Lib.hid (below_next B3.out b)
      have L4 := Lib.hid (L3.out.below b)
      have G_4 := Lib.hid (G_3.out.below b)
      clear b
      clear L3 G_3 B3
      go_wp2_with fail
      go_loop [14, 65] (fun sv iv => ∃ (k : Nat) (s : Int), k ≤ G.length ∧ sv = .int .i64 s ∧ iv = .int .i64 k ∧ Hid (s = Gp.tAt f zs k - f)) (fun _ iv => G.length - (intOf iv).toNat)
      case atStart => exact ⟨0, 0, by omega, rfl, rfl, Lib.hid (show (0 : Int) = f - f by omega)⟩
      case round =>
        obtain ⟨k, s, hk, rfl, rfl, hs⟩ := hrel
        by_cases lt : k < G.length
        · have e0 : decide ((k : Int) < (G.length : Int)) = true := by rw [decide_eq_true_iff]; omega
          have kN : k < N := by have := GN.out; omega
          have wi : IntKind.i64.wrap ((k : Int) + 1) = (k : Int) + 1 := by rw [IntKind.wrap_i64]; omega
          obtain ⟨_, A2, k2, e2, gc⟩ := G_4.out
          cases e2
          obtain ⟨b3, o3, e3, x3⟩ := gc k lt
          cases e3
          rw [MG.out k kN] at x3
          obtain ⟨b4, o4, e4, x4⟩ := GS.out k kN
          cases e4
          have x4 := (B4.out.cell (p := ⟨b4, o4 + k, none⟩) (lt_of_cell x4)).trans x4
          have g6 := G7.out k kN
          have tb := TB.out k (by omega)
          rw [show Gp.tAt f zs k = s + f by have := hs.out; omega] at tb
          have ST := Lib.hid (show s + (zs.getD k 0 + 1) = Gp.tAt f zs (k + 1) - f by have := hs.out; have := Gp.md_sum f zs k; omega)
          obtain ⟨g, hg⟩ : ∃ g, zs.getD k 0 = g := ⟨_, rfl⟩
          rw [hg] at x3 x4 g6 ST
          have w1 : IntKind.i64.wrap g = g := by rw [IntKind.wrap_i64]; omega
          have w2 : IntKind.i64.wrap (g + 1) = g + 1 := by rw [IntKind.wrap_i64]; omega
          have w3 : IntKind.i64.wrap (s + (g + 1)) = s + (g + 1) := by rw [IntKind.wrap_i64]; omega
          have ne : (g + 1 != g + 1) = false := by simp
          have kl : k < len := by omega
          have kl2 : (k : Int) < (len : Int) := by omega
          clear hg gc g6 tb hs
          go_wp2_with fail
          go_round
          case rel => exact ⟨k + 1, s + (g + 1), by omega, rfl, by go_num, ST⟩
          case measure => simp [intOf]; omega
        · have e0 : decide ((k : Int) < (G.length : Int)) = false := by rw [decide_eq_false_iff_not]; omega
          obtain rfl : k = G.length := by omega
          have SUM := hs
          have NG : l.length = G.length + 1 := by have := LN.out; have := GN.out; omega
          obtain ⟨_, A1, k1, e1, lc⟩ := L4.out
          cases e1
          obtain ⟨b5, o5, e5, x5⟩ := lc G.length (by omega)
          obtain ⟨b6, o6, e6, x6⟩ := lc 0 (by omega)
          cases e5
          cases e6
          rw [Nat.add_zero] at x6
          rw [MT.out 0 (by omega)] at x6
          have hgn := GN.out
          rw [MT.out G.length (by omega)] at x5
          have tb := TB.out G.length (by omega)
          obtain ⟨E, hE⟩ : ∃ E, Gp.tAt f zs G.length = E := ⟨_, rfl⟩
          rw [hE] at x5 tb SUM
          replace x6 : V4.cell? ⟨b5, o5, none⟩ = some (.int .i64 f) := x6
          have we : IntKind.i64.wrap (E - f) = E - f := by rw [IntKind.wrap_i64]; omega
          have r1 : G.length < l.length := by omega
          have r2 : 0 < l.length := by omega
          have r3 : (G.length : Int) < (l.length : Int) := by omega
          have r4 : (0 : Int) < (l.length : Int) := by omega
          have wg : IntKind.i64.wrap (G.length : Int) = (G.length : Int) := by rw [IntKind.wrap_i64]; omega
          have ne : (E - f != E - f) = false := by simp
          clear hE lc hgn tb
          obtain rfl : s = E - f := SUM.out
          obtain ⟨_, A2, k2, e2, gc⟩ := G_4.out
          cases e2
          obtain ⟨b7, o7, e7, x7⟩ := gc 0 GP
          cases e7
          rw [Nat.add_zero] at x7
          rw [HY.out] at x7
          clear gc
          go_wp2_with fail
          go_quiet (fail)
          go_wp2_with (first | (go_at_call 35; refine (MI.out _ _ (G_4.out.drewN nq)).mono ?_; rintro e w' ⟨rfl, rfl⟩) | (go_at_call 36; refine (MX.out _ _ (G_4.out.drewN nq)).mono ?_; rintro e w' ⟨rfl, rfl⟩))
          refine (works_any _).mono ?_
          rintro e W9 ⟨rfl, b⟩
          have B9 := Lib.hid (below_next (Lib.hid (below_drewN B4.out nq)).out b)
          clear b
          go_wp2_with fail
          go_ret
          exact ⟨rfl, B9.out⟩
    · have q0 : (mi == ma) = false := by rw [beq_eq_false_iff_ne]; exact q
      rw [if_neg q] at h2
      obtain ⟨y0, hy⟩ : ∃ y, G.getD 0 0 = y := ⟨_, rfl⟩
      have HY := Lib.hid hy
      cases h2
      clear hy
      clear q
      go_enter Try.func8, Try.ntmps8
      go_wp2_with fail
      refine (MA.out).mono ?_
      rintro e V1 ⟨u1, rfl, o1⟩
      have B1 := Lib.hid (below_next B0.out o1.below)
      have L1 := Lib.hid (o1.rowT (by have := LN.out; omega))
      obtain ⟨a_1, c_1, rfl⟩ := o1.len
      clear o1
      clear B0
      go_wp2_with fail
      refine (GA.out _ _ L1.out).mono ?_
      rintro e V2 ⟨u2, rfl, o2⟩
      have B2 := Lib.hid (below_next B1.out o2.below)
      have L2 := Lib.hid (L1.out.below o2.below)
      have G_2 := Lib.hid (o2.rowT (by have := GN.out; omega))
      obtain ⟨a_2, c_2, rfl⟩ := o2.len
      clear o2
      clear L1 B1
      go_wp2_with fail
      refine (LE.out _ _ L2.out).mono ?_
      rintro e V3 ⟨rfl, b⟩
      have B3 := Lib.hid (below_next B2.out b)
      have L3 := Lib.hid (L2.out.below b)
      have G_3 := Lib.hid (G_2.out.below b)
      clear b
      clear L2 G_2 B2
      go_wp2_with fail
      refine (EV.out _ _ L3.out).mono ?_
      rintro e V4 ⟨rfl, b⟩
      have B4 := Lib.hid (below_next B3.out b)
      have L4 := Lib.hid (L3.out.below b)
      have G_4 := Lib.hid (G_3.out.below b)
      clear b
      clear L3 G_3 B3
      go_wp2_with fail
      go_loop [14, 65] (fun sv iv => ∃ (k : Nat) (s : Int), k ≤ G.length ∧ sv = .int .i64 s ∧ iv = .int .i64 k ∧ Hid (s = Gp.tAt f zs k - f)) (fun _ iv => G.length - (intOf iv).toNat)
      case atStart => exact ⟨0, 0, by omega, rfl, rfl, Lib.hid (show (0 : Int) = f - f by omega)⟩
      case round =>
        obtain ⟨k, s, hk, rfl, rfl, hs⟩ := hrel
        by_cases lt : k < G.length
        · have e0 : decide ((k : Int) < (G.length : Int)) = true := by rw [decide_eq_true_iff]; omega
          have kN : k < N := by have := GN.out; omega
          have wi : IntKind.i64.wrap ((k : Int) + 1) = (k : Int) + 1 := by rw [IntKind.wrap_i64]; omega
          obtain ⟨_, A2, k2, e2, gc⟩ := G_4.out
          cases e2
          obtain ⟨b3, o3, e3, x3⟩ := gc k lt
          cases e3
          rw [MG.out k kN] at x3
          obtain ⟨b4, o4, e4, x4⟩ := GS.out k kN
          cases e4
          have x4 := (B4.out.cell (p := ⟨b4, o4 + k, none⟩) (lt_of_cell x4)).trans x4
          have g6 := G7.out k kN
          have tb := TB.out k (by omega)
          rw [show Gp.tAt f zs k = s + f by have := hs.out; omega] at tb
          have ST := Lib.hid (show s + (zs.getD k 0 + 1) = Gp.tAt f zs (k + 1) - f by have := hs.out; have := Gp.md_sum f zs k; omega)
          obtain ⟨g, hg⟩ : ∃ g, zs.getD k 0 = g := ⟨_, rfl⟩
          rw [hg] at x3 x4 g6 ST
          have w1 : IntKind.i64.wrap g = g := by rw [IntKind.wrap_i64]; omega
          have w2 : IntKind.i64.wrap (g + 1) = g + 1 := by rw [IntKind.wrap_i64]; omega
          have w3 : IntKind.i64.wrap (s + (g + 1)) = s + (g + 1) := by rw [IntKind.wrap_i64]; omega
          have ne : (g + 1 != g + 1) = false := by simp
          have kl : k < len := by omega
          have kl2 : (k : Int) < (len : Int) := by omega
          clear hg gc g6 tb hs
          go_wp2_with fail
          go_round
          case rel => exact ⟨k + 1, s + (g + 1), by omega, rfl, by go_num, ST⟩
          case measure => simp [intOf]; omega
        · have e0 : decide ((k : Int) < (G.length : Int)) = false := by rw [decide_eq_false_iff_not]; omega
          obtain rfl : k = G.length := by omega
          have SUM := hs
          have NG : l.length = G.length + 1 := by have := LN.out; have := GN.out; omega
          obtain ⟨_, A1, k1, e1, lc⟩ := L4.out
          cases e1
          obtain ⟨b5, o5, e5, x5⟩ := lc G.length (by omega)
          obtain ⟨b6, o6, e6, x6⟩ := lc 0 (by omega)
          cases e5
          cases e6
          rw [Nat.add_zero] at x6
          rw [MT.out 0 (by omega)] at x6
          have hgn := GN.out
          rw [MT.out G.length (by omega)] at x5
          have tb := TB.out G.length (by omega)
          obtain ⟨E, hE⟩ : ∃ E, Gp.tAt f zs G.length = E := ⟨_, rfl⟩
          rw [hE] at x5 tb SUM
          replace x6 : V4.cell? ⟨b5, o5, none⟩ = some (.int .i64 f) := x6
          have we : IntKind.i64.wrap (E - f) = E - f := by rw [IntKind.wrap_i64]; omega
          have r1 : G.length < l.length := by omega
          have r2 : 0 < l.length := by omega
          have r3 : (G.length : Int) < (l.length : Int) := by omega
          have r4 : (0 : Int) < (l.length : Int) := by omega
          have wg : IntKind.i64.wrap (G.length : Int) = (G.length : Int) := by rw [IntKind.wrap_i64]; omega
          have ne : (E - f != E - f) = false := by simp
          clear hE lc hgn tb
          obtain rfl : s = E - f := SUM.out
          obtain ⟨_, A2, k2, e2, gc⟩ := G_4.out
          cases e2
          obtain ⟨b7, o7, e7, x7⟩ := gc 0 GP
          cases e7
          rw [Nat.add_zero] at x7
          rw [HY.out] at x7
          clear gc
          go_wp2_with fail
          go_quiet (fail)
          go_wp2_with (first | (go_at_call 35; refine (MI.out _ _ (G_4.out.drewN nq)).mono ?_; rintro e w' ⟨rfl, rfl⟩) | (go_at_call 36; refine (MX.out _ _ (G_4.out.drewN nq)).mono ?_; rintro e w' ⟨rfl, rfl⟩))
          refine (works_any _).mono ?_
          rintro e W9 ⟨rfl, b⟩
          have B9 := Lib.hid (below_next (Lib.hid (below_drewN B4.out nq)).out b)
          clear b
          go_wp2_with fail
          go_ret
          exact ⟨rfl, B9.out⟩

theorem own : ownKnob Try.prog.godebug = none := by kernel_rfl
theorem laidOut : laidOutB Try.prog = true := by kernel_rfl

set_option maxRecDepth 100000 in
theorem lifted (os : Os) (started : os.Started) (H : Type) (enc : TypeId × Value → H) :
    ReturnsInHanded {} Try.checked os 8 .any (Rows.gapSumsSpec.pre6 enc Try.prog Try.f8 Rows.gapSumsRow.domain false) (Rows.gapSumsSpec.post enc Try.prog Try.f8 false true false false) := by
  refine returnsInHanded_of_change (C := Try.checked) own started (by kernel_rfl) Try.func8
    (ChangeSpec.witness6 (enc := enc) (C := Try.checked) false ⟨#[], #[.int .u32 0, .slice none 0 0], []⟩ 8 (by kernel_rfl) (by kernel_rfl) (by kernel_rfl) (by kernel_rfl)) ?_
  intro W base args ds gs before hval0 hW hcnd _
  have hval : ∀ (j : Nat) t v, Try.f8.params[j]? = some t → args[j]? = some v → Value.okWide Try.prog W .any base t v := hval0
  have hW' := hW
  obtain ⟨p, q, hA0, hV, rfl, hfz, hnd⟩ := hW
  have hA : DataW.TrodAll enc Try.prog W 0 (fun _ => true) true Try.f8.params.toList args.toList ds p := hA0
  rw [Try.params8] at hA hval
  obtain ⟨v0, vs0, d0, ds0, p0, q0, hargs, rfl, rfl, h0, r0⟩ := trodAll_cons hA
  obtain ⟨v1, vs1, d1, ds1, p1, q1, rfl, rfl, rfl, h1, r1⟩ := trodAll_cons r0
  obtain ⟨rfl, rfl, rfl⟩ := trodAll_nil r1
  obtain rfl : args = #[v0, v1] := by cases args; simp_all
  obtain ⟨rfl, rfl⟩ := trodVars_none hV
  obtain ⟨a0, rfl, rfl, rfl, w0⟩ := open_int Try.underlying41 (hval 0 41 v0 rfl rfl) h0
  obtain ⟨a1, len1, cap1, rfl⟩ := okWide_slice Try.underlying42 (hval 1 42 v1 rfl rfl)
  have k1 := h1
  have lt1 : ∀ x ∈ p1, x.block < W.heap.size := by obtain ⟨m, hm⟩ := k1; exact DataW.trod_lt m _ _ _ hm
  obtain ⟨z1, w1⟩ : ∃ zs, IsRow .u16 W a1 len1 cap1 zs := by
    obtain ⟨fuel, hf⟩ := h1
    rcases open_ints Try.underlying42 Try.underlying44 (by kernel_rfl) hf with ⟨hcs, _⟩ | ⟨x, l, c, zs, hcs, _, hl, hm, hz, _, hcell, hwz⟩
    · simp [Value.cells] at hcs
      obtain ⟨rfl, rfl, rfl⟩ := hcs
      exact ⟨[], .inl ⟨rfl, rfl, rfl, rfl⟩⟩
    · simp [Value.cells] at hcs
      obtain ⟨rfl, rfl, rfl⟩ := hcs
      exact ⟨zs, .inr ⟨_, rfl, hl, hm, by simpa using hz, hcell, hwz⟩⟩
  clear hA0 hval0
  refine (walk a0 a1 len1 cap1 z1 W w0 w1).mono fun e W' ⟨he, bel⟩ => ?_
  subst he
  exact ⟨_, rfl, _, _, _, [], _, [], hW', trodAll_mk1 (shut_bool Try.underlying4 _), (trodAll_cons_mk (shut_int Try.underlying41 w0) (trodAll_cons_mk (Below.trod laidOut (by kernel_rfl) (of_decide_eq_true (by kernel_rfl)) k1 bel lt1) trodAll_mk0)), rfl, bel.frame _, fun h => by cases h⟩

theorem proved : Rows.GapSumsSaid :=
  OpenClaim.holds_of_wide 8 Try.f8 rfl rfl rfl rfl rfl rfl rfl ⟨rfl, rfl, rfl, rfl, rfl⟩ rfl rfl rfl rfl rfl (by kernel_rfl) Try.func8 (by kernel_rfl)
    (of_decide_eq_true (by kernel_rfl)) (by unfold Func.isWrapper; first | (rw [if_pos (by decide +kernel)]; kernel_rfl) | (rw [if_neg (by decide +kernel)]; exact ⟨rfl, rfl⟩))
    (fun os started H enc _ => lifted os started H enc)

end Go.Proofs.Ytihbpbdcpnpiaaa.gapSums
