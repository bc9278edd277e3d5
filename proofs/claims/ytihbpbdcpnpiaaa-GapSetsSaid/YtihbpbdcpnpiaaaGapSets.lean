/- For all beginnings and all pairs of slices of gaps, GapSets returns true: Merge has each time of both lists, once, in order; what Only returns, and what both have, are together that; merged with itself or with nothing, a list stays. No conditions. -/
import Derived.Test.YtihbpbdcpnpiaaaRows
import Derived.Test.YtihbpbdcpnpiaaaGapO
import Derived.Test.YtihbpbdcpnpiaaaGapMe
import Derived.Laws.BitsAllLaws
import Derived.OpenShut
import Derived.ChangeOld
namespace Go.Proofs.Ytihbpbdcpnpiaaa.gapSets
open Go.ChangeShapes Go.WideShapes Go.ChangeAt Go.RowKit

theorem or_in {f : Int} (h0 : 0 ≤ f) (h1 : f ≤ 4294967295) : 0 ≤ bits .or .u32 f 128 ∧ bits .or .u32 f 128 ≤ 4294967295 := by
  rw [u32_or f 128 h0 (by omega) (by decide) (by decide)]
  have := Nat.or_lt_two_pow (x := f.toNat) (y := (128 : Int).toNat) (n := 32) (by omega) (by decide)
  omega
theorem IsRow.below {k : IntKind} {w W : World} {a : Option Addr} {len cap : Nat} {zs : List Int} (h : IsRow k w a len cap zs) (hb : Below w.heap.size w W) : IsRow k W a len cap zs := by
  rcases h with h | ⟨x, e, h1, h2, h3, h4, h5⟩
  · exact .inl h
  · refine .inr ⟨x, e, h1, h2, h3, fun i hi => ?_, h5⟩
    have c := h4 i hi
    obtain ⟨b, o, s⟩ := x
    have hs : s = none := by simpa [Addr.add] using World.cell?_spot (h4 0 (by omega))
    subst hs
    rw [add_flat] at c ⊢
    exact (hb.cell (p := ⟨b, o + i, none⟩) (lt_of_cell c)).trans c

set_option maxRecDepth 100000 in
set_option maxHeartbeats 8000000 in
theorem walk (f : Int) (nr : Int) (a : Option Addr) (len cap : Nat) (zs : List Int) (a' : Option Addr) (len' cap' : Nat) (zs' : List Int) (w : World) (hf : (Lit.int .u32 f).wf = true) (hn : (Lit.int .i8 nr).wf = true) (hr : IsRow .u16 w a len cap zs) (hr' : IsRow .u16 w a' len' cap' zs') :
    Calls Try.prog 11 #[.int .u32 f, .int .i8 nr, .slice a len cap, .slice a' len' cap'] w fun e w' => e = .returned (.bool true) ∧ Below w.heap.size w w' := by
  obtain ⟨f0, f1⟩ := u32_in hf
  obtain ⟨n0, n1⟩ := i8_in hn
  have B0 : Hid (Below w.heap.size w w) := Lib.hid (Below.refl _ w)
  obtain ⟨F0, F1⟩ := or_in f0 f1
  obtain ⟨F, hF⟩ : ∃ z, bits .or .u32 f 128 = z := ⟨_, rfl⟩
  rw [hF] at F0 F1
  obtain ⟨E, hE⟩ : ∃ z, IntKind.u32.wrap (F + nr) = z := ⟨_, rfl⟩
  have E01 : 0 ≤ E ∧ E ≤ 4294967295 := by rw [← hE, IntKind.wrap_u32]; omega
  have v1 : IntKind.i64.wrap F = F := by rw [IntKind.wrap_i64]; omega
  have v2 : IntKind.i64.wrap nr = nr := by rw [IntKind.wrap_i64]; omega
  have v3 : IntKind.i64.wrap (F + nr) = F + nr := by rw [IntKind.wrap_i64]; omega
  have MA := Lib.hid (made_any F a len cap zs w F0 F1 hr)
  have MB := Lib.hid (fun W (hb : Below w.heap.size w W) => made_any E a' len' cap' zs' W E01.1 E01.2 (IsRow.below hr' hb))
  have MX := md_is hr F0 F1
  have MY := md_is hr' E01.1 E01.2
  clear hf hn hr hr'
  obtain ⟨x, hx⟩ : ∃ l, Gp.md F zs (min len 300) = l := ⟨_, rfl⟩
  obtain ⟨y, hy⟩ : ∃ l, Gp.md E zs' (min len' 300) = l := ⟨_, rfl⟩
  rw [hx] at MA MX
  rw [hy] at MB MY
  clear hx hy
  have tx := MX.tl
  have ty := MY.tl
  have e1 : Gp.errL [x, y] = 0 := Gp.errL_ok (by intro l h; simp at h; rcases h with rfl | rfl; exact tx; exact ty)
  have e2 : Gp.errL [y, x] = 0 := Gp.errL_ok (by intro l h; simp at h; rcases h with rfl | rfl; exact ty; exact tx)
  have e3 : Gp.errL [x, x] = 0 := Gp.errL_ok (by intro l h; simp at h; subst h; exact tx)
  have e4 : Gp.errL [[], x] = 0 := Gp.errL_ok (by intro l h; simp at h; rcases h with rfl | rfl; exact Gp.tl_nil; exact tx)
  have M1 := Lib.hid (fun v u W h h' => merge_any v u x y W h h')
  have M2 := Lib.hid (fun v u W h h' => merge_any v u y x W h h')
  have M3 := Lib.hid (fun v u W h h' => merge_any v u x x W h h')
  have M4 := Lib.hid (fun v u W h h' => merge_any v u [] x W h h')
  have ON := Lib.hid (fun v u W h h' => only_any v u x y W h h')
  rw [e1, show mergeO x y = Gp.ms x y by unfold mergeO; rw [if_pos e1]] at M1
  rw [e2, show mergeO y x = Gp.ms x y by unfold mergeO; rw [if_pos e2]; exact Gp.ms_comm ty.inc tx.inc] at M2
  rw [e3, show mergeO x x = x by unfold mergeO; rw [if_pos e3]; exact Gp.ms_self tx.inc] at M3
  rw [e4, show mergeO [] x = x by unfold mergeO; rw [if_pos e4]; exact Gp.ms_nil tx.inc] at M4
  rw [e1, show onlyAO x y = Gp.minus x y by unfold onlyAO; rw [if_pos e1], show onlyBO x y = Gp.minus y x by unfold onlyBO; rw [if_pos e1]] at ON
  have SE := Gp.sets tx.inc ty.inc
  have IM := Lib.hid (Gp.inc_ms tx.inc ty.inc)
  have MM := Lib.hid (fun t => Gp.mem_ms tx.inc ty.inc t)
  have PM := Lib.hid (fun t => Gp.mem_minus (a := x) (b := y) t)
  have QM := Lib.hid (fun t => Gp.mem_minus (a := y) (b := x) t)
  have PI := Lib.hid (show Gp.Inc (Gp.minus x y) from tx.inc.filter _)
  have QI := Lib.hid (show Gp.Inc (Gp.minus y x) from ty.inc.filter _)
  obtain ⟨m, hm⟩ : ∃ l, Gp.ms x y = l := ⟨_, rfl⟩
  obtain ⟨p, hp⟩ : ∃ l, Gp.minus x y = l := ⟨_, rfl⟩
  obtain ⟨q, hq⟩ : ∃ l, Gp.minus y x = l := ⟨_, rfl⟩
  rw [hm] at M1 M2 IM MM SE
  rw [hp] at ON PM PI SE
  rw [hq] at ON QM QI SE
  have BS := Lib.hid (fun k (hk : k < m.length) => Gp.bothTo_succ m x y hk)
  have xl := MX.len
  have yl := MY.len
  have sm := SE.m
  have sp := SE.p
  have sq := SE.q
  obtain ⟨B, hB⟩ : ∃ z, Gp.bothTo m x y m.length = z := ⟨_, rfl⟩
  rw [hB] at sm sp sq
  have HB := Lib.hid hB
  have XL : Hid (x.length ≤ 1000000) := Lib.hid (by omega)
  have YL : Hid (y.length ≤ 1000000) := Lib.hid (by omega)
  have MLL : Hid (m.length ≤ 1000000) := Lib.hid (by omega)
  have PLL : Hid (p.length ≤ 1000000) := Lib.hid (by omega)
  have QLL : Hid (q.length ≤ 1000000) := Lib.hid (by omega)
  have ml9 : m.length ≤ 1000 := by omega
  have k1 : IntKind.i64.wrap ((x.length : Int) + (y.length : Int)) = (x.length : Int) + (y.length : Int) := by rw [IntKind.wrap_i64]; omega
  have k2 : IntKind.i64.wrap ((x.length : Int) + (y.length : Int) - (B : Int)) = (m.length : Int) := by rw [IntKind.wrap_i64]; omega
  have k3 : IntKind.i64.wrap ((x.length : Int) - (B : Int)) = (p.length : Int) := by rw [IntKind.wrap_i64]; omega
  have k4 : IntKind.i64.wrap ((y.length : Int) - (B : Int)) = (q.length : Int) := by rw [IntKind.wrap_i64]; omega
  have k5 : ((m.length : Int) != (m.length : Int)) = false := by simp
  have k6 : ((p.length : Int) != (p.length : Int)) = false := by simp
  have k7 : ((q.length : Int) != (q.length : Int)) = false := by simp
  have SP := Lib.hid (fun v W (h : RowT W v p) => sorted_yes v p W h (fun i hi => Int.le_of_lt (PI.out.lt (by omega) hi)))
  have SQ := Lib.hid (fun v W (h : RowT W v q) => sorted_yes v q W h (fun i hi => Int.le_of_lt (QI.out.lt (by omega) hi)))
  have CX := Lib.hid (fun (v : Value) t r (hr : r = true ↔ t ∈ x) W (h : RowT W v x) => contains_any v x t r hr W h)
  have CY := Lib.hid (fun (v : Value) t r (hr : r = true ↔ t ∈ y) W (h : RowT W v y) => contains_any v y t r hr W h)
  have CP := Lib.hid (fun (v : Value) t r (hr : r = true ↔ t ∈ p) W (h : RowT W v p) => contains_any v p t r hr W h)
  have CQ := Lib.hid (fun (v : Value) t r (hr : r = true ↔ t ∈ q) W (h : RowT W v q) => contains_any v q t r hr W h)
  clear e1 e2 e3 e4 hm hp hq hB SE MX MY tx ty sm sp sq
  go_enter Try.func11, Try.ntmps11
  go_wp2_with fail
  try rw [hF]
  refine (MA.out).mono ?_
  rintro e V1 ⟨u1, rfl, o1⟩
  have B1 := Lib.hid (below_next B0.out o1.below)
  have X1 := Lib.hid (o1.rowT XL.out)
  obtain ⟨a_1, c_1, rfl⟩ := o1.len
  clear o1
  clear B0
  go_wp2_with fail
  try rw [hF]
  try rw [hE]
  refine (MB.out _ B1.out).mono ?_
  rintro e V2 ⟨u2, rfl, o2⟩
  have B2 := Lib.hid (below_next B1.out o2.below)
  have X2 := Lib.hid (X1.out.below o2.below)
  have Y2 := Lib.hid (o2.rowT YL.out)
  obtain ⟨a_2, c_2, rfl⟩ := o2.len
  clear o2
  clear X1 B1
  go_wp2_with fail
  refine (M1.out _ _ _ X2.out Y2.out).mono ?_
  rintro e V3 ⟨u3, rfl, o3⟩
  have B3 := Lib.hid (below_next B2.out o3.below)
  have X3 := Lib.hid (X2.out.below o3.below)
  have Y3 := Lib.hid (Y2.out.below o3.below)
  have M3 := Lib.hid (o3.rowT MLL.out)
  obtain ⟨a_3, c_3, rfl⟩ := o3.len
  clear o3
  clear X2 Y2 B2
  go_wp2_with fail
  refine (M2.out _ _ _ Y3.out X3.out).mono ?_
  rintro e V4 ⟨u4, rfl, o4⟩
  have B4 := Lib.hid (below_next B3.out o4.below)
  have X4 := Lib.hid (X3.out.below o4.below)
  have Y4 := Lib.hid (Y3.out.below o4.below)
  have M4 := Lib.hid (M3.out.below o4.below)
  have N4 := Lib.hid (o4.rowT MLL.out)
  obtain ⟨a_4, c_4, rfl⟩ := o4.len
  clear o4
  clear X3 Y3 M3 B3
  go_wp2_with fail
  refine (ON.out _ _ _ X4.out Y4.out).mono ?_
  rintro e V5 ⟨u5, u6, rfl, o5, o6⟩
  have B5 := Lib.hid (below_next B4.out o5.below)
  have X5 := Lib.hid (X4.out.below o5.below)
  have Y5 := Lib.hid (Y4.out.below o5.below)
  have M5 := Lib.hid (M4.out.below o5.below)
  have N5 := Lib.hid (N4.out.below o5.below)
  have P5 := Lib.hid (o5.rowT PLL.out)
  obtain ⟨a_5, c_5, rfl⟩ := o5.len
  have Q5 := Lib.hid (o6.rowT QLL.out)
  obtain ⟨a_6, c_6, rfl⟩ := o6.len
  clear o5 o6
  clear X4 Y4 M4 N4 B4
  go_wp2_with fail
  refine (equal_same _ _ _ _ M5.out N5.out).mono ?_
  rintro e V6 ⟨rfl, b⟩
  have B6 := Lib.hid (below_next B5.out b)
  have X6 := Lib.hid (X5.out.below b)
  have Y6 := Lib.hid (Y5.out.below b)
  have M6 := Lib.hid (M5.out.below b)
  have P6 := Lib.hid (P5.out.below b)
  have Q6 := Lib.hid (Q5.out.below b)
  clear b
  clear X5 Y5 M5 N5 P5 Q5 B5
  go_wp2_with fail
  obtain ⟨_, A1, r1, e1, cells⟩ := M6.out
  cases e1
  have CC := Lib.hid cells
  clear cells
  go_loop [18, 77] (fun bv iv => ∃ k c : Nat, k ≤ m.length ∧ c ≤ k ∧ bv = .int .i64 c ∧ iv = .int .i64 k ∧ Hid (Gp.bothTo m x y k = c)) (fun _ iv => m.length - (intOf iv).toNat)
  case atStart => exact ⟨0, 0, by omega, by omega, rfl, rfl, Lib.hid rfl⟩
  case round =>
    obtain ⟨k, c, hk, hc, rfl, rfl, hb⟩ := hrel
    by_cases lt : k < m.length
    · have e0 : decide ((k : Int) < (m.length : Int)) = true := by rw [decide_eq_true_iff]; omega
      have wi : IntKind.i64.wrap ((k : Int) + 1) = (k : Int) + 1 := by rw [IntKind.wrap_i64]; omega
      have wc : IntKind.i64.wrap ((c : Int) + 1) = (c : Int) + 1 := by rw [IntKind.wrap_i64]; omega
      have wp : IntKind.i64.wrap ((k : Int) - 1) = (k : Int) - 1 := by rw [IntKind.wrap_i64]; omega
      obtain ⟨b3, o3, e3, x3⟩ := CC.out k lt
      cases e3
      have zm := (MM.out _).1 (Gp.getD_mem lt)
      have ST := Lib.hid (BS.out k lt)
      rw [hb.out] at ST
      have PV : Hid (∀ j, k = j + 1 → ∃ v, V6.cell? ⟨b3, o3 + j, none⟩ = some (.int .i64 v) ∧ v < m.getD k 0) := Lib.hid (fun j hj => by
        obtain ⟨b4, o4, e4, x4⟩ := CC.out j (by omega)
        cases e4
        exact ⟨_, x4, IM.out.lt (by omega) lt⟩)
      obtain ⟨t, ht⟩ : ∃ z, m.getD k 0 = z := ⟨_, rfl⟩
      rw [ht] at x3 zm ST PV
      clear ht hb
      by_cases q1 : t ∈ x
      · by_cases q2 : t ∈ y
        · rw [if_pos ⟨q1, q2⟩] at ST
          have X1 := Lib.hid (CX.out _ t true ⟨fun _ => q1, fun _ => rfl⟩ _ X6.out)
          have Y1 := Lib.hid (CY.out _ t true ⟨fun _ => q2, fun _ => rfl⟩ _ Y6.out)
          have P1 := Lib.hid (CP.out _ t false ⟨fun e => by simp at e, fun e => absurd q2 ((PM.out t).1 e).2⟩ _ P6.out)
          have Q1 := Lib.hid (CQ.out _ t false ⟨fun e => by simp at e, fun e => absurd q1 ((QM.out t).1 e).2⟩ _ Q6.out)
          clear q1 q2 zm
          by_cases k0 : k = 0
          · subst k0
            rw [Nat.add_zero] at x3
            go_wp2_with fail
            refine X1.out.mono ?_
            rintro e w' ⟨rfl, rfl⟩
            go_wp2_with fail
            refine Y1.out.mono ?_
            rintro e w' ⟨rfl, rfl⟩
            go_wp2_with fail
            refine P1.out.mono ?_
            rintro e w' ⟨rfl, rfl⟩
            go_wp2_with fail
            refine Q1.out.mono ?_
            rintro e w' ⟨rfl, rfl⟩
            go_wp2_with fail
            go_round
            case rel => exact ⟨_, c + 1, by omega, by omega, by go_num, by go_num, ST⟩
            case measure => simp [intOf] <;> omega
          · obtain ⟨j, rfl⟩ : ∃ j, k = j + 1 := ⟨k - 1, by omega⟩
            obtain ⟨v, x4, vt⟩ := PV.out j rfl
            have d1 : decide (t ≤ v) = false := by rw [decide_eq_false_iff_not]; omega
            have d2 : decide ((0 : Int) < ((j + 1 : Nat) : Int)) = true := by rw [decide_eq_true_iff]; omega
            have d3 : (0 : Int) < (j : Int) + 1 := by omega
            have d3' : (0 : Int) ≤ (j : Int) + 1 := by omega
            have d4 : IntKind.i64.wrap (j : Int) = (j : Int) := by rw [IntKind.wrap_i64]; omega
            have jl : j < m.length := by omega
            clear k0 vt
            go_wp2_with fail
            refine X1.out.mono ?_
            rintro e w' ⟨rfl, rfl⟩
            go_wp2_with fail
            refine Y1.out.mono ?_
            rintro e w' ⟨rfl, rfl⟩
            go_wp2_with fail
            refine P1.out.mono ?_
            rintro e w' ⟨rfl, rfl⟩
            go_wp2_with fail
            refine Q1.out.mono ?_
            rintro e w' ⟨rfl, rfl⟩
            go_wp2_with fail
            go_round
            case rel => exact ⟨_, c + 1, by omega, by omega, by go_num, by go_num, ST⟩
            case measure => simp [intOf] <;> omega
        · rw [if_neg (fun e => q2 e.2), Nat.add_zero] at ST
          have X1 := Lib.hid (CX.out _ t true ⟨fun _ => q1, fun _ => rfl⟩ _ X6.out)
          have Y1 := Lib.hid (CY.out _ t false ⟨fun e => by simp at e, fun e => absurd e q2⟩ _ Y6.out)
          have P1 := Lib.hid (CP.out _ t true ⟨fun _ => (PM.out t).2 ⟨q1, q2⟩, fun _ => rfl⟩ _ P6.out)
          have Q1 := Lib.hid (CQ.out _ t false ⟨fun e => by simp at e, fun e => absurd q1 ((QM.out t).1 e).2⟩ _ Q6.out)
          clear q1 q2 zm
          by_cases k0 : k = 0
          · subst k0
            rw [Nat.add_zero] at x3
            go_wp2_with fail
            refine X1.out.mono ?_
            rintro e w' ⟨rfl, rfl⟩
            go_wp2_with fail
            refine Y1.out.mono ?_
            rintro e w' ⟨rfl, rfl⟩
            go_wp2_with fail
            refine P1.out.mono ?_
            rintro e w' ⟨rfl, rfl⟩
            go_wp2_with fail
            refine Q1.out.mono ?_
            rintro e w' ⟨rfl, rfl⟩
            go_wp2_with fail
            go_round
            case rel => exact ⟨_, c, by omega, by omega, by first | rfl | go_num, by go_num, ST⟩
            case measure => simp [intOf] <;> omega
          · obtain ⟨j, rfl⟩ : ∃ j, k = j + 1 := ⟨k - 1, by omega⟩
            obtain ⟨v, x4, vt⟩ := PV.out j rfl
            have d1 : decide (t ≤ v) = false := by rw [decide_eq_false_iff_not]; omega
            have d2 : decide ((0 : Int) < ((j + 1 : Nat) : Int)) = true := by rw [decide_eq_true_iff]; omega
            have d3 : (0 : Int) < (j : Int) + 1 := by omega
            have d3' : (0 : Int) ≤ (j : Int) + 1 := by omega
            have d4 : IntKind.i64.wrap (j : Int) = (j : Int) := by rw [IntKind.wrap_i64]; omega
            have jl : j < m.length := by omega
            clear k0 vt
            go_wp2_with fail
            refine X1.out.mono ?_
            rintro e w' ⟨rfl, rfl⟩
            go_wp2_with fail
            refine Y1.out.mono ?_
            rintro e w' ⟨rfl, rfl⟩
            go_wp2_with fail
            refine P1.out.mono ?_
            rintro e w' ⟨rfl, rfl⟩
            go_wp2_with fail
            refine Q1.out.mono ?_
            rintro e w' ⟨rfl, rfl⟩
            go_wp2_with fail
            go_round
            case rel => exact ⟨_, c, by omega, by omega, by first | rfl | go_num, by go_num, ST⟩
            case measure => simp [intOf] <;> omega
      · have q2 : t ∈ y := by
          rcases zm with z | z
          · exact absurd z q1
          · exact z
        rw [if_neg (fun e => q1 e.1), Nat.add_zero] at ST
        have X1 := Lib.hid (CX.out _ t false ⟨fun e => by simp at e, fun e => absurd e q1⟩ _ X6.out)
        have Y1 := Lib.hid (CY.out _ t true ⟨fun _ => q2, fun _ => rfl⟩ _ Y6.out)
        have P1 := Lib.hid (CP.out _ t false ⟨fun e => by simp at e, fun e => absurd q2 ((PM.out t).1 e).2⟩ _ P6.out)
        have Q1 := Lib.hid (CQ.out _ t true ⟨fun _ => (QM.out t).2 ⟨q2, q1⟩, fun _ => rfl⟩ _ Q6.out)
        clear q1 q2 zm
        by_cases k0 : k = 0
        · subst k0
          rw [Nat.add_zero] at x3
          go_wp2_with fail
          refine X1.out.mono ?_
          rintro e w' ⟨rfl, rfl⟩
          go_wp2_with fail
          refine Y1.out.mono ?_
          rintro e w' ⟨rfl, rfl⟩
          go_wp2_with fail
          refine P1.out.mono ?_
          rintro e w' ⟨rfl, rfl⟩
          go_wp2_with fail
          refine Q1.out.mono ?_
          rintro e w' ⟨rfl, rfl⟩
          go_wp2_with fail
          go_round
          case rel => exact ⟨_, c, by omega, by omega, by first | rfl | go_num, by go_num, ST⟩
          case measure => simp [intOf] <;> omega
        · obtain ⟨j, rfl⟩ : ∃ j, k = j + 1 := ⟨k - 1, by omega⟩
          obtain ⟨v, x4, vt⟩ := PV.out j rfl
          have d1 : decide (t ≤ v) = false := by rw [decide_eq_false_iff_not]; omega
          have d2 : decide ((0 : Int) < ((j + 1 : Nat) : Int)) = true := by rw [decide_eq_true_iff]; omega
          have d3 : (0 : Int) < (j : Int) + 1 := by omega
          have d3' : (0 : Int) ≤ (j : Int) + 1 := by omega
          have d4 : IntKind.i64.wrap (j : Int) = (j : Int) := by rw [IntKind.wrap_i64]; omega
          have jl : j < m.length := by omega
          clear k0 vt
          go_wp2_with fail
          refine X1.out.mono ?_
          rintro e w' ⟨rfl, rfl⟩
          go_wp2_with fail
          refine Y1.out.mono ?_
          rintro e w' ⟨rfl, rfl⟩
          go_wp2_with fail
          refine P1.out.mono ?_
          rintro e w' ⟨rfl, rfl⟩
          go_wp2_with fail
          refine Q1.out.mono ?_
          rintro e w' ⟨rfl, rfl⟩
          go_wp2_with fail
          go_round
          case rel => exact ⟨_, c, by omega, by omega, by first | rfl | go_num, by go_num, ST⟩
          case measure => simp [intOf] <;> omega
    · have e0 : decide ((k : Int) < (m.length : Int)) = false := by rw [decide_eq_false_iff_not]; omega
      obtain rfl : B = c := by rw [← HB.out, ← hb.out, show m.length = k by omega]
      clear hb hc
      go_wp2_with fail
      refine (SP.out _ _ P6.out).mono ?_
      rintro e V7 ⟨rfl, b⟩
      have B7 := Lib.hid (below_next B6.out b)
      have X7 := Lib.hid (X6.out.below b)
      have Y7 := Lib.hid (Y6.out.below b)
      have P7 := Lib.hid (P6.out.below b)
      have Q7 := Lib.hid (Q6.out.below b)
      clear b
      clear X6 Y6 M6 P6 Q6 B6
      go_wp2_with fail
      refine (SQ.out _ _ Q7.out).mono ?_
      rintro e V8 ⟨rfl, b⟩
      have B8 := Lib.hid (below_next B7.out b)
      have X8 := Lib.hid (X7.out.below b)
      have Y8 := Lib.hid (Y7.out.below b)
      clear b
      clear X7 Y7 P7 Q7 B7
      go_wp2_with fail
      refine (M3.out _ _ _ X8.out X8.out).mono ?_
      rintro e V9 ⟨u7, rfl, o7⟩
      have B9 := Lib.hid (below_next B8.out o7.below)
      have X9 := Lib.hid (X8.out.below o7.below)
      have Y9 := Lib.hid (Y8.out.below o7.below)
      have O9 := Lib.hid (o7.rowT XL.out)
      obtain ⟨a_7, c_7, rfl⟩ := o7.len
      clear o7
      clear X8 Y8 B8
      go_wp2_with fail
      refine (M4.out _ _ _ ⟨by simp, _, _, rfl, fun j h => by simp at h⟩ X9.out).mono ?_
      rintro e V10 ⟨u8, rfl, o8⟩
      have B10 := Lib.hid (below_next B9.out o8.below)
      have X10 := Lib.hid (X9.out.below o8.below)
      have Y10 := Lib.hid (Y9.out.below o8.below)
      have O10 := Lib.hid (O9.out.below o8.below)
      have R10 := Lib.hid (o8.rowT XL.out)
      obtain ⟨a_8, c_8, rfl⟩ := o8.len
      clear o8
      clear X9 Y9 O9 B9
      go_wp2_with fail
      refine (equal_same _ _ _ _ O10.out X10.out).mono ?_
      rintro e V11 ⟨rfl, b⟩
      have B11 := Lib.hid (below_next B10.out b)
      have X11 := Lib.hid (X10.out.below b)
      have Y11 := Lib.hid (Y10.out.below b)
      have O11 := Lib.hid (O10.out.below b)
      have R11 := Lib.hid (R10.out.below b)
      clear b
      clear X10 Y10 O10 R10 B10
      go_wp2_with fail
      refine (equal_same _ _ _ _ R11.out X11.out).mono ?_
      rintro e V12 ⟨rfl, b⟩
      have B12 := Lib.hid (below_next B11.out b)
      have X12 := Lib.hid (X11.out.below b)
      have Y12 := Lib.hid (Y11.out.below b)
      have O12 := Lib.hid (O11.out.below b)
      have R12 := Lib.hid (R11.out.below b)
      clear b
      clear X11 Y11 O11 R11 B11
      go_wp2_with fail
      refine (works_any _).mono ?_
      rintro e V13 ⟨rfl, b⟩
      have B13 := Lib.hid (below_next B12.out b)
      have X13 := Lib.hid (X12.out.below b)
      have Y13 := Lib.hid (Y12.out.below b)
      have O13 := Lib.hid (O12.out.below b)
      have R13 := Lib.hid (R12.out.below b)
      clear b
      clear X12 Y12 O12 R12 B12
      go_wp2_with fail
      go_ret
      exact ⟨rfl, B13.out⟩

theorem own : ownKnob Try.prog.godebug = none := by kernel_rfl
theorem laidOut : laidOutB Try.prog = true := by kernel_rfl

set_option maxRecDepth 100000 in
theorem lifted (os : Os) (started : os.Started) (H : Type) (enc : TypeId × Value → H) :
    ReturnsInHanded {} Try.checked os 11 .any (Rows.gapSetsSpec.pre6 enc Try.prog Try.f11 Rows.gapSetsRow.domain false) (Rows.gapSetsSpec.post enc Try.prog Try.f11 false true false false) := by
  refine returnsInHanded_of_change (C := Try.checked) own started (by kernel_rfl) Try.func11
    (ChangeSpec.witness6 (enc := enc) (C := Try.checked) false ⟨#[], #[.int .u32 0, .int .i8 0, .slice none 0 0, .slice none 0 0], []⟩ 8 (by kernel_rfl) (by kernel_rfl) (by kernel_rfl) (by kernel_rfl)) ?_
  intro W base args ds gs before hval0 hW hcnd _
  have hval : ∀ (j : Nat) t v, Try.f11.params[j]? = some t → args[j]? = some v → Value.okWide Try.prog W .any base t v := hval0
  have hW' := hW
  obtain ⟨p, q, hA0, hV, rfl, hfz, hnd⟩ := hW
  have hA : DataW.TrodAll enc Try.prog W 0 (fun _ => true) true Try.f11.params.toList args.toList ds p := hA0
  rw [Try.params11] at hA hval
  obtain ⟨v0, vs0, d0, ds0, p0, q0, hargs, rfl, rfl, h0, r0⟩ := trodAll_cons hA
  obtain ⟨v1, vs1, d1, ds1, p1, q1, rfl, rfl, rfl, h1, r1⟩ := trodAll_cons r0
  obtain ⟨v2, vs2, d2, ds2, p2, q2, rfl, rfl, rfl, h2, r2⟩ := trodAll_cons r1
  obtain ⟨v3, vs3, d3, ds3, p3, q3, rfl, rfl, rfl, h3, r3⟩ := trodAll_cons r2
  obtain ⟨rfl, rfl, rfl⟩ := trodAll_nil r3
  obtain rfl : args = #[v0, v1, v2, v3] := by cases args; simp_all
  obtain ⟨rfl, rfl⟩ := trodVars_none hV
  obtain ⟨a0, rfl, rfl, rfl, w0⟩ := open_int Try.underlying41 (hval 0 41 v0 rfl rfl) h0
  obtain ⟨a1, rfl, rfl, rfl, w1⟩ := open_int Try.underlying50 (hval 1 50 v1 rfl rfl) h1
  obtain ⟨a2, len2, cap2, rfl⟩ := okWide_slice Try.underlying42 (hval 2 42 v2 rfl rfl)
  have k2 := h2
  have lt2 : ∀ x ∈ p2, x.block < W.heap.size := by obtain ⟨m, hm⟩ := k2; exact DataW.trod_lt m _ _ _ hm
  obtain ⟨z2, w2⟩ : ∃ zs, IsRow .u16 W a2 len2 cap2 zs := by
    obtain ⟨fuel, hf⟩ := h2
    rcases open_ints Try.underlying42 Try.underlying44 (by kernel_rfl) hf with ⟨hcs, _⟩ | ⟨x, l, c, zs, hcs, _, hl, hm, hz, _, hcell, hwz⟩
    · simp [Value.cells] at hcs
      obtain ⟨rfl, rfl, rfl⟩ := hcs
      exact ⟨[], .inl ⟨rfl, rfl, rfl, rfl⟩⟩
    · simp [Value.cells] at hcs
      obtain ⟨rfl, rfl, rfl⟩ := hcs
      exact ⟨zs, .inr ⟨_, rfl, hl, hm, by simpa using hz, hcell, hwz⟩⟩
  obtain ⟨a3, len3, cap3, rfl⟩ := okWide_slice Try.underlying42 (hval 3 42 v3 rfl rfl)
  have k3 := h3
  have lt3 : ∀ x ∈ p3, x.block < W.heap.size := by obtain ⟨m, hm⟩ := k3; exact DataW.trod_lt m _ _ _ hm
  obtain ⟨z3, w3⟩ : ∃ zs, IsRow .u16 W a3 len3 cap3 zs := by
    obtain ⟨fuel, hf⟩ := h3
    rcases open_ints Try.underlying42 Try.underlying44 (by kernel_rfl) hf with ⟨hcs, _⟩ | ⟨x, l, c, zs, hcs, _, hl, hm, hz, _, hcell, hwz⟩
    · simp [Value.cells] at hcs
      obtain ⟨rfl, rfl, rfl⟩ := hcs
      exact ⟨[], .inl ⟨rfl, rfl, rfl, rfl⟩⟩
    · simp [Value.cells] at hcs
      obtain ⟨rfl, rfl, rfl⟩ := hcs
      exact ⟨zs, .inr ⟨_, rfl, hl, hm, by simpa using hz, hcell, hwz⟩⟩
  clear hA0 hval0
  refine (walk a0 a1 a2 len2 cap2 z2 a3 len3 cap3 z3 W w0 w1 w2 w3).mono fun e W' ⟨he, bel⟩ => ?_
  subst he
  exact ⟨_, rfl, _, _, _, [], _, [], hW', trodAll_mk1 (shut_bool Try.underlying4 _), (trodAll_cons_mk (shut_int Try.underlying41 w0) (trodAll_cons_mk (shut_int Try.underlying50 w1) (trodAll_cons_mk (Below.trod laidOut (by kernel_rfl) (of_decide_eq_true (by kernel_rfl)) k2 bel lt2) (trodAll_cons_mk (Below.trod laidOut (by kernel_rfl) (of_decide_eq_true (by kernel_rfl)) k3 bel lt3) trodAll_mk0)))), rfl, bel.frame _, fun h => by cases h⟩

theorem proved : Rows.GapSetsSaid :=
  OpenClaim.holds_of_wide 11 Try.f11 rfl rfl rfl rfl rfl rfl rfl ⟨rfl, rfl, rfl, rfl, rfl⟩ rfl rfl rfl rfl rfl (by kernel_rfl) Try.func11 (by kernel_rfl)
    (of_decide_eq_true (by kernel_rfl)) (by unfold Func.isWrapper; first | (rw [if_pos (by decide +kernel)]; kernel_rfl) | (rw [if_neg (by decide +kernel)]; exact ⟨rfl, rfl⟩))
    (fun os started H enc _ => lifted os started H enc)

end Go.Proofs.Ytihbpbdcpnpiaaa.gapSets
