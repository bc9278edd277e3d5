/- For all beginnings, slices of gaps, other times and indexes, GapNearest returns true: no time is nearer than the one that Near names, and none before it is as near; a time of the list is the nearest to itself. No conditions. -/
import Derived.Test.YtihbpbdcpnpiaaaRows
import Derived.Test.YtihbpbdcpnpiaaaGapO
import Derived.OpenShut
import Derived.ChangeOld
namespace Go.Proofs.Ytihbpbdcpnpiaaa.gapNearest
open Go.ChangeShapes Go.WideShapes Go.ChangeAt Go.RowKit

theorem near_self {l : List Int} (h : Gp.Inc l) {j : Nat} (hj : j < l.length) : Gp.Near l (l.getD j 0) l.length j :=
  ⟨hj, fun k _ => by omega, fun k hk => by have := h.lt hk hj; omega⟩
theorem isNear_of {l : List Int} {t : Int} {i : Nat} (h : Gp.Tl l) (ht : Gp.okT t) (n : Gp.Near l t l.length i) : IsNear l t i 0 := by
  refine .inr (.inr ⟨Gp.errL_ok (fun m hm => ?_), n, rfl⟩)
  simp at hm
  rcases hm with rfl | rfl
  · exact h
  · exact ⟨by simp, fun z hz => by simp at hz; subst hz; exact ht, Gp.inc_one t⟩
/-- what stands through the rounds: the list, the four times, and what lay before -/
structure NC (w : World) (v u : Value) (l ts : List Int) (W : World) : Prop where
  below : Below w.heap.size w W
  row : RowT W v l
  times : RowT W u ts
theorem NC.drewN {w W : World} {v u : Value} {l ts : List Int} (h : NC w v u l ts W) (n : Nat) : NC w v u l ts (W.drewN n) := ⟨below_drewN h.below n, h.row, h.times⟩
theorem NC.near {w W : World} {v u : Value} {l ts : List Int} (h : NC w v u l ts W) (t : Int) (i : Nat) (hn : IsNear l t i 0) :
    Calls Try.prog 32 #[v, .int .i64 t] W fun e w' => e = .returned (.tuple #[.int .i64 i, .int .i64 0]) ∧ NC w v u l ts w' :=
  (near_any v l t i 0 hn W h.row).mono fun _ _ ⟨h1, h2⟩ => ⟨h1, below_next h.below h2, h.row.below h2, h.times.below h2⟩

set_option maxRecDepth 100000 in
set_option maxHeartbeats 8000000 in
theorem walk (f : Int) (a : Option Addr) (len cap : Nat) (zs : List Int) (oth : Int) (g : Int) (w : World) (hf : (Lit.int .u32 f).wf = true) (hr : IsRow .u16 w a len cap zs) (ho : (Lit.int .u32 oth).wf = true) (hg : (Lit.int .u16 g).wf = true) :
    Calls Try.prog 12 #[.int .u32 f, .slice a len cap, .int .u32 oth, .int .u16 g] w fun e w' => e = .returned (.bool true) ∧ Below w.heap.size w w' := by
  obtain ⟨f0, f1⟩ := u32_in hf
  obtain ⟨g0, g1⟩ := u16_in hg
  obtain ⟨o0, o1⟩ := u32_in ho
  have MA := Lib.hid (made_any f a len cap zs w f0 f1 hr)
  have MD := md_is hr f0 f1
  clear hf hg ho hr
  obtain ⟨l, hl⟩ : ∃ l, Gp.md f zs (min len 300) = l := ⟨_, rfl⟩
  rw [hl] at MA MD
  clear hl
  have TL := Lib.hid MD.tl
  have OK := Lib.hid MD.tl.ok
  have ll := MD.len
  have lp := MD.pos
  have LN : Hid (l.length ≤ 1000000) := Lib.hid (by omega)
  have m0 : oth.tmod 200000 = oth % 200000 := Int.tmod_eq_emod_of_nonneg o0
  have n0 : 0 ≤ oth % 200000 ∧ oth % 200000 < 200000 := by omega
  obtain ⟨md, hmd⟩ : ∃ z, oth % 200000 = z := ⟨_, rfl⟩
  rw [hmd] at n0 m0
  have v1 : IntKind.i64.wrap f = f := by rw [IntKind.wrap_i64]; omega
  have v2 : IntKind.i64.wrap md = md := by rw [IntKind.wrap_i64]; omega
  have v3 : IntKind.i64.wrap (f + md) = f + md := by rw [IntKind.wrap_i64]; omega
  obtain ⟨yy, hyy⟩ : ∃ z, f + md - 1000 = z := ⟨_, rfl⟩
  have v4 : IntKind.i64.wrap (f + md - 1000) = yy := by rw [IntKind.wrap_i64]; omega
  have v5 : IntKind.i64.wrap oth = oth := by rw [IntKind.wrap_i64]; omega
  have v7 : IntKind.u32.wrap md = md := by rw [IntKind.wrap_u32]; omega
  have v8 : IntKind.i64.wrap g = g := by rw [IntKind.wrap_i64]; omega
  -- the last step
  obtain ⟨j, hj⟩ : ∃ j : Nat, g % (l.length : Int) = j := ⟨(g % (l.length : Int)).toNat, by have := Int.emod_nonneg g (show (l.length : Int) ≠ 0 by omega); omega⟩
  have jl : j < l.length := by have := Int.emod_lt_of_pos g (show (0 : Int) < l.length by omega); omega
  have u1 : g.tmod (l.length : Int) = (j : Int) := by rw [Int.tmod_eq_emod_of_nonneg g0, hj]
  have u2 : IntKind.i64.wrap (j : Int) = (j : Int) := by rw [IntKind.wrap_i64]; omega
  have u3 : ((l.length : Int) == 0) = false := by rw [beq_eq_false_iff_ne]; omega
  have u4 : ((l.length : Int) != 0) = true := by rw [bne_iff_ne]; omega
  have u5 : (l.length != 0) = true := by rw [bne_iff_ne]; omega
  have u6 : ¬ (l.length : Int) = 0 := by omega
  have NS := Lib.hid (fun W (v u : Value) ts (h : NC w v u l ts W) => h.near (l.getD j 0) j (isNear_of TL.out (OK.out _ (Gp.getD_mem jl)) (near_self TL.out.inc jl)))
  obtain ⟨zj, hzj⟩ : ∃ z, l.getD j 0 = z := ⟨_, rfl⟩
  have HZJ := Lib.hid hzj
  rw [hzj] at NS
  clear hj hzj MD hmd
  by_cases cy : 0 < yy
  · have cy1 : decide (0 < yy) = true := decide_eq_true cy
    have yb : 0 ≤ yy ∧ yy ≤ 5000000000 := by omega
    clear hyy
    have TS := Lib.hid (show ∀ k, k < 4 → Gp.okT ([yy, oth, 0, 253402300799].getD k 0) from fun k hk => by
      have : k = 0 ∨ k = 1 ∨ k = 2 ∨ k = 3 := by omega
      rcases this with rfl | rfl | rfl | rfl
      · show Gp.okT (yy); unfold Gp.okT; omega
      · show Gp.okT oth; unfold Gp.okT; omega
      · show Gp.okT 0; unfold Gp.okT; omega
      · show Gp.okT 253402300799; unfold Gp.okT; omega)
    go_enter Try.func12, Try.ntmps12
    go_wp2_with fail
    refine MA.out.mono ?_
    rintro e V1 ⟨u1', rfl, o1'⟩
    have L1 := Lib.hid (o1'.rowT LN.out)
    have B1 := Lib.hid o1'.below
    obtain ⟨a_1, c_1, rfl⟩ := o1'.len
    clear o1'
    have Q0 : Hid (NC w (.slice a_1 l.length c_1) (.slice (some ⟨V1.heap.size, 0, none⟩) 4 4) l [yy, oth, 0, 253402300799] (V1.alloc (.cells #[.int .i64 (yy), .int .i64 oth, .int .i64 0, .int .i64 253402300799] 2))) := Lib.hid ⟨below_new B1.out _, L1.out.alloc _, RowT.lit V1 _ 4 rfl _ rfl (by simp)⟩
    obtain ⟨ts, hts⟩ : ∃ ts, [yy, oth, 0, 253402300799] = ts := ⟨_, rfl⟩
    have HT4 : ts.length = 4 := by rw [← hts]; rfl
    rw [hts] at Q0 TS
    clear hts
    obtain ⟨bt, hbt⟩ : ∃ bt, V1.heap.size = bt := ⟨_, rfl⟩
    rw [hbt] at Q0
    go_wp2_with fail
    try rw [hbt]
    clear hbt
    go_loopw [38] (fun iv wr => ∃ k : Nat, k ≤ 4 ∧ iv = .int .i64 k ∧ Hid (NC w (.slice a_1 l.length c_1) (.slice (some ⟨bt, 0, none⟩) 4 4) l ts wr)) (fun iv _ => 4 - (intOf iv).toNat)
    case atStart => exact ⟨0, by omega, rfl, Q0⟩
    case round =>
      obtain ⟨k, hk, rfl, hq⟩ := hrel
      by_cases lt : k < 4
      · have e0 : decide ((k : Int) < 4) = true := by rw [decide_eq_true_iff]; omega
        have wi : IntKind.i64.wrap ((k : Int) + 1) = (k : Int) + 1 := by rw [IntKind.wrap_i64]; omega
        have x1 := hq.out.times.at_ (j := k) (by omega)
        rw [Nat.zero_add] at x1
        have to := TS.out k lt
        obtain ⟨t, ht⟩ : ∃ t, ts.getD k 0 = t := ⟨_, rfl⟩
        rw [ht] at x1 to
        clear ht
        obtain ⟨i, hi⟩ := Gp.Near.ex l t (n := l.length) lp
        have NI := Lib.hid hi
        have NR := Lib.hid (hq.out.near t i (isNear_of TL.out to hi))
        have il := hi.lt
        have io := OK.out _ (Gp.getD_mem il)
        unfold Gp.okT at to io
        have f1' : decide ((i : Int) < 0) = false := by rw [decide_eq_false_iff_not]; omega
        have f2' : decide ((l.length : Int) ≤ (i : Int)) = false := by rw [decide_eq_false_iff_not]; omega
        have f2'' : decide (l.length ≤ i) = false := by rw [decide_eq_false_iff_not]; omega
        clear hi hq
        go_wp2_with fail
        refine NR.out.mono ?_
        rintro e V2 ⟨rfl, hq2⟩
        have Q2 := Lib.hid hq2
        clear hq2
        obtain ⟨_, A2, k2, e2, cells⟩ := Q2.out.row
        cases e2
        have CC := Lib.hid cells
        clear cells
        obtain ⟨b3, o3, rfl, x3⟩ := CC.out i il
        have NO := Lib.hid NI.out.no
        have NF := Lib.hid NI.out.first
        obtain ⟨x, hx⟩ : ∃ x, l.getD i 0 = x := ⟨_, rfl⟩
        rw [hx] at x3 io NO NF
        have g1' : IntKind.i64.wrap (x - t) = x - t := by rw [IntKind.wrap_i64]; omega
        have g2' : IntKind.i64.wrap (t - x) = t - x := by rw [IntKind.wrap_i64]; omega
        have r1 : (i : Int) < (l.length : Int) := by omega
        obtain ⟨dx, hdx⟩ : ∃ d, max (x - t) (t - x) = d := ⟨_, rfl⟩
        rw [hdx] at NO NF
        have CX : (x - t < t - x ∧ dx = t - x) ∨ (¬ x - t < t - x ∧ dx = x - t) := by omega
        clear hx hdx NI
        rcases CX with ⟨cx, rfl⟩ | ⟨cx, rfl⟩
        · go_wp2_with fail
          go_quiet (fail)
          go_wp2_with fail
          go_loop [75] (fun iv => ∃ m : Nat, m ≤ l.length ∧ iv = .int .i64 m) (fun iv => l.length - (intOf iv).toNat)
          case atStart => exact ⟨0, by omega, rfl⟩
          case round =>
            obtain ⟨m, hm, rfl⟩ := hrel
            by_cases lm : m < l.length
            · have e1 : decide ((m : Int) < (l.length : Int)) = true := by rw [decide_eq_true_iff]; omega
              have wm : IntKind.i64.wrap ((m : Int) + 1) = (m : Int) + 1 := by rw [IntKind.wrap_i64]; omega
              obtain ⟨b4, o4, e4, x4⟩ := CC.out m lm
              cases e4
              have yo := OK.out _ (Gp.getD_mem lm)
              have n1 := NO.out m lm
              have n2 := NF.out m
              obtain ⟨y, hy⟩ : ∃ y, l.getD m 0 = y := ⟨_, rfl⟩
              rw [hy] at x4 yo n1 n2
              unfold Gp.okT at yo
              have h1' : IntKind.i64.wrap (y - t) = y - t := by rw [IntKind.wrap_i64]; omega
              have h2' : IntKind.i64.wrap (t - y) = t - y := by rw [IntKind.wrap_i64]; omega
              obtain ⟨dy, hdy⟩ : ∃ d, max (y - t) (t - y) = d := ⟨_, rfl⟩
              rw [hdy] at n1 n2
              have CY : (y - t < t - y ∧ dy = t - y) ∨ (¬ y - t < t - y ∧ dy = y - t) := by omega
              clear hy hdy yo
              rcases CY with ⟨cy', rfl⟩ | ⟨cy', rfl⟩
              · have q1 : decide (t - y < t - x) = false := by rw [decide_eq_false_iff_not]; omega
                have q4 : decide (x < y) = false := by rw [decide_eq_false_iff_not]; omega
                by_cases q : t - y = t - x
                · have q2 : (t - y == t - x) = true := by rw [beq_iff_eq]; exact q
                  have q5 : (y == x) = true := by rw [beq_iff_eq]; omega
                  have q3 : decide ((m : Int) < (i : Int)) = false := by rw [decide_eq_false_iff_not]; intro r; have := n2 (by omega); omega
                  have q3' : decide (m < i) = false := by rw [decide_eq_false_iff_not]; intro r; have := n2 r; omega
                  clear n1 n2 q
                  go_wp2_with fail
                  go_round
                  case rel => exact ⟨m + 1, by omega, by go_num⟩
                  case measure => simp [intOf]; omega
                · have q2 : (t - y == t - x) = false := by rw [beq_eq_false_iff_ne]; exact q
                  have q5 : (y == x) = false := by rw [beq_eq_false_iff_ne]; omega
                  clear n1 n2 q
                  go_wp2_with fail
                  go_round
                  case rel => exact ⟨m + 1, by omega, by go_num⟩
                  case measure => simp [intOf]; omega
              · have q1 : decide (y - t < t - x) = false := by rw [decide_eq_false_iff_not]; omega
                by_cases q : y - t = t - x
                · have q2 : (y - t == t - x) = true := by rw [beq_iff_eq]; exact q
                  have q3 : decide ((m : Int) < (i : Int)) = false := by rw [decide_eq_false_iff_not]; intro r; have := n2 (by omega); omega
                  have q3' : decide (m < i) = false := by rw [decide_eq_false_iff_not]; intro r; have := n2 r; omega
                  clear n1 n2 q
                  go_wp2_with fail
                  go_round
                  case rel => exact ⟨m + 1, by omega, by go_num⟩
                  case measure => simp [intOf]; omega
                · have q2 : (y - t == t - x) = false := by rw [beq_eq_false_iff_ne]; exact q
                  clear n1 n2 q
                  go_wp2_with fail
                  go_round
                  case rel => exact ⟨m + 1, by omega, by go_num⟩
                  case measure => simp [intOf]; omega
            · have e1 : decide ((m : Int) < (l.length : Int)) = false := by rw [decide_eq_false_iff_not]; omega
              go_wp2_with fail
              go_roundw
              case rel => exact ⟨k + 1, by omega, by go_num, Lib.hid (Q2.out.drewN _)⟩
              case measure => simp [intOf]; omega
        · go_wp2_with fail
          go_quiet (fail)
          go_wp2_with fail
          go_loop [75] (fun iv => ∃ m : Nat, m ≤ l.length ∧ iv = .int .i64 m) (fun iv => l.length - (intOf iv).toNat)
          case atStart => exact ⟨0, by omega, rfl⟩
          case round =>
            obtain ⟨m, hm, rfl⟩ := hrel
            by_cases lm : m < l.length
            · have e1 : decide ((m : Int) < (l.length : Int)) = true := by rw [decide_eq_true_iff]; omega
              have wm : IntKind.i64.wrap ((m : Int) + 1) = (m : Int) + 1 := by rw [IntKind.wrap_i64]; omega
              obtain ⟨b4, o4, e4, x4⟩ := CC.out m lm
              cases e4
              have yo := OK.out _ (Gp.getD_mem lm)
              have n1 := NO.out m lm
              have n2 := NF.out m
              obtain ⟨y, hy⟩ : ∃ y, l.getD m 0 = y := ⟨_, rfl⟩
              rw [hy] at x4 yo n1 n2
              unfold Gp.okT at yo
              have h1' : IntKind.i64.wrap (y - t) = y - t := by rw [IntKind.wrap_i64]; omega
              have h2' : IntKind.i64.wrap (t - y) = t - y := by rw [IntKind.wrap_i64]; omega
              obtain ⟨dy, hdy⟩ : ∃ d, max (y - t) (t - y) = d := ⟨_, rfl⟩
              rw [hdy] at n1 n2
              have CY : (y - t < t - y ∧ dy = t - y) ∨ (¬ y - t < t - y ∧ dy = y - t) := by omega
              clear hy hdy yo
              rcases CY with ⟨cy', rfl⟩ | ⟨cy', rfl⟩
              · have q1 : decide (t - y < x - t) = false := by rw [decide_eq_false_iff_not]; omega
                by_cases q : t - y = x - t
                · have q2 : (t - y == x - t) = true := by rw [beq_iff_eq]; exact q
                  have q3 : decide ((m : Int) < (i : Int)) = false := by rw [decide_eq_false_iff_not]; intro r; have := n2 (by omega); omega
                  have q3' : decide (m < i) = false := by rw [decide_eq_false_iff_not]; intro r; have := n2 r; omega
                  clear n1 n2 q
                  go_wp2_with fail
                  go_round
                  case rel => exact ⟨m + 1, by omega, by go_num⟩
                  case measure => simp [intOf]; omega
                · have q2 : (t - y == x - t) = false := by rw [beq_eq_false_iff_ne]; exact q
                  clear n1 n2 q
                  go_wp2_with fail
                  go_round
                  case rel => exact ⟨m + 1, by omega, by go_num⟩
                  case measure => simp [intOf]; omega
              · have q1 : decide (y - t < x - t) = false := by rw [decide_eq_false_iff_not]; omega
                have q4 : decide (y < x) = false := by rw [decide_eq_false_iff_not]; omega
                by_cases q : y - t = x - t
                · have q2 : (y - t == x - t) = true := by rw [beq_iff_eq]; exact q
                  have q5 : (y == x) = true := by rw [beq_iff_eq]; omega
                  have q3 : decide ((m : Int) < (i : Int)) = false := by rw [decide_eq_false_iff_not]; intro r; have := n2 (by omega); omega
                  have q3' : decide (m < i) = false := by rw [decide_eq_false_iff_not]; intro r; have := n2 r; omega
                  clear n1 n2 q
                  go_wp2_with fail
                  go_round
                  case rel => exact ⟨m + 1, by omega, by go_num⟩
                  case measure => simp [intOf]; omega
                · have q2 : (y - t == x - t) = false := by rw [beq_eq_false_iff_ne]; exact q
                  have q5 : (y == x) = false := by rw [beq_eq_false_iff_ne]; omega
                  clear n1 n2 q
                  go_wp2_with fail
                  go_round
                  case rel => exact ⟨m + 1, by omega, by go_num⟩
                  case measure => simp [intOf]; omega
            · have e1 : decide ((m : Int) < (l.length : Int)) = false := by rw [decide_eq_false_iff_not]; omega
              go_wp2_with fail
              go_roundw
              case rel => exact ⟨k + 1, by omega, by go_num, Lib.hid (Q2.out.drewN _)⟩
              case measure => simp [intOf]; omega
      · have e0 : decide ((k : Int) < 4) = false := by rw [decide_eq_false_iff_not]; omega
        obtain ⟨_, A2, k2, e2, cells⟩ := hq.out.row
        cases e2
        obtain ⟨b3, o3, rfl, x3⟩ := cells j jl
        rw [HZJ.out] at x3
        have jj : ((j : Int) == (j : Int)) = true := by simp
        clear cells
        go_wp2_with fail
        refine (NS.out _ _ _ _ hq.out).mono ?_
        rintro e V2 ⟨rfl, hq2⟩
        have Q2 := Lib.hid hq2
        clear hq2
        go_wp2_with fail
        refine (works_any _).mono ?_
        rintro e W9 ⟨rfl, b⟩
        have B9 := Lib.hid (below_next Q2.out.below b)
        clear b
        go_wp2_with fail
        go_ret
        exact ⟨rfl, B9.out⟩
  · have cy1 : decide (0 < yy) = false := decide_eq_false cy
    clear hyy
    have TS := Lib.hid (show ∀ k, k < 4 → Gp.okT ([0, oth, 0, 253402300799].getD k 0) from fun k hk => by
      have : k = 0 ∨ k = 1 ∨ k = 2 ∨ k = 3 := by omega
      rcases this with rfl | rfl | rfl | rfl
      · show Gp.okT (0); unfold Gp.okT; omega
      · show Gp.okT oth; unfold Gp.okT; omega
      · show Gp.okT 0; unfold Gp.okT; omega
      · show Gp.okT 253402300799; unfold Gp.okT; omega)
    go_enter Try.func12, Try.ntmps12
    go_wp2_with fail
    refine MA.out.mono ?_
    rintro e V1 ⟨u1', rfl, o1'⟩
    have L1 := Lib.hid (o1'.rowT LN.out)
    have B1 := Lib.hid o1'.below
    obtain ⟨a_1, c_1, rfl⟩ := o1'.len
    clear o1'
    have Q0 : Hid (NC w (.slice a_1 l.length c_1) (.slice (some ⟨V1.heap.size, 0, none⟩) 4 4) l [0, oth, 0, 253402300799] (V1.alloc (.cells #[.int .i64 (0), .int .i64 oth, .int .i64 0, .int .i64 253402300799] 2))) := Lib.hid ⟨below_new B1.out _, L1.out.alloc _, RowT.lit V1 _ 4 rfl _ rfl (by simp)⟩
    obtain ⟨ts, hts⟩ : ∃ ts, [0, oth, 0, 253402300799] = ts := ⟨_, rfl⟩
    have HT4 : ts.length = 4 := by rw [← hts]; rfl
    rw [hts] at Q0 TS
    clear hts
    obtain ⟨bt, hbt⟩ : ∃ bt, V1.heap.size = bt := ⟨_, rfl⟩
    rw [hbt] at Q0
    go_wp2_with fail
    try rw [hbt]
    clear hbt
    go_loopw [38] (fun iv wr => ∃ k : Nat, k ≤ 4 ∧ iv = .int .i64 k ∧ Hid (NC w (.slice a_1 l.length c_1) (.slice (some ⟨bt, 0, none⟩) 4 4) l ts wr)) (fun iv _ => 4 - (intOf iv).toNat)
    case atStart => exact ⟨0, by omega, rfl, Q0⟩
    case round =>
      obtain ⟨k, hk, rfl, hq⟩ := hrel
      by_cases lt : k < 4
      · have e0 : decide ((k : Int) < 4) = true := by rw [decide_eq_true_iff]; omega
        have wi : IntKind.i64.wrap ((k : Int) + 1) = (k : Int) + 1 := by rw [IntKind.wrap_i64]; omega
        have x1 := hq.out.times.at_ (j := k) (by omega)
        rw [Nat.zero_add] at x1
        have to := TS.out k lt
        obtain ⟨t, ht⟩ : ∃ t, ts.getD k 0 = t := ⟨_, rfl⟩
        rw [ht] at x1 to
        clear ht
        obtain ⟨i, hi⟩ := Gp.Near.ex l t (n := l.length) lp
        have NI := Lib.hid hi
        have NR := Lib.hid (hq.out.near t i (isNear_of TL.out to hi))
        have il := hi.lt
        have io := OK.out _ (Gp.getD_mem il)
        unfold Gp.okT at to io
        have f1' : decide ((i : Int) < 0) = false := by rw [decide_eq_false_iff_not]; omega
        have f2' : decide ((l.length : Int) ≤ (i : Int)) = false := by rw [decide_eq_false_iff_not]; omega
        have f2'' : decide (l.length ≤ i) = false := by rw [decide_eq_false_iff_not]; omega
        clear hi hq
        go_wp2_with fail
        refine NR.out.mono ?_
        rintro e V2 ⟨rfl, hq2⟩
        have Q2 := Lib.hid hq2
        clear hq2
        obtain ⟨_, A2, k2, e2, cells⟩ := Q2.out.row
        cases e2
        have CC := Lib.hid cells
        clear cells
        obtain ⟨b3, o3, rfl, x3⟩ := CC.out i il
        have NO := Lib.hid NI.out.no
        have NF := Lib.hid NI.out.first
        obtain ⟨x, hx⟩ : ∃ x, l.getD i 0 = x := ⟨_, rfl⟩
        rw [hx] at x3 io NO NF
        have g1' : IntKind.i64.wrap (x - t) = x - t := by rw [IntKind.wrap_i64]; omega
        have g2' : IntKind.i64.wrap (t - x) = t - x := by rw [IntKind.wrap_i64]; omega
        have r1 : (i : Int) < (l.length : Int) := by omega
        obtain ⟨dx, hdx⟩ : ∃ d, max (x - t) (t - x) = d := ⟨_, rfl⟩
        rw [hdx] at NO NF
        have CX : (x - t < t - x ∧ dx = t - x) ∨ (¬ x - t < t - x ∧ dx = x - t) := by omega
        clear hx hdx NI
        rcases CX with ⟨cx, rfl⟩ | ⟨cx, rfl⟩
        · go_wp2_with fail
          go_quiet (fail)
          go_wp2_with fail
          go_loop [75] (fun iv => ∃ m : Nat, m ≤ l.length ∧ iv = .int .i64 m) (fun iv => l.length - (intOf iv).toNat)
          case atStart => exact ⟨0, by omega, rfl⟩
          case round =>
            obtain ⟨m, hm, rfl⟩ := hrel
            by_cases lm : m < l.length
            · have e1 : decide ((m : Int) < (l.length : Int)) = true := by rw [decide_eq_true_iff]; omega
              have wm : IntKind.i64.wrap ((m : Int) + 1) = (m : Int) + 1 := by rw [IntKind.wrap_i64]; omega
              obtain ⟨b4, o4, e4, x4⟩ := CC.out m lm
              cases e4
              have yo := OK.out _ (Gp.getD_mem lm)
              have n1 := NO.out m lm
              have n2 := NF.out m
              obtain ⟨y, hy⟩ : ∃ y, l.getD m 0 = y := ⟨_, rfl⟩
              rw [hy] at x4 yo n1 n2
              unfold Gp.okT at yo
              have h1' : IntKind.i64.wrap (y - t) = y - t := by rw [IntKind.wrap_i64]; omega
              have h2' : IntKind.i64.wrap (t - y) = t - y := by rw [IntKind.wrap_i64]; omega
              obtain ⟨dy, hdy⟩ : ∃ d, max (y - t) (t - y) = d := ⟨_, rfl⟩
              rw [hdy] at n1 n2
              have CY : (y - t < t - y ∧ dy = t - y) ∨ (¬ y - t < t - y ∧ dy = y - t) := by omega
              clear hy hdy yo
              rcases CY with ⟨cy', rfl⟩ | ⟨cy', rfl⟩
              · have q1 : decide (t - y < t - x) = false := by rw [decide_eq_false_iff_not]; omega
                have q4 : decide (x < y) = false := by rw [decide_eq_false_iff_not]; omega
                by_cases q : t - y = t - x
                · have q2 : (t - y == t - x) = true := by rw [beq_iff_eq]; exact q
                  have q5 : (y == x) = true := by rw [beq_iff_eq]; omega
                  have q3 : decide ((m : Int) < (i : Int)) = false := by rw [decide_eq_false_iff_not]; intro r; have := n2 (by omega); omega
                  have q3' : decide (m < i) = false := by rw [decide_eq_false_iff_not]; intro r; have := n2 r; omega
                  clear n1 n2 q
                  go_wp2_with fail
                  go_round
                  case rel => exact ⟨m + 1, by omega, by go_num⟩
                  case measure => simp [intOf]; omega
                · have q2 : (t - y == t - x) = false := by rw [beq_eq_false_iff_ne]; exact q
                  have q5 : (y == x) = false := by rw [beq_eq_false_iff_ne]; omega
                  clear n1 n2 q
                  go_wp2_with fail
                  go_round
                  case rel => exact ⟨m + 1, by omega, by go_num⟩
                  case measure => simp [intOf]; omega
              · have q1 : decide (y - t < t - x) = false := by rw [decide_eq_false_iff_not]; omega
                by_cases q : y - t = t - x
                · have q2 : (y - t == t - x) = true := by rw [beq_iff_eq]; exact q
                  have q3 : decide ((m : Int) < (i : Int)) = false := by rw [decide_eq_false_iff_not]; intro r; have := n2 (by omega); omega
                  have q3' : decide (m < i) = false := by rw [decide_eq_false_iff_not]; intro r; have := n2 r; omega
                  clear n1 n2 q
                  go_wp2_with fail
                  go_round
                  case rel => exact ⟨m + 1, by omega, by go_num⟩
                  case measure => simp [intOf]; omega
                · have q2 : (y - t == t - x) = false := by rw [beq_eq_false_iff_ne]; exact q
                  clear n1 n2 q
                  go_wp2_with fail
                  go_round
                  case rel => exact ⟨m + 1, by omega, by go_num⟩
                  case measure => simp [intOf]; omega
            · have e1 : decide ((m : Int) < (l.length : Int)) = false := by rw [decide_eq_false_iff_not]; omega
              go_wp2_with fail
              go_roundw
              case rel => exact ⟨k + 1, by omega, by go_num, Lib.hid (Q2.out.drewN _)⟩
              case measure => simp [intOf]; omega
        · go_wp2_with fail
          go_quiet (fail)
          go_wp2_with fail
          go_loop [75] (fun iv => ∃ m : Nat, m ≤ l.length ∧ iv = .int .i64 m) (fun iv => l.length - (intOf iv).toNat)
          case atStart => exact ⟨0, by omega, rfl⟩
          case round =>
            obtain ⟨m, hm, rfl⟩ := hrel
            by_cases lm : m < l.length
            · have e1 : decide ((m : Int) < (l.length : Int)) = true := by rw [decide_eq_true_iff]; omega
              have wm : IntKind.i64.wrap ((m : Int) + 1) = (m : Int) + 1 := by rw [IntKind.wrap_i64]; omega
              obtain ⟨b4, o4, e4, x4⟩ := CC.out m lm
              cases e4
              have yo := OK.out _ (Gp.getD_mem lm)
              have n1 := NO.out m lm
              have n2 := NF.out m
              obtain ⟨y, hy⟩ : ∃ y, l.getD m 0 = y := ⟨_, rfl⟩
              rw [hy] at x4 yo n1 n2
              unfold Gp.okT at yo
              have h1' : IntKind.i64.wrap (y - t) = y - t := by rw [IntKind.wrap_i64]; omega
              have h2' : IntKind.i64.wrap (t - y) = t - y := by rw [IntKind.wrap_i64]; omega
              obtain ⟨dy, hdy⟩ : ∃ d, max (y - t) (t - y) = d := ⟨_, rfl⟩
              rw [hdy] at n1 n2
              have CY : (y - t < t - y ∧ dy = t - y) ∨ (¬ y - t < t - y ∧ dy = y - t) := by omega
              clear hy hdy yo
              rcases CY with ⟨cy', rfl⟩ | ⟨cy', rfl⟩
              · have q1 : decide (t - y < x - t) = false := by rw [decide_eq_false_iff_not]; omega
                by_cases q : t - y = x - t
                · have q2 : (t - y == x - t) = true := by rw [beq_iff_eq]; exact q
                  have q3 : decide ((m : Int) < (i : Int)) = false := by rw [decide_eq_false_iff_not]; intro r; have := n2 (by omega); omega
                  have q3' : decide (m < i) = false := by rw [decide_eq_false_iff_not]; intro r; have := n2 r; omega
                  clear n1 n2 q
                  go_wp2_with fail
                  go_round
                  case rel => exact ⟨m + 1, by omega, by go_num⟩
                  case measure => simp [intOf]; omega
                · have q2 : (t - y == x - t) = false := by rw [beq_eq_false_iff_ne]; exact q
                  clear n1 n2 q
                  go_wp2_with fail
                  go_round
                  case rel => exact ⟨m + 1, by omega, by go_num⟩
                  case measure => simp [intOf]; omega
              · have q1 : decide (y - t < x - t) = false := by rw [decide_eq_false_iff_not]; omega
                have q4 : decide (y < x) = false := by rw [decide_eq_false_iff_not]; omega
                by_cases q : y - t = x - t
                · have q2 : (y - t == x - t) = true := by rw [beq_iff_eq]; exact q
                  have q5 : (y == x) = true := by rw [beq_iff_eq]; omega
                  have q3 : decide ((m : Int) < (i : Int)) = false := by rw [decide_eq_false_iff_not]; intro r; have := n2 (by omega); omega
                  have q3' : decide (m < i) = false := by rw [decide_eq_false_iff_not]; intro r; have := n2 r; omega
                  clear n1 n2 q
                  go_wp2_with fail
                  go_round
                  case rel => exact ⟨m + 1, by omega, by go_num⟩
                  case measure => simp [intOf]; omega
                · have q2 : (y - t == x - t) = false := by rw [beq_eq_false_iff_ne]; exact q
                  have q5 : (y == x) = false := by rw [beq_eq_false_iff_ne]; omega
                  clear n1 n2 q
                  go_wp2_with fail
                  go_round
                  case rel => exact ⟨m + 1, by omega, by go_num⟩
                  case measure => simp [intOf]; omega
            · have e1 : decide ((m : Int) < (l.length : Int)) = false := by rw [decide_eq_false_iff_not]; omega
              go_wp2_with fail
              go_roundw
              case rel => exact ⟨k + 1, by omega, by go_num, Lib.hid (Q2.out.drewN _)⟩
              case measure => simp [intOf]; omega
      · have e0 : decide ((k : Int) < 4) = false := by rw [decide_eq_false_iff_not]; omega
        obtain ⟨_, A2, k2, e2, cells⟩ := hq.out.row
        cases e2
        obtain ⟨b3, o3, rfl, x3⟩ := cells j jl
        rw [HZJ.out] at x3
        have jj : ((j : Int) == (j : Int)) = true := by simp
        clear cells
        go_wp2_with fail
        refine (NS.out _ _ _ _ hq.out).mono ?_
        rintro e V2 ⟨rfl, hq2⟩
        have Q2 := Lib.hid hq2
        clear hq2
        go_wp2_with fail
        refine (works_any _).mono ?_
        rintro e W9 ⟨rfl, b⟩
        have B9 := Lib.hid (below_next Q2.out.below b)
        clear b
        go_wp2_with fail
        go_ret
        exact ⟨rfl, B9.out⟩

theorem own : ownKnob Try.prog.godebug = none := by kernel_rfl
theorem laidOut : laidOutB Try.prog = true := by kernel_rfl

set_option maxRecDepth 100000 in
theorem lifted (os : Os) (started : os.Started) (H : Type) (enc : TypeId × Value → H) :
    ReturnsInHanded {} Try.checked os 12 .any (Rows.gapNearestSpec.pre6 enc Try.prog Try.f12 Rows.gapNearestRow.domain false) (Rows.gapNearestSpec.post enc Try.prog Try.f12 false true false false) := by
  refine returnsInHanded_of_change (C := Try.checked) own started (by kernel_rfl) Try.func12
    (ChangeSpec.witness6 (enc := enc) (C := Try.checked) false ⟨#[], #[.int .u32 0, .slice none 0 0, .int .u32 0, .int .u16 0], []⟩ 8 (by kernel_rfl) (by kernel_rfl) (by kernel_rfl) (by kernel_rfl)) ?_
  intro W base args ds gs before hval0 hW hcnd _
  have hval : ∀ (j : Nat) t v, Try.f12.params[j]? = some t → args[j]? = some v → Value.okWide Try.prog W .any base t v := hval0
  have hW' := hW
  obtain ⟨p, q, hA0, hV, rfl, hfz, hnd⟩ := hW
  have hA : DataW.TrodAll enc Try.prog W 0 (fun _ => true) true Try.f12.params.toList args.toList ds p := hA0
  rw [Try.params12] at hA hval
  obtain ⟨v0, vs0, d0, ds0, p0, q0, hargs, rfl, rfl, h0, r0⟩ := trodAll_cons hA
  obtain ⟨v1, vs1, d1, ds1, p1, q1, rfl, rfl, rfl, h1, r1⟩ := trodAll_cons r0
  obtain ⟨v2, vs2, d2, ds2, p2, q2, rfl, rfl, rfl, h2, r2⟩ := trodAll_cons r1
  obtain ⟨v3, vs3, d3, ds3, p3, q3, rfl, rfl, rfl, h3, r3⟩ := trodAll_cons r2
  obtain ⟨rfl, rfl, rfl⟩ := trodAll_nil r3
  obtain rfl : args = #[v0, v1, v2, v3] := by cases args; simp_all
  obtain ⟨rfl, rfl⟩ := trodVars_none hV
  obtain ⟨a0, rfl, rfl, rfl, w0⟩ := open_int Try.underlying41 (hval 0 41 v0 rfl rfl) h0
  obtain ⟨a1, len1, cap1, rfl⟩ := okWide_slice Try.underlying42 (hval 1 42 v1 rfl rfl)
  have k1 := h1
  have lt1 : ∀ x ∈ p1, x.block < W.heap.size := by obtain ⟨m, hm⟩ := k1; exact DataW.trod_lt m _ _ _ hm
  obtain ⟨z1, w1⟩ : ∃ zs, IsRow .u16 W a1 len1 cap1 zs := by
    obtain ⟨fuel, hf⟩ := h1
    rcases open_ints Try.underlying42 Try.underlying44 (by kernel_rfl) hf with ⟨hcs, _⟩ | ⟨x, l, c, zs, hcs, _, hl, hm, hz, _, hcell, hwz⟩
    · simp [Value.cells] at hcs
      obtain ⟨rfl, rfl, rfl⟩ := hcs
      exact ⟨[], .inl ⟨rfl, rfl, rfl, rfl⟩⟩
    · simp [Value.cells] at hcs
      obtain ⟨rfl, rfl, rfl⟩ := hcs
      exact ⟨zs, .inr ⟨_, rfl, hl, hm, by simpa using hz, hcell, hwz⟩⟩
  obtain ⟨a2, rfl, rfl, rfl, w2⟩ := open_int Try.underlying41 (hval 2 41 v2 rfl rfl) h2
  obtain ⟨a3, rfl, rfl, rfl, w3⟩ := open_int Try.underlying44 (hval 3 44 v3 rfl rfl) h3
  clear hA0 hval0
  refine (walk a0 a1 len1 cap1 z1 a2 a3 W w0 w1 w2 w3).mono fun e W' ⟨he, bel⟩ => ?_
  subst he
  exact ⟨_, rfl, _, _, _, [], _, [], hW', trodAll_mk1 (shut_bool Try.underlying4 _), (trodAll_cons_mk (shut_int Try.underlying41 w0) (trodAll_cons_mk (Below.trod laidOut (by kernel_rfl) (of_decide_eq_true (by kernel_rfl)) k1 bel lt1) (trodAll_cons_mk (shut_int Try.underlying41 w2) (trodAll_cons_mk (shut_int Try.underlying44 w3) trodAll_mk0)))), rfl, bel.frame _, fun h => by cases h⟩

theorem proved : Rows.GapNearestSaid :=
  OpenClaim.holds_of_wide 12 Try.f12 rfl rfl rfl rfl rfl rfl rfl ⟨rfl, rfl, rfl, rfl, rfl⟩ rfl rfl rfl rfl rfl (by kernel_rfl) Try.func12 (by kernel_rfl)
    (of_decide_eq_true (by kernel_rfl)) (by unfold Func.isWrapper; first | (rw [if_pos (by decide +kernel)]; kernel_rfl) | (rw [if_neg (by decide +kernel)]; exact ⟨rfl, rfl⟩))
    (fun os started H enc _ => lifted os started H enc)

end Go.Proofs.Ytihbpbdcpnpiaaa.gapNearest
