/- Contracts of Least and Even, of package gap and of the document's. -/
import Derived.Test.YtihbpbdcpnpiaaaGapE
namespace Go.Proofs.Ytihbpbdcpnpiaaa
open Go.ChangeShapes Go.RowKit

theorem gapsO_ok {l : List Int} (h : gapsO l ≠ []) : Gp.errL [l] = 0 := by
  unfold gapsO at h
  by_cases z : Gp.errL [l] = 0
  · exact z
  · rw [if_neg z] at h; exact absurd rfl h
theorem gapsO_len (l : List Int) : (gapsO l).length ≤ l.length := by
  unfold gapsO
  split
  · rw [Gp.gapsL_len]; omega
  · simp
open Classical in
/-- what Least returns beside the error -/
noncomputable def leastO (l : List Int) : Int × Bool := if gapsO l = [] then (0, false) else (Gp.minTo (gapsO l) (gapsO l).length, true)
open Classical in
/-- what Even returns beside the error -/
noncomputable def evenO (l : List Int) : Int × Bool := if gapsO l = [] then (0, false) else if Gp.minTo (gapsO l) (gapsO l).length = Gp.maxTo (gapsO l) (gapsO l).length then ((gapsO l).getD 0 0, true) else (0, false)
/-- the first gap, if there is one -/
theorem len_pos {G : List Int} (h : G ≠ []) : 0 < G.length := by
  cases G with
  | nil => exact absurd rfl h
  | cons _ _ => simp

set_option maxRecDepth 100000 in
set_option maxHeartbeats 2000000 in
theorem least_any (v : Value) (l : List Int) (n : Int) (b : Bool) (hn : leastO l = (n, b)) (w : World) (h : RowT w v l) :
    Calls Try.prog 19 #[v] w fun e w' => e = .returned (.tuple #[.int .i64 n, .bool b, .int .i64 (Gp.errL [l])]) ∧ Below w.heap.size w w' := by
  have HR := Lib.hid h
  have GA := Lib.hid (gaps_any v l w h)
  have OK := Lib.hid (@gapsO_ok l)
  have LE := Lib.hid (gapsO_len l)
  have LL := Lib.hid h.1
  unfold leastO at hn
  obtain ⟨r, hr⟩ : ∃ r, Gp.errL [l] = r := ⟨_, rfl⟩
  obtain ⟨G, hG⟩ : ∃ G, gapsO l = G := ⟨_, rfl⟩
  rw [hr] at GA OK ⊢
  rw [hG] at GA OK LE hn
  clear hr hG
  obtain ⟨h0, A, cap, rfl, _⟩ := h
  clear h0
  by_cases z : G = []
  · subst z
    rw [if_pos rfl] at hn
    cases hn
    go_enter Try.func19, Try.ntmps19
    go_wp2_with fail
    refine GA.out.mono ?_
    rintro e W1 ⟨u, rfl, ho⟩
    have HO := Lib.hid ho
    obtain ⟨a1, c1, rfl⟩ := ho.len
    clear ho
    go_wp2_with fail
    go_ret3
    exact ⟨rfl, HO.out.below⟩
  · rw [if_neg z] at hn
    have R0 := OK.out z
    subst R0
    have GP := len_pos z
    have GL : G.length ≤ 1000000 := by have := LE.out; have := LL.out; omega
    clear z
    have d1 : ((G.length : Int) == 0) = false := by rw [beq_eq_false_iff_ne]; omega
    have d2 : decide ((0 : Int) < (G.length : Int)) = true := by rw [decide_eq_true_iff]; omega
    cases hn
    have MI := Lib.hid (fun u W (h : RowT W u G) => mins_any u G GP W h)
    go_enter Try.func19, Try.ntmps19
    go_wp2_with fail
    refine GA.out.mono ?_
    rintro e W1 ⟨u, rfl, ho⟩
    have HO := Lib.hid ho
    obtain ⟨a1, c1, rfl⟩ := ho.len
    have HRT := Lib.hid (ho.rowT GL)
    clear ho
    go_wp2_with fail
    refine (MI.out _ _ HRT.out).mono ?_
    rintro e W2 ⟨rfl, rfl⟩
    go_wp2_with fail
    go_ret3
    exact ⟨rfl, HO.out.below⟩
set_option maxRecDepth 100000 in
set_option maxHeartbeats 2000000 in
theorem even_any (v : Value) (l : List Int) (n : Int) (b : Bool) (hn : evenO l = (n, b)) (w : World) (h : RowT w v l) :
    Calls Try.prog 21 #[v] w fun e w' => e = .returned (.tuple #[.int .i64 n, .bool b, .int .i64 (Gp.errL [l])]) ∧ Below w.heap.size w w' := by
  have HR := Lib.hid h
  have GA := Lib.hid (gaps_any v l w h)
  have OK := Lib.hid (@gapsO_ok l)
  have LE := Lib.hid (gapsO_len l)
  have LL := Lib.hid h.1
  unfold evenO at hn
  obtain ⟨r, hr⟩ : ∃ r, Gp.errL [l] = r := ⟨_, rfl⟩
  obtain ⟨G, hG⟩ : ∃ G, gapsO l = G := ⟨_, rfl⟩
  rw [hr] at GA OK ⊢
  rw [hG] at GA OK LE hn
  clear hr hG
  obtain ⟨h0, A, cap, rfl, _⟩ := h
  clear h0
  by_cases z : G = []
  · subst z
    rw [if_pos rfl] at hn
    cases hn
    go_enter Try.func21, Try.ntmps21
    go_wp2_with fail
    refine GA.out.mono ?_
    rintro e W1 ⟨u, rfl, ho⟩
    have HO := Lib.hid ho
    obtain ⟨a1, c1, rfl⟩ := ho.len
    clear ho
    go_wp2_with fail
    go_ret3
    exact ⟨rfl, HO.out.below⟩
  · rw [if_neg z] at hn
    have R0 := OK.out z
    subst R0
    have GP := len_pos z
    have GL : G.length ≤ 1000000 := by have := LE.out; have := LL.out; omega
    clear z
    have d1 : ((G.length : Int) == 0) = false := by rw [beq_eq_false_iff_ne]; omega
    have d2 : decide ((0 : Int) < (G.length : Int)) = true := by rw [decide_eq_true_iff]; omega
    have MI := Lib.hid (fun u W (h : RowT W u G) => mins_any u G GP W h)
    have MA := Lib.hid (fun u W (h : RowT W u G) => maxs_any u G GP W h)
    obtain ⟨mi, hmi⟩ : ∃ m, Gp.minTo G G.length = m := ⟨_, rfl⟩
    obtain ⟨ma, hma⟩ : ∃ m, Gp.maxTo G G.length = m := ⟨_, rfl⟩
    rw [hmi] at MI hn
    rw [hma] at MA hn
    clear hmi hma
    by_cases q : mi = ma
    · have q0 : (mi != ma) = false := by rw [bne_eq_false_iff_eq]; exact q
      rw [if_pos q] at hn
      have HN := Lib.hid hn
      clear q hn
      go_enter Try.func21, Try.ntmps21
      go_wp2_with fail
      refine GA.out.mono ?_
      rintro e W1 ⟨u, rfl, ho⟩
      have HO := Lib.hid ho
      have HRT := Lib.hid (ho.rowT GL)
      obtain ⟨a1, c1, rfl⟩ := ho.len
      clear ho
      obtain ⟨_, a2, c2, e2, cells⟩ := HRT.out
      cases e2
      obtain ⟨b1, o1, rfl, cc⟩ := cells 0 GP
      rw [Nat.add_zero] at cc
      obtain ⟨g0, hg0⟩ : ∃ g, G.getD 0 0 = g := ⟨_, rfl⟩
      rw [hg0] at cc HN
      clear hg0 cells
      go_wp2_with (first | (go_at_call 35; refine (MI.out _ _ HRT.out).mono ?_; rintro e w' ⟨rfl, rfl⟩) | (go_at_call 36; refine (MA.out _ _ HRT.out).mono ?_; rintro e w' ⟨rfl, rfl⟩))
      go_ret3
      have hn := HN.out
      cases hn
      exact ⟨rfl, HO.out.below⟩
    · have q0 : (mi != ma) = true := by rw [bne_iff_ne]; exact q
      rw [if_neg q] at hn
      cases hn
      clear q
      go_enter Try.func21, Try.ntmps21
      go_wp2_with fail
      refine GA.out.mono ?_
      rintro e W1 ⟨u, rfl, ho⟩
      have HO := Lib.hid ho
      have HRT := Lib.hid (ho.rowT GL)
      obtain ⟨a1, c1, rfl⟩ := ho.len
      clear ho
      go_wp2_with (first | (go_at_call 35; refine (MI.out _ _ HRT.out).mono ?_; rintro e w' ⟨rfl, rfl⟩) | (go_at_call 36; refine (MA.out _ _ HRT.out).mono ?_; rintro e w' ⟨rfl, rfl⟩))
      go_ret3
      exact ⟨rfl, HO.out.below⟩

set_option maxRecDepth 100000 in
set_option maxHeartbeats 2000000 in
theorem rleast_any (v : Value) (l : List Int) (n : Int) (b : Bool) (hn : leastO l = (n, b)) (w : World) (h : RowT w v l) :
    Calls Try.prog 20 #[v] w fun e w' => e = .returned (.tuple #[.int .i64 n, .bool b, .int .i64 (Gp.errL [l])]) ∧ Below w.heap.size w w' := by
  have HR := Lib.hid h
  have GA := Lib.hid (rgaps_any v l w h)
  have OK := Lib.hid (@gapsO_ok l)
  have LE := Lib.hid (gapsO_len l)
  have LL := Lib.hid h.1
  unfold leastO at hn
  obtain ⟨r, hr⟩ : ∃ r, Gp.errL [l] = r := ⟨_, rfl⟩
  obtain ⟨G, hG⟩ : ∃ G, gapsO l = G := ⟨_, rfl⟩
  rw [hr] at GA OK ⊢
  rw [hG] at GA OK LE hn
  clear hr hG
  obtain ⟨h0, A, cap, rfl, _⟩ := h
  clear h0
  by_cases z : G = []
  · subst z
    rw [if_pos rfl] at hn
    cases hn
    have LP : (r != 0) = true ∨ (r != 0) = false := by cases (r != 0) <;> simp
    have T0 : ((([] : List Int).length : Int) == 0) = true := rfl
    rcases LP with t1 | t1
    all_goals
      go_enter Try.func20, Try.ntmps20
      go_wp2_with fail
      refine GA.out.mono ?_
      rintro e W1 ⟨u, rfl, ho⟩
      have HO := Lib.hid ho
      obtain ⟨a1, c1, rfl⟩ := ho.len
      clear ho
      go_wp2_with fail
      go_ret3
      exact ⟨rfl, HO.out.below⟩
  · rw [if_neg z] at hn
    have R0 := OK.out z
    subst R0
    have GP := len_pos z
    have GL : G.length ≤ 1000000 := by have := LE.out; have := LL.out; omega
    clear z
    have d1 : ((G.length : Int) == 0) = false := by rw [beq_eq_false_iff_ne]; omega
    have d2 : decide ((0 : Int) < (G.length : Int)) = true := by rw [decide_eq_true_iff]; omega
    cases hn
    go_enter Try.func20, Try.ntmps20
    go_wp2_with fail
    refine GA.out.mono ?_
    rintro e W1 ⟨u, rfl, ho⟩
    have HO := Lib.hid ho
    have HRT := Lib.hid (ho.rowT GL)
    obtain ⟨a1, c1, rfl⟩ := ho.len
    clear ho
    obtain ⟨_, a2, c2, e2, cells⟩ := HRT.out
    cases e2
    have CC := Lib.hid cells
    obtain ⟨b1, o1, rfl, cc⟩ := cells 0 GP
    rw [Nat.add_zero] at cc
    obtain ⟨g0, hg0⟩ : ∃ g, G.getD 0 0 = g := ⟨_, rfl⟩
    have HG := Lib.hid hg0
    rw [hg0] at cc
    clear hg0 cells
    go_wp2_with fail
    go_loop [7, 8] (fun mv iv => ∃ (k : Nat) (m : Int), k ≤ G.length ∧ iv = .int .i64 k ∧ mv = .int .i64 m ∧ Hid (m = Gp.minTo G k)) (fun _ iv => G.length - (intOf iv).toNat)
    case atStart => exact ⟨0, g0, by omega, rfl, rfl, Lib.hid HG.out.symm⟩
    case round =>
      obtain ⟨k, m, hk, rfl, rfl, hm⟩ := hrel
      by_cases lt : k < G.length
      · have e0 : decide ((k : Int) < (G.length : Int)) = true := by rw [decide_eq_true_iff]; omega
        have wi : IntKind.i64.wrap ((k : Int) + 1) = (k : Int) + 1 := by rw [IntKind.wrap_i64]; omega
        obtain ⟨b', o', e, c2⟩ := CC.out k lt
        cases e
        have ST := Lib.hid (show Gp.minTo G (k + 1) = min m (G.getD k 0) by rw [hm.out]; rfl)
        obtain ⟨x, hx⟩ : ∃ x, G.getD k 0 = x := ⟨_, rfl⟩
        rw [hx] at c2 ST
        clear hx hm
        by_cases q : m ≤ x
        · have ST' : Hid (Gp.minTo G (k + 1) = m) := Lib.hid (by rw [ST.out]; omega)
          clear ST
          go_wp2_with fail
          all_goals
            go_round
            case rel => exact ⟨k + 1, _, by omega, by go_num, rfl, Lib.hid (by have e := ST'.out; omega)⟩
            case measure => simp [intOf]; omega
        · have ST' : Hid (Gp.minTo G (k + 1) = x) := Lib.hid (by rw [ST.out]; omega)
          clear ST
          go_wp2_with fail
          all_goals
            go_round
            case rel => exact ⟨k + 1, _, by omega, by go_num, rfl, Lib.hid (by have e := ST'.out; omega)⟩
            case measure => simp [intOf]; omega
      · have e0 : decide ((k : Int) < (G.length : Int)) = false := by rw [decide_eq_false_iff_not]; omega
        obtain rfl : G.length = k := by omega
        go_wp2_with fail
        go_ret3
        exact ⟨by rw [← hm.out]; rfl, HO.out.below⟩
set_option maxRecDepth 100000 in
set_option maxHeartbeats 2000000 in
theorem reven_any (v : Value) (l : List Int) (n : Int) (b : Bool) (hn : evenO l = (n, b)) (w : World) (h : RowT w v l) :
    Calls Try.prog 22 #[v] w fun e w' => e = .returned (.tuple #[.int .i64 n, .bool b, .int .i64 (Gp.errL [l])]) ∧ Below w.heap.size w w' := by
  have HR := Lib.hid h
  have GA := Lib.hid (rgaps_any v l w h)
  have OK := Lib.hid (@gapsO_ok l)
  have LE := Lib.hid (gapsO_len l)
  have LL := Lib.hid h.1
  unfold evenO at hn
  obtain ⟨r, hr⟩ : ∃ r, Gp.errL [l] = r := ⟨_, rfl⟩
  obtain ⟨G, hG⟩ : ∃ G, gapsO l = G := ⟨_, rfl⟩
  rw [hr] at GA OK ⊢
  rw [hG] at GA OK LE hn
  clear hr hG
  obtain ⟨h0, A, cap, rfl, _⟩ := h
  clear h0
  by_cases z : G = []
  · subst z
    rw [if_pos rfl] at hn
    cases hn
    have LP : (r != 0) = true ∨ (r != 0) = false := by cases (r != 0) <;> simp
    have T0 : ((([] : List Int).length : Int) == 0) = true := rfl
    rcases LP with t1 | t1
    all_goals
      go_enter Try.func22, Try.ntmps22
      go_wp2_with fail
      refine GA.out.mono ?_
      rintro e W1 ⟨u, rfl, ho⟩
      have HO := Lib.hid ho
      obtain ⟨a1, c1, rfl⟩ := ho.len
      clear ho
      go_wp2_with fail
      go_ret3
      exact ⟨rfl, HO.out.below⟩
  · rw [if_neg z] at hn
    have R0 := OK.out z
    subst R0
    have GP := len_pos z
    have GL : G.length ≤ 1000000 := by have := LE.out; have := LL.out; omega
    clear z
    have d1 : ((G.length : Int) == 0) = false := by rw [beq_eq_false_iff_ne]; omega
    have d2 : decide ((0 : Int) < (G.length : Int)) = true := by rw [decide_eq_true_iff]; omega
    have HN := Lib.hid hn
    have SI := Lib.hid (Gp.same_iff G)
    clear hn
    go_enter Try.func22, Try.ntmps22
    go_wp2_with fail
    refine GA.out.mono ?_
    rintro e W1 ⟨u, rfl, ho⟩
    have HO := Lib.hid ho
    have HRT := Lib.hid (ho.rowT GL)
    obtain ⟨a1, c1, rfl⟩ := ho.len
    clear ho
    obtain ⟨_, a2, c2, e2, cells⟩ := HRT.out
    cases e2
    have CC := Lib.hid cells
    obtain ⟨b1, o1, rfl, cc⟩ := cells 0 GP
    rw [Nat.add_zero] at cc
    obtain ⟨g0, hg0⟩ : ∃ g, G.getD 0 0 = g := ⟨_, rfl⟩
    have HG := Lib.hid hg0
    rw [hg0] at cc HN
    clear hg0 cells
    go_wp2_with fail
    go_loopw [7] (fun iv wr => ∃ k : Nat, k ≤ G.length ∧ iv = .int .i64 k ∧ Hid (∀ j, j < k → G.getD j 0 = g0) ∧ ∃ m, wr = W1.drewN m) (fun iv _ => G.length - (intOf iv).toNat)
    case atStart => exact ⟨0, by omega, rfl, Lib.hid (fun j hj => by omega), 0, rfl⟩
    case round =>
      obtain ⟨k, hk, rfl, eq, m, rfl⟩ := hrel
      by_cases lt : k < G.length
      · have e0 : decide ((k : Int) < (G.length : Int)) = true := by rw [decide_eq_true_iff]; omega
        have wi : IntKind.i64.wrap ((k : Int) + 1) = (k : Int) + 1 := by rw [IntKind.wrap_i64]; omega
        obtain ⟨b', o', e, c2⟩ := CC.out k lt
        cases e
        obtain ⟨x, hx⟩ : ∃ x, G.getD k 0 = x := ⟨_, rfl⟩
        have HX := Lib.hid hx
        rw [hx] at c2
        clear hx
        by_cases q : x = g0
        · have q0 : (x != g0) = false := by rw [bne_eq_false_iff_eq]; exact q
          have Q := Lib.hid q
          clear q
          go_wp2_with fail
          go_quiet (fail)
          go_wp2_with fail
          go_roundw
          case rel => exact ⟨k + 1, by omega, by go_num, Lib.hid (fun j hj => by
            by_cases e : j = k
            · subst e; rw [HX.out]; exact Q.out
            · exact eq.out j (by omega)), _, rfl⟩
          case measure => simp [intOf]; omega
        · have q0 : (x != g0) = true := by rw [bne_iff_ne]; exact q
          have hn := HN.out
          rw [if_neg (fun e => q (by rw [← HX.out, ← HG.out]; exact SI.out.1 e k lt))] at hn
          cases hn
          clear q HN
          go_wp2_with fail
          go_quiet (fail)
          go_wp2_with fail
          go_ret3
          exact ⟨rfl, below_drewN (below_drewN HO.out.below _) _⟩
      · have e0 : decide ((k : Int) < (G.length : Int)) = false := by rw [decide_eq_false_iff_not]; omega
        have hn := HN.out
        rw [if_pos (SI.out.2 (fun i hi => by rw [HG.out]; exact eq.out i (by omega)))] at hn
        cases hn
        clear HN
        go_wp2_with fail
        go_ret3
        exact ⟨rfl, below_drewN HO.out.below _⟩
end Go.Proofs.Ytihbpbdcpnpiaaa
