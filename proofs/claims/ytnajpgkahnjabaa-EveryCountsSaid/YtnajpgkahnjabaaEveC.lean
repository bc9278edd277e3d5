/- Contracts of open: the series of a valid schedule; the error of one that isn't, or of a time that isn't. -/
import Derived.Test.YtnajpgkahnjabaaEveA
namespace Go.Proofs.Ytnajpgkahnjabaa
open Go.ChangeShapes Go.RowKit

theorem bcell {W w1 : World} (hb : Below W.heap.size W w1) : (∀ b o, b < W.heap.size → w1.cell? ⟨b, o, none⟩ = W.cell? ⟨b, o, none⟩) ∧ (∀ b o, b < W.heap.size → w1.frozen? ⟨b, o, none⟩ = W.frozen? ⟨b, o, none⟩) :=
  ⟨fun b o h => hb.cell (p := ⟨b, o, none⟩) h, fun b o h => hb.frozen (p := ⟨b, o, none⟩) h⟩
theorem below_call2 {w w1 : World} {o o' : Obj} (h : Below ((w.alloc o).alloc o').heap.size ((w.alloc o).alloc o') w1) : Below w.heap.size w w1 :=
  (((Below.refl _ _).alloc (Nat.le_refl _) _).alloc (by simp) _).trans (h.mono (by simp; omega))
theorem below_call3 {w w1 : World} {o o' o'' : Obj} (h : Below (((w.alloc o).alloc o').alloc o'').heap.size (((w.alloc o).alloc o').alloc o'') w1) : Below w.heap.size w w1 :=
  ((((Below.refl _ _).alloc (Nat.le_refl _) _).alloc (by simp) _).alloc (by simp; omega) _).trans (h.mono (by simp; omega))

/-- the times that are asked about lie in a row -/
def Asked (w : World) (a : Option Addr) (n : Nat) (ts : Nat → Int) : Prop := ∀ k, k < n → ∃ g, a = some ⟨g, 0, none⟩ ∧ g < w.heap.size ∧ w.cell? ⟨g, k, none⟩ = some (.int .i64 (ts k))

set_option maxHeartbeats 1000000 in
theorem open_no (s p c : Int) (a : Option Addr) (n cap : Nat) (w : World) (h : ¬ Ev.Ok s p c) :
    Calls Try.prog 34 #[.agg #[.int .i64 s, .int .i64 p, .int .i64 c], .slice a n cap] w fun e w' => e = .returned (.tuple #[.agg #[.int .i64 0, .int .i64 0, .int .i64 0, .int .i64 0], .int .i64 16]) ∧ Below w.heap.size w w' := by
  have C := Lib.hid (fun w' => check_no s p c w' h)
  clear h
  go_enter Try.func34, Try.ntmps34
  go_wp2_with fail
  refine (C.out _).mono ?_
  rintro e w1 ⟨rfl, hb⟩
  have B := Lib.hid (below_call2 hb)
  obtain ⟨hc, hf⟩ := bcell hb
  have hz : w.heap.size < w1.heap.size := by have := hb.size; simp at this; omega
  have hz1 : w.heap.size + 1 < w1.heap.size := by have := hb.size; simp at this; omega
  clear hb
  go_wp2_with fail
  refine bodyPost_ret (v := .tuple #[.agg #[.int .i64 0, .int .i64 0, .int .i64 0, .int .i64 0], .int .i64 16]) (by simp [results, Try.results34, go_sem, *]) rfl ⟨rfl, ?_⟩
  repeat refine Below.setCell ?_ (by simp) _
  exact B.out

set_option maxHeartbeats 2000000 in
theorem open_time (s p c : Int) (a : Option Addr) (n cap : Nat) (ts : Nat → Int) (w : World) (h : Ev.Ok s p c) (hn : n ≤ 2) (ha : Asked w a n ts) (ht : ∃ k, k < n ∧ ¬ Vt (ts k)) :
    Calls Try.prog 34 #[.agg #[.int .i64 s, .int .i64 p, .int .i64 c], .slice a n cap] w fun e w' => e = .returned (.tuple #[.agg #[.int .i64 0, .int .i64 0, .int .i64 0, .int .i64 0], .int .i64 14]) ∧ Below w.heap.size w w' := by
  have C := Lib.hid (fun w' => check_yes s p c w' h)
  have HT := Lib.hid ht
  have HA := Lib.hid ha
  have HN := Lib.hid hn
  clear h ht ha hn
  go_enter Try.func34, Try.ntmps34
  go_wp2_with fail
  refine (C.out _).mono ?_
  rintro e w1 ⟨rfl, hb⟩
  have B := Lib.hid (below_call2 hb)
  obtain ⟨hc, hf⟩ := bcell hb
  have hz : w.heap.size < w1.heap.size := by have := hb.size; simp at this; omega
  have hz1 : w.heap.size + 1 < w1.heap.size := by have := hb.size; simp at this; omega
  clear hb C
  have HA1 : Hid (Asked w1 a n ts) := Lib.hid (fun k hk => by
    obtain ⟨g, e1, e2, e3⟩ := HA.out k hk
    have := B.out.cell (p := ⟨g, k, none⟩) e2
    exact ⟨g, e1, by omega, by rw [this]; exact e3⟩)
  go_wp2_with fail
  go_loop [18] (fun iv => ∃ k : Nat, k ≤ n ∧ iv = .int .i64 k ∧ Hid (∀ j, j < k → Vt (ts j))) (fun iv => n - (intOf iv).toNat)
  case atStart => exact ⟨0, by omega, rfl, Lib.hid (fun j hj => by omega)⟩
  case round =>
    obtain ⟨k, hk, rfl, done⟩ := hrel
    have lt : k < n := by
      apply Classical.byContradiction
      intro q
      obtain ⟨j, hj, hv⟩ := HT.out
      exact hv (done.out j (by omega))
    have d0 : decide ((k : Int) < (n : Int)) = true := by rw [decide_eq_true_iff]; omega
    have wk : IntKind.i64.wrap ((k : Int) + 1) = (k : Int) + 1 := by have := HN.out; rw [IntKind.wrap_i64]; omega
    obtain ⟨g, rfl, _, e3⟩ := HA1.out k lt
    by_cases q : Vt (ts k)
    · have V := Lib.hid (fun w' => valid_yes (ts k) w' q)
      have Q := Lib.hid q
      clear q
      go_wp2_with fail
      refine (V.out _).mono ?_
      rintro e w2 ⟨rfl, rfl⟩
      go_wp2_with fail
      go_round
      case rel => exact ⟨k + 1, by omega, by go_num, Lib.hid (fun j hj => by
        by_cases e : j = k
        · subst e; exact Q.out
        · exact done.out j (by omega))⟩
      case measure => simp [intOf]; omega
    · have V := Lib.hid (fun w' => valid_no (ts k) w' q)
      clear q
      go_wp2_with fail
      refine (V.out _).mono ?_
      rintro e w2 ⟨rfl, rfl⟩
      go_wp2_with fail
      refine bodyPost_ret (v := .tuple #[.agg #[.int .i64 0, .int .i64 0, .int .i64 0, .int .i64 0], .int .i64 14]) (by simp [results, Try.results34, go_sem, *]) rfl ⟨rfl, ?_⟩
      repeat refine Below.setCell ?_ (by simp) _
      exact B.out



set_option maxHeartbeats 4000000 in
theorem open_yes (s p c N : Int) (a : Option Addr) (n cap : Nat) (ts : Nat → Int) (w : World) (h : Ev.Ok s p c) (hN : Ev.num s p c = N) (hn : n ≤ 2) (ha : Asked w a n ts) (ht : ∀ k, k < n → Vt (ts k)) :
    Calls Try.prog 34 #[.agg #[.int .i64 s, .int .i64 p, .int .i64 c], .slice a n cap] w fun e w' => e = .returned (.tuple #[.agg #[.int .i64 s, .int .i64 p, .int .i64 c, .int .i64 N], .int .i64 0]) ∧ Below w.heap.size w w' := by
  have C := Lib.hid (fun w' => check_yes s p c w' h)
  have HT := Lib.hid ht
  have HA := Lib.hid ha
  have HN := Lib.hid hn
  have q0 : 0 ≤ (253402300799 - s) / p := Int.ediv_nonneg (by have := h.s1; omega) (by have := h.p0; omega)
  have q1 : (253402300799 - s) / p ≤ 253402300799 - s := Int.ediv_le_self _ (by have := h.s1; omega)
  have w1 : IntKind.i64.wrap (253402300799 - s) = 253402300799 - s := by have := h.s0; have := h.s1; rw [IntKind.wrap_i64]; omega
  have e1 : (253402300799 - s).tdiv p = (253402300799 - s) / p := quo_is (by have := h.s1; omega)
  unfold Ev.num Ev.full at hN
  obtain ⟨q, hq⟩ : ∃ q, (253402300799 - s) / p = q := ⟨_, rfl⟩
  rw [hq] at q0 q1 e1 hN
  have s0 := h.s0
  have s1 := h.s1
  have w2 : IntKind.i64.wrap (q + 1) = q + 1 := by rw [IntKind.wrap_i64]; omega
  have w3 : IntKind.i64.wrap q = q := by rw [IntKind.wrap_i64]; omega
  have z1 : (p == 0) = false := by have := h.p0; simp; omega
  have HC : Hid (0 ≤ c) := Lib.hid h.c0
  have P0 := h.p0
  have HW : Hid (-9223372036854775808 ≤ c ∧ c ≤ 9223372036854775807) := Lib.hid ⟨by have := h.c0; omega, by have := h.c1; omega⟩
  clear h ht ha hn hq q1 s0 s1
  go_enter Try.func34, Try.ntmps34
  go_wp2_with fail
  refine (C.out _).mono ?_
  rintro e w1 ⟨rfl, hb⟩
  have B := Lib.hid (below_call2 hb)
  obtain ⟨hc, hf⟩ := bcell hb
  have hz : w.heap.size < w1.heap.size := by have := hb.size; simp at this; omega
  have hz1 : w.heap.size + 1 < w1.heap.size := by have := hb.size; simp at this; omega
  clear hb C
  have HA1 : Hid (Asked w1 a n ts) := Lib.hid (fun k hk => by
    obtain ⟨g, e1, e2, e3⟩ := HA.out k hk
    have := B.out.cell (p := ⟨g, k, none⟩) e2
    exact ⟨g, e1, by omega, by rw [this]; exact e3⟩)
  go_wp2_with fail
  go_loop [18] (fun iv => ∃ k : Nat, k ≤ n ∧ iv = .int .i64 k) (fun iv => n - (intOf iv).toNat)
  case atStart => exact ⟨0, by omega, rfl⟩
  case round =>
    obtain ⟨k, hk, rfl⟩ := hrel
    by_cases lt : k < n
    · have d0 : decide ((k : Int) < (n : Int)) = true := by rw [decide_eq_true_iff]; omega
      have wk : IntKind.i64.wrap ((k : Int) + 1) = (k : Int) + 1 := by have := HN.out; rw [IntKind.wrap_i64]; omega
      obtain ⟨g, rfl, _, e3⟩ := HA1.out k lt
      have V := Lib.hid (fun w' => valid_yes (ts k) w' (HT.out k lt))
      go_wp2_with fail
      refine (V.out _).mono ?_
      rintro e w2 ⟨rfl, rfl⟩
      go_wp2_with fail
      go_round
      case rel => exact ⟨k + 1, by omega, by go_num⟩
      case measure => simp [intOf]; omega
    · have d0 : decide ((k : Int) < (n : Int)) = false := by rw [decide_eq_false_iff_not]; omega
      have d9 : decide (k < n) = false := dec_f lt
      clear hk HA1 HA HT
      by_cases c0 : 0 < c
      · have d1 : decide (0 < c) = true := dec_t c0
        by_cases le : c < q + 1
        · obtain rfl : c = N := by rw [if_pos ⟨c0, le⟩] at hN; exact hN
          clear hN
          go_wp2_with fail
          refine bodyPost_ret (v := .tuple #[.agg #[.int .i64 s, .int .i64 p, .int .i64 c, .int .i64 c], .int .i64 0]) (by simp [results, Try.results34, go_sem, *]) rfl ⟨rfl, ?_⟩
          repeat refine Below.setCell ?_ (by simp) _
          exact B.out
        · obtain rfl : q + 1 = N := by rw [if_neg (by omega)] at hN; exact hN
          clear hN
          have le : q + 1 ≤ c := by omega
          go_wp2_with fail
          refine bodyPost_ret (v := .tuple #[.agg #[.int .i64 s, .int .i64 p, .int .i64 c, .int .i64 (q+1)], .int .i64 0]) (by simp [results, Try.results34, go_sem, *]) rfl ⟨rfl, ?_⟩
          repeat refine Below.setCell ?_ (by simp) _
          exact B.out
      · have d1 : decide (0 < c) = false := dec_f c0
        obtain rfl : q + 1 = N := by rw [if_neg (by omega)] at hN; exact hN
        clear hN
        go_wp2_with fail
        refine bodyPost_ret (v := .tuple #[.agg #[.int .i64 s, .int .i64 p, .int .i64 c, .int .i64 (q+1)], .int .i64 0]) (by simp [results, Try.results34, go_sem, *]) rfl ⟨rfl, ?_⟩
        repeat refine Below.setCell ?_ (by simp) _
        exact B.out
end Go.Proofs.Ytnajpgkahnjabaa
