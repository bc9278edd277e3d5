/- Contracts of the document's small functions: number, first, upto, Is. -/
import Derived.Test.YtnajpgkahnjabaaEveC
import Derived.Deep.RegionHeld3
import Derived.BigQuiet
namespace Go.Proofs.Ytnajpgkahnjabaa
open Go.ChangeShapes Go.RowKit

theorem below_drewN {B : Nat} {w W : World} (h : Below B w W) (k : Nat) : Below B w (W.drewN k) := ⟨h.os, h.tape, h.output, h.size, h.block⟩

set_option maxHeartbeats 1000000 in
theorem number_any (s p c N : Int) (w : World) (h : Ev.Ok s p c) (hN : Ev.num s p c = N) :
    Calls Try.prog 37 #[.agg #[.int .i64 s, .int .i64 p, .int .i64 c]] w fun e w' => e = .returned (.int .i64 N) ∧ Below w.heap.size w w' := by
  have q0 : 0 ≤ (253402300799 - s) / p := Int.ediv_nonneg (by have := h.s1; omega) (by have := h.p0; omega)
  have q1 : (253402300799 - s) / p ≤ 253402300799 - s := Int.ediv_le_self _ (by have := h.s1; omega)
  have w1 : IntKind.i64.wrap (253402300799 - s) = 253402300799 - s := by have := h.s0; have := h.s1; rw [IntKind.wrap_i64]; omega
  have e1 : (253402300799 - s).tdiv p = (253402300799 - s) / p := quo_is (by have := h.s1; omega)
  unfold Ev.num Ev.full at hN
  obtain ⟨q, hq⟩ : ∃ q, (253402300799 - s) / p = q := ⟨_, rfl⟩
  rw [hq] at q0 q1 e1 hN
  have s0 := h.s0
  have s1 := h.s1
  have w2 : IntKind.i64.wrap (q + 1) = q + 1 := by rw [IntKind.wrap_i64]; omega
  have w3 : IntKind.i64.wrap q = q := by rw [IntKind.wrap_i64]; omega
  have z1 : (p == 0) = false := by have := h.p0; simp; omega
  have P0 := h.p0
  clear h hq q1 s0 s1
  by_cases c0 : 0 < c
  · have d1 : decide (0 < c) = true := dec_t c0
    by_cases le : c < q + 1
    · have d2 : decide (c < q + 1) = true := dec_t le
      obtain rfl : c = N := by rw [if_pos ⟨c0, le⟩] at hN; exact hN
      clear hN
      go_enter Try.func37, Try.ntmps37
      go_wp2_with fail
      go_ret
      exact ⟨rfl, (Below.refl _ _).alloc (Nat.le_refl _) _⟩
    · have d2 : decide (c < q + 1) = false := dec_f le
      obtain rfl : q + 1 = N := by rw [if_neg (by omega)] at hN; exact hN
      clear hN
      go_enter Try.func37, Try.ntmps37
      go_wp2_with fail
      go_ret
      exact ⟨rfl, (Below.refl _ _).alloc (Nat.le_refl _) _⟩
  · have d1 : decide (0 < c) = false := dec_f c0
    obtain rfl : q + 1 = N := by rw [if_neg (by omega)] at hN; exact hN
    clear hN
    go_enter Try.func37, Try.ntmps37
    go_wp2_with fail
    go_ret
    exact ⟨rfl, (Below.refl _ _).alloc (Nat.le_refl _) _⟩

theorem first_no (s p c t : Int) (w : World) (h : ¬ Ev.Ok s p c) :
    Calls Try.prog 36 #[.agg #[.int .i64 s, .int .i64 p, .int .i64 c], .int .i64 t] w fun e w' => e = .returned (.int .i64 16) ∧ Below w.heap.size w w' := by
  have C := Lib.hid (fun w' => rcheck_no s p c w' h)
  clear h
  go_enter Try.func36, Try.ntmps36
  go_wp2_with fail
  refine (C.out _).mono ?_
  rintro e w1 ⟨rfl, hb⟩
  have B := Lib.hid (below_call hb)
  clear hb
  go_wp2_with fail
  go_ret
  exact ⟨rfl, B.out⟩
theorem first_yes (s p c t : Int) (w : World) (h : Ev.Ok s p c) (ht : Vt t) :
    Calls Try.prog 36 #[.agg #[.int .i64 s, .int .i64 p, .int .i64 c], .int .i64 t] w fun e w' => e = .returned (.int .i64 0) ∧ Below w.heap.size w w' := by
  have C := Lib.hid (fun w' => rcheck_yes s p c w' h)
  have d0 : decide (t < 0) = false := dec_f (by have := ht.1; omega)
  have d1 : decide (253402300799 < t) = false := dec_f (by have := ht.2; omega)
  clear h ht
  go_enter Try.func36, Try.ntmps36
  go_wp2_with fail
  refine (C.out _).mono ?_
  rintro e w1 ⟨rfl, hb⟩
  have B := Lib.hid (below_call hb)
  clear hb
  go_wp2_with fail
  go_ret
  exact ⟨rfl, B.out⟩
theorem first_time (s p c t : Int) (w : World) (h : Ev.Ok s p c) (ht : ¬ Vt t) :
    Calls Try.prog 36 #[.agg #[.int .i64 s, .int .i64 p, .int .i64 c], .int .i64 t] w fun e w' => e = .returned (.int .i64 14) ∧ Below w.heap.size w w' := by
  have C := Lib.hid (fun w' => rcheck_yes s p c w' h)
  unfold Vt at ht
  by_cases k : t < 0
  · have d0 : decide (t < 0) = true := dec_t k
    clear h ht k
    go_enter Try.func36, Try.ntmps36
    go_wp2_with fail
    refine (C.out _).mono ?_
    rintro e w1 ⟨rfl, hb⟩
    have B := Lib.hid (below_call hb)
    clear hb
    go_wp2_with fail
    go_ret
    exact ⟨rfl, B.out⟩
  · have d0 : decide (t < 0) = false := dec_f k
    have d1 : decide (253402300799 < t) = true := dec_t (by omega)
    clear h ht k
    go_enter Try.func36, Try.ntmps36
    go_wp2_with fail
    refine (C.out _).mono ?_
    rintro e w1 ⟨rfl, hb⟩
    have B := Lib.hid (below_call hb)
    clear hb
    go_wp2_with fail
    go_ret
    exact ⟨rfl, B.out⟩

theorem rupto_any (s p c t u : Int) (w : World) (h : Ev.Ok s p c) (hu : Ev.upto s p c t = u) (t0 : -1 ≤ t) (t1 : t ≤ 253402300799) :
    Calls Try.prog 40 #[.agg #[.int .i64 s, .int .i64 p, .int .i64 c], .int .i64 t] w fun e w' => e = .returned (.int .i64 u) ∧ Below w.heap.size w w' := by
  unfold Ev.upto at hu
  obtain ⟨N, hN⟩ : ∃ N, Ev.num s p c = N := ⟨_, rfl⟩
  have NU := Lib.hid (fun w' => number_any s p c N w' h hN)
  rw [hN] at hu
  have s0 := h.s0
  have p0 := h.p0
  by_cases lt : t < s
  · rw [if_pos lt] at hu
    subst hu
    have d := dec_t lt
    clear h hN s0 p0 lt NU
    go_enter Try.func40, Try.ntmps40
    go_wp2_with fail
    go_ret
    exact ⟨rfl, (Below.refl _ _).alloc (Nat.le_refl _) _⟩
  · rw [if_neg lt] at hu
    have d := dec_f lt
    have q0 : 0 ≤ (t - s) / p := Int.ediv_nonneg (by omega) (by omega)
    have q1 : (t - s) / p ≤ t - s := Int.ediv_le_self _ (by omega)
    have w1 : IntKind.i64.wrap (t - s) = t - s := by rw [IntKind.wrap_i64]; omega
    have e1 : (t - s).tdiv p = (t - s) / p := quo_is (by omega)
    obtain ⟨q, hq⟩ : ∃ q, (t - s) / p = q := ⟨_, rfl⟩
    rw [hq] at q0 q1 e1 hu
    have w2 : IntKind.i64.wrap (q + 1) = q + 1 := by rw [IntKind.wrap_i64]; omega
    have z1 : (p == 0) = false := by simp; omega
    have w3 : IntKind.i64.wrap q = q := by rw [IntKind.wrap_i64]; omega
    by_cases le : N < q + 1
    · have eu : u = N := by omega
      subst eu
      have d1 := dec_t le
      clear hu lt h hN hq le
      go_enter Try.func40, Try.ntmps40
      go_wp2_with fail
      refine (NU.out _).mono ?_
      rintro e w1 ⟨rfl, hb⟩
      have B := Lib.hid (below_call hb)
      obtain ⟨hc, hf⟩ := bcell hb
      have hz : w.heap.size < w1.heap.size := by have := hb.size; simp at this; omega
      clear hb
      go_wp2_with fail
      refine (NU.out _).mono ?_
      rintro e w2 ⟨rfl, hb⟩
      have B := Lib.hid (B.out.trans (hb.mono (by omega)))
      clear hb
      go_wp2_with fail
      go_ret
      exact ⟨rfl, B.out⟩
    · have eu : u = q + 1 := by omega
      subst eu
      have d1 := dec_f le
      clear hu lt h hN hq le
      go_enter Try.func40, Try.ntmps40
      go_wp2_with fail
      refine (NU.out _).mono ?_
      rintro e w1 ⟨rfl, hb⟩
      have B := Lib.hid (below_call hb)
      clear hb
      go_wp2_with fail
      go_ret
      exact ⟨rfl, B.out⟩

/-- the answer of Is -/
def IsR (s p c t : Int) (b : Bool) (r : Int) : Prop := (¬ Ev.Ok s p c ∧ b = false ∧ r = 16) ∨ (Ev.Ok s p c ∧ ¬ Vt t ∧ b = false ∧ r = 14) ∨ (Ev.Ok s p c ∧ Vt t ∧ r = 0 ∧ (b = true ↔ Ev.On s p c t))

set_option maxHeartbeats 2000000 in
theorem ris_any (s p c t : Int) (b : Bool) (r : Int) (w : World) (h : IsR s p c t b r) :
    Calls Try.prog 15 #[.agg #[.int .i64 s, .int .i64 p, .int .i64 c], .int .i64 t] w fun e w' => e = .returned (.tuple #[.bool b, .int .i64 r]) ∧ Below w.heap.size w w' := by
  rcases h with ⟨h, rfl, rfl⟩ | ⟨h, ht, rfl, rfl⟩ | ⟨h, ht, rfl, hb⟩
  · have C := Lib.hid (fun w' => first_no s p c t w' h)
    clear h
    go_enter Try.func15, Try.ntmps15
    go_wp2_with fail
    refine (C.out _).mono ?_
    rintro e w1 ⟨rfl, hb⟩
    have B := Lib.hid (below_call hb)
    clear hb
    go_wp2_with fail
    go_ret2
    exact ⟨rfl, B.out⟩
  · have C := Lib.hid (fun w' => first_time s p c t w' h ht)
    clear h ht
    go_enter Try.func15, Try.ntmps15
    go_wp2_with fail
    refine (C.out _).mono ?_
    rintro e w1 ⟨rfl, hb⟩
    have B := Lib.hid (below_call hb)
    clear hb
    go_wp2_with fail
    go_ret2
    exact ⟨rfl, B.out⟩
  · have C := Lib.hid (fun w' => first_yes s p c t w' h ht)
    obtain ⟨N, hN⟩ : ∃ N, Ev.num s p c = N := ⟨_, rfl⟩
    have NU := Lib.hid (fun w' => number_any s p c N w' h hN)
    unfold Ev.On at hb
    rw [hN] at hb
    obtain ⟨t0, t1⟩ := ht
    have s0 := h.s0
    have s1 := h.s1
    have p0 := h.p0
    by_cases le : s ≤ t
    · have e1 : (t - s).tmod p = (t - s) % p := rem_is (by omega)
      have e2 : (t - s).tdiv p = (t - s) / p := quo_is (by omega)
      have q0 : 0 ≤ (t - s) / p := Int.ediv_nonneg (by omega) (by omega)
      have q1 : (t - s) / p ≤ t - s := Int.ediv_le_self _ (by omega)
      have w1 : IntKind.i64.wrap (t - s) = t - s := by rw [IntKind.wrap_i64]; omega
      have d0 : decide (s ≤ t) = true := dec_t le
      have z1 : (p == 0) = false := by simp; omega
      have z2 : ¬ p = 0 := by omega
      obtain ⟨m, hm⟩ : ∃ m, (t - s) % p = m := ⟨_, rfl⟩
      obtain ⟨q, hq⟩ : ∃ q, (t - s) / p = q := ⟨_, rfl⟩
      rw [hm] at e1 hb
      rw [hq] at e2 hb q0 q1
      have w3 : IntKind.i64.wrap q = q := by rw [IntKind.wrap_i64]; omega
      by_cases z : m = 0
      · subst z
        have eb : b = decide (q < N) := by
          by_cases k : q < N
          · rw [dec_t k]; exact hb.2 ⟨le, rfl, k⟩
          · rw [dec_f k]; cases b with | false => rfl | true => exact absurd (hb.1 rfl).2.2 k
        subst eb
        clear h hN hb hm hq le s0 s1 t0 t1
        go_enter Try.func15, Try.ntmps15
        go_wp2_with fail
        refine (C.out _).mono ?_
        rintro e w1 ⟨rfl, hb⟩
        have B := Lib.hid (below_call hb)
        obtain ⟨hc, hf⟩ := bcell hb
        have hz : w.heap.size < w1.heap.size := by have := hb.size; simp at this; omega
        clear hb
        go_wp2_with fail
        have c0 : w1.cell? ⟨w.heap.size, 0, none⟩ = some (.int .i64 s) := by rw [hc _ _ (by simp)]; simp [go_sem]
        have c1 : w1.cell? ⟨w.heap.size, 1, none⟩ = some (.int .i64 p) := by rw [hc _ _ (by simp)]; simp [go_sem]
        have c2 : w1.cell? ⟨w.heap.size, 2, none⟩ = some (.int .i64 c) := by rw [hc _ _ (by simp)]; simp [go_sem]
        clear hc hf
        go_region_held3 (fun w' => w'.cell? ⟨w.heap.size, 0, none⟩ = some (.int .i64 s) ∧ w'.cell? ⟨w.heap.size, 1, none⟩ = some (.int .i64 p) ∧ w'.cell? ⟨w.heap.size, 2, none⟩ = some (.int .i64 c)) (go_keep)
          (first | (go_at_call 37; refine (NU.out _).mono ?_; rintro e w2 ⟨rfl, hb⟩; have x0 := hb.cell (p := ⟨w.heap.size, 0, none⟩) (by simp; omega); have x1 := hb.cell (p := ⟨w.heap.size, 1, none⟩) (by simp; omega); have x2 := hb.cell (p := ⟨w.heap.size, 2, none⟩) (by simp; omega)))
        have B := Lib.hid (B.out.drew.trans (hb.mono (by simp; omega)))
        clear hb
        go_wp2_with fail
        go_ret2
        exact ⟨rfl, B.out⟩
      · have eb : b = false := by cases b with | false => rfl | true => exact absurd (hb.1 rfl).2.1 z
        subst eb
        have y0 : (m == 0) = false := by simpa using z
        clear h hN hb hm hq le s0 s1 t0 t1 NU
        go_enter Try.func15, Try.ntmps15
        go_wp2_with fail
        refine (C.out _).mono ?_
        rintro e w1 ⟨rfl, hb⟩
        have B := Lib.hid (below_call hb)
        obtain ⟨hc, hf⟩ := bcell hb
        have hz : w.heap.size < w1.heap.size := by have := hb.size; simp at this; omega
        clear hb
        go_wp2_with fail
        have c0 : w1.cell? ⟨w.heap.size, 0, none⟩ = some (.int .i64 s) := by rw [hc _ _ (by simp)]; simp [go_sem]
        have c1 : w1.cell? ⟨w.heap.size, 1, none⟩ = some (.int .i64 p) := by rw [hc _ _ (by simp)]; simp [go_sem]
        have c2 : w1.cell? ⟨w.heap.size, 2, none⟩ = some (.int .i64 c) := by rw [hc _ _ (by simp)]; simp [go_sem]
        clear hc hf
        go_quiet (fail)
        go_wp2_with fail
        go_ret2
        exact ⟨rfl, below_drewN B.out _⟩
    · have eb : b = false := by cases b with | false => rfl | true => exact absurd (hb.1 rfl).1 le
      subst eb
      have d0 : decide (s ≤ t) = false := dec_f le
      clear h hN hb le s0 s1 t0 t1 NU
      go_enter Try.func15, Try.ntmps15
      go_wp2_with fail
      refine (C.out _).mono ?_
      rintro e w1 ⟨rfl, hb⟩
      have B := Lib.hid (below_call hb)
      obtain ⟨hc, hf⟩ := bcell hb
      have hz : w.heap.size < w1.heap.size := by have := hb.size; simp at this; omega
      clear hb
      go_wp2_with fail
      have c0 : w1.cell? ⟨w.heap.size, 0, none⟩ = some (.int .i64 s) := by rw [hc _ _ (by simp)]; simp [go_sem]
      have c1 : w1.cell? ⟨w.heap.size, 1, none⟩ = some (.int .i64 p) := by rw [hc _ _ (by simp)]; simp [go_sem]
      have c2 : w1.cell? ⟨w.heap.size, 2, none⟩ = some (.int .i64 c) := by rw [hc _ _ (by simp)]; simp [go_sem]
      clear hc hf
      go_quiet (fail)
      go_wp2_with fail
      go_ret2
      exact ⟨rfl, below_drewN B.out _⟩
end Go.Proofs.Ytnajpgkahnjabaa
