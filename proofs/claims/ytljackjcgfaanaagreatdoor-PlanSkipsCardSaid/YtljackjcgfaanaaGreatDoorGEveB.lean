/- Contracts of the document's small functions: number, first, upto, Is. Contracts of package every's Is, Next, Prev, Count, Nth, Index, Last, by relations that say which answer there is. Contracts of the document's Next, Prev, Count, Nth, Index, Last, by the relations that say which answer there is. -/
import Derived.Test.YtljackjcgfaanaaGreatDoorGEveA
import Derived.Deep.RegionHeld3
import Derived.BigQuiet
/- Contracts of the document's small functions: number, first, upto, Is. -/
namespace Go.Proofs.YtljackjcgfaanaaGreatDoor.En
open Go.ChangeShapes Go.RowKit

theorem below_drewN {B : Nat} {w W : World} (h : Below B w W) (k : Nat) : Below B w (W.drewN k) := ⟨h.os, h.tape, h.output, h.size, h.block⟩

set_option maxHeartbeats 1000000 in
theorem number_any (s p c N : Int) (w : World) (h : Ev.Ok s p c) (hN : Ev.num s p c = N) :
    Calls Tryz.prog 58 #[.agg #[.int .i64 s, .int .i64 p, .int .i64 c]] w fun e w' => e = .returned (.int .i64 N) ∧ Below w.heap.size w w' := by
  have q0 : 0 ≤ (253402300799 - s) / p := Int.ediv_nonneg (by have := h.s1; omega) (by have := h.p0; omega)
  have q1 : (253402300799 - s) / p ≤ 253402300799 - s := Int.ediv_le_self _ (by have := h.s1; omega)
  have w1 : IntKind.i64.wrap (253402300799 - s) = 253402300799 - s := by have := h.s0; have := h.s1; rw [IntKind.wrap_i64]; omega
  have e1 : (253402300799 - s).tdiv p = (253402300799 - s) / p := quo_is (by have := h.s1; omega)
  unfold Ev.num Ev.full at hN
  obtain ⟨q, hq⟩ : ∃ q, (253402300799 - s) / p = q := ⟨_, rfl⟩
  rw [hq] at q0 q1 e1 hN
  have s0 := h.s0
  have s1 := h.s1
  have w2 : IntKind.i64.wrap (q + 1) = q + 1 := by rw [IntKind.wrap_i64]; omega
  have w3 : IntKind.i64.wrap q = q := by rw [IntKind.wrap_i64]; omega
  have z1 : (p == 0) = false := by have := h.p0; simp; omega
  have P0 := h.p0
  clear h hq q1 s0 s1
  by_cases c0 : 0 < c
  · have d1 : decide (0 < c) = true := dec_t c0
    by_cases le : c < q + 1
    · have d2 : decide (c < q + 1) = true := dec_t le
      obtain rfl : c = N := by rw [if_pos ⟨c0, le⟩] at hN; exact hN
      clear hN
      go_enter Tryz.func58, Tryz.ntmps58
      go_wp2_with fail
      go_ret
      exact ⟨rfl, (Below.refl _ _).alloc (Nat.le_refl _) _⟩
    · have d2 : decide (c < q + 1) = false := dec_f le
      obtain rfl : q + 1 = N := by rw [if_neg (by omega)] at hN; exact hN
      clear hN
      go_enter Tryz.func58, Tryz.ntmps58
      go_wp2_with fail
      go_ret
      exact ⟨rfl, (Below.refl _ _).alloc (Nat.le_refl _) _⟩
  · have d1 : decide (0 < c) = false := dec_f c0
    obtain rfl : q + 1 = N := by rw [if_neg (by omega)] at hN; exact hN
    clear hN
    go_enter Tryz.func58, Tryz.ntmps58
    go_wp2_with fail
    go_ret
    exact ⟨rfl, (Below.refl _ _).alloc (Nat.le_refl _) _⟩

theorem first_no (s p c t : Int) (w : World) (h : ¬ Ev.Ok s p c) :
    Calls Tryz.prog 57 #[.agg #[.int .i64 s, .int .i64 p, .int .i64 c], .int .i64 t] w fun e w' => e = .returned (.int .i64 16) ∧ Below w.heap.size w w' := by
  have C := Lib.hid (fun w' => rcheck_no s p c w' h)
  clear h
  go_enter Tryz.func57, Tryz.ntmps57
  go_wp2_with fail
  refine (C.out _).mono ?_
  rintro e w1 ⟨rfl, hb⟩
  have B := Lib.hid (below_call hb)
  clear hb
  go_wp2_with fail
  go_ret
  exact ⟨rfl, B.out⟩
theorem first_yes (s p c t : Int) (w : World) (h : Ev.Ok s p c) (ht : Vt t) :
    Calls Tryz.prog 57 #[.agg #[.int .i64 s, .int .i64 p, .int .i64 c], .int .i64 t] w fun e w' => e = .returned (.int .i64 0) ∧ Below w.heap.size w w' := by
  have C := Lib.hid (fun w' => rcheck_yes s p c w' h)
  have d0 : decide (t < 0) = false := dec_f (by have := ht.1; omega)
  have d1 : decide (253402300799 < t) = false := dec_f (by have := ht.2; omega)
  clear h ht
  go_enter Tryz.func57, Tryz.ntmps57
  go_wp2_with fail
  refine (C.out _).mono ?_
  rintro e w1 ⟨rfl, hb⟩
  have B := Lib.hid (below_call hb)
  clear hb
  go_wp2_with fail
  go_ret
  exact ⟨rfl, B.out⟩
theorem first_time (s p c t : Int) (w : World) (h : Ev.Ok s p c) (ht : ¬ Vt t) :
    Calls Tryz.prog 57 #[.agg #[.int .i64 s, .int .i64 p, .int .i64 c], .int .i64 t] w fun e w' => e = .returned (.int .i64 14) ∧ Below w.heap.size w w' := by
  have C := Lib.hid (fun w' => rcheck_yes s p c w' h)
  unfold Vt at ht
  by_cases k : t < 0
  · have d0 : decide (t < 0) = true := dec_t k
    clear h ht k
    go_enter Tryz.func57, Tryz.ntmps57
    go_wp2_with fail
    refine (C.out _).mono ?_
    rintro e w1 ⟨rfl, hb⟩
    have B := Lib.hid (below_call hb)
    clear hb
    go_wp2_with fail
    go_ret
    exact ⟨rfl, B.out⟩
  · have d0 : decide (t < 0) = false := dec_f k
    have d1 : decide (253402300799 < t) = true := dec_t (by omega)
    clear h ht k
    go_enter Tryz.func57, Tryz.ntmps57
    go_wp2_with fail
    refine (C.out _).mono ?_
    rintro e w1 ⟨rfl, hb⟩
    have B := Lib.hid (below_call hb)
    clear hb
    go_wp2_with fail
    go_ret
    exact ⟨rfl, B.out⟩

theorem rupto_any (s p c t u : Int) (w : World) (h : Ev.Ok s p c) (hu : Ev.upto s p c t = u) (t0 : -1 ≤ t) (t1 : t ≤ 253402300799) :
    Calls Tryz.prog 101 #[.agg #[.int .i64 s, .int .i64 p, .int .i64 c], .int .i64 t] w fun e w' => e = .returned (.int .i64 u) ∧ Below w.heap.size w w' := by
  unfold Ev.upto at hu
  obtain ⟨N, hN⟩ : ∃ N, Ev.num s p c = N := ⟨_, rfl⟩
  have NU := Lib.hid (fun w' => number_any s p c N w' h hN)
  rw [hN] at hu
  have s0 := h.s0
  have p0 := h.p0
  by_cases lt : t < s
  · rw [if_pos lt] at hu
    subst hu
    have d := dec_t lt
    clear h hN s0 p0 lt NU
    go_enter Tryz.func101, Tryz.ntmps101
    go_wp2_with fail
    go_ret
    exact ⟨rfl, (Below.refl _ _).alloc (Nat.le_refl _) _⟩
  · rw [if_neg lt] at hu
    have d := dec_f lt
    have q0 : 0 ≤ (t - s) / p := Int.ediv_nonneg (by omega) (by omega)
    have q1 : (t - s) / p ≤ t - s := Int.ediv_le_self _ (by omega)
    have w1 : IntKind.i64.wrap (t - s) = t - s := by rw [IntKind.wrap_i64]; omega
    have e1 : (t - s).tdiv p = (t - s) / p := quo_is (by omega)
    obtain ⟨q, hq⟩ : ∃ q, (t - s) / p = q := ⟨_, rfl⟩
    rw [hq] at q0 q1 e1 hu
    have w2 : IntKind.i64.wrap (q + 1) = q + 1 := by rw [IntKind.wrap_i64]; omega
    have z1 : (p == 0) = false := by simp; omega
    have w3 : IntKind.i64.wrap q = q := by rw [IntKind.wrap_i64]; omega
    by_cases le : N < q + 1
    · have eu : u = N := by omega
      subst eu
      have d1 := dec_t le
      clear hu lt h hN hq le
      go_enter Tryz.func101, Tryz.ntmps101
      go_wp2_with fail
      refine (NU.out _).mono ?_
      rintro e w1 ⟨rfl, hb⟩
      have B := Lib.hid (below_call hb)
      obtain ⟨hc, hf⟩ := bcell hb
      have hz : w.heap.size < w1.heap.size := by have := hb.size; simp at this; omega
      clear hb
      go_wp2_with fail
      refine (NU.out _).mono ?_
      rintro e w2 ⟨rfl, hb⟩
      have B := Lib.hid (B.out.trans (hb.mono (by omega)))
      clear hb
      go_wp2_with fail
      go_ret
      exact ⟨rfl, B.out⟩
    · have eu : u = q + 1 := by omega
      subst eu
      have d1 := dec_f le
      clear hu lt h hN hq le
      go_enter Tryz.func101, Tryz.ntmps101
      go_wp2_with fail
      refine (NU.out _).mono ?_
      rintro e w1 ⟨rfl, hb⟩
      have B := Lib.hid (below_call hb)
      clear hb
      go_wp2_with fail
      go_ret
      exact ⟨rfl, B.out⟩

/-- the answer of Is -/
def IsR (s p c t : Int) (b : Bool) (r : Int) : Prop := (¬ Ev.Ok s p c ∧ b = false ∧ r = 16) ∨ (Ev.Ok s p c ∧ ¬ Vt t ∧ b = false ∧ r = 14) ∨ (Ev.Ok s p c ∧ Vt t ∧ r = 0 ∧ (b = true ↔ Ev.On s p c t))

set_option maxHeartbeats 2000000 in
theorem ris_any (s p c t : Int) (b : Bool) (r : Int) (w : World) (h : IsR s p c t b r) :
    Calls Tryz.prog 39 #[.agg #[.int .i64 s, .int .i64 p, .int .i64 c], .int .i64 t] w fun e w' => e = .returned (.tuple #[.bool b, .int .i64 r]) ∧ Below w.heap.size w w' := by
  rcases h with ⟨h, rfl, rfl⟩ | ⟨h, ht, rfl, rfl⟩ | ⟨h, ht, rfl, hb⟩
  · have C := Lib.hid (fun w' => first_no s p c t w' h)
    clear h
    go_enter Tryz.func39, Tryz.ntmps39
    go_wp2_with fail
    refine (C.out _).mono ?_
    rintro e w1 ⟨rfl, hb⟩
    have B := Lib.hid (below_call hb)
    clear hb
    go_wp2_with fail
    go_ret2
    exact ⟨rfl, B.out⟩
  · have C := Lib.hid (fun w' => first_time s p c t w' h ht)
    clear h ht
    go_enter Tryz.func39, Tryz.ntmps39
    go_wp2_with fail
    refine (C.out _).mono ?_
    rintro e w1 ⟨rfl, hb⟩
    have B := Lib.hid (below_call hb)
    clear hb
    go_wp2_with fail
    go_ret2
    exact ⟨rfl, B.out⟩
  · have C := Lib.hid (fun w' => first_yes s p c t w' h ht)
    obtain ⟨N, hN⟩ : ∃ N, Ev.num s p c = N := ⟨_, rfl⟩
    have NU := Lib.hid (fun w' => number_any s p c N w' h hN)
    unfold Ev.On at hb
    rw [hN] at hb
    obtain ⟨t0, t1⟩ := ht
    have s0 := h.s0
    have s1 := h.s1
    have p0 := h.p0
    by_cases le : s ≤ t
    · have e1 : (t - s).tmod p = (t - s) % p := rem_is (by omega)
      have e2 : (t - s).tdiv p = (t - s) / p := quo_is (by omega)
      have q0 : 0 ≤ (t - s) / p := Int.ediv_nonneg (by omega) (by omega)
      have q1 : (t - s) / p ≤ t - s := Int.ediv_le_self _ (by omega)
      have w1 : IntKind.i64.wrap (t - s) = t - s := by rw [IntKind.wrap_i64]; omega
      have d0 : decide (s ≤ t) = true := dec_t le
      have z1 : (p == 0) = false := by simp; omega
      have z2 : ¬ p = 0 := by omega
      obtain ⟨m, hm⟩ : ∃ m, (t - s) % p = m := ⟨_, rfl⟩
      obtain ⟨q, hq⟩ : ∃ q, (t - s) / p = q := ⟨_, rfl⟩
      rw [hm] at e1 hb
      rw [hq] at e2 hb q0 q1
      have w3 : IntKind.i64.wrap q = q := by rw [IntKind.wrap_i64]; omega
      by_cases z : m = 0
      · subst z
        have eb : b = decide (q < N) := by
          by_cases k : q < N
          · rw [dec_t k]; exact hb.2 ⟨le, rfl, k⟩
          · rw [dec_f k]; cases b with | false => rfl | true => exact absurd (hb.1 rfl).2.2 k
        subst eb
        clear h hN hb hm hq le s0 s1 t0 t1
        go_enter Tryz.func39, Tryz.ntmps39
        go_wp2_with fail
        refine (C.out _).mono ?_
        rintro e w1 ⟨rfl, hb⟩
        have B := Lib.hid (below_call hb)
        obtain ⟨hc, hf⟩ := bcell hb
        have hz : w.heap.size < w1.heap.size := by have := hb.size; simp at this; omega
        clear hb
        go_wp2_with fail
        have c0 : w1.cell? ⟨w.heap.size, 0, none⟩ = some (.int .i64 s) := by rw [hc _ _ (by simp)]; simp [go_sem]
        have c1 : w1.cell? ⟨w.heap.size, 1, none⟩ = some (.int .i64 p) := by rw [hc _ _ (by simp)]; simp [go_sem]
        have c2 : w1.cell? ⟨w.heap.size, 2, none⟩ = some (.int .i64 c) := by rw [hc _ _ (by simp)]; simp [go_sem]
        clear hc hf
        go_region_held3 (fun w' => w'.cell? ⟨w.heap.size, 0, none⟩ = some (.int .i64 s) ∧ w'.cell? ⟨w.heap.size, 1, none⟩ = some (.int .i64 p) ∧ w'.cell? ⟨w.heap.size, 2, none⟩ = some (.int .i64 c)) (go_keep)
          (first | (go_at_call 58; refine (NU.out _).mono ?_; rintro e w2 ⟨rfl, hb⟩; have x0 := hb.cell (p := ⟨w.heap.size, 0, none⟩) (by simp; omega); have x1 := hb.cell (p := ⟨w.heap.size, 1, none⟩) (by simp; omega); have x2 := hb.cell (p := ⟨w.heap.size, 2, none⟩) (by simp; omega)))
        have B := Lib.hid (B.out.drew.trans (hb.mono (by simp; omega)))
        clear hb
        go_wp2_with fail
        go_ret2
        exact ⟨rfl, B.out⟩
      · have eb : b = false := by cases b with | false => rfl | true => exact absurd (hb.1 rfl).2.1 z
        subst eb
        have y0 : (m == 0) = false := by simpa using z
        clear h hN hb hm hq le s0 s1 t0 t1 NU
        go_enter Tryz.func39, Tryz.ntmps39
        go_wp2_with fail
        refine (C.out _).mono ?_
        rintro e w1 ⟨rfl, hb⟩
        have B := Lib.hid (below_call hb)
        obtain ⟨hc, hf⟩ := bcell hb
        have hz : w.heap.size < w1.heap.size := by have := hb.size; simp at this; omega
        clear hb
        go_wp2_with fail
        have c0 : w1.cell? ⟨w.heap.size, 0, none⟩ = some (.int .i64 s) := by rw [hc _ _ (by simp)]; simp [go_sem]
        have c1 : w1.cell? ⟨w.heap.size, 1, none⟩ = some (.int .i64 p) := by rw [hc _ _ (by simp)]; simp [go_sem]
        have c2 : w1.cell? ⟨w.heap.size, 2, none⟩ = some (.int .i64 c) := by rw [hc _ _ (by simp)]; simp [go_sem]
        clear hc hf
        go_quiet (fail)
        go_wp2_with fail
        go_ret2
        exact ⟨rfl, below_drewN B.out _⟩
    · have eb : b = false := by cases b with | false => rfl | true => exact absurd (hb.1 rfl).1 le
      subst eb
      have d0 : decide (s ≤ t) = false := dec_f le
      clear h hN hb le s0 s1 t0 t1 NU
      go_enter Tryz.func39, Tryz.ntmps39
      go_wp2_with fail
      refine (C.out _).mono ?_
      rintro e w1 ⟨rfl, hb⟩
      have B := Lib.hid (below_call hb)
      obtain ⟨hc, hf⟩ := bcell hb
      have hz : w.heap.size < w1.heap.size := by have := hb.size; simp at this; omega
      clear hb
      go_wp2_with fail
      have c0 : w1.cell? ⟨w.heap.size, 0, none⟩ = some (.int .i64 s) := by rw [hc _ _ (by simp)]; simp [go_sem]
      have c1 : w1.cell? ⟨w.heap.size, 1, none⟩ = some (.int .i64 p) := by rw [hc _ _ (by simp)]; simp [go_sem]
      have c2 : w1.cell? ⟨w.heap.size, 2, none⟩ = some (.int .i64 c) := by rw [hc _ _ (by simp)]; simp [go_sem]
      clear hc hf
      go_quiet (fail)
      go_wp2_with fail
      go_ret2
      exact ⟨rfl, below_drewN B.out _⟩
end Go.Proofs.YtljackjcgfaanaaGreatDoor.En
/- Contracts of package every's Is, Next, Prev, Count, Nth, Index, Last, by relations that say which answer there is. -/
namespace Go.Proofs.YtljackjcgfaanaaGreatDoor.En
open Go.ChangeShapes Go.RowKit

def NextR (s p c t v : Int) (b : Bool) (r : Int) : Prop := (¬ Ev.Ok s p c ∧ v = 0 ∧ b = false ∧ r = 16) ∨ (Ev.Ok s p c ∧ ¬ Vt t ∧ v = 0 ∧ b = false ∧ r = 14) ∨ (Ev.Ok s p c ∧ Vt t ∧ r = 0 ∧ Ev.IsNext s p c t v b)
def CountR (s p c a b n r : Int) : Prop := (¬ Ev.Ok s p c ∧ n = 0 ∧ r = 16) ∨ (Ev.Ok s p c ∧ ¬ (Vt a ∧ Vt b) ∧ n = 0 ∧ r = 14) ∨ (Ev.Ok s p c ∧ Vt a ∧ Vt b ∧ n = Ev.cnt s p c a b ∧ r = 0)
theorem cell_lt {w : World} {g o : Nat} {v : Value} (h : w.cell? ⟨g, o, none⟩ = some v) : g < w.heap.size := by
  apply Classical.byContradiction
  intro q
  have e : w.heap[g]? = none := by rw [Array.getElem?_eq_none]; omega
  simp [World.cell?, e] at h
theorem asked_one {w : World} {g : Nat} {t : Int} (h : w.cell? ⟨g, 0, none⟩ = some (.int .i64 t)) : Asked w (some ⟨g, 0, none⟩) 1 (fun _ => t) := fun k hk => by
  obtain rfl : k = 0 := by omega
  exact ⟨g, rfl, cell_lt h, h⟩
theorem asked_two {w : World} {g : Nat} {a b : Int} (h : w.cell? ⟨g, 0, none⟩ = some (.int .i64 a)) (h' : w.cell? ⟨g, 1, none⟩ = some (.int .i64 b)) : Asked w (some ⟨g, 0, none⟩) 2 (fun k => if k = 0 then a else b) := fun k hk => by
  have : k = 0 ∨ k = 1 := by omega
  rcases this with rfl | rfl
  · exact ⟨g, rfl, cell_lt h, h⟩
  · exact ⟨g, rfl, cell_lt h, h'⟩
theorem open1_no {s p c : Int} (h : ¬ Ev.Ok s p c) (g cap : Nat) (w : World) : Calls Tryz.prog 113 #[.agg #[.int .i64 s, .int .i64 p, .int .i64 c], .slice (some ⟨g, 0, none⟩) 1 cap] w fun e w' => e = .returned (.tuple #[.agg #[.int .i64 0, .int .i64 0, .int .i64 0, .int .i64 0], .int .i64 16]) ∧ Below w.heap.size w w' := open_no s p c _ 1 cap w h
theorem open1_time {s p c t : Int} (h : Ev.Ok s p c) (ht : ¬ Vt t) (g cap : Nat) (w : World) (hc : w.cell? ⟨g, 0, none⟩ = some (.int .i64 t)) : Calls Tryz.prog 113 #[.agg #[.int .i64 s, .int .i64 p, .int .i64 c], .slice (some ⟨g, 0, none⟩) 1 cap] w fun e w' => e = .returned (.tuple #[.agg #[.int .i64 0, .int .i64 0, .int .i64 0, .int .i64 0], .int .i64 14]) ∧ Below w.heap.size w w' := open_time s p c _ 1 cap _ w h (by omega) (asked_one hc) ⟨0, by omega, ht⟩
theorem open1_yes {s p c t N : Int} (h : Ev.Ok s p c) (hN : Ev.num s p c = N) (ht : Vt t) (g cap : Nat) (w : World) (hc : w.cell? ⟨g, 0, none⟩ = some (.int .i64 t)) : Calls Tryz.prog 113 #[.agg #[.int .i64 s, .int .i64 p, .int .i64 c], .slice (some ⟨g, 0, none⟩) 1 cap] w fun e w' => e = .returned (.tuple #[.agg #[.int .i64 s, .int .i64 p, .int .i64 c, .int .i64 N], .int .i64 0]) ∧ Below w.heap.size w w' := open_yes s p c N _ 1 cap _ w h hN (by omega) (asked_one hc) (fun _ _ => ht)
theorem open2_no {s p c : Int} (h : ¬ Ev.Ok s p c) (g cap : Nat) (w : World) : Calls Tryz.prog 113 #[.agg #[.int .i64 s, .int .i64 p, .int .i64 c], .slice (some ⟨g, 0, none⟩) 2 cap] w fun e w' => e = .returned (.tuple #[.agg #[.int .i64 0, .int .i64 0, .int .i64 0, .int .i64 0], .int .i64 16]) ∧ Below w.heap.size w w' := open_no s p c _ 2 cap w h
theorem open2_time {s p c a b : Int} (h : Ev.Ok s p c) (ht : ¬ (Vt a ∧ Vt b)) (g cap : Nat) (w : World) (hc : w.cell? ⟨g, 0, none⟩ = some (.int .i64 a)) (hd : w.cell? ⟨g, 1, none⟩ = some (.int .i64 b)) : Calls Tryz.prog 113 #[.agg #[.int .i64 s, .int .i64 p, .int .i64 c], .slice (some ⟨g, 0, none⟩) 2 cap] w fun e w' => e = .returned (.tuple #[.agg #[.int .i64 0, .int .i64 0, .int .i64 0, .int .i64 0], .int .i64 14]) ∧ Below w.heap.size w w' := open_time s p c _ 2 cap _ w h (by omega) (asked_two hc hd) (by
  by_cases q : Vt a
  · exact ⟨1, by omega, by simpa using fun r => ht ⟨q, r⟩⟩
  · exact ⟨0, by omega, by simpa using q⟩)
theorem open2_yes {s p c a b N : Int} (h : Ev.Ok s p c) (hN : Ev.num s p c = N) (ha : Vt a) (hb : Vt b) (g cap : Nat) (w : World) (hc : w.cell? ⟨g, 0, none⟩ = some (.int .i64 a)) (hd : w.cell? ⟨g, 1, none⟩ = some (.int .i64 b)) : Calls Tryz.prog 113 #[.agg #[.int .i64 s, .int .i64 p, .int .i64 c], .slice (some ⟨g, 0, none⟩) 2 cap] w fun e w' => e = .returned (.tuple #[.agg #[.int .i64 s, .int .i64 p, .int .i64 c, .int .i64 N], .int .i64 0]) ∧ Below w.heap.size w w' := open_yes s p c N _ 2 cap _ w h hN (by omega) (asked_two hc hd) (fun k _ => by split <;> assumption)

theorem is_any (s p c t : Int) (b : Bool) (r : Int) (w : World) (h : IsR s p c t b r) :
    Calls Tryz.prog 81 #[.agg #[.int .i64 s, .int .i64 p, .int .i64 c], .int .i64 t] w fun e w' => e = .returned (.tuple #[.bool b, .int .i64 r]) ∧ Below w.heap.size w w' := by
  rcases h with ⟨h, rfl, rfl⟩ | ⟨h, ht, rfl, rfl⟩ | ⟨h, ht, rfl, hb⟩
  · have C := Lib.hid (open1_no h)
    clear h
    go_enter Tryz.func81, Tryz.ntmps81
    go_wp2_with fail
    refine (C.out _ _ _).mono ?_
    rintro e w1 ⟨rfl, hb⟩
    have B := Lib.hid (below_call2 hb)
    clear hb
    go_wp2_with fail
    go_ret2
    exact ⟨rfl, B.out.alloc (by have := B.out.size; omega) _⟩
  · have C := Lib.hid (open1_time h ht)
    clear h ht
    go_enter Tryz.func81, Tryz.ntmps81
    go_wp2_with fail
    refine (C.out _ _ _ (by simp [go_sem])).mono ?_
    rintro e w1 ⟨rfl, hb⟩
    have B := Lib.hid (below_call2 hb)
    clear hb
    go_wp2_with fail
    go_ret2
    exact ⟨rfl, B.out.alloc (by have := B.out.size; omega) _⟩
  · obtain ⟨N, hN⟩ : ∃ N, Ev.num s p c = N := ⟨_, rfl⟩
    have C := Lib.hid (open1_yes h hN ht)
    have H := Lib.hid (fun w' => has_any s p c t N b w' h hN hb ht.1 ht.2)
    clear h ht hN hb
    go_enter Tryz.func81, Tryz.ntmps81
    go_wp2_with fail
    refine (C.out _ _ _ (by simp [go_sem])).mono ?_
    rintro e w1 ⟨rfl, hb⟩
    have B := Lib.hid (below_call2 hb)
    clear hb
    go_wp2_with fail
    refine (H.out _).mono ?_
    rintro e w2 ⟨rfl, hb⟩
    have B := Lib.hid (B.out.trans ((below_call hb).mono B.out.size))
    clear hb
    go_wp2_with fail
    go_ret2
    exact ⟨rfl, B.out⟩

theorem next_any (s p c t v : Int) (b : Bool) (r : Int) (w : World) (h : NextR s p c t v b r) :
    Calls Tryz.prog 83 #[.agg #[.int .i64 s, .int .i64 p, .int .i64 c], .int .i64 t] w fun e w' => e = .returned (.tuple #[.int .i64 v, .bool b, .int .i64 r]) ∧ Below w.heap.size w w' := by
  rcases h with ⟨h, rfl, rfl, rfl⟩ | ⟨h, ht, rfl, rfl, rfl⟩ | ⟨h, ht, rfl, hv⟩
  · have C := Lib.hid (open1_no h)
    clear h
    go_enter Tryz.func83, Tryz.ntmps83
    go_wp2_with fail
    refine (C.out _ _ _).mono ?_
    rintro e w1 ⟨rfl, hb⟩
    have B := Lib.hid (below_call2 hb)
    clear hb
    go_wp2_with fail
    go_ret3
    exact ⟨rfl, B.out.alloc (by have := B.out.size; omega) _⟩
  · have C := Lib.hid (open1_time h ht)
    clear h ht
    go_enter Tryz.func83, Tryz.ntmps83
    go_wp2_with fail
    refine (C.out _ _ _ (by simp [go_sem])).mono ?_
    rintro e w1 ⟨rfl, hb⟩
    have B := Lib.hid (below_call2 hb)
    clear hb
    go_wp2_with fail
    go_ret3
    exact ⟨rfl, B.out.alloc (by have := B.out.size; omega) _⟩
  · obtain ⟨N, hN⟩ : ∃ N, Ev.num s p c = N := ⟨_, rfl⟩
    obtain ⟨u, hu⟩ : ∃ u, Ev.upto s p c t = u := ⟨_, rfl⟩
    have C := Lib.hid (open1_yes h hN ht)
    have U := Lib.hid (fun w' => upTo_any s p c t N u w' h hN hu (by have := ht.1; omega) ht.2)
    have l := Ev.upto_lo h t
    have g := Ev.upto_hi h t
    rw [hu] at l g
    rw [hN] at g
    by_cases q : u = N
    · have n := Ev.next_none (t := t) h (by omega)
      obtain ⟨rfl, rfl⟩ := hv.uniq n
      subst q
      clear h ht hN hu hv n l g
      go_enter Tryz.func83, Tryz.ntmps83
      go_wp2_with fail
      refine (C.out _ _ _ (by simp [go_sem])).mono ?_
      rintro e w1 ⟨rfl, hb⟩
      have B := Lib.hid (below_call2 hb)
      clear hb
      go_wp2_with fail
      refine (U.out _).mono ?_
      rintro e w2 ⟨rfl, hb⟩
      have B := Lib.hid (B.out.trans ((below_call hb).mono B.out.size))
      obtain ⟨hc, hf⟩ := bcell hb
      have hz : w1.heap.size < w2.heap.size := by have := hb.size; simp at this; omega
      clear hb
      go_wp2_with fail
      go_ret3
      exact ⟨rfl, B.out⟩
    · have n := Ev.next_some (t := t) h (by omega)
      obtain ⟨rfl, rfl⟩ := hv.uniq n
      rw [hu]
      have A := Lib.hid (fun w' => at_any s p c u N w' h l (by omega))
      have d : (u == N) = false := by simpa using q
      clear h ht hN hu hv n l g
      go_enter Tryz.func83, Tryz.ntmps83
      go_wp2_with fail
      refine (C.out _ _ _ (by simp [go_sem])).mono ?_
      rintro e w1 ⟨rfl, hb⟩
      have B := Lib.hid (below_call2 hb)
      clear hb
      go_wp2_with fail
      refine (U.out _).mono ?_
      rintro e w2 ⟨rfl, hb⟩
      have B := Lib.hid (B.out.trans ((below_call hb).mono B.out.size))
      obtain ⟨hc, hf⟩ := bcell hb
      have hz : w1.heap.size < w2.heap.size := by have := hb.size; simp at this; omega
      clear hb
      go_wp2_with fail
      refine (A.out _).mono ?_
      rintro e w3 ⟨rfl, hb⟩
      have B := Lib.hid (B.out.trans (hb.mono B.out.size))
      clear hb
      go_wp2_with fail
      go_ret3
      exact ⟨rfl, B.out⟩

/-- a series in the box g, over what lay before -/
structure Sx (w : World) (g : Nat) (s p c N : Int) (W : World) : Prop where
  bel : Below w.heap.size w W
  c0 : W.cell? ⟨g, 0, none⟩ = some (.int .i64 s)
  c1 : W.cell? ⟨g, 1, none⟩ = some (.int .i64 p)
  c2 : W.cell? ⟨g, 2, none⟩ = some (.int .i64 c)
  c3 : W.cell? ⟨g, 3, none⟩ = some (.int .i64 N)
theorem Sx.drew {w : World} {g : Nat} {s p c N : Int} {W : World} (h : Sx w g s p c N W) : Sx w g s p c N W.drew := ⟨h.bel.drew, h.c0, h.c1, h.c2, h.c3⟩
theorem Sx.next {w : World} {g : Nat} {s p c N : Int} {W W' : World} (h : Sx w g s p c N W) (b : Below W.heap.size W W') : Sx w g s p c N W' :=
  ⟨h.bel.trans (b.mono h.bel.size), (b.cell (p := ⟨g, 0, none⟩) (cell_lt h.c0)).trans h.c0, (b.cell (p := ⟨g, 1, none⟩) (cell_lt h.c0)).trans h.c1, (b.cell (p := ⟨g, 2, none⟩) (cell_lt h.c0)).trans h.c2, (b.cell (p := ⟨g, 3, none⟩) (cell_lt h.c0)).trans h.c3⟩
theorem upTo_sx {w W : World} {g : Nat} {s p c N : Int} (t : Int) (h : Ev.Ok s p c) (hN : Ev.num s p c = N) (t0 : -1 ≤ t) (t1 : t ≤ 253402300799) (q : Sx w g s p c N W) :
    Calls Tryz.prog 115 #[.agg #[.int .i64 s, .int .i64 p, .int .i64 c, .int .i64 N], .int .i64 t] W fun e w' => e = .returned (.int .i64 (Ev.upto s p c t)) ∧ Sx w g s p c N w' :=
  (upTo_any s p c t N _ W h hN rfl t0 t1).mono fun _ _ ⟨h1, h2⟩ => ⟨h1, q.next h2⟩

set_option maxHeartbeats 1000000 in
theorem count_any (s p c a b n r : Int) (w : World) (h : CountR s p c a b n r) :
    Calls Tryz.prog 85 #[.agg #[.int .i64 s, .int .i64 p, .int .i64 c], .int .i64 a, .int .i64 b] w fun e w' => e = .returned (.tuple #[.int .i64 n, .int .i64 r]) ∧ Below w.heap.size w w' := by
  rcases h with ⟨h, rfl, rfl⟩ | ⟨h, ht, rfl, rfl⟩ | ⟨h, ha, hb, hn, rfl⟩
  · have C := Lib.hid (open2_no h)
    clear h
    go_enter Tryz.func85, Tryz.ntmps85
    go_wp2_with fail
    refine (C.out _ _ _).mono ?_
    rintro e w1 ⟨rfl, hb⟩
    have B := Lib.hid (below_call2 hb)
    clear hb
    go_wp2_with fail
    go_ret2
    exact ⟨rfl, B.out.alloc (by have := B.out.size; omega) _⟩
  · have C := Lib.hid (open2_time h ht)
    clear h ht
    go_enter Tryz.func85, Tryz.ntmps85
    go_wp2_with fail
    refine (C.out _ _ _ (by simp [go_sem]) (by simp [go_sem])).mono ?_
    rintro e w1 ⟨rfl, hb⟩
    have B := Lib.hid (below_call2 hb)
    clear hb
    go_wp2_with fail
    go_ret2
    exact ⟨rfl, B.out.alloc (by have := B.out.size; omega) _⟩
  · obtain ⟨N, hN⟩ : ∃ N, Ev.num s p c = N := ⟨_, rfl⟩
    have C := Lib.hid (open2_yes h hN ha hb)
    unfold Ev.cnt at hn
    by_cases q : b < a
    · have d0 := dec_t q
      rw [if_pos q] at hn
      subst hn
      clear h hN q ha hb
      go_enter Tryz.func85, Tryz.ntmps85
      go_wp2_with fail
      refine (C.out _ _ _ (by simp [go_sem]) (by simp [go_sem])).mono ?_
      rintro e w1 ⟨rfl, hb⟩
      have B := Lib.hid (below_call2 hb)
      clear hb
      go_wp2_with fail
      go_ret2
      exact ⟨rfl, B.out.alloc B.out.size _⟩
    · have d0 := dec_f q
      rw [if_neg q] at hn
      have U := Lib.hid (fun g t W (t0 : -1 ≤ t) (t1 : t ≤ 253402300799) (q : Sx w g s p c N W) => upTo_sx t h hN t0 t1 q)
      have x1 : IntKind.i64.wrap (a - 1) = a - 1 := by have := ha.1; have := ha.2; rw [IntKind.wrap_i64]; omega
      have g0 := Ev.upto_lo h b
      have g1 := Ev.upto_hi h b
      have g2 := Ev.upto_lo h (a - 1)
      have g3 := Ev.upto_hi h (a - 1)
      have g4 := Ev.num_small h
      have x2 : IntKind.i64.wrap (Ev.upto s p c b - Ev.upto s p c (a - 1)) = Ev.upto s p c b - Ev.upto s p c (a - 1) := by rw [IntKind.wrap_i64]; omega
      obtain ⟨a0, a1⟩ := ha
      obtain ⟨b0, b1⟩ := hb
      subst hn
      clear hN q g0 g1 g2 g3 g4
      have HH := Lib.hid h
      clear h
      go_enter Tryz.func85, Tryz.ntmps85
      go_wp2_with fail
      refine (C.out _ _ _ (by simp [go_sem]) (by simp [go_sem])).mono ?_
      rintro e w1 ⟨rfl, hb⟩
      have B := Lib.hid (below_call2 hb)
      clear hb
      go_wp2_with fail
      have Q : Hid (Sx w w1.heap.size s p c N (w1.alloc (.cells #[.int .i64 s, .int .i64 p, .int .i64 c, .int .i64 N] 131))) := Lib.hid ⟨B.out.alloc B.out.size _, by simp [go_sem], by simp [go_sem], by simp [go_sem], by simp [go_sem]⟩
      have hz : w.heap.size ≤ w1.heap.size := B.out.size
      go_region_held3 (fun w' => w'.cell? ⟨w1.heap.size, 0, none⟩ = some (.int .i64 s) ∧ w'.cell? ⟨w1.heap.size, 1, none⟩ = some (.int .i64 p) ∧ w'.cell? ⟨w1.heap.size, 2, none⟩ = some (.int .i64 c) ∧ w'.cell? ⟨w1.heap.size, 3, none⟩ = some (.int .i64 N)) (go_keep)
        (first | (go_at_call 115; refine (U.out _ _ _ (by omega) (by omega) (by first | exact Q.out | exact Q.out.drew)).mono ?_; rintro e w2 ⟨rfl, q⟩; have y0 := q.c0; have y1 := q.c1; have y2 := q.c2; have y3 := q.c3; have Q := Lib.hid q; clear q))
      go_wp2_with fail
      go_ret2
      exact ⟨rfl, Q.out.bel⟩

end Go.Proofs.YtljackjcgfaanaaGreatDoor.En
/- Contracts of the document's Next, Prev, Count, Nth, Index, Last, by the relations that say which answer there is. -/
namespace Go.Proofs.YtljackjcgfaanaaGreatDoor.En
open Go.ChangeShapes Go.RowKit

/-- a schedule in the call's own box, over what lay before -/
structure Ex (w : World) (g : Nat) (s p c : Int) (W : World) : Prop where
  bel : Below w.heap.size w W
  c0 : W.cell? ⟨g, 0, none⟩ = some (.int .i64 s)
  c1 : W.cell? ⟨g, 1, none⟩ = some (.int .i64 p)
  c2 : W.cell? ⟨g, 2, none⟩ = some (.int .i64 c)
theorem Ex.start (w : World) (s p c : Int) : Ex w w.heap.size s p c (w.alloc (.cells #[.int .i64 s, .int .i64 p, .int .i64 c] 26)) := ⟨(Below.refl _ _).alloc (Nat.le_refl _) _, by simp [go_sem], by simp [go_sem], by simp [go_sem]⟩
theorem Ex.drew {w : World} {g : Nat} {s p c : Int} {W : World} (h : Ex w g s p c W) : Ex w g s p c W.drew := ⟨h.bel.drew, h.c0, h.c1, h.c2⟩
theorem Ex.next {w : World} {g : Nat} {s p c : Int} {W W' : World} (h : Ex w g s p c W) (b : Below W.heap.size W W') : Ex w g s p c W' :=
  ⟨h.bel.trans (b.mono h.bel.size), (b.cell (p := ⟨g, 0, none⟩) (cell_lt h.c0)).trans h.c0, (b.cell (p := ⟨g, 1, none⟩) (cell_lt h.c0)).trans h.c1, (b.cell (p := ⟨g, 2, none⟩) (cell_lt h.c0)).trans h.c2⟩
theorem rupto_ex {w W : World} {g : Nat} {s p c : Int} (t : Int) (h : Ev.Ok s p c) (t0 : -1 ≤ t) (t1 : t ≤ 253402300799) (q : Ex w g s p c W) :
    Calls Tryz.prog 101 #[.agg #[.int .i64 s, .int .i64 p, .int .i64 c], .int .i64 t] W fun e w' => e = .returned (.int .i64 (Ev.upto s p c t)) ∧ Ex w g s p c w' :=
  (rupto_any s p c t _ W h rfl t0 t1).mono fun _ _ ⟨h1, h2⟩ => ⟨h1, q.next h2⟩
theorem rnext_any (s p c t v : Int) (b : Bool) (r : Int) (w : World) (h : NextR s p c t v b r) :
    Calls Tryz.prog 63 #[.agg #[.int .i64 s, .int .i64 p, .int .i64 c], .int .i64 t] w fun e w' => e = .returned (.tuple #[.int .i64 v, .bool b, .int .i64 r]) ∧ Below w.heap.size w w' := by
  rcases h with ⟨h, rfl, rfl, rfl⟩ | ⟨h, ht, rfl, rfl, rfl⟩ | ⟨h, ht, rfl, hv⟩
  · have C := Lib.hid (fun w' => first_no s p c t w' h)
    clear h
    go_enter Tryz.func63, Tryz.ntmps63
    go_wp2_with fail
    have E := Lib.hid (Ex.start w s p c)
    refine (C.out _).mono ?_
    rintro e w1 ⟨rfl, hb⟩
    have E := Lib.hid (E.out.next hb)
    clear hb
    have c0 := E.out.c0
    have c1 := E.out.c1
    have c2 := E.out.c2
    go_wp2_with fail
    go_ret3
    exact ⟨rfl, E.out.bel⟩
  · have C := Lib.hid (fun w' => first_time s p c t w' h ht)
    clear h ht
    go_enter Tryz.func63, Tryz.ntmps63
    go_wp2_with fail
    have E := Lib.hid (Ex.start w s p c)
    refine (C.out _).mono ?_
    rintro e w2 ⟨rfl, hb⟩
    have E := Lib.hid (E.out.next hb)
    clear hb
    have c0 := E.out.c0
    have c1 := E.out.c1
    have c2 := E.out.c2
    go_wp2_with fail
    go_ret3
    exact ⟨rfl, E.out.bel⟩
  · have C := Lib.hid (fun w' => first_yes s p c t w' h ht)
    obtain ⟨N, hN⟩ : ∃ N, Ev.num s p c = N := ⟨_, rfl⟩
    obtain ⟨u, hu⟩ : ∃ u, Ev.upto s p c t = u := ⟨_, rfl⟩
    have U := Lib.hid (fun w' => rupto_any s p c t u w' h hu (by have := ht.1; omega) ht.2)
    have M := Lib.hid (fun w' => number_any s p c N w' h hN)
    have l := Ev.upto_lo h t
    have g := Ev.upto_hi h t
    rw [hu] at l g
    rw [hN] at g
    by_cases q : u = N
    · have n := Ev.next_none (t := t) h (by omega)
      obtain ⟨rfl, rfl⟩ := hv.uniq n
      subst q
      clear h ht hN hu hv n l g
      go_enter Tryz.func63, Tryz.ntmps63
      go_wp2_with fail
      have E := Lib.hid (Ex.start w s p c)
      refine (C.out _).mono ?_
      rintro e w3 ⟨rfl, hb⟩
      have E := Lib.hid (E.out.next hb)
      clear hb
      have c0 := E.out.c0
      have c1 := E.out.c1
      have c2 := E.out.c2
      go_wp2_with fail
      refine (U.out _).mono ?_
      rintro e w4 ⟨rfl, hb⟩
      have E := Lib.hid (E.out.next hb)
      clear hb
      have c0 := E.out.c0
      have c1 := E.out.c1
      have c2 := E.out.c2
      go_wp2_with fail
      refine (M.out _).mono ?_
      rintro e w5 ⟨rfl, hb⟩
      have E := Lib.hid (E.out.next hb)
      clear hb
      have c0 := E.out.c0
      have c1 := E.out.c1
      have c2 := E.out.c2
      go_wp2_with fail
      go_ret3
      exact ⟨rfl, E.out.bel⟩
    · have n := Ev.next_some (t := t) h (by omega)
      obtain ⟨rfl, rfl⟩ := hv.uniq n
      rw [hu]
      have k := ((Ev.num_iff h u).1 (by omega)).1
      have m0 := Int.mul_nonneg l (show 0 ≤ p by have := h.p0; omega)
      have s0 := h.s0
      obtain ⟨m, hm⟩ : ∃ m, u * p = m := ⟨_, rfl⟩
      rw [hm] at k m0 ⊢
      have x1 : IntKind.i64.wrap m = m := by rw [IntKind.wrap_i64]; omega
      have x2 : IntKind.i64.wrap (s + m) = s + m := by rw [IntKind.wrap_i64]; omega
      have d : (u == N) = false := by simpa using q
      clear h ht hN hu hv n l g
      go_enter Tryz.func63, Tryz.ntmps63
      go_wp2_with fail
      have E := Lib.hid (Ex.start w s p c)
      refine (C.out _).mono ?_
      rintro e w6 ⟨rfl, hb⟩
      have E := Lib.hid (E.out.next hb)
      clear hb
      have c0 := E.out.c0
      have c1 := E.out.c1
      have c2 := E.out.c2
      go_wp2_with fail
      refine (U.out _).mono ?_
      rintro e w7 ⟨rfl, hb⟩
      have E := Lib.hid (E.out.next hb)
      clear hb
      have c0 := E.out.c0
      have c1 := E.out.c1
      have c2 := E.out.c2
      go_wp2_with fail
      refine (M.out _).mono ?_
      rintro e w8 ⟨rfl, hb⟩
      have E := Lib.hid (E.out.next hb)
      clear hb
      have c0 := E.out.c0
      have c1 := E.out.c1
      have c2 := E.out.c2
      go_wp2_with fail
      go_ret3
      exact ⟨rfl, E.out.bel⟩

set_option maxHeartbeats 1000000 in
theorem rcount_any (s p c a b n r : Int) (w : World) (h : CountR s p c a b n r) :
    Calls Tryz.prog 92 #[.agg #[.int .i64 s, .int .i64 p, .int .i64 c], .int .i64 a, .int .i64 b] w fun e w' => e = .returned (.tuple #[.int .i64 n, .int .i64 r]) ∧ Below w.heap.size w w' := by
  rcases h with ⟨h, rfl, rfl⟩ | ⟨h, ht, rfl, rfl⟩ | ⟨h, ha, hb, hn, rfl⟩
  · have C := Lib.hid (fun w' => first_no s p c a w' h)
    clear h
    go_enter Tryz.func92, Tryz.ntmps92
    go_wp2_with fail
    have E := Lib.hid (Ex.start w s p c)
    refine (C.out _).mono ?_
    rintro e w27 ⟨rfl, hb⟩
    have E := Lib.hid (E.out.next hb)
    clear hb
    have c0 := E.out.c0
    have c1 := E.out.c1
    have c2 := E.out.c2
    go_wp2_with fail
    go_ret2
    exact ⟨rfl, E.out.bel⟩
  · by_cases q : Vt a
    · have C := Lib.hid (fun w' => first_yes s p c a w' h q)
      have D := Lib.hid (fun w' => first_time s p c b w' h (fun k => ht ⟨q, k⟩))
      clear h ht q
      go_enter Tryz.func92, Tryz.ntmps92
      go_wp2_with fail
      have E := Lib.hid (Ex.start w s p c)
      refine (C.out _).mono ?_
      rintro e w28 ⟨rfl, hb⟩
      have E := Lib.hid (E.out.next hb)
      clear hb
      have c0 := E.out.c0
      have c1 := E.out.c1
      have c2 := E.out.c2
      go_wp2_with fail
      refine (D.out _).mono ?_
      rintro e w29 ⟨rfl, hb⟩
      have E := Lib.hid (E.out.next hb)
      clear hb
      have c0 := E.out.c0
      have c1 := E.out.c1
      have c2 := E.out.c2
      go_wp2_with fail
      go_ret2
      exact ⟨rfl, E.out.bel⟩
    · have C := Lib.hid (fun w' => first_time s p c a w' h q)
      clear h ht q
      go_enter Tryz.func92, Tryz.ntmps92
      go_wp2_with fail
      have E := Lib.hid (Ex.start w s p c)
      refine (C.out _).mono ?_
      rintro e w30 ⟨rfl, hb⟩
      have E := Lib.hid (E.out.next hb)
      clear hb
      have c0 := E.out.c0
      have c1 := E.out.c1
      have c2 := E.out.c2
      go_wp2_with fail
      go_ret2
      exact ⟨rfl, E.out.bel⟩
  · have C := Lib.hid (fun w' => first_yes s p c a w' h ha)
    have D := Lib.hid (fun w' => first_yes s p c b w' h hb)
    unfold Ev.cnt at hn
    by_cases q : b < a
    · have d0 := dec_t q
      rw [if_pos q] at hn
      subst hn
      clear h q ha hb
      go_enter Tryz.func92, Tryz.ntmps92
      go_wp2_with fail
      have E := Lib.hid (Ex.start w s p c)
      refine (C.out _).mono ?_
      rintro e w31 ⟨rfl, hb⟩
      have E := Lib.hid (E.out.next hb)
      clear hb
      have c0 := E.out.c0
      have c1 := E.out.c1
      have c2 := E.out.c2
      go_wp2_with fail
      refine (D.out _).mono ?_
      rintro e w32 ⟨rfl, hb⟩
      have E := Lib.hid (E.out.next hb)
      clear hb
      have c0 := E.out.c0
      have c1 := E.out.c1
      have c2 := E.out.c2
      go_wp2_with fail
      go_ret2
      exact ⟨rfl, E.out.bel⟩
    · have d0 := dec_f q
      rw [if_neg q] at hn
      have U := Lib.hid (fun g t W (t0 : -1 ≤ t) (t1 : t ≤ 253402300799) (q : Ex w g s p c W) => rupto_ex t h t0 t1 q)
      have x1 : IntKind.i64.wrap (a - 1) = a - 1 := by have := ha.1; have := ha.2; rw [IntKind.wrap_i64]; omega
      have g0 := Ev.upto_lo h b
      have g1 := Ev.upto_hi h b
      have g2 := Ev.upto_lo h (a - 1)
      have g3 := Ev.upto_hi h (a - 1)
      have g4 := Ev.num_small h
      have x2 : IntKind.i64.wrap (Ev.upto s p c b - Ev.upto s p c (a - 1)) = Ev.upto s p c b - Ev.upto s p c (a - 1) := by rw [IntKind.wrap_i64]; omega
      obtain ⟨a0, a1⟩ := ha
      obtain ⟨b0, b1⟩ := hb
      subst hn
      clear q g0 g1 g2 g3 g4 h
      go_enter Tryz.func92, Tryz.ntmps92
      go_wp2_with fail
      have E := Lib.hid (Ex.start w s p c)
      refine (C.out _).mono ?_
      rintro e w33 ⟨rfl, hb⟩
      have E := Lib.hid (E.out.next hb)
      clear hb
      have c0 := E.out.c0
      have c1 := E.out.c1
      have c2 := E.out.c2
      go_wp2_with fail
      refine (D.out _).mono ?_
      rintro e w34 ⟨rfl, hb⟩
      have E := Lib.hid (E.out.next hb)
      clear hb
      have c0 := E.out.c0
      have c1 := E.out.c1
      have c2 := E.out.c2
      go_wp2_with fail
      go_region_held3 (fun w' => w'.cell? ⟨w.heap.size, 0, none⟩ = some (.int .i64 s) ∧ w'.cell? ⟨w.heap.size, 1, none⟩ = some (.int .i64 p) ∧ w'.cell? ⟨w.heap.size, 2, none⟩ = some (.int .i64 c)) (go_keep)
        (first | (go_at_call 101; refine (U.out w.heap.size _ _ (by omega) (by omega) (by first | exact E.out | exact E.out.drew)).mono ?_; rintro e v2 ⟨rfl, q⟩; have y0 := q.c0; have y1 := q.c1; have y2 := q.c2; have E := Lib.hid q; clear q))
      go_wp2_with fail
      go_ret2
      exact ⟨rfl, E.out.bel⟩

end Go.Proofs.YtljackjcgfaanaaGreatDoor.En
