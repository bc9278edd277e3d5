/- Contract of package every's Meet. -/
import Derived.Test.YtnajpgkahnjabaaEveG
namespace Go.Proofs.Ytnajpgkahnjabaa
open Go.ChangeShapes Go.RowKit

/-- the answer of Meet -/
def MeetR (s p c s' p' c' v : Int) (b : Bool) (r : Int) : Prop := (¬ (Ev.Ok s p c ∧ Ev.Ok s' p' c') ∧ v = 0 ∧ b = false ∧ r = 16) ∨ (Ev.Ok s p c ∧ Ev.Ok s' p' c' ∧ r = 0 ∧ Ev.IsMeet s p c s' p' c' v b)

set_option maxRecDepth 100000 in
set_option maxHeartbeats 4000000 in
theorem meet_no (s p c s' p' c' : Int) (w : World) (h : ¬ (Ev.Ok s p c ∧ Ev.Ok s' p' c')) :
    Calls Try.prog 31 #[.agg #[.int .i64 s, .int .i64 p, .int .i64 c], .agg #[.int .i64 s', .int .i64 p', .int .i64 c']] w fun e w' => e = .returned (.tuple #[.int .i64 0, .bool false, .int .i64 16]) ∧ Below w.heap.size w w' := by
  by_cases k : Ev.Ok s p c
  · obtain ⟨N, hN⟩ : ∃ N, Ev.num s p c = N := ⟨_, rfl⟩
    have CA := Lib.hid (open0_yes k hN)
    have CB := Lib.hid (open0_no (fun q => h ⟨k, q⟩))
    clear h k hN
    go_enter Try.func31, Try.ntmps31
    go_wp2_with fail
    refine (CA.out _).mono ?_
    rintro e w1 ⟨rfl, hb⟩
    have B := Lib.hid (below_call2 hb)
    obtain ⟨hc1, hf1⟩ := bcell hb
    have z1 : w.heap.size < w1.heap.size := by have := hb.size; simp at this; omega
    have z2 : w.heap.size + 1 < w1.heap.size := by have := hb.size; simp at this; omega
    clear hb
    go_wp2_with fail

    refine (CB.out _).mono ?_
    rintro e w2 ⟨rfl, hb⟩
    have z3 : w1.heap.size < w2.heap.size := by have := hb.size; simp at this; omega

    have B := Lib.hid (B.out.trans ((below_call hb).mono B.out.size))
    clear hb
    go_wp2_with fail
    go_ret3
    exact ⟨rfl, B.out.alloc B.out.size _⟩
  · have CA := Lib.hid (open0_no k)
    clear h k
    go_enter Try.func31, Try.ntmps31
    go_wp2_with fail
    refine (CA.out _).mono ?_
    rintro e w1 ⟨rfl, hb⟩
    have B := Lib.hid (below_call2 hb)
    obtain ⟨hc1, hf1⟩ := bcell hb
    have z1 : w.heap.size < w1.heap.size := by have := hb.size; simp at this; omega
    have z2 : w.heap.size + 1 < w1.heap.size := by have := hb.size; simp at this; omega
    clear hb
    go_wp2_with fail
    go_ret3
    exact ⟨rfl, B.out.alloc B.out.size _⟩

set_option maxRecDepth 100000 in
set_option maxHeartbeats 8000000 in
theorem meet_yes (s p c s' p' c' v : Int) (b : Bool) (w : World) (h : Ev.Ok s p c) (h' : Ev.Ok s' p' c') (hv : Ev.IsMeet s p c s' p' c' v b) :
    Calls Try.prog 31 #[.agg #[.int .i64 s, .int .i64 p, .int .i64 c], .agg #[.int .i64 s', .int .i64 p', .int .i64 c']] w fun e w' => e = .returned (.tuple #[.int .i64 v, .bool b, .int .i64 0]) ∧ Below w.heap.size w w' := by
  obtain ⟨N, hN⟩ : ∃ N, Ev.num s p c = N := ⟨_, rfl⟩
  obtain ⟨N', hN'⟩ : ∃ N', Ev.num s' p' c' = N' := ⟨_, rfl⟩
  have CA := Lib.hid (open0_yes h hN)
  have CB := Lib.hid (open0_yes h' hN')
  by_cases lt : s < s'
  · skip
    have le : s ≤ s' := by omega
    have d := dec_t lt
    have p0 := h.p0
    have p1 := h.p1
    have q0 := h'.p0
    have q1 := h'.p1
    have l0 := Int.emod_nonneg (s' - s) (show p ≠ 0 by omega)
    have l1 := Int.emod_lt_of_pos (s' - s) (show 0 < p by omega)
    obtain ⟨ld, hl⟩ : ∃ ld, (s' - s) % p = ld := ⟨_, rfl⟩
    rw [hl] at l0 l1
    obtain ⟨n, st, hst⟩ := Ev.st_ex p.toNat p (by omega) (by omega) p' (p - ld)
    have ST := Lib.hid (fun w' => steps_any p.toNat p' (p - ld) p n st w' (by omega) (by omega) (by omega) (by omega) (by omega) (by omega) (by omega) hst)
    have n0 : 0 ≤ n := by rcases hst with ⟨_, e, _⟩ | ⟨_, e, _⟩ <;> omega
    have n1 : n < p := by rcases hst with ⟨_, _, e, _⟩ | ⟨_, e, _⟩ <;> omega
    have hv := hv.comm
    have VN := Lib.hid (fun (e : st = false) => Ev.st_never h' h hl (by rw [e] at hst; exact hst))
    have CD := Lib.hid (fun (e : st = true) => Ev.st_cand hl le h'.p0 (by rw [e] at hst; exact hst))
    have VB := Lib.hid (fun (e : st = true) (k : N' ≤ n) => Ev.road_beyond h' h (CD.out e) (by rw [hN']; exact k))
    have AT := Lib.hid (fun (e : st = true) (k : n < N') (w' : World) => at_any s' p' c' n N' w' h' n0 (by rw [hN']; exact k))
    have LA := Lib.hid (fun w' => last_any s p c w' h)
    rw [hN] at LA
    obtain ⟨LB, hLB⟩ : ∃ LB, Ev.last s p c = LB := ⟨_, rfl⟩
    have VP := Lib.hid (fun (e : st = true) (k : LB < s' + n * p') => Ev.road_past h' h (CD.out e) (by rw [hLB]; exact k))
    have VT := Lib.hid (fun (e : st = true) (k : n < N') (l : s' + n * p' ≤ LB) => Ev.road_there h' h (CD.out e) (by rw [hN']; exact k) (by rw [hLB]; exact l))
    rw [hLB] at LA
    have x1 : IntKind.i64.wrap (s' - s) = s' - s := by have := h'.s1; have := h.s0; rw [IntKind.wrap_i64]; omega
    have x2 : (s' - s).tmod p = ld := by rw [rem_is (by omega), hl]
    have x3 : IntKind.i64.wrap (p - ld) = p - ld := by rw [IntKind.wrap_i64]; omega
    have y1 : IntKind.u64.wrap p' = p' := by rw [IntKind.wrap_u64]; omega
    have y2 : IntKind.u64.wrap p = p := by rw [IntKind.wrap_u64]; omega
    have y3 : IntKind.u64.wrap (p - ld) = p - ld := by rw [IntKind.wrap_u64]; omega
    have N1 := Ev.num_small h'
    have N0 := Ev.num_pos h'
    rw [hN'] at N0 N1
    have y4 : IntKind.u64.wrap N' = N' := by rw [IntKind.wrap_u64]; omega
    have y5 : IntKind.i64.wrap n = n := by rw [IntKind.wrap_i64]; omega
    have e1 : (p == 0) = false := by simp; omega
    have e2 : ¬ p = 0 := by omega
    clear h h' hN hN' lt le l0 l1 hl hst hLB N0 N1 n0 n1 q0 q1 p0 p1
    go_enter Try.func31, Try.ntmps31
    go_wp2_with fail
    refine (CA.out _).mono ?_
    rintro e w1 ⟨rfl, hb⟩
    have B := Lib.hid (below_call2 hb)
    obtain ⟨hc1, hf1⟩ := bcell hb
    have z1 : w.heap.size < w1.heap.size := by have := hb.size; simp at this; omega
    have z2 : w.heap.size + 1 < w1.heap.size := by have := hb.size; simp at this; omega
    clear hb
    go_wp2_with fail
    refine (CB.out _).mono ?_
    rintro e w2 ⟨rfl, hb⟩
    have z3 : w1.heap.size < w2.heap.size := by have := hb.size; simp at this; omega

    have SA0 : Hid (Sx w w1.heap.size s p c N w2) := Lib.hid ⟨B.out.trans ((below_call hb).mono B.out.size), by rw [hb.cell (by simp)]; simp [go_sem], by rw [hb.cell (by simp)]; simp [go_sem], by rw [hb.cell (by simp)]; simp [go_sem], by rw [hb.cell (by simp)]; simp [go_sem]⟩
    have FR : ∀ o, w2.frozen? ⟨w1.heap.size, o, none⟩ = false := fun o => by rw [hb.frozen (p := ⟨w1.heap.size, o, none⟩) (by simp)]; simp [go_sem]
    have f0 := FR 0
    have f1 := FR 1
    have f2 := FR 2
    have f3 := FR 3

    have B := Lib.hid (B.out.trans ((below_call hb).mono B.out.size))
    clear hb
    clear hc1 hf1 FR
    have k0 := SA0.out.c0
    have k1 := SA0.out.c1
    have k2 := SA0.out.c2
    have k3 := SA0.out.c3
    go_upto_if 36 with fail
    go_cut [] from 37 to 38 (fun wc => Sx w w1.heap.size s' p' c' N' wc ∧ Sx w w2.heap.size s p c N wc)
    case first =>
      go_wp2_with fail
      go_meet
      case rel => 
        have hz0 := B.out.size
        have hzw : w.heap.size ≤ w1.heap.size := by omega
        refine ⟨⟨?_, by simp [go_sem, *], by simp [go_sem, *], by simp [go_sem, *], by simp [go_sem, *]⟩, ⟨?_, by simp [go_sem, *], by simp [go_sem, *], by simp [go_sem, *], by simp [go_sem, *]⟩⟩
        · refine Below.alloc ?_ (by simpa using hz0) _
          repeat refine Below.setCell ?_ (by first | exact hz0 | exact hzw) _
          exact B.out
        · refine Below.alloc ?_ (by simpa using hz0) _
          repeat refine Below.setCell ?_ (by first | exact hz0 | exact hzw) _
          exact B.out
    case rest =>
      have SA := Lib.hid hcut.1
      have SB := Lib.hid hcut.2
      clear hcut
      have a0 := SA.out.c0
      have a1 := SA.out.c1
      have a2 := SA.out.c2
      have a3 := SA.out.c3
      have b0 := SB.out.c0
      have b1 := SB.out.c1
      have b2 := SB.out.c2
      have b3 := SB.out.c3
      cases st with
      | false =>
        have EV : v = 0 ∧ b = false := hv.uniq (VN.out rfl)
        obtain ⟨rfl, rfl⟩ := EV
        clear hv
        go_wp2_with fail
        refine (ST.out _).mono ?_
        rintro e w3 ⟨rfl, hb⟩
        have SA := Lib.hid (SA.out.next hb)
        have SB := Lib.hid (SB.out.next hb)
        clear hb
        have a0 := SA.out.c0
        have a1 := SA.out.c1
        have a2 := SA.out.c2
        have a3 := SA.out.c3
        have b0 := SB.out.c0
        have b1 := SB.out.c1
        have b2 := SB.out.c2
        have b3 := SB.out.c3
        go_wp2_with fail
        go_ret3
        exact ⟨rfl, SA.out.bel⟩
      | true =>
        by_cases k : N' ≤ n
        · obtain ⟨rfl, rfl⟩ := hv.uniq (VB.out rfl k)
          have d0 : decide (N' ≤ n) = true := dec_t k
          clear hv k
          go_wp2_with fail
          refine (ST.out _).mono ?_
          rintro e w3 ⟨rfl, hb⟩
          have SA := Lib.hid (SA.out.next hb)
          have SB := Lib.hid (SB.out.next hb)
          clear hb
          have a0 := SA.out.c0
          have a1 := SA.out.c1
          have a2 := SA.out.c2
          have a3 := SA.out.c3
          have b0 := SB.out.c0
          have b1 := SB.out.c1
          have b2 := SB.out.c2
          have b3 := SB.out.c3
          go_wp2_with fail
          go_ret3
          exact ⟨rfl, SA.out.bel⟩
        · have d0 : decide (N' ≤ n) = false := dec_f k
          have A2 := Lib.hid (AT.out rfl (by omega))
          clear AT
          by_cases l : LB < s' + n * p'
          · obtain ⟨rfl, rfl⟩ := hv.uniq (VP.out rfl l)
            obtain ⟨t, ht⟩ : ∃ t, s' + n * p' = t := ⟨_, rfl⟩
            rw [ht] at A2 l
            have d1 : decide (LB < t) = true := dec_t l
            clear hv k l ht
            go_wp2_with fail
            refine (ST.out _).mono ?_
            rintro e w3 ⟨rfl, hb⟩
            have SA := Lib.hid (SA.out.next hb)
            have SB := Lib.hid (SB.out.next hb)
            clear hb
            have a0 := SA.out.c0
            have a1 := SA.out.c1
            have a2 := SA.out.c2
            have a3 := SA.out.c3
            have b0 := SB.out.c0
            have b1 := SB.out.c1
            have b2 := SB.out.c2
            have b3 := SB.out.c3
            go_wp2_with fail
            refine (A2.out _).mono ?_
            rintro e w4 ⟨rfl, hb⟩
            have SA := Lib.hid (SA.out.next hb)
            have SB := Lib.hid (SB.out.next hb)
            clear hb
            have a0 := SA.out.c0
            have a1 := SA.out.c1
            have a2 := SA.out.c2
            have a3 := SA.out.c3
            have b0 := SB.out.c0
            have b1 := SB.out.c1
            have b2 := SB.out.c2
            have b3 := SB.out.c3
            go_wp2_with fail
            refine (LA.out _).mono ?_
            rintro e w5 ⟨rfl, hb⟩
            have SA := Lib.hid (SA.out.next hb)
            have SB := Lib.hid (SB.out.next hb)
            clear hb
            have a0 := SA.out.c0
            have a1 := SA.out.c1
            have a2 := SA.out.c2
            have a3 := SA.out.c3
            have b0 := SB.out.c0
            have b1 := SB.out.c1
            have b2 := SB.out.c2
            have b3 := SB.out.c3
            go_wp2_with fail
            go_ret3
            exact ⟨rfl, SA.out.bel⟩
          · have E := VT.out rfl (by omega) (by omega)
            obtain ⟨t, ht⟩ : ∃ t, s' + n * p' = t := ⟨_, rfl⟩
            rw [ht] at A2 l E
            obtain ⟨E1, rfl⟩ := hv.uniq E
            subst E1
            have d1 : decide (LB < v) = false := dec_f l
            clear E
            clear hv k l ht
            go_wp2_with fail
            refine (ST.out _).mono ?_
            rintro e w3 ⟨rfl, hb⟩
            have SA := Lib.hid (SA.out.next hb)
            have SB := Lib.hid (SB.out.next hb)
            clear hb
            have a0 := SA.out.c0
            have a1 := SA.out.c1
            have a2 := SA.out.c2
            have a3 := SA.out.c3
            have b0 := SB.out.c0
            have b1 := SB.out.c1
            have b2 := SB.out.c2
            have b3 := SB.out.c3
            go_wp2_with fail
            refine (A2.out _).mono ?_
            rintro e w4 ⟨rfl, hb⟩
            have SA := Lib.hid (SA.out.next hb)
            have SB := Lib.hid (SB.out.next hb)
            clear hb
            have a0 := SA.out.c0
            have a1 := SA.out.c1
            have a2 := SA.out.c2
            have a3 := SA.out.c3
            have b0 := SB.out.c0
            have b1 := SB.out.c1
            have b2 := SB.out.c2
            have b3 := SB.out.c3
            go_wp2_with fail
            refine (LA.out _).mono ?_
            rintro e w5 ⟨rfl, hb⟩
            have SA := Lib.hid (SA.out.next hb)
            have SB := Lib.hid (SB.out.next hb)
            clear hb
            have a0 := SA.out.c0
            have a1 := SA.out.c1
            have a2 := SA.out.c2
            have a3 := SA.out.c3
            have b0 := SB.out.c0
            have b1 := SB.out.c1
            have b2 := SB.out.c2
            have b3 := SB.out.c3
            go_wp2_with fail
            go_ret3
            exact ⟨rfl, SA.out.bel⟩
  · skip
    have le : s' ≤ s := by omega
    have d := dec_f lt
    have p0 := h'.p0
    have p1 := h'.p1
    have q0 := h.p0
    have q1 := h.p1
    have l0 := Int.emod_nonneg (s - s') (show p' ≠ 0 by omega)
    have l1 := Int.emod_lt_of_pos (s - s') (show 0 < p' by omega)
    obtain ⟨ld, hl⟩ : ∃ ld, (s - s') % p' = ld := ⟨_, rfl⟩
    rw [hl] at l0 l1
    obtain ⟨n, st, hst⟩ := Ev.st_ex p'.toNat p' (by omega) (by omega) p (p' - ld)
    have ST := Lib.hid (fun w' => steps_any p'.toNat p (p' - ld) p' n st w' (by omega) (by omega) (by omega) (by omega) (by omega) (by omega) (by omega) hst)
    have n0 : 0 ≤ n := by rcases hst with ⟨_, e, _⟩ | ⟨_, e, _⟩ <;> omega
    have n1 : n < p' := by rcases hst with ⟨_, _, e, _⟩ | ⟨_, e, _⟩ <;> omega
    have hv := hv
    have VN := Lib.hid (fun (e : st = false) => Ev.st_never h h' hl (by rw [e] at hst; exact hst))
    have CD := Lib.hid (fun (e : st = true) => Ev.st_cand hl le h.p0 (by rw [e] at hst; exact hst))
    have VB := Lib.hid (fun (e : st = true) (k : N ≤ n) => Ev.road_beyond h h' (CD.out e) (by rw [hN]; exact k))
    have AT := Lib.hid (fun (e : st = true) (k : n < N) (w' : World) => at_any s p c n N w' h n0 (by rw [hN]; exact k))
    have LA := Lib.hid (fun w' => last_any s' p' c' w' h')
    rw [hN'] at LA
    obtain ⟨LB, hLB⟩ : ∃ LB, Ev.last s' p' c' = LB := ⟨_, rfl⟩
    have VP := Lib.hid (fun (e : st = true) (k : LB < s + n * p) => Ev.road_past h h' (CD.out e) (by rw [hLB]; exact k))
    have VT := Lib.hid (fun (e : st = true) (k : n < N) (l : s + n * p ≤ LB) => Ev.road_there h h' (CD.out e) (by rw [hN]; exact k) (by rw [hLB]; exact l))
    rw [hLB] at LA
    have x1 : IntKind.i64.wrap (s - s') = s - s' := by have := h.s1; have := h'.s0; rw [IntKind.wrap_i64]; omega
    have x2 : (s - s').tmod p' = ld := by rw [rem_is (by omega), hl]
    have x3 : IntKind.i64.wrap (p' - ld) = p' - ld := by rw [IntKind.wrap_i64]; omega
    have y1 : IntKind.u64.wrap p = p := by rw [IntKind.wrap_u64]; omega
    have y2 : IntKind.u64.wrap p' = p' := by rw [IntKind.wrap_u64]; omega
    have y3 : IntKind.u64.wrap (p' - ld) = p' - ld := by rw [IntKind.wrap_u64]; omega
    have N1 := Ev.num_small h
    have N0 := Ev.num_pos h
    rw [hN] at N0 N1
    have y4 : IntKind.u64.wrap N = N := by rw [IntKind.wrap_u64]; omega
    have y5 : IntKind.i64.wrap n = n := by rw [IntKind.wrap_i64]; omega
    have e1 : (p' == 0) = false := by simp; omega
    have e2 : ¬ p' = 0 := by omega
    clear h h' hN hN' lt le l0 l1 hl hst hLB N0 N1 n0 n1 q0 q1 p0 p1
    go_enter Try.func31, Try.ntmps31
    go_wp2_with fail
    refine (CA.out _).mono ?_
    rintro e w1 ⟨rfl, hb⟩
    have B := Lib.hid (below_call2 hb)
    obtain ⟨hc1, hf1⟩ := bcell hb
    have z1 : w.heap.size < w1.heap.size := by have := hb.size; simp at this; omega
    have z2 : w.heap.size + 1 < w1.heap.size := by have := hb.size; simp at this; omega
    clear hb
    go_wp2_with fail
    refine (CB.out _).mono ?_
    rintro e w2 ⟨rfl, hb⟩
    have z3 : w1.heap.size < w2.heap.size := by have := hb.size; simp at this; omega

    have SA0 : Hid (Sx w w1.heap.size s p c N w2) := Lib.hid ⟨B.out.trans ((below_call hb).mono B.out.size), by rw [hb.cell (by simp)]; simp [go_sem], by rw [hb.cell (by simp)]; simp [go_sem], by rw [hb.cell (by simp)]; simp [go_sem], by rw [hb.cell (by simp)]; simp [go_sem]⟩
    have FR : ∀ o, w2.frozen? ⟨w1.heap.size, o, none⟩ = false := fun o => by rw [hb.frozen (p := ⟨w1.heap.size, o, none⟩) (by simp)]; simp [go_sem]
    have f0 := FR 0
    have f1 := FR 1
    have f2 := FR 2
    have f3 := FR 3

    have B := Lib.hid (B.out.trans ((below_call hb).mono B.out.size))
    clear hb
    clear hc1 hf1 FR
    have k0 := SA0.out.c0
    have k1 := SA0.out.c1
    have k2 := SA0.out.c2
    have k3 := SA0.out.c3
    go_upto_if 36 with fail
    go_cut [] from 37 to 38 (fun wc => Sx w w1.heap.size s p c N wc ∧ Sx w w2.heap.size s' p' c' N' wc)
    case first =>
      go_wp2_with fail
      go_meet
      case rel => exact ⟨SA0.out.next ((Below.refl _ _).alloc (Nat.le_refl _) _), B.out.alloc B.out.size _, by simp [go_sem], by simp [go_sem], by simp [go_sem], by simp [go_sem]⟩
    case rest =>
      have SA := Lib.hid hcut.1
      have SB := Lib.hid hcut.2
      clear hcut
      have a0 := SA.out.c0
      have a1 := SA.out.c1
      have a2 := SA.out.c2
      have a3 := SA.out.c3
      have b0 := SB.out.c0
      have b1 := SB.out.c1
      have b2 := SB.out.c2
      have b3 := SB.out.c3
      cases st with
      | false =>
        have EV : v = 0 ∧ b = false := hv.uniq (VN.out rfl)
        obtain ⟨rfl, rfl⟩ := EV
        clear hv
        go_wp2_with fail
        refine (ST.out _).mono ?_
        rintro e w3 ⟨rfl, hb⟩
        have SA := Lib.hid (SA.out.next hb)
        have SB := Lib.hid (SB.out.next hb)
        clear hb
        have a0 := SA.out.c0
        have a1 := SA.out.c1
        have a2 := SA.out.c2
        have a3 := SA.out.c3
        have b0 := SB.out.c0
        have b1 := SB.out.c1
        have b2 := SB.out.c2
        have b3 := SB.out.c3
        go_wp2_with fail
        go_ret3
        exact ⟨rfl, SA.out.bel⟩
      | true =>
        by_cases k : N ≤ n
        · obtain ⟨rfl, rfl⟩ := hv.uniq (VB.out rfl k)
          have d0 : decide (N ≤ n) = true := dec_t k
          clear hv k
          go_wp2_with fail
          refine (ST.out _).mono ?_
          rintro e w3 ⟨rfl, hb⟩
          have SA := Lib.hid (SA.out.next hb)
          have SB := Lib.hid (SB.out.next hb)
          clear hb
          have a0 := SA.out.c0
          have a1 := SA.out.c1
          have a2 := SA.out.c2
          have a3 := SA.out.c3
          have b0 := SB.out.c0
          have b1 := SB.out.c1
          have b2 := SB.out.c2
          have b3 := SB.out.c3
          go_wp2_with fail
          go_ret3
          exact ⟨rfl, SA.out.bel⟩
        · have d0 : decide (N ≤ n) = false := dec_f k
          have A2 := Lib.hid (AT.out rfl (by omega))
          clear AT
          by_cases l : LB < s + n * p
          · obtain ⟨rfl, rfl⟩ := hv.uniq (VP.out rfl l)
            obtain ⟨t, ht⟩ : ∃ t, s + n * p = t := ⟨_, rfl⟩
            rw [ht] at A2 l
            have d1 : decide (LB < t) = true := dec_t l
            clear hv k l ht
            go_wp2_with fail
            refine (ST.out _).mono ?_
            rintro e w3 ⟨rfl, hb⟩
            have SA := Lib.hid (SA.out.next hb)
            have SB := Lib.hid (SB.out.next hb)
            clear hb
            have a0 := SA.out.c0
            have a1 := SA.out.c1
            have a2 := SA.out.c2
            have a3 := SA.out.c3
            have b0 := SB.out.c0
            have b1 := SB.out.c1
            have b2 := SB.out.c2
            have b3 := SB.out.c3
            go_wp2_with fail
            refine (A2.out _).mono ?_
            rintro e w4 ⟨rfl, hb⟩
            have SA := Lib.hid (SA.out.next hb)
            have SB := Lib.hid (SB.out.next hb)
            clear hb
            have a0 := SA.out.c0
            have a1 := SA.out.c1
            have a2 := SA.out.c2
            have a3 := SA.out.c3
            have b0 := SB.out.c0
            have b1 := SB.out.c1
            have b2 := SB.out.c2
            have b3 := SB.out.c3
            go_wp2_with fail
            refine (LA.out _).mono ?_
            rintro e w5 ⟨rfl, hb⟩
            have SA := Lib.hid (SA.out.next hb)
            have SB := Lib.hid (SB.out.next hb)
            clear hb
            have a0 := SA.out.c0
            have a1 := SA.out.c1
            have a2 := SA.out.c2
            have a3 := SA.out.c3
            have b0 := SB.out.c0
            have b1 := SB.out.c1
            have b2 := SB.out.c2
            have b3 := SB.out.c3
            go_wp2_with fail
            go_ret3
            exact ⟨rfl, SA.out.bel⟩
          · have E := VT.out rfl (by omega) (by omega)
            obtain ⟨t, ht⟩ : ∃ t, s + n * p = t := ⟨_, rfl⟩
            rw [ht] at A2 l E
            obtain ⟨E1, rfl⟩ := hv.uniq E
            subst E1
            have d1 : decide (LB < v) = false := dec_f l
            clear E
            clear hv k l ht
            go_wp2_with fail
            refine (ST.out _).mono ?_
            rintro e w3 ⟨rfl, hb⟩
            have SA := Lib.hid (SA.out.next hb)
            have SB := Lib.hid (SB.out.next hb)
            clear hb
            have a0 := SA.out.c0
            have a1 := SA.out.c1
            have a2 := SA.out.c2
            have a3 := SA.out.c3
            have b0 := SB.out.c0
            have b1 := SB.out.c1
            have b2 := SB.out.c2
            have b3 := SB.out.c3
            go_wp2_with fail
            refine (A2.out _).mono ?_
            rintro e w4 ⟨rfl, hb⟩
            have SA := Lib.hid (SA.out.next hb)
            have SB := Lib.hid (SB.out.next hb)
            clear hb
            have a0 := SA.out.c0
            have a1 := SA.out.c1
            have a2 := SA.out.c2
            have a3 := SA.out.c3
            have b0 := SB.out.c0
            have b1 := SB.out.c1
            have b2 := SB.out.c2
            have b3 := SB.out.c3
            go_wp2_with fail
            refine (LA.out _).mono ?_
            rintro e w5 ⟨rfl, hb⟩
            have SA := Lib.hid (SA.out.next hb)
            have SB := Lib.hid (SB.out.next hb)
            clear hb
            have a0 := SA.out.c0
            have a1 := SA.out.c1
            have a2 := SA.out.c2
            have a3 := SA.out.c3
            have b0 := SB.out.c0
            have b1 := SB.out.c1
            have b2 := SB.out.c2
            have b3 := SB.out.c3
            go_wp2_with fail
            go_ret3
            exact ⟨rfl, SA.out.bel⟩
end Go.Proofs.Ytnajpgkahnjabaa
