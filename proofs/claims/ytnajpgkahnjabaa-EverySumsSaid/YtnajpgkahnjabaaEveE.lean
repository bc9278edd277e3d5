/- Contracts of the document's Next, Prev, Count, Nth, Index, Last, by the relations that say which answer there is. -/
import Derived.Test.YtnajpgkahnjabaaEveD
namespace Go.Proofs.Ytnajpgkahnjabaa
open Go.ChangeShapes Go.RowKit

/-- a schedule in the call's own box, over what lay before -/
structure Ex (w : World) (g : Nat) (s p c : Int) (W : World) : Prop where
  bel : Below w.heap.size w W
  c0 : W.cell? ⟨g, 0, none⟩ = some (.int .i64 s)
  c1 : W.cell? ⟨g, 1, none⟩ = some (.int .i64 p)
  c2 : W.cell? ⟨g, 2, none⟩ = some (.int .i64 c)
theorem Ex.start (w : World) (s p c : Int) : Ex w w.heap.size s p c (w.alloc (.cells #[.int .i64 s, .int .i64 p, .int .i64 c] 23)) := ⟨(Below.refl _ _).alloc (Nat.le_refl _) _, by simp [go_sem], by simp [go_sem], by simp [go_sem]⟩
theorem Ex.drew {w : World} {g : Nat} {s p c : Int} {W : World} (h : Ex w g s p c W) : Ex w g s p c W.drew := ⟨h.bel.drew, h.c0, h.c1, h.c2⟩
theorem Ex.next {w : World} {g : Nat} {s p c : Int} {W W' : World} (h : Ex w g s p c W) (b : Below W.heap.size W W') : Ex w g s p c W' :=
  ⟨h.bel.trans (b.mono h.bel.size), (b.cell (p := ⟨g, 0, none⟩) (cell_lt h.c0)).trans h.c0, (b.cell (p := ⟨g, 1, none⟩) (cell_lt h.c0)).trans h.c1, (b.cell (p := ⟨g, 2, none⟩) (cell_lt h.c0)).trans h.c2⟩
theorem rupto_ex {w W : World} {g : Nat} {s p c : Int} (t : Int) (h : Ev.Ok s p c) (t0 : -1 ≤ t) (t1 : t ≤ 253402300799) (q : Ex w g s p c W) :
    Calls Try.prog 40 #[.agg #[.int .i64 s, .int .i64 p, .int .i64 c], .int .i64 t] W fun e w' => e = .returned (.int .i64 (Ev.upto s p c t)) ∧ Ex w g s p c w' :=
  (rupto_any s p c t _ W h rfl t0 t1).mono fun _ _ ⟨h1, h2⟩ => ⟨h1, q.next h2⟩
theorem number_ex {w W : World} {g : Nat} {s p c N : Int} (h : Ev.Ok s p c) (hN : Ev.num s p c = N) (q : Ex w g s p c W) :
    Calls Try.prog 37 #[.agg #[.int .i64 s, .int .i64 p, .int .i64 c]] W fun e w' => e = .returned (.int .i64 N) ∧ Ex w g s p c w' :=
  (number_any s p c N W h hN).mono fun _ _ ⟨h1, h2⟩ => ⟨h1, q.next h2⟩

theorem rnext_any (s p c t v : Int) (b : Bool) (r : Int) (w : World) (h : NextR s p c t v b r) :
    Calls Try.prog 17 #[.agg #[.int .i64 s, .int .i64 p, .int .i64 c], .int .i64 t] w fun e w' => e = .returned (.tuple #[.int .i64 v, .bool b, .int .i64 r]) ∧ Below w.heap.size w w' := by
  rcases h with ⟨h, rfl, rfl, rfl⟩ | ⟨h, ht, rfl, rfl, rfl⟩ | ⟨h, ht, rfl, hv⟩
  · have C := Lib.hid (fun w' => first_no s p c t w' h)
    clear h
    go_enter Try.func17, Try.ntmps17
    go_wp2_with fail
    have E := Lib.hid (Ex.start w s p c)
    refine (C.out _).mono ?_
    rintro e w1 ⟨rfl, hb⟩
    have E := Lib.hid (E.out.next hb)
    clear hb
    have c0 := E.out.c0
    have c1 := E.out.c1
    have c2 := E.out.c2
    go_wp2_with fail
    go_ret3
    exact ⟨rfl, E.out.bel⟩
  · have C := Lib.hid (fun w' => first_time s p c t w' h ht)
    clear h ht
    go_enter Try.func17, Try.ntmps17
    go_wp2_with fail
    have E := Lib.hid (Ex.start w s p c)
    refine (C.out _).mono ?_
    rintro e w2 ⟨rfl, hb⟩
    have E := Lib.hid (E.out.next hb)
    clear hb
    have c0 := E.out.c0
    have c1 := E.out.c1
    have c2 := E.out.c2
    go_wp2_with fail
    go_ret3
    exact ⟨rfl, E.out.bel⟩
  · have C := Lib.hid (fun w' => first_yes s p c t w' h ht)
    obtain ⟨N, hN⟩ : ∃ N, Ev.num s p c = N := ⟨_, rfl⟩
    obtain ⟨u, hu⟩ : ∃ u, Ev.upto s p c t = u := ⟨_, rfl⟩
    have U := Lib.hid (fun w' => rupto_any s p c t u w' h hu (by have := ht.1; omega) ht.2)
    have M := Lib.hid (fun w' => number_any s p c N w' h hN)
    have l := Ev.upto_lo h t
    have g := Ev.upto_hi h t
    rw [hu] at l g
    rw [hN] at g
    by_cases q : u = N
    · have n := Ev.next_none (t := t) h (by omega)
      obtain ⟨rfl, rfl⟩ := hv.uniq n
      subst q
      clear h ht hN hu hv n l g
      go_enter Try.func17, Try.ntmps17
      go_wp2_with fail
      have E := Lib.hid (Ex.start w s p c)
      refine (C.out _).mono ?_
      rintro e w3 ⟨rfl, hb⟩
      have E := Lib.hid (E.out.next hb)
      clear hb
      have c0 := E.out.c0
      have c1 := E.out.c1
      have c2 := E.out.c2
      go_wp2_with fail
      refine (U.out _).mono ?_
      rintro e w4 ⟨rfl, hb⟩
      have E := Lib.hid (E.out.next hb)
      clear hb
      have c0 := E.out.c0
      have c1 := E.out.c1
      have c2 := E.out.c2
      go_wp2_with fail
      refine (M.out _).mono ?_
      rintro e w5 ⟨rfl, hb⟩
      have E := Lib.hid (E.out.next hb)
      clear hb
      have c0 := E.out.c0
      have c1 := E.out.c1
      have c2 := E.out.c2
      go_wp2_with fail
      go_ret3
      exact ⟨rfl, E.out.bel⟩
    · have n := Ev.next_some (t := t) h (by omega)
      obtain ⟨rfl, rfl⟩ := hv.uniq n
      rw [hu]
      have k := ((Ev.num_iff h u).1 (by omega)).1
      have m0 := Int.mul_nonneg l (show 0 ≤ p by have := h.p0; omega)
      have s0 := h.s0
      obtain ⟨m, hm⟩ : ∃ m, u * p = m := ⟨_, rfl⟩
      rw [hm] at k m0 ⊢
      have x1 : IntKind.i64.wrap m = m := by rw [IntKind.wrap_i64]; omega
      have x2 : IntKind.i64.wrap (s + m) = s + m := by rw [IntKind.wrap_i64]; omega
      have d : (u == N) = false := by simpa using q
      clear h ht hN hu hv n l g
      go_enter Try.func17, Try.ntmps17
      go_wp2_with fail
      have E := Lib.hid (Ex.start w s p c)
      refine (C.out _).mono ?_
      rintro e w6 ⟨rfl, hb⟩
      have E := Lib.hid (E.out.next hb)
      clear hb
      have c0 := E.out.c0
      have c1 := E.out.c1
      have c2 := E.out.c2
      go_wp2_with fail
      refine (U.out _).mono ?_
      rintro e w7 ⟨rfl, hb⟩
      have E := Lib.hid (E.out.next hb)
      clear hb
      have c0 := E.out.c0
      have c1 := E.out.c1
      have c2 := E.out.c2
      go_wp2_with fail
      refine (M.out _).mono ?_
      rintro e w8 ⟨rfl, hb⟩
      have E := Lib.hid (E.out.next hb)
      clear hb
      have c0 := E.out.c0
      have c1 := E.out.c1
      have c2 := E.out.c2
      go_wp2_with fail
      go_ret3
      exact ⟨rfl, E.out.bel⟩

theorem rprev_any (s p c t v : Int) (b : Bool) (r : Int) (w : World) (h : PrevR s p c t v b r) :
    Calls Try.prog 19 #[.agg #[.int .i64 s, .int .i64 p, .int .i64 c], .int .i64 t] w fun e w' => e = .returned (.tuple #[.int .i64 v, .bool b, .int .i64 r]) ∧ Below w.heap.size w w' := by
  rcases h with ⟨h, rfl, rfl, rfl⟩ | ⟨h, ht, rfl, rfl, rfl⟩ | ⟨h, ht, rfl, hv⟩
  · have C := Lib.hid (fun w' => first_no s p c t w' h)
    clear h
    go_enter Try.func19, Try.ntmps19
    go_wp2_with fail
    have E := Lib.hid (Ex.start w s p c)
    refine (C.out _).mono ?_
    rintro e w9 ⟨rfl, hb⟩
    have E := Lib.hid (E.out.next hb)
    clear hb
    have c0 := E.out.c0
    have c1 := E.out.c1
    have c2 := E.out.c2
    go_wp2_with fail
    go_ret3
    exact ⟨rfl, E.out.bel⟩
  · have C := Lib.hid (fun w' => first_time s p c t w' h ht)
    clear h ht
    go_enter Try.func19, Try.ntmps19
    go_wp2_with fail
    have E := Lib.hid (Ex.start w s p c)
    refine (C.out _).mono ?_
    rintro e w10 ⟨rfl, hb⟩
    have E := Lib.hid (E.out.next hb)
    clear hb
    have c0 := E.out.c0
    have c1 := E.out.c1
    have c2 := E.out.c2
    go_wp2_with fail
    go_ret3
    exact ⟨rfl, E.out.bel⟩
  · have C := Lib.hid (fun w' => first_yes s p c t w' h ht)
    obtain ⟨u, hu⟩ : ∃ u, Ev.upto s p c (t - 1) = u := ⟨_, rfl⟩
    have U := Lib.hid (fun w' => rupto_any s p c (t - 1) u w' h hu (by have := ht.1; omega) (by have := ht.2; omega))
    have l := Ev.upto_lo h (t - 1)
    have g := Ev.upto_hi h (t - 1)
    have k := Ev.num_small h
    rw [hu] at l g
    have x0 : IntKind.i64.wrap (t - 1) = t - 1 := by have := ht.1; have := ht.2; rw [IntKind.wrap_i64]; omega
    by_cases q : u = 0
    · have n := Ev.prev_none (t := t) h (by omega)
      obtain ⟨rfl, rfl⟩ := hv.uniq n
      subst q
      clear h ht hu hv n l g k
      go_enter Try.func19, Try.ntmps19
      go_wp2_with fail
      have E := Lib.hid (Ex.start w s p c)
      refine (C.out _).mono ?_
      rintro e w11 ⟨rfl, hb⟩
      have E := Lib.hid (E.out.next hb)
      clear hb
      have c0 := E.out.c0
      have c1 := E.out.c1
      have c2 := E.out.c2
      go_wp2_with fail
      refine (U.out _).mono ?_
      rintro e w12 ⟨rfl, hb⟩
      have E := Lib.hid (E.out.next hb)
      clear hb
      have c0 := E.out.c0
      have c1 := E.out.c1
      have c2 := E.out.c2
      go_wp2_with fail
      go_ret3
      exact ⟨rfl, E.out.bel⟩
    · have n := Ev.prev_some (t := t) h (by omega)
      obtain ⟨rfl, rfl⟩ := hv.uniq n
      rw [hu]
      have j := ((Ev.num_iff h (u - 1)).1 (by omega)).1
      have m0 := Int.mul_nonneg (show 0 ≤ u - 1 by omega) (show 0 ≤ p by have := h.p0; omega)
      have s0 := h.s0
      obtain ⟨m, hm⟩ : ∃ m, (u - 1) * p = m := ⟨_, rfl⟩
      rw [hm] at j m0 ⊢
      have y1 : IntKind.i64.wrap (u - 1) = u - 1 := by rw [IntKind.wrap_i64]; omega
      have x1 : IntKind.i64.wrap m = m := by rw [IntKind.wrap_i64]; omega
      have x2 : IntKind.i64.wrap (s + m) = s + m := by rw [IntKind.wrap_i64]; omega
      have d : (u == 0) = false := by simpa using q
      clear h ht hu hv n l g k
      go_enter Try.func19, Try.ntmps19
      go_wp2_with fail
      have E := Lib.hid (Ex.start w s p c)
      refine (C.out _).mono ?_
      rintro e w13 ⟨rfl, hb⟩
      have E := Lib.hid (E.out.next hb)
      clear hb
      have c0 := E.out.c0
      have c1 := E.out.c1
      have c2 := E.out.c2
      go_wp2_with fail
      refine (U.out _).mono ?_
      rintro e w14 ⟨rfl, hb⟩
      have E := Lib.hid (E.out.next hb)
      clear hb
      have c0 := E.out.c0
      have c1 := E.out.c1
      have c2 := E.out.c2
      go_wp2_with fail
      go_ret3
      exact ⟨rfl, E.out.bel⟩

theorem rnth_any (s p c n v r : Int) (w : World) (h : NthR s p c n v r) :
    Calls Try.prog 26 #[.agg #[.int .i64 s, .int .i64 p, .int .i64 c], .int .i64 n] w fun e w' => e = .returned (.tuple #[.int .i64 v, .int .i64 r]) ∧ Below w.heap.size w w' := by
  rcases h with ⟨h, rfl, rfl⟩ | ⟨h, hn, rfl, rfl⟩ | ⟨h, n0, n1, rfl, rfl⟩
  · have C := Lib.hid (fun w' => rcheck_no s p c w' h)
    clear h
    go_enter Try.func26, Try.ntmps26
    go_wp2_with fail
    have E := Lib.hid (Ex.start w s p c)
    refine (C.out _).mono ?_
    rintro e w15 ⟨rfl, hb⟩
    have E := Lib.hid (E.out.next hb)
    clear hb
    have c0 := E.out.c0
    have c1 := E.out.c1
    have c2 := E.out.c2
    go_wp2_with fail
    go_ret2
    exact ⟨rfl, E.out.bel⟩
  · have C := Lib.hid (fun w' => rcheck_yes s p c w' h)
    obtain ⟨N, hN⟩ : ∃ N, Ev.num s p c = N := ⟨_, rfl⟩
    have M := Lib.hid (fun w' => number_any s p c N w' h hN)
    rw [hN] at hn
    by_cases q : n < 0
    · have d0 := dec_t q
      clear h hN hn q
      go_enter Try.func26, Try.ntmps26
      go_wp2_with fail
      have E := Lib.hid (Ex.start w s p c)
      refine (C.out _).mono ?_
      rintro e w16 ⟨rfl, hb⟩
      have E := Lib.hid (E.out.next hb)
      clear hb
      have c0 := E.out.c0
      have c1 := E.out.c1
      have c2 := E.out.c2
      go_wp2_with fail
      go_ret2
      exact ⟨rfl, E.out.bel⟩
    · have d0 := dec_f q
      have d1 : decide (N ≤ n) = true := dec_t (by omega)
      clear h hN hn q
      go_enter Try.func26, Try.ntmps26
      go_wp2_with fail
      have E := Lib.hid (Ex.start w s p c)
      refine (C.out _).mono ?_
      rintro e w17 ⟨rfl, hb⟩
      have E := Lib.hid (E.out.next hb)
      clear hb
      have c0 := E.out.c0
      have c1 := E.out.c1
      have c2 := E.out.c2
      go_wp2_with fail
      refine (M.out _).mono ?_
      rintro e w18 ⟨rfl, hb⟩
      have E := Lib.hid (E.out.next hb)
      clear hb
      have c0 := E.out.c0
      have c1 := E.out.c1
      have c2 := E.out.c2
      go_wp2_with fail
      go_ret2
      exact ⟨rfl, E.out.bel⟩
  · have C := Lib.hid (fun w' => rcheck_yes s p c w' h)
    obtain ⟨N, hN⟩ : ∃ N, Ev.num s p c = N := ⟨_, rfl⟩
    have M := Lib.hid (fun w' => number_any s p c N w' h hN)
    have k := ((Ev.num_iff h n).1 n1).1
    rw [hN] at n1
    have d0 : decide (n < 0) = false := dec_f (by omega)
    have d1 : decide (N ≤ n) = false := dec_f (by omega)
    have m0 := Int.mul_nonneg n0 (show 0 ≤ p by have := h.p0; omega)
    have s0 := h.s0
    obtain ⟨m, hm⟩ : ∃ m, n * p = m := ⟨_, rfl⟩
    rw [hm] at k m0 ⊢
    have x1 : IntKind.i64.wrap m = m := by rw [IntKind.wrap_i64]; omega
    have x2 : IntKind.i64.wrap (s + m) = s + m := by rw [IntKind.wrap_i64]; omega
    clear h hN n0 n1
    go_enter Try.func26, Try.ntmps26
    go_wp2_with fail
    have E := Lib.hid (Ex.start w s p c)
    refine (C.out _).mono ?_
    rintro e w19 ⟨rfl, hb⟩
    have E := Lib.hid (E.out.next hb)
    clear hb
    have c0 := E.out.c0
    have c1 := E.out.c1
    have c2 := E.out.c2
    go_wp2_with fail
    refine (M.out _).mono ?_
    rintro e w20 ⟨rfl, hb⟩
    have E := Lib.hid (E.out.next hb)
    clear hb
    have c0 := E.out.c0
    have c1 := E.out.c1
    have c2 := E.out.c2
    go_wp2_with fail
    go_ret2
    exact ⟨rfl, E.out.bel⟩

theorem rindex_any (s p c t k r : Int) (w : World) (h : IndexR s p c t k r) :
    Calls Try.prog 28 #[.agg #[.int .i64 s, .int .i64 p, .int .i64 c], .int .i64 t] w fun e w' => e = .returned (.tuple #[.int .i64 k, .int .i64 r]) ∧ Below w.heap.size w w' := by
  rcases h with ⟨h, rfl, rfl⟩ | ⟨h, ht, rfl, rfl⟩ | ⟨h, ht, hn, rfl, rfl⟩ | ⟨h, ht, k0, k1, hk, rfl⟩
  · have C := Lib.hid (fun w' => ris_any s p c t false 16 w' (.inl ⟨h, rfl, rfl⟩))
    clear h
    go_enter Try.func28, Try.ntmps28
    go_wp2_with fail
    have E := Lib.hid (Ex.start w s p c)
    refine (C.out _).mono ?_
    rintro e w21 ⟨rfl, hb⟩
    have E := Lib.hid (E.out.next hb)
    clear hb
    have c0 := E.out.c0
    have c1 := E.out.c1
    have c2 := E.out.c2
    go_wp2_with fail
    go_ret2
    exact ⟨rfl, E.out.bel⟩
  · have C := Lib.hid (fun w' => ris_any s p c t false 14 w' (.inr (.inl ⟨h, ht, rfl, rfl⟩)))
    clear h ht
    go_enter Try.func28, Try.ntmps28
    go_wp2_with fail
    have E := Lib.hid (Ex.start w s p c)
    refine (C.out _).mono ?_
    rintro e w22 ⟨rfl, hb⟩
    have E := Lib.hid (E.out.next hb)
    clear hb
    have c0 := E.out.c0
    have c1 := E.out.c1
    have c2 := E.out.c2
    go_wp2_with fail
    go_ret2
    exact ⟨rfl, E.out.bel⟩
  · have C := Lib.hid (fun w' => ris_any s p c t false 0 w' (.inr (.inr ⟨h, ht, rfl, by simpa using hn⟩)))
    clear h ht hn
    go_enter Try.func28, Try.ntmps28
    go_wp2_with fail
    have E := Lib.hid (Ex.start w s p c)
    refine (C.out _).mono ?_
    rintro e w23 ⟨rfl, hb⟩
    have E := Lib.hid (E.out.next hb)
    clear hb
    have c0 := E.out.c0
    have c1 := E.out.c1
    have c2 := E.out.c2
    go_wp2_with fail
    go_ret2
    exact ⟨rfl, E.out.bel⟩
  · have o := Ev.on_at h k0 k1
    rw [← hk] at o
    have C := Lib.hid (fun w' => ris_any s p c t true 0 w' (.inr (.inr ⟨h, ht, rfl, by simpa using o⟩)))
    have p0 := h.p0
    have s0 := h.s0
    obtain ⟨t0, t1⟩ := ht
    have le := o.1
    have e1 : (t - s).tdiv p = k := by rw [quo_is (by omega), hk]; exact (Ev.at_div p0).1
    have x1 : IntKind.i64.wrap (t - s) = t - s := by rw [IntKind.wrap_i64]; omega
    have g := Ev.num_small h
    have x2 : IntKind.i64.wrap k = k := by rw [IntKind.wrap_i64]; omega
    have z1 : (p == 0) = false := by simp; omega
    have z2 : ¬ p = 0 := by omega
    clear h hk k0 k1 o g t0 t1 le
    go_enter Try.func28, Try.ntmps28
    go_wp2_with fail
    have E := Lib.hid (Ex.start w s p c)
    refine (C.out _).mono ?_
    rintro e w24 ⟨rfl, hb⟩
    have E := Lib.hid (E.out.next hb)
    clear hb
    have c0 := E.out.c0
    have c1 := E.out.c1
    have c2 := E.out.c2
    go_wp2_with fail
    go_ret2
    exact ⟨rfl, E.out.bel⟩

set_option maxHeartbeats 1000000 in
theorem rlast_any (s p c v : Int) (b : Bool) (r : Int) (w : World) (h : LastR s p c v b r) :
    Calls Try.prog 30 #[.agg #[.int .i64 s, .int .i64 p, .int .i64 c]] w fun e w' => e = .returned (.tuple #[.int .i64 v, .bool b, .int .i64 r]) ∧ Below w.heap.size w w' := by
  rcases h with ⟨h, rfl, rfl, rfl⟩ | ⟨h, rfl, rfl, rfl⟩
  · have C := Lib.hid (fun w' => rcheck_no s p c w' h)
    clear h
    go_enter Try.func30, Try.ntmps30
    go_wp2_with fail
    have E := Lib.hid (Ex.start w s p c)
    refine (C.out _).mono ?_
    rintro e w25 ⟨rfl, hb⟩
    have E := Lib.hid (E.out.next hb)
    clear hb
    have c0 := E.out.c0
    have c1 := E.out.c1
    have c2 := E.out.c2
    go_wp2_with fail
    go_ret3
    exact ⟨rfl, E.out.bel⟩
  · have C := Lib.hid (fun w' => rcheck_yes s p c w' h)
    have n0 := Ev.num_pos h
    have n1 := Ev.num_small h
    unfold Ev.last
    obtain ⟨N, hN⟩ : ∃ N, Ev.num s p c = N := ⟨_, rfl⟩
    have M := Lib.hid (fun g W (q : Ex w g s p c W) => number_ex h hN q)
    have k := ((Ev.num_iff h (N - 1)).1 (by omega)).1
    rw [hN] at n0 n1 ⊢
    have m0 := Int.mul_nonneg (show 0 ≤ N - 1 by omega) (show 0 ≤ p by have := h.p0; omega)
    have s0 := h.s0
    obtain ⟨m, hm⟩ : ∃ m, (N - 1) * p = m := ⟨_, rfl⟩
    rw [hm] at k m0 ⊢
    have y1 : IntKind.i64.wrap (N - 1) = N - 1 := by rw [IntKind.wrap_i64]; omega
    have x1 : IntKind.i64.wrap m = m := by rw [IntKind.wrap_i64]; omega
    have x2 : IntKind.i64.wrap (s + m) = s + m := by rw [IntKind.wrap_i64]; omega
    clear h hN n0 n1
    go_enter Try.func30, Try.ntmps30
    go_wp2_with fail
    have E := Lib.hid (Ex.start w s p c)
    refine (C.out _).mono ?_
    rintro e w26 ⟨rfl, hb⟩
    have E := Lib.hid (E.out.next hb)
    clear hb
    have c0 := E.out.c0
    have c1 := E.out.c1
    have c2 := E.out.c2
    go_wp2_with fail
    go_region_held3 (fun w' => w'.cell? ⟨w.heap.size, 0, none⟩ = some (.int .i64 s) ∧ w'.cell? ⟨w.heap.size, 1, none⟩ = some (.int .i64 p) ∧ w'.cell? ⟨w.heap.size, 2, none⟩ = some (.int .i64 c)) (go_keep)
      (first | (go_at_call 37; refine (M.out w.heap.size _ (by first | exact E.out | exact E.out.drew)).mono ?_; rintro e v2 ⟨rfl, q⟩; have y0 := q.c0; have y1 := q.c1; have y2 := q.c2; have E := Lib.hid q; clear q))
    go_wp2_with fail
    go_ret3
    exact ⟨rfl, E.out.bel⟩

set_option maxHeartbeats 1000000 in
theorem rcount_any (s p c a b n r : Int) (w : World) (h : CountR s p c a b n r) :
    Calls Try.prog 24 #[.agg #[.int .i64 s, .int .i64 p, .int .i64 c], .int .i64 a, .int .i64 b] w fun e w' => e = .returned (.tuple #[.int .i64 n, .int .i64 r]) ∧ Below w.heap.size w w' := by
  rcases h with ⟨h, rfl, rfl⟩ | ⟨h, ht, rfl, rfl⟩ | ⟨h, ha, hb, hn, rfl⟩
  · have C := Lib.hid (fun w' => first_no s p c a w' h)
    clear h
    go_enter Try.func24, Try.ntmps24
    go_wp2_with fail
    have E := Lib.hid (Ex.start w s p c)
    refine (C.out _).mono ?_
    rintro e w27 ⟨rfl, hb⟩
    have E := Lib.hid (E.out.next hb)
    clear hb
    have c0 := E.out.c0
    have c1 := E.out.c1
    have c2 := E.out.c2
    go_wp2_with fail
    go_ret2
    exact ⟨rfl, E.out.bel⟩
  · by_cases q : Vt a
    · have C := Lib.hid (fun w' => first_yes s p c a w' h q)
      have D := Lib.hid (fun w' => first_time s p c b w' h (fun k => ht ⟨q, k⟩))
      clear h ht q
      go_enter Try.func24, Try.ntmps24
      go_wp2_with fail
      have E := Lib.hid (Ex.start w s p c)
      refine (C.out _).mono ?_
      rintro e w28 ⟨rfl, hb⟩
      have E := Lib.hid (E.out.next hb)
      clear hb
      have c0 := E.out.c0
      have c1 := E.out.c1
      have c2 := E.out.c2
      go_wp2_with fail
      refine (D.out _).mono ?_
      rintro e w29 ⟨rfl, hb⟩
      have E := Lib.hid (E.out.next hb)
      clear hb
      have c0 := E.out.c0
      have c1 := E.out.c1
      have c2 := E.out.c2
      go_wp2_with fail
      go_ret2
      exact ⟨rfl, E.out.bel⟩
    · have C := Lib.hid (fun w' => first_time s p c a w' h q)
      clear h ht q
      go_enter Try.func24, Try.ntmps24
      go_wp2_with fail
      have E := Lib.hid (Ex.start w s p c)
      refine (C.out _).mono ?_
      rintro e w30 ⟨rfl, hb⟩
      have E := Lib.hid (E.out.next hb)
      clear hb
      have c0 := E.out.c0
      have c1 := E.out.c1
      have c2 := E.out.c2
      go_wp2_with fail
      go_ret2
      exact ⟨rfl, E.out.bel⟩
  · have C := Lib.hid (fun w' => first_yes s p c a w' h ha)
    have D := Lib.hid (fun w' => first_yes s p c b w' h hb)
    unfold Ev.cnt at hn
    by_cases q : b < a
    · have d0 := dec_t q
      rw [if_pos q] at hn
      subst hn
      clear h q ha hb
      go_enter Try.func24, Try.ntmps24
      go_wp2_with fail
      have E := Lib.hid (Ex.start w s p c)
      refine (C.out _).mono ?_
      rintro e w31 ⟨rfl, hb⟩
      have E := Lib.hid (E.out.next hb)
      clear hb
      have c0 := E.out.c0
      have c1 := E.out.c1
      have c2 := E.out.c2
      go_wp2_with fail
      refine (D.out _).mono ?_
      rintro e w32 ⟨rfl, hb⟩
      have E := Lib.hid (E.out.next hb)
      clear hb
      have c0 := E.out.c0
      have c1 := E.out.c1
      have c2 := E.out.c2
      go_wp2_with fail
      go_ret2
      exact ⟨rfl, E.out.bel⟩
    · have d0 := dec_f q
      rw [if_neg q] at hn
      have U := Lib.hid (fun g t W (t0 : -1 ≤ t) (t1 : t ≤ 253402300799) (q : Ex w g s p c W) => rupto_ex t h t0 t1 q)
      have x1 : IntKind.i64.wrap (a - 1) = a - 1 := by have := ha.1; have := ha.2; rw [IntKind.wrap_i64]; omega
      have g0 := Ev.upto_lo h b
      have g1 := Ev.upto_hi h b
      have g2 := Ev.upto_lo h (a - 1)
      have g3 := Ev.upto_hi h (a - 1)
      have g4 := Ev.num_small h
      have x2 : IntKind.i64.wrap (Ev.upto s p c b - Ev.upto s p c (a - 1)) = Ev.upto s p c b - Ev.upto s p c (a - 1) := by rw [IntKind.wrap_i64]; omega
      obtain ⟨a0, a1⟩ := ha
      obtain ⟨b0, b1⟩ := hb
      subst hn
      clear q g0 g1 g2 g3 g4 h
      go_enter Try.func24, Try.ntmps24
      go_wp2_with fail
      have E := Lib.hid (Ex.start w s p c)
      refine (C.out _).mono ?_
      rintro e w33 ⟨rfl, hb⟩
      have E := Lib.hid (E.out.next hb)
      clear hb
      have c0 := E.out.c0
      have c1 := E.out.c1
      have c2 := E.out.c2
      go_wp2_with fail
      refine (D.out _).mono ?_
      rintro e w34 ⟨rfl, hb⟩
      have E := Lib.hid (E.out.next hb)
      clear hb
      have c0 := E.out.c0
      have c1 := E.out.c1
      have c2 := E.out.c2
      go_wp2_with fail
      go_region_held3 (fun w' => w'.cell? ⟨w.heap.size, 0, none⟩ = some (.int .i64 s) ∧ w'.cell? ⟨w.heap.size, 1, none⟩ = some (.int .i64 p) ∧ w'.cell? ⟨w.heap.size, 2, none⟩ = some (.int .i64 c)) (go_keep)
        (first | (go_at_call 40; refine (U.out w.heap.size _ _ (by omega) (by omega) (by first | exact E.out | exact E.out.drew)).mono ?_; rintro e v2 ⟨rfl, q⟩; have y0 := q.c0; have y1 := q.c1; have y2 := q.c2; have E := Lib.hid q; clear q))
      go_wp2_with fail
      go_ret2
      exact ⟨rfl, E.out.bel⟩

end Go.Proofs.Ytnajpgkahnjabaa
