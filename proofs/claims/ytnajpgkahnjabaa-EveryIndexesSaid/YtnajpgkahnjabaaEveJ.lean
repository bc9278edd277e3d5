/- Contract of the document's Meet. -/
import Derived.Test.YtnajpgkahnjabaaEveI
namespace Go.Proofs.Ytnajpgkahnjabaa
open Go.ChangeShapes Go.RowKit

set_option maxRecDepth 100000 in
theorem rmeet_no (s p c s' p' c' : Int) (w : World) (h : ¬ (Ev.Ok s p c ∧ Ev.Ok s' p' c')) :
    Calls Try.prog 32 #[.agg #[.int .i64 s, .int .i64 p, .int .i64 c], .agg #[.int .i64 s', .int .i64 p', .int .i64 c']] w fun e w' => e = .returned (.tuple #[.int .i64 0, .bool false, .int .i64 16]) ∧ Below w.heap.size w w' := by
  by_cases k : Ev.Ok s p c
  · have CA := Lib.hid (fun w' => rcheck_yes s p c w' k)
    have CB := Lib.hid (fun w' => rcheck_no s' p' c' w' (fun q => h ⟨k, q⟩))
    clear h k
    go_enter Try.func32, Try.ntmps32
    go_wp2_with fail
    have EA : Hid (Ex w w.heap.size s p c ((w.alloc (.cells #[.int .i64 s, .int .i64 p, .int .i64 c] 23)).alloc (.cells #[.int .i64 s', .int .i64 p', .int .i64 c'] 23))) := Lib.hid ((Ex.start w s p c).next ((Below.refl _ _).alloc (Nat.le_refl _) _))
    have EB : Hid (Ex w (w.heap.size + 1) s' p' c' ((w.alloc (.cells #[.int .i64 s, .int .i64 p, .int .i64 c] 23)).alloc (.cells #[.int .i64 s', .int .i64 p', .int .i64 c'] 23))) := Lib.hid ⟨EA.out.bel, by simp [go_sem], by simp [go_sem], by simp [go_sem]⟩

    refine (CA.out _).mono ?_
    rintro e v1 ⟨rfl, hb⟩
    have EA := Lib.hid (EA.out.next hb)
    have EB := Lib.hid (EB.out.next hb)
    clear hb
    have a0 := EA.out.c0
    have a1 := EA.out.c1
    have a2 := EA.out.c2
    have b0 := EB.out.c0
    have b1 := EB.out.c1
    have b2 := EB.out.c2
    go_wp2_with fail

    refine (CB.out _).mono ?_
    rintro e v2 ⟨rfl, hb⟩
    have EA := Lib.hid (EA.out.next hb)
    have EB := Lib.hid (EB.out.next hb)
    clear hb
    have a0 := EA.out.c0
    have a1 := EA.out.c1
    have a2 := EA.out.c2
    have b0 := EB.out.c0
    have b1 := EB.out.c1
    have b2 := EB.out.c2
    go_wp2_with fail
    go_ret3
    exact ⟨rfl, EA.out.bel⟩
  · have CA := Lib.hid (fun w' => rcheck_no s p c w' k)
    clear h k
    go_enter Try.func32, Try.ntmps32
    go_wp2_with fail
    have EA : Hid (Ex w w.heap.size s p c ((w.alloc (.cells #[.int .i64 s, .int .i64 p, .int .i64 c] 23)).alloc (.cells #[.int .i64 s', .int .i64 p', .int .i64 c'] 23))) := Lib.hid ((Ex.start w s p c).next ((Below.refl _ _).alloc (Nat.le_refl _) _))
    have EB : Hid (Ex w (w.heap.size + 1) s' p' c' ((w.alloc (.cells #[.int .i64 s, .int .i64 p, .int .i64 c] 23)).alloc (.cells #[.int .i64 s', .int .i64 p', .int .i64 c'] 23))) := Lib.hid ⟨EA.out.bel, by simp [go_sem], by simp [go_sem], by simp [go_sem]⟩

    refine (CA.out _).mono ?_
    rintro e v3 ⟨rfl, hb⟩
    have EA := Lib.hid (EA.out.next hb)
    have EB := Lib.hid (EB.out.next hb)
    clear hb
    have a0 := EA.out.c0
    have a1 := EA.out.c1
    have a2 := EA.out.c2
    have b0 := EB.out.c0
    have b1 := EB.out.c1
    have b2 := EB.out.c2
    go_wp2_with fail
    go_ret3
    exact ⟨rfl, EA.out.bel⟩

set_option maxRecDepth 100000 in
set_option maxHeartbeats 8000000 in
theorem rmeet_yes (s p c s' p' c' v : Int) (b : Bool) (w : World) (h : Ev.Ok s p c) (h' : Ev.Ok s' p' c') (hv : Ev.IsMeet s p c s' p' c' v b) :
    Calls Try.prog 32 #[.agg #[.int .i64 s, .int .i64 p, .int .i64 c], .agg #[.int .i64 s', .int .i64 p', .int .i64 c']] w fun e w' => e = .returned (.tuple #[.int .i64 v, .bool b, .int .i64 0]) ∧ Below w.heap.size w w' := by
  have CA := Lib.hid (fun w' => rcheck_yes s p c w' h)
  have CB := Lib.hid (fun w' => rcheck_yes s' p' c' w' h')
  have p0 := h.p0
  have p1 := h.p1
  have q0 := h'.p0
  have q1 := h'.p1
  have s0 := h.s0
  have s1 := h.s1
  have r0 := h'.s0
  have r1 := h'.s1
  obtain ⟨g, x, y, eu⟩ : ∃ g x y, IsEu p p' g x y := ⟨_, _, _, rfl, rfl, rfl⟩
  have EC := Lib.hid (fun w' => euclid_any p'.toNat p p' g x y w' (by omega) (by omega) p1 (by omega) q1 eu)
  obtain ⟨g0, hg, g1, g2, ⟨x0, x1⟩, _⟩ := eu_facts eu (by omega) (by omega)
  obtain ⟨d0, d1, d2, d3, hd⟩ := fix_is (s' - s) (show 0 < p' by omega)
  obtain ⟨T, hT⟩ : ∃ T, (s' - s).tmod p' = T := ⟨_, rfl⟩
  rw [hT] at d0 d1 d2 d3 hd
  obtain ⟨D, hD⟩ : ∃ D, fixR T p' = D := ⟨_, rfl⟩
  rw [hD] at d2 d3 hd
  have w1 : IntKind.i64.wrap (s' - s) = s' - s := by rw [IntKind.wrap_i64]; omega
  have z1 : (p' == 0) = false := by simp; omega
  have z2 : ¬ p' = 0 := by omega
  have z3 : (g == 0) = false := by simp; omega
  have z4 : ¬ g = 0 := by omega
  have z5 : (p == 0) = false := by simp; omega
  have z6 : ¬ p = 0 := by omega
  have e1 : D.tmod g = D % g := rem_is d2
  have w2 : T < 0 → IntKind.i64.wrap (T + p') = D := fun k => by rw [← hD, fixR, if_pos k, IntKind.wrap_i64]; omega
  have w3 : ¬ T < 0 → T = D := fun k => by rw [← hD, fixR, if_neg k]
  have W2 := Lib.hid w2
  have W3 := Lib.hid w3
  clear w2 w3 hD eu
  go_enter Try.func32, Try.ntmps32
  go_wp2_with fail
  have EA : Hid (Ex w w.heap.size s p c ((w.alloc (.cells #[.int .i64 s, .int .i64 p, .int .i64 c] 23)).alloc (.cells #[.int .i64 s', .int .i64 p', .int .i64 c'] 23))) := Lib.hid ((Ex.start w s p c).next ((Below.refl _ _).alloc (Nat.le_refl _) _))
  have EB : Hid (Ex w (w.heap.size + 1) s' p' c' ((w.alloc (.cells #[.int .i64 s, .int .i64 p, .int .i64 c] 23)).alloc (.cells #[.int .i64 s', .int .i64 p', .int .i64 c'] 23))) := Lib.hid ⟨EA.out.bel, by simp [go_sem], by simp [go_sem], by simp [go_sem]⟩

  refine (CA.out _).mono ?_
  rintro e v4 ⟨rfl, hb⟩
  have EA := Lib.hid (EA.out.next hb)
  have EB := Lib.hid (EB.out.next hb)
  clear hb
  have a0 := EA.out.c0
  have a1 := EA.out.c1
  have a2 := EA.out.c2
  have b0 := EB.out.c0
  have b1 := EB.out.c1
  have b2 := EB.out.c2
  go_wp2_with fail

  refine (CB.out _).mono ?_
  rintro e v5 ⟨rfl, hb⟩
  have EA := Lib.hid (EA.out.next hb)
  have EB := Lib.hid (EB.out.next hb)
  clear hb
  have a0 := EA.out.c0
  have a1 := EA.out.c1
  have a2 := EA.out.c2
  have b0 := EB.out.c0
  have b1 := EB.out.c1
  have b2 := EB.out.c2
  go_wp2_with fail

  refine (EC.out _).mono ?_
  rintro e wE ⟨rfl, hb⟩
  have EA := Lib.hid (EA.out.next hb)
  have EB := Lib.hid (EB.out.next hb)
  clear hb
  have a0 := EA.out.c0
  have a1 := EA.out.c1
  have a2 := EA.out.c2
  have b0 := EB.out.c0
  have b1 := EB.out.c1
  have b2 := EB.out.c2
  go_upto_if 44 with fail
  go_cut [10] from 44 to 48 (fun dv wc => dv = .int .i64 D ∧ wE = wc)
  case first =>
    by_cases k : T < 0
    · have k0 := dec_t k
      have k1 := W2.out k
      go_wp2_with fail
      go_meet
      case rel => exact ⟨rfl, rfl⟩
    · have k0 := dec_f k
      have NT := Lib.hid k
      go_wp2_with fail
      go_meet
      case rel => exact ⟨by rw [W3.out NT.out], rfl⟩
  case rest =>
  obtain ⟨rfl, rfl⟩ := hcut
  clear W2 W3 d0 d1 hT
  by_cases dz : D % g = 0
  · have t0 : (D % g == 0) = true := by simpa using dz
    obtain ⟨m, hm⟩ : ∃ m, p' / g = m := ⟨_, rfl⟩
    have gm : g * m = p' := by rw [← hm]; exact Int.mul_ediv_cancel' g2
    have m0 : 0 < m := by
      apply Classical.byContradiction
      intro k
      have := Int.mul_le_mul_of_nonneg_left (show m ≤ 0 by omega) (show 0 ≤ g by omega)
      omega
    have m1 : m ≤ p' := by rw [← hm]; exact Int.ediv_le_self _ (by omega)
    have e2 : p'.tdiv g = m := by rw [quo_is (by omega), hm]
    obtain ⟨f0, f1, f2, f3, hx⟩ := fix_is x m0
    obtain ⟨XT, hXT⟩ : ∃ XT, x.tmod m = XT := ⟨_, rfl⟩
    rw [hXT] at f0 f1 f2 f3 hx
    obtain ⟨X0, hX0⟩ : ∃ X0, fixR XT m = X0 := ⟨_, rfl⟩
    rw [hX0] at f2 f3 hx
    have W2 := Lib.hid (fun (k : XT < 0) => show IntKind.i64.wrap (XT + m) = X0 by rw [← hX0, fixR, if_pos k, IntKind.wrap_i64]; omega)
    have W3 := Lib.hid (fun (k : ¬ XT < 0) => show XT = X0 by rw [← hX0, fixR, if_neg k])
    have w4 : IntKind.i64.wrap m = m := by rw [IntKind.wrap_i64]; omega
    have z7 : (m == 0) = false := by simp; omega
    have z8 : ¬ m = 0 := by omega
    have Q0 : 0 ≤ D / g := Int.ediv_nonneg d2 (by omega)
    have Q1 : D / g ≤ D := Int.ediv_le_self _ d2
    have e3 : D.tdiv g = D / g := quo_is d2
    have e4 : (D / g).tmod m = D / g % m := rem_is Q0
    have w5 : IntKind.i64.wrap (D / g) = D / g := by rw [IntKind.wrap_i64]; omega
    have k0 := Int.emod_nonneg (D / g) z8
    have k1 := Int.emod_lt_of_pos (D / g) m0
    obtain ⟨X, hX⟩ : ∃ X, D / g % m * X0 % m = X := ⟨_, rfl⟩
    have X1 : 0 ≤ X := by rw [← hX]; exact Int.emod_nonneg _ z8
    have X2 : X < m := by rw [← hX]; exact Int.emod_lt_of_pos _ m0
    have C1 : Ev.Cg m X (D / g % m * X0) := by rw [← hX]; exact Ev.Cg.mod _ _
    have TM := Lib.hid (fun w' => times_any (D / g % m) X0 m X w' k0 k1 f2 f3 (by omega) X1 X2 C1)
    have SS := Ev.steps_of (s := s) (p := p) (s' := s') g0 hg g1 g2 hd dz hm X1 X2 ((C1.trans ((Ev.Cg.mod m (D / g)).mul X0)).trans (hx.mulL (D / g)))
    have MM : Hid (0 < m ∧ m ≤ 68719476736 ∧ 0 ≤ X ∧ X < m) := Lib.hid ⟨m0, by omega, X1, X2⟩
    obtain ⟨qd, hqd⟩ : ∃ qd, D / g = qd := ⟨_, rfl⟩
    rw [hqd] at TM e3 e4 w5
    clear hX0 hm gm m0 m1 f0 f1 f2 f3 hx Q0 Q1 k0 k1 hX X1 X2 C1 dz hd hg g0 g1 g2 x0 x1 hqd d2 d3
    go_upto_if 61 with fail
    go_cut [8] from 44 to 64 (fun dv wc => dv = .int .i64 X0 ∧ wE = wc)
    case first =>
      by_cases k : XT < 0
      · have k0 := dec_t k
        have k1 := W2.out k
        go_wp2_with fail
        go_meet
        case rel => exact ⟨rfl, rfl⟩
      · have k0 := dec_f k
        have NT := Lib.hid k
        go_wp2_with fail
        go_meet
        case rel => exact ⟨by rw [W3.out NT.out], rfl⟩
    case rest =>
    obtain ⟨rfl, rfl⟩ := hcut
    clear W2 W3 hXT
    go_wp2_with fail
    refine (TM.out _).mono ?_
    rintro e v7 ⟨rfl, rfl⟩
    obtain ⟨m0, m1, X1, X2⟩ := MM.out
    have F0 : 0 ≤ (253402300799 - s) / p := Int.ediv_nonneg (by omega) (by omega)
    have F1 : (253402300799 - s) / p ≤ 253402300799 - s := Int.ediv_le_self _ (by omega)
    have v1 : IntKind.i64.wrap (253402300799 - s) = 253402300799 - s := by rw [IntKind.wrap_i64]; omega
    have v2 : (253402300799 - s).tdiv p = (253402300799 - s) / p := quo_is (by omega)
    by_cases far : (253402300799 - s) / p < X
    · obtain ⟨rfl, rfl⟩ := hv.uniq (Ev.none_far h h' SS far)
      obtain ⟨K, hK⟩ : ∃ K, (253402300799 - s) / p = K := ⟨_, rfl⟩
      rw [hK] at v2 far F0 F1
      have y1 := dec_t far
      have y2 : IntKind.i64.wrap K = K := by rw [IntKind.wrap_i64]; omega
      clear hv h h' SS far hK
      go_wp2_with fail
      go_ret3
      exact ⟨rfl, EA.out.bel⟩
    · have tp := (Int.le_ediv_iff_mul_le (show 0 < p by omega)).1 (show X ≤ (253402300799 - s) / p by omega)
      have tn := Int.mul_nonneg X1 (show 0 ≤ p by omega)
      have C1 := Lib.hid (fun k => Ev.cand_one SS k)
      have C2 := Lib.hid (fun k => Ev.cand_two SS p0 k)
      have NW := Lib.hid (fun k l => Ev.none_wide h h' SS k l)
      obtain ⟨K, hK⟩ : ∃ K, (253402300799 - s) / p = K := ⟨_, rfl⟩
      rw [hK] at v2 far F0 F1
      have y1 := dec_f far
      have y2 : IntKind.i64.wrap K = K := by rw [IntKind.wrap_i64]; omega
      obtain ⟨M, hM⟩ : ∃ M, X * p = M := ⟨_, rfl⟩
      rw [hM] at tp tn
      have y3 : IntKind.i64.wrap M = M := by rw [IntKind.wrap_i64]; omega
      obtain ⟨t, ht⟩ : ∃ t, s + M = t := ⟨_, rfl⟩
      have y4 : IntKind.i64.wrap (s + M) = t := by rw [IntKind.wrap_i64]; omega
      have ht2 : s + X * p = t := by rw [hM]; exact ht
      rw [ht2] at C1 C2 NW
      have u0 : 0 ≤ t := by omega
      have u1 : t ≤ 253402300799 := by omega
      clear tp tn far F0 F1 hK SS
      by_cases le : s' ≤ t
      · have lt := dec_f (show ¬ t < s' by omega)
        have Q := C1.out le
        have hu := ht2
        clear C1 C2 NW ht
        have du : decide (253402300799 < t) = false := dec_f (by omega)
        by_cases o1 : Ev.On s p c t
        · have I1 := Lib.hid (fun w' => ris_any s p c t true 0 w' (.inr (.inr ⟨h, ⟨u0, u1⟩, rfl, by simpa using o1⟩)))
          by_cases o2 : Ev.On s' p' c' t
          · have I2 := Lib.hid (fun w' => ris_any s' p' c' t true 0 w' (.inr (.inr ⟨h', ⟨u0, u1⟩, rfl, by simpa using o2⟩)))
            have E := Ev.cand_yes h h' Q (by rw [hu]; exact o1) (by rw [hu]; exact o2)
            rw [hu] at E
            obtain ⟨E1, rfl⟩ := hv.uniq E
            have E1 := Lib.hid E1
            clear E hv o1 o2 u0 u1
            go_wp2_with fail

            refine (I1.out _).mono ?_
            rintro e v8 ⟨rfl, hb⟩
            have EA := Lib.hid (EA.out.next hb)
            have EB := Lib.hid (EB.out.next hb)
            clear hb
            have a0 := EA.out.c0
            have a1 := EA.out.c1
            have a2 := EA.out.c2
            have b0 := EB.out.c0
            have b1 := EB.out.c1
            have b2 := EB.out.c2
            go_wp2_with fail

            refine (I2.out _).mono ?_
            rintro e v9 ⟨rfl, hb⟩
            have EA := Lib.hid (EA.out.next hb)
            have EB := Lib.hid (EB.out.next hb)
            clear hb
            have a0 := EA.out.c0
            have a1 := EA.out.c1
            have a2 := EA.out.c2
            have b0 := EB.out.c0
            have b1 := EB.out.c1
            have b2 := EB.out.c2
            go_wp2_with fail
            go_ret3
            exact ⟨by rw [E1.out]; rfl, EA.out.bel⟩
          · have I2 := Lib.hid (fun w' => ris_any s' p' c' t false 0 w' (.inr (.inr ⟨h', ⟨u0, u1⟩, rfl, by simpa using o2⟩)))
            obtain ⟨rfl, rfl⟩ := hv.uniq (Ev.cand_no h h' Q (by rw [hu]; exact fun k => o2 k.2))
            clear hv o1 o2 u0 u1
            go_wp2_with fail

            refine (I1.out _).mono ?_
            rintro e v10 ⟨rfl, hb⟩
            have EA := Lib.hid (EA.out.next hb)
            have EB := Lib.hid (EB.out.next hb)
            clear hb
            have a0 := EA.out.c0
            have a1 := EA.out.c1
            have a2 := EA.out.c2
            have b0 := EB.out.c0
            have b1 := EB.out.c1
            have b2 := EB.out.c2
            go_wp2_with fail

            refine (I2.out _).mono ?_
            rintro e v11 ⟨rfl, hb⟩
            have EA := Lib.hid (EA.out.next hb)
            have EB := Lib.hid (EB.out.next hb)
            clear hb
            have a0 := EA.out.c0
            have a1 := EA.out.c1
            have a2 := EA.out.c2
            have b0 := EB.out.c0
            have b1 := EB.out.c1
            have b2 := EB.out.c2
            go_wp2_with fail
            go_ret3
            exact ⟨rfl, EA.out.bel⟩
        · have I1 := Lib.hid (fun w' => ris_any s p c t false 0 w' (.inr (.inr ⟨h, ⟨u0, u1⟩, rfl, by simpa using o1⟩)))
          have I2 : Hid (∃ b2, ∀ w', Calls Try.prog 15 #[.agg #[.int .i64 s', .int .i64 p', .int .i64 c'], .int .i64 t] w' fun e w'' => e = .returned (.tuple #[.bool b2, .int .i64 0]) ∧ Below w'.heap.size w' w'') := Lib.hid (by
            by_cases o2 : Ev.On s' p' c' t
            · exact ⟨true, fun w' => ris_any s' p' c' t true 0 w' (.inr (.inr ⟨h', ⟨u0, u1⟩, rfl, by simpa using o2⟩))⟩
            · exact ⟨false, fun w' => ris_any s' p' c' t false 0 w' (.inr (.inr ⟨h', ⟨u0, u1⟩, rfl, by simpa using o2⟩))⟩)
          obtain ⟨b3, I3⟩ := I2.out
          have I2 := Lib.hid I3
          obtain ⟨rfl, rfl⟩ := hv.uniq (Ev.cand_no h h' Q (by rw [hu]; exact fun k => o1 k.1))
          clear hv o1 u0 u1 I3
          go_wp2_with fail

          refine (I1.out _).mono ?_
          rintro e v12 ⟨rfl, hb⟩
          have EA := Lib.hid (EA.out.next hb)
          have EB := Lib.hid (EB.out.next hb)
          clear hb
          have a0 := EA.out.c0
          have a1 := EA.out.c1
          have a2 := EA.out.c2
          have b0 := EB.out.c0
          have b1 := EB.out.c1
          have b2 := EB.out.c2
          go_wp2_with fail

          refine (I2.out _).mono ?_
          rintro e v13 ⟨rfl, hb⟩
          have EA := Lib.hid (EA.out.next hb)
          have EB := Lib.hid (EB.out.next hb)
          clear hb
          have a0 := EA.out.c0
          have a1 := EA.out.c1
          have a2 := EA.out.c2
          have b0 := EB.out.c0
          have b1 := EB.out.c1
          have b2 := EB.out.c2
          go_wp2_with fail
          go_ret3
          exact ⟨rfl, EA.out.bel⟩
      · have lt := dec_t (show t < s' by omega)
        have KM0 : 0 ≤ 253402300799 / p := Int.ediv_nonneg (by omega) (by omega)
        have KM1 : 253402300799 / p ≤ 253402300799 := Int.ediv_le_self _ (by omega)
        have v4 : (253402300799 : Int).tdiv p = 253402300799 / p := quo_is (by omega)
        by_cases wide : 253402300799 / p < m
        · obtain ⟨rfl, rfl⟩ := hv.uniq (NW.out (by omega) wide)
          obtain ⟨KM, hKM⟩ : ∃ KM, 253402300799 / p = KM := ⟨_, rfl⟩
          rw [hKM] at v4 wide KM0 KM1
          have y5 := dec_t wide
          have y6 : IntKind.i64.wrap KM = KM := by rw [IntKind.wrap_i64]; omega
          clear hv h h' wide hKM C1 C2 NW ht
          go_wp2_with fail
          go_ret3
          exact ⟨rfl, EA.out.bel⟩
        · have lp := (Int.le_ediv_iff_mul_le (show 0 < p by omega)).1 (show m ≤ 253402300799 / p by omega)
          have l0 := Int.mul_pos m0 (show 0 < p by omega)
          have Q := C2.out (by omega)
          have at2 := Ev.at_round (s := s) (p := p) (m := m) (X := X) (k := Ev.rounds (s' - t) (m * p))
          rw [ht2] at at2
          obtain ⟨n, hn⟩ : ∃ n, X + m * Ev.rounds (s' - t) (m * p) = n := ⟨_, rfl⟩
          rw [hn] at Q at2
          obtain ⟨L, hL⟩ : ∃ L, m * p = L := ⟨_, rfl⟩
          rw [hL] at lp l0 at2
          have rq : Ev.rounds (s' - t) L = (s' - t + L - 1) / L := rfl
          have rr := Int.ediv_mul_le (s' - t + L - 1) (show L ≠ 0 by omega)
          have rn : 0 ≤ (s' - t + L - 1) / L := Int.ediv_nonneg (by omega) (by omega)
          have rs : (s' - t + L - 1) / L ≤ s' - t + L - 1 := Int.ediv_le_self _ (by omega)
          rw [rq] at at2
          have v5 : (s' - t + L - 1).tdiv L = (s' - t + L - 1) / L := quo_is (by omega)
          obtain ⟨KM, hKM⟩ : ∃ KM, 253402300799 / p = KM := ⟨_, rfl⟩
          rw [hKM] at v4 wide KM0 KM1
          have y5 := dec_f wide
          have y6 : IntKind.i64.wrap KM = KM := by rw [IntKind.wrap_i64]; omega
          have y7 : IntKind.i64.wrap L = L := by rw [IntKind.wrap_i64]; omega
          have x1 : IntKind.i64.wrap (s' - t) = s' - t := by rw [IntKind.wrap_i64]; omega
          have x2 : IntKind.i64.wrap (s' - t + L) = s' - t + L := by rw [IntKind.wrap_i64]; omega
          have x3 : IntKind.i64.wrap (s' - t + L - 1) = s' - t + L - 1 := by rw [IntKind.wrap_i64]; omega
          obtain ⟨R, hR⟩ : ∃ R, (s' - t + L - 1) / L = R := ⟨_, rfl⟩
          rw [hR] at at2 rr rn rs v5
          have x4 : IntKind.i64.wrap R = R := by rw [IntKind.wrap_i64]; omega
          have rp := Int.mul_nonneg rn (show 0 ≤ L by omega)
          obtain ⟨RL, hRL⟩ : ∃ RL, R * L = RL := ⟨_, rfl⟩
          rw [hRL] at at2 rr rp
          have x5 : IntKind.i64.wrap RL = RL := by rw [IntKind.wrap_i64]; omega
          obtain ⟨u, hu⟩ : ∃ u, s + n * p = u := ⟨_, rfl⟩
          have x6 : IntKind.i64.wrap (t + RL) = u := by rw [IntKind.wrap_i64]; omega
          have z9 : (L == 0) = false := by simp; omega
          have za : ¬ L = 0 := by omega
          have w0 : 0 ≤ u := by omega
          clear at2 rr rp rn rs rq hR hn hKM wide lp l0 C1 C2 NW ht KM0 KM1 le
          by_cases end_ : 253402300799 < u
          · have du := dec_t end_
            obtain ⟨rfl, rfl⟩ := hv.uniq (Ev.cand_no h h' Q (fun k => by rw [hu] at k; have := (Ev.on_time h k.1).2.1; omega))
            clear hv h h' Q hu end_
            go_wp2_with fail
            go_ret3
            exact ⟨rfl, EA.out.bel⟩
          · have u0 := w0
            have u1 : u ≤ 253402300799 := by omega
            clear end_ w0
            have du : decide (253402300799 < u) = false := dec_f (by omega)
            by_cases o1 : Ev.On s p c u
            · have I1 := Lib.hid (fun w' => ris_any s p c u true 0 w' (.inr (.inr ⟨h, ⟨u0, u1⟩, rfl, by simpa using o1⟩)))
              by_cases o2 : Ev.On s' p' c' u
              · have I2 := Lib.hid (fun w' => ris_any s' p' c' u true 0 w' (.inr (.inr ⟨h', ⟨u0, u1⟩, rfl, by simpa using o2⟩)))
                have E := Ev.cand_yes h h' Q (by rw [hu]; exact o1) (by rw [hu]; exact o2)
                rw [hu] at E
                obtain ⟨E1, rfl⟩ := hv.uniq E
                have E1 := Lib.hid E1
                clear E hv o1 o2 u0 u1
                go_wp2_with fail

                refine (I1.out _).mono ?_
                rintro e v14 ⟨rfl, hb⟩
                have EA := Lib.hid (EA.out.next hb)
                have EB := Lib.hid (EB.out.next hb)
                clear hb
                have a0 := EA.out.c0
                have a1 := EA.out.c1
                have a2 := EA.out.c2
                have b0 := EB.out.c0
                have b1 := EB.out.c1
                have b2 := EB.out.c2
                go_wp2_with fail

                refine (I2.out _).mono ?_
                rintro e v15 ⟨rfl, hb⟩
                have EA := Lib.hid (EA.out.next hb)
                have EB := Lib.hid (EB.out.next hb)
                clear hb
                have a0 := EA.out.c0
                have a1 := EA.out.c1
                have a2 := EA.out.c2
                have b0 := EB.out.c0
                have b1 := EB.out.c1
                have b2 := EB.out.c2
                go_wp2_with fail
                go_ret3
                exact ⟨by rw [E1.out]; rfl, EA.out.bel⟩
              · have I2 := Lib.hid (fun w' => ris_any s' p' c' u false 0 w' (.inr (.inr ⟨h', ⟨u0, u1⟩, rfl, by simpa using o2⟩)))
                obtain ⟨rfl, rfl⟩ := hv.uniq (Ev.cand_no h h' Q (by rw [hu]; exact fun k => o2 k.2))
                clear hv o1 o2 u0 u1
                go_wp2_with fail

                refine (I1.out _).mono ?_
                rintro e v16 ⟨rfl, hb⟩
                have EA := Lib.hid (EA.out.next hb)
                have EB := Lib.hid (EB.out.next hb)
                clear hb
                have a0 := EA.out.c0
                have a1 := EA.out.c1
                have a2 := EA.out.c2
                have b0 := EB.out.c0
                have b1 := EB.out.c1
                have b2 := EB.out.c2
                go_wp2_with fail

                refine (I2.out _).mono ?_
                rintro e v17 ⟨rfl, hb⟩
                have EA := Lib.hid (EA.out.next hb)
                have EB := Lib.hid (EB.out.next hb)
                clear hb
                have a0 := EA.out.c0
                have a1 := EA.out.c1
                have a2 := EA.out.c2
                have b0 := EB.out.c0
                have b1 := EB.out.c1
                have b2 := EB.out.c2
                go_wp2_with fail
                go_ret3
                exact ⟨rfl, EA.out.bel⟩
            · have I1 := Lib.hid (fun w' => ris_any s p c u false 0 w' (.inr (.inr ⟨h, ⟨u0, u1⟩, rfl, by simpa using o1⟩)))
              have I2 : Hid (∃ b2, ∀ w', Calls Try.prog 15 #[.agg #[.int .i64 s', .int .i64 p', .int .i64 c'], .int .i64 u] w' fun e w'' => e = .returned (.tuple #[.bool b2, .int .i64 0]) ∧ Below w'.heap.size w' w'') := Lib.hid (by
                by_cases o2 : Ev.On s' p' c' u
                · exact ⟨true, fun w' => ris_any s' p' c' u true 0 w' (.inr (.inr ⟨h', ⟨u0, u1⟩, rfl, by simpa using o2⟩))⟩
                · exact ⟨false, fun w' => ris_any s' p' c' u false 0 w' (.inr (.inr ⟨h', ⟨u0, u1⟩, rfl, by simpa using o2⟩))⟩)
              obtain ⟨b3, I3⟩ := I2.out
              have I2 := Lib.hid I3
              obtain ⟨rfl, rfl⟩ := hv.uniq (Ev.cand_no h h' Q (by rw [hu]; exact fun k => o1 k.1))
              clear hv o1 u0 u1 I3
              go_wp2_with fail

              refine (I1.out _).mono ?_
              rintro e v18 ⟨rfl, hb⟩
              have EA := Lib.hid (EA.out.next hb)
              have EB := Lib.hid (EB.out.next hb)
              clear hb
              have a0 := EA.out.c0
              have a1 := EA.out.c1
              have a2 := EA.out.c2
              have b0 := EB.out.c0
              have b1 := EB.out.c1
              have b2 := EB.out.c2
              go_wp2_with fail

              refine (I2.out _).mono ?_
              rintro e v19 ⟨rfl, hb⟩
              have EA := Lib.hid (EA.out.next hb)
              have EB := Lib.hid (EB.out.next hb)
              clear hb
              have a0 := EA.out.c0
              have a1 := EA.out.c1
              have a2 := EA.out.c2
              have b0 := EB.out.c0
              have b1 := EB.out.c1
              have b2 := EB.out.c2
              go_wp2_with fail
              go_ret3
              exact ⟨rfl, EA.out.bel⟩
  · have t0 : (D % g == 0) = false := by simpa using dz
    obtain ⟨rfl, rfl⟩ := hv.uniq (Ev.no_steps_of h h' g1 g2 hd dz)
    clear hv h h' dz hd hg g0 g1 g2 x0 x1
    go_wp2_with fail
    go_ret3
    exact ⟨rfl, EA.out.bel⟩
end Go.Proofs.Ytnajpgkahnjabaa
