/- Contract of package every's steps: the smallest multiple of a step that leaves a given rest. -/
import Derived.Test.YtnajpgkahnjabaaEveF
import Derived.Test.YtnajpgkahnjabaaEveSt
namespace Go.Proofs.Ytnajpgkahnjabaa
open Go.ChangeShapes Go.RowKit

theorem drewN_below {w w' : World} (h : ∃ m, w' = w.drewN m) : Below w.heap.size w w' := by
  obtain ⟨m, rfl⟩ := h
  exact below_drewN (Below.refl _ _) m
def DivOut (e : Ending) (w w' : World) (Q : Int) : Prop := ∃ r : Int, e = .returned (.tuple #[.int .u64 Q, .int .u64 r]) ∧ Below w.heap.size w w'
theorem div_any (hi lo y Q : Int) (w : World) (h0 : 0 ≤ hi) (hy : hi < y) (yl : y ≤ 68719476736) (l0 : 0 ≤ lo) (hl : lo < 18446744073709551616) (hQ : (hi * 18446744073709551616 + lo) / y = Q) :
    Calls Try.prog 49 #[.int .u64 hi, .int .u64 lo, .int .u64 y] w fun e w' => DivOut e w w' Q := by
  obtain ⟨a, rfl⟩ := Int.eq_ofNat_of_zero_le h0
  obtain ⟨b, rfl⟩ := Int.eq_ofNat_of_zero_le l0
  obtain ⟨c, rfl⟩ := Int.eq_ofNat_of_zero_le (show 0 ≤ y by omega)
  have eq : Q = (((a * 18446744073709551616 + b) / c : Nat) : Int) := by rw [← hQ]; simp
  by_cases z : a = 0
  · subst z
    refine (div_low b c w (by omega) (by omega)).mono fun e w' ⟨r, h1, h2⟩ => ⟨r, ?_, drewN_below h2⟩
    rw [h1, eq, Nat.zero_mul, Nat.zero_add]
  · refine (div_high a b c _ w (by omega) (by omega) (by omega) (by omega) rfl).mono fun e w' ⟨r, h1, h2⟩ => ⟨r, ?_, by subst h2; exact Below.refl _ _⟩
    rw [h1, eq]
theorem mul_any (x y : Int) (w : World) (x0 : 0 ≤ x) (x1 : x < 18446744073709551616) (y0 : 0 ≤ y) (y1 : y < 18446744073709551616) :
    Calls Try.prog 47 #[.int .u64 x, .int .u64 y] w fun e w' => e = .returned (.tuple #[.int .u64 (x * y / 18446744073709551616), .int .u64 (x * y % 18446744073709551616)]) ∧ w = w' := by
  obtain ⟨a, rfl⟩ := Int.eq_ofNat_of_zero_le x0
  obtain ⟨b, rfl⟩ := Int.eq_ofNat_of_zero_le y0
  refine (Try.bits_Mul64 a b (by omega) (by omega) w).mono fun e w' ⟨h1, h2⟩ => ⟨?_, h2.symm⟩
  rw [h1]
  simp

set_option maxRecDepth 100000 in
set_option maxHeartbeats 4000000 in
theorem steps_any : ∀ (d : Nat) (p r m n : Int) (b : Bool) (w : World), m ≤ d → 0 < m → m ≤ 68719476736 → 0 ≤ p → p < 18446744073709551616 → 0 ≤ r → r < 18446744073709551616 → Ev.IsSt p r m n b →
    Calls Try.prog 44 #[.int .u64 p, .int .u64 r, .int .u64 m] w fun e w' => e = .returned (.tuple #[.int .u64 n, .bool b]) ∧ Below w.heap.size w w' := by
  intro d
  induction d with
  | zero => intro p r m n b w h0 h1; omega
  | succ d ih =>
    intro p r m n b w hd m0 m1 p0 p9 r0 r9 h
    have IH := Lib.hid ih
    clear ih
    rw [Ev.st_red] at h
    have q0 := Int.emod_nonneg p (show m ≠ 0 by omega)
    have q1 := Int.emod_lt_of_pos p m0
    have s0 := Int.emod_nonneg r (show m ≠ 0 by omega)
    have s1 := Int.emod_lt_of_pos r m0
    obtain ⟨P, hP⟩ : ∃ P, p % m = P := ⟨_, rfl⟩
    obtain ⟨R, hR⟩ : ∃ R, r % m = R := ⟨_, rfl⟩
    rw [hP] at q0 q1 h
    rw [hR] at s0 s1 h
    have z0 : (m == 0) = false := by simp; omega
    have z1 : ¬ m = 0 := by omega
    have e1 : p.tmod m = P := by rw [rem_is p0, hP]
    have e2 : r.tmod m = R := by rw [rem_is r0, hR]
    by_cases zr : R = 0
    · subst zr
      obtain ⟨rfl, rfl⟩ := h.uniq (Ev.st_zero m0)
      clear h IH
      go_enter Try.func44, Try.ntmps44
      go_wp2_with fail
      go_quiet (fail)
      go_wp2_with fail
      go_ret2
      exact ⟨rfl, below_drewN (Below.refl _ _) _⟩
    have y0 : (R == 0) = false := by simpa using zr
    by_cases zp : P = 0
    · subst zp
      obtain ⟨rfl, rfl⟩ := h.uniq (Ev.st_none (by omega) s1)
      clear h IH
      go_enter Try.func44, Try.ntmps44
      go_wp2_with fail
      go_quiet (fail)
      go_wp2_with fail
      go_ret2
      exact ⟨rfl, below_drewN (Below.refl _ _) _⟩
    have y1 : (P == 0) = false := by simpa using zp
    obtain ⟨T, hT⟩ : ∃ T, R % P = T := ⟨_, rfl⟩
    have T0 : 0 ≤ T := by rw [← hT]; exact Int.emod_nonneg _ zp
    have T1 : T < P := by rw [← hT]; exact Int.emod_lt_of_pos _ (by omega)
    obtain ⟨i, c, hi⟩ := Ev.st_ex P.toNat P (by omega) (by omega) m (P - R % P)
    have x1 : IntKind.u64.wrap (P - T) = P - T := by rw [IntKind.wrap_u64]; omega
    have RC := Lib.hid (fun w' => IH.out m (P - R % P) P i c w' (by omega) (by omega) (by omega) (by omega) (by omega) (by omega) (by omega) hi)
    rw [hT] at RC
    cases c with
    | false =>
      obtain ⟨rfl, rfl⟩ := h.uniq (Ev.st_no (by omega) (by omega) s1 hi)
      have i0 : i = 0 := by
        rcases hi with ⟨e, _⟩ | ⟨_, e, _⟩
        · simp at e
        · exact e
      subst i0
      clear h hi IH
      go_enter Try.func44, Try.ntmps44
      go_wp2_with fail
      go_quiet (fail)
      go_wp2_with fail
      refine (RC.out _).mono ?_
      rintro e w1 ⟨rfl, hb⟩
      have B := Lib.hid ((below_drewN (Below.refl w.heap.size w) _).trans (hb.mono (by simp)))
      clear hb
      go_wp2_with fail
      go_ret2
      exact ⟨rfl, B.out⟩
    | true =>
      obtain ⟨N, eN, dN, i0, i1, sN⟩ := Ev.st_yes (by omega) q1 (by omega) s1 hi
      obtain ⟨rfl, rfl⟩ := h.uniq sN
      have MU := Lib.hid (fun w' => mul_any i m w' i0 (by omega) (by omega) (by omega))
      have G0 := Int.mul_nonneg i0 (show 0 ≤ m by omega)
      have G1 := Int.mul_le_mul_of_nonneg_right (show i ≤ P - 1 by omega) (show 0 ≤ m by omega)
      have G2 : (P - 1) * m + m = P * m := by rw [Int.sub_mul]; omega
      have G3 := Int.mul_le_mul_of_nonneg_left m1 (show 0 ≤ P by omega)
      obtain ⟨G, hG⟩ : ∃ G, i * m = G := ⟨_, rfl⟩
      rw [hG] at MU G0 G1 dN
      have G9 : G + R < P * 68719476736 := by omega
      have DV := Lib.hid (fun hi lo w' (a : 0 ≤ hi) (b : hi < P) (c : 0 ≤ lo) (d : lo < 18446744073709551616) (e : hi * 18446744073709551616 + lo = G + R) => div_any hi lo P n w' a b (by omega) c d (by rw [e]; exact dN))
      obtain ⟨H, hH⟩ : ∃ H, G / 18446744073709551616 = H := ⟨_, rfl⟩
      obtain ⟨L, hL⟩ : ∃ L, G % 18446744073709551616 = L := ⟨_, rfl⟩
      rw [hH, hL] at MU
      have AD := fun w' => add64_0 L R (by omega) (by omega) w'
      obtain ⟨L2, hL2⟩ : ∃ L2, (L + R) % 18446744073709551616 = L2 := ⟨_, rfl⟩
      obtain ⟨C, hC⟩ : ∃ C, (L + R) / 18446744073709551616 = C := ⟨_, rfl⟩
      rw [hL2, hC] at AD
      have x2 : IntKind.u64.wrap (H + C) = H + C := by rw [IntKind.wrap_u64]; omega
      have DV := Lib.hid (fun w' => DV.out (H + C) L2 w' (by omega) (by omega) (by omega) (by omega) (by omega))
      clear h hi sN hG G0 G1 G2 G3 G9 hH hL hL2 hC dN eN IH
      go_enter Try.func44, Try.ntmps44
      go_wp2_with fail
      go_quiet (fail)
      go_wp2_with fail
      refine (RC.out _).mono ?_
      rintro e w1 ⟨rfl, hb⟩
      have B := Lib.hid ((below_drewN (Below.refl w.heap.size w) _).trans (hb.mono (by simp)))
      clear hb
      go_wp2_with fail
      refine (MU.out _).mono ?_
      rintro e w2 ⟨rfl, rfl⟩
      go_wp2_with fail
      refine (DV.out _).mono ?_
      rintro e w2 ⟨r2, rfl, hb⟩
      have B := Lib.hid (B.out.trans (hb.mono B.out.size))
      clear hb
      go_wp2_with fail
      go_ret2
      exact ⟨rfl, B.out⟩
end Go.Proofs.Ytnajpgkahnjabaa
