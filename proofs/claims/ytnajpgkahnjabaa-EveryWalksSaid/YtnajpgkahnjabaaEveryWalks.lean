/- For any six numbers EveryWalks returns true: of two schedules with short periods the first shared time is found by a walk from one time to the next one. No conditions. -/
import Derived.Test.YtnajpgkahnjabaaRows
import Derived.Test.YtnajpgkahnjabaaEveArg
import Derived.OpenShut
import Derived.ChangeOld
namespace Go.Proofs.Ytnajpgkahnjabaa.everyWalks
open Go.ChangeShapes Go.WideShapes Go.ChangeAt Go.RowKit

theorem bd16 {n : Int} (h : (Lit.int .u16 n).wf = true) : 0 ≤ n ∧ n ≤ 65535 := by
  simpa [Lit.wf, show IntKind.u16.min = 0 from rfl, show IntKind.u16.max = 65535 from rfl] using h

set_option maxRecDepth 100000 in
set_option maxHeartbeats 8000000 in
theorem walk (a b c e n m : Int) (w : World) (h0 : (Lit.int .u16 a).wf = true) (h1 : (Lit.int .u16 b).wf = true) (h2 : (Lit.int .u16 c).wf = true) (h3 : (Lit.int .u16 e).wf = true) (h4 : (Lit.int .u16 n).wf = true) (h5 : (Lit.int .u16 m).wf = true) :
    Calls Try.prog 12 #[.int .u16 a, .int .u16 b, .int .u16 c, .int .u16 e, .int .u16 n, .int .u16 m] w fun e w' => e = .returned (.bool true) ∧ Below w.heap.size w w' := by
  have WK := Lib.hid works_any
  have BA := bd16 h0
  obtain ⟨A, hA⟩ : ∃ v, a % 301 = v := ⟨_, rfl⟩
  have xA0 : 0 ≤ A := by omega
  have xA1 : A < 301 := by omega
  have tA : a.tmod 301 = A := by rw [rem_is BA.1, hA]
  have wA : IntKind.i64.wrap A = A := by rw [IntKind.wrap_i64]; omega
  have BP := bd16 h1
  obtain ⟨P, hP⟩ : ∃ v, b % 40 = v := ⟨_, rfl⟩
  have xP0 : 0 ≤ P := by omega
  have xP1 : P < 40 := by omega
  have tP : b.tmod 40 = P := by rw [rem_is BP.1, hP]
  have wP : IntKind.i64.wrap P = P := by rw [IntKind.wrap_i64]; omega
  have BC := bd16 h2
  obtain ⟨C, hC⟩ : ∃ v, c % 301 = v := ⟨_, rfl⟩
  have xC0 : 0 ≤ C := by omega
  have xC1 : C < 301 := by omega
  have tC : c.tmod 301 = C := by rw [rem_is BC.1, hC]
  have wC : IntKind.i64.wrap C = C := by rw [IntKind.wrap_i64]; omega
  have BQ := bd16 h3
  obtain ⟨Q, hQ⟩ : ∃ v, e % 40 = v := ⟨_, rfl⟩
  have xQ0 : 0 ≤ Q := by omega
  have xQ1 : Q < 40 := by omega
  have tQ : e.tmod 40 = Q := by rw [rem_is BQ.1, hQ]
  have wQ : IntKind.i64.wrap Q = Q := by rw [IntKind.wrap_i64]; omega
  have BN := bd16 h4
  obtain ⟨N, hN⟩ : ∃ v, n % 61 = v := ⟨_, rfl⟩
  have xN0 : 0 ≤ N := by omega
  have xN1 : N < 61 := by omega
  have tN : n.tmod 61 = N := by rw [rem_is BN.1, hN]
  have wN : IntKind.i64.wrap N = N := by rw [IntKind.wrap_i64]; omega
  have BM := bd16 h5
  obtain ⟨M, hM⟩ : ∃ v, m % 61 = v := ⟨_, rfl⟩
  have xM0 : 0 ≤ M := by omega
  have xM1 : M < 61 := by omega
  have tM : m.tmod 61 = M := by rw [rem_is BM.1, hM]
  have wM : IntKind.i64.wrap M = M := by rw [IntKind.wrap_i64]; omega
  have wP2 : IntKind.i64.wrap (1 + P) = 1 + P := by rw [IntKind.wrap_i64]; omega
  have wQ2 : IntKind.i64.wrap (1 + Q) = 1 + Q := by rw [IntKind.wrap_i64]; omega
  have h : Ev.Ok A (1 + P) N := ⟨by omega, by omega, by omega, by omega, by omega, by omega⟩
  have h' : Ev.Ok C (1 + Q) M := ⟨by omega, by omega, by omega, by omega, by omega, by omega⟩
  obtain ⟨v, ok, hv⟩ := Ev.meet_ex h h'
  have C1 := Lib.hid (fun w' => meet_yes A (1 + P) N C (1 + Q) M v ok w' h h' hv)
  have A1 := Lib.hid (fun u (ku : Vt u) (b : Bool) (hb : b = true ↔ Ev.On A (1 + P) N u) w' => is_any A (1 + P) N u b 0 w' (.inr (.inr ⟨h, ku, rfl, hb⟩)))
  have A2 := Lib.hid (fun u (ku : Vt u) (b : Bool) (hb : b = true ↔ Ev.On C (1 + Q) M u) w' => is_any C (1 + Q) M u b 0 w' (.inr (.inr ⟨h', ku, rfl, hb⟩)))
  have HV := Lib.hid hv
  have NE := Lib.hid (fun (q : Ev.IsMeet A (1 + P) N C (1 + Q) M v true) => Ev.meet_near h h' q)
  have R0 := Int.mul_nonneg (show 0 ≤ 1 + P by omega) (show 0 ≤ 1 + Q by omega)
  have R1 := Int.mul_le_mul (show 1 + P ≤ 40 by omega) (show 1 + Q ≤ 40 by omega) (by omega) (by omega)
  obtain ⟨R, hR⟩ : ∃ R, (1 + P) * (1 + Q) = R := ⟨_, rfl⟩
  rw [hR] at NE R0 R1
  have wR : IntKind.i64.wrap R = R := by rw [IntKind.wrap_i64]; omega
  clear hv h h' h0 h1 h2 h3 h4 h5 BA BP BC BQ BN BM hA hP hC hQ hN hM
  have SN : Hid (0 ≤ A) := Lib.hid xA0
  by_cases le : A ≤ C
  · have mx : max A C = C := by omega
    have l1 : ¬ C < A := by omega
    obtain ⟨Z, hZ⟩ : ∃ Z, C + R = Z := ⟨_, rfl⟩
    have wZ : IntKind.i64.wrap (C + R) = Z := by rw [IntKind.wrap_i64]; omega
    have ZZ : Hid (0 ≤ Z ∧ Z ≤ 2000) := Lib.hid (by omega)
    have NZ : Hid (Ev.IsMeet A (1 + P) N C (1 + Q) M v true → v ≤ Z) := Lib.hid (fun q => by have := NE.out q; omega)
    clear hZ NE xA0 xA1 xC0 xC1 R0 R1 xN0 xN1 xM0 xM1 xP0 xP1 xQ0 xQ1
    go_enter Try.func12, Try.ntmps12
    go_wp2_with fail
    have EA := Lib.hid ((Ex.start w A (1 + P) N).alloc (.cells #[.int .i64 C, .int .i64 (1 + Q), .int .i64 M] 23))
    have EB := Lib.hid (Ex.second w A (1 + P) N C (1 + Q) M)
    refine (C1.out _).mono ?_
    rintro e v1 ⟨rfl, hb⟩
    have EA := Lib.hid (EA.out.next hb)
    have EB := Lib.hid (EB.out.next hb)
    clear hb
    have ea0 := EA.out.c0
    have ea1 := EA.out.c1
    have ea2 := EA.out.c2
    have eb0 := EB.out.c0
    have eb1 := EB.out.c1
    have eb2 := EB.out.c2
    go_wp2_with fail
    go_loopw [19] (fun iv W => ∃ i : Int, iv = .int .i64 i ∧ Hid (0 ≤ i ∧ i ≤ Z + 1) ∧ Hid (∀ u, Ev.On A (1 + P) N u → Ev.On C (1 + Q) M u → i ≤ u) ∧ Hid (Ex w w.heap.size A (1 + P) N W ∧ Ex w (w.heap.size + 1) C (1 + Q) M W)) (fun iv _ => (Z + 1 - intOf iv).toNat)
    case atStart => exact ⟨0, rfl, Lib.hid ⟨by omega, by have := ZZ.out; omega⟩, Lib.hid (fun u o _ => by have := o.1; have := SN.out; omega), Lib.hid ⟨EA.out, EB.out⟩⟩
    case round =>
      clear EA EB ea0 ea1 ea2 eb0 eb1 eb2
      obtain ⟨i, rfl, I, NB, EE⟩ := hrel
      have EA := Lib.hid EE.out.1
      have EB := Lib.hid EE.out.2
      clear EE
      have ea0 := EA.out.c0
      have ea1 := EA.out.c1
      have ea2 := EA.out.c2
      have eb0 := EB.out.c0
      have eb1 := EB.out.c1
      have eb2 := EB.out.c2
      by_cases lt : i ≤ Z
      · have d0 := dec_t lt
        have vi : Vt i := ⟨I.out.1, by have := ZZ.out; omega⟩
        have wi : IntKind.i64.wrap (i + 1) = i + 1 := by have := I.out; have := ZZ.out; rw [IntKind.wrap_i64]; omega
        have NI : Hid (0 ≤ i + 1 ∧ i + 1 ≤ Z + 1 ∧ i < i + 1) := Lib.hid (by have := I.out; omega)
        by_cases o1 : Ev.On A (1 + P) N i
        · have C2 := Lib.hid (A1.out i vi true (by simpa using o1))
          by_cases o2 : Ev.On C (1 + Q) M i
          · have C3 := Lib.hid (A2.out i vi true (by simpa using o2))
            obtain ⟨E1, E2⟩ := HV.out.uniq (.inl ⟨rfl, o1, o2, fun u a b => NB.out u a b⟩)
            subst E1
            subst E2
            clear o1 o2 lt vi wi
            go_wp2_with fail
            refine (C2.out _).mono ?_
            rintro e v1 ⟨rfl, hb⟩
            have EA := Lib.hid (EA.out.next hb)
            have EB := Lib.hid (EB.out.next hb)
            clear hb
            have ea0 := EA.out.c0
            have ea1 := EA.out.c1
            have ea2 := EA.out.c2
            have eb0 := EB.out.c0
            have eb1 := EB.out.c1
            have eb2 := EB.out.c2
            go_wp2_with fail
            refine (C3.out _).mono ?_
            rintro e v2 ⟨rfl, hb⟩
            have EA := Lib.hid (EA.out.next hb)
            have EB := Lib.hid (EB.out.next hb)
            clear hb
            have ea0 := EA.out.c0
            have ea1 := EA.out.c1
            have ea2 := EA.out.c2
            have eb0 := EB.out.c0
            have eb1 := EB.out.c1
            have eb2 := EB.out.c2
            go_wp2_with fail
            refine (WK.out _).mono ?_
            rintro e v3 ⟨rfl, hb⟩
            have EA := Lib.hid (EA.out.next hb)
            have EB := Lib.hid (EB.out.next hb)
            clear hb
            have ea0 := EA.out.c0
            have ea1 := EA.out.c1
            have ea2 := EA.out.c2
            have eb0 := EB.out.c0
            have eb1 := EB.out.c1
            have eb2 := EB.out.c2
            go_wp2_with fail
            go_ret
            exact ⟨rfl, EA.out.bel⟩
          · have C3 := Lib.hid (A2.out i vi false (by simpa using o2))
            have NB2 : Hid (∀ u, Ev.On A (1 + P) N u → Ev.On C (1 + Q) M u → i + 1 ≤ u) := Lib.hid (fun u o o' => by
              have := NB.out u o o'
              by_cases e : u = i
              · subst e; exact absurd o' o2
              · omega)

            clear o1 o2 lt vi
            go_wp2_with fail
            refine (C2.out _).mono ?_
            rintro e v1 ⟨rfl, hb⟩
            have EA := Lib.hid (EA.out.next hb)
            have EB := Lib.hid (EB.out.next hb)
            clear hb
            have ea0 := EA.out.c0
            have ea1 := EA.out.c1
            have ea2 := EA.out.c2
            have eb0 := EB.out.c0
            have eb1 := EB.out.c1
            have eb2 := EB.out.c2
            go_wp2_with fail
            refine (C3.out _).mono ?_
            rintro e v2 ⟨rfl, hb⟩
            have EA := Lib.hid (EA.out.next hb)
            have EB := Lib.hid (EB.out.next hb)
            clear hb
            have ea0 := EA.out.c0
            have ea1 := EA.out.c1
            have ea2 := EA.out.c2
            have eb0 := EB.out.c0
            have eb1 := EB.out.c1
            have eb2 := EB.out.c2
            go_wp2_with fail
            go_round
            case rel => exact ⟨i + 1, rfl, Lib.hid ⟨NI.out.1, NI.out.2.1⟩, NB2, Lib.hid ⟨EA.out, EB.out⟩⟩
            case measure => have := NI.out; simp [intOf]; omega
        · have C2 := Lib.hid (A1.out i vi false (by simpa using o1))
          obtain ⟨b2, hb2⟩ : ∃ b2 : Bool, (b2 = true ↔ Ev.On C (1 + Q) M i) := by
            classical
            exact ⟨decide (Ev.On C (1 + Q) M i), by simp⟩
          have C3 := Lib.hid (A2.out i vi b2 hb2)
          have NB2 : Hid (∀ u, Ev.On A (1 + P) N u → Ev.On C (1 + Q) M u → i + 1 ≤ u) := Lib.hid (fun u o o' => by
            have := NB.out u o o'
            by_cases e : u = i
            · subst e; exact absurd o o1
            · omega)

          clear o1 hb2 lt vi
          go_wp2_with fail
          refine (C2.out _).mono ?_
          rintro e v1 ⟨rfl, hb⟩
          have EA := Lib.hid (EA.out.next hb)
          have EB := Lib.hid (EB.out.next hb)
          clear hb
          have ea0 := EA.out.c0
          have ea1 := EA.out.c1
          have ea2 := EA.out.c2
          have eb0 := EB.out.c0
          have eb1 := EB.out.c1
          have eb2 := EB.out.c2
          go_wp2_with fail
          refine (C3.out _).mono ?_
          rintro e v2 ⟨rfl, hb⟩
          have EA := Lib.hid (EA.out.next hb)
          have EB := Lib.hid (EB.out.next hb)
          clear hb
          have ea0 := EA.out.c0
          have ea1 := EA.out.c1
          have ea2 := EA.out.c2
          have eb0 := EB.out.c0
          have eb1 := EB.out.c1
          have eb2 := EB.out.c2
          go_wp2_with fail
          go_round
          case rel => exact ⟨i + 1, rfl, Lib.hid ⟨NI.out.1, NI.out.2.1⟩, NB2, Lib.hid ⟨EA.out, EB.out⟩⟩
          case measure => have := NI.out; simp [intOf]; omega
      · have d0 := dec_f lt
        have no : ok = false := by
          cases ok with
          | false => rfl
          | true =>
            have a1 := NZ.out HV.out
            rcases HV.out with ⟨_, o1, o2, _⟩ | ⟨e, _⟩
            · have := NB.out v o1 o2; omega
            · simp at e
        subst no
        clear lt
        go_wp2_with fail
        refine (WK.out _).mono ?_
        rintro e v21 ⟨rfl, hb⟩
        have EA := Lib.hid (EA.out.next hb)
        have EB := Lib.hid (EB.out.next hb)
        clear hb
        have ea0 := EA.out.c0
        have ea1 := EA.out.c1
        have ea2 := EA.out.c2
        have eb0 := EB.out.c0
        have eb1 := EB.out.c1
        have eb2 := EB.out.c2
        go_wp2_with fail
        go_ret
        exact ⟨rfl, EA.out.bel⟩
  · have mx : max A C = A := by omega
    have l1 : C < A := by omega
    obtain ⟨Z, hZ⟩ : ∃ Z, A + R = Z := ⟨_, rfl⟩
    have wZ : IntKind.i64.wrap (A + R) = Z := by rw [IntKind.wrap_i64]; omega
    have ZZ : Hid (0 ≤ Z ∧ Z ≤ 2000) := Lib.hid (by omega)
    have NZ : Hid (Ev.IsMeet A (1 + P) N C (1 + Q) M v true → v ≤ Z) := Lib.hid (fun q => by have := NE.out q; omega)
    clear hZ NE xA0 xA1 xC0 xC1 R0 R1 xN0 xN1 xM0 xM1 xP0 xP1 xQ0 xQ1
    go_enter Try.func12, Try.ntmps12
    go_wp2_with fail
    have EA := Lib.hid ((Ex.start w A (1 + P) N).alloc (.cells #[.int .i64 C, .int .i64 (1 + Q), .int .i64 M] 23))
    have EB := Lib.hid (Ex.second w A (1 + P) N C (1 + Q) M)
    refine (C1.out _).mono ?_
    rintro e v1 ⟨rfl, hb⟩
    have EA := Lib.hid (EA.out.next hb)
    have EB := Lib.hid (EB.out.next hb)
    clear hb
    have ea0 := EA.out.c0
    have ea1 := EA.out.c1
    have ea2 := EA.out.c2
    have eb0 := EB.out.c0
    have eb1 := EB.out.c1
    have eb2 := EB.out.c2
    go_wp2_with fail
    go_loopw [19] (fun iv W => ∃ i : Int, iv = .int .i64 i ∧ Hid (0 ≤ i ∧ i ≤ Z + 1) ∧ Hid (∀ u, Ev.On A (1 + P) N u → Ev.On C (1 + Q) M u → i ≤ u) ∧ Hid (Ex w w.heap.size A (1 + P) N W ∧ Ex w (w.heap.size + 1) C (1 + Q) M W)) (fun iv _ => (Z + 1 - intOf iv).toNat)
    case atStart => exact ⟨0, rfl, Lib.hid ⟨by omega, by have := ZZ.out; omega⟩, Lib.hid (fun u o _ => by have := o.1; have := SN.out; omega), Lib.hid ⟨EA.out, EB.out⟩⟩
    case round =>
      clear EA EB ea0 ea1 ea2 eb0 eb1 eb2
      obtain ⟨i, rfl, I, NB, EE⟩ := hrel
      have EA := Lib.hid EE.out.1
      have EB := Lib.hid EE.out.2
      clear EE
      have ea0 := EA.out.c0
      have ea1 := EA.out.c1
      have ea2 := EA.out.c2
      have eb0 := EB.out.c0
      have eb1 := EB.out.c1
      have eb2 := EB.out.c2
      by_cases lt : i ≤ Z
      · have d0 := dec_t lt
        have vi : Vt i := ⟨I.out.1, by have := ZZ.out; omega⟩
        have wi : IntKind.i64.wrap (i + 1) = i + 1 := by have := I.out; have := ZZ.out; rw [IntKind.wrap_i64]; omega
        have NI : Hid (0 ≤ i + 1 ∧ i + 1 ≤ Z + 1 ∧ i < i + 1) := Lib.hid (by have := I.out; omega)
        by_cases o1 : Ev.On A (1 + P) N i
        · have C2 := Lib.hid (A1.out i vi true (by simpa using o1))
          by_cases o2 : Ev.On C (1 + Q) M i
          · have C3 := Lib.hid (A2.out i vi true (by simpa using o2))
            obtain ⟨E1, E2⟩ := HV.out.uniq (.inl ⟨rfl, o1, o2, fun u a b => NB.out u a b⟩)
            subst E1
            subst E2
            clear o1 o2 lt vi wi
            go_wp2_with fail
            refine (C2.out _).mono ?_
            rintro e v1 ⟨rfl, hb⟩
            have EA := Lib.hid (EA.out.next hb)
            have EB := Lib.hid (EB.out.next hb)
            clear hb
            have ea0 := EA.out.c0
            have ea1 := EA.out.c1
            have ea2 := EA.out.c2
            have eb0 := EB.out.c0
            have eb1 := EB.out.c1
            have eb2 := EB.out.c2
            go_wp2_with fail
            refine (C3.out _).mono ?_
            rintro e v2 ⟨rfl, hb⟩
            have EA := Lib.hid (EA.out.next hb)
            have EB := Lib.hid (EB.out.next hb)
            clear hb
            have ea0 := EA.out.c0
            have ea1 := EA.out.c1
            have ea2 := EA.out.c2
            have eb0 := EB.out.c0
            have eb1 := EB.out.c1
            have eb2 := EB.out.c2
            go_wp2_with fail
            refine (WK.out _).mono ?_
            rintro e v3 ⟨rfl, hb⟩
            have EA := Lib.hid (EA.out.next hb)
            have EB := Lib.hid (EB.out.next hb)
            clear hb
            have ea0 := EA.out.c0
            have ea1 := EA.out.c1
            have ea2 := EA.out.c2
            have eb0 := EB.out.c0
            have eb1 := EB.out.c1
            have eb2 := EB.out.c2
            go_wp2_with fail
            go_ret
            exact ⟨rfl, EA.out.bel⟩
          · have C3 := Lib.hid (A2.out i vi false (by simpa using o2))
            have NB2 : Hid (∀ u, Ev.On A (1 + P) N u → Ev.On C (1 + Q) M u → i + 1 ≤ u) := Lib.hid (fun u o o' => by
              have := NB.out u o o'
              by_cases e : u = i
              · subst e; exact absurd o' o2
              · omega)

            clear o1 o2 lt vi
            go_wp2_with fail
            refine (C2.out _).mono ?_
            rintro e v1 ⟨rfl, hb⟩
            have EA := Lib.hid (EA.out.next hb)
            have EB := Lib.hid (EB.out.next hb)
            clear hb
            have ea0 := EA.out.c0
            have ea1 := EA.out.c1
            have ea2 := EA.out.c2
            have eb0 := EB.out.c0
            have eb1 := EB.out.c1
            have eb2 := EB.out.c2
            go_wp2_with fail
            refine (C3.out _).mono ?_
            rintro e v2 ⟨rfl, hb⟩
            have EA := Lib.hid (EA.out.next hb)
            have EB := Lib.hid (EB.out.next hb)
            clear hb
            have ea0 := EA.out.c0
            have ea1 := EA.out.c1
            have ea2 := EA.out.c2
            have eb0 := EB.out.c0
            have eb1 := EB.out.c1
            have eb2 := EB.out.c2
            go_wp2_with fail
            go_round
            case rel => exact ⟨i + 1, rfl, Lib.hid ⟨NI.out.1, NI.out.2.1⟩, NB2, Lib.hid ⟨EA.out, EB.out⟩⟩
            case measure => have := NI.out; simp [intOf]; omega
        · have C2 := Lib.hid (A1.out i vi false (by simpa using o1))
          obtain ⟨b2, hb2⟩ : ∃ b2 : Bool, (b2 = true ↔ Ev.On C (1 + Q) M i) := by
            classical
            exact ⟨decide (Ev.On C (1 + Q) M i), by simp⟩
          have C3 := Lib.hid (A2.out i vi b2 hb2)
          have NB2 : Hid (∀ u, Ev.On A (1 + P) N u → Ev.On C (1 + Q) M u → i + 1 ≤ u) := Lib.hid (fun u o o' => by
            have := NB.out u o o'
            by_cases e : u = i
            · subst e; exact absurd o o1
            · omega)

          clear o1 hb2 lt vi
          go_wp2_with fail
          refine (C2.out _).mono ?_
          rintro e v1 ⟨rfl, hb⟩
          have EA := Lib.hid (EA.out.next hb)
          have EB := Lib.hid (EB.out.next hb)
          clear hb
          have ea0 := EA.out.c0
          have ea1 := EA.out.c1
          have ea2 := EA.out.c2
          have eb0 := EB.out.c0
          have eb1 := EB.out.c1
          have eb2 := EB.out.c2
          go_wp2_with fail
          refine (C3.out _).mono ?_
          rintro e v2 ⟨rfl, hb⟩
          have EA := Lib.hid (EA.out.next hb)
          have EB := Lib.hid (EB.out.next hb)
          clear hb
          have ea0 := EA.out.c0
          have ea1 := EA.out.c1
          have ea2 := EA.out.c2
          have eb0 := EB.out.c0
          have eb1 := EB.out.c1
          have eb2 := EB.out.c2
          go_wp2_with fail
          go_round
          case rel => exact ⟨i + 1, rfl, Lib.hid ⟨NI.out.1, NI.out.2.1⟩, NB2, Lib.hid ⟨EA.out, EB.out⟩⟩
          case measure => have := NI.out; simp [intOf]; omega
      · have d0 := dec_f lt
        have no : ok = false := by
          cases ok with
          | false => rfl
          | true =>
            have a1 := NZ.out HV.out
            rcases HV.out with ⟨_, o1, o2, _⟩ | ⟨e, _⟩
            · have := NB.out v o1 o2; omega
            · simp at e
        subst no
        clear lt
        go_wp2_with fail
        refine (WK.out _).mono ?_
        rintro e v21 ⟨rfl, hb⟩
        have EA := Lib.hid (EA.out.next hb)
        have EB := Lib.hid (EB.out.next hb)
        clear hb
        have ea0 := EA.out.c0
        have ea1 := EA.out.c1
        have ea2 := EA.out.c2
        have eb0 := EB.out.c0
        have eb1 := EB.out.c1
        have eb2 := EB.out.c2
        go_wp2_with fail
        go_ret
        exact ⟨rfl, EA.out.bel⟩

set_option maxRecDepth 100000 in
theorem lifted (os : Os) (started : os.Started) (H : Type) (enc : TypeId × Value → H) :
    ReturnsInHanded {} Try.checked os 12 .any (Rows.everyWalksSpec.pre6 enc Try.prog Try.f12 Rows.everyWalksRow.domain false) (Rows.everyWalksSpec.post enc Try.prog Try.f12 false true false false) := by
  refine returnsInHanded_of_change (C := Try.checked) own started (by kernel_rfl) Try.func12
    (ChangeSpec.witness6 (enc := enc) (C := Try.checked) false ⟨#[], #[.int .u16 0, .int .u16 0, .int .u16 0, .int .u16 0, .int .u16 0, .int .u16 0], []⟩ 8 (by kernel_rfl) (by kernel_rfl) (by kernel_rfl) (by kernel_rfl)) ?_
  intro W base args ds gs before hval0 hW hcnd _
  have hval : ∀ (j : Nat) t v, Try.f12.params[j]? = some t → args[j]? = some v → Value.okWide Try.prog W .any base t v := hval0
  have hW' := hW
  obtain ⟨p, q, hA0, hV, rfl, hfz, hnd⟩ := hW
  have hA : DataW.TrodAll enc Try.prog W 0 (fun _ => true) true Try.f12.params.toList args.toList ds p := hA0
  rw [Try.params12] at hA hval
  obtain ⟨v0, vs0, d0, ds0, p0, q0, hargs, rfl, rfl, h0, r0⟩ := trodAll_cons hA
  obtain ⟨v1, vs1, d1, ds1, p1, q1, rfl, rfl, rfl, h1, r1⟩ := trodAll_cons r0
  obtain ⟨v2, vs2, d2, ds2, p2, q2, rfl, rfl, rfl, h2, r2⟩ := trodAll_cons r1
  obtain ⟨v3, vs3, d3, ds3, p3, q3, rfl, rfl, rfl, h3, r3⟩ := trodAll_cons r2
  obtain ⟨v4, vs4, d4, ds4, p4, q4, rfl, rfl, rfl, h4, r4⟩ := trodAll_cons r3
  obtain ⟨v5, vs5, d5, ds5, p5, q5, rfl, rfl, rfl, h5, r5⟩ := trodAll_cons r4
  obtain ⟨rfl, rfl, rfl⟩ := trodAll_nil r5
  obtain rfl : args = #[v0, v1, v2, v3, v4, v5] := by cases args; simp_all
  obtain ⟨rfl, rfl⟩ := trodVars_none hV
  obtain ⟨a0, rfl, rfl, rfl, w0⟩ := open_int Try.underlying42 (hval 0 42 v0 rfl rfl) h0
  obtain ⟨a1, rfl, rfl, rfl, w1⟩ := open_int Try.underlying42 (hval 1 42 v1 rfl rfl) h1
  obtain ⟨a2, rfl, rfl, rfl, w2⟩ := open_int Try.underlying42 (hval 2 42 v2 rfl rfl) h2
  obtain ⟨a3, rfl, rfl, rfl, w3⟩ := open_int Try.underlying42 (hval 3 42 v3 rfl rfl) h3
  obtain ⟨a4, rfl, rfl, rfl, w4⟩ := open_int Try.underlying42 (hval 4 42 v4 rfl rfl) h4
  obtain ⟨a5, rfl, rfl, rfl, w5⟩ := open_int Try.underlying42 (hval 5 42 v5 rfl rfl) h5
  clear hA0 hval0
  refine (walk a0 a1 a2 a3 a4 a5 W w0 w1 w2 w3 w4 w5).mono fun e W' ⟨he, bel⟩ => ?_
  subst he
  exact ⟨_, rfl, _, _, _, [], _, [], hW', trodAll_mk1 (shut_bool Try.underlying4 _), (trodAll_cons_mk (shut_int Try.underlying42 w0) (trodAll_cons_mk (shut_int Try.underlying42 w1) (trodAll_cons_mk (shut_int Try.underlying42 w2) (trodAll_cons_mk (shut_int Try.underlying42 w3) (trodAll_cons_mk (shut_int Try.underlying42 w4) (trodAll_cons_mk (shut_int Try.underlying42 w5) trodAll_mk0)))))), rfl, bel.frame _, fun h => by cases h⟩

theorem proved : Rows.EveryWalksSaid :=
  OpenClaim.holds_of_wide 12 Try.f12 rfl rfl rfl rfl rfl rfl rfl ⟨rfl, rfl, rfl, rfl, rfl⟩ rfl rfl rfl rfl rfl (by kernel_rfl) Try.func12 (by kernel_rfl)
    (of_decide_eq_true (by kernel_rfl)) (by unfold Func.isWrapper; first | (rw [if_pos (by decide +kernel)]; kernel_rfl) | (rw [if_neg (by decide +kernel)]; exact ⟨rfl, rfl⟩))
    (fun os started H enc _ => lifted os started H enc)

end Go.Proofs.Ytnajpgkahnjabaa.everyWalks
