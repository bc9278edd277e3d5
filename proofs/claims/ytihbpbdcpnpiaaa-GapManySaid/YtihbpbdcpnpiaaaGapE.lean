/- Contracts of slices.BinarySearch on a list of times, of the statements' few, and of the checks of a window. -/
import Derived.Test.YtihbpbdcpnpiaaaGapD
namespace Go.Proofs.Ytihbpbdcpnpiaaa
open Go.ChangeShapes Go.RowKit

/-- what BinarySearch returns -/
def SearchOut (l : List Int) (t : Int) (w : World) (e : Ending) (w' : World) : Prop := ∃ b : Bool, e = .returned (.tuple #[.int .i64 (Gp.cl l t), .bool b]) ∧ w = w'
set_option maxRecDepth 100000 in
set_option maxHeartbeats 4000000 in
theorem search_any (v : Value) (l : List Int) (t : Int) (w : World) (h : RowT w v l) (hs : Gp.Inc l) :
    Calls Try.prog 48 #[v, .int .i64 t] w fun e w' => SearchOut l t w e w' := by
  obtain ⟨h0, A, cap, rfl, c⟩ := h
  have C1 := Lib.hid c
  have S := Lib.hid hs
  have LE := Lib.hid (fun x y r hr w => less_any x y r hr w)
  have NA := Lib.hid (fun x w => nanS_any x w)
  clear c hs
  go_enter Try.func48, Try.ntmps48
  go_wp2_with fail
  go_loop [7, 8] (fun lv hv => ∃ lo hi : Nat, lo ≤ hi ∧ hi ≤ l.length ∧ lv = .int .i64 lo ∧ hv = .int .i64 hi ∧ Hid ((∀ j, j < lo → l.getD j 0 < t) ∧ (∀ j, hi ≤ j → j < l.length → t ≤ l.getD j 0))) (fun lv hv => (intOf hv).toNat - (intOf lv).toNat)
  case atStart => exact ⟨0, l.length, by omega, by omega, rfl, rfl, Lib.hid ⟨fun j hj => by omega, fun j h1 h2 => by omega⟩⟩
  case round =>
    obtain ⟨lo, hi, q1, q2, rfl, rfl, inv⟩ := hrel
    by_cases lt : lo < hi
    · have e0 : decide ((lo : Int) < (hi : Int)) = true := by rw [decide_eq_true_iff]; omega
      obtain ⟨m, hm⟩ : ∃ m, (lo + hi) / 2 = m := ⟨_, rfl⟩
      have m1 : lo ≤ m := by omega
      have m2 : m < hi := by omega
      have dm : ((lo : Int) + (hi : Int)) / 2 = (m : Int) := by omega
      have wm : IntKind.i64.wrap ((m : Int) + 1) = (m : Int) + 1 := by rw [IntKind.wrap_i64]; omega
      have ws : IntKind.i64.wrap ((lo : Int) + (hi : Int)) = (lo : Int) + (hi : Int) := by rw [IntKind.wrap_i64]; omega
      obtain ⟨b, o, rfl, c2⟩ := C1.out m (by omega)
      obtain ⟨x, hx⟩ : ∃ x, l.getD m 0 = x := ⟨_, rfl⟩
      have HX := Lib.hid hx
      rw [hx] at c2
      have ml : m < l.length := by omega
      clear hx hm
      by_cases q : x < t
      · have LQ := Lib.hid (LE.out x t true (decide_eq_true q))
        have Q := Lib.hid q
        clear q
        go_wp2_with (go_at_call 51; refine (LQ.out _).mono ?_; rintro e w' ⟨rfl, rfl⟩)
        go_round
        case rel => exact ⟨m + 1, hi, by omega, by omega, by go_num, rfl, Lib.hid ⟨fun j hj => by
            have := S.out.le (i := j) (j := m) (by omega) (by omega)
            have := HX.out
            have := Q.out
            omega, inv.out.2⟩⟩
        case measure => simp [intOf]; omega
      · have LQ := Lib.hid (LE.out x t false (decide_eq_false q))
        have Q := Lib.hid q
        clear q
        go_wp2_with (go_at_call 51; refine (LQ.out _).mono ?_; rintro e w' ⟨rfl, rfl⟩)
        go_round
        case rel => exact ⟨lo, m, by omega, by omega, rfl, by go_num, Lib.hid ⟨inv.out.1, fun j h1 h2 => by
            have := S.out.le (i := m) (j := j) h1 h2
            have := HX.out
            have := Q.out
            omega⟩⟩
        case measure => simp [intOf]; omega
    · have e0 : decide ((lo : Int) < (hi : Int)) = false := by rw [decide_eq_false_iff_not]; omega
      obtain rfl : lo = hi := by omega
      have E := Lib.hid (Gp.cl_mid S.out t inv.out.1 inv.out.2 q2)
      clear inv
      by_cases hn : lo < l.length
      · have d0 : decide ((lo : Int) < (l.length : Int)) = true := by rw [decide_eq_true_iff]; omega
        obtain ⟨b, o, rfl, c2⟩ := C1.out lo hn
        obtain ⟨x, hx⟩ : ∃ x, l.getD lo 0 = x := ⟨_, rfl⟩
        rw [hx] at c2
        clear hx
        by_cases q : x = t
        · have q0 : (x == t) = true := by rw [beq_iff_eq]; exact q
          clear q
          go_wp2_with (go_at_call 55; refine (NA.out _ _).mono ?_; rintro e w' ⟨rfl, rfl⟩)
          go_ret2
          first | exact ⟨true, by rw [E.out]; rfl, rfl⟩ | exact ⟨false, by rw [E.out]; rfl, rfl⟩
        · have q0 : (x == t) = false := by rw [beq_eq_false_iff_ne]; exact q
          clear q
          go_wp2_with (go_at_call 55; refine (NA.out _ _).mono ?_; rintro e w' ⟨rfl, rfl⟩)
          go_ret2
          first | exact ⟨true, by rw [E.out]; rfl, rfl⟩ | exact ⟨false, by rw [E.out]; rfl, rfl⟩
      · have d0 : decide ((lo : Int) < (l.length : Int)) = false := by rw [decide_eq_false_iff_not]; omega
        go_wp2_with (go_at_call 55; refine (NA.out _ _).mono ?_; rintro e w' ⟨rfl, rfl⟩)
        go_ret2
        first | exact ⟨true, by rw [E.out]; rfl, rfl⟩ | exact ⟨false, by rw [E.out]; rfl, rfl⟩

/-- a slice of slices of these lengths -/
def LensT (W : World) (g : Nat) (ns : List Nat) : Prop := ∀ k, k < ns.length → ∃ A cap, W.cell? ⟨g, k, none⟩ = some (.slice A (ns.getD k 0) cap)
theorem few1_any (A : Option Addr) (n cap : Nat) (r : Bool) (hr : decide ((700 : Int) < (n : Int)) = r) (w : World) :
    Calls Try.prog 41 #[.slice A n cap] w fun e w' => e = .returned (.bool r) ∧ w = w' := by
  go_enter Try.func41, Try.ntmps41
  go_wp2_with fail
  go_ret
  exact ⟨rfl, rfl⟩
set_option maxRecDepth 100000 in
set_option maxHeartbeats 2000000 in
theorem indexF_any (g cap : Nat) (ns : List Nat) (hn : ns.length ≤ 2) (w : World) (h : LensT w g ns) :
    Calls Try.prog 52 #[.slice (some ⟨g, 0, none⟩) ns.length cap, .func (.func 41) #[] #[]] w fun e w' => ∃ i : Int, e = .returned (.int .i64 i) ∧ (0 ≤ i ↔ ∃ n ∈ ns, 700 < n) ∧ w = w' := by
  have H := Lib.hid h
  have FW := Lib.hid (fun A n cap r hr w => few1_any A n cap r hr w)
  clear h
  go_enter Try.func52, Try.ntmps52
  go_wp2_with fail
  go_loop [8] (fun iv => ∃ k : Nat, k ≤ ns.length ∧ iv = .int .i64 k ∧ Hid (∀ j, j < k → ¬ 700 < ns.getD j 0)) (fun iv => ns.length - (intOf iv).toNat)
  case atStart => exact ⟨0, by omega, rfl, Lib.hid (fun j hj => by omega)⟩
  case round =>
    obtain ⟨k, hk, rfl, no⟩ := hrel
    by_cases lt : k < ns.length
    · have e0 : decide ((k : Int) < (ns.length : Int)) = true := by rw [decide_eq_true_iff]; omega
      have wi : IntKind.i64.wrap ((k : Int) + 1) = (k : Int) + 1 := by rw [IntKind.wrap_i64]; omega
      obtain ⟨A, cp, c2⟩ := H.out k lt
      have MEM := Lib.hid (show ns.getD k 0 ∈ ns by simp [lt])
      obtain ⟨n, hnn⟩ : ∃ n, ns.getD k 0 = n := ⟨_, rfl⟩
      have HX := Lib.hid hnn
      rw [hnn] at c2 MEM
      clear hnn
      by_cases q : 700 < n
      · have FQ := Lib.hid (FW.out A n cp true (by rw [decide_eq_true_iff]; omega))
        have Q := Lib.hid q
        clear q
        go_wp2_with fail
        refine (FQ.out _).mono ?_
        rintro e V ⟨rfl, rfl⟩
        go_wp2_with fail
        go_ret
        exact ⟨_, rfl, ⟨fun _ => ⟨n, MEM.out, Q.out⟩, fun _ => by omega⟩, rfl⟩
      · have FQ := Lib.hid (FW.out A n cp false (by rw [decide_eq_false_iff_not]; omega))
        have Q := Lib.hid q
        clear q
        go_wp2_with fail
        refine (FQ.out _).mono ?_
        rintro e V ⟨rfl, rfl⟩
        go_wp2_with fail
        go_round
        case rel => exact ⟨k + 1, by omega, by go_num, Lib.hid (fun j hj => by
          by_cases e : j = k
          · subst e; rw [HX.out]; exact Q.out
          · exact no.out j (by omega))⟩
        case measure => simp [intOf]; omega
    · have e0 : decide ((k : Int) < (ns.length : Int)) = false := by rw [decide_eq_false_iff_not]; omega
      go_wp2_with fail
      go_ret
      exact ⟨_, rfl, ⟨fun q => by omega, fun ⟨n, hm, q⟩ => by
        obtain ⟨i, hi, e⟩ := List.getElem_of_mem hm
        have := no.out i (by omega)
        simp [hi, e] at this
        omega⟩, rfl⟩
theorem few_any (g cap : Nat) (ns : List Nat) (hn : ns.length ≤ 2) (r : Bool) (hr : r = true ↔ ∀ n ∈ ns, n ≤ 700) (w : World) (h : LensT w g ns) :
    Calls Try.prog 14 #[.slice (some ⟨g, 0, none⟩) ns.length cap] w fun e w' => e = .returned (.bool r) ∧ w = w' := by
  have HF : Hid (∀ s : Bool, s = !r → ∀ W, W = w → Calls Try.prog 40 #[.slice (some ⟨g, 0, none⟩) ns.length cap, .func (.func 41) #[] #[]] W fun e w' => e = .returned (.bool s) ∧ W = w') := Lib.hid (fun s hs W hW => by
    subst hW
    have HI := Lib.hid (indexF_any g cap ns hn W h)
    clear h
    go_enter Try.func40, Try.ntmps40
    go_wp2_with fail
    refine HI.out.mono ?_
    rintro e V ⟨i, rfl, hi, rfl⟩
    have q : decide (0 ≤ i) = s := by
      rw [Bool.eq_iff_iff, decide_eq_true_iff, hi, hs]
      cases r with
      | true => have := hr.1 rfl; simp; exact fun n hm => this n hm
      | false =>
        simp
        apply Classical.byContradiction
        intro q
        have := hr.2 (fun n hm => by
          apply Classical.byContradiction
          intro q2
          exact q ⟨n, hm, by omega⟩)
        simp at this
    clear hi hs hr
    go_wp2_with fail
    go_ret
    exact ⟨rfl, rfl⟩)
  clear h hr
  go_enter Try.func14, Try.ntmps14
  go_wp2_with fail
  refine (HF.out _ rfl _ rfl).mono ?_
  rintro e V ⟨rfl, rfl⟩
  cases r
  all_goals
    go_wp2_with fail
    go_ret
    exact ⟨rfl, rfl⟩
end Go.Proofs.Ytihbpbdcpnpiaaa
