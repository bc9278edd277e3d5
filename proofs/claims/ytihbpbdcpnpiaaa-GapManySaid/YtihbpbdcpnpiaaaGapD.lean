/- Contracts of the functions of package slices on lists of times: Equal, Clone, Contains, Min, Max, IsSorted, BinarySearch, ContainsFunc. -/
import Derived.Test.YtihbpbdcpnpiaaaGapC
import Derived.Lib.SliceRun
namespace Go.Proofs.Ytihbpbdcpnpiaaa
open Go.ChangeShapes Go.RowKit

theorem OwnT.of_below {w W : World} {v : Value} {l : List Int} (h : OwnT w v l W) : Below w.heap.size w W := h.below
set_option maxRecDepth 100000 in
theorem equal_same (v u : Value) (l : List Int) (w : World) (h : RowT w v l) (h' : RowT w u l) :
    Calls Try.prog 23 #[v, u] w fun e w' => e = .returned (.bool true) ∧ Below w.heap.size w w' := by
  obtain ⟨h0, A, cap, rfl, c⟩ := h
  obtain ⟨_, B, cap', rfl, c'⟩ := h'
  have C1 := Lib.hid c
  have C2 := Lib.hid c'
  have t1 : ((l.length : Int) != (l.length : Int)) = false := by simp
  clear c c'
  go_enter Try.func23, Try.ntmps23
  go_wp2_with fail
  go_loopw [13] (fun iv wr => ∃ k : Nat, k ≤ l.length ∧ iv = .int .i64 k ∧ ∃ m, wr = w.drewN m) (fun iv _ => l.length - (intOf iv).toNat)
  case atStart => exact ⟨0, by omega, rfl, 0, rfl⟩
  case round =>
    obtain ⟨k, hk, rfl, m, rfl⟩ := hrel
    by_cases lt : k < l.length
    · have e0 : decide ((k : Int) < (l.length : Int)) = true := by rw [decide_eq_true_iff]; omega
      have wi : IntKind.i64.wrap ((k : Int) + 1) = (k : Int) + 1 := by rw [IntKind.wrap_i64]; omega
      obtain ⟨b, o, rfl, c2⟩ := C1.out k lt
      obtain ⟨b', o', rfl, c3⟩ := C2.out k lt
      obtain ⟨x, hx⟩ : ∃ x, l.getD k 0 = x := ⟨_, rfl⟩
      rw [hx] at c2 c3
      clear hx
      go_wp2_with fail
      go_quiet (fail)
      go_wp2_with fail
      go_roundw
      case rel => exact ⟨k + 1, by omega, by go_num, _, rfl⟩
      case measure => simp [intOf]; omega
    · have e0 : decide ((k : Int) < (l.length : Int)) = false := by rw [decide_eq_false_iff_not]; omega
      go_wp2_with fail
      go_ret
      exact ⟨rfl, below_drewN (Below.refl _ _) _⟩
set_option maxRecDepth 100000 in
set_option maxHeartbeats 2000000 in
theorem clone_any (v : Value) (l : List Int) (w : World) (h : RowT w v l) :
    Calls Try.prog 16 #[v] w fun e w' => ∃ u, e = .returned u ∧ OwnT w u l w' := by
  obtain ⟨i0, hi, hz0, hz1, hz2⟩ := info_parts infoT
  have q22 : ∀ (w : World) (a : Option Addr) (n c n' c' : Nat), (binOp .eql 22 (.slice a n c) (.slice none n' c')).run Try.prog w = .ok (.bool a.isNone) w := fun w a n c n' c' => Lib.run_eql_slice_nil w _ _ a n c n' c' Try.underlying22
  obtain ⟨h0, A, cap, rfl, c⟩ := h
  cases A with
  | none =>
    have e : l = [] := by
      cases l with
      | nil => rfl
      | cons x l => obtain ⟨b, o, q, _⟩ := c 0 (by simp); simp at q
    subst e
    clear c
    go_enter Try.func16, Try.ntmps16
    go_wp2_with fail
    go_ret
    exact ⟨_, rfl, .nil (Below.refl _ _)⟩
  | some ad =>
    have C := Lib.hid c
    clear c
    go_enter Try.func16, Try.ntmps16
    go_wp2_with (at_builtin; refine wpList_append_own _ rfl _ _ 22 rfl w.heap.size 2 i0 (.int .i64 0) 1 8 Try.underlying22 hi hz0 hz1 hz2 rfl (by decide) _ 0 [] rfl (World.ownsRow_made w #[] 0 (Nat.le_refl _) (Nat.zero_le _) rfl) ad l.length cap (l.map (.int .i64 ·)) rfl ?qc1 ?qc2 ?qc3 ?qc4 ?qc5 ?qc6 ?_)
    case qc1 => simp
    case qc2 =>
      intro j u hj
      have hjn : j < l.length := by
        have := (List.getElem?_eq_some_iff.1 hj).1
        simpa using this
      obtain ⟨b, o, e, c2⟩ := C.out j hjn
      cases e
      rw [add_flat, ((Below.refl w.heap.size w).alloc (Nat.le_refl _) _).cell (p := ⟨b, o + j, none⟩) (lt_of_cell c2), c2]
      rw [← hj]
      simp [hjn]
    case qc3 => intro u hu; obtain ⟨x, _, rfl⟩ := List.mem_map.1 hu; rfl
    case qc4 => unfold maxLen; omega
    case qc5 => omega
    case qc6 => simp
    intro v' w1 hown hgrow _
    have hbw : Below w.heap.size w w1 := ((Below.refl w.heap.size w).alloc (Nat.le_refl _) _).grown hgrow (by simp) (by intro k hk; simp [Value.ownBlock] at hk; omega)
    have HO : Hid (OwnT w v' l w1) := Lib.hid ⟨by simpa using hown, hbw⟩
    clear hown hgrow hbw
    go_wp2_with fail
    go_ret
    exact ⟨_, rfl, HO.out⟩
theorem index_any (v : Value) (l : List Int) (t : Int) (w : World) (h : RowT w v l) :
    Calls Try.prog 50 #[v, .int .i64 t] w fun e w' => ∃ i : Int, e = .returned (.int .i64 i) ∧ (0 ≤ i ↔ t ∈ l) ∧ w = w' := by
  obtain ⟨h0, A, cap, rfl, c⟩ := h
  have C1 := Lib.hid c
  clear c
  go_enter Try.func50, Try.ntmps50
  go_wp2_with fail
  go_loop [8] (fun iv => ∃ k : Nat, k ≤ l.length ∧ iv = .int .i64 k ∧ Hid (∀ j, j < k → l.getD j 0 ≠ t)) (fun iv => l.length - (intOf iv).toNat)
  case atStart => exact ⟨0, by omega, rfl, Lib.hid (fun j hj => by omega)⟩
  case round =>
    obtain ⟨k, hk, rfl, no⟩ := hrel
    by_cases lt : k < l.length
    · have e0 : decide ((k : Int) < (l.length : Int)) = true := by rw [decide_eq_true_iff]; omega
      have wi : IntKind.i64.wrap ((k : Int) + 1) = (k : Int) + 1 := by rw [IntKind.wrap_i64]; omega
      obtain ⟨b, o, rfl, c2⟩ := C1.out k lt
      have MEM := Lib.hid (Gp.getD_mem lt)
      obtain ⟨x, hx⟩ : ∃ x, l.getD k 0 = x := ⟨_, rfl⟩
      have HX := Lib.hid hx
      rw [hx] at c2 MEM
      clear hx
      by_cases q : t = x
      · have q0 : (t == x) = true := by rw [beq_iff_eq]; exact q
        have MT : Hid (t ∈ l) := Lib.hid (by rw [q]; exact MEM.out)
        clear q
        go_wp2_with fail
        go_ret
        exact ⟨_, rfl, ⟨fun _ => MT.out, fun _ => by omega⟩, rfl⟩
      · have q0 : (t == x) = false := by rw [beq_eq_false_iff_ne]; exact q
        have Q := Lib.hid q
        clear q
        go_wp2_with fail
        go_round
        case rel => exact ⟨k + 1, by omega, by go_num, Lib.hid (fun j hj => by
          by_cases e : j = k
          · subst e; rw [HX.out]; exact fun e => Q.out e.symm
          · exact no.out j (by omega))⟩
        case measure => simp [intOf]; omega
    · have e0 : decide ((k : Int) < (l.length : Int)) = false := by rw [decide_eq_false_iff_not]; omega
      go_wp2_with fail
      go_ret
      exact ⟨_, rfl, ⟨fun q => by omega, fun q => by obtain ⟨i, hi, e⟩ := Gp.mem_getD q; exact absurd e (no.out i (by omega))⟩, rfl⟩
theorem contains_any (v : Value) (l : List Int) (t : Int) (r : Bool) (hr : r = true ↔ t ∈ l) (w : World) (h : RowT w v l) :
    Calls Try.prog 38 #[v, .int .i64 t] w fun e w' => e = .returned (.bool r) ∧ w = w' := by
  have HI := Lib.hid (index_any v l t w h)
  have HR := Lib.hid hr
  obtain ⟨h0, A, cap, rfl, c⟩ := h
  clear c hr
  go_enter Try.func38, Try.ntmps38
  go_wp2_with fail
  refine HI.out.mono ?_
  rintro e V ⟨i, rfl, hi, rfl⟩
  have q : decide (0 ≤ i) = r := by rw [Bool.eq_iff_iff, decide_eq_true_iff, HR.out]; exact hi
  clear hi
  go_wp2_with fail
  go_ret
  exact ⟨rfl, rfl⟩

theorem mins_any (v : Value) (l : List Int) (hl : 0 < l.length) (w : World) (h : RowT w v l) :
    Calls Try.prog 35 #[v] w fun e w' => e = .returned (.int .i64 (Gp.minTo l l.length)) ∧ w = w' := by
  obtain ⟨h0, A, cap, rfl, c⟩ := h
  have C1 := Lib.hid c
  obtain ⟨b, o, rfl, c0⟩ := c 0 hl
  have d0 : decide ((l.length : Int) < 1) = false := by rw [decide_eq_false_iff_not]; omega
  have ONE := Lib.hid (Gp.minTo_one l)
  obtain ⟨x0, hx0⟩ : ∃ x, l.getD 0 0 = x := ⟨_, rfl⟩
  rw [hx0] at c0 ONE
  rw [Nat.add_zero] at c0
  clear c hx0
  go_enter Try.func35, Try.ntmps35
  go_wp2_with fail
  go_loop [3, 4] (fun mv iv => ∃ (k : Nat) (m : Int), 0 < k ∧ k ≤ l.length ∧ iv = .int .i64 k ∧ mv = .int .i64 m ∧ Hid (m = Gp.minTo l k)) (fun _ iv => l.length - (intOf iv).toNat)
  case atStart => exact ⟨1, x0, by omega, by omega, rfl, rfl, Lib.hid ONE.out.symm⟩
  case round =>
    obtain ⟨k, m, k0, hk, rfl, rfl, hm⟩ := hrel
    by_cases lt : k < l.length
    · have e0 : decide ((k : Int) < (l.length : Int)) = true := by rw [decide_eq_true_iff]; omega
      have wi : IntKind.i64.wrap ((k : Int) + 1) = (k : Int) + 1 := by rw [IntKind.wrap_i64]; omega
      obtain ⟨b', o', e, c2⟩ := C1.out k lt
      cases e
      have ST := Lib.hid (show Gp.minTo l (k + 1) = min m (l.getD k 0) by rw [hm.out]; rfl)
      obtain ⟨x, hx⟩ : ∃ x, l.getD k 0 = x := ⟨_, rfl⟩
      rw [hx] at c2 ST
      clear hx hm
      by_cases q : m ≤ x
      · have ST' : Hid (Gp.minTo l (k + 1) = m) := Lib.hid (by rw [ST.out]; omega)
        clear ST
        go_wp2_with fail
        all_goals
          go_round
          case rel => exact ⟨k + 1, _, by omega, by omega, by go_num, rfl, Lib.hid (by have e := ST'.out; omega)⟩
          case measure => simp [intOf]; omega
      · have ST' : Hid (Gp.minTo l (k + 1) = x) := Lib.hid (by rw [ST.out]; omega)
        clear ST
        go_wp2_with fail
        all_goals
          go_round
          case rel => exact ⟨k + 1, _, by omega, by omega, by go_num, rfl, Lib.hid (by have e := ST'.out; omega)⟩
          case measure => simp [intOf]; omega
    · have e0 : decide ((k : Int) < (l.length : Int)) = false := by rw [decide_eq_false_iff_not]; omega
      obtain rfl : l.length = k := by omega
      go_wp2_with fail
      go_ret
      exact ⟨ret_int hm.out, rfl⟩

theorem maxs_any (v : Value) (l : List Int) (hl : 0 < l.length) (w : World) (h : RowT w v l) :
    Calls Try.prog 36 #[v] w fun e w' => e = .returned (.int .i64 (Gp.maxTo l l.length)) ∧ w = w' := by
  obtain ⟨h0, A, cap, rfl, c⟩ := h
  have C1 := Lib.hid c
  obtain ⟨b, o, rfl, c0⟩ := c 0 hl
  have d0 : decide ((l.length : Int) < 1) = false := by rw [decide_eq_false_iff_not]; omega
  have ONE := Lib.hid (Gp.maxTo_one l)
  obtain ⟨x0, hx0⟩ : ∃ x, l.getD 0 0 = x := ⟨_, rfl⟩
  rw [hx0] at c0 ONE
  rw [Nat.add_zero] at c0
  clear c hx0
  go_enter Try.func36, Try.ntmps36
  go_wp2_with fail
  go_loop [3, 4] (fun mv iv => ∃ (k : Nat) (m : Int), 0 < k ∧ k ≤ l.length ∧ iv = .int .i64 k ∧ mv = .int .i64 m ∧ Hid (m = Gp.maxTo l k)) (fun _ iv => l.length - (intOf iv).toNat)
  case atStart => exact ⟨1, x0, by omega, by omega, rfl, rfl, Lib.hid ONE.out.symm⟩
  case round =>
    obtain ⟨k, m, k0, hk, rfl, rfl, hm⟩ := hrel
    by_cases lt : k < l.length
    · have e0 : decide ((k : Int) < (l.length : Int)) = true := by rw [decide_eq_true_iff]; omega
      have wi : IntKind.i64.wrap ((k : Int) + 1) = (k : Int) + 1 := by rw [IntKind.wrap_i64]; omega
      obtain ⟨b', o', e, c2⟩ := C1.out k lt
      cases e
      have ST := Lib.hid (show Gp.maxTo l (k + 1) = max m (l.getD k 0) by rw [hm.out]; rfl)
      obtain ⟨x, hx⟩ : ∃ x, l.getD k 0 = x := ⟨_, rfl⟩
      rw [hx] at c2 ST
      clear hx hm
      by_cases q : m ≤ x
      · have ST' : Hid (Gp.maxTo l (k + 1) = x) := Lib.hid (by rw [ST.out]; omega)
        clear ST
        go_wp2_with fail
        all_goals
          go_round
          case rel => exact ⟨k + 1, _, by omega, by omega, by go_num, rfl, Lib.hid (by have e := ST'.out; omega)⟩
          case measure => simp [intOf]; omega
      · have ST' : Hid (Gp.maxTo l (k + 1) = m) := Lib.hid (by rw [ST.out]; omega)
        clear ST
        go_wp2_with fail
        all_goals
          go_round
          case rel => exact ⟨k + 1, _, by omega, by omega, by go_num, rfl, Lib.hid (by have e := ST'.out; omega)⟩
          case measure => simp [intOf]; omega
    · have e0 : decide ((k : Int) < (l.length : Int)) = false := by rw [decide_eq_false_iff_not]; omega
      obtain rfl : l.length = k := by omega
      go_wp2_with fail
      go_ret
      exact ⟨ret_int hm.out, rfl⟩

theorem nanC_any (x : Int) (w : World) : Calls Try.prog 56 #[.int .i64 x] w fun e w' => e = .returned (.bool false) ∧ w = w' := by
  have q : (x != x) = false := by simp
  go_enter Try.func56, Try.ntmps56
  go_wp2_with fail
  go_ret
  exact ⟨rfl, rfl⟩
theorem nanS_any (x : Int) (w : World) : Calls Try.prog 55 #[.int .i64 x] w fun e w' => e = .returned (.bool false) ∧ w = w' := by
  have q : (x != x) = false := by simp
  go_enter Try.func55, Try.ntmps55
  go_wp2_with fail
  go_ret
  exact ⟨rfl, rfl⟩
theorem less_any (x y : Int) (r : Bool) (hr : decide (x < y) = r) (w : World) : Calls Try.prog 51 #[.int .i64 x, .int .i64 y] w fun e w' => e = .returned (.bool r) ∧ w = w' := by
  go_enter Try.func51, Try.ntmps51
  go_wp2_with (go_at_call 56; refine (nanC_any _ _).mono ?_; rintro e w' ⟨rfl, rfl⟩)
  go_ret
  exact ⟨rfl, rfl⟩
set_option maxRecDepth 100000 in
theorem sorted_yes (v : Value) (l : List Int) (w : World) (h : RowT w v l) (hs : ∀ i, i + 1 < l.length → l.getD i 0 ≤ l.getD (i + 1) 0) :
    Calls Try.prog 39 #[v] w fun e w' => e = .returned (.bool true) ∧ Below w.heap.size w w' := by
  obtain ⟨h0, A, cap, rfl, c⟩ := h
  have C1 := Lib.hid c
  have S := Lib.hid hs
  have w0 : IntKind.i64.wrap ((l.length : Int) - 1) = (l.length : Int) - 1 := by rw [IntKind.wrap_i64]; omega
  clear c hs
  go_enter Try.func39, Try.ntmps39
  go_wp2_with fail
  go_loopw [3] (fun iv wr => ∃ i : Int, -1 ≤ i ∧ i < l.length ∧ iv = .int .i64 i ∧ ∃ m, wr = w.drewN m) (fun iv _ => (intOf iv + 1).toNat)
  case atStart => exact ⟨(l.length : Int) - 1, by omega, by omega, rfl, 0, rfl⟩
  case round =>
    obtain ⟨i, i0, i1, rfl, m, rfl⟩ := hrel
    by_cases lt : 0 < i
    · have e0 : decide (0 < i) = true := decide_eq_true lt
      have wi : IntKind.i64.wrap (i - 1) = i - 1 := by rw [IntKind.wrap_i64]; omega
      obtain ⟨p, rfl⟩ : ∃ p : Nat, i = (p : Int) + 1 := ⟨(i - 1).toNat, by omega⟩
      obtain ⟨b, o, rfl, c2⟩ := C1.out (p + 1) (by omega)
      obtain ⟨b', o', e', c3⟩ := C1.out p (by omega)
      cases e'
      have LS := Lib.hid (S.out p (by omega))
      obtain ⟨x, hx⟩ : ∃ x, l.getD p 0 = x := ⟨_, rfl⟩
      obtain ⟨y, hy⟩ : ∃ y, l.getD (p + 1) 0 = y := ⟨_, rfl⟩
      rw [hx] at c3 LS
      rw [hy] at c2 LS
      have LE := Lib.hid (fun w => less_any y x false (by rw [decide_eq_false_iff_not]; have := LS.out; omega) w)
      have wp : IntKind.i64.wrap ((p : Int) + 1 - 1) = (p : Int) := by rw [IntKind.wrap_i64]; omega
      have wp' : IntKind.i64.wrap (p : Int) = (p : Int) := by rw [IntKind.wrap_i64]; omega
      have hp : p < l.length := by omega
      have hp1 : p + 1 < l.length := by omega
      have q0 : (0 : Int) ≤ (p : Int) + 1 := by omega
      clear hx hy
      go_wp2_with fail
      go_quiet (first | (go_at_call 51; exact (LE.out _).mono fun _ _ ⟨h1, h2⟩ => ⟨h1, _, h2.symm⟩))
      go_wp2_with fail
      go_roundw
      case rel => exact ⟨(p : Int), by omega, by omega, by first | rfl | (congr 1; omega), _, rfl⟩
      case measure => simp [intOf] <;> omega
    · have e0 : decide (0 < i) = false := decide_eq_false lt
      go_wp2_with fail
      go_ret
      exact ⟨rfl, below_drewN (Below.refl _ _) _⟩
end Go.Proofs.Ytihbpbdcpnpiaaa
