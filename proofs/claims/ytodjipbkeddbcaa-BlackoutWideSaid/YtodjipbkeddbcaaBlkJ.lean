/- slices' Equal, Clone, ContainsFunc at spans; the statements' few and has. -/
import Derived.Test.YtodjipbkeddbcaaBlkI
import Derived.Lib.SliceRun
namespace Go.Proofs.Ytodjipbkeddbcaa
open Go.ChangeShapes Go.RowKit

set_option maxRecDepth 100000 in
theorem equal_same (v u : Value) (l : List (Int × Int)) (w : World) (h : RowS w v l) (h' : RowS w u l) :
    Calls Try.prog 17 #[v, u] w fun e w' => e = .returned (.bool true) ∧ Below w.heap.size w w' := by
  have LL := h.1
  have C1 := Lib.hid h
  have C2 := Lib.hid h'
  obtain ⟨A, cap, rfl⟩ := h.len
  obtain ⟨B, cap', rfl⟩ := h'.len
  have t1 : ((l.length : Int) != (l.length : Int)) = false := by simp
  clear h h'
  go_enter Try.func17, Try.ntmps17
  go_wp2_with fail
  go_loopw [13] (fun iv wr => ∃ k : Nat, k ≤ l.length ∧ iv = .int .i64 k ∧ ∃ m, wr = w.drewN m) (fun iv _ => l.length - (intOf iv).toNat)
  case atStart => exact ⟨0, by omega, rfl, 0, rfl⟩
  case round =>
    obtain ⟨k, hk, rfl, m, rfl⟩ := hrel
    by_cases lt : k < l.length
    · have e0 : decide ((k : Int) < (l.length : Int)) = true := by rw [decide_eq_true_iff]; omega
      have wi : IntKind.i64.wrap ((k : Int) + 1) = (k : Int) + 1 := by rw [IntKind.wrap_i64]; omega
      obtain ⟨b, o, rfl, c1, c2⟩ := C1.out.at lt
      obtain ⟨b', o', rfl, c3, c4⟩ := C2.out.at lt
      obtain ⟨x, hx⟩ : ∃ x, l.getD k (0, 0) = x := ⟨_, rfl⟩
      rw [hx] at c1 c2 c3 c4
      obtain ⟨x1, x2⟩ := x
      simp only at c1 c2 c3 c4
      clear hx
      go_wp2_with fail
      go_quiet (fail)
      go_wp2_with fail
      go_roundw
      case rel => exact ⟨k + 1, by omega, by go_num, _, rfl⟩
      case measure => simp [intOf]; omega
    · have e0 : decide ((k : Int) < (l.length : Int)) = false := by rw [decide_eq_false_iff_not]; omega
      obtain rfl : k = l.length := by omega
      clear lt hk
      go_wp2_with fail
      go_ret
      exact ⟨rfl, below_drewN (Below.refl _ _) _⟩
set_option maxRecDepth 100000 in
set_option maxHeartbeats 2000000 in
theorem clone_any (v : Value) (l : List (Int × Int)) (w : World) (h : RowS w v l) :
    Calls Try.prog 14 #[v] w fun e w' => ∃ u, e = .returned u ∧ OwnS w u l w' := by
  have q22 : ∀ (w : World) (a : Option Addr) (n c n' c' : Nat), (binOp .eql 22 (.slice a n c) (.slice none n' c')).run Try.prog w = .ok (.bool a.isNone) w := fun w a n c n' c' => Lib.run_eql_slice_nil w _ _ a n c n' c' Try.underlying22
  obtain ⟨A, cap, rfl⟩ := h.len
  cases A with
  | none =>
    obtain ⟨rfl, rfl⟩ := h.none
    clear h
    go_enter Try.func14, Try.ntmps14
    go_wp2_with fail
    go_ret
    exact ⟨_, rfl, .nil (Below.refl _ _)⟩
  | some ad =>
    have LL := h.1
    have C := Lib.hid (h.alloc (.cells #[] 27))
    clear h
    go_enter Try.func14, Try.ntmps14
    go_wp2_with (at_builtin; refine wpList_append_rowS rfl _ _ rfl w.heap.size _ 0 [] rfl (World.ownsRow_made w #[] 0 (Nat.le_refl _) (Nat.zero_le _) rfl) _ l rfl C.out (by omega) (by simp) ?_; intro v' w1 hown hg)
    have HO : Hid (OwnS w v' l w1) := Lib.hid ⟨by simpa using hown, ((Below.refl w.heap.size w).alloc (Nat.le_refl _) _).grown hg (by simp) (by intro k hk; have hk' : (Value.slice (some ⟨w.heap.size, 0, none⟩) 0 0).ownBlock = some k := hk; simp [Value.ownBlock] at hk'; omega)⟩
    clear hown hg
    go_wp2_with fail
    go_ret
    exact ⟨_, rfl, HO.out⟩
/-- the closure of the statements' has -/
theorem hasp_any (t x1 x2 : Int) (B : Nat) (W : World) (hc : W.cell? ⟨B, 0, none⟩ = some (.int .i64 t)) :
    Calls Try.prog 52 #[.agg #[.int .i64 x1, .int .i64 x2], .pointer (some ⟨B, 0, none⟩)] W fun e w' => e = .returned (.bool (decide (x1 ≤ t) && decide (t ≤ x2))) ∧ Below W.heap.size W w' := by
  have hb := lt_of_cell hc
  have hne : B ≠ W.heap.size := by omega
  have HB := Lib.hid ((Below.refl _ W).alloc (Nat.le_refl _) (.cells #[.int .i64 x1, .int .i64 x2] 27))
  generalize h1 : decide (x1 ≤ t) = p
  generalize h2 : decide (t ≤ x2) = q
  cases p with
  | false =>
    go_enter Try.func52, Try.ntmps52
    go_wp2_with fail
    go_ret
    exact ⟨rfl, HB.out⟩
  | true =>
    go_enter Try.func52, Try.ntmps52
    go_wp2_with fail
    go_ret
    exact ⟨by simp, HB.out⟩
/-- the statements' has -/
theorem lhas_any (v : Value) (l : List (Int × Int)) (t : Int) (r : Bool) (hr : decide (Bk.has l t) = r) (w : World) (h : RowS w v l) :
    Calls Try.prog 33 #[v, .int .i64 t] w fun e w' => e = .returned (.bool r) ∧ Below w.heap.size w w' := by
  have eg : ∀ args w, (callFunc 52 args).run Try.prog w = .ok (.enter 52 args) w := enters_of Try.func52 (by kernel_rfl) rfl
  have hcell : (w.alloc (.cells #[.int .i64 t] 2)).cell? ⟨w.heap.size, 0, none⟩ = some (.int .i64 t) := by simp [go_sem]
  have hcon := Lib.hid (index_any 52 eg t w.heap.size v l (w.alloc (.cells #[.int .i64 t] 2))
    (fun x1 x2 W hb => hasp_any t x1 x2 w.heap.size W ((hb.cell (p := ⟨w.heap.size, 0, none⟩) (by simp)).trans hcell)) (h.alloc _))
  have HB := Lib.hid ((Below.refl _ w).alloc (Nat.le_refl _) (.cells #[.int .i64 t] 2))
  have FN := Lib.hid (Bk.find_none (l := l) (t := t))
  have HR := Lib.hid hr
  obtain ⟨i, hi⟩ : ∃ i, Bk.find l t = i := ⟨_, rfl⟩
  rw [hi] at hcon FN
  obtain ⟨A, cap, rfl⟩ := h.len
  have CF : Hid (Calls Try.prog 51 #[.slice A l.length cap, .func (.func 52) #[] #[.pointer (some ⟨w.heap.size, 0, none⟩)]] (w.alloc (.cells #[.int .i64 t] 2)) fun e w' => e = .returned (.bool r) ∧ Below (w.alloc (.cells #[.int .i64 t] 2)).heap.size (w.alloc (.cells #[.int .i64 t] 2)) w') := Lib.hid (by
    clear h eg hcell hr hi HB
    obtain ⟨V, hV⟩ : ∃ V, w.alloc (.cells #[.int .i64 t] 2) = V := ⟨_, rfl⟩
    rw [hV] at hcon ⊢
    clear hV
    have q : decide (0 ≤ i) = r := by
      rw [← HR.out, decide_eq_decide]
      have := FN.out
      constructor
      · intro k; exact Classical.byContradiction fun z => by have := this.2 z; omega
      · intro k; exact Classical.byContradiction fun z => this.1 (by omega) k
    go_enter Try.func51, Try.ntmps51
    go_wp2_with fail
    refine hcon.out.mono ?_
    rintro e V2 ⟨rfl, hb⟩
    have HV := Lib.hid hb
    clear hb
    go_wp2_with fail
    go_ret
    exact ⟨rfl, HV.out⟩)
  clear h eg hcell hr hi hcon FN HR
  go_enter Try.func33, Try.ntmps33
  go_wp2_with fail
  refine CF.out.mono ?_
  rintro e V ⟨rfl, hb⟩
  have HV := Lib.hid (HB.out.trans (hb.mono (by simp)))
  clear hb
  go_wp2_with fail
  go_ret
  exact ⟨rfl, HV.out⟩

def LensT (W : World) (g : Nat) (ns : List Nat) : Prop := ∀ k, k < ns.length → ∃ A cap, W.cell? ⟨g, k, none⟩ = some (.slice A (ns.getD k 0) cap)
theorem few1_any (A : Option Addr) (n cap : Nat) (r : Bool) (hr : decide ((100 : Int) < (n : Int)) = r) (w : World) :
    Calls Try.prog 36 #[.slice A n cap] w fun e w' => e = .returned (.bool r) ∧ w = w' := by
  go_enter Try.func36, Try.ntmps36
  go_wp2_with fail
  go_ret
  exact ⟨rfl, rfl⟩
set_option maxRecDepth 100000 in
set_option maxHeartbeats 2000000 in
theorem indexF_any (g cap : Nat) (ns : List Nat) (hn : ns.length ≤ 2) (w : World) (h : LensT w g ns) :
    Calls Try.prog 54 #[.slice (some ⟨g, 0, none⟩) ns.length cap, .func (.func 36) #[] #[]] w fun e w' => ∃ i : Int, e = .returned (.int .i64 i) ∧ (0 ≤ i ↔ ∃ n ∈ ns, 100 < n) ∧ w = w' := by
  have H := Lib.hid h
  have FW := Lib.hid (fun A n cap r hr w => few1_any A n cap r hr w)
  clear h
  go_enter Try.func54, Try.ntmps54
  go_wp2_with fail
  go_loop [8] (fun iv => ∃ k : Nat, k ≤ ns.length ∧ iv = .int .i64 k ∧ Hid (∀ j, j < k → ¬ 100 < ns.getD j 0)) (fun iv => ns.length - (intOf iv).toNat)
  case atStart => exact ⟨0, by omega, rfl, Lib.hid (fun j hj => by omega)⟩
  case round =>
    obtain ⟨k, hk, rfl, no⟩ := hrel
    by_cases lt : k < ns.length
    · have e0 : decide ((k : Int) < (ns.length : Int)) = true := by rw [decide_eq_true_iff]; omega
      have wi : IntKind.i64.wrap ((k : Int) + 1) = (k : Int) + 1 := by rw [IntKind.wrap_i64]; omega
      obtain ⟨A, cp, c2⟩ := H.out k lt
      have MEM := Lib.hid (show ns.getD k 0 ∈ ns by simp [lt])
      obtain ⟨n, hnn⟩ : ∃ n, ns.getD k 0 = n := ⟨_, rfl⟩
      have HX := Lib.hid hnn
      rw [hnn] at c2 MEM
      clear hnn
      by_cases q : 100 < n
      · have FQ := Lib.hid (FW.out A n cp true (by rw [decide_eq_true_iff]; omega))
        have Q := Lib.hid q
        clear q
        go_wp2_with fail
        refine (FQ.out _).mono ?_
        rintro e V ⟨rfl, rfl⟩
        go_wp2_with fail
        go_ret
        exact ⟨_, rfl, ⟨fun _ => ⟨n, MEM.out, Q.out⟩, fun _ => by omega⟩, rfl⟩
      · have FQ := Lib.hid (FW.out A n cp false (by rw [decide_eq_false_iff_not]; omega))
        have Q := Lib.hid q
        clear q
        go_wp2_with fail
        refine (FQ.out _).mono ?_
        rintro e V ⟨rfl, rfl⟩
        go_wp2_with fail
        go_round
        case rel => exact ⟨k + 1, by omega, by go_num, Lib.hid (fun j hj => by
          by_cases e : j = k
          · subst e; rw [HX.out]; exact Q.out
          · exact no.out j (by omega))⟩
        case measure => simp [intOf]; omega
    · have e0 : decide ((k : Int) < (ns.length : Int)) = false := by rw [decide_eq_false_iff_not]; omega
      go_wp2_with fail
      go_ret
      exact ⟨_, rfl, ⟨fun q => by omega, fun ⟨n, hm, q⟩ => by
        obtain ⟨i, hi, e⟩ := List.getElem_of_mem hm
        have := no.out i (by omega)
        simp [hi, e] at this
        omega⟩, rfl⟩
theorem few_any (g cap : Nat) (ns : List Nat) (hn : ns.length ≤ 2) (r : Bool) (hr : r = true ↔ ∀ n ∈ ns, n ≤ 100) (w : World) (h : LensT w g ns) :
    Calls Try.prog 12 #[.slice (some ⟨g, 0, none⟩) ns.length cap] w fun e w' => e = .returned (.bool r) ∧ w = w' := by
  have HF : Hid (∀ s : Bool, s = !r → ∀ W, W = w → Calls Try.prog 35 #[.slice (some ⟨g, 0, none⟩) ns.length cap, .func (.func 36) #[] #[]] W fun e w' => e = .returned (.bool s) ∧ W = w') := Lib.hid (fun s hs W hW => by
    subst hW
    have HI := Lib.hid (indexF_any g cap ns hn W h)
    clear h
    go_enter Try.func35, Try.ntmps35
    go_wp2_with fail
    refine HI.out.mono ?_
    rintro e V ⟨i, rfl, hi, rfl⟩
    have q : decide (0 ≤ i) = s := by
      rw [Bool.eq_iff_iff, decide_eq_true_iff, hi, hs]
      cases r with
      | true => have := hr.1 rfl; simp; exact fun n hm => this n hm
      | false =>
        simp
        apply Classical.byContradiction
        intro q
        have := hr.2 (fun n hm => by
          apply Classical.byContradiction
          intro q2
          exact q ⟨n, hm, by omega⟩)
        simp at this
    clear hi hs hr
    go_wp2_with fail
    go_ret
    exact ⟨rfl, rfl⟩)
  clear h hr
  go_enter Try.func12, Try.ntmps12
  go_wp2_with fail
  refine (HF.out _ rfl _ rfl).mono ?_
  rintro e V ⟨rfl, rfl⟩
  cases r
  all_goals
    go_wp2_with fail
    go_ret
    exact ⟨rfl, rfl⟩
theorem few_one (g : Nat) (a : Option Addr) (n c : Nat) (r : Bool) (hr : decide (n ≤ 100) = r) (W : World) (hc : W.cell? ⟨g, 0, none⟩ = some (.slice a n c)) :
    Calls Try.prog 12 #[.slice (some ⟨g, 0, none⟩) 1 1] W fun e w' => e = .returned (.bool r) ∧ W = w' :=
  few_any g 1 [n] (by simp) r (by subst hr; simp) W (fun k hk => by
    obtain rfl : k = 0 := by simpa using hk
    exact ⟨a, c, hc⟩)
theorem few_two (g : Nat) (a a' : Option Addr) (n c n' c' : Nat) (r : Bool) (hr : decide (n ≤ 100 ∧ n' ≤ 100) = r) (W : World) (hc : W.cell? ⟨g, 0, none⟩ = some (.slice a n c)) (hd : W.cell? ⟨g, 1, none⟩ = some (.slice a' n' c')) :
    Calls Try.prog 12 #[.slice (some ⟨g, 0, none⟩) 2 2] W fun e w' => e = .returned (.bool r) ∧ W = w' :=
  few_any g 2 [n, n'] (by simp) r (by subst hr; simp) W (fun k hk => by
    have : k = 0 ∨ k = 1 := by simp at hk; omega
    rcases this with rfl | rfl
    · exact ⟨a, c, hc⟩
    · exact ⟨a', c', hd⟩)
end Go.Proofs.Ytodjipbkeddbcaa
