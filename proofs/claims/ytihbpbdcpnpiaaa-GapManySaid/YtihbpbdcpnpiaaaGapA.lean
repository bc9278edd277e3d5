/- Lists of times in memory; contracts of the checks of package gap and of the document's. -/
import Derived.Test.YtihbpbdcpnpiaaaProg
import Derived.Test.YtihbpbdcpnpiaaaGapMath
import Derived.WalkKit
import Derived.ProofKit
import Derived.OwnWalk
import Derived.Maps.AppendAt
import Derived.BigQuiet
import Derived.Deep.QuietTactic
import Derived.Lib.Hide
namespace Go.Proofs.Ytihbpbdcpnpiaaa
open Go.ChangeShapes Go.RowKit

theorem ret_int {k : IntKind} {a b : Int} (h : a = b) : Ending.returned (.int k a) = .returned (.int k b) := by rw [h]
theorem below_drewN {B : Nat} {w W : World} (h : Below B w W) (k : Nat) : Below B w (W.drewN k) := ⟨h.os, h.tape, h.output, h.size, h.block⟩
/-- a slice of these times -/
def RowT (W : World) (v : Value) (l : List Int) : Prop := l.length ≤ 1000000 ∧ ∃ A cap, v = .slice A l.length cap ∧ ∀ j, j < l.length → ∃ b o, A = some ⟨b, o, none⟩ ∧ W.cell? ⟨b, o + j, none⟩ = some (.int .i64 (l.getD j 0))
theorem lt_of_cell {w : World} {b o : Nat} {v : Value} (h : w.cell? ⟨b, o, none⟩ = some v) : b < w.heap.size := by
  by_cases k : b < w.heap.size
  · exact k
  · simp [World.cell?, Array.getElem?_eq_none (show w.heap.size ≤ b by omega)] at h
theorem RowT.below {W W' : World} {v : Value} {l : List Int} (h : RowT W v l) (hb : Below W.heap.size W W') : RowT W' v l := by
  obtain ⟨h0, A, cap, e, h⟩ := h
  refine ⟨h0, A, cap, e, fun j hj => ?_⟩
  obtain ⟨b, o, e1, e2⟩ := h j hj
  exact ⟨b, o, e1, (hb.cell (p := ⟨b, o + j, none⟩) (lt_of_cell e2)).trans e2⟩
theorem RowT.drewN {W : World} {v : Value} {l : List Int} (h : RowT W v l) (m : Nat) : RowT (W.drewN m) v l := h
/-- a slice of slices, in a block -/
def RowsT (W : World) (g : Nat) (ls : List (List Int)) : Prop := ∀ k, k < ls.length → ∃ v, W.cell? ⟨g, k, none⟩ = some v ∧ RowT W v (ls.getD k [])

set_option maxRecDepth 100000 in
set_option maxHeartbeats 4000000 in
theorem check_any (g cap : Nat) (ls : List (List Int)) (hn : ls.length ≤ 2) (w : World) (h : RowsT w g ls) :
    Calls Try.prog 42 #[.slice (some ⟨g, 0, none⟩) ls.length cap] w fun e w' => e = .returned (.int .i64 (Gp.errL ls)) ∧ ∃ m, w' = w.drewN m := by
  have H := Lib.hid h
  have HN := Lib.hid hn
  clear h hn
  have MEM : ∀ k, k < ls.length → ls.getD k [] ∈ ls := fun k hk => by simp [hk]
  have GET : ∀ l, l ∈ ls → ∃ k, k < ls.length ∧ ls.getD k [] = l := fun l hl => by
    obtain ⟨i, hi, e⟩ := List.getElem_of_mem hl
    exact ⟨i, hi, by simp [hi, e]⟩
  have MANY := Lib.hid (fun k hk (q : 100000 < (ls.getD k []).length) => (Gp.errL_many ⟨_, MEM k hk, q⟩ : Gp.errL ls = 12))
  have NM := Lib.hid (fun (q : ∀ k, k < ls.length → (ls.getD k []).length ≤ 100000) => (fun ⟨l, hl, hh⟩ => by obtain ⟨k, hk, rfl⟩ := GET l hl; have := q k hk; omega : ¬ ∃ l ∈ ls, 100000 < l.length))
  have NT := Lib.hid (fun (q : ∀ k, k < ls.length → ∀ z ∈ ls.getD k [], Gp.okT z) => (fun ⟨l, hl, z, hz, hh⟩ => by obtain ⟨k, hk, rfl⟩ := GET l hl; exact hh (q k hk z hz) : ¬ ∃ l ∈ ls, ∃ z ∈ l, ¬ Gp.okT z))
  have NI := Lib.hid (fun (q : ∀ k, k < ls.length → Gp.Inc (ls.getD k [])) => (fun ⟨l, hl, hh⟩ => by obtain ⟨k, hk, rfl⟩ := GET l hl; exact hh (q k hk) : ¬ ∃ l ∈ ls, ¬ Gp.Inc l))
  have MM := Lib.hid MEM
  clear MEM GET
  obtain ⟨n, en⟩ : ∃ n, ls.length = n := ⟨_, rfl⟩
  rw [en] at HN MANY NM NT NI MM ⊢
  unfold RowsT at H
  rw [en] at H
  clear en
  go_enter Try.func42, Try.ntmps42
  go_wp2_with fail
  go_loop [14] (fun iv => ∃ k : Nat, k ≤ n ∧ iv = .int .i64 k ∧ Hid (∀ j, j < k → (ls.getD j []).length ≤ 100000)) (fun iv => n - (intOf iv).toNat)
  case atStart => exact ⟨0, by omega, rfl, Lib.hid (fun j hj => by omega)⟩
  case round =>
    obtain ⟨k, hk, rfl, done⟩ := hrel
    by_cases lt : k < n
    · have d0 : decide ((k : Int) < (n : Int)) = true := by rw [decide_eq_true_iff]; omega
      have wk : IntKind.i64.wrap ((k : Int) + 1) = (k : Int) + 1 := by have := HN.out; rw [IntKind.wrap_i64]; omega
      obtain ⟨v, c1, r1⟩ := H.out k lt
      obtain ⟨r0, A, cp, rfl, _⟩ := r1
      by_cases q : 100000 < (ls.getD k []).length
      · have E := Lib.hid (MANY.out k lt q)
        have d1 : decide ((100000 : Int) < ((ls.getD k []).length : Int)) = true := by rw [decide_eq_true_iff]; omega
        obtain ⟨L, hL⟩ : ∃ L, (ls.getD k []).length = L := ⟨_, rfl⟩
        rw [hL] at c1 d1 q r0
        clear hL
        go_wp2_with fail
        go_ret
        exact ⟨ret_int (by rw [E.out]), 0, rfl⟩
      · have d1 : decide ((100000 : Int) < ((ls.getD k []).length : Int)) = false := by rw [decide_eq_false_iff_not]; omega
        have Q := Lib.hid q
        obtain ⟨L, hL⟩ : ∃ L, (ls.getD k []).length = L := ⟨_, rfl⟩
        have HL := Lib.hid hL
        rw [hL] at c1 d1 q r0
        clear hL
        go_wp2_with fail
        go_round
        case rel => exact ⟨k + 1, by omega, by go_num, Lib.hid (fun j hj => by
          by_cases e : j = k
          · subst e; have := Q.out; omega
          · exact done.out j (by omega))⟩
        case measure => simp [intOf]; omega
    · have d0 : decide ((k : Int) < (n : Int)) = false := by rw [decide_eq_false_iff_not]; omega
      obtain rfl : n = k := by omega
      have NM' := Lib.hid (NM.out done.out)
      clear NM MANY done d0 lt hk
      go_wp2_with fail
      go_loop [24] (fun iv => ∃ k : Nat, k ≤ n ∧ iv = .int .i64 k ∧ Hid (∀ j, j < k → ∀ z ∈ ls.getD j [], Gp.okT z)) (fun iv => n - (intOf iv).toNat)
      case atStart => exact ⟨0, by omega, rfl, Lib.hid (fun j hj => by omega)⟩
      case round =>
        obtain ⟨k, hk, rfl, done⟩ := hrel
        by_cases lt : k < n
        · have d0 : decide ((k : Int) < (n : Int)) = true := by rw [decide_eq_true_iff]; omega
          have wk : IntKind.i64.wrap ((k : Int) + 1) = (k : Int) + 1 := by have := HN.out; rw [IntKind.wrap_i64]; omega
          obtain ⟨v, c1, r1⟩ := H.out k lt
          obtain ⟨r0, A, cp, rfl, cells⟩ := r1
          obtain ⟨l, hl⟩ : ∃ l, ls.getD k [] = l := ⟨_, rfl⟩
          have HLL := Lib.hid hl
          have LM := Lib.hid (MM.out k lt)
          rw [hl] at c1 r0 cells LM
          have CC := Lib.hid cells
          clear hl cells
          go_wp2_with fail
          go_loop [30] (fun iv => ∃ i : Nat, i ≤ l.length ∧ iv = .int .i64 i ∧ Hid (∀ j, j < i → Gp.okT (l.getD j 0))) (fun iv => l.length - (intOf iv).toNat)
          case atStart => exact ⟨0, by omega, rfl, Lib.hid (fun j hj => by omega)⟩
          case round =>
            obtain ⟨i, hi, rfl, ok⟩ := hrel
            by_cases li : i < l.length
            · have e0 : decide ((i : Int) < (l.length : Int)) = true := by rw [decide_eq_true_iff]; omega
              have wi : IntKind.i64.wrap ((i : Int) + 1) = (i : Int) + 1 := by rw [IntKind.wrap_i64]; omega
              obtain ⟨b, o, rfl, c2⟩ := CC.out i li
              have ZM := Lib.hid (Gp.getD_mem li)
              obtain ⟨z, hz⟩ : ∃ z, l.getD i 0 = z := ⟨_, rfl⟩
              have HZ := Lib.hid hz
              rw [hz] at c2 ZM
              clear hz
              by_cases z0 : z < 0
              · have f0 : decide (z < 0) = true := decide_eq_true z0
                have E := Lib.hid (Gp.errL_time NM'.out ⟨l, LM.out, z, ZM.out, fun q => by unfold Gp.okT at q; omega⟩)
                clear z0
                go_wp2_with fail
                go_ret
                exact ⟨ret_int (by rw [E.out]), 0, rfl⟩
              · have f0 : decide (z < 0) = false := decide_eq_false z0
                by_cases z1 : 253402300799 < z
                · have f1 : decide (253402300799 < z) = true := decide_eq_true z1
                  have E := Lib.hid (Gp.errL_time NM'.out ⟨l, LM.out, z, ZM.out, fun q => by unfold Gp.okT at q; omega⟩)
                  clear z0 z1
                  go_wp2_with fail
                  go_ret
                  exact ⟨ret_int (by rw [E.out]), 0, rfl⟩
                · have f1 : decide (253402300799 < z) = false := decide_eq_false z1
                  have OK := Lib.hid (show Gp.okT z by unfold Gp.okT; omega)
                  clear z0 z1
                  go_wp2_with fail
                  go_round
                  case rel => exact ⟨i + 1, by omega, by go_num, Lib.hid (fun j hj => by
                    by_cases e : j = i
                    · subst e; rw [HZ.out]; exact OK.out
                    · exact ok.out j (by omega))⟩
                  case measure => simp [intOf]; omega
            · have e0 : decide ((i : Int) < (l.length : Int)) = false := by rw [decide_eq_false_iff_not]; omega
              have D2 := Lib.hid (fun (j : Nat) (hj : j < k + 1) => show ∀ z ∈ ls.getD j [], Gp.okT z by
                by_cases e : j = k
                · subst e
                  rw [HLL.out]
                  intro z hz
                  obtain ⟨i', hi', rfl⟩ := Gp.mem_getD hz
                  exact ok.out i' (by omega)
                · exact done.out j (by omega))
              clear ok done
              go_wp2_with fail
              go_round
              case rel => exact ⟨k + 1, by omega, by go_num, D2⟩
              case measure => simp [intOf]; omega
        · have d0 : decide ((k : Int) < (n : Int)) = false := by rw [decide_eq_false_iff_not]; omega
          obtain rfl : n = k := by omega
          have NT' := Lib.hid (NT.out done.out)
          clear NT done d0 lt hk
          go_wp2_with fail
          go_loopw [44] (fun iv wr => ∃ k : Nat, k ≤ n ∧ iv = .int .i64 k ∧ Hid (∀ j, j < k → Gp.Inc (ls.getD j [])) ∧ ∃ m, wr = w.drewN m) (fun iv _ => n - (intOf iv).toNat)
          case atStart => exact ⟨0, by omega, rfl, Lib.hid (fun j hj => by omega), 0, rfl⟩
          case round =>
            obtain ⟨k, hk, rfl, done, m, rfl⟩ := hrel
            by_cases lt : k < n
            · have d0 : decide ((k : Int) < (n : Int)) = true := by rw [decide_eq_true_iff]; omega
              have wk : IntKind.i64.wrap ((k : Int) + 1) = (k : Int) + 1 := by have := HN.out; rw [IntKind.wrap_i64]; omega
              obtain ⟨v, c1, r1⟩ := H.out k lt
              obtain ⟨r0, A, cp, rfl, cells⟩ := r1
              obtain ⟨l, hl⟩ : ∃ l, ls.getD k [] = l := ⟨_, rfl⟩
              have HLL := Lib.hid hl
              have LM := Lib.hid (MM.out k lt)
              rw [hl] at c1 r0 cells LM
              have CC := Lib.hid cells
              clear hl cells
              go_wp2_with fail
              go_loopw [11] (fun iv wr => ∃ i : Nat, 1 ≤ i ∧ (i ≤ l.length ∨ i = 1) ∧ iv = .int .i64 i ∧ Hid (∀ j, j + 1 < i → l.getD j 0 < l.getD (j + 1) 0) ∧ ∃ m, wr = w.drewN m) (fun iv _ => l.length + 1 - (intOf iv).toNat)
              case atStart => exact ⟨1, by omega, .inr rfl, rfl, Lib.hid (fun j hj => by omega), _, rfl⟩
              case round =>
                obtain ⟨i, i1, hi, rfl, ok, m2, rfl⟩ := hrel
                by_cases li : i < l.length
                · have e0 : decide ((i : Int) < (l.length : Int)) = true := by rw [decide_eq_true_iff]; omega
                  have wi : IntKind.i64.wrap ((i : Int) + 1) = (i : Int) + 1 := by rw [IntKind.wrap_i64]; omega
                  obtain ⟨p, rfl⟩ : ∃ p, i = p + 1 := ⟨i - 1, by omega⟩
                  have wp : IntKind.i64.wrap (((p + 1 : Nat) : Int) - 1) = (p : Int) := by rw [IntKind.wrap_i64]; omega
                  obtain ⟨b, o, rfl, c2⟩ := CC.out (p + 1) li
                  obtain ⟨b', o', e', c3⟩ := CC.out p (by omega)
                  cases e'
                  obtain ⟨x, hx⟩ : ∃ x, l.getD p 0 = x := ⟨_, rfl⟩
                  obtain ⟨y, hy⟩ : ∃ y, l.getD (p + 1) 0 = y := ⟨_, rfl⟩
                  have HX := Lib.hid hx
                  have HY := Lib.hid hy
                  rw [hx] at c3
                  rw [hy] at c2
                  have hp : p < l.length := by omega
                  clear hx hy
                  by_cases q : y ≤ x
                  · have f0 : decide (y ≤ x) = true := decide_eq_true q
                    have E := Lib.hid (Gp.errL_order NM'.out NT'.out ⟨l, LM.out, fun inc => by have := inc.lt (i := p) (j := p + 1) (by omega) li; rw [HX.out, HY.out] at this; omega⟩)
                    clear q
                    go_wp2_with fail
                    go_quiet (fail)
                    go_wp2_with fail
                    go_ret
                    exact ⟨ret_int (by rw [E.out]), _, World.drewN_drewN _ _ _⟩
                  · have f0 : decide (y ≤ x) = false := decide_eq_false q
                    have Q := Lib.hid (show x < y by omega)
                    clear q
                    go_wp2_with fail
                    go_quiet (fail)
                    go_wp2_with fail
                    go_roundw
                    case rel => exact ⟨p + 1 + 1, by omega, .inl (by omega), by go_num, Lib.hid (fun j hj => by
                      by_cases e : j = p
                      · subst e; rw [HX.out, HY.out]; exact Q.out
                      · exact ok.out j (by omega)), _, rfl⟩
                    case measure => simp [intOf]; omega
                · have e0 : decide ((i : Int) < (l.length : Int)) = false := by rw [decide_eq_false_iff_not]; omega
                  have D2 := Lib.hid (fun (j : Nat) (hj : j < k + 1) => show Gp.Inc (ls.getD j []) by
                    by_cases e : j = k
                    · subst e
                      rw [HLL.out]
                      exact Gp.inc_of (fun i' hi' => ok.out i' (by omega))
                    · exact done.out j (by omega))
                  clear ok done
                  go_wp2_with fail
                  go_roundw
                  case rel => exact ⟨k + 1, by omega, by go_num, D2, _, rfl⟩
                  case measure => simp [intOf]; omega
            · have d0 : decide ((k : Int) < (n : Int)) = false := by rw [decide_eq_false_iff_not]; omega
              obtain rfl : n = k := by omega
              have E := Lib.hid (Gp.errL_none NM'.out NT'.out (NI.out done.out))
              clear NI done d0 lt hk
              go_wp2_with fail
              go_ret
              exact ⟨ret_int (by rw [E.out]), _, rfl⟩
end Go.Proofs.Ytihbpbdcpnpiaaa
