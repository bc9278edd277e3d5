/- Contract of the statements' inside: how many times of a list lie in a window. -/
import Derived.Test.YtihbpbdcpnpiaaaGapN
import Derived.Test.YtihbpbdcpnpiaaaGapMd
namespace Go.Proofs.Ytihbpbdcpnpiaaa
open Go.ChangeShapes Go.RowKit

set_option maxRecDepth 100000 in
set_option maxHeartbeats 2000000 in
theorem inside_any (v : Value) (l : List Int) (a wd : Int) (n : Nat) (hn : Gp.insTo l a wd l.length = n) (ok : ∀ z ∈ l, Gp.okT z) (a0 : -1000000000000 ≤ a) (a1 : a ≤ 1000000000000) (w : World) (h : RowT w v l) :
    Calls Try.prog 37 #[v, .int .i64 a, .int .i64 wd] w fun e w' => e = .returned (.int .i64 n) ∧ w = w' := by
  obtain ⟨h0, A, cap, rfl, c⟩ := h
  have C1 := Lib.hid c
  have OK := Lib.hid ok
  have HN := Lib.hid hn
  clear c ok hn
  go_enter Try.func37, Try.ntmps37
  go_wp2_with fail
  go_loop [7, 12] (fun nv iv => ∃ k m : Nat, k ≤ l.length ∧ m ≤ k ∧ nv = .int .i64 m ∧ iv = .int .i64 k ∧ Hid (Gp.insTo l a wd k = m)) (fun _ iv => l.length - (intOf iv).toNat)
  case atStart => exact ⟨0, 0, by omega, by omega, rfl, rfl, Lib.hid rfl⟩
  case round =>
    obtain ⟨k, m, hk, hm, rfl, rfl, hi⟩ := hrel
    by_cases lt : k < l.length
    · have e0 : decide ((k : Int) < (l.length : Int)) = true := by rw [decide_eq_true_iff]; omega
      have wi : IntKind.i64.wrap ((k : Int) + 1) = (k : Int) + 1 := by rw [IntKind.wrap_i64]; omega
      have wm : IntKind.i64.wrap ((m : Int) + 1) = (m : Int) + 1 := by rw [IntKind.wrap_i64]; omega
      obtain ⟨b, o, rfl, c2⟩ := C1.out k lt
      have xo := OK.out _ (Gp.getD_mem lt)
      have ST := Lib.hid (show Gp.insTo l a wd (k + 1) = m + if a ≤ l.getD k 0 ∧ l.getD k 0 - a < wd then 1 else 0 by rw [Gp.insTo, hi.out])
      obtain ⟨x, hx⟩ : ∃ x, l.getD k 0 = x := ⟨_, rfl⟩
      rw [hx] at c2 xo ST
      unfold Gp.okT at xo
      have wx : IntKind.i64.wrap (x - a) = x - a := by rw [IntKind.wrap_i64]; omega
      clear hx xo hi
      by_cases p : a ≤ x
      · have d1 : decide (a ≤ x) = true := decide_eq_true p
        by_cases q : x - a < wd
        · have d2 : decide (x - a < wd) = true := decide_eq_true q
          rw [if_pos ⟨p, q⟩] at ST
          clear p q
          go_wp2_with fail
          go_round
          case rel => exact ⟨k + 1, m + 1, by omega, by omega, by go_num, by go_num, ST⟩
          case measure => simp [intOf]; omega
        · have d2 : decide (x - a < wd) = false := decide_eq_false q
          rw [if_neg (fun e => q e.2), Nat.add_zero] at ST
          clear p q
          go_wp2_with fail
          go_round
          case rel => exact ⟨k + 1, m, by omega, by omega, rfl, by go_num, ST⟩
          case measure => simp [intOf]; omega
      · have d1 : decide (a ≤ x) = false := decide_eq_false p
        rw [if_neg (fun e => p e.1), Nat.add_zero] at ST
        clear p
        go_wp2_with fail
        go_round
        case rel => exact ⟨k + 1, m, by omega, by omega, rfl, by go_num, ST⟩
        case measure => simp [intOf]; omega
    · have e0 : decide ((k : Int) < (l.length : Int)) = false := by rw [decide_eq_false_iff_not]; omega
      obtain rfl : l.length = k := by omega
      go_wp2_with fail
      go_ret
      exact ⟨ret_int (by rw [← HN.out, hi.out]), rfl⟩
/-- a list that is made, as the statements have it: what is known of it -/
structure Md (f : Int) (l : List Int) : Prop where
  tl : Gp.Tl l
  pos : 0 < l.length
  len : l.length ≤ 301
  lo : ∀ z ∈ l, f ≤ z
  hi : ∀ z ∈ l, z ≤ 4400000000
theorem md_is {f : Int} {a : Option Addr} {len cap : Nat} {zs : List Int} {w : World} (hr : IsRow .u16 w a len cap zs) (f0 : 0 ≤ f) (f1 : f ≤ 4294967295) : Md f (Gp.md f zs (min len 300)) := by
  have G6 := hr.g16 (min len 300) (by omega)
  exact ⟨Gp.md_tl G6 f0 f1 (by omega), by rw [Gp.md_len]; omega, by rw [Gp.md_len]; omega, fun z hz => (Gp.md_in G6 hz).1, fun z hz => by have := (Gp.md_in G6 hz).2; omega⟩
theorem u32_in {f : Int} (h : (Lit.int .u32 f).wf = true) : 0 ≤ f ∧ f ≤ 4294967295 := by simpa [Lit.wf, show IntKind.u32.min = 0 from rfl, show IntKind.u32.max = 4294967295 from rfl] using h
theorem u16_in {f : Int} (h : (Lit.int .u16 f).wf = true) : 0 ≤ f ∧ f ≤ 65535 := by simpa [Lit.wf, show IntKind.u16.min = 0 from rfl, show IntKind.u16.max = 65535 from rfl] using h
theorem u8_in {f : Int} (h : (Lit.int .u8 f).wf = true) : 0 ≤ f ∧ f ≤ 255 := by simpa [Lit.wf, show IntKind.u8.min = 0 from rfl, show IntKind.u8.max = 255 from rfl] using h
theorem i8_in {f : Int} (h : (Lit.int .i8 f).wf = true) : -128 ≤ f ∧ f ≤ 127 := by simpa [Lit.wf, show IntKind.i8.min = -128 from rfl, show IntKind.i8.max = 127 from rfl] using h
theorem Md.err {f : Int} {l : List Int} (h : Md f l) : Gp.errL [l] = 0 := Gp.errL_ok (by intro m hm; simp at hm; subst hm; exact h.tl)
theorem Md.errW {f : Int} {l : List Int} (h : Md f l) {wd : Int} (h1 : 1 ≤ wd) (h2 : wd ≤ 68719476736) : errW l wd = 0 := by unfold Go.Proofs.Ytihbpbdcpnpiaaa.errW; rw [if_pos h.err, if_pos ⟨h1, h2⟩]
/-- a list stands, and what lay before the call is as it was -/
def CtxC (w : World) (v : Value) (l : List Int) (W : World) : Prop := Below w.heap.size w W ∧ RowT W v l
theorem CtxC.drew {w W : World} {v : Value} {l : List Int} (h : CtxC w v l W) : CtxC w v l W.drew := ⟨h.1.drew, h.2⟩
theorem CtxC.drewN {w W : World} {v : Value} {l : List Int} (h : CtxC w v l W) (n : Nat) : CtxC w v l (W.drewN n) := ⟨below_drewN h.1 n, h.2⟩
theorem cover_ctx {w W : World} {v : Value} {l : List Int} (wd : Int) (n : Nat) (r : Int) (hn : coverO l wd = n) (hr : errW l wd = r) (h : CtxC w v l W) :
    Calls Try.prog 26 #[v, .int .i64 wd] W fun e w' => e = .returned (.tuple #[.int .i64 n, .int .i64 r]) ∧ CtxC w v l w' :=
  (cover_any v l wd n hn W h.2).mono fun _ _ ⟨h1, h2⟩ => ⟨by rw [h1, hr], below_next h.1 h2, h.2.below h2⟩
theorem RowT.at_ {W : World} {b o n c : Nat} {l : List Int} (h : RowT W (.slice (some ⟨b, o, none⟩) n c) l) {j : Nat} (hj : j < l.length) : W.cell? ⟨b, o + j, none⟩ = some (.int .i64 (l.getD j 0)) := by
  obtain ⟨_, A, k, e, cc⟩ := h
  obtain ⟨b', o', e1, e2⟩ := cc j hj
  cases e
  cases e1
  exact e2
end Go.Proofs.Ytihbpbdcpnpiaaa
