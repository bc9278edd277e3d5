/- How often an expression matches in a day, as the document says: contract of Seconds of wakemanref07. -/
import Derived.Test.YtpnfifhanmpapaaGreatDoorExpRb
import Derived.BigQuiet
namespace Go.Proofs.YtpnfifhanmpapaaGreatDoor
open Go.ChangeShapes Go.WideShapes Go.RowKit Go.Shelf

theorem count8 (S n : Nat) (hS : S < 2 ^ 64) (h : (Bit.mem S).length = n) (w : World) :
    Calls Tryz.prog 55 #[.int .u64 S] w fun e w' => e = .returned (.int .i64 n) ∧ w' = w :=
  (count7_any S hS w).mono fun _ _ ⟨h1, h2⟩ => ⟨by rw [h1, h], h2.symm⟩
set_option maxRecDepth 100000 in
set_option maxHeartbeats 4000000 in
theorem seconds7_any (x : Exp.Ex) (hx : x.Bd) (w : World) :
    Calls Tryz.prog 22 #[.agg #[.int .u64 x.a0, .int .u64 x.a1, .int .u64 x.a2, .int .u64 x.a3, .int .u64 x.a4, .int .u64 x.a5, .bool x.b3, .bool x.b5]] w fun e w' => e = .returned (.tuple #[.int .i64 (if x.okB = true then x.secs else 0 : Nat), .int .i64 (errOk x.okB)]) ∧ Below w.heap.size w w' := by
  have CK := Lib.hid (fun w0 : World => check7_ex x hx w0)
  have E0 : ∀ w1, Below (w.alloc (.cells (exL x).toArray 25)).heap.size (w.alloc (.cells (exL x).toArray 25)) w1 → Row w1 w.heap.size 25 (exL x) ∧ Below w.heap.size w w1 := fun w1 hb =>
    ⟨(Row.new w _ _).below hb, ((Below.refl _ w).alloc (Nat.le_refl _) _).trans (hb.mono (by simp))⟩
  have HE := Lib.hid E0
  clear E0
  cases hok : x.okB with
  | false =>
    rw [hok] at CK
    simp only [errOk, Bool.false_eq_true, if_false] at CK ⊢
    go_enter Tryz.func22, Tryz.ntmps22
    go_wp2_with fail
    refine (CK.out _).mono ?_
    rintro e' w1 ⟨rfl, hb⟩
    obtain ⟨_, bw⟩ := HE.out w1 hb
    have BW := Lib.hid bw
    clear hb bw
    go_wp2_with fail
    refine bodyPost_ret (v := .tuple #[.int .i64 (0 : Nat), .int .i64 16]) (by simp [results, Tryz.results22, go_sem]) rfl ⟨rfl, ?_⟩
    exact BW.out
  | true =>
    rw [hok] at CK
    simp only [errOk, if_true] at CK ⊢
    obtain ⟨n0, h0⟩ : ∃ n, (Bit.mem x.a0).length = n := ⟨_, rfl⟩
    obtain ⟨n1, h1⟩ : ∃ n, (Bit.mem x.a1).length = n := ⟨_, rfl⟩
    obtain ⟨n2, h2⟩ : ∃ n, (Bit.mem x.a2).length = n := ⟨_, rfl⟩
    have hs : x.secs = n0 * n1 * n2 := by unfold Exp.Ex.secs; rw [h0, h1, h2]
    obtain ⟨l1, l2⟩ := secs_le n0 n1 n2 (by rw [← h0]; exact Bit.mem_len _) (by rw [← h1]; exact Bit.mem_len _) (by rw [← h2]; exact Bit.mem_len _)
    rw [hs]
    obtain ⟨m, hm⟩ : ∃ m, n0 * n1 = m := ⟨_, rfl⟩
    obtain ⟨k, hk⟩ : ∃ k, m * n2 = k := ⟨_, rfl⟩
    rw [hm] at l1 l2 ⊢
    rw [hk] at l2 ⊢
    have w1 : IntKind.i64.wrap ((n0 : Int) * (n1 : Int)) = (m : Int) := by rw [← Int.natCast_mul, hm, IntKind.wrap_i64]; omega
    have w2 : IntKind.i64.wrap ((m : Int) * (n2 : Int)) = (k : Int) := by rw [← Int.natCast_mul, hk, IntKind.wrap_i64]; omega
    have p0 := hx 0 (by decide); have p1 := hx 1 (by decide); have p2 := hx 2 (by decide)
    simp only [Exp.Ex.at] at p0 p1 p2
    clear hs hm hk l1 l2
    go_enter Tryz.func22, Tryz.ntmps22
    go_wp2_with fail
    refine (CK.out _).mono ?_
    rintro e' w1 ⟨rfl, hb⟩
    obtain ⟨R, bw⟩ := HE.out w1 hb
    have c0 := R.cell 0; have c1 := R.cell 1; have c2 := R.cell 2
    simp only [exL, List.getElem?_cons_zero, List.getElem?_cons_succ] at c0 c1 c2
    have BW := Lib.hid bw
    clear hb bw R
    go_wp2_with fail
    go_quiet (first | (go_at_call 55; exact Calls.quiet_of_same (count8 _ _ (by assumption) (by assumption) _)))
    go_wp2_with fail
    refine bodyPost_ret (v := .tuple #[.int .i64 (k : Nat), .int .i64 0]) (by simp [results, Tryz.results22, go_sem]) rfl ⟨rfl, ?_⟩
    exact BW.out.trans (below_drewN _ _ _)
end Go.Proofs.YtpnfifhanmpapaaGreatDoor
