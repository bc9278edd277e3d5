/- Contracts of Normal and Seconds of package expr; the examples of the chapter hold: what each of the statements asks besides. -/
import Derived.Laws.RangeAny
import Derived.Laws.Runes
import Derived.WalkMore
import Derived.Lib.OthersKept
import Derived.Test.YtljackjcgfaanaaGreatDoorGFldA
import Derived.RangeFuncNested
import Derived.RangeFuncBox
import Derived.RangeFuncLeaves
import Derived.Shelf.Abstract
import Derived.WalkKit
import Derived.OwnWalkIn
import Derived.TacticsInMore
import Derived.LoopNIn
import Derived.LoopIn
import Derived.Maps.AppendAt
import Derived.Sort.QuietIn
import Derived.Laws.Rows
import Derived.Test.YtljackjcgfaanaaGreatDoorGMFldO
import Derived.Shelf.Spec.SlicesInsert
import Derived.Lib.AppendZerosOnto
import Derived.Maps.OwnSet
import Derived.Maps.StringElems
import Derived.StringKeys
import Derived.Test.YtljackjcgfaanaaGreatDoorProg
import Derived.Deep.RegionHeld3
import Derived.Test.YtljackjcgfaanaaGreatDoorMBitG
namespace Go.Proofs.YtljackjcgfaanaaGreatDoor
open Go.ChangeShapes Go.WideShapes Go.RowKit Go.Shelf

theorem Exp.Ex.Ok.bd {x : Exp.Ex} (h : x.Ok) : x.Bd := fun _ hi => Exp.at_lt h hi
def Exp.Ex.secs (x : Exp.Ex) : Nat := (Bit.mem x.a0).length * (Bit.mem x.a1).length * (Bit.mem x.a2).length
theorem secs_le (a b c : Nat) (ha : a ≤ 64) (hb : b ≤ 64) (hc : c ≤ 64) : a * b ≤ 4096 ∧ a * b * c ≤ 262144 := by
  have h1 : a * b ≤ 64 * 64 := Nat.mul_le_mul ha hb
  exact ⟨h1, Nat.le_trans (Nat.mul_le_mul h1 hc) (by decide)⟩
set_option maxRecDepth 100000 in
set_option maxHeartbeats 4000000 in
theorem seconds_any (x : Exp.Ex) (hx : x.Bd) (w : World) :
    Calls Tryz.prog 109 #[.agg #[.int .u64 x.a0, .int .u64 x.a1, .int .u64 x.a2, .int .u64 x.a3, .int .u64 x.a4, .int .u64 x.a5, .bool x.b3, .bool x.b5]] w fun e w' => e = .returned (.tuple #[.int .i64 (if x.okB = true then x.secs else 0 : Nat), .int .i64 (errOk x.okB)]) ∧ Below w.heap.size w w' := by
  have CK := Lib.hid (fun w0 : World => check_ex x hx w0)
  have E0 : ∀ w1, Below (w.alloc (.cells (exL x).toArray 24)).heap.size (w.alloc (.cells (exL x).toArray 24)) w1 → Row w1 w.heap.size 24 (exL x) ∧ Below w.heap.size w w1 := fun w1 hb =>
    ⟨(Row.new w _ _).below hb, ((Below.refl _ w).alloc (Nat.le_refl _) _).trans (hb.mono (by simp))⟩
  have HE := Lib.hid E0
  clear E0
  cases hok : x.okB with
  | false =>
    rw [hok] at CK
    simp only [errOk, Bool.false_eq_true, if_false] at CK ⊢
    go_enter Tryz.func109, Tryz.ntmps109
    go_wp2_with fail
    refine (CK.out _).mono ?_
    rintro e' w1 ⟨rfl, hb⟩
    obtain ⟨_, bw⟩ := HE.out w1 hb
    have BW := Lib.hid bw
    clear hb bw
    go_wp2_with fail
    refine bodyPost_ret (v := .tuple #[.int .i64 (0 : Nat), .int .i64 16]) (by simp [results, Tryz.results109, go_sem]) rfl ⟨rfl, ?_⟩
    exact BW.out
  | true =>
    rw [hok] at CK
    simp only [errOk, if_true] at CK ⊢
    obtain ⟨n0, h0⟩ : ∃ n, (Bit.mem x.a0).length = n := ⟨_, rfl⟩
    obtain ⟨n1, h1⟩ : ∃ n, (Bit.mem x.a1).length = n := ⟨_, rfl⟩
    obtain ⟨n2, h2⟩ : ∃ n, (Bit.mem x.a2).length = n := ⟨_, rfl⟩
    have hs : x.secs = n0 * n1 * n2 := by unfold Exp.Ex.secs; rw [h0, h1, h2]
    have C0 := Lib.hid (fun w0 : World => count_any x.a0 (hx 0 (by decide)) w0)
    have C1 := Lib.hid (fun w0 : World => count_any x.a1 (hx 1 (by decide)) w0)
    have C2 := Lib.hid (fun w0 : World => count_any x.a2 (hx 2 (by decide)) w0)
    rw [h0] at C0
    rw [h1] at C1
    rw [h2] at C2
    obtain ⟨l1, l2⟩ := secs_le n0 n1 n2 (by rw [← h0]; exact Bit.mem_len _) (by rw [← h1]; exact Bit.mem_len _) (by rw [← h2]; exact Bit.mem_len _)
    rw [hs]
    obtain ⟨m, hm⟩ : ∃ m, n0 * n1 = m := ⟨_, rfl⟩
    obtain ⟨k, hk⟩ : ∃ k, m * n2 = k := ⟨_, rfl⟩
    rw [hm] at l1 l2 ⊢
    rw [hk] at l2 ⊢
    have w1 : IntKind.i64.wrap ((n0 : Int) * (n1 : Int)) = (m : Int) := by rw [← Int.natCast_mul, hm, IntKind.wrap_i64]; omega
    have w2 : IntKind.i64.wrap ((m : Int) * (n2 : Int)) = (k : Int) := by rw [← Int.natCast_mul, hk, IntKind.wrap_i64]; omega
    clear h0 h1 h2 hs hm hk l1 l2
    go_enter Tryz.func109, Tryz.ntmps109
    go_wp2_with fail
    refine (CK.out _).mono ?_
    rintro e' w1 ⟨rfl, hb⟩
    obtain ⟨R, bw⟩ := HE.out w1 hb
    have c0 := R.cell 0; have c1 := R.cell 1; have c2 := R.cell 2
    simp only [exL, List.getElem?_cons_zero, List.getElem?_cons_succ] at c0 c1 c2
    have BW := Lib.hid bw
    clear hb bw R
    go_wp2_with fail
    go_quiet (first | (go_at_call 131; exact Calls.quiet_of_same ((C0.out _).mono fun _ _ ⟨h1, h2⟩ => ⟨h1, h2.symm⟩)) | (go_at_call 131; exact Calls.quiet_of_same ((C1.out _).mono fun _ _ ⟨h1, h2⟩ => ⟨h1, h2.symm⟩)) | (go_at_call 131; exact Calls.quiet_of_same ((C2.out _).mono fun _ _ ⟨h1, h2⟩ => ⟨h1, h2.symm⟩)))
    go_wp2_with fail
    refine bodyPost_ret (v := .tuple #[.int .i64 (k : Nat), .int .i64 0]) (by simp [results, Tryz.results109, go_sem]) rfl ⟨rfl, ?_⟩
    exact BW.out.trans (below_drewN _ _ _)
end Go.Proofs.YtljackjcgfaanaaGreatDoor
