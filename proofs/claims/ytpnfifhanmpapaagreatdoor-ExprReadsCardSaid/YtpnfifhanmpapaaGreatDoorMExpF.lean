/- Contracts of Normal and Seconds of package expr; the examples of the chapter hold: what each of the statements asks besides. The examples of the chapter hold: what each of the statements asks besides. Equal of package expr. The law's full and Made: a valid expression of numbers. -/
import Derived.Test.YtpnfifhanmpapaaGreatDoorMExpD
import Derived.Test.YtpnfifhanmpapaaGreatDoorMExpE
import Derived.Test.YtpnfifhanmpapaaGreatDoorMBitG
import Derived.Test.YtpnfifhanmpapaaGreatDoorMFldR
/- Contracts of Normal and Seconds of package expr; the examples of the chapter hold: what each of the statements asks besides. -/
namespace Go.Proofs.YtpnfifhanmpapaaGreatDoor
open Go.ChangeShapes Go.WideShapes Go.RowKit Go.Shelf

theorem Exp.Ex.Ok.bd {x : Exp.Ex} (h : x.Ok) : x.Bd := fun _ hi => Exp.at_lt h hi
theorem okB_ok {x : Exp.Ex} (h : x.Ok) : x.okB = true := Exp.okB_iff.2 h

set_option maxRecDepth 100000 in
set_option maxHeartbeats 4000000 in
theorem normal_any (s : ByteArray) (hs : s.size ≤ 100000) (t : List UInt8) (a e : Nat) (hr : Exp.norm s.data.toList = (t, a, e)) (w : World) (L : Lay w) :
    Calls Tryz.prog 15 #[.string s] w fun r w' => r = .returned (.tuple #[.string ⟨t.toArray⟩, .int .i64 a, .int .i64 e]) ∧ Below w.heap.size w w' := by
  obtain ⟨⟨x, a0, e0⟩, hp⟩ : ∃ r, Exp.parse s.data.toList = r := ⟨_, rfl⟩
  have PA := Lib.hid (fun w0 : World => parse_any s hs x a0 e0 hp w0)
  have res := Exp.parse_res s.data.toList
  unfold Exp.norm at hr
  rw [hp] at hr res
  have LL := Lib.hid L
  clear hp L
  rcases res with ⟨h0, h1, hok⟩ | ⟨h0, h1, h2⟩
  · simp only at h0 h1 hok
    subst h0 h1
    rw [if_pos rfl] at hr
    simp only [Prod.mk.injEq] at hr
    obtain ⟨rfl, rfl, rfl⟩ := hr
    have PP := Lib.hid (fun (w0 : World) (L0 : Lay w0) => print_exyes x hok w0 L0)
    clear hok
    go_enter Tryz.func15, Tryz.ntmps15
    go_wp2_with fail
    refine (PA.out _).mono ?_
    rintro e' w1 ⟨rfl, hb⟩
    have HB := Lib.hid hb
    have L1 := LL.out.below hb
    have L2 := Lib.hid (L1.below ((Below.refl w1.heap.size w1).alloc (Nat.le_refl _) (.cells #[.int .u64 x.a0, .int .u64 x.a1, .int .u64 x.a2, .int .u64 x.a3, .int .u64 x.a4, .int .u64 x.a5, .bool x.b3, .bool x.b5] 25)))
    clear hb L1
    go_wp2_with fail
    refine (PP.out _ L2.out).mono ?_
    rintro e' w2 ⟨rfl, hb⟩
    have HB2 := Lib.hid (HB.out.trans ((((Below.refl w1.heap.size w1).alloc (Nat.le_refl _) (.cells #[.int .u64 x.a0, .int .u64 x.a1, .int .u64 x.a2, .int .u64 x.a3, .int .u64 x.a4, .int .u64 x.a5, .bool x.b3, .bool x.b5] 25)).trans (hb.mono (by simp))).mono HB.out.size))
    clear hb L2
    go_wp2_with fail
    refine bodyPost_ret (v := .tuple #[.string ⟨x.text.toArray⟩, .int .i64 (0 : Nat), .int .i64 (0 : Nat)]) (by simp [results, Tryz.results15, go_sem]) rfl ⟨rfl, ?_⟩
    exact HB2.out
  · simp only at h0 h1 h2
    have en : e0 ≠ 0 := by omega
    have t1 : ((e0 : Int) != 0) = true := by rw [bne_iff_ne]; omega
    have t2 : (e0 != 0) = true := by rw [bne_iff_ne]; omega
    rw [if_neg en] at hr
    simp only [Prod.mk.injEq] at hr
    obtain ⟨rfl, rfl, rfl⟩ := hr
    clear h0 h1 h2 en
    go_enter Tryz.func15, Tryz.ntmps15
    go_wp2_with fail
    refine (PA.out _).mono ?_
    rintro e' w1 ⟨rfl, hb⟩
    have HB := Lib.hid hb
    clear hb
    go_wp2_with fail
    refine bodyPost_ret (v := .tuple #[.string ⟨([] : List UInt8).toArray⟩, .int .i64 a0, .int .i64 e0]) (by simp [results, Tryz.results15, go_sem]) rfl ⟨rfl, ?_⟩
    exact HB.out.alloc HB.out.size _

/-! how often an expression matches in a day -/
def Exp.Ex.secs (x : Exp.Ex) : Nat := (Bit.mem x.a0).length * (Bit.mem x.a1).length * (Bit.mem x.a2).length
theorem secs_le (a b c : Nat) (ha : a ≤ 64) (hb : b ≤ 64) (hc : c ≤ 64) : a * b ≤ 4096 ∧ a * b * c ≤ 262144 := by
  have h1 : a * b ≤ 64 * 64 := Nat.mul_le_mul ha hb
  exact ⟨h1, Nat.le_trans (Nat.mul_le_mul h1 hc) (by decide)⟩
set_option maxRecDepth 100000 in
set_option maxHeartbeats 4000000 in
theorem seconds_any (x : Exp.Ex) (hx : x.Bd) (w : World) :
    Calls Tryz.prog 21 #[.agg #[.int .u64 x.a0, .int .u64 x.a1, .int .u64 x.a2, .int .u64 x.a3, .int .u64 x.a4, .int .u64 x.a5, .bool x.b3, .bool x.b5]] w fun e w' => e = .returned (.tuple #[.int .i64 (if x.okB = true then x.secs else 0 : Nat), .int .i64 (errOk x.okB)]) ∧ Below w.heap.size w w' := by
  have CK := Lib.hid (fun w0 : World => check_ex x hx w0)
  have E0 : ∀ w1, Below (w.alloc (.cells (exL x).toArray 25)).heap.size (w.alloc (.cells (exL x).toArray 25)) w1 → Row w1 w.heap.size 25 (exL x) ∧ Below w.heap.size w w1 := fun w1 hb =>
    ⟨(Row.new w _ _).below hb, ((Below.refl _ w).alloc (Nat.le_refl _) _).trans (hb.mono (by simp))⟩
  have HE := Lib.hid E0
  clear E0
  cases hok : x.okB with
  | false =>
    rw [hok] at CK
    simp only [errOk, Bool.false_eq_true, if_false] at CK ⊢
    go_enter Tryz.func21, Tryz.ntmps21
    go_wp2_with fail
    refine (CK.out _).mono ?_
    rintro e' w1 ⟨rfl, hb⟩
    obtain ⟨_, bw⟩ := HE.out w1 hb
    have BW := Lib.hid bw
    clear hb bw
    go_wp2_with fail
    refine bodyPost_ret (v := .tuple #[.int .i64 (0 : Nat), .int .i64 16]) (by simp [results, Tryz.results21, go_sem]) rfl ⟨rfl, ?_⟩
    exact BW.out
  | true =>
    rw [hok] at CK
    simp only [errOk, if_true] at CK ⊢
    obtain ⟨n0, h0⟩ : ∃ n, (Bit.mem x.a0).length = n := ⟨_, rfl⟩
    obtain ⟨n1, h1⟩ : ∃ n, (Bit.mem x.a1).length = n := ⟨_, rfl⟩
    obtain ⟨n2, h2⟩ : ∃ n, (Bit.mem x.a2).length = n := ⟨_, rfl⟩
    have hs : x.secs = n0 * n1 * n2 := by unfold Exp.Ex.secs; rw [h0, h1, h2]
    have C0 := Lib.hid (fun w0 : World => count_any x.a0 (hx 0 (by decide)) w0)
    have C1 := Lib.hid (fun w0 : World => count_any x.a1 (hx 1 (by decide)) w0)
    have C2 := Lib.hid (fun w0 : World => count_any x.a2 (hx 2 (by decide)) w0)
    rw [h0] at C0
    rw [h1] at C1
    rw [h2] at C2
    obtain ⟨l1, l2⟩ := secs_le n0 n1 n2 (by rw [← h0]; exact Bit.mem_len _) (by rw [← h1]; exact Bit.mem_len _) (by rw [← h2]; exact Bit.mem_len _)
    rw [hs]
    obtain ⟨m, hm⟩ : ∃ m, n0 * n1 = m := ⟨_, rfl⟩
    obtain ⟨k, hk⟩ : ∃ k, m * n2 = k := ⟨_, rfl⟩
    rw [hm] at l1 l2 ⊢
    rw [hk] at l2 ⊢
    have w1 : IntKind.i64.wrap ((n0 : Int) * (n1 : Int)) = (m : Int) := by rw [← Int.natCast_mul, hm, IntKind.wrap_i64]; omega
    have w2 : IntKind.i64.wrap ((m : Int) * (n2 : Int)) = (k : Int) := by rw [← Int.natCast_mul, hk, IntKind.wrap_i64]; omega
    clear h0 h1 h2 hs hm hk l1 l2
    go_enter Tryz.func21, Tryz.ntmps21
    go_wp2_with fail
    refine (CK.out _).mono ?_
    rintro e' w1 ⟨rfl, hb⟩
    obtain ⟨R, bw⟩ := HE.out w1 hb
    have c0 := R.cell 0; have c1 := R.cell 1; have c2 := R.cell 2
    simp only [exL, List.getElem?_cons_zero, List.getElem?_cons_succ] at c0 c1 c2
    have BW := Lib.hid bw
    clear hb bw R
    go_wp2_with fail
    go_quiet (first | (go_at_call 34; exact Calls.quiet_of_same ((C0.out _).mono fun _ _ ⟨h1, h2⟩ => ⟨h1, h2.symm⟩)) | (go_at_call 34; exact Calls.quiet_of_same ((C1.out _).mono fun _ _ ⟨h1, h2⟩ => ⟨h1, h2.symm⟩)) | (go_at_call 34; exact Calls.quiet_of_same ((C2.out _).mono fun _ _ ⟨h1, h2⟩ => ⟨h1, h2.symm⟩)))
    go_wp2_with fail
    refine bodyPost_ret (v := .tuple #[.int .i64 (k : Nat), .int .i64 0]) (by simp [results, Tryz.results21, go_sem]) rfl ⟨rfl, ?_⟩
    exact BW.out.trans (below_drewN _ _ _)
end Go.Proofs.YtpnfifhanmpapaaGreatDoor
/- The examples of the chapter hold: what each of the statements asks besides. Equal of package expr. -/
namespace Go.Proofs.YtpnfifhanmpapaaGreatDoor
open Go.ChangeShapes Go.WideShapes Go.RowKit Go.Shelf

theorem wk_p1 : Exp.parse [42, 47, 49, 53, 32, 57, 45, 49, 55, 32, 42, 32, 42, 32, 49, 45, 53] = (⟨1, 35185445863425, 261632, 4294967294, 8190, 62, true, false⟩, 0, 0) := by kernel_rfl
theorem wk_p2 : Exp.parse [48, 32, 50, 52, 32, 42, 32, 42, 32, 42] = (Exp.zero, 2, 2) := by kernel_rfl
theorem wk_p3 : Exp.parse [48, 32, 53, 32, 48, 32, 42, 32, 42, 32, 42] = (⟨1, 32, 1, 4294967294, 8190, 127, true, true⟩, 0, 0) := by kernel_rfl
theorem wk_t1 : txt 32 = [53] := by
  have m : Bit.mem 32 = [5] := by decide +kernel
  unfold txt
  rw [m]
  simp [Bit.runs_cons, Bit.runs_nil, Bit.take1, Bit.step1]
  decide +kernel
theorem wk_t2 : txt 1 = [48] := by
  have m : Bit.mem 1 = [0] := by decide +kernel
  unfold txt
  rw [m]
  simp [Bit.runs_cons, Bit.runs_nil, Bit.take1, Bit.step1]
  decide +kernel
theorem wk_n : Exp.norm [48, 32, 53, 32, 48, 32, 42, 32, 42, 32, 42] = ([53, 32, 48, 32, 42, 32, 42, 32, 42], 0, 0) := by
  unfold Exp.norm
  rw [wk_p3]
  have s4 : decide (8190 = Exp.fl 4) = true := by decide +kernel
  have s1 : decide (32 = Exp.fl 1) = false := by decide +kernel
  have s2 : decide (1 = Exp.fl 2) = false := by decide +kernel
  simp only [Exp.Ex.text, Exp.Ex.ws, Exp.Ex.fts, Exp.Ex.ft, Exp.Ex.star, Exp.Ex.at, s4, s1, s2, wk_t1, wk_t2]
  rfl
def wkX : Exp.Ex := ⟨1, 35185445863425, 261632, 4294967294, 8190, 62, true, false⟩
theorem wk_ok : wkX.okB = true := by decide +kernel
theorem wk_s : wkX.secs = 36 := by decide +kernel

set_option maxRecDepth 100000 in
set_option maxHeartbeats 4000000 in
theorem works_any (w : World) (L : Lay w) :
    Calls Tryz.prog 12 #[] w fun e w' => e = .returned (.bool true) ∧ Below w.heap.size w w' := by
  have P1 := Lib.hid (fun w0 : World => parse_any ⟨#[42, 47, 49, 53, 32, 57, 45, 49, 55, 32, 42, 32, 42, 32, 49, 45, 53]⟩ (by decide) _ _ _ wk_p1 w0)
  have P2 := Lib.hid (fun w0 : World => parse_any ⟨#[48, 32, 50, 52, 32, 42, 32, 42, 32, 42]⟩ (by decide) _ _ _ wk_p2 w0)
  have N1 := Lib.hid (fun (w0 : World) (L0 : Lay w0) => normal_any ⟨#[48, 32, 53, 32, 48, 32, 42, 32, 42, 32, 42]⟩ (by decide) _ _ _ wk_n w0 L0)
  have S1 := seconds_any wkX (Exp.Ex.Ok.bd (Exp.okB_iff.1 wk_ok))
  rw [if_pos wk_ok, wk_s, wk_ok] at S1
  have SS := Lib.hid S1
  have LL := Lib.hid L
  clear S1 L
  go_enter Tryz.func12, Tryz.ntmps12
  go_wp2_with fail
  refine (P1.out _).mono ?_
  rintro e' w1 ⟨rfl, hb⟩
  have b1 := hb.alloc hb.size (.cells #[.int .u64 1, .int .u64 35185445863425, .int .u64 261632, .int .u64 4294967294, .int .u64 8190, .int .u64 62, .bool true, .bool false] 25)
  have R1 := Row.new w1 [.int .u64 1, .int .u64 35185445863425, .int .u64 261632, .int .u64 4294967294, .int .u64 8190, .int .u64 62, .bool true, .bool false] 25
  obtain ⟨B, hB⟩ : ∃ B, w1.heap.size = B := ⟨_, rfl⟩
  rw [hB] at R1
  have HB1 := Lib.hid b1
  have HR1 := Lib.hid R1
  have hBz : w.heap.size ≤ B := by rw [← hB]; exact hb.size
  clear hb b1 R1
  go_wp2_with fail
  refine (P2.out _).mono ?_
  rintro e' w2 ⟨rfl, hb⟩
  have hb' := hb.alloc hb.size (.cells #[.int .u64 0, .int .u64 0, .int .u64 0, .int .u64 0, .int .u64 0, .int .u64 0, .bool false, .bool false] 25)
  have b2 := HB1.out.trans (hb'.mono HB1.out.size)
  have R2 := HR1.out.below hb'
  have L2 := LL.out.below (b2.mono (Nat.le_refl _))
  have HB2 := Lib.hid b2
  have HR2 := Lib.hid R2
  have HL2 := Lib.hid L2
  clear hb hb' b2 R2 L2 HB1 HR1 hB
  go_wp2_with fail
  refine (N1.out _ HL2.out).mono ?_
  rintro e' w3 ⟨rfl, hb⟩
  have b3 := HB2.out.trans (hb.mono HB2.out.size)
  have R3 := HR2.out.below hb
  have c0 := R3.cell 0; have c1 := R3.cell 1; have c2 := R3.cell 2; have c3 := R3.cell 3; have c4 := R3.cell 4; have c5 := R3.cell 5; have c6 := R3.cell 6; have c7 := R3.cell 7
  simp only [List.getElem?_cons_zero, List.getElem?_cons_succ] at c0 c1 c2 c3 c4 c5 c6 c7
  have HB3 := Lib.hid b3
  have HR3 := Lib.hid R3
  clear hb b3 R3 HB2 HR2 HL2
  go_wp2_with fail
  refine (SS.out _).mono ?_
  rintro e' w4 ⟨rfl, hb⟩
  have b4 := HB3.out.trans (hb.mono HB3.out.size)
  have R3 := HR3.out.below hb
  have c0 := R3.cell 0; have c1 := R3.cell 1; have c2 := R3.cell 2; have c3 := R3.cell 3; have c4 := R3.cell 4; have c5 := R3.cell 5; have c6 := R3.cell 6; have c7 := R3.cell 7
  simp only [List.getElem?_cons_zero, List.getElem?_cons_succ] at c0 c1 c2 c3 c4 c5 c6 c7
  have HB4 := Lib.hid b4
  clear hb b4 R3 HB3 HR3
  simp only [errOk]
  go_wp2_with fail
  go_ret
  exact ⟨rfl, HB4.out⟩
end Go.Proofs.YtpnfifhanmpapaaGreatDoor
/- The law's full and Made: a valid expression of numbers. -/
namespace Go.Proofs.YtpnfifhanmpapaaGreatDoor
open Go.ChangeShapes Go.WideShapes Go.RowKit Go.Shelf

theorem fullL_index (k : Nat) (h : k < 6) (W : World) : (Instr.index 40 (.agg #[.int .u64 1152921504606846975, .int .u64 1152921504606846975, .int .u64 16777215, .int .u64 4294967294, .int .u64 8190, .int .u64 127]) (.int .i64 (k : Int))).run Tryz.prog W = .ok (.int .u64 (Exp.fl k : Nat)) W :=
  six_cases h (P := fun k => (Instr.index 40 (.agg #[.int .u64 1152921504606846975, .int .u64 1152921504606846975, .int .u64 16777215, .int .u64 4294967294, .int .u64 8190, .int .u64 127]) (.int .i64 (k : Int))).run Tryz.prog W = .ok (.int .u64 (Exp.fl k : Nat)) W)
    (by kernel_rfl) (by kernel_rfl) (by kernel_rfl) (by kernel_rfl) (by kernel_rfl) (by kernel_rfl)
theorem fullL_any (k : Nat) (h : k < 6) (w : World) :
    Calls Tryz.prog 58 #[.int .i64 k] w fun e w' => e = .returned (.int .u64 (Exp.fl k : Nat)) ∧ w = w' := by
  have hi := fun W => fullL_index k h W
  go_enter Tryz.func58, Tryz.ntmps58
  go_wp2
  go_ret
  exact ⟨rfl, rfl⟩

namespace Exp
/-- a set, cut to the numbers of its field; full if it would be empty -/
def mk1 (S i : Nat) : Nat := if S &&& fl i = 0 then fl i else S &&& fl i
theorem mk1_ne (S i : Nat) (h : i < 6) : mk1 S i ≠ 0 := by
  unfold mk1
  split
  · exact (six_full i h).1
  · assumption
theorem mk1_in (S i : Nat) (h : i < 6) : Fld.In (kd6 i) (mk1 S i) := by
  refine Fld.in_of_sub (kd_ok h) ?_
  unfold mk1
  split
  · exact Nat.and_self _
  · show S &&& fl i &&& fl i = S &&& fl i
    rw [Nat.and_assoc, Nat.and_self]
/-- the expression of some numbers -/
def made (z : Ex) (k : Nat) : Ex := ⟨mk1 z.a0 0, mk1 z.a1 1, mk1 z.a2 2, if k % 2 = 1 then fl 3 else mk1 z.a3 3, mk1 z.a4 4, if k / 2 % 2 = 1 then fl 5 else mk1 z.a5 5, decide (k % 2 = 1), decide (k / 2 % 2 = 1)⟩
theorem fl_in (i : Nat) (h : i < 6) : Fld.In (kd6 i) (fl i) := Fld.in_of_sub (kd_ok h) (Nat.and_self _)
theorem made_ok (z : Ex) (k : Nat) : (made z k).Ok := by
  refine ⟨fun i hi => ?_, fun i hi => ?_, fun e => ?_, fun e => ?_⟩
  · refine six_cases hi (P := fun i => (made z k).at i ≠ 0) (mk1_ne _ _ (by decide)) (mk1_ne _ _ (by decide)) (mk1_ne _ _ (by decide)) ?_ (mk1_ne _ _ (by decide)) ?_
    · show (if k % 2 = 1 then fl 3 else mk1 z.a3 3) ≠ 0
      split
      · exact (six_full 3 (by decide)).1
      · exact mk1_ne _ _ (by decide)
    · show (if k / 2 % 2 = 1 then fl 5 else mk1 z.a5 5) ≠ 0
      split
      · exact (six_full 5 (by decide)).1
      · exact mk1_ne _ _ (by decide)
  · refine six_cases hi (P := fun i => Fld.In (kd6 i) ((made z k).at i)) (mk1_in _ _ (by decide)) (mk1_in _ _ (by decide)) (mk1_in _ _ (by decide)) ?_ (mk1_in _ _ (by decide)) ?_
    · show Fld.In (kd6 3) (if k % 2 = 1 then fl 3 else mk1 z.a3 3)
      split
      · exact fl_in 3 (by decide)
      · exact mk1_in _ _ (by decide)
    · show Fld.In (kd6 5) (if k / 2 % 2 = 1 then fl 5 else mk1 z.a5 5)
      split
      · exact fl_in 5 (by decide)
      · exact mk1_in _ _ (by decide)
  · have h : k % 2 = 1 := of_decide_eq_true e
    show (if k % 2 = 1 then fl 3 else mk1 z.a3 3) = fl 3
    rw [if_pos h]
  · have h : k / 2 % 2 = 1 := of_decide_eq_true e
    show (if k / 2 % 2 = 1 then fl 5 else mk1 z.a5 5) = fl 5
    rw [if_pos h]
end Exp
/-- the first j of the sets that are made -/
def mkL (z : Exp.Ex) (j : Nat) : List Value := (List.range 6).map fun i => if i < j then .int .u64 (Exp.mk1 (z.at i) i : Nat) else .int .u64 0
theorem mkL_step (z : Exp.Ex) (k : Nat) (h : k < 6) : (mkL z k).set k (.int .u64 (Exp.mk1 (z.at k) k : Nat)) = mkL z (k + 1) :=
  six_cases h (P := fun k => (mkL z k).set k (.int .u64 (Exp.mk1 (z.at k) k : Nat)) = mkL z (k + 1)) rfl rfl rfl rfl rfl rfl
theorem mkL_at (z : Exp.Ex) (k : Nat) (h : k < 6) : (mkL z k)[k]? = some (.int .u64 0) :=
  six_cases h (P := fun k => (mkL z k)[k]? = some (.int .u64 0)) rfl rfl rfl rfl rfl rfl
theorem setL_index (z : Exp.Ex) (k : Nat) (h : k < 6) (W : World) : (Instr.index 40 (.agg #[.int .u64 z.a0, .int .u64 z.a1, .int .u64 z.a2, .int .u64 z.a3, .int .u64 z.a4, .int .u64 z.a5]) (.int .i64 (k : Int))).run Tryz.prog W = .ok (.int .u64 (z.at k : Nat)) W :=
  six_cases h (P := fun k => (Instr.index 40 (.agg #[.int .u64 z.a0, .int .u64 z.a1, .int .u64 z.a2, .int .u64 z.a3, .int .u64 z.a4, .int .u64 z.a5]) (.int .i64 (k : Int))).run Tryz.prog W = .ok (.int .u64 (z.at k : Nat)) W)
    (by kernel_rfl) (by kernel_rfl) (by kernel_rfl) (by kernel_rfl) (by kernel_rfl) (by kernel_rfl)
theorem u8_and1 (k : Nat) (h : k < 256) : bits .and .u8 (k : Int) 1 = ((k % 2 : Nat) : Int) := by
  have : ∀ k : Nat, k < 256 → bits .and .u8 (k : Int) 1 = ((k % 2 : Nat) : Int) := by decide +kernel
  exact this k h
theorem u8_and2 (k : Nat) (h : k < 256) : bits .and .u8 (k : Int) 2 = ((2 * (k / 2 % 2) : Nat) : Int) := by
  have : ∀ k : Nat, k < 256 → bits .and .u8 (k : Int) 2 = ((2 * (k / 2 % 2) : Nat) : Int) := by decide +kernel
  exact this k h
/-- the world in Made -/
structure MD (w : World) (z : Exp.Ex) (k j : Nat) (W : World) : Prop where
  below : Below w.heap.size w W
  box : Row W w.heap.size 42 [.int .u64 z.a0, .int .u64 z.a1, .int .u64 z.a2, .int .u64 z.a3, .int .u64 z.a4, .int .u64 z.a5, .int .u8 k]
  res : Row W (w.heap.size + 1) 25 (exL Exp.zero)
  l : Row W (w.heap.size + 1 + 1) 40 (mkL z j)
theorem MD.next {w W W' : World} {z : Exp.Ex} {k j : Nat} (h : MD w z k j W) (hb : Below W.heap.size W W') : MD w z k j W' := ⟨h.below.trans (hb.mono h.below.size), h.box.below hb, h.res.below hb, h.l.below hb⟩
theorem MD.set {w W : World} {z : Exp.Ex} {k j : Nat} (h : MD w z k j W) (hj : j < 6) : MD w z k (j + 1) (W.setCell ⟨w.heap.size + 1 + 1, j, none⟩ (.int .u64 (Exp.mk1 (z.at j) j : Nat))) :=
  ⟨bel_cell h.below (by omega) _ _, h.box.other _ _ (by show w.heap.size ≠ w.heap.size + 1 + 1; omega), h.res.other _ _ (by show w.heap.size + 1 ≠ w.heap.size + 1 + 1; omega), by rw [← mkL_step z j hj]; exact h.l.set j _⟩
theorem MD.set2 {w W : World} {z : Exp.Ex} {k j : Nat} (h : MD w z k j W) (hj : j < 6) (v : Value) : MD w z k (j + 1) ((W.setCell ⟨w.heap.size + 1 + 1, j, none⟩ v).setCell ⟨w.heap.size + 1 + 1, j, none⟩ (.int .u64 (Exp.mk1 (z.at j) j : Nat))) :=
  ⟨bel_cell (bel_cell h.below (by omega) _ _) (by omega) _ _, (h.box.other _ _ (by show w.heap.size ≠ w.heap.size + 1 + 1; omega)).other _ _ (by show w.heap.size ≠ w.heap.size + 1 + 1; omega), (h.res.other _ _ (by show w.heap.size + 1 ≠ w.heap.size + 1 + 1; omega)).other _ _ (by show w.heap.size + 1 ≠ w.heap.size + 1 + 1; omega), by
    have q := (h.l.set j v).set j (.int .u64 (Exp.mk1 (z.at j) j : Nat))
    rw [List.set_set, mkL_step z j hj] at q
    exact q⟩
theorem md0 (w : World) (z : Exp.Ex) (k : Nat) : MD w z k 0 (((w.alloc (.cells #[.int .u64 z.a0, .int .u64 z.a1, .int .u64 z.a2, .int .u64 z.a3, .int .u64 z.a4, .int .u64 z.a5, .int .u8 k] 42)).alloc (.cells #[.int .u64 0, .int .u64 0, .int .u64 0, .int .u64 0, .int .u64 0, .int .u64 0, .bool false, .bool false] 25)).alloc (.cells #[.int .u64 0, .int .u64 0, .int .u64 0, .int .u64 0, .int .u64 0, .int .u64 0] 40)) := by
  have r2 := (Row.new (w.alloc (.cells #[.int .u64 z.a0, .int .u64 z.a1, .int .u64 z.a2, .int .u64 z.a3, .int .u64 z.a4, .int .u64 z.a5, .int .u8 k] 42)) (exL Exp.zero) 25).alloc (.cells #[.int .u64 0, .int .u64 0, .int .u64 0, .int .u64 0, .int .u64 0, .int .u64 0] 40)
  have r3 := Row.new ((w.alloc (.cells #[.int .u64 z.a0, .int .u64 z.a1, .int .u64 z.a2, .int .u64 z.a3, .int .u64 z.a4, .int .u64 z.a5, .int .u8 k] 42)).alloc (.cells #[.int .u64 0, .int .u64 0, .int .u64 0, .int .u64 0, .int .u64 0, .int .u64 0, .bool false, .bool false] 25)) (mkL z 0) 40
  rw [World.size_alloc] at r2
  rw [World.size_alloc, World.size_alloc] at r3
  exact ⟨(((Below.refl _ w).alloc (Nat.le_refl _) _).alloc (by simp) _).alloc (by simp; omega) _, ((Row.new w [.int .u64 z.a0, .int .u64 z.a1, .int .u64 z.a2, .int .u64 z.a3, .int .u64 z.a4, .int .u64 z.a5, .int .u8 k] _).alloc _).alloc _, r2, r3⟩

set_option maxRecDepth 100000 in
set_option maxHeartbeats 4000000 in
theorem made_any (z : Exp.Ex) (hz : z.Bd) (k : Nat) (hk : k < 256) (w : World) (x : Exp.Ex) (hx : Exp.made z k = x) :
    Calls Tryz.prog 25 #[.agg #[.int .u64 z.a0, .int .u64 z.a1, .int .u64 z.a2, .int .u64 z.a3, .int .u64 z.a4, .int .u64 z.a5, .int .u8 k]] w fun e w' => e = .returned (.agg #[.int .u64 x.a0, .int .u64 x.a1, .int .u64 x.a2, .int .u64 x.a3, .int .u64 x.a4, .int .u64 x.a5, .bool x.b3, .bool x.b5]) ∧ Below w.heap.size w w' := by
  have M0 := Lib.hid (md0 w z k)
  have SI := Lib.hid (fun (j : Nat) (h : j < 6) (W : World) => setL_index z j h W)
  have FL := Lib.hid (fun (j : Nat) (h : j < 6) (W : World) => fullL_any j h W)
  have HX := Lib.hid hx
  have HZ := Lib.hid hz
  clear hx hz
  go_enter Tryz.func25, Tryz.ntmps25
  go_wp2_with fail
  go_loopw [9] (fun i wr => ∃ j : Nat, j ≤ 6 ∧ i = .int .i64 j ∧ Hid (MD w z k j wr)) (fun i _ => 6 - (intOf i).toNat)
  case atStart => exact ⟨0, Nat.zero_le _, rfl, M0⟩
  case round =>
    obtain ⟨j, hj, rfl, hm⟩ := hrel
    by_cases hlt : j < 6
    · have q1 : decide ((j : Int) < 6) = true := by rw [decide_eq_true_iff]; omega
      have q1n : decide (j < 6) = true := by rw [decide_eq_true_iff]; omega
      have i0 : (0 : Int) ≤ (j : Int) := by omega
      have i1 : (j : Int) < 6 := by omega
      have hi := fun W => SI.out j hlt W
      have c := (hm.out.l.cell j).trans (mkL_at z j hlt)
      have f := hm.out.l.free j
      obtain ⟨S, hS⟩ : ∃ S, z.at j = S := ⟨_, rfl⟩
      obtain ⟨F, hF⟩ : ∃ F, Exp.fl j = F := ⟨_, rfl⟩
      have FJ := Lib.hid (fun W => FL.out j hlt W)
      obtain ⟨m, hmm⟩ : ∃ m, S &&& F = m := ⟨_, rfl⟩
      have hand : bits .and .u64 (S : Int) (F : Int) = (m : Nat) := by rw [← hmm]; exact u64_and_nat S F (by rw [← hS]; exact HZ.out j hlt) (by rw [← hF]; exact fl_lt j hlt)
      have HN := Lib.hid (hm.out.set hlt)
      have HN2 := Lib.hid (hm.out.set2 hlt (.int .u64 (m : Nat)))
      have e1 : Exp.mk1 (z.at j) j = if m = 0 then F else m := by unfold Exp.mk1; rw [hS, hF, hmm]
      rw [e1] at HN HN2
      rw [hF] at FJ
      simp only [hS] at hi
      clear hm hS hF hmm e1
      by_cases m0 : m = 0
      · rw [if_pos m0] at HN2
        have t0 : ((m : Int) == 0) = true := by rw [beq_iff_eq]; omega
        have t0n : (m == 0) = true := by rw [beq_iff_eq]; omega
        clear m0
        go_wp2_with fail
        refine (FJ.out _).mono ?_
        rintro e' w1 ⟨rfl, rfl⟩
        go_wp2_with fail
        refine (FJ.out _).mono ?_
        rintro e' w1 ⟨rfl, rfl⟩
        go_wp2_with fail
        go_roundw
        case rel => exact ⟨j + 1, by omega, by go_num, HN2⟩
        case measure => simp [intOf]; omega
      · rw [if_neg m0] at HN
        have t0 : ((m : Int) == 0) = false := by rw [beq_eq_false_iff_ne]; omega
        have t0n : (m == 0) = false := by rw [beq_eq_false_iff_ne]; omega
        clear m0
        go_wp2_with fail
        refine (FJ.out _).mono ?_
        rintro e' w1 ⟨rfl, rfl⟩
        go_wp2_with fail
        go_roundw
        case rel => exact ⟨j + 1, by omega, by go_num, HN⟩
        case measure => simp [intOf]; omega
    · obtain rfl : j = 6 := by omega
      have r := hm.out.l
      have c0 := r.cell 0; have c1 := r.cell 1; have c2 := r.cell 2; have c3 := r.cell 3; have c4 := r.cell 4; have c5 := r.cell 5
      rw [show mkL z 6 = [.int .u64 (Exp.mk1 z.a0 0 : Nat), .int .u64 (Exp.mk1 z.a1 1 : Nat), .int .u64 (Exp.mk1 z.a2 2 : Nat), .int .u64 (Exp.mk1 z.a3 3 : Nat), .int .u64 (Exp.mk1 z.a4 4 : Nat), .int .u64 (Exp.mk1 z.a5 5 : Nat)] from rfl] at c0 c1 c2 c3 c4 c5
      simp only [List.getElem?_cons_zero, List.getElem?_cons_succ] at c0 c1 c2 c3 c4 c5
      obtain ⟨m0, h0⟩ : ∃ m, Exp.mk1 z.a0 0 = m := ⟨_, rfl⟩
      obtain ⟨m1, h1⟩ : ∃ m, Exp.mk1 z.a1 1 = m := ⟨_, rfl⟩
      obtain ⟨m2, h2⟩ : ∃ m, Exp.mk1 z.a2 2 = m := ⟨_, rfl⟩
      obtain ⟨m3, h3⟩ : ∃ m, Exp.mk1 z.a3 3 = m := ⟨_, rfl⟩
      obtain ⟨m4, h4⟩ : ∃ m, Exp.mk1 z.a4 4 = m := ⟨_, rfl⟩
      obtain ⟨m5, h5⟩ : ∃ m, Exp.mk1 z.a5 5 = m := ⟨_, rfl⟩
      obtain ⟨F3, g3⟩ : ∃ m, Exp.fl 3 = m := ⟨_, rfl⟩
      obtain ⟨F5, g5⟩ : ∃ m, Exp.fl 5 = m := ⟨_, rfl⟩
      have hx := HX.out
      unfold Exp.made at hx
      rw [h0, h1, h2, h3, h4, h5, g3, g5] at hx
      rw [h0] at c0
      rw [h1] at c1
      rw [h2] at c2
      rw [h3] at c3
      rw [h4] at c4
      rw [h5] at c5
      have L3 := Lib.hid (fun W => FL.out 3 (by decide) W)
      have L5 := Lib.hid (fun W => FL.out 5 (by decide) W)
      rw [g3] at L3
      rw [g5] at L5
      have a1 := u8_and1 k hk
      have a2 := u8_and2 k hk
      obtain ⟨p, hp⟩ : ∃ p, k % 2 = p := ⟨_, rfl⟩
      obtain ⟨q, hq⟩ : ∃ q, k / 2 % 2 = q := ⟨_, rfl⟩
      have p2 : p < 2 := by omega
      have q2 : q < 2 := by omega
      rw [hp] at a1 hx
      rw [hq] at a2 hx
      have HX := Lib.hid hx
      clear hp hq hx h0 h1 h2 h3 h4 h5 g3 g5 r
      -- the block of the result
      have M1 := hm.out.next ((Below.refl wr.heap.size wr).alloc (Nat.le_refl _) (.cells #[.int .u64 m0, .int .u64 m1, .int .u64 m2, .int .u64 m3, .int .u64 m4, .int .u64 m5, .bool false, .bool false] 25))
      have R6 := Row.new wr [.int .u64 m0, .int .u64 m1, .int .u64 m2, .int .u64 m3, .int .u64 m4, .int .u64 m5, .bool false, .bool false] 25
      have lz := hm.out.l.lt
      obtain ⟨B, hB⟩ : ∃ B, wr.heap.size = B := ⟨_, rfl⟩
      rw [hB] at R6
      have b1 : w.heap.size ≠ B := by omega
      have b2 : w.heap.size + 1 ≠ B := by omega
      have b3 : B ≠ w.heap.size := by omega
      have b4 : B ≠ w.heap.size + 1 := by omega
      have b5 : w.heap.size ≤ B := by omega
      clear hm lz M0
      rcases (show p = 0 ∨ p = 1 by omega) with rfl | rfl <;> rcases (show q = 0 ∨ q = 1 by omega) with rfl | rfl
      · have a1' : bits .and .u8 (k : Int) 1 = 0 := a1
        have a2' : bits .and .u8 (k : Int) 2 = 0 := a2
        have hx := HX.out
        simp at hx
        have HX := Lib.hid hx
        clear a1 a2 p2 q2 hx
        have ck := (M1.box.cell 6).trans (show _ = some (Value.int .u8 (k : Int)) from rfl)
        have n0 := M1.res.cell 0; have n1 := M1.res.cell 1; have n2 := M1.res.cell 2; have n3 := M1.res.cell 3; have n4 := M1.res.cell 4; have n5 := M1.res.cell 5; have n6 := M1.res.cell 6; have n7 := M1.res.cell 7
        have f0 := M1.res.free 0; have f1 := M1.res.free 1; have f2 := M1.res.free 2; have f3 := M1.res.free 3; have f4 := M1.res.free 4; have f5 := M1.res.free 5; have f6 := M1.res.free 6; have f7 := M1.res.free 7
        simp only [exL, Exp.zero, List.getElem?_cons_zero, List.getElem?_cons_succ, Int.natCast_zero] at n0 n1 n2 n3 n4 n5 n6 n7
        have e0 := R6.cell 0; have e1 := R6.cell 1; have e2 := R6.cell 2; have e3 := R6.cell 3; have e4 := R6.cell 4; have e5 := R6.cell 5; have e6 := R6.cell 6; have e7 := R6.cell 7
        have z0 := R6.free 0; have z1 := R6.free 1; have z2 := R6.free 2; have z3 := R6.free 3; have z4 := R6.free 4; have z5 := R6.free 5; have z6 := R6.free 6; have z7 := R6.free 7
        simp only [List.getElem?_cons_zero, List.getElem?_cons_succ] at e0 e1 e2 e3 e4 e5 e6 e7
        have HM := Lib.hid M1
        clear M1 R6
        go_wp2_with fail
        have hx := HX.out
        subst hx
        refine bodyPost_ret (v := .agg #[.int .u64 (m0 : Nat), .int .u64 (m1 : Nat), .int .u64 (m2 : Nat), .int .u64 (m3 : Nat), .int .u64 (m4 : Nat), .int .u64 (m5 : Nat), .bool false, .bool false]) (by simp [results, Tryz.results25, go_sem, n0, n1, n2, n3, n4, n5, n6, n7]) rfl ⟨rfl, ?_⟩
        have b := HM.out.below
        repeat' refine bel_cell ?_ (by omega) _ _
        exact b
      · have a1' : bits .and .u8 (k : Int) 1 = 0 := a1
        have a2' : bits .and .u8 (k : Int) 2 = 2 := a2
        have hx := HX.out
        simp at hx
        have HX := Lib.hid hx
        clear a1 a2 p2 q2 hx
        have ck := (M1.box.cell 6).trans (show _ = some (Value.int .u8 (k : Int)) from rfl)
        go_wp2_with fail
        clear ck
        obtain ⟨W6, hW6⟩ : ∃ W6, wr.alloc (.cells #[.int .u64 m0, .int .u64 m1, .int .u64 m2, .int .u64 m3, .int .u64 m4, .int .u64 m5, .bool false, .bool false] 25) = W6 := ⟨_, rfl⟩
        rw [hW6] at M1 R6 ⊢
        clear hW6
        have ck := (M1.box.cell 6).trans (show _ = some (Value.int .u8 (k : Int)) from rfl)
        have n0 := M1.res.cell 0; have n1 := M1.res.cell 1; have n2 := M1.res.cell 2; have n3 := M1.res.cell 3; have n4 := M1.res.cell 4; have n5 := M1.res.cell 5; have n6 := M1.res.cell 6; have n7 := M1.res.cell 7
        have f0 := M1.res.free 0; have f1 := M1.res.free 1; have f2 := M1.res.free 2; have f3 := M1.res.free 3; have f4 := M1.res.free 4; have f5 := M1.res.free 5; have f6 := M1.res.free 6; have f7 := M1.res.free 7
        simp only [exL, Exp.zero, List.getElem?_cons_zero, List.getElem?_cons_succ, Int.natCast_zero] at n0 n1 n2 n3 n4 n5 n6 n7
        have e0 := R6.cell 0; have e1 := R6.cell 1; have e2 := R6.cell 2; have e3 := R6.cell 3; have e4 := R6.cell 4; have e5 := R6.cell 5; have e6 := R6.cell 6; have e7 := R6.cell 7
        have z0 := R6.free 0; have z1 := R6.free 1; have z2 := R6.free 2; have z3 := R6.free 3; have z4 := R6.free 4; have z5 := R6.free 5; have z6 := R6.free 6; have z7 := R6.free 7
        simp only [List.getElem?_cons_zero, List.getElem?_cons_succ] at e0 e1 e2 e3 e4 e5 e6 e7
        have HM := Lib.hid M1
        clear M1 R6
        refine (L5.out _).mono ?_
        rintro e' w1 ⟨rfl, rfl⟩
        go_wp2_with fail
        have hx := HX.out
        subst hx
        refine bodyPost_ret (v := .agg #[.int .u64 (m0 : Nat), .int .u64 (m1 : Nat), .int .u64 (m2 : Nat), .int .u64 (m3 : Nat), .int .u64 (m4 : Nat), .int .u64 (F5 : Nat), .bool false, .bool true]) (by simp [results, Tryz.results25, go_sem, n0, n1, n2, n3, n4, n5, n6, n7]) rfl ⟨rfl, ?_⟩
        have b := HM.out.below
        repeat' refine bel_cell ?_ (by omega) _ _
        exact b
      · have a1' : bits .and .u8 (k : Int) 1 = 1 := a1
        have a2' : bits .and .u8 (k : Int) 2 = 0 := a2
        have hx := HX.out
        simp at hx
        have HX := Lib.hid hx
        clear a1 a2 p2 q2 hx
        have ck := (M1.box.cell 6).trans (show _ = some (Value.int .u8 (k : Int)) from rfl)
        go_wp2_with fail
        clear ck
        obtain ⟨W6, hW6⟩ : ∃ W6, wr.alloc (.cells #[.int .u64 m0, .int .u64 m1, .int .u64 m2, .int .u64 m3, .int .u64 m4, .int .u64 m5, .bool false, .bool false] 25) = W6 := ⟨_, rfl⟩
        rw [hW6] at M1 R6 ⊢
        clear hW6
        have ck := (M1.box.cell 6).trans (show _ = some (Value.int .u8 (k : Int)) from rfl)
        have n0 := M1.res.cell 0; have n1 := M1.res.cell 1; have n2 := M1.res.cell 2; have n3 := M1.res.cell 3; have n4 := M1.res.cell 4; have n5 := M1.res.cell 5; have n6 := M1.res.cell 6; have n7 := M1.res.cell 7
        have f0 := M1.res.free 0; have f1 := M1.res.free 1; have f2 := M1.res.free 2; have f3 := M1.res.free 3; have f4 := M1.res.free 4; have f5 := M1.res.free 5; have f6 := M1.res.free 6; have f7 := M1.res.free 7
        simp only [exL, Exp.zero, List.getElem?_cons_zero, List.getElem?_cons_succ, Int.natCast_zero] at n0 n1 n2 n3 n4 n5 n6 n7
        have e0 := R6.cell 0; have e1 := R6.cell 1; have e2 := R6.cell 2; have e3 := R6.cell 3; have e4 := R6.cell 4; have e5 := R6.cell 5; have e6 := R6.cell 6; have e7 := R6.cell 7
        have z0 := R6.free 0; have z1 := R6.free 1; have z2 := R6.free 2; have z3 := R6.free 3; have z4 := R6.free 4; have z5 := R6.free 5; have z6 := R6.free 6; have z7 := R6.free 7
        simp only [List.getElem?_cons_zero, List.getElem?_cons_succ] at e0 e1 e2 e3 e4 e5 e6 e7
        have HM := Lib.hid M1
        clear M1 R6
        refine (L3.out _).mono ?_
        rintro e' w1 ⟨rfl, rfl⟩
        go_wp2_with fail
        have hx := HX.out
        subst hx
        refine bodyPost_ret (v := .agg #[.int .u64 (m0 : Nat), .int .u64 (m1 : Nat), .int .u64 (m2 : Nat), .int .u64 (F3 : Nat), .int .u64 (m4 : Nat), .int .u64 (m5 : Nat), .bool true, .bool false]) (by simp [results, Tryz.results25, go_sem, n0, n1, n2, n3, n4, n5, n6, n7]) rfl ⟨rfl, ?_⟩
        have b := HM.out.below
        repeat' refine bel_cell ?_ (by omega) _ _
        exact b
      · have a1' : bits .and .u8 (k : Int) 1 = 1 := a1
        have a2' : bits .and .u8 (k : Int) 2 = 2 := a2
        have hx := HX.out
        simp at hx
        have HX := Lib.hid hx
        clear a1 a2 p2 q2 hx
        have ck := (M1.box.cell 6).trans (show _ = some (Value.int .u8 (k : Int)) from rfl)
        go_wp2_with fail
        clear ck
        obtain ⟨W6, hW6⟩ : ∃ W6, wr.alloc (.cells #[.int .u64 m0, .int .u64 m1, .int .u64 m2, .int .u64 m3, .int .u64 m4, .int .u64 m5, .bool false, .bool false] 25) = W6 := ⟨_, rfl⟩
        rw [hW6] at M1 R6 ⊢
        clear hW6
        have ck := (M1.box.cell 6).trans (show _ = some (Value.int .u8 (k : Int)) from rfl)
        have n0 := M1.res.cell 0; have n1 := M1.res.cell 1; have n2 := M1.res.cell 2; have n3 := M1.res.cell 3; have n4 := M1.res.cell 4; have n5 := M1.res.cell 5; have n6 := M1.res.cell 6; have n7 := M1.res.cell 7
        have f0 := M1.res.free 0; have f1 := M1.res.free 1; have f2 := M1.res.free 2; have f3 := M1.res.free 3; have f4 := M1.res.free 4; have f5 := M1.res.free 5; have f6 := M1.res.free 6; have f7 := M1.res.free 7
        simp only [exL, Exp.zero, List.getElem?_cons_zero, List.getElem?_cons_succ, Int.natCast_zero] at n0 n1 n2 n3 n4 n5 n6 n7
        have e0 := R6.cell 0; have e1 := R6.cell 1; have e2 := R6.cell 2; have e3 := R6.cell 3; have e4 := R6.cell 4; have e5 := R6.cell 5; have e6 := R6.cell 6; have e7 := R6.cell 7
        have z0 := R6.free 0; have z1 := R6.free 1; have z2 := R6.free 2; have z3 := R6.free 3; have z4 := R6.free 4; have z5 := R6.free 5; have z6 := R6.free 6; have z7 := R6.free 7
        simp only [List.getElem?_cons_zero, List.getElem?_cons_succ] at e0 e1 e2 e3 e4 e5 e6 e7
        have HM := Lib.hid M1
        clear M1 R6
        refine (L3.out _).mono ?_
        rintro e' w1 ⟨rfl, rfl⟩
        go_wp2_with fail
        refine (L5.out _).mono ?_
        rintro e' w1 ⟨rfl, rfl⟩
        go_wp2_with fail
        have hx := HX.out
        subst hx
        refine bodyPost_ret (v := .agg #[.int .u64 (m0 : Nat), .int .u64 (m1 : Nat), .int .u64 (m2 : Nat), .int .u64 (F3 : Nat), .int .u64 (m4 : Nat), .int .u64 (F5 : Nat), .bool true, .bool true]) (by simp [results, Tryz.results25, go_sem, n0, n1, n2, n3, n4, n5, n6, n7]) rfl ⟨rfl, ?_⟩
        have b := HM.out.below
        repeat' refine bel_cell ?_ (by omega) _ _
        exact b
end Go.Proofs.YtpnfifhanmpapaaGreatDoor
