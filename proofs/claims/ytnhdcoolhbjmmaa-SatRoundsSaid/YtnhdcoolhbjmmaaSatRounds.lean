/- For all int64 numbers a and all ints n, SatRounds returns true: powers of package sat of great exponents are what the document's definition gives. No conditions. -/
import Derived.Test.YtnhdcoolhbjmmaaRows
import Derived.Test.YtnhdcoolhbjmmaaSatH
import Derived.Laws.BitsAllLaws
import Derived.OpenShut
import Derived.ChangeOld
namespace Go.Proofs.Ytnhdcoolhbjmmaa.satRounds
open Go.ChangeShapes Go.WideShapes Go.ChangeAt Go.RowKit

theorem not64 (n : Int) (n0 : -9223372036854775808 ≤ n) (n1 : n ≤ 9223372036854775807) : bits .xor .i64 (-1) n = -1 - n := by
  show IntKind.i64.wrap ((BitVec.ofInt 64 (-1) ^^^ BitVec.ofInt 64 n).toNat : Int) = _
  have h1 : BitVec.ofInt 64 (-1) = BitVec.allOnes 64 := by decide
  rw [h1, BitVec.allOnes_xor, BitVec.toNat_not, BitVec.toNat_ofInt]
  simp [IntKind.wrap, IntKind.bits, IntKind.signed]
  omega
theorem or64 (m : Nat) (h : m < 9223372036854775808) : bits .or .i64 (m : Int) 64 = ((m ||| 64 : Nat) : Int) := by
  show IntKind.i64.wrap ((BitVec.ofInt 64 (m : Int) ||| BitVec.ofInt 64 ((64 : Nat) : Int)).toNat : Int) = _
  rw [BitVec.toNat_or, ofInt_u64 m (by omega), ofInt_u64 64 (by omega)]
  have k : m ||| 64 < 2 ^ 63 := Nat.or_lt_two_pow (by omega) (by omega)
  simp [IntKind.wrap, IntKind.bits, IntKind.signed]
  omega
/-- the exponent is from 64 on -/
theorem expo (n : Int) (n0 : -9223372036854775808 ≤ n) (n1 : n ≤ 9223372036854775807) :
    64 ≤ bits BinOp.or IntKind.i64 (max n (bits BinOp.xor IntKind.i64 (-1) n) / 2) 64 ∧ bits BinOp.or IntKind.i64 (max n (bits BinOp.xor IntKind.i64 (-1) n) / 2) 64 ≤ 9223372036854775807 := by
  rw [not64 n n0 n1]
  obtain ⟨m, hm⟩ := Int.eq_ofNat_of_zero_le (show 0 ≤ max n (-1 - n) / 2 by omega)
  rw [hm, or64 m (by omega)]
  have k1 : 64 ≤ m ||| 64 := Nat.right_le_or
  have k2 : m ||| 64 < 2 ^ 63 := Nat.or_lt_two_pow (by omega) (by omega)
  omega
theorem far (a M : Int) (h : 64 ≤ M) : powS a M = farS (clip a) (M.toNat % 2) := by
  rw [powS_pos (by omega), pow_far' _ _ (by omega)]

theorem walk (a n : Int) (w : World) (wa : (Lit.int .i64 a).wf = true) (wn : (Lit.int .i64 n).wf = true) :
    Calls Try.prog 12 #[.int .i64 a, .int .i64 n] w fun e w' => e = .returned (.bool true) ∧ Below w.heap.size w w' := by
  obtain ⟨n0, n1⟩ := bounds_i64 wn
  obtain ⟨m0, m1⟩ := expo n n0 n1
  have F := far a _ m0
  generalize hM : bits BinOp.or IntKind.i64 (max n (bits BinOp.xor IntKind.i64 (-1) n) / 2) 64 = M at *
  have HM := Lib.hid hM
  have hsg : IntKind.i64.signed = true := rfl
  by_cases a0 : a = 0
  · subst a0
    have P : powS 0 M = 0 := by rw [F]; unfold farS; simp [clip]
    have PP := Lib.hid P
    clear P F hM
    go_enter Try.func12, Try.ntmps12
    go_wp2_with fail
    rw [HM.out]
    refine (powV _ _ 0 _ m1 PP.out).mono ?_
    rintro e w1 ⟨rfl, hb1⟩
    go_wp2_with fail
    refine (works_any _).mono ?_
    rintro e w2 ⟨rfl, hb2⟩
    go_wp2_with fail
    go_ret
    have s1 := hb1.size
    exact ⟨rfl, hb1.trans (hb2.mono (by omega))⟩
  · have e0 : (a == 0) = false := beq_eq_false_iff_ne.2 a0
    by_cases b1 : a = 1
    · subst b1
      have P : powS 1 M = 1 := by rw [F, clip_in (by omega) (by omega)]; unfold farS; simp
      have PP := Lib.hid P
      clear P F HM
      go_enter Try.func12, Try.ntmps12
      go_wp2_with fail
      refine (powV _ _ (1) _ m1 PP.out).mono ?_
      rintro e w1 ⟨rfl, hb1⟩
      go_wp2_with fail
      refine (works_any _).mono ?_
      rintro e w2 ⟨rfl, hb2⟩
      go_wp2_with fail
      go_ret
      have s1 := hb1.size
      exact ⟨rfl, hb1.trans (hb2.mono (by omega))⟩
    · have e1 : (a == 1) = false := beq_eq_false_iff_ne.2 b1
      by_cases b2 : a = -1
      · subst b2
        by_cases p : M % 2 = 1
        · have pt : (M % 2 == 1) = true := beq_iff_eq.2 p
          have po : M.toNat % 2 = 1 := by omega
          have P : powS (-1) M = -1 := by rw [F, po, clip_in (by omega) (by omega)]; decide
          clear p po
          have PP := Lib.hid P
          clear P F HM
          go_enter Try.func12, Try.ntmps12
          go_wp2_with fail
          refine (powV _ _ (-1) _ m1 PP.out).mono ?_
          rintro e w1 ⟨rfl, hb1⟩
          go_wp2_with fail
          refine (works_any _).mono ?_
          rintro e w2 ⟨rfl, hb2⟩
          go_wp2_with fail
          go_ret
          have s1 := hb1.size
          exact ⟨rfl, hb1.trans (hb2.mono (by omega))⟩
        · have pt : (M % 2 == 1) = false := beq_eq_false_iff_ne.2 p
          have po : M.toNat % 2 = 0 := by omega
          have P : powS (-1) M = 1 := by rw [F, po, clip_in (by omega) (by omega)]; decide
          clear p po
          have PP := Lib.hid P
          clear P F HM
          go_enter Try.func12, Try.ntmps12
          go_wp2_with fail
          refine (powV _ _ (1) _ m1 PP.out).mono ?_
          rintro e w1 ⟨rfl, hb1⟩
          go_wp2_with fail
          refine (works_any _).mono ?_
          rintro e w2 ⟨rfl, hb2⟩
          go_wp2_with fail
          go_ret
          have s1 := hb1.size
          exact ⟨rfl, hb1.trans (hb2.mono (by omega))⟩
      · have e2 : (a == -1) = false := beq_eq_false_iff_ne.2 b2
        by_cases b3 : a < 0
        · have d3 : decide (a < 0) = true := by simp; omega
          have c3 : clip a ≤ -2 := by unfold clip; omega
          by_cases p : M % 2 = 1
          · have pt : (M % 2 == 1) = true := beq_iff_eq.2 p
            have po : M.toNat % 2 = 1 := by omega
            have P : powS a M = -4611686018427387904 := by rw [F, po]; unfold farS; rw [if_neg (by omega), if_neg (by omega), if_neg (by omega), if_pos ⟨by omega, rfl⟩]
            clear p po c3
            have PP := Lib.hid P
            clear P F HM
            go_enter Try.func12, Try.ntmps12
            go_wp2_with fail
            refine (powV _ _ (-4611686018427387904) _ m1 PP.out).mono ?_
            rintro e w1 ⟨rfl, hb1⟩
            go_wp2_with fail
            refine (works_any _).mono ?_
            rintro e w2 ⟨rfl, hb2⟩
            go_wp2_with fail
            go_ret
            have s1 := hb1.size
            exact ⟨rfl, hb1.trans (hb2.mono (by omega))⟩
          · have pt : (M % 2 == 1) = false := beq_eq_false_iff_ne.2 p
            have po : M.toNat % 2 = 0 := by omega
            have P : powS a M = 4611686018427387904 := by rw [F, po]; unfold farS; rw [if_neg (by omega), if_neg (by omega), if_neg (by omega), if_neg (by omega)]
            clear p po c3
            have PP := Lib.hid P
            clear P F HM
            go_enter Try.func12, Try.ntmps12
            go_wp2_with fail
            refine (powV _ _ (4611686018427387904) _ m1 PP.out).mono ?_
            rintro e w1 ⟨rfl, hb1⟩
            go_wp2_with fail
            refine (works_any _).mono ?_
            rintro e w2 ⟨rfl, hb2⟩
            go_wp2_with fail
            go_ret
            have s1 := hb1.size
            exact ⟨rfl, hb1.trans (hb2.mono (by omega))⟩
        · have d3 : decide (a < 0) = false := by simp; omega
          have c3 : 2 ≤ clip a := by unfold clip; omega
          have P : powS a M = 4611686018427387904 := by rw [F]; unfold farS; rw [if_neg (by omega), if_neg (by omega), if_neg (by omega), if_neg (by omega)]
          clear c3
          have PP := Lib.hid P
          clear P F HM
          go_enter Try.func12, Try.ntmps12
          go_wp2_with fail
          refine (powV _ _ (4611686018427387904) _ m1 PP.out).mono ?_
          rintro e w1 ⟨rfl, hb1⟩
          go_wp2_with fail
          refine (works_any _).mono ?_
          rintro e w2 ⟨rfl, hb2⟩
          go_wp2_with fail
          go_ret
          have s1 := hb1.size
          exact ⟨rfl, hb1.trans (hb2.mono (by omega))⟩

theorem own : ownKnob Try.prog.godebug = none := by kernel_rfl
theorem laidOut : laidOutB Try.prog = true := by kernel_rfl

set_option maxRecDepth 100000 in
theorem lifted (os : Os) (started : os.Started) (H : Type) (enc : TypeId × Value → H) :
    ReturnsInHanded {} Try.checked os 12 .any (Rows.satRoundsSpec.pre6 enc Try.prog Try.f12 Rows.satRoundsRow.domain false) (Rows.satRoundsSpec.post enc Try.prog Try.f12 false true false false) := by
  refine returnsInHanded_of_change (C := Try.checked) own started (by kernel_rfl) Try.func12
    (ChangeSpec.witness6 (enc := enc) (C := Try.checked) false ⟨#[], #[.int .i64 0, .int .i64 0], []⟩ 8 (by kernel_rfl) (by kernel_rfl) (by kernel_rfl) (by kernel_rfl)) ?_
  intro W base args ds gs before hval0 hW hcnd _
  have hval : ∀ (j : Nat) t v, Try.f12.params[j]? = some t → args[j]? = some v → Value.okWide Try.prog W .any base t v := hval0
  have hW' := hW
  obtain ⟨p, q, hA0, hV, rfl, hfz, hnd⟩ := hW
  have hA : DataW.TrodAll enc Try.prog W 0 (fun _ => true) true Try.f12.params.toList args.toList ds p := hA0
  rw [Try.params12] at hA hval
  obtain ⟨v0, vs0, d0, ds0, p0, q0, hargs, rfl, rfl, h0, r0⟩ := trodAll_cons hA
  obtain ⟨v1, vs1, d1, ds1, p1, q1, rfl, rfl, rfl, h1, r1⟩ := trodAll_cons r0
  obtain ⟨rfl, rfl, rfl⟩ := trodAll_nil r1
  obtain rfl : args = #[v0, v1] := by cases args; simp_all
  obtain ⟨rfl, rfl⟩ := trodVars_none hV
  obtain ⟨a0, rfl, rfl, rfl, w0⟩ := open_int Try.underlying2 (hval 0 2 v0 rfl rfl) h0
  obtain ⟨a1, rfl, rfl, rfl, w1⟩ := open_int Try.underlying3 (hval 1 3 v1 rfl rfl) h1
  clear hA0 hval0
  refine (walk a0 a1 W w0 w1).mono fun e W' ⟨he, bel⟩ => ?_
  subst he
  exact ⟨_, rfl, _, _, _, [], _, [], hW', trodAll_mk1 (shut_bool Try.underlying4 _), (trodAll_cons_mk (shut_int Try.underlying2 w0) (trodAll_cons_mk (shut_int Try.underlying3 w1) trodAll_mk0)), rfl, bel.frame _, fun h => by cases h⟩

theorem proved : Rows.SatRoundsSaid :=
  OpenClaim.holds_of_wide 12 Try.f12 rfl rfl rfl rfl rfl rfl rfl ⟨rfl, rfl, rfl, rfl, rfl⟩ rfl rfl rfl rfl rfl (by kernel_rfl) Try.func12 (by kernel_rfl)
    (of_decide_eq_true (by kernel_rfl)) (by unfold Func.isWrapper; first | (rw [if_pos (by decide +kernel)]; kernel_rfl) | (rw [if_neg (by decide +kernel)]; exact ⟨rfl, rfl⟩))
    (fun os started H enc _ => lifted os started H enc)
end Go.Proofs.Ytnhdcoolhbjmmaa.satRounds
