/- ExprKnown returns true: the examples of the chapter, the macros, and what is not valid. Condition: the program's tables start as its text lays them (tied). -/
import Derived.Test.YtpnfifhanmpapaaGreatDoorMExpG
import Derived.Test.YtpnfifhanmpapaaGreatDoorExpBoth
namespace Go.Proofs.YtpnfifhanmpapaaGreatDoor.exprKnown
open Go.ChangeShapes Go.WideShapes Go.ChangeAt Go.RowKit Go.ChangeMaps

/-- texts, and the normal texts that they have -/
def rows : List (List UInt8 × List UInt8) := [([64, 121, 101, 97, 114, 108, 121], [48, 32, 48, 32, 49, 32, 49, 32, 42]), ([64, 97, 110, 110, 117, 97, 108, 108, 121], [48, 32, 48, 32, 49, 32, 49, 32, 42]), ([64, 109, 111, 110, 116, 104, 108, 121], [48, 32, 48, 32, 49, 32, 42, 32, 42]), ([64, 119, 101, 101, 107, 108, 121], [48, 32, 48, 32, 42, 32, 42, 32, 48]), ([64, 100, 97, 105, 108, 121], [48, 32, 48, 32, 42, 32, 42, 32, 42]), ([64, 109, 105, 100, 110, 105, 103, 104, 116], [48, 32, 48, 32, 42, 32, 42, 32, 42]), ([64, 104, 111, 117, 114, 108, 121], [48, 32, 42, 32, 42, 32, 42, 32, 42]), ([64, 109, 105, 110, 117, 116, 101, 108, 121], [42, 32, 42, 32, 42, 32, 42, 32, 42]), ([64, 115, 101, 99, 111, 110, 100, 108, 121], [42, 32, 42, 32, 42, 32, 42, 32, 42, 32, 42]), ([48, 32, 48, 32, 49, 51, 32, 42, 32, 53], [48, 32, 48, 32, 49, 51, 32, 42, 32, 53]), ([32, 49, 9, 48, 32, 48, 32, 49, 32, 49, 32, 42, 32], [49, 32, 48, 32, 48, 32, 49, 32, 49, 32, 42])]
/-- texts that are not read, where they are wrong, and how -/
def bads : List (List UInt8 × Nat × Nat) := [([], 0, 10), ([32, 32], 2, 10), ([42, 32, 42, 32, 42, 32, 42], 7, 10), ([48, 32, 50, 52, 32, 42, 32, 42, 32, 42], 2, 2), ([48, 32, 48, 32, 32, 120, 32, 42, 32, 42], 5, 10), ([32, 64, 110, 101, 118, 101, 114], 1, 10), ([64, 100, 97, 105, 108, 121, 32, 120], 8, 10), ([64, 68, 97, 105, 108, 121], 0, 10), ([42, 32, 42, 32, 42, 32, 42, 32, 42, 32, 42, 32, 42], 12, 10), ([54, 49, 32, 48, 32, 120, 32, 42, 32, 42], 0, 2), ([42, 32, 42, 32, 42, 32, 42, 32, 42, 32, 56], 10, 2)]
/-- what Parse says of both texts of a row, computed -/
def rowOk (p : List UInt8 × List UInt8) : Bool :=
  decide (p.1.length ≤ 100) && decide (p.2.length ≤ 100) && decide ((Exp.parse p.1).2.2 = 0) && decide ((Exp.parse p.2).2.2 = 0) && decide (p.1 ≠ []) &&
    decide ((Exp.macR p.1).2 = (p.1.head? == some 64))
theorem rows_ok : ∀ p ∈ rows, rowOk p = true := by decide +kernel
def eqE (x y : Exp.Ex) : Bool := decide (x.a0 = y.a0) && decide (x.a1 = y.a1) && decide (x.a2 = y.a2) && decide (x.a3 = y.a3) && decide (x.a4 = y.a4) && decide (x.a5 = y.a5) && decide (x.b3 = y.b3) && decide (x.b5 = y.b5)
theorem eqE_eq {x y : Exp.Ex} (h : eqE x y = true) : x = y := by
  cases x; cases y; simp [eqE] at h; simp [h]
theorem rows_norm : ∀ p ∈ rows, Exp.norm p.1 = (p.2, 0, 0) := by decide +kernel
theorem rows_mac : ∀ p ∈ rows, eqE (Exp.macR p.1).1 (if (Exp.macR p.1).2 = true then (Exp.parse p.2).1 else Exp.zero) = true := by decide +kernel
theorem bads_parse : ∀ p ∈ bads, p.1.length ≤ 100 ∧ eqE (Exp.parse p.1).1 Exp.zero = true ∧ (Exp.parse p.1).2 = p.2 := by decide +kernel
def rowL : List Value := [.string ⟨#[64, 121, 101, 97, 114, 108, 121]⟩, .string ⟨#[48, 32, 48, 32, 49, 32, 49, 32, 42]⟩, .string ⟨#[64, 97, 110, 110, 117, 97, 108, 108, 121]⟩, .string ⟨#[48, 32, 48, 32, 49, 32, 49, 32, 42]⟩, .string ⟨#[64, 109, 111, 110, 116, 104, 108, 121]⟩, .string ⟨#[48, 32, 48, 32, 49, 32, 42, 32, 42]⟩, .string ⟨#[64, 119, 101, 101, 107, 108, 121]⟩, .string ⟨#[48, 32, 48, 32, 42, 32, 42, 32, 48]⟩, .string ⟨#[64, 100, 97, 105, 108, 121]⟩, .string ⟨#[48, 32, 48, 32, 42, 32, 42, 32, 42]⟩, .string ⟨#[64, 109, 105, 100, 110, 105, 103, 104, 116]⟩, .string ⟨#[48, 32, 48, 32, 42, 32, 42, 32, 42]⟩, .string ⟨#[64, 104, 111, 117, 114, 108, 121]⟩, .string ⟨#[48, 32, 42, 32, 42, 32, 42, 32, 42]⟩, .string ⟨#[64, 109, 105, 110, 117, 116, 101, 108, 121]⟩, .string ⟨#[42, 32, 42, 32, 42, 32, 42, 32, 42]⟩, .string ⟨#[64, 115, 101, 99, 111, 110, 100, 108, 121]⟩, .string ⟨#[42, 32, 42, 32, 42, 32, 42, 32, 42, 32, 42]⟩, .string ⟨#[48, 32, 48, 32, 49, 51, 32, 42, 32, 53]⟩, .string ⟨#[48, 32, 48, 32, 49, 51, 32, 42, 32, 53]⟩, .string ⟨#[32, 49, 9, 48, 32, 48, 32, 49, 32, 49, 32, 42, 32]⟩, .string ⟨#[49, 32, 48, 32, 48, 32, 49, 32, 49, 32, 42]⟩]
def badL : List Value := [.string ⟨#[]⟩, .int .i64 0, .int .i64 10, .string ⟨#[32, 32]⟩, .int .i64 2, .int .i64 10, .string ⟨#[42, 32, 42, 32, 42, 32, 42]⟩, .int .i64 7, .int .i64 10, .string ⟨#[48, 32, 50, 52, 32, 42, 32, 42, 32, 42]⟩, .int .i64 2, .int .i64 2, .string ⟨#[48, 32, 48, 32, 32, 120, 32, 42, 32, 42]⟩, .int .i64 5, .int .i64 10, .string ⟨#[32, 64, 110, 101, 118, 101, 114]⟩, .int .i64 1, .int .i64 10, .string ⟨#[64, 100, 97, 105, 108, 121, 32, 120]⟩, .int .i64 8, .int .i64 10, .string ⟨#[64, 68, 97, 105, 108, 121]⟩, .int .i64 0, .int .i64 10, .string ⟨#[42, 32, 42, 32, 42, 32, 42, 32, 42, 32, 42, 32, 42]⟩, .int .i64 12, .int .i64 10, .string ⟨#[54, 49, 32, 48, 32, 120, 32, 42, 32, 42]⟩, .int .i64 0, .int .i64 2, .string ⟨#[42, 32, 42, 32, 42, 32, 42, 32, 42, 32, 56]⟩, .int .i64 10, .int .i64 2]
def rowAt (k : Nat) : List UInt8 × List UInt8 := rows.getD k ([], [])
def badAt (k : Nat) : List UInt8 × Nat × Nat := bads.getD k ([], 0, 0)
theorem rowL_at (k : Nat) (h : k < 11) : rowL[k * 2]? = some (.string ⟨(rowAt k).1.toArray⟩) ∧ rowL[k * 2 + 1]? = some (.string ⟨(rowAt k).2.toArray⟩) := by
  match k, h with
  | 0, _ => exact ⟨rfl, rfl⟩
  | 1, _ => exact ⟨rfl, rfl⟩
  | 2, _ => exact ⟨rfl, rfl⟩
  | 3, _ => exact ⟨rfl, rfl⟩
  | 4, _ => exact ⟨rfl, rfl⟩
  | 5, _ => exact ⟨rfl, rfl⟩
  | 6, _ => exact ⟨rfl, rfl⟩
  | 7, _ => exact ⟨rfl, rfl⟩
  | 8, _ => exact ⟨rfl, rfl⟩
  | 9, _ => exact ⟨rfl, rfl⟩
  | 10, _ => exact ⟨rfl, rfl⟩
theorem badL_at (k : Nat) (h : k < 11) : badL[k * 3]? = some (.string ⟨(badAt k).1.toArray⟩) ∧ badL[k * 3 + 1]? = some (.int .i64 ((badAt k).2.1 : Nat)) ∧ badL[k * 3 + 2]? = some (.int .i64 ((badAt k).2.2 : Nat)) := by
  match k, h with
  | 0, _ => exact ⟨rfl, rfl, rfl⟩
  | 1, _ => exact ⟨rfl, rfl, rfl⟩
  | 2, _ => exact ⟨rfl, rfl, rfl⟩
  | 3, _ => exact ⟨rfl, rfl, rfl⟩
  | 4, _ => exact ⟨rfl, rfl, rfl⟩
  | 5, _ => exact ⟨rfl, rfl, rfl⟩
  | 6, _ => exact ⟨rfl, rfl, rfl⟩
  | 7, _ => exact ⟨rfl, rfl, rfl⟩
  | 8, _ => exact ⟨rfl, rfl, rfl⟩
  | 9, _ => exact ⟨rfl, rfl, rfl⟩
  | 10, _ => exact ⟨rfl, rfl, rfl⟩
theorem rowAt_mem (k : Nat) (h : k < 11) : rowAt k ∈ rows := by
  unfold rowAt
  rw [List.getD_eq_getElem?_getD, List.getElem?_eq_getElem (show k < rows.length from h)]
  exact List.getElem_mem _
theorem badAt_mem (k : Nat) (h : k < 11) : badAt k ∈ bads := by
  unfold badAt
  rw [List.getD_eq_getElem?_getD, List.getElem?_eq_getElem (show k < bads.length from h)]
  exact List.getElem_mem _
/-- what holds of a row's texts -/
structure RowF (S1 S2 : ByteArray) (y : Exp.Ex) (is : Bool) : Prop where
  l1 : S1.size ≤ 100
  l2 : S2.size ≤ 100
  nn : Exp.norm S1.data.toList = (S2.data.toList, 0, 0)
  ps : Exp.parse S2.data.toList = (y, 0, 0)
  mc : Exp.macR S1.data.toList = (if is = true then y else Exp.zero, is)
  hd : ∃ b r, S1.data.toList = b :: r ∧ is = (b == 64)
theorem rowF (k : Nat) (h : k < 11) : ∃ y is, RowF ⟨(rowAt k).1.toArray⟩ ⟨(rowAt k).2.toArray⟩ y is := by
  have m := rowAt_mem k h
  have ok := rows_ok _ m
  have nn := rows_norm _ m
  have mc := rows_mac _ m
  unfold rowOk at ok
  simp only [Bool.and_eq_true, decide_eq_true_iff] at ok
  obtain ⟨⟨⟨⟨⟨a, b⟩, c⟩, d⟩, ne⟩, hh⟩ := ok
  refine ⟨(Exp.parse (rowAt k).2).1, (Exp.macR (rowAt k).1).2, ?_⟩
  refine ⟨by rw [Lib.size_eq]; exact a, by rw [Lib.size_eq]; exact b, nn, ?_, ?_, ?_⟩
  · have r := Exp.parse_res (rowAt k).2
    rw [d] at r
    rcases r with ⟨_, q, _⟩ | ⟨_, _, q⟩
    · exact Prod.ext rfl (Prod.ext q d)
    · omega
  · exact Prod.ext (eqE_eq mc) rfl
  · cases e : (rowAt k).1 with
    | nil => exact absurd e ne
    | cons b r =>
      refine ⟨b, r, rfl, ?_⟩
      rw [e] at hh
      rw [hh]
      rfl
theorem badF (k : Nat) (h : k < 11) : (⟨(badAt k).1.toArray⟩ : ByteArray).size ≤ 100 ∧ Exp.parse (badAt k).1 = (Exp.zero, (badAt k).2.1, (badAt k).2.2) := by
  obtain ⟨a, b, c⟩ := bads_parse _ (badAt_mem k h)
  exact ⟨by rw [Lib.size_eq]; exact a, Prod.ext (eqE_eq b) c⟩

set_option maxRecDepth 100000 in
set_option maxHeartbeats 8000000 in
theorem equal_any (x y : Exp.Ex) (b : Bool) (hb : eqE x y = b) (w : World) :
    Calls Tryz.prog 39 #[.agg #[.int .u64 x.a0, .int .u64 x.a1, .int .u64 x.a2, .int .u64 x.a3, .int .u64 x.a4, .int .u64 x.a5, .bool x.b3, .bool x.b5], .agg #[.int .u64 y.a0, .int .u64 y.a1, .int .u64 y.a2, .int .u64 y.a3, .int .u64 y.a4, .int .u64 y.a5, .bool y.b3, .bool y.b5]] w fun e w' => e = .returned (.bool b) ∧ Below w.heap.size w w' := by
  obtain ⟨x0, x1, x2, x3, x4, x5, p, q⟩ := x
  obtain ⟨y0, y1, y2, y3, y4, y5, r, s⟩ := y
  by_cases h0 : x0 = y0
  · subst h0
    by_cases h1 : x1 = y1
    · subst h1
      by_cases h2 : x2 = y2
      · subst h2
        by_cases h3 : x3 = y3
        · subst h3
          by_cases h4 : x4 = y4
          · subst h4
            by_cases h5 : x5 = y5
            · subst h5
              cases p <;> cases q <;> cases r <;> cases s
              all_goals
                go_enter Tryz.func39, Tryz.ntmps39
                go_wp2_with fail
                go_ret
                exact ⟨by rw [← hb]; simp [eqE], ((Below.refl w.heap.size w).alloc (Nat.le_refl _) _).alloc (by simp) _⟩
            · have t : ((x5 : Int) == (y5 : Int)) = false := by rw [beq_eq_false_iff_ne]; omega
              have tn : (x5 == y5) = false := by rw [beq_eq_false_iff_ne]; omega
              go_enter Tryz.func39, Tryz.ntmps39
              go_wp2_with fail
              go_ret
              exact ⟨by rw [← hb]; simp [eqE, h5], ((Below.refl w.heap.size w).alloc (Nat.le_refl _) _).alloc (by simp) _⟩
          · have t : ((x4 : Int) == (y4 : Int)) = false := by rw [beq_eq_false_iff_ne]; omega
            have tn : (x4 == y4) = false := by rw [beq_eq_false_iff_ne]; omega
            go_enter Tryz.func39, Tryz.ntmps39
            go_wp2_with fail
            go_ret
            exact ⟨by rw [← hb]; simp [eqE, h4], ((Below.refl w.heap.size w).alloc (Nat.le_refl _) _).alloc (by simp) _⟩
        · have t : ((x3 : Int) == (y3 : Int)) = false := by rw [beq_eq_false_iff_ne]; omega
          have tn : (x3 == y3) = false := by rw [beq_eq_false_iff_ne]; omega
          go_enter Tryz.func39, Tryz.ntmps39
          go_wp2_with fail
          go_ret
          exact ⟨by rw [← hb]; simp [eqE, h3], ((Below.refl w.heap.size w).alloc (Nat.le_refl _) _).alloc (by simp) _⟩
      · have t : ((x2 : Int) == (y2 : Int)) = false := by rw [beq_eq_false_iff_ne]; omega
        have tn : (x2 == y2) = false := by rw [beq_eq_false_iff_ne]; omega
        go_enter Tryz.func39, Tryz.ntmps39
        go_wp2_with fail
        go_ret
        exact ⟨by rw [← hb]; simp [eqE, h2], ((Below.refl w.heap.size w).alloc (Nat.le_refl _) _).alloc (by simp) _⟩
    · have t : ((x1 : Int) == (y1 : Int)) = false := by rw [beq_eq_false_iff_ne]; omega
      have tn : (x1 == y1) = false := by rw [beq_eq_false_iff_ne]; omega
      go_enter Tryz.func39, Tryz.ntmps39
      go_wp2_with fail
      go_ret
      exact ⟨by rw [← hb]; simp [eqE, h1], ((Below.refl w.heap.size w).alloc (Nat.le_refl _) _).alloc (by simp) _⟩
  · have t : ((x0 : Int) == (y0 : Int)) = false := by rw [beq_eq_false_iff_ne]; omega
    have tn : (x0 == y0) = false := by rw [beq_eq_false_iff_ne]; omega
    go_enter Tryz.func39, Tryz.ntmps39
    go_wp2_with fail
    go_ret
    exact ⟨by rw [← hb]; simp [eqE, h0], ((Below.refl w.heap.size w).alloc (Nat.le_refl _) _).alloc (by simp) _⟩
def gd : Exp.Ex := ⟨1152921504606846975, 1152921504606846975, 16777215, 4294967294, 8190, 127, false, false⟩
theorem gd_is : Exp.made Exp.zero 0 = gd := eqE_eq (by decide +kernel)
theorem md_any (W : World) : Calls Tryz.prog 25 #[.agg #[.int .u64 0, .int .u64 0, .int .u64 0, .int .u64 0, .int .u64 0, .int .u64 0, .int .u8 0]] W fun e w' => e = .returned (.agg #[.int .u64 1152921504606846975, .int .u64 1152921504606846975, .int .u64 16777215, .int .u64 4294967294, .int .u64 8190, .int .u64 127, .bool false, .bool false]) ∧ Below W.heap.size W w' :=
  made_any Exp.zero (fun i hi => six_cases hi (P := fun i => Exp.zero.at i < 2 ^ 64) (by decide) (by decide) (by decide) (by decide) (by decide) (by decide)) 0 (by decide) W gd gd_is
theorem gd_bd : gd.Bd := fun i hi => six_cases hi (P := fun i => gd.at i < 2 ^ 64) (by decide) (by decide) (by decide) (by decide) (by decide) (by decide)
def bd0 : Exp.Ex := ⟨0, 1152921504606846975, 16777215, 4294967294, 8190, 127, false, false⟩
theorem bd0_bd : bd0.Bd := fun i hi => six_cases hi (P := fun i => bd0.at i < 2 ^ 64) (by decide) (by decide) (by decide) (by decide) (by decide) (by decide)
theorem bd0_ok : bd0.okB = false := by decide +kernel
theorem bd0_print (W : World) : Calls Tryz.prog 19 #[.agg #[.int .u64 0, .int .u64 1152921504606846975, .int .u64 16777215, .int .u64 4294967294, .int .u64 8190, .int .u64 127, .bool false, .bool false]] W fun e w' => e = .returned (.tuple #[.string ⟨#[]⟩, .int .i64 16]) ∧ Below W.heap.size W w' := print_exno bd0 bd0_bd bd0_ok W
theorem bd0_both (W : World) : Calls Tryz.prog 32 #[.agg #[.int .u64 1152921504606846975, .int .u64 1152921504606846975, .int .u64 16777215, .int .u64 4294967294, .int .u64 8190, .int .u64 127, .bool false, .bool false], .agg #[.int .u64 0, .int .u64 1152921504606846975, .int .u64 16777215, .int .u64 4294967294, .int .u64 8190, .int .u64 127, .bool false, .bool false]] W fun r w' => r = .returned (.tuple #[.agg #[.int .u64 0, .int .u64 0, .int .u64 0, .int .u64 0, .int .u64 0, .int .u64 0, .bool false, .bool false], .bool false, .int .i64 16]) ∧ Below W.heap.size W w' := both_any gd bd0 gd_bd bd0_bd W Exp.zero false 16 (by unfold Exp.both; rw [bd0_ok, Bool.and_false, if_neg (by simp)])
theorem bd0_both2 (W : World) : Calls Tryz.prog 32 #[.agg #[.int .u64 0, .int .u64 1152921504606846975, .int .u64 16777215, .int .u64 4294967294, .int .u64 8190, .int .u64 127, .bool false, .bool false], .agg #[.int .u64 1152921504606846975, .int .u64 1152921504606846975, .int .u64 16777215, .int .u64 4294967294, .int .u64 8190, .int .u64 127, .bool false, .bool false]] W fun r w' => r = .returned (.tuple #[.agg #[.int .u64 0, .int .u64 0, .int .u64 0, .int .u64 0, .int .u64 0, .int .u64 0, .bool false, .bool false], .bool false, .int .i64 16]) ∧ Below W.heap.size W w' := both_any bd0 gd bd0_bd gd_bd W Exp.zero false 16 (by unfold Exp.both; rw [bd0_ok, Bool.false_and, if_neg (by simp)])
theorem bd0_sec (W : World) : Calls Tryz.prog 21 #[.agg #[.int .u64 0, .int .u64 1152921504606846975, .int .u64 16777215, .int .u64 4294967294, .int .u64 8190, .int .u64 127, .bool false, .bool false]] W fun e w' => e = .returned (.tuple #[.int .i64 0, .int .i64 16]) ∧ Below W.heap.size W w' := by
  have s := seconds_any bd0 bd0_bd W
  rw [bd0_ok] at s
  exact s
theorem bd0_chk (W : World) : Calls Tryz.prog 23 #[.agg #[.int .u64 0, .int .u64 1152921504606846975, .int .u64 16777215, .int .u64 4294967294, .int .u64 8190, .int .u64 127, .bool false, .bool false]] W fun e w' => e = .returned (.int .i64 16) ∧ Below W.heap.size W w' := by
  have s := check_ex bd0 bd0_bd W
  rw [bd0_ok] at s
  exact s
theorem bd0_eq (W : World) : Calls Tryz.prog 39 #[.agg #[.int .u64 1152921504606846975, .int .u64 1152921504606846975, .int .u64 16777215, .int .u64 4294967294, .int .u64 8190, .int .u64 127, .bool false, .bool false], .agg #[.int .u64 0, .int .u64 1152921504606846975, .int .u64 16777215, .int .u64 4294967294, .int .u64 8190, .int .u64 127, .bool false, .bool false]] W fun e w' => e = .returned (.bool false) ∧ Below W.heap.size W w' := equal_any gd bd0 false (by decide +kernel) W
theorem bd0_eq2 (W : World) : Calls Tryz.prog 39 #[.agg #[.int .u64 0, .int .u64 1152921504606846975, .int .u64 16777215, .int .u64 4294967294, .int .u64 8190, .int .u64 127, .bool false, .bool false], .agg #[.int .u64 0, .int .u64 1152921504606846975, .int .u64 16777215, .int .u64 4294967294, .int .u64 8190, .int .u64 127, .bool false, .bool false]] W fun e w' => e = .returned (.bool true) ∧ Below W.heap.size W w' := equal_any bd0 bd0 true (by decide +kernel) W
def bd1 : Exp.Ex := ⟨1152921504606846975, 2305843009213693951, 16777215, 4294967294, 8190, 127, false, false⟩
theorem bd1_bd : bd1.Bd := fun i hi => six_cases hi (P := fun i => bd1.at i < 2 ^ 64) (by decide) (by decide) (by decide) (by decide) (by decide) (by decide)
theorem bd1_ok : bd1.okB = false := by decide +kernel
theorem bd1_print (W : World) : Calls Tryz.prog 19 #[.agg #[.int .u64 1152921504606846975, .int .u64 2305843009213693951, .int .u64 16777215, .int .u64 4294967294, .int .u64 8190, .int .u64 127, .bool false, .bool false]] W fun e w' => e = .returned (.tuple #[.string ⟨#[]⟩, .int .i64 16]) ∧ Below W.heap.size W w' := print_exno bd1 bd1_bd bd1_ok W
theorem bd1_both (W : World) : Calls Tryz.prog 32 #[.agg #[.int .u64 1152921504606846975, .int .u64 1152921504606846975, .int .u64 16777215, .int .u64 4294967294, .int .u64 8190, .int .u64 127, .bool false, .bool false], .agg #[.int .u64 1152921504606846975, .int .u64 2305843009213693951, .int .u64 16777215, .int .u64 4294967294, .int .u64 8190, .int .u64 127, .bool false, .bool false]] W fun r w' => r = .returned (.tuple #[.agg #[.int .u64 0, .int .u64 0, .int .u64 0, .int .u64 0, .int .u64 0, .int .u64 0, .bool false, .bool false], .bool false, .int .i64 16]) ∧ Below W.heap.size W w' := both_any gd bd1 gd_bd bd1_bd W Exp.zero false 16 (by unfold Exp.both; rw [bd1_ok, Bool.and_false, if_neg (by simp)])
theorem bd1_both2 (W : World) : Calls Tryz.prog 32 #[.agg #[.int .u64 1152921504606846975, .int .u64 2305843009213693951, .int .u64 16777215, .int .u64 4294967294, .int .u64 8190, .int .u64 127, .bool false, .bool false], .agg #[.int .u64 1152921504606846975, .int .u64 1152921504606846975, .int .u64 16777215, .int .u64 4294967294, .int .u64 8190, .int .u64 127, .bool false, .bool false]] W fun r w' => r = .returned (.tuple #[.agg #[.int .u64 0, .int .u64 0, .int .u64 0, .int .u64 0, .int .u64 0, .int .u64 0, .bool false, .bool false], .bool false, .int .i64 16]) ∧ Below W.heap.size W w' := both_any bd1 gd bd1_bd gd_bd W Exp.zero false 16 (by unfold Exp.both; rw [bd1_ok, Bool.false_and, if_neg (by simp)])
theorem bd1_sec (W : World) : Calls Tryz.prog 21 #[.agg #[.int .u64 1152921504606846975, .int .u64 2305843009213693951, .int .u64 16777215, .int .u64 4294967294, .int .u64 8190, .int .u64 127, .bool false, .bool false]] W fun e w' => e = .returned (.tuple #[.int .i64 0, .int .i64 16]) ∧ Below W.heap.size W w' := by
  have s := seconds_any bd1 bd1_bd W
  rw [bd1_ok] at s
  exact s
theorem bd1_chk (W : World) : Calls Tryz.prog 23 #[.agg #[.int .u64 1152921504606846975, .int .u64 2305843009213693951, .int .u64 16777215, .int .u64 4294967294, .int .u64 8190, .int .u64 127, .bool false, .bool false]] W fun e w' => e = .returned (.int .i64 16) ∧ Below W.heap.size W w' := by
  have s := check_ex bd1 bd1_bd W
  rw [bd1_ok] at s
  exact s
theorem bd1_eq (W : World) : Calls Tryz.prog 39 #[.agg #[.int .u64 1152921504606846975, .int .u64 1152921504606846975, .int .u64 16777215, .int .u64 4294967294, .int .u64 8190, .int .u64 127, .bool false, .bool false], .agg #[.int .u64 1152921504606846975, .int .u64 2305843009213693951, .int .u64 16777215, .int .u64 4294967294, .int .u64 8190, .int .u64 127, .bool false, .bool false]] W fun e w' => e = .returned (.bool false) ∧ Below W.heap.size W w' := equal_any gd bd1 false (by decide +kernel) W
theorem bd1_eq2 (W : World) : Calls Tryz.prog 39 #[.agg #[.int .u64 1152921504606846975, .int .u64 2305843009213693951, .int .u64 16777215, .int .u64 4294967294, .int .u64 8190, .int .u64 127, .bool false, .bool false], .agg #[.int .u64 1152921504606846975, .int .u64 2305843009213693951, .int .u64 16777215, .int .u64 4294967294, .int .u64 8190, .int .u64 127, .bool false, .bool false]] W fun e w' => e = .returned (.bool true) ∧ Below W.heap.size W w' := equal_any bd1 bd1 true (by decide +kernel) W
def bd2 : Exp.Ex := ⟨1152921504606846975, 1152921504606846975, 33554431, 4294967294, 8190, 127, false, false⟩
theorem bd2_bd : bd2.Bd := fun i hi => six_cases hi (P := fun i => bd2.at i < 2 ^ 64) (by decide) (by decide) (by decide) (by decide) (by decide) (by decide)
theorem bd2_ok : bd2.okB = false := by decide +kernel
theorem bd2_print (W : World) : Calls Tryz.prog 19 #[.agg #[.int .u64 1152921504606846975, .int .u64 1152921504606846975, .int .u64 33554431, .int .u64 4294967294, .int .u64 8190, .int .u64 127, .bool false, .bool false]] W fun e w' => e = .returned (.tuple #[.string ⟨#[]⟩, .int .i64 16]) ∧ Below W.heap.size W w' := print_exno bd2 bd2_bd bd2_ok W
theorem bd2_both (W : World) : Calls Tryz.prog 32 #[.agg #[.int .u64 1152921504606846975, .int .u64 1152921504606846975, .int .u64 16777215, .int .u64 4294967294, .int .u64 8190, .int .u64 127, .bool false, .bool false], .agg #[.int .u64 1152921504606846975, .int .u64 1152921504606846975, .int .u64 33554431, .int .u64 4294967294, .int .u64 8190, .int .u64 127, .bool false, .bool false]] W fun r w' => r = .returned (.tuple #[.agg #[.int .u64 0, .int .u64 0, .int .u64 0, .int .u64 0, .int .u64 0, .int .u64 0, .bool false, .bool false], .bool false, .int .i64 16]) ∧ Below W.heap.size W w' := both_any gd bd2 gd_bd bd2_bd W Exp.zero false 16 (by unfold Exp.both; rw [bd2_ok, Bool.and_false, if_neg (by simp)])
theorem bd2_both2 (W : World) : Calls Tryz.prog 32 #[.agg #[.int .u64 1152921504606846975, .int .u64 1152921504606846975, .int .u64 33554431, .int .u64 4294967294, .int .u64 8190, .int .u64 127, .bool false, .bool false], .agg #[.int .u64 1152921504606846975, .int .u64 1152921504606846975, .int .u64 16777215, .int .u64 4294967294, .int .u64 8190, .int .u64 127, .bool false, .bool false]] W fun r w' => r = .returned (.tuple #[.agg #[.int .u64 0, .int .u64 0, .int .u64 0, .int .u64 0, .int .u64 0, .int .u64 0, .bool false, .bool false], .bool false, .int .i64 16]) ∧ Below W.heap.size W w' := both_any bd2 gd bd2_bd gd_bd W Exp.zero false 16 (by unfold Exp.both; rw [bd2_ok, Bool.false_and, if_neg (by simp)])
theorem bd2_sec (W : World) : Calls Tryz.prog 21 #[.agg #[.int .u64 1152921504606846975, .int .u64 1152921504606846975, .int .u64 33554431, .int .u64 4294967294, .int .u64 8190, .int .u64 127, .bool false, .bool false]] W fun e w' => e = .returned (.tuple #[.int .i64 0, .int .i64 16]) ∧ Below W.heap.size W w' := by
  have s := seconds_any bd2 bd2_bd W
  rw [bd2_ok] at s
  exact s
theorem bd2_chk (W : World) : Calls Tryz.prog 23 #[.agg #[.int .u64 1152921504606846975, .int .u64 1152921504606846975, .int .u64 33554431, .int .u64 4294967294, .int .u64 8190, .int .u64 127, .bool false, .bool false]] W fun e w' => e = .returned (.int .i64 16) ∧ Below W.heap.size W w' := by
  have s := check_ex bd2 bd2_bd W
  rw [bd2_ok] at s
  exact s
theorem bd2_eq (W : World) : Calls Tryz.prog 39 #[.agg #[.int .u64 1152921504606846975, .int .u64 1152921504606846975, .int .u64 16777215, .int .u64 4294967294, .int .u64 8190, .int .u64 127, .bool false, .bool false], .agg #[.int .u64 1152921504606846975, .int .u64 1152921504606846975, .int .u64 33554431, .int .u64 4294967294, .int .u64 8190, .int .u64 127, .bool false, .bool false]] W fun e w' => e = .returned (.bool false) ∧ Below W.heap.size W w' := equal_any gd bd2 false (by decide +kernel) W
theorem bd2_eq2 (W : World) : Calls Tryz.prog 39 #[.agg #[.int .u64 1152921504606846975, .int .u64 1152921504606846975, .int .u64 33554431, .int .u64 4294967294, .int .u64 8190, .int .u64 127, .bool false, .bool false], .agg #[.int .u64 1152921504606846975, .int .u64 1152921504606846975, .int .u64 33554431, .int .u64 4294967294, .int .u64 8190, .int .u64 127, .bool false, .bool false]] W fun e w' => e = .returned (.bool true) ∧ Below W.heap.size W w' := equal_any bd2 bd2 true (by decide +kernel) W
def bd3 : Exp.Ex := ⟨1152921504606846975, 1152921504606846975, 16777215, 4294967295, 8190, 127, false, false⟩
theorem bd3_bd : bd3.Bd := fun i hi => six_cases hi (P := fun i => bd3.at i < 2 ^ 64) (by decide) (by decide) (by decide) (by decide) (by decide) (by decide)
theorem bd3_ok : bd3.okB = false := by decide +kernel
theorem bd3_print (W : World) : Calls Tryz.prog 19 #[.agg #[.int .u64 1152921504606846975, .int .u64 1152921504606846975, .int .u64 16777215, .int .u64 4294967295, .int .u64 8190, .int .u64 127, .bool false, .bool false]] W fun e w' => e = .returned (.tuple #[.string ⟨#[]⟩, .int .i64 16]) ∧ Below W.heap.size W w' := print_exno bd3 bd3_bd bd3_ok W
theorem bd3_both (W : World) : Calls Tryz.prog 32 #[.agg #[.int .u64 1152921504606846975, .int .u64 1152921504606846975, .int .u64 16777215, .int .u64 4294967294, .int .u64 8190, .int .u64 127, .bool false, .bool false], .agg #[.int .u64 1152921504606846975, .int .u64 1152921504606846975, .int .u64 16777215, .int .u64 4294967295, .int .u64 8190, .int .u64 127, .bool false, .bool false]] W fun r w' => r = .returned (.tuple #[.agg #[.int .u64 0, .int .u64 0, .int .u64 0, .int .u64 0, .int .u64 0, .int .u64 0, .bool false, .bool false], .bool false, .int .i64 16]) ∧ Below W.heap.size W w' := both_any gd bd3 gd_bd bd3_bd W Exp.zero false 16 (by unfold Exp.both; rw [bd3_ok, Bool.and_false, if_neg (by simp)])
theorem bd3_both2 (W : World) : Calls Tryz.prog 32 #[.agg #[.int .u64 1152921504606846975, .int .u64 1152921504606846975, .int .u64 16777215, .int .u64 4294967295, .int .u64 8190, .int .u64 127, .bool false, .bool false], .agg #[.int .u64 1152921504606846975, .int .u64 1152921504606846975, .int .u64 16777215, .int .u64 4294967294, .int .u64 8190, .int .u64 127, .bool false, .bool false]] W fun r w' => r = .returned (.tuple #[.agg #[.int .u64 0, .int .u64 0, .int .u64 0, .int .u64 0, .int .u64 0, .int .u64 0, .bool false, .bool false], .bool false, .int .i64 16]) ∧ Below W.heap.size W w' := both_any bd3 gd bd3_bd gd_bd W Exp.zero false 16 (by unfold Exp.both; rw [bd3_ok, Bool.false_and, if_neg (by simp)])
theorem bd3_sec (W : World) : Calls Tryz.prog 21 #[.agg #[.int .u64 1152921504606846975, .int .u64 1152921504606846975, .int .u64 16777215, .int .u64 4294967295, .int .u64 8190, .int .u64 127, .bool false, .bool false]] W fun e w' => e = .returned (.tuple #[.int .i64 0, .int .i64 16]) ∧ Below W.heap.size W w' := by
  have s := seconds_any bd3 bd3_bd W
  rw [bd3_ok] at s
  exact s
theorem bd3_chk (W : World) : Calls Tryz.prog 23 #[.agg #[.int .u64 1152921504606846975, .int .u64 1152921504606846975, .int .u64 16777215, .int .u64 4294967295, .int .u64 8190, .int .u64 127, .bool false, .bool false]] W fun e w' => e = .returned (.int .i64 16) ∧ Below W.heap.size W w' := by
  have s := check_ex bd3 bd3_bd W
  rw [bd3_ok] at s
  exact s
theorem bd3_eq (W : World) : Calls Tryz.prog 39 #[.agg #[.int .u64 1152921504606846975, .int .u64 1152921504606846975, .int .u64 16777215, .int .u64 4294967294, .int .u64 8190, .int .u64 127, .bool false, .bool false], .agg #[.int .u64 1152921504606846975, .int .u64 1152921504606846975, .int .u64 16777215, .int .u64 4294967295, .int .u64 8190, .int .u64 127, .bool false, .bool false]] W fun e w' => e = .returned (.bool false) ∧ Below W.heap.size W w' := equal_any gd bd3 false (by decide +kernel) W
theorem bd3_eq2 (W : World) : Calls Tryz.prog 39 #[.agg #[.int .u64 1152921504606846975, .int .u64 1152921504606846975, .int .u64 16777215, .int .u64 4294967295, .int .u64 8190, .int .u64 127, .bool false, .bool false], .agg #[.int .u64 1152921504606846975, .int .u64 1152921504606846975, .int .u64 16777215, .int .u64 4294967295, .int .u64 8190, .int .u64 127, .bool false, .bool false]] W fun e w' => e = .returned (.bool true) ∧ Below W.heap.size W w' := equal_any bd3 bd3 true (by decide +kernel) W
def bd4 : Exp.Ex := ⟨1152921504606846975, 1152921504606846975, 16777215, 4294967294, 8192, 127, false, false⟩
theorem bd4_bd : bd4.Bd := fun i hi => six_cases hi (P := fun i => bd4.at i < 2 ^ 64) (by decide) (by decide) (by decide) (by decide) (by decide) (by decide)
theorem bd4_ok : bd4.okB = false := by decide +kernel
theorem bd4_print (W : World) : Calls Tryz.prog 19 #[.agg #[.int .u64 1152921504606846975, .int .u64 1152921504606846975, .int .u64 16777215, .int .u64 4294967294, .int .u64 8192, .int .u64 127, .bool false, .bool false]] W fun e w' => e = .returned (.tuple #[.string ⟨#[]⟩, .int .i64 16]) ∧ Below W.heap.size W w' := print_exno bd4 bd4_bd bd4_ok W
theorem bd4_both (W : World) : Calls Tryz.prog 32 #[.agg #[.int .u64 1152921504606846975, .int .u64 1152921504606846975, .int .u64 16777215, .int .u64 4294967294, .int .u64 8190, .int .u64 127, .bool false, .bool false], .agg #[.int .u64 1152921504606846975, .int .u64 1152921504606846975, .int .u64 16777215, .int .u64 4294967294, .int .u64 8192, .int .u64 127, .bool false, .bool false]] W fun r w' => r = .returned (.tuple #[.agg #[.int .u64 0, .int .u64 0, .int .u64 0, .int .u64 0, .int .u64 0, .int .u64 0, .bool false, .bool false], .bool false, .int .i64 16]) ∧ Below W.heap.size W w' := both_any gd bd4 gd_bd bd4_bd W Exp.zero false 16 (by unfold Exp.both; rw [bd4_ok, Bool.and_false, if_neg (by simp)])
theorem bd4_both2 (W : World) : Calls Tryz.prog 32 #[.agg #[.int .u64 1152921504606846975, .int .u64 1152921504606846975, .int .u64 16777215, .int .u64 4294967294, .int .u64 8192, .int .u64 127, .bool false, .bool false], .agg #[.int .u64 1152921504606846975, .int .u64 1152921504606846975, .int .u64 16777215, .int .u64 4294967294, .int .u64 8190, .int .u64 127, .bool false, .bool false]] W fun r w' => r = .returned (.tuple #[.agg #[.int .u64 0, .int .u64 0, .int .u64 0, .int .u64 0, .int .u64 0, .int .u64 0, .bool false, .bool false], .bool false, .int .i64 16]) ∧ Below W.heap.size W w' := both_any bd4 gd bd4_bd gd_bd W Exp.zero false 16 (by unfold Exp.both; rw [bd4_ok, Bool.false_and, if_neg (by simp)])
theorem bd4_sec (W : World) : Calls Tryz.prog 21 #[.agg #[.int .u64 1152921504606846975, .int .u64 1152921504606846975, .int .u64 16777215, .int .u64 4294967294, .int .u64 8192, .int .u64 127, .bool false, .bool false]] W fun e w' => e = .returned (.tuple #[.int .i64 0, .int .i64 16]) ∧ Below W.heap.size W w' := by
  have s := seconds_any bd4 bd4_bd W
  rw [bd4_ok] at s
  exact s
theorem bd4_chk (W : World) : Calls Tryz.prog 23 #[.agg #[.int .u64 1152921504606846975, .int .u64 1152921504606846975, .int .u64 16777215, .int .u64 4294967294, .int .u64 8192, .int .u64 127, .bool false, .bool false]] W fun e w' => e = .returned (.int .i64 16) ∧ Below W.heap.size W w' := by
  have s := check_ex bd4 bd4_bd W
  rw [bd4_ok] at s
  exact s
theorem bd4_eq (W : World) : Calls Tryz.prog 39 #[.agg #[.int .u64 1152921504606846975, .int .u64 1152921504606846975, .int .u64 16777215, .int .u64 4294967294, .int .u64 8190, .int .u64 127, .bool false, .bool false], .agg #[.int .u64 1152921504606846975, .int .u64 1152921504606846975, .int .u64 16777215, .int .u64 4294967294, .int .u64 8192, .int .u64 127, .bool false, .bool false]] W fun e w' => e = .returned (.bool false) ∧ Below W.heap.size W w' := equal_any gd bd4 false (by decide +kernel) W
theorem bd4_eq2 (W : World) : Calls Tryz.prog 39 #[.agg #[.int .u64 1152921504606846975, .int .u64 1152921504606846975, .int .u64 16777215, .int .u64 4294967294, .int .u64 8192, .int .u64 127, .bool false, .bool false], .agg #[.int .u64 1152921504606846975, .int .u64 1152921504606846975, .int .u64 16777215, .int .u64 4294967294, .int .u64 8192, .int .u64 127, .bool false, .bool false]] W fun e w' => e = .returned (.bool true) ∧ Below W.heap.size W w' := equal_any bd4 bd4 true (by decide +kernel) W
def bd5 : Exp.Ex := ⟨1152921504606846975, 1152921504606846975, 16777215, 4294967294, 8190, 255, false, false⟩
theorem bd5_bd : bd5.Bd := fun i hi => six_cases hi (P := fun i => bd5.at i < 2 ^ 64) (by decide) (by decide) (by decide) (by decide) (by decide) (by decide)
theorem bd5_ok : bd5.okB = false := by decide +kernel
theorem bd5_print (W : World) : Calls Tryz.prog 19 #[.agg #[.int .u64 1152921504606846975, .int .u64 1152921504606846975, .int .u64 16777215, .int .u64 4294967294, .int .u64 8190, .int .u64 255, .bool false, .bool false]] W fun e w' => e = .returned (.tuple #[.string ⟨#[]⟩, .int .i64 16]) ∧ Below W.heap.size W w' := print_exno bd5 bd5_bd bd5_ok W
theorem bd5_both (W : World) : Calls Tryz.prog 32 #[.agg #[.int .u64 1152921504606846975, .int .u64 1152921504606846975, .int .u64 16777215, .int .u64 4294967294, .int .u64 8190, .int .u64 127, .bool false, .bool false], .agg #[.int .u64 1152921504606846975, .int .u64 1152921504606846975, .int .u64 16777215, .int .u64 4294967294, .int .u64 8190, .int .u64 255, .bool false, .bool false]] W fun r w' => r = .returned (.tuple #[.agg #[.int .u64 0, .int .u64 0, .int .u64 0, .int .u64 0, .int .u64 0, .int .u64 0, .bool false, .bool false], .bool false, .int .i64 16]) ∧ Below W.heap.size W w' := both_any gd bd5 gd_bd bd5_bd W Exp.zero false 16 (by unfold Exp.both; rw [bd5_ok, Bool.and_false, if_neg (by simp)])
theorem bd5_both2 (W : World) : Calls Tryz.prog 32 #[.agg #[.int .u64 1152921504606846975, .int .u64 1152921504606846975, .int .u64 16777215, .int .u64 4294967294, .int .u64 8190, .int .u64 255, .bool false, .bool false], .agg #[.int .u64 1152921504606846975, .int .u64 1152921504606846975, .int .u64 16777215, .int .u64 4294967294, .int .u64 8190, .int .u64 127, .bool false, .bool false]] W fun r w' => r = .returned (.tuple #[.agg #[.int .u64 0, .int .u64 0, .int .u64 0, .int .u64 0, .int .u64 0, .int .u64 0, .bool false, .bool false], .bool false, .int .i64 16]) ∧ Below W.heap.size W w' := both_any bd5 gd bd5_bd gd_bd W Exp.zero false 16 (by unfold Exp.both; rw [bd5_ok, Bool.false_and, if_neg (by simp)])
theorem bd5_sec (W : World) : Calls Tryz.prog 21 #[.agg #[.int .u64 1152921504606846975, .int .u64 1152921504606846975, .int .u64 16777215, .int .u64 4294967294, .int .u64 8190, .int .u64 255, .bool false, .bool false]] W fun e w' => e = .returned (.tuple #[.int .i64 0, .int .i64 16]) ∧ Below W.heap.size W w' := by
  have s := seconds_any bd5 bd5_bd W
  rw [bd5_ok] at s
  exact s
theorem bd5_chk (W : World) : Calls Tryz.prog 23 #[.agg #[.int .u64 1152921504606846975, .int .u64 1152921504606846975, .int .u64 16777215, .int .u64 4294967294, .int .u64 8190, .int .u64 255, .bool false, .bool false]] W fun e w' => e = .returned (.int .i64 16) ∧ Below W.heap.size W w' := by
  have s := check_ex bd5 bd5_bd W
  rw [bd5_ok] at s
  exact s
theorem bd5_eq (W : World) : Calls Tryz.prog 39 #[.agg #[.int .u64 1152921504606846975, .int .u64 1152921504606846975, .int .u64 16777215, .int .u64 4294967294, .int .u64 8190, .int .u64 127, .bool false, .bool false], .agg #[.int .u64 1152921504606846975, .int .u64 1152921504606846975, .int .u64 16777215, .int .u64 4294967294, .int .u64 8190, .int .u64 255, .bool false, .bool false]] W fun e w' => e = .returned (.bool false) ∧ Below W.heap.size W w' := equal_any gd bd5 false (by decide +kernel) W
theorem bd5_eq2 (W : World) : Calls Tryz.prog 39 #[.agg #[.int .u64 1152921504606846975, .int .u64 1152921504606846975, .int .u64 16777215, .int .u64 4294967294, .int .u64 8190, .int .u64 255, .bool false, .bool false], .agg #[.int .u64 1152921504606846975, .int .u64 1152921504606846975, .int .u64 16777215, .int .u64 4294967294, .int .u64 8190, .int .u64 255, .bool false, .bool false]] W fun e w' => e = .returned (.bool true) ∧ Below W.heap.size W w' := equal_any bd5 bd5 true (by decide +kernel) W
def bd6 : Exp.Ex := ⟨1152921504606846975, 1152921504606846975, 16777215, 2, 8190, 127, true, false⟩
theorem bd6_bd : bd6.Bd := fun i hi => six_cases hi (P := fun i => bd6.at i < 2 ^ 64) (by decide) (by decide) (by decide) (by decide) (by decide) (by decide)
theorem bd6_ok : bd6.okB = false := by decide +kernel
theorem bd6_print (W : World) : Calls Tryz.prog 19 #[.agg #[.int .u64 1152921504606846975, .int .u64 1152921504606846975, .int .u64 16777215, .int .u64 2, .int .u64 8190, .int .u64 127, .bool true, .bool false]] W fun e w' => e = .returned (.tuple #[.string ⟨#[]⟩, .int .i64 16]) ∧ Below W.heap.size W w' := print_exno bd6 bd6_bd bd6_ok W
theorem bd6_both (W : World) : Calls Tryz.prog 32 #[.agg #[.int .u64 1152921504606846975, .int .u64 1152921504606846975, .int .u64 16777215, .int .u64 4294967294, .int .u64 8190, .int .u64 127, .bool false, .bool false], .agg #[.int .u64 1152921504606846975, .int .u64 1152921504606846975, .int .u64 16777215, .int .u64 2, .int .u64 8190, .int .u64 127, .bool true, .bool false]] W fun r w' => r = .returned (.tuple #[.agg #[.int .u64 0, .int .u64 0, .int .u64 0, .int .u64 0, .int .u64 0, .int .u64 0, .bool false, .bool false], .bool false, .int .i64 16]) ∧ Below W.heap.size W w' := both_any gd bd6 gd_bd bd6_bd W Exp.zero false 16 (by unfold Exp.both; rw [bd6_ok, Bool.and_false, if_neg (by simp)])
theorem bd6_both2 (W : World) : Calls Tryz.prog 32 #[.agg #[.int .u64 1152921504606846975, .int .u64 1152921504606846975, .int .u64 16777215, .int .u64 2, .int .u64 8190, .int .u64 127, .bool true, .bool false], .agg #[.int .u64 1152921504606846975, .int .u64 1152921504606846975, .int .u64 16777215, .int .u64 4294967294, .int .u64 8190, .int .u64 127, .bool false, .bool false]] W fun r w' => r = .returned (.tuple #[.agg #[.int .u64 0, .int .u64 0, .int .u64 0, .int .u64 0, .int .u64 0, .int .u64 0, .bool false, .bool false], .bool false, .int .i64 16]) ∧ Below W.heap.size W w' := both_any bd6 gd bd6_bd gd_bd W Exp.zero false 16 (by unfold Exp.both; rw [bd6_ok, Bool.false_and, if_neg (by simp)])
theorem bd6_sec (W : World) : Calls Tryz.prog 21 #[.agg #[.int .u64 1152921504606846975, .int .u64 1152921504606846975, .int .u64 16777215, .int .u64 2, .int .u64 8190, .int .u64 127, .bool true, .bool false]] W fun e w' => e = .returned (.tuple #[.int .i64 0, .int .i64 16]) ∧ Below W.heap.size W w' := by
  have s := seconds_any bd6 bd6_bd W
  rw [bd6_ok] at s
  exact s
theorem bd6_chk (W : World) : Calls Tryz.prog 23 #[.agg #[.int .u64 1152921504606846975, .int .u64 1152921504606846975, .int .u64 16777215, .int .u64 2, .int .u64 8190, .int .u64 127, .bool true, .bool false]] W fun e w' => e = .returned (.int .i64 16) ∧ Below W.heap.size W w' := by
  have s := check_ex bd6 bd6_bd W
  rw [bd6_ok] at s
  exact s
theorem bd6_eq (W : World) : Calls Tryz.prog 39 #[.agg #[.int .u64 1152921504606846975, .int .u64 1152921504606846975, .int .u64 16777215, .int .u64 4294967294, .int .u64 8190, .int .u64 127, .bool false, .bool false], .agg #[.int .u64 1152921504606846975, .int .u64 1152921504606846975, .int .u64 16777215, .int .u64 2, .int .u64 8190, .int .u64 127, .bool true, .bool false]] W fun e w' => e = .returned (.bool false) ∧ Below W.heap.size W w' := equal_any gd bd6 false (by decide +kernel) W
theorem bd6_eq2 (W : World) : Calls Tryz.prog 39 #[.agg #[.int .u64 1152921504606846975, .int .u64 1152921504606846975, .int .u64 16777215, .int .u64 2, .int .u64 8190, .int .u64 127, .bool true, .bool false], .agg #[.int .u64 1152921504606846975, .int .u64 1152921504606846975, .int .u64 16777215, .int .u64 2, .int .u64 8190, .int .u64 127, .bool true, .bool false]] W fun e w' => e = .returned (.bool true) ∧ Below W.heap.size W w' := equal_any bd6 bd6 true (by decide +kernel) W
def bd7 : Exp.Ex := ⟨1152921504606846975, 1152921504606846975, 16777215, 4294967294, 8190, 2, false, true⟩
theorem bd7_bd : bd7.Bd := fun i hi => six_cases hi (P := fun i => bd7.at i < 2 ^ 64) (by decide) (by decide) (by decide) (by decide) (by decide) (by decide)
theorem bd7_ok : bd7.okB = false := by decide +kernel
theorem bd7_print (W : World) : Calls Tryz.prog 19 #[.agg #[.int .u64 1152921504606846975, .int .u64 1152921504606846975, .int .u64 16777215, .int .u64 4294967294, .int .u64 8190, .int .u64 2, .bool false, .bool true]] W fun e w' => e = .returned (.tuple #[.string ⟨#[]⟩, .int .i64 16]) ∧ Below W.heap.size W w' := print_exno bd7 bd7_bd bd7_ok W
theorem bd7_both (W : World) : Calls Tryz.prog 32 #[.agg #[.int .u64 1152921504606846975, .int .u64 1152921504606846975, .int .u64 16777215, .int .u64 4294967294, .int .u64 8190, .int .u64 127, .bool false, .bool false], .agg #[.int .u64 1152921504606846975, .int .u64 1152921504606846975, .int .u64 16777215, .int .u64 4294967294, .int .u64 8190, .int .u64 2, .bool false, .bool true]] W fun r w' => r = .returned (.tuple #[.agg #[.int .u64 0, .int .u64 0, .int .u64 0, .int .u64 0, .int .u64 0, .int .u64 0, .bool false, .bool false], .bool false, .int .i64 16]) ∧ Below W.heap.size W w' := both_any gd bd7 gd_bd bd7_bd W Exp.zero false 16 (by unfold Exp.both; rw [bd7_ok, Bool.and_false, if_neg (by simp)])
theorem bd7_both2 (W : World) : Calls Tryz.prog 32 #[.agg #[.int .u64 1152921504606846975, .int .u64 1152921504606846975, .int .u64 16777215, .int .u64 4294967294, .int .u64 8190, .int .u64 2, .bool false, .bool true], .agg #[.int .u64 1152921504606846975, .int .u64 1152921504606846975, .int .u64 16777215, .int .u64 4294967294, .int .u64 8190, .int .u64 127, .bool false, .bool false]] W fun r w' => r = .returned (.tuple #[.agg #[.int .u64 0, .int .u64 0, .int .u64 0, .int .u64 0, .int .u64 0, .int .u64 0, .bool false, .bool false], .bool false, .int .i64 16]) ∧ Below W.heap.size W w' := both_any bd7 gd bd7_bd gd_bd W Exp.zero false 16 (by unfold Exp.both; rw [bd7_ok, Bool.false_and, if_neg (by simp)])
theorem bd7_sec (W : World) : Calls Tryz.prog 21 #[.agg #[.int .u64 1152921504606846975, .int .u64 1152921504606846975, .int .u64 16777215, .int .u64 4294967294, .int .u64 8190, .int .u64 2, .bool false, .bool true]] W fun e w' => e = .returned (.tuple #[.int .i64 0, .int .i64 16]) ∧ Below W.heap.size W w' := by
  have s := seconds_any bd7 bd7_bd W
  rw [bd7_ok] at s
  exact s
theorem bd7_chk (W : World) : Calls Tryz.prog 23 #[.agg #[.int .u64 1152921504606846975, .int .u64 1152921504606846975, .int .u64 16777215, .int .u64 4294967294, .int .u64 8190, .int .u64 2, .bool false, .bool true]] W fun e w' => e = .returned (.int .i64 16) ∧ Below W.heap.size W w' := by
  have s := check_ex bd7 bd7_bd W
  rw [bd7_ok] at s
  exact s
theorem bd7_eq (W : World) : Calls Tryz.prog 39 #[.agg #[.int .u64 1152921504606846975, .int .u64 1152921504606846975, .int .u64 16777215, .int .u64 4294967294, .int .u64 8190, .int .u64 127, .bool false, .bool false], .agg #[.int .u64 1152921504606846975, .int .u64 1152921504606846975, .int .u64 16777215, .int .u64 4294967294, .int .u64 8190, .int .u64 2, .bool false, .bool true]] W fun e w' => e = .returned (.bool false) ∧ Below W.heap.size W w' := equal_any gd bd7 false (by decide +kernel) W
theorem bd7_eq2 (W : World) : Calls Tryz.prog 39 #[.agg #[.int .u64 1152921504606846975, .int .u64 1152921504606846975, .int .u64 16777215, .int .u64 4294967294, .int .u64 8190, .int .u64 2, .bool false, .bool true], .agg #[.int .u64 1152921504606846975, .int .u64 1152921504606846975, .int .u64 16777215, .int .u64 4294967294, .int .u64 8190, .int .u64 2, .bool false, .bool true]] W fun e w' => e = .returned (.bool true) ∧ Below W.heap.size W w' := equal_any bd7 bd7 true (by decide +kernel) W
/-- the context of a round over a table of the call's own -/
structure KX (w : World) (g : Nat) (t : TypeId) (cs : List Value) (W : World) : Prop where
  x : XC w [] W
  row : Row W g t cs
theorem KX.next {w W W' : World} {g : Nat} {t : TypeId} {cs : List Value} (h : KX w g t cs W) (hb : Below W.heap.size W W') : KX w g t cs W' := ⟨h.x.next hb, h.row.below hb⟩
theorem KX.alloc {w W : World} {g : Nat} {t : TypeId} {cs : List Value} (h : KX w g t cs W) (o : Obj) : KX w g t cs (W.alloc o) := h.next ((Below.refl _ _).alloc (Nat.le_refl _) o)

set_option linter.unusedSimpArgs false in
set_option maxRecDepth 100000 in
set_option maxHeartbeats 16000000 in
theorem walk (w : World) (L : Lay w) :
    Calls Tryz.prog 11 #[] w fun e w' => e = .returned (.bool true) ∧ Below w.heap.size w w' := by
  have R0 := Row.new w [.string ⟨#[64, 121, 101, 97, 114, 108, 121]⟩, .string ⟨#[48, 32, 48, 32, 49, 32, 49, 32, 42]⟩, .string ⟨#[64, 97, 110, 110, 117, 97, 108, 108, 121]⟩, .string ⟨#[48, 32, 48, 32, 49, 32, 49, 32, 42]⟩, .string ⟨#[64, 109, 111, 110, 116, 104, 108, 121]⟩, .string ⟨#[48, 32, 48, 32, 49, 32, 42, 32, 42]⟩, .string ⟨#[64, 119, 101, 101, 107, 108, 121]⟩, .string ⟨#[48, 32, 48, 32, 42, 32, 42, 32, 48]⟩, .string ⟨#[64, 100, 97, 105, 108, 121]⟩, .string ⟨#[48, 32, 48, 32, 42, 32, 42, 32, 42]⟩, .string ⟨#[64, 109, 105, 100, 110, 105, 103, 104, 116]⟩, .string ⟨#[48, 32, 48, 32, 42, 32, 42, 32, 42]⟩, .string ⟨#[64, 104, 111, 117, 114, 108, 121]⟩, .string ⟨#[48, 32, 42, 32, 42, 32, 42, 32, 42]⟩, .string ⟨#[64, 109, 105, 110, 117, 116, 101, 108, 121]⟩, .string ⟨#[42, 32, 42, 32, 42, 32, 42, 32, 42]⟩, .string ⟨#[64, 115, 101, 99, 111, 110, 100, 108, 121]⟩, .string ⟨#[42, 32, 42, 32, 42, 32, 42, 32, 42, 32, 42]⟩, .string ⟨#[48, 32, 48, 32, 49, 51, 32, 42, 32, 53]⟩, .string ⟨#[48, 32, 48, 32, 49, 51, 32, 42, 32, 53]⟩, .string ⟨#[32, 49, 9, 48, 32, 48, 32, 49, 32, 49, 32, 42, 32]⟩, .string ⟨#[49, 32, 48, 32, 48, 32, 49, 32, 49, 32, 42]⟩] 78
  have X0 := (XC.start L).alloc (.cells [.string ⟨#[64, 121, 101, 97, 114, 108, 121]⟩, .string ⟨#[48, 32, 48, 32, 49, 32, 49, 32, 42]⟩, .string ⟨#[64, 97, 110, 110, 117, 97, 108, 108, 121]⟩, .string ⟨#[48, 32, 48, 32, 49, 32, 49, 32, 42]⟩, .string ⟨#[64, 109, 111, 110, 116, 104, 108, 121]⟩, .string ⟨#[48, 32, 48, 32, 49, 32, 42, 32, 42]⟩, .string ⟨#[64, 119, 101, 101, 107, 108, 121]⟩, .string ⟨#[48, 32, 48, 32, 42, 32, 42, 32, 48]⟩, .string ⟨#[64, 100, 97, 105, 108, 121]⟩, .string ⟨#[48, 32, 48, 32, 42, 32, 42, 32, 42]⟩, .string ⟨#[64, 109, 105, 100, 110, 105, 103, 104, 116]⟩, .string ⟨#[48, 32, 48, 32, 42, 32, 42, 32, 42]⟩, .string ⟨#[64, 104, 111, 117, 114, 108, 121]⟩, .string ⟨#[48, 32, 42, 32, 42, 32, 42, 32, 42]⟩, .string ⟨#[64, 109, 105, 110, 117, 116, 101, 108, 121]⟩, .string ⟨#[42, 32, 42, 32, 42, 32, 42, 32, 42]⟩, .string ⟨#[64, 115, 101, 99, 111, 110, 100, 108, 121]⟩, .string ⟨#[42, 32, 42, 32, 42, 32, 42, 32, 42, 32, 42]⟩, .string ⟨#[48, 32, 48, 32, 49, 51, 32, 42, 32, 53]⟩, .string ⟨#[48, 32, 48, 32, 49, 51, 32, 42, 32, 53]⟩, .string ⟨#[32, 49, 9, 48, 32, 48, 32, 49, 32, 49, 32, 42, 32]⟩, .string ⟨#[49, 32, 48, 32, 48, 32, 49, 32, 49, 32, 42]⟩].toArray 78)
  obtain ⟨W1, hW1⟩ : ∃ W1, w.alloc (.cells #[.string ⟨#[64, 121, 101, 97, 114, 108, 121]⟩, .string ⟨#[48, 32, 48, 32, 49, 32, 49, 32, 42]⟩, .string ⟨#[64, 97, 110, 110, 117, 97, 108, 108, 121]⟩, .string ⟨#[48, 32, 48, 32, 49, 32, 49, 32, 42]⟩, .string ⟨#[64, 109, 111, 110, 116, 104, 108, 121]⟩, .string ⟨#[48, 32, 48, 32, 49, 32, 42, 32, 42]⟩, .string ⟨#[64, 119, 101, 101, 107, 108, 121]⟩, .string ⟨#[48, 32, 48, 32, 42, 32, 42, 32, 48]⟩, .string ⟨#[64, 100, 97, 105, 108, 121]⟩, .string ⟨#[48, 32, 48, 32, 42, 32, 42, 32, 42]⟩, .string ⟨#[64, 109, 105, 100, 110, 105, 103, 104, 116]⟩, .string ⟨#[48, 32, 48, 32, 42, 32, 42, 32, 42]⟩, .string ⟨#[64, 104, 111, 117, 114, 108, 121]⟩, .string ⟨#[48, 32, 42, 32, 42, 32, 42, 32, 42]⟩, .string ⟨#[64, 109, 105, 110, 117, 116, 101, 108, 121]⟩, .string ⟨#[42, 32, 42, 32, 42, 32, 42, 32, 42]⟩, .string ⟨#[64, 115, 101, 99, 111, 110, 100, 108, 121]⟩, .string ⟨#[42, 32, 42, 32, 42, 32, 42, 32, 42, 32, 42]⟩, .string ⟨#[48, 32, 48, 32, 49, 51, 32, 42, 32, 53]⟩, .string ⟨#[48, 32, 48, 32, 49, 51, 32, 42, 32, 53]⟩, .string ⟨#[32, 49, 9, 48, 32, 48, 32, 49, 32, 49, 32, 42, 32]⟩, .string ⟨#[49, 32, 48, 32, 48, 32, 49, 32, 49, 32, 42]⟩] 78) = W1 := ⟨_, rfl⟩
  rw [show w.alloc (.cells [.string ⟨#[64, 121, 101, 97, 114, 108, 121]⟩, .string ⟨#[48, 32, 48, 32, 49, 32, 49, 32, 42]⟩, .string ⟨#[64, 97, 110, 110, 117, 97, 108, 108, 121]⟩, .string ⟨#[48, 32, 48, 32, 49, 32, 49, 32, 42]⟩, .string ⟨#[64, 109, 111, 110, 116, 104, 108, 121]⟩, .string ⟨#[48, 32, 48, 32, 49, 32, 42, 32, 42]⟩, .string ⟨#[64, 119, 101, 101, 107, 108, 121]⟩, .string ⟨#[48, 32, 48, 32, 42, 32, 42, 32, 48]⟩, .string ⟨#[64, 100, 97, 105, 108, 121]⟩, .string ⟨#[48, 32, 48, 32, 42, 32, 42, 32, 42]⟩, .string ⟨#[64, 109, 105, 100, 110, 105, 103, 104, 116]⟩, .string ⟨#[48, 32, 48, 32, 42, 32, 42, 32, 42]⟩, .string ⟨#[64, 104, 111, 117, 114, 108, 121]⟩, .string ⟨#[48, 32, 42, 32, 42, 32, 42, 32, 42]⟩, .string ⟨#[64, 109, 105, 110, 117, 116, 101, 108, 121]⟩, .string ⟨#[42, 32, 42, 32, 42, 32, 42, 32, 42]⟩, .string ⟨#[64, 115, 101, 99, 111, 110, 100, 108, 121]⟩, .string ⟨#[42, 32, 42, 32, 42, 32, 42, 32, 42, 32, 42]⟩, .string ⟨#[48, 32, 48, 32, 49, 51, 32, 42, 32, 53]⟩, .string ⟨#[48, 32, 48, 32, 49, 51, 32, 42, 32, 53]⟩, .string ⟨#[32, 49, 9, 48, 32, 48, 32, 49, 32, 49, 32, 42, 32]⟩, .string ⟨#[49, 32, 48, 32, 48, 32, 49, 32, 49, 32, 42]⟩].toArray 78) = W1 from hW1] at R0 X0
  have K0 : Hid (KX w w.heap.size 78 rowL W1) := Lib.hid ⟨X0, R0⟩
  clear R0 X0 L
  go_enter Tryz.func11, Tryz.ntmps11
  go_wp2_with fail
  try rw [hW1]
  clear hW1
  go_loopw [42] (fun i wr => ∃ k : Nat, k ≤ 11 ∧ i = .int .i64 k ∧ Hid (KX w w.heap.size 78 rowL wr)) (fun i _ => 20 - (intOf i).toNat)
  case atStart => exact ⟨0, Nat.zero_le _, rfl, K0⟩
  case round =>
    obtain ⟨k, hk, rfl, K⟩ := hrel
    by_cases hlt : k < 11
    · have q1 : decide ((k : Int) < 11) = true := by rw [decide_eq_true_iff]; omega
      have q1n : decide (k < 11) = true := by rw [decide_eq_true_iff]; omega
      have i0 : (0 : Int) ≤ (k : Int) := by omega
      have i1 : (k : Int) < 11 := by omega
      obtain ⟨r1, r2⟩ := rowL_at k hlt
      have c1 := (K.out.row.cell (k * 2)).trans r1
      have c2 := (K.out.row.cell (k * 2 + 1)).trans r2
      obtain ⟨y, is, F⟩ := rowF k hlt
      obtain ⟨S1, e1⟩ : ∃ S, (⟨(rowAt k).1.toArray⟩ : ByteArray) = S := ⟨_, rfl⟩
      obtain ⟨S2, e2⟩ : ∃ S, (⟨(rowAt k).2.toArray⟩ : ByteArray) = S := ⟨_, rfl⟩
      rw [e1] at c1 F
      rw [e2] at c2 F
      have NO := Lib.hid (fun (W : World) (l : Lay W) => normal_any S1 (by have := F.l1; omega) S2.data.toList 0 0 F.nn W l)
      have PA := Lib.hid (fun W : World => parse_any S2 (by have := F.l2; omega) y 0 0 F.ps W)
      have eS : (⟨S2.data.toList.toArray⟩ : ByteArray) = S2 := rfl
      rw [eS] at NO
      have MC := Lib.hid (fun (W : World) => macro_any S1 (by have := F.l1; omega) W _ _ F.mc)
      obtain ⟨b, r, hd, hb⟩ := F.hd
      have sz : 0 < S1.size := by rw [Lib.size_eq, hd]; simp
      have sz' : (0 : Int) < (S1.size : Int) := by omega
      have gb : S1[0] = b := by
        have : S1.data.toList[0]'(by rw [hd]; simp) = b := by simp [hd]
        rw [← this]; simp; rfl
      have gn : (S1[0].toNat : Int) = (b.toNat : Int) := by rw [gb]
      have tb : ((S1[0].toNat : Int) == 64) = is := by
        rw [gn, hb, Bool.eq_iff_iff, beq_iff_eq, beq_iff_eq]
        constructor
        · intro h; exact UInt8.toNat_inj.1 (by show b.toNat = 64; omega)
        · rintro rfl; rfl
      have sy := same8_t y
      clear r1 r2 F e1 e2 hd hb gb gn eS
      cases is with
      | true =>
        simp only [if_true] at MC
        go_wp2_with fail
        obtain ⟨W2, hW2⟩ : ∃ W2, wr.alloc (.cells #[.string S1, .string S2] 78) = W2 := ⟨_, rfl⟩
        have K2 := K.out.alloc (.cells #[.string S1, .string S2] 78)
        have X2 := Row.new wr [.string S1, .string S2] 78
        rw [show wr.alloc (.cells [.string S1, .string S2].toArray 78) = W2 from hW2] at X2
        rw [hW2] at K2 ⊢
        obtain ⟨N, hN⟩ : ∃ N, wr.heap.size = N := ⟨_, rfl⟩
        rw [hN] at X2
        have K := Lib.hid K2
        have X := Lib.hid X2
        clear K2 X2 hW2
        refine (NO.out _ K.out.x.lay).mono ?_
        rintro e' w3 ⟨rfl, hb⟩
        have K := Lib.hid (K.out.next hb)
        have X := Lib.hid (X.out.below hb)
        have x0 := X.out.cell 0; have x1 := X.out.cell 1
        simp only [List.getElem?_cons_zero, List.getElem?_cons_succ] at x0 x1
        clear hb c1 c2
        go_wp2_with fail
        refine (MC.out _).mono ?_
        rintro e' w4 ⟨rfl, hb⟩
        have K4 := (K.out.next hb).alloc (.cells #[.int .u64 y.a0, .int .u64 y.a1, .int .u64 y.a2, .int .u64 y.a3, .int .u64 y.a4, .int .u64 y.a5, .bool y.b3, .bool y.b5] 25)
        have X4 := (X.out.below hb).alloc (.cells #[.int .u64 y.a0, .int .u64 y.a1, .int .u64 y.a2, .int .u64 y.a3, .int .u64 y.a4, .int .u64 y.a5, .bool y.b3, .bool y.b5] 25)
        have M4 := Row.new w4 (exL y) 25
        obtain ⟨W5, hW5⟩ : ∃ W5, w4.alloc (.cells #[.int .u64 y.a0, .int .u64 y.a1, .int .u64 y.a2, .int .u64 y.a3, .int .u64 y.a4, .int .u64 y.a5, .bool y.b3, .bool y.b5] 25) = W5 := ⟨_, rfl⟩
        rw [show w4.alloc (.cells (exL y).toArray 25) = W5 from hW5] at M4
        rw [hW5] at K4 X4
        have K := Lib.hid K4
        have X := Lib.hid X4
        have M := Lib.hid M4
        have x0 := X.out.cell 0; have x1 := X.out.cell 1
        simp only [List.getElem?_cons_zero, List.getElem?_cons_succ] at x0 x1
        clear hb K4 X4 M4
        go_wp2_with fail
        refine (PA.out _).mono ?_
        rintro e' w6 ⟨rfl, hb⟩
        have K6 := (K.out.next hb).alloc (.cells #[.int .u64 y.a0, .int .u64 y.a1, .int .u64 y.a2, .int .u64 y.a3, .int .u64 y.a4, .int .u64 y.a5, .bool y.b3, .bool y.b5] 25)
        have X6 := (X.out.below hb).alloc (.cells #[.int .u64 y.a0, .int .u64 y.a1, .int .u64 y.a2, .int .u64 y.a3, .int .u64 y.a4, .int .u64 y.a5, .bool y.b3, .bool y.b5] 25)
        have M6 := (M.out.below hb).alloc (.cells #[.int .u64 y.a0, .int .u64 y.a1, .int .u64 y.a2, .int .u64 y.a3, .int .u64 y.a4, .int .u64 y.a5, .bool y.b3, .bool y.b5] 25)
        have Y6 := Row.new w6 (exL y) 25
        obtain ⟨W7, hW7⟩ : ∃ W7, w6.alloc (.cells #[.int .u64 y.a0, .int .u64 y.a1, .int .u64 y.a2, .int .u64 y.a3, .int .u64 y.a4, .int .u64 y.a5, .bool y.b3, .bool y.b5] 25) = W7 := ⟨_, rfl⟩
        rw [show w6.alloc (.cells (exL y).toArray 25) = W7 from hW7] at Y6
        rw [hW7] at K6 X6 M6
        have K := Lib.hid K6
        have X := Lib.hid X6
        have M := Lib.hid M6
        have Y := Lib.hid Y6
        have x0 := X.out.cell 0; have x1 := X.out.cell 1
        simp only [List.getElem?_cons_zero, List.getElem?_cons_succ] at x0 x1
        have m0 := M.out.cell 0; have m1 := M.out.cell 1; have m2 := M.out.cell 2; have m3 := M.out.cell 3; have m4 := M.out.cell 4; have m5 := M.out.cell 5; have m6 := M.out.cell 6; have m7 := M.out.cell 7
        simp only [exL, Exp.zero, List.getElem?_cons_zero, List.getElem?_cons_succ, Int.natCast_zero] at m0 m1 m2 m3 m4 m5 m6 m7
        have b0 := Y.out.cell 0; have b1 := Y.out.cell 1; have b2 := Y.out.cell 2; have b3 := Y.out.cell 3; have b4 := Y.out.cell 4; have b5 := Y.out.cell 5; have b6 := Y.out.cell 6; have b7 := Y.out.cell 7
        simp only [exL, Exp.zero, List.getElem?_cons_zero, List.getElem?_cons_succ, Int.natCast_zero] at b0 b1 b2 b3 b4 b5 b6 b7
        clear hb K6 X6 M6 Y6
        go_wp2_with fail
        go_roundw
        case rel => exact ⟨k + 1, by omega, by go_num, K⟩
        case measure => simp [intOf]; omega
      | false =>
        simp only [Bool.false_eq_true, if_false] at MC
        have MC := Lib.hid (show ∀ W : World, Calls Tryz.prog 17 #[.string S1] W (fun r w' => r = .returned (.tuple #[.agg #[.int .u64 0, .int .u64 0, .int .u64 0, .int .u64 0, .int .u64 0, .int .u64 0, .bool false, .bool false], .bool false]) ∧ Below W.heap.size W w') from MC.out)
        go_wp2_with fail
        obtain ⟨W2, hW2⟩ : ∃ W2, wr.alloc (.cells #[.string S1, .string S2] 78) = W2 := ⟨_, rfl⟩
        have K2 := K.out.alloc (.cells #[.string S1, .string S2] 78)
        have X2 := Row.new wr [.string S1, .string S2] 78
        rw [show wr.alloc (.cells [.string S1, .string S2].toArray 78) = W2 from hW2] at X2
        rw [hW2] at K2 ⊢
        obtain ⟨N, hN⟩ : ∃ N, wr.heap.size = N := ⟨_, rfl⟩
        rw [hN] at X2
        have K := Lib.hid K2
        have X := Lib.hid X2
        clear K2 X2 hW2
        refine (NO.out _ K.out.x.lay).mono ?_
        rintro e' w3 ⟨rfl, hb⟩
        have K := Lib.hid (K.out.next hb)
        have X := Lib.hid (X.out.below hb)
        have x0 := X.out.cell 0; have x1 := X.out.cell 1
        simp only [List.getElem?_cons_zero, List.getElem?_cons_succ] at x0 x1
        clear hb c1 c2
        go_wp2_with fail
        refine (MC.out _).mono ?_
        rintro e' w4 ⟨rfl, hb⟩
        have K4 := (K.out.next hb).alloc (.cells #[.int .u64 0, .int .u64 0, .int .u64 0, .int .u64 0, .int .u64 0, .int .u64 0, .bool false, .bool false] 25)
        have X4 := (X.out.below hb).alloc (.cells #[.int .u64 0, .int .u64 0, .int .u64 0, .int .u64 0, .int .u64 0, .int .u64 0, .bool false, .bool false] 25)
        have X4w := X.out.below hb
        have z0 := X4w.cell 0; have z1 := X4w.cell 1
        simp only [List.getElem?_cons_zero, List.getElem?_cons_succ] at z0 z1
        have lz := X4w.lt
        have ne1 : N ≠ w4.heap.size := by omega
        have ne2 : w4.heap.size ≠ N := by omega
        clear X4w lz
        have M4 : Row (w4.alloc (.cells #[.int .u64 0, .int .u64 0, .int .u64 0, .int .u64 0, .int .u64 0, .int .u64 0, .bool false, .bool false] 25)) w4.heap.size 25 (exL Exp.zero) := Row.new w4 (exL Exp.zero) _
        have K := Lib.hid K4
        have X := Lib.hid X4
        have M := Lib.hid M4
        have x0 := X.out.cell 0; have x1 := X.out.cell 1
        simp only [List.getElem?_cons_zero, List.getElem?_cons_succ] at x0 x1
        clear hb K4 X4 M4
        go_wp2_with fail
        refine (PA.out _).mono ?_
        rintro e' w6 ⟨rfl, hb⟩
        have K6 := (K.out.next hb).alloc (.cells #[.int .u64 y.a0, .int .u64 y.a1, .int .u64 y.a2, .int .u64 y.a3, .int .u64 y.a4, .int .u64 y.a5, .bool y.b3, .bool y.b5] 25)
        have X6 := (X.out.below hb).alloc (.cells #[.int .u64 y.a0, .int .u64 y.a1, .int .u64 y.a2, .int .u64 y.a3, .int .u64 y.a4, .int .u64 y.a5, .bool y.b3, .bool y.b5] 25)
        have M6 := (M.out.below hb).alloc (.cells #[.int .u64 y.a0, .int .u64 y.a1, .int .u64 y.a2, .int .u64 y.a3, .int .u64 y.a4, .int .u64 y.a5, .bool y.b3, .bool y.b5] 25)
        have Y6 := Row.new w6 (exL y) 25
        obtain ⟨W7, hW7⟩ : ∃ W7, w6.alloc (.cells #[.int .u64 y.a0, .int .u64 y.a1, .int .u64 y.a2, .int .u64 y.a3, .int .u64 y.a4, .int .u64 y.a5, .bool y.b3, .bool y.b5] 25) = W7 := ⟨_, rfl⟩
        rw [show w6.alloc (.cells (exL y).toArray 25) = W7 from hW7] at Y6
        rw [hW7] at K6 X6 M6
        have K := Lib.hid K6
        have X := Lib.hid X6
        have M := Lib.hid M6
        have Y := Lib.hid Y6
        have x0 := X.out.cell 0; have x1 := X.out.cell 1
        simp only [List.getElem?_cons_zero, List.getElem?_cons_succ] at x0 x1
        have m0 := M.out.cell 0; have m1 := M.out.cell 1; have m2 := M.out.cell 2; have m3 := M.out.cell 3; have m4 := M.out.cell 4; have m5 := M.out.cell 5; have m6 := M.out.cell 6; have m7 := M.out.cell 7
        simp only [exL, Exp.zero, List.getElem?_cons_zero, List.getElem?_cons_succ, Int.natCast_zero] at m0 m1 m2 m3 m4 m5 m6 m7
        have b0 := Y.out.cell 0; have b1 := Y.out.cell 1; have b2 := Y.out.cell 2; have b3 := Y.out.cell 3; have b4 := Y.out.cell 4; have b5 := Y.out.cell 5; have b6 := Y.out.cell 6; have b7 := Y.out.cell 7
        simp only [exL, Exp.zero, List.getElem?_cons_zero, List.getElem?_cons_succ, Int.natCast_zero] at b0 b1 b2 b3 b4 b5 b6 b7
        clear hb K6 X6 M6 Y6
        go_wp2_with fail
        go_roundw
        case rel => exact ⟨k + 1, by omega, by go_num, K⟩
        case measure => simp [intOf]; omega
    · obtain rfl : k = 11 := by omega
      have R0 := Row.new wr [.string ⟨#[]⟩, .int .i64 0, .int .i64 10, .string ⟨#[32, 32]⟩, .int .i64 2, .int .i64 10, .string ⟨#[42, 32, 42, 32, 42, 32, 42]⟩, .int .i64 7, .int .i64 10, .string ⟨#[48, 32, 50, 52, 32, 42, 32, 42, 32, 42]⟩, .int .i64 2, .int .i64 2, .string ⟨#[48, 32, 48, 32, 32, 120, 32, 42, 32, 42]⟩, .int .i64 5, .int .i64 10, .string ⟨#[32, 64, 110, 101, 118, 101, 114]⟩, .int .i64 1, .int .i64 10, .string ⟨#[64, 100, 97, 105, 108, 121, 32, 120]⟩, .int .i64 8, .int .i64 10, .string ⟨#[64, 68, 97, 105, 108, 121]⟩, .int .i64 0, .int .i64 10, .string ⟨#[42, 32, 42, 32, 42, 32, 42, 32, 42, 32, 42, 32, 42]⟩, .int .i64 12, .int .i64 10, .string ⟨#[54, 49, 32, 48, 32, 120, 32, 42, 32, 42]⟩, .int .i64 0, .int .i64 2, .string ⟨#[42, 32, 42, 32, 42, 32, 42, 32, 42, 32, 56]⟩, .int .i64 10, .int .i64 2] 80
      have X0 := K.out.x.alloc (.cells [.string ⟨#[]⟩, .int .i64 0, .int .i64 10, .string ⟨#[32, 32]⟩, .int .i64 2, .int .i64 10, .string ⟨#[42, 32, 42, 32, 42, 32, 42]⟩, .int .i64 7, .int .i64 10, .string ⟨#[48, 32, 50, 52, 32, 42, 32, 42, 32, 42]⟩, .int .i64 2, .int .i64 2, .string ⟨#[48, 32, 48, 32, 32, 120, 32, 42, 32, 42]⟩, .int .i64 5, .int .i64 10, .string ⟨#[32, 64, 110, 101, 118, 101, 114]⟩, .int .i64 1, .int .i64 10, .string ⟨#[64, 100, 97, 105, 108, 121, 32, 120]⟩, .int .i64 8, .int .i64 10, .string ⟨#[64, 68, 97, 105, 108, 121]⟩, .int .i64 0, .int .i64 10, .string ⟨#[42, 32, 42, 32, 42, 32, 42, 32, 42, 32, 42, 32, 42]⟩, .int .i64 12, .int .i64 10, .string ⟨#[54, 49, 32, 48, 32, 120, 32, 42, 32, 42]⟩, .int .i64 0, .int .i64 2, .string ⟨#[42, 32, 42, 32, 42, 32, 42, 32, 42, 32, 56]⟩, .int .i64 10, .int .i64 2].toArray 80)
      obtain ⟨W1, hW1⟩ : ∃ W1, wr.alloc (.cells #[.string ⟨#[]⟩, .int .i64 0, .int .i64 10, .string ⟨#[32, 32]⟩, .int .i64 2, .int .i64 10, .string ⟨#[42, 32, 42, 32, 42, 32, 42]⟩, .int .i64 7, .int .i64 10, .string ⟨#[48, 32, 50, 52, 32, 42, 32, 42, 32, 42]⟩, .int .i64 2, .int .i64 2, .string ⟨#[48, 32, 48, 32, 32, 120, 32, 42, 32, 42]⟩, .int .i64 5, .int .i64 10, .string ⟨#[32, 64, 110, 101, 118, 101, 114]⟩, .int .i64 1, .int .i64 10, .string ⟨#[64, 100, 97, 105, 108, 121, 32, 120]⟩, .int .i64 8, .int .i64 10, .string ⟨#[64, 68, 97, 105, 108, 121]⟩, .int .i64 0, .int .i64 10, .string ⟨#[42, 32, 42, 32, 42, 32, 42, 32, 42, 32, 42, 32, 42]⟩, .int .i64 12, .int .i64 10, .string ⟨#[54, 49, 32, 48, 32, 120, 32, 42, 32, 42]⟩, .int .i64 0, .int .i64 2, .string ⟨#[42, 32, 42, 32, 42, 32, 42, 32, 42, 32, 56]⟩, .int .i64 10, .int .i64 2] 80) = W1 := ⟨_, rfl⟩
      rw [show wr.alloc (.cells [.string ⟨#[]⟩, .int .i64 0, .int .i64 10, .string ⟨#[32, 32]⟩, .int .i64 2, .int .i64 10, .string ⟨#[42, 32, 42, 32, 42, 32, 42]⟩, .int .i64 7, .int .i64 10, .string ⟨#[48, 32, 50, 52, 32, 42, 32, 42, 32, 42]⟩, .int .i64 2, .int .i64 2, .string ⟨#[48, 32, 48, 32, 32, 120, 32, 42, 32, 42]⟩, .int .i64 5, .int .i64 10, .string ⟨#[32, 64, 110, 101, 118, 101, 114]⟩, .int .i64 1, .int .i64 10, .string ⟨#[64, 100, 97, 105, 108, 121, 32, 120]⟩, .int .i64 8, .int .i64 10, .string ⟨#[64, 68, 97, 105, 108, 121]⟩, .int .i64 0, .int .i64 10, .string ⟨#[42, 32, 42, 32, 42, 32, 42, 32, 42, 32, 42, 32, 42]⟩, .int .i64 12, .int .i64 10, .string ⟨#[54, 49, 32, 48, 32, 120, 32, 42, 32, 42]⟩, .int .i64 0, .int .i64 2, .string ⟨#[42, 32, 42, 32, 42, 32, 42, 32, 42, 32, 56]⟩, .int .i64 10, .int .i64 2].toArray 80) = W1 from hW1] at R0 X0
      obtain ⟨N, hN⟩ : ∃ N, wr.heap.size = N := ⟨_, rfl⟩
      rw [hN] at R0
      have K1 : Hid (KX w N 80 badL W1) := Lib.hid ⟨X0, R0⟩
      clear R0 X0 K
      go_wp2_with fail
      try rw [hW1]
      clear hW1 K0
      go_loopw [121] (fun i wr => ∃ k : Nat, k ≤ 11 ∧ i = .int .i64 k ∧ Hid (KX w N 80 badL wr)) (fun i _ => 20 - (intOf i).toNat)
      case atStart => exact ⟨0, Nat.zero_le _, rfl, K1⟩
      case round =>
        obtain ⟨k, hk, rfl, K⟩ := hrel
        by_cases hlt : k < 11
        · have q1 : decide ((k : Int) < 11) = true := by rw [decide_eq_true_iff]; omega
          have q1n : decide (k < 11) = true := by rw [decide_eq_true_iff]; omega
          have i0 : (0 : Int) ≤ (k : Int) := by omega
          have i1 : (k : Int) < 11 := by omega
          obtain ⟨r1, r2, r3⟩ := badL_at k hlt
          have c1 := (K.out.row.cell (k * 3)).trans r1
          have c2 := (K.out.row.cell (k * 3 + 1)).trans r2
          have c3 := (K.out.row.cell (k * 3 + 2)).trans r3
          obtain ⟨f1, f2⟩ := badF k hlt
          obtain ⟨S1, e1⟩ : ∃ S, (⟨(badAt k).1.toArray⟩ : ByteArray) = S := ⟨_, rfl⟩
          obtain ⟨a, e2⟩ : ∃ a, (badAt k).2.1 = a := ⟨_, rfl⟩
          obtain ⟨b, e3⟩ : ∃ a, (badAt k).2.2 = a := ⟨_, rfl⟩
          have f3 : Exp.parse S1.data.toList = (Exp.zero, a, b) := by rw [← e1, ← e2, ← e3]; exact f2
          rw [e1] at c1 f1
          rw [e2] at c2
          rw [e3] at c3
          have PA := Lib.hid (show ∀ W : World, Calls Tryz.prog 13 #[.string S1] W (fun r w' => r = .returned (.tuple #[.agg #[.int .u64 0, .int .u64 0, .int .u64 0, .int .u64 0, .int .u64 0, .int .u64 0, .bool false, .bool false], .int .i64 a, .int .i64 b]) ∧ Below W.heap.size W w') from fun W => parse_any S1 (by omega) Exp.zero a b f3 W)
          clear r1 r2 r3 f1 f2 f3 e1 e2 e3
          go_wp2_with fail
          obtain ⟨W2, hW2⟩ : ∃ W2, wr.alloc (.cells #[.string S1, .int .i64 a, .int .i64 b] 80) = W2 := ⟨_, rfl⟩
          have K2 := K.out.alloc (.cells #[.string S1, .int .i64 a, .int .i64 b] 80)
          have X2 := Row.new wr [.string S1, .int .i64 a, .int .i64 b] 80
          rw [show wr.alloc (.cells [.string S1, .int .i64 a, .int .i64 b].toArray 80) = W2 from hW2] at X2
          rw [hW2] at K2 ⊢
          obtain ⟨M, hM⟩ : ∃ M, wr.heap.size = M := ⟨_, rfl⟩
          rw [hM] at X2
          have K := Lib.hid K2
          have X := Lib.hid X2
          clear K2 X2 hW2
          refine (PA.out _).mono ?_
          rintro e' w3 ⟨rfl, hb⟩
          have Kw := K.out.next hb
          have Xw := X.out.below hb
          have z0 := Xw.cell 0; have z1 := Xw.cell 1; have z2 := Xw.cell 2
          simp only [List.getElem?_cons_zero, List.getElem?_cons_succ] at z0 z1 z2
          have lz := Xw.lt
          have ne1 : M ≠ w3.heap.size := by omega
          have ne2 : w3.heap.size ≠ M := by omega
          have K := Lib.hid (Kw.alloc (.cells #[.int .u64 0, .int .u64 0, .int .u64 0, .int .u64 0, .int .u64 0, .int .u64 0, .bool false, .bool false] 25))
          have Xa := Xw.alloc (.cells #[.int .u64 0, .int .u64 0, .int .u64 0, .int .u64 0, .int .u64 0, .int .u64 0, .bool false, .bool false] 25)
          have x0 := Xa.cell 0; have x1 := Xa.cell 1; have x2 := Xa.cell 2
          simp only [List.getElem?_cons_zero, List.getElem?_cons_succ] at x0 x1 x2
          clear Kw Xw Xa lz hb c1 c2 c3 PA X
          go_wp2_with fail
          go_roundw
          case rel => exact ⟨k + 1, by omega, by go_num, K⟩
          case measure => simp [intOf]; omega
        · obtain rfl : k = 11 := by omega
          have X := Lib.hid K.out.x
          clear K K1
          go_wp2_with fail
          refine (md_any _).mono ?_
          rintro e' w3 ⟨rfl, hb⟩
          have X3 := (X.out.next hb).alloc (.cells #[.int .u64 1152921504606846975, .int .u64 1152921504606846975, .int .u64 16777215, .int .u64 4294967294, .int .u64 8190, .int .u64 127, .bool false, .bool false] 25)
          have G3 : Row (w3.alloc (.cells [.int .u64 1152921504606846975, .int .u64 1152921504606846975, .int .u64 16777215, .int .u64 4294967294, .int .u64 8190, .int .u64 127, .bool false, .bool false].toArray 25)) w3.heap.size 25 [.int .u64 1152921504606846975, .int .u64 1152921504606846975, .int .u64 16777215, .int .u64 4294967294, .int .u64 8190, .int .u64 127, .bool false, .bool false] := Row.new w3 [.int .u64 1152921504606846975, .int .u64 1152921504606846975, .int .u64 16777215, .int .u64 4294967294, .int .u64 8190, .int .u64 127, .bool false, .bool false] 25
          clear hb
          go_wp2_with fail
          obtain ⟨W4, hW4⟩ : ∃ W4, w3.alloc (.cells #[.int .u64 1152921504606846975, .int .u64 1152921504606846975, .int .u64 16777215, .int .u64 4294967294, .int .u64 8190, .int .u64 127, .bool false, .bool false] 25) = W4 := ⟨_, rfl⟩
          rw [show w3.alloc (.cells [.int .u64 1152921504606846975, .int .u64 1152921504606846975, .int .u64 16777215, .int .u64 4294967294, .int .u64 8190, .int .u64 127, .bool false, .bool false].toArray 25) = W4 from hW4] at G3
          rw [hW4] at X3 ⊢
          obtain ⟨B, hB⟩ : ∃ B, w3.heap.size = B := ⟨_, rfl⟩
          rw [hB] at G3 ⊢
          have X := Lib.hid X3
          have G := Lib.hid G3
          clear X3 G3 hB hW4
          go_loopw [150] (fun i wr => ∃ k : Nat, k ≤ 8 ∧ i = .int .i64 k ∧ Hid (XC w [] wr) ∧ Hid (Row wr B 25 [.int .u64 1152921504606846975, .int .u64 1152921504606846975, .int .u64 16777215, .int .u64 4294967294, .int .u64 8190, .int .u64 127, .bool false, .bool false])) (fun i _ => 20 - (intOf i).toNat)
          case atStart => exact ⟨0, Nat.zero_le _, rfl, X, G⟩
          case round =>
            obtain ⟨k, hk, rfl, X, G⟩ := hrel
            have h9 : k = 0 ∨ k = 1 ∨ k = 2 ∨ k = 3 ∨ k = 4 ∨ k = 5 ∨ k = 6 ∨ k = 7 ∨ k = 8 := by omega
            clear hk
            rcases h9 with rfl | rfl | rfl | rfl | rfl | rfl | rfl | rfl | rfl
            · as_aux_lemma =>
                have g0 := G.out.cell 0; have g1 := G.out.cell 1; have g2 := G.out.cell 2; have g3 := G.out.cell 3; have g4 := G.out.cell 4; have g5 := G.out.cell 5; have g6 := G.out.cell 6; have g7 := G.out.cell 7
                simp only [List.getElem?_cons_zero, List.getElem?_cons_succ] at g0 g1 g2 g3 g4 g5 g6 g7
                go_wp2_with fail
                obtain ⟨W5, hW5⟩ : ∃ W5, wr.alloc (.cells #[.int .u64 0, .int .u64 1152921504606846975, .int .u64 16777215, .int .u64 4294967294, .int .u64 8190, .int .u64 127, .bool false, .bool false] 25) = W5 := ⟨_, rfl⟩
                have Xb := X.out.alloc (.cells #[.int .u64 0, .int .u64 1152921504606846975, .int .u64 16777215, .int .u64 4294967294, .int .u64 8190, .int .u64 127, .bool false, .bool false] 25)
                have Gb := G.out.alloc (.cells #[.int .u64 0, .int .u64 1152921504606846975, .int .u64 16777215, .int .u64 4294967294, .int .u64 8190, .int .u64 127, .bool false, .bool false] 25)
                have Bb : Row (wr.alloc (.cells [.int .u64 0, .int .u64 1152921504606846975, .int .u64 16777215, .int .u64 4294967294, .int .u64 8190, .int .u64 127, .bool false, .bool false].toArray 25)) wr.heap.size 25 [.int .u64 0, .int .u64 1152921504606846975, .int .u64 16777215, .int .u64 4294967294, .int .u64 8190, .int .u64 127, .bool false, .bool false] := Row.new wr [.int .u64 0, .int .u64 1152921504606846975, .int .u64 16777215, .int .u64 4294967294, .int .u64 8190, .int .u64 127, .bool false, .bool false] 25
                rw [show wr.alloc (.cells [.int .u64 0, .int .u64 1152921504606846975, .int .u64 16777215, .int .u64 4294967294, .int .u64 8190, .int .u64 127, .bool false, .bool false].toArray 25) = W5 from hW5] at Bb
                rw [hW5] at Xb Gb ⊢
                obtain ⟨B2, hB2⟩ : ∃ B2, wr.heap.size = B2 := ⟨_, rfl⟩
                rw [hB2] at Bb ⊢
                have X := Lib.hid Xb
                have G := Lib.hid Gb
                have Bd := Lib.hid Bb
                clear Xb Gb Bb hB2 hW5
                refine (bd0_print _).mono ?_
                rintro e' w6 ⟨rfl, hb⟩
                clear g0 g1 g2 g3 g4 g5 g6 g7
                have X := Lib.hid (X.out.next hb)
                have G := Lib.hid (G.out.below hb)
                have Bd := Lib.hid (Bd.out.below hb)
                clear hb
                have g0 := G.out.cell 0; have g1 := G.out.cell 1; have g2 := G.out.cell 2; have g3 := G.out.cell 3; have g4 := G.out.cell 4; have g5 := G.out.cell 5; have g6 := G.out.cell 6; have g7 := G.out.cell 7
                simp only [List.getElem?_cons_zero, List.getElem?_cons_succ] at g0 g1 g2 g3 g4 g5 g6 g7
                have b0 := Bd.out.cell 0; have b1 := Bd.out.cell 1; have b2 := Bd.out.cell 2; have b3 := Bd.out.cell 3; have b4 := Bd.out.cell 4; have b5 := Bd.out.cell 5; have b6 := Bd.out.cell 6; have b7 := Bd.out.cell 7
                simp only [List.getElem?_cons_zero, List.getElem?_cons_succ] at b0 b1 b2 b3 b4 b5 b6 b7
                go_wp2_with fail
                refine (bd0_both _).mono ?_
                rintro e' w7 ⟨rfl, hb⟩
                clear g0 g1 g2 g3 g4 g5 g6 g7 b0 b1 b2 b3 b4 b5 b6 b7
                have Gw := G.out.below hb
                have Bw := Bd.out.below hb
                have gl := Gw.lt; have bl := Bw.lt
                have ne1 : B ≠ w7.heap.size := by omega
                have ne2 : w7.heap.size ≠ B := by omega
                have ne3 : B2 ≠ w7.heap.size := by omega
                have ne4 : w7.heap.size ≠ B2 := by omega
                have g0 := Gw.cell 0; have g1 := Gw.cell 1; have g2 := Gw.cell 2; have g3 := Gw.cell 3; have g4 := Gw.cell 4; have g5 := Gw.cell 5; have g6 := Gw.cell 6; have g7 := Gw.cell 7
                simp only [List.getElem?_cons_zero, List.getElem?_cons_succ] at g0 g1 g2 g3 g4 g5 g6 g7
                have b0 := Bw.cell 0; have b1 := Bw.cell 1; have b2 := Bw.cell 2; have b3 := Bw.cell 3; have b4 := Bw.cell 4; have b5 := Bw.cell 5; have b6 := Bw.cell 6; have b7 := Bw.cell 7
                simp only [List.getElem?_cons_zero, List.getElem?_cons_succ] at b0 b1 b2 b3 b4 b5 b6 b7
                have X := Lib.hid ((X.out.next hb).alloc (.cells #[.int .u64 0, .int .u64 0, .int .u64 0, .int .u64 0, .int .u64 0, .int .u64 0, .bool false, .bool false] 25))
                have Ga := Gw.alloc (.cells #[.int .u64 0, .int .u64 0, .int .u64 0, .int .u64 0, .int .u64 0, .int .u64 0, .bool false, .bool false] 25)
                have Ba := Bw.alloc (.cells #[.int .u64 0, .int .u64 0, .int .u64 0, .int .u64 0, .int .u64 0, .int .u64 0, .bool false, .bool false] 25)
                have p0 := Ga.cell 0; have p1 := Ga.cell 1; have p2 := Ga.cell 2; have p3 := Ga.cell 3; have p4 := Ga.cell 4; have p5 := Ga.cell 5; have p6 := Ga.cell 6; have p7 := Ga.cell 7
                simp only [List.getElem?_cons_zero, List.getElem?_cons_succ] at p0 p1 p2 p3 p4 p5 p6 p7
                have q0 := Ba.cell 0; have q1 := Ba.cell 1; have q2 := Ba.cell 2; have q3 := Ba.cell 3; have q4 := Ba.cell 4; have q5 := Ba.cell 5; have q6 := Ba.cell 6; have q7 := Ba.cell 7
                simp only [List.getElem?_cons_zero, List.getElem?_cons_succ] at q0 q1 q2 q3 q4 q5 q6 q7
                have G := Lib.hid Ga
                have Bd := Lib.hid Ba
                clear Ga Ba Gw Bw gl bl hb
                go_wp2_with fail
                refine (bd0_both2 _).mono ?_
                rintro e' w8 ⟨rfl, hb⟩
                clear g0 g1 g2 g3 g4 g5 g6 g7 b0 b1 b2 b3 b4 b5 b6 b7 p0 p1 p2 p3 p4 p5 p6 p7 q0 q1 q2 q3 q4 q5 q6 q7
                have Gw := G.out.below hb
                have Bw := Bd.out.below hb
                have gl := Gw.lt; have bl := Bw.lt
                have ne1 : B ≠ w8.heap.size := by omega
                have ne2 : w8.heap.size ≠ B := by omega
                have ne3 : B2 ≠ w8.heap.size := by omega
                have ne4 : w8.heap.size ≠ B2 := by omega
                have g0 := Gw.cell 0; have g1 := Gw.cell 1; have g2 := Gw.cell 2; have g3 := Gw.cell 3; have g4 := Gw.cell 4; have g5 := Gw.cell 5; have g6 := Gw.cell 6; have g7 := Gw.cell 7
                simp only [List.getElem?_cons_zero, List.getElem?_cons_succ] at g0 g1 g2 g3 g4 g5 g6 g7
                have b0 := Bw.cell 0; have b1 := Bw.cell 1; have b2 := Bw.cell 2; have b3 := Bw.cell 3; have b4 := Bw.cell 4; have b5 := Bw.cell 5; have b6 := Bw.cell 6; have b7 := Bw.cell 7
                simp only [List.getElem?_cons_zero, List.getElem?_cons_succ] at b0 b1 b2 b3 b4 b5 b6 b7
                have X := Lib.hid ((X.out.next hb).alloc (.cells #[.int .u64 0, .int .u64 0, .int .u64 0, .int .u64 0, .int .u64 0, .int .u64 0, .bool false, .bool false] 25))
                have Ga := Gw.alloc (.cells #[.int .u64 0, .int .u64 0, .int .u64 0, .int .u64 0, .int .u64 0, .int .u64 0, .bool false, .bool false] 25)
                have Ba := Bw.alloc (.cells #[.int .u64 0, .int .u64 0, .int .u64 0, .int .u64 0, .int .u64 0, .int .u64 0, .bool false, .bool false] 25)
                have p0 := Ga.cell 0; have p1 := Ga.cell 1; have p2 := Ga.cell 2; have p3 := Ga.cell 3; have p4 := Ga.cell 4; have p5 := Ga.cell 5; have p6 := Ga.cell 6; have p7 := Ga.cell 7
                simp only [List.getElem?_cons_zero, List.getElem?_cons_succ] at p0 p1 p2 p3 p4 p5 p6 p7
                have q0 := Ba.cell 0; have q1 := Ba.cell 1; have q2 := Ba.cell 2; have q3 := Ba.cell 3; have q4 := Ba.cell 4; have q5 := Ba.cell 5; have q6 := Ba.cell 6; have q7 := Ba.cell 7
                simp only [List.getElem?_cons_zero, List.getElem?_cons_succ] at q0 q1 q2 q3 q4 q5 q6 q7
                have G := Lib.hid Ga
                have Bd := Lib.hid Ba
                clear Ga Ba Gw Bw gl bl hb
                go_wp2_with fail
                refine (bd0_sec _).mono ?_
                rintro e' w9 ⟨rfl, hb⟩
                clear g0 g1 g2 g3 g4 g5 g6 g7 b0 b1 b2 b3 b4 b5 b6 b7 p0 p1 p2 p3 p4 p5 p6 p7 q0 q1 q2 q3 q4 q5 q6 q7
                have X := Lib.hid (X.out.next hb)
                have G := Lib.hid (G.out.below hb)
                have Bd := Lib.hid (Bd.out.below hb)
                clear hb
                have g0 := G.out.cell 0; have g1 := G.out.cell 1; have g2 := G.out.cell 2; have g3 := G.out.cell 3; have g4 := G.out.cell 4; have g5 := G.out.cell 5; have g6 := G.out.cell 6; have g7 := G.out.cell 7
                simp only [List.getElem?_cons_zero, List.getElem?_cons_succ] at g0 g1 g2 g3 g4 g5 g6 g7
                have b0 := Bd.out.cell 0; have b1 := Bd.out.cell 1; have b2 := Bd.out.cell 2; have b3 := Bd.out.cell 3; have b4 := Bd.out.cell 4; have b5 := Bd.out.cell 5; have b6 := Bd.out.cell 6; have b7 := Bd.out.cell 7
                simp only [List.getElem?_cons_zero, List.getElem?_cons_succ] at b0 b1 b2 b3 b4 b5 b6 b7
                go_wp2_with fail
                refine (bd0_chk _).mono ?_
                rintro e' w10 ⟨rfl, hb⟩
                clear g0 g1 g2 g3 g4 g5 g6 g7 b0 b1 b2 b3 b4 b5 b6 b7
                have X := Lib.hid (X.out.next hb)
                have G := Lib.hid (G.out.below hb)
                have Bd := Lib.hid (Bd.out.below hb)
                clear hb
                have g0 := G.out.cell 0; have g1 := G.out.cell 1; have g2 := G.out.cell 2; have g3 := G.out.cell 3; have g4 := G.out.cell 4; have g5 := G.out.cell 5; have g6 := G.out.cell 6; have g7 := G.out.cell 7
                simp only [List.getElem?_cons_zero, List.getElem?_cons_succ] at g0 g1 g2 g3 g4 g5 g6 g7
                have b0 := Bd.out.cell 0; have b1 := Bd.out.cell 1; have b2 := Bd.out.cell 2; have b3 := Bd.out.cell 3; have b4 := Bd.out.cell 4; have b5 := Bd.out.cell 5; have b6 := Bd.out.cell 6; have b7 := Bd.out.cell 7
                simp only [List.getElem?_cons_zero, List.getElem?_cons_succ] at b0 b1 b2 b3 b4 b5 b6 b7
                go_wp2_with fail
                refine (bd0_eq _).mono ?_
                rintro e' w11 ⟨rfl, hb⟩
                clear g0 g1 g2 g3 g4 g5 g6 g7 b0 b1 b2 b3 b4 b5 b6 b7
                have X := Lib.hid (X.out.next hb)
                have G := Lib.hid (G.out.below hb)
                have Bd := Lib.hid (Bd.out.below hb)
                clear hb
                have g0 := G.out.cell 0; have g1 := G.out.cell 1; have g2 := G.out.cell 2; have g3 := G.out.cell 3; have g4 := G.out.cell 4; have g5 := G.out.cell 5; have g6 := G.out.cell 6; have g7 := G.out.cell 7
                simp only [List.getElem?_cons_zero, List.getElem?_cons_succ] at g0 g1 g2 g3 g4 g5 g6 g7
                have b0 := Bd.out.cell 0; have b1 := Bd.out.cell 1; have b2 := Bd.out.cell 2; have b3 := Bd.out.cell 3; have b4 := Bd.out.cell 4; have b5 := Bd.out.cell 5; have b6 := Bd.out.cell 6; have b7 := Bd.out.cell 7
                simp only [List.getElem?_cons_zero, List.getElem?_cons_succ] at b0 b1 b2 b3 b4 b5 b6 b7
                go_wp2_with fail
                refine (bd0_eq2 _).mono ?_
                rintro e' w12 ⟨rfl, hb⟩
                clear g0 g1 g2 g3 g4 g5 g6 g7 b0 b1 b2 b3 b4 b5 b6 b7
                have X := Lib.hid (X.out.next hb)
                have G := Lib.hid (G.out.below hb)
                have Bd := Lib.hid (Bd.out.below hb)
                clear hb
                have g0 := G.out.cell 0; have g1 := G.out.cell 1; have g2 := G.out.cell 2; have g3 := G.out.cell 3; have g4 := G.out.cell 4; have g5 := G.out.cell 5; have g6 := G.out.cell 6; have g7 := G.out.cell 7
                simp only [List.getElem?_cons_zero, List.getElem?_cons_succ] at g0 g1 g2 g3 g4 g5 g6 g7
                have b0 := Bd.out.cell 0; have b1 := Bd.out.cell 1; have b2 := Bd.out.cell 2; have b3 := Bd.out.cell 3; have b4 := Bd.out.cell 4; have b5 := Bd.out.cell 5; have b6 := Bd.out.cell 6; have b7 := Bd.out.cell 7
                simp only [List.getElem?_cons_zero, List.getElem?_cons_succ] at b0 b1 b2 b3 b4 b5 b6 b7
                go_wp2_with fail
                go_roundw
                case rel => exact ⟨1, by omega, by go_num, X, G⟩
                case measure => simp [intOf]
            · as_aux_lemma =>
                have or1 : bits .or .u64 1152921504606846975 1152921504606846976 = 2305843009213693951 := by decide +kernel
                have g0 := G.out.cell 0; have g1 := G.out.cell 1; have g2 := G.out.cell 2; have g3 := G.out.cell 3; have g4 := G.out.cell 4; have g5 := G.out.cell 5; have g6 := G.out.cell 6; have g7 := G.out.cell 7
                simp only [List.getElem?_cons_zero, List.getElem?_cons_succ] at g0 g1 g2 g3 g4 g5 g6 g7
                go_wp2_with fail
                obtain ⟨W5, hW5⟩ : ∃ W5, wr.alloc (.cells #[.int .u64 1152921504606846975, .int .u64 2305843009213693951, .int .u64 16777215, .int .u64 4294967294, .int .u64 8190, .int .u64 127, .bool false, .bool false] 25) = W5 := ⟨_, rfl⟩
                have Xb := X.out.alloc (.cells #[.int .u64 1152921504606846975, .int .u64 2305843009213693951, .int .u64 16777215, .int .u64 4294967294, .int .u64 8190, .int .u64 127, .bool false, .bool false] 25)
                have Gb := G.out.alloc (.cells #[.int .u64 1152921504606846975, .int .u64 2305843009213693951, .int .u64 16777215, .int .u64 4294967294, .int .u64 8190, .int .u64 127, .bool false, .bool false] 25)
                have Bb : Row (wr.alloc (.cells [.int .u64 1152921504606846975, .int .u64 2305843009213693951, .int .u64 16777215, .int .u64 4294967294, .int .u64 8190, .int .u64 127, .bool false, .bool false].toArray 25)) wr.heap.size 25 [.int .u64 1152921504606846975, .int .u64 2305843009213693951, .int .u64 16777215, .int .u64 4294967294, .int .u64 8190, .int .u64 127, .bool false, .bool false] := Row.new wr [.int .u64 1152921504606846975, .int .u64 2305843009213693951, .int .u64 16777215, .int .u64 4294967294, .int .u64 8190, .int .u64 127, .bool false, .bool false] 25
                rw [show wr.alloc (.cells [.int .u64 1152921504606846975, .int .u64 2305843009213693951, .int .u64 16777215, .int .u64 4294967294, .int .u64 8190, .int .u64 127, .bool false, .bool false].toArray 25) = W5 from hW5] at Bb
                rw [hW5] at Xb Gb ⊢
                obtain ⟨B2, hB2⟩ : ∃ B2, wr.heap.size = B2 := ⟨_, rfl⟩
                rw [hB2] at Bb ⊢
                have X := Lib.hid Xb
                have G := Lib.hid Gb
                have Bd := Lib.hid Bb
                clear Xb Gb Bb hB2 hW5
                refine (bd1_print _).mono ?_
                rintro e' w6 ⟨rfl, hb⟩
                clear g0 g1 g2 g3 g4 g5 g6 g7
                have X := Lib.hid (X.out.next hb)
                have G := Lib.hid (G.out.below hb)
                have Bd := Lib.hid (Bd.out.below hb)
                clear hb
                have g0 := G.out.cell 0; have g1 := G.out.cell 1; have g2 := G.out.cell 2; have g3 := G.out.cell 3; have g4 := G.out.cell 4; have g5 := G.out.cell 5; have g6 := G.out.cell 6; have g7 := G.out.cell 7
                simp only [List.getElem?_cons_zero, List.getElem?_cons_succ] at g0 g1 g2 g3 g4 g5 g6 g7
                have b0 := Bd.out.cell 0; have b1 := Bd.out.cell 1; have b2 := Bd.out.cell 2; have b3 := Bd.out.cell 3; have b4 := Bd.out.cell 4; have b5 := Bd.out.cell 5; have b6 := Bd.out.cell 6; have b7 := Bd.out.cell 7
                simp only [List.getElem?_cons_zero, List.getElem?_cons_succ] at b0 b1 b2 b3 b4 b5 b6 b7
                go_wp2_with fail
                refine (bd1_both _).mono ?_
                rintro e' w7 ⟨rfl, hb⟩
                clear g0 g1 g2 g3 g4 g5 g6 g7 b0 b1 b2 b3 b4 b5 b6 b7
                have Gw := G.out.below hb
                have Bw := Bd.out.below hb
                have gl := Gw.lt; have bl := Bw.lt
                have ne1 : B ≠ w7.heap.size := by omega
                have ne2 : w7.heap.size ≠ B := by omega
                have ne3 : B2 ≠ w7.heap.size := by omega
                have ne4 : w7.heap.size ≠ B2 := by omega
                have g0 := Gw.cell 0; have g1 := Gw.cell 1; have g2 := Gw.cell 2; have g3 := Gw.cell 3; have g4 := Gw.cell 4; have g5 := Gw.cell 5; have g6 := Gw.cell 6; have g7 := Gw.cell 7
                simp only [List.getElem?_cons_zero, List.getElem?_cons_succ] at g0 g1 g2 g3 g4 g5 g6 g7
                have b0 := Bw.cell 0; have b1 := Bw.cell 1; have b2 := Bw.cell 2; have b3 := Bw.cell 3; have b4 := Bw.cell 4; have b5 := Bw.cell 5; have b6 := Bw.cell 6; have b7 := Bw.cell 7
                simp only [List.getElem?_cons_zero, List.getElem?_cons_succ] at b0 b1 b2 b3 b4 b5 b6 b7
                have X := Lib.hid ((X.out.next hb).alloc (.cells #[.int .u64 0, .int .u64 0, .int .u64 0, .int .u64 0, .int .u64 0, .int .u64 0, .bool false, .bool false] 25))
                have Ga := Gw.alloc (.cells #[.int .u64 0, .int .u64 0, .int .u64 0, .int .u64 0, .int .u64 0, .int .u64 0, .bool false, .bool false] 25)
                have Ba := Bw.alloc (.cells #[.int .u64 0, .int .u64 0, .int .u64 0, .int .u64 0, .int .u64 0, .int .u64 0, .bool false, .bool false] 25)
                have p0 := Ga.cell 0; have p1 := Ga.cell 1; have p2 := Ga.cell 2; have p3 := Ga.cell 3; have p4 := Ga.cell 4; have p5 := Ga.cell 5; have p6 := Ga.cell 6; have p7 := Ga.cell 7
                simp only [List.getElem?_cons_zero, List.getElem?_cons_succ] at p0 p1 p2 p3 p4 p5 p6 p7
                have q0 := Ba.cell 0; have q1 := Ba.cell 1; have q2 := Ba.cell 2; have q3 := Ba.cell 3; have q4 := Ba.cell 4; have q5 := Ba.cell 5; have q6 := Ba.cell 6; have q7 := Ba.cell 7
                simp only [List.getElem?_cons_zero, List.getElem?_cons_succ] at q0 q1 q2 q3 q4 q5 q6 q7
                have G := Lib.hid Ga
                have Bd := Lib.hid Ba
                clear Ga Ba Gw Bw gl bl hb
                go_wp2_with fail
                refine (bd1_both2 _).mono ?_
                rintro e' w8 ⟨rfl, hb⟩
                clear g0 g1 g2 g3 g4 g5 g6 g7 b0 b1 b2 b3 b4 b5 b6 b7 p0 p1 p2 p3 p4 p5 p6 p7 q0 q1 q2 q3 q4 q5 q6 q7
                have Gw := G.out.below hb
                have Bw := Bd.out.below hb
                have gl := Gw.lt; have bl := Bw.lt
                have ne1 : B ≠ w8.heap.size := by omega
                have ne2 : w8.heap.size ≠ B := by omega
                have ne3 : B2 ≠ w8.heap.size := by omega
                have ne4 : w8.heap.size ≠ B2 := by omega
                have g0 := Gw.cell 0; have g1 := Gw.cell 1; have g2 := Gw.cell 2; have g3 := Gw.cell 3; have g4 := Gw.cell 4; have g5 := Gw.cell 5; have g6 := Gw.cell 6; have g7 := Gw.cell 7
                simp only [List.getElem?_cons_zero, List.getElem?_cons_succ] at g0 g1 g2 g3 g4 g5 g6 g7
                have b0 := Bw.cell 0; have b1 := Bw.cell 1; have b2 := Bw.cell 2; have b3 := Bw.cell 3; have b4 := Bw.cell 4; have b5 := Bw.cell 5; have b6 := Bw.cell 6; have b7 := Bw.cell 7
                simp only [List.getElem?_cons_zero, List.getElem?_cons_succ] at b0 b1 b2 b3 b4 b5 b6 b7
                have X := Lib.hid ((X.out.next hb).alloc (.cells #[.int .u64 0, .int .u64 0, .int .u64 0, .int .u64 0, .int .u64 0, .int .u64 0, .bool false, .bool false] 25))
                have Ga := Gw.alloc (.cells #[.int .u64 0, .int .u64 0, .int .u64 0, .int .u64 0, .int .u64 0, .int .u64 0, .bool false, .bool false] 25)
                have Ba := Bw.alloc (.cells #[.int .u64 0, .int .u64 0, .int .u64 0, .int .u64 0, .int .u64 0, .int .u64 0, .bool false, .bool false] 25)
                have p0 := Ga.cell 0; have p1 := Ga.cell 1; have p2 := Ga.cell 2; have p3 := Ga.cell 3; have p4 := Ga.cell 4; have p5 := Ga.cell 5; have p6 := Ga.cell 6; have p7 := Ga.cell 7
                simp only [List.getElem?_cons_zero, List.getElem?_cons_succ] at p0 p1 p2 p3 p4 p5 p6 p7
                have q0 := Ba.cell 0; have q1 := Ba.cell 1; have q2 := Ba.cell 2; have q3 := Ba.cell 3; have q4 := Ba.cell 4; have q5 := Ba.cell 5; have q6 := Ba.cell 6; have q7 := Ba.cell 7
                simp only [List.getElem?_cons_zero, List.getElem?_cons_succ] at q0 q1 q2 q3 q4 q5 q6 q7
                have G := Lib.hid Ga
                have Bd := Lib.hid Ba
                clear Ga Ba Gw Bw gl bl hb
                go_wp2_with fail
                refine (bd1_sec _).mono ?_
                rintro e' w9 ⟨rfl, hb⟩
                clear g0 g1 g2 g3 g4 g5 g6 g7 b0 b1 b2 b3 b4 b5 b6 b7 p0 p1 p2 p3 p4 p5 p6 p7 q0 q1 q2 q3 q4 q5 q6 q7
                have X := Lib.hid (X.out.next hb)
                have G := Lib.hid (G.out.below hb)
                have Bd := Lib.hid (Bd.out.below hb)
                clear hb
                have g0 := G.out.cell 0; have g1 := G.out.cell 1; have g2 := G.out.cell 2; have g3 := G.out.cell 3; have g4 := G.out.cell 4; have g5 := G.out.cell 5; have g6 := G.out.cell 6; have g7 := G.out.cell 7
                simp only [List.getElem?_cons_zero, List.getElem?_cons_succ] at g0 g1 g2 g3 g4 g5 g6 g7
                have b0 := Bd.out.cell 0; have b1 := Bd.out.cell 1; have b2 := Bd.out.cell 2; have b3 := Bd.out.cell 3; have b4 := Bd.out.cell 4; have b5 := Bd.out.cell 5; have b6 := Bd.out.cell 6; have b7 := Bd.out.cell 7
                simp only [List.getElem?_cons_zero, List.getElem?_cons_succ] at b0 b1 b2 b3 b4 b5 b6 b7
                go_wp2_with fail
                refine (bd1_chk _).mono ?_
                rintro e' w10 ⟨rfl, hb⟩
                clear g0 g1 g2 g3 g4 g5 g6 g7 b0 b1 b2 b3 b4 b5 b6 b7
                have X := Lib.hid (X.out.next hb)
                have G := Lib.hid (G.out.below hb)
                have Bd := Lib.hid (Bd.out.below hb)
                clear hb
                have g0 := G.out.cell 0; have g1 := G.out.cell 1; have g2 := G.out.cell 2; have g3 := G.out.cell 3; have g4 := G.out.cell 4; have g5 := G.out.cell 5; have g6 := G.out.cell 6; have g7 := G.out.cell 7
                simp only [List.getElem?_cons_zero, List.getElem?_cons_succ] at g0 g1 g2 g3 g4 g5 g6 g7
                have b0 := Bd.out.cell 0; have b1 := Bd.out.cell 1; have b2 := Bd.out.cell 2; have b3 := Bd.out.cell 3; have b4 := Bd.out.cell 4; have b5 := Bd.out.cell 5; have b6 := Bd.out.cell 6; have b7 := Bd.out.cell 7
                simp only [List.getElem?_cons_zero, List.getElem?_cons_succ] at b0 b1 b2 b3 b4 b5 b6 b7
                go_wp2_with fail
                refine (bd1_eq _).mono ?_
                rintro e' w11 ⟨rfl, hb⟩
                clear g0 g1 g2 g3 g4 g5 g6 g7 b0 b1 b2 b3 b4 b5 b6 b7
                have X := Lib.hid (X.out.next hb)
                have G := Lib.hid (G.out.below hb)
                have Bd := Lib.hid (Bd.out.below hb)
                clear hb
                have g0 := G.out.cell 0; have g1 := G.out.cell 1; have g2 := G.out.cell 2; have g3 := G.out.cell 3; have g4 := G.out.cell 4; have g5 := G.out.cell 5; have g6 := G.out.cell 6; have g7 := G.out.cell 7
                simp only [List.getElem?_cons_zero, List.getElem?_cons_succ] at g0 g1 g2 g3 g4 g5 g6 g7
                have b0 := Bd.out.cell 0; have b1 := Bd.out.cell 1; have b2 := Bd.out.cell 2; have b3 := Bd.out.cell 3; have b4 := Bd.out.cell 4; have b5 := Bd.out.cell 5; have b6 := Bd.out.cell 6; have b7 := Bd.out.cell 7
                simp only [List.getElem?_cons_zero, List.getElem?_cons_succ] at b0 b1 b2 b3 b4 b5 b6 b7
                go_wp2_with fail
                refine (bd1_eq2 _).mono ?_
                rintro e' w12 ⟨rfl, hb⟩
                clear g0 g1 g2 g3 g4 g5 g6 g7 b0 b1 b2 b3 b4 b5 b6 b7
                have X := Lib.hid (X.out.next hb)
                have G := Lib.hid (G.out.below hb)
                have Bd := Lib.hid (Bd.out.below hb)
                clear hb
                have g0 := G.out.cell 0; have g1 := G.out.cell 1; have g2 := G.out.cell 2; have g3 := G.out.cell 3; have g4 := G.out.cell 4; have g5 := G.out.cell 5; have g6 := G.out.cell 6; have g7 := G.out.cell 7
                simp only [List.getElem?_cons_zero, List.getElem?_cons_succ] at g0 g1 g2 g3 g4 g5 g6 g7
                have b0 := Bd.out.cell 0; have b1 := Bd.out.cell 1; have b2 := Bd.out.cell 2; have b3 := Bd.out.cell 3; have b4 := Bd.out.cell 4; have b5 := Bd.out.cell 5; have b6 := Bd.out.cell 6; have b7 := Bd.out.cell 7
                simp only [List.getElem?_cons_zero, List.getElem?_cons_succ] at b0 b1 b2 b3 b4 b5 b6 b7
                go_wp2_with fail
                go_roundw
                case rel => exact ⟨2, by omega, by go_num, X, G⟩
                case measure => simp [intOf]
            · as_aux_lemma =>
                have or1 : bits .or .u64 16777215 16777216 = 33554431 := by decide +kernel
                have g0 := G.out.cell 0; have g1 := G.out.cell 1; have g2 := G.out.cell 2; have g3 := G.out.cell 3; have g4 := G.out.cell 4; have g5 := G.out.cell 5; have g6 := G.out.cell 6; have g7 := G.out.cell 7
                simp only [List.getElem?_cons_zero, List.getElem?_cons_succ] at g0 g1 g2 g3 g4 g5 g6 g7
                go_wp2_with fail
                obtain ⟨W5, hW5⟩ : ∃ W5, wr.alloc (.cells #[.int .u64 1152921504606846975, .int .u64 1152921504606846975, .int .u64 33554431, .int .u64 4294967294, .int .u64 8190, .int .u64 127, .bool false, .bool false] 25) = W5 := ⟨_, rfl⟩
                have Xb := X.out.alloc (.cells #[.int .u64 1152921504606846975, .int .u64 1152921504606846975, .int .u64 33554431, .int .u64 4294967294, .int .u64 8190, .int .u64 127, .bool false, .bool false] 25)
                have Gb := G.out.alloc (.cells #[.int .u64 1152921504606846975, .int .u64 1152921504606846975, .int .u64 33554431, .int .u64 4294967294, .int .u64 8190, .int .u64 127, .bool false, .bool false] 25)
                have Bb : Row (wr.alloc (.cells [.int .u64 1152921504606846975, .int .u64 1152921504606846975, .int .u64 33554431, .int .u64 4294967294, .int .u64 8190, .int .u64 127, .bool false, .bool false].toArray 25)) wr.heap.size 25 [.int .u64 1152921504606846975, .int .u64 1152921504606846975, .int .u64 33554431, .int .u64 4294967294, .int .u64 8190, .int .u64 127, .bool false, .bool false] := Row.new wr [.int .u64 1152921504606846975, .int .u64 1152921504606846975, .int .u64 33554431, .int .u64 4294967294, .int .u64 8190, .int .u64 127, .bool false, .bool false] 25
                rw [show wr.alloc (.cells [.int .u64 1152921504606846975, .int .u64 1152921504606846975, .int .u64 33554431, .int .u64 4294967294, .int .u64 8190, .int .u64 127, .bool false, .bool false].toArray 25) = W5 from hW5] at Bb
                rw [hW5] at Xb Gb ⊢
                obtain ⟨B2, hB2⟩ : ∃ B2, wr.heap.size = B2 := ⟨_, rfl⟩
                rw [hB2] at Bb ⊢
                have X := Lib.hid Xb
                have G := Lib.hid Gb
                have Bd := Lib.hid Bb
                clear Xb Gb Bb hB2 hW5
                refine (bd2_print _).mono ?_
                rintro e' w6 ⟨rfl, hb⟩
                clear g0 g1 g2 g3 g4 g5 g6 g7
                have X := Lib.hid (X.out.next hb)
                have G := Lib.hid (G.out.below hb)
                have Bd := Lib.hid (Bd.out.below hb)
                clear hb
                have g0 := G.out.cell 0; have g1 := G.out.cell 1; have g2 := G.out.cell 2; have g3 := G.out.cell 3; have g4 := G.out.cell 4; have g5 := G.out.cell 5; have g6 := G.out.cell 6; have g7 := G.out.cell 7
                simp only [List.getElem?_cons_zero, List.getElem?_cons_succ] at g0 g1 g2 g3 g4 g5 g6 g7
                have b0 := Bd.out.cell 0; have b1 := Bd.out.cell 1; have b2 := Bd.out.cell 2; have b3 := Bd.out.cell 3; have b4 := Bd.out.cell 4; have b5 := Bd.out.cell 5; have b6 := Bd.out.cell 6; have b7 := Bd.out.cell 7
                simp only [List.getElem?_cons_zero, List.getElem?_cons_succ] at b0 b1 b2 b3 b4 b5 b6 b7
                go_wp2_with fail
                refine (bd2_both _).mono ?_
                rintro e' w7 ⟨rfl, hb⟩
                clear g0 g1 g2 g3 g4 g5 g6 g7 b0 b1 b2 b3 b4 b5 b6 b7
                have Gw := G.out.below hb
                have Bw := Bd.out.below hb
                have gl := Gw.lt; have bl := Bw.lt
                have ne1 : B ≠ w7.heap.size := by omega
                have ne2 : w7.heap.size ≠ B := by omega
                have ne3 : B2 ≠ w7.heap.size := by omega
                have ne4 : w7.heap.size ≠ B2 := by omega
                have g0 := Gw.cell 0; have g1 := Gw.cell 1; have g2 := Gw.cell 2; have g3 := Gw.cell 3; have g4 := Gw.cell 4; have g5 := Gw.cell 5; have g6 := Gw.cell 6; have g7 := Gw.cell 7
                simp only [List.getElem?_cons_zero, List.getElem?_cons_succ] at g0 g1 g2 g3 g4 g5 g6 g7
                have b0 := Bw.cell 0; have b1 := Bw.cell 1; have b2 := Bw.cell 2; have b3 := Bw.cell 3; have b4 := Bw.cell 4; have b5 := Bw.cell 5; have b6 := Bw.cell 6; have b7 := Bw.cell 7
                simp only [List.getElem?_cons_zero, List.getElem?_cons_succ] at b0 b1 b2 b3 b4 b5 b6 b7
                have X := Lib.hid ((X.out.next hb).alloc (.cells #[.int .u64 0, .int .u64 0, .int .u64 0, .int .u64 0, .int .u64 0, .int .u64 0, .bool false, .bool false] 25))
                have Ga := Gw.alloc (.cells #[.int .u64 0, .int .u64 0, .int .u64 0, .int .u64 0, .int .u64 0, .int .u64 0, .bool false, .bool false] 25)
                have Ba := Bw.alloc (.cells #[.int .u64 0, .int .u64 0, .int .u64 0, .int .u64 0, .int .u64 0, .int .u64 0, .bool false, .bool false] 25)
                have p0 := Ga.cell 0; have p1 := Ga.cell 1; have p2 := Ga.cell 2; have p3 := Ga.cell 3; have p4 := Ga.cell 4; have p5 := Ga.cell 5; have p6 := Ga.cell 6; have p7 := Ga.cell 7
                simp only [List.getElem?_cons_zero, List.getElem?_cons_succ] at p0 p1 p2 p3 p4 p5 p6 p7
                have q0 := Ba.cell 0; have q1 := Ba.cell 1; have q2 := Ba.cell 2; have q3 := Ba.cell 3; have q4 := Ba.cell 4; have q5 := Ba.cell 5; have q6 := Ba.cell 6; have q7 := Ba.cell 7
                simp only [List.getElem?_cons_zero, List.getElem?_cons_succ] at q0 q1 q2 q3 q4 q5 q6 q7
                have G := Lib.hid Ga
                have Bd := Lib.hid Ba
                clear Ga Ba Gw Bw gl bl hb
                go_wp2_with fail
                refine (bd2_both2 _).mono ?_
                rintro e' w8 ⟨rfl, hb⟩
                clear g0 g1 g2 g3 g4 g5 g6 g7 b0 b1 b2 b3 b4 b5 b6 b7 p0 p1 p2 p3 p4 p5 p6 p7 q0 q1 q2 q3 q4 q5 q6 q7
                have Gw := G.out.below hb
                have Bw := Bd.out.below hb
                have gl := Gw.lt; have bl := Bw.lt
                have ne1 : B ≠ w8.heap.size := by omega
                have ne2 : w8.heap.size ≠ B := by omega
                have ne3 : B2 ≠ w8.heap.size := by omega
                have ne4 : w8.heap.size ≠ B2 := by omega
                have g0 := Gw.cell 0; have g1 := Gw.cell 1; have g2 := Gw.cell 2; have g3 := Gw.cell 3; have g4 := Gw.cell 4; have g5 := Gw.cell 5; have g6 := Gw.cell 6; have g7 := Gw.cell 7
                simp only [List.getElem?_cons_zero, List.getElem?_cons_succ] at g0 g1 g2 g3 g4 g5 g6 g7
                have b0 := Bw.cell 0; have b1 := Bw.cell 1; have b2 := Bw.cell 2; have b3 := Bw.cell 3; have b4 := Bw.cell 4; have b5 := Bw.cell 5; have b6 := Bw.cell 6; have b7 := Bw.cell 7
                simp only [List.getElem?_cons_zero, List.getElem?_cons_succ] at b0 b1 b2 b3 b4 b5 b6 b7
                have X := Lib.hid ((X.out.next hb).alloc (.cells #[.int .u64 0, .int .u64 0, .int .u64 0, .int .u64 0, .int .u64 0, .int .u64 0, .bool false, .bool false] 25))
                have Ga := Gw.alloc (.cells #[.int .u64 0, .int .u64 0, .int .u64 0, .int .u64 0, .int .u64 0, .int .u64 0, .bool false, .bool false] 25)
                have Ba := Bw.alloc (.cells #[.int .u64 0, .int .u64 0, .int .u64 0, .int .u64 0, .int .u64 0, .int .u64 0, .bool false, .bool false] 25)
                have p0 := Ga.cell 0; have p1 := Ga.cell 1; have p2 := Ga.cell 2; have p3 := Ga.cell 3; have p4 := Ga.cell 4; have p5 := Ga.cell 5; have p6 := Ga.cell 6; have p7 := Ga.cell 7
                simp only [List.getElem?_cons_zero, List.getElem?_cons_succ] at p0 p1 p2 p3 p4 p5 p6 p7
                have q0 := Ba.cell 0; have q1 := Ba.cell 1; have q2 := Ba.cell 2; have q3 := Ba.cell 3; have q4 := Ba.cell 4; have q5 := Ba.cell 5; have q6 := Ba.cell 6; have q7 := Ba.cell 7
                simp only [List.getElem?_cons_zero, List.getElem?_cons_succ] at q0 q1 q2 q3 q4 q5 q6 q7
                have G := Lib.hid Ga
                have Bd := Lib.hid Ba
                clear Ga Ba Gw Bw gl bl hb
                go_wp2_with fail
                refine (bd2_sec _).mono ?_
                rintro e' w9 ⟨rfl, hb⟩
                clear g0 g1 g2 g3 g4 g5 g6 g7 b0 b1 b2 b3 b4 b5 b6 b7 p0 p1 p2 p3 p4 p5 p6 p7 q0 q1 q2 q3 q4 q5 q6 q7
                have X := Lib.hid (X.out.next hb)
                have G := Lib.hid (G.out.below hb)
                have Bd := Lib.hid (Bd.out.below hb)
                clear hb
                have g0 := G.out.cell 0; have g1 := G.out.cell 1; have g2 := G.out.cell 2; have g3 := G.out.cell 3; have g4 := G.out.cell 4; have g5 := G.out.cell 5; have g6 := G.out.cell 6; have g7 := G.out.cell 7
                simp only [List.getElem?_cons_zero, List.getElem?_cons_succ] at g0 g1 g2 g3 g4 g5 g6 g7
                have b0 := Bd.out.cell 0; have b1 := Bd.out.cell 1; have b2 := Bd.out.cell 2; have b3 := Bd.out.cell 3; have b4 := Bd.out.cell 4; have b5 := Bd.out.cell 5; have b6 := Bd.out.cell 6; have b7 := Bd.out.cell 7
                simp only [List.getElem?_cons_zero, List.getElem?_cons_succ] at b0 b1 b2 b3 b4 b5 b6 b7
                go_wp2_with fail
                refine (bd2_chk _).mono ?_
                rintro e' w10 ⟨rfl, hb⟩
                clear g0 g1 g2 g3 g4 g5 g6 g7 b0 b1 b2 b3 b4 b5 b6 b7
                have X := Lib.hid (X.out.next hb)
                have G := Lib.hid (G.out.below hb)
                have Bd := Lib.hid (Bd.out.below hb)
                clear hb
                have g0 := G.out.cell 0; have g1 := G.out.cell 1; have g2 := G.out.cell 2; have g3 := G.out.cell 3; have g4 := G.out.cell 4; have g5 := G.out.cell 5; have g6 := G.out.cell 6; have g7 := G.out.cell 7
                simp only [List.getElem?_cons_zero, List.getElem?_cons_succ] at g0 g1 g2 g3 g4 g5 g6 g7
                have b0 := Bd.out.cell 0; have b1 := Bd.out.cell 1; have b2 := Bd.out.cell 2; have b3 := Bd.out.cell 3; have b4 := Bd.out.cell 4; have b5 := Bd.out.cell 5; have b6 := Bd.out.cell 6; have b7 := Bd.out.cell 7
                simp only [List.getElem?_cons_zero, List.getElem?_cons_succ] at b0 b1 b2 b3 b4 b5 b6 b7
                go_wp2_with fail
                refine (bd2_eq _).mono ?_
                rintro e' w11 ⟨rfl, hb⟩
                clear g0 g1 g2 g3 g4 g5 g6 g7 b0 b1 b2 b3 b4 b5 b6 b7
                have X := Lib.hid (X.out.next hb)
                have G := Lib.hid (G.out.below hb)
                have Bd := Lib.hid (Bd.out.below hb)
                clear hb
                have g0 := G.out.cell 0; have g1 := G.out.cell 1; have g2 := G.out.cell 2; have g3 := G.out.cell 3; have g4 := G.out.cell 4; have g5 := G.out.cell 5; have g6 := G.out.cell 6; have g7 := G.out.cell 7
                simp only [List.getElem?_cons_zero, List.getElem?_cons_succ] at g0 g1 g2 g3 g4 g5 g6 g7
                have b0 := Bd.out.cell 0; have b1 := Bd.out.cell 1; have b2 := Bd.out.cell 2; have b3 := Bd.out.cell 3; have b4 := Bd.out.cell 4; have b5 := Bd.out.cell 5; have b6 := Bd.out.cell 6; have b7 := Bd.out.cell 7
                simp only [List.getElem?_cons_zero, List.getElem?_cons_succ] at b0 b1 b2 b3 b4 b5 b6 b7
                go_wp2_with fail
                refine (bd2_eq2 _).mono ?_
                rintro e' w12 ⟨rfl, hb⟩
                clear g0 g1 g2 g3 g4 g5 g6 g7 b0 b1 b2 b3 b4 b5 b6 b7
                have X := Lib.hid (X.out.next hb)
                have G := Lib.hid (G.out.below hb)
                have Bd := Lib.hid (Bd.out.below hb)
                clear hb
                have g0 := G.out.cell 0; have g1 := G.out.cell 1; have g2 := G.out.cell 2; have g3 := G.out.cell 3; have g4 := G.out.cell 4; have g5 := G.out.cell 5; have g6 := G.out.cell 6; have g7 := G.out.cell 7
                simp only [List.getElem?_cons_zero, List.getElem?_cons_succ] at g0 g1 g2 g3 g4 g5 g6 g7
                have b0 := Bd.out.cell 0; have b1 := Bd.out.cell 1; have b2 := Bd.out.cell 2; have b3 := Bd.out.cell 3; have b4 := Bd.out.cell 4; have b5 := Bd.out.cell 5; have b6 := Bd.out.cell 6; have b7 := Bd.out.cell 7
                simp only [List.getElem?_cons_zero, List.getElem?_cons_succ] at b0 b1 b2 b3 b4 b5 b6 b7
                go_wp2_with fail
                go_roundw
                case rel => exact ⟨3, by omega, by go_num, X, G⟩
                case measure => simp [intOf]
            · as_aux_lemma =>
                have or1 : bits .or .u64 4294967294 1 = 4294967295 := by decide +kernel
                have g0 := G.out.cell 0; have g1 := G.out.cell 1; have g2 := G.out.cell 2; have g3 := G.out.cell 3; have g4 := G.out.cell 4; have g5 := G.out.cell 5; have g6 := G.out.cell 6; have g7 := G.out.cell 7
                simp only [List.getElem?_cons_zero, List.getElem?_cons_succ] at g0 g1 g2 g3 g4 g5 g6 g7
                go_wp2_with fail
                obtain ⟨W5, hW5⟩ : ∃ W5, wr.alloc (.cells #[.int .u64 1152921504606846975, .int .u64 1152921504606846975, .int .u64 16777215, .int .u64 4294967295, .int .u64 8190, .int .u64 127, .bool false, .bool false] 25) = W5 := ⟨_, rfl⟩
                have Xb := X.out.alloc (.cells #[.int .u64 1152921504606846975, .int .u64 1152921504606846975, .int .u64 16777215, .int .u64 4294967295, .int .u64 8190, .int .u64 127, .bool false, .bool false] 25)
                have Gb := G.out.alloc (.cells #[.int .u64 1152921504606846975, .int .u64 1152921504606846975, .int .u64 16777215, .int .u64 4294967295, .int .u64 8190, .int .u64 127, .bool false, .bool false] 25)
                have Bb : Row (wr.alloc (.cells [.int .u64 1152921504606846975, .int .u64 1152921504606846975, .int .u64 16777215, .int .u64 4294967295, .int .u64 8190, .int .u64 127, .bool false, .bool false].toArray 25)) wr.heap.size 25 [.int .u64 1152921504606846975, .int .u64 1152921504606846975, .int .u64 16777215, .int .u64 4294967295, .int .u64 8190, .int .u64 127, .bool false, .bool false] := Row.new wr [.int .u64 1152921504606846975, .int .u64 1152921504606846975, .int .u64 16777215, .int .u64 4294967295, .int .u64 8190, .int .u64 127, .bool false, .bool false] 25
                rw [show wr.alloc (.cells [.int .u64 1152921504606846975, .int .u64 1152921504606846975, .int .u64 16777215, .int .u64 4294967295, .int .u64 8190, .int .u64 127, .bool false, .bool false].toArray 25) = W5 from hW5] at Bb
                rw [hW5] at Xb Gb ⊢
                obtain ⟨B2, hB2⟩ : ∃ B2, wr.heap.size = B2 := ⟨_, rfl⟩
                rw [hB2] at Bb ⊢
                have X := Lib.hid Xb
                have G := Lib.hid Gb
                have Bd := Lib.hid Bb
                clear Xb Gb Bb hB2 hW5
                refine (bd3_print _).mono ?_
                rintro e' w6 ⟨rfl, hb⟩
                clear g0 g1 g2 g3 g4 g5 g6 g7
                have X := Lib.hid (X.out.next hb)
                have G := Lib.hid (G.out.below hb)
                have Bd := Lib.hid (Bd.out.below hb)
                clear hb
                have g0 := G.out.cell 0; have g1 := G.out.cell 1; have g2 := G.out.cell 2; have g3 := G.out.cell 3; have g4 := G.out.cell 4; have g5 := G.out.cell 5; have g6 := G.out.cell 6; have g7 := G.out.cell 7
                simp only [List.getElem?_cons_zero, List.getElem?_cons_succ] at g0 g1 g2 g3 g4 g5 g6 g7
                have b0 := Bd.out.cell 0; have b1 := Bd.out.cell 1; have b2 := Bd.out.cell 2; have b3 := Bd.out.cell 3; have b4 := Bd.out.cell 4; have b5 := Bd.out.cell 5; have b6 := Bd.out.cell 6; have b7 := Bd.out.cell 7
                simp only [List.getElem?_cons_zero, List.getElem?_cons_succ] at b0 b1 b2 b3 b4 b5 b6 b7
                go_wp2_with fail
                refine (bd3_both _).mono ?_
                rintro e' w7 ⟨rfl, hb⟩
                clear g0 g1 g2 g3 g4 g5 g6 g7 b0 b1 b2 b3 b4 b5 b6 b7
                have Gw := G.out.below hb
                have Bw := Bd.out.below hb
                have gl := Gw.lt; have bl := Bw.lt
                have ne1 : B ≠ w7.heap.size := by omega
                have ne2 : w7.heap.size ≠ B := by omega
                have ne3 : B2 ≠ w7.heap.size := by omega
                have ne4 : w7.heap.size ≠ B2 := by omega
                have g0 := Gw.cell 0; have g1 := Gw.cell 1; have g2 := Gw.cell 2; have g3 := Gw.cell 3; have g4 := Gw.cell 4; have g5 := Gw.cell 5; have g6 := Gw.cell 6; have g7 := Gw.cell 7
                simp only [List.getElem?_cons_zero, List.getElem?_cons_succ] at g0 g1 g2 g3 g4 g5 g6 g7
                have b0 := Bw.cell 0; have b1 := Bw.cell 1; have b2 := Bw.cell 2; have b3 := Bw.cell 3; have b4 := Bw.cell 4; have b5 := Bw.cell 5; have b6 := Bw.cell 6; have b7 := Bw.cell 7
                simp only [List.getElem?_cons_zero, List.getElem?_cons_succ] at b0 b1 b2 b3 b4 b5 b6 b7
                have X := Lib.hid ((X.out.next hb).alloc (.cells #[.int .u64 0, .int .u64 0, .int .u64 0, .int .u64 0, .int .u64 0, .int .u64 0, .bool false, .bool false] 25))
                have Ga := Gw.alloc (.cells #[.int .u64 0, .int .u64 0, .int .u64 0, .int .u64 0, .int .u64 0, .int .u64 0, .bool false, .bool false] 25)
                have Ba := Bw.alloc (.cells #[.int .u64 0, .int .u64 0, .int .u64 0, .int .u64 0, .int .u64 0, .int .u64 0, .bool false, .bool false] 25)
                have p0 := Ga.cell 0; have p1 := Ga.cell 1; have p2 := Ga.cell 2; have p3 := Ga.cell 3; have p4 := Ga.cell 4; have p5 := Ga.cell 5; have p6 := Ga.cell 6; have p7 := Ga.cell 7
                simp only [List.getElem?_cons_zero, List.getElem?_cons_succ] at p0 p1 p2 p3 p4 p5 p6 p7
                have q0 := Ba.cell 0; have q1 := Ba.cell 1; have q2 := Ba.cell 2; have q3 := Ba.cell 3; have q4 := Ba.cell 4; have q5 := Ba.cell 5; have q6 := Ba.cell 6; have q7 := Ba.cell 7
                simp only [List.getElem?_cons_zero, List.getElem?_cons_succ] at q0 q1 q2 q3 q4 q5 q6 q7
                have G := Lib.hid Ga
                have Bd := Lib.hid Ba
                clear Ga Ba Gw Bw gl bl hb
                go_wp2_with fail
                refine (bd3_both2 _).mono ?_
                rintro e' w8 ⟨rfl, hb⟩
                clear g0 g1 g2 g3 g4 g5 g6 g7 b0 b1 b2 b3 b4 b5 b6 b7 p0 p1 p2 p3 p4 p5 p6 p7 q0 q1 q2 q3 q4 q5 q6 q7
                have Gw := G.out.below hb
                have Bw := Bd.out.below hb
                have gl := Gw.lt; have bl := Bw.lt
                have ne1 : B ≠ w8.heap.size := by omega
                have ne2 : w8.heap.size ≠ B := by omega
                have ne3 : B2 ≠ w8.heap.size := by omega
                have ne4 : w8.heap.size ≠ B2 := by omega
                have g0 := Gw.cell 0; have g1 := Gw.cell 1; have g2 := Gw.cell 2; have g3 := Gw.cell 3; have g4 := Gw.cell 4; have g5 := Gw.cell 5; have g6 := Gw.cell 6; have g7 := Gw.cell 7
                simp only [List.getElem?_cons_zero, List.getElem?_cons_succ] at g0 g1 g2 g3 g4 g5 g6 g7
                have b0 := Bw.cell 0; have b1 := Bw.cell 1; have b2 := Bw.cell 2; have b3 := Bw.cell 3; have b4 := Bw.cell 4; have b5 := Bw.cell 5; have b6 := Bw.cell 6; have b7 := Bw.cell 7
                simp only [List.getElem?_cons_zero, List.getElem?_cons_succ] at b0 b1 b2 b3 b4 b5 b6 b7
                have X := Lib.hid ((X.out.next hb).alloc (.cells #[.int .u64 0, .int .u64 0, .int .u64 0, .int .u64 0, .int .u64 0, .int .u64 0, .bool false, .bool false] 25))
                have Ga := Gw.alloc (.cells #[.int .u64 0, .int .u64 0, .int .u64 0, .int .u64 0, .int .u64 0, .int .u64 0, .bool false, .bool false] 25)
                have Ba := Bw.alloc (.cells #[.int .u64 0, .int .u64 0, .int .u64 0, .int .u64 0, .int .u64 0, .int .u64 0, .bool false, .bool false] 25)
                have p0 := Ga.cell 0; have p1 := Ga.cell 1; have p2 := Ga.cell 2; have p3 := Ga.cell 3; have p4 := Ga.cell 4; have p5 := Ga.cell 5; have p6 := Ga.cell 6; have p7 := Ga.cell 7
                simp only [List.getElem?_cons_zero, List.getElem?_cons_succ] at p0 p1 p2 p3 p4 p5 p6 p7
                have q0 := Ba.cell 0; have q1 := Ba.cell 1; have q2 := Ba.cell 2; have q3 := Ba.cell 3; have q4 := Ba.cell 4; have q5 := Ba.cell 5; have q6 := Ba.cell 6; have q7 := Ba.cell 7
                simp only [List.getElem?_cons_zero, List.getElem?_cons_succ] at q0 q1 q2 q3 q4 q5 q6 q7
                have G := Lib.hid Ga
                have Bd := Lib.hid Ba
                clear Ga Ba Gw Bw gl bl hb
                go_wp2_with fail
                refine (bd3_sec _).mono ?_
                rintro e' w9 ⟨rfl, hb⟩
                clear g0 g1 g2 g3 g4 g5 g6 g7 b0 b1 b2 b3 b4 b5 b6 b7 p0 p1 p2 p3 p4 p5 p6 p7 q0 q1 q2 q3 q4 q5 q6 q7
                have X := Lib.hid (X.out.next hb)
                have G := Lib.hid (G.out.below hb)
                have Bd := Lib.hid (Bd.out.below hb)
                clear hb
                have g0 := G.out.cell 0; have g1 := G.out.cell 1; have g2 := G.out.cell 2; have g3 := G.out.cell 3; have g4 := G.out.cell 4; have g5 := G.out.cell 5; have g6 := G.out.cell 6; have g7 := G.out.cell 7
                simp only [List.getElem?_cons_zero, List.getElem?_cons_succ] at g0 g1 g2 g3 g4 g5 g6 g7
                have b0 := Bd.out.cell 0; have b1 := Bd.out.cell 1; have b2 := Bd.out.cell 2; have b3 := Bd.out.cell 3; have b4 := Bd.out.cell 4; have b5 := Bd.out.cell 5; have b6 := Bd.out.cell 6; have b7 := Bd.out.cell 7
                simp only [List.getElem?_cons_zero, List.getElem?_cons_succ] at b0 b1 b2 b3 b4 b5 b6 b7
                go_wp2_with fail
                refine (bd3_chk _).mono ?_
                rintro e' w10 ⟨rfl, hb⟩
                clear g0 g1 g2 g3 g4 g5 g6 g7 b0 b1 b2 b3 b4 b5 b6 b7
                have X := Lib.hid (X.out.next hb)
                have G := Lib.hid (G.out.below hb)
                have Bd := Lib.hid (Bd.out.below hb)
                clear hb
                have g0 := G.out.cell 0; have g1 := G.out.cell 1; have g2 := G.out.cell 2; have g3 := G.out.cell 3; have g4 := G.out.cell 4; have g5 := G.out.cell 5; have g6 := G.out.cell 6; have g7 := G.out.cell 7
                simp only [List.getElem?_cons_zero, List.getElem?_cons_succ] at g0 g1 g2 g3 g4 g5 g6 g7
                have b0 := Bd.out.cell 0; have b1 := Bd.out.cell 1; have b2 := Bd.out.cell 2; have b3 := Bd.out.cell 3; have b4 := Bd.out.cell 4; have b5 := Bd.out.cell 5; have b6 := Bd.out.cell 6; have b7 := Bd.out.cell 7
                simp only [List.getElem?_cons_zero, List.getElem?_cons_succ] at b0 b1 b2 b3 b4 b5 b6 b7
                go_wp2_with fail
                refine (bd3_eq _).mono ?_
                rintro e' w11 ⟨rfl, hb⟩
                clear g0 g1 g2 g3 g4 g5 g6 g7 b0 b1 b2 b3 b4 b5 b6 b7
                have X := Lib.hid (X.out.next hb)
                have G := Lib.hid (G.out.below hb)
                have Bd := Lib.hid (Bd.out.below hb)
                clear hb
                have g0 := G.out.cell 0; have g1 := G.out.cell 1; have g2 := G.out.cell 2; have g3 := G.out.cell 3; have g4 := G.out.cell 4; have g5 := G.out.cell 5; have g6 := G.out.cell 6; have g7 := G.out.cell 7
                simp only [List.getElem?_cons_zero, List.getElem?_cons_succ] at g0 g1 g2 g3 g4 g5 g6 g7
                have b0 := Bd.out.cell 0; have b1 := Bd.out.cell 1; have b2 := Bd.out.cell 2; have b3 := Bd.out.cell 3; have b4 := Bd.out.cell 4; have b5 := Bd.out.cell 5; have b6 := Bd.out.cell 6; have b7 := Bd.out.cell 7
                simp only [List.getElem?_cons_zero, List.getElem?_cons_succ] at b0 b1 b2 b3 b4 b5 b6 b7
                go_wp2_with fail
                refine (bd3_eq2 _).mono ?_
                rintro e' w12 ⟨rfl, hb⟩
                clear g0 g1 g2 g3 g4 g5 g6 g7 b0 b1 b2 b3 b4 b5 b6 b7
                have X := Lib.hid (X.out.next hb)
                have G := Lib.hid (G.out.below hb)
                have Bd := Lib.hid (Bd.out.below hb)
                clear hb
                have g0 := G.out.cell 0; have g1 := G.out.cell 1; have g2 := G.out.cell 2; have g3 := G.out.cell 3; have g4 := G.out.cell 4; have g5 := G.out.cell 5; have g6 := G.out.cell 6; have g7 := G.out.cell 7
                simp only [List.getElem?_cons_zero, List.getElem?_cons_succ] at g0 g1 g2 g3 g4 g5 g6 g7
                have b0 := Bd.out.cell 0; have b1 := Bd.out.cell 1; have b2 := Bd.out.cell 2; have b3 := Bd.out.cell 3; have b4 := Bd.out.cell 4; have b5 := Bd.out.cell 5; have b6 := Bd.out.cell 6; have b7 := Bd.out.cell 7
                simp only [List.getElem?_cons_zero, List.getElem?_cons_succ] at b0 b1 b2 b3 b4 b5 b6 b7
                go_wp2_with fail
                go_roundw
                case rel => exact ⟨4, by omega, by go_num, X, G⟩
                case measure => simp [intOf]
            · as_aux_lemma =>
                have g0 := G.out.cell 0; have g1 := G.out.cell 1; have g2 := G.out.cell 2; have g3 := G.out.cell 3; have g4 := G.out.cell 4; have g5 := G.out.cell 5; have g6 := G.out.cell 6; have g7 := G.out.cell 7
                simp only [List.getElem?_cons_zero, List.getElem?_cons_succ] at g0 g1 g2 g3 g4 g5 g6 g7
                go_wp2_with fail
                obtain ⟨W5, hW5⟩ : ∃ W5, wr.alloc (.cells #[.int .u64 1152921504606846975, .int .u64 1152921504606846975, .int .u64 16777215, .int .u64 4294967294, .int .u64 8192, .int .u64 127, .bool false, .bool false] 25) = W5 := ⟨_, rfl⟩
                have Xb := X.out.alloc (.cells #[.int .u64 1152921504606846975, .int .u64 1152921504606846975, .int .u64 16777215, .int .u64 4294967294, .int .u64 8192, .int .u64 127, .bool false, .bool false] 25)
                have Gb := G.out.alloc (.cells #[.int .u64 1152921504606846975, .int .u64 1152921504606846975, .int .u64 16777215, .int .u64 4294967294, .int .u64 8192, .int .u64 127, .bool false, .bool false] 25)
                have Bb : Row (wr.alloc (.cells [.int .u64 1152921504606846975, .int .u64 1152921504606846975, .int .u64 16777215, .int .u64 4294967294, .int .u64 8192, .int .u64 127, .bool false, .bool false].toArray 25)) wr.heap.size 25 [.int .u64 1152921504606846975, .int .u64 1152921504606846975, .int .u64 16777215, .int .u64 4294967294, .int .u64 8192, .int .u64 127, .bool false, .bool false] := Row.new wr [.int .u64 1152921504606846975, .int .u64 1152921504606846975, .int .u64 16777215, .int .u64 4294967294, .int .u64 8192, .int .u64 127, .bool false, .bool false] 25
                rw [show wr.alloc (.cells [.int .u64 1152921504606846975, .int .u64 1152921504606846975, .int .u64 16777215, .int .u64 4294967294, .int .u64 8192, .int .u64 127, .bool false, .bool false].toArray 25) = W5 from hW5] at Bb
                rw [hW5] at Xb Gb ⊢
                obtain ⟨B2, hB2⟩ : ∃ B2, wr.heap.size = B2 := ⟨_, rfl⟩
                rw [hB2] at Bb ⊢
                have X := Lib.hid Xb
                have G := Lib.hid Gb
                have Bd := Lib.hid Bb
                clear Xb Gb Bb hB2 hW5
                refine (bd4_print _).mono ?_
                rintro e' w6 ⟨rfl, hb⟩
                clear g0 g1 g2 g3 g4 g5 g6 g7
                have X := Lib.hid (X.out.next hb)
                have G := Lib.hid (G.out.below hb)
                have Bd := Lib.hid (Bd.out.below hb)
                clear hb
                have g0 := G.out.cell 0; have g1 := G.out.cell 1; have g2 := G.out.cell 2; have g3 := G.out.cell 3; have g4 := G.out.cell 4; have g5 := G.out.cell 5; have g6 := G.out.cell 6; have g7 := G.out.cell 7
                simp only [List.getElem?_cons_zero, List.getElem?_cons_succ] at g0 g1 g2 g3 g4 g5 g6 g7
                have b0 := Bd.out.cell 0; have b1 := Bd.out.cell 1; have b2 := Bd.out.cell 2; have b3 := Bd.out.cell 3; have b4 := Bd.out.cell 4; have b5 := Bd.out.cell 5; have b6 := Bd.out.cell 6; have b7 := Bd.out.cell 7
                simp only [List.getElem?_cons_zero, List.getElem?_cons_succ] at b0 b1 b2 b3 b4 b5 b6 b7
                go_wp2_with fail
                refine (bd4_both _).mono ?_
                rintro e' w7 ⟨rfl, hb⟩
                clear g0 g1 g2 g3 g4 g5 g6 g7 b0 b1 b2 b3 b4 b5 b6 b7
                have Gw := G.out.below hb
                have Bw := Bd.out.below hb
                have gl := Gw.lt; have bl := Bw.lt
                have ne1 : B ≠ w7.heap.size := by omega
                have ne2 : w7.heap.size ≠ B := by omega
                have ne3 : B2 ≠ w7.heap.size := by omega
                have ne4 : w7.heap.size ≠ B2 := by omega
                have g0 := Gw.cell 0; have g1 := Gw.cell 1; have g2 := Gw.cell 2; have g3 := Gw.cell 3; have g4 := Gw.cell 4; have g5 := Gw.cell 5; have g6 := Gw.cell 6; have g7 := Gw.cell 7
                simp only [List.getElem?_cons_zero, List.getElem?_cons_succ] at g0 g1 g2 g3 g4 g5 g6 g7
                have b0 := Bw.cell 0; have b1 := Bw.cell 1; have b2 := Bw.cell 2; have b3 := Bw.cell 3; have b4 := Bw.cell 4; have b5 := Bw.cell 5; have b6 := Bw.cell 6; have b7 := Bw.cell 7
                simp only [List.getElem?_cons_zero, List.getElem?_cons_succ] at b0 b1 b2 b3 b4 b5 b6 b7
                have X := Lib.hid ((X.out.next hb).alloc (.cells #[.int .u64 0, .int .u64 0, .int .u64 0, .int .u64 0, .int .u64 0, .int .u64 0, .bool false, .bool false] 25))
                have Ga := Gw.alloc (.cells #[.int .u64 0, .int .u64 0, .int .u64 0, .int .u64 0, .int .u64 0, .int .u64 0, .bool false, .bool false] 25)
                have Ba := Bw.alloc (.cells #[.int .u64 0, .int .u64 0, .int .u64 0, .int .u64 0, .int .u64 0, .int .u64 0, .bool false, .bool false] 25)
                have p0 := Ga.cell 0; have p1 := Ga.cell 1; have p2 := Ga.cell 2; have p3 := Ga.cell 3; have p4 := Ga.cell 4; have p5 := Ga.cell 5; have p6 := Ga.cell 6; have p7 := Ga.cell 7
                simp only [List.getElem?_cons_zero, List.getElem?_cons_succ] at p0 p1 p2 p3 p4 p5 p6 p7
                have q0 := Ba.cell 0; have q1 := Ba.cell 1; have q2 := Ba.cell 2; have q3 := Ba.cell 3; have q4 := Ba.cell 4; have q5 := Ba.cell 5; have q6 := Ba.cell 6; have q7 := Ba.cell 7
                simp only [List.getElem?_cons_zero, List.getElem?_cons_succ] at q0 q1 q2 q3 q4 q5 q6 q7
                have G := Lib.hid Ga
                have Bd := Lib.hid Ba
                clear Ga Ba Gw Bw gl bl hb
                go_wp2_with fail
                refine (bd4_both2 _).mono ?_
                rintro e' w8 ⟨rfl, hb⟩
                clear g0 g1 g2 g3 g4 g5 g6 g7 b0 b1 b2 b3 b4 b5 b6 b7 p0 p1 p2 p3 p4 p5 p6 p7 q0 q1 q2 q3 q4 q5 q6 q7
                have Gw := G.out.below hb
                have Bw := Bd.out.below hb
                have gl := Gw.lt; have bl := Bw.lt
                have ne1 : B ≠ w8.heap.size := by omega
                have ne2 : w8.heap.size ≠ B := by omega
                have ne3 : B2 ≠ w8.heap.size := by omega
                have ne4 : w8.heap.size ≠ B2 := by omega
                have g0 := Gw.cell 0; have g1 := Gw.cell 1; have g2 := Gw.cell 2; have g3 := Gw.cell 3; have g4 := Gw.cell 4; have g5 := Gw.cell 5; have g6 := Gw.cell 6; have g7 := Gw.cell 7
                simp only [List.getElem?_cons_zero, List.getElem?_cons_succ] at g0 g1 g2 g3 g4 g5 g6 g7
                have b0 := Bw.cell 0; have b1 := Bw.cell 1; have b2 := Bw.cell 2; have b3 := Bw.cell 3; have b4 := Bw.cell 4; have b5 := Bw.cell 5; have b6 := Bw.cell 6; have b7 := Bw.cell 7
                simp only [List.getElem?_cons_zero, List.getElem?_cons_succ] at b0 b1 b2 b3 b4 b5 b6 b7
                have X := Lib.hid ((X.out.next hb).alloc (.cells #[.int .u64 0, .int .u64 0, .int .u64 0, .int .u64 0, .int .u64 0, .int .u64 0, .bool false, .bool false] 25))
                have Ga := Gw.alloc (.cells #[.int .u64 0, .int .u64 0, .int .u64 0, .int .u64 0, .int .u64 0, .int .u64 0, .bool false, .bool false] 25)
                have Ba := Bw.alloc (.cells #[.int .u64 0, .int .u64 0, .int .u64 0, .int .u64 0, .int .u64 0, .int .u64 0, .bool false, .bool false] 25)
                have p0 := Ga.cell 0; have p1 := Ga.cell 1; have p2 := Ga.cell 2; have p3 := Ga.cell 3; have p4 := Ga.cell 4; have p5 := Ga.cell 5; have p6 := Ga.cell 6; have p7 := Ga.cell 7
                simp only [List.getElem?_cons_zero, List.getElem?_cons_succ] at p0 p1 p2 p3 p4 p5 p6 p7
                have q0 := Ba.cell 0; have q1 := Ba.cell 1; have q2 := Ba.cell 2; have q3 := Ba.cell 3; have q4 := Ba.cell 4; have q5 := Ba.cell 5; have q6 := Ba.cell 6; have q7 := Ba.cell 7
                simp only [List.getElem?_cons_zero, List.getElem?_cons_succ] at q0 q1 q2 q3 q4 q5 q6 q7
                have G := Lib.hid Ga
                have Bd := Lib.hid Ba
                clear Ga Ba Gw Bw gl bl hb
                go_wp2_with fail
                refine (bd4_sec _).mono ?_
                rintro e' w9 ⟨rfl, hb⟩
                clear g0 g1 g2 g3 g4 g5 g6 g7 b0 b1 b2 b3 b4 b5 b6 b7 p0 p1 p2 p3 p4 p5 p6 p7 q0 q1 q2 q3 q4 q5 q6 q7
                have X := Lib.hid (X.out.next hb)
                have G := Lib.hid (G.out.below hb)
                have Bd := Lib.hid (Bd.out.below hb)
                clear hb
                have g0 := G.out.cell 0; have g1 := G.out.cell 1; have g2 := G.out.cell 2; have g3 := G.out.cell 3; have g4 := G.out.cell 4; have g5 := G.out.cell 5; have g6 := G.out.cell 6; have g7 := G.out.cell 7
                simp only [List.getElem?_cons_zero, List.getElem?_cons_succ] at g0 g1 g2 g3 g4 g5 g6 g7
                have b0 := Bd.out.cell 0; have b1 := Bd.out.cell 1; have b2 := Bd.out.cell 2; have b3 := Bd.out.cell 3; have b4 := Bd.out.cell 4; have b5 := Bd.out.cell 5; have b6 := Bd.out.cell 6; have b7 := Bd.out.cell 7
                simp only [List.getElem?_cons_zero, List.getElem?_cons_succ] at b0 b1 b2 b3 b4 b5 b6 b7
                go_wp2_with fail
                refine (bd4_chk _).mono ?_
                rintro e' w10 ⟨rfl, hb⟩
                clear g0 g1 g2 g3 g4 g5 g6 g7 b0 b1 b2 b3 b4 b5 b6 b7
                have X := Lib.hid (X.out.next hb)
                have G := Lib.hid (G.out.below hb)
                have Bd := Lib.hid (Bd.out.below hb)
                clear hb
                have g0 := G.out.cell 0; have g1 := G.out.cell 1; have g2 := G.out.cell 2; have g3 := G.out.cell 3; have g4 := G.out.cell 4; have g5 := G.out.cell 5; have g6 := G.out.cell 6; have g7 := G.out.cell 7
                simp only [List.getElem?_cons_zero, List.getElem?_cons_succ] at g0 g1 g2 g3 g4 g5 g6 g7
                have b0 := Bd.out.cell 0; have b1 := Bd.out.cell 1; have b2 := Bd.out.cell 2; have b3 := Bd.out.cell 3; have b4 := Bd.out.cell 4; have b5 := Bd.out.cell 5; have b6 := Bd.out.cell 6; have b7 := Bd.out.cell 7
                simp only [List.getElem?_cons_zero, List.getElem?_cons_succ] at b0 b1 b2 b3 b4 b5 b6 b7
                go_wp2_with fail
                refine (bd4_eq _).mono ?_
                rintro e' w11 ⟨rfl, hb⟩
                clear g0 g1 g2 g3 g4 g5 g6 g7 b0 b1 b2 b3 b4 b5 b6 b7
                have X := Lib.hid (X.out.next hb)
                have G := Lib.hid (G.out.below hb)
                have Bd := Lib.hid (Bd.out.below hb)
                clear hb
                have g0 := G.out.cell 0; have g1 := G.out.cell 1; have g2 := G.out.cell 2; have g3 := G.out.cell 3; have g4 := G.out.cell 4; have g5 := G.out.cell 5; have g6 := G.out.cell 6; have g7 := G.out.cell 7
                simp only [List.getElem?_cons_zero, List.getElem?_cons_succ] at g0 g1 g2 g3 g4 g5 g6 g7
                have b0 := Bd.out.cell 0; have b1 := Bd.out.cell 1; have b2 := Bd.out.cell 2; have b3 := Bd.out.cell 3; have b4 := Bd.out.cell 4; have b5 := Bd.out.cell 5; have b6 := Bd.out.cell 6; have b7 := Bd.out.cell 7
                simp only [List.getElem?_cons_zero, List.getElem?_cons_succ] at b0 b1 b2 b3 b4 b5 b6 b7
                go_wp2_with fail
                refine (bd4_eq2 _).mono ?_
                rintro e' w12 ⟨rfl, hb⟩
                clear g0 g1 g2 g3 g4 g5 g6 g7 b0 b1 b2 b3 b4 b5 b6 b7
                have X := Lib.hid (X.out.next hb)
                have G := Lib.hid (G.out.below hb)
                have Bd := Lib.hid (Bd.out.below hb)
                clear hb
                have g0 := G.out.cell 0; have g1 := G.out.cell 1; have g2 := G.out.cell 2; have g3 := G.out.cell 3; have g4 := G.out.cell 4; have g5 := G.out.cell 5; have g6 := G.out.cell 6; have g7 := G.out.cell 7
                simp only [List.getElem?_cons_zero, List.getElem?_cons_succ] at g0 g1 g2 g3 g4 g5 g6 g7
                have b0 := Bd.out.cell 0; have b1 := Bd.out.cell 1; have b2 := Bd.out.cell 2; have b3 := Bd.out.cell 3; have b4 := Bd.out.cell 4; have b5 := Bd.out.cell 5; have b6 := Bd.out.cell 6; have b7 := Bd.out.cell 7
                simp only [List.getElem?_cons_zero, List.getElem?_cons_succ] at b0 b1 b2 b3 b4 b5 b6 b7
                go_wp2_with fail
                go_roundw
                case rel => exact ⟨5, by omega, by go_num, X, G⟩
                case measure => simp [intOf]
            · as_aux_lemma =>
                have or1 : bits .or .u64 127 128 = 255 := by decide +kernel
                have g0 := G.out.cell 0; have g1 := G.out.cell 1; have g2 := G.out.cell 2; have g3 := G.out.cell 3; have g4 := G.out.cell 4; have g5 := G.out.cell 5; have g6 := G.out.cell 6; have g7 := G.out.cell 7
                simp only [List.getElem?_cons_zero, List.getElem?_cons_succ] at g0 g1 g2 g3 g4 g5 g6 g7
                go_wp2_with fail
                obtain ⟨W5, hW5⟩ : ∃ W5, wr.alloc (.cells #[.int .u64 1152921504606846975, .int .u64 1152921504606846975, .int .u64 16777215, .int .u64 4294967294, .int .u64 8190, .int .u64 255, .bool false, .bool false] 25) = W5 := ⟨_, rfl⟩
                have Xb := X.out.alloc (.cells #[.int .u64 1152921504606846975, .int .u64 1152921504606846975, .int .u64 16777215, .int .u64 4294967294, .int .u64 8190, .int .u64 255, .bool false, .bool false] 25)
                have Gb := G.out.alloc (.cells #[.int .u64 1152921504606846975, .int .u64 1152921504606846975, .int .u64 16777215, .int .u64 4294967294, .int .u64 8190, .int .u64 255, .bool false, .bool false] 25)
                have Bb : Row (wr.alloc (.cells [.int .u64 1152921504606846975, .int .u64 1152921504606846975, .int .u64 16777215, .int .u64 4294967294, .int .u64 8190, .int .u64 255, .bool false, .bool false].toArray 25)) wr.heap.size 25 [.int .u64 1152921504606846975, .int .u64 1152921504606846975, .int .u64 16777215, .int .u64 4294967294, .int .u64 8190, .int .u64 255, .bool false, .bool false] := Row.new wr [.int .u64 1152921504606846975, .int .u64 1152921504606846975, .int .u64 16777215, .int .u64 4294967294, .int .u64 8190, .int .u64 255, .bool false, .bool false] 25
                rw [show wr.alloc (.cells [.int .u64 1152921504606846975, .int .u64 1152921504606846975, .int .u64 16777215, .int .u64 4294967294, .int .u64 8190, .int .u64 255, .bool false, .bool false].toArray 25) = W5 from hW5] at Bb
                rw [hW5] at Xb Gb ⊢
                obtain ⟨B2, hB2⟩ : ∃ B2, wr.heap.size = B2 := ⟨_, rfl⟩
                rw [hB2] at Bb ⊢
                have X := Lib.hid Xb
                have G := Lib.hid Gb
                have Bd := Lib.hid Bb
                clear Xb Gb Bb hB2 hW5
                refine (bd5_print _).mono ?_
                rintro e' w6 ⟨rfl, hb⟩
                clear g0 g1 g2 g3 g4 g5 g6 g7
                have X := Lib.hid (X.out.next hb)
                have G := Lib.hid (G.out.below hb)
                have Bd := Lib.hid (Bd.out.below hb)
                clear hb
                have g0 := G.out.cell 0; have g1 := G.out.cell 1; have g2 := G.out.cell 2; have g3 := G.out.cell 3; have g4 := G.out.cell 4; have g5 := G.out.cell 5; have g6 := G.out.cell 6; have g7 := G.out.cell 7
                simp only [List.getElem?_cons_zero, List.getElem?_cons_succ] at g0 g1 g2 g3 g4 g5 g6 g7
                have b0 := Bd.out.cell 0; have b1 := Bd.out.cell 1; have b2 := Bd.out.cell 2; have b3 := Bd.out.cell 3; have b4 := Bd.out.cell 4; have b5 := Bd.out.cell 5; have b6 := Bd.out.cell 6; have b7 := Bd.out.cell 7
                simp only [List.getElem?_cons_zero, List.getElem?_cons_succ] at b0 b1 b2 b3 b4 b5 b6 b7
                go_wp2_with fail
                refine (bd5_both _).mono ?_
                rintro e' w7 ⟨rfl, hb⟩
                clear g0 g1 g2 g3 g4 g5 g6 g7 b0 b1 b2 b3 b4 b5 b6 b7
                have Gw := G.out.below hb
                have Bw := Bd.out.below hb
                have gl := Gw.lt; have bl := Bw.lt
                have ne1 : B ≠ w7.heap.size := by omega
                have ne2 : w7.heap.size ≠ B := by omega
                have ne3 : B2 ≠ w7.heap.size := by omega
                have ne4 : w7.heap.size ≠ B2 := by omega
                have g0 := Gw.cell 0; have g1 := Gw.cell 1; have g2 := Gw.cell 2; have g3 := Gw.cell 3; have g4 := Gw.cell 4; have g5 := Gw.cell 5; have g6 := Gw.cell 6; have g7 := Gw.cell 7
                simp only [List.getElem?_cons_zero, List.getElem?_cons_succ] at g0 g1 g2 g3 g4 g5 g6 g7
                have b0 := Bw.cell 0; have b1 := Bw.cell 1; have b2 := Bw.cell 2; have b3 := Bw.cell 3; have b4 := Bw.cell 4; have b5 := Bw.cell 5; have b6 := Bw.cell 6; have b7 := Bw.cell 7
                simp only [List.getElem?_cons_zero, List.getElem?_cons_succ] at b0 b1 b2 b3 b4 b5 b6 b7
                have X := Lib.hid ((X.out.next hb).alloc (.cells #[.int .u64 0, .int .u64 0, .int .u64 0, .int .u64 0, .int .u64 0, .int .u64 0, .bool false, .bool false] 25))
                have Ga := Gw.alloc (.cells #[.int .u64 0, .int .u64 0, .int .u64 0, .int .u64 0, .int .u64 0, .int .u64 0, .bool false, .bool false] 25)
                have Ba := Bw.alloc (.cells #[.int .u64 0, .int .u64 0, .int .u64 0, .int .u64 0, .int .u64 0, .int .u64 0, .bool false, .bool false] 25)
                have p0 := Ga.cell 0; have p1 := Ga.cell 1; have p2 := Ga.cell 2; have p3 := Ga.cell 3; have p4 := Ga.cell 4; have p5 := Ga.cell 5; have p6 := Ga.cell 6; have p7 := Ga.cell 7
                simp only [List.getElem?_cons_zero, List.getElem?_cons_succ] at p0 p1 p2 p3 p4 p5 p6 p7
                have q0 := Ba.cell 0; have q1 := Ba.cell 1; have q2 := Ba.cell 2; have q3 := Ba.cell 3; have q4 := Ba.cell 4; have q5 := Ba.cell 5; have q6 := Ba.cell 6; have q7 := Ba.cell 7
                simp only [List.getElem?_cons_zero, List.getElem?_cons_succ] at q0 q1 q2 q3 q4 q5 q6 q7
                have G := Lib.hid Ga
                have Bd := Lib.hid Ba
                clear Ga Ba Gw Bw gl bl hb
                go_wp2_with fail
                refine (bd5_both2 _).mono ?_
                rintro e' w8 ⟨rfl, hb⟩
                clear g0 g1 g2 g3 g4 g5 g6 g7 b0 b1 b2 b3 b4 b5 b6 b7 p0 p1 p2 p3 p4 p5 p6 p7 q0 q1 q2 q3 q4 q5 q6 q7
                have Gw := G.out.below hb
                have Bw := Bd.out.below hb
                have gl := Gw.lt; have bl := Bw.lt
                have ne1 : B ≠ w8.heap.size := by omega
                have ne2 : w8.heap.size ≠ B := by omega
                have ne3 : B2 ≠ w8.heap.size := by omega
                have ne4 : w8.heap.size ≠ B2 := by omega
                have g0 := Gw.cell 0; have g1 := Gw.cell 1; have g2 := Gw.cell 2; have g3 := Gw.cell 3; have g4 := Gw.cell 4; have g5 := Gw.cell 5; have g6 := Gw.cell 6; have g7 := Gw.cell 7
                simp only [List.getElem?_cons_zero, List.getElem?_cons_succ] at g0 g1 g2 g3 g4 g5 g6 g7
                have b0 := Bw.cell 0; have b1 := Bw.cell 1; have b2 := Bw.cell 2; have b3 := Bw.cell 3; have b4 := Bw.cell 4; have b5 := Bw.cell 5; have b6 := Bw.cell 6; have b7 := Bw.cell 7
                simp only [List.getElem?_cons_zero, List.getElem?_cons_succ] at b0 b1 b2 b3 b4 b5 b6 b7
                have X := Lib.hid ((X.out.next hb).alloc (.cells #[.int .u64 0, .int .u64 0, .int .u64 0, .int .u64 0, .int .u64 0, .int .u64 0, .bool false, .bool false] 25))
                have Ga := Gw.alloc (.cells #[.int .u64 0, .int .u64 0, .int .u64 0, .int .u64 0, .int .u64 0, .int .u64 0, .bool false, .bool false] 25)
                have Ba := Bw.alloc (.cells #[.int .u64 0, .int .u64 0, .int .u64 0, .int .u64 0, .int .u64 0, .int .u64 0, .bool false, .bool false] 25)
                have p0 := Ga.cell 0; have p1 := Ga.cell 1; have p2 := Ga.cell 2; have p3 := Ga.cell 3; have p4 := Ga.cell 4; have p5 := Ga.cell 5; have p6 := Ga.cell 6; have p7 := Ga.cell 7
                simp only [List.getElem?_cons_zero, List.getElem?_cons_succ] at p0 p1 p2 p3 p4 p5 p6 p7
                have q0 := Ba.cell 0; have q1 := Ba.cell 1; have q2 := Ba.cell 2; have q3 := Ba.cell 3; have q4 := Ba.cell 4; have q5 := Ba.cell 5; have q6 := Ba.cell 6; have q7 := Ba.cell 7
                simp only [List.getElem?_cons_zero, List.getElem?_cons_succ] at q0 q1 q2 q3 q4 q5 q6 q7
                have G := Lib.hid Ga
                have Bd := Lib.hid Ba
                clear Ga Ba Gw Bw gl bl hb
                go_wp2_with fail
                refine (bd5_sec _).mono ?_
                rintro e' w9 ⟨rfl, hb⟩
                clear g0 g1 g2 g3 g4 g5 g6 g7 b0 b1 b2 b3 b4 b5 b6 b7 p0 p1 p2 p3 p4 p5 p6 p7 q0 q1 q2 q3 q4 q5 q6 q7
                have X := Lib.hid (X.out.next hb)
                have G := Lib.hid (G.out.below hb)
                have Bd := Lib.hid (Bd.out.below hb)
                clear hb
                have g0 := G.out.cell 0; have g1 := G.out.cell 1; have g2 := G.out.cell 2; have g3 := G.out.cell 3; have g4 := G.out.cell 4; have g5 := G.out.cell 5; have g6 := G.out.cell 6; have g7 := G.out.cell 7
                simp only [List.getElem?_cons_zero, List.getElem?_cons_succ] at g0 g1 g2 g3 g4 g5 g6 g7
                have b0 := Bd.out.cell 0; have b1 := Bd.out.cell 1; have b2 := Bd.out.cell 2; have b3 := Bd.out.cell 3; have b4 := Bd.out.cell 4; have b5 := Bd.out.cell 5; have b6 := Bd.out.cell 6; have b7 := Bd.out.cell 7
                simp only [List.getElem?_cons_zero, List.getElem?_cons_succ] at b0 b1 b2 b3 b4 b5 b6 b7
                go_wp2_with fail
                refine (bd5_chk _).mono ?_
                rintro e' w10 ⟨rfl, hb⟩
                clear g0 g1 g2 g3 g4 g5 g6 g7 b0 b1 b2 b3 b4 b5 b6 b7
                have X := Lib.hid (X.out.next hb)
                have G := Lib.hid (G.out.below hb)
                have Bd := Lib.hid (Bd.out.below hb)
                clear hb
                have g0 := G.out.cell 0; have g1 := G.out.cell 1; have g2 := G.out.cell 2; have g3 := G.out.cell 3; have g4 := G.out.cell 4; have g5 := G.out.cell 5; have g6 := G.out.cell 6; have g7 := G.out.cell 7
                simp only [List.getElem?_cons_zero, List.getElem?_cons_succ] at g0 g1 g2 g3 g4 g5 g6 g7
                have b0 := Bd.out.cell 0; have b1 := Bd.out.cell 1; have b2 := Bd.out.cell 2; have b3 := Bd.out.cell 3; have b4 := Bd.out.cell 4; have b5 := Bd.out.cell 5; have b6 := Bd.out.cell 6; have b7 := Bd.out.cell 7
                simp only [List.getElem?_cons_zero, List.getElem?_cons_succ] at b0 b1 b2 b3 b4 b5 b6 b7
                go_wp2_with fail
                refine (bd5_eq _).mono ?_
                rintro e' w11 ⟨rfl, hb⟩
                clear g0 g1 g2 g3 g4 g5 g6 g7 b0 b1 b2 b3 b4 b5 b6 b7
                have X := Lib.hid (X.out.next hb)
                have G := Lib.hid (G.out.below hb)
                have Bd := Lib.hid (Bd.out.below hb)
                clear hb
                have g0 := G.out.cell 0; have g1 := G.out.cell 1; have g2 := G.out.cell 2; have g3 := G.out.cell 3; have g4 := G.out.cell 4; have g5 := G.out.cell 5; have g6 := G.out.cell 6; have g7 := G.out.cell 7
                simp only [List.getElem?_cons_zero, List.getElem?_cons_succ] at g0 g1 g2 g3 g4 g5 g6 g7
                have b0 := Bd.out.cell 0; have b1 := Bd.out.cell 1; have b2 := Bd.out.cell 2; have b3 := Bd.out.cell 3; have b4 := Bd.out.cell 4; have b5 := Bd.out.cell 5; have b6 := Bd.out.cell 6; have b7 := Bd.out.cell 7
                simp only [List.getElem?_cons_zero, List.getElem?_cons_succ] at b0 b1 b2 b3 b4 b5 b6 b7
                go_wp2_with fail
                refine (bd5_eq2 _).mono ?_
                rintro e' w12 ⟨rfl, hb⟩
                clear g0 g1 g2 g3 g4 g5 g6 g7 b0 b1 b2 b3 b4 b5 b6 b7
                have X := Lib.hid (X.out.next hb)
                have G := Lib.hid (G.out.below hb)
                have Bd := Lib.hid (Bd.out.below hb)
                clear hb
                have g0 := G.out.cell 0; have g1 := G.out.cell 1; have g2 := G.out.cell 2; have g3 := G.out.cell 3; have g4 := G.out.cell 4; have g5 := G.out.cell 5; have g6 := G.out.cell 6; have g7 := G.out.cell 7
                simp only [List.getElem?_cons_zero, List.getElem?_cons_succ] at g0 g1 g2 g3 g4 g5 g6 g7
                have b0 := Bd.out.cell 0; have b1 := Bd.out.cell 1; have b2 := Bd.out.cell 2; have b3 := Bd.out.cell 3; have b4 := Bd.out.cell 4; have b5 := Bd.out.cell 5; have b6 := Bd.out.cell 6; have b7 := Bd.out.cell 7
                simp only [List.getElem?_cons_zero, List.getElem?_cons_succ] at b0 b1 b2 b3 b4 b5 b6 b7
                go_wp2_with fail
                go_roundw
                case rel => exact ⟨6, by omega, by go_num, X, G⟩
                case measure => simp [intOf]
            · as_aux_lemma =>
                have g0 := G.out.cell 0; have g1 := G.out.cell 1; have g2 := G.out.cell 2; have g3 := G.out.cell 3; have g4 := G.out.cell 4; have g5 := G.out.cell 5; have g6 := G.out.cell 6; have g7 := G.out.cell 7
                simp only [List.getElem?_cons_zero, List.getElem?_cons_succ] at g0 g1 g2 g3 g4 g5 g6 g7
                go_wp2_with fail
                obtain ⟨W5, hW5⟩ : ∃ W5, wr.alloc (.cells #[.int .u64 1152921504606846975, .int .u64 1152921504606846975, .int .u64 16777215, .int .u64 2, .int .u64 8190, .int .u64 127, .bool true, .bool false] 25) = W5 := ⟨_, rfl⟩
                have Xb := X.out.alloc (.cells #[.int .u64 1152921504606846975, .int .u64 1152921504606846975, .int .u64 16777215, .int .u64 2, .int .u64 8190, .int .u64 127, .bool true, .bool false] 25)
                have Gb := G.out.alloc (.cells #[.int .u64 1152921504606846975, .int .u64 1152921504606846975, .int .u64 16777215, .int .u64 2, .int .u64 8190, .int .u64 127, .bool true, .bool false] 25)
                have Bb : Row (wr.alloc (.cells [.int .u64 1152921504606846975, .int .u64 1152921504606846975, .int .u64 16777215, .int .u64 2, .int .u64 8190, .int .u64 127, .bool true, .bool false].toArray 25)) wr.heap.size 25 [.int .u64 1152921504606846975, .int .u64 1152921504606846975, .int .u64 16777215, .int .u64 2, .int .u64 8190, .int .u64 127, .bool true, .bool false] := Row.new wr [.int .u64 1152921504606846975, .int .u64 1152921504606846975, .int .u64 16777215, .int .u64 2, .int .u64 8190, .int .u64 127, .bool true, .bool false] 25
                rw [show wr.alloc (.cells [.int .u64 1152921504606846975, .int .u64 1152921504606846975, .int .u64 16777215, .int .u64 2, .int .u64 8190, .int .u64 127, .bool true, .bool false].toArray 25) = W5 from hW5] at Bb
                rw [hW5] at Xb Gb ⊢
                obtain ⟨B2, hB2⟩ : ∃ B2, wr.heap.size = B2 := ⟨_, rfl⟩
                rw [hB2] at Bb ⊢
                have X := Lib.hid Xb
                have G := Lib.hid Gb
                have Bd := Lib.hid Bb
                clear Xb Gb Bb hB2 hW5
                refine (bd6_print _).mono ?_
                rintro e' w6 ⟨rfl, hb⟩
                clear g0 g1 g2 g3 g4 g5 g6 g7
                have X := Lib.hid (X.out.next hb)
                have G := Lib.hid (G.out.below hb)
                have Bd := Lib.hid (Bd.out.below hb)
                clear hb
                have g0 := G.out.cell 0; have g1 := G.out.cell 1; have g2 := G.out.cell 2; have g3 := G.out.cell 3; have g4 := G.out.cell 4; have g5 := G.out.cell 5; have g6 := G.out.cell 6; have g7 := G.out.cell 7
                simp only [List.getElem?_cons_zero, List.getElem?_cons_succ] at g0 g1 g2 g3 g4 g5 g6 g7
                have b0 := Bd.out.cell 0; have b1 := Bd.out.cell 1; have b2 := Bd.out.cell 2; have b3 := Bd.out.cell 3; have b4 := Bd.out.cell 4; have b5 := Bd.out.cell 5; have b6 := Bd.out.cell 6; have b7 := Bd.out.cell 7
                simp only [List.getElem?_cons_zero, List.getElem?_cons_succ] at b0 b1 b2 b3 b4 b5 b6 b7
                go_wp2_with fail
                refine (bd6_both _).mono ?_
                rintro e' w7 ⟨rfl, hb⟩
                clear g0 g1 g2 g3 g4 g5 g6 g7 b0 b1 b2 b3 b4 b5 b6 b7
                have Gw := G.out.below hb
                have Bw := Bd.out.below hb
                have gl := Gw.lt; have bl := Bw.lt
                have ne1 : B ≠ w7.heap.size := by omega
                have ne2 : w7.heap.size ≠ B := by omega
                have ne3 : B2 ≠ w7.heap.size := by omega
                have ne4 : w7.heap.size ≠ B2 := by omega
                have g0 := Gw.cell 0; have g1 := Gw.cell 1; have g2 := Gw.cell 2; have g3 := Gw.cell 3; have g4 := Gw.cell 4; have g5 := Gw.cell 5; have g6 := Gw.cell 6; have g7 := Gw.cell 7
                simp only [List.getElem?_cons_zero, List.getElem?_cons_succ] at g0 g1 g2 g3 g4 g5 g6 g7
                have b0 := Bw.cell 0; have b1 := Bw.cell 1; have b2 := Bw.cell 2; have b3 := Bw.cell 3; have b4 := Bw.cell 4; have b5 := Bw.cell 5; have b6 := Bw.cell 6; have b7 := Bw.cell 7
                simp only [List.getElem?_cons_zero, List.getElem?_cons_succ] at b0 b1 b2 b3 b4 b5 b6 b7
                have X := Lib.hid ((X.out.next hb).alloc (.cells #[.int .u64 0, .int .u64 0, .int .u64 0, .int .u64 0, .int .u64 0, .int .u64 0, .bool false, .bool false] 25))
                have Ga := Gw.alloc (.cells #[.int .u64 0, .int .u64 0, .int .u64 0, .int .u64 0, .int .u64 0, .int .u64 0, .bool false, .bool false] 25)
                have Ba := Bw.alloc (.cells #[.int .u64 0, .int .u64 0, .int .u64 0, .int .u64 0, .int .u64 0, .int .u64 0, .bool false, .bool false] 25)
                have p0 := Ga.cell 0; have p1 := Ga.cell 1; have p2 := Ga.cell 2; have p3 := Ga.cell 3; have p4 := Ga.cell 4; have p5 := Ga.cell 5; have p6 := Ga.cell 6; have p7 := Ga.cell 7
                simp only [List.getElem?_cons_zero, List.getElem?_cons_succ] at p0 p1 p2 p3 p4 p5 p6 p7
                have q0 := Ba.cell 0; have q1 := Ba.cell 1; have q2 := Ba.cell 2; have q3 := Ba.cell 3; have q4 := Ba.cell 4; have q5 := Ba.cell 5; have q6 := Ba.cell 6; have q7 := Ba.cell 7
                simp only [List.getElem?_cons_zero, List.getElem?_cons_succ] at q0 q1 q2 q3 q4 q5 q6 q7
                have G := Lib.hid Ga
                have Bd := Lib.hid Ba
                clear Ga Ba Gw Bw gl bl hb
                go_wp2_with fail
                refine (bd6_both2 _).mono ?_
                rintro e' w8 ⟨rfl, hb⟩
                clear g0 g1 g2 g3 g4 g5 g6 g7 b0 b1 b2 b3 b4 b5 b6 b7 p0 p1 p2 p3 p4 p5 p6 p7 q0 q1 q2 q3 q4 q5 q6 q7
                have Gw := G.out.below hb
                have Bw := Bd.out.below hb
                have gl := Gw.lt; have bl := Bw.lt
                have ne1 : B ≠ w8.heap.size := by omega
                have ne2 : w8.heap.size ≠ B := by omega
                have ne3 : B2 ≠ w8.heap.size := by omega
                have ne4 : w8.heap.size ≠ B2 := by omega
                have g0 := Gw.cell 0; have g1 := Gw.cell 1; have g2 := Gw.cell 2; have g3 := Gw.cell 3; have g4 := Gw.cell 4; have g5 := Gw.cell 5; have g6 := Gw.cell 6; have g7 := Gw.cell 7
                simp only [List.getElem?_cons_zero, List.getElem?_cons_succ] at g0 g1 g2 g3 g4 g5 g6 g7
                have b0 := Bw.cell 0; have b1 := Bw.cell 1; have b2 := Bw.cell 2; have b3 := Bw.cell 3; have b4 := Bw.cell 4; have b5 := Bw.cell 5; have b6 := Bw.cell 6; have b7 := Bw.cell 7
                simp only [List.getElem?_cons_zero, List.getElem?_cons_succ] at b0 b1 b2 b3 b4 b5 b6 b7
                have X := Lib.hid ((X.out.next hb).alloc (.cells #[.int .u64 0, .int .u64 0, .int .u64 0, .int .u64 0, .int .u64 0, .int .u64 0, .bool false, .bool false] 25))
                have Ga := Gw.alloc (.cells #[.int .u64 0, .int .u64 0, .int .u64 0, .int .u64 0, .int .u64 0, .int .u64 0, .bool false, .bool false] 25)
                have Ba := Bw.alloc (.cells #[.int .u64 0, .int .u64 0, .int .u64 0, .int .u64 0, .int .u64 0, .int .u64 0, .bool false, .bool false] 25)
                have p0 := Ga.cell 0; have p1 := Ga.cell 1; have p2 := Ga.cell 2; have p3 := Ga.cell 3; have p4 := Ga.cell 4; have p5 := Ga.cell 5; have p6 := Ga.cell 6; have p7 := Ga.cell 7
                simp only [List.getElem?_cons_zero, List.getElem?_cons_succ] at p0 p1 p2 p3 p4 p5 p6 p7
                have q0 := Ba.cell 0; have q1 := Ba.cell 1; have q2 := Ba.cell 2; have q3 := Ba.cell 3; have q4 := Ba.cell 4; have q5 := Ba.cell 5; have q6 := Ba.cell 6; have q7 := Ba.cell 7
                simp only [List.getElem?_cons_zero, List.getElem?_cons_succ] at q0 q1 q2 q3 q4 q5 q6 q7
                have G := Lib.hid Ga
                have Bd := Lib.hid Ba
                clear Ga Ba Gw Bw gl bl hb
                go_wp2_with fail
                refine (bd6_sec _).mono ?_
                rintro e' w9 ⟨rfl, hb⟩
                clear g0 g1 g2 g3 g4 g5 g6 g7 b0 b1 b2 b3 b4 b5 b6 b7 p0 p1 p2 p3 p4 p5 p6 p7 q0 q1 q2 q3 q4 q5 q6 q7
                have X := Lib.hid (X.out.next hb)
                have G := Lib.hid (G.out.below hb)
                have Bd := Lib.hid (Bd.out.below hb)
                clear hb
                have g0 := G.out.cell 0; have g1 := G.out.cell 1; have g2 := G.out.cell 2; have g3 := G.out.cell 3; have g4 := G.out.cell 4; have g5 := G.out.cell 5; have g6 := G.out.cell 6; have g7 := G.out.cell 7
                simp only [List.getElem?_cons_zero, List.getElem?_cons_succ] at g0 g1 g2 g3 g4 g5 g6 g7
                have b0 := Bd.out.cell 0; have b1 := Bd.out.cell 1; have b2 := Bd.out.cell 2; have b3 := Bd.out.cell 3; have b4 := Bd.out.cell 4; have b5 := Bd.out.cell 5; have b6 := Bd.out.cell 6; have b7 := Bd.out.cell 7
                simp only [List.getElem?_cons_zero, List.getElem?_cons_succ] at b0 b1 b2 b3 b4 b5 b6 b7
                go_wp2_with fail
                refine (bd6_chk _).mono ?_
                rintro e' w10 ⟨rfl, hb⟩
                clear g0 g1 g2 g3 g4 g5 g6 g7 b0 b1 b2 b3 b4 b5 b6 b7
                have X := Lib.hid (X.out.next hb)
                have G := Lib.hid (G.out.below hb)
                have Bd := Lib.hid (Bd.out.below hb)
                clear hb
                have g0 := G.out.cell 0; have g1 := G.out.cell 1; have g2 := G.out.cell 2; have g3 := G.out.cell 3; have g4 := G.out.cell 4; have g5 := G.out.cell 5; have g6 := G.out.cell 6; have g7 := G.out.cell 7
                simp only [List.getElem?_cons_zero, List.getElem?_cons_succ] at g0 g1 g2 g3 g4 g5 g6 g7
                have b0 := Bd.out.cell 0; have b1 := Bd.out.cell 1; have b2 := Bd.out.cell 2; have b3 := Bd.out.cell 3; have b4 := Bd.out.cell 4; have b5 := Bd.out.cell 5; have b6 := Bd.out.cell 6; have b7 := Bd.out.cell 7
                simp only [List.getElem?_cons_zero, List.getElem?_cons_succ] at b0 b1 b2 b3 b4 b5 b6 b7
                go_wp2_with fail
                refine (bd6_eq _).mono ?_
                rintro e' w11 ⟨rfl, hb⟩
                clear g0 g1 g2 g3 g4 g5 g6 g7 b0 b1 b2 b3 b4 b5 b6 b7
                have X := Lib.hid (X.out.next hb)
                have G := Lib.hid (G.out.below hb)
                have Bd := Lib.hid (Bd.out.below hb)
                clear hb
                have g0 := G.out.cell 0; have g1 := G.out.cell 1; have g2 := G.out.cell 2; have g3 := G.out.cell 3; have g4 := G.out.cell 4; have g5 := G.out.cell 5; have g6 := G.out.cell 6; have g7 := G.out.cell 7
                simp only [List.getElem?_cons_zero, List.getElem?_cons_succ] at g0 g1 g2 g3 g4 g5 g6 g7
                have b0 := Bd.out.cell 0; have b1 := Bd.out.cell 1; have b2 := Bd.out.cell 2; have b3 := Bd.out.cell 3; have b4 := Bd.out.cell 4; have b5 := Bd.out.cell 5; have b6 := Bd.out.cell 6; have b7 := Bd.out.cell 7
                simp only [List.getElem?_cons_zero, List.getElem?_cons_succ] at b0 b1 b2 b3 b4 b5 b6 b7
                go_wp2_with fail
                refine (bd6_eq2 _).mono ?_
                rintro e' w12 ⟨rfl, hb⟩
                clear g0 g1 g2 g3 g4 g5 g6 g7 b0 b1 b2 b3 b4 b5 b6 b7
                have X := Lib.hid (X.out.next hb)
                have G := Lib.hid (G.out.below hb)
                have Bd := Lib.hid (Bd.out.below hb)
                clear hb
                have g0 := G.out.cell 0; have g1 := G.out.cell 1; have g2 := G.out.cell 2; have g3 := G.out.cell 3; have g4 := G.out.cell 4; have g5 := G.out.cell 5; have g6 := G.out.cell 6; have g7 := G.out.cell 7
                simp only [List.getElem?_cons_zero, List.getElem?_cons_succ] at g0 g1 g2 g3 g4 g5 g6 g7
                have b0 := Bd.out.cell 0; have b1 := Bd.out.cell 1; have b2 := Bd.out.cell 2; have b3 := Bd.out.cell 3; have b4 := Bd.out.cell 4; have b5 := Bd.out.cell 5; have b6 := Bd.out.cell 6; have b7 := Bd.out.cell 7
                simp only [List.getElem?_cons_zero, List.getElem?_cons_succ] at b0 b1 b2 b3 b4 b5 b6 b7
                go_wp2_with fail
                go_roundw
                case rel => exact ⟨7, by omega, by go_num, X, G⟩
                case measure => simp [intOf]
            · as_aux_lemma =>
                have g0 := G.out.cell 0; have g1 := G.out.cell 1; have g2 := G.out.cell 2; have g3 := G.out.cell 3; have g4 := G.out.cell 4; have g5 := G.out.cell 5; have g6 := G.out.cell 6; have g7 := G.out.cell 7
                simp only [List.getElem?_cons_zero, List.getElem?_cons_succ] at g0 g1 g2 g3 g4 g5 g6 g7
                go_wp2_with fail
                obtain ⟨W5, hW5⟩ : ∃ W5, wr.alloc (.cells #[.int .u64 1152921504606846975, .int .u64 1152921504606846975, .int .u64 16777215, .int .u64 4294967294, .int .u64 8190, .int .u64 2, .bool false, .bool true] 25) = W5 := ⟨_, rfl⟩
                have Xb := X.out.alloc (.cells #[.int .u64 1152921504606846975, .int .u64 1152921504606846975, .int .u64 16777215, .int .u64 4294967294, .int .u64 8190, .int .u64 2, .bool false, .bool true] 25)
                have Gb := G.out.alloc (.cells #[.int .u64 1152921504606846975, .int .u64 1152921504606846975, .int .u64 16777215, .int .u64 4294967294, .int .u64 8190, .int .u64 2, .bool false, .bool true] 25)
                have Bb : Row (wr.alloc (.cells [.int .u64 1152921504606846975, .int .u64 1152921504606846975, .int .u64 16777215, .int .u64 4294967294, .int .u64 8190, .int .u64 2, .bool false, .bool true].toArray 25)) wr.heap.size 25 [.int .u64 1152921504606846975, .int .u64 1152921504606846975, .int .u64 16777215, .int .u64 4294967294, .int .u64 8190, .int .u64 2, .bool false, .bool true] := Row.new wr [.int .u64 1152921504606846975, .int .u64 1152921504606846975, .int .u64 16777215, .int .u64 4294967294, .int .u64 8190, .int .u64 2, .bool false, .bool true] 25
                rw [show wr.alloc (.cells [.int .u64 1152921504606846975, .int .u64 1152921504606846975, .int .u64 16777215, .int .u64 4294967294, .int .u64 8190, .int .u64 2, .bool false, .bool true].toArray 25) = W5 from hW5] at Bb
                rw [hW5] at Xb Gb ⊢
                obtain ⟨B2, hB2⟩ : ∃ B2, wr.heap.size = B2 := ⟨_, rfl⟩
                rw [hB2] at Bb ⊢
                have X := Lib.hid Xb
                have G := Lib.hid Gb
                have Bd := Lib.hid Bb
                clear Xb Gb Bb hB2 hW5
                refine (bd7_print _).mono ?_
                rintro e' w6 ⟨rfl, hb⟩
                clear g0 g1 g2 g3 g4 g5 g6 g7
                have X := Lib.hid (X.out.next hb)
                have G := Lib.hid (G.out.below hb)
                have Bd := Lib.hid (Bd.out.below hb)
                clear hb
                have g0 := G.out.cell 0; have g1 := G.out.cell 1; have g2 := G.out.cell 2; have g3 := G.out.cell 3; have g4 := G.out.cell 4; have g5 := G.out.cell 5; have g6 := G.out.cell 6; have g7 := G.out.cell 7
                simp only [List.getElem?_cons_zero, List.getElem?_cons_succ] at g0 g1 g2 g3 g4 g5 g6 g7
                have b0 := Bd.out.cell 0; have b1 := Bd.out.cell 1; have b2 := Bd.out.cell 2; have b3 := Bd.out.cell 3; have b4 := Bd.out.cell 4; have b5 := Bd.out.cell 5; have b6 := Bd.out.cell 6; have b7 := Bd.out.cell 7
                simp only [List.getElem?_cons_zero, List.getElem?_cons_succ] at b0 b1 b2 b3 b4 b5 b6 b7
                go_wp2_with fail
                refine (bd7_both _).mono ?_
                rintro e' w7 ⟨rfl, hb⟩
                clear g0 g1 g2 g3 g4 g5 g6 g7 b0 b1 b2 b3 b4 b5 b6 b7
                have Gw := G.out.below hb
                have Bw := Bd.out.below hb
                have gl := Gw.lt; have bl := Bw.lt
                have ne1 : B ≠ w7.heap.size := by omega
                have ne2 : w7.heap.size ≠ B := by omega
                have ne3 : B2 ≠ w7.heap.size := by omega
                have ne4 : w7.heap.size ≠ B2 := by omega
                have g0 := Gw.cell 0; have g1 := Gw.cell 1; have g2 := Gw.cell 2; have g3 := Gw.cell 3; have g4 := Gw.cell 4; have g5 := Gw.cell 5; have g6 := Gw.cell 6; have g7 := Gw.cell 7
                simp only [List.getElem?_cons_zero, List.getElem?_cons_succ] at g0 g1 g2 g3 g4 g5 g6 g7
                have b0 := Bw.cell 0; have b1 := Bw.cell 1; have b2 := Bw.cell 2; have b3 := Bw.cell 3; have b4 := Bw.cell 4; have b5 := Bw.cell 5; have b6 := Bw.cell 6; have b7 := Bw.cell 7
                simp only [List.getElem?_cons_zero, List.getElem?_cons_succ] at b0 b1 b2 b3 b4 b5 b6 b7
                have X := Lib.hid ((X.out.next hb).alloc (.cells #[.int .u64 0, .int .u64 0, .int .u64 0, .int .u64 0, .int .u64 0, .int .u64 0, .bool false, .bool false] 25))
                have Ga := Gw.alloc (.cells #[.int .u64 0, .int .u64 0, .int .u64 0, .int .u64 0, .int .u64 0, .int .u64 0, .bool false, .bool false] 25)
                have Ba := Bw.alloc (.cells #[.int .u64 0, .int .u64 0, .int .u64 0, .int .u64 0, .int .u64 0, .int .u64 0, .bool false, .bool false] 25)
                have p0 := Ga.cell 0; have p1 := Ga.cell 1; have p2 := Ga.cell 2; have p3 := Ga.cell 3; have p4 := Ga.cell 4; have p5 := Ga.cell 5; have p6 := Ga.cell 6; have p7 := Ga.cell 7
                simp only [List.getElem?_cons_zero, List.getElem?_cons_succ] at p0 p1 p2 p3 p4 p5 p6 p7
                have q0 := Ba.cell 0; have q1 := Ba.cell 1; have q2 := Ba.cell 2; have q3 := Ba.cell 3; have q4 := Ba.cell 4; have q5 := Ba.cell 5; have q6 := Ba.cell 6; have q7 := Ba.cell 7
                simp only [List.getElem?_cons_zero, List.getElem?_cons_succ] at q0 q1 q2 q3 q4 q5 q6 q7
                have G := Lib.hid Ga
                have Bd := Lib.hid Ba
                clear Ga Ba Gw Bw gl bl hb
                go_wp2_with fail
                refine (bd7_both2 _).mono ?_
                rintro e' w8 ⟨rfl, hb⟩
                clear g0 g1 g2 g3 g4 g5 g6 g7 b0 b1 b2 b3 b4 b5 b6 b7 p0 p1 p2 p3 p4 p5 p6 p7 q0 q1 q2 q3 q4 q5 q6 q7
                have Gw := G.out.below hb
                have Bw := Bd.out.below hb
                have gl := Gw.lt; have bl := Bw.lt
                have ne1 : B ≠ w8.heap.size := by omega
                have ne2 : w8.heap.size ≠ B := by omega
                have ne3 : B2 ≠ w8.heap.size := by omega
                have ne4 : w8.heap.size ≠ B2 := by omega
                have g0 := Gw.cell 0; have g1 := Gw.cell 1; have g2 := Gw.cell 2; have g3 := Gw.cell 3; have g4 := Gw.cell 4; have g5 := Gw.cell 5; have g6 := Gw.cell 6; have g7 := Gw.cell 7
                simp only [List.getElem?_cons_zero, List.getElem?_cons_succ] at g0 g1 g2 g3 g4 g5 g6 g7
                have b0 := Bw.cell 0; have b1 := Bw.cell 1; have b2 := Bw.cell 2; have b3 := Bw.cell 3; have b4 := Bw.cell 4; have b5 := Bw.cell 5; have b6 := Bw.cell 6; have b7 := Bw.cell 7
                simp only [List.getElem?_cons_zero, List.getElem?_cons_succ] at b0 b1 b2 b3 b4 b5 b6 b7
                have X := Lib.hid ((X.out.next hb).alloc (.cells #[.int .u64 0, .int .u64 0, .int .u64 0, .int .u64 0, .int .u64 0, .int .u64 0, .bool false, .bool false] 25))
                have Ga := Gw.alloc (.cells #[.int .u64 0, .int .u64 0, .int .u64 0, .int .u64 0, .int .u64 0, .int .u64 0, .bool false, .bool false] 25)
                have Ba := Bw.alloc (.cells #[.int .u64 0, .int .u64 0, .int .u64 0, .int .u64 0, .int .u64 0, .int .u64 0, .bool false, .bool false] 25)
                have p0 := Ga.cell 0; have p1 := Ga.cell 1; have p2 := Ga.cell 2; have p3 := Ga.cell 3; have p4 := Ga.cell 4; have p5 := Ga.cell 5; have p6 := Ga.cell 6; have p7 := Ga.cell 7
                simp only [List.getElem?_cons_zero, List.getElem?_cons_succ] at p0 p1 p2 p3 p4 p5 p6 p7
                have q0 := Ba.cell 0; have q1 := Ba.cell 1; have q2 := Ba.cell 2; have q3 := Ba.cell 3; have q4 := Ba.cell 4; have q5 := Ba.cell 5; have q6 := Ba.cell 6; have q7 := Ba.cell 7
                simp only [List.getElem?_cons_zero, List.getElem?_cons_succ] at q0 q1 q2 q3 q4 q5 q6 q7
                have G := Lib.hid Ga
                have Bd := Lib.hid Ba
                clear Ga Ba Gw Bw gl bl hb
                go_wp2_with fail
                refine (bd7_sec _).mono ?_
                rintro e' w9 ⟨rfl, hb⟩
                clear g0 g1 g2 g3 g4 g5 g6 g7 b0 b1 b2 b3 b4 b5 b6 b7 p0 p1 p2 p3 p4 p5 p6 p7 q0 q1 q2 q3 q4 q5 q6 q7
                have X := Lib.hid (X.out.next hb)
                have G := Lib.hid (G.out.below hb)
                have Bd := Lib.hid (Bd.out.below hb)
                clear hb
                have g0 := G.out.cell 0; have g1 := G.out.cell 1; have g2 := G.out.cell 2; have g3 := G.out.cell 3; have g4 := G.out.cell 4; have g5 := G.out.cell 5; have g6 := G.out.cell 6; have g7 := G.out.cell 7
                simp only [List.getElem?_cons_zero, List.getElem?_cons_succ] at g0 g1 g2 g3 g4 g5 g6 g7
                have b0 := Bd.out.cell 0; have b1 := Bd.out.cell 1; have b2 := Bd.out.cell 2; have b3 := Bd.out.cell 3; have b4 := Bd.out.cell 4; have b5 := Bd.out.cell 5; have b6 := Bd.out.cell 6; have b7 := Bd.out.cell 7
                simp only [List.getElem?_cons_zero, List.getElem?_cons_succ] at b0 b1 b2 b3 b4 b5 b6 b7
                go_wp2_with fail
                refine (bd7_chk _).mono ?_
                rintro e' w10 ⟨rfl, hb⟩
                clear g0 g1 g2 g3 g4 g5 g6 g7 b0 b1 b2 b3 b4 b5 b6 b7
                have X := Lib.hid (X.out.next hb)
                have G := Lib.hid (G.out.below hb)
                have Bd := Lib.hid (Bd.out.below hb)
                clear hb
                have g0 := G.out.cell 0; have g1 := G.out.cell 1; have g2 := G.out.cell 2; have g3 := G.out.cell 3; have g4 := G.out.cell 4; have g5 := G.out.cell 5; have g6 := G.out.cell 6; have g7 := G.out.cell 7
                simp only [List.getElem?_cons_zero, List.getElem?_cons_succ] at g0 g1 g2 g3 g4 g5 g6 g7
                have b0 := Bd.out.cell 0; have b1 := Bd.out.cell 1; have b2 := Bd.out.cell 2; have b3 := Bd.out.cell 3; have b4 := Bd.out.cell 4; have b5 := Bd.out.cell 5; have b6 := Bd.out.cell 6; have b7 := Bd.out.cell 7
                simp only [List.getElem?_cons_zero, List.getElem?_cons_succ] at b0 b1 b2 b3 b4 b5 b6 b7
                go_wp2_with fail
                refine (bd7_eq _).mono ?_
                rintro e' w11 ⟨rfl, hb⟩
                clear g0 g1 g2 g3 g4 g5 g6 g7 b0 b1 b2 b3 b4 b5 b6 b7
                have X := Lib.hid (X.out.next hb)
                have G := Lib.hid (G.out.below hb)
                have Bd := Lib.hid (Bd.out.below hb)
                clear hb
                have g0 := G.out.cell 0; have g1 := G.out.cell 1; have g2 := G.out.cell 2; have g3 := G.out.cell 3; have g4 := G.out.cell 4; have g5 := G.out.cell 5; have g6 := G.out.cell 6; have g7 := G.out.cell 7
                simp only [List.getElem?_cons_zero, List.getElem?_cons_succ] at g0 g1 g2 g3 g4 g5 g6 g7
                have b0 := Bd.out.cell 0; have b1 := Bd.out.cell 1; have b2 := Bd.out.cell 2; have b3 := Bd.out.cell 3; have b4 := Bd.out.cell 4; have b5 := Bd.out.cell 5; have b6 := Bd.out.cell 6; have b7 := Bd.out.cell 7
                simp only [List.getElem?_cons_zero, List.getElem?_cons_succ] at b0 b1 b2 b3 b4 b5 b6 b7
                go_wp2_with fail
                refine (bd7_eq2 _).mono ?_
                rintro e' w12 ⟨rfl, hb⟩
                clear g0 g1 g2 g3 g4 g5 g6 g7 b0 b1 b2 b3 b4 b5 b6 b7
                have X := Lib.hid (X.out.next hb)
                have G := Lib.hid (G.out.below hb)
                have Bd := Lib.hid (Bd.out.below hb)
                clear hb
                have g0 := G.out.cell 0; have g1 := G.out.cell 1; have g2 := G.out.cell 2; have g3 := G.out.cell 3; have g4 := G.out.cell 4; have g5 := G.out.cell 5; have g6 := G.out.cell 6; have g7 := G.out.cell 7
                simp only [List.getElem?_cons_zero, List.getElem?_cons_succ] at g0 g1 g2 g3 g4 g5 g6 g7
                have b0 := Bd.out.cell 0; have b1 := Bd.out.cell 1; have b2 := Bd.out.cell 2; have b3 := Bd.out.cell 3; have b4 := Bd.out.cell 4; have b5 := Bd.out.cell 5; have b6 := Bd.out.cell 6; have b7 := Bd.out.cell 7
                simp only [List.getElem?_cons_zero, List.getElem?_cons_succ] at b0 b1 b2 b3 b4 b5 b6 b7
                go_wp2_with fail
                go_roundw
                case rel => exact ⟨8, by omega, by go_num, X, G⟩
                case measure => simp [intOf]
            · go_wp2_with fail
              refine (works_any _ X.out.lay).mono ?_
              rintro e' w9 ⟨rfl, hb⟩
              have HB := Lib.hid (X.out.below.trans (hb.mono X.out.below.size))
              clear hb X G
              go_wp2_with fail
              go_ret
              exact ⟨rfl, HB.out⟩

set_option maxRecDepth 100000 in
theorem lifted (os : Os) (started : os.Started) (H : Type) (enc : TypeId × Value → H) :
    ReturnsInHanded {} Tryz.checked os 11 .any (fun w args => (Rows.exprKnownSpec.pre enc Tryz.prog Tryz.f11 [] false w args ∧ laidMetH Tryz.prog Rows.exprKnownRow.laid w) ∧ sizedMet enc Tryz.prog Tryz.f11 (OpenSpec.ofChange Rows.exprKnownSpec) false w args)
      (Rows.exprKnownSpec.post enc Tryz.prog Tryz.f11 false true false false) := by
  refine returnsInHanded_of_change_and (C := Tryz.checked) (X := fun w _ => laidMetH Tryz.prog Rows.exprKnownRow.laid w) (fun _ _ _ hh h => h.of_heap hh) own started (by kernel_rfl) Tryz.func11
    (ChangeSpec.witness_shaped (enc := enc) (C := Tryz.checked) (os := os) (X := fun w _ => laidMetH Tryz.prog Rows.exprKnownRow.laid w) false (World.laidAll Tryz.prog os Rows.exprKnownRow.laid) #[] 8 (World.laidAll_os _ _ _) (World.shaped_of_ZipB (by kernel_rfl) (by kernel_rfl)) (by kernel_rfl) (by kernel_rfl) (by kernel_rfl) (by rw [MakeChecks.laidMetH_plain _ _ _ (by kernel_rfl)]; exact laidMet_laidAll _ (by kernel_rfl) (by kernel_rfl))) ?_
  intro W base args ds gs before hval0 hW _ _ hL _
  have hval : ∀ (j : Nat) t v, Tryz.f11.params[j]? = some t → args[j]? = some v → Value.okWide Tryz.prog W .any base t v := hval0
  have hW' := hW
  obtain ⟨p, q, hA0, hV, rfl, hfz, hnd⟩ := hW
  have hA : DataW.TrodAll enc Tryz.prog W 0 (fun _ => true) true Tryz.f11.params.toList args.toList ds p := hA0
  rw [Tryz.params11] at hA hval

  obtain ⟨hargs, rfl, rfl⟩ := trodAll_nil hA
  obtain rfl : args = #[] := by cases args; simp_all
  obtain ⟨rfl, rfl⟩ := trodVars_none hV
  clear hA0 hval0
  refine (walk  W (lay_of _ W (by kernel_rfl) (.tail _ (.head _)) (by kernel_rfl) hL) ).mono fun e W' ⟨he, bel⟩ => ?_
  subst he
  exact ⟨_, rfl, _, _, _, [], _, [], hW', trodAll_mk1 (shut_bool Tryz.underlying4 _), trodAll_mk0, rfl, bel.frame _, fun h => by cases h⟩

theorem row_holds : Rows.ExprKnownSaid :=
  OpenClaim.holds_of_wide 11 Tryz.f11 rfl rfl rfl rfl rfl rfl rfl ⟨rfl, rfl, rfl, rfl, rfl⟩ rfl rfl rfl rfl rfl (by kernel_rfl) Tryz.func11 (by kernel_rfl)
    (of_decide_eq_true (by kernel_rfl)) (by unfold Func.isWrapper; first | (rw [if_pos (by decide +kernel)]; kernel_rfl) | (rw [if_neg (by decide +kernel)]; exact ⟨rfl, rfl⟩))
    (fun os started H enc _ => lifted os started H enc)

theorem proved : Rows.ExprKnownCardSaid :=
  Claim7.holds_tied_plain_at .later [] Rows.exprKnownCard.laidKinds true Rows.exprKnownCard.stood.harness Rows.exprKnownCard.stood.looks
    row_holds (fun _ h => by cases h) (by kernel_rfl) (fun _ h => by cases h) exprKnown_row_tie rfl ⟨rfl, rfl⟩ (by kernel_rfl) rfl
    (fun f fn hf hfn => by
      obtain rfl : f = 11 := Option.some.inj ((show Tryz.prog.funcNamed Rows.exprKnownRow.func = some 11 by kernel_rfl).symm.trans hf) |>.symm
      obtain rfl : fn = Tryz.f11 := (Option.some.inj (Tryz.func11.symm.trans hfn)).symm
      exact ⟨looks0, fun j t ht => by
        rw [Tryz.params11] at ht
        have hm : t ∈ [] := by simpa using Array.mem_of_getElem? ht
        have hall : ([].all fun u => !Tryz.prog.wantsStandIn u) = true := by kernel_rfl
        exact (show Tryz.prog.wantsStandIn t = false by simpa using List.all_eq_true.1 hall t hm)⟩)
    (by kernel_rfl)
end Go.Proofs.YtpnfifhanmpapaaGreatDoor.exprKnown
