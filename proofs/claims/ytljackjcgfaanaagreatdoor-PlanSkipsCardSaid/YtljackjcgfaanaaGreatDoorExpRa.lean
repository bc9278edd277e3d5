/- The document's functions on the fields of an expression: contracts of Low, High, full, Fields, count and made of wakemanref07. -/
import Derived.Test.YtljackjcgfaanaaGreatDoorGMFldO
import Derived.Test.YtljackjcgfaanaaGreatDoorMBitT
namespace Go.Proofs.YtljackjcgfaanaaGreatDoor
open Go.ChangeShapes Go.WideShapes Go.RowKit Go.Shelf

theorem low7_any (i : Nat) (h : i < 6) (w : World) :
    Calls Tryz.prog 117 #[.int .i64 i] w fun e w' => e = .returned (.int .i64 ((kd6 i).lo : Nat)) ∧ Below w.heap.size w w' := by
  have e : ((kd6 i).lo : Int) = ([0, 0, 0, 1, 1, 0] : List Int).getD i 0 := six_cases h (P := fun i => ((kd6 i).lo : Int) = ([0, 0, 0, 1, 1, 0] : List Int).getD i 0) rfl rfl rfl rfl rfl rfl
  rw [e]
  clear e
  have h' : i = 0 ∨ i = 1 ∨ i = 2 ∨ i = 3 ∨ i = 4 ∨ i = 5 := by omega
  rcases h' with rfl | rfl | rfl | rfl | rfl | rfl
  all_goals
    clear h
    go_enter Tryz.func117, Tryz.ntmps117
    go_wp2_with fail
    go_ret
    exact ⟨rfl, (Below.refl _ _).alloc (Nat.le_refl _) _⟩
theorem high7_any (i : Nat) (h : i < 6) (w : World) :
    Calls Tryz.prog 118 #[.int .i64 i] w fun e w' => e = .returned (.int .i64 ((kd6 i).hi : Nat)) ∧ Below w.heap.size w w' := by
  have e : ((kd6 i).hi : Int) = ([59, 59, 23, 31, 12, 6] : List Int).getD i 0 := six_cases h (P := fun i => ((kd6 i).hi : Int) = ([59, 59, 23, 31, 12, 6] : List Int).getD i 0) rfl rfl rfl rfl rfl rfl
  rw [e]
  clear e
  have h' : i = 0 ∨ i = 1 ∨ i = 2 ∨ i = 3 ∨ i = 4 ∨ i = 5 := by omega
  rcases h' with rfl | rfl | rfl | rfl | rfl | rfl
  all_goals
    clear h
    go_enter Tryz.func118, Tryz.ntmps118
    go_wp2_with fail
    go_ret
    exact ⟨rfl, (Below.refl _ _).alloc (Nat.le_refl _) _⟩

/-- the set of k numbers from lo on -/
def upS (lo : Nat) : Nat → Nat
  | 0 => 0
  | k + 1 => upS lo k ||| 2 ^ (lo + k)
theorem upS_lt {lo : Nat} : ∀ k, lo + k ≤ 64 → upS lo k < 2 ^ 64
  | 0, _ => by show 0 < 2 ^ 64; decide
  | k + 1, h => Nat.or_lt_two_pow (upS_lt k (by omega)) (Nat.pow_lt_pow_right (by decide) (by omega))
theorem upS_full (i : Nat) (h : i < 6) : upS (kd6 i).lo ((kd6 i).hi + 1 - (kd6 i).lo) = Exp.fl i :=
  six_cases h (P := fun i => upS (kd6 i).lo ((kd6 i).hi + 1 - (kd6 i).lo) = Exp.fl i) (by decide +kernel) (by decide +kernel) (by decide +kernel) (by decide +kernel) (by decide +kernel) (by decide +kernel)
set_option maxRecDepth 100000 in
set_option maxHeartbeats 4000000 in
theorem full7_any (i : Nat) (h : i < 6) (w : World) :
    Calls Tryz.prog 88 #[.int .i64 i] w fun e w' => e = .returned (.int .u64 (Exp.fl i : Nat)) ∧ Below w.heap.size w w' := by
  have LO := Lib.hid (fun w0 : World => low7_any i h w0)
  have HI := Lib.hid (fun w0 : World => high7_any i h w0)
  have FU := upS_full i h
  have ok := And.intro (kd6_ok i h).le (kd6_ok i h).hi
  obtain ⟨lo, hlo⟩ : ∃ n, (kd6 i).lo = n := ⟨_, rfl⟩
  obtain ⟨hi, hhi⟩ : ∃ n, (kd6 i).hi = n := ⟨_, rfl⟩
  obtain ⟨F, hF⟩ : ∃ n, Exp.fl i = n := ⟨_, rfl⟩
  rw [hlo] at LO FU ok
  rw [hhi] at HI FU ok
  rw [hF] at FU
  obtain ⟨ok1, ok2⟩ := ok
  rw [hF]
  have FU := Lib.hid (fun (k n : Nat) (e1 : n = lo + k) (e2 : n = hi + 1) => show upS lo k = F by rw [← FU]; congr 1; omega)
  clear hlo hhi hF
  go_enter Tryz.func88, Tryz.ntmps88
  go_wp2_with fail
  refine (LO.out _).mono ?_
  rintro e w1 ⟨rfl, hb⟩
  have HB := Lib.hid hb
  clear hb
  go_wp2_with fail
  go_loopw [3, 4] (fun o i wr => ∃ k n : Nat, n = lo + k ∧ n ≤ hi + 1 ∧ i = .int .i64 n ∧ o = .int .u64 (upS lo k : Nat) ∧ Hid (Below w.heap.size w wr)) (fun _ i _ => 100 - (intOf i).toNat)
  case atStart => exact ⟨0, lo, by omega, by omega, rfl, rfl, HB⟩
  case round =>
    obtain ⟨k, n, hv, n1, rfl, rfl, HB⟩ := hrel
    have V := Lib.hid hv
    have N1 := Lib.hid n1
    by_cases q : n ≤ hi
    · have pl := upS_lt (lo := lo) k (by omega)
      have q1 : decide ((n : Int) ≤ (hi : Int)) = true := by rw [decide_eq_true_iff]; omega
      have q2 : decide (n ≤ hi) = true := by rw [decide_eq_true_iff]; omega
      have fa : upS lo (k + 1) = upS lo k ||| 2 ^ n := by rw [hv]; rfl
      have or1 : bits .or .u64 (upS lo k : Nat) ((2 ^ n : Nat) : Int) = (upS lo (k + 1) : Nat) := by rw [fa]; exact u64_or_nat (upS lo k) _ pl (Bit.one_lt (by omega))
      have w1 : IntKind.u64.wrap ((2 : Int) ^ n) = ((2 ^ n : Nat) : Int) := wrap_pow (by omega)
      have n64 : n < 64 := by omega
      obtain ⟨m, hm⟩ : ∃ m : Nat, 2 ^ n = m := ⟨_, rfl⟩
      rw [hm] at w1 or1 fa
      obtain ⟨x, hx⟩ : ∃ x : Nat, upS lo k = x := ⟨_, rfl⟩
      obtain ⟨y, hy⟩ : ∃ y : Nat, upS lo (k + 1) = y := ⟨_, rfl⟩
      rw [hx, hy] at or1
      rw [hx] at pl ⊢
      have HY := Lib.hid hy
      clear fa hx hy hm hv n1
      go_wp2_with fail
      refine (HI.out _).mono ?_
      rintro e w2 ⟨rfl, hb⟩
      have HB := Lib.hid (HB.out.trans (hb.mono HB.out.size))
      clear hb
      go_wp2_with fail
      go_roundw
      case rel => exact ⟨k + 1, n + 1, by have := V.out; omega, by omega, by go_num, by rw [HY.out], HB⟩
      case measure => simp [intOf]; omega
    · have q1 : decide ((n : Int) ≤ (hi : Int)) = false := by rw [decide_eq_false_iff_not]; omega
      have q2 : decide (n ≤ hi) = false := by rw [decide_eq_false_iff_not]; omega
      obtain ⟨x, hx⟩ : ∃ x : Nat, upS lo k = x := ⟨_, rfl⟩
      have hxF : x = F := by rw [← hx]; exact FU.out k n hv (by omega)
      rw [hx, hxF]
      clear hx hxF hv n1 q
      go_wp2_with fail
      refine (HI.out _).mono ?_
      rintro e w2 ⟨rfl, hb⟩
      have HB := Lib.hid (HB.out.trans (hb.mono HB.out.size))
      clear hb
      go_wp2_with fail
      go_ret
      exact ⟨rfl, HB.out⟩

/-- the six numbers in a row -/
def sixL (x : Exp.Ex) : List Value := [.int .u64 x.a0, .int .u64 x.a1, .int .u64 x.a2, .int .u64 x.a3, .int .u64 x.a4, .int .u64 x.a5]
theorem sixL_at (x : Exp.Ex) (k : Nat) (h : k < 6) : (sixL x)[k]? = some (.int .u64 (x.at k : Nat)) :=
  six_cases h (P := fun k => (sixL x)[k]? = some (.int .u64 (x.at k : Nat))) rfl rfl rfl rfl rfl rfl
set_option maxRecDepth 100000 in
theorem fields7_any (x : Exp.Ex) (w : World) :
    Calls Tryz.prog 87 #[.agg #[.int .u64 x.a0, .int .u64 x.a1, .int .u64 x.a2, .int .u64 x.a3, .int .u64 x.a4, .int .u64 x.a5, .bool x.b3, .bool x.b5]] w fun e w' => ∃ A, e = .returned (.slice (some ⟨A, 0, none⟩) 6 6) ∧ Row w' A 22 (sixL x) ∧ w.heap.size ≤ A ∧ Below w.heap.size w w' := by
  have R := Row.new (w.alloc (.cells (exL x).toArray 24)) (sixL x) 22
  have B := Lib.hid (((Below.refl _ w).alloc (Nat.le_refl _) (.cells (exL x).toArray 24)).alloc (by simp) (.cells (sixL x).toArray 22))
  rw [World.size_alloc] at R
  have HR := Lib.hid R
  clear R
  go_enter Tryz.func87, Tryz.ntmps87
  go_wp2_with fail
  go_ret
  exact ⟨_, rfl, HR.out, by omega, B.out⟩

end Go.Proofs.YtljackjcgfaanaaGreatDoor
