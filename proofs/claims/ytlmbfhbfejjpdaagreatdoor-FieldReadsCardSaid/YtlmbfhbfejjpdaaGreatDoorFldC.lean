/- Contracts of Check, Full and Name of package field, for any kind. -/
import Derived.Test.YtlmbfhbfejjpdaaGreatDoorFldB
namespace Go.Proofs.YtlmbfhbfejjpdaaGreatDoor
open Go.ChangeShapes Go.WideShapes Go.RowKit Go.Shelf

theorem named_t (lo hi : Int) (v : Value) (xs : List ByteArray) (wk : Bool) (w : World) (hv : IsStrs w v xs) (h1 : 0 ≤ lo) (h2 : lo ≤ hi) (h3 : hi ≤ 62) (h : NamedOk xs (hi - lo + 1)) :
    Calls Tryz.prog 37 #[.agg #[.int .i64 lo, .int .i64 hi, v, .bool wk]] w fun e w' => e = .returned (.bool true) ∧ Below w.heap.size w w' := by
  rcases h with rfl | ⟨hl, hn⟩
  · exact named_nil lo hi v wk w hv
  · exact named_yes lo hi v xs wk w hv h1 h2 h3 (by omega) hl hn
theorem named_f (lo hi : Int) (v : Value) (xs : List ByteArray) (wk : Bool) (w : World) (hv : IsStrs w v xs) (h1 : 0 ≤ lo) (h2 : lo ≤ hi) (h3 : hi ≤ 62) (h : ¬ NamedOk xs (hi - lo + 1)) (hs : ∀ x ∈ xs, x.size ≤ 9223372036854775807) :
    Calls Tryz.prog 37 #[.agg #[.int .i64 lo, .int .i64 hi, v, .bool wk]] w fun e w' => e = .returned (.bool false) ∧ Below w.heap.size w w' := by
  have h0 : 0 < xs.length := by
    rcases Nat.eq_zero_or_pos xs.length with a | a
    · exact (h (.inl (List.length_eq_zero_iff.1 a))).elim
    · exact a
  by_cases hl : (xs.length : Int) = hi - lo + 1
  · exact named_no lo hi v xs wk w hv h1 h2 h3 h0 hl (fun q => h (.inr ⟨hl, q⟩)) hs
  · exact named_len lo hi v xs wk w hv h1 h2 h3 h0 hl
theorem spec_box (w : World) (lo hi : Int) (v : Value) (wk : Bool) : Below w.heap.size w (w.alloc (.cells #[.int .i64 lo, .int .i64 hi, v, .bool wk] 30)) := (Below.refl _ _).alloc (Nat.le_refl _) _
theorem box_below {w w1 : World} {o : Obj} (hb : Below (w.heap.size + 1) (w.alloc o) w1) : Below w.heap.size w w1 :=
  ((Below.refl _ w).alloc (Nat.le_refl _) o).trans (hb.mono (by simp))

set_option maxHeartbeats 1000000 in
theorem check_yes (lo hi : Int) (v : Value) (xs : List ByteArray) (wk : Bool) (w : World) (hv : IsStrs w v xs) (h : Valid lo hi xs wk) :
    Calls Tryz.prog 18 #[.agg #[.int .i64 lo, .int .i64 hi, v, .bool wk]] w fun e w' => e = .returned (.int .i64 0) ∧ Below w.heap.size w w' := by
  obtain ⟨h1, h2, h3, h4, h5⟩ := h
  have V0 := hv.below (spec_box w lo hi v wk)
  have C := Lib.hid (named_t lo hi v xs wk _ V0 h1 h2 h3 h5)
  have d1 : decide (lo < 0) = false := by simpa using h1
  have d2 : decide (hi < lo) = false := by simpa using h2
  have d3 : decide (62 < hi) = false := by simpa using h3
  obtain ⟨A, cap, rfl, _, _⟩ := hv
  cases wk with
  | true =>
    obtain ⟨rfl, rfl⟩ := h4 rfl
    clear V0 h5 h4 d1 d2 d3
    go_enter Tryz.func18, Tryz.ntmps18
    go_wp2_with fail
    refine C.out.mono ?_
    rintro e w1 ⟨rfl, hb⟩
    have HB := Lib.hid hb
    clear hb
    go_wp2_with fail
    go_ret
    exact ⟨rfl, box_below (by simpa using HB.out)⟩
  | false =>
    clear V0 h5 h4
    go_enter Tryz.func18, Tryz.ntmps18
    go_wp2_with fail
    refine C.out.mono ?_
    rintro e w1 ⟨rfl, hb⟩
    have HB := Lib.hid hb
    clear hb
    go_wp2_with fail
    go_ret
    exact ⟨rfl, box_below (by simpa using HB.out)⟩
set_option maxHeartbeats 1000000 in
theorem check_no (lo hi : Int) (v : Value) (xs : List ByteArray) (wk : Bool) (w : World) (hv : IsStrs w v xs) (h : ¬ Valid lo hi xs wk) (hs : ∀ x ∈ xs, x.size ≤ 9223372036854775807) :
    Calls Tryz.prog 18 #[.agg #[.int .i64 lo, .int .i64 hi, v, .bool wk]] w fun e w' => e = .returned (.int .i64 2) ∧ Below w.heap.size w w' := by
  have V0 := hv.below (spec_box w lo hi v wk)
  have B0 := Lib.hid (spec_box w lo hi v wk)
  by_cases h1 : lo < 0
  · have d1 : decide (lo < 0) = true := by simpa using h1
    obtain ⟨A, cap, rfl, _, _⟩ := hv
    clear V0 h h1
    go_enter Tryz.func18, Tryz.ntmps18
    go_wp2_with fail
    go_ret
    exact ⟨rfl, B0.out⟩
  have d1 : decide (lo < 0) = false := by simpa using h1
  by_cases h2 : hi < lo
  · have d2 : decide (hi < lo) = true := by simpa using h2
    obtain ⟨A, cap, rfl, _, _⟩ := hv
    clear V0 h h1 h2
    go_enter Tryz.func18, Tryz.ntmps18
    go_wp2_with fail
    go_ret
    exact ⟨rfl, B0.out⟩
  have d2 : decide (hi < lo) = false := by simpa using h2
  by_cases h3 : 62 < hi
  · have d3 : decide (62 < hi) = true := by simpa using h3
    obtain ⟨A, cap, rfl, _, _⟩ := hv
    clear V0 h h1 h2 h3
    go_enter Tryz.func18, Tryz.ntmps18
    go_wp2_with fail
    go_ret
    exact ⟨rfl, B0.out⟩
  have d3 : decide (62 < hi) = false := by simpa using h3
  by_cases h4 : wk = true ∧ ¬ (lo = 0 ∧ hi = 6)
  · obtain ⟨rfl, h5⟩ := h4
    obtain ⟨A, cap, rfl, _, _⟩ := hv
    by_cases h6 : lo = 0
    · subst h6
      have d4 : (hi != 6) = true := by rw [bne_iff_ne]; exact fun q => h5 ⟨rfl, q⟩
      clear V0 h h1 h5 d1
      go_enter Tryz.func18, Tryz.ntmps18
      go_wp2_with fail
      go_ret
      exact ⟨rfl, B0.out⟩
    · have d4 : (lo != 0) = true := by rw [bne_iff_ne]; exact h6
      clear V0 h h1 h5 h6
      go_enter Tryz.func18, Tryz.ntmps18
      go_wp2_with fail
      go_ret
      exact ⟨rfl, B0.out⟩
  have hn : ¬ NamedOk xs (hi - lo + 1) := fun q => h ⟨by omega, by omega, by omega, fun e => Classical.byContradiction fun k => h4 ⟨e, k⟩, q⟩
  have C := Lib.hid (named_f lo hi v xs wk _ V0 (by omega) (by omega) (by omega) hn hs)
  obtain ⟨A, cap, rfl, _, _⟩ := hv
  cases wk with
  | true =>
    obtain ⟨rfl, rfl⟩ : lo = 0 ∧ hi = 6 := Classical.byContradiction fun k => h4 ⟨rfl, k⟩
    clear V0 h h1 h2 h3 h4 hn d1 d2 d3
    go_enter Tryz.func18, Tryz.ntmps18
    go_wp2_with fail
    refine C.out.mono ?_
    rintro e w1 ⟨rfl, hb⟩
    have HB := Lib.hid hb
    clear hb
    go_wp2_with fail
    go_ret
    exact ⟨rfl, box_below (by simpa using HB.out)⟩
  | false =>
    clear V0 h h1 h2 h3 h4 hn
    go_enter Tryz.func18, Tryz.ntmps18
    go_wp2_with fail
    refine C.out.mono ?_
    rintro e w1 ⟨rfl, hb⟩
    have HB := Lib.hid hb
    clear hb
    go_wp2_with fail
    go_ret
    exact ⟨rfl, box_below (by simpa using HB.out)⟩
/-- the error of a kind -/
def ErrOf (lo hi : Int) (xs : List ByteArray) (wk : Bool) (e : Int) : Prop := (Valid lo hi xs wk ∧ e = 0) ∨ (¬ Valid lo hi xs wk ∧ e = 2)
theorem errOf_ex (lo hi : Int) (xs : List ByteArray) (wk : Bool) : ∃ e, ErrOf lo hi xs wk e := by
  by_cases h : Valid lo hi xs wk
  · exact ⟨_, .inl ⟨h, rfl⟩⟩
  · exact ⟨_, .inr ⟨h, rfl⟩⟩
theorem check_any (lo hi : Int) (v : Value) (xs : List ByteArray) (wk : Bool) (q : Int) (w : World) (hv : IsStrs w v xs) (hs : ∀ x ∈ xs, x.size ≤ 9223372036854775807) (h : ErrOf lo hi xs wk q) :
    Calls Tryz.prog 18 #[.agg #[.int .i64 lo, .int .i64 hi, v, .bool wk]] w fun e w' => e = .returned (.int .i64 q) ∧ Below w.heap.size w w' := by
  rcases h with ⟨h, rfl⟩ | ⟨h, rfl⟩
  · exact check_yes lo hi v xs wk w hv h
  · exact check_no lo hi v xs wk w hv h hs

/-! Full -/
theorem full_no (lo hi : Int) (v : Value) (xs : List ByteArray) (wk : Bool) (w : World) (hv : IsStrs w v xs) (h : ¬ Valid lo hi xs wk) (hs : ∀ x ∈ xs, x.size ≤ 9223372036854775807) :
    Calls Tryz.prog 16 #[.agg #[.int .i64 lo, .int .i64 hi, v, .bool wk]] w fun e w' => e = .returned (.tuple #[.int .u64 0, .int .i64 2]) ∧ Below w.heap.size w w' := by
  have V0 := hv.below (spec_box w lo hi v wk)
  have C := Lib.hid (check_no lo hi v xs wk _ V0 h hs)
  obtain ⟨A, cap, rfl, _, _⟩ := hv
  clear V0 h
  go_enter Tryz.func16, Tryz.ntmps16
  go_wp2_with fail
  refine C.out.mono ?_
  rintro e w1 ⟨rfl, hb⟩
  have HB := Lib.hid hb
  clear hb
  go_wp2_with fail
  go_ret2
  exact ⟨rfl, box_below (by simpa using HB.out)⟩
/-- all numbers of a kind -/
def fullS (lo hi : Int) : Nat := Bit.rangeS lo.toNat hi.toNat 1
theorem fullS_lt {lo hi : Int} {xs : List ByteArray} {wk : Bool} (h : Valid lo hi xs wk) : fullS lo hi < 2 ^ 64 := by
  obtain ⟨h1, h2, h3, _⟩ := h
  exact Bit.rangeS_lt (by omega) (Nat.le_refl _) (by omega)
theorem full_yes (lo hi : Int) (v : Value) (xs : List ByteArray) (wk : Bool) (w : World) (hv : IsStrs w v xs) (h : Valid lo hi xs wk) :
    Calls Tryz.prog 16 #[.agg #[.int .i64 lo, .int .i64 hi, v, .bool wk]] w fun e w' => e = .returned (.tuple #[.int .u64 (fullS lo hi : Nat), .int .i64 0]) ∧ Below w.heap.size w w' := by
  have V0 := hv.below (spec_box w lo hi v wk)
  have C := Lib.hid (check_yes lo hi v xs wk _ V0 h)
  obtain ⟨A, cap, rfl, _, _⟩ := hv
  have hr : IsRange lo hi 1 (fullS lo hi) 0 := by
    obtain ⟨h1, h2, h3, _⟩ := h
    exact .inr (.inr ⟨lo.toNat, hi.toNat, 1, by omega, by omega, rfl, by omega, by omega, Nat.le_refl _, rfl, rfl⟩)
  have R := Lib.hid (fun w => range_any lo hi 1 _ 0 w hr)
  clear V0 h hr
  go_enter Tryz.func16, Tryz.ntmps16
  go_wp2_with fail
  refine C.out.mono ?_
  rintro e w1 ⟨rfl, hb⟩
  obtain ⟨hc, hf⟩ := kept hb
  have HB := Lib.hid hb
  clear hb
  go_wp2_with fail
  refine (R.out _).mono ?_
  rintro e w2 ⟨rfl, rfl⟩
  go_wp2_with fail
  go_ret2
  exact ⟨rfl, box_below (by simpa using HB.out)⟩

/-! Name -/
/-- the name of a number, and the error -/
def NameIs (lo hi : Int) (xs : List ByteArray) (wk : Bool) (k : Int) (s : ByteArray) (e : Int) : Prop :=
  (¬ Valid lo hi xs wk ∧ s = ⟨#[]⟩ ∧ e = 2) ∨ (Valid lo hi xs wk ∧ (k < lo ∨ hi < k) ∧ s = ⟨#[]⟩ ∧ e = 3) ∨ (Valid lo hi xs wk ∧ lo ≤ k ∧ k ≤ hi ∧ xs = [] ∧ s = ⟨#[]⟩ ∧ e = 5) ∨
  (Valid lo hi xs wk ∧ lo ≤ k ∧ k ≤ hi ∧ ∃ i : Nat, ∃ h : i < xs.length, k = lo + i ∧ s = xs[i] ∧ e = 0)
theorem nameIs_ex (lo hi : Int) (xs : List ByteArray) (wk : Bool) (k : Int) : ∃ s e, NameIs lo hi xs wk k s e := by
  by_cases h : Valid lo hi xs wk
  · by_cases h1 : k < lo ∨ hi < k
    · exact ⟨_, _, .inr (.inl ⟨h, h1, rfl, rfl⟩)⟩
    · rcases Nat.eq_zero_or_pos xs.length with a | a
      · exact ⟨_, _, .inr (.inr (.inl ⟨h, by omega, by omega, List.length_eq_zero_iff.1 a, rfl, rfl⟩))⟩
      · have hl : (xs.length : Int) = hi - lo + 1 := by
          rcases h.2.2.2.2 with rfl | ⟨q, _⟩
          · simp at a
          · exact q
        exact ⟨_, _, .inr (.inr (.inr ⟨h, by omega, by omega, (k - lo).toNat, by omega, by omega, rfl, rfl⟩))⟩
  · exact ⟨_, _, .inl ⟨h, rfl, rfl⟩⟩
theorem ret_se {a b : ByteArray} {c d : Int} (h1 : a = b) (h2 : c = d) : Ending.returned (.tuple #[.string a, .int .i64 c]) = .returned (.tuple #[.string b, .int .i64 d]) := by rw [h1, h2]
set_option maxHeartbeats 1000000 in
theorem name_any (lo hi : Int) (v : Value) (xs : List ByteArray) (wk : Bool) (k : Int) (s : ByteArray) (q : Int) (w : World) (hv : IsStrs w v xs) (hs : ∀ x ∈ xs, x.size ≤ 9223372036854775807) (h : NameIs lo hi xs wk k s q) :
    Calls Tryz.prog 21 #[.agg #[.int .i64 lo, .int .i64 hi, v, .bool wk], .int .i64 k] w fun e w' => e = .returned (.tuple #[.string s, .int .i64 q]) ∧ Below w.heap.size w w' := by
  have B0 := spec_box w lo hi v wk
  have V0 := hv.below B0
  rcases h with ⟨h, rfl, rfl⟩ | ⟨h, h1, rfl, rfl⟩ | ⟨h, h1, h2, rfl, rfl, rfl⟩ | ⟨h, h1, h2, i, hi', rfl, rfl, rfl⟩
  · have C := Lib.hid (check_no lo hi v xs wk _ V0 h hs)
    obtain ⟨A, cap, rfl, _, _⟩ := hv
    clear V0 h
    go_enter Tryz.func21, Tryz.ntmps21
    go_wp2_with fail
    refine C.out.mono ?_
    rintro e w1 ⟨rfl, hb⟩
    have HB := Lib.hid hb
    clear hb
    go_wp2_with fail
    go_ret2
    exact ⟨rfl, box_below (by simpa using HB.out)⟩
  · have C := Lib.hid (check_yes lo hi v xs wk _ V0 h)
    obtain ⟨A, cap, rfl, _, _⟩ := hv
    clear V0 h
    by_cases c : k < lo
    · have d : decide (k < lo) = true := by simpa using c
      clear h1 c
      go_enter Tryz.func21, Tryz.ntmps21
      go_wp2_with fail
      refine C.out.mono ?_
      rintro e w1 ⟨rfl, hb⟩
      obtain ⟨hc, hf⟩ := kept hb
      have HB := Lib.hid hb
      clear hb
      go_wp2_with fail
      go_ret2
      exact ⟨rfl, box_below (by simpa using HB.out)⟩
    · have d : decide (k < lo) = false := by simpa using c
      have d2 : decide (hi < k) = true := by simp; omega
      clear h1 c
      go_enter Tryz.func21, Tryz.ntmps21
      go_wp2_with fail
      refine C.out.mono ?_
      rintro e w1 ⟨rfl, hb⟩
      obtain ⟨hc, hf⟩ := kept hb
      have HB := Lib.hid hb
      clear hb
      go_wp2_with fail
      go_ret2
      exact ⟨rfl, box_below (by simpa using HB.out)⟩
  · have C := Lib.hid (check_yes lo hi v [] wk _ V0 h)
    obtain ⟨A, cap, rfl, _, _⟩ := hv
    have d : decide (k < lo) = false := by simp; omega
    have d2 : decide (hi < k) = false := by simp; omega
    clear V0 h h1 h2
    go_enter Tryz.func21, Tryz.ntmps21
    go_wp2_with fail
    refine C.out.mono ?_
    rintro e w1 ⟨rfl, hb⟩
    obtain ⟨hc, hf⟩ := kept hb
    have HB := Lib.hid hb
    clear hb
    go_wp2_with fail
    go_ret2
    exact ⟨rfl, box_below (by simpa using HB.out)⟩
  · have C := Lib.hid (check_yes lo hi v xs wk _ V0 h)
    obtain ⟨l0, _, h62, _⟩ := h
    have V1 := Lib.hid hv
    obtain ⟨A, cap, rfl, _, _⟩ := hv
    obtain ⟨b, o, e, hb0, g⟩ := V1.out.at_ i hi'
    cases e
    obtain ⟨x, hx⟩ : ∃ x, xs[i] = x := ⟨_, rfl⟩
    rw [hx] at g ⊢
    have n0 : ((xs.length : Int) == 0) = false := by rw [beq_eq_false_iff_ne]; omega
    have d : decide (lo + (i : Int) < lo) = false := by simp; omega
    have d1 : decide ((i : Int) < 0) = false := by simp
    have d2 : decide (hi < lo + (i : Int)) = false := by simp; omega
    have hsub : lo + (i : Int) - lo = i := by omega
    clear V0 hx
    go_enter Tryz.func21, Tryz.ntmps21
    go_wp2_with fail
    refine C.out.mono ?_
    rintro e w1 ⟨rfl, hb⟩
    obtain ⟨hc, hf⟩ := kept hb
    have hc1 : ∀ j, w1.cell? ⟨w.heap.size, j, none⟩ = (w.alloc (.cells #[.int .i64 lo, .int .i64 hi, .slice (some ⟨b, o, none⟩) xs.length cap, .bool wk] 30)).cell? ⟨w.heap.size, j, none⟩ := fun j => hc _ _ (by simp)
    have g1 : w1.cell? ⟨b, o + i, none⟩ = some (.string x) := (hb.cell (p := ⟨b, o + i, none⟩) (by simp; omega)).trans ((B0.cell (p := ⟨b, o + i, none⟩) hb0).trans g)
    have HB := Lib.hid hb
    clear hb g hc hf
    go_wp2_with fail
    go_ret2
    exact ⟨rfl, box_below (by simpa using HB.out)⟩
end Go.Proofs.YtlmbfhbfejjpdaaGreatDoor
