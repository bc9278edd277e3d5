/- Contracts of named, Check, Full and Name of package field: which kinds are valid. -/
import Derived.Test.YtlmbfhbfejjpdaaGreatDoorFldA
import Derived.Lib.SlicesS
namespace Go.Proofs.YtlmbfhbfejjpdaaGreatDoor
open Go.ChangeShapes Go.WideShapes Go.RowKit Go.Shelf

/-- the first k names are names, and differ -/
def NmTo (xs : List ByteArray) (k : Nat) : Prop := ∀ i (h : i < xs.length), i < k → NameB xs[i] ∧ xs[i] ∉ xs.take i
def NamedOk (xs : List ByteArray) (n : Int) : Prop := xs = [] ∨ ((xs.length : Int) = n ∧ NmTo xs xs.length)
/-- which kinds are valid -/
def Valid (lo hi : Int) (xs : List ByteArray) (wk : Bool) : Prop := 0 ≤ lo ∧ lo ≤ hi ∧ hi ≤ 62 ∧ (wk = true → lo = 0 ∧ hi = 6) ∧ NamedOk xs (hi - lo + 1)
theorem nmTo_zero (xs : List ByteArray) : NmTo xs 0 := fun i _ h => by omega
theorem nmTo_succ {xs : List ByteArray} {k : Nat} (h : NmTo xs k) (hk : k < xs.length) (h1 : NameB xs[k]) (h2 : xs[k] ∉ xs.take k) : NmTo xs (k + 1) := fun i hi hik => by
  rcases Nat.lt_or_ge i k with a | a
  · exact h i hi a
  · obtain rfl : i = k := by omega
    exact ⟨h1, h2⟩
theorem nmTo_first (xs : List ByteArray) (h : ¬ NmTo xs xs.length) : ∃ k, ∃ hk : k < xs.length, NmTo xs k ∧ ¬ (NameB xs[k] ∧ xs[k] ∉ xs.take k) := by
  have key : ∀ n, n ≤ xs.length → NmTo xs n ∨ ∃ k, ∃ hk : k < xs.length, NmTo xs k ∧ ¬ (NameB xs[k] ∧ xs[k] ∉ xs.take k) := by
    intro n
    induction n with
    | zero => exact fun _ => .inl (nmTo_zero xs)
    | succ n ih =>
      intro hn
      rcases ih (by omega) with a | a
      · by_cases c : NameB (xs[n]'(by omega)) ∧ (xs[n]'(by omega)) ∉ xs.take n
        · exact .inl (nmTo_succ a (by omega) c.1 c.2)
        · exact .inr ⟨n, by omega, a, c⟩
      · exact .inr a
  exact (key xs.length (Nat.le_refl _)).resolve_left h
theorem has_iff (xs : List ByteArray) (k : Nat) (x : ByteArray) (b : Bool) (h : (b = true) ↔ x ∈ xs.take k) : Lib.containsS (xs.take k) x = b := by
  rw [Bool.eq_iff_iff, Lib.containsS_iff, h]
/-- Contains of the first k names -/
theorem contains_any (a : Option Addr) (len cap : Nat) (xs : List ByteArray) (k : Nat) (x : ByteArray) (b : Bool) (w : World) (hv : IsStrs w (.slice a len cap) xs) (hk : k < xs.length) (hl : xs.length ≤ 9223372036854775807) (h : (b = true) ↔ x ∈ xs.take k) :
    Calls Tryz.prog 58 #[.slice a k cap, .string x] w fun e w' => e = .returned (.bool b) ∧ w = w' := by
  obtain ⟨A, c, e, _, h2⟩ := hv
  cases e
  obtain ⟨bb, o, rfl, hb, hc⟩ := h2 (by omega)
  refine (Tryz.slices_Contains_string bb o k cap xs x w (by omega) (by omega) (fun j hj => ?_)).mono ?_
  · rw [hc j _ (List.getElem?_eq_getElem hj)]
    rw [List.getD_eq_getElem?_getD, List.getElem?_eq_getElem hj]
    rfl
  · rintro e w' ⟨rfl, rfl⟩
    exact ⟨ret_bool (has_iff xs k x b h), rfl⟩

theorem named_nil (lo hi : Int) (v : Value) (wk : Bool) (w : World) (hv : IsStrs w v []) :
    Calls Tryz.prog 37 #[.agg #[.int .i64 lo, .int .i64 hi, v, .bool wk]] w fun e w' => e = .returned (.bool true) ∧ Below w.heap.size w w' := by
  obtain ⟨A, cap, rfl, _, _⟩ := hv
  go_enter Tryz.func37, Tryz.ntmps37
  go_wp2
  go_ret
  exact ⟨rfl, (Below.refl _ _).alloc (Nat.le_refl _) _⟩
theorem named_len (lo hi : Int) (v : Value) (xs : List ByteArray) (wk : Bool) (w : World) (hv : IsStrs w v xs) (h1 : 0 ≤ lo) (h2 : lo ≤ hi) (h3 : hi ≤ 62) (h0 : 0 < xs.length) (hl : (xs.length : Int) ≠ hi - lo + 1) :
    Calls Tryz.prog 37 #[.agg #[.int .i64 lo, .int .i64 hi, v, .bool wk]] w fun e w' => e = .returned (.bool false) ∧ Below w.heap.size w w' := by
  obtain ⟨A, cap, rfl, _, _⟩ := hv
  have t0 : ((xs.length : Int) == 0) = false := by rw [beq_eq_false_iff_ne]; omega
  have t1 : ((xs.length : Int) != hi - lo + 1) = true := by rw [bne_iff_ne]; exact hl
  clear hl
  go_enter Tryz.func37, Tryz.ntmps37
  go_wp2
  go_ret
  exact ⟨rfl, (Below.refl _ _).alloc (Nat.le_refl _) _⟩
set_option maxHeartbeats 1000000 in
theorem named_yes (lo hi : Int) (v : Value) (xs : List ByteArray) (wk : Bool) (w : World) (hv : IsStrs w v xs) (h1 : 0 ≤ lo) (h2 : lo ≤ hi) (h3 : hi ≤ 62) (h0 : 0 < xs.length) (hl : (xs.length : Int) = hi - lo + 1) (hn : NmTo xs xs.length) :
    Calls Tryz.prog 37 #[.agg #[.int .i64 lo, .int .i64 hi, v, .bool wk]] w fun e w' => e = .returned (.bool true) ∧ Below w.heap.size w w' := by
  have hb0 : Below w.heap.size w (w.alloc (.cells #[.int .i64 lo, .int .i64 hi, v, .bool wk] 30)) := (Below.refl _ _).alloc (Nat.le_refl _) _
  have V0 := hv.below hb0
  obtain ⟨A, cap, rfl, _, _⟩ := hv
  have V := Lib.hid V0
  have HN := Lib.hid hn
  have t0 : ((xs.length : Int) == 0) = false := by rw [beq_eq_false_iff_ne]; omega
  have t1 : ((xs.length : Int) != hi - lo + 1) = false := by rw [bne_eq_false_iff_eq]; exact hl
  have hsz : xs.length ≤ 63 := by omega
  clear hl V0 hn
  go_enter Tryz.func37, Tryz.ntmps37
  go_wp2_with fail
  go_loop [22] (fun i => ∃ k : Nat, k ≤ xs.length ∧ i = .int .i64 k) (fun i => xs.length - (intOf i).toNat)
  case atStart => exact ⟨0, Nat.zero_le _, rfl⟩
  case round =>
    obtain ⟨k, hk, rfl⟩ := hrel
    by_cases hlt : k < xs.length
    · obtain ⟨b, o, e, _, g⟩ := V.out.at_ k hlt
      cases e
      obtain ⟨q1, q2⟩ := HN.out k hlt hlt
      have C := Lib.hid (fun w' (hv : IsStrs w' (.slice (some ⟨b, o, none⟩) xs.length cap) xs) => contains_any _ _ cap xs k xs[k] false w' hv hlt (by omega) (by simpa using q2))
      have I := Lib.hid (fun w => isName_yes xs[k] q1 w)
      obtain ⟨x, hx⟩ : ∃ x, xs[k] = x := ⟨_, rfl⟩
      rw [hx] at g C I
      clear q1 q2 hx
      go_wp2_with fail
      refine (I.out _).mono ?_
      rintro e w1 ⟨rfl, rfl⟩
      go_wp2_with fail
      refine (C.out _ V.out).mono ?_
      rintro e w1 ⟨rfl, rfl⟩
      go_wp2_with fail
      go_round
      case rel => exact ⟨k + 1, by omega, by go_num⟩
      case measure => simp [intOf]; omega
    · go_wp2_with fail
      go_ret
      exact ⟨rfl, hb0⟩
set_option maxHeartbeats 1000000 in
theorem named_no (lo hi : Int) (v : Value) (xs : List ByteArray) (wk : Bool) (w : World) (hv : IsStrs w v xs) (h1 : 0 ≤ lo) (h2 : lo ≤ hi) (h3 : hi ≤ 62) (h0 : 0 < xs.length) (hl : (xs.length : Int) = hi - lo + 1) (hn : ¬ NmTo xs xs.length) (hs : ∀ x ∈ xs, x.size ≤ 9223372036854775807) :
    Calls Tryz.prog 37 #[.agg #[.int .i64 lo, .int .i64 hi, v, .bool wk]] w fun e w' => e = .returned (.bool false) ∧ Below w.heap.size w w' := by
  have hb0 : Below w.heap.size w (w.alloc (.cells #[.int .i64 lo, .int .i64 hi, v, .bool wk] 30)) := (Below.refl _ _).alloc (Nat.le_refl _) _
  have V0 := hv.below hb0
  obtain ⟨A, cap, rfl, _, _⟩ := hv
  obtain ⟨k0, hk0, hb, hbad⟩ := nmTo_first xs hn
  have V := Lib.hid V0
  have HN := Lib.hid hb
  have HB := Lib.hid hbad
  have HS := Lib.hid hs
  have t0 : ((xs.length : Int) == 0) = false := by rw [beq_eq_false_iff_ne]; omega
  have t1 : ((xs.length : Int) != hi - lo + 1) = false := by rw [bne_eq_false_iff_eq]; exact hl
  have hsz : xs.length ≤ 63 := by omega
  clear hl V0 hn hb hbad hs
  go_enter Tryz.func37, Tryz.ntmps37
  go_wp2_with fail
  go_loop [22] (fun i => ∃ k : Nat, k ≤ k0 ∧ i = .int .i64 k) (fun i => xs.length - (intOf i).toNat)
  case atStart => exact ⟨0, Nat.zero_le _, rfl⟩
  case round =>
    obtain ⟨k, hk, rfl⟩ := hrel
    have hlt : k < xs.length := by omega
    obtain ⟨b, o, e, _, g⟩ := V.out.at_ k hlt
    cases e
    by_cases hk1 : k < k0
    · obtain ⟨q1, q2⟩ := HN.out k hlt hk1
      have C := Lib.hid (fun w' (hv : IsStrs w' (.slice (some ⟨b, o, none⟩) xs.length cap) xs) => contains_any _ _ cap xs k xs[k] false w' hv hlt (by omega) (by simpa using q2))
      have I := Lib.hid (fun w => isName_yes xs[k] q1 w)
      obtain ⟨x, hx⟩ : ∃ x, xs[k] = x := ⟨_, rfl⟩
      rw [hx] at g C I
      clear q1 q2 hx
      go_wp2_with fail
      refine (I.out _).mono ?_
      rintro e w1 ⟨rfl, rfl⟩
      go_wp2_with fail
      refine (C.out _ V.out).mono ?_
      rintro e w1 ⟨rfl, rfl⟩
      go_wp2_with fail
      go_round
      case rel => exact ⟨k + 1, by omega, by go_num⟩
      case measure => simp [intOf]; omega
    · obtain rfl : k = k0 := by omega
      by_cases q1 : NameB xs[k]
      · have q2 : xs[k] ∈ xs.take k := Classical.byContradiction fun q => HB.out ⟨q1, q⟩
        have C := Lib.hid (fun w' (hv : IsStrs w' (.slice (some ⟨b, o, none⟩) xs.length cap) xs) => contains_any _ _ cap xs k xs[k] true w' hv hlt (by omega) (by simpa using q2))
        have I := Lib.hid (fun w => isName_yes xs[k] q1 w)
        obtain ⟨x, hx⟩ : ∃ x, xs[k] = x := ⟨_, rfl⟩
        rw [hx] at g C I
        clear q1 q2 hx
        go_wp2_with fail
        refine (I.out _).mono ?_
        rintro e w1 ⟨rfl, rfl⟩
        go_wp2_with fail
        refine (C.out _ V.out).mono ?_
        rintro e w1 ⟨rfl, rfl⟩
        go_wp2_with fail
        go_ret
        exact ⟨rfl, hb0⟩
      · have I := Lib.hid (fun w => isName_no xs[k] (HS.out _ (List.getElem_mem hlt)) q1 w)
        obtain ⟨x, hx⟩ : ∃ x, xs[k] = x := ⟨_, rfl⟩
        rw [hx] at g I
        clear q1 hx
        go_wp2_with fail
        refine (I.out _).mono ?_
        rintro e w1 ⟨rfl, rfl⟩
        go_wp2_with fail
        go_ret
        exact ⟨rfl, hb0⟩
end Go.Proofs.YtlmbfhbfejjpdaaGreatDoor
