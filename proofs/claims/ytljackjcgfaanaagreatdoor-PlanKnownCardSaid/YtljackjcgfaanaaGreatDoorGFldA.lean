/- Contracts of upper, letter, digit and isName of package field; slices of strings. Contracts of named, Check, Full and Name of package field: which kinds are valid. Contracts of Check, Full and Name of package field, for any kind. -/
import Derived.Lib.IndexBytes
import Derived.Test.YtljackjcgfaanaaGreatDoorMBitG
import Derived.Laws.EntriesVeiled
import Derived.RangeFuncNested
import Derived.RangeFuncCalls
import Derived.Laws.StructEq
import Derived.Deep.RegionLaw
import Derived.WalkSmall
import Derived.Test.YtljackjcgfaanaaGreatDoorGMPlain
import Derived.SliceStrings
import Derived.SizedLaws
import Derived.Deep.QuietTactic
import Derived.BigQuiet
import Derived.IntWalk
import Derived.Lib.SlicesS
/- Contracts of upper, letter, digit and isName of package field; slices of strings. -/
namespace Go.Proofs.YtljackjcgfaanaaGreatDoor
open Go.ChangeShapes Go.WideShapes Go.RowKit Go.Shelf

theorem le_facts (a c : Nat) (b : Bool) (h : decide (a ≤ c) = b) : decide ((a : Int) ≤ (c : Int)) = b := by rw [← h, decide_eq_decide]; omega
theorem ge_facts (a c : Nat) (b : Bool) (h : decide (c ≤ a) = b) : decide ((c : Int) ≤ (a : Int)) = b := by rw [← h, decide_eq_decide]; omega
theorem upN_and (c : Nat) : Fld.upN c = (decide (65 ≤ c) && decide (c ≤ 90)) := by unfold Fld.upN; exact Bool.decide_and ..
theorem upper_any (c : Nat) (b : Bool) (h : Fld.upN c = b) (w : World) :
    Calls Tryz.prog 184 #[.int .u8 c] w fun e w' => e = .returned (.bool b) ∧ w = w' := by
  rw [upN_and] at h
  cases h1 : decide (65 ≤ c) with
  | false =>
    have g1 : decide ((65 : Int) ≤ (c : Int)) = _ := le_facts 65 c _ h1
    rw [h1, Bool.false_and] at h
    subst h
    go_enter Tryz.func184, Tryz.ntmps184
    go_wp2
    go_ret
    exact ⟨rfl, rfl⟩
  | true =>
    have g1 : decide ((65 : Int) ≤ (c : Int)) = _ := le_facts 65 c _ h1
    rw [h1, Bool.true_and] at h
    have g2 : decide ((c : Int) ≤ (90 : Int)) = _ := ge_facts 90 c _ h
    cases b
    all_goals
      go_enter Tryz.func184, Tryz.ntmps184
      go_wp2
      go_ret
      exact ⟨rfl, rfl⟩
/-- what lies below the mark reads as before -/
theorem kept {W w1 : World} (hb : Below W.heap.size W w1) : (∀ b o, b < W.heap.size → w1.cell? ⟨b, o, none⟩ = W.cell? ⟨b, o, none⟩) ∧ (∀ b o, b < W.heap.size → w1.frozen? ⟨b, o, none⟩ = W.frozen? ⟨b, o, none⟩) :=
  ⟨fun b o h => hb.cell (p := ⟨b, o, none⟩) h, fun b o h => hb.frozen (p := ⟨b, o, none⟩) h⟩

/-- a slice of these strings -/
def IsStrs (w : World) (v : Value) (xs : List ByteArray) : Prop :=
  ∃ A cap, v = .slice A xs.length cap ∧ xs.length ≤ cap ∧ (0 < xs.length → ∃ b o, A = some ⟨b, o, none⟩ ∧ b < w.heap.size ∧ ∀ (j : Nat) x, xs[j]? = some x → w.cell? ⟨b, o + j, none⟩ = some (.string x))
theorem IsStrs.below {w w' : World} {v : Value} {xs : List ByteArray} (h : IsStrs w v xs) (hb : Below w.heap.size w w') : IsStrs w' v xs := by
  obtain ⟨A, cap, rfl, h1, h2⟩ := h
  refine ⟨A, cap, rfl, h1, fun hp => ?_⟩
  obtain ⟨b, o, rfl, h3, h4⟩ := h2 hp
  exact ⟨b, o, rfl, Nat.lt_of_lt_of_le h3 hb.size, fun j x hx => (hb.cell (p := ⟨b, o + j, none⟩) h3).trans (h4 j x hx)⟩
theorem IsStrs.at_ {W : World} {a : Option Addr} {len cap : Nat} {xs : List ByteArray} (h : IsStrs W (.slice a len cap) xs) (k : Nat) (hk : k < xs.length) :
    ∃ b o, a = some ⟨b, o, none⟩ ∧ b < W.heap.size ∧ W.cell? ⟨b, o + k, none⟩ = some (.string xs[k]) := by
  obtain ⟨A, c, e, _, h2⟩ := h
  cases e
  obtain ⟨b, o, rfl, hb, hc⟩ := h2 (by omega)
  exact ⟨b, o, rfl, hb, hc k _ (List.getElem?_eq_getElem hk)⟩
/-- the bytes of strings -/
def bytesL (xs : List ByteArray) : List (List UInt8) := xs.map (·.data.toList)
theorem bytesL_len (xs : List ByteArray) : (bytesL xs).length = xs.length := by simp [bytesL]

/-- a name, as a kind can have it -/
def NameB (s : ByteArray) : Prop := 1 ≤ s.size ∧ s.size ≤ 9 ∧ ∀ k (h : k < s.size), Fld.upN s[k].toNat = true
theorem nameB_list (s : ByteArray) : NameB s ↔ 1 ≤ s.data.toList.length ∧ s.data.toList.length ≤ 9 ∧ ∀ c ∈ s.data.toList, Fld.isUp c = true := by
  unfold NameB
  rw [← Lib.size_eq]
  constructor
  · rintro ⟨a, b, c⟩
    refine ⟨a, b, fun x hx => ?_⟩
    obtain ⟨k, hk, e⟩ := List.getElem_of_mem hx
    have hk' : k < s.size := by rw [Lib.size_eq]; exact hk
    have q := Lib.data_getElem? s k hk'
    rw [List.getElem?_eq_getElem hk] at q
    have := c k hk'
    rw [← e, Option.some.inj q]
    exact this
  · rintro ⟨a, b, c⟩
    exact ⟨a, b, fun k hk => c _ (List.mem_of_getElem? (Lib.data_getElem? s k hk))⟩
theorem up_first (s : ByteArray) : (∀ k (h : k < s.size), Fld.upN s[k].toNat = true) ∨ ∃ k, ∃ h : k < s.size, Fld.upN s[k].toNat = false ∧ ∀ j (hj : j < k), Fld.upN (s[j]'(by omega)).toNat = true := by
  have key : ∀ n, n ≤ s.size → (∀ k (h : k < s.size), k < n → Fld.upN s[k].toNat = true) ∨ ∃ k, ∃ h : k < s.size, Fld.upN s[k].toNat = false ∧ ∀ j (hj : j < k), Fld.upN (s[j]'(by omega)).toNat = true := by
    intro n
    induction n with
    | zero => exact fun _ => .inl fun k _ h => by omega
    | succ n ih =>
      intro hn
      rcases ih (by omega) with h | h
      · cases hp : Fld.upN (s[n]'(by omega)).toNat with
        | true =>
          refine .inl fun k hk hkn => ?_
          rcases Nat.lt_or_ge k n with a | a
          · exact h k hk a
          · obtain rfl : k = n := by omega
            exact hp
        | false => exact .inr ⟨n, by omega, hp, fun j hj => h j (by omega) hj⟩
      · exact .inr h
  rcases key s.size (Nat.le_refl _) with h | h
  · exact .inl fun k hk => h k hk hk
  · exact .inr h
theorem str_empty {s : ByteArray} (h : s.size = 0) : s = ⟨#[]⟩ := ByteArray.ext (by
  have : s.data.size = 0 := h
  exact Array.eq_empty_of_size_eq_zero this)
theorem str_some {s : ByteArray} (h : 1 ≤ s.size) : s.toList.isEmpty = false ∧ (s.toList = []) = False := by
  have hl : s.toList ≠ [] := by
    rw [ByteArray.toList_eq]
    intro e
    rw [Lib.size_eq, e] at h
    simp at h
  exact ⟨by simpa using hl, by simpa using hl⟩
theorem isName_yes (s : ByteArray) (h : NameB s) (w : World) :
    Calls Tryz.prog 168 #[.string s] w fun e w' => e = .returned (.bool true) ∧ w = w' := by
  obtain ⟨h1, h2, h3⟩ := h
  have H := Lib.hid h3
  obtain ⟨e1, e0⟩ := str_some h1
  have t9 : decide ((9 : Int) < (s.size : Int)) = false := by simp; omega
  clear h3
  go_enter Tryz.func168, Tryz.ntmps168
  go_wp2_with fail
  go_loop [13] (fun i => ∃ k : Nat, k ≤ s.size ∧ i = .int .i64 k) (fun i => s.size - (intOf i).toNat)
  case atStart => exact ⟨0, Nat.zero_le _, rfl⟩
  case round =>
    obtain ⟨k, hk, rfl⟩ := hrel
    by_cases hlt : k < s.size
    · have U := Lib.hid (fun w => upper_any s[k].toNat true (H.out k hlt) w)
      go_wp2_with fail
      refine (U.out _).mono ?_
      rintro e w1 ⟨rfl, rfl⟩
      go_wp2_with fail
      go_round
      case rel => exact ⟨k + 1, by omega, by go_num⟩
      case measure => simp [intOf]; omega
    · go_wp2_with fail
      go_ret
      exact ⟨rfl, rfl⟩
theorem isName_no (s : ByteArray) (hs : s.size ≤ 9223372036854775807) (h : ¬ NameB s) (w : World) :
    Calls Tryz.prog 168 #[.string s] w fun e w' => e = .returned (.bool false) ∧ w = w' := by
  by_cases h1 : s.size = 0
  · obtain rfl := str_empty h1
    clear h h1
    go_enter Tryz.func168, Tryz.ntmps168
    go_wp2_with fail
    go_ret
    exact ⟨rfl, rfl⟩
  · obtain ⟨e1, e0⟩ := str_some (show 1 ≤ s.size by omega)
    by_cases h2 : 9 < s.size
    · have t9 : decide ((9 : Int) < (s.size : Int)) = true := by simp; omega
      clear h h1 h2
      go_enter Tryz.func168, Tryz.ntmps168
      go_wp2_with fail
      go_ret
      exact ⟨rfl, rfl⟩
    · have t9 : decide ((9 : Int) < (s.size : Int)) = false := by simp; omega
      obtain ⟨k0, hk0, hp0, hl0⟩ := (up_first s).resolve_left (fun q => h ⟨by omega, by omega, q⟩)
      have HP := Lib.hid hp0
      have HL := Lib.hid hl0
      clear h hp0 hl0
      go_enter Tryz.func168, Tryz.ntmps168
      go_wp2_with fail
      go_loop [13] (fun i => ∃ k : Nat, k ≤ k0 ∧ i = .int .i64 k) (fun i => s.size - (intOf i).toNat)
      case atStart => exact ⟨0, Nat.zero_le _, rfl⟩
      case round =>
        obtain ⟨k, hk, rfl⟩ := hrel
        by_cases hlt : k < k0
        · have hk1 : k < s.size := by omega
          have U := Lib.hid (fun w => upper_any s[k].toNat true (HL.out k hlt) w)
          go_wp2_with fail
          refine (U.out _).mono ?_
          rintro e w1 ⟨rfl, rfl⟩
          go_wp2_with fail
          go_round
          case rel => exact ⟨k + 1, by omega, by go_num⟩
          case measure => simp [intOf]; omega
        · obtain rfl : k = k0 := by omega
          have U := Lib.hid (fun w => upper_any s[k].toNat false HP.out w)
          go_wp2_with fail
          refine (U.out _).mono ?_
          rintro e w1 ⟨rfl, rfl⟩
          go_wp2_with fail
          go_ret
          exact ⟨rfl, rfl⟩
end Go.Proofs.YtljackjcgfaanaaGreatDoor
/- Contracts of named, Check, Full and Name of package field: which kinds are valid. Contracts of Check, Full and Name of package field, for any kind. -/
/- Contracts of named, Check, Full and Name of package field: which kinds are valid. -/
namespace Go.Proofs.YtljackjcgfaanaaGreatDoor
open Go.ChangeShapes Go.WideShapes Go.RowKit Go.Shelf

/-- the first k names are names, and differ -/
def NmTo (xs : List ByteArray) (k : Nat) : Prop := ∀ i (h : i < xs.length), i < k → NameB xs[i] ∧ xs[i] ∉ xs.take i
def NamedOk (xs : List ByteArray) (n : Int) : Prop := xs = [] ∨ ((xs.length : Int) = n ∧ NmTo xs xs.length)
/-- which kinds are valid -/
def Valid (lo hi : Int) (xs : List ByteArray) (wk : Bool) : Prop := 0 ≤ lo ∧ lo ≤ hi ∧ hi ≤ 62 ∧ (wk = true → lo = 0 ∧ hi = 6) ∧ NamedOk xs (hi - lo + 1)
theorem nmTo_zero (xs : List ByteArray) : NmTo xs 0 := fun i _ h => by omega
theorem nmTo_succ {xs : List ByteArray} {k : Nat} (h : NmTo xs k) (hk : k < xs.length) (h1 : NameB xs[k]) (h2 : xs[k] ∉ xs.take k) : NmTo xs (k + 1) := fun i hi hik => by
  rcases Nat.lt_or_ge i k with a | a
  · exact h i hi a
  · obtain rfl : i = k := by omega
    exact ⟨h1, h2⟩
theorem nmTo_first (xs : List ByteArray) (h : ¬ NmTo xs xs.length) : ∃ k, ∃ hk : k < xs.length, NmTo xs k ∧ ¬ (NameB xs[k] ∧ xs[k] ∉ xs.take k) := by
  have key : ∀ n, n ≤ xs.length → NmTo xs n ∨ ∃ k, ∃ hk : k < xs.length, NmTo xs k ∧ ¬ (NameB xs[k] ∧ xs[k] ∉ xs.take k) := by
    intro n
    induction n with
    | zero => exact fun _ => .inl (nmTo_zero xs)
    | succ n ih =>
      intro hn
      rcases ih (by omega) with a | a
      · by_cases c : NameB (xs[n]'(by omega)) ∧ (xs[n]'(by omega)) ∉ xs.take n
        · exact .inl (nmTo_succ a (by omega) c.1 c.2)
        · exact .inr ⟨n, by omega, a, c⟩
      · exact .inr a
  exact (key xs.length (Nat.le_refl _)).resolve_left h
theorem has_iff (xs : List ByteArray) (k : Nat) (x : ByteArray) (b : Bool) (h : (b = true) ↔ x ∈ xs.take k) : Lib.containsS (xs.take k) x = b := by
  rw [Bool.eq_iff_iff, Lib.containsS_iff, h]
/-- Contains of the first k names -/
theorem contains_any (a : Option Addr) (len cap : Nat) (xs : List ByteArray) (k : Nat) (x : ByteArray) (b : Bool) (w : World) (hv : IsStrs w (.slice a len cap) xs) (hk : k < xs.length) (hl : xs.length ≤ 9223372036854775807) (h : (b = true) ↔ x ∈ xs.take k) :
    Calls Tryz.prog 169 #[.slice a k cap, .string x] w fun e w' => e = .returned (.bool b) ∧ w = w' := by
  obtain ⟨A, c, e, _, h2⟩ := hv
  cases e
  obtain ⟨bb, o, rfl, hb, hc⟩ := h2 (by omega)
  refine (Tryz.slices_Contains_string bb o k cap xs x w (by omega) (by omega) (fun j hj => ?_)).mono ?_
  · rw [hc j _ (List.getElem?_eq_getElem hj)]
    rw [List.getD_eq_getElem?_getD, List.getElem?_eq_getElem hj]
    rfl
  · rintro e w' ⟨rfl, rfl⟩
    exact ⟨ret_bool (has_iff xs k x b h), rfl⟩

theorem named_nil (lo hi : Int) (v : Value) (wk : Bool) (w : World) (hv : IsStrs w v []) :
    Calls Tryz.prog 157 #[.agg #[.int .i64 lo, .int .i64 hi, v, .bool wk]] w fun e w' => e = .returned (.bool true) ∧ Below w.heap.size w w' := by
  obtain ⟨A, cap, rfl, _, _⟩ := hv
  go_enter Tryz.func157, Tryz.ntmps157
  go_wp2
  go_ret
  exact ⟨rfl, (Below.refl _ _).alloc (Nat.le_refl _) _⟩
theorem named_len (lo hi : Int) (v : Value) (xs : List ByteArray) (wk : Bool) (w : World) (hv : IsStrs w v xs) (h1 : 0 ≤ lo) (h2 : lo ≤ hi) (h3 : hi ≤ 62) (h0 : 0 < xs.length) (hl : (xs.length : Int) ≠ hi - lo + 1) :
    Calls Tryz.prog 157 #[.agg #[.int .i64 lo, .int .i64 hi, v, .bool wk]] w fun e w' => e = .returned (.bool false) ∧ Below w.heap.size w w' := by
  obtain ⟨A, cap, rfl, _, _⟩ := hv
  have t0 : ((xs.length : Int) == 0) = false := by rw [beq_eq_false_iff_ne]; omega
  have t1 : ((xs.length : Int) != hi - lo + 1) = true := by rw [bne_iff_ne]; exact hl
  clear hl
  go_enter Tryz.func157, Tryz.ntmps157
  go_wp2
  go_ret
  exact ⟨rfl, (Below.refl _ _).alloc (Nat.le_refl _) _⟩
set_option maxHeartbeats 1000000 in
theorem named_yes (lo hi : Int) (v : Value) (xs : List ByteArray) (wk : Bool) (w : World) (hv : IsStrs w v xs) (h1 : 0 ≤ lo) (h2 : lo ≤ hi) (h3 : hi ≤ 62) (h0 : 0 < xs.length) (hl : (xs.length : Int) = hi - lo + 1) (hn : NmTo xs xs.length) :
    Calls Tryz.prog 157 #[.agg #[.int .i64 lo, .int .i64 hi, v, .bool wk]] w fun e w' => e = .returned (.bool true) ∧ Below w.heap.size w w' := by
  have hb0 : Below w.heap.size w (w.alloc (.cells #[.int .i64 lo, .int .i64 hi, v, .bool wk] 147)) := (Below.refl _ _).alloc (Nat.le_refl _) _
  have V0 := hv.below hb0
  obtain ⟨A, cap, rfl, _, _⟩ := hv
  have V := Lib.hid V0
  have HN := Lib.hid hn
  have t0 : ((xs.length : Int) == 0) = false := by rw [beq_eq_false_iff_ne]; omega
  have t1 : ((xs.length : Int) != hi - lo + 1) = false := by rw [bne_eq_false_iff_eq]; exact hl
  have hsz : xs.length ≤ 63 := by omega
  clear hl V0 hn
  go_enter Tryz.func157, Tryz.ntmps157
  go_wp2_with fail
  go_loop [22] (fun i => ∃ k : Nat, k ≤ xs.length ∧ i = .int .i64 k) (fun i => xs.length - (intOf i).toNat)
  case atStart => exact ⟨0, Nat.zero_le _, rfl⟩
  case round =>
    obtain ⟨k, hk, rfl⟩ := hrel
    by_cases hlt : k < xs.length
    · obtain ⟨b, o, e, _, g⟩ := V.out.at_ k hlt
      cases e
      obtain ⟨q1, q2⟩ := HN.out k hlt hlt
      have C := Lib.hid (fun w' (hv : IsStrs w' (.slice (some ⟨b, o, none⟩) xs.length cap) xs) => contains_any _ _ cap xs k xs[k] false w' hv hlt (by omega) (by simpa using q2))
      have I := Lib.hid (fun w => isName_yes xs[k] q1 w)
      obtain ⟨x, hx⟩ : ∃ x, xs[k] = x := ⟨_, rfl⟩
      rw [hx] at g C I
      clear q1 q2 hx
      go_wp2_with fail
      refine (I.out _).mono ?_
      rintro e w1 ⟨rfl, rfl⟩
      go_wp2_with fail
      refine (C.out _ V.out).mono ?_
      rintro e w1 ⟨rfl, rfl⟩
      go_wp2_with fail
      go_round
      case rel => exact ⟨k + 1, by omega, by go_num⟩
      case measure => simp [intOf]; omega
    · go_wp2_with fail
      go_ret
      exact ⟨rfl, hb0⟩
set_option maxHeartbeats 1000000 in
theorem named_no (lo hi : Int) (v : Value) (xs : List ByteArray) (wk : Bool) (w : World) (hv : IsStrs w v xs) (h1 : 0 ≤ lo) (h2 : lo ≤ hi) (h3 : hi ≤ 62) (h0 : 0 < xs.length) (hl : (xs.length : Int) = hi - lo + 1) (hn : ¬ NmTo xs xs.length) (hs : ∀ x ∈ xs, x.size ≤ 9223372036854775807) :
    Calls Tryz.prog 157 #[.agg #[.int .i64 lo, .int .i64 hi, v, .bool wk]] w fun e w' => e = .returned (.bool false) ∧ Below w.heap.size w w' := by
  have hb0 : Below w.heap.size w (w.alloc (.cells #[.int .i64 lo, .int .i64 hi, v, .bool wk] 147)) := (Below.refl _ _).alloc (Nat.le_refl _) _
  have V0 := hv.below hb0
  obtain ⟨A, cap, rfl, _, _⟩ := hv
  obtain ⟨k0, hk0, hb, hbad⟩ := nmTo_first xs hn
  have V := Lib.hid V0
  have HN := Lib.hid hb
  have HB := Lib.hid hbad
  have HS := Lib.hid hs
  have t0 : ((xs.length : Int) == 0) = false := by rw [beq_eq_false_iff_ne]; omega
  have t1 : ((xs.length : Int) != hi - lo + 1) = false := by rw [bne_eq_false_iff_eq]; exact hl
  have hsz : xs.length ≤ 63 := by omega
  clear hl V0 hn hb hbad hs
  go_enter Tryz.func157, Tryz.ntmps157
  go_wp2_with fail
  go_loop [22] (fun i => ∃ k : Nat, k ≤ k0 ∧ i = .int .i64 k) (fun i => xs.length - (intOf i).toNat)
  case atStart => exact ⟨0, Nat.zero_le _, rfl⟩
  case round =>
    obtain ⟨k, hk, rfl⟩ := hrel
    have hlt : k < xs.length := by omega
    obtain ⟨b, o, e, _, g⟩ := V.out.at_ k hlt
    cases e
    by_cases hk1 : k < k0
    · obtain ⟨q1, q2⟩ := HN.out k hlt hk1
      have C := Lib.hid (fun w' (hv : IsStrs w' (.slice (some ⟨b, o, none⟩) xs.length cap) xs) => contains_any _ _ cap xs k xs[k] false w' hv hlt (by omega) (by simpa using q2))
      have I := Lib.hid (fun w => isName_yes xs[k] q1 w)
      obtain ⟨x, hx⟩ : ∃ x, xs[k] = x := ⟨_, rfl⟩
      rw [hx] at g C I
      clear q1 q2 hx
      go_wp2_with fail
      refine (I.out _).mono ?_
      rintro e w1 ⟨rfl, rfl⟩
      go_wp2_with fail
      refine (C.out _ V.out).mono ?_
      rintro e w1 ⟨rfl, rfl⟩
      go_wp2_with fail
      go_round
      case rel => exact ⟨k + 1, by omega, by go_num⟩
      case measure => simp [intOf]; omega
    · obtain rfl : k = k0 := by omega
      by_cases q1 : NameB xs[k]
      · have q2 : xs[k] ∈ xs.take k := Classical.byContradiction fun q => HB.out ⟨q1, q⟩
        have C := Lib.hid (fun w' (hv : IsStrs w' (.slice (some ⟨b, o, none⟩) xs.length cap) xs) => contains_any _ _ cap xs k xs[k] true w' hv hlt (by omega) (by simpa using q2))
        have I := Lib.hid (fun w => isName_yes xs[k] q1 w)
        obtain ⟨x, hx⟩ : ∃ x, xs[k] = x := ⟨_, rfl⟩
        rw [hx] at g C I
        clear q1 q2 hx
        go_wp2_with fail
        refine (I.out _).mono ?_
        rintro e w1 ⟨rfl, rfl⟩
        go_wp2_with fail
        refine (C.out _ V.out).mono ?_
        rintro e w1 ⟨rfl, rfl⟩
        go_wp2_with fail
        go_ret
        exact ⟨rfl, hb0⟩
      · have I := Lib.hid (fun w => isName_no xs[k] (HS.out _ (List.getElem_mem hlt)) q1 w)
        obtain ⟨x, hx⟩ : ∃ x, xs[k] = x := ⟨_, rfl⟩
        rw [hx] at g I
        clear q1 hx
        go_wp2_with fail
        refine (I.out _).mono ?_
        rintro e w1 ⟨rfl, rfl⟩
        go_wp2_with fail
        go_ret
        exact ⟨rfl, hb0⟩
end Go.Proofs.YtljackjcgfaanaaGreatDoor
/- Contracts of Check, Full and Name of package field, for any kind. -/
namespace Go.Proofs.YtljackjcgfaanaaGreatDoor
open Go.ChangeShapes Go.WideShapes Go.RowKit Go.Shelf

theorem named_t (lo hi : Int) (v : Value) (xs : List ByteArray) (wk : Bool) (w : World) (hv : IsStrs w v xs) (h1 : 0 ≤ lo) (h2 : lo ≤ hi) (h3 : hi ≤ 62) (h : NamedOk xs (hi - lo + 1)) :
    Calls Tryz.prog 157 #[.agg #[.int .i64 lo, .int .i64 hi, v, .bool wk]] w fun e w' => e = .returned (.bool true) ∧ Below w.heap.size w w' := by
  rcases h with rfl | ⟨hl, hn⟩
  · exact named_nil lo hi v wk w hv
  · exact named_yes lo hi v xs wk w hv h1 h2 h3 (by omega) hl hn
theorem named_f (lo hi : Int) (v : Value) (xs : List ByteArray) (wk : Bool) (w : World) (hv : IsStrs w v xs) (h1 : 0 ≤ lo) (h2 : lo ≤ hi) (h3 : hi ≤ 62) (h : ¬ NamedOk xs (hi - lo + 1)) (hs : ∀ x ∈ xs, x.size ≤ 9223372036854775807) :
    Calls Tryz.prog 157 #[.agg #[.int .i64 lo, .int .i64 hi, v, .bool wk]] w fun e w' => e = .returned (.bool false) ∧ Below w.heap.size w w' := by
  have h0 : 0 < xs.length := by
    rcases Nat.eq_zero_or_pos xs.length with a | a
    · exact (h (.inl (List.length_eq_zero_iff.1 a))).elim
    · exact a
  by_cases hl : (xs.length : Int) = hi - lo + 1
  · exact named_no lo hi v xs wk w hv h1 h2 h3 h0 hl (fun q => h (.inr ⟨hl, q⟩)) hs
  · exact named_len lo hi v xs wk w hv h1 h2 h3 h0 hl
theorem spec_box (w : World) (lo hi : Int) (v : Value) (wk : Bool) : Below w.heap.size w (w.alloc (.cells #[.int .i64 lo, .int .i64 hi, v, .bool wk] 147)) := (Below.refl _ _).alloc (Nat.le_refl _) _
theorem box_below {w w1 : World} {o : Obj} (hb : Below (w.heap.size + 1) (w.alloc o) w1) : Below w.heap.size w w1 :=
  ((Below.refl _ w).alloc (Nat.le_refl _) o).trans (hb.mono (by simp))

set_option maxHeartbeats 1000000 in
theorem check_yes (lo hi : Int) (v : Value) (xs : List ByteArray) (wk : Bool) (w : World) (hv : IsStrs w v xs) (h : Valid lo hi xs wk) :
    Calls Tryz.prog 140 #[.agg #[.int .i64 lo, .int .i64 hi, v, .bool wk]] w fun e w' => e = .returned (.int .i64 0) ∧ Below w.heap.size w w' := by
  obtain ⟨h1, h2, h3, h4, h5⟩ := h
  have V0 := hv.below (spec_box w lo hi v wk)
  have C := Lib.hid (named_t lo hi v xs wk _ V0 h1 h2 h3 h5)
  have d1 : decide (lo < 0) = false := by simpa using h1
  have d2 : decide (hi < lo) = false := by simpa using h2
  have d3 : decide (62 < hi) = false := by simpa using h3
  obtain ⟨A, cap, rfl, _, _⟩ := hv
  cases wk with
  | true =>
    obtain ⟨rfl, rfl⟩ := h4 rfl
    clear V0 h5 h4 d1 d2 d3
    go_enter Tryz.func140, Tryz.ntmps140
    go_wp2_with fail
    refine C.out.mono ?_
    rintro e w1 ⟨rfl, hb⟩
    have HB := Lib.hid hb
    clear hb
    go_wp2_with fail
    go_ret
    exact ⟨rfl, box_below (by simpa using HB.out)⟩
  | false =>
    clear V0 h5 h4
    go_enter Tryz.func140, Tryz.ntmps140
    go_wp2_with fail
    refine C.out.mono ?_
    rintro e w1 ⟨rfl, hb⟩
    have HB := Lib.hid hb
    clear hb
    go_wp2_with fail
    go_ret
    exact ⟨rfl, box_below (by simpa using HB.out)⟩
set_option maxHeartbeats 1000000 in
theorem check_no (lo hi : Int) (v : Value) (xs : List ByteArray) (wk : Bool) (w : World) (hv : IsStrs w v xs) (h : ¬ Valid lo hi xs wk) (hs : ∀ x ∈ xs, x.size ≤ 9223372036854775807) :
    Calls Tryz.prog 140 #[.agg #[.int .i64 lo, .int .i64 hi, v, .bool wk]] w fun e w' => e = .returned (.int .i64 2) ∧ Below w.heap.size w w' := by
  have V0 := hv.below (spec_box w lo hi v wk)
  have B0 := Lib.hid (spec_box w lo hi v wk)
  by_cases h1 : lo < 0
  · have d1 : decide (lo < 0) = true := by simpa using h1
    obtain ⟨A, cap, rfl, _, _⟩ := hv
    clear V0 h h1
    go_enter Tryz.func140, Tryz.ntmps140
    go_wp2_with fail
    go_ret
    exact ⟨rfl, B0.out⟩
  have d1 : decide (lo < 0) = false := by simpa using h1
  by_cases h2 : hi < lo
  · have d2 : decide (hi < lo) = true := by simpa using h2
    obtain ⟨A, cap, rfl, _, _⟩ := hv
    clear V0 h h1 h2
    go_enter Tryz.func140, Tryz.ntmps140
    go_wp2_with fail
    go_ret
    exact ⟨rfl, B0.out⟩
  have d2 : decide (hi < lo) = false := by simpa using h2
  by_cases h3 : 62 < hi
  · have d3 : decide (62 < hi) = true := by simpa using h3
    obtain ⟨A, cap, rfl, _, _⟩ := hv
    clear V0 h h1 h2 h3
    go_enter Tryz.func140, Tryz.ntmps140
    go_wp2_with fail
    go_ret
    exact ⟨rfl, B0.out⟩
  have d3 : decide (62 < hi) = false := by simpa using h3
  by_cases h4 : wk = true ∧ ¬ (lo = 0 ∧ hi = 6)
  · obtain ⟨rfl, h5⟩ := h4
    obtain ⟨A, cap, rfl, _, _⟩ := hv
    by_cases h6 : lo = 0
    · subst h6
      have d4 : (hi != 6) = true := by rw [bne_iff_ne]; exact fun q => h5 ⟨rfl, q⟩
      clear V0 h h1 h5 d1
      go_enter Tryz.func140, Tryz.ntmps140
      go_wp2_with fail
      go_ret
      exact ⟨rfl, B0.out⟩
    · have d4 : (lo != 0) = true := by rw [bne_iff_ne]; exact h6
      clear V0 h h1 h5 h6
      go_enter Tryz.func140, Tryz.ntmps140
      go_wp2_with fail
      go_ret
      exact ⟨rfl, B0.out⟩
  have hn : ¬ NamedOk xs (hi - lo + 1) := fun q => h ⟨by omega, by omega, by omega, fun e => Classical.byContradiction fun k => h4 ⟨e, k⟩, q⟩
  have C := Lib.hid (named_f lo hi v xs wk _ V0 (by omega) (by omega) (by omega) hn hs)
  obtain ⟨A, cap, rfl, _, _⟩ := hv
  cases wk with
  | true =>
    obtain ⟨rfl, rfl⟩ : lo = 0 ∧ hi = 6 := Classical.byContradiction fun k => h4 ⟨rfl, k⟩
    clear V0 h h1 h2 h3 h4 hn d1 d2 d3
    go_enter Tryz.func140, Tryz.ntmps140
    go_wp2_with fail
    refine C.out.mono ?_
    rintro e w1 ⟨rfl, hb⟩
    have HB := Lib.hid hb
    clear hb
    go_wp2_with fail
    go_ret
    exact ⟨rfl, box_below (by simpa using HB.out)⟩
  | false =>
    clear V0 h h1 h2 h3 h4 hn
    go_enter Tryz.func140, Tryz.ntmps140
    go_wp2_with fail
    refine C.out.mono ?_
    rintro e w1 ⟨rfl, hb⟩
    have HB := Lib.hid hb
    clear hb
    go_wp2_with fail
    go_ret
    exact ⟨rfl, box_below (by simpa using HB.out)⟩
/-- the error of a kind -/
def ErrOf (lo hi : Int) (xs : List ByteArray) (wk : Bool) (e : Int) : Prop := (Valid lo hi xs wk ∧ e = 0) ∨ (¬ Valid lo hi xs wk ∧ e = 2)
theorem check_any (lo hi : Int) (v : Value) (xs : List ByteArray) (wk : Bool) (q : Int) (w : World) (hv : IsStrs w v xs) (hs : ∀ x ∈ xs, x.size ≤ 9223372036854775807) (h : ErrOf lo hi xs wk q) :
    Calls Tryz.prog 140 #[.agg #[.int .i64 lo, .int .i64 hi, v, .bool wk]] w fun e w' => e = .returned (.int .i64 q) ∧ Below w.heap.size w w' := by
  rcases h with ⟨h, rfl⟩ | ⟨h, rfl⟩
  · exact check_yes lo hi v xs wk w hv h
  · exact check_no lo hi v xs wk w hv h hs

/-- all numbers of a kind -/
def fullS (lo hi : Int) : Nat := Bit.rangeS lo.toNat hi.toNat 1
theorem full_yes (lo hi : Int) (v : Value) (xs : List ByteArray) (wk : Bool) (w : World) (hv : IsStrs w v xs) (h : Valid lo hi xs wk) :
    Calls Tryz.prog 126 #[.agg #[.int .i64 lo, .int .i64 hi, v, .bool wk]] w fun e w' => e = .returned (.tuple #[.int .u64 (fullS lo hi : Nat), .int .i64 0]) ∧ Below w.heap.size w w' := by
  have V0 := hv.below (spec_box w lo hi v wk)
  have C := Lib.hid (check_yes lo hi v xs wk _ V0 h)
  obtain ⟨A, cap, rfl, _, _⟩ := hv
  have hr : IsRange lo hi 1 (fullS lo hi) 0 := by
    obtain ⟨h1, h2, h3, _⟩ := h
    exact .inr (.inr ⟨lo.toNat, hi.toNat, 1, by omega, by omega, rfl, by omega, by omega, Nat.le_refl _, rfl, rfl⟩)
  have R := Lib.hid (fun w => range_any lo hi 1 _ 0 w hr)
  clear V0 h hr
  go_enter Tryz.func126, Tryz.ntmps126
  go_wp2_with fail
  refine C.out.mono ?_
  rintro e w1 ⟨rfl, hb⟩
  obtain ⟨hc, hf⟩ := kept hb
  have HB := Lib.hid hb
  clear hb
  go_wp2_with fail
  refine (R.out _).mono ?_
  rintro e w2 ⟨rfl, rfl⟩
  go_wp2_with fail
  go_ret2
  exact ⟨rfl, box_below (by simpa using HB.out)⟩

end Go.Proofs.YtljackjcgfaanaaGreatDoor
