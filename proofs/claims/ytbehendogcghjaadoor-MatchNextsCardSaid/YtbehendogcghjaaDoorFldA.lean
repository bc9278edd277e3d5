/- Contracts of upper, letter, digit and isName of package field; slices of strings. -/
import Derived.Lib.IndexBytes
import Derived.Test.YtbehendogcghjaaDoorMBitG
import Derived.Laws.EntriesVeiled
import Derived.RangeFuncNested
import Derived.RangeFuncCalls
import Derived.Laws.StructEq
import Derived.Deep.RegionLaw
import Derived.WalkSmall
import Derived.Test.YtbehendogcghjaaDoorMPlain
import Derived.SliceStrings
import Derived.SizedLaws
import Derived.Deep.QuietTactic
import Derived.BigQuiet
import Derived.IntWalk
namespace Go.Proofs.YtbehendogcghjaaDoor
open Go.ChangeShapes Go.WideShapes Go.RowKit Go.Shelf

theorem le_facts (a c : Nat) (b : Bool) (h : decide (a ≤ c) = b) : decide ((a : Int) ≤ (c : Int)) = b := by rw [← h, decide_eq_decide]; omega
theorem ge_facts (a c : Nat) (b : Bool) (h : decide (c ≤ a) = b) : decide ((c : Int) ≤ (a : Int)) = b := by rw [← h, decide_eq_decide]; omega
theorem upN_and (c : Nat) : Fld.upN c = (decide (65 ≤ c) && decide (c ≤ 90)) := by unfold Fld.upN; exact Bool.decide_and ..
theorem upper_any (c : Nat) (b : Bool) (h : Fld.upN c = b) (w : World) :
    Calls Tryd.prog 104 #[.int .u8 c] w fun e w' => e = .returned (.bool b) ∧ w = w' := by
  rw [upN_and] at h
  cases h1 : decide (65 ≤ c) with
  | false =>
    have g1 : decide ((65 : Int) ≤ (c : Int)) = _ := le_facts 65 c _ h1
    rw [h1, Bool.false_and] at h
    subst h
    go_enter Tryd.func104, Tryd.ntmps104
    go_wp2
    go_ret
    exact ⟨rfl, rfl⟩
  | true =>
    have g1 : decide ((65 : Int) ≤ (c : Int)) = _ := le_facts 65 c _ h1
    rw [h1, Bool.true_and] at h
    have g2 : decide ((c : Int) ≤ (90 : Int)) = _ := ge_facts 90 c _ h
    cases b
    all_goals
      go_enter Tryd.func104, Tryd.ntmps104
      go_wp2
      go_ret
      exact ⟨rfl, rfl⟩
/-- what lies below the mark reads as before -/
theorem kept {W w1 : World} (hb : Below W.heap.size W w1) : (∀ b o, b < W.heap.size → w1.cell? ⟨b, o, none⟩ = W.cell? ⟨b, o, none⟩) ∧ (∀ b o, b < W.heap.size → w1.frozen? ⟨b, o, none⟩ = W.frozen? ⟨b, o, none⟩) :=
  ⟨fun b o h => hb.cell (p := ⟨b, o, none⟩) h, fun b o h => hb.frozen (p := ⟨b, o, none⟩) h⟩

/-- a slice of these strings -/
def IsStrs (w : World) (v : Value) (xs : List ByteArray) : Prop :=
  ∃ A cap, v = .slice A xs.length cap ∧ xs.length ≤ cap ∧ (0 < xs.length → ∃ b o, A = some ⟨b, o, none⟩ ∧ b < w.heap.size ∧ ∀ (j : Nat) x, xs[j]? = some x → w.cell? ⟨b, o + j, none⟩ = some (.string x))
theorem IsStrs.below {w w' : World} {v : Value} {xs : List ByteArray} (h : IsStrs w v xs) (hb : Below w.heap.size w w') : IsStrs w' v xs := by
  obtain ⟨A, cap, rfl, h1, h2⟩ := h
  refine ⟨A, cap, rfl, h1, fun hp => ?_⟩
  obtain ⟨b, o, rfl, h3, h4⟩ := h2 hp
  exact ⟨b, o, rfl, Nat.lt_of_lt_of_le h3 hb.size, fun j x hx => (hb.cell (p := ⟨b, o + j, none⟩) h3).trans (h4 j x hx)⟩
theorem IsStrs.at_ {W : World} {a : Option Addr} {len cap : Nat} {xs : List ByteArray} (h : IsStrs W (.slice a len cap) xs) (k : Nat) (hk : k < xs.length) :
    ∃ b o, a = some ⟨b, o, none⟩ ∧ b < W.heap.size ∧ W.cell? ⟨b, o + k, none⟩ = some (.string xs[k]) := by
  obtain ⟨A, c, e, _, h2⟩ := h
  cases e
  obtain ⟨b, o, rfl, hb, hc⟩ := h2 (by omega)
  exact ⟨b, o, rfl, hb, hc k _ (List.getElem?_eq_getElem hk)⟩
/-- the bytes of strings -/
def bytesL (xs : List ByteArray) : List (List UInt8) := xs.map (·.data.toList)
theorem bytesL_len (xs : List ByteArray) : (bytesL xs).length = xs.length := by simp [bytesL]

/-- a name, as a kind can have it -/
def NameB (s : ByteArray) : Prop := 1 ≤ s.size ∧ s.size ≤ 9 ∧ ∀ k (h : k < s.size), Fld.upN s[k].toNat = true
theorem nameB_list (s : ByteArray) : NameB s ↔ 1 ≤ s.data.toList.length ∧ s.data.toList.length ≤ 9 ∧ ∀ c ∈ s.data.toList, Fld.isUp c = true := by
  unfold NameB
  rw [← Lib.size_eq]
  constructor
  · rintro ⟨a, b, c⟩
    refine ⟨a, b, fun x hx => ?_⟩
    obtain ⟨k, hk, e⟩ := List.getElem_of_mem hx
    have hk' : k < s.size := by rw [Lib.size_eq]; exact hk
    have q := Lib.data_getElem? s k hk'
    rw [List.getElem?_eq_getElem hk] at q
    have := c k hk'
    rw [← e, Option.some.inj q]
    exact this
  · rintro ⟨a, b, c⟩
    exact ⟨a, b, fun k hk => c _ (List.mem_of_getElem? (Lib.data_getElem? s k hk))⟩
theorem up_first (s : ByteArray) : (∀ k (h : k < s.size), Fld.upN s[k].toNat = true) ∨ ∃ k, ∃ h : k < s.size, Fld.upN s[k].toNat = false ∧ ∀ j (hj : j < k), Fld.upN (s[j]'(by omega)).toNat = true := by
  have key : ∀ n, n ≤ s.size → (∀ k (h : k < s.size), k < n → Fld.upN s[k].toNat = true) ∨ ∃ k, ∃ h : k < s.size, Fld.upN s[k].toNat = false ∧ ∀ j (hj : j < k), Fld.upN (s[j]'(by omega)).toNat = true := by
    intro n
    induction n with
    | zero => exact fun _ => .inl fun k _ h => by omega
    | succ n ih =>
      intro hn
      rcases ih (by omega) with h | h
      · cases hp : Fld.upN (s[n]'(by omega)).toNat with
        | true =>
          refine .inl fun k hk hkn => ?_
          rcases Nat.lt_or_ge k n with a | a
          · exact h k hk a
          · obtain rfl : k = n := by omega
            exact hp
        | false => exact .inr ⟨n, by omega, hp, fun j hj => h j (by omega) hj⟩
      · exact .inr h
  rcases key s.size (Nat.le_refl _) with h | h
  · exact .inl fun k hk => h k hk hk
  · exact .inr h
theorem str_empty {s : ByteArray} (h : s.size = 0) : s = ⟨#[]⟩ := ByteArray.ext (by
  have : s.data.size = 0 := h
  exact Array.eq_empty_of_size_eq_zero this)
theorem str_some {s : ByteArray} (h : 1 ≤ s.size) : s.toList.isEmpty = false ∧ (s.toList = []) = False := by
  have hl : s.toList ≠ [] := by
    rw [ByteArray.toList_eq]
    intro e
    rw [Lib.size_eq, e] at h
    simp at h
  exact ⟨by simpa using hl, by simpa using hl⟩
theorem isName_yes (s : ByteArray) (h : NameB s) (w : World) :
    Calls Tryd.prog 102 #[.string s] w fun e w' => e = .returned (.bool true) ∧ w = w' := by
  obtain ⟨h1, h2, h3⟩ := h
  have H := Lib.hid h3
  obtain ⟨e1, e0⟩ := str_some h1
  have t9 : decide ((9 : Int) < (s.size : Int)) = false := by simp; omega
  clear h3
  go_enter Tryd.func102, Tryd.ntmps102
  go_wp2_with fail
  go_loop [13] (fun i => ∃ k : Nat, k ≤ s.size ∧ i = .int .i64 k) (fun i => s.size - (intOf i).toNat)
  case atStart => exact ⟨0, Nat.zero_le _, rfl⟩
  case round =>
    obtain ⟨k, hk, rfl⟩ := hrel
    by_cases hlt : k < s.size
    · have U := Lib.hid (fun w => upper_any s[k].toNat true (H.out k hlt) w)
      go_wp2_with fail
      refine (U.out _).mono ?_
      rintro e w1 ⟨rfl, rfl⟩
      go_wp2_with fail
      go_round
      case rel => exact ⟨k + 1, by omega, by go_num⟩
      case measure => simp [intOf]; omega
    · go_wp2_with fail
      go_ret
      exact ⟨rfl, rfl⟩
theorem isName_no (s : ByteArray) (hs : s.size ≤ 9223372036854775807) (h : ¬ NameB s) (w : World) :
    Calls Tryd.prog 102 #[.string s] w fun e w' => e = .returned (.bool false) ∧ w = w' := by
  by_cases h1 : s.size = 0
  · obtain rfl := str_empty h1
    clear h h1
    go_enter Tryd.func102, Tryd.ntmps102
    go_wp2_with fail
    go_ret
    exact ⟨rfl, rfl⟩
  · obtain ⟨e1, e0⟩ := str_some (show 1 ≤ s.size by omega)
    by_cases h2 : 9 < s.size
    · have t9 : decide ((9 : Int) < (s.size : Int)) = true := by simp; omega
      clear h h1 h2
      go_enter Tryd.func102, Tryd.ntmps102
      go_wp2_with fail
      go_ret
      exact ⟨rfl, rfl⟩
    · have t9 : decide ((9 : Int) < (s.size : Int)) = false := by simp; omega
      obtain ⟨k0, hk0, hp0, hl0⟩ := (up_first s).resolve_left (fun q => h ⟨by omega, by omega, q⟩)
      have HP := Lib.hid hp0
      have HL := Lib.hid hl0
      clear h hp0 hl0
      go_enter Tryd.func102, Tryd.ntmps102
      go_wp2_with fail
      go_loop [13] (fun i => ∃ k : Nat, k ≤ k0 ∧ i = .int .i64 k) (fun i => s.size - (intOf i).toNat)
      case atStart => exact ⟨0, Nat.zero_le _, rfl⟩
      case round =>
        obtain ⟨k, hk, rfl⟩ := hrel
        by_cases hlt : k < k0
        · have hk1 : k < s.size := by omega
          have U := Lib.hid (fun w => upper_any s[k].toNat true (HL.out k hlt) w)
          go_wp2_with fail
          refine (U.out _).mono ?_
          rintro e w1 ⟨rfl, rfl⟩
          go_wp2_with fail
          go_round
          case rel => exact ⟨k + 1, by omega, by go_num⟩
          case measure => simp [intOf]; omega
        · obtain rfl : k = k0 := by omega
          have U := Lib.hid (fun w => upper_any s[k].toNat false HP.out w)
          go_wp2_with fail
          refine (U.out _).mono ?_
          rintro e w1 ⟨rfl, rfl⟩
          go_wp2_with fail
          go_ret
          exact ⟨rfl, rfl⟩
end Go.Proofs.YtbehendogcghjaaDoor
