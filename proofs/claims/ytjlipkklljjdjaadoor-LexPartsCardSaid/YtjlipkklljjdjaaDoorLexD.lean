/- Contracts of Cut, of package lex and of the document. -/
import Derived.Test.YtjlipkklljjdjaaDoorLexC
import Derived.Test.YtjlipkklljjdjaaDoorShelf
import Derived.Lib.IndexBytes
import Derived.Deep.QuietTactic
import Derived.BigQuiet
import Derived.IntWalk
namespace Go.Proofs.YtjlipkklljjdjaaDoor
open Go.ChangeShapes Go.RowKit Go.Shelf

theorem below_drewN (B : Nat) (w : World) (n : Nat) : Below B w (w.drewN n) := by
  induction n with
  | zero => exact Below.refl _ _
  | succ n ih => exact ih.drew
/-- the byte c stands at place k -/
def Here (s : ByteArray) (c k : Nat) : Prop := ∃ h : k < s.size, s[k].toNat = c
theorem here_first (s : ByteArray) (c : Nat) (n : Nat) : (∃ k, k < n ∧ Here s c k ∧ ∀ j, j < k → ¬ Here s c j) ∨ (∀ k, k < n → ¬ Here s c k) := by
  induction n with
  | zero => exact .inr fun k h => by omega
  | succ n ih =>
    rcases ih with ⟨k, h1, h2, h3⟩ | h
    · exact .inl ⟨k, by omega, h2, h3⟩
    · by_cases hn : Here s c n
      · exact .inl ⟨n, by omega, hn, fun j hj => h j hj⟩
      · refine .inr fun k hk => ?_
        rcases Nat.lt_or_ge k n with a | a
        · exact h k a
        · obtain rfl : k = n := by omega
          exact hn
theorem here_ex (s : ByteArray) (c : Nat) : (∃ k, Here s c k ∧ ∀ j, j < k → ¬ Here s c j) ∨ (∀ k, ¬ Here s c k) := by
  rcases here_first s c s.size with ⟨k, _, h2, h3⟩ | h
  · exact .inl ⟨k, h2, h3⟩
  · exact .inr fun k hk => h k hk.1 hk
theorem idx_yes : ∀ (l : List UInt8) (c : UInt8) (k : Nat), l[k]? = some c → (∀ j, j < k → l[j]? ≠ some c) → Lib.indexByte l c = k
  | [], _, _, h, _ => by simp at h
  | b :: l, c, 0, h, _ => by
    obtain rfl : b = c := by simpa using h
    simp [Lib.indexByte]
  | b :: l, c, k + 1, h, hno => by
    have ih := idx_yes l c k (by simpa using h) (fun j hj => by simpa using hno (j + 1) (by omega))
    have hb : (b == c) = false := by
      rw [beq_eq_false_iff_ne]
      have := hno 0 (by omega)
      simpa using this
    rw [Lib.indexByte, hb, ih]
    have : ((k : Int) == -1) = false := by rw [beq_eq_false_iff_ne]; omega
    simp [this]
theorem idx_no : ∀ (l : List UInt8) (c : UInt8), (∀ j : Nat, l[j]? ≠ some c) → Lib.indexByte l c = -1
  | [], _, _ => rfl
  | b :: l, c, hno => by
    have ih := idx_no l c (fun j => by simpa using hno (j + 1))
    have hb : (b == c) = false := by
      rw [beq_eq_false_iff_ne]
      have := hno 0
      simpa using this
    rw [Lib.indexByte, hb, ih]
    simp
theorem list_at (s : ByteArray) (c : Nat) (hc : c ≤ 255) (k : Nat) : s.data.toList[k]? = some c.toUInt8 ↔ Here s c k := by
  constructor
  · intro h
    by_cases hk : k < s.size
    · rw [Lib.data_getElem? s k hk] at h
      refine ⟨hk, ?_⟩
      have := congrArg UInt8.toNat (Option.some.inj h)
      rw [this]
      simp
      omega
    · rw [List.getElem?_eq_none (by rw [← Lib.size_eq]; omega)] at h
      cases h
  · rintro ⟨hk, h⟩
    rw [Lib.data_getElem? s k hk, ← h]
    simp
theorem index_yes {s : ByteArray} {c k : Nat} (hc : c ≤ 255) (h : Here s c k) (hno : ∀ j, j < k → ¬ Here s c j) : Lib.indexByte s.data.toList ((c : Int)).toNat.toUInt8 = k := by
  rw [Int.toNat_natCast]
  exact idx_yes _ _ _ ((list_at s c hc k).2 h) fun j hj e => hno j hj ((list_at s c hc j).1 e)
theorem index_no {s : ByteArray} {c : Nat} (hc : c ≤ 255) (hno : ∀ j, ¬ Here s c j) : Lib.indexByte s.data.toList ((c : Int)).toNat.toUInt8 = -1 := by
  rw [Int.toNat_natCast]
  exact idx_no _ _ fun j e => hno j ((list_at s c hc j).1 e)

theorem cut_yes (s : ByteArray) (c k : Nat) (hs : s.size ≤ 5000) (hc : c ≤ 255) (h : Here s c k) (hno : ∀ j, j < k → ¬ Here s c j) (w : World) :
    Calls Tryd.prog 20 #[.string s, .int .u8 c] w fun e w' => e = .returned (.tuple #[.string (s.extract 0 k), .string (s.extract (k + 1) s.size), .bool true]) ∧ Below w.heap.size w w' := by
  have I := Lib.hid (Tryd.strings_IndexByte s c w)
  rw [index_yes hc h hno] at I
  have hk := h.1
  clear h hno
  go_enter Tryd.func20, Tryd.ntmps20
  go_wp2_with fail
  refine I.out.mono ?_
  rintro e w1 ⟨rfl, rfl⟩
  go_wp2_with fail
  have hw : IntKind.i64.wrap ((k : Int) + 1) = (k : Int) + 1 := IntWalk.i64_in _ (by omega)
  have h0 : (0 : Int) ≤ (k : Int) + 1 := by omega
  have h1 : ((k : Int) + 1).toNat = k + 1 := by omega
  have h2 : ((k : Int) + 1) ≤ (s.size : Int) := by omega
  go_quiet (fail)
  go_wp2_with fail
  go_ret3
  exact ⟨rfl, below_drewN _ _ _⟩
theorem cut_no (s : ByteArray) (c : Nat) (hc : c ≤ 255) (hno : ∀ j, ¬ Here s c j) (w : World) :
    Calls Tryd.prog 20 #[.string s, .int .u8 c] w fun e w' => e = .returned (.tuple #[.string s, .string ⟨#[]⟩, .bool false]) ∧ Below w.heap.size w w' := by
  have I := Lib.hid (Tryd.strings_IndexByte s c w)
  rw [index_no hc hno] at I
  clear hno
  go_enter Tryd.func20, Tryd.ntmps20
  go_wp2_with fail
  refine I.out.mono ?_
  rintro e w1 ⟨rfl, rfl⟩
  go_wp2_with fail
  go_ret3
  exact ⟨rfl, Below.refl _ _⟩

theorem not_here {s : ByteArray} {c k : Nat} (h : ¬ Here s c k) (hk : k < s.size) : ((s[k].toNat : Int) == (c : Int)) = false ∧ (s[k].toNat == c) = false := by
  have : s[k].toNat ≠ c := fun e => h ⟨hk, e⟩
  refine ⟨?_, by simpa using this⟩
  rw [beq_eq_false_iff_ne]; omega
theorem is_here {s : ByteArray} {c k : Nat} (h : Here s c k) (hk : k < s.size) : ((s[k].toNat : Int) == (c : Int)) = true ∧ (s[k].toNat == c) = true := by
  obtain ⟨_, e⟩ := h
  exact ⟨by rw [beq_iff_eq]; omega, by rw [beq_iff_eq]; exact e⟩
theorem rcut_yes (s : ByteArray) (c k0 : Nat) (hs : s.size ≤ 5000) (h : Here s c k0) (hno : ∀ j, j < k0 → ¬ Here s c j) (w : World) :
    Calls Tryd.prog 21 #[.string s, .int .u8 c] w fun e w' => e = .returned (.tuple #[.string (s.extract 0 k0), .string (s.extract (k0 + 1) s.size), .bool true]) ∧ Below w.heap.size w w' := by
  have hk0 := h.1
  have HH := Lib.hid h
  have HN := Lib.hid hno
  clear h hno
  go_enter Tryd.func21, Tryd.ntmps21
  go_wp2_with fail
  go_loop [7] (fun i => ∃ k : Nat, k ≤ k0 ∧ i = .int .i64 k) (fun i => s.size - (intOf i).toNat)
  case atStart => exact ⟨0, Nat.zero_le _, rfl⟩
  case round =>
    obtain ⟨k, hk, rfl⟩ := hrel
    have hlt : k < s.size := by omega
    rcases Nat.lt_or_ge k k0 with a | a
    · obtain ⟨t1, t2⟩ := not_here (HN.out k a) hlt
      go_wp2_with fail
      go_round
      case rel => exact ⟨k + 1, by omega, by go_num⟩
      case measure => simp [intOf]; omega
    · obtain rfl : k = k0 := by omega
      obtain ⟨t1, t2⟩ := is_here HH.out hlt
      go_wp2_with fail
      have hw : IntKind.i64.wrap ((k : Int) + 1) = (k : Int) + 1 := IntWalk.i64_in _ (by omega)
      have h0 : (0 : Int) ≤ (k : Int) + 1 := by omega
      have h1 : ((k : Int) + 1).toNat = k + 1 := by omega
      have h2 : ((k : Int) + 1) ≤ (s.size : Int) := by omega
      go_quiet (fail)
      go_wp2_with fail
      go_ret3
      exact ⟨rfl, below_drewN _ _ _⟩
theorem rcut_no (s : ByteArray) (c : Nat) (hs : s.size ≤ 5000) (hno : ∀ j, ¬ Here s c j) (w : World) :
    Calls Tryd.prog 21 #[.string s, .int .u8 c] w fun e w' => e = .returned (.tuple #[.string s, .string ⟨#[]⟩, .bool false]) ∧ Below w.heap.size w w' := by
  have HN := Lib.hid hno
  clear hno
  go_enter Tryd.func21, Tryd.ntmps21
  go_wp2_with fail
  go_loop [7] (fun i => ∃ k : Nat, k ≤ s.size ∧ i = .int .i64 k) (fun i => s.size - (intOf i).toNat)
  case atStart => exact ⟨0, Nat.zero_le _, rfl⟩
  case round =>
    obtain ⟨k, hk, rfl⟩ := hrel
    by_cases hlt : k < s.size
    · obtain ⟨t1, t2⟩ := not_here (HN.out k) hlt
      go_wp2_with fail
      go_round
      case rel => exact ⟨k + 1, by omega, by go_num⟩
      case measure => simp [intOf]; omega
    · go_wp2_with fail
      go_ret3
      exact ⟨rfl, Below.refl _ _⟩
/-- what is before and behind the first byte c, of both -/
def CutOf (s : ByteArray) (c : Nat) (a b : ByteArray) (y : Bool) : Prop :=
  (∃ k, Here s c k ∧ (∀ j, j < k → ¬ Here s c j) ∧ a = s.extract 0 k ∧ b = s.extract (k + 1) s.size ∧ y = true) ∨ ((∀ k, ¬ Here s c k) ∧ a = s ∧ b = ⟨#[]⟩ ∧ y = false)
theorem cutOf_ex (s : ByteArray) (c : Nat) : ∃ a b y, CutOf s c a b y := by
  rcases here_ex s c with ⟨k, h1, h2⟩ | h
  · exact ⟨_, _, _, .inl ⟨k, h1, h2, rfl, rfl, rfl⟩⟩
  · exact ⟨_, _, _, .inr ⟨h, rfl, rfl, rfl⟩⟩
theorem cut_any (s : ByteArray) (c : Nat) (hs : s.size ≤ 5000) (hc : c ≤ 255) (a b : ByteArray) (y : Bool) (h : CutOf s c a b y) (w : World) :
    Calls Tryd.prog 20 #[.string s, .int .u8 c] w fun e w' => e = .returned (.tuple #[.string a, .string b, .bool y]) ∧ Below w.heap.size w w' := by
  rcases h with ⟨k, h1, h2, rfl, rfl, rfl⟩ | ⟨h, rfl, rfl, rfl⟩
  · exact cut_yes s c k hs hc h1 h2 w
  · exact cut_no _ c hc h w
theorem rcut_any (s : ByteArray) (c : Nat) (hs : s.size ≤ 5000) (a b : ByteArray) (y : Bool) (h : CutOf s c a b y) (w : World) :
    Calls Tryd.prog 21 #[.string s, .int .u8 c] w fun e w' => e = .returned (.tuple #[.string a, .string b, .bool y]) ∧ Below w.heap.size w w' := by
  rcases h with ⟨k, h1, h2, rfl, rfl, rfl⟩ | ⟨h, rfl, rfl, rfl⟩
  · exact rcut_yes s c k hs h1 h2 w
  · exact rcut_no _ c hs h w
end Go.Proofs.YtjlipkklljjdjaaDoor
