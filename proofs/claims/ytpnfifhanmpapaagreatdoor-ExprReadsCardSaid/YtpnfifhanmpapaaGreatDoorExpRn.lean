/- Contracts of strings.IndexRune, IndexAny, ContainsAny and TrimLeft at a blank and a tab, for texts of any bytes. -/
import Derived.Test.YtpnfifhanmpapaaGreatDoorMPlain
import Derived.Test.YtpnfifhanmpapaaGreatDoorExpSh
import Derived.Laws.RangeAny
import Derived.Laws.Runes
import Derived.Shelf.Strings.SlTrimAscii
import Derived.WalkMore
import Derived.Lib.OthersKept
namespace Go.Proofs.YtpnfifhanmpapaaGreatDoor
open Go.ChangeShapes Go.RowKit Go.Shelf

theorem below_drewR (B : Nat) (w : World) (n : Nat) : Below B w (w.drewN n) := ⟨rfl, rfl, rfl, Nat.le_refl _, fun _ _ => rfl⟩
theorem idx_no : ∀ (l : List UInt8) (c : UInt8), (∀ j : Nat, l[j]? ≠ some c) → Lib.indexByte l c = -1
  | [], _, _ => rfl
  | b :: l, c, hno => by
    have ih := idx_no l c (fun j => by simpa using hno (j + 1))
    have hb : (b == c) = false := by
      rw [beq_eq_false_iff_ne]
      have := hno 0
      simpa using this
    rw [Lib.indexByte, hb, ih]
    simp
set_option maxRecDepth 1000000 in
set_option maxHeartbeats 2000000 in
theorem rune_err (w : World) :
    Calls Tryz.prog 99 #[.string ⟨#[32, 9]⟩, .int .i32 65533] w fun e w' => e = .returned (.int .i64 (-1)) ∧ Below w.heap.size w w' := by
  have n0 : ∀ ty, (Instr.next (.pointer (some ⟨w.heap.size, 0, none⟩)) true ty).run Tryz.prog (w.iter ⟨#[32, 9]⟩ 0) = .ok (.tuple #[.bool true, .int .i64 0, .int .i32 32]) (w.iter ⟨#[32, 9]⟩ 1) := fun ty => run_next_ascii w ⟨#[32, 9]⟩ 0 ty (by decide) (by decide)
  have n1 : ∀ ty, (Instr.next (.pointer (some ⟨w.heap.size, 0, none⟩)) true ty).run Tryz.prog (w.iter ⟨#[32, 9]⟩ 1) = .ok (.tuple #[.bool true, .int .i64 1, .int .i32 9]) (w.iter ⟨#[32, 9]⟩ 2) := fun ty => run_next_ascii w ⟨#[32, 9]⟩ 1 ty (by decide) (by decide)
  have n2 : ∀ ty, (Instr.next (.pointer (some ⟨w.heap.size, 0, none⟩)) true ty).run Tryz.prog (w.iter ⟨#[32, 9]⟩ 2) = .ok (.tuple #[.bool false]) (w.iter ⟨#[32, 9]⟩ 2) := fun ty => run_next_end w ⟨#[32, 9]⟩ 2 ty (by decide)
  go_enter Tryz.func99, Tryz.ntmps99
  go_wp2_with fail
  refine wp_loop_rounds 4 ?_
  rw [rounds_succ]
  go_wp2_with fail
  rw [rounds_succ]
  go_wp2_with fail
  rw [rounds_succ]
  go_wp2_with fail
  go_ret
  exact ⟨rfl, (Below.refl _ _).alloc (Nat.le_refl _) _⟩

set_option maxRecDepth 1000000 in
set_option maxHeartbeats 2000000 in
theorem rune_valid (r : Int) (h : 128 ≤ r) (h1 : r ≠ 65533) (h2 : r ≤ 1114111) (hv : Utf8.valid r = true) (w : World) :
    Calls Tryz.prog 99 #[.string ⟨#[32, 9]⟩, .int .i32 r] w fun e w' => e = .returned (.int .i64 (-1)) ∧ Below w.heap.size w w' := by
  obtain ⟨e2, e4, eb⟩ := encode_facts r hv h
  have V := fun w => Tryz.utf8_ValidRune r w
  rw [show Lib.validRune r = true from (validRune_eq r).symm.trans hv] at V
  have hq : (r == 65533) = false := by rw [beq_eq_false_iff_ne]; exact h1
  obtain ⟨E, hE⟩ : ∃ E, Utf8.encode r = E := ⟨_, rfl⟩
  rw [hE] at e2 e4 eb
  have hcv : ∀ w, (convert 21 9 (.int .i32 r)).run Tryz.prog w = .ok (.string E) w := fun w => by rw [run_convert_int_string w _ _ .i32 r (by kernel_rfl) (by kernel_rfl), hE]
  clear hE
  have HV := Lib.hid V
  clear V hv
  by_cases hs : E.size = 2
  · have hl : 128 ≤ (E[1]'(by omega)).toNat := by
      have := eb (by omega)
      simpa [hs] using this
    obtain ⟨x, hx⟩ : ∃ x : UInt8, E[1]'(by omega) = x := ⟨_, rfl⟩
    rw [hx] at hl
    have hy : (⟨#[32, 9]⟩ : ByteArray)[1]'(by decide) = 9 := rfl
    have hw2 : IntKind.i64.wrap 2 = 2 := by decide
    have hx9 : ((9 : Int) != (x.toNat : Int)) = true := by rw [bne_iff_ne]; omega
    have I := Lib.hid (show ∀ w, Calls Tryz.prog 127 #[.string ByteArray.empty, .int .u8 (x.toNat : Int)] w fun e w' => e = .returned (.int .i64 (-1)) ∧ w' = w from fun w => Tryz.strings_IndexByte ByteArray.empty (x.toNat : Int) w)
    clear eb
    go_enter Tryz.func99, Tryz.ntmps99
    go_wp2_with fail
    refine (HV.out _).mono ?_
    rintro e w1 ⟨rfl, rfl⟩
    go_wp2_with fail
    go_step3
    go_wp2_with fail
    refine wp_loop_rounds 2 ?_
    rw [rounds_succ]
    go_wp2_with fail
    go_step3
    go_wp2_with fail
    go_quiet (fail)
    go_wp2_with fail
    go_quiet (exact (I.out _).mono fun _ _ h => ⟨h.1, _, h.2⟩)
    go_wp2_with fail
    rw [Exit.noGoto_ret]
    simp only [Exit.inBlock, Exit.then, Exit.noGoto]
    go_ret
    exact ⟨rfl, below_drewR _ _ _⟩
  · obtain ⟨n, hn⟩ : ∃ n, E.size = n + 1 := ⟨E.size - 1, by omega⟩
    have ht : decide ((E.size : Int) - 1 < 2) = false := by rw [decide_eq_false_iff_not]; omega
    clear eb
    go_enter Tryz.func99, Tryz.ntmps99
    go_wp2_with fail
    refine (HV.out _).mono ?_
    rintro e w1 ⟨rfl, rfl⟩
    go_wp2_with fail
    go_step3
    go_wp2_with fail
    refine wp_loop_rounds 2 ?_
    rw [rounds_succ]
    go_wp2_with fail
    rw [Exit.noGoto_ret]
    go_ret
    exact ⟨rfl, Below.refl _ _⟩

theorem decode_valid (s : ByteArray) (pos : Nat) : Utf8.valid ((Utf8.decode s pos).1 : Int) = true := by
  have hb : ∀ k, (s.get! (pos + k)).toNat < 256 := fun k => (s.get! (pos + k)).toNat_lt
  have h0 := hb 0; have h1 := hb 1; have h2 := hb 2; have h3 := hb 3
  simp only [Utf8.decode]
  repeat' split
  all_goals simp_all [Utf8.runeError, Utf8.valid]
  all_goals omega
theorem decode_more (s : ByteArray) (pos : Nat) : 1 ≤ (Utf8.decode s pos).2 := by
  simp only [Utf8.decode]
  repeat' split
  all_goals simp
theorem decode_not (s : ByteArray) (hno : ∀ (j : Nat) b, s.data.toList[j]? = some b → b ≠ 32 ∧ b ≠ 9) (i : Nat) (h : i < s.size) : (Utf8.decode s i).1 ≠ 32 ∧ (Utf8.decode s i).1 ≠ 9 := by
  by_cases ha : (s[i]'h).toNat < 128
  · rw [decode_ascii s i h ha]
    obtain ⟨h1, h2⟩ := hno i _ (Lib.data_getElem? s i h)
    constructor
    · intro e
      exact h1 (UInt8.toNat_inj.1 e)
    · intro e
      exact h2 (UInt8.toNat_inj.1 e)
  · have := (decode_high s i h (by omega)).1
    omega
theorem rune_no (r : Nat) (h1 : r ≠ 32) (h2 : r ≠ 9) (hv : Utf8.valid (r : Int) = true) (w : World) :
    Calls Tryz.prog 99 #[.string ⟨#[32, 9]⟩, .int .i32 r] w fun e w' => e = .returned (.int .i64 (-1)) ∧ Below w.heap.size w w' := by
  by_cases ha : r < 128
  · refine (Tryz.strings_IndexRune_ascii ⟨#[32, 9]⟩ r w (by omega) (by omega)).mono ?_
    rintro e w' ⟨rfl, rfl⟩
    refine ⟨?_, Below.refl _ _⟩
    rw [idx_no]
    intro j e
    have hr : ((r : Int)).toNat.toUInt8 = r.toUInt8 := by rw [Int.toNat_natCast]
    rw [hr] at e
    have e' := congrArg (Option.map UInt8.toNat) e
    have hm : (r.toUInt8).toNat = r := by simp; omega
    match j, e' with
    | 0, e' => simp at e'; omega
    | 1, e' => simp at e'; omega
    | j + 2, e' => simp at e'
  · by_cases he : r = 65533
    · subst he
      exact rune_err w
    · have hle : r ≤ 1114111 := by
        simp only [Utf8.valid, Bool.or_eq_true, Bool.and_eq_true, decide_eq_true_eq] at hv
        omega
      exact rune_valid r (by omega) (by omega) (by omega) hv w

set_option maxRecDepth 1000000 in
set_option maxHeartbeats 4000000 in
theorem any_short (s : ByteArray) (h8 : s.size ≤ 8) (hno : ∀ (j : Nat) b, s.data.toList[j]? = some b → b ≠ 32 ∧ b ≠ 9) (w : World) :
    Calls Tryz.prog 67 #[.string s, .string ⟨#[32, 9]⟩] w fun e w' => e = .returned (.int .i64 (-1)) ∧ Below w.heap.size w w' := by
  have HN := Lib.hid hno
  clear hno
  have h8z : ¬ (8 : Int) < (s.size : Int) := by omega
  go_enter Tryz.func67, Tryz.ntmps67
  go_wp2
  go_loopg [9, 10] s.size (fun g _ _ wx => ∃ i : Nat, s.size ≤ i + g ∧ wx.heap[w.heap.size]? = some (.stringIter s i) ∧ Below w.heap.size w wx)
  case atStart => exact ⟨0, by omega, World.iter_heap w s 0, (Below.refl _ _).alloc (Nat.le_refl _) _⟩
  case round =>
    obtain ⟨i, hig, hit, hb⟩ := hrel
    have HB := Lib.hid hb
    clear hb
    by_cases hi : i < s.size
    · obtain ⟨h1, h2⟩ := decode_not s HN.out i hi
      have hv := decode_valid s i
      have hm := decode_more s i
      have hnx := fun ty => Lib.run_next_any_at (P := Tryz.prog) _ _ s i ty hit hi
      generalize hr : (Utf8.decode s i).1 = r at *
      generalize hq : (Utf8.decode s i).2 = q at *
      have hX := Lib.iterAt_heap _ _ s i (i + q) hit
      have hY := Lib.below_iterAt HB.out (Nat.le_refl _) s (i + q)
      have HR := Lib.hid (fun w => rune_no r h1 h2 hv w)
      clear hv hr hq
      go_wp2_with fail
      refine (HR.out _).mono ?_
      rintro e w2 ⟨rfl, hb2⟩
      have HC := Lib.hid hb2
      clear hb2
      go_wp2_with fail
      go_roundg (gk - 1)
      case measure => omega
      case rel => exact ⟨i + q, by omega, by rw [HC.out.block _ (by rw [Lib.iterAt_size]; exact (Array.getElem?_eq_some_iff.1 hit).1)]; exact hX, hY.trans (HC.out.mono hY.size)⟩
    · have hnx := fun ty => Lib.run_next_end_at (P := Tryz.prog) _ _ s i ty hit hi
      go_wp2
      go_ret
      exact ⟨rfl, HB.out⟩

theorem any_all (s : ByteArray) (hs : s.size ≤ 100000) (hno : ∀ (j : Nat) b, s.data.toList[j]? = some b → b ≠ 32 ∧ b ≠ 9) (w : World) :
    Calls Tryz.prog 67 #[.string s, .string ⟨#[32, 9]⟩] w fun e w' => e = .returned (.int .i64 (-1)) ∧ Below w.heap.size w w' := by
  by_cases h8 : s.size ≤ 8
  · exact any_short s h8 hno w
  · refine (Tryz.strings_IndexAny_long (zero_of_info (n := 256) (by kernel_rfl)).1 s ⟨#[32, 9]⟩ w (by decide) (by omega) (by omega) (by decide) (ascii_of_all (by decide))).mono ?_
    rintro e w' ⟨rfl, rfl⟩
    refine ⟨?_, ((Below.refl _ _).alloc (Nat.le_refl _) _).alloc (by simp) _⟩
    rw [Lib.indexAny_none]
    intro j b _ hb
    obtain ⟨h1, h2⟩ := hno j b hb
    rw [← Bool.not_eq_true]
    intro hc
    simp at hc
    rcases hc with hc | hc
    · exact h1 hc
    · exact h2 hc
set_option maxRecDepth 1000000 in
theorem contains_none (s : ByteArray) (hs : s.size ≤ 100000) (hno : ∀ (j : Nat) b, s.data.toList[j]? = some b → b ≠ 32 ∧ b ≠ 9) (w : World) :
    Calls Tryz.prog 35 #[.string s, .string ⟨#[32, 9]⟩] w fun e w' => e = .returned (.bool false) ∧ Below w.heap.size w w' := by
  have A := Lib.hid (any_all s hs hno)
  clear hno
  go_enter Tryz.func35, Tryz.ntmps35
  go_wp2_with fail
  refine (A.out _).mono ?_
  rintro e w1 ⟨rfl, hb⟩
  have HB := Lib.hid hb
  clear hb
  go_wp2_with fail
  go_ret
  exact ⟨rfl, HB.out⟩
/-! a text that has a blank, the first at f -/
theorem decode_cont (s : ByteArray) (i k : Nat) (h1 : 1 ≤ k) (hk : k < (Utf8.decode s i).2) : 128 ≤ (s.get! (i + k)).toNat := by
  simp only [Utf8.decode] at hk
  repeat' split at hk
  all_goals simp only at hk
  all_goals try omega
  all_goals rename_i c _
  all_goals simp only [Bool.and_eq_true, decide_eq_true_eq, beq_iff_eq] at c
  · obtain rfl : k = 1 := by omega
    omega
  · rcases (show k = 1 ∨ k = 2 by omega) with rfl | rfl <;> omega
  · rcases (show k = 1 ∨ k = 2 ∨ k = 3 by omega) with rfl | rfl | rfl <;> omega
theorem decode_within (s : ByteArray) (i f : Nat) (hi : i < f) (hf : f < s.size) (hb : (s[f]'hf).toNat < 128) : i + (Utf8.decode s i).2 ≤ f := by
  apply Classical.byContradiction
  intro c
  have q := decode_cont s i (f - i) (by omega) (by omega)
  have e : i + (f - i) = f := by omega
  rw [e] at q
  have g : s.get! f = s[f]'hf := by
    show s.get! f = _
    simp [ByteArray.get!, getElem!_pos, hf]
    rfl
  rw [g] at q
  omega
theorem decode_not' (s : ByteArray) (i : Nat) (h : i < s.size) (h1 : s[i]'h ≠ 32) (h2 : s[i]'h ≠ 9) : (Utf8.decode s i).1 ≠ 32 ∧ (Utf8.decode s i).1 ≠ 9 := by
  by_cases ha : (s[i]'h).toNat < 128
  · rw [decode_ascii s i h ha]
    constructor
    · intro e
      exact h1 (UInt8.toNat_inj.1 e)
    · intro e
      exact h2 (UInt8.toNat_inj.1 e)
  · have := (decode_high s i h (by omega)).1
    omega
theorem rune_hit (r : Nat) (h : r = 32 ∨ r = 9) : ∃ k : Nat, ∀ w,
    Calls Tryz.prog 99 #[.string ⟨#[32, 9]⟩, .int .i32 r] w fun e w' => e = .returned (.int .i64 k) ∧ Below w.heap.size w w' := by
  rcases h with rfl | rfl
  · refine ⟨0, fun w => (Tryz.strings_IndexRune_ascii ⟨#[32, 9]⟩ (32 : Nat) w (by decide) (by decide)).mono ?_⟩
    rintro e w' ⟨rfl, rfl⟩
    exact ⟨rfl, Below.refl _ _⟩
  · refine ⟨1, fun w => (Tryz.strings_IndexRune_ascii ⟨#[32, 9]⟩ (9 : Nat) w (by decide) (by decide)).mono ?_⟩
    rintro e w' ⟨rfl, rfl⟩
    exact ⟨rfl, Below.refl _ _⟩
/-- f is the place of the first blank -/
structure BlAt (s : ByteArray) (f : Nat) : Prop where
  lt : f < s.size
  is : s[f] = 32 ∨ s[f] = 9
  no : ∀ j (h : j < f), s[j] ≠ 32 ∧ s[j] ≠ 9

set_option maxRecDepth 1000000 in
set_option maxHeartbeats 4000000 in
theorem any_short_at (s : ByteArray) (h8 : s.size ≤ 8) (f : Nat) (H : BlAt s f) (w : World) :
    Calls Tryz.prog 67 #[.string s, .string ⟨#[32, 9]⟩] w fun e w' => e = .returned (.int .i64 f) ∧ Below w.heap.size w w' := by
  have HN := Lib.hid H
  have hf := H.lt
  have h8z : ¬ (8 : Int) < (s.size : Int) := by omega
  clear H
  go_enter Tryz.func67, Tryz.ntmps67
  go_wp2
  go_loopg [9, 10] s.size (fun g _ _ wx => ∃ i : Nat, i ≤ f ∧ s.size ≤ i + g ∧ wx.heap[w.heap.size]? = some (.stringIter s i) ∧ Below w.heap.size w wx)
  case atStart => exact ⟨0, Nat.zero_le _, by omega, World.iter_heap w s 0, (Below.refl _ _).alloc (Nat.le_refl _) _⟩
  case round =>
    obtain ⟨i, hif, hig, hit, hb⟩ := hrel
    have HB := Lib.hid hb
    clear hb
    have hi : i < s.size := by omega
    have hnx := fun ty => Lib.run_next_any_at (P := Tryz.prog) _ _ s i ty hit hi
    by_cases hlt : i < f
    · obtain ⟨h1, h2⟩ := decode_not' s i hi (HN.out.no i hlt).1 (HN.out.no i hlt).2
      have hv := decode_valid s i
      have hm := decode_more s i
      have hw := decode_within s i f hlt hf (by rcases HN.out.is with e | e <;> rw [e] <;> decide)
      generalize hr : (Utf8.decode s i).1 = r at *
      generalize hq : (Utf8.decode s i).2 = q at *
      have hX := Lib.iterAt_heap _ _ s i (i + q) hit
      have hY := Lib.below_iterAt HB.out (Nat.le_refl _) s (i + q)
      have HR := Lib.hid (fun w => rune_no r h1 h2 hv w)
      clear hv hr hq
      go_wp2_with fail
      refine (HR.out _).mono ?_
      rintro e w2 ⟨rfl, hb2⟩
      have HC := Lib.hid hb2
      clear hb2
      go_wp2_with fail
      go_roundg (gk - 1)
      case measure => omega
      case rel => exact ⟨i + q, by omega, by omega, by rw [HC.out.block _ (by rw [Lib.iterAt_size]; exact (Array.getElem?_eq_some_iff.1 hit).1)]; exact hX, hY.trans (HC.out.mono hY.size)⟩
    · obtain rfl : i = f := by omega
      have ha : (s[i]'hi).toNat < 128 := by rcases HN.out.is with e | e <;> rw [e] <;> decide
      have hd := decode_ascii s i hi ha
      have hr : (s[i]'hi).toNat = 32 ∨ (s[i]'hi).toNat = 9 := by rcases HN.out.is with e | e <;> rw [e] <;> simp
      rw [hd] at hnx
      generalize (s[i]'hi).toNat = r at *
      have hX := Lib.iterAt_heap _ _ s i (i + 1) hit
      have hY := Lib.below_iterAt HB.out (Nat.le_refl _) s (i + 1)
      obtain ⟨k, hk⟩ := rune_hit r hr
      have HR := Lib.hid hk
      clear hr hd ha hk
      go_wp2_with fail
      refine (HR.out _).mono ?_
      rintro e w2 ⟨rfl, hb2⟩
      have HC := Lib.hid hb2
      have k0 : (0 : Int) ≤ (k : Int) := by omega
      clear hb2
      go_wp2_with fail
      go_ret
      exact ⟨rfl, hY.trans (HC.out.mono hY.size)⟩

theorem any_at (s : ByteArray) (hs : s.size ≤ 100000) (f : Nat) (H : BlAt s f) (w : World) :
    Calls Tryz.prog 67 #[.string s, .string ⟨#[32, 9]⟩] w fun e w' => e = .returned (.int .i64 f) ∧ Below w.heap.size w w' := by
  by_cases h8 : s.size ≤ 8
  · exact any_short_at s h8 f H w
  · refine (Tryz.strings_IndexAny_long (zero_of_info (n := 256) (by kernel_rfl)).1 s ⟨#[32, 9]⟩ w (by decide) (by omega) (by omega) (by decide) (ascii_of_all (by decide))).mono ?_
    rintro e w' ⟨rfl, rfl⟩
    refine ⟨?_, ((Below.refl _ _).alloc (Nat.le_refl _) _).alloc (by simp) _⟩
    have hx := Lib.data_getElem? s f H.lt
    rw [Lib.indexAny_hit (i := f) (x := s[f]'H.lt) ?_ hx ?_]
    · intro j b hj hb
      have hjs : j < s.size := by have := H.lt; omega
      rw [Lib.data_getElem? s j hjs] at hb
      obtain rfl := Option.some.inj hb
      obtain ⟨h1, h2⟩ := H.no j hj
      rw [← Bool.not_eq_true]
      intro hc
      simp at hc
      rcases hc with hc | hc
      · exact h1 hc
      · exact h2 hc
    · rcases H.is with e | e <;> rw [e] <;> rfl
theorem drop_all (p : UInt8 → Bool) : ∀ l : List UInt8, (∀ b ∈ l, p b = true) → l.dropWhile p = []
  | [], _ => rfl
  | a :: l, h => by
    rw [List.dropWhile_cons, if_pos (h a (List.mem_cons_self ..))]
    exact drop_all p l fun b hb => h b (List.mem_cons_of_mem _ hb)

/-! blanks at the head of a text -/
theorem isBl_iff (c : UInt8) : Exp.isBl c = true ↔ c = 32 ∨ c = 9 := by simp [Exp.isBl]
theorem isBl_not (c : UInt8) : Exp.isBl c = false ↔ c ≠ 32 ∧ c ≠ 9 := by simp [Exp.isBl]
/-- the text without the blanks at its head -/
def trimL (s : ByteArray) : ByteArray := ⟨(s.data.toList.dropWhile Exp.isBl).toArray⟩
theorem trimL_list (s : ByteArray) : (trimL s).data.toList = s.data.toList.dropWhile Exp.isBl := rfl
theorem trim_left (s : ByteArray) (w : World) :
    Calls Tryz.prog 112 #[.string s, .string ⟨#[32, 9]⟩] w fun e w' => e = .returned (.string (trimL s)) ∧ Below w.heap.size w w' := by
  refine (Any.strings_TrimLeft_laid Tryz.lays161 (by kernel_rfl) s ⟨#[32, 9]⟩ w (by decide) (ascii_of_all (by decide))).mono ?_
  rintro e w' ⟨rfl, hw⟩
  refine ⟨?_, hw⟩
  have e : (fun c => (⟨#[32, 9]⟩ : ByteArray).data.toList.contains c) = Exp.isBl := by
    funext c
    rw [Bool.eq_iff_iff, isBl_iff]
    simp
  unfold trimL Lib.trimLeftS
  rw [e]
/-- a text has a blank or none -/
theorem bl_or (s : ByteArray) : (∀ (j : Nat) b, s.data.toList[j]? = some b → b ≠ 32 ∧ b ≠ 9) ∨ ∃ f, BlAt s f := by
  cases h : s.data.toList.findIdx? Exp.isBl with
  | none =>
    left
    intro j b hb
    rw [List.findIdx?_eq_none_iff] at h
    exact (isBl_not b).1 (h b (List.mem_of_getElem? hb))
  | some f =>
    right
    rw [List.findIdx?_eq_some_iff_getElem] at h
    obtain ⟨h1, h2, h3⟩ := h
    have hf : f < s.size := by rw [Lib.size_eq]; exact h1
    refine ⟨f, hf, ?_, fun j hj => ?_⟩
    · have e := Lib.data_getElem? s f hf
      rw [List.getElem?_eq_getElem h1] at e
      rw [← Option.some.inj e]
      exact (isBl_iff _).1 h2
    · have e := Lib.data_getElem? s j (by omega)
      rw [List.getElem?_eq_getElem (by omega)] at e
      rw [← Option.some.inj e]
      exact (isBl_not _).1 (by simpa using h3 j hj)
theorem bl_take {s : ByteArray} {f : Nat} (h : BlAt s f) : (∀ c ∈ s.data.toList.take f, Exp.isBl c = false) ∧ ∃ c t, s.data.toList.drop f = c :: t ∧ Exp.isBl c = true := by
  have hf := h.lt
  have hl : f < s.data.toList.length := by rw [← Lib.size_eq]; exact hf
  refine ⟨fun c hc => ?_, s.data.toList[f], s.data.toList.drop (f + 1), List.drop_eq_getElem_cons hl, ?_⟩
  · obtain ⟨j, hj, rfl⟩ := List.mem_take_iff_getElem.1 hc
    have e := Lib.data_getElem? s j (by omega)
    rw [List.getElem?_eq_getElem (by omega)] at e
    rw [Option.some.inj e]
    exact (isBl_not _).2 (h.no j (by omega))
  · have e := Lib.data_getElem? s f hf
    rw [List.getElem?_eq_getElem hl] at e
    rw [Option.some.inj e]
    exact (isBl_iff _).2 h.is
theorem bl_none {s : ByteArray} (h : ∀ (j : Nat) b, s.data.toList[j]? = some b → b ≠ 32 ∧ b ≠ 9) : ∀ c ∈ s.data.toList, Exp.isBl c = false := by
  intro c hc
  obtain ⟨j, hj⟩ := List.mem_iff_getElem?.1 hc
  exact (isBl_not c).2 (h j c hj)
end Go.Proofs.YtpnfifhanmpapaaGreatDoor
