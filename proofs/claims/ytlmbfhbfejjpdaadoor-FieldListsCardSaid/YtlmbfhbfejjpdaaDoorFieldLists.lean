/- For all bytes 'which' and texts s and t, FieldLists returns true: the set of two fields with a comma between them has the numbers of both, and is no star; of errors ErrForm comes first, and of two of one kind the first one (longer texts than 150 bytes are not asked). Conditions: the variables of Go's library that the row lists start as the program's text lays them (tied). -/
import Derived.Test.YtlmbfhbfejjpdaaDoorFldLaid
import Derived.Test.YtlmbfhbfejjpdaaDoorFldX
namespace Go.Proofs.YtlmbfhbfejjpdaaDoor.fieldLists
open Go.ChangeShapes Go.WideShapes Go.ChangeAt Go.RowKit Go.ChangeMaps

theorem app_comma (s t : ByteArray) : (s ++ (⟨#[44]⟩ : ByteArray) ++ t).data.toList = s.data.toList ++ 44 :: t.data.toList := by
  rw [app_list, app_list, List.append_assoc]
  rfl
theorem app_size (s t : ByteArray) : (s ++ (⟨#[44]⟩ : ByteArray) ++ t).size = s.size + 1 + t.size := by
  rw [Lib.size_eq, app_comma, List.length_append, List.length_cons, ← Lib.size_eq, ← Lib.size_eq]
  omega
set_option maxRecDepth 100000 in
set_option maxHeartbeats 2000000 in
theorem walk_long (U : Nat) (s t : ByteArray) (w : World) (L : Lay w) (hU : U < 256) (hs : s.size ≤ maxLen) (ht : t.size ≤ maxLen) (hl : 150 < s.size ∨ 150 < t.size) :
    Calls Tryd.prog 6 #[.int .u8 U, .string s, .string t] w fun e w' => e = .returned (.bool true) ∧ Below w.heap.size w w' := by
  unfold maxLen at hs ht
  obtain ⟨i, hi⟩ : ∃ i, i = U % 6 := ⟨_, rfl⟩
  have SX := Lib.hid (fun w => six_any U hU i hi w)
  have LL := Lib.hid L
  clear hi L
  by_cases h1 : 150 < s.size
  · have tl : decide ((150 : Int) < (s.size : Int)) = true := by rw [decide_eq_true_iff]; omega
    clear hl
    go_enter Tryd.func6, Tryd.ntmps6
    go_wp2_with fail
    refine (SX.out _).mono ?_
    rintro e w1 ⟨v, rfl, hb, hv⟩
    have X := Lib.hid (Ctx.first LL.out hb hv)
    obtain ⟨A, cap, rfl, _, _⟩ := hv
    clear hb
    go_wp2_with fail
    refine (works_any _ X.out.lay).mono ?_
    rintro e w2 ⟨rfl, hb⟩
    have X := Lib.hid (X.out.next hb)
    clear hb
    go_wp2_with fail
    go_ret
    exact ⟨rfl, X.out.below⟩
  · have tl : decide ((150 : Int) < (s.size : Int)) = false := by rw [decide_eq_false_iff_not]; omega
    have tm : decide ((150 : Int) < (t.size : Int)) = true := by rw [decide_eq_true_iff]; omega
    clear hl h1
    go_enter Tryd.func6, Tryd.ntmps6
    go_wp2_with fail
    refine (SX.out _).mono ?_
    rintro e w1 ⟨v, rfl, hb, hv⟩
    have X := Lib.hid (Ctx.first LL.out hb hv)
    obtain ⟨A, cap, rfl, _, _⟩ := hv
    clear hb
    go_wp2_with fail
    refine (works_any _ X.out.lay).mono ?_
    rintro e w2 ⟨rfl, hb⟩
    have X := Lib.hid (X.out.next hb)
    clear hb
    go_wp2_with fail
    go_ret
    exact ⟨rfl, X.out.below⟩
set_option maxRecDepth 100000 in
set_option maxHeartbeats 4000000 in
theorem walk (u : Int) (s t : ByteArray) (w : World) (L : Lay w) (hu : (Lit.int .u8 u).wf = true) (hs : s.size ≤ maxLen) (ht : t.size ≤ maxLen) :
    Calls Tryd.prog 6 #[.int .u8 u, .string s, .string t] w fun e w' => e = .returned (.bool true) ∧ Below w.heap.size w w' := by
  obtain ⟨U, rfl, hU⟩ := nat_u8 hu
  by_cases hl : 150 < s.size ∨ 150 < t.size
  · exact walk_long U s t w L hU hs ht hl
  obtain ⟨i, hi⟩ : ∃ i, i = U % 6 := ⟨_, rfl⟩
  have i6 : i < 6 := by omega
  have O := kd6_ok i i6
  have SX := Lib.hid (fun w => six_any U hU i hi w)
  have LL := Lib.hid L
  have s150 : s.size ≤ 150 := by omega
  have t150 : t.size ≤ 150 := by omega
  have tl : decide ((150 : Int) < (s.size : Int)) = false := by rw [decide_eq_false_iff_not]; omega
  have tm : decide ((150 : Int) < (t.size : Int)) = false := by rw [decide_eq_false_iff_not]; omega
  obtain ⟨P, hP⟩ : ∃ P, Fld.parse (kd6 i) s.data.toList = P := ⟨_, rfl⟩
  obtain ⟨Q, hQ⟩ : ∃ Q, Fld.parse (kd6 i) t.data.toList = Q := ⟨_, rfl⟩
  have hR := Fld.parse_two O s.data.toList t.data.toList
  have l1 := parse_lt O s.data.toList
  have l2 := parse_lt O t.data.toList
  have b1 := Fld.parse_bad (K := kd6 i) s.data.toList
  have b2 := Fld.parse_bad (K := kd6 i) t.data.toList
  have k1 := Fld.parse_err' (kd6 i) s.data.toList
  have k2 := Fld.parse_err' (kd6 i) t.data.toList
  have z1 := fun h => (Fld.parse_good O s.data.toList h).2.2.2.1
  have z2 := fun h => (Fld.parse_good O t.data.toList h).2.2.2.1
  rw [← app_comma, ← Lib.size_eq, hP, hQ] at hR
  rw [hP] at l1 b1 k1 z1
  rw [hQ] at l2 b2 k2 z2
  rw [← Lib.size_eq] at b1 b2
  obtain ⟨S1, s1, a1, e1⟩ := P
  obtain ⟨S2, s2, a2, e2⟩ := Q
  simp only at l1 l2 b1 b2 k1 k2 z1 z2
  have A1 := Lib.hid (fun v w hv => parse_at i6 v s w hv (by omega) hP)
  have A2 := Lib.hid (fun v w hv => parse_at i6 v t w hv (by omega) hQ)
  have hz : (s ++ (⟨#[44]⟩ : ByteArray) ++ t).size ≤ 9223372036854775000 := by rw [app_size]; omega
  have eo : bits .or .u64 (S1 : Int) (S2 : Int) = ((S1 ||| S2 : Nat) : Int) := u64_or_nat S1 S2 l1 l2
  clear hP hQ hi O L
  rcases k1 with rfl | rfl | rfl
  all_goals rcases k2 with rfl | rfl | rfl
  · obtain rfl : a1 = 0 := z1 rfl
    obtain rfl : a2 = 0 := z2 rfl
    have A3 := Lib.hid (fun v w hv => parse_at i6 v (s ++ (⟨#[44]⟩ : ByteArray) ++ t) w hv hz (show Fld.parse (kd6 i) (s ++ (⟨#[44]⟩ : ByteArray) ++ t).data.toList = (S1 ||| S2, false, 0, 0) from hR))
    clear z1 z2 b1 b2 hl hz hR
    go_enter Tryd.func6, Tryd.ntmps6
    go_wp2_with fail
    refine (SX.out _).mono ?_
    rintro e w1 ⟨v, rfl, hb, hv⟩
    have X := Lib.hid (Ctx.first LL.out hb hv)
    obtain ⟨A, cap, rfl, _, _⟩ := hv
    clear hb
    go_wp2_with fail
    refine (A1.out _ _ X.out.strs).mono ?_
    rintro e w2 ⟨rfl, hb⟩
    have X := Lib.hid (X.out.next hb)
    obtain ⟨_, _, _, _, c0, c1, c2, c3⟩ := X.out
    clear hb
    go_wp2_with fail
    refine (A2.out _ _ X.out.strs).mono ?_
    rintro e w3 ⟨rfl, hb⟩
    have X := Lib.hid (X.out.next hb)
    obtain ⟨_, _, _, _, c0, c1, c2, c3⟩ := X.out
    clear hb
    go_wp2_with fail
    refine (A3.out _ _ X.out.strs).mono ?_
    rintro e w4 ⟨rfl, hb⟩
    have X := Lib.hid (X.out.next hb)
    obtain ⟨_, _, _, _, c0, c1, c2, c3⟩ := X.out
    clear hb
    go_wp2_with fail
    refine (works_any _ X.out.lay).mono ?_
    rintro e w5 ⟨rfl, hb⟩
    have X := Lib.hid (X.out.next hb)
    clear hb
    go_wp2_with fail
    go_ret
    exact ⟨rfl, X.out.below⟩
  · obtain rfl : a1 = 0 := z1 rfl
    obtain ⟨rfl, rfl, y2, x2⟩ := b2 (by decide)
    have A3 := Lib.hid (fun v w hv => parse_at i6 v (s ++ (⟨#[44]⟩ : ByteArray) ++ t) w hv hz (show Fld.parse (kd6 i) (s ++ (⟨#[44]⟩ : ByteArray) ++ t).data.toList = (0, false, a2 + (s.size + 1), 2) from hR))
    have ad : ((a2 + (s.size + 1) : Nat) : Int) = (a2 : Int) + (s.size : Int) + 1 := by omega
    have ab : (((a2 + (s.size + 1) : Nat) : Int) == (a2 : Int) + (s.size : Int) + 1) = true := by rw [beq_iff_eq]; omega
    clear z1 z2 b1 b2 hl hz hR
    go_enter Tryd.func6, Tryd.ntmps6
    go_wp2_with fail
    refine (SX.out _).mono ?_
    rintro e w1 ⟨v, rfl, hb, hv⟩
    have X := Lib.hid (Ctx.first LL.out hb hv)
    obtain ⟨A, cap, rfl, _, _⟩ := hv
    clear hb
    go_wp2_with fail
    refine (A1.out _ _ X.out.strs).mono ?_
    rintro e w2 ⟨rfl, hb⟩
    have X := Lib.hid (X.out.next hb)
    obtain ⟨_, _, _, _, c0, c1, c2, c3⟩ := X.out
    clear hb
    go_wp2_with fail
    refine (A2.out _ _ X.out.strs).mono ?_
    rintro e w3 ⟨rfl, hb⟩
    have X := Lib.hid (X.out.next hb)
    obtain ⟨_, _, _, _, c0, c1, c2, c3⟩ := X.out
    clear hb
    go_wp2_with fail
    refine (A3.out _ _ X.out.strs).mono ?_
    rintro e w4 ⟨rfl, hb⟩
    have X := Lib.hid (X.out.next hb)
    obtain ⟨_, _, _, _, c0, c1, c2, c3⟩ := X.out
    clear hb
    go_wp2_with fail
    refine (works_any _ X.out.lay).mono ?_
    rintro e w5 ⟨rfl, hb⟩
    have X := Lib.hid (X.out.next hb)
    clear hb
    go_wp2_with fail
    go_ret
    exact ⟨rfl, X.out.below⟩
  · obtain rfl : a1 = 0 := z1 rfl
    obtain ⟨rfl, rfl, y2, x2⟩ := b2 (by decide)
    have A3 := Lib.hid (fun v w hv => parse_at i6 v (s ++ (⟨#[44]⟩ : ByteArray) ++ t) w hv hz (show Fld.parse (kd6 i) (s ++ (⟨#[44]⟩ : ByteArray) ++ t).data.toList = (0, false, a2 + (s.size + 1), 10) from hR))
    have ad : ((a2 + (s.size + 1) : Nat) : Int) = (a2 : Int) + (s.size : Int) + 1 := by omega
    have ab : (((a2 + (s.size + 1) : Nat) : Int) == (a2 : Int) + (s.size : Int) + 1) = true := by rw [beq_iff_eq]; omega
    clear z1 z2 b1 b2 hl hz hR
    go_enter Tryd.func6, Tryd.ntmps6
    go_wp2_with fail
    refine (SX.out _).mono ?_
    rintro e w1 ⟨v, rfl, hb, hv⟩
    have X := Lib.hid (Ctx.first LL.out hb hv)
    obtain ⟨A, cap, rfl, _, _⟩ := hv
    clear hb
    go_wp2_with fail
    refine (A1.out _ _ X.out.strs).mono ?_
    rintro e w2 ⟨rfl, hb⟩
    have X := Lib.hid (X.out.next hb)
    obtain ⟨_, _, _, _, c0, c1, c2, c3⟩ := X.out
    clear hb
    go_wp2_with fail
    refine (A2.out _ _ X.out.strs).mono ?_
    rintro e w3 ⟨rfl, hb⟩
    have X := Lib.hid (X.out.next hb)
    obtain ⟨_, _, _, _, c0, c1, c2, c3⟩ := X.out
    clear hb
    go_wp2_with fail
    refine (A3.out _ _ X.out.strs).mono ?_
    rintro e w4 ⟨rfl, hb⟩
    have X := Lib.hid (X.out.next hb)
    obtain ⟨_, _, _, _, c0, c1, c2, c3⟩ := X.out
    clear hb
    go_wp2_with fail
    refine (works_any _ X.out.lay).mono ?_
    rintro e w5 ⟨rfl, hb⟩
    have X := Lib.hid (X.out.next hb)
    clear hb
    go_wp2_with fail
    go_ret
    exact ⟨rfl, X.out.below⟩
  · obtain ⟨rfl, rfl, y1, x1⟩ := b1 (by decide)
    obtain rfl : a2 = 0 := z2 rfl
    have A3 := Lib.hid (fun v w hv => parse_at i6 v (s ++ (⟨#[44]⟩ : ByteArray) ++ t) w hv hz (show Fld.parse (kd6 i) (s ++ (⟨#[44]⟩ : ByteArray) ++ t).data.toList = (0, false, a1, 2) from hR))
    clear z1 z2 b1 b2 hl hz hR
    go_enter Tryd.func6, Tryd.ntmps6
    go_wp2_with fail
    refine (SX.out _).mono ?_
    rintro e w1 ⟨v, rfl, hb, hv⟩
    have X := Lib.hid (Ctx.first LL.out hb hv)
    obtain ⟨A, cap, rfl, _, _⟩ := hv
    clear hb
    go_wp2_with fail
    refine (A1.out _ _ X.out.strs).mono ?_
    rintro e w2 ⟨rfl, hb⟩
    have X := Lib.hid (X.out.next hb)
    obtain ⟨_, _, _, _, c0, c1, c2, c3⟩ := X.out
    clear hb
    go_wp2_with fail
    refine (A2.out _ _ X.out.strs).mono ?_
    rintro e w3 ⟨rfl, hb⟩
    have X := Lib.hid (X.out.next hb)
    obtain ⟨_, _, _, _, c0, c1, c2, c3⟩ := X.out
    clear hb
    go_wp2_with fail
    refine (A3.out _ _ X.out.strs).mono ?_
    rintro e w4 ⟨rfl, hb⟩
    have X := Lib.hid (X.out.next hb)
    obtain ⟨_, _, _, _, c0, c1, c2, c3⟩ := X.out
    clear hb
    go_wp2_with fail
    refine (works_any _ X.out.lay).mono ?_
    rintro e w5 ⟨rfl, hb⟩
    have X := Lib.hid (X.out.next hb)
    clear hb
    go_wp2_with fail
    go_ret
    exact ⟨rfl, X.out.below⟩
  · obtain ⟨rfl, rfl, y1, x1⟩ := b1 (by decide)
    obtain ⟨rfl, rfl, y2, x2⟩ := b2 (by decide)
    have A3 := Lib.hid (fun v w hv => parse_at i6 v (s ++ (⟨#[44]⟩ : ByteArray) ++ t) w hv hz (show Fld.parse (kd6 i) (s ++ (⟨#[44]⟩ : ByteArray) ++ t).data.toList = (0, false, a1, 2) from hR))
    clear z1 z2 b1 b2 hl hz hR
    go_enter Tryd.func6, Tryd.ntmps6
    go_wp2_with fail
    refine (SX.out _).mono ?_
    rintro e w1 ⟨v, rfl, hb, hv⟩
    have X := Lib.hid (Ctx.first LL.out hb hv)
    obtain ⟨A, cap, rfl, _, _⟩ := hv
    clear hb
    go_wp2_with fail
    refine (A1.out _ _ X.out.strs).mono ?_
    rintro e w2 ⟨rfl, hb⟩
    have X := Lib.hid (X.out.next hb)
    obtain ⟨_, _, _, _, c0, c1, c2, c3⟩ := X.out
    clear hb
    go_wp2_with fail
    refine (A2.out _ _ X.out.strs).mono ?_
    rintro e w3 ⟨rfl, hb⟩
    have X := Lib.hid (X.out.next hb)
    obtain ⟨_, _, _, _, c0, c1, c2, c3⟩ := X.out
    clear hb
    go_wp2_with fail
    refine (A3.out _ _ X.out.strs).mono ?_
    rintro e w4 ⟨rfl, hb⟩
    have X := Lib.hid (X.out.next hb)
    obtain ⟨_, _, _, _, c0, c1, c2, c3⟩ := X.out
    clear hb
    go_wp2_with fail
    refine (works_any _ X.out.lay).mono ?_
    rintro e w5 ⟨rfl, hb⟩
    have X := Lib.hid (X.out.next hb)
    clear hb
    go_wp2_with fail
    go_ret
    exact ⟨rfl, X.out.below⟩
  · obtain ⟨rfl, rfl, y1, x1⟩ := b1 (by decide)
    obtain ⟨rfl, rfl, y2, x2⟩ := b2 (by decide)
    have A3 := Lib.hid (fun v w hv => parse_at i6 v (s ++ (⟨#[44]⟩ : ByteArray) ++ t) w hv hz (show Fld.parse (kd6 i) (s ++ (⟨#[44]⟩ : ByteArray) ++ t).data.toList = (0, false, a2 + (s.size + 1), 10) from hR))
    have ad : ((a2 + (s.size + 1) : Nat) : Int) = (a2 : Int) + (s.size : Int) + 1 := by omega
    have ab : (((a2 + (s.size + 1) : Nat) : Int) == (a2 : Int) + (s.size : Int) + 1) = true := by rw [beq_iff_eq]; omega
    clear z1 z2 b1 b2 hl hz hR
    go_enter Tryd.func6, Tryd.ntmps6
    go_wp2_with fail
    refine (SX.out _).mono ?_
    rintro e w1 ⟨v, rfl, hb, hv⟩
    have X := Lib.hid (Ctx.first LL.out hb hv)
    obtain ⟨A, cap, rfl, _, _⟩ := hv
    clear hb
    go_wp2_with fail
    refine (A1.out _ _ X.out.strs).mono ?_
    rintro e w2 ⟨rfl, hb⟩
    have X := Lib.hid (X.out.next hb)
    obtain ⟨_, _, _, _, c0, c1, c2, c3⟩ := X.out
    clear hb
    go_wp2_with fail
    refine (A2.out _ _ X.out.strs).mono ?_
    rintro e w3 ⟨rfl, hb⟩
    have X := Lib.hid (X.out.next hb)
    obtain ⟨_, _, _, _, c0, c1, c2, c3⟩ := X.out
    clear hb
    go_wp2_with fail
    refine (A3.out _ _ X.out.strs).mono ?_
    rintro e w4 ⟨rfl, hb⟩
    have X := Lib.hid (X.out.next hb)
    obtain ⟨_, _, _, _, c0, c1, c2, c3⟩ := X.out
    clear hb
    go_wp2_with fail
    refine (works_any _ X.out.lay).mono ?_
    rintro e w5 ⟨rfl, hb⟩
    have X := Lib.hid (X.out.next hb)
    clear hb
    go_wp2_with fail
    go_ret
    exact ⟨rfl, X.out.below⟩
  · obtain ⟨rfl, rfl, y1, x1⟩ := b1 (by decide)
    obtain rfl : a2 = 0 := z2 rfl
    have A3 := Lib.hid (fun v w hv => parse_at i6 v (s ++ (⟨#[44]⟩ : ByteArray) ++ t) w hv hz (show Fld.parse (kd6 i) (s ++ (⟨#[44]⟩ : ByteArray) ++ t).data.toList = (0, false, a1, 10) from hR))
    by_cases q : a1 = s.size
    · have q1 : ((a1 : Int) == (s.size : Int)) = true := by rw [beq_iff_eq]; omega
      have q2 : (a1 == s.size) = true := by rw [beq_iff_eq]; omega
      clear z1 z2 b1 b2 hl hz hR
      go_enter Tryd.func6, Tryd.ntmps6
      go_wp2_with fail
      refine (SX.out _).mono ?_
      rintro e w1 ⟨v, rfl, hb, hv⟩
      have X := Lib.hid (Ctx.first LL.out hb hv)
      obtain ⟨A, cap, rfl, _, _⟩ := hv
      clear hb
      go_wp2_with fail
      refine (A1.out _ _ X.out.strs).mono ?_
      rintro e w2 ⟨rfl, hb⟩
      have X := Lib.hid (X.out.next hb)
      obtain ⟨_, _, _, _, c0, c1, c2, c3⟩ := X.out
      clear hb
      go_wp2_with fail
      refine (A2.out _ _ X.out.strs).mono ?_
      rintro e w3 ⟨rfl, hb⟩
      have X := Lib.hid (X.out.next hb)
      obtain ⟨_, _, _, _, c0, c1, c2, c3⟩ := X.out
      clear hb
      go_wp2_with fail
      refine (A3.out _ _ X.out.strs).mono ?_
      rintro e w4 ⟨rfl, hb⟩
      have X := Lib.hid (X.out.next hb)
      obtain ⟨_, _, _, _, c0, c1, c2, c3⟩ := X.out
      clear hb
      go_wp2_with fail
      refine (works_any _ X.out.lay).mono ?_
      rintro e w5 ⟨rfl, hb⟩
      have X := Lib.hid (X.out.next hb)
      clear hb
      go_wp2_with fail
      go_ret
      exact ⟨rfl, X.out.below⟩
    · have q1 : ((a1 : Int) == (s.size : Int)) = false := by rw [beq_eq_false_iff_ne]; omega
      have q2 : (a1 == s.size) = false := by rw [beq_eq_false_iff_ne]; omega
      clear z1 z2 b1 b2 hl hz hR
      go_enter Tryd.func6, Tryd.ntmps6
      go_wp2_with fail
      refine (SX.out _).mono ?_
      rintro e w1 ⟨v, rfl, hb, hv⟩
      have X := Lib.hid (Ctx.first LL.out hb hv)
      obtain ⟨A, cap, rfl, _, _⟩ := hv
      clear hb
      go_wp2_with fail
      refine (A1.out _ _ X.out.strs).mono ?_
      rintro e w2 ⟨rfl, hb⟩
      have X := Lib.hid (X.out.next hb)
      obtain ⟨_, _, _, _, c0, c1, c2, c3⟩ := X.out
      clear hb
      go_wp2_with fail
      refine (A2.out _ _ X.out.strs).mono ?_
      rintro e w3 ⟨rfl, hb⟩
      have X := Lib.hid (X.out.next hb)
      obtain ⟨_, _, _, _, c0, c1, c2, c3⟩ := X.out
      clear hb
      go_wp2_with fail
      refine (A3.out _ _ X.out.strs).mono ?_
      rintro e w4 ⟨rfl, hb⟩
      have X := Lib.hid (X.out.next hb)
      obtain ⟨_, _, _, _, c0, c1, c2, c3⟩ := X.out
      clear hb
      go_wp2_with fail
      refine (works_any _ X.out.lay).mono ?_
      rintro e w5 ⟨rfl, hb⟩
      have X := Lib.hid (X.out.next hb)
      clear hb
      go_wp2_with fail
      go_ret
      exact ⟨rfl, X.out.below⟩
  · obtain ⟨rfl, rfl, y1, x1⟩ := b1 (by decide)
    obtain ⟨rfl, rfl, y2, x2⟩ := b2 (by decide)
    have A3 := Lib.hid (fun v w hv => parse_at i6 v (s ++ (⟨#[44]⟩ : ByteArray) ++ t) w hv hz (show Fld.parse (kd6 i) (s ++ (⟨#[44]⟩ : ByteArray) ++ t).data.toList = (0, false, a1, 10) from hR))
    by_cases q : a1 = s.size
    · have q1 : ((a1 : Int) == (s.size : Int)) = true := by rw [beq_iff_eq]; omega
      have q2 : (a1 == s.size) = true := by rw [beq_iff_eq]; omega
      clear z1 z2 b1 b2 hl hz hR
      go_enter Tryd.func6, Tryd.ntmps6
      go_wp2_with fail
      refine (SX.out _).mono ?_
      rintro e w1 ⟨v, rfl, hb, hv⟩
      have X := Lib.hid (Ctx.first LL.out hb hv)
      obtain ⟨A, cap, rfl, _, _⟩ := hv
      clear hb
      go_wp2_with fail
      refine (A1.out _ _ X.out.strs).mono ?_
      rintro e w2 ⟨rfl, hb⟩
      have X := Lib.hid (X.out.next hb)
      obtain ⟨_, _, _, _, c0, c1, c2, c3⟩ := X.out
      clear hb
      go_wp2_with fail
      refine (A2.out _ _ X.out.strs).mono ?_
      rintro e w3 ⟨rfl, hb⟩
      have X := Lib.hid (X.out.next hb)
      obtain ⟨_, _, _, _, c0, c1, c2, c3⟩ := X.out
      clear hb
      go_wp2_with fail
      refine (A3.out _ _ X.out.strs).mono ?_
      rintro e w4 ⟨rfl, hb⟩
      have X := Lib.hid (X.out.next hb)
      obtain ⟨_, _, _, _, c0, c1, c2, c3⟩ := X.out
      clear hb
      go_wp2_with fail
      refine (works_any _ X.out.lay).mono ?_
      rintro e w5 ⟨rfl, hb⟩
      have X := Lib.hid (X.out.next hb)
      clear hb
      go_wp2_with fail
      go_ret
      exact ⟨rfl, X.out.below⟩
    · have q1 : ((a1 : Int) == (s.size : Int)) = false := by rw [beq_eq_false_iff_ne]; omega
      have q2 : (a1 == s.size) = false := by rw [beq_eq_false_iff_ne]; omega
      clear z1 z2 b1 b2 hl hz hR
      go_enter Tryd.func6, Tryd.ntmps6
      go_wp2_with fail
      refine (SX.out _).mono ?_
      rintro e w1 ⟨v, rfl, hb, hv⟩
      have X := Lib.hid (Ctx.first LL.out hb hv)
      obtain ⟨A, cap, rfl, _, _⟩ := hv
      clear hb
      go_wp2_with fail
      refine (A1.out _ _ X.out.strs).mono ?_
      rintro e w2 ⟨rfl, hb⟩
      have X := Lib.hid (X.out.next hb)
      obtain ⟨_, _, _, _, c0, c1, c2, c3⟩ := X.out
      clear hb
      go_wp2_with fail
      refine (A2.out _ _ X.out.strs).mono ?_
      rintro e w3 ⟨rfl, hb⟩
      have X := Lib.hid (X.out.next hb)
      obtain ⟨_, _, _, _, c0, c1, c2, c3⟩ := X.out
      clear hb
      go_wp2_with fail
      refine (A3.out _ _ X.out.strs).mono ?_
      rintro e w4 ⟨rfl, hb⟩
      have X := Lib.hid (X.out.next hb)
      obtain ⟨_, _, _, _, c0, c1, c2, c3⟩ := X.out
      clear hb
      go_wp2_with fail
      refine (works_any _ X.out.lay).mono ?_
      rintro e w5 ⟨rfl, hb⟩
      have X := Lib.hid (X.out.next hb)
      clear hb
      go_wp2_with fail
      go_ret
      exact ⟨rfl, X.out.below⟩
  · obtain ⟨rfl, rfl, y1, x1⟩ := b1 (by decide)
    obtain ⟨rfl, rfl, y2, x2⟩ := b2 (by decide)
    have A3 := Lib.hid (fun v w hv => parse_at i6 v (s ++ (⟨#[44]⟩ : ByteArray) ++ t) w hv hz (show Fld.parse (kd6 i) (s ++ (⟨#[44]⟩ : ByteArray) ++ t).data.toList = (0, false, a1, 10) from hR))
    by_cases q : a1 = s.size
    · have q1 : ((a1 : Int) == (s.size : Int)) = true := by rw [beq_iff_eq]; omega
      have q2 : (a1 == s.size) = true := by rw [beq_iff_eq]; omega
      clear z1 z2 b1 b2 hl hz hR
      go_enter Tryd.func6, Tryd.ntmps6
      go_wp2_with fail
      refine (SX.out _).mono ?_
      rintro e w1 ⟨v, rfl, hb, hv⟩
      have X := Lib.hid (Ctx.first LL.out hb hv)
      obtain ⟨A, cap, rfl, _, _⟩ := hv
      clear hb
      go_wp2_with fail
      refine (A1.out _ _ X.out.strs).mono ?_
      rintro e w2 ⟨rfl, hb⟩
      have X := Lib.hid (X.out.next hb)
      obtain ⟨_, _, _, _, c0, c1, c2, c3⟩ := X.out
      clear hb
      go_wp2_with fail
      refine (A2.out _ _ X.out.strs).mono ?_
      rintro e w3 ⟨rfl, hb⟩
      have X := Lib.hid (X.out.next hb)
      obtain ⟨_, _, _, _, c0, c1, c2, c3⟩ := X.out
      clear hb
      go_wp2_with fail
      refine (A3.out _ _ X.out.strs).mono ?_
      rintro e w4 ⟨rfl, hb⟩
      have X := Lib.hid (X.out.next hb)
      obtain ⟨_, _, _, _, c0, c1, c2, c3⟩ := X.out
      clear hb
      go_wp2_with fail
      refine (works_any _ X.out.lay).mono ?_
      rintro e w5 ⟨rfl, hb⟩
      have X := Lib.hid (X.out.next hb)
      clear hb
      go_wp2_with fail
      go_ret
      exact ⟨rfl, X.out.below⟩
    · have q1 : ((a1 : Int) == (s.size : Int)) = false := by rw [beq_eq_false_iff_ne]; omega
      have q2 : (a1 == s.size) = false := by rw [beq_eq_false_iff_ne]; omega
      clear z1 z2 b1 b2 hl hz hR
      go_enter Tryd.func6, Tryd.ntmps6
      go_wp2_with fail
      refine (SX.out _).mono ?_
      rintro e w1 ⟨v, rfl, hb, hv⟩
      have X := Lib.hid (Ctx.first LL.out hb hv)
      obtain ⟨A, cap, rfl, _, _⟩ := hv
      clear hb
      go_wp2_with fail
      refine (A1.out _ _ X.out.strs).mono ?_
      rintro e w2 ⟨rfl, hb⟩
      have X := Lib.hid (X.out.next hb)
      obtain ⟨_, _, _, _, c0, c1, c2, c3⟩ := X.out
      clear hb
      go_wp2_with fail
      refine (A2.out _ _ X.out.strs).mono ?_
      rintro e w3 ⟨rfl, hb⟩
      have X := Lib.hid (X.out.next hb)
      obtain ⟨_, _, _, _, c0, c1, c2, c3⟩ := X.out
      clear hb
      go_wp2_with fail
      refine (A3.out _ _ X.out.strs).mono ?_
      rintro e w4 ⟨rfl, hb⟩
      have X := Lib.hid (X.out.next hb)
      obtain ⟨_, _, _, _, c0, c1, c2, c3⟩ := X.out
      clear hb
      go_wp2_with fail
      refine (works_any _ X.out.lay).mono ?_
      rintro e w5 ⟨rfl, hb⟩
      have X := Lib.hid (X.out.next hb)
      clear hb
      go_wp2_with fail
      go_ret
      exact ⟨rfl, X.out.below⟩

set_option maxRecDepth 100000 in
theorem lifted (os : Os) (started : os.Started) (H : Type) (enc : TypeId × Value → H) :
    ReturnsInHanded {} Tryd.checked os 6 .any (fun w args => (Rows.fieldListsSpec.pre enc Tryd.prog Tryd.f6 [] false w args ∧ laidMetH Tryd.prog Rows.fieldListsRow.laid w) ∧ sizedMet enc Tryd.prog Tryd.f6 (OpenSpec.ofChange Rows.fieldListsSpec) false w args)
      (Rows.fieldListsSpec.post enc Tryd.prog Tryd.f6 false true false false) := by
  refine returnsInHanded_of_change_and (C := Tryd.checked) (X := fun w _ => laidMetH Tryd.prog Rows.fieldListsRow.laid w) (fun _ _ _ hh h => h.of_heap hh) own started (by kernel_rfl) Tryd.func6
    (ChangeSpec.witness_shaped (enc := enc) (C := Tryd.checked) (os := os) (X := fun w _ => laidMetH Tryd.prog Rows.fieldListsRow.laid w) false (World.laidAll Tryd.prog os Rows.fieldListsRow.laid) #[.int .u8 0, .string ⟨#[]⟩, .string ⟨#[]⟩] 8 (World.laidAll_os _ _ _) (World.shaped_of_ZipB (by kernel_rfl) (by kernel_rfl)) (by kernel_rfl) (by kernel_rfl) (by kernel_rfl) (by rw [MakeChecks.laidMetH_plain _ _ _ (by kernel_rfl)]; exact laidMet_laidAll _ (by kernel_rfl) (by kernel_rfl))) ?_
  intro W base args ds gs before hval0 hW _ _ hL _
  have hval : ∀ (j : Nat) t v, Tryd.f6.params[j]? = some t → args[j]? = some v → Value.okWide Tryd.prog W .any base t v := hval0
  have hW' := hW
  obtain ⟨p, q, hA0, hV, rfl, hfz, hnd⟩ := hW
  have hA : DataW.TrodAll enc Tryd.prog W 0 (fun _ => true) true Tryd.f6.params.toList args.toList ds p := hA0
  rw [Tryd.params6] at hA hval
  obtain ⟨v0, vs0, d0, ds0, p0, q0, hargs, rfl, rfl, h0, r0⟩ := trodAll_cons hA
  obtain ⟨v1, vs1, d1, ds1, p1, q1, rfl, rfl, rfl, h1, r1⟩ := trodAll_cons r0
  obtain ⟨v2, vs2, d2, ds2, p2, q2, rfl, rfl, rfl, h2, r2⟩ := trodAll_cons r1
  obtain ⟨rfl, rfl, rfl⟩ := trodAll_nil r2
  obtain rfl : args = #[v0, v1, v2] := by cases args; simp_all
  obtain ⟨rfl, rfl⟩ := trodVars_none hV
  obtain ⟨a0, rfl, rfl, rfl, w0⟩ := open_int Tryd.underlying5 (hval 0 5 v0 rfl rfl) h0
  obtain ⟨a1, rfl, rfl, rfl, w1⟩ := open_string Tryd.underlying9 (hval 1 9 v1 rfl rfl) h1
  obtain ⟨a2, rfl, rfl, rfl, w2⟩ := open_string Tryd.underlying9 (hval 2 9 v2 rfl rfl) h2
  clear hA0 hval0
  refine (walk a0 a1 a2 W (lay_of _ W (by kernel_rfl) (.tail _ (.head _)) (by kernel_rfl) hL) w0 w1 w2).mono fun e W' ⟨he, bel⟩ => ?_
  subst he
  exact ⟨_, rfl, _, _, _, [], _, [], hW', trodAll_mk1 (shut_bool Tryd.underlying4 _), (trodAll_cons_mk (shut_int Tryd.underlying5 w0) (trodAll_cons_mk (shut_string Tryd.underlying9 w1) (trodAll_cons_mk (shut_string Tryd.underlying9 w2) trodAll_mk0))), rfl, bel.frame _, fun h => by cases h⟩

theorem row_holds : Rows.FieldListsSaid :=
  OpenClaim.holds_of_wide 6 Tryd.f6 rfl rfl rfl rfl rfl rfl rfl ⟨rfl, rfl, rfl, rfl, rfl⟩ rfl rfl rfl rfl rfl (by kernel_rfl) Tryd.func6 (by kernel_rfl)
    (of_decide_eq_true (by kernel_rfl)) (by unfold Func.isWrapper; first | (rw [if_pos (by decide +kernel)]; kernel_rfl) | (rw [if_neg (by decide +kernel)]; exact ⟨rfl, rfl⟩))
    (fun os started H enc _ => lifted os started H enc)

theorem proved : Rows.FieldListsCardSaid :=
  Claim7.holds_tied_plain_at .later [] Rows.fieldListsCard.laidKinds true Rows.fieldListsCard.stood.harness Rows.fieldListsCard.stood.looks
    row_holds (fun _ h => by cases h) (by kernel_rfl) (fun _ h => by cases h) fieldLists_row_tie rfl ⟨rfl, rfl⟩ (by kernel_rfl) rfl
    (fun f fn hf hfn => by
      obtain rfl : f = 6 := Option.some.inj ((show Tryd.prog.funcNamed Rows.fieldListsRow.func = some 6 by kernel_rfl).symm.trans hf) |>.symm
      obtain rfl : fn = Tryd.f6 := (Option.some.inj (Tryd.func6.symm.trans hfn)).symm
      exact ⟨looks0, fun j t ht => by
        rw [Tryd.params6] at ht
        have hm : t ∈ [5, 9] := by simpa using Array.mem_of_getElem? ht
        have hall : ([5, 9].all fun u => !Tryd.prog.wantsStandIn u) = true := by kernel_rfl
        exact (show Tryd.prog.wantsStandIn t = false by simpa using List.all_eq_true.1 hall t hm)⟩)
    (by kernel_rfl)
end Go.Proofs.YtlmbfhbfejjpdaaDoor.fieldLists
