/- For all bytes 'which' and texts s and more, FieldPlaces returns true: if there is a byte at the place of an ErrForm, and it is no letter, it does not matter what stands behind it; and what stands ahead of it is a field, or one with a number behind it (texts longer than 300 bytes, and more than 50, are not asked). Conditions: the variables of Go's library that the row lists start as the program's text lays them (tied). -/
import Derived.Test.YtlmbfhbfejjpdaaDoorFldLaid
import Derived.Test.YtlmbfhbfejjpdaaDoorFldX
import Derived.Deep.RegionHeld3
namespace Go.Proofs.YtlmbfhbfejjpdaaDoor.fieldPlaces
open Go.ChangeShapes Go.WideShapes Go.ChangeAt Go.RowKit Go.ChangeMaps

set_option maxRecDepth 100000 in
set_option maxHeartbeats 2000000 in
theorem walk_long (U : Nat) (s t : ByteArray) (w : World) (L : Lay w) (hU : U < 256) (hs : s.size ≤ maxLen) (ht : t.size ≤ maxLen) (hl : 300 < s.size ∨ 50 < t.size) :
    Calls Tryd.prog 10 #[.int .u8 U, .string s, .string t] w fun e w' => e = .returned (.bool true) ∧ Below w.heap.size w w' := by
  unfold maxLen at hs ht
  obtain ⟨i, hi⟩ : ∃ i, i = U % 6 := ⟨_, rfl⟩
  have SX := Lib.hid (fun w => six_any U hU i hi w)
  have LL := Lib.hid L
  clear hi L
  by_cases h1 : 300 < s.size
  · have tl : decide ((300 : Int) < (s.size : Int)) = true := by rw [decide_eq_true_iff]; omega
    clear hl
    go_enter Tryd.func10, Tryd.ntmps10
    go_wp2_with fail
    refine (SX.out _).mono ?_
    rintro e w1 ⟨v, rfl, hb, hv⟩
    have X := Lib.hid (Ctx.first LL.out hb hv)
    obtain ⟨A, cap, rfl, _, _⟩ := hv
    clear hb
    go_wp2_with fail
    refine (works_any _ X.out.lay).mono ?_
    rintro e w2 ⟨rfl, hb⟩
    have X := Lib.hid (X.out.next hb)
    clear hb
    go_wp2_with fail
    go_ret
    exact ⟨rfl, X.out.below⟩
  · have tl : decide ((300 : Int) < (s.size : Int)) = false := by rw [decide_eq_false_iff_not]; omega
    have tm : decide ((50 : Int) < (t.size : Int)) = true := by rw [decide_eq_true_iff]; omega
    clear hl h1
    go_enter Tryd.func10, Tryd.ntmps10
    go_wp2_with fail
    refine (SX.out _).mono ?_
    rintro e w1 ⟨v, rfl, hb, hv⟩
    have X := Lib.hid (Ctx.first LL.out hb hv)
    obtain ⟨A, cap, rfl, _, _⟩ := hv
    clear hb
    go_wp2_with fail
    refine (works_any _ X.out.lay).mono ?_
    rintro e w2 ⟨rfl, hb⟩
    have X := Lib.hid (X.out.next hb)
    clear hb
    go_wp2_with fail
    go_ret
    exact ⟨rfl, X.out.below⟩
/-- a text without what stands behind a place -/
theorem cut_list (s : ByteArray) (k : Nat) : (s.extract 0 k).data.toList = s.data.toList.take k := by rw [extract_list, List.drop_zero, Nat.sub_zero]
theorem cut_size (s : ByteArray) (k : Nat) (h : k ≤ s.size) : (s.extract 0 k).size = k := by simp; omega
theorem let_facts (c : Nat) (h : Fld.letN c = false) : (decide (97 ≤ c) && decide (c ≤ 122)) = false ∧ (decide (65 ≤ c) && decide (c ≤ 90)) = false := by
  unfold Fld.letN at h
  rw [upN_and, loN_and] at h
  exact ⟨(Bool.or_eq_false_iff.1 h).2, (Bool.or_eq_false_iff.1 h).1⟩
set_option maxRecDepth 100000 in
set_option maxHeartbeats 4000000 in
/-- behind the first question: what stands ahead of the place -/
theorem walk (u : Int) (s t : ByteArray) (w : World) (L : Lay w) (hu : (Lit.int .u8 u).wf = true) (hs : s.size ≤ maxLen) (ht : t.size ≤ maxLen) :
    Calls Tryd.prog 10 #[.int .u8 u, .string s, .string t] w fun e w' => e = .returned (.bool true) ∧ Below w.heap.size w w' := by
  obtain ⟨U, rfl, hU⟩ := nat_u8 hu
  by_cases hl : 300 < s.size ∨ 50 < t.size
  · exact walk_long U s t w L hU hs ht hl
  obtain ⟨i, hi⟩ : ∃ i, i = U % 6 := ⟨_, rfl⟩
  have i6 : i < 6 := by omega
  have SX := Lib.hid (fun w => six_any U hU i hi w)
  have LL := Lib.hid L
  have s300 : s.size ≤ 300 := by omega
  have t50 : t.size ≤ 50 := by omega
  have tl : decide ((300 : Int) < (s.size : Int)) = false := by rw [decide_eq_false_iff_not]; omega
  have tm : decide ((50 : Int) < (t.size : Int)) = false := by rw [decide_eq_false_iff_not]; omega
  clear L hi hl hs ht
  obtain ⟨P, hP⟩ : ∃ P, Fld.parse (kd6 i) s.data.toList = P := ⟨_, rfl⟩
  obtain ⟨S, star, a, e⟩ := P
  have A1 := Lib.hid (fun v w hv => parse_at i6 v s w hv (by omega) hP)
  by_cases he : e = 10
  rotate_left
  · have te : ((e : Int) != 10) = true := by rw [bne_iff_ne]; omega
    have te' : (e != 10) = true := by rw [bne_iff_ne]; omega
    clear he hP
    go_enter Tryd.func10, Tryd.ntmps10
    go_wp2_with fail
    refine (SX.out _).mono ?_
    rintro e w1 ⟨v, rfl, hb, hv⟩
    have X := Lib.hid (Ctx.first LL.out hb hv)
    obtain ⟨A, cap, rfl, _, _⟩ := hv
    clear hb
    go_wp2_with fail
    refine (A1.out _ _ X.out.strs).mono ?_
    rintro e w2 ⟨rfl, hb⟩
    have X := Lib.hid (X.out.next hb)
    obtain ⟨_, _, _, _, c0, c1, c2, c3⟩ := X.out
    clear hb
    go_wp2_with fail
    refine (works_any _ X.out.lay).mono ?_
    rintro e w3 ⟨rfl, hb⟩
    have X := Lib.hid (X.out.next hb)
    clear hb
    go_wp2_with fail
    go_ret
    exact ⟨rfl, X.out.below⟩
  subst he
  have hb := Fld.parse_bad (K := kd6 i) s.data.toList (by rw [hP]; exact (by decide : (10 : Nat) ≠ 0))
  rw [hP, ← Lib.size_eq] at hb
  obtain ⟨rfl, rfl, hale, _⟩ := hb
  simp only at hale
  have hf : (Fld.parse (kd6 i) s.data.toList).2.2.2 = 10 := by rw [hP]
  have HC := Fld.parse_ahead hf
  have HS := fun m A hc => Fld.parse_same (m := m) hf A hc
  rw [hP] at HC HS
  simp only at HC HS
  rw [← cut_list] at HC
  have cz := cut_size s a hale
  -- the last two calls, in two ways
  have fin : ∃ Q R : Nat × Bool × Nat × Nat, Fld.parse (kd6 i) (s.extract 0 a).data.toList = Q ∧ Fld.parse (kd6 i) (s.extract 0 a ++ (⟨#[49]⟩ : ByteArray)).data.toList = R ∧ (Q.2.2.2 ≠ 10 ∨ (Q = (0, false, a, 10) ∧ R.2.2.2 ≠ 10)) :=
    ⟨_, _, rfl, rfl, by rw [app_list]; exact HC⟩
  obtain ⟨⟨S2, r2, a2, e2⟩, ⟨S3, r3, a3, e3⟩, hQ, hR, hQR⟩ := fin
  simp only [Prod.mk.injEq] at hQR
  have A2 := Lib.hid hQ
  have A3 := Lib.hid hR
  have z2 : (s.extract 0 a).size ≤ 9223372036854775000 := by omega
  have z3 : (s.extract 0 a ++ (⟨#[49]⟩ : ByteArray)).size ≤ 9223372036854775000 := by
    rw [Lib.size_eq, app_list, List.length_append, ← Lib.size_eq]
    show (s.extract 0 a).size + 1 ≤ _
    omega
  have i0 : (0 : Int) ≤ (a : Int) := by omega
  have i1 : (a : Int) ≤ (s.size : Int) := by omega
  have d0 : decide ((a : Int) < 0) = false := by rw [decide_eq_false_iff_not]; omega
  have d1 : decide ((s.size : Int) < (a : Int)) = false := by rw [decide_eq_false_iff_not]; omega
  have d2 : decide (s.size < a) = false := by rw [decide_eq_false_iff_not]; omega
  have zm : min a s.size = a := by omega
  have zmi : min (a : Int) (s.size : Int) = a := by omega
  have g1 : ¬ (9223372036854775807 : Int) < (a : Int) + 1 := by omega
  have g1' : ¬ 9223372036854775807 < a + 1 := by omega
  by_cases hal : a < s.size
  · have q1 : decide ((a : Int) < (s.size : Int)) = true := by rw [decide_eq_true_iff]; omega
    have q2 : decide (a < s.size) = true := by rw [decide_eq_true_iff]; omega
    have i2 : (a : Int) < (s.size : Int) := by omega
    cases hlet : Fld.letN s[a].toNat with
    | true =>
      have hlet2 : Fld.loN s[a].toNat = true ∨ (Fld.loN s[a].toNat = false ∧ Fld.upN s[a].toNat = true) := by
        unfold Fld.letN at hlet
        cases h1 : Fld.loN s[a].toNat with
        | true => exact .inl rfl
        | false => rw [h1, Bool.or_false] at hlet; exact .inr ⟨rfl, hlet⟩
      rcases hlet2 with h1 | ⟨h1, h2⟩
      · unfold Fld.loN at h1
        have h1 := of_decide_eq_true h1
        have y1 : decide ((97 : Int) ≤ (s[a].toNat : Int)) = true := by rw [decide_eq_true_iff]; omega
        have y2 : decide ((s[a].toNat : Int) ≤ 122) = true := by rw [decide_eq_true_iff]; omega
        clear hlet h1 HC HS hQR hf hP hQ hR
        go_enter Tryd.func10, Tryd.ntmps10
        go_wp2_with fail
        refine (SX.out _).mono ?_
        rintro e w1 ⟨v, rfl, hb, hv⟩
        have X := Lib.hid (Ctx.first LL.out hb hv)
        obtain ⟨A, cap, rfl, _, _⟩ := hv
        clear hb
        go_wp2_with fail
        refine (A1.out _ _ X.out.strs).mono ?_
        rintro e w2 ⟨rfl, hb⟩
        have X := Lib.hid (X.out.next hb)
        obtain ⟨_, _, _, _, c0, c1, c2, c3⟩ := X.out
        clear hb
        go_wp2_with fail
        refine (works_any _ X.out.lay).mono ?_
        rintro e w3 ⟨rfl, hb⟩
        have X := Lib.hid (X.out.next hb)
        clear hb
        go_wp2_with fail
        go_ret
        exact ⟨rfl, X.out.below⟩
      · unfold Fld.upN at h2
        have h2 := of_decide_eq_true h2
        have y1 : decide ((97 : Int) ≤ (s[a].toNat : Int)) = false := by rw [decide_eq_false_iff_not]; omega
        have y3 : decide ((65 : Int) ≤ (s[a].toNat : Int)) = true := by rw [decide_eq_true_iff]; omega
        have y4 : decide ((s[a].toNat : Int) ≤ 90) = true := by rw [decide_eq_true_iff]; omega
        clear hlet h1 h2 HC HS hQR hf hP hQ hR
        go_enter Tryd.func10, Tryd.ntmps10
        go_wp2_with fail
        refine (SX.out _).mono ?_
        rintro e w1 ⟨v, rfl, hb, hv⟩
        have X := Lib.hid (Ctx.first LL.out hb hv)
        obtain ⟨A, cap, rfl, _, _⟩ := hv
        clear hb
        go_wp2_with fail
        refine (A1.out _ _ X.out.strs).mono ?_
        rintro e w2 ⟨rfl, hb⟩
        have X := Lib.hid (X.out.next hb)
        obtain ⟨_, _, _, _, c0, c1, c2, c3⟩ := X.out
        clear hb
        go_wp2_with fail
        refine (works_any _ X.out.lay).mono ?_
        rintro e w3 ⟨rfl, hb⟩
        have X := Lib.hid (X.out.next hb)
        clear hb
        go_wp2_with fail
        go_ret
        exact ⟨rfl, X.out.below⟩
    | false =>
      -- the same text up to the place, something else behind it
      have hm : Fld.parse (kd6 i) (s.extract 0 (a + 1) ++ t).data.toList = (0, false, a, 10) := by
        refine HS _ ⟨by rw [← Lib.size_eq]; omega, ?_⟩ (fun c hc => ?_)
        · rw [app_list, cut_list, List.take_append_of_le_length (by rw [List.length_take, ← Lib.size_eq]; omega), List.take_take, Nat.min_self]
        · rw [Lib.data_getElem? s a hal] at hc
          obtain rfl : s[a] = c := Option.some.inj hc
          exact hlet
      have A4 := Lib.hid hm
      have z4 : (s.extract 0 (a + 1) ++ t).size ≤ 9223372036854775000 := by
        have := cut_size s (a + 1) hal
        rw [Lib.size_eq, app_list, List.length_append, ← Lib.size_eq, ← Lib.size_eq]
        omega
      have i3 : (0 : Int) ≤ (a : Int) + 1 := by omega
      have i4 : (a : Int) + 1 ≤ (s.size : Int) := by omega
      have iw : IntKind.i64.wrap ((a : Int) + 1) = (a : Int) + 1 := IntWalk.i64_in _ (by omega)
      have zn : min (a + 1) s.size = a + 1 := by omega
      have zni : min ((a : Int) + 1) (s.size : Int) = (a : Int) + 1 := by omega
      have g2 : ¬ (9223372036854775807 : Int) < (a : Int) + 1 + (t.size : Int) := by omega
      have g2' : ¬ 9223372036854775807 < a + 1 + t.size := by omega
      have hc3 : (decide ((97 : Int) ≤ (s[a].toNat : Int)) = true ∧ decide ((s[a].toNat : Int) ≤ 122) = false ∧ decide ((65 : Int) ≤ (s[a].toNat : Int)) = true ∧ decide ((s[a].toNat : Int) ≤ 90) = false) ∨
          (decide ((97 : Int) ≤ (s[a].toNat : Int)) = false ∧ decide ((65 : Int) ≤ (s[a].toNat : Int)) = true ∧ decide ((s[a].toNat : Int) ≤ 90) = false) ∨
          (decide ((97 : Int) ≤ (s[a].toNat : Int)) = false ∧ decide ((65 : Int) ≤ (s[a].toNat : Int)) = false) := by
        unfold Fld.letN Fld.upN Fld.loN at hlet
        simp only [Bool.or_eq_false_iff, decide_eq_false_iff_not] at hlet
        simp only [decide_eq_true_iff, decide_eq_false_iff_not]
        omega
      clear hm hlet HC HS hf hP hQ hR
      rcases hc3 with ⟨y1, y2, y3, y4⟩ | ⟨y1, y3, y4⟩ | ⟨y1, y3⟩
      all_goals
        rcases hQR with h2 | ⟨⟨rfl, rfl, rfl, rfl⟩, h3⟩
        · have u1 : ((e2 : Int) != 10) = true := by rw [bne_iff_ne]; omega
          have u2 : (e2 != 10) = true := by rw [bne_iff_ne]; omega
          clear h2
          go_enter Tryd.func10, Tryd.ntmps10
          go_wp2_with fail
          refine (SX.out _).mono ?_
          rintro e w1 ⟨v, rfl, hb, hv⟩
          have X := Lib.hid (Ctx.first LL.out hb hv)
          obtain ⟨A, cap, rfl, _, _⟩ := hv
          clear hb
          go_wp2_with fail
          refine (A1.out _ _ X.out.strs).mono ?_
          rintro e w2 ⟨rfl, hb⟩
          have X := Lib.hid (X.out.next hb)
          obtain ⟨_, _, _, _, c0, c1, c2, c3⟩ := X.out
          clear hb
          go_wp2_with fail
          have c0 := X.out.c0
          have c1 := X.out.c1
          have c2 := X.out.c2
          have c3 := X.out.c3
          go_region_held3 (fun w' => w'.cell? ⟨w1.heap.size, 0, none⟩ = some (.int .i64 (kd6 i).lo) ∧ w'.cell? ⟨w1.heap.size, 1, none⟩ = some (.int .i64 (kd6 i).hi) ∧ w'.cell? ⟨w1.heap.size, 2, none⟩ = some (.slice A (xs6 i).length cap) ∧ w'.cell? ⟨w1.heap.size, 3, none⟩ = some (.bool (kd6 i).week)) (go_keep)
            ((go_at_call 22; refine (parse_ctx (by first | exact X.out | exact X.out.drew) i6 _ z4 A4.out).mono ?_; rintro e w3 ⟨rfl, x2⟩; have X := Lib.hid x2; have c0 := x2.c0; have c1 := x2.c1; have c2 := x2.c2; have c3 := x2.c3; clear x2))
          go_wp2_with fail
          have c0 := X.out.c0
          have c1 := X.out.c1
          have c2 := X.out.c2
          have c3 := X.out.c3
          go_region_held3 (fun w' => w'.cell? ⟨w1.heap.size, 0, none⟩ = some (.int .i64 (kd6 i).lo) ∧ w'.cell? ⟨w1.heap.size, 1, none⟩ = some (.int .i64 (kd6 i).hi) ∧ w'.cell? ⟨w1.heap.size, 2, none⟩ = some (.slice A (xs6 i).length cap) ∧ w'.cell? ⟨w1.heap.size, 3, none⟩ = some (.bool (kd6 i).week)) (go_keep)
            ((go_at_call 22; refine (parse_ctx (by first | exact X.out | exact X.out.drew) i6 _ z2 A2.out).mono ?_; rintro e w4 ⟨rfl, x2⟩; have X := Lib.hid x2; have c0 := x2.c0; have c1 := x2.c1; have c2 := x2.c2; have c3 := x2.c3; clear x2))
          go_wp2_with fail
          have c0 := X.out.c0
          have c1 := X.out.c1
          have c2 := X.out.c2
          have c3 := X.out.c3
          go_region_held3 (fun w' => w'.cell? ⟨w1.heap.size, 0, none⟩ = some (.int .i64 (kd6 i).lo) ∧ w'.cell? ⟨w1.heap.size, 1, none⟩ = some (.int .i64 (kd6 i).hi) ∧ w'.cell? ⟨w1.heap.size, 2, none⟩ = some (.slice A (xs6 i).length cap) ∧ w'.cell? ⟨w1.heap.size, 3, none⟩ = some (.bool (kd6 i).week)) (go_keep)
            ((go_at_call 22; refine (parse_ctx (by first | exact X.out | exact X.out.drew) i6 _ z3 A3.out).mono ?_; rintro e w5 ⟨rfl, x2⟩; have X := Lib.hid x2; have c0 := x2.c0; have c1 := x2.c1; have c2 := x2.c2; have c3 := x2.c3; clear x2))
          go_wp2_with fail
          refine (works_any _ X.out.lay).mono ?_
          rintro e w6 ⟨rfl, hb⟩
          have X := Lib.hid (X.out.next hb)
          clear hb
          go_wp2_with fail
          go_ret
          exact ⟨rfl, X.out.below⟩
        · have u1 : ((e3 : Int) != 10) = true := by rw [bne_iff_ne]; omega
          have u2 : (e3 != 10) = true := by rw [bne_iff_ne]; omega
          clear h3
          go_enter Tryd.func10, Tryd.ntmps10
          go_wp2_with fail
          refine (SX.out _).mono ?_
          rintro e w1 ⟨v, rfl, hb, hv⟩
          have X := Lib.hid (Ctx.first LL.out hb hv)
          obtain ⟨A, cap, rfl, _, _⟩ := hv
          clear hb
          go_wp2_with fail
          refine (A1.out _ _ X.out.strs).mono ?_
          rintro e w2 ⟨rfl, hb⟩
          have X := Lib.hid (X.out.next hb)
          obtain ⟨_, _, _, _, c0, c1, c2, c3⟩ := X.out
          clear hb
          go_wp2_with fail
          have c0 := X.out.c0
          have c1 := X.out.c1
          have c2 := X.out.c2
          have c3 := X.out.c3
          go_region_held3 (fun w' => w'.cell? ⟨w1.heap.size, 0, none⟩ = some (.int .i64 (kd6 i).lo) ∧ w'.cell? ⟨w1.heap.size, 1, none⟩ = some (.int .i64 (kd6 i).hi) ∧ w'.cell? ⟨w1.heap.size, 2, none⟩ = some (.slice A (xs6 i).length cap) ∧ w'.cell? ⟨w1.heap.size, 3, none⟩ = some (.bool (kd6 i).week)) (go_keep)
            ((go_at_call 22; refine (parse_ctx (by first | exact X.out | exact X.out.drew) i6 _ z4 A4.out).mono ?_; rintro e w3 ⟨rfl, x2⟩; have X := Lib.hid x2; have c0 := x2.c0; have c1 := x2.c1; have c2 := x2.c2; have c3 := x2.c3; clear x2))
          go_wp2_with fail
          have c0 := X.out.c0
          have c1 := X.out.c1
          have c2 := X.out.c2
          have c3 := X.out.c3
          go_region_held3 (fun w' => w'.cell? ⟨w1.heap.size, 0, none⟩ = some (.int .i64 (kd6 i).lo) ∧ w'.cell? ⟨w1.heap.size, 1, none⟩ = some (.int .i64 (kd6 i).hi) ∧ w'.cell? ⟨w1.heap.size, 2, none⟩ = some (.slice A (xs6 i).length cap) ∧ w'.cell? ⟨w1.heap.size, 3, none⟩ = some (.bool (kd6 i).week)) (go_keep)
            ((go_at_call 22; refine (parse_ctx (by first | exact X.out | exact X.out.drew) i6 _ z2 A2.out).mono ?_; rintro e w4 ⟨rfl, x2⟩; have X := Lib.hid x2; have c0 := x2.c0; have c1 := x2.c1; have c2 := x2.c2; have c3 := x2.c3; clear x2))
          go_wp2_with fail
          have c0 := X.out.c0
          have c1 := X.out.c1
          have c2 := X.out.c2
          have c3 := X.out.c3
          go_region_held3 (fun w' => w'.cell? ⟨w1.heap.size, 0, none⟩ = some (.int .i64 (kd6 i).lo) ∧ w'.cell? ⟨w1.heap.size, 1, none⟩ = some (.int .i64 (kd6 i).hi) ∧ w'.cell? ⟨w1.heap.size, 2, none⟩ = some (.slice A (xs6 i).length cap) ∧ w'.cell? ⟨w1.heap.size, 3, none⟩ = some (.bool (kd6 i).week)) (go_keep)
            ((go_at_call 22; refine (parse_ctx (by first | exact X.out | exact X.out.drew) i6 _ z3 A3.out).mono ?_; rintro e w5 ⟨rfl, x2⟩; have X := Lib.hid x2; have c0 := x2.c0; have c1 := x2.c1; have c2 := x2.c2; have c3 := x2.c3; clear x2))
          go_wp2_with fail
          refine (works_any _ X.out.lay).mono ?_
          rintro e w6 ⟨rfl, hb⟩
          have X := Lib.hid (X.out.next hb)
          clear hb
          go_wp2_with fail
          go_ret
          exact ⟨rfl, X.out.below⟩
  · have q1 : decide ((a : Int) < (s.size : Int)) = false := by rw [decide_eq_false_iff_not]; omega
    have q2 : decide (a < s.size) = false := by rw [decide_eq_false_iff_not]; omega
    clear HC HS hf hP hQ hR hal
    rcases hQR with h2 | ⟨⟨rfl, rfl, rfl, rfl⟩, h3⟩
    · have u1 : ((e2 : Int) != 10) = true := by rw [bne_iff_ne]; omega
      have u2 : (e2 != 10) = true := by rw [bne_iff_ne]; omega
      clear h2
      go_enter Tryd.func10, Tryd.ntmps10
      go_wp2_with fail
      refine (SX.out _).mono ?_
      rintro e w1 ⟨v, rfl, hb, hv⟩
      have X := Lib.hid (Ctx.first LL.out hb hv)
      obtain ⟨A, cap, rfl, _, _⟩ := hv
      clear hb
      go_wp2_with fail
      refine (A1.out _ _ X.out.strs).mono ?_
      rintro e w2 ⟨rfl, hb⟩
      have X := Lib.hid (X.out.next hb)
      obtain ⟨_, _, _, _, c0, c1, c2, c3⟩ := X.out
      clear hb
      go_wp2_with fail
      have c0 := X.out.c0
      have c1 := X.out.c1
      have c2 := X.out.c2
      have c3 := X.out.c3
      go_region_held3 (fun w' => w'.cell? ⟨w1.heap.size, 0, none⟩ = some (.int .i64 (kd6 i).lo) ∧ w'.cell? ⟨w1.heap.size, 1, none⟩ = some (.int .i64 (kd6 i).hi) ∧ w'.cell? ⟨w1.heap.size, 2, none⟩ = some (.slice A (xs6 i).length cap) ∧ w'.cell? ⟨w1.heap.size, 3, none⟩ = some (.bool (kd6 i).week)) (go_keep)
        ((go_at_call 22; refine (parse_ctx (by first | exact X.out | exact X.out.drew) i6 _ z2 A2.out).mono ?_; rintro e w3 ⟨rfl, x2⟩; have X := Lib.hid x2; have c0 := x2.c0; have c1 := x2.c1; have c2 := x2.c2; have c3 := x2.c3; clear x2))
      go_wp2_with fail
      have c0 := X.out.c0
      have c1 := X.out.c1
      have c2 := X.out.c2
      have c3 := X.out.c3
      go_region_held3 (fun w' => w'.cell? ⟨w1.heap.size, 0, none⟩ = some (.int .i64 (kd6 i).lo) ∧ w'.cell? ⟨w1.heap.size, 1, none⟩ = some (.int .i64 (kd6 i).hi) ∧ w'.cell? ⟨w1.heap.size, 2, none⟩ = some (.slice A (xs6 i).length cap) ∧ w'.cell? ⟨w1.heap.size, 3, none⟩ = some (.bool (kd6 i).week)) (go_keep)
        ((go_at_call 22; refine (parse_ctx (by first | exact X.out | exact X.out.drew) i6 _ z3 A3.out).mono ?_; rintro e w4 ⟨rfl, x2⟩; have X := Lib.hid x2; have c0 := x2.c0; have c1 := x2.c1; have c2 := x2.c2; have c3 := x2.c3; clear x2))
      go_wp2_with fail
      refine (works_any _ X.out.lay).mono ?_
      rintro e w5 ⟨rfl, hb⟩
      have X := Lib.hid (X.out.next hb)
      clear hb
      go_wp2_with fail
      go_ret
      exact ⟨rfl, X.out.below⟩
    · have u1 : ((e3 : Int) != 10) = true := by rw [bne_iff_ne]; omega
      have u2 : (e3 != 10) = true := by rw [bne_iff_ne]; omega
      clear h3
      go_enter Tryd.func10, Tryd.ntmps10
      go_wp2_with fail
      refine (SX.out _).mono ?_
      rintro e w1 ⟨v, rfl, hb, hv⟩
      have X := Lib.hid (Ctx.first LL.out hb hv)
      obtain ⟨A, cap, rfl, _, _⟩ := hv
      clear hb
      go_wp2_with fail
      refine (A1.out _ _ X.out.strs).mono ?_
      rintro e w2 ⟨rfl, hb⟩
      have X := Lib.hid (X.out.next hb)
      obtain ⟨_, _, _, _, c0, c1, c2, c3⟩ := X.out
      clear hb
      go_wp2_with fail
      have c0 := X.out.c0
      have c1 := X.out.c1
      have c2 := X.out.c2
      have c3 := X.out.c3
      go_region_held3 (fun w' => w'.cell? ⟨w1.heap.size, 0, none⟩ = some (.int .i64 (kd6 i).lo) ∧ w'.cell? ⟨w1.heap.size, 1, none⟩ = some (.int .i64 (kd6 i).hi) ∧ w'.cell? ⟨w1.heap.size, 2, none⟩ = some (.slice A (xs6 i).length cap) ∧ w'.cell? ⟨w1.heap.size, 3, none⟩ = some (.bool (kd6 i).week)) (go_keep)
        ((go_at_call 22; refine (parse_ctx (by first | exact X.out | exact X.out.drew) i6 _ z2 A2.out).mono ?_; rintro e w3 ⟨rfl, x2⟩; have X := Lib.hid x2; have c0 := x2.c0; have c1 := x2.c1; have c2 := x2.c2; have c3 := x2.c3; clear x2))
      go_wp2_with fail
      have c0 := X.out.c0
      have c1 := X.out.c1
      have c2 := X.out.c2
      have c3 := X.out.c3
      go_region_held3 (fun w' => w'.cell? ⟨w1.heap.size, 0, none⟩ = some (.int .i64 (kd6 i).lo) ∧ w'.cell? ⟨w1.heap.size, 1, none⟩ = some (.int .i64 (kd6 i).hi) ∧ w'.cell? ⟨w1.heap.size, 2, none⟩ = some (.slice A (xs6 i).length cap) ∧ w'.cell? ⟨w1.heap.size, 3, none⟩ = some (.bool (kd6 i).week)) (go_keep)
        ((go_at_call 22; refine (parse_ctx (by first | exact X.out | exact X.out.drew) i6 _ z3 A3.out).mono ?_; rintro e w4 ⟨rfl, x2⟩; have X := Lib.hid x2; have c0 := x2.c0; have c1 := x2.c1; have c2 := x2.c2; have c3 := x2.c3; clear x2))
      go_wp2_with fail
      refine (works_any _ X.out.lay).mono ?_
      rintro e w5 ⟨rfl, hb⟩
      have X := Lib.hid (X.out.next hb)
      clear hb
      go_wp2_with fail
      go_ret
      exact ⟨rfl, X.out.below⟩

set_option maxRecDepth 100000 in
theorem lifted (os : Os) (started : os.Started) (H : Type) (enc : TypeId × Value → H) :
    ReturnsInHanded {} Tryd.checked os 10 .any (fun w args => (Rows.fieldPlacesSpec.pre enc Tryd.prog Tryd.f10 [] false w args ∧ laidMetH Tryd.prog Rows.fieldPlacesRow.laid w) ∧ sizedMet enc Tryd.prog Tryd.f10 (OpenSpec.ofChange Rows.fieldPlacesSpec) false w args)
      (Rows.fieldPlacesSpec.post enc Tryd.prog Tryd.f10 false true false false) := by
  refine returnsInHanded_of_change_and (C := Tryd.checked) (X := fun w _ => laidMetH Tryd.prog Rows.fieldPlacesRow.laid w) (fun _ _ _ hh h => h.of_heap hh) own started (by kernel_rfl) Tryd.func10
    (ChangeSpec.witness_shaped (enc := enc) (C := Tryd.checked) (os := os) (X := fun w _ => laidMetH Tryd.prog Rows.fieldPlacesRow.laid w) false (World.laidAll Tryd.prog os Rows.fieldPlacesRow.laid) #[.int .u8 0, .string ⟨#[]⟩, .string ⟨#[]⟩] 8 (World.laidAll_os _ _ _) (World.shaped_of_ZipB (by kernel_rfl) (by kernel_rfl)) (by kernel_rfl) (by kernel_rfl) (by kernel_rfl) (by rw [MakeChecks.laidMetH_plain _ _ _ (by kernel_rfl)]; exact laidMet_laidAll _ (by kernel_rfl) (by kernel_rfl))) ?_
  intro W base args ds gs before hval0 hW _ _ hL _
  have hval : ∀ (j : Nat) t v, Tryd.f10.params[j]? = some t → args[j]? = some v → Value.okWide Tryd.prog W .any base t v := hval0
  have hW' := hW
  obtain ⟨p, q, hA0, hV, rfl, hfz, hnd⟩ := hW
  have hA : DataW.TrodAll enc Tryd.prog W 0 (fun _ => true) true Tryd.f10.params.toList args.toList ds p := hA0
  rw [Tryd.params10] at hA hval
  obtain ⟨v0, vs0, d0, ds0, p0, q0, hargs, rfl, rfl, h0, r0⟩ := trodAll_cons hA
  obtain ⟨v1, vs1, d1, ds1, p1, q1, rfl, rfl, rfl, h1, r1⟩ := trodAll_cons r0
  obtain ⟨v2, vs2, d2, ds2, p2, q2, rfl, rfl, rfl, h2, r2⟩ := trodAll_cons r1
  obtain ⟨rfl, rfl, rfl⟩ := trodAll_nil r2
  obtain rfl : args = #[v0, v1, v2] := by cases args; simp_all
  obtain ⟨rfl, rfl⟩ := trodVars_none hV
  obtain ⟨a0, rfl, rfl, rfl, w0⟩ := open_int Tryd.underlying5 (hval 0 5 v0 rfl rfl) h0
  obtain ⟨a1, rfl, rfl, rfl, w1⟩ := open_string Tryd.underlying9 (hval 1 9 v1 rfl rfl) h1
  obtain ⟨a2, rfl, rfl, rfl, w2⟩ := open_string Tryd.underlying9 (hval 2 9 v2 rfl rfl) h2
  clear hA0 hval0
  refine (walk a0 a1 a2 W (lay_of _ W (by kernel_rfl) (.tail _ (.head _)) (by kernel_rfl) hL) w0 w1 w2).mono fun e W' ⟨he, bel⟩ => ?_
  subst he
  exact ⟨_, rfl, _, _, _, [], _, [], hW', trodAll_mk1 (shut_bool Tryd.underlying4 _), (trodAll_cons_mk (shut_int Tryd.underlying5 w0) (trodAll_cons_mk (shut_string Tryd.underlying9 w1) (trodAll_cons_mk (shut_string Tryd.underlying9 w2) trodAll_mk0))), rfl, bel.frame _, fun h => by cases h⟩

theorem row_holds : Rows.FieldPlacesSaid :=
  OpenClaim.holds_of_wide 10 Tryd.f10 rfl rfl rfl rfl rfl rfl rfl ⟨rfl, rfl, rfl, rfl, rfl⟩ rfl rfl rfl rfl rfl (by kernel_rfl) Tryd.func10 (by kernel_rfl)
    (of_decide_eq_true (by kernel_rfl)) (by unfold Func.isWrapper; first | (rw [if_pos (by decide +kernel)]; kernel_rfl) | (rw [if_neg (by decide +kernel)]; exact ⟨rfl, rfl⟩))
    (fun os started H enc _ => lifted os started H enc)

theorem proved : Rows.FieldPlacesCardSaid :=
  Claim7.holds_tied_plain_at .later [] Rows.fieldPlacesCard.laidKinds true Rows.fieldPlacesCard.stood.harness Rows.fieldPlacesCard.stood.looks
    row_holds (fun _ h => by cases h) (by kernel_rfl) (fun _ h => by cases h) fieldPlaces_row_tie rfl ⟨rfl, rfl⟩ (by kernel_rfl) rfl
    (fun f fn hf hfn => by
      obtain rfl : f = 10 := Option.some.inj ((show Tryd.prog.funcNamed Rows.fieldPlacesRow.func = some 10 by kernel_rfl).symm.trans hf) |>.symm
      obtain rfl : fn = Tryd.f10 := (Option.some.inj (Tryd.func10.symm.trans hfn)).symm
      exact ⟨looks0, fun j t ht => by
        rw [Tryd.params10] at ht
        have hm : t ∈ [5, 9] := by simpa using Array.mem_of_getElem? ht
        have hall : ([5, 9].all fun u => !Tryd.prog.wantsStandIn u) = true := by kernel_rfl
        exact (show Tryd.prog.wantsStandIn t = false by simpa using List.all_eq_true.1 hall t hm)⟩)
    (by kernel_rfl)
end Go.Proofs.YtlmbfhbfejjpdaaDoor.fieldPlaces
