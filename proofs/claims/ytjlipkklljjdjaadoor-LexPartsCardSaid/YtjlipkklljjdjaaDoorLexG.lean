/- Contract of the document's Number. -/
import Derived.Test.YtjlipkklljjdjaaDoorLexF
namespace Go.Proofs.YtjlipkklljjdjaaDoor
open Go.ChangeShapes Go.RowKit Go.Shelf

theorem NumIs.form {l : List UInt8} {v e : Int} (h : NumIs l v e) (hd : ¬ Dec l) : v = 0 ∧ e = 10 := by
  rcases h with ⟨_, a, b⟩ | ⟨q, _⟩ | ⟨q, _⟩ | ⟨q, _⟩
  · exact ⟨a, b⟩
  · exact (hd q).elim
  · exact (hd q).elim
  · exact (hd q).elim
theorem NumIs.over {l : List UInt8} {v e : Int} (h : NumIs l v e) (hd : Dec l) (hv : 9223372036854775808 < Num.val 0 (dl l)) : v = 0 ∧ e = 7 := by
  rcases h with ⟨q, _⟩ | ⟨_, _, q, _⟩ | ⟨_, _, q, _⟩ | ⟨_, _, a, b⟩
  · exact (q hd).elim
  · omega
  · omega
  · exact ⟨a, b⟩
theorem NumIs.neg {l : List UInt8} {v e : Int} (h : NumIs l v e) (hd : Dec l) (hn : l.head? = some 45) (hv : Num.val 0 (dl l) ≤ 9223372036854775808) : v = -(Num.val 0 (dl l) : Nat) ∧ e = 0 := by
  rcases h with ⟨q, _⟩ | ⟨_, _, _, a, b⟩ | ⟨_, q, _⟩ | ⟨_, q, _⟩
  · exact (q hd).elim
  · exact ⟨a, b⟩
  · exact (q hn).elim
  · rcases q with ⟨_, q⟩ | ⟨q, _⟩
    · omega
    · exact (q hn).elim
theorem NumIs.pos {l : List UInt8} {v e : Int} (h : NumIs l v e) (hd : Dec l) (hn : ¬ l.head? = some 45) (hv : Num.val 0 (dl l) < 9223372036854775808) : v = (Num.val 0 (dl l) : Nat) ∧ e = 0 := by
  rcases h with ⟨q, _⟩ | ⟨_, q, _⟩ | ⟨_, _, _, a, b⟩ | ⟨_, q, _⟩
  · exact (q hd).elim
  · exact (hn q).elim
  · exact ⟨a, b⟩
  · rcases q with ⟨q, _⟩ | ⟨_, q⟩
    · exact (hn q).elim
    · omega
theorem NumIs.posOver {l : List UInt8} {v e : Int} (h : NumIs l v e) (hd : Dec l) (hn : ¬ l.head? = some 45) (hv : Num.val 0 (dl l) = 9223372036854775808) : v = 0 ∧ e = 7 := by
  rcases h with ⟨q, _⟩ | ⟨_, q, _⟩ | ⟨_, _, q, _⟩ | ⟨_, _, a, b⟩
  · exact (q hd).elim
  · exact (hn q).elim
  · omega
  · exact ⟨a, b⟩
theorem digB_low {c : Nat} (h : digB c = false) : decide ((c : Int) < 48) = true ∨ (decide ((c : Int) < 48) = false ∧ decide ((57 : Int) < (c : Int)) = true) := by
  unfold digB at h
  by_cases a : c < 48
  · exact .inl (by simp; omega)
  · refine .inr ⟨by simp; omega, ?_⟩
    simp at h ⊢
    omega
theorem ret_two {v e a b : Int} (h : v = a ∧ e = b) : Ending.returned (.tuple #[.int .i64 a, .int .i64 b]) = .returned (.tuple #[.int .i64 v, .int .i64 e]) := by rw [h.1, h.2]

theorem td_lt {m c : Nat} (h0 : 48 ≤ c) (h1 : c ≤ 57) (h : 9223372036854775808 < 10 * m + (c - 48)) : decide (-(m : Int) < (-9223372036854775808 + ((c : Int) - 48)).tdiv 10) = true := by
  rw [decide_eq_true_iff]
  have e : (-9223372036854775808 + ((c : Int) - 48)) = -((9223372036854775808 + 48 - c : Nat) : Int) := by omega
  rw [e, Int.neg_tdiv, Int.tdiv_eq_ediv_of_nonneg (by omega)]
  omega
theorem td_ge {m c : Nat} (h0 : 48 ≤ c) (h1 : c ≤ 57) (h : 10 * m + (c - 48) ≤ 9223372036854775808) : decide (-(m : Int) < (-9223372036854775808 + ((c : Int) - 48)).tdiv 10) = false := by
  rw [decide_eq_false_iff_not]
  have e : (-9223372036854775808 + ((c : Int) - 48)) = -((9223372036854775808 + 48 - c : Nat) : Int) := by omega
  rw [e, Int.neg_tdiv, Int.tdiv_eq_ediv_of_nonneg (by omega)]
  omega
theorem step_num {m c : Nat} (h0 : 48 ≤ c) : (10 * -(m : Int) - ((c : Int) - 48)) = -((10 * m + (c - 48) : Nat) : Int) := by omega
theorem take_at (D : ByteArray) (k : Nat) (h : k < D.size) (m : Nat) (hv : Num.val 0 (D.data.toList.take k) = m) : Num.val 0 (D.data.toList.take (k + 1)) = 10 * m + (D[k].toNat - 48) := by
  have hl : k < D.data.toList.length := by rw [← Lib.size_eq]; exact h
  have e := Lib.data_getElem? D k h
  rw [List.getElem?_eq_getElem hl] at e
  rw [Num.val_take _ _ hl, hv, Option.some.inj e]

set_option maxRecDepth 100000 in
set_option maxHeartbeats 2000000 in
theorem rnumber_pos (s : ByteArray) (hs : s.size ≤ 65536) (v e : Int) (h : NumIs s.data.toList v e) (hp : 0 < s.size) (hn : ¬ s.data.toList.head? = some 45) (hc : ¬ (s[0].toNat = 48 ∧ 1 < s.size)) (w : World) :
    Calls Tryd.prog 23 #[.string s] w fun r w' => r = .returned (.tuple #[.int .i64 v, .int .i64 e]) ∧ w = w' := by
  have H := Lib.hid h
  have hl := dl_pos hn
  have HL := Lib.hid hl
  have HN := Lib.hid hn
  have h45 : ¬ s[0].toNat = 45 := fun e => hn (by rw [head_at s hp, UInt8.toNat_inj.1 (show s[0].toNat = (45 : UInt8).toNat by rw [e]; rfl)])
  have t1 : ((s[0].toNat : Int) == 45) = false := by rw [beq_eq_false_iff_ne]; omega
  have t0 : ((s.size : Int) == 0) = false := by rw [beq_eq_false_iff_ne]; omega
  have tl : decide ((s.size : Int) < (s.size : Int)) = false := by simp
  have DEC := Lib.hid (show AllB digB s → Dec s.data.toList from fun q => ⟨by rw [hl]; exact fun e => by have := (list_nil s).1 e; omega, by rw [hl]; exact (all_dg s).1 q, by
    rw [hl]
    intro e
    have e48 := (head_48 s hp).1 e
    have l1 : s.data.toList.length = 1 := by rw [← Lib.size_eq]; omega
    cases hx : s.data.toList with
    | nil => rw [hx] at l1; simp at l1
    | cons c r =>
      rw [hx] at l1 e
      have hr : r = [] := List.length_eq_zero_iff.1 (by simp at l1; exact by simpa using l1)
      obtain rfl : c = 48 := by simpa using e
      rw [hr]⟩)
  have NDEC := Lib.hid (show ¬ AllB digB s → ¬ Dec s.data.toList from fun q d => q ((all_dg s).2 (by rw [← hl]; exact d.2.1)))
  have tt : (((s[0].toNat : Int) == 48) = false) ∨ (((s[0].toNat : Int) == 48) = true ∧ decide ((1 : Int) < (s.size : Int)) = false) := by
    by_cases a : s[0].toNat = 48
    · exact .inr ⟨by rw [beq_iff_eq]; omega, by simp; omega⟩
    · exact .inl (by rw [beq_eq_false_iff_ne]; omega)
  clear h hl hn h45 hc
  rcases tt with t | ⟨t, tz⟩
  all_goals
    go_enter Tryd.func23, Tryd.ntmps23
    go_wp2_with fail
    go_loop [5] (fun i => ∃ k : Nat, k ≤ s.size ∧ i = .int .i64 k ∧ Hid (∀ j (hj : j < s.size), j < k → digB s[j].toNat = true)) (fun i => s.size - (intOf i).toNat)
    case atStart => exact ⟨0, Nat.zero_le _, rfl, Lib.hid fun j _ h => by omega⟩
    case round =>
      obtain ⟨k, hk, rfl, hall⟩ := hrel
      by_cases hlt : k < s.size
      · cases hb : digB s[k].toNat with
        | false =>
          have HB := Lib.hid (H.out.form (NDEC.out fun q => by rw [q k hlt] at hb; cases hb))
          rcases digB_low hb with g1 | ⟨g1, g2⟩
          all_goals
            clear hb
            go_wp2_with fail
            go_ret2
            exact ⟨ret_two HB.out, rfl⟩
        | true =>
          have g := (digB_iff _).1 hb
          have g1 : decide ((s[k].toNat : Int) < 48) = false := by simp; omega
          have g2 : decide ((57 : Int) < (s[k].toNat : Int)) = false := by simp; omega
          have HB := Lib.hid hb
          clear hb
          go_wp2_with fail
          go_round
          case rel => exact ⟨k + 1, by omega, by go_num, Lib.hid fun j hj hjk => by
            rcases Nat.lt_or_ge j k with a | a
            · exact hall.out j hj a
            · obtain rfl : j = k := by omega
              exact HB.out⟩
          case measure => simp [intOf]; omega
      · have ALL := Lib.hid (show AllB digB s from fun j hj => hall.out j hj (by omega))
        have DC := Lib.hid (DEC.out ALL.out)
        clear hall
        go_wp2_with fail
        go_loop [6, 7] (fun n i => ∃ k m : Nat, k ≤ s.size ∧ i = .int .i64 k ∧ n = .int .i64 (-(m : Int)) ∧ m ≤ 9223372036854775808 ∧ Hid (Num.val 0 (s.data.toList.take k) = m)) (fun _ i => s.size - (intOf i).toNat)
        case atStart => exact ⟨0, 0, Nat.zero_le _, rfl, rfl, by omega, Lib.hid (by rw [List.take_zero, Num.val_nil])⟩
        case round =>
          obtain ⟨k, m, hk, rfl, rfl, hm, hv⟩ := hrel
          by_cases hlt : k < s.size
          · obtain ⟨g1, g2⟩ := (digB_iff _).1 (ALL.out k hlt)
            have g1' : (48 : Int) ≤ (s[k].toNat : Int) := by omega
            have g2' : (s[k].toNat : Int) ≤ 57 := by omega
            have HT := Lib.hid (take_at s k hlt m hv.out)
            have HE := Lib.hid (step_num (m := m) g1)
            by_cases hf : 10 * m + (s[k].toNat - 48) ≤ 9223372036854775808
            · have g3 := td_ge g1 g2 hf
              have hfi : 10 * (m : Int) + ((s[k].toNat : Int) - 48) ≤ 9223372036854775808 := by omega
              go_wp2_with fail
              go_round
              case rel => exact ⟨k + 1, _, by omega, by go_num, by rw [HE.out], hf, HT⟩
              case measure => simp [intOf]; omega
            · have g3 := td_lt (m := m) g1 g2 (by omega)
              have HO := Lib.hid (H.out.over DC.out (by
                have := Num.val_take_le s.data.toList (k + 1) 0
                rw [HT.out] at this
                rw [HL.out]
                omega))
              clear hf
              go_wp2_with fail
              go_ret2
              exact ⟨ret_two HO.out, rfl⟩
          · have HV := Lib.hid (show Num.val 0 (dl s.data.toList) = m by
              rw [HL.out, ← hv.out, List.take_of_length_le (by rw [← Lib.size_eq]; omega)])
            by_cases hq : m = 9223372036854775808
            · have tq : (-(m : Int) == -9223372036854775808) = true := by rw [beq_iff_eq]; omega
              have HO := Lib.hid (H.out.posOver DC.out HN.out (HV.out.trans hq))
              clear hq
              go_wp2_with fail
              go_ret2
              exact ⟨ret_two HO.out, rfl⟩
            · have tq : (-(m : Int) == -9223372036854775808) = false := by rw [beq_eq_false_iff_ne]; omega
              have HO := Lib.hid (H.out.pos DC.out HN.out (by rw [HV.out]; omega))
              have hm2 : m ≤ 9223372036854775807 := by omega
              rw [HV.out] at HO
              clear hq
              go_wp2_with fail
              go_ret2
              refine ⟨?_, rfl⟩
              rw [HO.out.1, HO.out.2]
              simp
set_option maxRecDepth 100000 in
set_option maxHeartbeats 2000000 in
theorem rnumber_neg (s D : ByteArray) (hs : s.size ≤ 65536) (v e : Int) (h : NumIs s.data.toList v e) (hp : 0 < s.size) (hn : s.data.toList.head? = some 45) (hD : s.extract 1 s.size = D) (hd : 0 < D.size) (hc : ¬ D[0].toNat = 48) (w : World) :
    Calls Tryd.prog 23 #[.string s] w fun r w' => r = .returned (.tuple #[.int .i64 v, .int .i64 e]) ∧ w = w' := by
  have H := Lib.hid h
  have hl : dl s.data.toList = D.data.toList := by rw [← dgs_list]; unfold dgs; rw [if_pos hn, hD]
  have HL := Lib.hid hl
  have HN := Lib.hid hn
  have hsz : D.size + 1 = s.size := by
    have : D.size = s.size - 1 := by rw [← hD]; simp
    omega
  have h45 : s[0].toNat = 45 := by rw [head_at s hp] at hn; rw [Option.some.inj hn]; rfl
  have t1 : ((s[0].toNat : Int) == 45) = true := by rw [beq_iff_eq]; omega
  have t0 : ((D.size : Int) == 0) = false := by rw [beq_eq_false_iff_ne]; omega
  have t : ((D[0].toNat : Int) == 48) = false := by rw [beq_eq_false_iff_ne]; omega
  have h48 := head_48 D hd
  have DEC := Lib.hid (show AllB digB D → Dec s.data.toList from fun q => ⟨by rw [hl]; exact fun e => by have := (list_nil D).1 e; omega, by rw [hl]; exact (all_dg D).1 q, by
    rw [hl]
    exact fun e => (hc (h48.1 e)).elim⟩)
  have NDEC := Lib.hid (show ¬ AllB digB D → ¬ Dec s.data.toList from fun q d => q ((all_dg D).2 (by rw [← hl]; exact d.2.1)))
  have HSZ := Lib.hid hsz
  have hlt0 : D.size < s.size := by omega
  have hds : D.size ≤ 65536 := by omega
  clear h hl hn h45 hc h48 hsz
  go_enter Tryd.func23, Tryd.ntmps23
  go_wp2_with fail
  go_loop [5] (fun i => ∃ k : Nat, k ≤ D.size ∧ i = .int .i64 k ∧ Hid (∀ j (hj : j < D.size), j < k → digB D[j].toNat = true)) (fun i => D.size - (intOf i).toNat)
  case atStart => exact ⟨0, Nat.zero_le _, rfl, Lib.hid fun j _ h => by omega⟩
  case round =>
    obtain ⟨k, hk, rfl, hall⟩ := hrel
    by_cases hlt : k < D.size
    · cases hb : digB D[k].toNat with
      | false =>
        have HB := Lib.hid (H.out.form (NDEC.out fun q => by rw [q k hlt] at hb; cases hb))
        rcases digB_low hb with g1 | ⟨g1, g2⟩
        all_goals
          clear hb
          go_wp2_with fail
          go_ret2
          exact ⟨ret_two HB.out, rfl⟩
      | true =>
        have g := (digB_iff _).1 hb
        have g1 : decide ((D[k].toNat : Int) < 48) = false := by simp; omega
        have g2 : decide ((57 : Int) < (D[k].toNat : Int)) = false := by simp; omega
        have HB := Lib.hid hb
        clear hb
        go_wp2_with fail
        go_round
        case rel => exact ⟨k + 1, by omega, by go_num, Lib.hid fun j hj hjk => by
          rcases Nat.lt_or_ge j k with a | a
          · exact hall.out j hj a
          · obtain rfl : j = k := by omega
            exact HB.out⟩
        case measure => simp [intOf]; omega
    · have ALL := Lib.hid (show AllB digB D from fun j hj => hall.out j hj (by omega))
      have DC := Lib.hid (DEC.out ALL.out)
      clear hall
      go_wp2_with fail
      go_loop [6, 7] (fun n i => ∃ k m : Nat, k ≤ D.size ∧ i = .int .i64 k ∧ n = .int .i64 (-(m : Int)) ∧ m ≤ 9223372036854775808 ∧ Hid (Num.val 0 (D.data.toList.take k) = m)) (fun _ i => D.size - (intOf i).toNat)
      case atStart => exact ⟨0, 0, Nat.zero_le _, rfl, rfl, by omega, Lib.hid (by rw [List.take_zero, Num.val_nil])⟩
      case round =>
        obtain ⟨k, m, hk, rfl, rfl, hm, hv⟩ := hrel
        by_cases hlt : k < D.size
        · obtain ⟨g1, g2⟩ := (digB_iff _).1 (ALL.out k hlt)
          have g1' : (48 : Int) ≤ (D[k].toNat : Int) := by omega
          have g2' : (D[k].toNat : Int) ≤ 57 := by omega
          have HT := Lib.hid (take_at D k hlt m hv.out)
          have HE := Lib.hid (step_num (m := m) g1)
          by_cases hf : 10 * m + (D[k].toNat - 48) ≤ 9223372036854775808
          · have g3 := td_ge g1 g2 hf
            have hfi : 10 * (m : Int) + ((D[k].toNat : Int) - 48) ≤ 9223372036854775808 := by omega
            go_wp2_with fail
            go_round
            case rel => exact ⟨k + 1, _, by omega, by go_num, by rw [HE.out], hf, HT⟩
            case measure => simp [intOf]; omega
          · have g3 := td_lt (m := m) g1 g2 (by omega)
            have HO := Lib.hid (H.out.over DC.out (by
              have := Num.val_take_le D.data.toList (k + 1) 0
              rw [HT.out] at this
              rw [HL.out]
              omega))
            clear hf
            go_wp2_with fail
            go_ret2
            exact ⟨ret_two HO.out, rfl⟩
        · have HV := Lib.hid (show Num.val 0 (dl s.data.toList) = m by
            rw [HL.out, ← hv.out, List.take_of_length_le (by rw [← Lib.size_eq]; omega)])
          have HO := Lib.hid (H.out.neg DC.out HN.out (by rw [HV.out]; omega))
          rw [HV.out] at HO
          go_wp2_with fail
          go_ret2
          exact ⟨ret_two HO.out, rfl⟩
theorem rnumber_form (s D : ByteArray) (hs : s.size ≤ 65536) (hd : dgs s = D) (h : D.size = 0 ∨ ∃ hp : 0 < D.size, D[0].toNat = 48 ∧ 1 < s.size) (w : World) :
    Calls Tryd.prog 23 #[.string s] w fun r w' => r = .returned (.tuple #[.int .i64 0, .int .i64 10]) ∧ w = w' := by
  by_cases hp : 0 < s.size
  · by_cases hn : s.data.toList.head? = some 45
    · have h45 : s[0].toNat = 45 := by rw [head_at s hp] at hn; rw [Option.some.inj hn]; rfl
      have t1 : ((s[0].toNat : Int) == 45) = true := by rw [beq_iff_eq]; omega
      have hD : s.extract 1 s.size = D := by rw [← hd]; unfold dgs; rw [if_pos hn]
      clear hd hn h45
      rcases h with h | ⟨hq, h48, h1⟩
      · have t0 : ((D.size : Int) == 0) = true := by rw [beq_iff_eq]; omega
        have h0 : D.size ≤ 0 := by omega
        clear h
        go_enter Tryd.func23, Tryd.ntmps23
        go_wp2_with fail
        go_ret2
        exact ⟨rfl, rfl⟩
      · have t0 : ((D.size : Int) == 0) = false := by rw [beq_eq_false_iff_ne]; omega
        have t : ((D[0].toNat : Int) == 48) = true := by rw [beq_iff_eq]; omega
        clear h48
        go_enter Tryd.func23, Tryd.ntmps23
        go_wp2_with fail
        go_ret2
        exact ⟨rfl, rfl⟩
    · have h45 : ¬ s[0].toNat = 45 := fun e => hn (by rw [head_at s hp, UInt8.toNat_inj.1 (show s[0].toNat = (45 : UInt8).toNat by rw [e]; rfl)])
      have t1 : ((s[0].toNat : Int) == 45) = false := by rw [beq_eq_false_iff_ne]; omega
      obtain rfl : s = D := by rw [← hd]; unfold dgs; rw [if_neg hn]
      clear hd hn h45
      rcases h with h | ⟨hq, h48, h1⟩
      · omega
      · have t0 : ((s.size : Int) == 0) = false := by rw [beq_eq_false_iff_ne]; omega
        have t : ((s[0].toNat : Int) == 48) = true := by rw [beq_iff_eq]; omega
        clear h48
        go_enter Tryd.func23, Tryd.ntmps23
        go_wp2_with fail
        go_ret2
        exact ⟨rfl, rfl⟩
  · have t0 : ((s.size : Int) == 0) = true := by rw [beq_iff_eq]; omega
    have tp : decide ((0 : Int) < (s.size : Int)) = false := by rw [decide_eq_false_iff_not]; omega
    have tp' : ¬ 0 < s.size := hp
    clear h hd
    go_enter Tryd.func23, Tryd.ntmps23
    go_wp2_with fail
    go_ret2
    exact ⟨rfl, rfl⟩
theorem rnumber_any (s : ByteArray) (hs : s.size ≤ 65536) (v e : Int) (h : NumIs s.data.toList v e) (w : World) :
    Calls Tryd.prog 23 #[.string s] w fun r w' => r = .returned (.tuple #[.int .i64 v, .int .i64 e]) ∧ w = w' := by
  have hl := dgs_list s
  have nd : ((dgs s).size = 0 ∨ ∃ hp : 0 < (dgs s).size, (dgs s)[0].toNat = 48 ∧ 1 < s.size) → ¬ Dec s.data.toList := by
    rintro (q | ⟨hp, q, h1⟩) d
    · exact d.1 (by rw [← hl]; exact (list_nil _).2 q)
    · have e := d.2.2 (by rw [← hl]; exact (head_48 _ hp).2 q)
      have := congrArg List.length e
      rw [← Lib.size_eq] at this
      simp at this
      omega
  by_cases q : (dgs s).size = 0 ∨ ∃ hp : 0 < (dgs s).size, (dgs s)[0].toNat = 48 ∧ 1 < s.size
  · obtain ⟨rfl, rfl⟩ := h.form (nd q)
    exact rnumber_form s _ hs rfl q w
  · have q0 : 0 < (dgs s).size := by
      rcases Nat.eq_zero_or_pos (dgs s).size with a | a
      · exact (q (.inl a)).elim
      · exact a
    by_cases hn : s.data.toList.head? = some 45
    · have hp : 0 < s.size := by
        rcases Nat.eq_zero_or_pos s.size with a | a
        · rw [(list_nil s).2 a] at hn; simp at hn
        · exact a
      have hD : dgs s = s.extract 1 s.size := by unfold dgs; rw [if_pos hn]
      refine rnumber_neg s (s.extract 1 s.size) hs v e h hp hn rfl (by rw [← hD]; exact q0) ?_ w
      intro e48
      have hz : (dgs s).size = s.size - 1 := by rw [hD]; simp
      refine q (.inr ⟨q0, ?_, by omega⟩)
      simp only [hD]
      exact e48
    · have hD : dgs s = s := by unfold dgs; rw [if_neg hn]
      refine rnumber_pos s hs v e h (by rw [← hD]; exact q0) hn ?_ w
      rintro ⟨a, b⟩
      refine q (.inr ⟨q0, ?_, b⟩)
      simp only [hD]
      exact a
end Go.Proofs.YtjlipkklljjdjaaDoor
