/- The document's name and value. Written by FldEE.gen.py. -/
import Derived.Test.YtlmbfhbfejjpdaaGreatDoorFldDD
namespace Go.Proofs.YtlmbfhbfejjpdaaGreatDoor
open Go.ChangeShapes Go.WideShapes Go.RowKit Go.Shelf

theorem str_beq (x y : ByteArray) : (x.toList == y.toList) = (x.data.toList == y.data.toList) := by rw [ByteArray.toList_eq, ByteArray.toList_eq]
/-- the letters read so far, in upper case -/
def upTo (s : ByteArray) (a k : Nat) : List UInt8 := ((s.data.toList.drop a).take (k - a)).map Fld.up
theorem upTo_succ (s : ByteArray) (a k : Nat) (h1 : a ≤ k) (h2 : k < s.size) : upTo s a (k + 1) = upTo s a k ++ [Fld.up s[k]] := by
  unfold upTo
  have hl : k - a < (s.data.toList.drop a).length := by rw [List.length_drop, ← Lib.size_eq]; omega
  rw [show k + 1 - a = (k - a) + 1 by omega, List.take_succ_eq_append_getElem hl, List.map_append]
  congr 1
  simp only [List.map_cons, List.map_nil, List.cons.injEq, and_true]
  rw [List.getElem_drop]
  congr 1
  simp only [show a + (k - a) = k by omega]
  rfl
theorem up_lo {c : UInt8} (h : Fld.letN c.toNat = true) (h2 : 97 ≤ c.toNat) : Fld.up c = UInt8.ofNat (c.toNat - 32) := by
  unfold Fld.letN Fld.upN Fld.loN at h
  simp only [Bool.or_eq_true, decide_eq_true_iff] at h
  unfold Fld.up Fld.loN
  rw [if_pos (by simp only [decide_eq_true_iff]; omega)]
theorem up_hi {c : UInt8} (h2 : ¬ 97 ≤ c.toNat) : Fld.up c = c := by
  unfold Fld.up Fld.loN
  rw [if_neg (by simp only [decide_eq_true_iff]; omega)]
/-- what the document's name returns -/
def NameRes (K : Fld.Kd) (xs : List ByteArray) (D : List UInt8) (a e0 n b : Nat) (ok : Bool) : Prop :=
  ((∀ j (h : j < xs.length), (xs[j].data.toList == D) = false) ∧ n = 0 ∧ b = a ∧ ok = false) ∨
  ∃ k : Nat, ∃ h : k < xs.length, (xs[k].data.toList == D) = true ∧ (∀ j (hj : j < k), (xs[j].data.toList == D) = false) ∧ n = K.lo + k ∧ b = e0 ∧ ok = true
theorem letN_bd {c : Nat} (h : Fld.letN c = true) : 65 ≤ c ∧ c ≤ 122 := by
  unfold Fld.letN Fld.upN Fld.loN at h
  simp only [Bool.or_eq_true, decide_eq_true_iff] at h
  omega
attribute [local go_sem] conv_oneR
set_option maxRecDepth 100000 in
set_option maxHeartbeats 4000000 in
theorem nameR_raw (K : Fld.Kd) (v : Value) (xs : List ByteArray) (s : ByteArray) (a e0 n b : Nat) (ok : Bool) (w : World) (hv : IsStrs w v xs) (hu : Upto Fld.letN s a e0) (hs : s.size ≤ 9223372036854775000) (hlo : K.lo ≤ 62) (hl : xs.length ≤ 70) (hr : NameRes K xs (upTo s a e0) a e0 n b ok) :
    Calls Tryz.prog 84 #[.agg #[.int .i64 K.lo, .int .i64 K.hi, v, .bool K.week], .string s, .int .i64 a] w fun e w' => e = .returned (.tuple #[.int .i64 n, .int .i64 b, .bool ok]) ∧ Below w.heap.size w w' := by
  have X := Lib.hid (KBox.new w K.lo K.hi v xs K.week 33 hv)
  obtain ⟨A, cap, rfl, _, _⟩ := hv
  have HU := Lib.hid hu
  have hle := hu.le
  have hfit := hu.fit
  have HR := Lib.hid hr
  obtain ⟨D, hD⟩ : ∃ D, upTo s a e0 = D := ⟨_, rfl⟩
  rw [hD] at HR
  have HD := Lib.hid hD
  clear hu hr hD
  go_enter Tryz.func84, Tryz.ntmps84
  go_wp2_with fail
  go_loopw [9, 10] (fun e t wr => ∃ (k : Nat) (T : ByteArray), a ≤ k ∧ k ≤ e0 ∧ e = .int .i64 k ∧ t = .string T ∧ T.size ≤ k ∧ Hid (T.data.toList = upTo s a k) ∧ Hid (KBox w wr w.heap.size K.lo K.hi (.slice A xs.length cap) xs K.week)) (fun e _ _ => e0 - (intOf e).toNat)
  case atStart => exact ⟨a, ⟨#[]⟩, Nat.le_refl _, hle, rfl, rfl, Nat.zero_le _, Lib.hid (by unfold upTo; rw [Nat.sub_self, List.take_zero]; rfl), X⟩
  case round =>
    obtain ⟨k, T, hk1, hk2, rfl, rfl, hT, HT, X⟩ := hrel
    by_cases hk : k < s.size
    · have t1 : decide ((k : Int) < (s.size : Int)) = true := by rw [decide_eq_true_iff]; omega
      have t1n : decide (k < s.size) = true := by rw [decide_eq_true_iff]; omega
      have i0 : (0 : Int) ≤ (k : Int) := by omega
      have i1 : (k : Int) < (s.size : Int) := by omega
      by_cases hlt : k < e0
      · have hlet := HU.out.yes k hk hk1 hlt
        have LT := Lib.hid (fun w => letterR_any s[k].toNat true hlet w)
        obtain ⟨b65, b122⟩ := letN_bd hlet
        have US := Lib.hid (upTo_succ s a k hk1 hk)
        by_cases h97 : 97 ≤ s[k].toNat
        · have g1 : decide ((97 : Int) ≤ (s[k].toNat : Int)) = true := by rw [decide_eq_true_iff]; omega
          have g1n : decide (97 ≤ s[k].toNat) = true := by rw [decide_eq_true_iff]; omega
          have UP := Lib.hid (up_lo hlet h97)
          have sz : (strOfNums [(s[k].toNat : Int) - 97 + 65]).size = 1 := rfl
          clear hlet
          go_wp2_with fail
          refine (LT.out _).mono ?_
          rintro e w1 ⟨rfl, rfl⟩
          go_wp2_with fail
          go_roundw
          case rel => exact ⟨k + 1, _, by omega, by omega, by go_num, rfl, by rw [ByteArray.size_append]; show T.size + 1 ≤ _; omega, Lib.hid (by rw [app_list, HT.out, US.out, UP.out, nums_oneR _ (s[k].toNat - 32) (by omega)]), Lib.hid (X.out.next ((Below.refl _ _).alloc (Nat.le_refl _) _))⟩
          case measure => simp [intOf]; omega
        · have g1 : decide ((97 : Int) ≤ (s[k].toNat : Int)) = false := by rw [decide_eq_false_iff_not]; omega
          have g1n : decide (97 ≤ s[k].toNat) = false := by rw [decide_eq_false_iff_not]; omega
          have UP := Lib.hid (up_hi h97)
          have sz : (strOfNums [(s[k].toNat : Int)]).size = 1 := rfl
          clear hlet
          go_wp2_with fail
          refine (LT.out _).mono ?_
          rintro e w1 ⟨rfl, rfl⟩
          go_wp2_with fail
          go_roundw
          case rel => exact ⟨k + 1, _, by omega, by omega, by go_num, rfl, by rw [ByteArray.size_append]; show T.size + 1 ≤ _; omega, Lib.hid (by rw [app_list, HT.out, US.out, UP.out, nums_oneR _ s[k].toNat rfl]; simp), Lib.hid (X.out.next ((Below.refl _ _).alloc (Nat.le_refl _) _))⟩
          case measure => simp [intOf]; omega
      · obtain rfl : k = e0 := by omega
        have LT := Lib.hid (fun w => letterR_any s[k].toNat false (HU.out.no hk) w)
        have HTD : Hid (T.data.toList = D) := Lib.hid (HT.out.trans HD.out)
        clear hlt
        go_wp2_with fail
        refine (LT.out _).mono ?_
        rintro e w1 ⟨rfl, rfl⟩
        clear HU
        go_wp2_with fail
        go_loopw [12] (fun i wr => ∃ m : Nat, m ≤ xs.length ∧ i = .int .i64 m ∧ Hid (∀ j (h : j < xs.length), j < m → (xs[j].data.toList == D) = false) ∧ Hid (KBox w wr w.heap.size K.lo K.hi (.slice A xs.length cap) xs K.week)) (fun i _ => xs.length - (intOf i).toNat)
        case atStart => exact ⟨0, Nat.zero_le _, rfl, Lib.hid (fun j _ h => by omega), X⟩
        case round =>
          obtain ⟨m, hm, rfl, hno, X⟩ := hrel
          have c0 := X.out.c0
          have c2 := X.out.c2
          by_cases hml : m < xs.length
          · have m1 : decide ((m : Int) < (xs.length : Int)) = true := by rw [decide_eq_true_iff]; omega
            have m1n : decide (m < xs.length) = true := by rw [decide_eq_true_iff]; omega
            have i0 : (0 : Int) ≤ (m : Int) := by omega
            have i1 : (m : Int) < (xs.length : Int) := by omega
            obtain ⟨b, o, e, _, g⟩ := X.out.strs.at_ m hml
            cases e
            cases hq : (xs[m].data.toList == D) with
            | true =>
              have HQ := Lib.hid hq
              have ne : (xs[m].toList == T.toList) = true := by rw [str_beq, HTD.out]; exact hq
              obtain ⟨x, hx⟩ : ∃ x, xs[m] = x := ⟨_, rfl⟩
              rw [hx] at g ne
              clear hq hx
              go_wp2_with fail
              go_ret3
              rcases HR.out with ⟨h, _⟩ | ⟨k', h1, h2, h3, rfl, rfl, rfl⟩
              · have := h m hml; rw [HQ.out] at this; cases this
              · have a1 : ¬ m < k' := fun q => by have := h3 m q; rw [HQ.out] at this; cases this
                have a2 : ¬ k' < m := fun q => by have := hno.out k' h1 q; rw [h2] at this; cases this
                obtain rfl : m = k' := by omega
                exact ⟨ret_iib (by omega) rfl rfl, X.out.below⟩
            | false =>
              have HQ := Lib.hid hq
              have ne : (xs[m].toList == T.toList) = false := by rw [str_beq, HTD.out]; exact hq
              obtain ⟨x, hx⟩ : ∃ x, xs[m] = x := ⟨_, rfl⟩
              rw [hx] at g ne
              clear hq hx
              go_wp2_with fail
              go_roundw
              case rel => exact ⟨m + 1, by omega, by go_num, Lib.hid (fun j hj hjm => by
                rcases Nat.lt_or_ge j m with q | q
                · exact hno.out j hj q
                · obtain rfl : j = m := by omega
                  exact HQ.out), X⟩
              case measure => simp [intOf]; omega
          · have m1 : decide ((m : Int) < (xs.length : Int)) = false := by rw [decide_eq_false_iff_not]; omega
            have m1n : decide (m < xs.length) = false := by rw [decide_eq_false_iff_not]; omega
            go_wp2_with fail
            go_ret3
            rcases HR.out with ⟨_, rfl, rfl, rfl⟩ | ⟨k', h1, h2, h3, rfl, rfl, rfl⟩
            · exact ⟨rfl, X.out.below⟩
            · have := hno.out k' h1 (by omega); rw [h2] at this; cases this
    · obtain rfl : k = e0 := by omega
      have t1 : decide ((k : Int) < (s.size : Int)) = false := by rw [decide_eq_false_iff_not]; omega
      have t1n : decide (k < s.size) = false := by rw [decide_eq_false_iff_not]; omega
      have HTD : Hid (T.data.toList = D) := Lib.hid (HT.out.trans HD.out)
      clear HU
      go_wp2_with fail
      go_loopw [12] (fun i wr => ∃ m : Nat, m ≤ xs.length ∧ i = .int .i64 m ∧ Hid (∀ j (h : j < xs.length), j < m → (xs[j].data.toList == D) = false) ∧ Hid (KBox w wr w.heap.size K.lo K.hi (.slice A xs.length cap) xs K.week)) (fun i _ => xs.length - (intOf i).toNat)
      case atStart => exact ⟨0, Nat.zero_le _, rfl, Lib.hid (fun j _ h => by omega), X⟩
      case round =>
        obtain ⟨m, hm, rfl, hno, X⟩ := hrel
        have c0 := X.out.c0
        have c2 := X.out.c2
        by_cases hml : m < xs.length
        · have m1 : decide ((m : Int) < (xs.length : Int)) = true := by rw [decide_eq_true_iff]; omega
          have m1n : decide (m < xs.length) = true := by rw [decide_eq_true_iff]; omega
          have i0 : (0 : Int) ≤ (m : Int) := by omega
          have i1 : (m : Int) < (xs.length : Int) := by omega
          obtain ⟨b, o, e, _, g⟩ := X.out.strs.at_ m hml
          cases e
          cases hq : (xs[m].data.toList == D) with
          | true =>
            have HQ := Lib.hid hq
            have ne : (xs[m].toList == T.toList) = true := by rw [str_beq, HTD.out]; exact hq
            obtain ⟨x, hx⟩ : ∃ x, xs[m] = x := ⟨_, rfl⟩
            rw [hx] at g ne
            clear hq hx
            go_wp2_with fail
            go_ret3
            rcases HR.out with ⟨h, _⟩ | ⟨k', h1, h2, h3, rfl, rfl, rfl⟩
            · have := h m hml; rw [HQ.out] at this; cases this
            · have a1 : ¬ m < k' := fun q => by have := h3 m q; rw [HQ.out] at this; cases this
              have a2 : ¬ k' < m := fun q => by have := hno.out k' h1 q; rw [h2] at this; cases this
              obtain rfl : m = k' := by omega
              exact ⟨ret_iib (by omega) rfl rfl, X.out.below⟩
          | false =>
            have HQ := Lib.hid hq
            have ne : (xs[m].toList == T.toList) = false := by rw [str_beq, HTD.out]; exact hq
            obtain ⟨x, hx⟩ : ∃ x, xs[m] = x := ⟨_, rfl⟩
            rw [hx] at g ne
            clear hq hx
            go_wp2_with fail
            go_roundw
            case rel => exact ⟨m + 1, by omega, by go_num, Lib.hid (fun j hj hjm => by
              rcases Nat.lt_or_ge j m with q | q
              · exact hno.out j hj q
              · obtain rfl : j = m := by omega
                exact HQ.out), X⟩
            case measure => simp [intOf]; omega
        · have m1 : decide ((m : Int) < (xs.length : Int)) = false := by rw [decide_eq_false_iff_not]; omega
          have m1n : decide (m < xs.length) = false := by rw [decide_eq_false_iff_not]; omega
          go_wp2_with fail
          go_ret3
          rcases HR.out with ⟨_, rfl, rfl, rfl⟩ | ⟨k', h1, h2, h3, rfl, rfl, rfl⟩
          · exact ⟨rfl, X.out.below⟩
          · have := hno.out k' h1 (by omega); rw [h2] at this; cases this

/-! value -/
/-- what reading a value from place a on says: the number, the place behind it, whether there is one -/
def ValRes (K : Fld.Kd) (s : ByteArray) (a n b : Nat) (ok : Bool) : Prop :=
  (Fld.value K (s.data.toList.drop a) = none ∧ n = 0 ∧ b = a ∧ ok = false) ∨ ∃ k, Fld.value K (s.data.toList.drop a) = some (n, k) ∧ b = a + k ∧ ok = true
def NumRes (s : ByteArray) (a n b : Nat) (ok : Bool) : Prop :=
  (Fld.num (s.data.toList.drop a) = none ∧ n = 0 ∧ b = a ∧ ok = false) ∨ ∃ k, Fld.num (s.data.toList.drop a) = some (n, k) ∧ b = a + k ∧ ok = true
theorem numberR_any (s : ByteArray) (a n b : Nat) (ok : Bool) (w : World) (ha : a ≤ s.size) (hs : s.size ≤ 9223372036854775000) (h : NumRes s a n b ok) :
    Calls Tryz.prog 69 #[.string s, .int .i64 a] w fun e w' => e = .returned (.tuple #[.int .i64 n, .int .i64 b, .bool ok]) ∧ w = w' := by
  rcases h with ⟨h, rfl, rfl, rfl⟩ | ⟨k, h, rfl, rfl⟩
  · exact numberR_none s b w ha hs h
  · exact numberR_some s a n k w ha hs h
theorem lets_head {s : ByteArray} {a : Nat} (hl : a < s.size) : Fld.lets (s.data.toList.drop a) = [] ↔ Fld.letN s[a].toNat = false := by
  rw [drop_cons s a hl]
  unfold Fld.lets
  rw [List.takeWhile_cons]
  show (if Fld.letN s[a].toNat = true then _ else _) = [] ↔ _
  cases Fld.letN s[a].toNat <;> simp
theorem nameRes_of {K : Fld.Kd} {xs : List ByteArray} {s : ByteArray} {a e0 n b : Nat} {ok : Bool} (hk : KdIs K.lo K.hi xs K.week K) (hu : Upto Fld.letN s a e0) (hl : Fld.lets (s.data.toList.drop a) ≠ []) (h : ValRes K s a n b ok) : NameRes K xs (upTo s a e0) a e0 n b ok := by
  have hD : upTo s a e0 = (s.extract a e0).data.toList.map Fld.up := by unfold upTo; rw [extract_list]
  have hle : Fld.lets (s.data.toList.drop a) = (s.extract a e0).data.toList := lets_upto hu
  have hsz : (Fld.lets (s.data.toList.drop a)).length = e0 - a := by
    rw [hle, ← Lib.size_eq]
    have := hu.fit
    simp; omega
  have hle2 := hu.le
  unfold ValRes Fld.value at h
  rw [if_neg hl, hk.nm] at h
  cases q : Fld.look (bytesL xs) (Fld.lets (s.data.toList.drop a)) with
  | none =>
    rw [q] at h
    rcases h with ⟨_, rfl, rfl, rfl⟩ | ⟨k, h, _⟩
    · rw [hle] at q
      rcases look_none q with ⟨_, h⟩ | ⟨k, h, _⟩
      · exact .inl ⟨fun j hj => by rw [hD]; exact h j hj, rfl, rfl, rfl⟩
      · exact absurd h (by omega)
    · cases h
  | some i =>
    rw [q] at h
    rcases h with ⟨h, _⟩ | ⟨k, h, rfl, rfl⟩
    · cases h
    · simp only [Option.map_some, Option.some.injEq, Prod.mk.injEq] at h
      obtain ⟨rfl, rfl⟩ := h
      rw [hle] at q
      obtain ⟨hi, lk⟩ := look_some q
      rcases lk with ⟨h, _⟩ | ⟨k', h, h1, h2, h3⟩
      · exact absurd h (by omega)
      · obtain rfl : i = k' := by omega
        exact .inr ⟨i, h1, by rw [hD]; exact h2, fun j hj => by rw [hD]; exact h3 j hj, rfl, by rw [hsz]; omega, rfl⟩
theorem kd_count {K : Fld.Kd} {xs : List ByteArray} (h : KdIs K.lo K.hi xs K.week K) : xs.length ≤ 63 := by
  have := h.ok.hi
  rcases h.ok.count with c | c
  · have : xs.length = 0 := by rw [← bytesL_len, ← h.nm, c]; rfl
    omega
  · rw [h.nm, bytesL_len] at c; omega
theorem valueR_any (K : Fld.Kd) (v : Value) (xs : List ByteArray) (s : ByteArray) (a n b : Nat) (ok : Bool) (w : World) (hv : IsStrs w v xs) (hk : KdIs K.lo K.hi xs K.week K) (ha : a ≤ s.size) (hs : s.size ≤ 9223372036854775000) (h : ValRes K s a n b ok) :
    Calls Tryz.prog 68 #[.agg #[.int .i64 K.lo, .int .i64 K.hi, v, .bool K.week], .string s, .int .i64 a] w fun e w' => e = .returned (.tuple #[.int .i64 n, .int .i64 b, .bool ok]) ∧ Below w.heap.size w w' := by
  have X := Lib.hid (KBox.new w K.lo K.hi v xs K.week 33 hv)
  have hlo : K.lo ≤ 62 := by have := hk.ok.le; have := hk.ok.hi; omega
  by_cases hl : a < s.size
  · have t1 : decide ((a : Int) < (s.size : Int)) = true := by rw [decide_eq_true_iff]; omega
    have t1n : decide (a < s.size) = true := by rw [decide_eq_true_iff]; omega
    have i0 : (0 : Int) ≤ (a : Int) := by omega
    have i1 : (a : Int) < (s.size : Int) := by omega
    cases hq : Fld.letN s[a].toNat with
    | true =>
      have hne : Fld.lets (s.data.toList.drop a) ≠ [] := fun q => by rw [(lets_head hl).1 q] at hq; cases hq
      obtain ⟨e0, hu⟩ := upto_ex Fld.letN s a ha
      have LT := Lib.hid (fun w => letterR_any s[a].toNat true hq w)
      have NM := Lib.hid (fun w hv => nameR_raw K v xs s a e0 n b ok w hv hu hs hlo (by have := kd_count hk; omega) (nameRes_of hk hu hne h))
      obtain ⟨A, cap, rfl, _, _⟩ := hv
      obtain ⟨_, _, _, c0, c1, c2, c3⟩ := X.out
      clear hne hu h hq
      go_enter Tryz.func68, Tryz.ntmps68
      go_wp2_with fail
      refine (LT.out _).mono ?_
      rintro e w1 ⟨rfl, rfl⟩
      go_wp2_with fail
      refine (NM.out _ X.out.strs).mono ?_
      rintro e w1 ⟨rfl, hb⟩
      have X := Lib.hid (X.out.next hb)
      clear hb c0 c1 c2 c3
      go_wp2_with fail
      go_ret3
      exact ⟨rfl, X.out.below⟩
    | false =>
      have he := (lets_head hl).2 hq
      have hn : NumRes s a n b ok := by
        unfold ValRes Fld.value at h
        rw [if_pos he] at h
        exact h
      have LT := Lib.hid (fun w => letterR_any s[a].toNat false hq w)
      have NU := Lib.hid (fun w => numberR_any s a n b ok w ha hs hn)
      obtain ⟨A, cap, rfl, _, _⟩ := hv
      clear he h hn hq
      go_enter Tryz.func68, Tryz.ntmps68
      go_wp2_with fail
      refine (LT.out _).mono ?_
      rintro e w1 ⟨rfl, rfl⟩
      go_wp2_with fail
      refine (NU.out _).mono ?_
      rintro e w1 ⟨rfl, rfl⟩
      go_wp2_with fail
      go_ret3
      exact ⟨rfl, X.out.below⟩
  · have t1 : decide ((a : Int) < (s.size : Int)) = false := by rw [decide_eq_false_iff_not]; omega
    have t1n : decide (a < s.size) = false := by rw [decide_eq_false_iff_not]; omega
    have hn : NumRes s a n b ok := by
      unfold ValRes Fld.value at h
      rw [if_pos (by rw [drop_end s a (by omega)]; rfl)] at h
      exact h
    have NU := Lib.hid (fun w => numberR_any s a n b ok w ha hs hn)
    obtain ⟨A, cap, rfl, _, _⟩ := hv
    clear h hn
    go_enter Tryz.func68, Tryz.ntmps68
    go_wp2_with fail
    refine (NU.out _).mono ?_
    rintro e w1 ⟨rfl, rfl⟩
    go_wp2_with fail
    go_ret3
    exact ⟨rfl, X.out.below⟩
end Go.Proofs.YtlmbfhbfejjpdaaGreatDoor
