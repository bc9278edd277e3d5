/- Contracts of Digits, of package lex and of the document. -/
import Derived.Test.YtjlipkklljjdjaaDoorLexG
import Derived.Laws.BytesArg
namespace Go.Proofs.YtjlipkklljjdjaaDoor
open Go.ChangeShapes Go.RowKit Go.Shelf

theorem below_grow (w : World) (k : Nat) (os : Array Obj) : Below w.heap.size w (Go.Sort.grow (w.drewN k) os) :=
  ⟨rfl, rfl, rfl, by simp [Go.Sort.grow], fun k hk => by simp [Go.Sort.grow, Array.getElem?_append_left hk]⟩
/-- the text of a number -/
def numStr (n : Int) : ByteArray := ⟨(Lib.itoa n).toArray⟩
theorem digits_any (n : Int) (h0 : -9223372036854775808 ≤ n) (h1 : n ≤ 9223372036854775807) (w : World) (L : Lay w) :
    Calls Tryd.prog 24 #[.int .i64 n] w fun e w' => e = .returned (.string (numStr n)) ∧ Below w.heap.size w w' := by
  have F := Lib.hid (Tryd.strconv_FormatInt_10 n h0 h1 w L.tab)
  clear L
  go_enter Tryd.func24, Tryd.ntmps24
  go_wp2_with fail
  refine F.out.mono ?_
  rintro e w1 ⟨rfl, k, os, rfl⟩
  have HB := Lib.hid (below_grow w k os)
  go_wp2_with fail
  go_ret
  exact ⟨rfl, HB.out⟩

theorem conv_one (W : World) (k : Nat) (x : Int) (hk : W.heap.size = k) :
    (convert 59 9 (.slice (some ⟨k, 0, none⟩) 1 1)).run Tryd.prog (W.alloc (.cells #[.int .u8 x] 5)) = .ok (.string (strOfNums [x])) (W.alloc (.cells #[.int .u8 x] 5)) := by
  subst hk
  exact run_convert_bytes_arg _ 59 5 Tryd.underlying59 Tryd.underlying5 _ 0 1 1 [x] rfl (fun i hi => by
    obtain rfl : i = 0 := by omega
    simp [go_sem]) _ Tryd.underlying9
attribute [local go_sem] conv_one
theorem ret_str {a b : ByteArray} (h : a = b) : Ending.returned (.string a) = .returned (.string b) := by rw [h]
/-- one while no digit has been taken off -/
def fresh : Value → Nat
  | .string S => if S.size = 0 then 1 else 0
  | _ => 0
theorem one_str {x : Int} {S : ByteArray} (k : Nat) (hx : x = 48 + (k % 10 : Nat)) : (strOfNums [x] ++ S).data.toList = UInt8.ofNat (48 + k % 10) :: S.data.toList := by
  have e : x.toNat = 48 + k % 10 := by omega
  unfold strOfNums
  rw [List.map_cons, List.map_nil, e]
  simp
theorem one_num {x : Int} {S : ByteArray} (e : Nat) (hx : x = 48 + (e : Int)) (he : e ≤ 9) : (strOfNums [x] ++ S).data.toList = UInt8.ofNat (48 + e) :: S.data.toList := by
  have := one_str (x := x) (S := S) e (by omega)
  rw [show e % 10 = e by omega] at this
  exact this
theorem cat_ne (x : Int) (S : ByteArray) : (strOfNums [x] ++ S).size ≠ 0 := by
  rw [ByteArray.size_append, strOfNums_size]; simp
set_option maxRecDepth 100000 in
set_option maxHeartbeats 2000000 in
theorem rdigits_pos (u : Nat) (hu : u ≤ 9223372036854775807) (w : World) :
    Calls Tryd.prog 25 #[.int .i64 u] w fun e w' => e = .returned (.string (numStr u)) ∧ Below w.heap.size w w' := by
  have tn : decide ((u : Int) < 0) = false := by simp
  have hs := strOfNums_size
  go_enter Tryd.func25, Tryd.ntmps25
  go_wp2_with fail
  go_loopw [3, 4] (fun s k wr => ∃ (S : ByteArray) (q : Nat), s = .string S ∧ k = .int .i64 q ∧ q ≤ u ∧ Hid (Num.Off u q S.data.toList) ∧ Hid (Below w.heap.size w wr)) (fun s k _ => (intOf k).natAbs + fresh s)
  case atStart => exact ⟨⟨#[]⟩, u, rfl, rfl, Nat.le_refl _, Lib.hid (.inl ⟨rfl, rfl⟩), Lib.hid (Below.refl _ _)⟩
  case round =>
    obtain ⟨S, q, rfl, rfl, hq, ho, hb⟩ := hrel
    have hlen := Num.off_len ho.out (by omega)
    have hsz := hb.out.size
    rw [← Lib.size_eq] at hlen
    have td : decide (((q : Nat) : Int) % 10 < 0) = false := by rw [decide_eq_false_iff_not]; omega
    have d0 : 0 ≤ ((q : Nat) : Int) % 10 := by omega
    have d1 : ((q : Nat) : Int) % 10 ≤ 9 := by omega
    by_cases hS : S.size = 0
    · have e0 := str_empty hS
      have e1 : S.toList.isEmpty = true := by rw [e0]; rfl
      have HO := Lib.hid (Num.off_step ho.out (.inl ((list_nil S).2 hS)))
      have HS := Lib.hid hS
      clear hS
      by_cases hq0 : q = 0
      · have t0 : (((q : Nat) : Int) != 0) = false := by rw [Bool.eq_false_iff]; simp; omega
        have HQ := Lib.hid hq0
        clear hq0
        go_wp2_with fail
        go_roundw
        case rel => exact ⟨_, q / 10, rfl, by go_num, by omega, by rw [one_str (x := 48 + (q : Int) % 10) q (by omega)]; exact HO, Lib.hid (hb.out.alloc hsz _)⟩
        case measure =>
          have := cat_ne (48 + (q : Int) % 10) S
          simp only [fresh, if_neg this, if_pos HS.out, intOf]
          have := HQ.out
          omega
      · have t0 : (((q : Nat) : Int) != 0) = true := by rw [bne_iff_ne]; omega
        go_wp2_with fail
        go_roundw
        case rel => exact ⟨_, q / 10, rfl, by go_num, by omega, by rw [one_str (x := 48 + (q : Int) % 10) q (by omega)]; exact HO, Lib.hid (hb.out.alloc hsz _)⟩
        case measure =>
          have := cat_ne (48 + (q : Int) % 10) S
          simp only [fresh, if_neg this, if_pos HS.out, intOf]
          omega
    · have e1 := str_some (show 1 ≤ S.size by omega)
      have e0 : ¬ S.toList = [] := fun e => by rw [e] at e1; cases e1
      by_cases hq0 : q = 0
      · have t0 : (((q : Nat) : Int) != 0) = false := by rw [Bool.eq_false_iff]; simp; omega
        have HE := Lib.hid (Num.off_end (by rw [← hq0]; exact ho.out) (fun e => hS ((list_nil S).1 e)))
        clear hq0 hS
        go_wp2_with fail
        go_ret
        refine ⟨ret_str (str_ext ?_), hb.out⟩
        rw [HE.out]
        unfold numStr Lib.itoa
        rw [if_neg (by omega)]
        simp
      · have t0 : (((q : Nat) : Int) != 0) = true := by rw [bne_iff_ne]; omega
        have HO := Lib.hid (Num.off_step ho.out (.inr hq0))
        have HS := Lib.hid hS
        clear hS
        go_wp2_with fail
        go_roundw
        case rel => exact ⟨_, q / 10, rfl, by go_num, by omega, by rw [one_str (x := 48 + (q : Int) % 10) q (by omega)]; exact HO, Lib.hid (hb.out.alloc hsz _)⟩
        case measure =>
          have := cat_ne (48 + (q : Int) % 10) S
          simp only [fresh, if_neg this, if_neg HS.out, intOf]
          omega
set_option maxRecDepth 100000 in
set_option maxHeartbeats 2000000 in
theorem rdigits_neg (u : Nat) (hu1 : 1 ≤ u) (hu : u ≤ 9223372036854775808) (w : World) :
    Calls Tryd.prog 25 #[.int .i64 (-(u : Int))] w fun e w' => e = .returned (.string (numStr (-(u : Int)))) ∧ Below w.heap.size w w' := by
  have tn : decide (-(u : Int) < 0) = true := by rw [decide_eq_true_iff]; omega
  have hs := strOfNums_size
  go_enter Tryd.func25, Tryd.ntmps25
  go_wp2_with fail
  go_loopw [3, 4] (fun s k wr => ∃ (S : ByteArray) (q : Nat), s = .string S ∧ k = .int .i64 (-(q : Int)) ∧ q ≤ u ∧ Hid (Num.Off u q S.data.toList) ∧ Hid (Below w.heap.size w wr)) (fun s k _ => (intOf k).natAbs + fresh s)
  case atStart => exact ⟨⟨#[]⟩, u, rfl, rfl, Nat.le_refl _, Lib.hid (.inl ⟨rfl, rfl⟩), Lib.hid (Below.refl _ _)⟩
  case round =>
    obtain ⟨S, q, rfl, rfl, hq, ho, hb⟩ := hrel
    have hlen := Num.off_len ho.out (by omega)
    have hsz := hb.out.size
    rw [← Lib.size_eq] at hlen
    obtain ⟨e, he⟩ : ∃ e, q % 10 = e := ⟨_, rfl⟩
    obtain ⟨p, hp⟩ : ∃ p, q / 10 = p := ⟨_, rfl⟩
    have hp1 : p ≤ q := by omega
    have hp2 : 0 < q → p < q := by omega
    have d1 : e ≤ 9 := by omega
    have hdv : (-(q : Int)).tdiv 10 = -(p : Int) := by rw [Int.neg_tdiv, Int.tdiv_eq_ediv_of_nonneg (by omega)]; omega
    by_cases hS : S.size = 0
    · have e0 := str_empty hS
      have e1 : S.toList.isEmpty = true := by rw [e0]; rfl
      have HO := Lib.hid (Num.off_step ho.out (.inl ((list_nil S).2 hS)))
      rw [he, hp] at HO
      have HS := Lib.hid hS
      clear hS
      by_cases hq0 : q = 0
      · have t0 : ((-(q : Int)) != 0) = false := by rw [Bool.eq_false_iff]; simp; omega
        have HQ := Lib.hid hq0
        clear hq0
        have HP := Lib.hid hp
        have HE' := Lib.hid he
        by_cases e0' : e = 0
        · have hmd : (-(q : Int)).tmod 10 = 0 := by rw [Int.neg_tmod, Int.tmod_eq_emod_of_nonneg (by omega)]; omega
          have E0 := Lib.hid e0'
          clear he hp e0'

          go_wp2_with fail
          go_roundw
          case rel => exact ⟨_, p, rfl, by go_num, by omega, by rw [one_num (x := 48) e (by have := E0.out; omega) (by omega)]; exact HO, Lib.hid (hb.out.alloc hsz _)⟩
          case measure =>
            have := cat_ne (48) S
            simp only [fresh, if_neg this, if_pos HS.out, intOf]
            have := HQ.out
            have := HP.out
            omega
        · have hmd : (-(q : Int)).tmod 10 = -(e : Int) := by rw [Int.neg_tmod, Int.tmod_eq_emod_of_nonneg (by omega)]; omega
          have td : decide (-(e : Int) < 0) = true := by rw [decide_eq_true_iff]; omega
          clear he hp

          go_wp2_with fail
          go_roundw
          case rel => exact ⟨_, p, rfl, by go_num, by omega, by rw [one_num (x := 48 + (e : Int)) e (by omega) (by omega)]; exact HO, Lib.hid (hb.out.alloc hsz _)⟩
          case measure =>
            have := cat_ne (48 + (e : Int)) S
            simp only [fresh, if_neg this, if_pos HS.out, intOf]
            have := HQ.out
            have := HP.out
            omega
      · have t0 : ((-(q : Int)) != 0) = true := by rw [bne_iff_ne]; omega
        have HP := Lib.hid hp
        have HE' := Lib.hid he
        by_cases e0' : e = 0
        · have hmd : (-(q : Int)).tmod 10 = 0 := by rw [Int.neg_tmod, Int.tmod_eq_emod_of_nonneg (by omega)]; omega
          have E0 := Lib.hid e0'
          clear he hp e0'

          go_wp2_with fail
          go_roundw
          case rel => exact ⟨_, p, rfl, by go_num, by omega, by rw [one_num (x := 48) e (by have := E0.out; omega) (by omega)]; exact HO, Lib.hid (hb.out.alloc hsz _)⟩
          case measure =>
            have := cat_ne (48) S
            simp only [fresh, if_neg this, if_pos HS.out, intOf]
            have := HP.out
            omega
        · have hmd : (-(q : Int)).tmod 10 = -(e : Int) := by rw [Int.neg_tmod, Int.tmod_eq_emod_of_nonneg (by omega)]; omega
          have td : decide (-(e : Int) < 0) = true := by rw [decide_eq_true_iff]; omega
          clear he hp

          go_wp2_with fail
          go_roundw
          case rel => exact ⟨_, p, rfl, by go_num, by omega, by rw [one_num (x := 48 + (e : Int)) e (by omega) (by omega)]; exact HO, Lib.hid (hb.out.alloc hsz _)⟩
          case measure =>
            have := cat_ne (48 + (e : Int)) S
            simp only [fresh, if_neg this, if_pos HS.out, intOf]
            have := HP.out
            omega
    · have e1 := str_some (show 1 ≤ S.size by omega)
      have e0 : ¬ S.toList = [] := fun e => by rw [e] at e1; cases e1
      by_cases hq0 : q = 0
      · have t0 : ((-(q : Int)) != 0) = false := by rw [Bool.eq_false_iff]; simp; omega
        have HE := Lib.hid (Num.off_end (by rw [← hq0]; exact ho.out) (fun e => hS ((list_nil S).1 e)))
        clear hq0 hS he hp
        go_wp2_with fail
        go_ret
        refine ⟨ret_str (str_ext ?_), hb.out⟩
        unfold numStr Lib.itoa
        rw [if_pos (by omega), ByteArray.data_append, Array.toList_append, HE.out]
        simp
      · have t0 : ((-(q : Int)) != 0) = true := by rw [bne_iff_ne]; omega
        have HO := Lib.hid (Num.off_step ho.out (.inr hq0))
        rw [he, hp] at HO
        have HS := Lib.hid hS
        clear hS
        have HP := Lib.hid hp
        have HE' := Lib.hid he
        by_cases e0' : e = 0
        · have hmd : (-(q : Int)).tmod 10 = 0 := by rw [Int.neg_tmod, Int.tmod_eq_emod_of_nonneg (by omega)]; omega
          have E0 := Lib.hid e0'
          clear he hp e0'

          go_wp2_with fail
          go_roundw
          case rel => exact ⟨_, p, rfl, by go_num, by omega, by rw [one_num (x := 48) e (by have := E0.out; omega) (by omega)]; exact HO, Lib.hid (hb.out.alloc hsz _)⟩
          case measure =>
            have := cat_ne (48) S
            simp only [fresh, if_neg this, if_neg HS.out, intOf]
            have := HP.out
            omega
        · have hmd : (-(q : Int)).tmod 10 = -(e : Int) := by rw [Int.neg_tmod, Int.tmod_eq_emod_of_nonneg (by omega)]; omega
          have td : decide (-(e : Int) < 0) = true := by rw [decide_eq_true_iff]; omega
          clear he hp

          go_wp2_with fail
          go_roundw
          case rel => exact ⟨_, p, rfl, by go_num, by omega, by rw [one_num (x := 48 + (e : Int)) e (by omega) (by omega)]; exact HO, Lib.hid (hb.out.alloc hsz _)⟩
          case measure =>
            have := cat_ne (48 + (e : Int)) S
            simp only [fresh, if_neg this, if_neg HS.out, intOf]
            have := HP.out
            omega
theorem rdigits_any (n : Int) (h0 : -9223372036854775808 ≤ n) (h1 : n ≤ 9223372036854775807) (w : World) :
    Calls Tryd.prog 25 #[.int .i64 n] w fun e w' => e = .returned (.string (numStr n)) ∧ Below w.heap.size w w' := by
  by_cases h : 0 ≤ n
  · obtain ⟨u, rfl⟩ : ∃ u : Nat, n = u := ⟨n.toNat, by omega⟩
    exact rdigits_pos u (by omega) w
  · obtain ⟨u, rfl⟩ : ∃ u : Nat, n = -(u : Int) := ⟨(-n).toNat, by omega⟩
    exact rdigits_neg u (by omega) (by omega) w
end Go.Proofs.YtjlipkklljjdjaaDoor
