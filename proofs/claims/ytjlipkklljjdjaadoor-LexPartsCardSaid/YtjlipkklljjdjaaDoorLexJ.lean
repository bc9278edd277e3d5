/- Contracts of Join, of package lex and of the document. -/
import Derived.Test.YtjlipkklljjdjaaDoorLexI
namespace Go.Proofs.YtjlipkklljjdjaaDoor
open Go.ChangeShapes Go.RowKit Go.Shelf

/-- a slice of these strings -/
def IsStrs (w : World) (v : Value) (xs : List ByteArray) : Prop :=
  ∃ A cap, v = .slice A xs.length cap ∧ xs.length ≤ cap ∧ (0 < xs.length → ∃ b o, A = some ⟨b, o, none⟩ ∧ b < w.heap.size ∧ ∀ (j : Nat) x, xs[j]? = some x → w.cell? ⟨b, o + j, none⟩ = some (.string x))
theorem IsStrs.below {w w' : World} {v : Value} {xs : List ByteArray} (h : IsStrs w v xs) (hb : Below w.heap.size w w') : IsStrs w' v xs := by
  obtain ⟨A, cap, rfl, h1, h2⟩ := h
  refine ⟨A, cap, rfl, h1, fun hp => ?_⟩
  obtain ⟨b, o, rfl, h3, h4⟩ := h2 hp
  exact ⟨b, o, rfl, Nat.lt_of_lt_of_le h3 hb.size, fun j x hx => (hb.cell (p := ⟨b, o + j, none⟩) h3).trans (h4 j x hx)⟩
/-- the bytes of strings -/
def bytesL (xs : List ByteArray) : List (List UInt8) := xs.map (·.data.toList)
/-- the first k, joined -/
def pj (xs : List ByteArray) (sep : ByteArray) (k : Nat) : List UInt8 := Lib.join ((bytesL xs).take k) sep.data.toList
theorem pj_zero (xs : List ByteArray) (sep : ByteArray) : pj xs sep 0 = [] := by unfold pj; rw [List.take_zero, Lib.join_nil]
theorem pj_one (xs : List ByteArray) (sep : ByteArray) (h : 0 < xs.length) : pj xs sep 1 = xs[0].data.toList := by
  cases xs with
  | nil => simp at h
  | cons x r => unfold pj bytesL; rw [List.map_cons, List.take_succ_cons, List.take_zero, Lib.join_one]; rfl
theorem pj_succ (xs : List ByteArray) (sep : ByteArray) (k : Nat) (h0 : 0 < k) (h : k < xs.length) : pj xs sep (k + 1) = pj xs sep k ++ sep.data.toList ++ xs[k].data.toList := by
  cases xs with
  | nil => simp at h
  | cons x r =>
    obtain ⟨j, rfl⟩ : ∃ j, k = j + 1 := ⟨k - 1, by omega⟩
    have hj : j < r.length := by simpa using h
    unfold pj bytesL
    rw [List.map_cons, List.take_succ_cons, List.take_succ_cons, Lib.join_cons, Lib.join_cons, Lib.joinTail_take_succ _ _ j r[j].data.toList (by rw [List.getElem?_map, List.getElem?_eq_getElem hj]; rfl)]
    simp
theorem pj_all (xs : List ByteArray) (sep : ByteArray) : pj xs sep xs.length = Lib.join (bytesL xs) sep.data.toList := by
  unfold pj bytesL
  rw [List.take_of_length_le (by simp)]
theorem pj_le (xs : List ByteArray) (sep : ByteArray) (n : Nat) : ∀ k, k ≤ n → n ≤ xs.length → (pj xs sep k).length ≤ (pj xs sep n).length := by
  induction n with
  | zero => intro k hk _; obtain rfl : k = 0 := by omega
            exact Nat.le_refl _
  | succ n ih =>
    intro k hk hn
    rcases Nat.lt_or_ge n k with a | a
    · obtain rfl : k = n + 1 := by omega
      exact Nat.le_refl _
    · refine Nat.le_trans (ih k a (by omega)) ?_
      rcases Nat.eq_zero_or_pos n with rfl | hp
      · rw [pj_zero]; simp
      · rw [pj_succ xs sep n hp (by omega), List.length_append, List.length_append]; omega
/-- the strings joined, or the error -/
def JoinIs (xs : List ByteArray) (sep r : ByteArray) (e : Int) : Prop :=
  ((Lib.join (bytesL xs) sep.data.toList).length ≤ 65536 ∧ r.data.toList = Lib.join (bytesL xs) sep.data.toList ∧ e = 0) ∨ (65536 < (Lib.join (bytesL xs) sep.data.toList).length ∧ r = ⟨#[]⟩ ∧ e = 11)
theorem joinIs_ex (xs : List ByteArray) (sep : ByteArray) : ∃ r e, JoinIs xs sep r e := by
  by_cases h : (Lib.join (bytesL xs) sep.data.toList).length ≤ 65536
  · exact ⟨⟨(Lib.join (bytesL xs) sep.data.toList).toArray⟩, _, .inl ⟨h, rfl, rfl⟩⟩
  · exact ⟨_, _, .inr ⟨by omega, rfl, rfl⟩⟩
theorem JoinIs.over {xs : List ByteArray} {sep r : ByteArray} {e : Int} (h : JoinIs xs sep r e) {k : Nat} (hk : k ≤ xs.length) (hl : 65536 < (pj xs sep k).length) : r = ⟨#[]⟩ ∧ e = 11 := by
  have := pj_le xs sep xs.length k hk (Nat.le_refl _)
  rw [pj_all] at this
  rcases h with ⟨a, _⟩ | ⟨_, b, c⟩
  · omega
  · exact ⟨b, c⟩
theorem JoinIs.done {xs : List ByteArray} {sep r : ByteArray} {e : Int} (h : JoinIs xs sep r e) (hl : (pj xs sep xs.length).length ≤ 65536) : r.data.toList = pj xs sep xs.length ∧ e = 0 := by
  rw [pj_all] at hl ⊢
  rcases h with ⟨_, b, c⟩ | ⟨a, _⟩
  · exact ⟨b, c⟩
  · omega
theorem join_none (a : Option Addr) (c : Nat) (sep : ByteArray) (w : World) :
    Calls Tryd.prog 49 #[.slice a 0 c, .string sep] w fun e w' => e = .returned (.string ⟨#[]⟩) ∧ w' = w := Any.strings_Join_none Tryd.lays156 Tryd.Builder_Extra_156 a c sep w
theorem ret_se {a b : ByteArray} {c d : Int} (h1 : a = b) (h2 : c = d) : Ending.returned (.tuple #[.string a, .int .i64 c]) = .returned (.tuple #[.string b, .int .i64 d]) := by rw [h1, h2]

/-- each string, and what stands between, is not huge -/
def Small (xs : List ByteArray) (sep : ByteArray) : Prop := xs.length ≤ 65536 ∧ sep.size ≤ 70000 ∧ ∀ x ∈ xs, x.size ≤ 70000
theorem join_any (xs : List ByteArray) (sep r : ByteArray) (e : Int) (hsm : Small xs sep) (h : JoinIs xs sep r e) (v : Value) (w : World) (hv : IsStrs w v xs) :
    Calls Tryd.prog 28 #[v, .string sep] w fun q w' => q = .returned (.tuple #[.string r, .int .i64 e]) ∧ Below w.heap.size w w' := by
  obtain ⟨A, cap, rfl, hcap, hc⟩ := hv
  obtain ⟨hn, hsep, hx⟩ := hsm
  have H := Lib.hid h
  clear h
  rcases Nat.eq_zero_or_pos xs.length with h0 | h0
  · have hnil : xs = [] := List.length_eq_zero_iff.1 h0
    subst hnil
    have J := Lib.hid (join_none A cap sep)
    have HD := Lib.hid (H.out.done (by simp [pj, bytesL, Lib.join_nil]))
    rw [List.length_nil] at *
    clear hc
    go_enter Tryd.func28, Tryd.ntmps28
    go_wp2_with fail
    go_loop [6, 11] (fun s i => ∃ k m : Nat, k ≤ 0 ∧ i = .int .i64 k ∧ s = .int .i64 m) (fun _ i => 0 - (intOf i).toNat)
    case atStart => exact ⟨0, 0, Nat.le_refl _, rfl, rfl⟩
    case round =>
      obtain ⟨k, m, hk, rfl, rfl⟩ := hrel
      obtain rfl : k = 0 := by omega
      go_wp2_with fail
      refine (J.out _).mono ?_
      rintro q w1 ⟨rfl, rfl⟩
      go_wp2_with fail
      go_ret2
      refine ⟨ret_se (str_ext ?_) HD.out.2.symm, Below.refl _ _⟩
      rw [HD.out.1]
      simp [pj, bytesL, Lib.join_nil]
  · obtain ⟨b, o, rfl, hb, hcell⟩ := hc h0
    have HC := Lib.hid hcell
    have HX := Lib.hid hx
    have JN := Lib.hid (fun hl => Tryd.strings_Join b o cap xs sep w hcell hb (by omega) hcap hl)
    clear hcell hx hc
    go_enter Tryd.func28, Tryd.ntmps28
    go_wp2_with fail
    go_loop [6, 11] (fun s i => ∃ k m : Nat, k ≤ xs.length ∧ i = .int .i64 k ∧ s = .int .i64 m ∧ m ≤ 65536 ∧ Hid ((pj xs sep k).length = m)) (fun _ i => xs.length - (intOf i).toNat)
    case atStart => exact ⟨0, 0, Nat.zero_le _, rfl, rfl, by omega, Lib.hid (by rw [pj_zero]; rfl)⟩
    case round =>
      obtain ⟨k, m, hk, rfl, rfl, hm, hl⟩ := hrel
      by_cases hlt : k < xs.length
      · obtain ⟨x, hxk⟩ : ∃ x, xs[k] = x := ⟨_, rfl⟩
        have hxs := HX.out x (by rw [← hxk]; exact List.getElem_mem hlt)
        have g : w.cell? ⟨b, o + k, none⟩ = some (.string x) := HC.out k x (by rw [List.getElem?_eq_getElem hlt, hxk])
        by_cases hk0 : k = 0
        · have P1 := pj_one xs sep h0
          subst hk0
          rw [Nat.add_zero] at g
          rw [pj_zero] at hl
          obtain rfl : m = 0 := by have := hl.out; simpa using this.symm
          rw [hxk] at P1
          have P1 := Lib.hid (congrArg List.length P1)
          rw [← Lib.size_eq] at P1
          by_cases hbig : 65536 < x.size
          · have tb : decide ((65536 : Int) < (x.size : Int)) = true := by rw [decide_eq_true_iff]; omega
            have HO := Lib.hid (H.out.over (k := 1) (by omega) (by rw [P1.out]; exact hbig))
            clear hxk
            go_wp2_with fail
            go_ret2
            exact ⟨ret_se HO.out.1.symm HO.out.2.symm, Below.refl _ _⟩
          · have tb : decide ((65536 : Int) < (x.size : Int)) = false := by rw [decide_eq_false_iff_not]; omega
            clear hxk
            go_wp2_with fail
            go_round
            case rel => exact ⟨1, x.size, by omega, by go_num, by go_num, by omega, P1⟩
            case measure => simp [intOf]; omega
        · have P1 := Lib.hid (congrArg List.length (pj_succ xs sep k (by omega) hlt))
          rw [hxk, List.length_append, List.length_append, hl.out, ← Lib.size_eq, ← Lib.size_eq] at P1
          have tk : decide ((0 : Int) < (k : Int)) = true := by rw [decide_eq_true_iff]; omega
          by_cases hbig : 65536 < m + sep.size + x.size
          · have tb : decide ((65536 : Int) < (m : Int) + (sep.size : Int) + (x.size : Int)) = true := by rw [decide_eq_true_iff]; omega
            have HO := Lib.hid (H.out.over (k := k + 1) (by omega) (by rw [P1.out]; exact hbig))
            clear hxk
            go_wp2_with fail
            go_ret2
            exact ⟨ret_se HO.out.1.symm HO.out.2.symm, Below.refl _ _⟩
          · have tb : decide ((65536 : Int) < (m : Int) + (sep.size : Int) + (x.size : Int)) = false := by rw [decide_eq_false_iff_not]; omega
            clear hxk
            go_wp2_with fail
            go_round
            case rel => exact ⟨k + 1, m + sep.size + x.size, by omega, by go_num, by go_num, by omega, P1⟩
            case measure => simp [intOf]; omega
      · obtain rfl : k = xs.length := by omega
        have HD := Lib.hid (H.out.done (by rw [hl.out]; omega))
        have PA := Lib.hid (pj_all xs sep)
        have J := Lib.hid (JN.out (by have := hl.out; rw [pj_all] at this; unfold bytesL at this; rw [this]; omega))
        clear hl
        go_wp2_with fail
        refine J.out.mono ?_
        rintro q w1 ⟨rfl, hb1⟩
        have HB := Lib.hid hb1
        clear hb1
        go_wp2_with fail
        go_ret2
        refine ⟨ret_se (str_ext ?_) HD.out.2.symm, HB.out⟩
        rw [HD.out.1, PA.out]
        rfl
theorem rjoin_any (xs : List ByteArray) (sep r : ByteArray) (e : Int) (hsm : Small xs sep) (h : JoinIs xs sep r e) (v : Value) (w : World) (hv : IsStrs w v xs) :
    Calls Tryd.prog 29 #[v, .string sep] w fun q w' => q = .returned (.tuple #[.string r, .int .i64 e]) ∧ w = w' := by
  obtain ⟨A, cap, rfl, hcap, hc⟩ := hv
  obtain ⟨hn, hsep, hx⟩ := hsm
  have H := Lib.hid h
  clear h
  rcases Nat.eq_zero_or_pos xs.length with h0 | h0
  · have hnil : xs = [] := List.length_eq_zero_iff.1 h0
    subst hnil
    have HD := Lib.hid (H.out.done (by simp [pj, bytesL, Lib.join_nil]))
    rw [List.length_nil] at *
    clear hc
    go_enter Tryd.func29, Tryd.ntmps29
    go_wp2_with fail
    go_loop [6, 7] (fun s i => ∃ k : Nat, k ≤ 0 ∧ i = .int .i64 k ∧ s = .string ⟨#[]⟩) (fun _ i => 0 - (intOf i).toNat)
    case atStart => exact ⟨0, Nat.le_refl _, rfl, rfl⟩
    case round =>
      obtain ⟨k, hk, rfl, rfl⟩ := hrel
      obtain rfl : k = 0 := by omega
      go_wp2_with fail
      go_ret2
      refine ⟨ret_se (str_ext ?_) HD.out.2.symm, rfl⟩
      rw [HD.out.1]
      simp [pj, bytesL, Lib.join_nil]
  · obtain ⟨b, o, rfl, hb, hcell⟩ := hc h0
    have HC := Lib.hid hcell
    have HX := Lib.hid hx
    clear hcell hx hc
    go_enter Tryd.func29, Tryd.ntmps29
    go_wp2_with fail
    go_loop [6, 7] (fun s i => ∃ (k : Nat) (S : ByteArray), k ≤ xs.length ∧ i = .int .i64 k ∧ s = .string S ∧ S.size ≤ 65536 ∧ Hid (S.data.toList = pj xs sep k)) (fun _ i => xs.length - (intOf i).toNat)
    case atStart => exact ⟨0, ⟨#[]⟩, Nat.zero_le _, rfl, rfl, by decide, Lib.hid (by rw [pj_zero])⟩
    case round =>
      obtain ⟨k, S, hk, rfl, rfl, hm, hl⟩ := hrel
      by_cases hlt : k < xs.length
      · obtain ⟨x, hxk⟩ : ∃ x, xs[k] = x := ⟨_, rfl⟩
        have hxs := HX.out x (by rw [← hxk]; exact List.getElem_mem hlt)
        have g : w.cell? ⟨b, o + k, none⟩ = some (.string x) := HC.out k x (by rw [List.getElem?_eq_getElem hlt, hxk])
        by_cases hk0 : k = 0
        · have P1 := pj_one xs sep h0
          subst hk0
          rw [Nat.add_zero] at g
          rw [pj_zero] at hl
          have hS : S = ⟨#[]⟩ := str_ext hl.out
          subst hS
          rw [hxk] at P1
          have e0 : (⟨#[]⟩ : ByteArray) ++ x = x := str_ext (by simp)
          have hz : (⟨#[]⟩ : ByteArray).size = 0 := rfl
          by_cases hbig : 65536 < x.size
          · have tb : decide ((65536 : Int) < (x.size : Int)) = true := by rw [decide_eq_true_iff]; omega
            have HO := Lib.hid (H.out.over (k := 1) (by omega) (by rw [P1, ← Lib.size_eq]; exact hbig))
            have P1 := Lib.hid P1
            clear hxk
            go_wp2_with fail
            go_ret2
            exact ⟨ret_se HO.out.1.symm HO.out.2.symm, rfl⟩
          · have tb : decide ((65536 : Int) < (x.size : Int)) = false := by rw [decide_eq_false_iff_not]; omega
            have P1 := Lib.hid P1
            clear hxk
            go_wp2_with fail
            go_round
            case rel => exact ⟨1, x, by omega, by go_num, rfl, by omega, Lib.hid P1.out.symm⟩
            case measure => simp [intOf]; omega
        · have P1 := Lib.hid (pj_succ xs sep k (by omega) hlt)
          rw [hxk, ← hl.out] at P1
          have tk : decide ((0 : Int) < (k : Int)) = true := by rw [decide_eq_true_iff]; omega
          obtain ⟨T, hT⟩ : ∃ T, S ++ sep ++ x = T := ⟨_, rfl⟩
          have hTl : T.data.toList = pj xs sep (k + 1) := by rw [P1.out, ← hT]; simp
          have hz1 : (S ++ sep).size = S.size + sep.size := ByteArray.size_append
          have hz2 : T.size = S.size + sep.size + x.size := by rw [← hT, ByteArray.size_append, ByteArray.size_append]
          have HT := Lib.hid hTl
          by_cases hbig : 65536 < T.size
          · have tb : decide ((65536 : Int) < (T.size : Int)) = true := by rw [decide_eq_true_iff]; omega
            have HO := Lib.hid (H.out.over (k := k + 1) (by omega) (by rw [← hTl, ← Lib.size_eq]; exact hbig))
            have HZ := Lib.hid hz2
            have hz2' : T.size ≤ 300000 := by omega
            clear hxk hTl hz2
            go_wp2_with fail
            go_ret2
            exact ⟨ret_se HO.out.1.symm HO.out.2.symm, rfl⟩
          · have tb : decide ((65536 : Int) < (T.size : Int)) = false := by rw [decide_eq_false_iff_not]; omega
            have HZ := Lib.hid hz2
            clear hxk hTl hz2
            go_wp2_with fail
            go_round
            case rel => exact ⟨k + 1, T, by omega, by go_num, rfl, by omega, HT⟩
            case measure => simp [intOf]; omega
      · obtain rfl : k = xs.length := by omega
        have HD := Lib.hid (H.out.done (by rw [← hl.out, ← Lib.size_eq]; exact hm))
        go_wp2_with fail
        go_ret2
        refine ⟨ret_se (str_ext ?_) HD.out.2.symm, rfl⟩
        rw [HD.out.1, hl.out]
end Go.Proofs.YtjlipkklljjdjaaDoor
