/- The document's Check, for any kind. The document's Name and Specs. -/
import Derived.Test.YtpnfifhanmpapaaGreatDoorMFldR
/- The document's Check, for any kind. -/
namespace Go.Proofs.YtpnfifhanmpapaaGreatDoor
open Go.ChangeShapes Go.WideShapes Go.RowKit Go.Shelf

theorem str_ne {x y : ByteArray} (h : x ≠ y) : (x.toList == y.toList) = false := by
  rw [beq_eq_false_iff_ne, ByteArray.toList_eq, ByteArray.toList_eq]
  intro e
  exact h (ByteArray.ext (Array.toList_inj.1 e))
theorem mem_first (xs : List ByteArray) (k : Nat) (hk : k < xs.length) (x : ByteArray) (h : x ∈ xs.take k) : ∃ m, ∃ hm : m < k, xs[m]'(by omega) = x ∧ ∀ j (hj : j < m), xs[j]'(by omega) ≠ x := by
  have key : ∀ n, n ≤ k → (∀ j (hj : j < n) (hn : n ≤ k), xs[j]'(by omega) ≠ x) ∨ ∃ m, ∃ hm : m < k, xs[m]'(by omega) = x ∧ ∀ j (hj : j < m), xs[j]'(by omega) ≠ x := by
    intro n
    induction n with
    | zero => exact fun _ => .inl fun j h => by omega
    | succ n ih =>
      intro hn
      rcases ih (by omega) with a | a
      · by_cases c : xs[n]'(by omega) = x
        · exact .inr ⟨n, by omega, c, fun j hj => a j hj (by omega)⟩
        · refine .inl fun j hj _ => ?_
          rcases Nat.lt_or_ge j n with b | b
          · exact a j b (by omega)
          · obtain rfl : j = n := by omega
            exact c
      · exact .inr a
  rcases key k (Nat.le_refl _) with a | a
  · obtain ⟨i, hi, e⟩ := List.getElem_of_mem h
    rw [List.length_take] at hi
    rw [List.getElem_take] at e
    exact (a i (by omega) (Nat.le_refl _) e).elim
  · exact a
theorem not_mem_take (xs : List ByteArray) (k : Nat) (hk : k < xs.length) (x : ByteArray) (h : x ∉ xs.take k) : ∀ j (hj : j < k), xs[j]'(by omega) ≠ x := fun j hj e => h (by
  rw [List.mem_take_iff_getElem]
  exact ⟨j, by omega, e⟩)
set_option maxRecDepth 100000 in
set_option maxHeartbeats 4000000 in
theorem checkR_yes (lo hi : Int) (v : Value) (xs : List ByteArray) (wk : Bool) (w : World) (hv : IsStrs w v xs) (h : Valid lo hi xs wk) :
    Calls Tryz.prog 76 #[.agg #[.int .i64 lo, .int .i64 hi, v, .bool wk]] w fun e w' => e = .returned (.int .i64 0) ∧ Below w.heap.size w w' := by
  obtain ⟨h1, h2, h3, h4, h5⟩ := h
  have X := Lib.hid (KBox.new w lo hi v xs wk 95 hv)
  obtain ⟨A, cap, rfl, _, _⟩ := hv
  have d1 : decide (lo < 0) = false := by rw [decide_eq_false_iff_not]; omega
  have d2 : decide (hi < lo) = false := by rw [decide_eq_false_iff_not]; omega
  have d3 : decide ((62 : Int) < hi) = false := by rw [decide_eq_false_iff_not]; omega
  have hn : NmTo xs xs.length ∧ xs.length ≤ 63 := by
    rcases h5 with rfl | ⟨a, b⟩
    · exact ⟨nmTo_zero _, by simp⟩
    · exact ⟨b, by omega⟩
  have hl : ((xs.length : Int) != 0) = false ∨ (((xs.length : Int) != 0) = true ∧ ((xs.length : Int) != hi - lo + 1) = false) := by
    rcases h5 with rfl | ⟨a, b⟩
    · left; rfl
    · by_cases c : xs.length = 0
      · left; rw [bne_eq_false_iff_eq]; omega
      · right; exact ⟨by rw [bne_iff_ne]; omega, by rw [bne_eq_false_iff_eq]; exact a⟩
  have HN := Lib.hid hn.1
  have h63 := hn.2
  have hw : (wk = false) ∨ (wk = true ∧ (lo != 0) = false ∧ (hi != 6) = false) := by
    cases wk with
    | false => exact .inl rfl
    | true => exact .inr ⟨rfl, by rw [bne_eq_false_iff_eq]; exact (h4 rfl).1, by rw [bne_eq_false_iff_eq]; exact (h4 rfl).2⟩
  clear hn h5 h4
  have X0 := X
  have wl : (w.alloc (.cells #[.int .i64 lo, .int .i64 hi, .slice A xs.length cap, .bool wk] 95)).heap.size = w.heap.size + 1 := by simp
  rcases hw with rfl | ⟨rfl, w1, w2⟩
  all_goals
    rcases hl with n1 | ⟨n1, n2⟩
    all_goals
      go_enter Tryz.func76, Tryz.ntmps76
      go_wp2_with fail
      clear n1 d1 d2 d3
      go_loopw [3] (fun i wr => ∃ k : Nat, k ≤ xs.length ∧ i = .int .i64 k ∧ Hid (KBox w wr w.heap.size lo hi (.slice A xs.length cap) xs _)) (fun i _ => xs.length - (intOf i).toNat)
      case atStart => exact ⟨0, Nat.zero_le _, rfl, X⟩
      case round =>
        obtain ⟨k, hk, rfl, X⟩ := hrel
        have c2 := X.out.c2
        by_cases hlt : k < xs.length
        · obtain ⟨b, o, e, _, g⟩ := X.out.strs.at_ k hlt
          cases e
          obtain ⟨q1, q2⟩ := HN.out k hlt hlt
          have U := Lib.hid (fun w => upperR_any xs[k] (by have := q1.2.1; omega) true ⟨fun _ => q1, fun _ => rfl⟩ w)
          have NE := Lib.hid (not_mem_take xs k hlt xs[k] q2)
          have t1 : decide ((k : Int) < (xs.length : Int)) = true := by rw [decide_eq_true_iff]; omega
          have t1n : decide (k < xs.length) = true := by rw [decide_eq_true_iff]; omega
          have i0 : (0 : Int) ≤ (k : Int) := by omega
          have i1 : (k : Int) < (xs.length : Int) := by omega
          obtain ⟨x, hx⟩ : ∃ x, xs[k] = x := ⟨_, rfl⟩
          rw [hx] at g U NE
          have HX := Lib.hid hx
          clear q1 q2 hx
          go_wp2_with fail
          refine (U.out _).mono ?_
          rintro e w1 ⟨rfl, rfl⟩
          go_wp2_with fail
          clear g
          go_loopw [4] (fun j wr => ∃ m : Nat, m ≤ k ∧ j = .int .i64 m ∧ Hid (KBox w wr w.heap.size lo hi (.slice (some ⟨b, o, none⟩) xs.length cap) xs _)) (fun j _ => k - (intOf j).toNat)
          case atStart => exact ⟨0, Nat.zero_le _, rfl, X⟩
          case round =>
            obtain ⟨m, hm, rfl, X⟩ := hrel
            have c2 := X.out.c2
            by_cases hmk : m < k
            · have hml : m < xs.length := by omega
              obtain ⟨b', o', e, _, gm⟩ := X.out.strs.at_ m hml
              cases e
              obtain ⟨b', o', e, _, gk⟩ := X.out.strs.at_ k hlt
              cases e
              have ne := str_ne (NE.out m hmk)
              rw [HX.out] at gk
              obtain ⟨y, hy⟩ : ∃ y, xs[m] = y := ⟨_, rfl⟩
              rw [hy] at gm ne
              have s1 : decide ((m : Int) < (k : Int)) = true := by rw [decide_eq_true_iff]; omega
              have s1n : decide (m < k) = true := by rw [decide_eq_true_iff]; omega
              have j0 : (0 : Int) ≤ (m : Int) := by omega
              have j1 : (m : Int) < (xs.length : Int) := by omega
              clear hy
              go_wp2_with fail
              go_quiet (fail)
              go_wp2_with fail
              go_roundw
              case rel => exact ⟨m + 1, by omega, by go_num, Lib.hid (X.out.drewN _)⟩
              case measure => simp [intOf]; omega
            · have s1 : decide ((m : Int) < (k : Int)) = false := by rw [decide_eq_false_iff_not]; omega
              have s1n : decide (m < k) = false := by rw [decide_eq_false_iff_not]; omega
              go_wp2_with fail
              go_roundw
              case rel =>
                first
                  | exact ⟨k + 1, by omega, by go_num, X⟩
                  | (repeat apply Exists.intro
                     refine And.intro ?_ rfl
                     exact ⟨k + 1, by omega, by go_num, X⟩)
              case measure => simp [intOf]; omega
        · have t1 : decide ((k : Int) < (xs.length : Int)) = false := by rw [decide_eq_false_iff_not]; omega
          have t1n : decide (k < xs.length) = false := by rw [decide_eq_false_iff_not]; omega
          go_wp2_with fail
          go_ret
          exact ⟨rfl, X.out.below⟩
set_option maxHeartbeats 1000000 in
/-- the numbers are wrong -/
theorem checkR_nums (lo hi : Int) (v : Value) (xs : List ByteArray) (wk : Bool) (w : World) (hv : IsStrs w v xs) (h : ¬ (0 ≤ lo ∧ lo ≤ hi ∧ hi ≤ 62 ∧ (wk = true → lo = 0 ∧ hi = 6))) :
    Calls Tryz.prog 76 #[.agg #[.int .i64 lo, .int .i64 hi, v, .bool wk]] w fun e w' => e = .returned (.int .i64 2) ∧ Below w.heap.size w w' := by
  have X := Lib.hid (KBox.new w lo hi v xs wk 95 hv)
  obtain ⟨A, cap, rfl, _, _⟩ := hv
  by_cases h1 : lo < 0
  · have d1 : decide (lo < 0) = true := decide_eq_true h1
    clear h h1
    go_enter Tryz.func76, Tryz.ntmps76
    go_wp2_with fail
    go_ret
    exact ⟨rfl, X.out.below⟩
  have d1 : decide (lo < 0) = false := decide_eq_false h1
  by_cases h2 : hi < lo
  · have d2 : decide (hi < lo) = true := decide_eq_true h2
    clear h h1 h2
    go_enter Tryz.func76, Tryz.ntmps76
    go_wp2_with fail
    go_ret
    exact ⟨rfl, X.out.below⟩
  have d2 : decide (hi < lo) = false := decide_eq_false h2
  by_cases h3 : 62 < hi
  · have d3 : decide ((62 : Int) < hi) = true := decide_eq_true h3
    clear h h1 h2 h3
    go_enter Tryz.func76, Tryz.ntmps76
    go_wp2_with fail
    go_ret
    exact ⟨rfl, X.out.below⟩
  have d3 : decide ((62 : Int) < hi) = false := decide_eq_false h3
  have hw : wk = true ∧ ¬ (lo = 0 ∧ hi = 6) := Classical.byContradiction fun q => h ⟨by omega, by omega, by omega, fun e => Classical.byContradiction fun r => q ⟨e, r⟩⟩
  obtain ⟨rfl, hw⟩ := hw
  by_cases h4 : lo = 0
  · have w1 : (lo != 0) = false := by rw [bne_eq_false_iff_eq]; exact h4
    have w2 : (hi != 6) = true := by rw [bne_iff_ne]; exact fun q => hw ⟨h4, q⟩
    clear h h1 h2 h3 h4 hw
    go_enter Tryz.func76, Tryz.ntmps76
    go_wp2_with fail
    go_ret
    exact ⟨rfl, X.out.below⟩
  · have w1 : (lo != 0) = true := by rw [bne_iff_ne]; exact h4
    clear h h1 h2 h3 h4 hw
    go_enter Tryz.func76, Tryz.ntmps76
    go_wp2_with fail
    go_ret
    exact ⟨rfl, X.out.below⟩
set_option maxRecDepth 100000 in
set_option maxHeartbeats 4000000 in
/-- the names are wrong -/
theorem checkR_names (lo hi : Int) (v : Value) (xs : List ByteArray) (wk : Bool) (w : World) (hv : IsStrs w v xs) (h1 : 0 ≤ lo) (h2 : lo ≤ hi) (h3 : hi ≤ 62) (h4 : wk = true → lo = 0 ∧ hi = 6) (h : ¬ NamedOk xs (hi - lo + 1)) (hs : ∀ x ∈ xs, x.size ≤ 9223372036854775807) :
    Calls Tryz.prog 76 #[.agg #[.int .i64 lo, .int .i64 hi, v, .bool wk]] w fun e w' => e = .returned (.int .i64 2) ∧ Below w.heap.size w w' := by
  have X := Lib.hid (KBox.new w lo hi v xs wk 95 hv)
  obtain ⟨A, cap, rfl, _, _⟩ := hv
  have d1 : decide (lo < 0) = false := by rw [decide_eq_false_iff_not]; omega
  have d2 : decide (hi < lo) = false := by rw [decide_eq_false_iff_not]; omega
  have d3 : decide ((62 : Int) < hi) = false := by rw [decide_eq_false_iff_not]; omega
  have h0 : 0 < xs.length := by
    rcases Nat.eq_zero_or_pos xs.length with a | a
    · exact (h (.inl (List.length_eq_zero_iff.1 a))).elim
    · exact a
  have n1 : ((xs.length : Int) != 0) = true := by rw [bne_iff_ne]; omega
  have hw : (wk = false) ∨ (wk = true ∧ (lo != 0) = false ∧ (hi != 6) = false) := by
    cases wk with
    | false => exact .inl rfl
    | true => exact .inr ⟨rfl, by rw [bne_eq_false_iff_eq]; exact (h4 rfl).1, by rw [bne_eq_false_iff_eq]; exact (h4 rfl).2⟩
  by_cases hl : (xs.length : Int) = hi - lo + 1
  rotate_left
  · have n2 : ((xs.length : Int) != hi - lo + 1) = true := by rw [bne_iff_ne]; exact hl
    clear h h0 hl h4
    rcases hw with rfl | ⟨rfl, w1, w2⟩
    all_goals
      go_enter Tryz.func76, Tryz.ntmps76
      go_wp2_with fail
      go_ret
      exact ⟨rfl, X.out.below⟩
  have n2 : ((xs.length : Int) != hi - lo + 1) = false := by rw [bne_eq_false_iff_eq]; exact hl
  obtain ⟨k0, hk0, hgood, hbad⟩ := nmTo_first xs (fun q => h (.inr ⟨hl, q⟩))
  have h63 : xs.length ≤ 63 := by omega
  have HN := Lib.hid hgood
  have HB := Lib.hid hbad
  have HS := Lib.hid hs
  clear h h0 hl h4 hgood hbad hs
  rcases hw with rfl | ⟨rfl, w1, w2⟩
  all_goals
    go_enter Tryz.func76, Tryz.ntmps76
    go_wp2_with fail
    clear n1 n2 d1 d2 d3
    go_loopw [3] (fun i wr => ∃ k : Nat, k ≤ k0 ∧ i = .int .i64 k ∧ Hid (KBox w wr w.heap.size lo hi (.slice A xs.length cap) xs _)) (fun i _ => xs.length - (intOf i).toNat)
    case atStart => exact ⟨0, Nat.zero_le _, rfl, X⟩
    case round =>
      obtain ⟨k, hk, rfl, X⟩ := hrel
      have c2 := X.out.c2
      have hlt : k < xs.length := by omega
      obtain ⟨b, o, e, _, g⟩ := X.out.strs.at_ k hlt
      cases e
      have t1 : decide ((k : Int) < (xs.length : Int)) = true := by rw [decide_eq_true_iff]; omega
      have t1n : decide (k < xs.length) = true := by rw [decide_eq_true_iff]; omega
      have i0 : (0 : Int) ≤ (k : Int) := by omega
      have i1 : (k : Int) < (xs.length : Int) := by omega
      by_cases hkk : k < k0
      · obtain ⟨q1, q2⟩ := HN.out k hlt hkk
        have U := Lib.hid (fun w => upperR_any xs[k] (by have := q1.2.1; omega) true ⟨fun _ => q1, fun _ => rfl⟩ w)
        have NE := Lib.hid (not_mem_take xs k hlt xs[k] q2)
        obtain ⟨x, hx⟩ : ∃ x, xs[k] = x := ⟨_, rfl⟩
        rw [hx] at g U NE
        have HX := Lib.hid hx
        clear q1 q2 hx
        go_wp2_with fail
        refine (U.out _).mono ?_
        rintro e w1 ⟨rfl, rfl⟩
        go_wp2_with fail
        clear g
        go_loopw [4] (fun j wr => ∃ m : Nat, m ≤ k ∧ j = .int .i64 m ∧ Hid (KBox w wr w.heap.size lo hi (.slice (some ⟨b, o, none⟩) xs.length cap) xs _)) (fun j _ => k - (intOf j).toNat)
        case atStart => exact ⟨0, Nat.zero_le _, rfl, X⟩
        case round =>
          obtain ⟨m, hm, rfl, X⟩ := hrel
          have c2 := X.out.c2
          by_cases hmk : m < k
          · have hml : m < xs.length := by omega
            obtain ⟨b', o', e, _, gm⟩ := X.out.strs.at_ m hml
            cases e
            obtain ⟨b', o', e, _, gk⟩ := X.out.strs.at_ k hlt
            cases e
            have ne := str_ne (NE.out m hmk)
            rw [HX.out] at gk
            obtain ⟨y, hy⟩ : ∃ y, xs[m] = y := ⟨_, rfl⟩
            rw [hy] at gm ne
            have s1 : decide ((m : Int) < (k : Int)) = true := by rw [decide_eq_true_iff]; omega
            have s1n : decide (m < k) = true := by rw [decide_eq_true_iff]; omega
            have j0 : (0 : Int) ≤ (m : Int) := by omega
            have j1 : (m : Int) < (xs.length : Int) := by omega
            clear hy
            go_wp2_with fail
            go_quiet (fail)
            go_wp2_with fail
            go_roundw
            case rel => exact ⟨m + 1, by omega, by go_num, Lib.hid (X.out.drewN _)⟩
            case measure => simp [intOf]; omega
          · have s1 : decide ((m : Int) < (k : Int)) = false := by rw [decide_eq_false_iff_not]; omega
            have s1n : decide (m < k) = false := by rw [decide_eq_false_iff_not]; omega
            go_wp2_with fail
            go_roundw
            case rel =>
              first
                | exact ⟨k + 1, by omega, by go_num, X⟩
                | (repeat apply Exists.intro
                   refine And.intro ?_ rfl
                   exact ⟨k + 1, by omega, by go_num, X⟩)
            case measure => simp [intOf]; omega
      · obtain rfl : k = k0 := by omega
        by_cases q1 : NameB xs[k]
        · have q2 : xs[k] ∈ xs.take k := Classical.byContradiction fun q => HB.out ⟨q1, q⟩
          obtain ⟨m0, hm0, he, hne⟩ := mem_first xs k hlt xs[k] q2
          have U := Lib.hid (fun w => upperR_any xs[k] (by have := q1.2.1; omega) true ⟨fun _ => q1, fun _ => rfl⟩ w)
          have NE := Lib.hid hne
          have HE := Lib.hid he
          obtain ⟨x, hx⟩ : ∃ x, xs[k] = x := ⟨_, rfl⟩
          rw [hx] at g U NE HE
          have HX := Lib.hid hx
          clear q1 q2 hx he hne
          go_wp2_with fail
          refine (U.out _).mono ?_
          rintro e w1 ⟨rfl, rfl⟩
          go_wp2_with fail
          clear g
          go_loopw [4] (fun j wr => ∃ m : Nat, m ≤ m0 ∧ j = .int .i64 m ∧ Hid (KBox w wr w.heap.size lo hi (.slice (some ⟨b, o, none⟩) xs.length cap) xs _)) (fun j _ => k - (intOf j).toNat)
          case atStart => exact ⟨0, Nat.zero_le _, rfl, X⟩
          case round =>
            obtain ⟨m, hm, rfl, X⟩ := hrel
            have c2 := X.out.c2
            have hml : m < xs.length := by omega
            obtain ⟨b', o', e, _, gm⟩ := X.out.strs.at_ m hml
            cases e
            obtain ⟨b', o', e, _, gk⟩ := X.out.strs.at_ k hlt
            cases e
            rw [HX.out] at gk
            have s1 : decide ((m : Int) < (k : Int)) = true := by rw [decide_eq_true_iff]; omega
            have s1n : decide (m < k) = true := by rw [decide_eq_true_iff]; omega
            have j0 : (0 : Int) ≤ (m : Int) := by omega
            have j1 : (m : Int) < (xs.length : Int) := by omega
            by_cases hmk : m < m0
            · have ne := str_ne (NE.out m hmk)
              obtain ⟨y, hy⟩ : ∃ y, xs[m] = y := ⟨_, rfl⟩
              rw [hy] at gm ne
              clear hy
              go_wp2_with fail
              go_quiet (fail)
              go_wp2_with fail
              go_roundw
              case rel => exact ⟨m + 1, by omega, by go_num, Lib.hid (X.out.drewN _)⟩
              case measure => simp [intOf]; omega
            · obtain rfl : m = m0 := by omega
              rw [HE.out] at gm
              have ne : (x.toList == x.toList) = true := by simp
              go_wp2_with fail
              go_quiet (fail)
              go_wp2_with fail
              go_ret
              exact ⟨rfl, (X.out.drewN _).below⟩
        · have U := Lib.hid (fun w => upperR_any xs[k] (HS.out _ (List.getElem_mem hlt)) false ⟨fun q => (by cases q), fun q => (q1 q).elim⟩ w)
          obtain ⟨x, hx⟩ : ∃ x, xs[k] = x := ⟨_, rfl⟩
          rw [hx] at g U
          clear q1 hx
          go_wp2_with fail
          refine (U.out _).mono ?_
          rintro e w1 ⟨rfl, rfl⟩
          go_wp2_with fail
          go_ret
          exact ⟨rfl, X.out.below⟩
theorem checkR_no (lo hi : Int) (v : Value) (xs : List ByteArray) (wk : Bool) (w : World) (hv : IsStrs w v xs) (h : ¬ Valid lo hi xs wk) (hs : ∀ x ∈ xs, x.size ≤ 9223372036854775807) :
    Calls Tryz.prog 76 #[.agg #[.int .i64 lo, .int .i64 hi, v, .bool wk]] w fun e w' => e = .returned (.int .i64 2) ∧ Below w.heap.size w w' := by
  by_cases c : 0 ≤ lo ∧ lo ≤ hi ∧ hi ≤ 62 ∧ (wk = true → lo = 0 ∧ hi = 6)
  · obtain ⟨h1, h2, h3, h4⟩ := c
    exact checkR_names lo hi v xs wk w hv h1 h2 h3 h4 (fun q => h ⟨h1, h2, h3, h4, q⟩) hs
  · exact checkR_nums lo hi v xs wk w hv c
theorem checkR_any (lo hi : Int) (v : Value) (xs : List ByteArray) (wk : Bool) (q : Int) (w : World) (hv : IsStrs w v xs) (hs : ∀ x ∈ xs, x.size ≤ 9223372036854775807) (h : ErrOf lo hi xs wk q) :
    Calls Tryz.prog 76 #[.agg #[.int .i64 lo, .int .i64 hi, v, .bool wk]] w fun e w' => e = .returned (.int .i64 q) ∧ Below w.heap.size w w' := by
  rcases h with ⟨h, rfl⟩ | ⟨h, rfl⟩
  · exact checkR_yes lo hi v xs wk w hv h
  · exact checkR_no lo hi v xs wk w hv h hs
end Go.Proofs.YtpnfifhanmpapaaGreatDoor
/- The document's Name and Specs. -/
namespace Go.Proofs.YtpnfifhanmpapaaGreatDoor
open Go.ChangeShapes Go.WideShapes Go.RowKit Go.Shelf
/-- six kinds in block B, with their names nv -/
structure SixC (W : World) (B : Nat) (nv : Nat → Value) : Prop where
  lt : B < W.heap.size
  cells : ∀ i, i < 6 → W.cell? ⟨B, i * 4, none⟩ = some (.int .i64 (kd6 i).lo) ∧ W.cell? ⟨B, i * 4 + 1, none⟩ = some (.int .i64 (kd6 i).hi) ∧ W.cell? ⟨B, i * 4 + 2, none⟩ = some (nv i) ∧ W.cell? ⟨B, i * 4 + 3, none⟩ = some (.bool (kd6 i).week)
  strs : ∀ i, i < 6 → IsStrs W (nv i) (xs6 i)
theorem SixC.next {W W' : World} {B : Nat} {nv : Nat → Value} (h : SixC W B nv) (hb : Below W.heap.size W W') : SixC W' B nv :=
  ⟨Nat.lt_of_lt_of_le h.lt hb.size, fun i hi => by
    obtain ⟨a, b, c, d⟩ := h.cells i hi
    exact ⟨(hb.cell (p := ⟨B, i * 4, none⟩) h.lt).trans a, (hb.cell (p := ⟨B, i * 4 + 1, none⟩) h.lt).trans b, (hb.cell (p := ⟨B, i * 4 + 2, none⟩) h.lt).trans c, (hb.cell (p := ⟨B, i * 4 + 3, none⟩) h.lt).trans d⟩,
  fun i hi => (h.strs i hi).below hb⟩
theorem Six.c {W : World} {a : Nat} (h : Six W a) : SixC W (a + 1 + 1) (na6 a) := ⟨h.lt, fun i hi => h.at_ i hi, fun i hi => h.strs i hi⟩
theorem sixR_allocs {w : World} {o1 o2 o3 : Obj} (h1 : o1 = .cells (xsM.map Value.string).toArray 9) (h2 : o2 = .cells (xsW.map Value.string).toArray 9)
    (h3 : o3 = .cells #[.int .i64 0, .int .i64 59, .slice none 0 0, .bool false, .int .i64 0, .int .i64 59, .slice none 0 0, .bool false, .int .i64 0, .int .i64 23, .slice none 0 0, .bool false, .int .i64 1, .int .i64 31, .slice none 0 0, .bool false, .int .i64 1, .int .i64 12, .slice (some ⟨w.heap.size, 0, none⟩) 12 12, .bool false, .int .i64 0, .int .i64 6, .slice (some ⟨w.heap.size + 1, 0, none⟩) 7 7, .bool true] 95) : SixC (((w.alloc o1).alloc o2).alloc o3) (w.heap.size + 1 + 1) (na6 w.heap.size) := by
  have s1 : (w.alloc o1).heap.size = w.heap.size + 1 := by simp
  have s2 : ((w.alloc o1).alloc o2).heap.size = (w.alloc o1).heap.size + 1 := by simp
  have m : (((w.alloc o1).alloc o2).alloc o3).heap[w.heap.size]? = some (.cells (xsM.map Value.string).toArray 9 (0, 0)) := by
    rw [heap_old _ _ _ (by omega), heap_old _ _ _ (by omega), World.alloc_heap_new, h1]
  have d : (((w.alloc o1).alloc o2).alloc o3).heap[w.heap.size + 1]? = some (.cells (xsW.map Value.string).toArray 9 (0, 0)) := by
    rw [heap_old _ _ _ (by omega), ← s1, World.alloc_heap_new, h2]
  have k : (((w.alloc o1).alloc o2).alloc o3).heap[w.heap.size + 1 + 1]? = some o3 := by
    rw [show w.heap.size + 1 + 1 = ((w.alloc o1).alloc o2).heap.size by omega, World.alloc_heap_new]
  have lt := (Array.getElem?_eq_some_iff.1 k).1
  rw [h3] at k
  refine ⟨lt, fun i hi => ?_, fun i hi => ?_⟩
  · simp only [World.cell?, h3, k]
    match i, hi with
    | 0, _ => exact ⟨rfl, rfl, rfl, rfl⟩
    | 1, _ => exact ⟨rfl, rfl, rfl, rfl⟩
    | 2, _ => exact ⟨rfl, rfl, rfl, rfl⟩
    | 3, _ => exact ⟨rfl, rfl, rfl, rfl⟩
    | 4, _ => exact ⟨rfl, rfl, rfl, rfl⟩
    | 5, _ => exact ⟨rfl, rfl, rfl, rfl⟩
  · exact six_cases hi (P := fun i => IsStrs _ (na6 w.heap.size i) (xs6 i)) (strs_nil _) (strs_nil _) (strs_nil _) (strs_nil _) (strs_block m) (strs_block d)
set_option maxRecDepth 100000 in
set_option maxHeartbeats 2000000 in
theorem specsR_any (w : World) :
    Calls Tryz.prog 45 #[] w fun e w' => e = .returned (.slice (some ⟨w.heap.size + 1 + 1, 0, none⟩) 6 6) ∧ Below w.heap.size w w' ∧ SixC w' (w.heap.size + 1 + 1) (na6 w.heap.size) := by
  go_enter Tryz.func45, Tryz.ntmps45
  go_wp2
  go_ret
  exact ⟨rfl, three_below _ _ _ _, sixR_allocs rfl rfl rfl⟩
/-- the six kinds of both, in a world since w -/
structure NCtx (w W : World) (B1 B2 : Nat) (n1 n2 : Nat → Value) : Prop where
  below : Below w.heap.size w W
  lay : Lay W
  one : SixC W B1 n1
  two : SixC W B2 n2
theorem NCtx.next {w W W' : World} {B1 B2 : Nat} {n1 n2 : Nat → Value} (h : NCtx w W B1 B2 n1 n2) (hb : Below W.heap.size W W') : NCtx w W' B1 B2 n1 n2 :=
  ⟨h.below.trans (hb.mono h.below.size), h.lay.below hb, h.one.next hb, h.two.next hb⟩
theorem NCtx.drew {w W : World} {B1 B2 : Nat} {n1 n2 : Nat → Value} (h : NCtx w W B1 B2 n1 n2) : NCtx w W.drew B1 B2 n1 n2 := h.next ((Below.refl _ W).drew)
theorem NCtx.drewN {w W : World} {B1 B2 : Nat} {n1 n2 : Nat → Value} (h : NCtx w W B1 B2 n1 n2) (n : Nat) : NCtx w (W.drewN n) B1 B2 n1 n2 := h.next (below_drewN _ W n)
theorem xs6_len (i : Nat) (h : i < 6) : (xs6 i).length ≤ 12 := six_cases h (P := fun i => (xs6 i).length ≤ 12) (by decide) (by decide) (by decide) (by decide) (by decide) (by decide)
end Go.Proofs.YtpnfifhanmpapaaGreatDoor
