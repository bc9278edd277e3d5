/- Kinds as the statements have them, and the document's: short, spec, ref, texts; the document's upper and Check. -/
import Derived.Test.YtlmbfhbfejjpdaaGreatDoorFldW
namespace Go.Proofs.YtlmbfhbfejjpdaaGreatDoor
open Go.ChangeShapes Go.WideShapes Go.RowKit Go.Shelf

/-- a kind in block B, in a world since w -/
structure KBox (w W : World) (B : Nat) (lo hi : Int) (v : Value) (xs : List ByteArray) (wk : Bool) : Prop where
  below : Below w.heap.size w W
  lt : B < W.heap.size
  strs : IsStrs W v xs
  c0 : W.cell? ⟨B, 0, none⟩ = some (.int .i64 lo)
  c1 : W.cell? ⟨B, 1, none⟩ = some (.int .i64 hi)
  c2 : W.cell? ⟨B, 2, none⟩ = some v
  c3 : W.cell? ⟨B, 3, none⟩ = some (.bool wk)
theorem KBox.new (w : World) (lo hi : Int) (v : Value) (xs : List ByteArray) (wk : Bool) (t : TypeId) (hv : IsStrs w v xs) : KBox w (w.alloc (.cells #[.int .i64 lo, .int .i64 hi, v, .bool wk] t)) w.heap.size lo hi v xs wk := by
  have B1 : Below w.heap.size w (w.alloc (.cells #[.int .i64 lo, .int .i64 hi, v, .bool wk] t)) := (Below.refl _ _).alloc (Nat.le_refl _) _
  have hh := World.alloc_heap_new w (.cells #[.int .i64 lo, .int .i64 hi, v, .bool wk] t)
  exact ⟨B1, by simp, hv.below B1, by simp only [World.cell?, hh]; rfl, by simp only [World.cell?, hh]; rfl, by simp only [World.cell?, hh]; rfl, by simp only [World.cell?, hh]; rfl⟩
theorem KBox.next {w W W' : World} {B : Nat} {lo hi : Int} {v : Value} {xs : List ByteArray} {wk : Bool} (h : KBox w W B lo hi v xs wk) (hb : Below W.heap.size W W') : KBox w W' B lo hi v xs wk :=
  ⟨h.below.trans (hb.mono h.below.size), Nat.lt_of_lt_of_le h.lt hb.size, h.strs.below hb, (hb.cell (p := ⟨B, 0, none⟩) h.lt).trans h.c0, (hb.cell (p := ⟨B, 1, none⟩) h.lt).trans h.c1, (hb.cell (p := ⟨B, 2, none⟩) h.lt).trans h.c2, (hb.cell (p := ⟨B, 3, none⟩) h.lt).trans h.c3⟩
theorem KBox.drewN {w W : World} {B : Nat} {lo hi : Int} {v : Value} {xs : List ByteArray} {wk : Bool} (h : KBox w W B lo hi v xs wk) (n : Nat) : KBox w (W.drewN n) B lo hi v xs wk := h.next (below_drewN _ W n)
/-- which kinds are looked at -/
theorem short_first (xs : List ByteArray) : (∀ k (h : k < xs.length), k < 70 → xs[k].size ≤ 20) ∨ ∃ k, ∃ h : k < xs.length, k < 70 ∧ 20 < xs[k].size ∧ ∀ j (hj : j < k), (xs[j]'(by omega)).size ≤ 20 := by
  have key : ∀ n, n ≤ xs.length → (∀ k (h : k < xs.length), k < n → k < 70 → xs[k].size ≤ 20) ∨ ∃ k, ∃ h : k < xs.length, k < 70 ∧ 20 < xs[k].size ∧ ∀ j (hj : j < k), (xs[j]'(by omega)).size ≤ 20 := by
    intro n
    induction n with
    | zero => exact fun _ => .inl fun k _ h => by omega
    | succ n ih =>
      intro hn
      rcases ih (by omega) with h | h
      · by_cases c : n < 70 ∧ 20 < (xs[n]'(by omega)).size
        · exact .inr ⟨n, by omega, c.1, c.2, fun j hj => h j (by omega) hj (by omega)⟩
        · refine .inl fun k hk hkn h70 => ?_
          rcases Nat.lt_or_ge k n with a | a
          · exact h k hk a h70
          · obtain rfl : k = n := by omega
            have : ¬ 20 < xs[k].size := fun q => c ⟨h70, q⟩
            omega
      · exact .inr h
  rcases key xs.length (Nat.le_refl _) with h | h
  · exact .inl fun k hk h70 => h k hk hk h70
  · exact .inr h
set_option maxHeartbeats 1000000 in
theorem short_any (lo hi : Int) (xs : List ByteArray) (wk : Bool) (hl : xs.length ≤ 9223372036854775807) (hs : ∀ x ∈ xs, x.size ≤ 9223372036854775807) :
    ∃ b : Bool, (b = true → xs.length ≤ 70 ∧ ∀ x ∈ xs, x.size ≤ 20) ∧ ∀ (v : Value) (w : World), IsStrs w v xs →
      Calls Tryz.prog 5 #[.agg #[.int .i64 lo, .int .i64 hi, v, .bool wk]] w fun e w' => e = .returned (.bool b) ∧ Below w.heap.size w w' := by
  rcases short_first xs with h | ⟨k0, hk0, h70, hbad, hgood⟩
  · by_cases c : xs.length ≤ 70
    · refine ⟨true, fun _ => ⟨c, fun x hx => ?_⟩, fun v w hv => ?_⟩
      · obtain ⟨k, hk, rfl⟩ := List.getElem_of_mem hx
        exact h k hk (by omega)
      · have X := Lib.hid (KBox.new w lo hi v xs wk 24 hv)
        obtain ⟨A, cap, rfl, _, _⟩ := hv
        have H := Lib.hid h
        have t7 : decide ((xs.length : Int) ≤ 70) = true := by rw [decide_eq_true_iff]; omega
        have t7n : decide (xs.length ≤ 70) = true := by rw [decide_eq_true_iff]; omega
        clear h
        go_enter Tryz.func5, Tryz.ntmps5
        go_wp2_with fail
        go_loop [3] (fun i => ∃ k : Nat, k ≤ xs.length ∧ i = .int .i64 k) (fun i => xs.length - (intOf i).toNat)
        case atStart => exact ⟨0, Nat.zero_le _, rfl⟩
        case round =>
          obtain ⟨k, hk, rfl⟩ := hrel
          by_cases hlt : k < xs.length
          · obtain ⟨b, o, e, _, g⟩ := X.out.strs.at_ k hlt
            cases e
            have q1 : decide ((k : Int) < (xs.length : Int)) = true := by rw [decide_eq_true_iff]; omega
            have q1n : decide (k < xs.length) = true := by rw [decide_eq_true_iff]; omega
            have q2 : decide ((k : Int) < 70) = true := by rw [decide_eq_true_iff]; omega
            have q2n : decide (k < 70) = true := by rw [decide_eq_true_iff]; omega
            have i0 : (0 : Int) ≤ (k : Int) := by omega
            have i1 : (k : Int) < (xs.length : Int) := by omega
            have s20 := H.out k hlt (by omega)
            obtain ⟨x, hx⟩ : ∃ x, xs[k] = x := ⟨_, rfl⟩
            rw [hx] at g s20
            have q3 : decide ((20 : Int) < (x.size : Int)) = false := by rw [decide_eq_false_iff_not]; omega
            have q3n : decide (20 < x.size) = false := by rw [decide_eq_false_iff_not]; omega
            clear hx
            go_wp2_with fail
            go_round
            case rel => exact ⟨k + 1, by omega, by go_num⟩
            case measure => simp [intOf]; omega
          · have q1 : decide ((k : Int) < (xs.length : Int)) = false := by rw [decide_eq_false_iff_not]; omega
            have q1n : decide (k < xs.length) = false := by rw [decide_eq_false_iff_not]; omega
            go_wp2_with fail
            go_ret
            exact ⟨rfl, X.out.below⟩
    · refine ⟨false, fun q => (by cases q), fun v w hv => ?_⟩
      have X := Lib.hid (KBox.new w lo hi v xs wk 24 hv)
      obtain ⟨A, cap, rfl, _, _⟩ := hv
      have H := Lib.hid h
      have t7 : decide ((xs.length : Int) ≤ 70) = false := by rw [decide_eq_false_iff_not]; omega
      have t7n : decide (xs.length ≤ 70) = false := by rw [decide_eq_false_iff_not]; omega
      clear h
      go_enter Tryz.func5, Tryz.ntmps5
      go_wp2_with fail
      go_loop [3] (fun i => ∃ k : Nat, k ≤ 70 ∧ i = .int .i64 k) (fun i => 70 - (intOf i).toNat)
      case atStart => exact ⟨0, Nat.zero_le _, rfl⟩
      case round =>
        obtain ⟨k, hk, rfl⟩ := hrel
        have hlt : k < xs.length := by omega
        have q1 : decide ((k : Int) < (xs.length : Int)) = true := by rw [decide_eq_true_iff]; omega
        have q1n : decide (k < xs.length) = true := by rw [decide_eq_true_iff]; omega
        by_cases h7 : k < 70
        · obtain ⟨b, o, e, _, g⟩ := X.out.strs.at_ k hlt
          cases e
          have q2 : decide ((k : Int) < 70) = true := by rw [decide_eq_true_iff]; omega
          have q2n : decide (k < 70) = true := by rw [decide_eq_true_iff]; omega
          have i0 : (0 : Int) ≤ (k : Int) := by omega
          have i1 : (k : Int) < (xs.length : Int) := by omega
          have s20 := H.out k hlt (by omega)
          obtain ⟨x, hx⟩ : ∃ x, xs[k] = x := ⟨_, rfl⟩
          rw [hx] at g s20
          have q3 : decide ((20 : Int) < (x.size : Int)) = false := by rw [decide_eq_false_iff_not]; omega
          have q3n : decide (20 < x.size) = false := by rw [decide_eq_false_iff_not]; omega
          clear hx
          go_wp2_with fail
          go_round
          case rel => exact ⟨k + 1, by omega, by go_num⟩
          case measure => simp [intOf]; omega
        · have q2 : decide ((k : Int) < 70) = false := by rw [decide_eq_false_iff_not]; omega
          have q2n : decide (k < 70) = false := by rw [decide_eq_false_iff_not]; omega
          go_wp2_with fail
          go_ret
          exact ⟨rfl, X.out.below⟩
  · refine ⟨false, fun q => (by cases q), fun v w hv => ?_⟩
    have X := Lib.hid (KBox.new w lo hi v xs wk 24 hv)
    obtain ⟨A, cap, rfl, _, _⟩ := hv
    have H := Lib.hid hgood
    have HB := Lib.hid hbad
    have HS := Lib.hid hs
    clear hgood hbad hs
    go_enter Tryz.func5, Tryz.ntmps5
    go_wp2_with fail
    go_loop [3] (fun i => ∃ k : Nat, k ≤ k0 ∧ i = .int .i64 k) (fun i => xs.length - (intOf i).toNat)
    case atStart => exact ⟨0, Nat.zero_le _, rfl⟩
    case round =>
      obtain ⟨k, hk, rfl⟩ := hrel
      have hlt : k < xs.length := by omega
      obtain ⟨b, o, e, _, g⟩ := X.out.strs.at_ k hlt
      cases e
      have q1 : decide ((k : Int) < (xs.length : Int)) = true := by rw [decide_eq_true_iff]; omega
      have q1n : decide (k < xs.length) = true := by rw [decide_eq_true_iff]; omega
      have q2 : decide ((k : Int) < 70) = true := by rw [decide_eq_true_iff]; omega
      have q2n : decide (k < 70) = true := by rw [decide_eq_true_iff]; omega
      have i0 : (0 : Int) ≤ (k : Int) := by omega
      have i1 : (k : Int) < (xs.length : Int) := by omega
      by_cases hk1 : k < k0
      · have s20 := H.out k hk1
        obtain ⟨x, hx⟩ : ∃ x, xs[k] = x := ⟨_, rfl⟩
        rw [hx] at g s20
        have q3 : decide ((20 : Int) < (x.size : Int)) = false := by rw [decide_eq_false_iff_not]; omega
        have q3n : decide (20 < x.size) = false := by rw [decide_eq_false_iff_not]; omega
        clear hx
        go_wp2_with fail
        go_round
        case rel => exact ⟨k + 1, by omega, by go_num⟩
        case measure => simp [intOf]; omega
      · obtain rfl : k = k0 := by omega
        have s20 := HB.out
        have sm := HS.out _ (List.getElem_mem hlt)
        obtain ⟨x, hx⟩ : ∃ x, xs[k] = x := ⟨_, rfl⟩
        rw [hx] at g s20 sm
        have q3 : decide ((20 : Int) < (x.size : Int)) = true := by rw [decide_eq_true_iff]; omega
        have q3n : decide (20 < x.size) = true := by rw [decide_eq_true_iff]; omega
        clear hx
        go_wp2_with fail
        go_ret
        exact ⟨rfl, X.out.below⟩
theorem two_new (w : World) (o1 o2 : Obj) : Below w.heap.size w ((w.alloc o1).alloc o2) := ((Below.refl _ w).alloc (Nat.le_refl _) o1).alloc (by simp) o2
theorem spec_any (lo hi : Int) (v : Value) (xs : List ByteArray) (wk : Bool) (w : World) (hv : IsStrs w v xs) :
    Calls Tryz.prog 8 #[.agg #[.int .i64 lo, .int .i64 hi, v, .bool wk]] w fun e w' => e = .returned (.agg #[.int .i64 lo, .int .i64 hi, v, .bool wk]) ∧ Below w.heap.size w w' := by
  obtain ⟨A, cap, rfl, _, _⟩ := hv
  go_enter Tryz.func8, Tryz.ntmps8
  go_wp2_with fail
  refine bodyPost_ret (v := .agg #[.int .i64 lo, .int .i64 hi, .slice A xs.length cap, .bool wk]) (by simp [results, Tryz.results8, go_sem]) rfl ⟨rfl, ?_⟩
  exact two_new _ _ _
theorem ref_any (lo hi : Int) (v : Value) (xs : List ByteArray) (wk : Bool) (w : World) (hv : IsStrs w v xs) :
    Calls Tryz.prog 10 #[.agg #[.int .i64 lo, .int .i64 hi, v, .bool wk]] w fun e w' => e = .returned (.agg #[.int .i64 lo, .int .i64 hi, v, .bool wk]) ∧ Below w.heap.size w w' := by
  obtain ⟨A, cap, rfl, _, _⟩ := hv
  go_enter Tryz.func10, Tryz.ntmps10
  go_wp2_with fail
  refine bodyPost_ret (v := .agg #[.int .i64 lo, .int .i64 hi, .slice A xs.length cap, .bool wk]) (by simp [results, Tryz.results10, go_sem]) rfl ⟨rfl, ?_⟩
  exact two_new _ _ _
set_option maxHeartbeats 1000000 in
/-- two lists of the same strings are equal -/
theorem texts_same (v v' : Value) (xs : List ByteArray) (w : World) (hl : xs.length ≤ 9223372036854775807) (hv : IsStrs w v xs) (hv' : IsStrs w v' xs) :
    Calls Tryz.prog 13 #[v, v'] w fun e w' => e = .returned (.bool true) ∧ Below w.heap.size w w' := by
  have V := Lib.hid hv
  have V' := Lib.hid hv'
  obtain ⟨A, cap, rfl, _, _⟩ := hv
  obtain ⟨A', cap', rfl, _, _⟩ := hv'
  go_enter Tryz.func13, Tryz.ntmps13
  go_wp2_with fail
  go_loopw [5] (fun i wr => ∃ k : Nat, k ≤ xs.length ∧ i = .int .i64 k ∧ Hid (Below w.heap.size w wr)) (fun i _ => xs.length - (intOf i).toNat)
  case atStart => exact ⟨0, Nat.zero_le _, rfl, Lib.hid (Below.refl _ _)⟩
  case round =>
    obtain ⟨k, hk, rfl, hb⟩ := hrel
    by_cases hlt : k < xs.length
    · obtain ⟨b, o, e, _, g⟩ := (V.out.below hb.out).at_ k hlt
      cases e
      obtain ⟨b', o', e, _, g'⟩ := (V'.out.below hb.out).at_ k hlt
      cases e
      have q1 : decide ((k : Int) < (xs.length : Int)) = true := by rw [decide_eq_true_iff]; omega
      have q1n : decide (k < xs.length) = true := by rw [decide_eq_true_iff]; omega
      have i0 : (0 : Int) ≤ (k : Int) := by omega
      have i1 : (k : Int) < (xs.length : Int) := by omega
      obtain ⟨x, hx⟩ : ∃ x, xs[k] = x := ⟨_, rfl⟩
      rw [hx] at g g'
      have ne : (x.toList != x.toList) = false := by simp
      clear hx
      go_wp2_with fail
      go_quiet (fail)
      go_wp2_with fail
      go_roundw
      case rel => exact ⟨k + 1, by omega, by go_num, Lib.hid (hb.out.trans ((below_drewN _ _ _).mono hb.out.size))⟩
      case measure => simp [intOf]; omega
    · have q1 : decide ((k : Int) < (xs.length : Int)) = false := by rw [decide_eq_false_iff_not]; omega
      have q1n : decide (k < xs.length) = false := by rw [decide_eq_false_iff_not]; omega
      go_wp2_with fail
      go_ret
      exact ⟨rfl, hb.out⟩

/-! the document's upper -/
theorem upN_dec {c : Nat} (h : Fld.upN c = true) : decide ((c : Int) < 65) = false ∧ decide ((90 : Int) < (c : Int)) = false := by
  unfold Fld.upN at h
  have h := of_decide_eq_true h
  exact ⟨by rw [decide_eq_false_iff_not]; omega, by rw [decide_eq_false_iff_not]; omega⟩
set_option maxHeartbeats 1000000 in
theorem upperR_any (s : ByteArray) (hs : s.size ≤ 9223372036854775807) (r : Bool) (h : (r = true) ↔ NameB s) (w : World) :
    Calls Tryz.prog 38 #[.string s] w fun e w' => e = .returned (.bool r) ∧ w = w' := by
  rcases up_first s with hup | ⟨k0, hk0, hbad, hgood⟩
  · have hr : r = (decide (1 ≤ s.size) && decide (s.size ≤ 9)) := by
      rw [Bool.eq_iff_iff, h, Bool.and_eq_true, decide_eq_true_iff, decide_eq_true_iff]
      exact ⟨fun q => ⟨q.1, q.2.1⟩, fun q => ⟨q.1, q.2, hup⟩⟩
    have H := Lib.hid hup
    clear hup h
    have key : (r = false ∧ decide ((1 : Int) ≤ (s.size : Int)) = false ∧ decide (1 ≤ s.size) = false ∧ s.size = 0) ∨ (decide ((1 : Int) ≤ (s.size : Int)) = true ∧ decide (1 ≤ s.size) = true ∧ decide ((s.size : Int) ≤ 9) = r ∧ decide (s.size ≤ 9) = r ∧ 1 ≤ s.size) := by
      by_cases c : 1 ≤ s.size
      · right
        rw [decide_eq_true c, Bool.true_and] at hr
        refine ⟨by rw [decide_eq_true_iff]; omega, decide_eq_true c, ?_, hr.symm, c⟩
        rw [hr, decide_eq_decide]; omega
      · left
        rw [decide_eq_false c, Bool.false_and] at hr
        exact ⟨hr, by rw [decide_eq_false_iff_not]; omega, decide_eq_false c, by omega⟩
    clear hr
    rcases key with ⟨rfl, y1, y2, hz⟩ | ⟨y1, y2, y3, y4, hz⟩
    · obtain rfl := str_empty hz
      clear hz y1 y2
      go_enter Tryz.func38, Tryz.ntmps38
      go_wp2_with fail
      go_loop [3] (fun i => i = .int .i64 0) (fun _ => 0)
      case atStart => rfl
      case round =>
        subst hrel
        go_wp2_with fail
        go_ret
        exact ⟨rfl, rfl⟩
    · clear hz
      go_enter Tryz.func38, Tryz.ntmps38
      go_wp2_with fail
      go_loop [3] (fun i => ∃ k : Nat, k ≤ s.size ∧ i = .int .i64 k) (fun i => s.size - (intOf i).toNat)
      case atStart => exact ⟨0, Nat.zero_le _, rfl⟩
      case round =>
        obtain ⟨k, hk, rfl⟩ := hrel
        by_cases hlt : k < s.size
        · obtain ⟨u1, u2⟩ := upN_dec (H.out k hlt)
          go_wp2_with fail
          go_round
          case rel => exact ⟨k + 1, by omega, by go_num⟩
          case measure => simp [intOf]; omega
        · go_wp2_with fail
          go_ret
          exact ⟨rfl, rfl⟩
  · have hr : r = false := by
      rw [Bool.eq_false_iff, Ne, h]
      intro q
      rw [q.2.2 k0 hk0] at hbad
      cases hbad
    subst hr
    have H := Lib.hid hgood
    have hb2 : decide ((s[k0].toNat : Int) < 65) = true ∨ (decide ((s[k0].toNat : Int) < 65) = false ∧ decide ((90 : Int) < (s[k0].toNat : Int)) = true) := by
      unfold Fld.upN at hbad
      have hbad := of_decide_eq_false hbad
      rw [decide_eq_true_iff, decide_eq_false_iff_not, decide_eq_true_iff]
      omega
    have HB := Lib.hid hb2
    clear hgood hbad h hb2
    go_enter Tryz.func38, Tryz.ntmps38
    go_wp2_with fail
    go_loop [3] (fun i => ∃ k : Nat, k ≤ k0 ∧ i = .int .i64 k) (fun i => s.size - (intOf i).toNat)
    case atStart => exact ⟨0, Nat.zero_le _, rfl⟩
    case round =>
      obtain ⟨k, hk, rfl⟩ := hrel
      by_cases hlt : k < k0
      · have hk1 : k < s.size := by omega
        obtain ⟨u1, u2⟩ := upN_dec (H.out k hlt)
        go_wp2_with fail
        go_round
        case rel => exact ⟨k + 1, by omega, by go_num⟩
        case measure => simp [intOf]; omega
      · obtain rfl : k = k0 := by omega
        rcases HB.out with u1 | ⟨u1, u2⟩
        all_goals
          go_wp2_with fail
          go_ret
          exact ⟨rfl, rfl⟩
end Go.Proofs.YtlmbfhbfejjpdaaGreatDoor
