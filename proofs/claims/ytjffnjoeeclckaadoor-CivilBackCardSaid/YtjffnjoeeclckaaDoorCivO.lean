/- Contracts of Order, of package civil and of the document's: -1, 0 or 1 by the first parts that differ, for any numbers. -/
import Derived.Test.YtjffnjoeeclckaaDoorCivE
import Derived.StillTailTactics
namespace Go.Proofs.YtjffnjoeeclckaaDoor
open Go.ChangeShapes Go.RowKit

def cmpI (a b : Int) : Int := if a < b then -1 else if b < a then 1 else 0
/-- the first number that is not 0, or 0 -/
def firstI : List Int → Int
  | [] => 0
  | a :: l => if a = 0 then firstI l else a
def ordI (y m d h i s y' m' d' h' i' s' : Int) : Int := firstI [cmpI y y', cmpI m m', cmpI d d', cmpI h h', cmpI i i', cmpI s s']
theorem cmpI_lt {a b : Int} (h : a < b) : cmpI a b = -1 := by simp [cmpI, h]
theorem cmpI_gt {a b : Int} (h : b < a) : cmpI a b = 1 := by unfold cmpI; rw [if_neg (by omega), if_pos h]
theorem cmpI_eq (a : Int) : cmpI a a = 0 := by simp [cmpI]
theorem cmpI_zero {a b : Int} : cmpI a b = 0 ↔ a = b := by unfold cmpI; repeat' split
                                                           all_goals omega
theorem cmpI_bd (a b : Int) : -1 ≤ cmpI a b ∧ cmpI a b ≤ 1 := by unfold cmpI; repeat' split
                                                                 all_goals omega

theorem nan_any (a : Int) (w : World) : Calls Tryd.prog 48 #[.int .i64 a] w fun e w' => e = .returned (.bool false) ∧ w = w' := by
  have h : (a != a) = false := by simp
  go_enter Tryd.func48, Tryd.ntmps48
  go_wp2
  go_ret
  exact ⟨rfl, rfl⟩
theorem compare_any (a b : Int) (w : World) : Calls Tryd.prog 42 #[.int .i64 a, .int .i64 b] w fun e w' => e = .returned (.int .i64 (cmpI a b)) ∧ w = w' := by
  by_cases h : a < b
  · rw [cmpI_lt h]
    go_enter Tryd.func42, Tryd.ntmps42
    go_wp2_with (go_at_call 48; refine (nan_any _ _).mono ?_; rintro e w' ⟨rfl, rfl⟩)
    go_ret
    exact ⟨rfl, rfl⟩
  · by_cases k : b < a
    · rw [cmpI_gt k]
      go_enter Tryd.func42, Tryd.ntmps42
      go_wp2_with (go_at_call 48; refine (nan_any _ _).mono ?_; rintro e w' ⟨rfl, rfl⟩)
      go_ret
      exact ⟨rfl, rfl⟩
    · obtain rfl : a = b := by omega
      rw [cmpI_eq]
      go_enter Tryd.func42, Tryd.ntmps42
      go_wp2_with (go_at_call 48; refine (nan_any _ _).mono ?_; rintro e w' ⟨rfl, rfl⟩)
      go_ret
      exact ⟨rfl, rfl⟩

theorem first_at : ∀ (zs : List Int) (k : Nat), k < zs.length → (∀ i, i < k → zs.getD i 0 = 0) → zs.getD k 0 ≠ 0 → firstI zs = zs.getD k 0
  | [], k, h, _, _ => by simp at h
  | a :: l, 0, _, _, h => by simp at h; simp [firstI, h]
  | a :: l, k + 1, h, hz, hn => by
    have h0 := hz 0 (by omega)
    simp at h0
    simp only [firstI, h0, if_true, List.getD_cons_succ]
    exact first_at l k (by simpa using h) (fun i hi => by have := hz (i + 1) (by omega); simpa using this) (by simpa using hn)
theorem first_none : ∀ (zs : List Int), (∀ i, i < zs.length → zs.getD i 0 = 0) → firstI zs = 0
  | [], _ => rfl
  | a :: l, h => by
    have h0 := h 0 (by simp)
    simp at h0
    simp only [firstI, h0, if_true]
    exact first_none l fun i hi => by have := h (i + 1) (by simp; omega); simpa using this

theorem or_any (b : Nat) (zs : List Int) (n c : Nat) (w : World) (hn : zs.length = n) (hm : n ≤ 9223372036854775807) (hc : ∀ i, i < n → w.cell? ⟨b, i, none⟩ = some (.int .i64 (zs.getD i 0))) :
    Calls Tryd.prog 41 #[.slice (some ⟨b, 0, none⟩) n c] w fun e w' => e = .returned (.int .i64 (firstI zs)) ∧ w = w' := by
  have HC := Lib.hid hc
  have HN := Lib.hid hn
  clear hc hn
  go_enter Tryd.func41, Tryd.ntmps41
  go_wp2
  go_loop [8, 5] (fun i _ => ∃ k : Nat, k ≤ n ∧ i = .int .i64 k ∧ Hid (∀ j, j < k → zs.getD j 0 = 0)) (fun i _ => n - (intOf i).toNat)
  case atStart => exact ⟨0, Nat.zero_le _, rfl, Lib.hid (fun j h => absurd h (by omega))⟩
  case round =>
    obtain ⟨k, hk, rfl, hz⟩ := hrel
    by_cases hlt : k < n
    · have hcell := HC.out k hlt
      obtain ⟨z, hz'⟩ : ∃ z, zs.getD k 0 = z := ⟨_, rfl⟩
      rw [hz'] at hcell
      have HZ := Lib.hid hz'
      clear hz'
      by_cases q : z = 0
      · subst q
        go_wp2
        go_round
        case rel => exact ⟨k + 1, by omega, by go_num, Lib.hid (fun j hj => by
          by_cases e : j = k
          · subst e; exact HZ.out
          · exact hz.out j (by omega))⟩
        case measure => simp [intOf]; omega
      · have q1 : (z != 0) = true := by simpa using q
        clear q
        go_wp2
        go_ret
        exact ⟨ret_int (by rw [first_at zs k (by have := HN.out; omega) hz.out (by rw [HZ.out]; simpa using q1)]; exact HZ.out.symm), rfl⟩
    · go_wp2
      go_ret
      exact ⟨ret_int (first_none zs (fun i hi => hz.out i (by have := HN.out; omega))).symm, rfl⟩

/-- two civil times, each boxed: what the cells of the new blocks hold -/
theorem two_boxed (w : World) (a b c d e f a' b' c' d' e' f' : Value) (t : TypeId) :
    ∃ W, W = (w.alloc (.cells #[a, b, c, d, e, f] t)).alloc (.cells #[a', b', c', d', e', f'] t) ∧ Below w.heap.size w W ∧ W.heap.size = w.heap.size + 2 ∧
    (W.cell? ⟨w.heap.size, 0, none⟩ = some a ∧ W.cell? ⟨w.heap.size, 1, none⟩ = some b ∧ W.cell? ⟨w.heap.size, 2, none⟩ = some c ∧ W.cell? ⟨w.heap.size, 3, none⟩ = some d ∧ W.cell? ⟨w.heap.size, 4, none⟩ = some e ∧ W.cell? ⟨w.heap.size, 5, none⟩ = some f) ∧
    W.cell? ⟨w.heap.size + 1, 0, none⟩ = some a' ∧ W.cell? ⟨w.heap.size + 1, 1, none⟩ = some b' ∧ W.cell? ⟨w.heap.size + 1, 2, none⟩ = some c' ∧ W.cell? ⟨w.heap.size + 1, 3, none⟩ = some d' ∧ W.cell? ⟨w.heap.size + 1, 4, none⟩ = some e' ∧ W.cell? ⟨w.heap.size + 1, 5, none⟩ = some f' := by
  refine ⟨_, rfl, ((Below.refl _ _).alloc (Nat.le_refl _) _).alloc (by simp) _, by simp, ?_⟩
  simp [go_sem]

set_option maxRecDepth 100000 in
theorem order_any (y m d h i s y' m' d' h' i' s' : Int) (w : World) :
    Calls Tryd.prog 32 #[.agg #[.int .i64 y, .int .i64 m, .int .i64 d, .int .i64 h, .int .i64 i, .int .i64 s], .agg #[.int .i64 y', .int .i64 m', .int .i64 d', .int .i64 h', .int .i64 i', .int .i64 s']] w
      fun e w' => e = .returned (.int .i64 (ordI y m d h i s y' m' d' h' i' s')) ∧ Below w.heap.size w w' := by
  have C := Lib.hid (fun a b w => (compare_any a b w).mono fun _ _ ⟨h1, h2⟩ => (⟨h1, h2.symm⟩ : _ ∧ _))
  obtain ⟨W, hW, bel, hsz, ⟨a0, a1, a2, a3, a4, a5⟩, b0, b1, b2, b3, b4, b5⟩ := two_boxed w (.int .i64 y) (.int .i64 m) (.int .i64 d) (.int .i64 h) (.int .i64 i) (.int .i64 s) (.int .i64 y') (.int .i64 m') (.int .i64 d') (.int .i64 h') (.int .i64 i') (.int .i64 s') 34
  have H := Lib.hid hW
  have Z := Lib.hid hsz
  clear hW hsz
  go_enter Tryd.func32, Tryd.ntmps32
  go_wp2_with fail
  rw [← H.out]
  refine wp_region_still_tail 30 (by kernel_rfl) (by kernel_rfl) ?_
  simp only [List.take_succ_cons, List.take_zero, List.drop_succ_cons, List.drop_zero]
  iterate 4 still_step
  still_call (C.out _ _ _)
  iterate 4 still_step
  still_call (C.out _ _ _)
  iterate 4 still_step
  still_call (C.out _ _ _)
  iterate 4 still_step
  still_call (C.out _ _ _)
  iterate 4 still_step
  still_call (C.out _ _ _)
  iterate 4 still_step
  still_call (C.out _ _ _)
  refine wpStill_nil ?_
  change wpList _ _ _ _ _ W.drew
  go_wp2_with fail
  refine (or_any _ [cmpI y y', cmpI m m', cmpI d d', cmpI h h', cmpI i i', cmpI s s'] 6 6 _ rfl (by decide) ?_).mono ?_
  · intro j hj
    have : j = 0 ∨ j = 1 ∨ j = 2 ∨ j = 3 ∨ j = 4 ∨ j = 5 := by omega
    rcases this with rfl | rfl | rfl | rfl | rfl | rfl <;> simp [go_sem]
  rintro e w' ⟨rfl, rfl⟩
  go_wp2_with fail
  go_ret
  exact ⟨rfl, bel.drew.alloc (by have := Z.out; simp; omega) _⟩

theorem ordI_lists (l l' : List Int) (n : Nat) (h : l.length = n) (h' : l'.length = n) :
    (∀ k, k < n → (∀ j, j < k → l.getD j 0 = l'.getD j 0) → l.getD k 0 < l'.getD k 0 → firstI (l.zipWith cmpI l') = -1) ∧
    (∀ k, k < n → (∀ j, j < k → l.getD j 0 = l'.getD j 0) → l'.getD k 0 < l.getD k 0 → firstI (l.zipWith cmpI l') = 1) ∧
    ((∀ j, j < n → l.getD j 0 = l'.getD j 0) → firstI (l.zipWith cmpI l') = 0) := by
  have hl : (l.zipWith cmpI l').length = n := by simp [h, h']
  have hz : ∀ j, j < n → (l.zipWith cmpI l').getD j 0 = cmpI (l.getD j 0) (l'.getD j 0) := by
    intro j hj
    have h1 : j < l.length := by omega
    have h2 : j < l'.length := by omega
    simp [List.getD, List.getElem?_zipWith, h1, h2]
  refine ⟨fun k hk he hlt => ?_, fun k hk he hlt => ?_, fun he => ?_⟩
  · have e : (l.zipWith cmpI l').getD k 0 = -1 := by rw [hz k hk, cmpI_lt hlt]
    rw [first_at _ k (by omega) (fun j hj => by rw [hz j (by omega), he j hj, cmpI_eq]) (by rw [e]; decide), e]
  · have e : (l.zipWith cmpI l').getD k 0 = 1 := by rw [hz k hk, cmpI_gt hlt]
    rw [first_at _ k (by omega) (fun j hj => by rw [hz j (by omega), he j hj, cmpI_eq]) (by rw [e]; decide), e]
  · exact first_none _ (fun j hj => by rw [hz j (by omega), he j (by omega), cmpI_eq])

/-- two rows of six numbers, at the third and the fourth new block -/
structure Two (w wr : World) (l l' : List Int) : Prop where
  bel : Below w.heap.size w wr
  c1 : ∀ k, k < 6 → wr.cell? ⟨w.heap.size + 1 + 1, k, none⟩ = some (.int .i64 (l.getD k 0))
  c2 : ∀ k, k < 6 → wr.cell? ⟨w.heap.size + 1 + 1 + 1, k, none⟩ = some (.int .i64 (l'.getD k 0))
theorem Two.drewN {w wr : World} {l l' : List Int} (h : Two w wr l l') (n : Nat) : Two w (wr.drewN n) l l' :=
  ⟨below_drewN h.bel n, fun k hk => by rw [← h.c1 k hk]; rfl, fun k hk => by rw [← h.c2 k hk]; rfl⟩
theorem two_rows (w : World) (a b c d e f a' b' c' d' e' f' : Int) (o o' : Obj) (t : TypeId) :
    ∃ W, W = (((w.alloc o).alloc o').alloc (.cells #[.int .i64 a, .int .i64 b, .int .i64 c, .int .i64 d, .int .i64 e, .int .i64 f] t)).alloc (.cells #[.int .i64 a', .int .i64 b', .int .i64 c', .int .i64 d', .int .i64 e', .int .i64 f'] t) ∧
      Two w W [a, b, c, d, e, f] [a', b', c', d', e', f'] := by
  refine ⟨_, rfl, ⟨((((Below.refl _ _).alloc (Nat.le_refl _) _).alloc (by simp) _).alloc (by simp; omega) _).alloc (by simp; omega) _, fun k hk => ?_, fun k hk => ?_⟩⟩
  · have : k = 0 ∨ k = 1 ∨ k = 2 ∨ k = 3 ∨ k = 4 ∨ k = 5 := by omega
    rcases this with rfl | rfl | rfl | rfl | rfl | rfl <;> simp [go_sem]
  · have : k = 0 ∨ k = 1 ∨ k = 2 ∨ k = 3 ∨ k = 4 ∨ k = 5 := by omega
    rcases this with rfl | rfl | rfl | rfl | rfl | rfl <;> simp [go_sem]

set_option maxRecDepth 100000 in
theorem orderR_any (y m d h i s y' m' d' h' i' s' : Int) (w : World) :
    Calls Tryd.prog 33 #[.agg #[.int .i64 y, .int .i64 m, .int .i64 d, .int .i64 h, .int .i64 i, .int .i64 s], .agg #[.int .i64 y', .int .i64 m', .int .i64 d', .int .i64 h', .int .i64 i', .int .i64 s']] w
      fun e w' => e = .returned (.int .i64 (ordI y m d h i s y' m' d' h' i' s')) ∧ Below w.heap.size w w' := by
  obtain ⟨W, hW, T⟩ := two_rows w y m d h i s y' m' d' h' i' s' (.cells #[.int .i64 y, .int .i64 m, .int .i64 d, .int .i64 h, .int .i64 i, .int .i64 s] 34) (.cells #[.int .i64 y', .int .i64 m', .int .i64 d', .int .i64 h', .int .i64 i', .int .i64 s'] 34) 3
  have o := ordI_lists [y, m, d, h, i, s] [y', m', d', h', i', s'] 6 rfl rfl
  change (∀ k, k < 6 → _ → _ → ordI y m d h i s y' m' d' h' i' s' = -1) ∧ (∀ k, k < 6 → _ → _ → ordI y m d h i s y' m' d' h' i' s' = 1) ∧ (_ → ordI y m d h i s y' m' d' h' i' s' = 0) at o
  generalize ordI y m d h i s y' m' d' h' i' s' = r at o ⊢
  generalize hl : [y, m, d, h, i, s] = l at T o
  generalize hl' : [y', m', d', h', i', s'] = l' at T o
  have H := Lib.hid hW
  have O := Lib.hid o
  have TT := Lib.hid T
  clear hW o T hl hl'
  go_enter Tryd.func33, Tryd.ntmps33
  go_wp2_with fail
  rw [← H.out]
  go_loopw [7] (fun a wr => ∃ k : Nat, k ≤ 6 ∧ a = .int .i64 k ∧ Hid (Two w wr l l') ∧ Hid (∀ j, j < k → l.getD j 0 = l'.getD j 0)) (fun a _ => 6 - (intOf a).toNat)
  case atStart => exact ⟨0, by omega, rfl, TT, Lib.hid (fun j h => absurd h (by omega))⟩
  case round =>
    obtain ⟨k, hk, rfl, T, hz⟩ := hrel
    by_cases hlt : k < 6
    · have c1 := T.out.c1 k hlt
      have c2 := T.out.c2 k hlt
      obtain ⟨z, hz1⟩ : ∃ z, l.getD k 0 = z := ⟨_, rfl⟩
      obtain ⟨z', hz2⟩ : ∃ z, l'.getD k 0 = z := ⟨_, rfl⟩
      rw [hz1] at c1
      rw [hz2] at c2
      have Z1 := Lib.hid hz1
      have Z2 := Lib.hid hz2
      clear hz1 hz2
      have k0 : (0 : Int) ≤ (k : Int) := by omega
      have k1 : (k : Int) < 6 := by omega
      by_cases q : z < z'
      · go_wp2_with fail
        go_quiet (fail)
        go_wp2_with fail
        go_ret
        exact ⟨ret_int (O.out.1 k hlt hz.out (by rw [Z1.out, Z2.out]; exact q)).symm, below_drewN T.out.bel _⟩
      · by_cases q' : z' < z
        · go_wp2_with fail
          go_quiet (fail)
          go_wp2_with fail
          go_quiet (fail)
          go_wp2_with fail
          go_ret
          exact ⟨ret_int (O.out.2.1 k hlt hz.out (by rw [Z1.out, Z2.out]; exact q')).symm, below_drewN (below_drewN T.out.bel _) _⟩
        · go_wp2_with fail
          go_quiet (fail)
          go_wp2_with fail
          go_quiet (fail)
          go_wp2_with fail
          go_roundw
          case rel => exact ⟨k + 1, by omega, by go_num, Lib.hid (T.out.drewN _), Lib.hid (fun j hj => by
            by_cases e : j = k
            · subst e; rw [Z1.out, Z2.out]; omega
            · exact hz.out j (by omega))⟩
          case measure => simp [intOf]; omega
    · go_wp2_with fail
      go_ret
      exact ⟨ret_int (O.out.2.2 (fun j hj => hz.out j (by omega))).symm, T.out.bel⟩
end Go.Proofs.YtjffnjoeeclckaaDoor
