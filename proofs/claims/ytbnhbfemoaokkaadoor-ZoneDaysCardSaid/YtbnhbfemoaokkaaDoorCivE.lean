/- Contracts of Of and Week, of package civil and of the document's: the civil time and the day of the week of each time from 0 to MaxTime, and the error otherwise. -/
import Derived.Test.YtbnhbfemoaokkaaDoorCivD
import Derived.WalkSmall
namespace Go.Proofs.YtbnhbfemoaokkaaDoor
open Go.ChangeShapes Go.RowKit

theorem bcell {W w1 : World} (hb : Below W.heap.size W w1) : (∀ b o, b < W.heap.size → w1.cell? ⟨b, o, none⟩ = W.cell? ⟨b, o, none⟩) ∧ (∀ b o, b < W.heap.size → w1.frozen? ⟨b, o, none⟩ = W.frozen? ⟨b, o, none⟩) :=
  ⟨fun b o h => hb.cell (p := ⟨b, o, none⟩) h, fun b o h => hb.frozen (p := ⟨b, o, none⟩) h⟩
theorem Lay.below {w w' : World} (L : Lay w) (h : Below w.heap.size w w') : Lay w' where
  c0 := (h.cell (p := ⟨0, 0, none⟩) L.lt).trans L.c0
  c1 := (h.cell (p := ⟨0, 1, none⟩) L.lt).trans L.c1
  c2 := (h.cell (p := ⟨0, 2, none⟩) L.lt).trans L.c2
  c3 := (h.cell (p := ⟨0, 3, none⟩) L.lt).trans L.c3
  c4 := (h.cell (p := ⟨0, 4, none⟩) L.lt).trans L.c4
  c5 := (h.cell (p := ⟨0, 5, none⟩) L.lt).trans L.c5
  c6 := (h.cell (p := ⟨0, 6, none⟩) L.lt).trans L.c6
  c7 := (h.cell (p := ⟨0, 7, none⟩) L.lt).trans L.c7
  c8 := (h.cell (p := ⟨0, 8, none⟩) L.lt).trans L.c8
  c9 := (h.cell (p := ⟨0, 9, none⟩) L.lt).trans L.c9
  c10 := (h.cell (p := ⟨0, 10, none⟩) L.lt).trans L.c10
  c11 := (h.cell (p := ⟨0, 11, none⟩) L.lt).trans L.c11
  lt := Nat.lt_of_lt_of_le L.lt h.size
theorem Lay.alloc {w : World} (L : Lay w) (o : Obj) : Lay (w.alloc o) := L.below ((Below.refl _ _).alloc (Nat.le_refl _) _)
theorem Lay.drewN {w : World} (L : Lay w) (n : Nat) : Lay (w.drewN n) := L.below (below_drewN (Below.refl _ _) n)

theorem valid_t (t : Int) (w : World) (h0 : 0 ≤ t) (h1 : t ≤ 253402300799) :
    Calls Tryd.prog 46 #[.int .i64 t] w fun e w' => e = .returned (.bool true) ∧ w = w' := by
  go_enter Tryd.func46, Tryd.ntmps46
  go_wp2
  go_ret
  exact ⟨rfl, rfl⟩
theorem valid_f (t : Int) (w : World) (h : t < 0 ∨ 253402300799 < t) :
    Calls Tryd.prog 46 #[.int .i64 t] w fun e w' => e = .returned (.bool false) ∧ w = w' := by
  rcases h with h | h
  · have d : decide (0 ≤ t) = false := by simp; omega
    go_enter Tryd.func46, Tryd.ntmps46
    go_wp2
    go_ret
    exact ⟨rfl, rfl⟩
  · have d0 : decide (0 ≤ t) = true := by simp; omega
    have d : decide (t ≤ 253402300799) = false := by simp; omega
    go_enter Tryd.func46, Tryd.ntmps46
    go_wp2
    go_ret
    exact ⟨rfl, rfl⟩

theorem week_no (t : Int) (w : World) (h : t < 0 ∨ 253402300799 < t) :
    Calls Tryd.prog 32 #[.int .i64 t] w fun e w' => e = .returned (.tuple #[.int .i64 0, .int .i64 14]) ∧ w = w' := by
  go_enter Tryd.func32, Tryd.ntmps32
  go_wp2_with (go_at_call 46; refine (valid_f _ _ h).mono ?_; rintro e w' ⟨rfl, rfl⟩)
  go_ret2
  exact ⟨rfl, rfl⟩
theorem week_yes (t : Int) (w : World) (h0 : 0 ≤ t) (h1 : t ≤ 253402300799) :
    Calls Tryd.prog 32 #[.int .i64 t] w fun e w' => e = .returned (.tuple #[.int .i64 ((t / 86400 + 4) % 7), .int .i64 0]) ∧ w = w' := by
  go_enter Tryd.func32, Tryd.ntmps32
  go_wp2_with (go_at_call 46; refine (valid_t _ _ h0 h1).mono ?_; rintro e w' ⟨rfl, rfl⟩)
  go_ret2
  exact ⟨rfl, rfl⟩
theorem weekR_no (t : Int) (w : World) (h : t < 0 ∨ 253402300799 < t) :
    Calls Tryd.prog 40 #[.int .i64 t] w fun e w' => e = .returned (.tuple #[.int .i64 0, .int .i64 14]) ∧ w = w' := by
  rcases h with h | h
  · go_enter Tryd.func40, Tryd.ntmps40
    go_wp2
    go_ret2
    exact ⟨rfl, rfl⟩
  · go_enter Tryd.func40, Tryd.ntmps40
    go_wp2
    go_ret2
    exact ⟨rfl, rfl⟩
theorem weekR_yes (t : Int) (w : World) (h0 : 0 ≤ t) (h1 : t ≤ 253402300799) :
    Calls Tryd.prog 40 #[.int .i64 t] w fun e w' => e = .returned (.tuple #[.int .i64 ((t / 86400 + 4) % 7), .int .i64 0]) ∧ w = w' := by
  go_enter Tryd.func40, Tryd.ntmps40
  go_wp2
  go_ret2
  exact ⟨rfl, rfl⟩

theorem of_no (t : Int) (w : World) (h : t < 0 ∨ 253402300799 < t) :
    Calls Tryd.prog 31 #[.int .i64 t] w fun e w' => e = .returned (.tuple #[.agg #[.int .i64 0, .int .i64 0, .int .i64 0, .int .i64 0, .int .i64 0, .int .i64 0], .int .i64 14]) ∧ Below w.heap.size w w' := by
  go_enter Tryd.func31, Tryd.ntmps31
  go_wp2_with (go_at_call 46; refine (valid_f _ _ h).mono ?_; rintro e w' ⟨rfl, rfl⟩)
  exact bodyPost_ret (v := .tuple #[.agg #[.int .i64 0, .int .i64 0, .int .i64 0, .int .i64 0, .int .i64 0, .int .i64 0], .int .i64 14]) (by simp [results, Tryd.results31, go_sem]) rfl ⟨rfl, (Below.refl _ _).alloc (Nat.le_refl _) _⟩
theorem ofR_no (t : Int) (w : World) (h : t < 0 ∨ 253402300799 < t) :
    Calls Tryd.prog 38 #[.int .i64 t] w fun e w' => e = .returned (.tuple #[.agg #[.int .i64 0, .int .i64 0, .int .i64 0, .int .i64 0, .int .i64 0, .int .i64 0], .int .i64 14]) ∧ Below w.heap.size w w' := by
  rcases h with h | h
  · go_enter Tryd.func38, Tryd.ntmps38
    go_wp2
    exact bodyPost_ret (v := .tuple #[.agg #[.int .i64 0, .int .i64 0, .int .i64 0, .int .i64 0, .int .i64 0, .int .i64 0], .int .i64 14]) (by simp [results, Tryd.results38, go_sem]) rfl ⟨rfl, (Below.refl _ _).alloc (Nat.le_refl _) _⟩
  · go_enter Tryd.func38, Tryd.ntmps38
    go_wp2
    exact bodyPost_ret (v := .tuple #[.agg #[.int .i64 0, .int .i64 0, .int .i64 0, .int .i64 0, .int .i64 0, .int .i64 0], .int .i64 14]) (by simp [results, Tryd.results38, go_sem]) rfl ⟨rfl, (Below.refl _ _).alloc (Nat.le_refl _) _⟩

theorem ret_civ {y m d h i s h' i' s' : Int} (a : h = h') (b : i = i') (c : s = s') :
    Ending.returned (.tuple #[.agg #[.int .i64 y, .int .i64 m, .int .i64 d, .int .i64 h, .int .i64 i, .int .i64 s], .int .i64 0]) = .returned (.tuple #[.agg #[.int .i64 y, .int .i64 m, .int .i64 d, .int .i64 h', .int .i64 i', .int .i64 s'], .int .i64 0]) := by rw [a, b, c]

theorem of_yes (y m d h i s t : Int) (w : World) (L : Lay w) (v : Civ.CVld y m d h i s) (ht : Civ.secs y m d h i s = t) :
    Calls Tryd.prog 31 #[.int .i64 t] w fun e w' => e = .returned (.tuple #[.agg #[.int .i64 y, .int .i64 m, .int .i64 d, .int .i64 h, .int .i64 i, .int .i64 s], .int .i64 0]) ∧ Below w.heap.size w w' := by
  obtain ⟨t0, t1⟩ := Civ.secs_range v
  have e1 := Civ.secs_day v
  have e2 := Civ.secs_rest v
  rw [ht] at t0 t1 e1 e2
  obtain ⟨v, h0, h1, i0, i1, s0, s1⟩ := v
  have D := Lib.hid (fun o => date_yes y m d (t / 86400) _ (L.alloc o) v e1.symm)
  have E2 := Lib.hid e2
  clear e1 e2 ht v
  go_enter Tryd.func31, Tryd.ntmps31
  go_wp2_with (first
    | (go_at_call 46; refine (valid_t _ _ t0 t1).mono ?_; rintro e w' ⟨rfl, rfl⟩)
    | (go_at_call 47; refine (D.out _).mono ?_; rintro e w' ⟨rfl, rfl⟩))
  exact bodyPost_ret (v := .tuple #[.agg #[.int .i64 y, .int .i64 m, .int .i64 d, .int .i64 (t % 86400 / 3600), .int .i64 (t % 86400 % 3600 / 60), .int .i64 (t % 86400 % 60)], .int .i64 0]) (by simp [results, Tryd.results31, go_sem]) rfl ⟨ret_civ (by have := E2.out; omega) (by have := E2.out; omega) (by have := E2.out; omega), (Below.refl _ _).alloc (Nat.le_refl _) _⟩
theorem ofR_yes (y m d h i s t : Int) (w : World) (v : Civ.CVld y m d h i s) (ht : Civ.secs y m d h i s = t) :
    Calls Tryd.prog 38 #[.int .i64 t] w fun e w' => e = .returned (.tuple #[.agg #[.int .i64 y, .int .i64 m, .int .i64 d, .int .i64 h, .int .i64 i, .int .i64 s], .int .i64 0]) ∧ Below w.heap.size w w' := by
  obtain ⟨t0, t1⟩ := Civ.secs_range v
  have e1 := Civ.secs_day v
  have e2 := Civ.secs_rest v
  rw [ht] at t0 t1 e1 e2
  obtain ⟨v, h0, h1, i0, i1, s0, s1⟩ := v
  have D := Lib.hid (fun w => dateR_yes y m d (t / 86400) w v e1.symm)
  have E2 := Lib.hid e2
  clear e1 e2 ht v
  go_enter Tryd.func38, Tryd.ntmps38
  go_wp2_with fail
  refine (D.out _).mono ?_
  rintro e w1 ⟨rfl, hb⟩
  have hz : w.heap.size < w1.heap.size := by have := hb.size; simp at this; omega
  obtain ⟨hc, hf⟩ := bcell hb
  go_wp2_with fail
  refine bodyPost_ret (v := .tuple #[.agg #[.int .i64 y, .int .i64 m, .int .i64 d, .int .i64 (t % 86400 / 3600), .int .i64 (t % 86400 / 60 % 60), .int .i64 (t % 86400 % 60)], .int .i64 0]) (by simp [results, Tryd.results38, go_sem, hc]) rfl ⟨ret_civ (by have := E2.out; omega) (by have := E2.out; omega) (by have := E2.out; omega), ?_⟩
  iterate 6 refine Below.setCell ?_ (by simp) _
  exact ((Below.refl _ _).alloc (Nat.le_refl _) _).trans (hb.mono (by simp))
end Go.Proofs.YtbnhbfemoaokkaaDoor
