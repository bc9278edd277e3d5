/- Local times: contracts of shift, shown, Local and Week, of package zone and of the document's. -/
import Derived.Test.YtbnhbfemoaokkaaDoorZonA
namespace Go.Proofs.YtbnhbfemoaokkaaDoor
open Go.ChangeShapes Go.RowKit

theorem shift_no (t z : Int) (w : World) (h : z < -840 ∨ 840 < z) :
    Calls Tryd.prog 36 #[.int .i64 t, .int .i64 z] w fun e w' => e = .returned (.tuple #[.int .i64 0, .int .i64 2]) ∧ w = w' := by
  go_enter Tryd.func36, Tryd.ntmps36
  go_wp2_with fail
  refine (check_no _ _ h).mono ?_
  rintro e w' ⟨rfl, rfl⟩
  go_wp2_with fail
  go_ret2
  exact ⟨rfl, rfl⟩
theorem shift_t (t z : Int) (w : World) (z0 : -840 ≤ z) (z1 : z ≤ 840) (h : t < 0 ∨ 253402300799 < t) :
    Calls Tryd.prog 36 #[.int .i64 t, .int .i64 z] w fun e w' => e = .returned (.tuple #[.int .i64 0, .int .i64 14]) ∧ w = w' := by
  go_enter Tryd.func36, Tryd.ntmps36
  go_wp2_with fail
  refine (check_yes _ _ z0 z1).mono ?_
  rintro e w' ⟨rfl, rfl⟩
  go_wp2_with fail
  refine (validZ_f _ _ h).mono ?_
  rintro e w' ⟨rfl, rfl⟩
  go_wp2_with fail
  go_ret2
  exact ⟨rfl, rfl⟩
theorem shift_yes (t z : Int) (w : World) (z0 : -840 ≤ z) (z1 : z ≤ 840) (t0 : 0 ≤ t) (t1 : t ≤ 253402300799) :
    Calls Tryd.prog 36 #[.int .i64 t, .int .i64 z] w fun e w' => e = .returned (.tuple #[.int .i64 (t + 60 * z), .int .i64 0]) ∧ w = w' := by
  go_enter Tryd.func36, Tryd.ntmps36
  go_wp2_with fail
  refine (check_yes _ _ z0 z1).mono ?_
  rintro e w' ⟨rfl, rfl⟩
  go_wp2_with fail
  refine (validZ_t _ _ t0 t1).mono ?_
  rintro e w' ⟨rfl, rfl⟩
  go_wp2_with fail
  refine (ahead_any _ _ z0 z1).mono ?_
  rintro e w' ⟨rfl, rfl⟩
  go_wp2_with fail
  go_ret2
  exact ⟨rfl, rfl⟩

theorem shown_no (t z : Int) (w : World) (h : z < -840 ∨ 840 < z) :
    Calls Tryd.prog 37 #[.int .i64 t, .int .i64 z] w fun e w' => e = .returned (.tuple #[.int .i64 0, .int .i64 2]) ∧ w = w' := by
  go_enter Tryd.func37, Tryd.ntmps37
  go_wp2_with fail
  refine (checkR_no _ _ h).mono ?_
  rintro e w' ⟨rfl, rfl⟩
  go_wp2_with fail
  go_ret2
  exact ⟨rfl, rfl⟩
theorem shown_t (t z : Int) (w : World) (z0 : -840 ≤ z) (z1 : z ≤ 840) (h : t < 0 ∨ 253402300799 < t ∨ t + 60 * z < 0 ∨ 253402300799 < t + 60 * z) :
    Calls Tryd.prog 37 #[.int .i64 t, .int .i64 z] w fun e w' => e = .returned (.tuple #[.int .i64 0, .int .i64 14]) ∧ w = w' := by
  by_cases c : t < 0 ∨ 253402300799 < t
  · clear h
    go_enter Tryd.func37, Tryd.ntmps37
    go_wp2_with fail
    refine (checkR_yes _ _ z0 z1).mono ?_
    rintro e w' ⟨rfl, rfl⟩
    go_wp2_with fail
    refine (validR_f _ _ c).mono ?_
    rintro e w' ⟨rfl, rfl⟩
    go_wp2_with fail
    go_ret2
    exact ⟨rfl, rfl⟩
  · have F := Lib.hid (fun w => validR_f (t + 60 * z) w (by omega))
    have t0 : 0 ≤ t := by omega
    have t1 : t ≤ 253402300799 := by omega
    clear h c
    go_enter Tryd.func37, Tryd.ntmps37
    go_wp2_with fail
    refine (checkR_yes _ _ z0 z1).mono ?_
    rintro e w' ⟨rfl, rfl⟩
    go_wp2_with fail
    refine (validR_t _ _ t0 t1).mono ?_
    rintro e w' ⟨rfl, rfl⟩
    go_wp2_with fail
    refine (F.out _).mono ?_
    rintro e w' ⟨rfl, rfl⟩
    go_wp2_with fail
    go_ret2
    exact ⟨rfl, rfl⟩
theorem shown_yes (t z : Int) (w : World) (z0 : -840 ≤ z) (z1 : z ≤ 840) (t0 : 0 ≤ t) (t1 : t ≤ 253402300799) (u0 : 0 ≤ t + 60 * z) (u1 : t + 60 * z ≤ 253402300799) :
    Calls Tryd.prog 37 #[.int .i64 t, .int .i64 z] w fun e w' => e = .returned (.tuple #[.int .i64 (t + 60 * z), .int .i64 0]) ∧ w = w' := by
  go_enter Tryd.func37, Tryd.ntmps37
  go_wp2_with fail
  refine (checkR_yes _ _ z0 z1).mono ?_
  rintro e w' ⟨rfl, rfl⟩
  go_wp2_with fail
  refine (validR_t _ _ t0 t1).mono ?_
  rintro e w' ⟨rfl, rfl⟩
  go_wp2_with fail
  refine (validR_t _ _ u0 u1).mono ?_
  rintro e w' ⟨rfl, rfl⟩
  go_wp2_with fail
  go_ret2
  exact ⟨rfl, rfl⟩

theorem ret_six0 {y m d h i s r : Int} (a : y = 0) (b : m = 0) (c : d = 0) (e : h = 0) (f : i = 0) (g : s = 0) :
    Ending.returned (.tuple #[.agg #[.int .i64 0, .int .i64 0, .int .i64 0, .int .i64 0, .int .i64 0, .int .i64 0], .int .i64 r]) = .returned (.tuple #[.agg #[.int .i64 y, .int .i64 m, .int .i64 d, .int .i64 h, .int .i64 i, .int .i64 s], .int .i64 r]) := by rw [a, b, c, e, f, g]

theorem local_no (t z : Int) (w : World) (h : z < -840 ∨ 840 < z) :
    Calls Tryd.prog 20 #[.int .i64 t, .int .i64 z] w fun e w' => e = .returned (.tuple #[.agg #[.int .i64 0, .int .i64 0, .int .i64 0, .int .i64 0, .int .i64 0, .int .i64 0], .int .i64 2]) ∧ Below w.heap.size w w' := by
  go_enter Tryd.func20, Tryd.ntmps20
  go_wp2_with fail
  refine (shift_no _ _ _ h).mono ?_
  rintro e w' ⟨rfl, rfl⟩
  go_wp2_with fail
  exact bodyPost_ret (v := .tuple #[.agg #[.int .i64 0, .int .i64 0, .int .i64 0, .int .i64 0, .int .i64 0, .int .i64 0], .int .i64 2]) (by simp [results, Tryd.results20, go_sem]) rfl ⟨rfl, (Below.refl _ _).alloc (Nat.le_refl _) _⟩
theorem local_t (t z : Int) (w : World) (z0 : -840 ≤ z) (z1 : z ≤ 840) (h : t < 0 ∨ 253402300799 < t ∨ t + 60 * z < 0 ∨ 253402300799 < t + 60 * z) :
    Calls Tryd.prog 20 #[.int .i64 t, .int .i64 z] w fun e w' => e = .returned (.tuple #[.agg #[.int .i64 0, .int .i64 0, .int .i64 0, .int .i64 0, .int .i64 0, .int .i64 0], .int .i64 14]) ∧ Below w.heap.size w w' := by
  by_cases c : t < 0 ∨ 253402300799 < t
  · clear h
    go_enter Tryd.func20, Tryd.ntmps20
    go_wp2_with fail
    refine (shift_t _ _ _ z0 z1 c).mono ?_
    rintro e w' ⟨rfl, rfl⟩
    go_wp2_with fail
    exact bodyPost_ret (v := .tuple #[.agg #[.int .i64 0, .int .i64 0, .int .i64 0, .int .i64 0, .int .i64 0, .int .i64 0], .int .i64 14]) (by simp [results, Tryd.results20, go_sem]) rfl ⟨rfl, (Below.refl _ _).alloc (Nat.le_refl _) _⟩
  · have F := Lib.hid (fun w => of_no (t + 60 * z) w (by omega))
    have t0 : 0 ≤ t := by omega
    have t1 : t ≤ 253402300799 := by omega
    clear h c
    go_enter Tryd.func20, Tryd.ntmps20
    go_wp2_with fail
    refine (shift_yes _ _ _ z0 z1 t0 t1).mono ?_
    rintro e w' ⟨rfl, rfl⟩
    go_wp2_with fail
    refine (F.out _).mono ?_
    rintro e w1 ⟨rfl, hb⟩
    obtain ⟨hc, hf⟩ := bcell hb
    have hz : w.heap.size < w1.heap.size := by have := hb.size; simp at this; omega
    go_wp2_with fail
    refine bodyPost_ret (v := .tuple #[.agg #[.int .i64 0, .int .i64 0, .int .i64 0, .int .i64 0, .int .i64 0, .int .i64 0], .int .i64 14]) (by simp [results, Tryd.results20, go_sem, hc]) rfl ⟨rfl, ?_⟩
    iterate 6 refine Below.setCell ?_ (by simp) _
    exact ((Below.refl _ _).alloc (Nat.le_refl _) _).trans (hb.mono (by simp))
theorem local_yes (t z y m d h i s : Int) (w : World) (L : Lay w) (z0 : -840 ≤ z) (z1 : z ≤ 840) (t0 : 0 ≤ t) (t1 : t ≤ 253402300799) (v : Civ.CVld y m d h i s) (hs : Civ.secs y m d h i s = t + 60 * z) :
    Calls Tryd.prog 20 #[.int .i64 t, .int .i64 z] w fun e w' => e = .returned (.tuple #[.agg #[.int .i64 y, .int .i64 m, .int .i64 d, .int .i64 h, .int .i64 i, .int .i64 s], .int .i64 0]) ∧ Below w.heap.size w w' := by
  have F := Lib.hid (fun o => of_yes y m d h i s (t + 60 * z) _ (L.alloc o) v hs)
  clear v hs
  go_enter Tryd.func20, Tryd.ntmps20
  go_wp2_with fail
  refine (shift_yes _ _ _ z0 z1 t0 t1).mono ?_
  rintro e w' ⟨rfl, rfl⟩
  go_wp2_with fail
  refine (F.out _).mono ?_
  rintro e w1 ⟨rfl, hb⟩
  obtain ⟨hc, hf⟩ := bcell hb
  have hz : w.heap.size < w1.heap.size := by have := hb.size; simp at this; omega
  go_wp2_with fail
  refine bodyPost_ret (v := .tuple #[.agg #[.int .i64 y, .int .i64 m, .int .i64 d, .int .i64 h, .int .i64 i, .int .i64 s], .int .i64 0]) (by simp [results, Tryd.results20, go_sem, hc]) rfl ⟨rfl, ?_⟩
  iterate 6 refine Below.setCell ?_ (by simp) _
  exact ((Below.refl _ _).alloc (Nat.le_refl _) _).trans (hb.mono (by simp))
theorem localR_no (t z : Int) (w : World) (h : z < -840 ∨ 840 < z) :
    Calls Tryd.prog 21 #[.int .i64 t, .int .i64 z] w fun e w' => e = .returned (.tuple #[.agg #[.int .i64 0, .int .i64 0, .int .i64 0, .int .i64 0, .int .i64 0, .int .i64 0], .int .i64 2]) ∧ Below w.heap.size w w' := by
  go_enter Tryd.func21, Tryd.ntmps21
  go_wp2_with fail
  refine (shown_no _ _ _ h).mono ?_
  rintro e w' ⟨rfl, rfl⟩
  go_wp2_with fail
  exact bodyPost_ret (v := .tuple #[.agg #[.int .i64 0, .int .i64 0, .int .i64 0, .int .i64 0, .int .i64 0, .int .i64 0], .int .i64 2]) (by simp [results, Tryd.results21, go_sem]) rfl ⟨rfl, (Below.refl _ _).alloc (Nat.le_refl _) _⟩
theorem localR_t (t z : Int) (w : World) (z0 : -840 ≤ z) (z1 : z ≤ 840) (h : t < 0 ∨ 253402300799 < t ∨ t + 60 * z < 0 ∨ 253402300799 < t + 60 * z) :
    Calls Tryd.prog 21 #[.int .i64 t, .int .i64 z] w fun e w' => e = .returned (.tuple #[.agg #[.int .i64 0, .int .i64 0, .int .i64 0, .int .i64 0, .int .i64 0, .int .i64 0], .int .i64 14]) ∧ Below w.heap.size w w' := by
  have F := Lib.hid (fun w => shown_t t z w z0 z1 h)
  clear h
  go_enter Tryd.func21, Tryd.ntmps21
  go_wp2_with fail
  refine (F.out _).mono ?_
  rintro e w' ⟨rfl, rfl⟩
  go_wp2_with fail
  exact bodyPost_ret (v := .tuple #[.agg #[.int .i64 0, .int .i64 0, .int .i64 0, .int .i64 0, .int .i64 0, .int .i64 0], .int .i64 14]) (by simp [results, Tryd.results21, go_sem]) rfl ⟨rfl, (Below.refl _ _).alloc (Nat.le_refl _) _⟩
theorem localR_yes (t z y m d h i s : Int) (w : World) (z0 : -840 ≤ z) (z1 : z ≤ 840) (t0 : 0 ≤ t) (t1 : t ≤ 253402300799) (v : Civ.CVld y m d h i s) (hs : Civ.secs y m d h i s = t + 60 * z) :
    Calls Tryd.prog 21 #[.int .i64 t, .int .i64 z] w fun e w' => e = .returned (.tuple #[.agg #[.int .i64 y, .int .i64 m, .int .i64 d, .int .i64 h, .int .i64 i, .int .i64 s], .int .i64 0]) ∧ Below w.heap.size w w' := by
  have F := Lib.hid (fun w => ofR_yes y m d h i s (t + 60 * z) w v hs)
  obtain ⟨u0, u1⟩ := Civ.secs_range v
  rw [hs] at u0 u1
  clear v hs
  go_enter Tryd.func21, Tryd.ntmps21
  go_wp2_with fail
  refine (shown_yes _ _ _ z0 z1 t0 t1 u0 u1).mono ?_
  rintro e w' ⟨rfl, rfl⟩
  go_wp2_with fail
  refine (F.out _).mono ?_
  rintro e w1 ⟨rfl, hb⟩
  obtain ⟨hc, hf⟩ := bcell hb
  have hz : w.heap.size < w1.heap.size := by have := hb.size; simp at this; omega
  go_wp2_with fail
  refine bodyPost_ret (v := .tuple #[.agg #[.int .i64 y, .int .i64 m, .int .i64 d, .int .i64 h, .int .i64 i, .int .i64 s], .int .i64 0]) (by simp [results, Tryd.results21, go_sem, hc]) rfl ⟨rfl, ?_⟩
  iterate 6 refine Below.setCell ?_ (by simp) _
  exact ((Below.refl _ _).alloc (Nat.le_refl _) _).trans (hb.mono (by simp))

theorem weekz_no (t z : Int) (w : World) (h : z < -840 ∨ 840 < z) :
    Calls Tryd.prog 24 #[.int .i64 t, .int .i64 z] w fun e w' => e = .returned (.tuple #[.int .i64 0, .int .i64 2]) ∧ w = w' := by
  go_enter Tryd.func24, Tryd.ntmps24
  go_wp2_with fail
  refine (shift_no _ _ _ h).mono ?_
  rintro e w' ⟨rfl, rfl⟩
  go_wp2_with fail
  go_ret2
  exact ⟨rfl, rfl⟩
theorem weekz_t (t z : Int) (w : World) (z0 : -840 ≤ z) (z1 : z ≤ 840) (h : t < 0 ∨ 253402300799 < t ∨ t + 60 * z < 0 ∨ 253402300799 < t + 60 * z) :
    Calls Tryd.prog 24 #[.int .i64 t, .int .i64 z] w fun e w' => e = .returned (.tuple #[.int .i64 0, .int .i64 14]) ∧ w = w' := by
  by_cases c : t < 0 ∨ 253402300799 < t
  · clear h
    go_enter Tryd.func24, Tryd.ntmps24
    go_wp2_with fail
    refine (shift_t _ _ _ z0 z1 c).mono ?_
    rintro e w' ⟨rfl, rfl⟩
    go_wp2_with fail
    go_ret2
    exact ⟨rfl, rfl⟩
  · have F := Lib.hid (fun w => week_no (t + 60 * z) w (by omega))
    have t0 : 0 ≤ t := by omega
    have t1 : t ≤ 253402300799 := by omega
    clear h c
    go_enter Tryd.func24, Tryd.ntmps24
    go_wp2_with fail
    refine (shift_yes _ _ _ z0 z1 t0 t1).mono ?_
    rintro e w' ⟨rfl, rfl⟩
    go_wp2_with fail
    refine (F.out _).mono ?_
    rintro e w' ⟨rfl, rfl⟩
    go_wp2_with fail
    go_ret2
    exact ⟨rfl, rfl⟩
theorem weekz_yes (t z : Int) (w : World) (z0 : -840 ≤ z) (z1 : z ≤ 840) (t0 : 0 ≤ t) (t1 : t ≤ 253402300799) (u0 : 0 ≤ t + 60 * z) (u1 : t + 60 * z ≤ 253402300799) :
    Calls Tryd.prog 24 #[.int .i64 t, .int .i64 z] w fun e w' => e = .returned (.tuple #[.int .i64 (((t + 60 * z) / 86400 + 4) % 7), .int .i64 0]) ∧ w = w' := by
  have F := Lib.hid (fun w => week_yes (t + 60 * z) w u0 u1)
  go_enter Tryd.func24, Tryd.ntmps24
  go_wp2_with fail
  refine (shift_yes _ _ _ z0 z1 t0 t1).mono ?_
  rintro e w' ⟨rfl, rfl⟩
  go_wp2_with fail
  refine (F.out _).mono ?_
  rintro e w' ⟨rfl, rfl⟩
  go_wp2_with fail
  go_ret2
  exact ⟨rfl, rfl⟩
theorem weekzR_no (t z : Int) (w : World) (h : z < -840 ∨ 840 < z) :
    Calls Tryd.prog 25 #[.int .i64 t, .int .i64 z] w fun e w' => e = .returned (.tuple #[.int .i64 0, .int .i64 2]) ∧ w = w' := by
  go_enter Tryd.func25, Tryd.ntmps25
  go_wp2_with fail
  refine (shown_no _ _ _ h).mono ?_
  rintro e w' ⟨rfl, rfl⟩
  go_wp2_with fail
  go_ret2
  exact ⟨rfl, rfl⟩
theorem weekzR_t (t z : Int) (w : World) (z0 : -840 ≤ z) (z1 : z ≤ 840) (h : t < 0 ∨ 253402300799 < t ∨ t + 60 * z < 0 ∨ 253402300799 < t + 60 * z) :
    Calls Tryd.prog 25 #[.int .i64 t, .int .i64 z] w fun e w' => e = .returned (.tuple #[.int .i64 0, .int .i64 14]) ∧ w = w' := by
  have F := Lib.hid (fun w => shown_t t z w z0 z1 h)
  clear h
  go_enter Tryd.func25, Tryd.ntmps25
  go_wp2_with fail
  refine (F.out _).mono ?_
  rintro e w' ⟨rfl, rfl⟩
  go_wp2_with fail
  go_ret2
  exact ⟨rfl, rfl⟩
theorem weekzR_yes (t z : Int) (w : World) (z0 : -840 ≤ z) (z1 : z ≤ 840) (t0 : 0 ≤ t) (t1 : t ≤ 253402300799) (u0 : 0 ≤ t + 60 * z) (u1 : t + 60 * z ≤ 253402300799) :
    Calls Tryd.prog 25 #[.int .i64 t, .int .i64 z] w fun e w' => e = .returned (.tuple #[.int .i64 (((t + 60 * z) / 86400 + 4) % 7), .int .i64 0]) ∧ w = w' := by
  have F := Lib.hid (fun w => weekR_yes (t + 60 * z) w u0 u1)
  go_enter Tryd.func25, Tryd.ntmps25
  go_wp2_with fail
  refine (shown_yes _ _ _ z0 z1 t0 t1 u0 u1).mono ?_
  rintro e w' ⟨rfl, rfl⟩
  go_wp2_with fail
  refine (F.out _).mono ?_
  rintro e w' ⟨rfl, rfl⟩
  go_wp2_with fail
  go_ret2
  exact ⟨rfl, rfl⟩
end Go.Proofs.YtbnhbfemoaokkaaDoor
