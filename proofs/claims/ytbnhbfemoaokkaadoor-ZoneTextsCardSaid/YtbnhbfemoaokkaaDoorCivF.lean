/- Contracts of Time, of package civil and of the document's: the time of each valid civil time, and the error of any other. -/
import Derived.Test.YtbnhbfemoaokkaaDoorCivE
namespace Go.Proofs.YtbnhbfemoaokkaaDoor
open Go.ChangeShapes Go.RowKit

set_option maxRecDepth 100000 in
theorem time_yes (y m d h i s t : Int) (w : World) (L : Lay w) (v : Civ.CVld y m d h i s) (ht : Civ.secs y m d h i s = t) :
    Calls Tryd.prog 41 #[.agg #[.int .i64 y, .int .i64 m, .int .i64 d, .int .i64 h, .int .i64 i, .int .i64 s]] w fun e w' => e = .returned (.tuple #[.int .i64 t, .int .i64 0]) ∧ Below w.heap.size w w' := by
  have q := same6_t y m d h i s
  obtain ⟨n, hn⟩ : ∃ n, Civ.num y m d = n := ⟨_, rfl⟩
  obtain ⟨n0, n1⟩ := Civ.num_range v.1
  have D := Lib.hid (fun o => days_yes y m d n _ (L.alloc o) v.1 hn)
  have ht' : 86400 * n + 3600 * h + 60 * i + s = t := by rw [← hn]; exact ht
  have O := Lib.hid (fun o => of_yes y m d h i s (86400 * n + 3600 * h + 60 * i + s) _ (L.alloc o) v (ht.trans ht'.symm))
  rw [hn] at n0 n1
  obtain ⟨v, h0, h1, i0, i1, s0, s1⟩ := v
  have T := Lib.hid ht'
  clear ht ht' hn v
  go_enter Tryd.func41, Tryd.ntmps41
  go_wp2_with fail
  refine (D.out _).mono ?_
  rintro e w' ⟨rfl, rfl⟩
  go_wp2_with fail
  refine (O.out _).mono ?_
  rintro e w1 ⟨rfl, hb⟩
  obtain ⟨hc, hf⟩ := bcell hb
  have hz : w.heap.size < w1.heap.size := by have := hb.size; simp at this; omega
  go_wp2_with fail
  go_ret2
  exact ⟨ret_v0 T.out, (((Below.refl _ _).alloc (Nat.le_refl _) _).trans (hb.mono (by simp))).alloc (by omega) _⟩

/-- whatever the number: a valid civil time, or none -/
theorem of_some (t : Int) (w : World) (L : Lay w) :
    Calls Tryd.prog 31 #[.int .i64 t] w fun e w' => ∃ y m d h i s r : Int, e = .returned (.tuple #[.agg #[.int .i64 y, .int .i64 m, .int .i64 d, .int .i64 h, .int .i64 i, .int .i64 s], .int .i64 r]) ∧ (y = 0 ∨ Civ.CVld y m d h i s) ∧ Below w.heap.size w w' := by
  by_cases c : t < 0 ∨ 253402300799 < t
  · exact (of_no t w c).mono fun e w' ⟨h1, h2⟩ => ⟨0, 0, 0, 0, 0, 0, 14, h1, .inl rfl, h2⟩
  · obtain ⟨y, m, d, h, i, s, v, ht⟩ := Civ.civil_ex t (by omega) (by omega)
    exact (of_yes y m d h i s t w L v ht).mono fun e w' ⟨h1, h2⟩ => ⟨y, m, d, h, i, s, 0, h1, .inr v, h2⟩

set_option maxRecDepth 100000 in
theorem time_no (y m d h i s : Int) (w : World) (L : Lay w) (v : ¬ Civ.CVld y m d h i s) :
    Calls Tryd.prog 41 #[.agg #[.int .i64 y, .int .i64 m, .int .i64 d, .int .i64 h, .int .i64 i, .int .i64 s]] w fun e w' => e = .returned (.tuple #[.int .i64 0, .int .i64 2]) ∧ Below w.heap.size w w' := by
  by_cases u : Civ.Vld y m d
  · obtain ⟨n, hn⟩ : ∃ n, Civ.num y m d = n := ⟨_, rfl⟩
    obtain ⟨n0, n1⟩ := Civ.num_range u
    have D := Lib.hid (fun o => days_yes y m d n _ (L.alloc o) u hn)
    rw [hn] at n0 n1
    have V := Lib.hid v
    have Y := u.1
    clear u v hn
    go_enter Tryd.func41, Tryd.ntmps41
    go_wp2_with fail
    refine (D.out _).mono ?_
    rintro e w' ⟨rfl, rfl⟩
    go_wp2_with fail
    refine (of_some _ _ (L.alloc _)).mono ?_
    rintro e w1 ⟨y', m', d', h', i', s', r', rfl, hd, hb⟩
    have q : ¬ (y' = y ∧ m' = m ∧ d' = d ∧ h' = h ∧ i' = i ∧ s' = s) := by
      rintro ⟨rfl, rfl, rfl, rfl, rfl, rfl⟩
      rcases hd with rfl | hd
      · omega
      · exact V.out hd
    have Q := Lib.hid q
    clear hd q
    obtain ⟨hc, hf⟩ := bcell hb
    have hz : w.heap.size < w1.heap.size := by have := hb.size; simp at this; omega
    go_wp2_with fail
    all_goals first
      | (exfalso; exact Q.out ⟨by assumption, by assumption, by assumption, by assumption, by assumption, by assumption⟩)
      | (go_ret2; exact ⟨rfl, (((Below.refl _ _).alloc (Nat.le_refl _) _).trans (hb.mono (by simp))).alloc (by omega) _⟩)
  · have D := Lib.hid (fun o => days_no y m d _ (L.alloc o) u)
    clear u v
    go_enter Tryd.func41, Tryd.ntmps41
    go_wp2_with fail
    refine (D.out _).mono ?_
    rintro e w' ⟨rfl, rfl⟩
    go_wp2_with fail
    go_ret2
    exact ⟨rfl, (Below.refl _ _).alloc (Nat.le_refl _) _⟩

set_option maxRecDepth 100000 in
theorem timeR_yes (y m d h i s t : Int) (w : World) (v : Civ.CVld y m d h i s) (ht : Civ.secs y m d h i s = t) :
    Calls Tryd.prog 44 #[.agg #[.int .i64 y, .int .i64 m, .int .i64 d, .int .i64 h, .int .i64 i, .int .i64 s]] w fun e w' => e = .returned (.tuple #[.int .i64 t, .int .i64 0]) ∧ Below w.heap.size w w' := by
  obtain ⟨n, hn⟩ : ∃ n, Civ.num y m d = n := ⟨_, rfl⟩
  obtain ⟨n0, n1⟩ := Civ.num_range v.1
  have D := Lib.hid (fun w => daysR_yes y m d n w v.1 hn)
  have ht' : 86400 * n + 3600 * h + 60 * i + s = t := by rw [← hn]; exact ht
  rw [hn] at n0 n1
  obtain ⟨v, h0, h1, i0, i1, s0, s1⟩ := v
  have T := Lib.hid ht'
  clear ht ht' hn v
  go_enter Tryd.func44, Tryd.ntmps44
  go_wp2_with fail
  refine (D.out _).mono ?_
  rintro e w1 ⟨rfl, hb⟩
  obtain ⟨hc, hf⟩ := bcell hb
  have hz : w.heap.size < w1.heap.size := by have := hb.size; simp at this; omega
  go_wp2_with fail
  go_ret2
  exact ⟨ret_v0 (by have := T.out; omega), ((Below.refl _ _).alloc (Nat.le_refl _) _).trans (hb.mono (by simp))⟩

set_option maxRecDepth 100000 in
theorem timeR_no (y m d h i s : Int) (w : World) (v : ¬ Civ.CVld y m d h i s) :
    Calls Tryd.prog 44 #[.agg #[.int .i64 y, .int .i64 m, .int .i64 d, .int .i64 h, .int .i64 i, .int .i64 s]] w fun e w' => e = .returned (.tuple #[.int .i64 0, .int .i64 2]) ∧ Below w.heap.size w w' := by
  by_cases u : Civ.Vld y m d
  · obtain ⟨n, hn⟩ : ∃ n, Civ.num y m d = n := ⟨_, rfl⟩
    have D := Lib.hid (fun w => daysR_yes y m d n w u hn)
    have c : ¬ (0 ≤ h ∧ h ≤ 23 ∧ 0 ≤ i ∧ i ≤ 59 ∧ 0 ≤ s ∧ s ≤ 59) := fun c => v ⟨u, c⟩
    clear u v hn
    have c' : h < 0 ∨ (0 ≤ h ∧ 23 < h) ∨ (0 ≤ h ∧ h ≤ 23 ∧ i < 0) ∨ (0 ≤ h ∧ h ≤ 23 ∧ 0 ≤ i ∧ 59 < i) ∨ (0 ≤ h ∧ h ≤ 23 ∧ 0 ≤ i ∧ i ≤ 59 ∧ s < 0) ∨ (0 ≤ h ∧ h ≤ 23 ∧ 0 ≤ i ∧ i ≤ 59 ∧ 0 ≤ s ∧ 59 < s) := by omega
    clear c
    rcases c' with a | ⟨a, b⟩ | ⟨a, b, c⟩ | ⟨a, b, c, f⟩ | ⟨a, b, c, f, g⟩ | ⟨a, b, c, f, g, k⟩
    all_goals
      go_enter Tryd.func44, Tryd.ntmps44
      go_wp2_with fail
      refine (D.out _).mono ?_
      rintro e w1 ⟨rfl, hb⟩
      obtain ⟨hc, hf⟩ := bcell hb
      have hz : w.heap.size < w1.heap.size := by have := hb.size; simp at this; omega
      go_wp2_with fail
      go_ret2
      exact ⟨rfl, ((Below.refl _ _).alloc (Nat.le_refl _) _).trans (hb.mono (by simp))⟩
  · have D := Lib.hid (fun w => daysR_no y m d w u)
    clear u v
    go_enter Tryd.func44, Tryd.ntmps44
    go_wp2_with fail
    refine (D.out _).mono ?_
    rintro e w1 ⟨rfl, hb⟩
    go_wp2_with fail
    go_ret2
    exact ⟨rfl, ((Below.refl _ _).alloc (Nat.le_refl _) _).trans (hb.mono (by simp))⟩
end Go.Proofs.YtbnhbfemoaokkaaDoor
