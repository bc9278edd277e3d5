/- works: the chapter's examples hold; what a call leaves behind. -/
import Derived.Test.YtnajpgkahnjabaaEveJ
namespace Go.Proofs.Ytnajpgkahnjabaa
open Go.ChangeShapes Go.RowKit

theorem four_any (w : World) : Calls Try.prog 42 #[] w fun e w' => e = .returned (.agg #[.int .i64 100, .int .i64 30, .int .i64 4]) ∧ Below w.heap.size w w' := by
  go_enter Try.func42, Try.ntmps42
  go_wp2_with fail
  refine bodyPost_ret (v := .agg #[.int .i64 100, .int .i64 30, .int .i64 4]) (by simp [results, Try.results42, go_sem]) rfl ⟨rfl, (Below.refl _ _).alloc (Nat.le_refl _) _⟩

theorem ok_four : Ev.Ok 100 30 4 := ⟨by decide, by decide, by decide, by decide, by decide, by decide⟩
theorem next_four : NextR 100 30 4 100 130 true 0 := .inr (.inr ⟨ok_four, ⟨by decide, by decide⟩, rfl, by
  have := Ev.next_some (t := 100) ok_four (by decide)
  have e : (100 : Int) + Ev.upto 100 30 4 100 * 30 = 130 := by decide
  rwa [e] at this⟩)
theorem meet_four : Ev.IsMeet 100 30 4 10 50 0 160 true := by
  have k : Ev.Ok 10 50 0 := ⟨by decide, by decide, by decide, by decide, by decide, by decide⟩
  have q : Ev.Cand 100 30 10 50 2 := ⟨by decide, ⟨3, by decide⟩, by decide, fun k k0 h _ => by unfold Ev.Cg at h; omega⟩
  have := Ev.cand_yes ok_four k q (by unfold Ev.On Ev.num Ev.full; decide) (by unfold Ev.On Ev.num Ev.full; decide)
  exact this
theorem count_four : CountR 100 30 4 100 160 3 0 := .inr (.inr ⟨ok_four, ⟨by decide, by decide⟩, ⟨by decide, by decide⟩, by decide, rfl⟩)
theorem index_four : IndexR 100 30 4 161 0 5 := .inr (.inr (.inl ⟨ok_four, ⟨by decide, by decide⟩, by unfold Ev.On Ev.num Ev.full; decide, rfl, rfl⟩))
theorem last_one : LastR 0 1 0 253402300799 true 0 := .inr ⟨⟨by decide, by decide, by decide, by decide, by decide, by decide⟩, by decide, rfl, rfl⟩

set_option maxRecDepth 100000 in
set_option maxHeartbeats 2000000 in
theorem works_any (w : World) : Calls Try.prog 22 #[] w fun e w' => e = .returned (.bool true) ∧ Below w.heap.size w w' := by
  have F := Lib.hid four_any
  have C1 := Lib.hid (fun w' => next_any 100 30 4 100 130 true 0 w' next_four)
  have C2 := Lib.hid (fun w' => meet_yes 100 30 4 10 50 0 160 true w' ok_four ⟨by decide, by decide, by decide, by decide, by decide, by decide⟩ meet_four)
  have C3 := Lib.hid (fun w' => count_any 100 30 4 100 160 3 0 w' count_four)
  have C4 := Lib.hid (fun w' => index_any 100 30 4 161 0 5 w' index_four)
  have C5 := Lib.hid (fun w' => lastf_any 0 1 0 253402300799 true 0 w' last_one)
  have C6 := Lib.hid (fun w' => check_no 0 0 0 w' (fun h => by have := h.p0; omega))
  have B := Lib.hid (Below.refl w.heap.size w)
  go_enter Try.func22, Try.ntmps22
  go_wp2_with fail
  refine (F.out _).mono ?_
  rintro e w1 ⟨rfl, hb⟩
  have B := Lib.hid (B.out.trans (hb.mono B.out.size))
  clear hb
  go_wp2_with fail
  refine (C1.out _).mono ?_
  rintro e w2 ⟨rfl, hb⟩
  have B := Lib.hid (B.out.trans (hb.mono B.out.size))
  clear hb
  go_wp2_with fail
  refine (F.out _).mono ?_
  rintro e w3 ⟨rfl, hb⟩
  have B := Lib.hid (B.out.trans (hb.mono B.out.size))
  clear hb
  go_wp2_with fail
  refine (C2.out _).mono ?_
  rintro e w4 ⟨rfl, hb⟩
  have B := Lib.hid (B.out.trans (hb.mono B.out.size))
  clear hb
  go_wp2_with fail
  refine (F.out _).mono ?_
  rintro e w5 ⟨rfl, hb⟩
  have B := Lib.hid (B.out.trans (hb.mono B.out.size))
  clear hb
  go_wp2_with fail
  refine (C3.out _).mono ?_
  rintro e w6 ⟨rfl, hb⟩
  have B := Lib.hid (B.out.trans (hb.mono B.out.size))
  clear hb
  go_wp2_with fail
  refine (F.out _).mono ?_
  rintro e w7 ⟨rfl, hb⟩
  have B := Lib.hid (B.out.trans (hb.mono B.out.size))
  clear hb
  go_wp2_with fail
  refine (C4.out _).mono ?_
  rintro e w8 ⟨rfl, hb⟩
  have B := Lib.hid (B.out.trans (hb.mono B.out.size))
  clear hb
  go_wp2_with fail
  refine (C5.out _).mono ?_
  rintro e w9 ⟨rfl, hb⟩
  have B := Lib.hid (B.out.trans (hb.mono B.out.size))
  clear hb
  go_wp2_with fail
  refine (C6.out _).mono ?_
  rintro e w10 ⟨rfl, hb⟩
  have B := Lib.hid (B.out.trans (hb.mono B.out.size))
  clear hb
  go_wp2_with fail
  go_ret
  exact ⟨rfl, B.out⟩
theorem time_any (t : Int) (w : World) :
    Calls Try.prog 33 #[.int .i64 t] w fun e w' => e = .returned (.bool (decide (Vt t))) ∧ w = w' := by
  unfold Vt
  by_cases h : 0 ≤ t
  · have d0 : decide (0 ≤ t) = true := dec_t h
    by_cases k : t ≤ 253402300799
    · have d1 : decide (t ≤ 253402300799) = true := dec_t k
      have d2 : decide (0 ≤ t ∧ t ≤ 253402300799) = true := dec_t ⟨h, k⟩
      rw [d2]
      clear h k d2
      go_enter Try.func33, Try.ntmps33
      go_wp2_with fail
      go_ret
      exact ⟨rfl, rfl⟩
    · have d1 : decide (t ≤ 253402300799) = false := dec_f k
      have d2 : decide (0 ≤ t ∧ t ≤ 253402300799) = false := dec_f fun q => k q.2
      rw [d2]
      clear h k d2
      go_enter Try.func33, Try.ntmps33
      go_wp2_with fail
      go_ret
      exact ⟨rfl, rfl⟩
  · have d0 : decide (0 ≤ t) = false := dec_f h
    have d2 : decide (0 ≤ t ∧ t ≤ 253402300799) = false := dec_f fun q => h q.1
    rw [d2]
    clear h d2
    go_enter Try.func33, Try.ntmps33
    go_wp2_with fail
    go_ret
    exact ⟨rfl, rfl⟩
theorem time_yes (t : Int) (w : World) (h : Vt t) : Calls Try.prog 33 #[.int .i64 t] w fun e w' => e = .returned (.bool true) ∧ w = w' := by
  have := time_any t w
  rwa [dec_t h] at this
theorem time_no (t : Int) (w : World) (h : ¬ Vt t) : Calls Try.prog 33 #[.int .i64 t] w fun e w' => e = .returned (.bool false) ∧ w = w' := by
  have := time_any t w
  rwa [dec_f h] at this

/-! which answers there are -/
theorem isR_ex (s p c t : Int) : ∃ b r, IsR s p c t b r := by
  classical
  by_cases h : Ev.Ok s p c
  · by_cases k : Vt t
    · exact ⟨decide (Ev.On s p c t), 0, .inr (.inr ⟨h, k, rfl, by simp⟩)⟩
    · exact ⟨_, _, .inr (.inl ⟨h, k, rfl, rfl⟩)⟩
  · exact ⟨_, _, .inl ⟨h, rfl, rfl⟩⟩
theorem next_ex {s p c : Int} (t : Int) (h : Ev.Ok s p c) : ∃ v b, Ev.IsNext s p c t v b := by
  by_cases q : Ev.upto s p c t < Ev.num s p c
  · exact ⟨_, _, Ev.next_some h q⟩
  · exact ⟨_, _, Ev.next_none h (by omega)⟩
theorem prev_ex {s p c : Int} (t : Int) (h : Ev.Ok s p c) : ∃ v b, Ev.IsPrev s p c t v b := by
  by_cases q : 0 < Ev.upto s p c (t - 1)
  · exact ⟨_, _, Ev.prev_some h q⟩
  · exact ⟨_, _, Ev.prev_none h (by omega)⟩
theorem nextR_ex (s p c t : Int) : ∃ v b r, NextR s p c t v b r := by
  by_cases h : Ev.Ok s p c
  · by_cases k : Vt t
    · obtain ⟨v, b, q⟩ := next_ex t h
      exact ⟨v, b, 0, .inr (.inr ⟨h, k, rfl, q⟩)⟩
    · exact ⟨_, _, _, .inr (.inl ⟨h, k, rfl, rfl, rfl⟩)⟩
  · exact ⟨_, _, _, .inl ⟨h, rfl, rfl, rfl⟩⟩
theorem prevR_ex (s p c t : Int) : ∃ v b r, PrevR s p c t v b r := by
  by_cases h : Ev.Ok s p c
  · by_cases k : Vt t
    · obtain ⟨v, b, q⟩ := prev_ex t h
      exact ⟨v, b, 0, .inr (.inr ⟨h, k, rfl, q⟩)⟩
    · exact ⟨_, _, _, .inr (.inl ⟨h, k, rfl, rfl, rfl⟩)⟩
  · exact ⟨_, _, _, .inl ⟨h, rfl, rfl, rfl⟩⟩
theorem countR_ex (s p c a b : Int) : ∃ n r, CountR s p c a b n r := by
  by_cases h : Ev.Ok s p c
  · by_cases k : Vt a ∧ Vt b
    · exact ⟨_, _, .inr (.inr ⟨h, k.1, k.2, rfl, rfl⟩)⟩
    · exact ⟨_, _, .inr (.inl ⟨h, k, rfl, rfl⟩)⟩
  · exact ⟨_, _, .inl ⟨h, rfl, rfl⟩⟩
theorem nthR_ex (s p c n : Int) : ∃ v r, NthR s p c n v r := by
  by_cases h : Ev.Ok s p c
  · by_cases k : 0 ≤ n ∧ n < Ev.num s p c
    · exact ⟨_, _, .inr (.inr ⟨h, k.1, k.2, rfl, rfl⟩)⟩
    · exact ⟨_, _, .inr (.inl ⟨h, k, rfl, rfl⟩)⟩
  · exact ⟨_, _, .inl ⟨h, rfl, rfl⟩⟩
theorem indexR_ex (s p c t : Int) : ∃ k r, IndexR s p c t k r := by
  by_cases h : Ev.Ok s p c
  · by_cases k : Vt t
    · by_cases o : Ev.On s p c t
      · obtain ⟨n, n0, n1, e⟩ := (Ev.on_iff h t).1 o
        exact ⟨_, _, .inr (.inr (.inr ⟨h, k, n0, n1, e, rfl⟩))⟩
      · exact ⟨_, _, .inr (.inr (.inl ⟨h, k, o, rfl, rfl⟩))⟩
    · exact ⟨_, _, .inr (.inl ⟨h, k, rfl, rfl⟩)⟩
  · exact ⟨_, _, .inl ⟨h, rfl, rfl⟩⟩
theorem lastR_ex (s p c : Int) : ∃ v b r, LastR s p c v b r := by
  by_cases h : Ev.Ok s p c
  · exact ⟨_, _, _, .inr ⟨h, rfl, rfl, rfl⟩⟩
  · exact ⟨_, _, _, .inl ⟨h, rfl, rfl, rfl⟩⟩
theorem meetR_ex (s p c s' p' c' : Int) : ∃ v b r, MeetR s p c s' p' c' v b r := by
  by_cases h : Ev.Ok s p c ∧ Ev.Ok s' p' c'
  · obtain ⟨v, b, q⟩ := Ev.meet_ex h.1 h.2
    exact ⟨v, b, 0, .inr ⟨h.1, h.2, rfl, q⟩⟩
  · exact ⟨_, _, _, .inl ⟨h, rfl, rfl, rfl⟩⟩
theorem meet_any (s p c s' p' c' v : Int) (b : Bool) (r : Int) (w : World) (h : MeetR s p c s' p' c' v b r) :
    Calls Try.prog 31 #[.agg #[.int .i64 s, .int .i64 p, .int .i64 c], .agg #[.int .i64 s', .int .i64 p', .int .i64 c']] w fun e w' => e = .returned (.tuple #[.int .i64 v, .bool b, .int .i64 r]) ∧ Below w.heap.size w w' := by
  rcases h with ⟨h, rfl, rfl, rfl⟩ | ⟨h, h', rfl, q⟩
  · exact meet_no s p c s' p' c' w h
  · exact meet_yes s p c s' p' c' v b w h h' q
theorem rmeet_any (s p c s' p' c' v : Int) (b : Bool) (r : Int) (w : World) (h : MeetR s p c s' p' c' v b r) :
    Calls Try.prog 32 #[.agg #[.int .i64 s, .int .i64 p, .int .i64 c], .agg #[.int .i64 s', .int .i64 p', .int .i64 c']] w fun e w' => e = .returned (.tuple #[.int .i64 v, .bool b, .int .i64 r]) ∧ Below w.heap.size w w' := by
  rcases h with ⟨h, rfl, rfl, rfl⟩ | ⟨h, h', rfl, q⟩
  · exact rmeet_no s p c s' p' c' w h
  · exact rmeet_yes s p c s' p' c' v b w h h' q
open Classical in
/-- the answer of Check -/
noncomputable def errE (s p c : Int) : Int := if Ev.Ok s p c then 0 else 16
theorem check_any (s p c r : Int) (w : World) (h : errE s p c = r) : Calls Try.prog 20 #[.agg #[.int .i64 s, .int .i64 p, .int .i64 c]] w fun e w' => e = .returned (.int .i64 r) ∧ Below w.heap.size w w' := by
  unfold errE at h
  by_cases k : Ev.Ok s p c
  · rw [if_pos k] at h; subst h; exact check_yes s p c w k
  · rw [if_neg k] at h; subst h; exact check_no s p c w k
theorem rcheck_any (s p c r : Int) (w : World) (h : errE s p c = r) : Calls Try.prog 21 #[.agg #[.int .i64 s, .int .i64 p, .int .i64 c]] w fun e w' => e = .returned (.int .i64 r) ∧ Below w.heap.size w w' := by
  unfold errE at h
  by_cases k : Ev.Ok s p c
  · rw [if_pos k] at h; subst h; exact rcheck_yes s p c w k
  · rw [if_neg k] at h; subst h; exact rcheck_no s p c w k
end Go.Proofs.Ytnajpgkahnjabaa
