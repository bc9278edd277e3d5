/- Contracts of package every's Is, Next, Prev, Count, Nth, Index, Last, by relations that say which answer there is. -/
import Derived.Test.YtnajpgkahnjabaaEveB
namespace Go.Proofs.Ytnajpgkahnjabaa
open Go.ChangeShapes Go.RowKit

def NextR (s p c t v : Int) (b : Bool) (r : Int) : Prop := (¬ Ev.Ok s p c ∧ v = 0 ∧ b = false ∧ r = 16) ∨ (Ev.Ok s p c ∧ ¬ Vt t ∧ v = 0 ∧ b = false ∧ r = 14) ∨ (Ev.Ok s p c ∧ Vt t ∧ r = 0 ∧ Ev.IsNext s p c t v b)
def PrevR (s p c t v : Int) (b : Bool) (r : Int) : Prop := (¬ Ev.Ok s p c ∧ v = 0 ∧ b = false ∧ r = 16) ∨ (Ev.Ok s p c ∧ ¬ Vt t ∧ v = 0 ∧ b = false ∧ r = 14) ∨ (Ev.Ok s p c ∧ Vt t ∧ r = 0 ∧ Ev.IsPrev s p c t v b)
def CountR (s p c a b n r : Int) : Prop := (¬ Ev.Ok s p c ∧ n = 0 ∧ r = 16) ∨ (Ev.Ok s p c ∧ ¬ (Vt a ∧ Vt b) ∧ n = 0 ∧ r = 14) ∨ (Ev.Ok s p c ∧ Vt a ∧ Vt b ∧ n = Ev.cnt s p c a b ∧ r = 0)
def NthR (s p c n v r : Int) : Prop := (¬ Ev.Ok s p c ∧ v = 0 ∧ r = 16) ∨ (Ev.Ok s p c ∧ ¬ (0 ≤ n ∧ n < Ev.num s p c) ∧ v = 0 ∧ r = 3) ∨ (Ev.Ok s p c ∧ 0 ≤ n ∧ n < Ev.num s p c ∧ v = s + n * p ∧ r = 0)
def IndexR (s p c t k r : Int) : Prop := (¬ Ev.Ok s p c ∧ k = 0 ∧ r = 16) ∨ (Ev.Ok s p c ∧ ¬ Vt t ∧ k = 0 ∧ r = 14) ∨ (Ev.Ok s p c ∧ Vt t ∧ ¬ Ev.On s p c t ∧ k = 0 ∧ r = 5) ∨ (Ev.Ok s p c ∧ Vt t ∧ 0 ≤ k ∧ k < Ev.num s p c ∧ t = s + k * p ∧ r = 0)
def LastR (s p c v : Int) (b : Bool) (r : Int) : Prop := (¬ Ev.Ok s p c ∧ v = 0 ∧ b = false ∧ r = 16) ∨ (Ev.Ok s p c ∧ v = Ev.last s p c ∧ b = true ∧ r = 0)

theorem cell_lt {w : World} {g o : Nat} {v : Value} (h : w.cell? ⟨g, o, none⟩ = some v) : g < w.heap.size := by
  apply Classical.byContradiction
  intro q
  have e : w.heap[g]? = none := by rw [Array.getElem?_eq_none]; omega
  simp [World.cell?, e] at h
theorem asked_one {w : World} {g : Nat} {t : Int} (h : w.cell? ⟨g, 0, none⟩ = some (.int .i64 t)) : Asked w (some ⟨g, 0, none⟩) 1 (fun _ => t) := fun k hk => by
  obtain rfl : k = 0 := by omega
  exact ⟨g, rfl, cell_lt h, h⟩
theorem asked_two {w : World} {g : Nat} {a b : Int} (h : w.cell? ⟨g, 0, none⟩ = some (.int .i64 a)) (h' : w.cell? ⟨g, 1, none⟩ = some (.int .i64 b)) : Asked w (some ⟨g, 0, none⟩) 2 (fun k => if k = 0 then a else b) := fun k hk => by
  have : k = 0 ∨ k = 1 := by omega
  rcases this with rfl | rfl
  · exact ⟨g, rfl, cell_lt h, h⟩
  · exact ⟨g, rfl, cell_lt h, h'⟩
theorem asked_none (w : World) : Asked w none 0 (fun _ => 0) := fun k hk => by omega

theorem open1_no {s p c : Int} (h : ¬ Ev.Ok s p c) (g cap : Nat) (w : World) : Calls Try.prog 34 #[.agg #[.int .i64 s, .int .i64 p, .int .i64 c], .slice (some ⟨g, 0, none⟩) 1 cap] w fun e w' => e = .returned (.tuple #[.agg #[.int .i64 0, .int .i64 0, .int .i64 0, .int .i64 0], .int .i64 16]) ∧ Below w.heap.size w w' := open_no s p c _ 1 cap w h
theorem open1_time {s p c t : Int} (h : Ev.Ok s p c) (ht : ¬ Vt t) (g cap : Nat) (w : World) (hc : w.cell? ⟨g, 0, none⟩ = some (.int .i64 t)) : Calls Try.prog 34 #[.agg #[.int .i64 s, .int .i64 p, .int .i64 c], .slice (some ⟨g, 0, none⟩) 1 cap] w fun e w' => e = .returned (.tuple #[.agg #[.int .i64 0, .int .i64 0, .int .i64 0, .int .i64 0], .int .i64 14]) ∧ Below w.heap.size w w' := open_time s p c _ 1 cap _ w h (by omega) (asked_one hc) ⟨0, by omega, ht⟩
theorem open1_yes {s p c t N : Int} (h : Ev.Ok s p c) (hN : Ev.num s p c = N) (ht : Vt t) (g cap : Nat) (w : World) (hc : w.cell? ⟨g, 0, none⟩ = some (.int .i64 t)) : Calls Try.prog 34 #[.agg #[.int .i64 s, .int .i64 p, .int .i64 c], .slice (some ⟨g, 0, none⟩) 1 cap] w fun e w' => e = .returned (.tuple #[.agg #[.int .i64 s, .int .i64 p, .int .i64 c, .int .i64 N], .int .i64 0]) ∧ Below w.heap.size w w' := open_yes s p c N _ 1 cap _ w h hN (by omega) (asked_one hc) (fun _ _ => ht)
theorem open0_no {s p c : Int} (h : ¬ Ev.Ok s p c) (w : World) : Calls Try.prog 34 #[.agg #[.int .i64 s, .int .i64 p, .int .i64 c], .slice none 0 0] w fun e w' => e = .returned (.tuple #[.agg #[.int .i64 0, .int .i64 0, .int .i64 0, .int .i64 0], .int .i64 16]) ∧ Below w.heap.size w w' := open_no s p c _ 0 0 w h
theorem open0_yes {s p c N : Int} (h : Ev.Ok s p c) (hN : Ev.num s p c = N) (w : World) : Calls Try.prog 34 #[.agg #[.int .i64 s, .int .i64 p, .int .i64 c], .slice none 0 0] w fun e w' => e = .returned (.tuple #[.agg #[.int .i64 s, .int .i64 p, .int .i64 c, .int .i64 N], .int .i64 0]) ∧ Below w.heap.size w w' := open_yes s p c N _ 0 0 _ w h hN (by omega) (asked_none w) (fun _ hk => by omega)
theorem open2_no {s p c : Int} (h : ¬ Ev.Ok s p c) (g cap : Nat) (w : World) : Calls Try.prog 34 #[.agg #[.int .i64 s, .int .i64 p, .int .i64 c], .slice (some ⟨g, 0, none⟩) 2 cap] w fun e w' => e = .returned (.tuple #[.agg #[.int .i64 0, .int .i64 0, .int .i64 0, .int .i64 0], .int .i64 16]) ∧ Below w.heap.size w w' := open_no s p c _ 2 cap w h
theorem open2_time {s p c a b : Int} (h : Ev.Ok s p c) (ht : ¬ (Vt a ∧ Vt b)) (g cap : Nat) (w : World) (hc : w.cell? ⟨g, 0, none⟩ = some (.int .i64 a)) (hd : w.cell? ⟨g, 1, none⟩ = some (.int .i64 b)) : Calls Try.prog 34 #[.agg #[.int .i64 s, .int .i64 p, .int .i64 c], .slice (some ⟨g, 0, none⟩) 2 cap] w fun e w' => e = .returned (.tuple #[.agg #[.int .i64 0, .int .i64 0, .int .i64 0, .int .i64 0], .int .i64 14]) ∧ Below w.heap.size w w' := open_time s p c _ 2 cap _ w h (by omega) (asked_two hc hd) (by
  by_cases q : Vt a
  · exact ⟨1, by omega, by simpa using fun r => ht ⟨q, r⟩⟩
  · exact ⟨0, by omega, by simpa using q⟩)
theorem open2_yes {s p c a b N : Int} (h : Ev.Ok s p c) (hN : Ev.num s p c = N) (ha : Vt a) (hb : Vt b) (g cap : Nat) (w : World) (hc : w.cell? ⟨g, 0, none⟩ = some (.int .i64 a)) (hd : w.cell? ⟨g, 1, none⟩ = some (.int .i64 b)) : Calls Try.prog 34 #[.agg #[.int .i64 s, .int .i64 p, .int .i64 c], .slice (some ⟨g, 0, none⟩) 2 cap] w fun e w' => e = .returned (.tuple #[.agg #[.int .i64 s, .int .i64 p, .int .i64 c, .int .i64 N], .int .i64 0]) ∧ Below w.heap.size w w' := open_yes s p c N _ 2 cap _ w h hN (by omega) (asked_two hc hd) (fun k _ => by split <;> assumption)

theorem is_any (s p c t : Int) (b : Bool) (r : Int) (w : World) (h : IsR s p c t b r) :
    Calls Try.prog 14 #[.agg #[.int .i64 s, .int .i64 p, .int .i64 c], .int .i64 t] w fun e w' => e = .returned (.tuple #[.bool b, .int .i64 r]) ∧ Below w.heap.size w w' := by
  rcases h with ⟨h, rfl, rfl⟩ | ⟨h, ht, rfl, rfl⟩ | ⟨h, ht, rfl, hb⟩
  · have C := Lib.hid (open1_no h)
    clear h
    go_enter Try.func14, Try.ntmps14
    go_wp2_with fail
    refine (C.out _ _ _).mono ?_
    rintro e w1 ⟨rfl, hb⟩
    have B := Lib.hid (below_call2 hb)
    clear hb
    go_wp2_with fail
    go_ret2
    exact ⟨rfl, B.out.alloc (by have := B.out.size; omega) _⟩
  · have C := Lib.hid (open1_time h ht)
    clear h ht
    go_enter Try.func14, Try.ntmps14
    go_wp2_with fail
    refine (C.out _ _ _ (by simp [go_sem])).mono ?_
    rintro e w1 ⟨rfl, hb⟩
    have B := Lib.hid (below_call2 hb)
    clear hb
    go_wp2_with fail
    go_ret2
    exact ⟨rfl, B.out.alloc (by have := B.out.size; omega) _⟩
  · obtain ⟨N, hN⟩ : ∃ N, Ev.num s p c = N := ⟨_, rfl⟩
    have C := Lib.hid (open1_yes h hN ht)
    have H := Lib.hid (fun w' => has_any s p c t N b w' h hN hb ht.1 ht.2)
    clear h ht hN hb
    go_enter Try.func14, Try.ntmps14
    go_wp2_with fail
    refine (C.out _ _ _ (by simp [go_sem])).mono ?_
    rintro e w1 ⟨rfl, hb⟩
    have B := Lib.hid (below_call2 hb)
    clear hb
    go_wp2_with fail
    refine (H.out _).mono ?_
    rintro e w2 ⟨rfl, hb⟩
    have B := Lib.hid (B.out.trans ((below_call hb).mono B.out.size))
    clear hb
    go_wp2_with fail
    go_ret2
    exact ⟨rfl, B.out⟩

theorem next_any (s p c t v : Int) (b : Bool) (r : Int) (w : World) (h : NextR s p c t v b r) :
    Calls Try.prog 16 #[.agg #[.int .i64 s, .int .i64 p, .int .i64 c], .int .i64 t] w fun e w' => e = .returned (.tuple #[.int .i64 v, .bool b, .int .i64 r]) ∧ Below w.heap.size w w' := by
  rcases h with ⟨h, rfl, rfl, rfl⟩ | ⟨h, ht, rfl, rfl, rfl⟩ | ⟨h, ht, rfl, hv⟩
  · have C := Lib.hid (open1_no h)
    clear h
    go_enter Try.func16, Try.ntmps16
    go_wp2_with fail
    refine (C.out _ _ _).mono ?_
    rintro e w1 ⟨rfl, hb⟩
    have B := Lib.hid (below_call2 hb)
    clear hb
    go_wp2_with fail
    go_ret3
    exact ⟨rfl, B.out.alloc (by have := B.out.size; omega) _⟩
  · have C := Lib.hid (open1_time h ht)
    clear h ht
    go_enter Try.func16, Try.ntmps16
    go_wp2_with fail
    refine (C.out _ _ _ (by simp [go_sem])).mono ?_
    rintro e w1 ⟨rfl, hb⟩
    have B := Lib.hid (below_call2 hb)
    clear hb
    go_wp2_with fail
    go_ret3
    exact ⟨rfl, B.out.alloc (by have := B.out.size; omega) _⟩
  · obtain ⟨N, hN⟩ : ∃ N, Ev.num s p c = N := ⟨_, rfl⟩
    obtain ⟨u, hu⟩ : ∃ u, Ev.upto s p c t = u := ⟨_, rfl⟩
    have C := Lib.hid (open1_yes h hN ht)
    have U := Lib.hid (fun w' => upTo_any s p c t N u w' h hN hu (by have := ht.1; omega) ht.2)
    have l := Ev.upto_lo h t
    have g := Ev.upto_hi h t
    rw [hu] at l g
    rw [hN] at g
    by_cases q : u = N
    · have n := Ev.next_none (t := t) h (by omega)
      obtain ⟨rfl, rfl⟩ := hv.uniq n
      subst q
      clear h ht hN hu hv n l g
      go_enter Try.func16, Try.ntmps16
      go_wp2_with fail
      refine (C.out _ _ _ (by simp [go_sem])).mono ?_
      rintro e w1 ⟨rfl, hb⟩
      have B := Lib.hid (below_call2 hb)
      clear hb
      go_wp2_with fail
      refine (U.out _).mono ?_
      rintro e w2 ⟨rfl, hb⟩
      have B := Lib.hid (B.out.trans ((below_call hb).mono B.out.size))
      obtain ⟨hc, hf⟩ := bcell hb
      have hz : w1.heap.size < w2.heap.size := by have := hb.size; simp at this; omega
      clear hb
      go_wp2_with fail
      go_ret3
      exact ⟨rfl, B.out⟩
    · have n := Ev.next_some (t := t) h (by omega)
      obtain ⟨rfl, rfl⟩ := hv.uniq n
      rw [hu]
      have A := Lib.hid (fun w' => at_any s p c u N w' h l (by omega))
      have d : (u == N) = false := by simpa using q
      clear h ht hN hu hv n l g
      go_enter Try.func16, Try.ntmps16
      go_wp2_with fail
      refine (C.out _ _ _ (by simp [go_sem])).mono ?_
      rintro e w1 ⟨rfl, hb⟩
      have B := Lib.hid (below_call2 hb)
      clear hb
      go_wp2_with fail
      refine (U.out _).mono ?_
      rintro e w2 ⟨rfl, hb⟩
      have B := Lib.hid (B.out.trans ((below_call hb).mono B.out.size))
      obtain ⟨hc, hf⟩ := bcell hb
      have hz : w1.heap.size < w2.heap.size := by have := hb.size; simp at this; omega
      clear hb
      go_wp2_with fail
      refine (A.out _).mono ?_
      rintro e w3 ⟨rfl, hb⟩
      have B := Lib.hid (B.out.trans (hb.mono B.out.size))
      clear hb
      go_wp2_with fail
      go_ret3
      exact ⟨rfl, B.out⟩

theorem prev_any (s p c t v : Int) (b : Bool) (r : Int) (w : World) (h : PrevR s p c t v b r) :
    Calls Try.prog 18 #[.agg #[.int .i64 s, .int .i64 p, .int .i64 c], .int .i64 t] w fun e w' => e = .returned (.tuple #[.int .i64 v, .bool b, .int .i64 r]) ∧ Below w.heap.size w w' := by
  rcases h with ⟨h, rfl, rfl, rfl⟩ | ⟨h, ht, rfl, rfl, rfl⟩ | ⟨h, ht, rfl, hv⟩
  · have C := Lib.hid (open1_no h)
    clear h
    go_enter Try.func18, Try.ntmps18
    go_wp2_with fail
    refine (C.out _ _ _).mono ?_
    rintro e w1 ⟨rfl, hb⟩
    have B := Lib.hid (below_call2 hb)
    clear hb
    go_wp2_with fail
    go_ret3
    exact ⟨rfl, B.out.alloc (by have := B.out.size; omega) _⟩
  · have C := Lib.hid (open1_time h ht)
    clear h ht
    go_enter Try.func18, Try.ntmps18
    go_wp2_with fail
    refine (C.out _ _ _ (by simp [go_sem])).mono ?_
    rintro e w1 ⟨rfl, hb⟩
    have B := Lib.hid (below_call2 hb)
    clear hb
    go_wp2_with fail
    go_ret3
    exact ⟨rfl, B.out.alloc (by have := B.out.size; omega) _⟩
  · obtain ⟨N, hN⟩ : ∃ N, Ev.num s p c = N := ⟨_, rfl⟩
    obtain ⟨u, hu⟩ : ∃ u, Ev.upto s p c (t - 1) = u := ⟨_, rfl⟩
    have C := Lib.hid (open1_yes h hN ht)
    have U := Lib.hid (fun w' => upTo_any s p c (t - 1) N u w' h hN hu (by have := ht.1; omega) (by have := ht.2; omega))
    have l := Ev.upto_lo h (t - 1)
    have g := Ev.upto_hi h (t - 1)
    have k := Ev.num_small h
    rw [hu] at l g
    rw [hN] at g k
    have x1 : IntKind.i64.wrap (t - 1) = t - 1 := by have := ht.1; have := ht.2; rw [IntKind.wrap_i64]; omega
    by_cases q : u = 0
    · have n := Ev.prev_none (t := t) h (by omega)
      obtain ⟨rfl, rfl⟩ := hv.uniq n
      subst q
      clear h ht hN hu hv n l g
      go_enter Try.func18, Try.ntmps18
      go_wp2_with fail
      refine (C.out _ _ _ (by simp [go_sem])).mono ?_
      rintro e w1 ⟨rfl, hb⟩
      have B := Lib.hid (below_call2 hb)
      clear hb
      go_wp2_with fail
      refine (U.out _).mono ?_
      rintro e w2 ⟨rfl, hb⟩
      have B := Lib.hid (B.out.trans ((below_call hb).mono B.out.size))
      obtain ⟨hc, hf⟩ := bcell hb
      have hz : w1.heap.size < w2.heap.size := by have := hb.size; simp at this; omega
      clear hb
      go_wp2_with fail
      go_ret3
      exact ⟨rfl, B.out⟩
    · have n := Ev.prev_some (t := t) h (by omega)
      obtain ⟨rfl, rfl⟩ := hv.uniq n
      rw [hu]
      have A := Lib.hid (fun w' => at_any s p c (u - 1) N w' h (by omega) (by omega))
      have d : (u == 0) = false := by simpa using q
      have x2 : IntKind.i64.wrap (u - 1) = u - 1 := by rw [IntKind.wrap_i64]; omega
      clear h ht hN hu hv n l g
      go_enter Try.func18, Try.ntmps18
      go_wp2_with fail
      refine (C.out _ _ _ (by simp [go_sem])).mono ?_
      rintro e w1 ⟨rfl, hb⟩
      have B := Lib.hid (below_call2 hb)
      clear hb
      go_wp2_with fail
      refine (U.out _).mono ?_
      rintro e w2 ⟨rfl, hb⟩
      have B := Lib.hid (B.out.trans ((below_call hb).mono B.out.size))
      obtain ⟨hc, hf⟩ := bcell hb
      have hz : w1.heap.size < w2.heap.size := by have := hb.size; simp at this; omega
      clear hb
      go_wp2_with fail
      refine (A.out _).mono ?_
      rintro e w3 ⟨rfl, hb⟩
      have B := Lib.hid (B.out.trans (hb.mono B.out.size))
      clear hb
      go_wp2_with fail
      go_ret3
      exact ⟨rfl, B.out⟩

theorem nth_any (s p c n v r : Int) (w : World) (h : NthR s p c n v r) :
    Calls Try.prog 25 #[.agg #[.int .i64 s, .int .i64 p, .int .i64 c], .int .i64 n] w fun e w' => e = .returned (.tuple #[.int .i64 v, .int .i64 r]) ∧ Below w.heap.size w w' := by
  rcases h with ⟨h, rfl, rfl⟩ | ⟨h, hn, rfl, rfl⟩ | ⟨h, n0, n1, rfl, rfl⟩
  · have C := Lib.hid (open0_no h)
    clear h
    go_enter Try.func25, Try.ntmps25
    go_wp2_with fail
    refine (C.out _).mono ?_
    rintro e w1 ⟨rfl, hb⟩
    have B := Lib.hid (below_call hb)
    clear hb
    go_wp2_with fail
    go_ret2
    exact ⟨rfl, B.out.alloc (by have := B.out.size; omega) _⟩
  · obtain ⟨N, hN⟩ : ∃ N, Ev.num s p c = N := ⟨_, rfl⟩
    have C := Lib.hid (open0_yes h hN)
    rw [hN] at hn
    by_cases q : n < 0
    · have d0 := dec_t q
      clear h hN hn q
      go_enter Try.func25, Try.ntmps25
      go_wp2_with fail
      refine (C.out _).mono ?_
      rintro e w1 ⟨rfl, hb⟩
      have B := Lib.hid (below_call hb)
      clear hb
      go_wp2_with fail
      go_ret2
      exact ⟨rfl, B.out.alloc B.out.size _⟩
    · have d0 := dec_f q
      have d1 : decide (N ≤ n) = true := dec_t (by omega)
      clear h hN hn q
      go_enter Try.func25, Try.ntmps25
      go_wp2_with fail
      refine (C.out _).mono ?_
      rintro e w1 ⟨rfl, hb⟩
      have B := Lib.hid (below_call hb)
      clear hb
      go_wp2_with fail
      go_ret2
      exact ⟨rfl, B.out.alloc B.out.size _⟩
  · obtain ⟨N, hN⟩ : ∃ N, Ev.num s p c = N := ⟨_, rfl⟩
    have C := Lib.hid (open0_yes h hN)
    have A := Lib.hid (fun w' => at_any s p c n N w' h n0 n1)
    rw [hN] at n1
    have d0 : decide (n < 0) = false := dec_f (by omega)
    have d1 : decide (N ≤ n) = false := dec_f (by omega)
    clear h hN n0 n1
    go_enter Try.func25, Try.ntmps25
    go_wp2_with fail
    refine (C.out _).mono ?_
    rintro e w1 ⟨rfl, hb⟩
    have B := Lib.hid (below_call hb)
    clear hb
    go_wp2_with fail
    refine (A.out _).mono ?_
    rintro e w2 ⟨rfl, hb⟩
    have B := Lib.hid (B.out.trans ((below_call hb).mono B.out.size))
    obtain ⟨hc, hf⟩ := bcell hb
    have hz : w1.heap.size < w2.heap.size := by have := hb.size; simp at this; omega
    clear hb
    go_wp2_with fail
    go_ret2
    exact ⟨rfl, B.out⟩

theorem lastf_any (s p c v : Int) (b : Bool) (r : Int) (w : World) (h : LastR s p c v b r) :
    Calls Try.prog 29 #[.agg #[.int .i64 s, .int .i64 p, .int .i64 c]] w fun e w' => e = .returned (.tuple #[.int .i64 v, .bool b, .int .i64 r]) ∧ Below w.heap.size w w' := by
  rcases h with ⟨h, rfl, rfl, rfl⟩ | ⟨h, rfl, rfl, rfl⟩
  · have C := Lib.hid (open0_no h)
    clear h
    go_enter Try.func29, Try.ntmps29
    go_wp2_with fail
    refine (C.out _).mono ?_
    rintro e w1 ⟨rfl, hb⟩
    have B := Lib.hid (below_call hb)
    clear hb
    go_wp2_with fail
    go_ret3
    exact ⟨rfl, B.out.alloc (by have := B.out.size; omega) _⟩
  · have C := Lib.hid (open0_yes h rfl)
    have A := Lib.hid (fun w' => last_any s p c w' h)
    obtain ⟨N, hN⟩ : ∃ N, Ev.num s p c = N := ⟨_, rfl⟩
    rw [hN] at C A
    clear h hN
    go_enter Try.func29, Try.ntmps29
    go_wp2_with fail
    refine (C.out _).mono ?_
    rintro e w1 ⟨rfl, hb⟩
    have B := Lib.hid (below_call hb)
    clear hb
    go_wp2_with fail
    refine (A.out _).mono ?_
    rintro e w2 ⟨rfl, hb⟩
    have B := Lib.hid (B.out.trans ((below_call hb).mono B.out.size))
    obtain ⟨hc, hf⟩ := bcell hb
    have hz : w1.heap.size < w2.heap.size := by have := hb.size; simp at this; omega
    clear hb
    go_wp2_with fail
    go_ret3
    exact ⟨rfl, B.out⟩

theorem index_any (s p c t k r : Int) (w : World) (h : IndexR s p c t k r) :
    Calls Try.prog 27 #[.agg #[.int .i64 s, .int .i64 p, .int .i64 c], .int .i64 t] w fun e w' => e = .returned (.tuple #[.int .i64 k, .int .i64 r]) ∧ Below w.heap.size w w' := by
  rcases h with ⟨h, rfl, rfl⟩ | ⟨h, ht, rfl, rfl⟩ | ⟨h, ht, hn, rfl, rfl⟩ | ⟨h, ht, k0, k1, hk, rfl⟩
  · have C := Lib.hid (open1_no h)
    clear h
    go_enter Try.func27, Try.ntmps27
    go_wp2_with fail
    refine (C.out _ _ _).mono ?_
    rintro e w1 ⟨rfl, hb⟩
    have B := Lib.hid (below_call2 hb)
    clear hb
    go_wp2_with fail
    go_ret2
    exact ⟨rfl, B.out.alloc (by have := B.out.size; omega) _⟩
  · have C := Lib.hid (open1_time h ht)
    clear h ht
    go_enter Try.func27, Try.ntmps27
    go_wp2_with fail
    refine (C.out _ _ _ (by simp [go_sem])).mono ?_
    rintro e w1 ⟨rfl, hb⟩
    have B := Lib.hid (below_call2 hb)
    clear hb
    go_wp2_with fail
    go_ret2
    exact ⟨rfl, B.out.alloc (by have := B.out.size; omega) _⟩
  · obtain ⟨N, hN⟩ : ∃ N, Ev.num s p c = N := ⟨_, rfl⟩
    have C := Lib.hid (open1_yes h hN ht)
    have H := Lib.hid (fun w' => has_any s p c t N false w' h hN (by simpa using hn) ht.1 ht.2)
    clear h ht hN hn
    go_enter Try.func27, Try.ntmps27
    go_wp2_with fail
    refine (C.out _ _ _ (by simp [go_sem])).mono ?_
    rintro e w1 ⟨rfl, hb⟩
    have B := Lib.hid (below_call2 hb)
    clear hb
    go_wp2_with fail
    refine (H.out _).mono ?_
    rintro e w2 ⟨rfl, hb⟩
    have B := Lib.hid (B.out.trans ((below_call hb).mono B.out.size))
    obtain ⟨hc, hf⟩ := bcell hb
    have hz : w1.heap.size < w2.heap.size := by have := hb.size; simp at this; omega
    clear hb
    go_wp2_with fail
    go_ret2
    exact ⟨rfl, B.out⟩
  · obtain ⟨N, hN⟩ : ∃ N, Ev.num s p c = N := ⟨_, rfl⟩
    have C := Lib.hid (open1_yes h hN ht)
    have o := Ev.on_at h k0 k1
    rw [← hk] at o
    have H := Lib.hid (fun w' => has_any s p c t N true w' h hN (by simpa using o) ht.1 ht.2)
    have U := Lib.hid (fun w' => upTo_any s p c t N (k + 1) w' h hN (by rw [hk]; exact Ev.upto_at h k0 k1) (by have := ht.1; omega) ht.2)
    have g := Ev.num_small h
    have x1 : IntKind.i64.wrap (k + 1 - 1) = k := by rw [IntKind.wrap_i64]; omega
    have x2 : IntKind.i64.wrap k = k := by rw [IntKind.wrap_i64]; omega
    clear h ht hN k0 k1 hk o g
    go_enter Try.func27, Try.ntmps27
    go_wp2_with fail
    refine (C.out _ _ _ (by simp [go_sem])).mono ?_
    rintro e w1 ⟨rfl, hb⟩
    have B := Lib.hid (below_call2 hb)
    clear hb
    go_wp2_with fail
    refine (H.out _).mono ?_
    rintro e w2 ⟨rfl, hb⟩
    have B := Lib.hid (B.out.trans ((below_call hb).mono B.out.size))
    obtain ⟨hc, hf⟩ := bcell hb
    have hz : w1.heap.size < w2.heap.size := by have := hb.size; simp at this; omega
    clear hb
    go_wp2_with fail
    refine (U.out _).mono ?_
    rintro e w3 ⟨rfl, hb⟩
    have B := Lib.hid (B.out.trans (hb.mono B.out.size))
    clear hb
    go_wp2_with fail
    go_ret2
    exact ⟨rfl, B.out⟩

/-- a series in the box g, over what lay before -/
structure Sx (w : World) (g : Nat) (s p c N : Int) (W : World) : Prop where
  bel : Below w.heap.size w W
  c0 : W.cell? ⟨g, 0, none⟩ = some (.int .i64 s)
  c1 : W.cell? ⟨g, 1, none⟩ = some (.int .i64 p)
  c2 : W.cell? ⟨g, 2, none⟩ = some (.int .i64 c)
  c3 : W.cell? ⟨g, 3, none⟩ = some (.int .i64 N)
theorem Sx.drew {w : World} {g : Nat} {s p c N : Int} {W : World} (h : Sx w g s p c N W) : Sx w g s p c N W.drew := ⟨h.bel.drew, h.c0, h.c1, h.c2, h.c3⟩
theorem Sx.next {w : World} {g : Nat} {s p c N : Int} {W W' : World} (h : Sx w g s p c N W) (b : Below W.heap.size W W') : Sx w g s p c N W' :=
  ⟨h.bel.trans (b.mono h.bel.size), (b.cell (p := ⟨g, 0, none⟩) (cell_lt h.c0)).trans h.c0, (b.cell (p := ⟨g, 1, none⟩) (cell_lt h.c0)).trans h.c1, (b.cell (p := ⟨g, 2, none⟩) (cell_lt h.c0)).trans h.c2, (b.cell (p := ⟨g, 3, none⟩) (cell_lt h.c0)).trans h.c3⟩
theorem upTo_sx {w W : World} {g : Nat} {s p c N : Int} (t : Int) (h : Ev.Ok s p c) (hN : Ev.num s p c = N) (t0 : -1 ≤ t) (t1 : t ≤ 253402300799) (q : Sx w g s p c N W) :
    Calls Try.prog 38 #[.agg #[.int .i64 s, .int .i64 p, .int .i64 c, .int .i64 N], .int .i64 t] W fun e w' => e = .returned (.int .i64 (Ev.upto s p c t)) ∧ Sx w g s p c N w' :=
  (upTo_any s p c t N _ W h hN rfl t0 t1).mono fun _ _ ⟨h1, h2⟩ => ⟨h1, q.next h2⟩

set_option maxHeartbeats 1000000 in
theorem count_any (s p c a b n r : Int) (w : World) (h : CountR s p c a b n r) :
    Calls Try.prog 23 #[.agg #[.int .i64 s, .int .i64 p, .int .i64 c], .int .i64 a, .int .i64 b] w fun e w' => e = .returned (.tuple #[.int .i64 n, .int .i64 r]) ∧ Below w.heap.size w w' := by
  rcases h with ⟨h, rfl, rfl⟩ | ⟨h, ht, rfl, rfl⟩ | ⟨h, ha, hb, hn, rfl⟩
  · have C := Lib.hid (open2_no h)
    clear h
    go_enter Try.func23, Try.ntmps23
    go_wp2_with fail
    refine (C.out _ _ _).mono ?_
    rintro e w1 ⟨rfl, hb⟩
    have B := Lib.hid (below_call2 hb)
    clear hb
    go_wp2_with fail
    go_ret2
    exact ⟨rfl, B.out.alloc (by have := B.out.size; omega) _⟩
  · have C := Lib.hid (open2_time h ht)
    clear h ht
    go_enter Try.func23, Try.ntmps23
    go_wp2_with fail
    refine (C.out _ _ _ (by simp [go_sem]) (by simp [go_sem])).mono ?_
    rintro e w1 ⟨rfl, hb⟩
    have B := Lib.hid (below_call2 hb)
    clear hb
    go_wp2_with fail
    go_ret2
    exact ⟨rfl, B.out.alloc (by have := B.out.size; omega) _⟩
  · obtain ⟨N, hN⟩ : ∃ N, Ev.num s p c = N := ⟨_, rfl⟩
    have C := Lib.hid (open2_yes h hN ha hb)
    unfold Ev.cnt at hn
    by_cases q : b < a
    · have d0 := dec_t q
      rw [if_pos q] at hn
      subst hn
      clear h hN q ha hb
      go_enter Try.func23, Try.ntmps23
      go_wp2_with fail
      refine (C.out _ _ _ (by simp [go_sem]) (by simp [go_sem])).mono ?_
      rintro e w1 ⟨rfl, hb⟩
      have B := Lib.hid (below_call2 hb)
      clear hb
      go_wp2_with fail
      go_ret2
      exact ⟨rfl, B.out.alloc B.out.size _⟩
    · have d0 := dec_f q
      rw [if_neg q] at hn
      have U := Lib.hid (fun g t W (t0 : -1 ≤ t) (t1 : t ≤ 253402300799) (q : Sx w g s p c N W) => upTo_sx t h hN t0 t1 q)
      have x1 : IntKind.i64.wrap (a - 1) = a - 1 := by have := ha.1; have := ha.2; rw [IntKind.wrap_i64]; omega
      have g0 := Ev.upto_lo h b
      have g1 := Ev.upto_hi h b
      have g2 := Ev.upto_lo h (a - 1)
      have g3 := Ev.upto_hi h (a - 1)
      have g4 := Ev.num_small h
      have x2 : IntKind.i64.wrap (Ev.upto s p c b - Ev.upto s p c (a - 1)) = Ev.upto s p c b - Ev.upto s p c (a - 1) := by rw [IntKind.wrap_i64]; omega
      obtain ⟨a0, a1⟩ := ha
      obtain ⟨b0, b1⟩ := hb
      subst hn
      clear hN q g0 g1 g2 g3 g4
      have HH := Lib.hid h
      clear h
      go_enter Try.func23, Try.ntmps23
      go_wp2_with fail
      refine (C.out _ _ _ (by simp [go_sem]) (by simp [go_sem])).mono ?_
      rintro e w1 ⟨rfl, hb⟩
      have B := Lib.hid (below_call2 hb)
      clear hb
      go_wp2_with fail
      have Q : Hid (Sx w w1.heap.size s p c N (w1.alloc (.cells #[.int .i64 s, .int .i64 p, .int .i64 c, .int .i64 N] 47))) := Lib.hid ⟨B.out.alloc B.out.size _, by simp [go_sem], by simp [go_sem], by simp [go_sem], by simp [go_sem]⟩
      have hz : w.heap.size ≤ w1.heap.size := B.out.size
      go_region_held3 (fun w' => w'.cell? ⟨w1.heap.size, 0, none⟩ = some (.int .i64 s) ∧ w'.cell? ⟨w1.heap.size, 1, none⟩ = some (.int .i64 p) ∧ w'.cell? ⟨w1.heap.size, 2, none⟩ = some (.int .i64 c) ∧ w'.cell? ⟨w1.heap.size, 3, none⟩ = some (.int .i64 N)) (go_keep)
        (first | (go_at_call 38; refine (U.out _ _ _ (by omega) (by omega) (by first | exact Q.out | exact Q.out.drew)).mono ?_; rintro e w2 ⟨rfl, q⟩; have y0 := q.c0; have y1 := q.c1; have y2 := q.c2; have y3 := q.c3; have Q := Lib.hid q; clear q))
      go_wp2_with fail
      go_ret2
      exact ⟨rfl, Q.out.bel⟩

end Go.Proofs.Ytnajpgkahnjabaa
