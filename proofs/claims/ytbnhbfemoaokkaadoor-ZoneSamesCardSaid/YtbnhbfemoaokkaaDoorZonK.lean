/- Package zone and the document's: each call of both returns the same, for all arguments; the examples hold: 'works' returns true. -/
import Derived.Test.YtbnhbfemoaokkaaDoorZonF
import Derived.Test.YtbnhbfemoaokkaaDoorZonI
namespace Go.Proofs.YtbnhbfemoaokkaaDoor
open Go.ChangeShapes Go.RowKit

/-- no local time, and why -/
def NoLoc (t z r : Int) : Prop := ((z < -840 ∨ 840 < z) ∧ r = 2) ∨ (-840 ≤ z ∧ z ≤ 840 ∧ (t < 0 ∨ 253402300799 < t ∨ t + 60 * z < 0 ∨ 253402300799 < t + 60 * z) ∧ r = 14)
/-- the local time -/
def IsLoc (t z y m d h i s : Int) : Prop := -840 ≤ z ∧ z ≤ 840 ∧ 0 ≤ t ∧ t ≤ 253402300799 ∧ Civ.CVld y m d h i s ∧ Civ.secs y m d h i s = t + 60 * z
theorem loc_cases (t z : Int) : (∃ r, NoLoc t z r) ∨ ∃ y m d h i s, IsLoc t z y m d h i s := by
  by_cases c : z < -840 ∨ 840 < z
  · exact .inl ⟨2, .inl ⟨c, rfl⟩⟩
  · by_cases e : t < 0 ∨ 253402300799 < t ∨ t + 60 * z < 0 ∨ 253402300799 < t + 60 * z
    · exact .inl ⟨14, .inr ⟨by omega, by omega, e, rfl⟩⟩
    · obtain ⟨y, m, d, h, i, s, v, hs⟩ := Civ.civil_ex (t + 60 * z) (by omega) (by omega)
      exact .inr ⟨y, m, d, h, i, s, by omega, by omega, by omega, by omega, v, hs⟩
theorem NoLoc.ne {t z r : Int} (n : NoLoc t z r) : r ≠ 0 := by rcases n with ⟨_, rfl⟩ | ⟨_, _, _, rfl⟩ <;> decide
theorem NoLoc.local {t z r : Int} (n : NoLoc t z r) (w : World) :
    Calls Tryd.prog 20 #[.int .i64 t, .int .i64 z] w fun e w' => e = .returned (.tuple #[.agg #[.int .i64 0, .int .i64 0, .int .i64 0, .int .i64 0, .int .i64 0, .int .i64 0], .int .i64 r]) ∧ Below w.heap.size w w' := by
  rcases n with ⟨c, rfl⟩ | ⟨a, b, c, rfl⟩
  · exact local_no t z w c
  · exact local_t t z w a b c
theorem NoLoc.localR {t z r : Int} (n : NoLoc t z r) (w : World) :
    Calls Tryd.prog 21 #[.int .i64 t, .int .i64 z] w fun e w' => e = .returned (.tuple #[.agg #[.int .i64 0, .int .i64 0, .int .i64 0, .int .i64 0, .int .i64 0, .int .i64 0], .int .i64 r]) ∧ Below w.heap.size w w' := by
  rcases n with ⟨c, rfl⟩ | ⟨a, b, c, rfl⟩
  · exact localR_no t z w c
  · exact localR_t t z w a b c
theorem IsLoc.local {t z y m d h i s : Int} (n : IsLoc t z y m d h i s) (w : World) (L : Lay w) :
    Calls Tryd.prog 20 #[.int .i64 t, .int .i64 z] w fun e w' => e = .returned (.tuple #[.agg #[.int .i64 y, .int .i64 m, .int .i64 d, .int .i64 h, .int .i64 i, .int .i64 s], .int .i64 0]) ∧ Below w.heap.size w w' := by
  obtain ⟨z0, z1, t0, t1, v, hs⟩ := n
  exact local_yes t z y m d h i s w L z0 z1 t0 t1 v hs
theorem IsLoc.localR {t z y m d h i s : Int} (n : IsLoc t z y m d h i s) (w : World) :
    Calls Tryd.prog 21 #[.int .i64 t, .int .i64 z] w fun e w' => e = .returned (.tuple #[.agg #[.int .i64 y, .int .i64 m, .int .i64 d, .int .i64 h, .int .i64 i, .int .i64 s], .int .i64 0]) ∧ Below w.heap.size w w' := by
  obtain ⟨z0, z1, t0, t1, v, hs⟩ := n
  exact localR_yes t z y m d h i s w z0 z1 t0 t1 v hs
theorem bel_eq {w w' : World} (h : w = w') : Below w.heap.size w w' := by subst h; exact Below.refl _ _
theorem NoLoc.mid {t z r : Int} (n : NoLoc t z r) (w : World) :
    Calls Tryd.prog 22 #[.int .i64 t, .int .i64 z] w fun e w' => e = .returned (.tuple #[.int .i64 0, .int .i64 r]) ∧ Below w.heap.size w w' := mid_err t z r w n.ne (n.local w)
theorem NoLoc.midR {t z r : Int} (n : NoLoc t z r) (w : World) :
    Calls Tryd.prog 23 #[.int .i64 t, .int .i64 z] w fun e w' => e = .returned (.tuple #[.int .i64 0, .int .i64 r]) ∧ w = w' := by
  rcases n with ⟨c, rfl⟩ | ⟨a, b, c, rfl⟩
  · exact midR_no t z w c
  · exact midR_t t z w a b c
theorem day_vld {y m d h i s : Int} (v : Civ.CVld y m d h i s) : Civ.CVld y m d 0 0 0 := ⟨v.1, by decide, by decide, by decide, by decide, by decide, by decide⟩
theorem day_secs {y m d h i s : Int} (v : Civ.CVld y m d h i s) : Civ.secs y m d 0 0 0 = Civ.secs y m d h i s - Civ.secs y m d h i s % 86400 := by
  have := Civ.secs_rest v
  have := Civ.secs_day v
  unfold Civ.secs at *
  omega
/-- when the local day began -/
def MidR (t z v r : Int) : Prop := (t - (t + 60 * z) % 86400 < 0 ∧ v = 0 ∧ r = 14) ∨ (0 ≤ t - (t + 60 * z) % 86400 ∧ v = t - (t + 60 * z) % 86400 ∧ r = 0)
theorem midR_ex (t z : Int) : ∃ v r, MidR t z v r := by
  by_cases c : t - (t + 60 * z) % 86400 < 0
  · exact ⟨0, 14, .inl ⟨c, rfl, rfl⟩⟩
  · exact ⟨_, 0, .inr ⟨by omega, rfl, rfl⟩⟩
theorem IsLoc.mid {t z y m d h i s v r : Int} (n : IsLoc t z y m d h i s) (o : MidR t z v r) (w : World) (L : Lay w) :
    Calls Tryd.prog 22 #[.int .i64 t, .int .i64 z] w fun e w' => e = .returned (.tuple #[.int .i64 v, .int .i64 r]) ∧ Below w.heap.size w w' := by
  refine mid_ok t z y m d h i s v r w L (n.local w L) fun w L => ?_
  obtain ⟨z0, z1, t0, t1, vd, hs⟩ := n
  have ds := day_secs vd
  rw [hs] at ds
  rcases o with ⟨o, rfl, rfl⟩ | ⟨o, rfl, rfl⟩
  · exact back_t y m d 0 0 0 z _ w L z0 z1 (day_vld vd) ds (by omega)
  · exact back_yes y m d 0 0 0 z _ _ w L z0 z1 (day_vld vd) ds (by omega) (by omega) (by omega)
theorem IsLoc.range {t z y m d h i s : Int} (n : IsLoc t z y m d h i s) : 0 ≤ t + 60 * z ∧ t + 60 * z ≤ 253402300799 := by
  obtain ⟨_, _, _, _, v, hs⟩ := n
  rw [← hs]
  exact Civ.secs_range v
theorem IsLoc.midR {t z y m d h i s v r : Int} (n : IsLoc t z y m d h i s) (o : MidR t z v r) (w : World) :
    Calls Tryd.prog 23 #[.int .i64 t, .int .i64 z] w fun e w' => e = .returned (.tuple #[.int .i64 v, .int .i64 r]) ∧ w = w' := by
  obtain ⟨u0, u1⟩ := n.range
  obtain ⟨z0, z1, t0, t1, _⟩ := n
  exact midR_yes t z v r w z0 z1 t0 t1 u0 u1 o

theorem local_both (t z : Int) : ∃ y m d h i s r : Int,
    (∀ w, Lay w → Calls Tryd.prog 20 #[.int .i64 t, .int .i64 z] w fun e w' => e = .returned (.tuple #[.agg #[.int .i64 y, .int .i64 m, .int .i64 d, .int .i64 h, .int .i64 i, .int .i64 s], .int .i64 r]) ∧ Below w.heap.size w w') ∧
    (∀ w, Calls Tryd.prog 21 #[.int .i64 t, .int .i64 z] w fun e w' => e = .returned (.tuple #[.agg #[.int .i64 y, .int .i64 m, .int .i64 d, .int .i64 h, .int .i64 i, .int .i64 s], .int .i64 r]) ∧ Below w.heap.size w w') := by
  rcases loc_cases t z with ⟨r, n⟩ | ⟨y, m, d, h, i, s, n⟩
  · exact ⟨_, _, _, _, _, _, _, fun w _ => n.local w, fun w => n.localR w⟩
  · exact ⟨_, _, _, _, _, _, _, fun w L => n.local w L, fun w => n.localR w⟩
theorem mid_both (t z : Int) : ∃ v r : Int,
    (∀ w, Lay w → Calls Tryd.prog 22 #[.int .i64 t, .int .i64 z] w fun e w' => e = .returned (.tuple #[.int .i64 v, .int .i64 r]) ∧ Below w.heap.size w w') ∧
    (∀ w, Calls Tryd.prog 23 #[.int .i64 t, .int .i64 z] w fun e w' => e = .returned (.tuple #[.int .i64 v, .int .i64 r]) ∧ w = w') := by
  rcases loc_cases t z with ⟨r, n⟩ | ⟨y, m, d, h, i, s, n⟩
  · exact ⟨_, _, fun w _ => n.mid w, fun w => n.midR w⟩
  · obtain ⟨v, r, o⟩ := midR_ex t z
    exact ⟨_, _, fun w L => n.mid o w L, fun w => n.midR o w⟩
theorem weekz_both (t z : Int) : ∃ v r : Int,
    (∀ w, Calls Tryd.prog 24 #[.int .i64 t, .int .i64 z] w fun e w' => e = .returned (.tuple #[.int .i64 v, .int .i64 r]) ∧ w = w') ∧
    (∀ w, Calls Tryd.prog 25 #[.int .i64 t, .int .i64 z] w fun e w' => e = .returned (.tuple #[.int .i64 v, .int .i64 r]) ∧ w = w') := by
  rcases loc_cases t z with ⟨r, ⟨c, rfl⟩ | ⟨a, b, c, rfl⟩⟩ | ⟨y, m, d, h, i, s, n⟩
  · exact ⟨_, _, fun w => weekz_no t z w c, fun w => weekzR_no t z w c⟩
  · exact ⟨_, _, fun w => weekz_t t z w a b c, fun w => weekzR_t t z w a b c⟩
  · obtain ⟨u0, u1⟩ := n.range
    obtain ⟨z0, z1, t0, t1, _⟩ := n
    exact ⟨_, _, fun w => weekz_yes t z w z0 z1 t0 t1 u0 u1, fun w => weekzR_yes t z w z0 z1 t0 t1 u0 u1⟩
theorem back_both (y m d h i s z : Int) : ∃ v r : Int,
    (∀ w, Lay w → Calls Tryd.prog 26 #[.agg #[.int .i64 y, .int .i64 m, .int .i64 d, .int .i64 h, .int .i64 i, .int .i64 s], .int .i64 z] w fun e w' => e = .returned (.tuple #[.int .i64 v, .int .i64 r]) ∧ Below w.heap.size w w') ∧
    (∀ w, Calls Tryd.prog 27 #[.agg #[.int .i64 y, .int .i64 m, .int .i64 d, .int .i64 h, .int .i64 i, .int .i64 s], .int .i64 z] w fun e w' => e = .returned (.tuple #[.int .i64 v, .int .i64 r]) ∧ Below w.heap.size w w') := by
  by_cases c : z < -840 ∨ 840 < z
  · exact ⟨_, _, fun w _ => back_no y m d h i s z w c, fun w => backR_no y m d h i s z w c⟩
  · have z0 : -840 ≤ z := by omega
    have z1 : z ≤ 840 := by omega
    by_cases v : Civ.CVld y m d h i s
    · obtain ⟨u, hu⟩ : ∃ u, Civ.secs y m d h i s = u := ⟨_, rfl⟩
      by_cases q : u - 60 * z < 0 ∨ 253402300799 < u - 60 * z
      · exact ⟨_, _, fun w L => back_t y m d h i s z u w L z0 z1 v hu q, fun w => backR_t y m d h i s z u w z0 z1 v hu q⟩
      · exact ⟨_, _, fun w L => back_yes y m d h i s z u _ w L z0 z1 v hu rfl (by omega) (by omega), fun w => backR_yes y m d h i s z u _ w z0 z1 v hu rfl (by omega) (by omega)⟩
    · exact ⟨_, _, fun w L => back_c y m d h i s z w L z0 z1 v, fun w => backR_c y m d h i s z w z0 z1 v⟩

/-- are both dates the same? -/
def sameD (y m d y' m' d' : Int) : Bool := decide (y = y' ∧ m = m' ∧ d = d')
theorem sameD_way (y m d y' m' d' : Int) : (sameD y m d y' m' d' = true ∧ (y == y') = true ∧ (m == m') = true ∧ (d == d') = true) ∨ (sameD y m d y' m' d' = false ∧ (y == y') = false) ∨ (sameD y m d y' m' d' = false ∧ (y == y') = true ∧ (m == m') = false) ∨ (sameD y m d y' m' d' = false ∧ (y == y') = true ∧ (m == m') = true ∧ (d == d') = false) := by
  unfold sameD
  by_cases a : y = y' <;> by_cases b : m = m' <;> by_cases c : d = d' <;> simp [a, b, c]
theorem sameD_days {y m d h i s y' m' d' h' i' s' t t' : Int} (v : Civ.CVld y m d h i s) (v' : Civ.CVld y' m' d' h' i' s') (e : Civ.secs y m d h i s = t) (e' : Civ.secs y' m' d' h' i' s' = t') : (t / 86400 == t' / 86400) = sameD y m d y' m' d' := by
  have a := Civ.secs_day v
  have a' := Civ.secs_day v'
  rw [e] at a
  rw [e'] at a'
  rw [a, a']
  unfold sameD
  by_cases q : Civ.num y m d = Civ.num y' m' d'
  · obtain ⟨rfl, rfl, rfl⟩ := Civ.num_uniq v.1 v'.1 q
    simp
  · have : ¬ (y = y' ∧ m = m' ∧ d = d') := by rintro ⟨rfl, rfl, rfl⟩; exact q rfl
    simp only [this, decide_false]
    simpa using q
theorem same_loc {a b z y m d h i s y' m' d' h' i' s' : Int} (n : IsLoc a z y m d h i s) (n' : IsLoc b z y' m' d' h' i' s') (w : World) (L : Lay w) :
    Calls Tryd.prog 28 #[.int .i64 a, .int .i64 b, .int .i64 z] w fun e w' => e = .returned (.tuple #[.bool (sameD y m d y' m' d'), .int .i64 0]) ∧ Below w.heap.size w w' :=
  same_way a b z y m d h i s y' m' d' h' i' s' _ w L (sameD_way y m d y' m' d') (n.local w L) (fun w L => n'.local w L)
theorem same_no {a b z r : Int} (n : NoLoc a z r) (w : World) :
    Calls Tryd.prog 28 #[.int .i64 a, .int .i64 b, .int .i64 z] w fun e w' => e = .returned (.tuple #[.bool false, .int .i64 r]) ∧ Below w.heap.size w w' := same_e1 a b z r w n.ne (n.local w)
theorem same_no2 {a b z y m d h i s r : Int} (n : IsLoc a z y m d h i s) (n' : NoLoc b z r) (w : World) (L : Lay w) :
    Calls Tryd.prog 28 #[.int .i64 a, .int .i64 b, .int .i64 z] w fun e w' => e = .returned (.tuple #[.bool false, .int .i64 r]) ∧ Below w.heap.size w w' := same_e2 a b z y m d h i s r w L n'.ne (n.local w L) (fun w _ => n'.local w)
theorem same_both (a b z : Int) : ∃ (o : Bool) (r : Int),
    (∀ w, Lay w → Calls Tryd.prog 28 #[.int .i64 a, .int .i64 b, .int .i64 z] w fun e w' => e = .returned (.tuple #[.bool o, .int .i64 r]) ∧ Below w.heap.size w w') ∧
    (∀ w, Calls Tryd.prog 29 #[.int .i64 a, .int .i64 b, .int .i64 z] w fun e w' => e = .returned (.tuple #[.bool o, .int .i64 r]) ∧ w = w') := by
  rcases loc_cases a z with ⟨r, n⟩ | ⟨y, m, d, h, i, s, n⟩
  · refine ⟨false, r, fun w _ => same_no n w, fun w => ?_⟩
    rcases n with ⟨c, rfl⟩ | ⟨z0, z1, c, rfl⟩
    · exact sameR_e1n a b z w c
    · exact sameR_e1t a b z w z0 z1 c
  · obtain ⟨u0, u1⟩ := n.range
    rcases loc_cases b z with ⟨r, n'⟩ | ⟨y', m', d', h', i', s', n'⟩
    · refine ⟨false, r, fun w L => same_no2 n n' w L, fun w => ?_⟩
      obtain ⟨z0, z1, t0, t1, _⟩ := n
      rcases n' with ⟨c, rfl⟩ | ⟨_, _, c, rfl⟩
      · exact absurd c (by omega)
      · exact sameR_e2t a b z w z0 z1 t0 t1 u0 u1 c
    · refine ⟨_, 0, fun w L => same_loc n n' w L, fun w => ?_⟩
      obtain ⟨v0, v1⟩ := n'.range
      obtain ⟨z0, z1, t0, t1, v, hs⟩ := n
      obtain ⟨_, _, t0', t1', v', hs'⟩ := n'
      exact sameR_ok a b z _ w z0 z1 t0 t1 u0 u1 t0' t1' v0 v1 (sameD_days v v' hs hs')

theorem text_lit (w : World) : Calls Tryd.prog 14 #[.int .i64 330] w fun e w' => e = .returned (.tuple #[.string ⟨#[43, 48, 53, 58, 51, 48]⟩, .int .i64 0]) ∧ Below w.heap.size w w' := ztext_yes 330 w (by decide) (by decide)
theorem parse_lit (w : World) : Calls Tryd.prog 16 #[.string ⟨#[45, 49, 52, 58, 48, 48]⟩] w fun e w' => e = .returned (.tuple #[.int .i64 (-840), .int .i64 0]) ∧ Below w.heap.size w w' := parse_yes (-840) w (by decide) (by decide)

set_option maxRecDepth 100000 in
theorem works_any (w : World) (L : Lay w) : Calls Tryd.prog 13 #[] w fun e w' => e = .returned (.bool true) ∧ Below w.heap.size w w' := by
  have A := Lib.hid (fun w L => IsLoc.local (t := 0) (z := 90) (y := 1970) (m := 1) (d := 1) (h := 1) (i := 30) (s := 0) ⟨by decide, by decide, by decide, by decide, by unfold Civ.CVld Civ.Vld; decide, by decide⟩ w L)
  have B := Lib.hid (fun w L => IsLoc.mid (t := 90000) (z := 60) (y := 1970) (m := 1) (d := 2) (h := 2) (i := 0) (s := 0) (v := 82800) (r := 0) ⟨by decide, by decide, by decide, by decide, by unfold Civ.CVld Civ.Vld; decide, by decide⟩ (by unfold MidR; decide) w L)
  have D := Lib.hid (fun w => weekz_yes 86399 1 w (by decide) (by decide) (by decide) (by decide) (by decide) (by decide))
  go_enter Tryd.func13, Tryd.ntmps13
  go_wp2_with fail
  refine (text_lit _).mono ?_
  rintro e w1 ⟨rfl, b1⟩
  go_wp2_with fail
  refine (parse_lit _).mono ?_
  rintro e w2 ⟨rfl, b2⟩
  have b2 := b1.trans (b2.mono b1.size)
  clear b1
  go_wp2_with fail
  refine (A.out _ (L.below b2)).mono ?_
  rintro e w3 ⟨rfl, b3⟩
  obtain ⟨W, hW, P⟩ := civ6_start w w3 (b2.trans (b3.mono b2.size)) 1970 1 1 1 30 0 31
  have H := Lib.hid hW
  have P1 := Lib.hid P
  clear hW P b3 b2
  go_wp2_with fail
  rw [← H.out]
  refine (B.out _ (L.below P1.out.bel)).mono ?_
  rintro e w4 ⟨rfl, b⟩
  have P2 := Lib.hid (P1.out.below b)
  clear b
  go_wp2_with fail
  refine (D.out _).mono ?_
  rintro e w' ⟨rfl, rfl⟩
  have q0 := P2.out.g0
  have q1 := P2.out.g1
  have q2 := P2.out.g2
  have q3 := P2.out.g3
  have q4 := P2.out.g4
  have q5 := P2.out.g5
  go_wp2_with fail
  go_ret
  exact ⟨rfl, P2.out.bel⟩
end Go.Proofs.YtbnhbfemoaokkaaDoor
