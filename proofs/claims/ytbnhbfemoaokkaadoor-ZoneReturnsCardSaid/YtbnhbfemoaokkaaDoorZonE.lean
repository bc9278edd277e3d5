/- Contract of Parse of package zone: the zone whose text six bytes are, and the error otherwise. -/
import Derived.Test.YtbnhbfemoaokkaaDoorZonD
import Derived.Deep.RegionHeld3
import Derived.Deep.DrawnRows
namespace Go.Proofs.YtbnhbfemoaokkaaDoor
open Go.ChangeShapes Go.RowKit
attribute [local go_sem ↓] Go.wp_at_zero Go.wp_at_succ

@[go_sem] theorem eqSix (a b c d e f a' b' c' d' e' f' : Int) (w : World) : (Op.equalIn 10000 54 (.agg #[.int .u8 a, .int .u8 b, .int .u8 c, .int .u8 d, .int .u8 e, .int .u8 f]) (.agg #[.int .u8 a', .int .u8 b', .int .u8 c', .int .u8 d', .int .u8 e', .int .u8 f'])).run Tryd.prog w = .ok (same6 a b c d e f a' b' c' d' e' f') w := by
  have u3 := Tryd.underlying5
  have a3 := Tryd.isAgg5
  have z3 := Tryd.sizeOf5
  rw [show (10000 : Nat) = 9999 + 1 from rfl, Op.equalIn]
  simp only [Sem.run_bind, run_underlying Tryd.underlying54, Result.andThen_ok]
  simp only [Std.Legacy.Range.forIn_eq_forIn_range', Std.Legacy.Range.size, Nat.sub_zero, Nat.add_sub_cancel, Nat.div_one, List.range'_succ, List.range'_zero, List.forIn_cons, List.forIn_nil]
  go_simp
  by_cases h1 : a = a' <;> by_cases h2 : b = b' <;> by_cases h3 : c = c' <;> by_cases h4 : d = d' <;> by_cases h5 : e = e' <;> by_cases h6 : f = f' <;> simp [h1, h2, h3, h4, h5, h6, same6]

theorem parse_len (s : ByteArray) (w : World) (h : s.size ≠ 6) :
    Calls Tryd.prog 16 #[.string s] w fun e w' => e = .returned (.tuple #[.int .i64 0, .int .i64 10]) ∧ Below w.heap.size w w' := by
  have q : ((s.size : Int) != 6) = true := by rw [bne_iff_ne]; omega
  go_enter Tryd.func16, Tryd.ntmps16
  go_wp2_with fail
  go_ret2
  exact ⟨rfl, (Below.refl _ _).alloc (Nat.le_refl _) _⟩

/-- Parse at six bytes whose number is no zone -/
theorem parse_far (x0 x1 x2 x3 x4 x5 : UInt8) (w : World) (h : Zon.rd (bt x0) (bt x1) (bt x2) (bt x4) (bt x5) < -840 ∨ 840 < Zon.rd (bt x0) (bt x1) (bt x2) (bt x4) (bt x5)) :
    Calls Tryd.prog 16 #[.string (six x0 x1 x2 x3 x4 x5)] w fun e w' => e = .returned (.tuple #[.int .i64 0, .int .i64 10]) ∧ Below w.heap.size w w' := by
  have q : (((six x0 x1 x2 x3 x4 x5).size : Int) != 6) = false := by rw [six_size]; rfl
  have R := Lib.hid (fun w => read_any (bt x0) (bt x1) (bt x2) (bt x3) (bt x4) (bt x5) w (bt_bd x1) (bt_bd x2) (bt_bd x4) (bt_bd x5))
  obtain ⟨n, hn⟩ : ∃ n, Zon.rd (bt x0) (bt x1) (bt x2) (bt x4) (bt x5) = n := ⟨_, rfl⟩
  rw [hn] at R h
  have K := Lib.hid (fun w => (check_no n w h).mono fun _ _ ⟨h1, h2⟩ => (⟨h1, h2.symm⟩ : _ ∧ _))
  obtain ⟨W, hW, A⟩ := six_start w w (Below.refl _ _) (bt x0) (bt x1) (bt x2) (bt x3) (bt x4) (bt x5) 54
  have H := Lib.hid hW
  have AA := Lib.hid A
  clear hW A hn h
  go_enter Tryd.func16, Tryd.ntmps16
  go_wp2_with fail
  refine (R.out _).mono ?_
  rintro e w1 ⟨rfl, b⟩
  go_wp2_with fail
  refine wp_region_still_tail 8 (by kernel_rfl) (by kernel_rfl) ?_
  simp only [List.take_succ_cons, List.take_zero, List.drop_succ_cons, List.drop_zero]
  iterate 1 still_step
  still_call (K.out _)
  iterate 6 still_step
  refine wpStill_nil ?_
  change wpList _ _ _ _ _ w1.drew
  go_wp2_with fail
  go_ret2
  exact ⟨rfl, (((Below.refl _ _).alloc (Nat.le_refl _) _).trans (b.mono (by simp))).drew⟩

theorem written_six {w W : World} {B : Nat} {x0 x1 x2 x3 x4 x5 : Int} (A : Six w W B x0 x1 x2 x3 x4 x5) (z s a b c d : Int) (z0 : -840 ≤ z) (z1 : z ≤ 840) (h : ZT z s a b c d) :
    Calls Tryd.prog 33 #[.int .i64 z] W fun e w' => e = .returned (.agg #[.int .u8 s, .int .u8 a, .int .u8 b, .int .u8 58, .int .u8 c, .int .u8 d]) ∧ Six w w' B x0 x1 x2 x3 x4 x5 :=
  (written_any z s a b c d W z0 z1 h).mono fun _ _ ⟨h1, h2⟩ => ⟨h1, A.below h2⟩
theorem check_six {w W : World} {B : Nat} {x0 x1 x2 x3 x4 x5 : Int} (A : Six w W B x0 x1 x2 x3 x4 x5) (z : Int) (z0 : -840 ≤ z) (z1 : z ≤ 840) :
    Calls Tryd.prog 18 #[.int .i64 z] W fun e w' => e = .returned (.int .i64 0) ∧ Six w w' B x0 x1 x2 x3 x4 x5 :=
  (check_yes z W z0 z1).mono fun _ _ ⟨h1, h2⟩ => ⟨h1, by subst h2; exact A⟩


set_option maxRecDepth 100000 in
set_option maxHeartbeats 2000000 in
theorem parse_near (x0 x1 x2 x3 x4 x5 : UInt8) (n s a b c d v r : Int) (w : World) (hn : Zon.rd (bt x0) (bt x1) (bt x2) (bt x4) (bt x5) = n) (n0 : -840 ≤ n) (n1 : n ≤ 840) (hz : ZT n s a b c d)
    (o : (same6 s a b 58 c d (bt x0) (bt x1) (bt x2) (bt x3) (bt x4) (bt x5) = true ∧ v = n ∧ r = 0) ∨ (same6 s a b 58 c d (bt x0) (bt x1) (bt x2) (bt x3) (bt x4) (bt x5) = false ∧ v = 0 ∧ r = 10)) :
    Calls Tryd.prog 16 #[.string (six x0 x1 x2 x3 x4 x5)] w fun e w' => e = .returned (.tuple #[.int .i64 v, .int .i64 r]) ∧ Below w.heap.size w w' := by
  have q : (((six x0 x1 x2 x3 x4 x5).size : Int) != 6) = false := by rw [six_size]; rfl
  have R := Lib.hid (fun w => read_any (bt x0) (bt x1) (bt x2) (bt x3) (bt x4) (bt x5) w (bt_bd x1) (bt_bd x2) (bt_bd x4) (bt_bd x5))
  rw [hn] at R
  have HZ := Lib.hid hz
  obtain ⟨W, hW, A⟩ := six_start w w (Below.refl _ _) (bt x0) (bt x1) (bt x2) (bt x3) (bt x4) (bt x5) 54
  have H := Lib.hid hW
  have AA := Lib.hid A
  clear hW A hn hz
  rcases o with ⟨o, rfl, rfl⟩ | ⟨o, rfl, rfl⟩
  all_goals
    go_enter Tryd.func16, Tryd.ntmps16
    go_wp2_with fail
    rw [← H.out]
    refine (R.out _).mono ?_
    rintro e w1 ⟨rfl, b⟩
    have T := Lib.hid (AA.out.below b)
    clear b
    have p0 := T.out.g0
    have p1 := T.out.g1
    have p2 := T.out.g2
    have p3 := T.out.g3
    have p4 := T.out.g4
    have p5 := T.out.g5
    go_wp2_with fail
    go_region_held3 (fun w' => w'.cell? ⟨w.heap.size, 0, none⟩ = some (.int .u8 (bt x0)) ∧ w'.cell? ⟨w.heap.size, 1, none⟩ = some (.int .u8 (bt x1)) ∧ w'.cell? ⟨w.heap.size, 2, none⟩ = some (.int .u8 (bt x2)) ∧ w'.cell? ⟨w.heap.size, 3, none⟩ = some (.int .u8 (bt x3)) ∧ w'.cell? ⟨w.heap.size, 4, none⟩ = some (.int .u8 (bt x4)) ∧ w'.cell? ⟨w.heap.size, 5, none⟩ = some (.int .u8 (bt x5))) (go_keep)
      (first
        | (go_at_call 18; refine (check_six (by first | exact T.out | exact T.out.drew) _ n0 n1).mono ?_; rintro e w5 ⟨rfl, t⟩; have T := Lib.hid t; clear t; have p0 := T.out.g0; have p1 := T.out.g1; have p2 := T.out.g2; have p3 := T.out.g3; have p4 := T.out.g4; have p5 := T.out.g5)
        | (go_at_call 33; refine (written_six (by first | exact T.out | exact T.out.drew) _ _ _ _ _ _ n0 n1 HZ.out).mono ?_; rintro e w5 ⟨rfl, t⟩; have T := Lib.hid t; clear t; have p0 := T.out.g0; have p1 := T.out.g1; have p2 := T.out.g2; have p3 := T.out.g3; have p4 := T.out.g4; have p5 := T.out.g5))
    go_wp2_with fail
    go_ret2
    exact ⟨rfl, T.out.bel⟩
end Go.Proofs.YtbnhbfemoaokkaaDoor
