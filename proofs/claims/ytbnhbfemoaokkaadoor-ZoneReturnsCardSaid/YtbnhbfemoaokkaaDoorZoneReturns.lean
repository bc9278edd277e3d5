/- For all int64 numbers t, all civil times c, valid or not, and all int numbers z, ZoneReturns returns true: a time that has a local time is the one that Back gives for it; a civil time for which Back gives a time is the local time of this time. Condition: the package-level tables start as the program's text lays them (tied). -/
import Derived.Test.YtbnhbfemoaokkaaDoorZonDoor
import Derived.Test.YtbnhbfemoaokkaaDoorZonK
namespace Go.Proofs.YtbnhbfemoaokkaaDoor.zoneReturns
open Go.ChangeShapes Go.WideShapes Go.ChangeAt Go.RowKit

theorem loc_back {t z y m d h i s : Int} (n : IsLoc t z y m d h i s) (w : World) (L : Lay w) :
    Calls Tryd.prog 26 #[.agg #[.int .i64 y, .int .i64 m, .int .i64 d, .int .i64 h, .int .i64 i, .int .i64 s], .int .i64 z] w fun e w' => e = .returned (.tuple #[.int .i64 t, .int .i64 0]) ∧ Below w.heap.size w w' := by
  obtain ⟨z0, z1, t0, t1, v, hs⟩ := n
  exact back_yes y m d h i s z _ t w L z0 z1 v hs (by omega) t0 t1
theorem back_cases (y m d h i s z : Int) :
    (∃ r, r ≠ 0 ∧ ∀ w, Lay w → Calls Tryd.prog 26 #[.agg #[.int .i64 y, .int .i64 m, .int .i64 d, .int .i64 h, .int .i64 i, .int .i64 s], .int .i64 z] w fun e w' => e = .returned (.tuple #[.int .i64 0, .int .i64 r]) ∧ Below w.heap.size w w') ∨
    ∃ b, IsLoc b z y m d h i s := by
  by_cases c : z < -840 ∨ 840 < z
  · exact .inl ⟨2, by decide, fun w _ => back_no y m d h i s z w c⟩
  · have z0 : -840 ≤ z := by omega
    have z1 : z ≤ 840 := by omega
    by_cases v : Civ.CVld y m d h i s
    · obtain ⟨u, hu⟩ : ∃ u, Civ.secs y m d h i s = u := ⟨_, rfl⟩
      by_cases q : u - 60 * z < 0 ∨ 253402300799 < u - 60 * z
      · exact .inl ⟨14, by decide, fun w L => back_t y m d h i s z u w L z0 z1 v hu q⟩
      · exact .inr ⟨u - 60 * z, z0, z1, by omega, by omega, v, by omega⟩
    · exact .inl ⟨2, by decide, fun w L => back_c y m d h i s z w L z0 z1 v⟩
set_option maxRecDepth 100000 in
set_option maxHeartbeats 1000000 in
theorem way_nono (t y m d h i s z r r' : Int) (w : World) (L : Lay w)
    (n : NoLoc t z r) (hr : r' ≠ 0) (k : ∀ w, Lay w → Calls Tryd.prog 26 #[.agg #[.int .i64 y, .int .i64 m, .int .i64 d, .int .i64 h, .int .i64 i, .int .i64 s], .int .i64 z] w fun e w' => e = .returned (.tuple #[.int .i64 0, .int .i64 r']) ∧ Below w.heap.size w w') :
    Calls Tryd.prog 7 #[.int .i64 t, .agg #[.int .i64 y, .int .i64 m, .int .i64 d, .int .i64 h, .int .i64 i, .int .i64 s], .int .i64 z] w fun e w' => e = .returned (.bool true) ∧ Below w.heap.size w w' := by
  have A := Lib.hid (fun w (_ : Lay w) => n.local w)
  have rn : (r == 0) = false := by rw [beq_eq_false_iff_ne]; exact n.ne
  have C := Lib.hid k
  have rk : (r' != 0) = true := by rw [bne_iff_ne]; exact hr
  clear hr
  clear n k
  obtain ⟨W0, hW, P⟩ := civ6_start w w (Below.refl _ _) y m d h i s 31
  have H0 := Lib.hid hW
  have P0 := Lib.hid P
  clear hW P
  go_enter Tryd.func7, Tryd.ntmps7
  go_wp2_with fail
  rw [← H0.out]
  refine (A.out _ (L.below P0.out.bel)).mono ?_
  rintro e w1 ⟨rfl, b1⟩
  have R1 := Lib.hid (P0.out.below b1)
  obtain ⟨W1, hW, P, Q⟩ := civ6_next P0.out b1 0 0 0 0 0 0 31
  have H1 := Lib.hid hW
  have P1 := Lib.hid P
  have Q1 := Lib.hid Q
  clear hW P Q b1
  have p0 := R1.out.g0
  have p1 := R1.out.g1
  have p2 := R1.out.g2
  have p3 := R1.out.g3
  have p4 := R1.out.g4
  have p5 := R1.out.g5
  have hz : w.heap.size < w1.heap.size := R1.out.hB
  have eq := same6_t 0 0 0 0 0 0
  have P2 := P1
  go_wp2_with fail
  rw [← H1.out]
  refine (C.out _ (L.below P2.out.bel)).mono ?_
  rintro e w3 ⟨rfl, b1⟩
  have P3 := Lib.hid (P2.out.below b1)
  clear b1
  clear p0 p1 p2 p3 p4 p5
  have P4 := P3
  go_wp2_with fail
  refine (works_any _ (L.below P4.out.bel)).mono ?_
  rintro e w5 ⟨rfl, b1⟩
  go_wp2_with fail
  go_ret
  exact ⟨rfl, P4.out.bel.trans (b1.mono P4.out.bel.size)⟩
set_option maxRecDepth 100000 in
set_option maxHeartbeats 1000000 in
theorem way_nook (t y m d h i s z r b : Int) (w : World) (L : Lay w)
    (n : NoLoc t z r) (k : IsLoc b z y m d h i s) :
    Calls Tryd.prog 7 #[.int .i64 t, .agg #[.int .i64 y, .int .i64 m, .int .i64 d, .int .i64 h, .int .i64 i, .int .i64 s], .int .i64 z] w fun e w' => e = .returned (.bool true) ∧ Below w.heap.size w w' := by
  have A := Lib.hid (fun w (_ : Lay w) => n.local w)
  have rn : (r == 0) = false := by rw [beq_eq_false_iff_ne]; exact n.ne
  have C := Lib.hid (fun w L => loc_back k w L)
  have D := Lib.hid (fun w L => k.local w L)
  clear n k
  obtain ⟨W0, hW, P⟩ := civ6_start w w (Below.refl _ _) y m d h i s 31
  have H0 := Lib.hid hW
  have P0 := Lib.hid P
  clear hW P
  go_enter Tryd.func7, Tryd.ntmps7
  go_wp2_with fail
  rw [← H0.out]
  refine (A.out _ (L.below P0.out.bel)).mono ?_
  rintro e w1 ⟨rfl, b1⟩
  have R1 := Lib.hid (P0.out.below b1)
  obtain ⟨W1, hW, P, Q⟩ := civ6_next P0.out b1 0 0 0 0 0 0 31
  have H1 := Lib.hid hW
  have P1 := Lib.hid P
  have Q1 := Lib.hid Q
  clear hW P Q b1
  have p0 := R1.out.g0
  have p1 := R1.out.g1
  have p2 := R1.out.g2
  have p3 := R1.out.g3
  have p4 := R1.out.g4
  have p5 := R1.out.g5
  have hz : w.heap.size < w1.heap.size := R1.out.hB
  have eq := same6_t 0 0 0 0 0 0
  have P2 := P1
  go_wp2_with fail
  rw [← H1.out]
  refine (C.out _ (L.below P2.out.bel)).mono ?_
  rintro e w3 ⟨rfl, b1⟩
  have P3 := Lib.hid (P2.out.below b1)
  clear b1
  clear p0 p1 p2 p3 p4 p5
  go_wp2_with fail
  refine (D.out _ (L.below P3.out.bel)).mono ?_
  rintro e w4 ⟨rfl, b1⟩
  have R4 := Lib.hid (P3.out.below b1)
  obtain ⟨W4, hW, P, Q⟩ := civ6_next P3.out b1 y m d h i s 31
  have H4 := Lib.hid hW
  have P4 := Lib.hid P
  have Q4 := Lib.hid Q
  clear hW P Q b1
  have p0 := R4.out.g0
  have p1 := R4.out.g1
  have p2 := R4.out.g2
  have p3 := R4.out.g3
  have p4 := R4.out.g4
  have p5 := R4.out.g5
  have hz4 : w.heap.size < w4.heap.size := R4.out.hB
  have eq := same6_t y m d h i s
  go_wp2_with fail
  rw [← H4.out]
  refine (works_any _ (L.below P4.out.bel)).mono ?_
  rintro e w5 ⟨rfl, b1⟩
  go_wp2_with fail
  go_ret
  exact ⟨rfl, P4.out.bel.trans (b1.mono P4.out.bel.size)⟩
set_option maxRecDepth 100000 in
set_option maxHeartbeats 1000000 in
theorem way_okno (t y m d h i s z y' m' d' h' i' s' r' : Int) (w : World) (L : Lay w)
    (n : IsLoc t z y' m' d' h' i' s') (hr : r' ≠ 0) (k : ∀ w, Lay w → Calls Tryd.prog 26 #[.agg #[.int .i64 y, .int .i64 m, .int .i64 d, .int .i64 h, .int .i64 i, .int .i64 s], .int .i64 z] w fun e w' => e = .returned (.tuple #[.int .i64 0, .int .i64 r']) ∧ Below w.heap.size w w') :
    Calls Tryd.prog 7 #[.int .i64 t, .agg #[.int .i64 y, .int .i64 m, .int .i64 d, .int .i64 h, .int .i64 i, .int .i64 s], .int .i64 z] w fun e w' => e = .returned (.bool true) ∧ Below w.heap.size w w' := by
  have A := Lib.hid (fun w L => n.local w L)
  have B := Lib.hid (fun w L => loc_back n w L)
  have C := Lib.hid k
  have rk : (r' != 0) = true := by rw [bne_iff_ne]; exact hr
  clear hr
  clear n k
  obtain ⟨W0, hW, P⟩ := civ6_start w w (Below.refl _ _) y m d h i s 31
  have H0 := Lib.hid hW
  have P0 := Lib.hid P
  clear hW P
  go_enter Tryd.func7, Tryd.ntmps7
  go_wp2_with fail
  rw [← H0.out]
  refine (A.out _ (L.below P0.out.bel)).mono ?_
  rintro e w1 ⟨rfl, b1⟩
  obtain ⟨W1, hW, P, Q⟩ := civ6_next P0.out b1 y' m' d' h' i' s' 31
  have H1 := Lib.hid hW
  have P1 := Lib.hid P
  have Q1 := Lib.hid Q
  clear hW P Q b1
  have p0 := P1.out.g0
  have p1 := P1.out.g1
  have p2 := P1.out.g2
  have p3 := P1.out.g3
  have p4 := P1.out.g4
  have p5 := P1.out.g5
  have q0 := Q1.out.g0
  have q1 := Q1.out.g1
  have q2 := Q1.out.g2
  have q3 := Q1.out.g3
  have q4 := Q1.out.g4
  have q5 := Q1.out.g5
  go_wp2_with fail
  rw [← H1.out]
  refine (B.out _ (L.below P1.out.bel)).mono ?_
  rintro e w2 ⟨rfl, b1⟩
  have P2 := Lib.hid (P1.out.below b1)
  clear b1
  clear p0 p1 p2 p3 p4 p5 q0 q1 q2 q3 q4 q5
  have p0 := P2.out.g0
  have p1 := P2.out.g1
  have p2 := P2.out.g2
  have p3 := P2.out.g3
  have p4 := P2.out.g4
  have p5 := P2.out.g5
  go_wp2_with fail
  refine (C.out _ (L.below P2.out.bel)).mono ?_
  rintro e w3 ⟨rfl, b1⟩
  have P3 := Lib.hid (P2.out.below b1)
  clear b1
  clear p0 p1 p2 p3 p4 p5
  have P4 := P3
  go_wp2_with fail
  refine (works_any _ (L.below P4.out.bel)).mono ?_
  rintro e w5 ⟨rfl, b1⟩
  go_wp2_with fail
  go_ret
  exact ⟨rfl, P4.out.bel.trans (b1.mono P4.out.bel.size)⟩
set_option maxRecDepth 100000 in
set_option maxHeartbeats 1000000 in
theorem way_okok (t y m d h i s z y' m' d' h' i' s' b : Int) (w : World) (L : Lay w)
    (n : IsLoc t z y' m' d' h' i' s') (k : IsLoc b z y m d h i s) :
    Calls Tryd.prog 7 #[.int .i64 t, .agg #[.int .i64 y, .int .i64 m, .int .i64 d, .int .i64 h, .int .i64 i, .int .i64 s], .int .i64 z] w fun e w' => e = .returned (.bool true) ∧ Below w.heap.size w w' := by
  have A := Lib.hid (fun w L => n.local w L)
  have B := Lib.hid (fun w L => loc_back n w L)
  have C := Lib.hid (fun w L => loc_back k w L)
  have D := Lib.hid (fun w L => k.local w L)
  clear n k
  obtain ⟨W0, hW, P⟩ := civ6_start w w (Below.refl _ _) y m d h i s 31
  have H0 := Lib.hid hW
  have P0 := Lib.hid P
  clear hW P
  go_enter Tryd.func7, Tryd.ntmps7
  go_wp2_with fail
  rw [← H0.out]
  refine (A.out _ (L.below P0.out.bel)).mono ?_
  rintro e w1 ⟨rfl, b1⟩
  obtain ⟨W1, hW, P, Q⟩ := civ6_next P0.out b1 y' m' d' h' i' s' 31
  have H1 := Lib.hid hW
  have P1 := Lib.hid P
  have Q1 := Lib.hid Q
  clear hW P Q b1
  have p0 := P1.out.g0
  have p1 := P1.out.g1
  have p2 := P1.out.g2
  have p3 := P1.out.g3
  have p4 := P1.out.g4
  have p5 := P1.out.g5
  have q0 := Q1.out.g0
  have q1 := Q1.out.g1
  have q2 := Q1.out.g2
  have q3 := Q1.out.g3
  have q4 := Q1.out.g4
  have q5 := Q1.out.g5
  go_wp2_with fail
  rw [← H1.out]
  refine (B.out _ (L.below P1.out.bel)).mono ?_
  rintro e w2 ⟨rfl, b1⟩
  have P2 := Lib.hid (P1.out.below b1)
  clear b1
  clear p0 p1 p2 p3 p4 p5 q0 q1 q2 q3 q4 q5
  have p0 := P2.out.g0
  have p1 := P2.out.g1
  have p2 := P2.out.g2
  have p3 := P2.out.g3
  have p4 := P2.out.g4
  have p5 := P2.out.g5
  go_wp2_with fail
  refine (C.out _ (L.below P2.out.bel)).mono ?_
  rintro e w3 ⟨rfl, b1⟩
  have P3 := Lib.hid (P2.out.below b1)
  clear b1
  clear p0 p1 p2 p3 p4 p5
  go_wp2_with fail
  refine (D.out _ (L.below P3.out.bel)).mono ?_
  rintro e w4 ⟨rfl, b1⟩
  have R4 := Lib.hid (P3.out.below b1)
  obtain ⟨W4, hW, P, Q⟩ := civ6_next P3.out b1 y m d h i s 31
  have H4 := Lib.hid hW
  have P4 := Lib.hid P
  have Q4 := Lib.hid Q
  clear hW P Q b1
  have p0 := R4.out.g0
  have p1 := R4.out.g1
  have p2 := R4.out.g2
  have p3 := R4.out.g3
  have p4 := R4.out.g4
  have p5 := R4.out.g5
  have hz4 : w.heap.size < w4.heap.size := R4.out.hB
  have eq := same6_t y m d h i s
  go_wp2_with fail
  rw [← H4.out]
  refine (works_any _ (L.below P4.out.bel)).mono ?_
  rintro e w5 ⟨rfl, b1⟩
  go_wp2_with fail
  go_ret
  exact ⟨rfl, P4.out.bel.trans (b1.mono P4.out.bel.size)⟩
theorem walk (t y m d h i s z : Int) (w : World) (L : Lay w) (_ : (Lit.int .i64 t).wf = true) (_ : (Lit.int .i64 y).wf = true ∧ (Lit.int .i64 m).wf = true ∧ (Lit.int .i64 d).wf = true ∧ (Lit.int .i64 h).wf = true ∧ (Lit.int .i64 i).wf = true ∧ (Lit.int .i64 s).wf = true) (_ : (Lit.int .i64 z).wf = true) :
    Calls Tryd.prog 7 #[.int .i64 t, .agg #[.int .i64 y, .int .i64 m, .int .i64 d, .int .i64 h, .int .i64 i, .int .i64 s], .int .i64 z] w fun e w' => e = .returned (.bool true) ∧ Below w.heap.size w w' := by
  rcases loc_cases t z with ⟨r, n⟩ | ⟨y', m', d', h', i', s', n⟩
  · rcases back_cases y m d h i s z with ⟨r', hr, k⟩ | ⟨b, k⟩
    · exact way_nono t y m d h i s z r r' w L n hr k
    · exact way_nook t y m d h i s z r b w L n k
  · rcases back_cases y m d h i s z with ⟨r', hr, k⟩ | ⟨b, k⟩
    · exact way_okno t y m d h i s z y' m' d' h' i' s' r' w L n hr k
    · exact way_okok t y m d h i s z y' m' d' h' i' s' b w L n k

theorem listed : Rows.zoneReturnsRow.laid.find? isLengths = some (((Rows.zoneReturnsRow.laid.find? isLengths).map (·.1)).getD "", Rows.laid_wakeman_civil_lengths) := by kernel_rfl

set_option maxRecDepth 100000 in
theorem lifted (os : Os) (started : os.Started) (H : Type) (enc : TypeId × Value → H) :
    ReturnsInHanded {} Tryd.checked os 7 .any (fun w args => (Rows.zoneReturnsSpec.pre enc Tryd.prog Tryd.f7 [] false w args ∧ laidMetH Tryd.prog Rows.zoneReturnsRow.laid w) ∧ sizedMet enc Tryd.prog Tryd.f7 (OpenSpec.ofChange Rows.zoneReturnsSpec) false w args)
      (Rows.zoneReturnsSpec.post enc Tryd.prog Tryd.f7 false true false false) := by
  refine returnsInHanded_of_change_and (C := Tryd.checked) (X := fun w _ => laidMetH Tryd.prog Rows.zoneReturnsRow.laid w) (fun _ _ _ hh h => h.of_heap hh) own started (by kernel_rfl) Tryd.func7
    (ChangeSpec.witness_shaped (enc := enc) (C := Tryd.checked) (os := os) (X := fun w _ => laidMetH Tryd.prog Rows.zoneReturnsRow.laid w) false (World.doorLaid Tryd.prog 400 os) #[.int .i64 0, .agg #[.int .i64 0, .int .i64 0, .int .i64 0, .int .i64 0, .int .i64 0, .int .i64 0], .int .i64 0] 8 rfl (shaped0 os _) (by kernel_rfl) (by kernel_rfl) (by kernel_rfl) (door_met os _)) ?_
  intro W base args ds gs before hval0 hW _ _ hL _
  have hval : ∀ (j : Nat) t v, Tryd.f7.params[j]? = some t → args[j]? = some v → Value.okWide Tryd.prog W .any base t v := hval0
  have hW' := hW
  obtain ⟨p, q, hA0, hV, rfl, hfz, hnd⟩ := hW
  have hA : DataW.TrodAll enc Tryd.prog W 0 (fun _ => true) true Tryd.f7.params.toList args.toList ds p := hA0
  rw [Tryd.params7] at hA hval
  obtain ⟨v0, vs0, d0, ds0, p0, q0, hargs, rfl, rfl, h0, r0⟩ := trodAll_cons hA
  obtain ⟨v1, vs1, d1, ds1, p1, q1, rfl, rfl, rfl, h1, r1⟩ := trodAll_cons r0
  obtain ⟨v2, vs2, d2, ds2, p2, q2, rfl, rfl, rfl, h2, r2⟩ := trodAll_cons r1
  obtain ⟨rfl, rfl, rfl⟩ := trodAll_nil r2
  obtain rfl : args = #[v0, v1, v2] := by cases args; simp_all
  obtain ⟨rfl, rfl⟩ := trodVars_none hV
  obtain ⟨a0, rfl, rfl, rfl, w0⟩ := open_int Tryd.underlying2 (hval 0 2 v0 rfl rfl) h0
  obtain ⟨y1, m1, t1, o1, i1, s1, rfl, w1⟩ := open_civil (hval 1 31 v1 rfl rfl) h1
  have k1 := h1
  have lt1 : ∀ x ∈ p1, x.block < W.heap.size := by obtain ⟨m, hm⟩ := k1; exact DataW.trod_lt m _ _ _ hm
  obtain ⟨a2, rfl, rfl, rfl, w2⟩ := open_int Tryd.underlying3 (hval 2 3 v2 rfl rfl) h2
  clear hA0 hval0
  refine (walk a0 y1 m1 t1 o1 i1 s1 a2 W (lay_of _ W (by kernel_rfl) _ listed hL) w0 w1 w2).mono fun e W' ⟨he, bel⟩ => ?_
  subst he
  exact ⟨_, rfl, _, _, _, [], _, [], hW', trodAll_mk1 (shut_bool Tryd.underlying4 _), (trodAll_cons_mk (shut_int Tryd.underlying2 w0) (trodAll_cons_mk (Below.trod laidOut (by kernel_rfl) (of_decide_eq_true (by kernel_rfl)) k1 bel lt1) (trodAll_cons_mk (shut_int Tryd.underlying3 w2) trodAll_mk0))), rfl, bel.frame _, fun h => by cases h⟩

theorem row_holds : Rows.ZoneReturnsSaid :=
  OpenClaim.holds_of_wide 7 Tryd.f7 rfl rfl rfl rfl rfl rfl rfl ⟨rfl, rfl, rfl, rfl, rfl⟩ rfl rfl rfl rfl rfl (by kernel_rfl) Tryd.func7 (by kernel_rfl)
    (of_decide_eq_true (by kernel_rfl)) (by unfold Func.isWrapper; first | (rw [if_pos (by decide +kernel)]; kernel_rfl) | (rw [if_neg (by decide +kernel)]; exact ⟨rfl, rfl⟩))
    (fun os started H enc _ => lifted os started H enc)

theorem proved : Rows.ZoneReturnsCardSaid :=
  Claim7.holds_tied_plain_at .later [] Rows.zoneReturnsCard.laidKinds true Rows.zoneReturnsCard.stood.harness Rows.zoneReturnsCard.stood.looks
    row_holds (fun _ h => by cases h) (by kernel_rfl) (fun _ h => by cases h) zoneReturns_row_tie rfl ⟨rfl, rfl⟩ (by kernel_rfl) rfl
    (fun f fn hf hfn => by
      obtain rfl : f = 7 := Option.some.inj ((show Tryd.prog.funcNamed Rows.zoneReturnsRow.func = some 7 by kernel_rfl).symm.trans hf) |>.symm
      obtain rfl : fn = Tryd.f7 := (Option.some.inj (Tryd.func7.symm.trans hfn)).symm
      exact ⟨looks0, fun j t ht => by
        rw [Tryd.params7] at ht
        have hm : t ∈ [2, 31, 3] := by simpa using Array.mem_of_getElem? ht
        have hall : ([2, 31, 3].all fun u => !Tryd.prog.wantsStandIn u) = true := by kernel_rfl
        exact (show Tryd.prog.wantsStandIn t = false by simpa using List.all_eq_true.1 hall t hm)⟩)
    (by kernel_rfl)
end Go.Proofs.YtbnhbfemoaokkaaDoor.zoneReturns
