/- For all numbers that choose two times and a zone, ZoneSplits returns true: two times are on the same local day exactly if this is the same date, whichever is named first. Condition: the package-level tables start as the program's text lays them (tied). -/
import Derived.Test.YtbnhbfemoaokkaaDoorZonDoor
import Derived.Test.YtbnhbfemoaokkaaDoorZonK
namespace Go.Proofs.YtbnhbfemoaokkaaDoor.zoneSplits
open Go.ChangeShapes Go.WideShapes Go.ChangeAt Go.RowKit

theorem no14 {t z r : Int} (n : NoLoc t z r) (z0 : -840 ≤ z) (z1 : z ≤ 840) : r = 14 := by
  rcases n with ⟨c, _⟩ | ⟨_, _, _, h⟩
  · omega
  · exact h
theorem sameD_comm (y m d y' m' d' : Int) : sameD y m d y' m' d' = sameD y' m' d' y m d := by
  unfold sameD
  have : (y = y' ∧ m = m' ∧ d = d') ↔ (y' = y ∧ m' = m ∧ d' = d) := by omega
  simp [this]

set_option maxRecDepth 100000 in
set_option maxHeartbeats 1000000 in
theorem way_a (t p n a k b z y' m' d' h' i' s' r' : Int) (w : World) (L : Lay w) (t0 : 0 ≤ t) (t1 : t ≤ 18446744073709551615) (p0 : -2147483648 ≤ p) (p1 : p ≤ 2147483647) (n0 : 0 ≤ n) (n1 : n ≤ 65535)
    (ea : t % 253402300800 = a) (ek : p.tmod 259200 = k) (eb : a + k = b) (ez : n % 1681 - 840 = z)
    (A : ∀ w, Lay w → Calls Tryd.prog 20 #[.int .i64 a, .int .i64 z] w fun e w' => e = .returned (.tuple #[.agg #[.int .i64 0, .int .i64 0, .int .i64 0, .int .i64 0, .int .i64 0, .int .i64 0], .int .i64 14]) ∧ Below w.heap.size w w')
    (B : ∀ w, Lay w → Calls Tryd.prog 20 #[.int .i64 b, .int .i64 z] w fun e w' => e = .returned (.tuple #[.agg #[.int .i64 y', .int .i64 m', .int .i64 d', .int .i64 h', .int .i64 i', .int .i64 s'], .int .i64 r']) ∧ Below w.heap.size w w')
    (C : ∀ w, Lay w → Calls Tryd.prog 28 #[.int .i64 a, .int .i64 b, .int .i64 z] w fun e w' => e = .returned (.tuple #[.bool false, .int .i64 14]) ∧ Below w.heap.size w w')
    (D : ∀ w, Lay w → Calls Tryd.prog 28 #[.int .i64 b, .int .i64 a, .int .i64 z] w fun e w' => e = .returned (.tuple #[.bool false, .int .i64 14]) ∧ Below w.heap.size w w') :
    Calls Tryd.prog 10 #[.int .u64 t, .int .i32 p, .int .u16 n] w fun e w' => e = .returned (.bool true) ∧ Below w.heap.size w w' := by
  have a0 : 0 ≤ a := by omega
  have a1 : a ≤ 253402300799 := by omega
  have k0 : -259200 < k := by rw [← ek]; exact Int.lt_tmod_of_pos _ (by decide)
  have k1 : k < 259200 := by rw [← ek]; exact Int.tmod_lt_of_pos _ (by decide)
  have A := Lib.hid A
  have B := Lib.hid B
  have C := Lib.hid C
  have D := Lib.hid D
  go_enter Tryd.func10, Tryd.ntmps10
  go_wp2_with fail
  refine (A.out _ L).mono ?_
  rintro e w1 ⟨rfl, c⟩
  obtain ⟨W1, hW, P⟩ := civ6_start w w1 c 0 0 0 0 0 0 31
  have H1 := Lib.hid hW
  have P1 := Lib.hid P
  clear hW P c
  go_wp2_with fail
  rw [← H1.out]
  refine (B.out _ (L.below P1.out.bel)).mono ?_
  rintro e w2 ⟨rfl, c⟩
  obtain ⟨W2, hW, P, Q⟩ := civ6_next P1.out c y' m' d' h' i' s' 31
  have H2 := Lib.hid hW
  have P2 := Lib.hid P
  have Q2 := Lib.hid Q
  clear hW P Q c
  go_wp2_with fail
  rw [← H2.out]
  refine (C.out _ (L.below P2.out.bel)).mono ?_
  rintro e w3 ⟨rfl, c⟩
  have P3 := Lib.hid (P2.out.below c)
  have Q3 := Lib.hid (Q2.out.below c)
  clear c
  go_wp2_with fail
  refine (D.out _ (L.below P3.out.bel)).mono ?_
  rintro e w4 ⟨rfl, c⟩
  have P4 := Lib.hid (P3.out.below c)
  have Q4 := Lib.hid (Q3.out.below c)
  clear c
  have p0 := P4.out.g0
  have p1 := P4.out.g1
  have p2 := P4.out.g2
  have q0 := Q4.out.g0
  have q1 := Q4.out.g1
  have q2 := Q4.out.g2
  go_wp2_with fail
  refine (works_any _ (L.below P4.out.bel)).mono ?_
  rintro e w5 ⟨rfl, c⟩
  go_wp2_with fail
  go_ret
  exact ⟨rfl, P4.out.bel.trans (c.mono P4.out.bel.size)⟩
set_option maxRecDepth 100000 in
set_option maxHeartbeats 1000000 in
theorem way_b (t p n a k b z y m d h i s : Int) (w : World) (L : Lay w) (t0 : 0 ≤ t) (t1 : t ≤ 18446744073709551615) (p0 : -2147483648 ≤ p) (p1 : p ≤ 2147483647) (n0 : 0 ≤ n) (n1 : n ≤ 65535)
    (ea : t % 253402300800 = a) (ek : p.tmod 259200 = k) (eb : a + k = b) (ez : n % 1681 - 840 = z)
    (A : ∀ w, Lay w → Calls Tryd.prog 20 #[.int .i64 a, .int .i64 z] w fun e w' => e = .returned (.tuple #[.agg #[.int .i64 y, .int .i64 m, .int .i64 d, .int .i64 h, .int .i64 i, .int .i64 s], .int .i64 0]) ∧ Below w.heap.size w w')
    (B : ∀ w, Lay w → Calls Tryd.prog 20 #[.int .i64 b, .int .i64 z] w fun e w' => e = .returned (.tuple #[.agg #[.int .i64 0, .int .i64 0, .int .i64 0, .int .i64 0, .int .i64 0, .int .i64 0], .int .i64 14]) ∧ Below w.heap.size w w')
    (C : ∀ w, Lay w → Calls Tryd.prog 28 #[.int .i64 a, .int .i64 b, .int .i64 z] w fun e w' => e = .returned (.tuple #[.bool false, .int .i64 14]) ∧ Below w.heap.size w w')
    (D : ∀ w, Lay w → Calls Tryd.prog 28 #[.int .i64 b, .int .i64 a, .int .i64 z] w fun e w' => e = .returned (.tuple #[.bool false, .int .i64 14]) ∧ Below w.heap.size w w') :
    Calls Tryd.prog 10 #[.int .u64 t, .int .i32 p, .int .u16 n] w fun e w' => e = .returned (.bool true) ∧ Below w.heap.size w w' := by
  have a0 : 0 ≤ a := by omega
  have a1 : a ≤ 253402300799 := by omega
  have k0 : -259200 < k := by rw [← ek]; exact Int.lt_tmod_of_pos _ (by decide)
  have k1 : k < 259200 := by rw [← ek]; exact Int.tmod_lt_of_pos _ (by decide)
  have A := Lib.hid A
  have B := Lib.hid B
  have C := Lib.hid C
  have D := Lib.hid D
  go_enter Tryd.func10, Tryd.ntmps10
  go_wp2_with fail
  refine (A.out _ L).mono ?_
  rintro e w1 ⟨rfl, c⟩
  obtain ⟨W1, hW, P⟩ := civ6_start w w1 c y m d h i s 31
  have H1 := Lib.hid hW
  have P1 := Lib.hid P
  clear hW P c
  go_wp2_with fail
  rw [← H1.out]
  refine (B.out _ (L.below P1.out.bel)).mono ?_
  rintro e w2 ⟨rfl, c⟩
  obtain ⟨W2, hW, P, Q⟩ := civ6_next P1.out c 0 0 0 0 0 0 31
  have H2 := Lib.hid hW
  have P2 := Lib.hid P
  have Q2 := Lib.hid Q
  clear hW P Q c
  go_wp2_with fail
  rw [← H2.out]
  refine (C.out _ (L.below P2.out.bel)).mono ?_
  rintro e w3 ⟨rfl, c⟩
  have P3 := Lib.hid (P2.out.below c)
  have Q3 := Lib.hid (Q2.out.below c)
  clear c
  go_wp2_with fail
  refine (D.out _ (L.below P3.out.bel)).mono ?_
  rintro e w4 ⟨rfl, c⟩
  have P4 := Lib.hid (P3.out.below c)
  have Q4 := Lib.hid (Q3.out.below c)
  clear c
  have p0 := P4.out.g0
  have p1 := P4.out.g1
  have p2 := P4.out.g2
  have q0 := Q4.out.g0
  have q1 := Q4.out.g1
  have q2 := Q4.out.g2
  go_wp2_with fail
  refine (works_any _ (L.below P4.out.bel)).mono ?_
  rintro e w5 ⟨rfl, c⟩
  go_wp2_with fail
  go_ret
  exact ⟨rfl, P4.out.bel.trans (c.mono P4.out.bel.size)⟩
set_option maxRecDepth 100000 in
set_option maxHeartbeats 1000000 in
theorem way_c (t p n a k b z y m d h i s y' m' d' h' i' s' : Int) (o : Bool) (w : World) (L : Lay w) (t0 : 0 ≤ t) (t1 : t ≤ 18446744073709551615) (p0 : -2147483648 ≤ p) (p1 : p ≤ 2147483647) (n0 : 0 ≤ n) (n1 : n ≤ 65535)
    (ea : t % 253402300800 = a) (ek : p.tmod 259200 = k) (eb : a + k = b) (ez : n % 1681 - 840 = z)
    (A : ∀ w, Lay w → Calls Tryd.prog 20 #[.int .i64 a, .int .i64 z] w fun e w' => e = .returned (.tuple #[.agg #[.int .i64 y, .int .i64 m, .int .i64 d, .int .i64 h, .int .i64 i, .int .i64 s], .int .i64 0]) ∧ Below w.heap.size w w')
    (B : ∀ w, Lay w → Calls Tryd.prog 20 #[.int .i64 b, .int .i64 z] w fun e w' => e = .returned (.tuple #[.agg #[.int .i64 y', .int .i64 m', .int .i64 d', .int .i64 h', .int .i64 i', .int .i64 s'], .int .i64 0]) ∧ Below w.heap.size w w')
    (C : ∀ w, Lay w → Calls Tryd.prog 28 #[.int .i64 a, .int .i64 b, .int .i64 z] w fun e w' => e = .returned (.tuple #[.bool o, .int .i64 0]) ∧ Below w.heap.size w w')
    (D : ∀ w, Lay w → Calls Tryd.prog 28 #[.int .i64 b, .int .i64 a, .int .i64 z] w fun e w' => e = .returned (.tuple #[.bool o, .int .i64 0]) ∧ Below w.heap.size w w')
    (ho : (o = true ∧ (y == y') = true ∧ (m == m') = true ∧ (d == d') = true) ∨ (o = false ∧ (y == y') = false) ∨ (o = false ∧ (y == y') = true ∧ (m == m') = false) ∨ (o = false ∧ (y == y') = true ∧ (m == m') = true ∧ (d == d') = false)) :
    Calls Tryd.prog 10 #[.int .u64 t, .int .i32 p, .int .u16 n] w fun e w' => e = .returned (.bool true) ∧ Below w.heap.size w w' := by
  have a0 : 0 ≤ a := by omega
  have a1 : a ≤ 253402300799 := by omega
  have k0 : -259200 < k := by rw [← ek]; exact Int.lt_tmod_of_pos _ (by decide)
  have k1 : k < 259200 := by rw [← ek]; exact Int.tmod_lt_of_pos _ (by decide)
  have A := Lib.hid A
  have B := Lib.hid B
  have C := Lib.hid C
  have D := Lib.hid D
  rcases ho with ⟨rfl, s1, s2, s3⟩ | ⟨rfl, s1⟩ | ⟨rfl, s1, s2⟩ | ⟨rfl, s1, s2, s3⟩
  all_goals
    go_enter Tryd.func10, Tryd.ntmps10
    go_wp2_with fail
    refine (A.out _ L).mono ?_
    rintro e w1 ⟨rfl, c⟩
    obtain ⟨W1, hW, P⟩ := civ6_start w w1 c y m d h i s 31
    have H1 := Lib.hid hW
    have P1 := Lib.hid P
    clear hW P c
    go_wp2_with fail
    rw [← H1.out]
    refine (B.out _ (L.below P1.out.bel)).mono ?_
    rintro e w2 ⟨rfl, c⟩
    obtain ⟨W2, hW, P, Q⟩ := civ6_next P1.out c y' m' d' h' i' s' 31
    have H2 := Lib.hid hW
    have P2 := Lib.hid P
    have Q2 := Lib.hid Q
    clear hW P Q c
    go_wp2_with fail
    rw [← H2.out]
    refine (C.out _ (L.below P2.out.bel)).mono ?_
    rintro e w3 ⟨rfl, c⟩
    have P3 := Lib.hid (P2.out.below c)
    have Q3 := Lib.hid (Q2.out.below c)
    clear c
    go_wp2_with fail
    refine (D.out _ (L.below P3.out.bel)).mono ?_
    rintro e w4 ⟨rfl, c⟩
    have P4 := Lib.hid (P3.out.below c)
    have Q4 := Lib.hid (Q3.out.below c)
    clear c
    have p0 := P4.out.g0
    have p1 := P4.out.g1
    have p2 := P4.out.g2
    have q0 := Q4.out.g0
    have q1 := Q4.out.g1
    have q2 := Q4.out.g2
    go_wp2_with fail
    refine (works_any _ (L.below P4.out.bel)).mono ?_
    rintro e w5 ⟨rfl, c⟩
    go_wp2_with fail
    go_ret
    exact ⟨rfl, P4.out.bel.trans (c.mono P4.out.bel.size)⟩
theorem walk (t p n : Int) (w : World) (L : Lay w) (ht : (Lit.int .u64 t).wf = true) (hp : (Lit.int .i32 p).wf = true) (hn : (Lit.int .u16 n).wf = true) :
    Calls Tryd.prog 10 #[.int .u64 t, .int .i32 p, .int .u16 n] w fun e w' => e = .returned (.bool true) ∧ Below w.heap.size w w' := by
  obtain ⟨t0, t1⟩ := bounds_u64 ht
  obtain ⟨p0, p1⟩ := bounds_i32 hp
  obtain ⟨n0, n1⟩ := bounds_u16 hn
  obtain ⟨a, ea⟩ : ∃ a, t % 253402300800 = a := ⟨_, rfl⟩
  obtain ⟨k, ek⟩ : ∃ k, p.tmod 259200 = k := ⟨_, rfl⟩
  obtain ⟨b, eb⟩ : ∃ b, a + k = b := ⟨_, rfl⟩
  obtain ⟨z, ez⟩ : ∃ z, n % 1681 - 840 = z := ⟨_, rfl⟩
  have z0 : -840 ≤ z := by omega
  have z1 : z ≤ 840 := by omega
  rcases loc_cases a z with ⟨r, N⟩ | ⟨y, m, d, h, i, s, N⟩
  · obtain rfl := no14 N z0 z1
    rcases loc_cases b z with ⟨r, N'⟩ | ⟨y', m', d', h', i', s', N'⟩
    · obtain rfl := no14 N' z0 z1
      exact way_a t p n a k b z 0 0 0 0 0 0 14 w L t0 t1 p0 p1 n0 n1 ea ek eb ez (fun w _ => N.local w) (fun w _ => N'.local w) (fun w _ => same_no N w) (fun w _ => same_no N' w)
    · exact way_a t p n a k b z y' m' d' h' i' s' 0 w L t0 t1 p0 p1 n0 n1 ea ek eb ez (fun w _ => N.local w) (fun w L => N'.local w L) (fun w _ => same_no N w) (fun w L => same_no2 N' N w L)
  · rcases loc_cases b z with ⟨r, N'⟩ | ⟨y', m', d', h', i', s', N'⟩
    · obtain rfl := no14 N' z0 z1
      exact way_b t p n a k b z y m d h i s w L t0 t1 p0 p1 n0 n1 ea ek eb ez (fun w L => N.local w L) (fun w _ => N'.local w) (fun w L => same_no2 N N' w L) (fun w _ => same_no N' w)
    · exact way_c t p n a k b z y m d h i s y' m' d' h' i' s' _ w L t0 t1 p0 p1 n0 n1 ea ek eb ez (fun w L => N.local w L) (fun w L => N'.local w L) (fun w L => same_loc N N' w L) (fun w L => by rw [sameD_comm]; exact same_loc N' N w L) (sameD_way y m d y' m' d')

theorem listed : Rows.zoneSplitsRow.laid.find? isLengths = some (((Rows.zoneSplitsRow.laid.find? isLengths).map (·.1)).getD "", Rows.laid_wakeman_civil_lengths) := by kernel_rfl

set_option maxRecDepth 100000 in
theorem lifted (os : Os) (started : os.Started) (H : Type) (enc : TypeId × Value → H) :
    ReturnsInHanded {} Tryd.checked os 10 .any (fun w args => (Rows.zoneSplitsSpec.pre enc Tryd.prog Tryd.f10 [] false w args ∧ laidMetH Tryd.prog Rows.zoneSplitsRow.laid w) ∧ sizedMet enc Tryd.prog Tryd.f10 (OpenSpec.ofChange Rows.zoneSplitsSpec) false w args)
      (Rows.zoneSplitsSpec.post enc Tryd.prog Tryd.f10 false true false false) := by
  refine returnsInHanded_of_change_and (C := Tryd.checked) (X := fun w _ => laidMetH Tryd.prog Rows.zoneSplitsRow.laid w) (fun _ _ _ hh h => h.of_heap hh) own started (by kernel_rfl) Tryd.func10
    (ChangeSpec.witness_shaped (enc := enc) (C := Tryd.checked) (os := os) (X := fun w _ => laidMetH Tryd.prog Rows.zoneSplitsRow.laid w) false (World.doorLaid Tryd.prog 400 os) #[.int .u64 0, .int .i32 0, .int .u16 0] 8 rfl (shaped0 os _) (by kernel_rfl) (by kernel_rfl) (by kernel_rfl) (door_met os _)) ?_
  intro W base args ds gs before hval0 hW _ _ hL _
  have hval : ∀ (j : Nat) t v, Tryd.f10.params[j]? = some t → args[j]? = some v → Value.okWide Tryd.prog W .any base t v := hval0
  have hW' := hW
  obtain ⟨p, q, hA0, hV, rfl, hfz, hnd⟩ := hW
  have hA : DataW.TrodAll enc Tryd.prog W 0 (fun _ => true) true Tryd.f10.params.toList args.toList ds p := hA0
  rw [Tryd.params10] at hA hval
  obtain ⟨v0, vs0, d0, ds0, p0, q0, hargs, rfl, rfl, h0, r0⟩ := trodAll_cons hA
  obtain ⟨v1, vs1, d1, ds1, p1, q1, rfl, rfl, rfl, h1, r1⟩ := trodAll_cons r0
  obtain ⟨v2, vs2, d2, ds2, p2, q2, rfl, rfl, rfl, h2, r2⟩ := trodAll_cons r1
  obtain ⟨rfl, rfl, rfl⟩ := trodAll_nil r2
  obtain rfl : args = #[v0, v1, v2] := by cases args; simp_all
  obtain ⟨rfl, rfl⟩ := trodVars_none hV
  obtain ⟨a0, rfl, rfl, rfl, w0⟩ := open_int Tryd.underlying49 (hval 0 49 v0 rfl rfl) h0
  obtain ⟨a1, rfl, rfl, rfl, w1⟩ := open_int Tryd.underlying21 (hval 1 21 v1 rfl rfl) h1
  obtain ⟨a2, rfl, rfl, rfl, w2⟩ := open_int Tryd.underlying44 (hval 2 44 v2 rfl rfl) h2
  clear hA0 hval0
  refine (walk a0 a1 a2 W (lay_of _ W (by kernel_rfl) _ listed hL) w0 w1 w2).mono fun e W' ⟨he, bel⟩ => ?_
  subst he
  exact ⟨_, rfl, _, _, _, [], _, [], hW', trodAll_mk1 (shut_bool Tryd.underlying4 _), (trodAll_cons_mk (shut_int Tryd.underlying49 w0) (trodAll_cons_mk (shut_int Tryd.underlying21 w1) (trodAll_cons_mk (shut_int Tryd.underlying44 w2) trodAll_mk0))), rfl, bel.frame _, fun h => by cases h⟩

theorem row_holds : Rows.ZoneSplitsSaid :=
  OpenClaim.holds_of_wide 10 Tryd.f10 rfl rfl rfl rfl rfl rfl rfl ⟨rfl, rfl, rfl, rfl, rfl⟩ rfl rfl rfl rfl rfl (by kernel_rfl) Tryd.func10 (by kernel_rfl)
    (of_decide_eq_true (by kernel_rfl)) (by unfold Func.isWrapper; first | (rw [if_pos (by decide +kernel)]; kernel_rfl) | (rw [if_neg (by decide +kernel)]; exact ⟨rfl, rfl⟩))
    (fun os started H enc _ => lifted os started H enc)

theorem proved : Rows.ZoneSplitsCardSaid :=
  Claim7.holds_tied_plain_at .later [] Rows.zoneSplitsCard.laidKinds true Rows.zoneSplitsCard.stood.harness Rows.zoneSplitsCard.stood.looks
    row_holds (fun _ h => by cases h) (by kernel_rfl) (fun _ h => by cases h) zoneSplits_row_tie rfl ⟨rfl, rfl⟩ (by kernel_rfl) rfl
    (fun f fn hf hfn => by
      obtain rfl : f = 10 := Option.some.inj ((show Tryd.prog.funcNamed Rows.zoneSplitsRow.func = some 10 by kernel_rfl).symm.trans hf) |>.symm
      obtain rfl : fn = Tryd.f10 := (Option.some.inj (Tryd.func10.symm.trans hfn)).symm
      exact ⟨looks0, fun j t ht => by
        rw [Tryd.params10] at ht
        have hm : t ∈ [49, 21, 44] := by simpa using Array.mem_of_getElem? ht
        have hall : ([49, 21, 44].all fun u => !Tryd.prog.wantsStandIn u) = true := by kernel_rfl
        exact (show Tryd.prog.wantsStandIn t = false by simpa using List.all_eq_true.1 hall t hm)⟩)
    (by kernel_rfl)
end Go.Proofs.YtbnhbfemoaokkaaDoor.zoneSplits
