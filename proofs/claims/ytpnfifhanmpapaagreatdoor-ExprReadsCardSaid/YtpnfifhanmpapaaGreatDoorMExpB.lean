/- Contract of Check of package expr. Contract of stars of package expr. Contract of read of package expr: the expression of six words, or the error of the first one that is wrong. -/
import Derived.Test.YtpnfifhanmpapaaGreatDoorMExpA
/- Contract of Check of package expr. -/
namespace Go.Proofs.YtpnfifhanmpapaaGreatDoor
open Go.ChangeShapes Go.WideShapes Go.RowKit Go.Shelf

namespace Exp
/-- is a field of an expression right? -/
def Ex.good (x : Ex) (i : Nat) : Bool := !(x.at i == 0) && subB (x.at i) (fl i)
/-- do the stars say what is so? -/
def Ex.stars (x : Ex) : Bool := (!x.b3 || x.a3 == fl 3) && (!x.b5 || x.a5 == fl 5)
def Ex.okB (x : Ex) : Bool := (List.range 6).all x.good && x.stars
theorem okB_iff {x : Ex} : x.okB = true ↔ x.Ok := by
  unfold Ex.okB
  rw [Bool.and_eq_true, List.all_eq_true]
  have g : ∀ i, i < 6 → (x.good i = true ↔ x.at i ≠ 0 ∧ Fld.In (kd6 i) (x.at i)) := fun i hi => by
    unfold Ex.good
    rw [Bool.and_eq_true]
    constructor
    · rintro ⟨a, b⟩
      refine ⟨by simpa using a, Fld.in_of_sub (kd_ok hi) ?_⟩
      unfold subB at b
      exact of_decide_eq_true b
    · rintro ⟨a, b⟩
      exact ⟨by simpa using a, Fld.sub_full (kd_ok hi) b⟩
  have s : x.stars = true ↔ (x.b3 = true → x.a3 = fl 3) ∧ (x.b5 = true → x.a5 = fl 5) := by
    unfold Ex.stars
    cases x.b3 <;> cases x.b5 <;> simp
  rw [s]
  constructor
  · rintro ⟨h, d, w⟩
    exact ⟨fun i hi => ((g i hi).1 (h i (by simpa using hi))).1, fun i hi => ((g i hi).1 (h i (by simpa using hi))).2, d, w⟩
  · intro h
    exact ⟨fun i hi => (g i (by simpa using hi)).2 ⟨h.ne i (by simpa using hi), h.inn i (by simpa using hi)⟩, h.d, h.w⟩
theorem okB_bad {x : Ex} {i : Nat} (hi : i < 6) (h : x.good i = false) : x.okB = false := by
  unfold Ex.okB
  rw [Bool.and_eq_false_iff]
  left
  rw [List.all_eq_false]
  exact ⟨i, by simpa using hi, by simp [h]⟩
theorem okB_good {x : Ex} (h : ∀ i, i < 6 → x.good i = true) : x.okB = x.stars := by
  unfold Ex.okB
  have : (List.range 6).all x.good = true := by
    rw [List.all_eq_true]
    exact fun i hi => h i (by simpa using hi)
  rw [this, Bool.true_and]
end Exp
/-- what Check returns -/
def errOk (b : Bool) : Int := if b = true then 0 else 16
/-- the world in Check: the expression's block, that of the full sets -/
structure CC (w : World) (x : Exp.Ex) (W : World) (F : Nat) : Prop where
  below : Below w.heap.size w W
  ex : Row W w.heap.size 25 (exL x)
  full : Row W F 40 (fulls 6)
theorem CC.next {w W W' : World} {x : Exp.Ex} {F : Nat} (h : CC w x W F) (hb : Below W.heap.size W W') : CC w x W' F := ⟨h.below.trans (hb.mono h.below.size), h.ex.below hb, h.full.below hb⟩
theorem fulls6_at (k : Nat) (h : k < 6) : (fulls 6)[k]? = some (.int .u64 (Exp.fl k : Nat)) :=
  six_cases h (P := fun k => (fulls 6)[k]? = some (.int .u64 (Exp.fl k : Nat))) rfl rfl rfl rfl rfl rfl
theorem fl_lt (k : Nat) (h : k < 6) : Exp.fl k < 2 ^ 64 := (six_full k h).2
set_option maxRecDepth 100000 in
set_option maxHeartbeats 4000000 in
theorem check_ex (x : Exp.Ex) (hx : x.Bd) (w : World) :
    Calls Tryz.prog 23 #[.agg #[.int .u64 x.a0, .int .u64 x.a1, .int .u64 x.a2, .int .u64 x.a3, .int .u64 x.a4, .int .u64 x.a5, .bool x.b3, .bool x.b5]] w fun e w' => e = .returned (.int .i64 (errOk x.okB)) ∧ Below w.heap.size w w' := by
  have E0 : Row (w.alloc (.cells (exL x).toArray 25)) w.heap.size 25 (exL x) := Row.new w _ _
  have B0 : Below w.heap.size w (w.alloc (.cells (exL x).toArray 25)) := (Below.refl _ w).alloc (Nat.le_refl _) _
  have HE0 := Lib.hid E0
  have HB0 := Lib.hid B0
  have HX := Lib.hid hx
  clear E0 B0 hx
  go_enter Tryz.func23, Tryz.ntmps23
  go_wp2_with fail
  refine (fullFields_any _).mono ?_
  rintro e w1 ⟨rfl, hb⟩
  have E1 := HE0.out.below hb
  have B1 := HB0.out.trans (hb.mono (by simp))
  have C1 : CC w x (w1.alloc (.cells (fulls 6).toArray 40)) w1.heap.size := ⟨B1.alloc B1.size _, E1.alloc _, Row.new w1 _ _⟩
  have HC := Lib.hid C1
  obtain ⟨F, hF⟩ : ∃ F, w1.heap.size = F := ⟨_, rfl⟩
  rw [hF] at HC
  clear hb HE0 HB0 E1 B1 C1
  go_wp2_with fail
  refine (fields_any _ _).mono ?_
  rintro e w2 ⟨rfl, hb⟩
  have HC := Lib.hid (HC.out.next hb)
  clear hb hF
  go_wp2_with fail
  go_loopw [8] (fun i wr => ∃ k : Nat, k ≤ 6 ∧ i = .int .i64 k ∧ Hid (CC w x wr F) ∧ Hid (∀ j, j < k → x.good j = true)) (fun i _ => 6 - (intOf i).toNat)
  case atStart => exact ⟨0, Nat.zero_le _, rfl, HC, Lib.hid (fun j h => by omega)⟩
  case round =>
    obtain ⟨k, hk, rfl, hc, hg⟩ := hrel
    by_cases hlt : k < 6
    · have d := (hc.out.ex.cell k).trans (exL_at x k hlt)
      have df := (hc.out.full.cell k).trans (fulls6_at k hlt)
      have q1 : decide ((k : Int) < 6) = true := by rw [decide_eq_true_iff]; omega
      have q1n : decide (k < 6) = true := by rw [decide_eq_true_iff]; omega
      have i0 : (0 : Int) ≤ (k : Int) := by omega
      have i1 : (k : Int) < 6 := by omega
      have ix := ptr_index w.heap.size k hlt
      have IN := Lib.hid (fun w => inside_any (x.at k) (Exp.fl k) w (HX.out k hlt) (fl_lt k hlt))
      have GD := Lib.hid (fun (h : x.good k = true) => fun j (hj : j < k + 1) => (by
        rcases Nat.lt_or_ge j k with a | a
        · exact hg.out j a
        · obtain rfl : j = k := by omega
          exact h : x.good j = true))
      have BD := Lib.hid (fun (h : x.good k = false) => Exp.okB_bad hlt h)
      obtain ⟨A, hA⟩ : ∃ A, x.at k = A := ⟨_, rfl⟩
      have gd : x.good k = (!(A == 0) && subB A (Exp.fl k)) := by unfold Exp.Ex.good; rw [hA]
      rw [hA] at d IN
      obtain ⟨G, hG⟩ : ∃ G, Exp.fl k = G := ⟨_, rfl⟩
      rw [hG] at df IN gd
      clear hA hG hg
      have HC := Lib.hid hc
      by_cases z : A = 0
      · subst z
        have t0 : ((0 : Int) == 0) = true := rfl
        have OK := Lib.hid (BD.out (by rw [gd]; rfl))
        clear gd IN GD BD
        go_wp2_with fail
        go_quiet (fail)
        go_wp2_with fail
        go_ret
        exact ⟨by rw [OK.out]; rfl, hc.out.below.trans ((below_drewN _ _ _).mono hc.out.below.size)⟩
      · have t0 : ((A : Int) == 0) = false := by rw [beq_eq_false_iff_ne]; omega
        have t0n : (A == 0) = false := by rw [beq_eq_false_iff_ne]; omega
        rw [t0n] at gd
        obtain ⟨sb, hsb⟩ : ∃ sb, subB A G = sb := ⟨_, rfl⟩
        rw [hsb] at gd IN
        clear hsb
        cases sb with
        | false =>
          have OK := Lib.hid (BD.out (by rw [gd]; rfl))
          clear gd GD BD z
          go_wp2_with fail
          go_quiet (first | (go_at_call 57; exact Calls.quiet_of_same ((IN.out _).mono fun _ _ ⟨h1, h2⟩ => ⟨h1, h2.symm⟩)))
          go_wp2_with fail
          go_ret
          exact ⟨by rw [OK.out]; rfl, hc.out.below.trans ((below_drewN _ _ _).mono hc.out.below.size)⟩
        | true =>
          have OK := Lib.hid (GD.out (by rw [gd]; rfl))
          clear gd GD BD z
          go_wp2_with fail
          go_quiet (first | (go_at_call 57; exact Calls.quiet_of_same ((IN.out _).mono fun _ _ ⟨h1, h2⟩ => ⟨h1, h2.symm⟩)))
          go_wp2_with fail
          go_roundw
          case rel => exact ⟨k + 1, by omega, by go_num, Lib.hid (hc.out.next (below_drewN _ _ _)), OK⟩
          case measure => simp [intOf]; omega
    · obtain rfl : k = 6 := by omega
      have OK := Lib.hid (Exp.okB_good hg.out)
      have e3 := hc.out.ex.cell 3
      have e5 := hc.out.ex.cell 5
      have e6 := hc.out.ex.cell 6
      have e7 := hc.out.ex.cell 7
      have f3 := (hc.out.full.cell 3).trans (fulls6_at 3 (by decide))
      have f5 := (hc.out.full.cell 5).trans (fulls6_at 5 (by decide))
      simp only [exL, List.getElem?_cons_zero, List.getElem?_cons_succ] at e3 e5 e6 e7
      have BW := Lib.hid hc.out.below
      obtain ⟨a0, a1, a2, a3, a4, a5, b3, b5⟩ := x
      unfold Exp.Ex.stars at OK
      simp only at e3 e5 e6 e7 OK
      obtain ⟨G3, h3⟩ : ∃ G, Exp.fl 3 = G := ⟨_, rfl⟩
      obtain ⟨G5, h5⟩ : ∃ G, Exp.fl 5 = G := ⟨_, rfl⟩
      rw [h3] at f3 OK
      rw [h5] at f5 OK
      clear hg h3 h5 hc
      have key : ∀ b : Bool, Exp.Ex.okB ⟨a0, a1, a2, a3, a4, a5, b3, b5⟩ = b → errOk b = errOk (Exp.Ex.okB ⟨a0, a1, a2, a3, a4, a5, b3, b5⟩) := fun b h => by rw [h]
      cases b3 <;> cases b5
      · go_wp2_with fail
        go_ret
        exact ⟨by rw [OK.out]; rfl, BW.out⟩
      · by_cases q : a5 = G5
        · subst q
          have t1 : ((a5 : Int) != (a5 : Int)) = false := by simp
          go_wp2_with fail
          go_ret
          exact ⟨by rw [OK.out]; simp [errOk], BW.out⟩
        · have t1 : ((a5 : Int) != (G5 : Int)) = true := by rw [bne_iff_ne]; omega
          have OK : Hid (_ = false) := Lib.hid (OK.out.trans (by simpa using q))
          clear q
          go_wp2_with fail
          go_ret
          exact ⟨by rw [OK.out]; rfl, BW.out⟩
      · by_cases q : a3 = G3
        · subst q
          have t1 : ((a3 : Int) != (a3 : Int)) = false := by simp
          go_wp2_with fail
          go_ret
          exact ⟨by rw [OK.out]; simp [errOk], BW.out⟩
        · have t1 : ((a3 : Int) != (G3 : Int)) = true := by rw [bne_iff_ne]; omega
          have OK : Hid (_ = false) := Lib.hid (OK.out.trans (by simpa using q))
          clear q
          go_wp2_with fail
          go_ret
          exact ⟨by rw [OK.out]; rfl, BW.out⟩
      · by_cases q : a3 = G3
        · subst q
          have t1 : ((a3 : Int) != (a3 : Int)) = false := by simp
          by_cases q : a5 = G5
          · subst q
            have t2 : ((a5 : Int) != (a5 : Int)) = false := by simp
            go_wp2_with fail
            go_ret
            exact ⟨by rw [OK.out]; simp [errOk], BW.out⟩
          · have t2 : ((a5 : Int) != (G5 : Int)) = true := by rw [bne_iff_ne]; omega
            have OK : Hid (_ = false) := Lib.hid (OK.out.trans (by simpa using q))
            clear q
            go_wp2_with fail
            go_ret
            exact ⟨by rw [OK.out]; rfl, BW.out⟩
        · have t1 : ((a3 : Int) != (G3 : Int)) = true := by rw [bne_iff_ne]; omega
          have OK : Hid (_ = false) := Lib.hid (OK.out.trans (by simp [q]))
          clear q
          go_wp2_with fail
          go_ret
          exact ⟨by rw [OK.out]; rfl, BW.out⟩
end Go.Proofs.YtpnfifhanmpapaaGreatDoor
/- Contract of stars of package expr. -/
namespace Go.Proofs.YtpnfifhanmpapaaGreatDoor
open Go.ChangeShapes Go.WideShapes Go.RowKit Go.Shelf

/-- the first k fields: are they full? -/
def starL (x : Exp.Ex) (k : Nat) : List Value := (List.range 6).map fun j => if j < k then .bool (decide (x.at j = Exp.fl j)) else .bool false
theorem starL_step (x : Exp.Ex) (k : Nat) (h : k < 6) : (starL x k).set k (.bool (decide (x.at k = Exp.fl k))) = starL x (k + 1) :=
  six_cases h (P := fun k => (starL x k).set k (.bool (decide (x.at k = Exp.fl k))) = starL x (k + 1)) rfl rfl rfl rfl rfl rfl
theorem starL_at (x : Exp.Ex) (k : Nat) (h : k < 6) : (starL x k)[k]? = some (.bool false) :=
  six_cases h (P := fun k => (starL x k)[k]? = some (.bool false)) rfl rfl rfl rfl rfl rfl
theorem starL_all (x : Exp.Ex) : ((starL x 6).set 3 (.bool x.b3)).set 5 (.bool x.b5) = [.bool (x.star 0), .bool (x.star 1), .bool (x.star 2), .bool (x.star 3), .bool (x.star 4), .bool (x.star 5)] := rfl
/-- the world in stars: the expression's block, the result's, the array's, that of the full sets -/
structure SC (w : World) (x : Exp.Ex) (l : List Value) (W : World) (F : Nat) : Prop where
  below : Below w.heap.size w W
  ex : Row W w.heap.size 25 (exL x)
  res : Row W (w.heap.size + 1) 107 [.bool false, .bool false, .bool false, .bool false, .bool false, .bool false]
  arr : Row W (w.heap.size + 1 + 1) 107 l
  full : Row W F 40 (fulls 6)
  far : w.heap.size + 1 + 1 < F
theorem SC.next {w W W' : World} {x : Exp.Ex} {l : List Value} {F : Nat} (h : SC w x l W F) (hb : Below W.heap.size W W') : SC w x l W' F := ⟨h.below.trans (hb.mono h.below.size), h.ex.below hb, h.res.below hb, h.arr.below hb, h.full.below hb, h.far⟩
theorem SC.set {w W : World} {x : Exp.Ex} {l : List Value} {F : Nat} (h : SC w x l W F) (k : Nat) (v : Value) : SC w x (l.set k v) (W.setCell ⟨w.heap.size + 1 + 1, k, none⟩ v) F := by
  have := h.far
  exact ⟨bel_cell h.below (by omega) _ _, h.ex.other _ _ (by show w.heap.size ≠ w.heap.size + 1 + 1; omega), h.res.other _ _ (by show w.heap.size + 1 ≠ w.heap.size + 1 + 1; omega), h.arr.set k v, h.full.other _ _ (by show F ≠ w.heap.size + 1 + 1; omega), h.far⟩
set_option maxRecDepth 100000 in
set_option maxHeartbeats 4000000 in
theorem stars_any (x : Exp.Ex) (w : World) :
    Calls Tryz.prog 50 #[.agg #[.int .u64 x.a0, .int .u64 x.a1, .int .u64 x.a2, .int .u64 x.a3, .int .u64 x.a4, .int .u64 x.a5, .bool x.b3, .bool x.b5]] w fun e w' => e = .returned (.agg #[.bool (x.star 0), .bool (x.star 1), .bool (x.star 2), .bool (x.star 3), .bool (x.star 4), .bool (x.star 5)]) ∧ Below w.heap.size w w' := by
  have S0 : ∀ w1 : World, Below (((w.alloc (.cells (exL x).toArray 25)).alloc (.cells #[.bool false, .bool false, .bool false, .bool false, .bool false, .bool false] 107)).alloc (.cells #[.bool false, .bool false, .bool false, .bool false, .bool false, .bool false] 107)).heap.size (((w.alloc (.cells (exL x).toArray 25)).alloc (.cells #[.bool false, .bool false, .bool false, .bool false, .bool false, .bool false] 107)).alloc (.cells #[.bool false, .bool false, .bool false, .bool false, .bool false, .bool false] 107)) w1 →
      SC w x (starL x 0) (w1.alloc (.cells (fulls 6).toArray 40)) w1.heap.size := by
    intro w1 hb
    have E0 : Row (w.alloc (.cells (exL x).toArray 25)) w.heap.size 25 (exL x) := Row.new w _ _
    have E1 := (E0.alloc (.cells #[.bool false, .bool false, .bool false, .bool false, .bool false, .bool false] 107)).alloc (.cells #[.bool false, .bool false, .bool false, .bool false, .bool false, .bool false] 107)
    have R0 := Row.new (w.alloc (.cells (exL x).toArray 25)) [.bool false, .bool false, .bool false, .bool false, .bool false, .bool false] 107
    have R1 := R0.alloc (.cells #[.bool false, .bool false, .bool false, .bool false, .bool false, .bool false] 107)
    have A1 := Row.new ((w.alloc (.cells (exL x).toArray 25)).alloc (.cells #[.bool false, .bool false, .bool false, .bool false, .bool false, .bool false] 107)) [.bool false, .bool false, .bool false, .bool false, .bool false, .bool false] 107
    rw [World.size_alloc] at R1
    rw [World.size_alloc, World.size_alloc] at A1
    have sz : (((w.alloc (.cells (exL x).toArray 25)).alloc (.cells #[.bool false, .bool false, .bool false, .bool false, .bool false, .bool false] 107)).alloc (.cells #[.bool false, .bool false, .bool false, .bool false, .bool false, .bool false] 107)).heap.size = w.heap.size + 3 := by simp
    have B0 : Below w.heap.size w (((w.alloc (.cells (exL x).toArray 25)).alloc (.cells #[.bool false, .bool false, .bool false, .bool false, .bool false, .bool false] 107)).alloc (.cells #[.bool false, .bool false, .bool false, .bool false, .bool false, .bool false] 107)) := (((Below.refl _ w).alloc (Nat.le_refl _) _).alloc (by simp) _).alloc (by simp; omega) _
    have s1 := hb.size
    refine ⟨(B0.trans (hb.mono (by omega))).alloc (by omega) _, (E1.below hb).alloc _, (R1.below hb).alloc _, (A1.below hb).alloc _, Row.new w1 _ _, by omega⟩
  have HS := Lib.hid S0
  clear S0
  go_enter Tryz.func50, Tryz.ntmps50
  go_wp2_with fail
  refine (fullFields_any _).mono ?_
  rintro e w1 ⟨rfl, hb⟩
  have HC := Lib.hid (HS.out w1 hb)
  obtain ⟨F, hF⟩ : ∃ F, w1.heap.size = F := ⟨_, rfl⟩
  rw [hF] at HC
  clear hb HS
  go_wp2_with fail
  refine (fields_any _ _).mono ?_
  rintro e w2 ⟨rfl, hb⟩
  have HC := Lib.hid (HC.out.next hb)
  clear hb hF
  go_wp2_with fail
  go_loopw [9] (fun i wr => ∃ k : Nat, k ≤ 6 ∧ i = .int .i64 k ∧ Hid (SC w x (starL x k) wr F)) (fun i _ => 6 - (intOf i).toNat)
  case atStart => exact ⟨0, Nat.zero_le _, rfl, HC⟩
  case round =>
    obtain ⟨k, hk, rfl, hc⟩ := hrel
    by_cases hlt : k < 6
    · have d := (hc.out.ex.cell k).trans (exL_at x k hlt)
      have df := (hc.out.full.cell k).trans (fulls6_at k hlt)
      have da := (hc.out.arr.cell k).trans (starL_at x k hlt)
      have dz := hc.out.arr.free k
      have q1 : decide ((k : Int) < 6) = true := by rw [decide_eq_true_iff]; omega
      have q1n : decide (k < 6) = true := by rw [decide_eq_true_iff]; omega
      have i0 : (0 : Int) ≤ (k : Int) := by omega
      have i1 : (k : Int) < 6 := by omega
      have ix := ptr_index w.heap.size k hlt
      have tb : ((x.at k : Int) == (Exp.fl k : Int)) = decide (x.at k = Exp.fl k) := by
        rw [Bool.eq_iff_iff, beq_iff_eq, decide_eq_true_iff]
        omega
      obtain ⟨b, hb⟩ : ∃ b, decide (x.at k = Exp.fl k) = b := ⟨_, rfl⟩
      have HN := Lib.hid (starL_step x k hlt)
      rw [hb] at tb HN
      obtain ⟨A, hA⟩ : ∃ A, x.at k = A := ⟨_, rfl⟩
      obtain ⟨G, hG⟩ : ∃ G, Exp.fl k = G := ⟨_, rfl⟩
      rw [hA] at tb d
      rw [hG] at tb df
      clear hA hG hb
      have far := hc.out.far
      have KE : Hid (∀ v, (wr.setCell ⟨w.heap.size + 1 + 1, k, none⟩ v).cell? ⟨w.heap.size, k, none⟩ = some (.int .u64 A) ∧ (wr.setCell ⟨w.heap.size + 1 + 1, k, none⟩ v).cell? ⟨F, k, none⟩ = some (.int .u64 G)) := Lib.hid (fun v => ⟨by
        rw [World.cell?_setCell_other _ _ _ _ (by intro e; have := congrArg Addr.block e; simp only at this; omega)]
        exact d, by
        rw [World.cell?_setCell_other _ _ _ _ (by intro e; have := congrArg Addr.block e; simp only at this; omega)]
        exact df⟩)
      have HS := Lib.hid (hc.out.set k (.bool b))
      rw [HN.out] at HS
      go_wp2_with fail
      go_region_held3 (fun w' => w'.cell? ⟨w.heap.size, k, none⟩ = some (.int .u64 A) ∧ w'.cell? ⟨F, k, none⟩ = some (.int .u64 G)) (first | exact KE.out _ | go_keep) (fail)
      go_wp2_with fail
      go_roundw
      case rel => exact ⟨k + 1, by omega, by go_num, Lib.hid (HS.out.next ((Below.refl _ _).drew))⟩
      case measure => simp [intOf]; omega
    · obtain rfl : k = 6 := by omega
      have far := hc.out.far
      have e6 := hc.out.ex.cell 6
      have e7 := hc.out.ex.cell 7
      simp only [exL, List.getElem?_cons_zero, List.getElem?_cons_succ] at e6 e7
      have a3 := hc.out.arr.cell 3
      have a5 := hc.out.arr.cell 5
      have z3 := hc.out.arr.free 3
      have z5 := hc.out.arr.free 5
      replace a3 := a3.trans (show (starL x 6)[3]? = some (.bool (decide (x.at 3 = Exp.fl 3))) from rfl)
      replace a5 := a5.trans (show (starL x 6)[5]? = some (.bool (decide (x.at 5 = Exp.fl 5))) from rfl)
      have HC2 := Lib.hid ((hc.out.set 3 (.bool x.b3)).set 5 (.bool x.b5))
      rw [starL_all] at HC2
      have KE : Hid (∀ v, (wr.setCell ⟨w.heap.size + 1 + 1, 3, none⟩ v).cell? ⟨w.heap.size, 6, none⟩ = some (.bool x.b3) ∧ (wr.setCell ⟨w.heap.size + 1 + 1, 3, none⟩ v).cell? ⟨w.heap.size, 7, none⟩ = some (.bool x.b5)) := Lib.hid (fun v => ⟨by
        rw [World.cell?_setCell_other _ _ _ _ (by intro e; have := congrArg Addr.block e; simp only at this; omega)]
        exact e6, by
        rw [World.cell?_setCell_other _ _ _ _ (by intro e; have := congrArg Addr.block e; simp only at this; omega)]
        exact e7⟩)
      have KF : Hid (∀ v v', ((wr.setCell ⟨w.heap.size + 1 + 1, 3, none⟩ v).setCell ⟨w.heap.size + 1 + 1, 5, none⟩ v').cell? ⟨w.heap.size, 6, none⟩ = some (.bool x.b3) ∧ ((wr.setCell ⟨w.heap.size + 1 + 1, 3, none⟩ v).setCell ⟨w.heap.size + 1 + 1, 5, none⟩ v').cell? ⟨w.heap.size, 7, none⟩ = some (.bool x.b5)) := Lib.hid (fun v v' => ⟨by
        rw [World.cell?_setCell_other _ _ _ _ (by intro e; have := congrArg Addr.block e; simp only at this; omega)]
        exact (KE.out v).1, by
        rw [World.cell?_setCell_other _ _ _ _ (by intro e; have := congrArg Addr.block e; simp only at this; omega)]
        exact (KE.out v).2⟩)
      go_wp2_with fail
      go_region_held3 (fun w' => w'.cell? ⟨w.heap.size, 6, none⟩ = some (.bool x.b3) ∧ w'.cell? ⟨w.heap.size, 7, none⟩ = some (.bool x.b5)) (first | exact KE.out _ | exact KF.out _ _ | go_keep) (fail)
      have HC3 := HC2.out.next ((Below.refl _ _).drew)
      obtain ⟨W5, hW5⟩ : ∃ W5, ((wr.setCell ⟨w.heap.size + 1 + 1, 3, none⟩ (.bool x.b3)).setCell ⟨w.heap.size + 1 + 1, 5, none⟩ (.bool x.b5)).drew = W5 := ⟨_, rfl⟩
      rw [hW5] at HC3 ⊢
      have c0 := HC3.arr.cell 0; have c1 := HC3.arr.cell 1; have c2 := HC3.arr.cell 2; have c3 := HC3.arr.cell 3; have c4 := HC3.arr.cell 4; have c5 := HC3.arr.cell 5
      have n0 := HC3.res.cell 0; have n1 := HC3.res.cell 1; have n2 := HC3.res.cell 2; have n3 := HC3.res.cell 3; have n4 := HC3.res.cell 4; have n5 := HC3.res.cell 5
      have f0 := HC3.res.free 0; have f1 := HC3.res.free 1; have f2 := HC3.res.free 2; have f3 := HC3.res.free 3; have f4 := HC3.res.free 4; have f5 := HC3.res.free 5
      simp only [List.getElem?_cons_zero, List.getElem?_cons_succ] at c0 c1 c2 c3 c4 c5 n0 n1 n2 n3 n4 n5
      have HB := Lib.hid HC3.below
      clear HC3 HC2 hW5 e6 e7 a3 a5 z3 z5 hc KE KF
      go_wp2_with fail
      refine bodyPost_ret (v := .agg #[.bool (x.star 0), .bool (x.star 1), .bool (x.star 2), .bool (x.star 3), .bool (x.star 4), .bool (x.star 5)]) (by simp [results, Tryz.results50, go_sem, n0, n1, n2, n3, n4, n5]) rfl ⟨rfl, ?_⟩
      have b := HB.out
      repeat' refine bel_cell ?_ (by omega) _ _
      exact b
end Go.Proofs.YtpnfifhanmpapaaGreatDoor
/- Contract of read of package expr: the expression of six words, or the error of the first one that is wrong. -/
namespace Go.Proofs.YtpnfifhanmpapaaGreatDoor
open Go.ChangeShapes Go.WideShapes Go.RowKit Go.Shelf

/-- words in memory -/
def IsWds (W : World) (v : Value) (ws : List (Nat × List UInt8)) : Prop := ∃ g cap, v = .slice (some ⟨g, 0, none⟩) ws.length cap ∧ ws.length ≤ cap ∧ g < W.heap.size ∧
  ∀ k, k < ws.length → W.cell? ⟨g, k * 2, none⟩ = some (.int .i64 ((Exp.wAt ws k).1 : Nat)) ∧ W.cell? ⟨g, k * 2 + 1, none⟩ = some (.string ⟨(Exp.wAt ws k).2.toArray⟩)
theorem IsWds.below {W W' : World} {v : Value} {ws : List (Nat × List UInt8)} (h : IsWds W v ws) (hb : Below W.heap.size W W') : IsWds W' v ws := by
  obtain ⟨g, cap, e, hc, hg, hs⟩ := h
  refine ⟨g, cap, e, hc, Nat.lt_of_lt_of_le hg hb.size, fun k hk => ?_⟩
  obtain ⟨a, b⟩ := hs k hk
  exact ⟨(hb.cell (p := ⟨g, k * 2, none⟩) hg).trans a, (hb.cell (p := ⟨g, k * 2 + 1, none⟩) hg).trans b⟩
/-- the cells of the expression and of the stars, behind k words -/
def xsL (ws : List (Nat × List UInt8)) (k : Nat) : List Value := [.int .u64 (if 0 < k then Exp.setAt ws 0 else 0 : Nat), .int .u64 (if 1 < k then Exp.setAt ws 1 else 0 : Nat), .int .u64 (if 2 < k then Exp.setAt ws 2 else 0 : Nat), .int .u64 (if 3 < k then Exp.setAt ws 3 else 0 : Nat), .int .u64 (if 4 < k then Exp.setAt ws 4 else 0 : Nat), .int .u64 (if 5 < k then Exp.setAt ws 5 else 0 : Nat), .bool false, .bool false]
def stL (ws : List (Nat × List UInt8)) (k : Nat) : List Value := [.bool (if 0 < k then Exp.starAt ws 0 else false), .bool (if 1 < k then Exp.starAt ws 1 else false), .bool (if 2 < k then Exp.starAt ws 2 else false), .bool (if 3 < k then Exp.starAt ws 3 else false), .bool (if 4 < k then Exp.starAt ws 4 else false), .bool (if 5 < k then Exp.starAt ws 5 else false)]
theorem xsL_step (ws : List (Nat × List UInt8)) (k : Nat) (h : k < 6) : (xsL ws k).set k (.int .u64 (Exp.setAt ws k : Nat)) = xsL ws (k + 1) :=
  six_cases h (P := fun k => (xsL ws k).set k (.int .u64 (Exp.setAt ws k : Nat)) = xsL ws (k + 1)) rfl rfl rfl rfl rfl rfl
theorem stL_step (ws : List (Nat × List UInt8)) (k : Nat) (h : k < 6) : (stL ws k).set k (.bool (Exp.starAt ws k)) = stL ws (k + 1) :=
  six_cases h (P := fun k => (stL ws k).set k (.bool (Exp.starAt ws k)) = stL ws (k + 1)) rfl rfl rfl rfl rfl rfl
theorem xsL_at (ws : List (Nat × List UInt8)) (k : Nat) (h : k < 6) : (xsL ws k)[k]? = some (.int .u64 0) :=
  six_cases h (P := fun k => (xsL ws k)[k]? = some (.int .u64 0)) rfl rfl rfl rfl rfl rfl
theorem stL_at (ws : List (Nat × List UInt8)) (k : Nat) (h : k < 6) : (stL ws k)[k]? = some (.bool false) :=
  six_cases h (P := fun k => (stL ws k)[k]? = some (.bool false)) rfl rfl rfl rfl rfl rfl
theorem xsL_all (ws : List (Nat × List UInt8)) : ((xsL ws 6).set 6 (.bool (Exp.starAt ws 3))).set 7 (.bool (Exp.starAt ws 5)) = exL (Exp.exOf ws) := rfl
def zeroL : List Value := exL Exp.zero
/-- the world in read's loop: the result's block, the expression's, the stars', the fields' places (B), the six kinds (from C on), the words -/
structure RL (w : World) (ws : List (Nat × List UInt8)) (k B C : Nat) (v : Value) (W : World) : Prop where
  below : Below w.heap.size w W
  res : Row W w.heap.size 25 zeroL
  ex : Row W (w.heap.size + 1) 25 (xsL ws k)
  st : Row W (w.heap.size + 1 + 1) 107 (stL ws k)
  pt : Row W B 104 (ptrL (w.heap.size + 1))
  six : Six W C
  wd : IsWds w v ws
  fb : w.heap.size + 1 + 1 < B
  fc : w.heap.size + 1 + 1 < C
theorem RL.next {w W W' : World} {ws : List (Nat × List UInt8)} {k B C : Nat} {v : Value} (h : RL w ws k B C v W) (hb : Below W.heap.size W W') : RL w ws k B C v W' :=
  ⟨h.below.trans (hb.mono h.below.size), h.res.below hb, h.ex.below hb, h.st.below hb, h.pt.below hb, h.six.below hb, h.wd, h.fb, h.fc⟩
theorem RL.set {w W : World} {ws : List (Nat × List UInt8)} {k B C : Nat} {v : Value} (h : RL w ws k B C v W) (hk : k < 6) : RL w ws (k + 1) B C v ((W.setCell ⟨w.heap.size + 1, k, none⟩ (.int .u64 (Exp.setAt ws k : Nat))).setCell ⟨w.heap.size + 1 + 1, k, none⟩ (.bool (Exp.starAt ws k))) := by
  have := h.fb
  have := h.fc
  refine ⟨bel_cell (bel_cell h.below (by omega) _ _) (by omega) _ _, (h.res.other _ _ (by show w.heap.size ≠ w.heap.size + 1; omega)).other _ _ (by show w.heap.size ≠ w.heap.size + 1 + 1; omega), ?_, ?_, (h.pt.other _ _ (by show B ≠ w.heap.size + 1; omega)).other _ _ (by show B ≠ w.heap.size + 1 + 1; omega), ?_, h.wd, h.fb, h.fc⟩
  · rw [← xsL_step ws k hk]
    exact (h.ex.set k _).other _ _ (by show w.heap.size + 1 ≠ w.heap.size + 1 + 1; omega)
  · rw [← stL_step ws k hk]
    exact (h.st.other _ _ (by show w.heap.size + 1 + 1 ≠ w.heap.size + 1; omega)).set k _
  · have mv : ∀ b, w.heap.size + 1 + 1 < b → ((W.setCell ⟨w.heap.size + 1, k, none⟩ (.int .u64 (Exp.setAt ws k : Nat))).setCell ⟨w.heap.size + 1 + 1, k, none⟩ (.bool (Exp.starAt ws k))).heap[b]? = W.heap[b]? := fun b hb =>
      (Below.heap_setCell _ _ _ _ (by show b ≠ w.heap.size + 1 + 1; omega)).trans (Below.heap_setCell _ _ _ _ (by show b ≠ w.heap.size + 1; omega))
    exact ⟨(mv _ (by omega)).trans h.six.months, (mv _ (by omega)).trans h.six.days, (mv _ (by omega)).trans h.six.kinds⟩
/-- .. and a kind in block p -/
structure RK (w : World) (ws : List (Nat × List UInt8)) (k B C p : Nat) (v u : Value) (W : World) : Prop where
  rl : RL w ws k B C v W
  kd : Row W p 75 [.int .i64 (kd6 k).lo, .int .i64 (kd6 k).hi, u, .bool (kd6 k).week]
  sk : IsStrs W u (xs6 k)
theorem RK.next {w W W' : World} {ws : List (Nat × List UInt8)} {k B C p : Nat} {v u : Value} (h : RK w ws k B C p v u W) (hb : Below W.heap.size W W') : RK w ws k B C p v u W' := ⟨h.rl.next hb, h.kd.below hb, h.sk.below hb⟩
theorem RK.drew {w W : World} {ws : List (Nat × List UInt8)} {k B C p : Nat} {v u : Value} (h : RK w ws k B C p v u W) : RK w ws k B C p v u W.drew := h.next (Below.refl _ _).drew
theorem RK.parse {w W : World} {ws : List (Nat × List UInt8)} {k B C p : Nat} {v u : Value} (h : RK w ws k B C p v u W) (hk : k < 6) (t : ByteArray) (ht : t.data.toList = (Exp.wAt ws k).2) (hs : t.size ≤ 1000000) (S a e : Nat) (b : Bool) (hp : Exp.fp k (Exp.wAt ws k).2 = (S, b, a, e)) :
    Calls Tryz.prog 37 #[.agg #[.int .i64 (kd6 k).lo, .int .i64 (kd6 k).hi, u, .bool (kd6 k).week], .string t] W fun r W' => r = .returned (.tuple #[.int .u64 S, .bool b, .int .i64 a, .int .i64 e]) ∧ RK w ws k B C p v u W' := by
  have c := parse_yes (kd6 k) u (xs6 k) t W h.sk (kd6_is k hk) (by omega)
  unfold Exp.fp at hp
  rw [ht, hp] at c
  exact c.mono fun _ _ ⟨h1, h2⟩ => ⟨h1, h.next h2⟩
/-- the cells of a kind and of a word -/
theorem RK.cells {w W : World} {ws : List (Nat × List UInt8)} {k B C p g cap : Nat} {u : Value} (h : RK w ws k B C p (.slice (some ⟨g, 0, none⟩) 6 cap) u W) (hk : k < 6) (hl : ws.length = 6) :
    W.cell? ⟨p, 0, none⟩ = some (.int .i64 (kd6 k).lo) ∧ W.cell? ⟨p, 1, none⟩ = some (.int .i64 (kd6 k).hi) ∧ W.cell? ⟨p, 2, none⟩ = some u ∧ W.cell? ⟨p, 3, none⟩ = some (.bool (kd6 k).week) ∧ W.cell? ⟨g, k * 2, none⟩ = some (.int .i64 ((Exp.wAt ws k).1 : Nat)) ∧ W.cell? ⟨g, k * 2 + 1, none⟩ = some (.string ⟨(Exp.wAt ws k).2.toArray⟩) := by
  obtain ⟨g', cap', e, _, hg, hs⟩ := h.rl.wd
  simp only [Value.slice.injEq, Option.some.injEq, Addr.mk.injEq] at e
  obtain ⟨⟨rfl, _⟩, _, _⟩ := e
  obtain ⟨a, b⟩ := hs k (by omega)
  exact ⟨h.kd.cell 0, h.kd.cell 1, h.kd.cell 2, h.kd.cell 3, (h.rl.below.cell (p := ⟨g, k * 2, none⟩) hg).trans a, (h.rl.below.cell (p := ⟨g, k * 2 + 1, none⟩) hg).trans b⟩

set_option maxRecDepth 100000 in
set_option maxHeartbeats 4000000 in
theorem read_any (ws : List (Nat × List UInt8)) (hl : ws.length = 6) (hb6 : ∀ i, i < 6 → (Exp.wAt ws i).1 + (Exp.wAt ws i).2.length ≤ 1000000) (v : Value) (w : World) (hv : IsWds w v ws) (x : Exp.Ex) (a e : Nat) (hr : Exp.read ws = (x, a, e)) :
    Calls Tryz.prog 42 #[v] w fun r w' => r = .returned (.tuple #[.agg #[.int .u64 x.a0, .int .u64 x.a1, .int .u64 x.a2, .int .u64 x.a3, .int .u64 x.a4, .int .u64 x.a5, .bool x.b3, .bool x.b5], .int .i64 a, .int .i64 e]) ∧ Below w.heap.size w w' := by
  have HV := Lib.hid hv
  have HR := Lib.hid hr
  have HB6 := Lib.hid hb6
  have hl6 := Lib.hid hl
  obtain ⟨g, cap, rfl, hcap, _, _⟩ := hv
  rw [hl] at hcap HV ⊢
  have S0 : ∀ w1 : World, Below (((w.alloc (.cells #[.int .u64 0, .int .u64 0, .int .u64 0, .int .u64 0, .int .u64 0, .int .u64 0, .bool false, .bool false] 25)).alloc (.cells #[.int .u64 0, .int .u64 0, .int .u64 0, .int .u64 0, .int .u64 0, .int .u64 0, .bool false, .bool false] 25)).alloc (.cells #[.bool false, .bool false, .bool false, .bool false, .bool false, .bool false] 107)).heap.size (((w.alloc (.cells #[.int .u64 0, .int .u64 0, .int .u64 0, .int .u64 0, .int .u64 0, .int .u64 0, .bool false, .bool false] 25)).alloc (.cells #[.int .u64 0, .int .u64 0, .int .u64 0, .int .u64 0, .int .u64 0, .int .u64 0, .bool false, .bool false] 25)).alloc (.cells #[.bool false, .bool false, .bool false, .bool false, .bool false, .bool false] 107)) w1 →
      Below w.heap.size w w1 ∧ Row w1 w.heap.size 25 zeroL ∧ Row w1 (w.heap.size + 1) 25 (xsL ws 0) ∧ Row w1 (w.heap.size + 1 + 1) 107 (stL ws 0) ∧ w.heap.size + 1 + 1 < w1.heap.size := by
    intro w1 hb
    have E0 : Row (w.alloc (.cells zeroL.toArray 25)) w.heap.size 25 zeroL := Row.new w _ _
    have E1 := (E0.alloc (.cells #[.int .u64 0, .int .u64 0, .int .u64 0, .int .u64 0, .int .u64 0, .int .u64 0, .bool false, .bool false] 25)).alloc (.cells #[.bool false, .bool false, .bool false, .bool false, .bool false, .bool false] 107)
    have R0 := Row.new (w.alloc (.cells #[.int .u64 0, .int .u64 0, .int .u64 0, .int .u64 0, .int .u64 0, .int .u64 0, .bool false, .bool false] 25)) (xsL ws 0) 25
    have R1 := R0.alloc (.cells #[.bool false, .bool false, .bool false, .bool false, .bool false, .bool false] 107)
    have A1 := Row.new ((w.alloc (.cells #[.int .u64 0, .int .u64 0, .int .u64 0, .int .u64 0, .int .u64 0, .int .u64 0, .bool false, .bool false] 25)).alloc (.cells #[.int .u64 0, .int .u64 0, .int .u64 0, .int .u64 0, .int .u64 0, .int .u64 0, .bool false, .bool false] 25)) (stL ws 0) 107
    rw [World.size_alloc] at R1
    rw [World.size_alloc, World.size_alloc] at A1
    have B0 : Below w.heap.size w (((w.alloc (.cells #[.int .u64 0, .int .u64 0, .int .u64 0, .int .u64 0, .int .u64 0, .int .u64 0, .bool false, .bool false] 25)).alloc (.cells #[.int .u64 0, .int .u64 0, .int .u64 0, .int .u64 0, .int .u64 0, .int .u64 0, .bool false, .bool false] 25)).alloc (.cells #[.bool false, .bool false, .bool false, .bool false, .bool false, .bool false] 107)) := (((Below.refl _ w).alloc (Nat.le_refl _) _).alloc (by simp) _).alloc (by simp; omega) _
    have sz := hb.size
    simp only [World.size_alloc] at sz
    exact ⟨B0.trans (hb.mono (by simp; omega)), E1.below hb, R1.below hb, A1.below hb, by omega⟩
  have HS := Lib.hid S0
  clear S0 hb6 hr
  go_enter Tryz.func42, Tryz.ntmps42
  go_wp2_with fail
  refine (fields_any _ _).mono ?_
  rintro e' w1 ⟨rfl, hb⟩
  obtain ⟨q1, q2, q3, q4, q5⟩ := HS.out w1 hb
  have pt := Row.new w1 (ptrL (w.heap.size + 1)) 104
  have bw : Below w1.heap.size w1 (w1.alloc (.cells (ptrL (w.heap.size + 1)).toArray 104)) := (Below.refl _ _).alloc (Nat.le_refl _) _
  have HQ := Lib.hid (And.intro (q1.trans (bw.mono q1.size)) (And.intro (q2.below bw) (And.intro (q3.below bw) (And.intro (q4.below bw) (And.intro pt q5)))))
  obtain ⟨B, hB⟩ : ∃ B, w1.heap.size = B := ⟨_, rfl⟩
  rw [hB] at HQ
  clear hb HS q1 q2 q3 q4 q5 pt bw
  go_wp2_with fail
  refine (specs_any _).mono ?_
  rintro e' w2 ⟨rfl, hb, h6⟩
  obtain ⟨q1, q2, q3, q4, q5, q6⟩ := HQ.out
  have R0 : RL w ws 0 B (B + 1) (.slice (some ⟨g, 0, none⟩) 6 cap) w2 := ⟨q1.trans (hb.mono q1.size), q2.below hb, q3.below hb, q4.below hb, q5.below hb, by simpa [hB] using h6, HV.out, q6, by omega⟩
  have HP := Lib.hid R0
  obtain ⟨C, hC⟩ : ∃ C, B + 1 = C := ⟨_, rfl⟩
  rw [hC] at HP
  clear hb h6 HQ q1 q2 q3 q4 q5 q6 R0
  go_wp2_with fail
  go_loopw [17] (fun i wr => ∃ k : Nat, k ≤ 6 ∧ i = .int .i64 k ∧ Hid (RL w ws k B C (.slice (some ⟨g, 0, none⟩) 6 cap) wr) ∧ Hid (∀ j, j < k → Exp.errAt ws j = 0)) (fun i _ => 6 - (intOf i).toNat)
  case atStart => exact ⟨0, Nat.zero_le _, rfl, HP, Lib.hid (fun j h => by omega)⟩
  case round =>
    obtain ⟨k, hk, rfl, hc, he⟩ := hrel
    by_cases hlt : k < 6
    · obtain ⟨c0, c1, c2, c3⟩ := hc.out.six.at_ k hlt
      have SK := Lib.hid (hc.out.six.strs k hlt)
      obtain ⟨A', L', C', e1, _⟩ := na6_slice C k hlt
      rw [e1] at c2 SK
      have q1 : decide ((k : Int) < 6) = true := by rw [decide_eq_true_iff]; omega
      have q1n : decide (k < 6) = true := by rw [decide_eq_true_iff]; omega
      have i0 : (0 : Int) ≤ (k : Int) := by omega
      have i1 : (k : Int) < 6 := by omega
      have bp : Below wr.heap.size wr (wr.alloc (.cells #[.int .i64 (kd6 k).lo, .int .i64 (kd6 k).hi, .slice A' L' C', .bool (kd6 k).week] 75)) := (Below.refl _ _).alloc (Nat.le_refl _) _
      have RK0 : RK w ws k B C wr.heap.size (.slice (some ⟨g, 0, none⟩) 6 cap) (.slice A' L' C') (wr.alloc (.cells #[.int .i64 (kd6 k).lo, .int .i64 (kd6 k).hi, .slice A' L' C', .bool (kd6 k).week] 75)) :=
        ⟨hc.out.next bp, Row.new wr [.int .i64 (kd6 k).lo, .int .i64 (kd6 k).hi, .slice A' L' C', .bool (kd6 k).week] _, SK.out.below bp⟩
      obtain ⟨p, hp⟩ : ∃ p, wr.heap.size = p := ⟨_, rfl⟩
      rw [hp] at RK0
      have Q := Lib.hid RK0
      obtain ⟨t, ht⟩ : ∃ t : ByteArray, (⟨(Exp.wAt ws k).2.toArray⟩ : ByteArray) = t := ⟨_, rfl⟩
      have ht2 : t.data.toList = (Exp.wAt ws k).2 := by rw [← ht]
      have hts : t.size ≤ 1000000 := by have := HB6.out k hlt; rw [Lib.size_eq, ht2]; omega
      obtain ⟨n, hn⟩ : ∃ n, (Exp.wAt ws k).1 = n := ⟨_, rfl⟩
      have hns : n ≤ 1000000 := by have := HB6.out k hlt; omega
      obtain ⟨⟨S, b, pl, er⟩, hfp⟩ : ∃ r, Exp.fp k (Exp.wAt ws k).2 = r := ⟨_, rfl⟩
      have hset : Exp.setAt ws k = S := by unfold Exp.setAt; rw [hfp]
      have hstar : Exp.starAt ws k = b := by unfold Exp.starAt; rw [hfp]
      have herr : Exp.errAt ws k = er := by unfold Exp.errAt; rw [hfp]
      have hpl : Exp.placeAt ws k = n + pl := by unfold Exp.placeAt; rw [hfp, hn]
      have plt : er ≠ 0 → pl ≤ 1000000 := fun h => by
        have q := Fld.parse_bad (K := kd6 k) (Exp.wAt ws k).2 (by unfold Exp.fp at hfp; rw [hfp]; exact h)
        have q := q.2.2.1
        unfold Exp.fp at hfp
        rw [hfp] at q
        have := HB6.out k hlt
        simp only at q
        omega
      have PA' := Lib.hid (fun (W : World) (h : RK w ws k B C p (.slice (some ⟨g, 0, none⟩) 6 cap) (.slice A' L' C') W) => h.parse hlt t ht2 hts S pl er b hfp)
      have HSET := Lib.hid hset
      have HSTAR := Lib.hid hstar
      have HERR := Lib.hid herr
      have HPL := Lib.hid hpl
      have HCE := Lib.hid (fun (W : World) (h : RK w ws k B C p (.slice (some ⟨g, 0, none⟩) 6 cap) (.slice A' L' C') W) => (by
        have q := h.cells hlt hl6.out
        rw [hn, ht] at q
        exact q : W.cell? ⟨p, 0, none⟩ = some (.int .i64 (kd6 k).lo) ∧ W.cell? ⟨p, 1, none⟩ = some (.int .i64 (kd6 k).hi) ∧ W.cell? ⟨p, 2, none⟩ = some (.slice A' L' C') ∧ W.cell? ⟨p, 3, none⟩ = some (.bool (kd6 k).week) ∧ W.cell? ⟨g, k * 2, none⟩ = some (.int .i64 n) ∧ W.cell? ⟨g, k * 2 + 1, none⟩ = some (.string t)))
      clear e1 SK bp ht ht2 hn hfp hset hstar herr hpl
      go_wp2_with fail
      obtain ⟨W3, hW3⟩ : ∃ W3, wr.alloc (.cells #[.int .i64 (kd6 k).lo, .int .i64 (kd6 k).hi, .slice A' L' C', .bool (kd6 k).week] 75) = W3 := ⟨_, rfl⟩
      rw [hW3] at Q RK0 ⊢
      obtain ⟨k0, k1, k2, k3, k4, k5⟩ := HCE.out _ RK0
      clear RK0 hW3 hp c0 c1 c2 c3 hc
      go_region_held3 (fun w' => w'.cell? ⟨p, 0, none⟩ = some (.int .i64 (kd6 k).lo) ∧ w'.cell? ⟨p, 1, none⟩ = some (.int .i64 (kd6 k).hi) ∧ w'.cell? ⟨p, 2, none⟩ = some (.slice A' L' C') ∧ w'.cell? ⟨p, 3, none⟩ = some (.bool (kd6 k).week) ∧ w'.cell? ⟨g, k * 2 + 1, none⟩ = some (.string t)) (go_keep)
        ((go_at_call 37; refine (PA'.out _ (by first | exact Q.out | exact Q.out.drew)).mono ?_; rintro e20 w20 ⟨rfl, q'⟩; have Q := Lib.hid q'; obtain ⟨k0, k1, k2, k3, k4, k5⟩ := HCE.out _ q'; clear q'))
      have hq := Q.out.rl
      by_cases er0 : er = 0
      · subst er0
        have b0 := (hq.pt.cell k).trans (ptrL_at (w.heap.size + 1) k hlt)
        have b1 := (hq.ex.cell k).trans (xsL_at ws k hlt)
        have b2 := (hq.st.cell k).trans (stL_at ws k hlt)
        have z1 := hq.ex.free k
        have z2 := hq.st.free k
        have HN := Lib.hid (hq.set hlt)
        rw [HSET.out, HSTAR.out] at HN
        have HE : Hid (∀ j, j < k + 1 → Exp.errAt ws j = 0) := Lib.hid (fun j hj => by
          rcases Nat.lt_or_ge j k with h | h
          · exact he.out j h
          · obtain rfl : j = k := by omega
            exact HERR.out)
        clear k0 k1 k2 k3 k4 k5 hq he
        go_wp2_with fail
        go_roundw
        case rel => exact ⟨k + 1, by omega, by go_num, HN, HE⟩
        case measure => simp [intOf]; omega
      · have t1 : ((er : Int) != 0) = true := by rw [bne_iff_ne]; omega
        have t2 : (er != 0) = true := by rw [bne_iff_ne]; omega
        have hbad := Exp.read_bad hlt (by rw [HERR.out]; exact er0) he.out
        rw [HR.out, HPL.out, HERR.out] at hbad
        have pl6 := plt er0
        have ws1 : IntKind.i64.wrap ((n : Int) + (pl : Int)) = (n : Int) + (pl : Int) := by rw [IntKind.wrap_i64]; omega
        have n0 := hq.res.cell 0; have n1 := hq.res.cell 1; have n2 := hq.res.cell 2; have n3 := hq.res.cell 3; have n4 := hq.res.cell 4; have n5 := hq.res.cell 5; have n6 := hq.res.cell 6; have n7 := hq.res.cell 7
        have f0 := hq.res.free 0; have f1 := hq.res.free 1; have f2 := hq.res.free 2; have f3 := hq.res.free 3; have f4 := hq.res.free 4; have f5 := hq.res.free 5; have f6 := hq.res.free 6; have f7 := hq.res.free 7
        simp only [zeroL, exL, List.getElem?_cons_zero, List.getElem?_cons_succ] at n0 n1 n2 n3 n4 n5 n6 n7
        have BW := Lib.hid hq.below
        have HBAD := Lib.hid hbad
        have gw : g ≠ w.heap.size := by
          obtain ⟨g', cap', e1, _, hg, _⟩ := HV.out
          simp only [Value.slice.injEq, Option.some.injEq, Addr.mk.injEq] at e1
          omega
        have KE : Hid (∀ v0 v1 v2 v3 v4 v5 v6 v7, ((((((((w20.setCell ⟨w.heap.size, 0, none⟩ v0).setCell ⟨w.heap.size, 1, none⟩ v1).setCell ⟨w.heap.size, 2, none⟩ v2).setCell ⟨w.heap.size, 3, none⟩ v3).setCell ⟨w.heap.size, 4, none⟩ v4).setCell ⟨w.heap.size, 5, none⟩ v5).setCell ⟨w.heap.size, 6, none⟩ v6).setCell ⟨w.heap.size, 7, none⟩ v7).cell? ⟨g, k * 2, none⟩ = some (.int .i64 n)) := Lib.hid (fun v0 v1 v2 v3 v4 v5 v6 v7 => ((set8_grown w20 w.heap.size v0 v1 v2 v3 v4 v5 v6 v7).cell (a := ⟨g, k * 2, none⟩) k4 (fun e => gw (by cases e; rfl))))
        have gw2 : w.heap.size ≠ g := fun e => gw e.symm
        clear k0 k1 k2 k3 k5 hq he hbad plt er0
        go_wp2_with fail
        go_region_held3 (fun w' => w'.cell? ⟨g, k * 2, none⟩ = some (.int .i64 n)) (first | (go_keep; done) | exact KE.out _ _ _ _ _ _ _ _) (fail)
        go_wp2_with fail
        have hb := HBAD.out
        simp only [Prod.mk.injEq] at hb
        obtain ⟨rfl, rfl, rfl⟩ := hb
        refine bodyPost_ret (v := .tuple #[.agg #[.int .u64 0, .int .u64 0, .int .u64 0, .int .u64 0, .int .u64 0, .int .u64 0, .bool false, .bool false], .int .i64 ((n : Int) + pl), .int .i64 e]) (by simp [results, Tryz.results42, go_sem, n0, n1, n2, n3, n4, n5, n6, n7]) rfl ⟨rfl, ?_⟩
        have b := BW.out
        refine Below.drew ?_
        repeat' refine bel_cell ?_ (by omega) _ _
        exact b
    · obtain rfl : k = 6 := by omega
      have hq := hc.out
      have HOK := Lib.hid (Exp.read_ok he.out)
      rw [HR.out] at HOK
      have s3 := (hq.st.cell 3).trans (show (stL ws 6)[3]? = some (.bool (Exp.starAt ws 3)) from rfl)
      have s5 := (hq.st.cell 5).trans (show (stL ws 6)[5]? = some (.bool (Exp.starAt ws 5)) from rfl)
      have x6 := (hq.ex.cell 6).trans (show (xsL ws 6)[6]? = some (.bool false) from rfl)
      have x7 := (hq.ex.cell 7).trans (show (xsL ws 6)[7]? = some (.bool false) from rfl)
      have z6 := hq.ex.free 6
      have z7 := hq.ex.free 7
      have fb := hq.fb
      have XE := (hq.ex.set 6 (.bool (Exp.starAt ws 3))).set 7 (.bool (Exp.starAt ws 5))
      rw [xsL_all] at XE
      have XR := (hq.res.other ⟨w.heap.size + 1, 6, none⟩ (.bool (Exp.starAt ws 3)) (by show w.heap.size ≠ w.heap.size + 1; omega)).other ⟨w.heap.size + 1, 7, none⟩ (.bool (Exp.starAt ws 5)) (by show w.heap.size ≠ w.heap.size + 1; omega)
      have BW := bel_cell (bel_cell hq.below (show w.heap.size ≤ w.heap.size + 1 by omega) 6 (.bool (Exp.starAt ws 3))) (show w.heap.size ≤ w.heap.size + 1 by omega) 7 (.bool (Exp.starAt ws 5))
      have ST := (hq.st.other ⟨w.heap.size + 1, 6, none⟩ (.bool (Exp.starAt ws 3)) (by show w.heap.size + 1 + 1 ≠ w.heap.size + 1; omega))
      have ST2 := ST.other ⟨w.heap.size + 1, 7, none⟩ (.bool (Exp.starAt ws 5)) (by show w.heap.size + 1 + 1 ≠ w.heap.size + 1; omega)
      have KE := Lib.hid (And.intro ((ST.cell 3).trans (show (stL ws 6)[3]? = some (.bool (Exp.starAt ws 3)) from rfl)) ((ST.cell 5).trans (show (stL ws 6)[5]? = some (.bool (Exp.starAt ws 5)) from rfl)))
      have KF := Lib.hid (And.intro ((ST2.cell 3).trans (show (stL ws 6)[3]? = some (.bool (Exp.starAt ws 3)) from rfl)) ((ST2.cell 5).trans (show (stL ws 6)[5]? = some (.bool (Exp.starAt ws 5)) from rfl)))
      have HXE := Lib.hid XE
      have HXR := Lib.hid XR
      have HBW := Lib.hid BW
      clear XE XR BW ST ST2 hq
      go_wp2_with fail
      go_region_held3 (fun w' => w'.cell? ⟨w.heap.size + 1 + 1, 3, none⟩ = some (.bool (Exp.starAt ws 3)) ∧ w'.cell? ⟨w.heap.size + 1 + 1, 5, none⟩ = some (.bool (Exp.starAt ws 5))) (first | exact KE.out | exact KF.out | go_keep) (fail)
      obtain ⟨W5, hW5⟩ : ∃ W5, ((wr.setCell ⟨w.heap.size + 1, 6, none⟩ (.bool (Exp.starAt ws 3))).setCell ⟨w.heap.size + 1, 7, none⟩ (.bool (Exp.starAt ws 5))) = W5 := ⟨_, rfl⟩
      rw [hW5] at HXE HXR HBW ⊢
      have XE := HXE.out.drew
      have XR := HXR.out.drew
      have BW := Lib.hid (HBW.out.drew)
      obtain ⟨W6, hW6⟩ : ∃ W6, W5.drew = W6 := ⟨_, rfl⟩
      rw [hW6] at XE XR BW ⊢
      have c0 := XE.cell 0; have c1 := XE.cell 1; have c2 := XE.cell 2; have c3 := XE.cell 3; have c4 := XE.cell 4; have c5 := XE.cell 5; have c6 := XE.cell 6; have c7 := XE.cell 7
      have n0 := XR.cell 0; have n1 := XR.cell 1; have n2 := XR.cell 2; have n3 := XR.cell 3; have n4 := XR.cell 4; have n5 := XR.cell 5; have n6 := XR.cell 6; have n7 := XR.cell 7
      have f0 := XR.free 0; have f1 := XR.free 1; have f2 := XR.free 2; have f3 := XR.free 3; have f4 := XR.free 4; have f5 := XR.free 5; have f6 := XR.free 6; have f7 := XR.free 7
      have hb := HOK.out
      simp only [Prod.mk.injEq] at hb
      obtain ⟨rfl, rfl, rfl⟩ := hb
      simp only [zeroL, exL, List.getElem?_cons_zero, List.getElem?_cons_succ] at c0 c1 c2 c3 c4 c5 c6 c7 n0 n1 n2 n3 n4 n5 n6 n7
      clear XE XR hW5 hW6 HXE HXR HBW s3 s5 x6 x7 z6 z7 HR HOK
      go_wp2_with fail
      refine bodyPost_ret (v := .tuple #[.agg #[.int .u64 (Exp.exOf ws).a0, .int .u64 (Exp.exOf ws).a1, .int .u64 (Exp.exOf ws).a2, .int .u64 (Exp.exOf ws).a3, .int .u64 (Exp.exOf ws).a4, .int .u64 (Exp.exOf ws).a5, .bool (Exp.exOf ws).b3, .bool (Exp.exOf ws).b5], .int .i64 0, .int .i64 0]) (by simp [results, Tryz.results42, go_sem, n0, n1, n2, n3, n4, n5, n6, n7]) rfl ⟨rfl, ?_⟩
      have b := BW.out
      repeat' refine bel_cell ?_ (by omega) _ _
      exact b
end Go.Proofs.YtpnfifhanmpapaaGreatDoor
