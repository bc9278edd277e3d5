/- Contract of Check of package expr. -/
import Derived.Test.YtbehendogcghjaaDoorMExpA
namespace Go.Proofs.YtbehendogcghjaaDoor
open Go.ChangeShapes Go.WideShapes Go.RowKit Go.Shelf

namespace Exp
/-- is a field of an expression right? -/
def Ex.good (x : Ex) (i : Nat) : Bool := !(x.at i == 0) && subB (x.at i) (fl i)
/-- do the stars say what is so? -/
def Ex.stars (x : Ex) : Bool := (!x.b3 || x.a3 == fl 3) && (!x.b5 || x.a5 == fl 5)
def Ex.okB (x : Ex) : Bool := (List.range 6).all x.good && x.stars
theorem okB_iff {x : Ex} : x.okB = true ↔ x.Ok := by
  unfold Ex.okB
  rw [Bool.and_eq_true, List.all_eq_true]
  have g : ∀ i, i < 6 → (x.good i = true ↔ x.at i ≠ 0 ∧ Fld.In (kd6 i) (x.at i)) := fun i hi => by
    unfold Ex.good
    rw [Bool.and_eq_true]
    constructor
    · rintro ⟨a, b⟩
      refine ⟨by simpa using a, Fld.in_of_sub (kd_ok hi) ?_⟩
      unfold subB at b
      exact of_decide_eq_true b
    · rintro ⟨a, b⟩
      exact ⟨by simpa using a, Fld.sub_full (kd_ok hi) b⟩
  have s : x.stars = true ↔ (x.b3 = true → x.a3 = fl 3) ∧ (x.b5 = true → x.a5 = fl 5) := by
    unfold Ex.stars
    cases x.b3 <;> cases x.b5 <;> simp
  rw [s]
  constructor
  · rintro ⟨h, d, w⟩
    exact ⟨fun i hi => ((g i hi).1 (h i (by simpa using hi))).1, fun i hi => ((g i hi).1 (h i (by simpa using hi))).2, d, w⟩
  · intro h
    exact ⟨fun i hi => (g i (by simpa using hi)).2 ⟨h.ne i (by simpa using hi), h.inn i (by simpa using hi)⟩, h.d, h.w⟩
theorem okB_bad {x : Ex} {i : Nat} (hi : i < 6) (h : x.good i = false) : x.okB = false := by
  unfold Ex.okB
  rw [Bool.and_eq_false_iff]
  left
  rw [List.all_eq_false]
  exact ⟨i, by simpa using hi, by simp [h]⟩
theorem okB_good {x : Ex} (h : ∀ i, i < 6 → x.good i = true) : x.okB = x.stars := by
  unfold Ex.okB
  have : (List.range 6).all x.good = true := by
    rw [List.all_eq_true]
    exact fun i hi => h i (by simpa using hi)
  rw [this, Bool.true_and]
end Exp
/-- what Check returns -/
def errOk (b : Bool) : Int := if b = true then 0 else 16
/-- the world in Check: the expression's block, that of the full sets -/
structure CC (w : World) (x : Exp.Ex) (W : World) (F : Nat) : Prop where
  below : Below w.heap.size w W
  ex : Row W w.heap.size 24 (exL x)
  full : Row W F 76 (fulls 6)
theorem CC.next {w W W' : World} {x : Exp.Ex} {F : Nat} (h : CC w x W F) (hb : Below W.heap.size W W') : CC w x W' F := ⟨h.below.trans (hb.mono h.below.size), h.ex.below hb, h.full.below hb⟩
theorem fulls6_at (k : Nat) (h : k < 6) : (fulls 6)[k]? = some (.int .u64 (Exp.fl k : Nat)) :=
  six_cases h (P := fun k => (fulls 6)[k]? = some (.int .u64 (Exp.fl k : Nat))) rfl rfl rfl rfl rfl rfl
theorem fl_lt (k : Nat) (h : k < 6) : Exp.fl k < 2 ^ 64 := (six_full k h).2
set_option maxRecDepth 100000 in
set_option maxHeartbeats 4000000 in
theorem check_ex (x : Exp.Ex) (hx : x.Bd) (w : World) :
    Calls Tryd.prog 41 #[.agg #[.int .u64 x.a0, .int .u64 x.a1, .int .u64 x.a2, .int .u64 x.a3, .int .u64 x.a4, .int .u64 x.a5, .bool x.b3, .bool x.b5]] w fun e w' => e = .returned (.int .i64 (errOk x.okB)) ∧ Below w.heap.size w w' := by
  have E0 : Row (w.alloc (.cells (exL x).toArray 24)) w.heap.size 24 (exL x) := Row.new w _ _
  have B0 : Below w.heap.size w (w.alloc (.cells (exL x).toArray 24)) := (Below.refl _ w).alloc (Nat.le_refl _) _
  have HE0 := Lib.hid E0
  have HB0 := Lib.hid B0
  have HX := Lib.hid hx
  clear E0 B0 hx
  go_enter Tryd.func41, Tryd.ntmps41
  go_wp2_with fail
  refine (fullFields_any _).mono ?_
  rintro e w1 ⟨rfl, hb⟩
  have E1 := HE0.out.below hb
  have B1 := HB0.out.trans (hb.mono (by simp))
  have C1 : CC w x (w1.alloc (.cells (fulls 6).toArray 76)) w1.heap.size := ⟨B1.alloc B1.size _, E1.alloc _, Row.new w1 _ _⟩
  have HC := Lib.hid C1
  obtain ⟨F, hF⟩ : ∃ F, w1.heap.size = F := ⟨_, rfl⟩
  rw [hF] at HC
  clear hb HE0 HB0 E1 B1 C1
  go_wp2_with fail
  refine (fields_any _ _).mono ?_
  rintro e w2 ⟨rfl, hb⟩
  have HC := Lib.hid (HC.out.next hb)
  clear hb hF
  go_wp2_with fail
  go_loopw [8] (fun i wr => ∃ k : Nat, k ≤ 6 ∧ i = .int .i64 k ∧ Hid (CC w x wr F) ∧ Hid (∀ j, j < k → x.good j = true)) (fun i _ => 6 - (intOf i).toNat)
  case atStart => exact ⟨0, Nat.zero_le _, rfl, HC, Lib.hid (fun j h => by omega)⟩
  case round =>
    obtain ⟨k, hk, rfl, hc, hg⟩ := hrel
    by_cases hlt : k < 6
    · have d := (hc.out.ex.cell k).trans (exL_at x k hlt)
      have df := (hc.out.full.cell k).trans (fulls6_at k hlt)
      have q1 : decide ((k : Int) < 6) = true := by rw [decide_eq_true_iff]; omega
      have q1n : decide (k < 6) = true := by rw [decide_eq_true_iff]; omega
      have i0 : (0 : Int) ≤ (k : Int) := by omega
      have i1 : (k : Int) < 6 := by omega
      have ix := ptr_index w.heap.size k hlt
      have IN := Lib.hid (fun w => inside_any (x.at k) (Exp.fl k) w (HX.out k hlt) (fl_lt k hlt))
      have GD := Lib.hid (fun (h : x.good k = true) => fun j (hj : j < k + 1) => (by
        rcases Nat.lt_or_ge j k with a | a
        · exact hg.out j a
        · obtain rfl : j = k := by omega
          exact h : x.good j = true))
      have BD := Lib.hid (fun (h : x.good k = false) => Exp.okB_bad hlt h)
      obtain ⟨A, hA⟩ : ∃ A, x.at k = A := ⟨_, rfl⟩
      have gd : x.good k = (!(A == 0) && subB A (Exp.fl k)) := by unfold Exp.Ex.good; rw [hA]
      rw [hA] at d IN
      obtain ⟨G, hG⟩ : ∃ G, Exp.fl k = G := ⟨_, rfl⟩
      rw [hG] at df IN gd
      clear hA hG hg
      have HC := Lib.hid hc
      by_cases z : A = 0
      · subst z
        have t0 : ((0 : Int) == 0) = true := rfl
        have OK := Lib.hid (BD.out (by rw [gd]; rfl))
        clear gd IN GD BD
        go_wp2_with fail
        go_quiet (fail)
        go_wp2_with fail
        go_ret
        exact ⟨by rw [OK.out]; rfl, hc.out.below.trans ((below_drewN _ _ _).mono hc.out.below.size)⟩
      · have t0 : ((A : Int) == 0) = false := by rw [beq_eq_false_iff_ne]; omega
        have t0n : (A == 0) = false := by rw [beq_eq_false_iff_ne]; omega
        rw [t0n] at gd
        obtain ⟨sb, hsb⟩ : ∃ sb, subB A G = sb := ⟨_, rfl⟩
        rw [hsb] at gd IN
        clear hsb
        cases sb with
        | false =>
          have OK := Lib.hid (BD.out (by rw [gd]; rfl))
          clear gd GD BD z
          go_wp2_with fail
          go_quiet (first | (go_at_call 62; exact Calls.quiet_of_same ((IN.out _).mono fun _ _ ⟨h1, h2⟩ => ⟨h1, h2.symm⟩)))
          go_wp2_with fail
          go_ret
          exact ⟨by rw [OK.out]; rfl, hc.out.below.trans ((below_drewN _ _ _).mono hc.out.below.size)⟩
        | true =>
          have OK := Lib.hid (GD.out (by rw [gd]; rfl))
          clear gd GD BD z
          go_wp2_with fail
          go_quiet (first | (go_at_call 62; exact Calls.quiet_of_same ((IN.out _).mono fun _ _ ⟨h1, h2⟩ => ⟨h1, h2.symm⟩)))
          go_wp2_with fail
          go_roundw
          case rel => exact ⟨k + 1, by omega, by go_num, Lib.hid (hc.out.next (below_drewN _ _ _)), OK⟩
          case measure => simp [intOf]; omega
    · obtain rfl : k = 6 := by omega
      have OK := Lib.hid (Exp.okB_good hg.out)
      have e3 := hc.out.ex.cell 3
      have e5 := hc.out.ex.cell 5
      have e6 := hc.out.ex.cell 6
      have e7 := hc.out.ex.cell 7
      have f3 := (hc.out.full.cell 3).trans (fulls6_at 3 (by decide))
      have f5 := (hc.out.full.cell 5).trans (fulls6_at 5 (by decide))
      simp only [exL, List.getElem?_cons_zero, List.getElem?_cons_succ] at e3 e5 e6 e7
      have BW := Lib.hid hc.out.below
      obtain ⟨a0, a1, a2, a3, a4, a5, b3, b5⟩ := x
      unfold Exp.Ex.stars at OK
      simp only at e3 e5 e6 e7 OK
      obtain ⟨G3, h3⟩ : ∃ G, Exp.fl 3 = G := ⟨_, rfl⟩
      obtain ⟨G5, h5⟩ : ∃ G, Exp.fl 5 = G := ⟨_, rfl⟩
      rw [h3] at f3 OK
      rw [h5] at f5 OK
      clear hg h3 h5 hc
      have key : ∀ b : Bool, Exp.Ex.okB ⟨a0, a1, a2, a3, a4, a5, b3, b5⟩ = b → errOk b = errOk (Exp.Ex.okB ⟨a0, a1, a2, a3, a4, a5, b3, b5⟩) := fun b h => by rw [h]
      cases b3 <;> cases b5
      · go_wp2_with fail
        go_ret
        exact ⟨by rw [OK.out]; rfl, BW.out⟩
      · by_cases q : a5 = G5
        · subst q
          have t1 : ((a5 : Int) != (a5 : Int)) = false := by simp
          go_wp2_with fail
          go_ret
          exact ⟨by rw [OK.out]; simp [errOk], BW.out⟩
        · have t1 : ((a5 : Int) != (G5 : Int)) = true := by rw [bne_iff_ne]; omega
          have OK : Hid (_ = false) := Lib.hid (OK.out.trans (by simpa using q))
          clear q
          go_wp2_with fail
          go_ret
          exact ⟨by rw [OK.out]; rfl, BW.out⟩
      · by_cases q : a3 = G3
        · subst q
          have t1 : ((a3 : Int) != (a3 : Int)) = false := by simp
          go_wp2_with fail
          go_ret
          exact ⟨by rw [OK.out]; simp [errOk], BW.out⟩
        · have t1 : ((a3 : Int) != (G3 : Int)) = true := by rw [bne_iff_ne]; omega
          have OK : Hid (_ = false) := Lib.hid (OK.out.trans (by simpa using q))
          clear q
          go_wp2_with fail
          go_ret
          exact ⟨by rw [OK.out]; rfl, BW.out⟩
      · by_cases q : a3 = G3
        · subst q
          have t1 : ((a3 : Int) != (a3 : Int)) = false := by simp
          by_cases q : a5 = G5
          · subst q
            have t2 : ((a5 : Int) != (a5 : Int)) = false := by simp
            go_wp2_with fail
            go_ret
            exact ⟨by rw [OK.out]; simp [errOk], BW.out⟩
          · have t2 : ((a5 : Int) != (G5 : Int)) = true := by rw [bne_iff_ne]; omega
            have OK : Hid (_ = false) := Lib.hid (OK.out.trans (by simpa using q))
            clear q
            go_wp2_with fail
            go_ret
            exact ⟨by rw [OK.out]; rfl, BW.out⟩
        · have t1 : ((a3 : Int) != (G3 : Int)) = true := by rw [bne_iff_ne]; omega
          have OK : Hid (_ = false) := Lib.hid (OK.out.trans (by simp [q]))
          clear q
          go_wp2_with fail
          go_ret
          exact ⟨by rw [OK.out]; rfl, BW.out⟩
end Go.Proofs.YtbehendogcghjaaDoor
