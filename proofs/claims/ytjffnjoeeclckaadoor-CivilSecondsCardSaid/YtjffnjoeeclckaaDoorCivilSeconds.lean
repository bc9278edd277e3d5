/- For all civil times a and b, valid or not, CivilSeconds returns true: Time and Order of package civil give what the document's give. Condition: the package-level tables start as the program's text lays them (tied). -/
import Derived.Test.YtjffnjoeeclckaaDoorCivDoor
import Derived.Test.YtjffnjoeeclckaaDoorCivBoth
import Derived.Deep.RegionHeld3
import Derived.Deep.DrawnRows
namespace Go.Proofs.YtjffnjoeeclckaaDoor.civilSeconds
open Go.ChangeShapes Go.WideShapes Go.ChangeAt Go.RowKit

/-- two civil times, each in its block -/
def Two6 (w W : World) (B B' : Nat) (y m d h i s y' m' d' h' i' s' : Int) : Prop := Civ6 w W B y m d h i s ∧ Civ6 w W B' y' m' d' h' i' s'
theorem Two6.below {w W W' : World} {B B' : Nat} {y m d h i s y' m' d' h' i' s' : Int} (A : Two6 w W B B' y m d h i s y' m' d' h' i' s') (b : Below W.heap.size W W') : Two6 w W' B B' y m d h i s y' m' d' h' i' s' := ⟨A.1.below b, A.2.below b⟩
theorem Two6.drew {w W : World} {B B' : Nat} {y m d h i s y' m' d' h' i' s' : Int} (A : Two6 w W B B' y m d h i s y' m' d' h' i' s') : Two6 w W.drew B B' y m d h i s y' m' d' h' i' s' := ⟨A.1.drew, A.2.drew⟩
theorem order_two {w W : World} {B B' : Nat} {y m d h i s y' m' d' h' i' s' : Int} (A : Two6 w W B B' y m d h i s y' m' d' h' i' s') (o : Int) (ho : Hid (ordI y m d h i s y' m' d' h' i' s' = o)) :
    Calls Tryd.prog 32 #[.agg #[.int .i64 y, .int .i64 m, .int .i64 d, .int .i64 h, .int .i64 i, .int .i64 s], .agg #[.int .i64 y', .int .i64 m', .int .i64 d', .int .i64 h', .int .i64 i', .int .i64 s']] W fun e w' => e = .returned (.int .i64 o) ∧ Two6 w w' B B' y m d h i s y' m' d' h' i' s' :=
  (order_any y m d h i s y' m' d' h' i' s' W).mono fun _ _ ⟨h1, h2⟩ => ⟨by rw [h1, ho.out], A.below h2⟩
theorem orderR_two {w W : World} {B B' : Nat} {y m d h i s y' m' d' h' i' s' : Int} (A : Two6 w W B B' y m d h i s y' m' d' h' i' s') (o : Int) (ho : Hid (ordI y m d h i s y' m' d' h' i' s' = o)) :
    Calls Tryd.prog 33 #[.agg #[.int .i64 y, .int .i64 m, .int .i64 d, .int .i64 h, .int .i64 i, .int .i64 s], .agg #[.int .i64 y', .int .i64 m', .int .i64 d', .int .i64 h', .int .i64 i', .int .i64 s']] W fun e w' => e = .returned (.int .i64 o) ∧ Two6 w w' B B' y m d h i s y' m' d' h' i' s' :=
  (orderR_any y m d h i s y' m' d' h' i' s' W).mono fun _ _ ⟨h1, h2⟩ => ⟨by rw [h1, ho.out], A.below h2⟩
theorem works_two {w W : World} {B B' : Nat} {y m d h i s y' m' d' h' i' s' : Int} (L : Lay w) (A : Two6 w W B B' y m d h i s y' m' d' h' i' s') :
    Calls Tryd.prog 21 #[] W fun e w' => e = .returned (.bool true) ∧ Two6 w w' B B' y m d h i s y' m' d' h' i' s' :=
  (works_any W (L.below A.1.bel)).mono fun _ _ ⟨h1, h2⟩ => ⟨h1, A.below h2⟩

attribute [local go_sem ↓] Go.wp_at_zero Go.wp_at_succ
set_option maxRecDepth 100000 in
set_option maxHeartbeats 2000000 in
theorem walk (y m d h i s y' m' d' h' i' s' : Int) (w : World) (L : Lay w) (_ : (Lit.int .i64 y).wf = true ∧ (Lit.int .i64 m).wf = true ∧ (Lit.int .i64 d).wf = true ∧ (Lit.int .i64 h).wf = true ∧ (Lit.int .i64 i).wf = true ∧ (Lit.int .i64 s).wf = true)
    (_ : (Lit.int .i64 y').wf = true ∧ (Lit.int .i64 m').wf = true ∧ (Lit.int .i64 d').wf = true ∧ (Lit.int .i64 h').wf = true ∧ (Lit.int .i64 i').wf = true ∧ (Lit.int .i64 s').wf = true) :
    Calls Tryd.prog 6 #[.agg #[.int .i64 y, .int .i64 m, .int .i64 d, .int .i64 h, .int .i64 i, .int .i64 s], .agg #[.int .i64 y', .int .i64 m', .int .i64 d', .int .i64 h', .int .i64 i', .int .i64 s']] w fun e w' => e = .returned (.bool true) ∧ Below w.heap.size w w' := by
  obtain ⟨_, _, A, B⟩ := time_both y m d h i s
  have A := Lib.hid A
  have B := Lib.hid B
  obtain ⟨o, ho⟩ : ∃ o, ordI y m d h i s y' m' d' h' i' s' = o := ⟨_, rfl⟩
  have HO := Lib.hid ho
  obtain ⟨W1, hW, P⟩ := civ6_start w w (Below.refl _ _) y m d h i s 34
  obtain ⟨W2, hW2, P, Q⟩ := civ6_next P (Below.refl _ _) y' m' d' h' i' s' 34
  have hz : W1.heap.size = w.heap.size + 1 := by rw [hW]; simp
  rw [hW] at hW2
  rw [hz] at Q
  have H := Lib.hid hW2
  have PP := Lib.hid P
  have QQ := Lib.hid Q
  have p0 := PP.out.g0
  have p1 := PP.out.g1
  have p2 := PP.out.g2
  have p3 := PP.out.g3
  have p4 := PP.out.g4
  have p5 := PP.out.g5
  have q0 := QQ.out.g0
  have q1 := QQ.out.g1
  have q2 := QQ.out.g2
  have q3 := QQ.out.g3
  have q4 := QQ.out.g4
  have q5 := QQ.out.g5
  clear hW hW2 hz P Q ho
  go_enter Tryd.func6, Tryd.ntmps6
  go_wp2_with fail
  rw [← H.out]
  refine (A.out _ (L.below PP.out.bel)).mono ?_
  rintro e w3 ⟨rfl, b⟩
  have P3 := Lib.hid (PP.out.below b)
  have Q3 := Lib.hid (QQ.out.below b)
  clear b p0 p1 p2 p3 p4 p5 q0 q1 q2 q3 q4 q5
  have p0 := P3.out.g0
  have p1 := P3.out.g1
  have p2 := P3.out.g2
  have p3 := P3.out.g3
  have p4 := P3.out.g4
  have p5 := P3.out.g5
  have q0 := Q3.out.g0
  have q1 := Q3.out.g1
  have q2 := Q3.out.g2
  have q3 := Q3.out.g3
  have q4 := Q3.out.g4
  have q5 := Q3.out.g5
  go_wp2_with fail
  refine (B.out _).mono ?_
  rintro e w4 ⟨rfl, b⟩
  have P4 := Lib.hid (P3.out.below b)
  have Q4 := Lib.hid (Q3.out.below b)
  clear b p0 p1 p2 p3 p4 p5 q0 q1 q2 q3 q4 q5
  have p0 := P4.out.g0
  have p1 := P4.out.g1
  have p2 := P4.out.g2
  have p3 := P4.out.g3
  have p4 := P4.out.g4
  have p5 := P4.out.g5
  have q0 := Q4.out.g0
  have q1 := Q4.out.g1
  have q2 := Q4.out.g2
  have q3 := Q4.out.g3
  have q4 := Q4.out.g4
  have q5 := Q4.out.g5
  go_wp2_with fail
  have T := Lib.hid (show Two6 w w4 w.heap.size (w.heap.size + 1) y m d h i s y' m' d' h' i' s' from ⟨P4.out, Q4.out⟩)
  go_region_held3 (fun w' => w'.cell? ⟨w.heap.size, 0, none⟩ = some (.int .i64 y) ∧ w'.cell? ⟨w.heap.size, 1, none⟩ = some (.int .i64 m) ∧ w'.cell? ⟨w.heap.size, 2, none⟩ = some (.int .i64 d) ∧ w'.cell? ⟨w.heap.size, 3, none⟩ = some (.int .i64 h) ∧ w'.cell? ⟨w.heap.size, 4, none⟩ = some (.int .i64 i) ∧ w'.cell? ⟨w.heap.size, 5, none⟩ = some (.int .i64 s) ∧ w'.cell? ⟨w.heap.size + 1, 0, none⟩ = some (.int .i64 y') ∧ w'.cell? ⟨w.heap.size + 1, 1, none⟩ = some (.int .i64 m') ∧ w'.cell? ⟨w.heap.size + 1, 2, none⟩ = some (.int .i64 d') ∧ w'.cell? ⟨w.heap.size + 1, 3, none⟩ = some (.int .i64 h') ∧ w'.cell? ⟨w.heap.size + 1, 4, none⟩ = some (.int .i64 i') ∧ w'.cell? ⟨w.heap.size + 1, 5, none⟩ = some (.int .i64 s'))  (go_keep)
    (first
      | (go_at_call 32; refine (order_two (by first | exact T.out | exact T.out.drew) o HO).mono ?_; rintro e w5 ⟨rfl, t⟩; have T := Lib.hid t; clear t; have p0 := T.out.1.g0; have q0 := T.out.2.g0; have p1 := T.out.1.g1; have q1 := T.out.2.g1; have p2 := T.out.1.g2; have q2 := T.out.2.g2; have p3 := T.out.1.g3; have q3 := T.out.2.g3; have p4 := T.out.1.g4; have q4 := T.out.2.g4; have p5 := T.out.1.g5; have q5 := T.out.2.g5)
      | (go_at_call 33; refine (orderR_two (by first | exact T.out | exact T.out.drew) o HO).mono ?_; rintro e w5 ⟨rfl, t⟩; have T := Lib.hid t; clear t; have p0 := T.out.1.g0; have q0 := T.out.2.g0; have p1 := T.out.1.g1; have q1 := T.out.2.g1; have p2 := T.out.1.g2; have q2 := T.out.2.g2; have p3 := T.out.1.g3; have q3 := T.out.2.g3; have p4 := T.out.1.g4; have q4 := T.out.2.g4; have p5 := T.out.1.g5; have q5 := T.out.2.g5)
      | (go_at_call 21; refine (works_two L (by first | exact T.out | exact T.out.drew)).mono ?_; rintro e w5 ⟨rfl, t⟩; have T := Lib.hid t; clear t; have p0 := T.out.1.g0; have q0 := T.out.2.g0; have p1 := T.out.1.g1; have q1 := T.out.2.g1; have p2 := T.out.1.g2; have q2 := T.out.2.g2; have p3 := T.out.1.g3; have q3 := T.out.2.g3; have p4 := T.out.1.g4; have q4 := T.out.2.g4; have p5 := T.out.1.g5; have q5 := T.out.2.g5))
  go_wp2_with fail
  go_ret
  exact ⟨rfl, T.out.1.bel⟩

theorem listed : Rows.civilSecondsRow.laid.find? isLengths = some (((Rows.civilSecondsRow.laid.find? isLengths).map (·.1)).getD "", Rows.laid_wakeman_civil_lengths) := by kernel_rfl

set_option maxRecDepth 100000 in
theorem lifted (os : Os) (started : os.Started) (H : Type) (enc : TypeId × Value → H) :
    ReturnsInHanded {} Tryd.checked os 6 .any (fun w args => (Rows.civilSecondsSpec.pre enc Tryd.prog Tryd.f6 [] false w args ∧ laidMetH Tryd.prog Rows.civilSecondsRow.laid w) ∧ sizedMet enc Tryd.prog Tryd.f6 (OpenSpec.ofChange Rows.civilSecondsSpec) false w args)
      (Rows.civilSecondsSpec.post enc Tryd.prog Tryd.f6 false true false false) := by
  refine returnsInHanded_of_change_and (C := Tryd.checked) (X := fun w _ => laidMetH Tryd.prog Rows.civilSecondsRow.laid w) (fun _ _ _ hh h => h.of_heap hh) own started (by kernel_rfl) Tryd.func6
    (ChangeSpec.witness_shaped (enc := enc) (C := Tryd.checked) (os := os) (X := fun w _ => laidMetH Tryd.prog Rows.civilSecondsRow.laid w) false (World.doorLaid Tryd.prog 400 os) #[.agg #[.int .i64 0, .int .i64 0, .int .i64 0, .int .i64 0, .int .i64 0, .int .i64 0], .agg #[.int .i64 0, .int .i64 0, .int .i64 0, .int .i64 0, .int .i64 0, .int .i64 0]] 8 rfl (shaped0 os _) (by kernel_rfl) (by kernel_rfl) (by kernel_rfl) (door_met os _)) ?_
  intro W base args ds gs before hval0 hW _ _ hL _
  have hval : ∀ (j : Nat) t v, Tryd.f6.params[j]? = some t → args[j]? = some v → Value.okWide Tryd.prog W .any base t v := hval0
  have hW' := hW
  obtain ⟨p, q, hA0, hV, rfl, hfz, hnd⟩ := hW
  have hA : DataW.TrodAll enc Tryd.prog W 0 (fun _ => true) true Tryd.f6.params.toList args.toList ds p := hA0
  rw [Tryd.params6] at hA hval
  obtain ⟨v0, vs0, d0, ds0, p0, q0, hargs, rfl, rfl, h0, r0⟩ := trodAll_cons hA
  obtain ⟨v1, vs1, d1, ds1, p1, q1, rfl, rfl, rfl, h1, r1⟩ := trodAll_cons r0
  obtain ⟨rfl, rfl, rfl⟩ := trodAll_nil r1
  obtain rfl : args = #[v0, v1] := by cases args; simp_all
  obtain ⟨rfl, rfl⟩ := trodVars_none hV
  obtain ⟨y0, m0, t0, o0, i0, s0, rfl, w0⟩ := open_civil (hval 0 34 v0 rfl rfl) h0
  have k0 := h0
  have lt0 : ∀ x ∈ p0, x.block < W.heap.size := by obtain ⟨m, hm⟩ := k0; exact DataW.trod_lt m _ _ _ hm
  obtain ⟨y1, m1, t1, o1, i1, s1, rfl, w1⟩ := open_civil (hval 1 34 v1 rfl rfl) h1
  have k1 := h1
  have lt1 : ∀ x ∈ p1, x.block < W.heap.size := by obtain ⟨m, hm⟩ := k1; exact DataW.trod_lt m _ _ _ hm
  clear hA0 hval0
  refine (walk y0 m0 t0 o0 i0 s0 y1 m1 t1 o1 i1 s1 W (lay_of _ W (by kernel_rfl) _ listed hL) w0 w1).mono fun e W' ⟨he, bel⟩ => ?_
  subst he
  exact ⟨_, rfl, _, _, _, [], _, [], hW', trodAll_mk1 (shut_bool Tryd.underlying4 _), (trodAll_cons_mk (Below.trod laidOut (by kernel_rfl) (of_decide_eq_true (by kernel_rfl)) k0 bel lt0) (trodAll_cons_mk (Below.trod laidOut (by kernel_rfl) (of_decide_eq_true (by kernel_rfl)) k1 bel lt1) trodAll_mk0)), rfl, bel.frame _, fun h => by cases h⟩

theorem row_holds : Rows.CivilSecondsSaid :=
  OpenClaim.holds_of_wide 6 Tryd.f6 rfl rfl rfl rfl rfl rfl rfl ⟨rfl, rfl, rfl, rfl, rfl⟩ rfl rfl rfl rfl rfl (by kernel_rfl) Tryd.func6 (by kernel_rfl)
    (of_decide_eq_true (by kernel_rfl)) (by unfold Func.isWrapper; first | (rw [if_pos (by decide +kernel)]; kernel_rfl) | (rw [if_neg (by decide +kernel)]; exact ⟨rfl, rfl⟩))
    (fun os started H enc _ => lifted os started H enc)

theorem proved : Rows.CivilSecondsCardSaid :=
  Claim7.holds_tied_plain_at .later [] Rows.civilSecondsCard.laidKinds true Rows.civilSecondsCard.stood.harness Rows.civilSecondsCard.stood.looks
    row_holds (fun _ h => by cases h) (by kernel_rfl) (fun _ h => by cases h) civilSeconds_row_tie rfl ⟨rfl, rfl⟩ (by kernel_rfl) rfl
    (fun f fn hf hfn => by
      obtain rfl : f = 6 := Option.some.inj ((show Tryd.prog.funcNamed Rows.civilSecondsRow.func = some 6 by kernel_rfl).symm.trans hf) |>.symm
      obtain rfl : fn = Tryd.f6 := (Option.some.inj (Tryd.func6.symm.trans hfn)).symm
      exact ⟨looks0, fun j t ht => by
        rw [Tryd.params6] at ht
        have hm : t ∈ [34] := by simpa using Array.mem_of_getElem? ht
        have hall : ([34].all fun u => !Tryd.prog.wantsStandIn u) = true := by kernel_rfl
        exact (show Tryd.prog.wantsStandIn t = false by simpa using List.all_eq_true.1 hall t hm)⟩)
    (by kernel_rfl)
end Go.Proofs.YtjffnjoeeclckaaDoor.civilSeconds
