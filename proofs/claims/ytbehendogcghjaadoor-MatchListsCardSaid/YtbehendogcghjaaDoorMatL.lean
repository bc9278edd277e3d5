/- Contracts of Day, Is, Next, Prev and Ever of package match. -/
import Derived.Test.YtbehendogcghjaaDoorMatLp
namespace Go.Proofs.YtbehendogcghjaaDoor
open Go.ChangeShapes Go.RowKit Go.Shelf

/-- the block of one time, behind that of the expression -/
theorem one_row (x : Exp.Ex) (t : Int) (w : World) : Row ((w.alloc (.cells #[.int .u64 x.a0, .int .u64 x.a1, .int .u64 x.a2, .int .u64 x.a3, .int .u64 x.a4, .int .u64 x.a5, .bool x.b3, .bool x.b5] 24)).alloc (.cells #[.int .i64 t] 2)) (w.heap.size + 1) 2 ([t].map (.int .i64 ·)) := by
  have := Row.new (w.alloc (.cells #[.int .u64 x.a0, .int .u64 x.a1, .int .u64 x.a2, .int .u64 x.a3, .int .u64 x.a4, .int .u64 x.a5, .bool x.b3, .bool x.b5] 24)) [.int .i64 t] 2
  rwa [World.size_alloc] at this
theorem two_row (x : Exp.Ex) (a b : Int) (w : World) : Row ((w.alloc (.cells #[.int .u64 x.a0, .int .u64 x.a1, .int .u64 x.a2, .int .u64 x.a3, .int .u64 x.a4, .int .u64 x.a5, .bool x.b3, .bool x.b5] 24)).alloc (.cells #[.int .i64 a, .int .i64 b] 2)) (w.heap.size + 1) 2 ([a, b].map (.int .i64 ·)) := by
  have := Row.new (w.alloc (.cells #[.int .u64 x.a0, .int .u64 x.a1, .int .u64 x.a2, .int .u64 x.a3, .int .u64 x.a4, .int .u64 x.a5, .bool x.b3, .bool x.b5] 24)) [.int .i64 a, .int .i64 b] 2
  rwa [World.size_alloc] at this
/-- behind check: the expression lies where it lay -/
structure BC (w : World) (x : Exp.Ex) (V : World) : Prop where
  be : Below w.heap.size w V
  ex : Row V w.heap.size 24 (exL x)
  lay : LayM V
theorem BC.one {w V : World} {x : Exp.Ex} {o : Obj} (L : LayM w) (h : Below ((w.alloc (.cells #[.int .u64 x.a0, .int .u64 x.a1, .int .u64 x.a2, .int .u64 x.a3, .int .u64 x.a4, .int .u64 x.a5, .bool x.b3, .bool x.b5] 24)).alloc o).heap.size ((w.alloc (.cells #[.int .u64 x.a0, .int .u64 x.a1, .int .u64 x.a2, .int .u64 x.a3, .int .u64 x.a4, .int .u64 x.a5, .bool x.b3, .bool x.b5] 24)).alloc o) V) : BC w x V := by
  have h0 := ((Below.refl _ w).alloc (Nat.le_refl _) (.cells #[.int .u64 x.a0, .int .u64 x.a1, .int .u64 x.a2, .int .u64 x.a3, .int .u64 x.a4, .int .u64 x.a5, .bool x.b3, .bool x.b5] 24)).alloc (by simp) o
  have r := ((Row.new w (exL x) 24).alloc o).below h
  exact ⟨h0.trans (h.mono h0.size), r, L.below (h0.trans (h.mono h0.size))⟩
theorem BC.next {w V V' : World} {x : Exp.Ex} (h : BC w x V) (hb : Below V.heap.size V V') : BC w x V' := ⟨h.be.trans (hb.mono h.be.size), h.ex.below hb, h.lay.below hb⟩
theorem BC.cells {w V : World} {x : Exp.Ex} (h : BC w x V) : V.cell? ⟨w.heap.size, 0, none⟩ = some (.int .u64 x.a0) ∧ V.cell? ⟨w.heap.size, 1, none⟩ = some (.int .u64 x.a1) ∧ V.cell? ⟨w.heap.size, 2, none⟩ = some (.int .u64 x.a2) ∧ V.cell? ⟨w.heap.size, 3, none⟩ = some (.int .u64 x.a3) ∧ V.cell? ⟨w.heap.size, 4, none⟩ = some (.int .u64 x.a4) ∧ V.cell? ⟨w.heap.size, 5, none⟩ = some (.int .u64 x.a5) ∧ V.cell? ⟨w.heap.size, 6, none⟩ = some (.bool x.b3) ∧ V.cell? ⟨w.heap.size, 7, none⟩ = some (.bool x.b5) := row_cells h.ex
/-- what Day returns -/
noncomputable def dayO (x : Exp.Ex) (z t : Int) : Bool := if errC x z [t] = 0 then inT (t + 60 * z) && x.onB ((t + 60 * z) / 86400) else false
noncomputable def isO (x : Exp.Ex) (z t : Int) : Bool := if errC x z [t] = 0 then x.lmB (t + 60 * z) else false
set_option maxRecDepth 100000 in
set_option maxHeartbeats 4000000 in
theorem mday_any (x : Exp.Ex) (hx : x.Bd) (z t : Int) (w : World) (L : LayM w) :
    Calls Tryd.prog 15 #[.agg #[.int .u64 x.a0, .int .u64 x.a1, .int .u64 x.a2, .int .u64 x.a3, .int .u64 x.a4, .int .u64 x.a5, .bool x.b3, .bool x.b5], .int .i64 z, .int .i64 t] w fun e W' => e = .returned (.tuple #[.bool (dayO x z t), .int .i64 (errC x z [t])]) ∧ Below w.heap.size w W' := by
  have CK := Lib.hid (fun w0 R => mcheck_any x hx z (w.heap.size + 1) [t] (by simp) w0 R)
  have RW := Lib.hid (one_row x t w)
  have LL := Lib.hid L
  by_cases h : errC x z [t] = 0
  · obtain ⟨hk, hz, ht⟩ := errC_one h
    have hok := Exp.okB_iff.1 hk
    have LA := Lib.hid (fun w0 : World => local_any z t t (loc0 z t) (loc1 z t) w0 hz.1 hz.2 (by omega) (by omega) (by omega) (by omega) rfl rfl)
    have DO : Hid (dayO x z t = (inT (t + 60 * z) && x.onB ((t + 60 * z) / 86400))) := Lib.hid (by unfold dayO; rw [if_pos h])
    by_cases hin : 0 ≤ t + 60 * z ∧ t + 60 * z ≤ 253402300799
    · have e0 : loc0 z t = t + 60 * z := by unfold loc0; omega
      have e1 : loc1 z t = t + 60 * z := by unfold loc1; omega
      obtain ⟨u, hu⟩ : ∃ u, t + 60 * z = u := ⟨_, rfl⟩
      rw [e0, e1, hu] at LA
      rw [hu] at DO hin
      have OD := Lib.hid (fun w0 L0 => onDate_any x hok u hin.1 (by omega) w0 L0)
      have IT : Hid (inT u = true) := Lib.hid (by unfold inT; simp; omega)
      rw [h] at CK ⊢
      clear h hk hz ht hok e0 e1 hu hin L
      go_enter Tryd.func15, Tryd.ntmps15
      go_wp2_with (first
        | (go_at_call 33; refine (CK.out _ RW.out).mono ?_; rintro e V ⟨rfl, hb⟩; have Q := Lib.hid (BC.one LL.out hb); obtain ⟨y0, y1, y2, y3, y4, y5, y6, y7⟩ := Q.out.cells; clear hb)
        | (go_at_call 34; refine (LA.out _).mono ?_; rintro e V' ⟨rfl, rfl⟩)
        | (go_at_call 35; refine (OD.out _ Q.out.lay).mono ?_; rintro e V' ⟨rfl, hb⟩; have Q := Lib.hid (Q.out.next hb); clear hb))
      go_ret2
      exact ⟨by rw [DO.out, IT.out, Bool.true_and]; rfl, Q.out.be⟩
    · have t1 : (loc0 z t == loc1 z t) = false := by rw [beq_eq_false_iff_ne]; unfold loc0 loc1; omega
      have IT : Hid (inT (t + 60 * z) = false) := Lib.hid (by unfold inT; simp; omega)
      obtain ⟨f, hf⟩ : ∃ f, loc0 z t = f := ⟨_, rfl⟩
      obtain ⟨g, hg⟩ : ∃ g, loc1 z t = g := ⟨_, rfl⟩
      rw [hf, hg] at LA t1
      rw [h] at CK ⊢
      clear h hk hz ht hok hin hf hg L
      go_enter Tryd.func15, Tryd.ntmps15
      go_wp2_with (first
        | (go_at_call 33; refine (CK.out _ RW.out).mono ?_; rintro e V ⟨rfl, hb⟩; have Q := Lib.hid (BC.one LL.out hb); clear hb)
        | (go_at_call 34; refine (LA.out _).mono ?_; rintro e V' ⟨rfl, rfl⟩))
      go_ret2
      exact ⟨by rw [DO.out, IT.out, Bool.false_and]; rfl, Q.out.be⟩
  · have DO : Hid (dayO x z t = false) := Lib.hid (by unfold dayO; rw [if_neg h])
    obtain ⟨E, hE⟩ : ∃ E, errC x z [t] = E := ⟨_, rfl⟩
    rw [hE] at h CK ⊢
    have t1 : (E != 0) = true := by rw [bne_iff_ne]; exact h
    clear h hE L
    go_enter Tryd.func15, Tryd.ntmps15
    go_wp2_with (first
      | (go_at_call 33; refine (CK.out _ RW.out).mono ?_; rintro e V ⟨rfl, hb⟩; have Q := Lib.hid (BC.one LL.out hb); clear hb))
    go_ret2
    exact ⟨by rw [DO.out]; rfl, Q.out.be⟩
theorem seek_up (x : Exp.Ex) (hok : x.Ok) (f t a : Int) (b : Bool) {r : Option Int} (h : Mat.Dir.up.seek x f t = r) (ha : r.getD 0 = a) (hb : r.isSome = b) (bd : -1000000000000 ≤ f ∧ f ≤ 1000000000000 ∧ -1000000000000 ≤ t ∧ t ≤ 1000000000000)
    (hin : Mat.Dir.up.past f t = false → 0 ≤ f ∧ f ≤ 253402300799 ∧ 0 ≤ t ∧ t ≤ 253402300799) (w : World) (L : LayM w) :
    Calls Tryd.prog 39 #[.int .i64 1, .agg #[.int .u64 x.a0, .int .u64 x.a1, .int .u64 x.a2, .int .u64 x.a3, .int .u64 x.a4, .int .u64 x.a5, .bool x.b3, .bool x.b5], .int .i64 f, .int .i64 t] w fun e W' => e = .returned (.tuple #[.int .i64 a, .bool b]) ∧ Below w.heap.size w W' := by
  have := seek_any .up x hok f t bd.1 bd.2.1 bd.2.2.1 bd.2.2.2 hin w L
  rw [h] at this
  unfold optV at this
  rw [ha, hb] at this
  exact this
theorem seek_down (x : Exp.Ex) (hok : x.Ok) (f t a : Int) (b : Bool) {r : Option Int} (h : Mat.Dir.down.seek x f t = r) (ha : r.getD 0 = a) (hb : r.isSome = b) (bd : -1000000000000 ≤ f ∧ f ≤ 1000000000000 ∧ -1000000000000 ≤ t ∧ t ≤ 1000000000000)
    (hin : Mat.Dir.down.past f t = false → 0 ≤ f ∧ f ≤ 253402300799 ∧ 0 ≤ t ∧ t ≤ 253402300799) (w : World) (L : LayM w) :
    Calls Tryd.prog 39 #[.int .i64 (-1), .agg #[.int .u64 x.a0, .int .u64 x.a1, .int .u64 x.a2, .int .u64 x.a3, .int .u64 x.a4, .int .u64 x.a5, .bool x.b3, .bool x.b5], .int .i64 f, .int .i64 t] w fun e W' => e = .returned (.tuple #[.int .i64 a, .bool b]) ∧ Below w.heap.size w W' := by
  have := seek_any .down x hok f t bd.1 bd.2.1 bd.2.2.1 bd.2.2.2 hin w L
  rw [h] at this
  unfold optV at this
  rw [ha, hb] at this
  exact this
set_option maxRecDepth 100000 in
set_option maxHeartbeats 4000000 in
theorem mis_any (x : Exp.Ex) (hx : x.Bd) (z t : Int) (w : World) (L : LayM w) :
    Calls Tryd.prog 17 #[.agg #[.int .u64 x.a0, .int .u64 x.a1, .int .u64 x.a2, .int .u64 x.a3, .int .u64 x.a4, .int .u64 x.a5, .bool x.b3, .bool x.b5], .int .i64 z, .int .i64 t] w fun e W' => e = .returned (.tuple #[.bool (isO x z t), .int .i64 (errC x z [t])]) ∧ Below w.heap.size w W' := by
  have CK := Lib.hid (fun w0 R => mcheck_any x hx z (w.heap.size + 1) [t] (by simp) w0 R)
  have RW := Lib.hid (one_row x t w)
  have LL := Lib.hid L
  by_cases h : errC x z [t] = 0
  · obtain ⟨hk, hz, ht⟩ := errC_one h
    have hok := Exp.okB_iff.1 hk
    have LA := Lib.hid (fun w0 : World => local_any z t t (loc0 z t) (loc1 z t) w0 hz.1 hz.2 (by omega) (by omega) (by omega) (by omega) rfl rfl)
    have SK := Lib.hid (fun w0 L0 => seek_up x hok (loc0 z t) (loc1 z t) ((Mat.Dir.up.seek x (loc0 z t) (loc1 z t)).getD 0) (x.lmB (t + 60 * z)) rfl rfl (seek_one hok z t) (loc_bd hz.1 hz.2 (by omega) (by omega) (by omega) (by omega)) loc_in w0 L0)
    have DO : Hid (isO x z t = x.lmB (t + 60 * z)) := Lib.hid (by unfold isO; rw [if_pos h])
    obtain ⟨f, hf⟩ : ∃ f, loc0 z t = f := ⟨_, rfl⟩
    obtain ⟨g, hg⟩ : ∃ g, loc1 z t = g := ⟨_, rfl⟩
    rw [hf, hg] at LA SK
    obtain ⟨a, ha⟩ : ∃ a, (Mat.Dir.up.seek x f g).getD 0 = a := ⟨_, rfl⟩
    obtain ⟨b, hb⟩ : ∃ b, x.lmB (t + 60 * z) = b := ⟨_, rfl⟩
    rw [ha, hb] at SK
    rw [hb] at DO
    rw [h] at CK ⊢
    clear h hk hz ht hok hf hg ha hb L
    go_enter Tryd.func17, Tryd.ntmps17
    go_wp2_with (first
      | (go_at_call 33; refine (CK.out _ RW.out).mono ?_; rintro e V ⟨rfl, hb⟩; have Q := Lib.hid (BC.one LL.out hb); obtain ⟨y0, y1, y2, y3, y4, y5, y6, y7⟩ := Q.out.cells; clear hb)
      | (go_at_call 34; refine (LA.out _).mono ?_; rintro e V' ⟨rfl, rfl⟩)
      | (go_at_call 39; refine (SK.out _ Q.out.lay).mono ?_; rintro e V' ⟨rfl, hb⟩; have Q := Lib.hid (Q.out.next hb); clear hb))
    go_ret2
    exact ⟨by rw [DO.out]; rfl, Q.out.be⟩
  · have DO : Hid (isO x z t = false) := Lib.hid (by unfold isO; rw [if_neg h])
    obtain ⟨E, hE⟩ : ∃ E, errC x z [t] = E := ⟨_, rfl⟩
    rw [hE] at h CK ⊢
    have t1 : (E != 0) = true := by rw [bne_iff_ne]; exact h
    clear h hE L
    go_enter Tryd.func17, Tryd.ntmps17
    go_wp2_with (first
      | (go_at_call 33; refine (CK.out _ RW.out).mono ?_; rintro e V ⟨rfl, hb⟩; have Q := Lib.hid (BC.one LL.out hb); clear hb))
    go_ret2
    exact ⟨by rw [DO.out]; rfl, Q.out.be⟩
set_option maxRecDepth 100000 in
set_option maxHeartbeats 4000000 in
theorem mnext_any (x : Exp.Ex) (hx : x.Bd) (z t : Int) (w : World) (L : LayM w) :
    Calls Tryd.prog 22 #[.agg #[.int .u64 x.a0, .int .u64 x.a1, .int .u64 x.a2, .int .u64 x.a3, .int .u64 x.a4, .int .u64 x.a5, .bool x.b3, .bool x.b5], .int .i64 z, .int .i64 t] w fun e W' => e = .returned (.tuple #[.int .i64 ((nextO x z t).getD 0), .bool (nextO x z t).isSome, .int .i64 (errC x z [t])]) ∧ Below w.heap.size w W' := by
  have CK := Lib.hid (fun w0 R => mcheck_any x hx z (w.heap.size + 1) [t] (by simp) w0 R)
  have RW := Lib.hid (one_row x t w)
  have LL := Lib.hid L
  by_cases h : errC x z [t] = 0
  · obtain ⟨hk, hz, ht⟩ := errC_one h
    have hok := Exp.okB_iff.1 hk
    have LA := Lib.hid (fun w0 : World => local_any z (t + 1) 253402300799 (loc0 z (t + 1)) (loc1 z 253402300799) w0 hz.1 hz.2 (by omega) (by omega) (by omega) (by omega) rfl rfl)
    have AH := Lib.hid (fun w0 : World => ahead_any z w0 hz.1 hz.2)
    obtain ⟨r, hr⟩ : ∃ r, Mat.Dir.up.seek x (loc0 z (t + 1)) (loc1 z 253402300799) = r := ⟨_, rfl⟩
    have SK := Lib.hid (fun w0 L0 => seek_up x hok (loc0 z (t + 1)) (loc1 z 253402300799) (r.getD 0) r.isSome hr rfl rfl (by have := loc_bd (z := z) (a := (t + 1)) (b := 253402300799) hz.1 hz.2 (by omega) (by omega) (by omega) (by omega); omega) loc_in w0 L0)
    have DO : Hid (nextO x z t = r.map (· - 60 * z)) := Lib.hid (by unfold nextO; rw [if_pos h, hr])
    have RB : ∀ u, r = some u → 0 ≤ u ∧ u ≤ 253402300799 := fun u hu => by
      have q := seek_is (d := .up) hok (loc0 z (t + 1)) (loc1 z 253402300799)
      rw [hr, hu] at q
      exact lm_in q.2.2.1
    have wt : IntKind.i64.wrap (t + 1) = t + 1 := by rw [IntKind.wrap_i64]; omega
    obtain ⟨f, hf⟩ : ∃ f, loc0 z (t + 1) = f := ⟨_, rfl⟩
    obtain ⟨g, hg⟩ : ∃ g, loc1 z 253402300799 = g := ⟨_, rfl⟩
    rw [hf, hg] at LA SK
    obtain ⟨c, hc⟩ : ∃ c, 60 * z = c := ⟨_, rfl⟩
    rw [hc] at AH DO
    rw [h] at CK ⊢
    cases r with
    | none =>
      simp only [Option.getD_none, Option.isSome_none] at SK
      clear h hk hok hf hg L hr hc hz ht RB
      go_enter Tryd.func22, Tryd.ntmps22
      go_wp2_with (first
        | (go_at_call 33; refine (CK.out _ RW.out).mono ?_; rintro e V ⟨rfl, hb⟩; have Q := Lib.hid (BC.one LL.out hb); obtain ⟨y0, y1, y2, y3, y4, y5, y6, y7⟩ := Q.out.cells; clear hb)
        | (go_at_call 34; refine (LA.out _).mono ?_; rintro e V' ⟨rfl, rfl⟩)
        | (go_at_call 39; refine (SK.out _ Q.out.lay).mono ?_; rintro e V' ⟨rfl, hb⟩; have Q := Lib.hid (Q.out.next hb); clear hb))
      go_ret3
      exact ⟨by rw [DO.out]; rfl, Q.out.be⟩
    | some u =>
      simp only [Option.getD_some, Option.isSome_some] at SK
      have ws : IntKind.i64.wrap (u - c) = u - c := by have := RB u rfl; rw [IntKind.wrap_i64]; omega
      clear h hk hok hf hg L hr hc hz ht RB
      go_enter Tryd.func22, Tryd.ntmps22
      go_wp2_with (first
        | (go_at_call 33; refine (CK.out _ RW.out).mono ?_; rintro e V ⟨rfl, hb⟩; have Q := Lib.hid (BC.one LL.out hb); obtain ⟨y0, y1, y2, y3, y4, y5, y6, y7⟩ := Q.out.cells; clear hb)
        | (go_at_call 34; refine (LA.out _).mono ?_; rintro e V' ⟨rfl, rfl⟩)
        | (go_at_call 39; refine (SK.out _ Q.out.lay).mono ?_; rintro e V' ⟨rfl, hb⟩; have Q := Lib.hid (Q.out.next hb); clear hb)
        | (go_at_call 45; refine (AH.out _).mono ?_; rintro e V'' ⟨rfl, rfl⟩))
      go_ret3
      exact ⟨by rw [DO.out]; rfl, Q.out.be⟩
  · have DO : Hid (nextO x z t = none) := Lib.hid (by unfold nextO; rw [if_neg h])
    obtain ⟨E, hE⟩ : ∃ E, errC x z [t] = E := ⟨_, rfl⟩
    rw [hE] at h CK ⊢
    have t1 : (E != 0) = true := by rw [bne_iff_ne]; exact h
    clear h hE L
    go_enter Tryd.func22, Tryd.ntmps22
    go_wp2_with (first
      | (go_at_call 33; refine (CK.out _ RW.out).mono ?_; rintro e V ⟨rfl, hb⟩; have Q := Lib.hid (BC.one LL.out hb); clear hb))
    go_ret3
    exact ⟨by rw [DO.out]; rfl, Q.out.be⟩
set_option maxRecDepth 100000 in
set_option maxHeartbeats 4000000 in
theorem mprev_any (x : Exp.Ex) (hx : x.Bd) (z t : Int) (w : World) (L : LayM w) :
    Calls Tryd.prog 24 #[.agg #[.int .u64 x.a0, .int .u64 x.a1, .int .u64 x.a2, .int .u64 x.a3, .int .u64 x.a4, .int .u64 x.a5, .bool x.b3, .bool x.b5], .int .i64 z, .int .i64 t] w fun e W' => e = .returned (.tuple #[.int .i64 ((prevO x z t).getD 0), .bool (prevO x z t).isSome, .int .i64 (errC x z [t])]) ∧ Below w.heap.size w W' := by
  have CK := Lib.hid (fun w0 R => mcheck_any x hx z (w.heap.size + 1) [t] (by simp) w0 R)
  have RW := Lib.hid (one_row x t w)
  have LL := Lib.hid L
  by_cases h : errC x z [t] = 0
  · obtain ⟨hk, hz, ht⟩ := errC_one h
    have hok := Exp.okB_iff.1 hk
    have LA := Lib.hid (fun w0 : World => local_any z 0 (t - 1) (loc0 z 0) (loc1 z (t - 1)) w0 hz.1 hz.2 (by omega) (by omega) (by omega) (by omega) rfl rfl)
    have AH := Lib.hid (fun w0 : World => ahead_any z w0 hz.1 hz.2)
    obtain ⟨r, hr⟩ : ∃ r, Mat.Dir.down.seek x (loc1 z (t - 1)) (loc0 z 0) = r := ⟨_, rfl⟩
    have SK := Lib.hid (fun w0 L0 => seek_down x hok (loc1 z (t - 1)) (loc0 z 0) (r.getD 0) r.isSome hr rfl rfl (by have := loc_bd (z := z) (a := 0) (b := (t - 1)) hz.1 hz.2 (by omega) (by omega) (by omega) (by omega); omega) loc_in' w0 L0)
    have DO : Hid (prevO x z t = r.map (· - 60 * z)) := Lib.hid (by unfold prevO; rw [if_pos h, hr])
    have RB : ∀ u, r = some u → 0 ≤ u ∧ u ≤ 253402300799 := fun u hu => by
      have q := seek_is (d := .down) hok (loc1 z (t - 1)) (loc0 z 0)
      rw [hr, hu] at q
      exact lm_in q.2.2.1
    have wt : IntKind.i64.wrap (t - 1) = t - 1 := by rw [IntKind.wrap_i64]; omega
    obtain ⟨f, hf⟩ : ∃ f, loc0 z 0 = f := ⟨_, rfl⟩
    obtain ⟨g, hg⟩ : ∃ g, loc1 z (t - 1) = g := ⟨_, rfl⟩
    rw [hf, hg] at LA SK
    obtain ⟨c, hc⟩ : ∃ c, 60 * z = c := ⟨_, rfl⟩
    rw [hc] at AH DO
    rw [h] at CK ⊢
    cases r with
    | none =>
      simp only [Option.getD_none, Option.isSome_none] at SK
      clear h hk hok hf hg L hr hc hz ht RB
      go_enter Tryd.func24, Tryd.ntmps24
      go_wp2_with (first
        | (go_at_call 33; refine (CK.out _ RW.out).mono ?_; rintro e V ⟨rfl, hb⟩; have Q := Lib.hid (BC.one LL.out hb); obtain ⟨y0, y1, y2, y3, y4, y5, y6, y7⟩ := Q.out.cells; clear hb)
        | (go_at_call 34; refine (LA.out _).mono ?_; rintro e V' ⟨rfl, rfl⟩)
        | (go_at_call 39; refine (SK.out _ Q.out.lay).mono ?_; rintro e V' ⟨rfl, hb⟩; have Q := Lib.hid (Q.out.next hb); clear hb))
      go_ret3
      exact ⟨by rw [DO.out]; rfl, Q.out.be⟩
    | some u =>
      simp only [Option.getD_some, Option.isSome_some] at SK
      have ws : IntKind.i64.wrap (u - c) = u - c := by have := RB u rfl; rw [IntKind.wrap_i64]; omega
      clear h hk hok hf hg L hr hc hz ht RB
      go_enter Tryd.func24, Tryd.ntmps24
      go_wp2_with (first
        | (go_at_call 33; refine (CK.out _ RW.out).mono ?_; rintro e V ⟨rfl, hb⟩; have Q := Lib.hid (BC.one LL.out hb); obtain ⟨y0, y1, y2, y3, y4, y5, y6, y7⟩ := Q.out.cells; clear hb)
        | (go_at_call 34; refine (LA.out _).mono ?_; rintro e V' ⟨rfl, rfl⟩)
        | (go_at_call 39; refine (SK.out _ Q.out.lay).mono ?_; rintro e V' ⟨rfl, hb⟩; have Q := Lib.hid (Q.out.next hb); clear hb)
        | (go_at_call 45; refine (AH.out _).mono ?_; rintro e V'' ⟨rfl, rfl⟩))
      go_ret3
      exact ⟨by rw [DO.out]; rfl, Q.out.be⟩
  · have DO : Hid (prevO x z t = none) := Lib.hid (by unfold prevO; rw [if_neg h])
    obtain ⟨E, hE⟩ : ∃ E, errC x z [t] = E := ⟨_, rfl⟩
    rw [hE] at h CK ⊢
    have t1 : (E != 0) = true := by rw [bne_iff_ne]; exact h
    clear h hE L
    go_enter Tryd.func24, Tryd.ntmps24
    go_wp2_with (first
      | (go_at_call 33; refine (CK.out _ RW.out).mono ?_; rintro e V ⟨rfl, hb⟩; have Q := Lib.hid (BC.one LL.out hb); clear hb))
    go_ret3
    exact ⟨by rw [DO.out]; rfl, Q.out.be⟩
/-- what Ever returns -/
noncomputable def everO (x : Exp.Ex) : Bool := if x.okB = true then @decide x.Evr (Classical.propDecidable _) else false
theorem everO_iff {x : Exp.Ex} (h : x.okB = true) : everO x = true ↔ x.Evr := by unfold everO; rw [if_pos h]; exact @decide_eq_true_iff _ (Classical.propDecidable _)
set_option maxRecDepth 100000 in
set_option maxHeartbeats 4000000 in
theorem mever_any (x : Exp.Ex) (hx : x.Bd) (w : World) (L : LayM w) :
    Calls Tryd.prog 19 #[.agg #[.int .u64 x.a0, .int .u64 x.a1, .int .u64 x.a2, .int .u64 x.a3, .int .u64 x.a4, .int .u64 x.a5, .bool x.b3, .bool x.b5]] w fun e W' => e = .returned (.tuple #[.bool (everO x), .int .i64 (errOk x.okB)]) ∧ Below w.heap.size w W' := by
  have CK := Lib.hid (fun w0 : World => check_ex x hx w0)
  have LL := Lib.hid L
  have HB := Lib.hid ((Below.refl _ w).alloc (Nat.le_refl _) (.cells #[.int .u64 x.a0, .int .u64 x.a1, .int .u64 x.a2, .int .u64 x.a3, .int .u64 x.a4, .int .u64 x.a5, .bool x.b3, .bool x.b5] 24))
  have R0 := Lib.hid (Row.new w (exL x) 24)
  cases h : x.okB with
  | false =>
    have DO : Hid (everO x = false) := Lib.hid (by unfold everO; rw [if_neg (by rw [h]; simp)])
    rw [h] at CK
    simp only [errOk, Bool.false_eq_true, if_false] at CK ⊢
    clear h L hx
    go_enter Tryd.func19, Tryd.ntmps19
    go_wp2_with (go_at_call 41; refine (CK.out _).mono ?_; rintro e V ⟨rfl, hb⟩; have HV := Lib.hid (HB.out.trans (hb.mono HB.out.size)); clear hb)
    go_ret2
    exact ⟨by rw [DO.out]; rfl, HV.out⟩
  | true =>
    have EV := Lib.hid (fun w0 L0 => ever_any x (Exp.okB_iff.1 h) (everO x) (everO_iff h) w0 L0)
    obtain ⟨r, hr⟩ : ∃ r, everO x = r := ⟨_, rfl⟩
    rw [hr] at EV ⊢
    rw [h] at CK
    simp only [errOk, if_true] at CK ⊢
    clear h L hx hr
    go_enter Tryd.func19, Tryd.ntmps19
    go_wp2_with (first
      | (go_at_call 41; refine (CK.out _).mono ?_; rintro e V ⟨rfl, hb⟩; have HV := Lib.hid (HB.out.trans (hb.mono HB.out.size)); obtain ⟨y0, y1, y2, y3, y4, y5, y6, y7⟩ := row_cells (R0.out.below hb); clear hb)
      | (go_at_call 42; refine (EV.out _ (LL.out.below HV.out)).mono ?_; rintro e V' ⟨rfl, hb⟩; have HV := Lib.hid (HV.out.trans (hb.mono HV.out.size)); clear hb))
    go_ret2
    exact ⟨rfl, HV.out⟩
end Go.Proofs.YtbehendogcghjaaDoor
