/- For all kinds 'k', sets 'set' and bools 'star', FieldPrints returns true: whether a kind is valid, its full set, and what is written for a set are as the document says. Conditions: the variables of Go's library that the row lists start as the program's text lays them (tied). -/
import Derived.Test.YtlmbfhbfejjpdaaGreatDoorFldKind
import Derived.Test.YtlmbfhbfejjpdaaGreatDoorFldHH
import Derived.Deep.RegionHeld3
namespace Go.Proofs.YtlmbfhbfejjpdaaGreatDoor.fieldPrints
open Go.ChangeShapes Go.WideShapes Go.ChangeAt Go.RowKit Go.ChangeMaps

/-- the world in FieldPrints -/
structure PCtx (w W : World) (lo hi : Int) (v : Value) (xs : List ByteArray) (wk : Bool) : Prop where
  kb : KBox w W w.heap.size lo hi v xs wk
  lay : Lay W
theorem PCtx.next {w W W' : World} {lo hi : Int} {v : Value} {xs : List ByteArray} {wk : Bool} (h : PCtx w W lo hi v xs wk) (hb : Below W.heap.size W W') : PCtx w W' lo hi v xs wk := ⟨h.kb.next hb, h.lay.below hb⟩
theorem PCtx.drew {w W : World} {lo hi : Int} {v : Value} {xs : List ByteArray} {wk : Bool} (h : PCtx w W lo hi v xs wk) : PCtx w W.drew lo hi v xs wk := h.next ((Below.refl _ W).drew)
theorem p_spec {w W : World} {lo hi : Int} {v : Value} {xs : List ByteArray} {wk : Bool} (h : PCtx w W lo hi v xs wk) : Calls Tryz.prog 8 #[.agg #[.int .i64 lo, .int .i64 hi, v, .bool wk]] W fun e W' => e = .returned (.agg #[.int .i64 lo, .int .i64 hi, v, .bool wk]) ∧ PCtx w W' lo hi v xs wk :=
  (spec_any lo hi v xs wk W h.kb.strs).mono fun _ _ ⟨h1, h2⟩ => ⟨h1, h.next h2⟩
theorem p_ref {w W : World} {lo hi : Int} {v : Value} {xs : List ByteArray} {wk : Bool} (h : PCtx w W lo hi v xs wk) : Calls Tryz.prog 10 #[.agg #[.int .i64 lo, .int .i64 hi, v, .bool wk]] W fun e W' => e = .returned (.agg #[.int .i64 lo, .int .i64 hi, v, .bool wk]) ∧ PCtx w W' lo hi v xs wk :=
  (ref_any lo hi v xs wk W h.kb.strs).mono fun _ _ ⟨h1, h2⟩ => ⟨h1, h.next h2⟩
theorem p_check {w W : World} {lo hi : Int} {v : Value} {xs : List ByteArray} {wk : Bool} {q : Int} (h : PCtx w W lo hi v xs wk) (hs : ∀ x ∈ xs, x.size ≤ 9223372036854775807) (hc : ErrOf lo hi xs wk q) : Calls Tryz.prog 18 #[.agg #[.int .i64 lo, .int .i64 hi, v, .bool wk]] W fun e W' => e = .returned (.int .i64 q) ∧ PCtx w W' lo hi v xs wk :=
  (check_any lo hi v xs wk q W h.kb.strs hs hc).mono fun _ _ ⟨h1, h2⟩ => ⟨h1, h.next h2⟩
theorem p_checkR {w W : World} {lo hi : Int} {v : Value} {xs : List ByteArray} {wk : Bool} {q : Int} (h : PCtx w W lo hi v xs wk) (hs : ∀ x ∈ xs, x.size ≤ 9223372036854775807) (hc : ErrOf lo hi xs wk q) : Calls Tryz.prog 19 #[.agg #[.int .i64 lo, .int .i64 hi, v, .bool wk]] W fun e W' => e = .returned (.int .i64 q) ∧ PCtx w W' lo hi v xs wk :=
  (checkR_any lo hi v xs wk q W h.kb.strs hs hc).mono fun _ _ ⟨h1, h2⟩ => ⟨h1, h.next h2⟩
theorem p_works {w W : World} {lo hi : Int} {v : Value} {xs : List ByteArray} {wk : Bool} (h : PCtx w W lo hi v xs wk) : Calls Tryz.prog 6 #[] W fun e W' => e = .returned (.bool true) ∧ PCtx w W' lo hi v xs wk :=
  (works_any W h.lay).mono fun _ _ ⟨h1, h2⟩ => ⟨h1, h.next h2⟩
set_option maxRecDepth 100000 in
set_option maxHeartbeats 4000000 in
theorem walk (lo hi : Int) (v : Value) (xs : List ByteArray) (wk : Bool) (q0 : Int) (star : Bool) (w : World) (L : Lay w) (hk : IsStrs w v xs ∧ xs.length ≤ 9223372036854775807 ∧ ∀ x ∈ xs, x.size ≤ 9223372036854775807) (hu : (Lit.int .u64 q0).wf = true) :
    Calls Tryz.prog 4 #[.agg #[.int .i64 lo, .int .i64 hi, v, .bool wk], .int .u64 q0, .bool star] w fun e w' => e = .returned (.bool true) ∧ Below w.heap.size w w' := by
  obtain ⟨S, rfl, hS⟩ := setU64 hu
  obtain ⟨hv, hl, hs⟩ := hk
  obtain ⟨b, _, hsh⟩ := short_any lo hi xs wk hl hs
  have X := Lib.hid (KBox.new w lo hi v xs wk 24 hv)
  have LL := Lib.hid (L.below X.out.below)
  have SH := Lib.hid (fun w hv => hsh v w hv)
  have SP := Lib.hid (fun w hv => spec_any lo hi v xs wk w hv)
  have RF := Lib.hid (fun w hv => ref_any lo hi v xs wk w hv)
  obtain ⟨t, q, hp⟩ := printIs_ex lo hi xs wk S star
  obtain ⟨F, fq, hf⟩ := fullIs_ex lo hi xs wk
  obtain ⟨cq, hc⟩ := errOf_ex lo hi xs wk
  have PR := Lib.hid (fun w L hv => print_any lo hi v xs wk S star t q w L hv hS hs hp)
  have PQ := Lib.hid (fun w hv => printR_any lo hi v xs wk S star t q w hv hS hs hp)
  have FU := Lib.hid (fun w hv => full_any lo hi v xs wk F fq w hv hs hf)
  have FR := Lib.hid (fun w hv => fullR_any lo hi v xs wk F fq w hv hs hf)
  have HS := Lib.hid hs
  have HC := Lib.hid hc
  have se : (t.toList == t.toList) = true := by simp
  have sn : (t.toList != t.toList) = false := by simp
  obtain ⟨A, cap, rfl, _, _⟩ := hv
  clear hsh hl hs hp hf hc L hu hS
  cases b with
  | false =>
    clear se sn SP RF PR PQ FU FR HS HC
    go_enter Tryz.func4, Tryz.ntmps4
    go_wp2_with fail
    refine (SH.out _ X.out.strs).mono ?_
    rintro e w1 ⟨rfl, hb⟩
    have X := Lib.hid (X.out.next hb)
    have LL := Lib.hid (LL.out.below hb)
    clear hb
    go_wp2_with fail
    refine (works_any _ LL.out).mono ?_
    rintro e w2 ⟨rfl, hb⟩
    have X := Lib.hid (X.out.next hb)
    clear hb
    go_wp2_with fail
    go_ret
    exact ⟨rfl, X.out.below⟩
  | true =>
    go_enter Tryz.func4, Tryz.ntmps4
    go_wp2_with fail
    refine (SH.out _ X.out.strs).mono ?_
    rintro e w1 ⟨rfl, hb⟩
    have X := Lib.hid (X.out.next hb)
    have LL := Lib.hid (LL.out.below hb)
    clear hb
    obtain ⟨_, _, _, c0, c1, c2, c3⟩ := X.out
    go_wp2_with fail
    refine (SP.out _ X.out.strs).mono ?_
    rintro e w2 ⟨rfl, hb⟩
    have X := Lib.hid (X.out.next hb)
    have LL := Lib.hid (LL.out.below hb)
    clear hb c0 c1 c2 c3
    go_wp2_with fail
    refine (PR.out _ LL.out X.out.strs).mono ?_
    rintro e w3 ⟨rfl, hb⟩
    have X := Lib.hid (X.out.next hb)
    have LL := Lib.hid (LL.out.below hb)
    clear hb
    obtain ⟨_, _, _, c0, c1, c2, c3⟩ := X.out
    go_wp2_with fail
    refine (RF.out _ X.out.strs).mono ?_
    rintro e w4 ⟨rfl, hb⟩
    have X := Lib.hid (X.out.next hb)
    have LL := Lib.hid (LL.out.below hb)
    clear hb c0 c1 c2 c3
    go_wp2_with fail
    refine (PQ.out _ X.out.strs).mono ?_
    rintro e w5 ⟨rfl, hb⟩
    have X := Lib.hid (X.out.next hb)
    have LL := Lib.hid (LL.out.below hb)
    clear hb
    obtain ⟨_, _, _, c0, c1, c2, c3⟩ := X.out
    go_wp2_with fail
    refine (SP.out _ X.out.strs).mono ?_
    rintro e w6 ⟨rfl, hb⟩
    have X := Lib.hid (X.out.next hb)
    have LL := Lib.hid (LL.out.below hb)
    clear hb c0 c1 c2 c3
    go_wp2_with fail
    refine (FU.out _ X.out.strs).mono ?_
    rintro e w7 ⟨rfl, hb⟩
    have X := Lib.hid (X.out.next hb)
    have LL := Lib.hid (LL.out.below hb)
    clear hb
    obtain ⟨_, _, _, c0, c1, c2, c3⟩ := X.out
    go_wp2_with fail
    refine (RF.out _ X.out.strs).mono ?_
    rintro e w8 ⟨rfl, hb⟩
    have X := Lib.hid (X.out.next hb)
    have LL := Lib.hid (LL.out.below hb)
    clear hb c0 c1 c2 c3
    go_wp2_with fail
    refine (FR.out _ X.out.strs).mono ?_
    rintro e w9 ⟨rfl, hb⟩
    have X := Lib.hid (X.out.next hb)
    have LL := Lib.hid (LL.out.below hb)
    clear hb
    have Q : Hid (PCtx w _ lo hi (.slice A xs.length cap) xs wk) := Lib.hid ⟨X.out, LL.out⟩
    obtain ⟨_, _, _, c0, c1, c2, c3⟩ := X.out
    go_wp2_with fail
    go_region_held3 (fun w' => w'.cell? ⟨w.heap.size, 0, none⟩ = some (.int .i64 lo) ∧ w'.cell? ⟨w.heap.size, 1, none⟩ = some (.int .i64 hi) ∧ w'.cell? ⟨w.heap.size, 2, none⟩ = some (.slice A xs.length cap) ∧ w'.cell? ⟨w.heap.size, 3, none⟩ = some (.bool wk)) (go_keep)
      (first | (go_at_call 8; refine (p_spec (by first | exact Q.out | exact Q.out.drew)).mono ?_; rintro e w20 ⟨rfl, q'⟩; have Q := Lib.hid q'; clear q'; have c0 := Q.out.kb.c0; have c1 := Q.out.kb.c1; have c2 := Q.out.kb.c2; have c3 := Q.out.kb.c3) | (go_at_call 18; refine (p_check (by first | exact Q.out | exact Q.out.drew) HS.out HC.out).mono ?_; rintro e w20 ⟨rfl, q'⟩; have Q := Lib.hid q'; clear q'; have c0 := Q.out.kb.c0; have c1 := Q.out.kb.c1; have c2 := Q.out.kb.c2; have c3 := Q.out.kb.c3) | (go_at_call 10; refine (p_ref (by first | exact Q.out | exact Q.out.drew)).mono ?_; rintro e w20 ⟨rfl, q'⟩; have Q := Lib.hid q'; clear q'; have c0 := Q.out.kb.c0; have c1 := Q.out.kb.c1; have c2 := Q.out.kb.c2; have c3 := Q.out.kb.c3) | (go_at_call 19; refine (p_checkR (by first | exact Q.out | exact Q.out.drew) HS.out HC.out).mono ?_; rintro e w20 ⟨rfl, q'⟩; have Q := Lib.hid q'; clear q'; have c0 := Q.out.kb.c0; have c1 := Q.out.kb.c1; have c2 := Q.out.kb.c2; have c3 := Q.out.kb.c3) | (go_at_call 6; refine (p_works (by first | exact Q.out | exact Q.out.drew)).mono ?_; rintro e w20 ⟨rfl, q'⟩; have Q := Lib.hid q'; clear q'; have c0 := Q.out.kb.c0; have c1 := Q.out.kb.c1; have c2 := Q.out.kb.c2; have c3 := Q.out.kb.c3))
    go_wp2_with fail
    go_ret
    exact ⟨rfl, Q.out.kb.below⟩

set_option maxRecDepth 100000 in
theorem lifted (os : Os) (started : os.Started) (H : Type) (enc : TypeId × Value → H) :
    ReturnsInHanded {} Tryz.checked os 4 .any (fun w args => (Rows.fieldPrintsSpec.pre enc Tryz.prog Tryz.f4 [] false w args ∧ laidMetH Tryz.prog Rows.fieldPrintsRow.laid w) ∧ sizedMet enc Tryz.prog Tryz.f4 (OpenSpec.ofChange Rows.fieldPrintsSpec) false w args)
      (Rows.fieldPrintsSpec.post enc Tryz.prog Tryz.f4 false true false false) := by
  refine returnsInHanded_of_change_and (C := Tryz.checked) (X := fun w _ => laidMetH Tryz.prog Rows.fieldPrintsRow.laid w) (fun _ _ _ hh h => h.of_heap hh) own started (by kernel_rfl) Tryz.func4
    (ChangeSpec.witness_shaped (enc := enc) (C := Tryz.checked) (os := os) (X := fun w _ => laidMetH Tryz.prog Rows.fieldPrintsRow.laid w) false (World.laidAll Tryz.prog os Rows.fieldPrintsRow.laid) #[.agg #[.int .i64 0, .int .i64 0, .slice none 0 0, .bool false], .int .u64 0, .bool false] 8 (World.laidAll_os _ _ _) (World.shaped_of_ZipB (by kernel_rfl) (by kernel_rfl)) (by kernel_rfl) (by kernel_rfl) (by kernel_rfl) (by rw [MakeChecks.laidMetH_plain _ _ _ (by kernel_rfl)]; exact laidMet_laidAll _ (by kernel_rfl) (by kernel_rfl))) ?_
  intro W base args ds gs before hval0 hW _ _ hL _
  have hval : ∀ (j : Nat) t v, Tryz.f4.params[j]? = some t → args[j]? = some v → Value.okWide Tryz.prog W .any base t v := hval0
  have hW' := hW
  obtain ⟨p, q, hA0, hV, rfl, hfz, hnd⟩ := hW
  have hA : DataW.TrodAll enc Tryz.prog W 0 (fun _ => true) true Tryz.f4.params.toList args.toList ds p := hA0
  rw [Tryz.params4] at hA hval
  obtain ⟨v0, vs0, d0, ds0, p0, q0, hargs, rfl, rfl, h0, r0⟩ := trodAll_cons hA
  obtain ⟨v1, vs1, d1, ds1, p1, q1, rfl, rfl, rfl, h1, r1⟩ := trodAll_cons r0
  obtain ⟨v2, vs2, d2, ds2, p2, q2, rfl, rfl, rfl, h2, r2⟩ := trodAll_cons r1
  obtain ⟨rfl, rfl, rfl⟩ := trodAll_nil r2
  obtain rfl : args = #[v0, v1, v2] := by cases args; simp_all
  obtain ⟨rfl, rfl⟩ := trodVars_none hV
  obtain ⟨lo0, hi0, u0, xs0, wk0, rfl, w0⟩ := open_kind (hval 0 24 v0 rfl rfl) h0
  have k0 := h0
  have lt0 : ∀ x ∈ p0, x.block < W.heap.size := by obtain ⟨m, hm⟩ := k0; exact DataW.trod_lt m _ _ _ hm
  obtain ⟨a1, rfl, rfl, rfl, w1⟩ := open_int Tryz.underlying26 (hval 1 26 v1 rfl rfl) h1
  obtain ⟨a2, rfl, rfl, rfl⟩ := open_bool Tryz.underlying4 (hval 2 4 v2 rfl rfl) h2
  clear hA0 hval0
  refine (walk lo0 hi0 u0 xs0 wk0 a1 a2 W (lay_of _ W (by kernel_rfl) (.tail _ (.head _)) (by kernel_rfl) hL) w0 w1).mono fun e W' ⟨he, bel⟩ => ?_
  subst he
  exact ⟨_, rfl, _, _, _, [], _, [], hW', trodAll_mk1 (shut_bool Tryz.underlying4 _), (trodAll_cons_mk (Below.trod laidOut (by kernel_rfl) (of_decide_eq_true (by kernel_rfl)) k0 bel lt0) (trodAll_cons_mk (shut_int Tryz.underlying26 w1) (trodAll_cons_mk (shut_bool Tryz.underlying4 _) trodAll_mk0))), rfl, bel.frame _, fun h => by cases h⟩

theorem row_holds : Rows.FieldPrintsSaid :=
  OpenClaim.holds_of_wide 4 Tryz.f4 rfl rfl rfl rfl rfl rfl rfl ⟨rfl, rfl, rfl, rfl, rfl⟩ rfl rfl rfl rfl rfl (by kernel_rfl) Tryz.func4 (by kernel_rfl)
    (of_decide_eq_true (by kernel_rfl)) (by unfold Func.isWrapper; first | (rw [if_pos (by decide +kernel)]; kernel_rfl) | (rw [if_neg (by decide +kernel)]; exact ⟨rfl, rfl⟩))
    (fun os started H enc _ => lifted os started H enc)

theorem proved : Rows.FieldPrintsCardSaid :=
  Claim7.holds_tied_plain_at .later [] Rows.fieldPrintsCard.laidKinds true Rows.fieldPrintsCard.stood.harness Rows.fieldPrintsCard.stood.looks
    row_holds (fun _ h => by cases h) (by kernel_rfl) (fun _ h => by cases h) fieldPrints_row_tie rfl ⟨rfl, rfl⟩ (by kernel_rfl) rfl
    (fun f fn hf hfn => by
      obtain rfl : f = 4 := Option.some.inj ((show Tryz.prog.funcNamed Rows.fieldPrintsRow.func = some 4 by kernel_rfl).symm.trans hf) |>.symm
      obtain rfl : fn = Tryz.f4 := (Option.some.inj (Tryz.func4.symm.trans hfn)).symm
      exact ⟨looks0, fun j t ht => by
        rw [Tryz.params4] at ht
        have hm : t ∈ [24, 26, 4] := by simpa using Array.mem_of_getElem? ht
        have hall : ([24, 26, 4].all fun u => !Tryz.prog.wantsStandIn u) = true := by kernel_rfl
        exact (show Tryz.prog.wantsStandIn t = false by simpa using List.all_eq_true.1 hall t hm)⟩)
    (by kernel_rfl)
end Go.Proofs.YtlmbfhbfejjpdaaGreatDoor.fieldPrints
