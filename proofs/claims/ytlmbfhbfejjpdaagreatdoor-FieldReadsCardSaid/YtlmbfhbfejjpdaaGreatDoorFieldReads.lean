/- For all kinds 'k' and texts s, FieldReads returns true: texts are read as fields as the document says, and so are normal fields, and the kind stays as it is (kinds with more than 70 names, or with a name of more than 20 bytes, and texts of more than 300 bytes are not asked). Conditions: the variables of Go's library that the row lists start as the program's text lays them (tied). -/
import Derived.Test.YtlmbfhbfejjpdaaGreatDoorFldKind
import Derived.Test.YtlmbfhbfejjpdaaGreatDoorFldNN
import Derived.Laws.AppendOwnNone
namespace Go.Proofs.YtlmbfhbfejjpdaaGreatDoor.fieldReads
open Go.ChangeShapes Go.WideShapes Go.ChangeAt Go.RowKit Go.ChangeMaps

set_option maxRecDepth 100000 in
set_option maxHeartbeats 8000000 in
theorem walk (lo hi : Int) (v : Value) (xs : List ByteArray) (wk : Bool) (s : ByteArray) (w : World) (L : Lay w) (hk : IsStrs w v xs ∧ xs.length ≤ 9223372036854775807 ∧ ∀ x ∈ xs, x.size ≤ 9223372036854775807) (hnil : v = .slice none 0 0 ∨ ∃ x n c, v = .slice (some x) n c) (hsz : s.size ≤ maxLen) :
    Calls Tryz.prog 3 #[.agg #[.int .i64 lo, .int .i64 hi, v, .bool wk], .string s] w fun e w' => e = .returned (.bool true) ∧ Below w.heap.size w w' := by
  unfold maxLen at hsz
  obtain ⟨hv, hl, hs⟩ := hk
  obtain ⟨b, hb70, hsh⟩ := short_any lo hi xs wk hl hs
  have X := Lib.hid (KBox.new w lo hi v xs wk 24 hv)
  have LL := Lib.hid (L.below X.out.below)
  have SH := Lib.hid (fun w hv => hsh v w hv)
  have SP := Lib.hid (fun w hv => spec_any lo hi v xs wk w hv)
  have RF := Lib.hid (fun w hv => ref_any lo hi v xs wk w hv)
  have TX := Lib.hid (fun v v' w hv hv' => texts_same v v' xs w hl hv hv')
  obtain ⟨S, star, a, er, hp⟩ := parseIs_ex lo hi xs wk s
  obtain ⟨t, ta, te, hn⟩ := normIs_ex lo hi xs wk s
  have PA := Lib.hid (fun h3 w hv => parse_any lo hi v xs wk s S star a er w hv h3 hs hp)
  have PR := Lib.hid (fun h3 w hv => parseR_any lo hi v xs wk s S star a er w hv h3 hs hp)
  have NA := Lib.hid (fun h3 w L hv => normal_any lo hi v xs wk s t ta te w L hv h3 hs hn)
  have NR := Lib.hid (fun h3 w hv => normalR_any lo hi v xs wk s t ta te w hv h3 hs hn)
  have se : (t.toList == t.toList) = true := by simp
  have sn : (t.toList != t.toList) = false := by simp
  obtain ⟨i0, hi', hz0, hz1, hz2⟩ := info_parts infoStr
  have hi := hi'
  clear hi' hsh hs hp hn L
  cases b with
  | false =>
    obtain ⟨A, cap, rfl, _, _⟩ := hv
    clear se sn SP RF PA PR NA NR TX
    go_enter Tryz.func3, Tryz.ntmps3
    go_wp2_with fail
    refine (SH.out _ X.out.strs).mono ?_
    rintro e w1 ⟨rfl, hb⟩
    have X := Lib.hid (X.out.next hb)
    have LL := Lib.hid (LL.out.below hb)
    clear hb
    go_wp2_with fail
    refine (works_any _ LL.out).mono ?_
    rintro e w2 ⟨rfl, hb⟩
    have X := Lib.hid (X.out.next hb)
    clear hb
    go_wp2_with fail
    go_ret
    exact ⟨rfl, X.out.below⟩
  | true =>
    by_cases h3 : 300 < s.size
    · have t3 : decide ((300 : Int) < (s.size : Int)) = true := by rw [decide_eq_true_iff]; omega
      have t3n : decide (300 < s.size) = true := by rw [decide_eq_true_iff]; omega
      obtain ⟨A, cap, rfl, _, _⟩ := hv
      clear se sn SP RF PA PR NA NR TX
      go_enter Tryz.func3, Tryz.ntmps3
      go_wp2_with fail
      refine (SH.out _ X.out.strs).mono ?_
      rintro e w1 ⟨rfl, hb⟩
      have X := Lib.hid (X.out.next hb)
      have LL := Lib.hid (LL.out.below hb)
      clear hb
      go_wp2_with fail
      refine (works_any _ LL.out).mono ?_
      rintro e w2 ⟨rfl, hb⟩
      have X := Lib.hid (X.out.next hb)
      clear hb
      go_wp2_with fail
      go_ret
      exact ⟨rfl, X.out.below⟩
    · have t3 : decide ((300 : Int) < (s.size : Int)) = false := by rw [decide_eq_false_iff_not]; omega
      have t3n : decide (300 < s.size) = false := by rw [decide_eq_false_iff_not]; omega
      have PA := Lib.hid (fun w hv => PA.out (by omega) w hv)
      have PR := Lib.hid (fun w hv => PR.out (by omega) w hv)
      have NA := Lib.hid (fun w L hv => NA.out (by omega) w L hv)
      have NR := Lib.hid (fun w hv => NR.out (by omega) w hv)
      have hx70 : xs.length ≤ 70 := (hb70 rfl).1
      rcases hnil with rfl | ⟨x, m, c, rfl⟩
      · obtain ⟨A, cap, e, _, _⟩ := hv
        simp only [Value.slice.injEq] at e
        obtain rfl : xs = [] := List.length_eq_zero_iff.1 e.2.1.symm
        clear e h3
        go_enter Tryz.func3, Tryz.ntmps3
        go_wp2_with fail
        refine (SH.out _ X.out.strs).mono ?_
        rintro e w1 ⟨rfl, hb⟩
        have X := Lib.hid (X.out.next hb)
        have LL := Lib.hid (LL.out.below hb)
        clear hb
        obtain ⟨_, _, _, c0, c1, c2, c3⟩ := X.out
        go_wp2_with (at_builtin; refine wpList_append_own_none rfl _ _ 22 rfl w1.heap.size 9 i0 1 Tryz.underlying22 hi _ _ _ rfl (own_empty w1 9 _ rfl) rfl ?_)
        have B1 : Below w1.heap.size w1 (w1.alloc (.cells #[] 9)) := (Below.refl _ _).alloc (Nat.le_refl _) _
        have X := Lib.hid (X.out.next B1)
        have LL := Lib.hid (LL.out.below B1)
        have NV : Hid (IsStrs (w1.alloc (.cells #[] 9)) (.slice (some ⟨w1.heap.size, 0, none⟩) 0 0) []) := Lib.hid ⟨_, 0, rfl, Nat.le_refl _, fun h => by simp at h⟩
        clear c0 c1 c2 c3 B1
        obtain ⟨_, _, _, c0, c1, c2, c3⟩ := X.out
        go_wp2_with fail
        refine (SP.out _ X.out.strs).mono ?_
        rintro e w2 ⟨rfl, hb⟩
        have X := Lib.hid (X.out.next hb)
        have LL := Lib.hid (LL.out.below hb)
        have NV := Lib.hid (NV.out.below hb)
        clear hb c0 c1 c2 c3
        go_wp2_with fail
        refine (PA.out _ X.out.strs).mono ?_
        rintro e w3 ⟨rfl, hb⟩
        have X := Lib.hid (X.out.next hb)
        have LL := Lib.hid (LL.out.below hb)
        have NV := Lib.hid (NV.out.below hb)
        clear hb
        obtain ⟨_, _, _, c0, c1, c2, c3⟩ := X.out
        go_wp2_with fail
        refine (RF.out _ X.out.strs).mono ?_
        rintro e w4 ⟨rfl, hb⟩
        have X := Lib.hid (X.out.next hb)
        have LL := Lib.hid (LL.out.below hb)
        have NV := Lib.hid (NV.out.below hb)
        clear hb c0 c1 c2 c3
        go_wp2_with fail
        refine (PR.out _ X.out.strs).mono ?_
        rintro e w5 ⟨rfl, hb⟩
        have X := Lib.hid (X.out.next hb)
        have LL := Lib.hid (LL.out.below hb)
        have NV := Lib.hid (NV.out.below hb)
        clear hb
        obtain ⟨_, _, _, c0, c1, c2, c3⟩ := X.out
        go_wp2_with fail
        refine (SP.out _ X.out.strs).mono ?_
        rintro e w6 ⟨rfl, hb⟩
        have X := Lib.hid (X.out.next hb)
        have LL := Lib.hid (LL.out.below hb)
        have NV := Lib.hid (NV.out.below hb)
        clear hb c0 c1 c2 c3
        go_wp2_with fail
        refine (NA.out _ LL.out X.out.strs).mono ?_
        rintro e w7 ⟨rfl, hb⟩
        have X := Lib.hid (X.out.next hb)
        have LL := Lib.hid (LL.out.below hb)
        have NV := Lib.hid (NV.out.below hb)
        clear hb
        obtain ⟨_, _, _, c0, c1, c2, c3⟩ := X.out
        go_wp2_with fail
        refine (RF.out _ X.out.strs).mono ?_
        rintro e w8 ⟨rfl, hb⟩
        have X := Lib.hid (X.out.next hb)
        have LL := Lib.hid (LL.out.below hb)
        have NV := Lib.hid (NV.out.below hb)
        clear hb c0 c1 c2 c3
        go_wp2_with fail
        refine (NR.out _ X.out.strs).mono ?_
        rintro e w9 ⟨rfl, hb⟩
        have X := Lib.hid (X.out.next hb)
        have LL := Lib.hid (LL.out.below hb)
        have NV := Lib.hid (NV.out.below hb)
        clear hb
        obtain ⟨_, _, _, c0, c1, c2, c3⟩ := X.out
        go_wp2_with fail
        refine (TX.out _ _ _ NV.out X.out.strs).mono ?_
        rintro e w10 ⟨rfl, hb⟩
        have X := Lib.hid (X.out.next hb)
        have LL := Lib.hid (LL.out.below hb)
        clear hb c0 c1 c2 c3
        go_wp2_with fail
        refine (works_any _ LL.out).mono ?_
        rintro e w11 ⟨rfl, hb⟩
        have X := Lib.hid (X.out.next hb)
        clear hb
        go_wp2_with fail
        go_ret
        exact ⟨rfl, X.out.below⟩
      · obtain ⟨A, cap, e, _, _⟩ := hv
        simp only [Value.slice.injEq] at e
        obtain ⟨rfl, rfl, rfl⟩ := e
        clear h3
        go_enter Tryz.func3, Tryz.ntmps3
        go_wp2_with fail
        refine (SH.out _ X.out.strs).mono ?_
        rintro e w1 ⟨rfl, hb⟩
        have X := Lib.hid (X.out.next hb)
        have LL := Lib.hid (LL.out.below hb)
        clear hb
        obtain ⟨_, _, _, c0, c1, c2, c3⟩ := X.out
        go_wp2_with (at_builtin; refine wpList_append_own _ rfl _ _ 22 rfl w1.heap.size 9 i0 (.string ⟨#[]⟩) 1 16 Tryz.underlying22 hi hz0 hz1 hz2 rfl (by decide) _ _ _ rfl (own_empty w1 9 _ rfl) x xs.length c (xs.map Value.string) rfl (by rw [List.length_map]; omega) (strs_news (X.out.strs.below ((Below.refl _ w1).alloc (Nat.le_refl _) _))) (by intro u hu; obtain ⟨y, _, rfl⟩ := List.mem_map.1 hu; rfl) (by simp [maxLen]; omega) (by omega) (by simp) ?_; intro v' w2 hown hgrow _; rw [List.nil_append, Nat.zero_add] at hown; have hB1 : Below w1.heap.size w1 w2 := ((Below.refl _ w1).alloc (Nat.le_refl _) _).grown hgrow (by simp) (fun k hk => by cases hk; exact Nat.le_refl _); clear hgrow; have X := Lib.hid (X.out.next hB1); have LL := Lib.hid (LL.out.below hB1); have NV := Lib.hid (strs_own hown); obtain ⟨A1, c1', rfl, _, _⟩ := NV.out; clear c0 c1 c2 c3 hB1 hown; obtain ⟨_, _, _, c0, c1, c2, c3⟩ := X.out)
        refine (SP.out _ X.out.strs).mono ?_
        rintro e w3 ⟨rfl, hb⟩
        have X := Lib.hid (X.out.next hb)
        have LL := Lib.hid (LL.out.below hb)
        have NV := Lib.hid (NV.out.below hb)
        clear hb c0 c1 c2 c3
        go_wp2_with fail
        refine (PA.out _ X.out.strs).mono ?_
        rintro e w4 ⟨rfl, hb⟩
        have X := Lib.hid (X.out.next hb)
        have LL := Lib.hid (LL.out.below hb)
        have NV := Lib.hid (NV.out.below hb)
        clear hb
        obtain ⟨_, _, _, c0, c1, c2, c3⟩ := X.out
        go_wp2_with fail
        refine (RF.out _ X.out.strs).mono ?_
        rintro e w5 ⟨rfl, hb⟩
        have X := Lib.hid (X.out.next hb)
        have LL := Lib.hid (LL.out.below hb)
        have NV := Lib.hid (NV.out.below hb)
        clear hb c0 c1 c2 c3
        go_wp2_with fail
        refine (PR.out _ X.out.strs).mono ?_
        rintro e w6 ⟨rfl, hb⟩
        have X := Lib.hid (X.out.next hb)
        have LL := Lib.hid (LL.out.below hb)
        have NV := Lib.hid (NV.out.below hb)
        clear hb
        obtain ⟨_, _, _, c0, c1, c2, c3⟩ := X.out
        go_wp2_with fail
        refine (SP.out _ X.out.strs).mono ?_
        rintro e w7 ⟨rfl, hb⟩
        have X := Lib.hid (X.out.next hb)
        have LL := Lib.hid (LL.out.below hb)
        have NV := Lib.hid (NV.out.below hb)
        clear hb c0 c1 c2 c3
        go_wp2_with fail
        refine (NA.out _ LL.out X.out.strs).mono ?_
        rintro e w8 ⟨rfl, hb⟩
        have X := Lib.hid (X.out.next hb)
        have LL := Lib.hid (LL.out.below hb)
        have NV := Lib.hid (NV.out.below hb)
        clear hb
        obtain ⟨_, _, _, c0, c1, c2, c3⟩ := X.out
        go_wp2_with fail
        refine (RF.out _ X.out.strs).mono ?_
        rintro e w9 ⟨rfl, hb⟩
        have X := Lib.hid (X.out.next hb)
        have LL := Lib.hid (LL.out.below hb)
        have NV := Lib.hid (NV.out.below hb)
        clear hb c0 c1 c2 c3
        go_wp2_with fail
        refine (NR.out _ X.out.strs).mono ?_
        rintro e w10 ⟨rfl, hb⟩
        have X := Lib.hid (X.out.next hb)
        have LL := Lib.hid (LL.out.below hb)
        have NV := Lib.hid (NV.out.below hb)
        clear hb
        obtain ⟨_, _, _, c0, c1, c2, c3⟩ := X.out
        go_wp2_with fail
        refine (TX.out _ _ _ NV.out X.out.strs).mono ?_
        rintro e w11 ⟨rfl, hb⟩
        have X := Lib.hid (X.out.next hb)
        have LL := Lib.hid (LL.out.below hb)
        clear hb c0 c1 c2 c3
        go_wp2_with fail
        refine (works_any _ LL.out).mono ?_
        rintro e w12 ⟨rfl, hb⟩
        have X := Lib.hid (X.out.next hb)
        clear hb
        go_wp2_with fail
        go_ret
        exact ⟨rfl, X.out.below⟩

set_option maxRecDepth 100000 in
theorem lifted (os : Os) (started : os.Started) (H : Type) (enc : TypeId × Value → H) :
    ReturnsInHanded {} Tryz.checked os 3 .any (fun w args => (Rows.fieldReadsSpec.pre enc Tryz.prog Tryz.f3 [] false w args ∧ laidMetH Tryz.prog Rows.fieldReadsRow.laid w) ∧ sizedMet enc Tryz.prog Tryz.f3 (OpenSpec.ofChange Rows.fieldReadsSpec) false w args)
      (Rows.fieldReadsSpec.post enc Tryz.prog Tryz.f3 false true false false) := by
  refine returnsInHanded_of_change_and (C := Tryz.checked) (X := fun w _ => laidMetH Tryz.prog Rows.fieldReadsRow.laid w) (fun _ _ _ hh h => h.of_heap hh) own started (by kernel_rfl) Tryz.func3
    (ChangeSpec.witness_shaped (enc := enc) (C := Tryz.checked) (os := os) (X := fun w _ => laidMetH Tryz.prog Rows.fieldReadsRow.laid w) false (World.laidAll Tryz.prog os Rows.fieldReadsRow.laid) #[.agg #[.int .i64 0, .int .i64 0, .slice none 0 0, .bool false], .string ⟨#[]⟩] 8 (World.laidAll_os _ _ _) (World.shaped_of_ZipB (by kernel_rfl) (by kernel_rfl)) (by kernel_rfl) (by kernel_rfl) (by kernel_rfl) (by rw [MakeChecks.laidMetH_plain _ _ _ (by kernel_rfl)]; exact laidMet_laidAll _ (by kernel_rfl) (by kernel_rfl))) ?_
  intro W base args ds gs before hval0 hW _ _ hL _
  have hval : ∀ (j : Nat) t v, Tryz.f3.params[j]? = some t → args[j]? = some v → Value.okWide Tryz.prog W .any base t v := hval0
  have hW' := hW
  obtain ⟨p, q, hA0, hV, rfl, hfz, hnd⟩ := hW
  have hA : DataW.TrodAll enc Tryz.prog W 0 (fun _ => true) true Tryz.f3.params.toList args.toList ds p := hA0
  rw [Tryz.params3] at hA hval
  obtain ⟨v0, vs0, d0, ds0, p0, q0, hargs, rfl, rfl, h0, r0⟩ := trodAll_cons hA
  obtain ⟨v1, vs1, d1, ds1, p1, q1, rfl, rfl, rfl, h1, r1⟩ := trodAll_cons r0
  obtain ⟨rfl, rfl, rfl⟩ := trodAll_nil r1
  obtain rfl : args = #[v0, v1] := by cases args; simp_all
  obtain ⟨rfl, rfl⟩ := trodVars_none hV
  obtain ⟨lo0, hi0, u0, xs0, wk0, rfl, w0, y0⟩ := open_kind_or (hval 0 24 v0 rfl rfl) h0
  have k0 := h0
  have lt0 : ∀ x ∈ p0, x.block < W.heap.size := by obtain ⟨m, hm⟩ := k0; exact DataW.trod_lt m _ _ _ hm
  obtain ⟨a1, rfl, rfl, rfl, w1⟩ := open_string Tryz.underlying9 (hval 1 9 v1 rfl rfl) h1
  clear hA0 hval0
  refine (walk lo0 hi0 u0 xs0 wk0 a1 W (lay_of _ W (by kernel_rfl) (.tail _ (.head _)) (by kernel_rfl) hL) w0 y0 w1).mono fun e W' ⟨he, bel⟩ => ?_
  subst he
  exact ⟨_, rfl, _, _, _, [], _, [], hW', trodAll_mk1 (shut_bool Tryz.underlying4 _), (trodAll_cons_mk (Below.trod laidOut (by kernel_rfl) (of_decide_eq_true (by kernel_rfl)) k0 bel lt0) (trodAll_cons_mk (shut_string Tryz.underlying9 w1) trodAll_mk0)), rfl, bel.frame _, fun h => by cases h⟩

theorem row_holds : Rows.FieldReadsSaid :=
  OpenClaim.holds_of_wide 3 Tryz.f3 rfl rfl rfl rfl rfl rfl rfl ⟨rfl, rfl, rfl, rfl, rfl⟩ rfl rfl rfl rfl rfl (by kernel_rfl) Tryz.func3 (by kernel_rfl)
    (of_decide_eq_true (by kernel_rfl)) (by unfold Func.isWrapper; first | (rw [if_pos (by decide +kernel)]; kernel_rfl) | (rw [if_neg (by decide +kernel)]; exact ⟨rfl, rfl⟩))
    (fun os started H enc _ => lifted os started H enc)

theorem proved : Rows.FieldReadsCardSaid :=
  Claim7.holds_tied_plain_at .later [] Rows.fieldReadsCard.laidKinds true Rows.fieldReadsCard.stood.harness Rows.fieldReadsCard.stood.looks
    row_holds (fun _ h => by cases h) (by kernel_rfl) (fun _ h => by cases h) fieldReads_row_tie rfl ⟨rfl, rfl⟩ (by kernel_rfl) rfl
    (fun f fn hf hfn => by
      obtain rfl : f = 3 := Option.some.inj ((show Tryz.prog.funcNamed Rows.fieldReadsRow.func = some 3 by kernel_rfl).symm.trans hf) |>.symm
      obtain rfl : fn = Tryz.f3 := (Option.some.inj (Tryz.func3.symm.trans hfn)).symm
      exact ⟨looks0, fun j t ht => by
        rw [Tryz.params3] at ht
        have hm : t ∈ [24, 9] := by simpa using Array.mem_of_getElem? ht
        have hall : ([24, 9].all fun u => !Tryz.prog.wantsStandIn u) = true := by kernel_rfl
        exact (show Tryz.prog.wantsStandIn t = false by simpa using List.all_eq_true.1 hall t hm)⟩)
    (by kernel_rfl)
end Go.Proofs.YtlmbfhbfejjpdaaGreatDoor.fieldReads
