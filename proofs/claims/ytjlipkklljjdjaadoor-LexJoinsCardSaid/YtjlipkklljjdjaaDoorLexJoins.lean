/- For all lists l of texts and texts sep, LexJoins returns true: texts that are joined are the document's, and the list stays (more than 300 texts, or of more than 5,000 bytes in all, or a sep of more than 300 bytes are not asked). Conditions: strconv's table of the powers of ten and its errors start as the program's text lays them (tied). -/
import Derived.Test.YtjlipkklljjdjaaDoorLexLaid
import Derived.ChangeMaps5
import Derived.Test.YtjlipkklljjdjaaDoorLexStr
import Derived.Laws.AppendOwnNone
namespace Go.Proofs.YtjlipkklljjdjaaDoor.lexJoins
open Go.ChangeShapes Go.WideShapes Go.ChangeAt Go.RowKit Go.ChangeMaps

/-- the sizes of the first k, added up -/
def sumSz (xs : List ByteArray) (k : Nat) : Nat := ((xs.take k).map (·.size)).sum
theorem sumSz_succ (xs : List ByteArray) (k : Nat) (h : k < xs.length) : sumSz xs (k + 1) = sumSz xs k + xs[k].size := by
  unfold sumSz
  rw [List.take_succ_eq_append_getElem h, List.map_append, List.sum_append]
  simp
theorem sumSz_le (xs : List ByteArray) (hs : ∀ x ∈ xs, x.size ≤ 140737488351232) : ∀ k, k ≤ xs.length → sumSz xs k ≤ k * 140737488351232 := by
  intro k
  induction k with
  | zero => intro _; simp [sumSz]
  | succ k ih =>
    intro hk
    have h1 := ih (by omega)
    have h2 := hs xs[k] (List.getElem_mem (by omega))
    rw [sumSz_succ xs k (by omega)]
    omega
theorem sumSz_mem (xs : List ByteArray) : ∀ x ∈ xs, x.size ≤ sumSz xs xs.length := by
  unfold sumSz
  rw [List.take_length]
  induction xs with
  | nil => intro x h; simp at h
  | cons y r ih =>
    intro x h
    simp only [List.map_cons, List.sum_cons]
    rcases List.mem_cons.1 h with rfl | h
    · omega
    · have := ih x h; omega

set_option maxRecDepth 100000 in
set_option maxHeartbeats 2000000 in
theorem walk_some (x0 : Addr) (len cap : Nat) (xs : List ByteArray) (sep : ByteArray) (w : World) (L : Lay w) (ha : StrArg w (some x0) len cap xs) (hs : sep.size ≤ maxLen) :
    Calls Tryd.prog 8 #[.slice (some x0) len cap, .string sep] w fun e w' => e = .returned (.bool true) ∧ Below w.heap.size w w' := by
  unfold maxLen at hs
  have LL := Lib.hid L
  clear L
  have hfit := ha.fit
  have HA := Lib.hid ha
  clear ha
  by_cases h3 : 300 < len
  · have t3 : decide ((300 : Int) < (len : Int)) = true := by rw [decide_eq_true_iff]; omega
    go_enter Tryd.func8, Tryd.ntmps8
    go_wp2_with fail
    go_loop [5, 16] (fun n i => ∃ k : Nat, k ≤ len ∧ i = .int .i64 k ∧ ∃ q : Int, n = .int .i64 q) (fun _ i => len - (intOf i).toNat)
    case atStart => exact ⟨0, Nat.zero_le _, rfl, 0, rfl⟩
    case round =>
      obtain ⟨k, hk, rfl, q, rfl⟩ := hrel
      by_cases hlt : k < len
      · have hkx : k < xs.length := by have := HA.out.count; omega
        obtain ⟨b, o, e, g⟩ := HA.out.is_.at_ k hkx
        cases e
        obtain ⟨x, hxk⟩ : ∃ x, xs[k] = x := ⟨_, rfl⟩
        have hxs := HA.out.small x (by rw [← hxk]; exact List.getElem_mem hkx)
        rw [hxk] at g
        clear hxk
        go_wp2_with fail
        go_round
        case rel => exact ⟨k + 1, by omega, by go_num, _, rfl⟩
        case measure => simp [intOf]; omega
      · go_wp2_with fail
        refine (works_any _ LL.out).mono ?_
        rintro e w3 ⟨rfl, hb⟩
        have HB := Lib.hid hb
        clear hb
        go_wp2_with fail
        go_ret
        exact ⟨rfl, HB.out⟩
  · have t3 : decide ((300 : Int) < (len : Int)) = false := by rw [decide_eq_false_iff_not]; omega
    go_enter Tryd.func8, Tryd.ntmps8
    go_wp2_with fail
    go_loop [5, 16] (fun n i => ∃ k m : Nat, k ≤ len ∧ i = .int .i64 k ∧ n = .int .i64 m ∧ m ≤ k * 140737488351232 ∧ Hid (sumSz xs k = m)) (fun _ i => len - (intOf i).toNat)
    case atStart => exact ⟨0, 0, Nat.zero_le _, rfl, rfl, by omega, Lib.hid rfl⟩
    case round =>
      obtain ⟨k, m, hk, rfl, rfl, hm, hsm⟩ := hrel
      by_cases hlt : k < len
      · have hkx : k < xs.length := by have := HA.out.count; omega
        obtain ⟨b, o, e, g⟩ := HA.out.is_.at_ k hkx
        cases e
        obtain ⟨x, hxk⟩ : ∃ x, xs[k] = x := ⟨_, rfl⟩
        have hxs := HA.out.small x (by rw [← hxk]; exact List.getElem_mem hkx)
        have S1 := Lib.hid (sumSz_succ xs k hkx)
        rw [hxk] at g S1
        have hl3 : k < 300 := by omega
        clear hxk
        go_wp2_with fail
        go_round
        case rel => exact ⟨k + 1, m + x.size, by omega, by go_num, by go_num, by omega, Lib.hid (by rw [S1.out, hsm.out])⟩
        case measure => simp [intOf]; omega
      · obtain rfl : k = len := by omega
        by_cases h5 : 5000 < m
        · have t5 : decide ((5000 : Int) < (m : Int)) = true := by rw [decide_eq_true_iff]; omega
          go_wp2_with fail
          refine (works_any _ LL.out).mono ?_
          rintro e w3 ⟨rfl, hb⟩
          have HB := Lib.hid hb
          clear hb
          go_wp2_with fail
          go_ret
          exact ⟨rfl, HB.out⟩
        · have t5 : decide ((5000 : Int) < (m : Int)) = false := by rw [decide_eq_false_iff_not]; omega
          by_cases h4 : 300 < sep.size
          · have t4 : decide ((300 : Int) < (sep.size : Int)) = true := by rw [decide_eq_true_iff]; omega
            go_wp2_with fail
            refine (works_any _ LL.out).mono ?_
            rintro e w3 ⟨rfl, hb⟩
            have HB := Lib.hid hb
            clear hb
            go_wp2_with fail
            go_ret
            exact ⟨rfl, HB.out⟩
          · have t4 : decide ((300 : Int) < (sep.size : Int)) = false := by rw [decide_eq_false_iff_not]; omega
            obtain ⟨r, er, hr⟩ := joinIs_ex xs sep
            have hcount := HA.out.count
            have SM : Small xs sep := ⟨by omega, by omega, fun x hx => by
              have h1 := sumSz_mem xs x hx
              rw [hcount, hsm.out] at h1
              omega⟩
            have JA := Lib.hid (fun v w hv => join_any xs sep r er SM hr v w hv)
            have JB := Lib.hid (fun v w hv => rjoin_any xs sep r er SM hr v w hv)
            have er1 : (r.toList == r.toList) = true := by simp
            have HCt := Lib.hid hcount
            obtain ⟨i0, hi, hz0, hz1, hz2⟩ := info_parts infoStr
            clear SM hr hcount
            go_wp2_with (at_builtin; refine wpList_append_own _ rfl _ _ 48 rfl w.heap.size 9 i0 (.string ⟨#[]⟩) 1 16 Tryd.underlying48 hi hz0 hz1 hz2 rfl (by decide) _ _ _ rfl (own_empty w 9) x0 k cap (xs.map Value.string) rfl (by rw [List.length_map, HCt.out]; omega) (strs_news (HA.out.is_.below ((Below.refl _ w).alloc (Nat.le_refl _) _))) (by intro u hu; obtain ⟨y, _, rfl⟩ := List.mem_map.1 hu; rfl) (by simp [maxLen]; omega) (by omega) (by simp) ?_; intro v' W2 hown hgrow _; rw [List.nil_append, Nat.zero_add] at hown; have hB1 : Below w.heap.size w W2 := ((Below.refl _ w).alloc (Nat.le_refl _) _).grown hgrow (by simp) (fun k hk => by cases hk; exact Nat.le_refl _); clear hgrow)
            have HO := Lib.hid hown
            have B1 := Lib.hid hB1
            clear hown hB1
            obtain ⟨A1, c1, rfl, hc1, hp1⟩ := own_any HO.out
            have V1 := Lib.hid (show IsStrs W2 (.slice A1 k c1) xs from strs_own (by rw [HCt.out]; exact HO.out))
            have V2 := Lib.hid (HA.out.is_.below B1.out)
            have P1 := Lib.hid hp1
            clear hp1
            go_wp2_with fail
            refine (JA.out _ W2 V1.out).mono ?_
            rintro e w3 ⟨rfl, hb⟩
            have B2 := Lib.hid (B1.out.trans (hb.mono B1.out.size))
            have V3 := Lib.hid (V2.out.below hb)
            have P2 := Lib.hid (P1.out.below hb)
            clear hb
            go_wp2_with fail
            refine (JB.out _ w3 V3.out).mono ?_
            rintro e w4 ⟨rfl, rfl⟩
            go_wp2_with fail
            go_loopw [55] (fun i wr => ∃ j q : Nat, j ≤ k ∧ i = .int .i64 j ∧ wr = w3.drewN q) (fun i _ => k - (intOf i).toNat)
            case atStart => exact ⟨0, 0, Nat.zero_le _, rfl, rfl⟩
            case round =>
              obtain ⟨j, q, hj, rfl, rfl⟩ := hrel
              by_cases hjk : j < k
              · have hkx : j < xs.length := by have := HCt.out; omega
                obtain ⟨b, o, e, g⟩ := V3.out.at_ j hkx
                cases e
                obtain ⟨g1, rfl, hg1, hcell1⟩ := P2.out (by omega)
                have d1 := hcell1 j _ (by rw [List.getElem?_map, List.getElem?_eq_getElem hkx]; rfl)
                obtain ⟨x, hxk⟩ : ∃ x, xs[j] = x := ⟨_, rfl⟩
                rw [hxk] at g d1
                have ex : (x.toList == x.toList) = true := by simp
                clear hxk hcell1
                go_wp2_with fail
                go_quiet (fail)
                go_wp2_with fail
                go_roundw
                case rel => exact ⟨j + 1, q + nq, by omega, by go_num, rfl⟩
                case measure => simp [intOf]; omega
              · go_wp2_with fail
                refine (works_any _ ((LL.out.below B2.out).drewN q)).mono ?_
                rintro e w5 ⟨rfl, hb⟩
                have HB := Lib.hid (B2.out.trans (((below_drewN _ _ q).trans hb).mono B2.out.size))
                clear hb
                go_wp2_with fail
                go_ret
                exact ⟨rfl, HB.out⟩
set_option maxRecDepth 100000 in
set_option maxHeartbeats 2000000 in
theorem walk_none (sep : ByteArray) (w : World) (L : Lay w) (hs : sep.size ≤ maxLen) :
    Calls Tryd.prog 8 #[.slice none 0 0, .string sep] w fun e w' => e = .returned (.bool true) ∧ Below w.heap.size w w' := by
  unfold maxLen at hs
  have LL := Lib.hid L
  clear L
  go_enter Tryd.func8, Tryd.ntmps8
  go_wp2_with fail
  go_loop [5, 16] (fun n i => ∃ k : Nat, k ≤ 0 ∧ i = .int .i64 k ∧ n = .int .i64 0) (fun _ i => 0 - (intOf i).toNat)
  case atStart => exact ⟨0, Nat.zero_le _, rfl, rfl⟩
  case round =>
    obtain ⟨k, hk, rfl, rfl⟩ := hrel
    obtain rfl : k = 0 := by omega
    by_cases h4 : 300 < sep.size
    · have t4 : decide ((300 : Int) < (sep.size : Int)) = true := by rw [decide_eq_true_iff]; omega
      go_wp2_with fail
      refine (works_any _ LL.out).mono ?_
      rintro e w3 ⟨rfl, hb⟩
      have HB := Lib.hid hb
      clear hb
      go_wp2_with fail
      go_ret
      exact ⟨rfl, HB.out⟩
    · have t4 : decide ((300 : Int) < (sep.size : Int)) = false := by rw [decide_eq_false_iff_not]; omega
      obtain ⟨r, er, hr⟩ := joinIs_ex [] sep
      have SM : Small [] sep := ⟨by simp, by omega, fun x hx => by simp at hx⟩
      have JA := Lib.hid (fun v w hv => join_any [] sep r er SM hr v w hv)
      have JB := Lib.hid (fun v w hv => rjoin_any [] sep r er SM hr v w hv)
      have er1 : (r.toList == r.toList) = true := by simp
      obtain ⟨i0, hi, hz0, hz1, hz2⟩ := info_parts infoStr
      clear SM hr hz0 hz1 hz2
      go_wp2_with (at_builtin; refine wpList_append_own_none rfl _ _ 48 rfl w.heap.size 9 i0 1 Tryd.underlying48 hi _ _ _ rfl (own_empty w 9) rfl ?_)
      have V1 : ∀ (W : World) A, IsStrs W (.slice A 0 0) [] := fun W A => ⟨A, 0, rfl, Nat.le_refl _, fun h => by simp at h⟩
      have V1 := Lib.hid V1
      refine (JA.out _ _ (V1.out _ _)).mono ?_
      rintro e w3 ⟨rfl, hb⟩
      have B2 := Lib.hid (((Below.refl _ w).alloc (Nat.le_refl _) (.cells #[] 9)).trans (hb.mono (by simp)))
      clear hb
      go_wp2_with fail
      refine (JB.out _ w3 (V1.out _ _)).mono ?_
      rintro e w4 ⟨rfl, rfl⟩
      go_wp2_with fail
      go_loop [55] (fun i => ∃ k : Nat, k ≤ 0 ∧ i = .int .i64 k) (fun i => 0 - (intOf i).toNat)
      case atStart => exact ⟨0, Nat.zero_le _, rfl⟩
      case round =>
        obtain ⟨k, hk, rfl⟩ := hrel
        obtain rfl : k = 0 := by omega
        go_wp2_with fail
        refine (works_any _ (LL.out.below B2.out)).mono ?_
        rintro e w5 ⟨rfl, hb⟩
        have HB := Lib.hid (B2.out.trans (hb.mono B2.out.size))
        clear hb
        go_wp2_with fail
        go_ret
        exact ⟨rfl, HB.out⟩
theorem walk (a : Option Addr) (len cap : Nat) (xs : List ByteArray) (sep : ByteArray) (w : World) (L : Lay w) (ha : StrArg w a len cap xs) (hs : sep.size ≤ maxLen) :
    Calls Tryd.prog 8 #[.slice a len cap, .string sep] w fun e w' => e = .returned (.bool true) ∧ Below w.heap.size w w' := by
  cases a with
  | some x => exact walk_some x len cap xs sep w L ha hs
  | none =>
    obtain ⟨rfl, rfl⟩ := ha.nil rfl
    exact walk_none sep w L hs

set_option maxRecDepth 100000 in
theorem lifted (os : Os) (started : os.Started) (H : Type) (enc : TypeId × Value → H) :
    ReturnsInHanded {} Tryd.checked os 8 .any (fun w args => (Rows.lexJoinsSpec.pre enc Tryd.prog Tryd.f8 [] false w args ∧ laidMetH Tryd.prog Rows.lexJoinsRow.laid w) ∧ sizedMet enc Tryd.prog Tryd.f8 (OpenSpec.ofChange Rows.lexJoinsSpec) false w args)
      (Rows.lexJoinsSpec.post enc Tryd.prog Tryd.f8 false true false false) := by
  refine returnsInHanded_of_change_and (C := Tryd.checked) (X := fun w _ => laidMetH Tryd.prog Rows.lexJoinsRow.laid w) (fun _ _ _ hh h => h.of_heap hh) own started (by kernel_rfl) Tryd.func8
    (ChangeSpec.witness_shaped (enc := enc) (C := Tryd.checked) (os := os) (X := fun w _ => laidMetH Tryd.prog Rows.lexJoinsRow.laid w) false (World.doorLaid Tryd.prog 400 os) #[.slice none 0 0, .string ⟨#[]⟩] 8 rfl (shaped0 os _) (by kernel_rfl) (by kernel_rfl) (by kernel_rfl) (door_met os _)) ?_
  intro W base args ds gs before hval0 hW _ hsz0 hL _
  have hval : ∀ (j : Nat) t v, Tryd.f8.params[j]? = some t → args[j]? = some v → Value.okWide Tryd.prog W .any base t v := hval0
  have hW' := hW
  obtain ⟨p, q, hA0, hV, rfl, hfz, hnd⟩ := hW
  have hA : DataW.TrodAll enc Tryd.prog W 0 (fun _ => true) true Tryd.f8.params.toList args.toList ds p := hA0
  have hsz : (DataW.weightsEach Tryd.prog (Tryd.f8.params.toList ++ Rows.lexJoinsSpec.plain.varTypes Tryd.prog) (ds ++ gs)).all (· ≤ reachBytes) = true := hsz0
  clear hsz0
  rw [Tryd.params8] at hA hval hsz
  obtain ⟨v0, vs0, d0, ds0, p0, q0, hargs, rfl, rfl, h0, r0⟩ := trodAll_cons hA
  obtain ⟨v1, vs1, d1, ds1, p1, q1, rfl, rfl, rfl, h1, r1⟩ := trodAll_cons r0
  obtain ⟨rfl, rfl, rfl⟩ := trodAll_nil r1
  obtain rfl : args = #[v0, v1] := by cases args; simp_all
  obtain ⟨rfl, rfl⟩ := trodVars_none hV
  obtain ⟨a0, len0, cap0, rfl⟩ := okWide_slice Tryd.underlying48 (hval 0 48 v0 rfl rfl)
  have k0 := h0
  have lt0 : ∀ x ∈ p0, x.block < W.heap.size := by obtain ⟨m, hm⟩ := k0; exact DataW.trod_lt m _ _ _ hm
  obtain ⟨z0, w0⟩ : ∃ xs, StrArg W a0 len0 cap0 xs := by
    obtain ⟨fuel, hf⟩ := h0
    rcases open_strings Tryd.underlying48 Tryd.underlying9 (by kernel_rfl) hf with ⟨hcs, _⟩ | ⟨x, l, c, ss, hcs, _, hl, hm, hz, hx, hcell, _⟩
    · simp [Value.cells] at hcs
      obtain ⟨rfl, rfl, rfl⟩ := hcs
      exact ⟨[], strArg_nil W⟩
    · simp [Value.cells] at hcs
      obtain ⟨rfl, rfl, rfl⟩ := hcs
      simp only [Prod.mk.injEq] at hx
      obtain ⟨rfl, _⟩ := hx
      exact ⟨_, strArg_mk W x _ _ ss hl hm (by simpa using hz) hcell (strs_reach hsz (j := 0) rfl rfl Tryd.underlying48)⟩
  obtain ⟨a1, rfl, rfl, rfl, w1⟩ := open_string Tryd.underlying9 (hval 1 9 v1 rfl rfl) h1
  clear hA0 hval0
  refine (walk a0 len0 cap0 z0 a1 W (lay_of _ W (by kernel_rfl) (.tail _ (.tail _ (.head _))) (.tail _ (.tail _ (.tail _ (.head _)))) hL) w0 w1).mono fun e W' ⟨he, bel⟩ => ?_
  subst he
  exact ⟨_, rfl, _, _, _, [], _, [], hW', trodAll_mk1 (shut_bool Tryd.underlying4 _), (trodAll_cons_mk (Below.trod laidOut (by kernel_rfl) (of_decide_eq_true (by kernel_rfl)) k0 bel lt0) (trodAll_cons_mk (shut_string Tryd.underlying9 w1) trodAll_mk0)), rfl, bel.frame _, fun h => by cases h⟩

theorem row_holds : Rows.LexJoinsSaid :=
  OpenClaim.holds_of_wide 8 Tryd.f8 rfl rfl rfl rfl rfl rfl rfl ⟨rfl, rfl, rfl, rfl, rfl⟩ rfl rfl rfl rfl rfl (by kernel_rfl) Tryd.func8 (by kernel_rfl)
    (of_decide_eq_true (by kernel_rfl)) (by unfold Func.isWrapper; first | (rw [if_pos (by decide +kernel)]; kernel_rfl) | (rw [if_neg (by decide +kernel)]; exact ⟨rfl, rfl⟩))
    (fun os started H enc _ => lifted os started H enc)

theorem proved : Rows.LexJoinsCardSaid :=
  Claim7.holds_tied_plain_at .later [] Rows.lexJoinsCard.laidKinds true Rows.lexJoinsCard.stood.harness Rows.lexJoinsCard.stood.looks
    row_holds (fun _ h => by cases h) (by kernel_rfl) (fun _ h => by cases h) lexJoins_row_tie rfl ⟨rfl, rfl⟩ (by kernel_rfl) rfl
    (fun f fn hf hfn => by
      obtain rfl : f = 8 := Option.some.inj ((show Tryd.prog.funcNamed Rows.lexJoinsRow.func = some 8 by kernel_rfl).symm.trans hf) |>.symm
      obtain rfl : fn = Tryd.f8 := (Option.some.inj (Tryd.func8.symm.trans hfn)).symm
      exact ⟨looks0, fun j t ht => by
        rw [Tryd.params8] at ht
        have hm : t ∈ [48, 9] := by simpa using Array.mem_of_getElem? ht
        have hall : ([48, 9].all fun u => !Tryd.prog.wantsStandIn u) = true := by kernel_rfl
        exact (show Tryd.prog.wantsStandIn t = false by simpa using List.all_eq_true.1 hall t hm)⟩)
    (by kernel_rfl)
end Go.Proofs.YtjlipkklljjdjaaDoor.lexJoins
