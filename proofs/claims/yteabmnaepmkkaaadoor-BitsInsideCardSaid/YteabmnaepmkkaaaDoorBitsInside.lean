/- For all uint64 sets a and b, BitsInside returns true: a set is inside another one exactly if each of its numbers is; so are what both have, and what one has for both together. Condition: the table of math/bits starts as the program's text lays it (tied). -/
import Derived.Test.YteabmnaepmkkaaaDoorBitLaid
import Derived.Test.YteabmnaepmkkaaaDoorBitU
namespace Go.Proofs.YteabmnaepmkkaaaDoor.bitsInside
open Go.ChangeShapes Go.WideShapes Go.ChangeAt Go.RowKit

theorem all_sub {A B : Nat} (hA : A < 2 ^ 64) : (Bit.mem A).all (fun x => B.testBit x) = subB A B := by
  have k := sub_all (B := B) hA
  cases h : subB A B with
  | true =>
    rw [List.all_eq_true]
    intro x hx
    have := Bit.mem_iff.1 hx
    exact k.1 h x this.1 this.2
  | false =>
    rw [h] at k
    rw [Bool.eq_false_iff]
    intro q
    rw [List.all_eq_true] at q
    have := k.2 fun j hj ha => q j (Bit.mem_iff.2 ⟨hj, ha⟩)
    cases this
theorem sub_and {A B : Nat} (hA : A < 2 ^ 64) : subB (A &&& B) A = true := by
  rw [sub_all (Nat.lt_of_le_of_lt Nat.and_le_left hA)]
  intro j _ h
  rw [Nat.testBit_and, Bool.and_eq_true] at h
  exact h.1
theorem sub_or {A B : Nat} (hA : A < 2 ^ 64) : subB A (A ||| B) = true := by
  rw [sub_all hA]
  intro j _ h
  rw [Nat.testBit_or, h]; rfl
theorem sub_zero (B : Nat) : subB 0 B = true := by
  rw [sub_all (by decide)]
  intro j _ h
  rw [Nat.zero_testBit] at h; cases h
set_option maxRecDepth 100000 in
theorem walk (s t : Int) (w : World) (L : Lay w) (hs : (Lit.int .u64 s).wf = true) (ht : (Lit.int .u64 t).wf = true) :
    Calls Tryd.prog 11 #[.int .u64 s, .int .u64 t] w fun e w' => e = .returned (.bool true) ∧ Below w.heap.size w w' := by
  obtain ⟨A, rfl, hA⟩ := nat_u64 hs
  obtain ⟨B, rfl, hB⟩ := nat_u64 ht
  have LI := Lib.hid (fun w L => list_any A hA w L)
  have HA := Lib.hid (fun (x : Nat) w => has_any B x w hB)
  have HN := Lib.hid (fun x => has_nat hB x)
  have I1 := Lib.hid (fun w => inside_any A B w hA hB)
  have al : A &&& B < 2 ^ 64 := Nat.lt_of_le_of_lt Nat.and_le_left hA
  have ol : A ||| B < 2 ^ 64 := Bit.or_lt hA hB
  have e1 : bits .and .u64 (A : Int) (B : Int) = (A &&& B : Nat) := u64_and_nat A B hA hB
  have e2 : bits .or .u64 (A : Int) (B : Int) = (A ||| B : Nat) := u64_or_nat A B hA hB
  have I2 := Lib.hid (fun w => inside_any (A &&& B) A w al hA)
  have I3 := Lib.hid (fun w => inside_any A (A ||| B) w hA ol)
  have I4 := Lib.hid (fun w => inside_any 0 B w (by decide) hB)
  rw [sub_and hA] at I2
  rw [sub_or hA] at I3
  rw [sub_zero B] at I4
  have AS := Lib.hid (all_sub (B := B) hA)
  have ML := Bit.mem_len A
  obtain ⟨l, hl⟩ : ∃ l, Bit.mem A = l := ⟨_, rfl⟩
  simp only [hl] at LI
  rw [hl] at AS ML
  obtain ⟨x, hx⟩ : ∃ x, A &&& B = x := ⟨_, rfl⟩
  obtain ⟨y, hy⟩ : ∃ y, A ||| B = y := ⟨_, rfl⟩
  rw [hx] at e1 I2
  rw [hy] at e2 I3
  clear hl hx hy hs ht al ol
  go_enter Tryd.func11, Tryd.ntmps11
  go_wp2_with fail
  refine (LI.out _ L).mono ?_
  rintro e w1 ⟨v, rfl, hr, hb⟩
  obtain ⟨n, ad, g, cap, hn, rfl, hg, hc⟩ : ∃ (n : Nat) (ad : Option Addr) (g cap : Nat), n = l.length ∧ v = .slice ad n cap ∧ (0 < n → ad = some ⟨g, 0, none⟩) ∧ ∀ i x, l[i]? = some x → w1.cell? ⟨g, i, none⟩ = some (.int .i64 (x : Nat)) := by
    rcases hr.2 with ⟨rfl, h0⟩ | ⟨g, cap, cur, rfl, _⟩
    · exact ⟨l.length, none, 0, 0, rfl, by rw [h0], fun h => by omega, fun i x h => by rw [List.eq_nil_of_length_eq_zero h0] at h; simp at h⟩
    · refine ⟨l.length, _, g, cap, rfl, rfl, fun _ => rfl, fun i x h => ?_⟩
      obtain ⟨hi, rfl⟩ := List.getElem?_eq_some_iff.1 h
      have hi' : i < (asInts l).length := by rw [asInts_len]; exact hi
      rw [hr.cellAt i (by omega)]
      simp [asInts, hi]
  have HC := Lib.hid hc
  have HG := Lib.hid hg
  have HB := Lib.hid hb
  have HL := Lib.hid hn
  rw [← hn] at ML
  clear hr hc hg hb hn
  go_wp2_with fail
  go_loop [5, 7] (fun al i => ∃ k : Nat, k ≤ n ∧ i = .int .i64 k ∧ al = .bool ((l.take k).all (fun x => B.testBit x))) (fun _ i => n - (intOf i).toNat)
  case atStart => exact ⟨0, by omega, rfl, rfl⟩
  case round =>
    obtain ⟨k, hk, rfl, rfl⟩ := hrel
    by_cases c : k < n
    · have kl : k < l.length := by rw [← HL.out]; exact c
      obtain ⟨z, hz⟩ : ∃ z, l[k] = z := ⟨_, rfl⟩
      have c1 := HC.out k z (by rw [List.getElem?_eq_getElem kl, hz])
      have TK : Hid ((l.take (k + 1)).all (fun x => B.testBit x) = ((l.take k).all (fun x => B.testBit x) && B.testBit z)) := Lib.hid (by
        rw [List.take_succ_eq_append_getElem kl, hz, List.all_append]; simp)
      have i1 : (k : Int) < (n : Int) := by omega
      obtain rfl := HG.out (by omega)
      have H := Lib.hid (fun w => HA.out z w)
      rw [HN.out] at H
      obtain ⟨q, hq⟩ : ∃ q, B.testBit z = q := ⟨_, rfl⟩
      rw [hq] at TK H
      clear kl hz hq
      cases p : (l.take k).all (fun x => B.testBit x) with
      | true =>
        rw [p] at TK
        go_wp2_with fail
        refine (H.out _).mono ?_
        rintro e w' ⟨rfl, rfl⟩
        go_wp2_with fail
        go_round
        case rel => exact ⟨k + 1, by omega, by go_num, by rw [TK.out]; rfl⟩
        case measure => simp [intOf]; omega
      | false =>
        rw [p] at TK
        go_wp2_with fail
        go_round
        case rel => exact ⟨k + 1, by omega, by go_num, by rw [TK.out]; rfl⟩
        case measure => simp [intOf]; omega
    · obtain rfl : k = n := by omega
      have E : (l.take k).all (fun x => B.testBit x) = subB A B := by rw [HL.out, List.take_length]; exact AS.out
      rw [E]
      obtain ⟨q, hq⟩ : ∃ q, subB A B = q := ⟨_, rfl⟩
      rw [hq] at I1 ⊢
      clear E hq c
      go_wp2_with fail
      refine (I1.out _).mono ?_
      rintro e w' ⟨rfl, rfl⟩
      go_wp2_with fail
      refine (I2.out _).mono ?_
      rintro e w' ⟨rfl, rfl⟩
      go_wp2_with fail
      refine (I3.out _).mono ?_
      rintro e w' ⟨rfl, rfl⟩
      go_wp2_with fail
      refine (I4.out _).mono ?_
      rintro e w' ⟨rfl, rfl⟩
      go_wp2_with fail
      refine (works_any _ (L.below HB.out)).mono ?_
      rintro e w8 ⟨rfl, hb8⟩
      go_wp2_with fail
      go_ret
      exact ⟨rfl, HB.out.trans (hb8.mono HB.out.size)⟩

theorem listed : Rows.bitsInsideRow.laid.find? isTab = some (((Rows.bitsInsideRow.laid.find? isTab).map (·.1)).getD "", Rows.laid_math_bits_deBruijn64tab) := by kernel_rfl

set_option maxRecDepth 100000 in
theorem lifted (os : Os) (started : os.Started) (H : Type) (enc : TypeId × Value → H) :
    ReturnsInHanded {} Tryd.checked os 11 .any (fun w args => (Rows.bitsInsideSpec.pre enc Tryd.prog Tryd.f11 [] false w args ∧ laidMetH Tryd.prog Rows.bitsInsideRow.laid w) ∧ sizedMet enc Tryd.prog Tryd.f11 (OpenSpec.ofChange Rows.bitsInsideSpec) false w args)
      (Rows.bitsInsideSpec.post enc Tryd.prog Tryd.f11 false true false false) := by
  refine returnsInHanded_of_change_and (C := Tryd.checked) (X := fun w _ => laidMetH Tryd.prog Rows.bitsInsideRow.laid w) (fun _ _ _ hh h => h.of_heap hh) own started (by kernel_rfl) Tryd.func11
    (ChangeSpec.witness_shaped (enc := enc) (C := Tryd.checked) (os := os) (X := fun w _ => laidMetH Tryd.prog Rows.bitsInsideRow.laid w) false (World.doorLaid Tryd.prog 400 os) #[.int .u64 0, .int .u64 0] 8 rfl (shaped0 os _) (by kernel_rfl) (by kernel_rfl) (by kernel_rfl) (door_met os _)) ?_
  intro W base args ds gs before hval0 hW _ _ hL _
  have hval : ∀ (j : Nat) t v, Tryd.f11.params[j]? = some t → args[j]? = some v → Value.okWide Tryd.prog W .any base t v := hval0
  have hW' := hW
  obtain ⟨p, q, hA0, hV, rfl, hfz, hnd⟩ := hW
  have hA : DataW.TrodAll enc Tryd.prog W 0 (fun _ => true) true Tryd.f11.params.toList args.toList ds p := hA0
  rw [Tryd.params11] at hA hval
  obtain ⟨v0, vs0, d0, ds0, p0, q0, hargs, rfl, rfl, h0, r0⟩ := trodAll_cons hA
  obtain ⟨v1, vs1, d1, ds1, p1, q1, rfl, rfl, rfl, h1, r1⟩ := trodAll_cons r0
  obtain ⟨rfl, rfl, rfl⟩ := trodAll_nil r1
  obtain rfl : args = #[v0, v1] := by cases args; simp_all
  obtain ⟨rfl, rfl⟩ := trodVars_none hV
  obtain ⟨a0, rfl, rfl, rfl, w0⟩ := open_int Tryd.underlying24 (hval 0 24 v0 rfl rfl) h0
  obtain ⟨a1, rfl, rfl, rfl, w1⟩ := open_int Tryd.underlying24 (hval 1 24 v1 rfl rfl) h1
  clear hA0 hval0
  refine (walk a0 a1 W (lay_of _ W (by kernel_rfl) _ listed hL) w0 w1).mono fun e W' ⟨he, bel⟩ => ?_
  subst he
  exact ⟨_, rfl, _, _, _, [], _, [], hW', trodAll_mk1 (shut_bool Tryd.underlying4 _), (trodAll_cons_mk (shut_int Tryd.underlying24 w0) (trodAll_cons_mk (shut_int Tryd.underlying24 w1) trodAll_mk0)), rfl, bel.frame _, fun h => by cases h⟩

theorem row_holds : Rows.BitsInsideSaid :=
  OpenClaim.holds_of_wide 11 Tryd.f11 rfl rfl rfl rfl rfl rfl rfl ⟨rfl, rfl, rfl, rfl, rfl⟩ rfl rfl rfl rfl rfl (by kernel_rfl) Tryd.func11 (by kernel_rfl)
    (of_decide_eq_true (by kernel_rfl)) (by unfold Func.isWrapper; first | (rw [if_pos (by decide +kernel)]; kernel_rfl) | (rw [if_neg (by decide +kernel)]; exact ⟨rfl, rfl⟩))
    (fun os started H enc _ => lifted os started H enc)

theorem proved : Rows.BitsInsideCardSaid :=
  Claim7.holds_tied_plain_at .later [] Rows.bitsInsideCard.laidKinds true Rows.bitsInsideCard.stood.harness Rows.bitsInsideCard.stood.looks
    row_holds (fun _ h => by cases h) (by kernel_rfl) (fun _ h => by cases h) bitsInside_row_tie rfl ⟨rfl, rfl⟩ (by kernel_rfl) rfl
    (fun f fn hf hfn => by
      obtain rfl : f = 11 := Option.some.inj ((show Tryd.prog.funcNamed Rows.bitsInsideRow.func = some 11 by kernel_rfl).symm.trans hf) |>.symm
      obtain rfl : fn = Tryd.f11 := (Option.some.inj (Tryd.func11.symm.trans hfn)).symm
      exact ⟨looks0, fun j t ht => by
        rw [Tryd.params11] at ht
        have hm : t ∈ [24] := by simpa using Array.mem_of_getElem? ht
        have hall : ([24].all fun u => !Tryd.prog.wantsStandIn u) = true := by kernel_rfl
        exact (show Tryd.prog.wantsStandIn t = false by simpa using List.all_eq_true.1 hall t hm)⟩)
    (by kernel_rfl)
end Go.Proofs.YteabmnaepmkkaaaDoor.bitsInside
