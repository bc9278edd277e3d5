/- For all uint64 sets s, BitsParts returns true: the runs of a set have no number in common, and are the set together; each of them is a range, or a single number. Condition: the table of math/bits starts as the program's text lays it (tied). -/
import Derived.Test.YteabmnaepmkkaaaDoorBitLaid
import Derived.Test.YteabmnaepmkkaaaDoorBitPart
import Derived.Test.YteabmnaepmkkaaaDoorBitLex
namespace Go.Proofs.YteabmnaepmkkaaaDoor.bitsParts
open Go.ChangeShapes Go.WideShapes Go.ChangeAt Go.RowKit

set_option maxRecDepth 100000 in
set_option maxHeartbeats 4000000 in
theorem walk (s : Int) (w : World) (L : Lay w) (hs : (Lit.int .u64 s).wf = true) :
    Calls Tryd.prog 7 #[.int .u64 s] w fun e w' => e = .returned (.bool true) ∧ Below w.heap.size w w' := by
  obtain ⟨S, rfl, hS⟩ := nat_u64 hs
  have RU := Lib.hid (fun w L => runs_any S hS w L)
  have PT := Lib.hid (fun k a b c (h : (Bit.runs (Bit.mem S))[k]? = some (a, b, c)) => part_of h)
  have AE := Lib.hid (all_end hS)
  have RL := Nat.le_trans (Bit.runs_len (Bit.mem S)) (Bit.mem_len S)
  obtain ⟨rs, hrs⟩ : ∃ rs, Bit.runs (Bit.mem S) = rs := ⟨_, rfl⟩
  simp only [hrs] at RU PT
  rw [hrs] at AE RL
  clear hrs hs
  go_enter Tryd.func7, Tryd.ntmps7
  go_wp2_with fail
  refine (RU.out _ L).mono ?_
  rintro e w1 ⟨v, rfl, ho⟩
  obtain ⟨n, ad, g, cap, hn, rfl, hg, hc⟩ : ∃ (n : Nat) (ad : Option Addr) (g cap : Nat), n = rs.length ∧ v = .slice ad n cap ∧ (0 < n → ad = some ⟨g, 0, none⟩) ∧ Cells3 w1 g rs := by
    rcases ho.row.2 with ⟨rfl, h0⟩ | ⟨g, cap, cur, rfl, _⟩
    · exact ⟨rs.length, none, 0, 0, rfl, by rw [h0], fun h => by omega, fun k hk => by omega⟩
    · exact ⟨rs.length, _, g, cap, rfl, rfl, fun _ => rfl, cells3_own ho.row⟩
  have HC := Lib.hid hc
  have HG := Lib.hid hg
  have HB := Lib.hid ho.below
  have HL := Lib.hid hn
  rw [← hn] at RL AE
  clear ho hc hg hn
  go_wp2_with fail
  go_loopw [4, 5] (fun al i wr => ∃ k m : Nat, k ≤ n ∧ i = .int .i64 k ∧ wr = w1.drewN m ∧ al = .int .u64 (allOf rs k : Nat)) (fun _ i _ => n - (intOf i).toNat)
  case atStart => exact ⟨0, 0, by omega, rfl, rfl, rfl⟩
  case round =>
    obtain ⟨k, m, hk, rfl, rfl, rfl⟩ := hrel
    by_cases q : k < n
    · obtain rfl := HG.out (by omega)
      have kl : k < rs.length := by rw [← HL.out]; exact q
      obtain ⟨a, b, c, habc⟩ : ∃ a b c, rs[k] = (a, b, c) := ⟨_, _, _, rfl⟩
      have HC5 : Cells3 (w1.drewN m) g rs := HC.out
      obtain ⟨w5, hw5⟩ : ∃ w5, w1.drewN m = w5 := ⟨_, rfl⟩
      rw [hw5] at HC5 ⊢
      have HC5 := Lib.hid HC5
      have W5 : Hid (∀ x, w5.drewN x = w1.drewN (m + x)) := Lib.hid (fun x => by rw [← hw5, World.drewN_drewN])
      clear hw5
      obtain ⟨c0, c1, c2⟩ := HC5.out k kl
      rw [habc] at c0 c1 c2
      dsimp only at c0 c1 c2
      have P := PT.out k a b c (by rw [List.getElem?_eq_getElem kl, habc])
      have F5 := Lib.hid P.same
      have ab0 := P.le
      have b64 := P.lt
      have c1' := P.one
      obtain ⟨D, hD⟩ : ∃ D, b - a = D := ⟨_, rfl⟩
      have F6 : Hid (D = c → c ≤ 1) := Lib.hid (fun e => by have := P.two (hD.trans e); omega)
      have modn := P.mod
      rw [hD] at modn
      have w1' : IntKind.i64.wrap ((b : Int) - a) = (D : Int) := by simp [IntKind.wrap, IntKind.bits, IntKind.signed]; omega
      have sb : (b : Int) - a = (D : Int) := by omega
      have m1 : (D : Int).tmod c = 0 := by rw [Int.tmod_eq_emod_of_nonneg (by omega), ← Int.natCast_emod, modn]; rfl
      have m2 : (D : Int) % c = 0 := by rw [← Int.natCast_emod, modn]; rfl
      have D64 : D < 64 := by omega
      have cz : ((c : Int) == 0) = false := by rw [beq_eq_false_iff_ne]; omega
      have cz2 : ¬ (c : Int) = 0 := by omega
      have cz3 : ¬ c = 0 := by omega
      have cz4 : (c : Int) ≠ 0 := by omega
      have wD : IntKind.i64.wrap (D : Int) = (D : Int) := by simp [IntKind.wrap, IntKind.bits, IntKind.signed]; omega
      have w0 : IntKind.i64.wrap 0 = 0 := rfl
      have m3 : IntKind.i64.wrap ((D : Int).tmod c) = 0 := by rw [m1]; rfl
      have cl : decide ((c : Int) < 1) = false := by simp; omega
      obtain ⟨R, hR⟩ : ∃ R, Bit.rangeS a b c = R := ⟨_, rfl⟩
      have RA := Lib.hid (fun w => range_any (a : Int) b c R 0 w (.inr (.inr ⟨a, b, c, rfl, rfl, rfl, ab0, b64, c1', hR.symm, rfl⟩)))
      have rlt := Bit.rangeS_lt ab0 c1' b64
      have rb : (Bit.rangeS a b c).testBit b = true := by
        rw [Bit.rangeS_bit ab0 c1', decide_eq_true_iff]
        exact ⟨ab0, Nat.le_refl _, P.mod⟩
      have ap := P.apart
      have al := P.all
      have an := P.next
      rw [hR] at rlt rb ap an
      have HA := Lib.hid (fun w => has_any R b w rlt)
      rw [has_nat rlt, rb] at HA
      have ba : bits .and .u64 (R : Int) (allOf rs k : Nat) = 0 := by
        rw [u64_and_nat R (allOf rs k) rlt al, ap]; rfl
      have bo : bits .or .u64 (allOf rs k : Nat) (R : Int) = (allOf rs (k + 1) : Nat) := by rw [u64_or_nat (allOf rs k) R al rlt, an]
      have BEF := Lib.hid P.before
      obtain ⟨A, hA⟩ : ∃ A, allOf rs k = A := ⟨_, rfl⟩
      obtain ⟨A2, hA2⟩ : ∃ A2, allOf rs (k + 1) = A2 := ⟨_, rfl⟩
      rw [hA] at ba bo al ⊢
      rw [hA2] at bo
      have AN := Lib.hid hA2
      have i1 : (k : Int) < (n : Int) := by omega
      clear P hD modn rb ap an hR hA hA2 rlt al habc
      go_wp2_with fail
      go_quiet (first | (go_at_call 13; exact Calls.quiet_of_same ((RA.out _).mono fun _ _ ⟨h1, h2⟩ => ⟨h1, h2.symm⟩)))
      go_wp2_with fail
      have W6 : Hid (w5.drewN nq = w1.drewN (m + nq)) := Lib.hid (W5.out nq)
      have c06 : (w5.drewN nq).cell? ⟨g, k * 3, none⟩ = some (.int .i64 a) := c0
      have c16 : (w5.drewN nq).cell? ⟨g, k * 3 + 1, none⟩ = some (.int .i64 b) := c1
      have c26 : (w5.drewN nq).cell? ⟨g, k * 3 + 2, none⟩ = some (.int .i64 c) := c2
      have D06 : Hid (∀ j (h : j < rs.length), (w5.drewN nq).cell? ⟨g, j * 3, none⟩ = some (.int .i64 rs[j].1)) := Lib.hid (fun j h => (HC5.out j h).1)
      generalize hw6 : w5.drewN nq = w6 at c06 c16 c26 D06 W6 ⊢
      clear hw6 c0 c1 c2
      refine wp_region_quiet_big (by kernel_rfl) (by kernel_rfl) (by kernel_rfl) ?_
      simp only [List.append_eq, List.cons_append, List.nil_append]
      iterate 47 (go_big_quiet_step (first | (go_at_call 23; exact Calls.quiet_of_same ((HA.out _).mono fun _ _ ⟨h1, h2⟩ => ⟨h1, h2.symm⟩))))
      by_cases ab : a = b
      · have k1 : ((a : Int) == b) = true := by rw [beq_iff_eq]; omega
        have k2 : ((c : Int) != 1) = false := by rw [bne_eq_false_iff_eq]; have := F5.out ab; omega
        have k3 : ((D : Int) == c) = false := by rw [beq_eq_false_iff_ne]; omega
        clear ab
        iterate 27 (go_big_quiet_step (first | (go_at_call 23; exact Calls.quiet_of_same ((HA.out _).mono fun _ _ ⟨h1, h2⟩ => ⟨h1, h2.symm⟩))))
        iterate 22 (go_big_quiet_step (first | (go_at_call 23; exact Calls.quiet_of_same ((HA.out _).mono fun _ _ ⟨h1, h2⟩ => ⟨h1, h2.symm⟩))))
        by_cases k0 : k = 0
        · have j0 : decide (0 < (k : Int)) = false := by simp; omega
          have j1 : decide (0 < k) = false := by simp; omega
          clear k0
          iterate 16 (go_big_quiet_step (first | (go_at_call 23; exact Calls.quiet_of_same ((HA.out _).mono fun _ _ ⟨h1, h2⟩ => ⟨h1, h2.symm⟩))))
          refine wpQuiet_nil ?_
          intro _ hw'
          obtain ⟨nq2, hw''⟩ := hw'
          subst hw''
          go_wp2_with fail
          go_roundw
          case rel => exact ⟨k + 1, _, by omega, by go_num, by rw [W6.out, World.drewN_drewN], by rw [← AN.out]⟩
          case measure => simp [intOf]; omega
        · obtain ⟨j, hj⟩ : ∃ j, k = j + 1 := ⟨k - 1, by omega⟩
          have j0 : decide (0 < (k : Int)) = true := by simp; omega
          have j1 : decide (0 < k) = true := by simp; omega
          have jw : IntKind.i64.wrap ((k : Int) - 1) = (j : Int) := by simp [IntKind.wrap, IntKind.bits, IntKind.signed]; omega
          have js : (k : Int) - 1 = (j : Int) := by omega
          have wj : IntKind.i64.wrap (j : Int) = (j : Int) := by simp [IntKind.wrap, IntKind.bits, IntKind.signed]; omega
          have jl : j < rs.length := by omega
          have i2 : (j : Int) < (n : Int) := by omega
          have d06 := D06.out j jl
          have bf := BEF.out j rs[j] (by omega) (List.getElem?_eq_getElem jl)
          obtain ⟨p, hp⟩ : ∃ p, rs[j].1 = p := ⟨_, rfl⟩
          rw [hp] at d06 bf
          have j2 : decide ((a : Int) ≤ p) = false := by simp; omega
          have j3 : decide (a ≤ p) = false := by simp; omega
          clear jl hp hj k0 bf
          iterate 16 (go_big_quiet_step (first | (go_at_call 23; exact Calls.quiet_of_same ((HA.out _).mono fun _ _ ⟨h1, h2⟩ => ⟨h1, h2.symm⟩))))
          refine wpQuiet_nil ?_
          intro _ hw'
          obtain ⟨nq2, hw''⟩ := hw'
          subst hw''
          go_wp2_with fail
          go_roundw
          case rel => exact ⟨k + 1, _, by omega, by go_num, by rw [W6.out, World.drewN_drewN], by rw [← AN.out]⟩
          case measure => simp [intOf]; omega
      · have k1 : ((a : Int) == b) = false := by rw [beq_eq_false_iff_ne]; omega
        clear ab
        iterate 27 (go_big_quiet_step (first | (go_at_call 23; exact Calls.quiet_of_same ((HA.out _).mono fun _ _ ⟨h1, h2⟩ => ⟨h1, h2.symm⟩))))
        by_cases dc : D = c
        · have k3 : ((D : Int) == c) = true := by rw [beq_iff_eq]; omega
          have k4 : decide (1 < (c : Int)) = false := by simp; have := F6.out dc; omega
          have k5 : decide (1 < c) = false := by simp; have := F6.out dc; omega
          clear dc
          iterate 22 (go_big_quiet_step (first | (go_at_call 23; exact Calls.quiet_of_same ((HA.out _).mono fun _ _ ⟨h1, h2⟩ => ⟨h1, h2.symm⟩))))
          by_cases k0 : k = 0
          · have j0 : decide (0 < (k : Int)) = false := by simp; omega
            have j1 : decide (0 < k) = false := by simp; omega
            clear k0
            iterate 16 (go_big_quiet_step (first | (go_at_call 23; exact Calls.quiet_of_same ((HA.out _).mono fun _ _ ⟨h1, h2⟩ => ⟨h1, h2.symm⟩))))
            refine wpQuiet_nil ?_
            intro _ hw'
            obtain ⟨nq2, hw''⟩ := hw'
            subst hw''
            go_wp2_with fail
            go_roundw
            case rel => exact ⟨k + 1, _, by omega, by go_num, by rw [W6.out, World.drewN_drewN], by rw [← AN.out]⟩
            case measure => simp [intOf]; omega
          · obtain ⟨j, hj⟩ : ∃ j, k = j + 1 := ⟨k - 1, by omega⟩
            have j0 : decide (0 < (k : Int)) = true := by simp; omega
            have j1 : decide (0 < k) = true := by simp; omega
            have jw : IntKind.i64.wrap ((k : Int) - 1) = (j : Int) := by simp [IntKind.wrap, IntKind.bits, IntKind.signed]; omega
            have js : (k : Int) - 1 = (j : Int) := by omega
            have wj : IntKind.i64.wrap (j : Int) = (j : Int) := by simp [IntKind.wrap, IntKind.bits, IntKind.signed]; omega
            have jl : j < rs.length := by omega
            have i2 : (j : Int) < (n : Int) := by omega
            have d06 := D06.out j jl
            have bf := BEF.out j rs[j] (by omega) (List.getElem?_eq_getElem jl)
            obtain ⟨p, hp⟩ : ∃ p, rs[j].1 = p := ⟨_, rfl⟩
            rw [hp] at d06 bf
            have j2 : decide ((a : Int) ≤ p) = false := by simp; omega
            have j3 : decide (a ≤ p) = false := by simp; omega
            clear jl hp hj k0 bf
            iterate 16 (go_big_quiet_step (first | (go_at_call 23; exact Calls.quiet_of_same ((HA.out _).mono fun _ _ ⟨h1, h2⟩ => ⟨h1, h2.symm⟩))))
            refine wpQuiet_nil ?_
            intro _ hw'
            obtain ⟨nq2, hw''⟩ := hw'
            subst hw''
            go_wp2_with fail
            go_roundw
            case rel => exact ⟨k + 1, _, by omega, by go_num, by rw [W6.out, World.drewN_drewN], by rw [← AN.out]⟩
            case measure => simp [intOf]; omega
        · have k3 : ((D : Int) == c) = false := by rw [beq_eq_false_iff_ne]; omega
          clear dc
          iterate 22 (go_big_quiet_step (first | (go_at_call 23; exact Calls.quiet_of_same ((HA.out _).mono fun _ _ ⟨h1, h2⟩ => ⟨h1, h2.symm⟩))))
          by_cases k0 : k = 0
          · have j0 : decide (0 < (k : Int)) = false := by simp; omega
            have j1 : decide (0 < k) = false := by simp; omega
            clear k0
            iterate 16 (go_big_quiet_step (first | (go_at_call 23; exact Calls.quiet_of_same ((HA.out _).mono fun _ _ ⟨h1, h2⟩ => ⟨h1, h2.symm⟩))))
            refine wpQuiet_nil ?_
            intro _ hw'
            obtain ⟨nq2, hw''⟩ := hw'
            subst hw''
            go_wp2_with fail
            go_roundw
            case rel => exact ⟨k + 1, _, by omega, by go_num, by rw [W6.out, World.drewN_drewN], by rw [← AN.out]⟩
            case measure => simp [intOf]; omega
          · obtain ⟨j, hj⟩ : ∃ j, k = j + 1 := ⟨k - 1, by omega⟩
            have j0 : decide (0 < (k : Int)) = true := by simp; omega
            have j1 : decide (0 < k) = true := by simp; omega
            have jw : IntKind.i64.wrap ((k : Int) - 1) = (j : Int) := by simp [IntKind.wrap, IntKind.bits, IntKind.signed]; omega
            have js : (k : Int) - 1 = (j : Int) := by omega
            have wj : IntKind.i64.wrap (j : Int) = (j : Int) := by simp [IntKind.wrap, IntKind.bits, IntKind.signed]; omega
            have jl : j < rs.length := by omega
            have i2 : (j : Int) < (n : Int) := by omega
            have d06 := D06.out j jl
            have bf := BEF.out j rs[j] (by omega) (List.getElem?_eq_getElem jl)
            obtain ⟨p, hp⟩ : ∃ p, rs[j].1 = p := ⟨_, rfl⟩
            rw [hp] at d06 bf
            have j2 : decide ((a : Int) ≤ p) = false := by simp; omega
            have j3 : decide (a ≤ p) = false := by simp; omega
            clear jl hp hj k0 bf
            iterate 16 (go_big_quiet_step (first | (go_at_call 23; exact Calls.quiet_of_same ((HA.out _).mono fun _ _ ⟨h1, h2⟩ => ⟨h1, h2.symm⟩))))
            refine wpQuiet_nil ?_
            intro _ hw'
            obtain ⟨nq2, hw''⟩ := hw'
            subst hw''
            go_wp2_with fail
            go_roundw
            case rel => exact ⟨k + 1, _, by omega, by go_num, by rw [W6.out, World.drewN_drewN], by rw [← AN.out]⟩
            case measure => simp [intOf]; omega
    · obtain rfl : k = n := by omega
      have E := AE.out
      rw [E]
      have LW := Lib.hid (L.below (below_drewN HB.out m))
      clear E
      go_wp2_with fail
      refine (works_any _ LW.out).mono ?_
      rintro e w8 ⟨rfl, hb8⟩
      go_wp2_with fail
      go_ret
      exact ⟨rfl, (below_drewN HB.out m).trans (hb8.mono HB.out.size)⟩

theorem listed : Rows.bitsPartsRow.laid.find? isTab = some (((Rows.bitsPartsRow.laid.find? isTab).map (·.1)).getD "", Rows.laid_math_bits_deBruijn64tab) := by kernel_rfl

set_option maxRecDepth 100000 in
theorem lifted (os : Os) (started : os.Started) (H : Type) (enc : TypeId × Value → H) :
    ReturnsInHanded {} Tryd.checked os 7 .any (fun w args => (Rows.bitsPartsSpec.pre enc Tryd.prog Tryd.f7 [] false w args ∧ laidMetH Tryd.prog Rows.bitsPartsRow.laid w) ∧ sizedMet enc Tryd.prog Tryd.f7 (OpenSpec.ofChange Rows.bitsPartsSpec) false w args)
      (Rows.bitsPartsSpec.post enc Tryd.prog Tryd.f7 false true false false) := by
  refine returnsInHanded_of_change_and (C := Tryd.checked) (X := fun w _ => laidMetH Tryd.prog Rows.bitsPartsRow.laid w) (fun _ _ _ hh h => h.of_heap hh) own started (by kernel_rfl) Tryd.func7
    (ChangeSpec.witness_shaped (enc := enc) (C := Tryd.checked) (os := os) (X := fun w _ => laidMetH Tryd.prog Rows.bitsPartsRow.laid w) false (World.doorLaid Tryd.prog 400 os) #[.int .u64 0] 8 rfl (shaped0 os _) (by kernel_rfl) (by kernel_rfl) (by kernel_rfl) (door_met os _)) ?_
  intro W base args ds gs before hval0 hW _ _ hL _
  have hval : ∀ (j : Nat) t v, Tryd.f7.params[j]? = some t → args[j]? = some v → Value.okWide Tryd.prog W .any base t v := hval0
  have hW' := hW
  obtain ⟨p, q, hA0, hV, rfl, hfz, hnd⟩ := hW
  have hA : DataW.TrodAll enc Tryd.prog W 0 (fun _ => true) true Tryd.f7.params.toList args.toList ds p := hA0
  rw [Tryd.params7] at hA hval
  obtain ⟨v0, vs0, d0, ds0, p0, q0, hargs, rfl, rfl, h0, r0⟩ := trodAll_cons hA
  obtain ⟨rfl, rfl, rfl⟩ := trodAll_nil r0
  obtain rfl : args = #[v0] := by cases args; simp_all
  obtain ⟨rfl, rfl⟩ := trodVars_none hV
  obtain ⟨a0, rfl, rfl, rfl, w0⟩ := open_int Tryd.underlying24 (hval 0 24 v0 rfl rfl) h0
  clear hA0 hval0
  refine (walk a0 W (lay_of _ W (by kernel_rfl) _ listed hL) w0).mono fun e W' ⟨he, bel⟩ => ?_
  subst he
  exact ⟨_, rfl, _, _, _, [], _, [], hW', trodAll_mk1 (shut_bool Tryd.underlying4 _), (trodAll_cons_mk (shut_int Tryd.underlying24 w0) trodAll_mk0), rfl, bel.frame _, fun h => by cases h⟩

theorem row_holds : Rows.BitsPartsSaid :=
  OpenClaim.holds_of_wide 7 Tryd.f7 rfl rfl rfl rfl rfl rfl rfl ⟨rfl, rfl, rfl, rfl, rfl⟩ rfl rfl rfl rfl rfl (by kernel_rfl) Tryd.func7 (by kernel_rfl)
    (of_decide_eq_true (by kernel_rfl)) (by unfold Func.isWrapper; first | (rw [if_pos (by decide +kernel)]; kernel_rfl) | (rw [if_neg (by decide +kernel)]; exact ⟨rfl, rfl⟩))
    (fun os started H enc _ => lifted os started H enc)

theorem proved : Rows.BitsPartsCardSaid :=
  Claim7.holds_tied_plain_at .later [] Rows.bitsPartsCard.laidKinds true Rows.bitsPartsCard.stood.harness Rows.bitsPartsCard.stood.looks
    row_holds (fun _ h => by cases h) (by kernel_rfl) (fun _ h => by cases h) bitsParts_row_tie rfl ⟨rfl, rfl⟩ (by kernel_rfl) rfl
    (fun f fn hf hfn => by
      obtain rfl : f = 7 := Option.some.inj ((show Tryd.prog.funcNamed Rows.bitsPartsRow.func = some 7 by kernel_rfl).symm.trans hf) |>.symm
      obtain rfl : fn = Tryd.f7 := (Option.some.inj (Tryd.func7.symm.trans hfn)).symm
      exact ⟨looks0, fun j t ht => by
        rw [Tryd.params7] at ht
        have hm : t ∈ [24] := by simpa using Array.mem_of_getElem? ht
        have hall : ([24].all fun u => !Tryd.prog.wantsStandIn u) = true := by kernel_rfl
        exact (show Tryd.prog.wantsStandIn t = false by simpa using List.all_eq_true.1 hall t hm)⟩)
    (by kernel_rfl)
end Go.Proofs.YteabmnaepmkkaaaDoor.bitsParts
