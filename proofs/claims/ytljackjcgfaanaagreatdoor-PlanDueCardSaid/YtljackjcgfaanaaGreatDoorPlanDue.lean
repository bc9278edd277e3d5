/- For every slice of plans and time, PlanDue returns true: the plans that are due are those that have the time, in order. Condition: the program's tables start as its text lays them (tied). -/
import Derived.Test.YtljackjcgfaanaaGreatDoorPlaAr2
namespace Go.Proofs.YtljackjcgfaanaaGreatDoor.planDue
open Go.ChangeShapes Go.WideShapes Go.ChangeAt Go.RowKit Go.ChangeMaps

theorem due_pre (ps : List Pl.P) (t : Int) {i : Nat} : ∀ n, i ≤ n → ∃ r, Pl.dueK ps t n = Pl.dueK ps t i ++ r
  | n, h => by
    by_cases e : i = n
    · subst e; exact ⟨[], by simp⟩
    · cases n with
      | zero => omega
      | succ n =>
        obtain ⟨r, hr⟩ := due_pre ps t (i := i) n (by omega)
        by_cases k : (ps.getD n Pl.pZ).K t
        · exact ⟨r ++ [(n : Int)], by rw [Pl.dueK_yes k, hr, List.append_assoc]⟩
        · exact ⟨r, by rw [Pl.dueK_no k, hr]⟩
theorem due_at {ps : List Pl.P} {t : Int} {i n : Nat} (h : i < n) (k : (ps.getD i Pl.pZ).K t) : (Pl.dueK ps t i).length < (Pl.dueK ps t n).length ∧ (Pl.dueK ps t n)[(Pl.dueK ps t i).length]? = some (i : Int) := by
  obtain ⟨r, hr⟩ := due_pre ps t n (show i + 1 ≤ n by omega)
  rw [hr, Pl.dueK_yes k]
  refine ⟨by simp, ?_⟩
  rw [List.append_assoc, List.getElem?_append_right (Nat.le_refl _)]
  simp
set_option maxRecDepth 100000 in
set_option maxHeartbeats 8000000 in
theorem walk (a0 : Option Addr) (n0 cap : Nat) (z : List (Pl.P × Value)) (t : Int) (w : World) (L : LayM w) (e0 : z.length = n0) (hI : InPs w (.slice a0 n0 cap) z) (_ : (Lit.int .i64 t).wf = true) :
    Calls Tryz.prog 11 #[.slice a0 n0 cap, .int .i64 t] w fun e w' => e = .returned (.bool true) ∧ Below w.heap.size w w' := by
  subst e0
  have LL := Lib.hid L
  have WK := Lib.hid (fun W L => works_any W L)
  have HI := Lib.hid hI
  clear hI L
  by_cases big : 64 < z.length
  · have t0 : decide ((64 : Int) < (z.length : Int)) = true := by rw [decide_eq_true_iff]; omega
    clear big
    go_enter Tryz.func11, Tryz.ntmps11
    go_wp2_with fail
    refine (WK.out _ LL.out).mono ?_
    rintro e w1 ⟨rfl, hb1⟩
    go_wp2_with fail
    go_ret
    exact ⟨rfl, hb1⟩
  have t0 : decide ((64 : Int) < (z.length : Int)) = false := by rw [decide_eq_false_iff_not]; omega
  have BG := Lib.hid big
  clear big
  go_enter Tryz.func11, Tryz.ntmps11
  go_wp2_with fail
  go_loopw [5] (fun iv wr => ∃ k : Nat, k ≤ z.length ∧ iv = .int .i64 k ∧ Hid (∀ j, j < k → (z.getD j (Pl.pZ, .nilFunc)).1.l.length ≤ 64) ∧ w = wr) (fun iv _ => z.length - (intOf iv).toNat)
  case atStart => exact ⟨0, by omega, rfl, Lib.hid (fun j hj => by omega), rfl⟩
  case round =>
    obtain ⟨k, hk, rfl, hs, rfl⟩ := hrel
    by_cases lt : k < z.length
    · have e0 : decide ((k : Int) < (z.length : Int)) = true := by rw [decide_eq_true_iff]; omega
      have wi : IntKind.i64.wrap ((k : Int) + 1) = (k : Int) + 1 := by have := BG.out; rw [IntKind.wrap_i64]; omega
      obtain ⟨⟨q, vq⟩, hq⟩ : ∃ x, z.getD k (Pl.pZ, .nilFunc) = x := ⟨_, rfl⟩
      obtain ⟨b, o, rfl, cc, _, hq2⟩ := HI.out.2.2 _ _ _ rfl k lt
      rw [hq] at cc hq2
      obtain ⟨A2, cap2, rfl⟩ : ∃ A c, vq = .slice A q.l.length c := hq2.1
      have c13 := cc 13 _ rfl
      have HQ := Lib.hid hq
      clear cc hq2 hq
      by_cases wide : 64 < q.l.length
      · have t1 : decide ((64 : Int) < (q.l.length : Int)) = true := by rw [decide_eq_true_iff]; omega
        clear wide
        go_wp2_with fail
        refine (WK.out _ LL.out).mono ?_
        rintro e w1 ⟨rfl, hb1⟩
        go_wp2_with fail
        go_ret
        exact ⟨rfl, hb1⟩
      · have t1 : decide ((64 : Int) < (q.l.length : Int)) = false := by rw [decide_eq_false_iff_not]; omega
        have HS2 : Hid (∀ j, j < k + 1 → (z.getD j (Pl.pZ, .nilFunc)).1.l.length ≤ 64) := Lib.hid (fun j hj => by
          by_cases e : j = k
          · subst e; rw [HQ.out]; exact Nat.not_lt.1 wide
          · exact hs.out j (by omega))
        clear wide
        go_wp2_with fail
        go_roundw
        case rel => exact ⟨k + 1, by omega, by first | rfl | go_num, HS2, by first | rfl | trivial⟩
        case measure => simp [intOf] <;> omega
    · have e0 : decide ((k : Int) < (z.length : Int)) = false := by rw [decide_eq_false_iff_not]; omega
      obtain rfl : k = z.length := by omega
      have RP := Lib.hid (HI.out.rowP (by have := BG.out; omega) (fun j hj => by have := hs.out j hj; omega))
      obtain ⟨l, r, hr⟩ := Pl.dueR_ex (z.map (·.1)) t
      have DU := Lib.hid (pdue_any _ z t l r hr w LL.out RP.out)
      have DR := Lib.hid hr
      clear lt hk hs hr
      by_cases rz : r = 0
      · subst rz
        have D0 := Lib.hid (show l = Pl.dueK (z.map (·.1)) t z.length from by
          rcases DR.out.2 with ⟨k, _⟩ | ⟨_, k⟩
          · exact absurd rfl k
          · simpa using k)
        have OKS := Lib.hid (Pl.dueE_zero.1 DR.out.1.symm)
        have LD := Pl.dueK_len (z.map (·.1)) t z.length
        rw [← D0.out] at LD
        go_wp2_with fail
        refine (DU.out).mono ?_
        rintro e w1 ⟨u, rfl, hu⟩
        have RM := Lib.hid hu.rowT
        have B1 := Lib.hid hu.below
        obtain ⟨A9, c9, rfl⟩ := hu.len
        clear hu
        go_wp2_with fail
        go_loopw [8, 9] (fun av iv wr => ∃ k : Nat, k ≤ z.length ∧ iv = .int .i64 k ∧ av = .int .i64 ((Pl.dueK (z.map (·.1)) t k).length : Nat) ∧ Hid (Below w.heap.size w wr) ∧ Hid (RowT wr (.slice A9 l.length c9) l)) (fun _ iv _ => z.length - (intOf iv).toNat)
        case atStart => exact ⟨0, by omega, rfl, rfl, B1, RM⟩
        case round =>
          obtain ⟨k, hk, rfl, rfl, hb, RK⟩ := hrel
          by_cases lt : k < z.length
          · have e0 : decide ((k : Int) < (z.length : Int)) = true := by rw [decide_eq_true_iff]; omega
            have wi : IntKind.i64.wrap ((k : Int) + 1) = (k : Int) + 1 := by have := BG.out; rw [IntKind.wrap_i64]; omega
            obtain ⟨⟨q, vq⟩, hq⟩ : ∃ x, z.getD k (Pl.pZ, .nilFunc) = x := ⟨_, rfl⟩
            obtain ⟨b, o, hA, ⟨c0, c1, c2, c3, c4, c5, c6, c7, c8, c9, c10, c11, c12, c13⟩, hsp, hx⟩ := (RP.out.below hb.out).at lt hq
            subst hA
            have GM := getD_map1 lt hq
            have okq := OKS.out.2.1 q (getD_in lt GM)
            obtain ⟨p, hp⟩ : ∃ p : Bool, p = true ↔ q.K t := by
              by_cases y : q.K t
              · exact ⟨true, by simp [y]⟩
              · exact ⟨false, by simp [y]⟩
            have IS := Lib.hid (pis_any q hx vq t p 0 ⟨(Pl.errT_one okq OKS.out.2.2).symm, hp.trans (by simp)⟩ wr (LL.out.below hb.out) hsp)
            obtain ⟨d, hd⟩ : ∃ d, (Pl.dueK (z.map (·.1)) t k).length = d := ⟨_, rfl⟩
            have dk := Pl.dueK_len (z.map (·.1)) t k
            rw [hd] at dk
            rw [hd]
            cases p with
            | false =>
              have E2 := Lib.hid (Pl.dueK_no (ps := z.map (·.1)) (t := t) (k := k) (by rw [GM]; exact fun y => by cases hp.2 y))
              have HD := Lib.hid hd
              clear hq hsp hx GM okq hp hd dk
              go_wp2_with fail
              refine (IS.out).mono ?_
              rintro e w3 ⟨rfl, hb3⟩
              have H3 := Lib.hid (hb.out.trans (hb3.mono hb.out.size))
              have R3 := Lib.hid (RK.out.below hb3)
              clear hb3
              go_wp2_with fail
              go_roundw
              case rel => exact ⟨k + 1, by omega, by first | rfl | go_num, by rw [E2.out, HD.out], H3, R3⟩
              case measure => simp [intOf] <;> omega
            | true =>
              have kk : ((z.map (·.1)).getD k Pl.pZ).K t := by rw [GM]; exact hp.1 rfl
              have E2 := Lib.hid (Pl.dueK_yes (ps := z.map (·.1)) (t := t) (k := k) kk)
              obtain ⟨at1, at2⟩ := due_at lt kk
              rw [hd, ← D0.out] at at1 at2
              have e1 : decide ((l.length : Int) ≤ (d : Int)) = false := by rw [decide_eq_false_iff_not]; omega
              have wd : IntKind.i64.wrap ((d : Int) + 1) = (d : Int) + 1 := by have := BG.out; rw [IntKind.wrap_i64]; omega
              have AT := Lib.hid at2
              have HD := Lib.hid hd
              clear hq hsp hx GM okq hp hd dk kk at2
              go_wp2_with fail
              refine (IS.out).mono ?_
              rintro e w3 ⟨rfl, hb3⟩
              have H3 := Lib.hid (hb.out.trans (hb3.mono hb.out.size))
              have R3 := Lib.hid (RK.out.below hb3)
              obtain ⟨b9, o9, hA9, f9⟩ : ∃ b o, A9 = some ⟨b, o, none⟩ ∧ w3.cell? ⟨b, o + d, none⟩ = some (.int .i64 (k : Int)) := by
                obtain ⟨A', c', e, g⟩ := R3.out
                cases e
                exact g d _ AT.out
              subst hA9
              clear hb3
              go_wp2_with fail
              go_roundw
              case rel => exact ⟨k + 1, by omega, by first | rfl | go_num, by rw [E2.out, List.length_append, HD.out]; first | rfl | simp, H3, R3⟩
              case measure => simp [intOf] <;> omega
          · have e0 : decide ((k : Int) < (z.length : Int)) = false := by rw [decide_eq_false_iff_not]; omega
            obtain rfl : k = z.length := by omega
            have t5 : (((Pl.dueK (z.map (·.1)) t z.length).length : Int) == (l.length : Int)) = true := by rw [beq_iff_eq, ← D0.out]
            clear lt hk
            go_wp2_with fail
            refine (WK.out _ (LL.out.below hb.out)).mono ?_
            rintro e w5 ⟨rfl, hb5⟩
            have B5 := Lib.hid (hb.out.trans (hb5.mono hb.out.size))
            clear hb5
            go_wp2_with fail
            go_ret
            exact ⟨rfl, B5.out⟩
      · have d1 : (r != 0) = true := by simpa using rz
        have D0 := Lib.hid (show l = [] from by
          rcases DR.out.2 with ⟨_, k⟩ | ⟨k, _⟩
          · exact k
          · exact absurd k rz)
        clear rz
        go_wp2_with fail
        refine (DU.out).mono ?_
        rintro e w1 ⟨u, rfl, hu⟩
        have B1 := Lib.hid hu.below
        obtain ⟨A9, c9, rfl⟩ := hu.len
        have l0 : (((l.length : Nat) : Int) == 0) = true := by rw [D0.out]; rfl
        clear hu
        go_wp2_with fail
        refine (WK.out _ (LL.out.below B1.out)).mono ?_
        rintro e w5 ⟨rfl, hb5⟩
        have B5 := Lib.hid (B1.out.trans (hb5.mono B1.out.size))
        clear hb5
        go_wp2_with fail
        go_ret
        exact ⟨rfl, B5.out⟩

set_option maxRecDepth 100000 in
theorem lifted (os : Os) (started : os.Started) (H : Type) (enc : TypeId × Value → H) :
    ReturnsInHanded {} Tryz.checked os 11 .any (fun w args => (Rows.planDueSpec.pre enc Tryz.prog Tryz.f11 [] false w args ∧ laidMetH Tryz.prog Rows.planDueRow.laid w) ∧ sizedMet enc Tryz.prog Tryz.f11 (OpenSpec.ofChange Rows.planDueSpec) false w args)
      (Rows.planDueSpec.post enc Tryz.prog Tryz.f11 false true false false) := by
  refine returnsInHanded_of_change_and (C := Tryz.checked) (X := fun w _ => laidMetH Tryz.prog Rows.planDueRow.laid w) (fun _ _ _ hh h => h.of_heap hh) own started (by kernel_rfl) Tryz.func11
    (ChangeSpec.witness_shaped (enc := enc) (C := Tryz.checked) (os := os) (X := fun w _ => laidMetH Tryz.prog Rows.planDueRow.laid w) false (World.laidAll Tryz.prog os Rows.planDueRow.laid) #[.slice none 0 0, .int .i64 0] 8 (World.laidAll_os _ _ _) (World.shaped_of_ZipB (by kernel_rfl) (by kernel_rfl)) (by kernel_rfl) (by kernel_rfl) (by kernel_rfl) (by rw [MakeChecks.laidMetH_plain _ _ _ (by kernel_rfl)]; exact laidMet_laidAll _ (by kernel_rfl) (by kernel_rfl))) ?_
  intro W base args ds gs before hval0 hW _ _ hL _
  have hval : ∀ (j : Nat) t v, Tryz.f11.params[j]? = some t → args[j]? = some v → Value.okWide Tryz.prog W .any base t v := hval0
  have hW' := hW
  obtain ⟨p, q, hA0, hV, rfl, hfz, hnd⟩ := hW
  have hA : DataW.TrodAll enc Tryz.prog W 0 (fun _ => true) true Tryz.f11.params.toList args.toList ds p := hA0
  rw [Tryz.params11] at hA hval
  obtain ⟨v0, vs0, d0, ds0, p0, q0, hargs, rfl, rfl, h0, r0⟩ := trodAll_cons hA
  obtain ⟨v1, vs1, d1, ds1, p1, q1, rfl, rfl, rfl, h1, r1⟩ := trodAll_cons r0
  obtain ⟨rfl, rfl, rfl⟩ := trodAll_nil r1
  obtain rfl : args = #[v0, v1] := by cases args; simp_all
  obtain ⟨rfl, rfl⟩ := trodVars_none hV
  obtain ⟨a0, len0, cap0, rfl⟩ := okWide_slice Tryz.underlying49 (hval 0 49 v0 rfl rfl)
  have k0 := h0
  have lt0 : ∀ x ∈ p0, x.block < W.heap.size := by obtain ⟨m, hm⟩ := k0; exact DataW.trod_lt m _ _ _ hm
  obtain ⟨z0, e0, w0⟩ : ∃ l, l.length = len0 ∧ InPs W (.slice a0 len0 cap0) l := by obtain ⟨fuel, hf⟩ := h0; exact open_plans (by simpa [Value.cells] using hf)
  obtain ⟨a1, rfl, rfl, rfl, w1⟩ := open_int Tryz.underlying2 (hval 1 2 v1 rfl rfl) h1
  clear hA0 hval0
  refine (walk a0 len0 cap0 z0 a1 W (layM_of _ W (by kernel_rfl) (.head _) (.tail _ (.head _)) (by kernel_rfl) (by kernel_rfl) hL) e0 w0 w1).mono fun e W' ⟨he, bel⟩ => ?_
  subst he
  exact ⟨_, rfl, _, _, _, [], _, [], hW', trodAll_mk1 (shut_bool Tryz.underlying4 _), (trodAll_cons_mk (Below.trod laidOut (by kernel_rfl) (of_decide_eq_true (by kernel_rfl)) k0 bel lt0) (trodAll_cons_mk (shut_int Tryz.underlying2 w1) trodAll_mk0)), rfl, bel.frame _, fun h => by cases h⟩

theorem row_holds : Rows.PlanDueSaid :=
  OpenClaim.holds_of_wide 11 Tryz.f11 rfl rfl rfl rfl rfl rfl rfl ⟨rfl, rfl, rfl, rfl, rfl⟩ rfl rfl rfl rfl rfl (by kernel_rfl) Tryz.func11 (by kernel_rfl)
    (of_decide_eq_true (by kernel_rfl)) (by unfold Func.isWrapper; first | (rw [if_pos (by decide +kernel)]; kernel_rfl) | (rw [if_neg (by decide +kernel)]; exact ⟨rfl, rfl⟩))
    (fun os started H enc _ => lifted os started H enc)

theorem proved : Rows.PlanDueCardSaid :=
  Claim7.holds_tied_plain_at .later [] Rows.planDueCard.laidKinds true Rows.planDueCard.stood.harness Rows.planDueCard.stood.looks
    row_holds (fun _ h => by cases h) (by kernel_rfl) (fun _ h => by cases h) planDue_row_tie rfl ⟨rfl, rfl⟩ (by kernel_rfl) rfl
    (fun f fn hf hfn => by
      obtain rfl : f = 11 := Option.some.inj ((show Tryz.prog.funcNamed Rows.planDueRow.func = some 11 by kernel_rfl).symm.trans hf) |>.symm
      obtain rfl : fn = Tryz.f11 := (Option.some.inj (Tryz.func11.symm.trans hfn)).symm
      exact ⟨looks0, fun j t ht => by
        rw [Tryz.params11] at ht
        have hm : t ∈ [49, 2] := by simpa using Array.mem_of_getElem? ht
        have hall : ([49, 2].all fun u => !Tryz.prog.wantsStandIn u) = true := by kernel_rfl
        exact (show Tryz.prog.wantsStandIn t = false by simpa using List.all_eq_true.1 hall t hm)⟩)
    (by kernel_rfl)

end Go.Proofs.YtljackjcgfaanaaGreatDoor.planDue
