/- THE STAGE'S THEOREM: for all beginnings, slices of gaps and lengths, GapCover returns true: the windows that are taken one after the other hold all times, and no fewer windows do. No conditions. -/
import Derived.Test.YtihbpbdcpnpiaaaRows
import Derived.Test.YtihbpbdcpnpiaaaGapO
import Derived.Deep.RegionHeld3
import Derived.OpenShut
import Derived.ChangeOld
namespace Go.Proofs.Ytihbpbdcpnpiaaa.gapCover
open Go.ChangeShapes Go.WideShapes Go.ChangeAt Go.RowKit

set_option maxRecDepth 100000 in
set_option maxHeartbeats 8000000 in
theorem walk (f : Int) (a : Option Addr) (len cap : Nat) (zs : List Int) (g : Int) (w : World) (hf : (Lit.int .u32 f).wf = true) (hr : IsRow .u16 w a len cap zs) (hg : (Lit.int .u16 g).wf = true) :
    Calls Try.prog 10 #[.int .u32 f, .slice a len cap, .int .u16 g] w fun e w' => e = .returned (.bool true) ∧ Below w.heap.size w w' := by
  obtain ⟨f0, f1⟩ := u32_in hf
  obtain ⟨g0, g1⟩ := u16_in hg
  have B0 : Hid (Below w.heap.size w w) := Lib.hid (Below.refl _ w)
  have MA := Lib.hid (made_any f a len cap zs w f0 f1 hr)
  have MD := md_is hr f0 f1
  clear hf hg hr
  obtain ⟨l, hl⟩ : ∃ l, Gp.md f zs (min len 300) = l := ⟨_, rfl⟩
  rw [hl] at MA MD
  clear hl
  have w1 : IntKind.i64.wrap g = g := by rw [IntKind.wrap_i64]; omega
  have w2 : IntKind.i64.wrap (g + 1) = g + 1 := by rw [IntKind.wrap_i64]; omega
  obtain ⟨wd, hwd⟩ : ∃ wd, g + 1 = wd := ⟨_, rfl⟩
  have HWD := Lib.hid hwd
  have wb : 1 ≤ wd ∧ wd ≤ 65536 := by omega
  have EW := MD.errW (wd := wd) (by omega) (by omega)
  have ll := MD.len
  have lp := MD.pos
  have CA := Gp.cover_apart MD.tl (w := wd) (by omega) (by omega)
  obtain ⟨c, hc⟩ : ∃ c, (Gp.cov l wd l.length).1 = c := ⟨_, rfl⟩
  rw [hc] at CA
  have CO := Lib.hid (fun v W h => cover_any v l wd c (by unfold coverO; rw [if_pos EW, hc]) W h)
  rw [EW] at CO
  have zl := MD.tl.ok _ (Gp.getD_mem (l := l) (i := l.length - 1) (by omega))
  have z0 := MD.tl.ok _ (Gp.getD_mem lp)
  have hl2 := MD.hi _ (Gp.getD_mem (l := l) (i := l.length - 1) (by omega))
  have zz := MD.tl.inc.le (i := 0) (j := l.length - 1) (by omega) (by omega)
  have C1 := Gp.cov_one MD.tl (k := l.length) lp (Nat.le_refl _)
  have C2 := (Gp.cov_all MD.tl (k := l.length) (Nat.le_refl _)).1
  unfold Gp.okT at zl z0
  have E1 := MD.errW (wd := l.getD (l.length - 1) 0 - l.getD 0 0 + 1) (by omega) (by omega)
  have E2 := MD.errW (wd := 1) (by omega) (by omega)
  have O1 := Lib.hid (fun v W (h : CtxC w v l W) => cover_ctx (l.getD (l.length - 1) 0 - l.getD 0 0 + 1) 1 0 (by unfold coverO; rw [if_pos E1, C1]) E1 h)
  have O2 := Lib.hid (fun v W (h : CtxC w v l W) => cover_ctx 1 l.length 0 (by unfold coverO; rw [if_pos E2, C2]) E2 h)
  have HC := Lib.hid hc
  have HA := Lib.hid CA
  have OK := Lib.hid MD.tl.ok
  obtain ⟨LA, hLA⟩ : ∃ z, l.getD (l.length - 1) 0 = z := ⟨_, rfl⟩
  obtain ⟨FI, hFI⟩ : ∃ z, l.getD 0 0 = z := ⟨_, rfl⟩
  rw [hLA] at zl hl2 zz O1
  rw [hFI] at z0 zz O1
  have HLA := Lib.hid hLA
  have HFI := Lib.hid hFI
  obtain ⟨m, hm⟩ : ∃ m, l.length = m + 1 := ⟨l.length - 1, by omega⟩
  have HM := Lib.hid hm
  have LN : Hid (l.length ≤ 1000000) := Lib.hid (by omega)
  clear EW MD hc CA C1 C2 E1 E2 hLA hFI hm hwd
  go_enter Try.func10, Try.ntmps10
  go_wp2_with fail
  refine (MA.out).mono ?_
  rintro e V1 ⟨u1, rfl, o1⟩
  have B1 := Lib.hid (below_next B0.out o1.below)
  have L1 := Lib.hid (o1.rowT LN.out)
  obtain ⟨a_1, c_1, rfl⟩ := o1.len
  clear o1
  clear B0
  go_wp2_with fail
  try rw [HWD.out]
  refine (CO.out _ _ L1.out).mono ?_
  rintro e V2 ⟨rfl, b⟩
  have B2 := Lib.hid (below_next B1.out b)
  have L2 := Lib.hid (L1.out.below b)
  clear b
  clear L1 B1
  go_wp2_with fail
  obtain ⟨_, A1, k1, e1, cells⟩ := L2.out
  cases e1
  have CC := Lib.hid cells
  clear cells
  go_loop [11, 12, 39] (fun av nv iv => ∃ (k n : Nat) (x : Int), k ≤ l.length ∧ n ≤ k ∧ av = .int .i64 n ∧ nv = .int .i64 x ∧ iv = .int .i64 k ∧ Hid (Gp.apR l wd k = (n, x))) (fun _ _ iv => l.length - (intOf iv).toNat)
  case atStart => exact ⟨0, 0, 4611686018427387904, by omega, by omega, rfl, rfl, rfl, Lib.hid rfl⟩
  case round =>
    obtain ⟨k, n, x, hk, hn, rfl, rfl, rfl, hap⟩ := hrel
    by_cases lt : k < l.length
    · have e0 : decide ((k : Int) < (l.length : Int)) = true := by rw [decide_eq_true_iff]; omega
      have wi : IntKind.i64.wrap ((k : Int) + 1) = (k : Int) + 1 := by rw [IntKind.wrap_i64]; omega
      have wn : IntKind.i64.wrap ((n : Int) + 1) = (n : Int) + 1 := by rw [IntKind.wrap_i64]; omega
      have ST := Lib.hid (show Gp.apR l wd (k + 1) = if l.getD (l.length - 1 - k) 0 + wd ≤ x then (n + 1, l.getD (l.length - 1 - k) 0) else (n, x) by rw [Gp.apR, hap.out])
      obtain ⟨j, hj⟩ : ∃ j, l.length - 1 - k = j := ⟨_, rfl⟩
      rw [hj] at ST
      have jl : j < l.length := by omega
      have y1 : IntKind.i64.wrap ((l.length : Int) - 1) = (l.length : Int) - 1 := by rw [IntKind.wrap_i64]; omega
      have y2 : IntKind.i64.wrap ((l.length : Int) - 1 - (k : Int)) = (j : Int) := by rw [IntKind.wrap_i64]; omega
      obtain ⟨b3, o3, e3, x3⟩ := CC.out j jl
      cases e3
      have zo := OK.out _ (Gp.getD_mem jl)
      obtain ⟨z, hz⟩ : ∃ z, l.getD j 0 = z := ⟨_, rfl⟩
      rw [hz] at x3 zo ST
      unfold Gp.okT at zo
      have wz : IntKind.i64.wrap (z + wd) = z + wd := by rw [IntKind.wrap_i64]; omega
      clear hz hap zo
      by_cases q : z + wd ≤ x
      · have q1 : decide (z + wd ≤ x) = true := decide_eq_true q
        rw [if_pos q] at ST
        clear q hj
        go_wp2_with fail
        go_round
        case rel => exact ⟨k + 1, n + 1, z, by omega, by omega, by go_num, rfl, by go_num, ST⟩
        case measure => simp [intOf]; omega
      · have q1 : decide (z + wd ≤ x) = false := decide_eq_false q
        rw [if_neg q] at ST
        clear q hj
        go_wp2_with fail
        go_round
        case rel => exact ⟨k + 1, n, x, by omega, by omega, rfl, rfl, by go_num, ST⟩
        case measure => simp [intOf]; omega
    · have e0 : decide ((k : Int) < (l.length : Int)) = false := by rw [decide_eq_false_iff_not]; omega
      obtain rfl : n = c := by have := HA.out; rw [show l.length = k by omega, hap.out] at this; exact this.symm
      have nn : ((n : Int) != (n : Int)) = false := by simp
      clear hap hn
      go_wp2_with fail
      clear hk lt e0
      go_loop [15, 16, 64] (fun hv ev iv => ∃ (k h : Nat) (en : Int), k ≤ l.length ∧ h ≤ k ∧ hv = .int .i64 h ∧ ev = .int .i64 en ∧ iv = .int .i64 k ∧ Hid ((k = 0 ∧ h = 0 ∧ en = -1) ∨ (0 < k ∧ Gp.cov l wd k = (h, en)))) (fun _ _ iv => l.length - (intOf iv).toNat)
      case atStart => exact ⟨0, 0, -1, by omega, by omega, rfl, rfl, rfl, Lib.hid (.inl ⟨rfl, rfl, rfl⟩)⟩
      case round =>
        obtain ⟨k, h, en, hk, hh, rfl, rfl, rfl, inv⟩ := hrel
        by_cases lt : k < l.length
        · have e0 : decide ((k : Int) < (l.length : Int)) = true := by rw [decide_eq_true_iff]; omega
          have wi : IntKind.i64.wrap ((k : Int) + 1) = (k : Int) + 1 := by rw [IntKind.wrap_i64]; omega
          have wn : IntKind.i64.wrap ((h : Int) + 1) = (h : Int) + 1 := by rw [IntKind.wrap_i64]; omega
          obtain ⟨b3, o3, e3, x3⟩ := CC.out k lt
          cases e3
          have zo := OK.out _ (Gp.getD_mem lt)
          unfold Gp.okT at zo
          have ST := Lib.hid (show Gp.cov l wd (k + 1) = if en ≤ l.getD k 0 then (h + 1, l.getD k 0 + wd) else (h, en) by
            rcases inv.out with ⟨rfl, rfl, rfl⟩ | ⟨_, e⟩
            · rw [Gp.cov, if_pos (by show (0 : Int) ≤ _; exact zo.1), if_pos (by omega)]; rfl
            · rw [Gp.cov, e])
          obtain ⟨z, hz⟩ : ∃ z, l.getD k 0 = z := ⟨_, rfl⟩
          rw [hz] at x3 zo ST
          have wz : IntKind.i64.wrap (z + wd) = z + wd := by rw [IntKind.wrap_i64]; omega
          clear hz inv zo
          by_cases q : en ≤ z
          · have q1 : decide (en ≤ z) = true := decide_eq_true q
            rw [if_pos q] at ST
            clear q
            go_wp2_with fail
            go_round
            case rel => exact ⟨k + 1, h + 1, z + wd, by omega, by omega, by go_num, rfl, by go_num, Lib.hid (.inr ⟨by omega, ST.out⟩)⟩
            case measure => simp [intOf]; omega
          · have q1 : decide (en ≤ z) = false := decide_eq_false q
            rw [if_neg q] at ST
            clear q
            go_wp2_with fail
            go_round
            case rel => exact ⟨k + 1, h, en, by omega, by omega, rfl, rfl, by go_num, Lib.hid (.inr ⟨by omega, ST.out⟩)⟩
            case measure => simp [intOf]; omega
        · have e0 : decide ((k : Int) < (l.length : Int)) = false := by rw [decide_eq_false_iff_not]; omega
          obtain rfl : h = n := by
            have := HC.out
            rcases inv.out with ⟨e, _⟩ | ⟨_, e⟩
            · omega
            · rw [show l.length = k by omega, e] at this; exact this
          obtain ⟨b5, o5, e5, x5⟩ := CC.out m (by have := HM.out; omega)
          obtain ⟨b6, o6, e6, x6⟩ := CC.out 0 lp
          cases e5
          cases e6
          rw [HFI.out] at x6
          rw [show l.getD m 0 = LA by rw [← HLA.out, HM.out, Nat.add_sub_cancel]] at x5
          replace x6 : V2.cell? ⟨b5, o5, none⟩ = some (.int .i64 FI) := x6
          have y1 : IntKind.i64.wrap ((l.length : Int) - 1) = (m : Int) := by have := HM.out; rw [IntKind.wrap_i64]; omega
          have y2 : IntKind.i64.wrap (LA - FI) = LA - FI := by rw [IntKind.wrap_i64]; omega
          have y3 : IntKind.i64.wrap (LA - FI + 1) = LA - FI + 1 := by rw [IntKind.wrap_i64]; omega
          have y4 : IntKind.i64.wrap (m : Int) = (m : Int) := by have := HM.out; rw [IntKind.wrap_i64]; omega
          have r1 : m < l.length := by have := HM.out; omega
          have r2 : (m : Int) < (l.length : Int) := by omega
          have r3 : (0 : Int) < (l.length : Int) := by omega
          have HM0 := Lib.hid r1
          have HL0 := Lib.hid lp
          have HLM := Lib.hid (show l.getD m 0 = LA by rw [← HLA.out, HM.out, Nat.add_sub_cancel])
          clear inv hk hh
          go_wp2_with fail
          have Q : Hid (CtxC w (.slice (some ⟨b5, o5, none⟩) l.length c_1) l V2) := Lib.hid ⟨B2.out, L2.out⟩
          go_region_held3 (fun w' => w'.cell? ⟨b5, o5 + m, none⟩ = some (.int .i64 LA) ∧ w'.cell? ⟨b5, o5, none⟩ = some (.int .i64 FI)) (go_keep)
            (first | (go_at_call 26; refine (O1.out _ _ (by first | exact Q.out | exact Q.out.drew)).mono ?_; rintro e w20 ⟨rfl, q⟩; have x5 := q.2.at_ (HM0.out); have x6 := q.2.at_ HL0.out; rw [HLM.out] at x5; rw [HFI.out, Nat.add_zero] at x6; have Q := Lib.hid q; clear q))
          go_wp2_with fail
          refine (O2.out _ _ (by first | exact Q.out | exact Q.out.drew)).mono ?_
          rintro e W8 ⟨rfl, q⟩
          have Q := Lib.hid q
          clear q
          go_wp2_with fail
          refine (works_any _).mono ?_
          rintro e W9 ⟨rfl, b⟩
          have B9 := Lib.hid (below_next Q.out.1 b)
          clear b
          go_wp2_with fail
          go_ret
          exact ⟨rfl, B9.out⟩

theorem own : ownKnob Try.prog.godebug = none := by kernel_rfl
theorem laidOut : laidOutB Try.prog = true := by kernel_rfl

set_option maxRecDepth 100000 in
theorem lifted (os : Os) (started : os.Started) (H : Type) (enc : TypeId × Value → H) :
    ReturnsInHanded {} Try.checked os 10 .any (Rows.gapCoverSpec.pre6 enc Try.prog Try.f10 Rows.gapCoverRow.domain false) (Rows.gapCoverSpec.post enc Try.prog Try.f10 false true false false) := by
  refine returnsInHanded_of_change (C := Try.checked) own started (by kernel_rfl) Try.func10
    (ChangeSpec.witness6 (enc := enc) (C := Try.checked) false ⟨#[], #[.int .u32 0, .slice none 0 0, .int .u16 0], []⟩ 8 (by kernel_rfl) (by kernel_rfl) (by kernel_rfl) (by kernel_rfl)) ?_
  intro W base args ds gs before hval0 hW hcnd _
  have hval : ∀ (j : Nat) t v, Try.f10.params[j]? = some t → args[j]? = some v → Value.okWide Try.prog W .any base t v := hval0
  have hW' := hW
  obtain ⟨p, q, hA0, hV, rfl, hfz, hnd⟩ := hW
  have hA : DataW.TrodAll enc Try.prog W 0 (fun _ => true) true Try.f10.params.toList args.toList ds p := hA0
  rw [Try.params10] at hA hval
  obtain ⟨v0, vs0, d0, ds0, p0, q0, hargs, rfl, rfl, h0, r0⟩ := trodAll_cons hA
  obtain ⟨v1, vs1, d1, ds1, p1, q1, rfl, rfl, rfl, h1, r1⟩ := trodAll_cons r0
  obtain ⟨v2, vs2, d2, ds2, p2, q2, rfl, rfl, rfl, h2, r2⟩ := trodAll_cons r1
  obtain ⟨rfl, rfl, rfl⟩ := trodAll_nil r2
  obtain rfl : args = #[v0, v1, v2] := by cases args; simp_all
  obtain ⟨rfl, rfl⟩ := trodVars_none hV
  obtain ⟨a0, rfl, rfl, rfl, w0⟩ := open_int Try.underlying41 (hval 0 41 v0 rfl rfl) h0
  obtain ⟨a1, len1, cap1, rfl⟩ := okWide_slice Try.underlying42 (hval 1 42 v1 rfl rfl)
  have k1 := h1
  have lt1 : ∀ x ∈ p1, x.block < W.heap.size := by obtain ⟨m, hm⟩ := k1; exact DataW.trod_lt m _ _ _ hm
  obtain ⟨z1, w1⟩ : ∃ zs, IsRow .u16 W a1 len1 cap1 zs := by
    obtain ⟨fuel, hf⟩ := h1
    rcases open_ints Try.underlying42 Try.underlying44 (by kernel_rfl) hf with ⟨hcs, _⟩ | ⟨x, l, c, zs, hcs, _, hl, hm, hz, _, hcell, hwz⟩
    · simp [Value.cells] at hcs
      obtain ⟨rfl, rfl, rfl⟩ := hcs
      exact ⟨[], .inl ⟨rfl, rfl, rfl, rfl⟩⟩
    · simp [Value.cells] at hcs
      obtain ⟨rfl, rfl, rfl⟩ := hcs
      exact ⟨zs, .inr ⟨_, rfl, hl, hm, by simpa using hz, hcell, hwz⟩⟩
  obtain ⟨a2, rfl, rfl, rfl, w2⟩ := open_int Try.underlying44 (hval 2 44 v2 rfl rfl) h2
  clear hA0 hval0
  refine (walk a0 a1 len1 cap1 z1 a2 W w0 w1 w2).mono fun e W' ⟨he, bel⟩ => ?_
  subst he
  exact ⟨_, rfl, _, _, _, [], _, [], hW', trodAll_mk1 (shut_bool Try.underlying4 _), (trodAll_cons_mk (shut_int Try.underlying41 w0) (trodAll_cons_mk (Below.trod laidOut (by kernel_rfl) (of_decide_eq_true (by kernel_rfl)) k1 bel lt1) (trodAll_cons_mk (shut_int Try.underlying44 w2) trodAll_mk0))), rfl, bel.frame _, fun h => by cases h⟩

theorem proved : Rows.GapCoverSaid :=
  OpenClaim.holds_of_wide 10 Try.f10 rfl rfl rfl rfl rfl rfl rfl ⟨rfl, rfl, rfl, rfl, rfl⟩ rfl rfl rfl rfl rfl (by kernel_rfl) Try.func10 (by kernel_rfl)
    (of_decide_eq_true (by kernel_rfl)) (by unfold Func.isWrapper; first | (rw [if_pos (by decide +kernel)]; kernel_rfl) | (rw [if_neg (by decide +kernel)]; exact ⟨rfl, rfl⟩))
    (fun os started H enc _ => lifted os started H enc)

end Go.Proofs.Ytihbpbdcpnpiaaa.gapCover
