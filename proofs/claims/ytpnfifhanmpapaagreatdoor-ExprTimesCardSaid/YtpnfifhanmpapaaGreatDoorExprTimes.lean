/- For all numbers of which a valid expression is made, ExprTimes returns true: Seconds is the product of the numbers of seconds, minutes and hours, from 1 to 86,400. Condition: the program's tables start as its text lays them (tied). -/
import Derived.Test.YtpnfifhanmpapaaGreatDoorMExpG
import Derived.Deep.RegionHeld3
namespace Go.Proofs.YtpnfifhanmpapaaGreatDoor.exprTimes
open Go.ChangeShapes Go.WideShapes Go.ChangeAt Go.RowKit

theorem mem_below {S k : Nat} (h : ∀ v, S.testBit v = true → v < k) : ∀ m, k ≤ m → Bit.memTo S m = Bit.memTo S k := by
  intro m
  induction m with
  | zero => intro hk; obtain rfl : k = 0 := by omega
            rfl
  | succ m ih =>
    intro hk
    by_cases e : k = m + 1
    · rw [e]
    · rw [Bit.memTo_succ, if_neg, ih (by omega)]
      intro hb
      have := h m hb
      omega
theorem len_le {S k : Nat} (h : ∀ v, S.testBit v = true → v < k) (hk : k ≤ 64) : (Bit.mem S).length ≤ k := by
  rw [← Bit.memTo_all, mem_below h 64 hk]
  exact Bit.memTo_len S k
theorem len_pos {S : Nat} (h0 : S ≠ 0) (hS : S < 2 ^ 64) : 1 ≤ (Bit.mem S).length := by
  rcases Nat.eq_zero_or_pos (Bit.mem S).length with h | h
  · exfalso
    refine h0 (Bit.ext64 hS (by decide) fun v hv => ?_)
    have hn := List.length_eq_zero_iff.1 h
    have : ¬ v ∈ Bit.mem S := by rw [hn]; simp
    rw [Bit.mem_iff] at this
    cases hb : S.testBit v with
    | false => simp
    | true => exact absurd ⟨hv, hb⟩ this
  · exact h
/-- the context of the law's last line -/
structure TC (w : World) (B : Nat) (x : Exp.Ex) (W : World) : Prop where
  below : Below w.heap.size w W
  lay : Lay W
  row : Row W B 25 (exL x)
theorem TC.next {w W W' : World} {B : Nat} {x : Exp.Ex} (h : TC w B x W) (hb : Below W.heap.size W W') : TC w B x W' := ⟨h.below.trans (hb.mono h.below.size), h.lay.below hb, h.row.below hb⟩
theorem TC.drew {w W : World} {B : Nat} {x : Exp.Ex} (h : TC w B x W) : TC w B x W.drew := h.next (Below.refl _ _).drew
theorem TC.cells {w W : World} {B : Nat} {x : Exp.Ex} (h : TC w B x W) : W.cell? ⟨B, 0, none⟩ = some (.int .u64 x.a0) ∧ W.cell? ⟨B, 1, none⟩ = some (.int .u64 x.a1) ∧ W.cell? ⟨B, 2, none⟩ = some (.int .u64 x.a2) := ⟨h.row.cell 0, h.row.cell 1, h.row.cell 2⟩
theorem p_count {w W : World} {B : Nat} {x : Exp.Ex} (h : TC w B x W) (S n : Nat) (hS : S < 2 ^ 64) (hn : (Bit.mem S).length = n) :
    Calls Tryz.prog 34 #[.int .u64 S] W fun e W' => e = .returned (.int .i64 n) ∧ TC w B x W' :=
  (count_any S hS W).mono fun _ _ ⟨h1, h2⟩ => ⟨by rw [h1, hn], by rw [← h2]; exact h⟩
theorem p_works {w W : World} {B : Nat} {x : Exp.Ex} (h : TC w B x W) :
    Calls Tryz.prog 12 #[] W fun e W' => e = .returned (.bool true) ∧ TC w B x W' :=
  (works_any W h.lay).mono fun _ _ ⟨h1, h2⟩ => ⟨h1, h.next h2⟩

set_option maxRecDepth 100000 in
set_option maxHeartbeats 4000000 in
theorem walk (z : Exp.Ex) (k : Nat) (w : World) (L : Lay w) (hz : z.Bd) (hk : k < 256) :
    Calls Tryz.prog 9 #[.agg #[.int .u64 z.a0, .int .u64 z.a1, .int .u64 z.a2, .int .u64 z.a3, .int .u64 z.a4, .int .u64 z.a5, .int .u8 k]] w fun e w' => e = .returned (.bool true) ∧ Below w.heap.size w w' := by
  obtain ⟨x, hx⟩ : ∃ x, Exp.made z k = x := ⟨_, rfl⟩
  have hok : x.Ok := by rw [← hx]; exact Exp.made_ok z k
  have MA := Lib.hid (fun w0 : World => made_any z hz k hk w0 x hx)
  have hse := fun w0 : World => seconds_any x hok.bd w0
  rw [okB_ok hok] at hse
  simp only [if_true, errOk] at hse
  obtain ⟨n0, h0⟩ : ∃ n, (Bit.mem x.a0).length = n := ⟨_, rfl⟩
  obtain ⟨n1, h1⟩ : ∃ n, (Bit.mem x.a1).length = n := ⟨_, rfl⟩
  obtain ⟨n2, h2⟩ : ∃ n, (Bit.mem x.a2).length = n := ⟨_, rfl⟩
  obtain ⟨m, hm⟩ : ∃ m, n0 * n1 = m := ⟨_, rfl⟩
  obtain ⟨s, hs⟩ : ∃ k, m * n2 = k := ⟨_, rfl⟩
  have hsec : x.secs = s := by unfold Exp.Ex.secs; rw [h0, h1, h2, hm, hs]
  rw [hsec] at hse
  have SE := Lib.hid hse
  have b0 : n0 ≤ 60 := by rw [← h0]; exact len_le (fun v hv => Nat.lt_succ_of_le (hok.inn 0 (by decide) v hv).2) (by decide)
  have b1 : n1 ≤ 60 := by rw [← h1]; exact len_le (fun v hv => Nat.lt_succ_of_le (hok.inn 1 (by decide) v hv).2) (by decide)
  have b2 : n2 ≤ 24 := by rw [← h2]; exact len_le (fun v hv => Nat.lt_succ_of_le (hok.inn 2 (by decide) v hv).2) (by decide)
  have p0 : 1 ≤ n0 := by rw [← h0]; exact len_pos (hok.ne 0 (by decide)) (hok.bd 0 (by decide))
  have p1 : 1 ≤ n1 := by rw [← h1]; exact len_pos (hok.ne 1 (by decide)) (hok.bd 1 (by decide))
  have p2 : 1 ≤ n2 := by rw [← h2]; exact len_pos (hok.ne 2 (by decide)) (hok.bd 2 (by decide))
  have m1 : m ≤ 3600 := by rw [← hm]; exact Nat.mul_le_mul b0 b1
  have m0 : 1 ≤ m := by rw [← hm]; exact Nat.mul_pos p0 p1
  have s1 : s ≤ 86400 := by rw [← hs]; exact Nat.mul_le_mul m1 b2
  have s0 : 1 ≤ s := by rw [← hs]; exact Nat.mul_pos m0 p2
  have w1 : IntKind.i64.wrap ((n0 : Int) * (n1 : Int)) = (m : Int) := by rw [← Int.natCast_mul, hm, IntKind.wrap_i64]; omega
  have w2 : IntKind.i64.wrap ((m : Int) * (n2 : Int)) = (s : Int) := by rw [← Int.natCast_mul, hs, IntKind.wrap_i64]; omega
  have t1 : decide ((1 : Int) ≤ (s : Int)) = true := by rw [decide_eq_true_iff]; omega
  have t1n : decide (1 ≤ s) = true := by rw [decide_eq_true_iff]; omega
  have t2 : decide ((s : Int) ≤ 86400) = true := by rw [decide_eq_true_iff]; omega
  have t2n : decide (s ≤ 86400) = true := by rw [decide_eq_true_iff]; omega
  have t3 : (s == 0) = false := by rw [beq_eq_false_iff_ne]; omega
  have H0 := Lib.hid (And.intro (hok.bd 0 (by decide)) h0)
  have H1 := Lib.hid (And.intro (hok.bd 1 (by decide)) h1)
  have H2 := Lib.hid (And.intro (hok.bd 2 (by decide)) h2)
  have LL := Lib.hid L
  clear hx hz hk hok hse h0 h1 h2 hm hs hsec b0 b1 b2 p0 p1 p2 m1 m0 s1 s0 L
  go_enter Tryz.func9, Tryz.ntmps9
  go_wp2_with fail
  refine (MA.out _).mono ?_
  rintro e' w1 ⟨rfl, hb⟩
  have b1 := ((Below.refl _ w).alloc (Nat.le_refl _) (.cells #[.int .u64 z.a0, .int .u64 z.a1, .int .u64 z.a2, .int .u64 z.a3, .int .u64 z.a4, .int .u64 z.a5, .int .u8 k] 42)).trans (hb.mono (by simp))
  have TC1 : TC w w1.heap.size x (w1.alloc (.cells (exL x).toArray 25)) := ⟨b1.alloc b1.size _, LL.out.below (b1.alloc b1.size _), Row.new _ _ _⟩
  have Q := Lib.hid TC1
  clear hb b1 TC1
  go_wp2_with fail
  refine (SE.out _).mono ?_
  rintro e' w2 ⟨rfl, hb⟩
  have Q := Lib.hid (Q.out.next hb)
  obtain ⟨B, hB⟩ : ∃ B, w1.heap.size = B := ⟨_, rfl⟩
  rw [hB] at Q
  have c0 := Q.out.row.cell 0; have c1 := Q.out.row.cell 1; have c2 := Q.out.row.cell 2
  simp only [exL, List.getElem?_cons_zero, List.getElem?_cons_succ] at c0 c1 c2
  clear hb
  go_wp2_with fail
  go_region_held3 (fun w' => w'.cell? ⟨B, 0, none⟩ = some (.int .u64 x.a0) ∧ w'.cell? ⟨B, 1, none⟩ = some (.int .u64 x.a1) ∧ w'.cell? ⟨B, 2, none⟩ = some (.int .u64 x.a2)) (go_keep)
    (first | (go_at_call 34; refine (p_count (by first | exact Q.out | exact Q.out.drew) x.a0 n0 H0.out.1 H0.out.2).mono ?_; rintro e w20 ⟨rfl, q'⟩; have Q := Lib.hid q'; obtain ⟨c0, c1, c2⟩ := q'.cells; clear q') | (go_at_call 34; refine (p_count (by first | exact Q.out | exact Q.out.drew) x.a1 n1 H1.out.1 H1.out.2).mono ?_; rintro e w20 ⟨rfl, q'⟩; have Q := Lib.hid q'; obtain ⟨c0, c1, c2⟩ := q'.cells; clear q') | (go_at_call 34; refine (p_count (by first | exact Q.out | exact Q.out.drew) x.a2 n2 H2.out.1 H2.out.2).mono ?_; rintro e w20 ⟨rfl, q'⟩; have Q := Lib.hid q'; obtain ⟨c0, c1, c2⟩ := q'.cells; clear q') | (go_at_call 12; refine (p_works (by first | exact Q.out | exact Q.out.drew)).mono ?_; rintro e w20 ⟨rfl, q'⟩; have Q := Lib.hid q'; obtain ⟨c0, c1, c2⟩ := q'.cells; clear q'))
  go_wp2_with fail
  go_ret
  exact ⟨rfl, Q.out.below⟩

set_option maxRecDepth 100000 in
theorem lifted (os : Os) (started : os.Started) (H : Type) (enc : TypeId × Value → H) :
    ReturnsInHanded {} Tryz.checked os 9 .any (fun w args => (Rows.exprTimesSpec.pre enc Tryz.prog Tryz.f9 [] false w args ∧ laidMetH Tryz.prog Rows.exprTimesRow.laid w) ∧ sizedMet enc Tryz.prog Tryz.f9 (OpenSpec.ofChange Rows.exprTimesSpec) false w args)
      (Rows.exprTimesSpec.post enc Tryz.prog Tryz.f9 false true false false) := by
  refine returnsInHanded_of_change_and (C := Tryz.checked) (X := fun w _ => laidMetH Tryz.prog Rows.exprTimesRow.laid w) (fun _ _ _ hh h => h.of_heap hh) own started (by kernel_rfl) Tryz.func9
    (ChangeSpec.witness_shaped (enc := enc) (C := Tryz.checked) (os := os) (X := fun w _ => laidMetH Tryz.prog Rows.exprTimesRow.laid w) false (World.laidAll Tryz.prog os Rows.exprTimesRow.laid) #[.agg #[.int .u64 0, .int .u64 0, .int .u64 0, .int .u64 0, .int .u64 0, .int .u64 0, .int .u8 0]] 8 (World.laidAll_os _ _ _) (World.shaped_of_ZipB (by kernel_rfl) (by kernel_rfl)) (by kernel_rfl) (by kernel_rfl) (by kernel_rfl) (by rw [MakeChecks.laidMetH_plain _ _ _ (by kernel_rfl)]; exact laidMet_laidAll _ (by kernel_rfl) (by kernel_rfl))) ?_
  intro W base args ds gs before hval0 hW _ _ hL _
  have hval : ∀ (j : Nat) t v, Tryz.f9.params[j]? = some t → args[j]? = some v → Value.okWide Tryz.prog W .any base t v := hval0
  have hW' := hW
  obtain ⟨p, q, hA0, hV, rfl, hfz, hnd⟩ := hW
  have hA : DataW.TrodAll enc Tryz.prog W 0 (fun _ => true) true Tryz.f9.params.toList args.toList ds p := hA0
  rw [Tryz.params9] at hA hval
  obtain ⟨v0, vs0, d0, ds0, p0, q0, hargs, rfl, rfl, h0, r0⟩ := trodAll_cons hA
  obtain ⟨rfl, rfl, rfl⟩ := trodAll_nil r0
  obtain rfl : args = #[v0] := by cases args; simp_all
  obtain ⟨rfl, rfl⟩ := trodVars_none hV
  obtain ⟨z0, c0, rfl, w0, u0⟩ := open_sets (hval 0 42 v0 rfl rfl) h0
  have k0 := h0
  have lt0 : ∀ x ∈ p0, x.block < W.heap.size := by obtain ⟨m, hm⟩ := k0; exact DataW.trod_lt m _ _ _ hm
  clear hA0 hval0
  refine (walk z0 c0 W (lay_of _ W (by kernel_rfl) (.tail _ (.head _)) (by kernel_rfl) hL) w0 u0).mono fun e W' ⟨he, bel⟩ => ?_
  subst he
  exact ⟨_, rfl, _, _, _, [], _, [], hW', trodAll_mk1 (shut_bool Tryz.underlying4 _), (trodAll_cons_mk (Below.trod laidOut (by kernel_rfl) (of_decide_eq_true (by kernel_rfl)) k0 bel lt0) trodAll_mk0), rfl, bel.frame _, fun h => by cases h⟩

theorem row_holds : Rows.ExprTimesSaid :=
  OpenClaim.holds_of_wide 9 Tryz.f9 rfl rfl rfl rfl rfl rfl rfl ⟨rfl, rfl, rfl, rfl, rfl⟩ rfl rfl rfl rfl rfl (by kernel_rfl) Tryz.func9 (by kernel_rfl)
    (of_decide_eq_true (by kernel_rfl)) (by unfold Func.isWrapper; first | (rw [if_pos (by decide +kernel)]; kernel_rfl) | (rw [if_neg (by decide +kernel)]; exact ⟨rfl, rfl⟩))
    (fun os started H enc _ => lifted os started H enc)

theorem proved : Rows.ExprTimesCardSaid :=
  Claim7.holds_tied_plain_at .later [] Rows.exprTimesCard.laidKinds true Rows.exprTimesCard.stood.harness Rows.exprTimesCard.stood.looks
    row_holds (fun _ h => by cases h) (by kernel_rfl) (fun _ h => by cases h) exprTimes_row_tie rfl ⟨rfl, rfl⟩ (by kernel_rfl) rfl
    (fun f fn hf hfn => by
      obtain rfl : f = 9 := Option.some.inj ((show Tryz.prog.funcNamed Rows.exprTimesRow.func = some 9 by kernel_rfl).symm.trans hf) |>.symm
      obtain rfl : fn = Tryz.f9 := (Option.some.inj (Tryz.func9.symm.trans hfn)).symm
      exact ⟨looks0, fun j t ht => by
        rw [Tryz.params9] at ht
        have hm : t ∈ [42] := by simpa using Array.mem_of_getElem? ht
        have hall : ([42].all fun u => !Tryz.prog.wantsStandIn u) = true := by kernel_rfl
        exact (show Tryz.prog.wantsStandIn t = false by simpa using List.all_eq_true.1 hall t hm)⟩)
    (by kernel_rfl)
end Go.Proofs.YtpnfifhanmpapaaGreatDoor.exprTimes
