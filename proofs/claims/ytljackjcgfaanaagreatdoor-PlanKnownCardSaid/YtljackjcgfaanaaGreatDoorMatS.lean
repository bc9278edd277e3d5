/- Contract of seek of package match: the first local time that is matched, in a direction. -/
import Derived.Test.YtljackjcgfaanaaGreatDoorMatH
import Derived.Test.YtljackjcgfaanaaGreatDoorGMatE
namespace Go.Proofs.YtljackjcgfaanaaGreatDoor
open Go.ChangeShapes Go.RowKit Go.Shelf

attribute [local go_sem] Oper.semAt_some
theorem inDay_any (d : Mat.Dir) (x : Exp.Ex) (hok : x.Ok) (s : Nat) (hs : s < 86400) (w : World) (L : LayM w) :
    Calls Tryz.prog 129 #[.int .i64 d.val, .agg #[.int .u64 x.a0, .int .u64 x.a1, .int .u64 x.a2, .int .u64 x.a3, .int .u64 x.a4, .int .u64 x.a5, .bool x.b3, .bool x.b5], .int .i64 s] w fun e W' => e = .returned (inV (d.onDay x s)) ∧ Below w.heap.size w W' := callsIn_wide.1 (inDay_in 9 (by omega) d x hok s hs w L)
/-- a number that may be none, as Go has it -/
def optV (r : Option Int) : Value := .tuple #[.int .i64 (r.getD 0), .bool r.isSome]
set_option maxRecDepth 100000 in
set_option maxHeartbeats 4000000 in
theorem seek_in (n : Nat) (hn : 3 ≤ n) (d : Mat.Dir) (x : Exp.Ex) (hok : x.Ok) (f t : Int) (fl : -1000000000000 ≤ f) (fh : f ≤ 1000000000000) (tl : -1000000000000 ≤ t) (th : t ≤ 1000000000000)
    (hin : d.past f t = false → 0 ≤ f ∧ f ≤ 253402300799 ∧ 0 ≤ t ∧ t ≤ 253402300799) (w : World) (L : LayM w) :
    CallsIn Fence.wide n Tryz.prog 107 #[.int .i64 d.val, .agg #[.int .u64 x.a0, .int .u64 x.a1, .int .u64 x.a2, .int .u64 x.a3, .int .u64 x.a4, .int .u64 x.a5, .bool x.b3, .bool x.b5], .int .i64 f, .int .i64 t] w fun e W' => e = .returned (optV (d.seek x f t)) ∧ Below w.heap.size w W' := by
  have h1 : 1 ≤ n := by omega
  have OK := Lib.hid hok
  have LL := Lib.hid L
  have IN := Lib.hid hin
  have BD := Lib.hid (And.intro (And.intro fl fh) (And.intro tl th))
  have FA := Lib.hid (show ∀ w0 : World, Calls Tryz.prog 128 #[.int .i64 d.val, .int .i64 86400] w0 fun e w' => e = .returned (.int .i64 (d.fst 86400 : Nat)) ∧ w0 = w' from fun w0 => first_any d 86400 w0 (by decide) (by decide))
  have IA := Lib.hid (fun s hs w0 L0 => inDay_any d x hok s hs w0 L0)
  clear hok L hin fl fh tl th
  refine callsIn_of_wp_marks Tryz.func107 rfl trivial ?_ rfl
  simp only [Tryz.ntmps107, List.size_toArray, List.length_cons, List.length_nil, Nat.reduceAdd, Nat.reduceSub, Array.replicate_succ, Array.replicate_zero, List.push_toArray, List.append_toArray, List.nil_append, List.cons_append]
  gi_wp2_with (refine ⟨trivial, ?_⟩; gi_at_call 127; refine (callsIn_wide.2 (days_any d x f t _)).mono ?_; rintro e w' ⟨rfl, rfl⟩)
  obtain ⟨os, hos⟩ : ∃ os : List Obj, os = [.cells #[.int .i64 d.val] 124, (.cells #[.int .u64 x.a0, .int .u64 x.a1, .int .u64 x.a2, .int .u64 x.a3, .int .u64 x.a4, .int .u64 x.a5, .bool x.b3, .bool x.b5] 24), .cells #[.int .i64 f] 2, .cells #[.int .i64 t] 2, .cells #[.int .i64 0] 2, .cells #[.bool false] 4, .cells #[.int .i64 d.val] 124, (.cells #[.int .u64 x.a0, .int .u64 x.a1, .int .u64 x.a2, .int .u64 x.a3, .int .u64 x.a4, .int .u64 x.a5, .bool x.b3, .bool x.b5] 24), .cells #[.int .i64 f] 2, .cells #[.int .i64 t] 2] := ⟨_, rfl⟩
  obtain ⟨W0, hW0⟩ : ∃ W0, W0 = allocs w os := ⟨_, rfl⟩
  have hB0 : Below w.heap.size w W0 := by rw [hW0]; exact allocs_below _ _
  have hsz : W0.heap.size = w.heap.size + 10 := by rw [hW0, allocs_size, hos]; rfl
  have b0 : Boxed W0 w.heap.size 124 (.int .i64 d.val) := by rw [hW0]; exact allocs_box (k := 0) (by rw [hos]; rfl) (by omega)
  have b1 : Row W0 (w.heap.size + 1) 24 (exL x) := by
    show W0.heap[w.heap.size + 1]? = _
    rw [hW0]; exact allocs_at _ _ 1 _ (by rw [hos]; rfl)
  have b2 : Boxed W0 (w.heap.size + 1 + 1) 2 (.int .i64 f) := by rw [hW0]; exact allocs_box (k := 2) (by rw [hos]; rfl) (by omega)
  have b3 : Boxed W0 (w.heap.size + 1 + 1 + 1) 2 (.int .i64 t) := by rw [hW0]; exact allocs_box (k := 3) (by rw [hos]; rfl) (by omega)
  have b4 : Boxed W0 (w.heap.size + 1 + 1 + 1 + 1) 2 (.int .i64 0) := by rw [hW0]; exact allocs_box (k := 4) (by rw [hos]; rfl) (by omega)
  have b5 : Boxed W0 (w.heap.size + 1 + 1 + 1 + 1 + 1) 4 (.bool false) := by rw [hW0]; exact allocs_box (k := 5) (by rw [hos]; rfl) (by omega)
  have b6 : Boxed W0 (w.heap.size + 1 + 1 + 1 + 1 + 1 + 1) 124 (.int .i64 d.val) := by rw [hW0]; exact allocs_box (k := 6) (by rw [hos]; rfl) (by omega)
  have b7 : Row W0 (w.heap.size + 1 + 1 + 1 + 1 + 1 + 1 + 1) 24 (exL x) := by
    show W0.heap[w.heap.size + 7]? = _
    rw [hW0]; exact allocs_at _ _ 7 _ (by rw [hos]; rfl)
  have b8 : Boxed W0 (w.heap.size + 1 + 1 + 1 + 1 + 1 + 1 + 1 + 1) 2 (.int .i64 f) := by rw [hW0]; exact allocs_box (k := 8) (by rw [hos]; rfl) (by omega)
  have b9 : Boxed W0 (w.heap.size + 1 + 1 + 1 + 1 + 1 + 1 + 1 + 1 + 1) 2 (.int .i64 t) := by rw [hW0]; exact allocs_box (k := 9) (by rw [hos]; rfl) (by omega)
  change Code.wpIn _ _ _ _ _ _ (allocs w [.cells #[.int .i64 d.val] 124, (.cells #[.int .u64 x.a0, .int .u64 x.a1, .int .u64 x.a2, .int .u64 x.a3, .int .u64 x.a4, .int .u64 x.a5, .bool x.b3, .bool x.b5] 24), .cells #[.int .i64 f] 2, .cells #[.int .i64 t] 2, .cells #[.int .i64 0] 2, .cells #[.bool false] 4, .cells #[.int .i64 d.val] 124, (.cells #[.int .u64 x.a0, .int .u64 x.a1, .int .u64 x.a2, .int .u64 x.a3, .int .u64 x.a4, .int .u64 x.a5, .bool x.b3, .bool x.b5] 24), .cells #[.int .i64 f] 2, .cells #[.int .i64 t] 2])
  rw [← hos, ← hW0]
  clear hos hW0
  have L0 := Lib.hid (LL.out.below hB0)
  have TB := Lib.hid (show 1 < w.heap.size from LL.out.b.lt)
  have TC := Lib.hid (show 0 < w.heap.size from LL.out.c.lt)
  have HS := Lib.hid hsz
  have B0 := Lib.hid b0; have B1 := Lib.hid b1; have B2 := Lib.hid b2; have B3 := Lib.hid b3
  apply wpIn_rangeFunc_ownG rfl h1 (gf := 142) (lb := #[.pointer (some ⟨w.heap.size + 1 + 1 + 1 + 1 + 1 + 1, 0, none⟩), .pointer (some ⟨w.heap.size + 1 + 1 + 1 + 1 + 1 + 1 + 1 + 1, 0, none⟩), .pointer (some ⟨w.heap.size + 1 + 1 + 1 + 1 + 1 + 1 + 1 + 1 + 1, 0, none⟩), .pointer (some ⟨w.heap.size + 1 + 1 + 1 + 1 + 1 + 1 + 1, 0, none⟩)]) rfl trivial (enters_of Tryz.func142 (by kernel_rfl) rfl)
    (days_stops (fun _ => False) (n - 1) (by omega) _ _ _ _ d x OK.out f t BD.out.1.1 BD.out.1.2 BD.out.2.1 BD.out.2.2 (fun h => by have := IN.out h; exact ⟨by omega, by omega, by omega, by omega, .inr this.2.1⟩) (fun h => h) (fun h => h) (fun h => h) (fun h => h) (fun h => h) (fun h => h) W0 (fun _ h => h.elim) b6 b8 b9 b7 L0.out) Kc.trans Kc.book (Below.refl _ _) (fun _ => rfl)
    (fun pre W => ((Boxed W (w.heap.size + 1 + 1 + 1 + 1) 2 (.int .i64 0) ∧ Boxed W (w.heap.size + 1 + 1 + 1 + 1 + 1) 4 (.bool false)) ∧ ((pre.map (fun q : Dy => q.val)).findSome? (d.hit x f t) = none)) ∧ Kc (fun _ => False) W0 W ∧ Below w.heap.size w W)
    (fun c pre W => ∃ u, (Boxed W (w.heap.size + 1 + 1 + 1 + 1) 2 (.int .i64 u) ∧ Boxed W (w.heap.size + 1 + 1 + 1 + 1 + 1) 4 (.bool true)) ∧ (c = .ret ∧ (pre.map (fun q : Dy => q.val)).findSome? (d.hit x f t) = some u) ∧ Below w.heap.size w W)
    (OwnFrom.and (OwnFrom.and (OwnFrom.and (Own.from (boxed_own _ _ _) _) (Own.from (boxed_own _ _ _) _)) (ownFrom_pure _ _)) (OwnFrom.and (Own.from Kc.own _) (ownFrom_below (Nat.le_refl _) (by omega))))
    (fun c pre A B row ⟨u, e1, e2, e3⟩ hg hr => ⟨u, OwnFrom.and (Own.from (boxed_own _ _ (fun (_ : Unit) => Value.int .i64 u)) _) (Own.from (boxed_own _ _ (fun (_ : Unit) => Value.bool true)) _) () A B row e1 hg hr, e2, ownFrom_below (β := Unit) (Nat.le_refl _) (by omega) () A B row e3 hg hr⟩)
    ⟨⟨⟨b4, b5⟩, rfl⟩, Kc.refl _ _, hB0⟩
    _ ?assign ?body ?done ?stop
  case assign =>
    intro l x W K hK
    gi_wp2
    exact hK
  case body =>
    rintro l pre q W ⟨⟨⟨v4, v5⟩, hp⟩, hk, hB⟩ hlt
    have h1' : 1 ≤ n - 1 - 1 := by omega
    obtain ⟨hpast, _⟩ := lim_lt hlt
    obtain ⟨i1, i2, i3, i4⟩ := IN.out hpast
    have k0 := hk.box (fun h => h) B0.out; have k1 := hk.row (fun h => h) B1.out; have k2 := hk.box (fun h => h) B2.out; have k3 := hk.box (fun h => h) B3.out
    have c0 := k0.cell; have c2 := k2.cell; have c3 := k3.cell
    obtain ⟨y0, y1, y2, y3, y4, y5, y6, y7⟩ := row_cells k1
    have g4 := v4.frozen; have g5 := v5.frozen; have z4 := v4.cell; have z5 := v5.cell
    have LW := Lib.hid (LayM.kc hk (fun h => h) (fun h => h) L0.out)
    have HV := Lib.hid (And.intro v4 v5)
    have HP := Lib.hid hp
    have HK := Lib.hid hk
    have HB := Lib.hid hB
    obtain ⟨s, hs⟩ : ∃ s, d.st f q.val = s := ⟨_, rfl⟩
    have HST := Lib.hid hs
    have s64 : Hid (s < 86400) := Lib.hid (by rw [← hs]; exact st_lt _ _ _)
    have QB := Lib.hid q.property
    have MV := Lib.hid (fun V (hb : Below W.heap.size W V) => And.intro (((hb.cell (p := ⟨w.heap.size, 0, none⟩) k0.lt).trans k0.cell)) (And.intro ((hb.cell (p := ⟨w.heap.size + 1 + 1 + 1, 0, none⟩) k3.lt).trans k3.cell) (And.intro (And.intro ((hb.cell (p := ⟨w.heap.size + 1 + 1 + 1 + 1, 0, none⟩) v4.lt).trans v4.cell) ((hb.cell (p := ⟨w.heap.size + 1 + 1 + 1 + 1 + 1, 0, none⟩) v5.lt).trans v5.cell)) (And.intro ((hb.frozen (p := ⟨w.heap.size + 1 + 1 + 1 + 1, 0, none⟩) v4.lt).trans v4.frozen) ((hb.frozen (p := ⟨w.heap.size + 1 + 1 + 1 + 1 + 1, 0, none⟩) v5.lt).trans v5.frozen)))))
    obtain ⟨F, hF⟩ : ∃ F, f / 86400 = F := ⟨_, rfl⟩
    have qf : f.tdiv 86400 = F := by rw [← hF]; exact Int.tdiv_eq_ediv_of_nonneg i1
    have wF : IntKind.i64.wrap F = F := by rw [IntKind.wrap_i64]; omega
    have wq : IntKind.i64.wrap (86400 * q.val) = 86400 * q.val := by have := QB.out; rw [IntKind.wrap_i64]; omega
    clear hs hp hk hB k0 k1 k2 k3 v4 v5 hlt hpast
    by_cases hqF : q.val = F
    · have t1 : (q.val == F) = true := by rw [beq_iff_eq]; exact hqF
      have es : Hid ((s : Int) = f % 86400) := Lib.hid (by rw [← HST.out]; unfold Mat.Dir.st; rw [if_pos (by rw [hF]; exact hqF)]; omega)
      have qm : f.tmod 86400 = (s : Int) := by rw [es.out]; exact Int.tmod_eq_emod_of_nonneg i1
      clear hF i1 i2 i3 i4
      have HQF := Lib.hid hqF
      clear hqF
      cases ho : d.onDay x s with
      | none =>
        have HH : Hid (d.hit x f t q.val = none) := Lib.hid (by unfold Mat.Dir.hit; rw [HST.out, ho])
        have IA := Lib.hid (fun w0 L0 => IA.out s s64.out w0 L0)
        rw [ho] at IA
        simp only [inV] at IA
        clear ho
        gi_wp2_with (refine ⟨trivial, ?_⟩; first | (gi_at_call 128; refine (CallsIn.inRound l (callsIn_wide.2 (FA.out _))).mono ?_; rintro e w' ⟨rfl, rfl⟩) | (gi_at_call 129; refine (CallsIn.inRound l (callsIn_wide.2 (IA.out _ LW.out))).mono ?_; rintro e V ⟨rfl, hb⟩; have HBV := Lib.hid hb; obtain ⟨m0, m3, ⟨m4, m5⟩, m6, m7⟩ := MV.out V hb; clear hb))
        refine ⟨trivial, ?_⟩
        gi_wp2
        exact ⟨(keeps_of_below HBV.out).from _, Kc.of_below HBV.out, ⟨⟨(HBV.out.block _ HV.out.1.lt).trans HV.out.1, (HBV.out.block _ HV.out.2.lt).trans HV.out.2⟩, by rw [List.map_append, List.findSome?_append, HP.out]; simp [HH.out]⟩, HK.out.trans (Kc.of_below HBV.out), HB.out.trans (HBV.out.mono HB.out.size)⟩
      | some p =>
        have IA := Lib.hid (fun w0 L0 => IA.out s s64.out w0 L0)
        rw [ho] at IA
        simp only [inV] at IA
        have SB := (onDay_is (d := d) OK.out s64.out)
        rw [ho] at SB
        obtain ⟨z, hz⟩ : ∃ z, Mat.sec3 p = z := ⟨_, rfl⟩
        have sb : 0 ≤ z ∧ z < 86400 := by have := SB.2.2.1; rw [← hz]; exact ⟨this.1, this.2.1⟩
        rw [hz] at IA
        have qb := QB.out
        have w2 : IntKind.i64.wrap (86400 * q.val + z) = 86400 * q.val + z := by rw [IntKind.wrap_i64]; omega
        obtain ⟨b, hpb⟩ : ∃ b, d.past (86400 * q.val + z) t = b := ⟨_, rfl⟩
        have PF := Lib.hid (fun w0 : World => past_any d (86400 * q.val + z) t b hpb w0 (by omega) (by omega) (by have := BD.out; omega) (by have := BD.out; omega))
        have HH : Hid (d.hit x f t q.val = if b = true then none else some (86400 * q.val + z)) := Lib.hid (by unfold Mat.Dir.hit; rw [HST.out, ho]; simp only [hz, hpb])
        clear ho SB sb hz hpb qb
        cases b with
        | true =>
          gi_wp2_with (refine ⟨trivial, ?_⟩; first | (gi_at_call 128; refine (CallsIn.inRound l (callsIn_wide.2 (FA.out _))).mono ?_; rintro e w' ⟨rfl, rfl⟩) | (gi_at_call 129; refine (CallsIn.inRound l (callsIn_wide.2 (IA.out _ LW.out))).mono ?_; rintro e V ⟨rfl, hb⟩; have HBV := Lib.hid hb; obtain ⟨m0, m3, ⟨m4, m5⟩, m6, m7⟩ := MV.out V hb; clear hb) | (gi_at_call 130; refine (CallsIn.inRound l (callsIn_wide.2 (PF.out _))).mono ?_; rintro e w' ⟨rfl, rfl⟩))
          exact ⟨(keeps_of_below HBV.out).from _, Kc.of_below HBV.out, ⟨⟨(HBV.out.block _ HV.out.1.lt).trans HV.out.1, (HBV.out.block _ HV.out.2.lt).trans HV.out.2⟩, by rw [List.map_append, List.findSome?_append, HP.out]; simp [HH.out]⟩, HK.out.trans (Kc.of_below HBV.out), HB.out.trans (HBV.out.mono HB.out.size)⟩
        | false =>
          gi_wp2_with (refine ⟨trivial, ?_⟩; first | (gi_at_call 128; refine (CallsIn.inRound l (callsIn_wide.2 (FA.out _))).mono ?_; rintro e w' ⟨rfl, rfl⟩) | (gi_at_call 129; refine (CallsIn.inRound l (callsIn_wide.2 (IA.out _ LW.out))).mono ?_; rintro e V ⟨rfl, hb⟩; have HBV := Lib.hid hb; obtain ⟨m0, m3, ⟨m4, m5⟩, m6, m7⟩ := MV.out V hb; clear hb) | (gi_at_call 130; refine (CallsIn.inRound l (callsIn_wide.2 (PF.out _))).mono ?_; rintro e w' ⟨rfl, rfl⟩))
          have ks := ((keeps_of_below HBV.out).trans (KeepsOthers.setCell V ⟨w.heap.size + 1 + 1 + 1 + 1, 0, none⟩ (.int .i64 (86400 * q.val + z)))).trans (KeepsOthers.setCell _ ⟨w.heap.size + 1 + 1 + 1 + 1 + 1, 0, none⟩ (.bool true))
          have n4 := (HBV.out.block _ HV.out.1.lt).trans HV.out.1
          have n5 := (HBV.out.block _ HV.out.2.lt).trans HV.out.2
          have n4 : Boxed V (w.heap.size + 1 + 1 + 1 + 1) 2 (.int .i64 0) := n4
          have n5 : Boxed V (w.heap.size + 1 + 1 + 1 + 1 + 1) 4 (.bool false) := n5
          refine ⟨ks.from _, 86400 * q.val + z, ⟨(n4.set _).other (by omega) _, (n5.other (by omega) _).set _⟩, ⟨rfl, by rw [List.map_append, List.findSome?_append, HP.out]; simp [HH.out]⟩, ((HB.out.trans (HBV.out.mono HB.out.size)).setCell (p := ⟨w.heap.size + 1 + 1 + 1 + 1, 0, none⟩) (by dsimp only; omega) _).setCell (p := ⟨w.heap.size + 1 + 1 + 1 + 1 + 1, 0, none⟩) (by dsimp only; omega) _⟩
    · have t1 : (q.val == F) = false := by rw [beq_eq_false_iff_ne]; exact hqF
      have es : d.fst 86400 = s := by rw [← HST.out]; unfold Mat.Dir.st; rw [if_neg (by rw [hF]; exact hqF)]
      clear hF i1 i2 i3 i4 hqF
      rw [es] at FA
      clear es
      cases ho : d.onDay x s with
      | none =>
        have HH : Hid (d.hit x f t q.val = none) := Lib.hid (by unfold Mat.Dir.hit; rw [HST.out, ho])
        have IA := Lib.hid (fun w0 L0 => IA.out s s64.out w0 L0)
        rw [ho] at IA
        simp only [inV] at IA
        clear ho
        gi_wp2_with (refine ⟨trivial, ?_⟩; first | (gi_at_call 128; refine (CallsIn.inRound l (callsIn_wide.2 (FA.out _))).mono ?_; rintro e w' ⟨rfl, rfl⟩) | (gi_at_call 129; refine (CallsIn.inRound l (callsIn_wide.2 (IA.out _ LW.out))).mono ?_; rintro e V ⟨rfl, hb⟩; have HBV := Lib.hid hb; obtain ⟨m0, m3, ⟨m4, m5⟩, m6, m7⟩ := MV.out V hb; clear hb))
        refine ⟨trivial, ?_⟩
        gi_wp2
        exact ⟨(keeps_of_below HBV.out).from _, Kc.of_below HBV.out, ⟨⟨(HBV.out.block _ HV.out.1.lt).trans HV.out.1, (HBV.out.block _ HV.out.2.lt).trans HV.out.2⟩, by rw [List.map_append, List.findSome?_append, HP.out]; simp [HH.out]⟩, HK.out.trans (Kc.of_below HBV.out), HB.out.trans (HBV.out.mono HB.out.size)⟩
      | some p =>
        have IA := Lib.hid (fun w0 L0 => IA.out s s64.out w0 L0)
        rw [ho] at IA
        simp only [inV] at IA
        have SB := (onDay_is (d := d) OK.out s64.out)
        rw [ho] at SB
        obtain ⟨z, hz⟩ : ∃ z, Mat.sec3 p = z := ⟨_, rfl⟩
        have sb : 0 ≤ z ∧ z < 86400 := by have := SB.2.2.1; rw [← hz]; exact ⟨this.1, this.2.1⟩
        rw [hz] at IA
        have qb := QB.out
        have w2 : IntKind.i64.wrap (86400 * q.val + z) = 86400 * q.val + z := by rw [IntKind.wrap_i64]; omega
        obtain ⟨b, hpb⟩ : ∃ b, d.past (86400 * q.val + z) t = b := ⟨_, rfl⟩
        have PF := Lib.hid (fun w0 : World => past_any d (86400 * q.val + z) t b hpb w0 (by omega) (by omega) (by have := BD.out; omega) (by have := BD.out; omega))
        have HH : Hid (d.hit x f t q.val = if b = true then none else some (86400 * q.val + z)) := Lib.hid (by unfold Mat.Dir.hit; rw [HST.out, ho]; simp only [hz, hpb])
        clear ho SB sb hz hpb qb
        cases b with
        | true =>
          gi_wp2_with (refine ⟨trivial, ?_⟩; first | (gi_at_call 128; refine (CallsIn.inRound l (callsIn_wide.2 (FA.out _))).mono ?_; rintro e w' ⟨rfl, rfl⟩) | (gi_at_call 129; refine (CallsIn.inRound l (callsIn_wide.2 (IA.out _ LW.out))).mono ?_; rintro e V ⟨rfl, hb⟩; have HBV := Lib.hid hb; obtain ⟨m0, m3, ⟨m4, m5⟩, m6, m7⟩ := MV.out V hb; clear hb) | (gi_at_call 130; refine (CallsIn.inRound l (callsIn_wide.2 (PF.out _))).mono ?_; rintro e w' ⟨rfl, rfl⟩))
          exact ⟨(keeps_of_below HBV.out).from _, Kc.of_below HBV.out, ⟨⟨(HBV.out.block _ HV.out.1.lt).trans HV.out.1, (HBV.out.block _ HV.out.2.lt).trans HV.out.2⟩, by rw [List.map_append, List.findSome?_append, HP.out]; simp [HH.out]⟩, HK.out.trans (Kc.of_below HBV.out), HB.out.trans (HBV.out.mono HB.out.size)⟩
        | false =>
          gi_wp2_with (refine ⟨trivial, ?_⟩; first | (gi_at_call 128; refine (CallsIn.inRound l (callsIn_wide.2 (FA.out _))).mono ?_; rintro e w' ⟨rfl, rfl⟩) | (gi_at_call 129; refine (CallsIn.inRound l (callsIn_wide.2 (IA.out _ LW.out))).mono ?_; rintro e V ⟨rfl, hb⟩; have HBV := Lib.hid hb; obtain ⟨m0, m3, ⟨m4, m5⟩, m6, m7⟩ := MV.out V hb; clear hb) | (gi_at_call 130; refine (CallsIn.inRound l (callsIn_wide.2 (PF.out _))).mono ?_; rintro e w' ⟨rfl, rfl⟩))
          have ks := ((keeps_of_below HBV.out).trans (KeepsOthers.setCell V ⟨w.heap.size + 1 + 1 + 1 + 1, 0, none⟩ (.int .i64 (86400 * q.val + z)))).trans (KeepsOthers.setCell _ ⟨w.heap.size + 1 + 1 + 1 + 1 + 1, 0, none⟩ (.bool true))
          have n4 := (HBV.out.block _ HV.out.1.lt).trans HV.out.1
          have n5 := (HBV.out.block _ HV.out.2.lt).trans HV.out.2
          have n4 : Boxed V (w.heap.size + 1 + 1 + 1 + 1) 2 (.int .i64 0) := n4
          have n5 : Boxed V (w.heap.size + 1 + 1 + 1 + 1 + 1) 4 (.bool false) := n5
          refine ⟨ks.from _, 86400 * q.val + z, ⟨(n4.set _).other (by omega) _, (n5.other (by omega) _).set _⟩, ⟨rfl, by rw [List.map_append, List.findSome?_append, HP.out]; simp [HH.out]⟩, ((HB.out.trans (HBV.out.mono HB.out.size)).setCell (p := ⟨w.heap.size + 1 + 1 + 1 + 1, 0, none⟩) (by dsimp only; omega) _).setCell (p := ⟨w.heap.size + 1 + 1 + 1 + 1 + 1, 0, none⟩) (by dsimp only; omega) _⟩
  case done =>
    rintro D ys W hD hys ⟨⟨⟨v4, v5⟩, hp⟩, hk, hB⟩ hK
    have hg : d.seek x f t = none := by unfold Mat.Dir.seek; rw [← hys]; exact hp
    have c4 := v4.cell; have f4 := v4.frozen; have c5 := v5.cell; have f5 := v5.frozen
    have HG := Lib.hid hg
    clear hg hp hys
    gi_wp2
    have ks := (KeepsOthers.setCell W ⟨w.heap.size + 1 + 1 + 1 + 1, 0, none⟩ (.int .i64 0)).trans (KeepsOthers.setCell _ ⟨w.heap.size + 1 + 1 + 1 + 1 + 1, 0, none⟩ (.bool false))
    have hK' := ks.same D _ hK rfl
    refine ⟨by simp, .inl ⟨_, _, rfl, run_takeDeferred hK', ?_⟩⟩
    have e4 := cell_kept ((v4.set (.int .i64 0)).other (B' := w.heap.size + 1 + 1 + 1 + 1 + 1) (by omega) (.bool false)).cell (grownBy_putObj' _ D (.deferred none)) (fun r e => by cases e; exact ⟨_, hK', rfl⟩)
    have e5 := cell_kept ((v5.other (B' := w.heap.size + 1 + 1 + 1 + 1) (by omega) (.int .i64 0)).set (.bool false)).cell (grownBy_putObj' _ D (.deferred none)) (fun r e => by cases e; exact ⟨_, hK', rfl⟩)
    refine ⟨.tuple #[.int .i64 0, .bool false], ?_, by rw [HG.out]; rfl, ((hB.setCell (p := ⟨w.heap.size + 1 + 1 + 1 + 1, 0, none⟩) (by dsimp only; omega) _).setCell (p := ⟨w.heap.size + 1 + 1 + 1 + 1 + 1, 0, none⟩) (by dsimp only; omega) _).trans (belowK_b (w := w) (Nat.le_refl _) _ D _ _ (by omega) hK' rfl rfl)⟩
    simp [results, Tryz.results107, go_sem, e4, e5]
  case stop =>
    rintro D c pre W hD hpre ⟨u, ⟨v4, v5⟩, ⟨rfl, hp⟩, hB⟩ hK
    have hg : d.seek x f t = some u := by
      unfold Mat.Dir.seek
      obtain ⟨r, hr⟩ := hpre
      rw [← hr, List.findSome?_append, hp]; rfl
    have HG := Lib.hid hg
    clear hg hp hpre
    gi_wp2
    refine ⟨by simp, .inl ⟨_, _, rfl, run_takeDeferred hK, ?_⟩⟩
    have e4 := cell_kept v4.cell (grownBy_putObj' _ D (.deferred none)) (fun r e => by cases e; exact ⟨_, hK, rfl⟩)
    have e5 := cell_kept v5.cell (grownBy_putObj' _ D (.deferred none)) (fun r e => by cases e; exact ⟨_, hK, rfl⟩)
    refine ⟨.tuple #[.int .i64 u, .bool true], ?_, by rw [HG.out]; rfl, hB.trans (belowK_b (w := w) (Nat.le_refl _) W D _ _ (by omega) hK rfl rfl)⟩
    simp [results, Tryz.results107, go_sem, e4, e5]
end Go.Proofs.YtljackjcgfaanaaGreatDoor
