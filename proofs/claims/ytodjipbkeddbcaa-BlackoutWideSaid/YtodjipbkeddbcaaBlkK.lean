/- The statements' spans and normal. -/
import Derived.Test.YtodjipbkeddbcaaBlkArg
namespace Go.Proofs.Ytodjipbkeddbcaa.Bk
/-- the spans of pairs of bytes -/
def spanOf (x : Nat × Nat) : Int × Int := (((x.1 % 200 : Nat) : Int), if ((x.1 % 200 : Nat) : Int) + ((x.2 % 40 : Nat) : Int) ≤ 199 then ((x.1 % 200 : Nat) : Int) + ((x.2 % 40 : Nat) : Int) else 199)
def spansL (l : List (Nat × Nat)) : List (Int × Int) := (l.take 20).map spanOf
theorem spansL_len (l : List (Nat × Nat)) : (spansL l).length ≤ 20 := by unfold spansL; rw [List.length_map, List.length_take]; omega
theorem spansL_in {l : List (Nat × Nat)} {x : Int × Int} (h : x ∈ spansL l) : 0 ≤ x.1 ∧ x.1 ≤ x.2 ∧ x.2 ≤ 199 := by
  obtain ⟨y, _, rfl⟩ := List.mem_map.1 h
  unfold spanOf
  simp only
  split <;> omega
theorem spansL_ok (l : List (Nat × Nat)) : OkL (spansL l) := by
  refine ⟨by have := spansL_len l; omega, fun x hx => ?_⟩
  obtain ⟨a, b, c⟩ := spansL_in hx
  unfold okT
  omega
theorem spansL_err (l : List (Nat × Nat)) : errL (spansL l) = 0 := errL_zero.2 (spansL_ok l)
theorem spans_err2 (l m : List (Nat × Nat)) : err2 (spansL l) (spansL m) = 0 := err2_zero.2 ⟨spansL_err l, spansL_err m⟩
theorem norm_at {l : List (Int × Int)} (h : Norm l) {i : Nat} (hi : i < l.length) : (l.getD i (0, 0)).1 ≤ (l.getD i (0, 0)).2 := h.le _ (by simp [hi])
theorem norm_gap {l : List (Int × Int)} (h : Norm l) {i : Nat} (hi : i + 1 < l.length) : (l.getD i (0, 0)).2 + 2 ≤ (l.getD (i + 1) (0, 0)).1 := by
  have := List.pairwise_iff_getElem.1 h.gap i (i + 1) (by omega) hi (by omega)
  simpa [hi, show i < l.length by omega] using this
end Go.Proofs.Ytodjipbkeddbcaa.Bk
namespace Go.Proofs.Ytodjipbkeddbcaa
open Go.ChangeShapes Go.RowKit

set_option maxRecDepth 100000 in
set_option maxHeartbeats 4000000 in
/-- the statements' normal, at a normal list -/
theorem lnormal_any (v : Value) (l : List (Int × Int)) (hn : Bk.Norm l) (ok : Bk.OkS l) (w : World) (h : RowS w v l) :
    Calls Try.prog 32 #[v] w fun e w' => e = .returned (.bool true) ∧ Below w.heap.size w w' := by
  have LL := h.1
  have HR := Lib.hid h
  have HN := Lib.hid hn
  have OK := Lib.hid ok
  obtain ⟨A, cap, rfl⟩ := h.len
  clear h hn ok
  go_enter Try.func32, Try.ntmps32
  go_wp2_with fail
  go_loopw [7] (fun iv wr => ∃ k : Nat, k ≤ l.length ∧ iv = .int .i64 k ∧ Hid (Below w.heap.size w wr)) (fun iv _ => l.length - (intOf iv).toNat)
  case atStart => exact ⟨0, by omega, rfl, Lib.hid (Below.refl _ _)⟩
  case round =>
    obtain ⟨k, hk, rfl, hb⟩ := hrel
    by_cases lt : k < l.length
    · have e0 : decide ((k : Int) < (l.length : Int)) = true := by rw [decide_eq_true_iff]; omega
      have wk : IntKind.i64.wrap ((k : Int) + 1) = (k : Int) + 1 := by rw [IntKind.wrap_i64]; omega
      have RW := Lib.hid (HR.out.below hb.out)
      obtain ⟨b, o, rfl, c1, c2⟩ := RW.out.at lt
      have OX := okS_at OK.out lt
      have LE := Bk.norm_at HN.out lt
      obtain ⟨x, hx⟩ : ∃ x, l.getD k (0, 0) = x := ⟨_, rfl⟩
      have HX := Lib.hid hx
      rw [hx] at c1 c2 OX LE
      obtain ⟨x1, x2⟩ := x
      simp only at c1 c2 OX LE
      have f1 : decide (x2 < x1) = false := by rw [decide_eq_false_iff_not]; omega
      have HB := Lib.hid (below_new hb.out (.cells #[.int .i64 x1, .int .i64 x2] 27) (Nat.le_refl _))
      clear hx
      by_cases z : k = 0
      · subst z
        have g0 : decide ((0 : Int) < ((0 : Nat) : Int)) = false := by decide
        simp only [Nat.zero_mul, Nat.add_zero] at c1 c2
        clear OX LE
        go_wp2_with fail
        go_quiet (fail)
        go_wp2_with fail
        go_roundw
        case rel => exact ⟨1, by omega, by go_num, Lib.hid (below_drewN HB.out _)⟩
        case measure => simp [intOf]; omega
      · obtain ⟨p, rfl⟩ : ∃ p, k = p + 1 := ⟨k - 1, by omega⟩
        have g0 : decide ((0 : Int) < ((p + 1 : Nat) : Int)) = true := by rw [decide_eq_true_iff]; omega
        have g1 : decide ((0 : Int) < (p : Int) + 1) = true := by rw [decide_eq_true_iff]; omega
        have wp : IntKind.i64.wrap (((p + 1 : Nat) : Int) - 1) = (p : Int) := by rw [IntKind.wrap_i64]; omega
        have wp2 : IntKind.i64.wrap ((p : Int) + 1 - 1) = (p : Int) := by rw [IntKind.wrap_i64]; omega
        have wp3 : IntKind.i64.wrap (p : Int) = (p : Int) := by rw [IntKind.wrap_i64]; omega
        have hp : p < l.length := by omega
        obtain ⟨b', o', e1, d1, d2⟩ := RW.out.at (j := p) hp
        cases e1
        have d3 := Lib.cell?_alloc_some (.cells #[.int .i64 x1, .int .i64 x2] 27) d2
        have GP := Bk.norm_gap HN.out lt
        have OY := okS_at OK.out hp
        rw [HX.out] at GP
        obtain ⟨y, hy⟩ : ∃ y, (l.getD p (0, 0)).2 = y := ⟨_, rfl⟩
        rw [hy] at d2 d3 GP OY
        simp only at GP
        have wy : IntKind.i64.wrap (y + 2) = y + 2 := by rw [IntKind.wrap_i64]; omega
        have f2 : decide (x1 < y + 2) = false := by rw [decide_eq_false_iff_not]; omega
        have wq : IntKind.i64.wrap ((p : Int) + 1 + 1) = (p : Int) + 1 + 1 := by rw [IntKind.wrap_i64]; omega
        clear hy OX LE GP OY d1 z
        go_wp2_with fail
        go_quiet (fail)
        go_wp2_with fail
        go_roundw
        case rel => exact ⟨p + 1 + 1, by omega, by go_num, Lib.hid (below_drewN HB.out _)⟩
        case measure => simp [intOf]; omega
    · have e0 : decide ((k : Int) < (l.length : Int)) = false := by rw [decide_eq_false_iff_not]; omega
      obtain rfl : k = l.length := by omega
      clear lt hk
      go_wp2_with fail
      go_ret
      exact ⟨rfl, hb.out⟩

theorem InP.below {w W : World} {a : Option Addr} {len cap : Nat} {l : List (Nat × Nat)} (h : InP w a len cap l) (hb : Below w.heap.size w W) : InP W a len cap l := by
  obtain ⟨h1, h2, h3 | ⟨p, e, q1, q2, h3⟩⟩ := h
  · exact ⟨h1, h2, .inl h3⟩
  · refine ⟨h1, h2, .inr ⟨p, e, q1, q2, fun z => ?_⟩⟩
    obtain ⟨b, o, e, hbw, hc⟩ := h3 z
    refine ⟨b, o, e, Nat.lt_of_lt_of_le hbw hb.size, fun i hi => ?_⟩
    obtain ⟨c1, c2⟩ := hc i hi
    exact ⟨(hb.cell (p := ⟨b, o + i * 2, none⟩) hbw).trans c1, (hb.cell (p := ⟨b, o + i * 2 + 1, none⟩) hbw).trans c2⟩
theorem spans_take {l : List (Nat × Nat)} {k : Nat} (h : k < l.length) (h2 : k < 20) : (Bk.spansL l).take (k + 1) = (Bk.spansL l).take k ++ [Bk.spanOf (l.getD k (0, 0))] := by
  have e : k < (Bk.spansL l).length := by unfold Bk.spansL; rw [List.length_map, List.length_take]; omega
  rw [List.take_add_one]
  congr 1
  unfold Bk.spansL
  simp [h2, h]
set_option maxRecDepth 100000 in
set_option maxHeartbeats 4000000 in
/-- the statements' spans -/
theorem spans_any (a : Option Addr) (len cap : Nat) (l : List (Nat × Nat)) (w : World) (h : InP w a len cap l) :
    Calls Try.prog 31 #[.slice a len cap] w fun e w' => ∃ u, e = .returned u ∧ OwnS w u (Bk.spansL l) w' := by
  obtain ⟨i0, hi, hz0, hz1, hz2⟩ := info_parts infoS
  obtain ⟨rfl, hb8, hc⟩ := h
  obtain ⟨m, hm⟩ : ∃ m, min l.length 20 = m := ⟨_, rfl⟩
  have SL : (Bk.spansL l).length = m := by unfold Bk.spansL; rw [List.length_map, List.length_take]; omega
  have hm1 : m ≤ l.length := by omega
  have hm2 : m ≤ 20 := by omega
  have hmin : min (l.length : Int) 20 = (m : Int) := by omega
  have CELL := Lib.hid (show ∀ i, i < m → ∃ b o, a = some ⟨b, o, none⟩ ∧ b < w.heap.size ∧ w.cell? ⟨b, o + i * 2, none⟩ = some (.int .u8 ((l.getD i (0, 0)).1 : Nat)) ∧ w.cell? ⟨b, o + i * 2 + 1, none⟩ = some (.int .u8 ((l.getD i (0, 0)).2 : Nat)) from fun i hi => by
    rcases hc with ⟨_, e, _⟩ | ⟨p, rfl, _, _, k⟩
    · omega
    · obtain ⟨b, o, rfl, hb, kk⟩ := k (by omega)
      have := kk i (by omega)
      exact ⟨b, o, rfl, hb, this.1, this.2⟩)
  have hcap : (m : Int) ≤ (cap : Int) := by
    rcases hc with ⟨_, e, _⟩ | ⟨p, rfl, q, _, _⟩
    · omega
    · omega
  have B8 := Lib.hid hb8
  have ONE := Lib.hid (fun k (q : k < m) => spans_take (l := l) (k := k) (by omega) (by omega))
  have S0 := Lib.hid SL
  clear hc hb8 SL
  go_enter Try.func31, Try.ntmps31
  go_wp2_with fail
  go_loopw [3, 14] (fun ov iv wr => ∃ (k : Nat) (v : Value), k ≤ m ∧ iv = .int .i64 k ∧ v = ov ∧ Hid (OwnS w v ((Bk.spansL l).take k) wr)) (fun _ iv _ => m - (intOf iv).toNat)
  case atStart => exact ⟨0, _, by omega, rfl, rfl, Lib.hid (OwnS.nil (Below.refl _ _))⟩
  case round =>
    obtain ⟨k, v, hk, rfl, rfl, ho⟩ := hrel
    by_cases lt : k < m
    · have e0 : decide ((k : Int) < (m : Int)) = true := by rw [decide_eq_true_iff]; omega
      have wk : IntKind.i64.wrap ((k : Int) + 1) = (k : Int) + 1 := by rw [IntKind.wrap_i64]; omega
      obtain ⟨b, o, rfl, hbw, c1, c2⟩ := CELL.out k lt
      have d1 := (ho.out.below.cell (p := ⟨b, o + k * 2, none⟩) hbw).trans c1
      have d2 := (ho.out.below.cell (p := ⟨b, o + k * 2 + 1, none⟩) hbw).trans c2
      have SO := ONE.out k lt
      have BX := B8.out (l.getD k (0, 0)) (by have : k < l.length := (by omega); simp [this])
      have TL : ((Bk.spansL l).take k).length = k := by rw [List.length_take, S0.out]; omega
      obtain ⟨x, hx⟩ : ∃ x, l.getD k (0, 0) = x := ⟨_, rfl⟩
      rw [hx] at d1 d2 SO BX
      obtain ⟨n1, n2⟩ := x
      simp only at d1 d2 BX
      obtain ⟨f, hf⟩ : ∃ f, n1 % 200 = f := ⟨_, rfl⟩
      obtain ⟨g, hg⟩ : ∃ g, n2 % 40 = g := ⟨_, rfl⟩
      have SP : Hid (Bk.spanOf (n1, n2) = ((f : Int), if (f : Int) + (g : Int) ≤ 199 then (f : Int) + (g : Int) else 199)) := Lib.hid (by unfold Bk.spanOf; simp only; rw [hf, hg])
      have r1 : (n1 : Int) % 200 = (f : Int) := by omega
      have r2 : (n1 : Int).tmod 200 = (f : Int) := by rw [Int.tmod_eq_emod_of_nonneg (by omega)]; omega
      have r3 : (n2 : Int) % 40 = (g : Int) := by omega
      have r4 : (n2 : Int).tmod 40 = (g : Int) := by rw [Int.tmod_eq_emod_of_nonneg (by omega)]; omega
      have q1 : IntKind.i64.wrap (n1 : Int) = (n1 : Int) := by rw [IntKind.wrap_i64]; omega
      have q2 : IntKind.i64.wrap (n2 : Int) = (n2 : Int) := by rw [IntKind.wrap_i64]; omega
      have q3 : IntKind.i64.wrap (f : Int) = (f : Int) := by rw [IntKind.wrap_i64]; omega
      have q4 : IntKind.i64.wrap (g : Int) = (g : Int) := by rw [IntKind.wrap_i64]; omega
      have q5 : IntKind.i64.wrap ((f : Int) + (g : Int)) = (f : Int) + (g : Int) := by rw [IntKind.wrap_i64]; omega
      obtain ⟨s, hs⟩ : ∃ s, min ((f : Int) + (g : Int)) 199 = s := ⟨_, rfl⟩
      have SE : Hid ((Bk.spansL l).take (k + 1) = (Bk.spansL l).take k ++ [((f : Int), s)]) := Lib.hid (by
        have em : (if (f : Int) + (g : Int) ≤ 199 then (f : Int) + (g : Int) else 199) = s := by rw [← hs]; split <;> omega
        rw [SO, SP.out, em])
      have HO1 := Lib.hid (ho.out.alloc (.cells #[.int .u8 n1, .int .u8 n2] 66))
      have hsz := ho.out.below.size
      obtain ⟨G, hG⟩ : ∃ G, (Bk.spansL l).take k = G := ⟨_, rfl⟩
      rw [hG] at HO1 SE TL
      clear hx hf hg SO BX hG c1 c2 ho
      go_wp2_with fail
      go_quiet (fail)
      have HO2 := Lib.hid (HO1.out.drewN nq)
      go_wp2_with (at_builtin; refine wpList_append_own _ rfl _ _ 22 rfl w.heap.size 27 i0 (.agg #[.int .i64 0, .int .i64 0]) 2 16 Try.underlying22 hi hz0 hz1 hz2 rfl (by decide) _ G.length _ rfl (HO2.out.row.alloc _) ⟨wr.heap.size + 1, 0, none⟩ 1 1 [.int .i64 f, .int .i64 s] rfl rfl (cells_new _ _ (by simp) [.int .i64 f, .int .i64 s] _) (by simp [Value.oneCell']) (by rw [TL]; simp [maxLen]; omega) (by rw [TL]; omega) (by simp; omega) ?_; intro v2 w2 hown hg2 _)
      have h2 := HO2.out.step (x := ((f : Int), s)) hown hg2
      rw [← SE.out] at h2
      have H2 := Lib.hid h2
      clear h2 hown hg2
      go_wp2_with fail
      go_roundw
      case rel => exact ⟨k + 1, _, by omega, by go_num, rfl, H2⟩
      case measure => simp [intOf]; omega
    · have e0 : decide ((k : Int) < (m : Int)) = false := by rw [decide_eq_false_iff_not]; omega
      obtain rfl : k = m := by omega
      have HF : Hid (OwnS w v (Bk.spansL l) wr) := Lib.hid (by have := ho.out; rwa [List.take_of_length_le (by rw [S0.out]; omega)] at this)
      clear lt hk ho
      go_wp2_with fail
      go_ret
      exact ⟨_, rfl, HF.out⟩
end Go.Proofs.Ytodjipbkeddbcaa
