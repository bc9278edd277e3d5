/- Contracts of the document's program of chapter match: from (the first time from one on). -/
import Derived.Test.YtbehendogcghjaaDoorMatRY
namespace Go.Proofs.YtbehendogcghjaaDoor
open Go.ChangeShapes Go.RowKit Go.Shelf

/-- an expression in box A and a day in box B, in range or not -/
structure ER (w : World) (A B : Nat) (x : Exp.Ex) (n y m d k : Int) (W : World) : Prop where
  below : Below w.heap.size w W
  ex : Row W A 24 (exL x)
  dy : Row W B 52 (dL n y m d k)
  ne : A ≠ B
  b0 : w.heap.size ≤ B
/-- in range the day is the right one -/
def InD (n y m d k : Int) : Prop := 0 ≤ n → n ≤ 2932896 → Civ.Vld y m d ∧ Civ.num y m d = n ∧ k = (n + 4) % 7
theorem ER.cells {w W : World} {A B : Nat} {x : Exp.Ex} {n y m d k : Int} (h : ER w A B x n y m d k W) : (W.cell? ⟨A, 0, none⟩ = some (.int .u64 x.a0) ∧ W.cell? ⟨A, 1, none⟩ = some (.int .u64 x.a1) ∧ W.cell? ⟨A, 2, none⟩ = some (.int .u64 x.a2) ∧ W.cell? ⟨A, 3, none⟩ = some (.int .u64 x.a3) ∧ W.cell? ⟨A, 4, none⟩ = some (.int .u64 x.a4) ∧ W.cell? ⟨A, 5, none⟩ = some (.int .u64 x.a5) ∧ W.cell? ⟨A, 6, none⟩ = some (.bool x.b3) ∧ W.cell? ⟨A, 7, none⟩ = some (.bool x.b5)) ∧ W.cell? ⟨B, 0, none⟩ = some (.int .i64 n) ∧ W.cell? ⟨B, 1, none⟩ = some (.int .i64 y) ∧ W.cell? ⟨B, 2, none⟩ = some (.int .i64 m) ∧ W.cell? ⟨B, 3, none⟩ = some (.int .i64 d) ∧ W.cell? ⟨B, 4, none⟩ = some (.int .i64 k) :=
  ⟨⟨h.ex.cell 0, h.ex.cell 1, h.ex.cell 2, h.ex.cell 3, h.ex.cell 4, h.ex.cell 5, h.ex.cell 6, h.ex.cell 7⟩, h.dy.cell 0, h.dy.cell 1, h.dy.cell 2, h.dy.cell 3, h.dy.cell 4⟩
theorem ER.ed {w W : World} {A B : Nat} {x : Exp.Ex} {n y m d k : Int} (h : ER w A B x n y m d k W) (v : InD n y m d k) (h0 : 0 ≤ n) (h1 : n ≤ 2932896) : ∃ m' d' k' : Nat, m = m' ∧ d = d' ∧ k = k' ∧ ED w A B x n y m' d' k' W := by
  obtain ⟨v', hn, hk⟩ := v h0 h1
  clear v
  obtain ⟨m', rfl⟩ := Int.eq_ofNat_of_zero_le (show 0 ≤ m by have := v'.2.2.1; omega)
  obtain ⟨d', rfl⟩ := Int.eq_ofNat_of_zero_le (show 0 ≤ d by have := v'.2.2.2.2.1; omega)
  obtain ⟨k', rfl⟩ := Int.eq_ofNat_of_zero_le (show 0 ≤ k by omega)
  exact ⟨m', d', k', rfl, rfl, rfl, h.below, h.ex, h.dy, h.ne, h.b0, v', hn, hk.symm⟩
theorem ED.er {w W : World} {A B : Nat} {x : Exp.Ex} {n y : Int} {m d k : Nat} (h : ED w A B x n y m d k W) : ER w A B x n y m d k W := ⟨h.below, h.ex, h.dy, h.ne, h.b0⟩
theorem ED.ind {w W : World} {A B : Nat} {x : Exp.Ex} {n y : Int} {m d k : Nat} (h : ED w A B x n y m d k W) : InD n y m d k := fun _ _ => ⟨h.v, h.hn, h.hk.symm⟩
/-- another day is stored -/
theorem ED.store {w W : World} {A B : Nat} {x : Exp.Ex} {n y : Int} {m d k : Nat} (h : ED w A B x n y m d k W) (n' y' m' d' k' : Int) :
    ER w A B x n' y' m' d' k' (((((W.setCell ⟨B, 0, none⟩ (.int .i64 n')).setCell ⟨B, 1, none⟩ (.int .i64 y')).setCell ⟨B, 2, none⟩ (.int .i64 m')).setCell ⟨B, 3, none⟩ (.int .i64 d')).setCell ⟨B, 4, none⟩ (.int .i64 k')) :=
  ⟨((((h.below.setCell (p := ⟨B, 0, none⟩) h.b0 _).setCell (p := ⟨B, 1, none⟩) h.b0 _).setCell (p := ⟨B, 2, none⟩) h.b0 _).setCell (p := ⟨B, 3, none⟩) h.b0 _).setCell (p := ⟨B, 4, none⟩) h.b0 _,
   ((((h.ex.other ⟨B, 0, none⟩ _ h.ne).other ⟨B, 1, none⟩ _ h.ne).other ⟨B, 2, none⟩ _ h.ne).other ⟨B, 3, none⟩ _ h.ne).other ⟨B, 4, none⟩ _ h.ne,
   ((((h.dy.set 0 (.int .i64 n')).set 1 (.int .i64 y')).set 2 (.int .i64 m')).set 3 (.int .i64 d')).set 4 (.int .i64 k'),
   h.ne, h.b0⟩
theorem ED.step {w W : World} {A B : Nat} {x : Exp.Ex} {n y : Int} {m d k : Nat} (h : ED w A B x n y m d k W) :
    Calls Tryd.prog 44 #[.agg #[.int .i64 n, .int .i64 y, .int .i64 m, .int .i64 d, .int .i64 k], .bool false] W fun e W' => ∃ y' m' d' k' : Int, e = .returned (.agg #[.int .i64 (n + 1), .int .i64 y', .int .i64 m', .int .i64 d', .int .i64 k']) ∧ Hid (InD (n + 1) y' m' d' k') ∧ ED w A B x n y m d k W' :=
  (ron_up n y m d k h.v h.hn h.hk.symm W).mono fun e W' ⟨r, h1, ⟨y', m', d', k', h2, h3⟩, h4⟩ => ⟨y', m', d', k', by rw [h1, h2], Lib.hid h3, h.next h4⟩
theorem ED.back {w W : World} {A B : Nat} {x : Exp.Ex} {n y : Int} {m d k : Nat} (h : ED w A B x n y m d k W) :
    Calls Tryd.prog 44 #[.agg #[.int .i64 n, .int .i64 y, .int .i64 m, .int .i64 d, .int .i64 k], .bool true] W fun e W' => ∃ y' m' d' k' : Int, e = .returned (.agg #[.int .i64 (n - 1), .int .i64 y', .int .i64 m', .int .i64 d', .int .i64 k']) ∧ Hid (InD (n - 1) y' m' d' k') ∧ ED w A B x n y m d k W' :=
  (ron_down n y m d k h.v h.hn h.hk.symm W).mono fun e W' ⟨r, h1, ⟨y', m', d', k', h2, h3⟩, h4⟩ => ⟨y', m', d', k', by rw [h1, h2], Lib.hid h3, h.next h4⟩
theorem ED.first {w W : World} {A B : Nat} {x : Exp.Ex} {n y : Int} {m d k : Nat} (h : ED w A B x n y m d k W) (hx : x.Bd) (a : Int) (r : Option Int) (h0 : 0 ≤ a) (h1 : a < 86400) (hr : Mat.Least (Mat.Ck x.a2 x.a1 x.a0) a 86399 r) :
    Calls Tryd.prog 69 #[.agg #[.int .u64 x.a0, .int .u64 x.a1, .int .u64 x.a2, .int .u64 x.a3, .int .u64 x.a4, .int .u64 x.a5, .bool x.b3, .bool x.b5], .int .i64 a] W fun e W' => e = .returned (.int .i64 (r.getD (-1))) ∧ ED w A B x n y m d k W' :=
  (rfirst_any x hx a r W h0 h1 hr).mono fun _ _ ⟨q1, q2⟩ => ⟨q1, h.next q2⟩
/-- no matched local second in 2925 days from a second's day on: none at all -/
theorem no_more {x : Exp.Ex} {L N : Int} (hL : 0 ≤ L) (hN : L / 86400 = N) (h : ∀ s, L ≤ s → s < 86400 * (N + 2925) → ¬ x.Lm s) : ∀ s, L ≤ s → ¬ x.Lm s := by
  intro s hs q
  by_cases c : s < 86400 * (N + 2925)
  · exact h s hs c q
  · have r := lm_in q
    obtain ⟨o, k⟩ := lm_iff.1 q
    obtain ⟨n1, a, b, c1, d⟩ := Mat.near (n := N + 1) (n0 := s / 86400) (by omega) (by omega) (by omega) o
    have hm : x.Lm (86400 * n1 + s % 86400) := lm_iff.2 ⟨by rw [show (86400 * n1 + s % 86400) / 86400 = n1 by omega]; exact d, by rw [show (86400 * n1 + s % 86400) % 86400 = s % 86400 by omega]; exact k⟩
    exact h _ (by omega) (by omega) hm
theorem no_more_back {x : Exp.Ex} {L N : Int} (h1 : L ≤ 253402300799) (hN : L / 86400 = N) (h : ∀ s, 86400 * (N - 2924) ≤ s → s ≤ L → ¬ x.Lm s) : ∀ s, s ≤ L → ¬ x.Lm s := by
  intro s hs q
  by_cases c : 86400 * (N - 2924) ≤ s
  · exact h s c hs q
  · have r := lm_in q
    obtain ⟨o, k⟩ := lm_iff.1 q
    obtain ⟨n1, a, b, c1, d⟩ := Mat.near_back (n := N - 1) (n0 := s / 86400) (by omega) (by omega) o
    have hm : x.Lm (86400 * n1 + s % 86400) := lm_iff.2 ⟨by rw [show (86400 * n1 + s % 86400) / 86400 = n1 by omega]; exact d, by rw [show (86400 * n1 + s % 86400) % 86400 = s % 86400 by omega]; exact k⟩
    exact h _ (by omega) (by omega) hm
theorem from_none {x : Exp.Ex} {z t L E sh : Int} {r : Option Int} (hr : Mat.Least (fun s => x.Lm (s + 60 * z)) t 253402300799 r) (hs : z * 60 = sh) (hL : max (t + sh) 0 = L) (hE : min 253402300799 (253402300799 + sh) = E) (no : ∀ s, L ≤ s → s ≤ E → ¬ x.Lm s) : r = none :=
  hr.uniq (fun y h1 h2 q => by have := lm_in q; exact no _ (by omega) (by omega) q)
theorem from_some {x : Exp.Ex} {z t L E sh u : Int} {r : Option Int} (hr : Mat.Least (fun s => x.Lm (s + 60 * z)) t 253402300799 r) (hs : z * 60 = sh) (hL : max (t + sh) 0 = L) (hE : min 253402300799 (253402300799 + sh) = E) (hu : x.Lm u) (h1 : L ≤ u) (h2 : u ≤ E) (no : ∀ s, L ≤ s → s < u → ¬ x.Lm s) : r = some (u - sh) :=
  hr.uniq ⟨by omega, by omega, by show x.Lm (u - sh + 60 * z); rwa [show u - sh + 60 * z = u by omega], fun y y1 y2 q => by have := lm_in q; exact no _ (by omega) (by omega) q⟩
/-- a day that does not match, or has no matched second from one on -/
theorem day_none {x : Exp.Ex} {L n a : Int} (h : ∀ s, L ≤ s → s < 86400 * n + a → ¬ x.Lm s) (c : x.onB n = false ∨ ∃ b, 0 ≤ b ∧ b ≤ a ∧ Mat.Least (Mat.Ck x.a2 x.a1 x.a0) b 86399 none) (h0 : 0 ≤ a) : ∀ s, L ≤ s → s < 86400 * (n + 1) + 0 → ¬ x.Lm s := by
  intro s s1 s2 q
  by_cases c1 : s < 86400 * n + a
  · exact h s s1 c1 q
  · obtain ⟨o, k⟩ := lm_iff.1 q
    have e : s / 86400 = n := by omega
    rcases c with c | ⟨b, b0, b1, c⟩
    · rw [e] at o; exact onB_no.1 c o
    · exact c (s % 86400) (by omega) (by omega) k
theorem day_some {x : Exp.Ex} {L n a c : Int} (h : ∀ s, L ≤ s → s < 86400 * n + a → ¬ x.Lm s) (hr : Mat.Least (Mat.Ck x.a2 x.a1 x.a0) a 86399 (some c)) (on : x.On n) (h0 : 0 ≤ a) : x.Lm (86400 * n + c) ∧ (∀ s, L ≤ s → s < 86400 * n + c → ¬ x.Lm s) ∧ a ≤ c ∧ c ≤ 86399 := by
  obtain ⟨r1, r2, r3, r4⟩ := hr
  refine ⟨lm_iff.2 ⟨by rw [show (86400 * n + c) / 86400 = n by omega]; exact on, by rw [show (86400 * n + c) % 86400 = c by omega]; exact r3⟩, fun s s1 s2 q => ?_, r1, r2⟩
  by_cases c1 : s < 86400 * n + a
  · exact h s s1 c1 q
  · exact r4 (s % 86400) (by omega) (by omega) (lm_iff.1 q).2
/-- how far the loop is: day n, from its second a on -/
structure FI (x : Exp.Ex) (L N i n a y m d k : Int) : Prop where
  hn : n = N + i
  a0 : 0 ≤ a
  a1 : a < 86400
  la : L ≤ 86400 * n + a
  no : ∀ s, L ≤ s → s < 86400 * n + a → ¬ x.Lm s
  v : InD n y m d k
set_option maxRecDepth 100000 in
set_option maxHeartbeats 8000000 in
theorem rfrom_any (x : Exp.Ex) (hx : x.Bd) (z t : Int) (hz0 : -840 ≤ z) (hz1 : z ≤ 840) (t0 : 0 ≤ t) (t1 : t ≤ 253402300800) (r : Option Int) (hr : Mat.Least (fun s => x.Lm (s + 60 * z)) t 253402300799 r) (w : World) :
    Calls Tryd.prog 46 #[.agg #[.int .u64 x.a0, .int .u64 x.a1, .int .u64 x.a2, .int .u64 x.a3, .int .u64 x.a4, .int .u64 x.a5, .bool x.b3, .bool x.b5], .int .i64 z, .int .i64 t] w fun e W' => e = .returned (.int .i64 (r.getD (-1))) ∧ Below w.heap.size w W' := by
  have HX := Lib.hid hx
  have HB := Lib.hid ((Below.refl _ w).alloc (Nat.le_refl _) (.cells #[.int .u64 x.a0, .int .u64 x.a1, .int .u64 x.a2, .int .u64 x.a3, .int .u64 x.a4, .int .u64 x.a5, .bool x.b3, .bool x.b5] 24))
  have R0 := Lib.hid (Row.new w (exL x) 24)
  obtain ⟨sh, hsh⟩ : ∃ sh, z * 60 = sh := ⟨_, rfl⟩
  obtain ⟨L, hL⟩ : ∃ L, max (t + sh) 0 = L := ⟨_, rfl⟩
  obtain ⟨E, hE⟩ : ∃ E, min 253402300799 (253402300799 + sh) = E := ⟨_, rfl⟩
  have w1 : IntKind.i64.wrap (z * 60) = sh := by rw [IntKind.wrap_i64]; omega
  have w2 : IntKind.i64.wrap (t + sh) = t + sh := by rw [IntKind.wrap_i64]; omega
  have w3 : IntKind.i64.wrap (253402300799 + sh) = 253402300799 + sh := by rw [IntKind.wrap_i64]; omega
  have NONE := Lib.hid (fun no : (∀ s, L ≤ s → s ≤ E → ¬ x.Lm s) => from_none hr hsh hL hE no)
  have SOME := Lib.hid (fun (u : Int) (hu : x.Lm u) (h1 : L ≤ u) (h2 : u ≤ E) (no : ∀ s, L ≤ s → s < u → ¬ x.Lm s) => from_some hr hsh hL hE hu h1 h2 no)
  have l0 : 0 ≤ L := by omega
  have e0 : E ≤ 253402300799 := by omega
  have e1 : 0 ≤ E := by omega
  have l1 : L ≤ 253402400000 := by omega
  have s0 : -50400 ≤ sh ∧ sh ≤ 50400 := by omega
  by_cases c : E < L
  · have tc : decide (E < L) = true := decide_eq_true c
    have RN := Lib.hid (NONE.out (fun s s1 s2 => absurd s1 (by omega)))
    clear hx hr hz0 hz1 t0 t1 hsh l0 e0 e1 l1 s0 c
    go_enter Tryd.func46, Tryd.ntmps46
    go_wp2_with fail
    go_ret
    exact ⟨by rw [RN.out]; rfl, HB.out⟩
  · have tc : decide (E < L) = false := decide_eq_false c
    obtain ⟨N, hN⟩ : ∃ N, L / 86400 = N := ⟨_, rfl⟩
    obtain ⟨a, ha⟩ : ∃ a, L % 86400 = a := ⟨_, rfl⟩
    have w4 : IntKind.i64.wrap (L.tdiv 86400) = N := by rw [Int.tdiv_eq_ediv_of_nonneg l0, IntKind.wrap_i64]; omega
    have w5 : L.tmod 86400 = a := by rw [Int.tmod_eq_emod_of_nonneg l0]; exact ha
    have LN := Lib.hid (show 86400 * N + a = L ∧ 0 ≤ a ∧ a < 86400 ∧ 0 ≤ N ∧ N ≤ 2932896 by omega)
    have MORE := Lib.hid (fun h => no_more (x := x) l0 hN h)
    obtain ⟨y0, m0, d0, k0, v0, hn0, hk0, _⟩ := day_ex x N LN.out.2.2.2.1 LN.out.2.2.2.2
    have DA := Lib.hid (fun w0 : World => rdate_any y0 m0 d0 N w0 v0 hn0)
    rw [hk0] at DA
    have V0 := Lib.hid (And.intro v0 (And.intro hn0 hk0))
    have EB := Lib.hid (And.intro e0 (And.intro e1 s0))
    clear hx hr hz0 hz1 t0 t1 hsh l0 l1 c hN ha v0 hn0 hk0 e0 e1 s0
    go_enter Tryd.func46, Tryd.ntmps46
    go_wp2_with fail
    refine (DA.out _).mono ?_
    rintro e V ⟨rfl, hb⟩
    obtain ⟨A, hA⟩ : ∃ A, w.heap.size = A := ⟨_, rfl⟩
    obtain ⟨B, hB⟩ : ∃ B, V.heap.size = B := ⟨_, rfl⟩
    have hl := (R0.out.below hb).lt
    have E0 : ER w A B x N y0 m0 d0 k0 (V.alloc (.cells #[.int .i64 N, .int .i64 y0, .int .i64 m0, .int .i64 d0, .int .i64 k0] 52)) :=
      ⟨(HB.out.trans (hb.mono HB.out.size)).alloc (by have := HB.out.size; have := hb.size; omega) _, by rw [← hA]; exact (R0.out.below hb).alloc _, by rw [← hB]; exact Row.new V _ _, by omega, by have := HB.out.size; have := hb.size; omega⟩
    have E0 := Lib.hid E0
    clear hb hl hL hE w1 w2 w3 w4
    go_wp2_with fail
    have FI0 : Hid (FI x L N (0 : Nat) N a y0 m0 d0 k0) := Lib.hid ⟨by omega, LN.out.2.1, LN.out.2.2.1, by have := LN.out.1; omega, fun s s1 s2 => absurd s1 (by have := LN.out.1; omega), fun _ _ => ⟨V0.out.1, V0.out.2.1, V0.out.2.2.symm⟩⟩
    go_loopw [11, 12] (fun av iv wr => ∃ (i : Nat) (a' n y m d k : Int), i ≤ 2925 ∧ iv = .int .i64 i ∧ av = .int .i64 a' ∧ Hid (FI x L N i n a' y m d k) ∧ Hid (ER w A B x n y m d k wr)) (fun _ iv _ => 2926 - (intOf iv).toNat)
    case atStart => exact ⟨0, a, N, y0, m0, d0, k0, by omega, rfl, rfl, FI0, E0⟩
    case round =>
      obtain ⟨i, a', n, y, m, d, k, hi, rfl, rfl, F, Q⟩ := hrel
      obtain ⟨⟨c0, c1, c2, c3, c4, c5, c6, c7⟩, g0, g1, g2, g3, g4⟩ := Q.out.cells
      have nb : 0 ≤ n ∧ n ≤ 2935821 := by have := F.out.hn; have := LN.out; omega
      have wn : IntKind.i64.wrap (n * 86400) = n * 86400 := by rw [IntKind.wrap_i64]; omega
      have wi : IntKind.i64.wrap ((i : Int) + 1) = (i : Int) + 1 := by rw [IntKind.wrap_i64]; omega
      by_cases hlt : i ≤ 2924
      · have t1 : decide ((i : Int) ≤ 2924) = true := by rw [decide_eq_true_iff]; omega
        by_cases hle : n * 86400 ≤ E
        · have t2 : decide (n * 86400 ≤ E) = true := decide_eq_true hle
          have hn1 : n ≤ 2932896 := by have := EB.out.1; omega
          have NL := Lib.hid (And.intro nb.1 hn1)
          have eb := EB.out
          obtain ⟨m, d, k, rfl, rfl, rfl, q⟩ := Q.out.ed F.out.v nb.1 hn1
          have Q := Lib.hid q
          clear q nb hle
          cases hon : x.onB n with
          | false =>
            have NX := Lib.hid (day_none F.out.no (.inl hon) F.out.a0)
            have MT := Lib.hid (fun W (q : ED w A B x n y m d k W) => q.mt HX.out false hon)
            have UP := Lib.hid (fun W (q : ED w A B x n y m d k W) => q.step)
            clear hon eb hn1
            go_wp2_with fail
            refine (MT.out _ Q.out).mono ?_
            rintro e' w3 ⟨rfl, q⟩
            obtain ⟨⟨c0, c1, c2, c3, c4, c5, c6, c7⟩, g0, g1, g2, g3, g4⟩ := q.cells
            have Q := Lib.hid q
            clear q
            go_wp2_with fail
            refine (UP.out _ Q.out).mono ?_
            rintro e' w4 ⟨y', m', d', k', rfl, v', q⟩
            obtain ⟨⟨c0, c1, c2, c3, c4, c5, c6, c7⟩, g0, g1, g2, g3, g4⟩ := q.cells
            have fr := fun k => q.dy.free k
            have Q := Lib.hid (q.store (n + 1) y' m' d' k')
            clear q
            go_wp2_with fail
            go_roundw
            case rel => exact ⟨i + 1, 0, n + 1, y', m', d', k', by omega, by go_num, rfl, Lib.hid ⟨by have := F.out.hn; omega, by omega, by omega, by have := F.out.la; have := F.out.a1; omega, NX.out, v'.out⟩, Q⟩
            case measure => simp [intOf] <;> omega
          | true =>
            obtain ⟨r', hr'⟩ := Mat.least_ex (Mat.Ck x.a2 x.a1 x.a0) a' 86399
            have MT := Lib.hid (fun W (q : ED w A B x n y m d k W) => q.mt HX.out true hon)
            cases r' with
            | none =>
              have NX := Lib.hid (day_none F.out.no (.inr ⟨a', F.out.a0, Int.le_refl _, hr'⟩) F.out.a0)
              have FS := Lib.hid (fun W (q : ED w A B x n y m d k W) => q.first HX.out a' none F.out.a0 F.out.a1 hr')
              simp only [Option.getD_none] at FS
              have UP := Lib.hid (fun W (q : ED w A B x n y m d k W) => q.step)
              clear hon eb hn1 hr'
              go_wp2_with fail
              refine (MT.out _ Q.out).mono ?_
              rintro e' w3 ⟨rfl, q⟩
              obtain ⟨⟨c0, c1, c2, c3, c4, c5, c6, c7⟩, g0, g1, g2, g3, g4⟩ := q.cells
              have Q := Lib.hid q
              clear q
              go_wp2_with fail
              refine (FS.out _ Q.out).mono ?_
              rintro e' w5 ⟨rfl, q⟩
              obtain ⟨⟨c0, c1, c2, c3, c4, c5, c6, c7⟩, g0, g1, g2, g3, g4⟩ := q.cells
              have Q := Lib.hid q
              clear q
              go_wp2_with fail
              refine (UP.out _ Q.out).mono ?_
              rintro e' w4 ⟨y', m', d', k', rfl, v', q⟩
              obtain ⟨⟨c0, c1, c2, c3, c4, c5, c6, c7⟩, g0, g1, g2, g3, g4⟩ := q.cells
              have fr := fun k => q.dy.free k
              have Q := Lib.hid (q.store (n + 1) y' m' d' k')
              clear q
              go_wp2_with fail
              go_roundw
              case rel => exact ⟨i + 1, 0, n + 1, y', m', d', k', by omega, by go_num, rfl, Lib.hid ⟨by have := F.out.hn; omega, by omega, by omega, by have := F.out.la; have := F.out.a1; omega, NX.out, v'.out⟩, Q⟩
              case measure => simp [intOf] <;> omega
            | some c =>
              have FS := Lib.hid (fun W (q : ED w A B x n y m d k W) => q.first HX.out a' (some c) F.out.a0 F.out.a1 hr')
              simp only [Option.getD_some] at FS
              have DS := day_some F.out.no hr' (onB_iff.1 hon) F.out.a0
              have t3 : decide (0 ≤ c) = true := decide_eq_true (by have := F.out.a0; omega)
              have nl := NL.out
              have fa := F.out.a0
              have w6 : IntKind.i64.wrap (n * 86400 + c) = n * 86400 + c := by rw [IntKind.wrap_i64]; omega
              have w7 : IntKind.i64.wrap (n * 86400 + c - sh) = n * 86400 + c - sh := by rw [IntKind.wrap_i64]; omega
              by_cases cE : E < n * 86400 + c
              · have t4 : decide (E < n * 86400 + c) = true := decide_eq_true cE
                have RN := Lib.hid (NONE.out (fun s s1 s2 => DS.2.1 s s1 (by omega)))
                clear hon eb hn1 hr' DS cE nl fa
                go_wp2_with fail
                refine (MT.out _ Q.out).mono ?_
                rintro e' w3 ⟨rfl, q⟩
                obtain ⟨⟨c0, c1, c2, c3, c4, c5, c6, c7⟩, g0, g1, g2, g3, g4⟩ := q.cells
                have Q := Lib.hid q
                clear q
                go_wp2_with fail
                refine (FS.out _ Q.out).mono ?_
                rintro e' w5 ⟨rfl, q⟩
                obtain ⟨⟨c0, c1, c2, c3, c4, c5, c6, c7⟩, g0, g1, g2, g3, g4⟩ := q.cells
                have Q := Lib.hid q
                clear q
                go_wp2_with fail
                go_ret
                exact ⟨by rw [RN.out]; rfl, Q.out.below⟩
              · have t4 : decide (E < n * 86400 + c) = false := decide_eq_false cE
                have RN := Lib.hid (SOME.out (n * 86400 + c) (by rw [show n * 86400 + c = 86400 * n + c by omega]; exact DS.1) (by have := F.out.la; omega) (by omega) (fun s s1 s2 => DS.2.1 s s1 (by omega)))
                clear hon eb hn1 hr' DS cE nl fa
                go_wp2_with fail
                refine (MT.out _ Q.out).mono ?_
                rintro e' w3 ⟨rfl, q⟩
                obtain ⟨⟨c0, c1, c2, c3, c4, c5, c6, c7⟩, g0, g1, g2, g3, g4⟩ := q.cells
                have Q := Lib.hid q
                clear q
                go_wp2_with fail
                refine (FS.out _ Q.out).mono ?_
                rintro e' w5 ⟨rfl, q⟩
                obtain ⟨⟨c0, c1, c2, c3, c4, c5, c6, c7⟩, g0, g1, g2, g3, g4⟩ := q.cells
                have Q := Lib.hid q
                clear q
                go_wp2_with fail
                go_ret
                exact ⟨by rw [RN.out]; rfl, Q.out.below⟩
        · have t2 : decide (n * 86400 ≤ E) = false := decide_eq_false hle
          have RN := Lib.hid (NONE.out (fun s s1 s2 => F.out.no s s1 (by have := F.out.a0; omega)))
          clear nb hle
          go_wp2_with fail
          go_ret
          exact ⟨by rw [RN.out]; rfl, Q.out.below⟩
      · have t1 : decide ((i : Int) ≤ 2924) = false := by rw [decide_eq_false_iff_not]; omega
        have RN := Lib.hid (NONE.out (fun s s1 s2 => MORE.out (fun s s1 s2 => F.out.no s s1 (by have := F.out.a0; have := F.out.hn; omega)) s s1))
        clear nb
        go_wp2_with fail
        go_ret
        exact ⟨by rw [RN.out]; rfl, Q.out.below⟩
end Go.Proofs.YtbehendogcghjaaDoor
