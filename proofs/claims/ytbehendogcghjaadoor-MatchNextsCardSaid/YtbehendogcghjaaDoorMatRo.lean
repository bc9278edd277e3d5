/- Contracts of the document's program of chapter match: Prev. -/
import Derived.Test.YtbehendogcghjaaDoorMatRl
namespace Go.Proofs.YtbehendogcghjaaDoor
open Go.ChangeShapes Go.RowKit Go.Shelf

theorem ED.last {w W : World} {A B : Nat} {x : Exp.Ex} {n y : Int} {m d k : Nat} (h : ED w A B x n y m d k W) (hx : x.Bd) (a : Int) (r : Option Int) (h0 : 0 ≤ a) (h1 : a < 86400) (hr : Mat.Most (Mat.Ck x.a2 x.a1 x.a0) 0 a r) :
    Calls Tryd.prog 47 #[.agg #[.int .u64 x.a0, .int .u64 x.a1, .int .u64 x.a2, .int .u64 x.a3, .int .u64 x.a4, .int .u64 x.a5, .bool x.b3, .bool x.b5], .int .i64 a] W fun e W' => e = .returned (.int .i64 (r.getD (-1))) ∧ ED w A B x n y m d k W' :=
  (rlast_any x hx a r W h0 h1 hr).mono fun _ _ ⟨q1, q2⟩ => ⟨q1, h.next q2⟩
theorem prev_none {x : Exp.Ex} {z t L G sh : Int} {r : Option Int} (hr : Mat.Most (fun s => x.Lm (s + 60 * z)) 0 (t - 1) r) (hs : z * 60 = sh) (hL : min (t - 1 + sh) 253402300799 = L) (hG : max 0 sh = G) (no : ∀ s, G ≤ s → s ≤ L → ¬ x.Lm s) : r = none :=
  hr.uniq (fun y h1 h2 q => by have := lm_in q; exact no _ (by omega) (by omega) q)
theorem prev_some {x : Exp.Ex} {z t L G sh u : Int} {r : Option Int} (hr : Mat.Most (fun s => x.Lm (s + 60 * z)) 0 (t - 1) r) (hs : z * 60 = sh) (hL : min (t - 1 + sh) 253402300799 = L) (hG : max 0 sh = G) (hu : x.Lm u) (h1 : G ≤ u) (h2 : u ≤ L) (no : ∀ s, u < s → s ≤ L → ¬ x.Lm s) : r = some (u - sh) :=
  hr.uniq ⟨by omega, by omega, by show x.Lm (u - sh + 60 * z); rwa [show u - sh + 60 * z = u by omega], fun y y1 y2 q => by have := lm_in q; exact no _ (by omega) (by omega) q⟩
theorem day_none_back {x : Exp.Ex} {L n a : Int} (h : ∀ s, 86400 * n + a < s → s ≤ L → ¬ x.Lm s) (c : x.onB n = false ∨ Mat.Most (Mat.Ck x.a2 x.a1 x.a0) 0 a none) (h1 : a < 86400) : ∀ s, 86400 * (n - 1) + 86399 < s → s ≤ L → ¬ x.Lm s := by
  intro s s1 s2 q
  by_cases c1 : 86400 * n + a < s
  · exact h s c1 s2 q
  · obtain ⟨o, k⟩ := lm_iff.1 q
    have e : s / 86400 = n := by omega
    rcases c with c | c
    · rw [e] at o; exact onB_no.1 c o
    · exact c (s % 86400) (by omega) (by omega) k
theorem day_some_back {x : Exp.Ex} {L n a c : Int} (h : ∀ s, 86400 * n + a < s → s ≤ L → ¬ x.Lm s) (hr : Mat.Most (Mat.Ck x.a2 x.a1 x.a0) 0 a (some c)) (on : x.On n) (h1 : a < 86400) : x.Lm (86400 * n + c) ∧ (∀ s, 86400 * n + c < s → s ≤ L → ¬ x.Lm s) ∧ 0 ≤ c ∧ c ≤ a := by
  obtain ⟨r1, r2, r3, r4⟩ := hr
  refine ⟨lm_iff.2 ⟨by rw [show (86400 * n + c) / 86400 = n by omega]; exact on, by rw [show (86400 * n + c) % 86400 = c by omega]; exact r3⟩, fun s s1 s2 q => ?_, r1, r2⟩
  by_cases c1 : 86400 * n + a < s
  · exact h s c1 s2 q
  · exact r4 (s % 86400) (by omega) (by omega) (lm_iff.1 q).2
/-- how far the loop is: day n, up to its second a -/
structure FB (x : Exp.Ex) (L N i n a y m d k : Int) : Prop where
  hn : n = N - i
  a0 : 0 ≤ a
  a1 : a < 86400
  la : 86400 * n + a ≤ L
  no : ∀ s, 86400 * n + a < s → s ≤ L → ¬ x.Lm s
  v : InD n y m d k
set_option maxRecDepth 100000 in
set_option maxHeartbeats 8000000 in
theorem rprev_any (x : Exp.Ex) (hx : x.Bd) (z t : Int) (w : World) (LL : LayM w) :
    Calls Tryd.prog 25 #[.agg #[.int .u64 x.a0, .int .u64 x.a1, .int .u64 x.a2, .int .u64 x.a3, .int .u64 x.a4, .int .u64 x.a5, .bool x.b3, .bool x.b5], .int .i64 z, .int .i64 t] w fun e W' => e = .returned (.tuple #[.int .i64 ((prevO x z t).getD 0), .bool (prevO x z t).isSome, .int .i64 (errC x z [t])]) ∧ Below w.heap.size w W' := by
  have CK := Lib.hid (fun w0 R => rcheck_any x hx z (w.heap.size + 1) [t] (by simp) w0 R)
  have RW := Lib.hid (one_row x t w)
  have LL := Lib.hid LL
  by_cases h : errC x z [t] = 0
  · obtain ⟨hk, hz, ht⟩ := errC_one h
    have hr := prevO_is h
    obtain ⟨r, hrr⟩ : ∃ r, prevO x z t = r := ⟨_, rfl⟩
    rw [h]
    rw [hrr] at hr ⊢
    have HX := Lib.hid hx
    obtain ⟨sh, hsh⟩ : ∃ sh, z * 60 = sh := ⟨_, rfl⟩
    obtain ⟨L, hL⟩ : ∃ L, min (t - 1 + sh) 253402300799 = L := ⟨_, rfl⟩
    obtain ⟨G, hG⟩ : ∃ G, max 0 sh = G := ⟨_, rfl⟩
    have w1 : IntKind.i64.wrap (z * 60) = sh := by rw [IntKind.wrap_i64]; omega
    have w2 : IntKind.i64.wrap (t - 1) = t - 1 := by rw [IntKind.wrap_i64]; omega
    have w3 : IntKind.i64.wrap (t - 1 + sh) = t - 1 + sh := by rw [IntKind.wrap_i64]; omega
    have NONE := Lib.hid (fun no : (∀ s, G ≤ s → s ≤ L → ¬ x.Lm s) => prev_none hr hsh hL hG no)
    have SOME := Lib.hid (fun (u : Int) (hu : x.Lm u) (h1 : G ≤ u) (h2 : u ≤ L) (no : ∀ s, u < s → s ≤ L → ¬ x.Lm s) => prev_some hr hsh hL hG hu h1 h2 no)
    have l0 : L ≤ 253402300799 := by omega
    have e0 : 0 ≤ G ∧ G ≤ 50400 := by omega
    have s0 : -50400 ≤ sh ∧ sh ≤ 50400 := by omega
    by_cases c : L < G
    · have tc : decide (L < G) = true := decide_eq_true c
      have RN := Lib.hid (NONE.out (fun s s1 s2 => absurd s1 (by omega)))
      rw [h] at CK
      clear hx hr hk hz ht hsh l0 e0 s0 c h hrr
      go_enter Tryd.func25, Tryd.ntmps25
      go_wp2_with fail
      refine (CK.out _ RW.out).mono ?_
      rintro e V ⟨rfl, hb⟩
      have Q := Lib.hid (BC.one LL.out hb)
      clear hb
      go_wp2_with fail
      go_ret3
      exact ⟨by rw [RN.out]; rfl, Q.out.be⟩
    · have tc : decide (L < G) = false := decide_eq_false c
      obtain ⟨N, hN⟩ : ∃ N, L / 86400 = N := ⟨_, rfl⟩
      obtain ⟨a, ha⟩ : ∃ a, L % 86400 = a := ⟨_, rfl⟩
      have w4 : IntKind.i64.wrap (L.tdiv 86400) = N := by rw [Int.tdiv_eq_ediv_of_nonneg (by omega), IntKind.wrap_i64]; omega
      have w5 : L.tmod 86400 = a := by rw [Int.tmod_eq_emod_of_nonneg (by omega)]; exact ha
      have LN := Lib.hid (show 86400 * N + a = L ∧ 0 ≤ a ∧ a < 86400 ∧ 0 ≤ N ∧ N ≤ 2932896 by omega)
      have MORE := Lib.hid (fun h => no_more_back (x := x) l0 hN h)
      obtain ⟨y0, m0, d0, k0, v0, hn0, hk0, _⟩ := day_ex x N LN.out.2.2.2.1 LN.out.2.2.2.2
      have DA := Lib.hid (fun w0 : World => rdate_any y0 m0 d0 N w0 v0 hn0)
      rw [hk0] at DA
      have V0 := Lib.hid (And.intro v0 (And.intro hn0 hk0))
      have EB := Lib.hid (And.intro e0 s0)
      rw [h] at CK
      clear hx hr hk hz ht hsh l0 c hN ha v0 hn0 hk0 e0 s0 h hrr
      go_enter Tryd.func25, Tryd.ntmps25
      go_wp2_with fail
      refine (CK.out _ RW.out).mono ?_
      rintro e V0' ⟨rfl, hb⟩
      have QB := Lib.hid (BC.one LL.out hb)
      clear hb
      go_wp2_with fail
      refine (DA.out _).mono ?_
      rintro e V ⟨rfl, hb⟩
      have QB2 := Lib.hid (QB.out.next hb)
      obtain ⟨A, hA⟩ : ∃ A, w.heap.size = A := ⟨_, rfl⟩
      obtain ⟨B, hB⟩ : ∃ B, V.heap.size = B := ⟨_, rfl⟩
      have hl := QB2.out.ex.lt
      have E0 : ER w A B x N y0 m0 d0 k0 (V.alloc (.cells #[.int .i64 N, .int .i64 y0, .int .i64 m0, .int .i64 d0, .int .i64 k0] 52)) :=
        ⟨QB2.out.be.alloc (by have := QB2.out.be.size; omega) _, by rw [← hA]; exact QB2.out.ex.alloc _, by rw [← hB]; exact Row.new V _ _, by omega, by have := QB2.out.be.size; omega⟩
      have E0 := Lib.hid E0
      clear hb hl hL hG w1 w2 w3 w4
      go_wp2_with fail
      have FI0 : Hid (FB x L N (0 : Nat) N a y0 m0 d0 k0) := Lib.hid ⟨by omega, LN.out.2.1, LN.out.2.2.1, by have := LN.out.1; omega, fun s s1 s2 => absurd s1 (by have := LN.out.1; omega), fun _ _ => ⟨V0.out.1, V0.out.2.1, V0.out.2.2.symm⟩⟩
      go_loopw [14, 15] (fun av iv wr => ∃ (i : Nat) (a' n y m d k : Int), i ≤ 2925 ∧ iv = .int .i64 i ∧ av = .int .i64 a' ∧ Hid (FB x L N i n a' y m d k ∧ -1 ≤ n) ∧ Hid (ER w A B x n y m d k wr)) (fun _ iv _ => 2926 - (intOf iv).toNat)
      case atStart => exact ⟨0, a, N, y0, m0, d0, k0, by omega, rfl, rfl, Lib.hid ⟨FI0.out, by have := LN.out; omega⟩, E0⟩
      case round =>
        obtain ⟨i, a', n, y, m, d, k, hi, rfl, rfl, F1, Q⟩ := hrel
        have F := Lib.hid F1.out.1
        obtain ⟨⟨c0, c1, c2, c3, c4, c5, c6, c7⟩, g0, g1, g2, g3, g4⟩ := Q.out.cells
        have nb : -1 ≤ n ∧ n ≤ 2932896 := by have := F1.out.2; have := F.out.hn; have := LN.out; omega
        have wn : IntKind.i64.wrap (n * 86400) = n * 86400 := by rw [IntKind.wrap_i64]; omega
        have wp : IntKind.i64.wrap (n * 86400 + 86399) = n * 86400 + 86399 := by rw [IntKind.wrap_i64]; omega
        have wi : IntKind.i64.wrap ((i : Int) + 1) = (i : Int) + 1 := by rw [IntKind.wrap_i64]; omega
        have eb := EB.out
        by_cases hlt : i ≤ 2924
        · have t1 : decide ((i : Int) ≤ 2924) = true := by rw [decide_eq_true_iff]; omega
          by_cases h0 : 0 ≤ n
          · have t0 : decide (0 ≤ n) = true := decide_eq_true h0
            by_cases hle : G ≤ n * 86400 + 86399
            · have t2 : decide (G ≤ n * 86400 + 86399) = true := decide_eq_true hle
              obtain ⟨m, d, k, rfl, rfl, rfl, q⟩ := Q.out.ed F.out.v h0 nb.2
              have Q := Lib.hid q
              have NB := Lib.hid (And.intro h0 nb.2)
              clear q hle h0
              cases hon : x.onB n with
              | false =>
                have NX := Lib.hid (day_none_back F.out.no (.inl hon) F.out.a1)
                have MT := Lib.hid (fun W (q : ED w A B x n y m d k W) => q.mt HX.out false hon)
                have UP := Lib.hid (fun W (q : ED w A B x n y m d k W) => q.back)
                clear hon eb nb
                go_wp2_with fail
                refine (MT.out _ Q.out).mono ?_
                rintro e' w3 ⟨rfl, q⟩
                obtain ⟨⟨c0, c1, c2, c3, c4, c5, c6, c7⟩, g0, g1, g2, g3, g4⟩ := q.cells
                have Q := Lib.hid q
                clear q
                go_wp2_with fail
                refine (UP.out _ Q.out).mono ?_
                rintro e' w4 ⟨y', m', d', k', rfl, v', q⟩
                obtain ⟨⟨c0, c1, c2, c3, c4, c5, c6, c7⟩, g0, g1, g2, g3, g4⟩ := q.cells
                have fr := fun k => q.dy.free k
                have Q := Lib.hid (q.store (n - 1) y' m' d' k')
                clear q
                go_wp2_with fail
                go_roundw
                case rel => exact ⟨i + 1, 86399, n - 1, y', m', d', k', by omega, by go_num, rfl, Lib.hid ⟨⟨by have := F.out.hn; omega, by omega, by omega, by have := F.out.la; have := F.out.a0; omega, NX.out, v'.out⟩, by have := NB.out; omega⟩, Q⟩
                case measure => simp [intOf] <;> omega
              | true =>
                obtain ⟨r', hr'⟩ := Mat.most_ex (Mat.Ck x.a2 x.a1 x.a0) 0 a'
                have MT := Lib.hid (fun W (q : ED w A B x n y m d k W) => q.mt HX.out true hon)
                cases r' with
                | none =>
                  have NX := Lib.hid (day_none_back F.out.no (.inr hr') F.out.a1)
                  have FS := Lib.hid (fun W (q : ED w A B x n y m d k W) => q.last HX.out a' none F.out.a0 F.out.a1 hr')
                  simp only [Option.getD_none] at FS
                  have UP := Lib.hid (fun W (q : ED w A B x n y m d k W) => q.back)
                  clear hon eb nb hr'
                  go_wp2_with fail
                  refine (MT.out _ Q.out).mono ?_
                  rintro e' w3 ⟨rfl, q⟩
                  obtain ⟨⟨c0, c1, c2, c3, c4, c5, c6, c7⟩, g0, g1, g2, g3, g4⟩ := q.cells
                  have Q := Lib.hid q
                  clear q
                  go_wp2_with fail
                  refine (FS.out _ Q.out).mono ?_
                  rintro e' w5 ⟨rfl, q⟩
                  obtain ⟨⟨c0, c1, c2, c3, c4, c5, c6, c7⟩, g0, g1, g2, g3, g4⟩ := q.cells
                  have Q := Lib.hid q
                  clear q
                  go_wp2_with fail
                  refine (UP.out _ Q.out).mono ?_
                  rintro e' w4 ⟨y', m', d', k', rfl, v', q⟩
                  obtain ⟨⟨c0, c1, c2, c3, c4, c5, c6, c7⟩, g0, g1, g2, g3, g4⟩ := q.cells
                  have fr := fun k => q.dy.free k
                  have Q := Lib.hid (q.store (n - 1) y' m' d' k')
                  clear q
                  go_wp2_with fail
                  go_roundw
                  case rel => exact ⟨i + 1, 86399, n - 1, y', m', d', k', by omega, by go_num, rfl, Lib.hid ⟨⟨by have := F.out.hn; omega, by omega, by omega, by have := F.out.la; have := F.out.a0; omega, NX.out, v'.out⟩, by have := NB.out; omega⟩, Q⟩
                  case measure => simp [intOf] <;> omega
                | some c =>
                  have FS := Lib.hid (fun W (q : ED w A B x n y m d k W) => q.last HX.out a' (some c) F.out.a0 F.out.a1 hr')
                  simp only [Option.getD_some] at FS
                  have DS := day_some_back F.out.no hr' (onB_iff.1 hon) F.out.a1
                  have fa := F.out.a1
                  have t3 : decide (0 ≤ c) = true := decide_eq_true DS.2.2.1
                  have w6 : IntKind.i64.wrap (n * 86400 + c) = n * 86400 + c := by rw [IntKind.wrap_i64]; omega
                  have w7 : IntKind.i64.wrap (n * 86400 + c - sh) = n * 86400 + c - sh := by rw [IntKind.wrap_i64]; omega
                  by_cases cE : n * 86400 + c < G
                  · have t4 : decide (n * 86400 + c < G) = true := decide_eq_true cE
                    have RN := Lib.hid (NONE.out (fun s s1 s2 => DS.2.1 s (by omega) s2))
                    clear hon eb nb hr' DS cE fa
                    go_wp2_with fail
                    refine (MT.out _ Q.out).mono ?_
                    rintro e' w3 ⟨rfl, q⟩
                    obtain ⟨⟨c0, c1, c2, c3, c4, c5, c6, c7⟩, g0, g1, g2, g3, g4⟩ := q.cells
                    have Q := Lib.hid q
                    clear q
                    go_wp2_with fail
                    refine (FS.out _ Q.out).mono ?_
                    rintro e' w5 ⟨rfl, q⟩
                    obtain ⟨⟨c0, c1, c2, c3, c4, c5, c6, c7⟩, g0, g1, g2, g3, g4⟩ := q.cells
                    have Q := Lib.hid q
                    clear q
                    go_wp2_with fail
                    go_ret3
                    exact ⟨by rw [RN.out]; rfl, Q.out.below⟩
                  · have t4 : decide (n * 86400 + c < G) = false := decide_eq_false cE
                    have RN := Lib.hid (SOME.out (n * 86400 + c) (by rw [show n * 86400 + c = 86400 * n + c by omega]; exact DS.1) (by omega) (by have := F.out.la; omega) (fun s s1 s2 => DS.2.1 s (by omega) s2))
                    clear hon eb nb hr' DS cE fa
                    go_wp2_with fail
                    refine (MT.out _ Q.out).mono ?_
                    rintro e' w3 ⟨rfl, q⟩
                    obtain ⟨⟨c0, c1, c2, c3, c4, c5, c6, c7⟩, g0, g1, g2, g3, g4⟩ := q.cells
                    have Q := Lib.hid q
                    clear q
                    go_wp2_with fail
                    refine (FS.out _ Q.out).mono ?_
                    rintro e' w5 ⟨rfl, q⟩
                    obtain ⟨⟨c0, c1, c2, c3, c4, c5, c6, c7⟩, g0, g1, g2, g3, g4⟩ := q.cells
                    have Q := Lib.hid q
                    clear q
                    go_wp2_with fail
                    go_ret3
                    exact ⟨by rw [RN.out]; rfl, Q.out.below⟩
            · have t2 : decide (G ≤ n * 86400 + 86399) = false := decide_eq_false hle
              have RN := Lib.hid (NONE.out (fun s s1 s2 => F.out.no s (by have := F.out.a1; omega) s2))
              clear nb hle eb h0
              go_wp2_with fail
              go_ret3
              exact ⟨by rw [RN.out]; rfl, Q.out.below⟩
          · have t0 : decide (0 ≤ n) = false := decide_eq_false h0
            have RN := Lib.hid (NONE.out (fun s s1 s2 => F.out.no s (by have := F.out.a1; omega) s2))
            clear nb eb h0
            go_wp2_with fail
            go_ret3
            exact ⟨by rw [RN.out]; rfl, Q.out.below⟩
        · have t1 : decide ((i : Int) ≤ 2924) = false := by rw [decide_eq_false_iff_not]; omega
          have RN := Lib.hid (NONE.out (fun s s1 s2 => MORE.out (fun s s1 s2 => F.out.no s (by have := F.out.a1; have := F.out.hn; omega) s2) s s2))
          clear nb eb
          go_wp2_with fail
          go_ret3
          exact ⟨by rw [RN.out]; rfl, Q.out.below⟩
  · have DO : Hid (prevO x z t = none) := Lib.hid (by unfold prevO; rw [if_neg h])
    obtain ⟨E, hE⟩ : ∃ E, errC x z [t] = E := ⟨_, rfl⟩
    rw [hE] at h CK ⊢
    have t1 : (E != 0) = true := by rw [bne_iff_ne]; exact h
    clear h hE hx
    go_enter Tryd.func25, Tryd.ntmps25
    go_wp2_with fail
    refine (CK.out _ RW.out).mono ?_
    rintro e V ⟨rfl, hb⟩
    have Q := Lib.hid (BC.one LL.out hb)
    clear hb
    go_wp2_with fail
    go_ret3
    exact ⟨by rw [DO.out]; rfl, Q.out.be⟩
end Go.Proofs.YtbehendogcghjaaDoor
