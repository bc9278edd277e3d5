/- MatchKnown returns true: the examples of the chapter, leap days and the ends of time. Condition: the program's tables start as its text lays them (tied). -/
import Derived.Test.YtbehendogcghjaaDoorMatCy
namespace Go.Proofs.YtbehendogcghjaaDoor.matchKnown
open Go.ChangeShapes Go.WideShapes Go.ChangeAt Go.RowKit Go.ChangeMaps Civ

/-- each midnight; the leap days; the thirtieth of February; no hour -/
abbrev kd : Exp.Ex := ⟨1, 1, 1, 4294967294, 8190, 127, true, true⟩
abbrev kl : Exp.Ex := ⟨1, 1, 1, 536870912, 4, 127, false, true⟩
abbrev kn : Exp.Ex := ⟨1, 1, 1, 1073741824, 4, 127, false, true⟩
abbrev kw : Exp.Ex := ⟨1, 1, 0, 4294967294, 8190, 127, true, true⟩
theorem kd_ok : kd.okB = true := by decide +kernel
theorem kl_ok : kl.okB = true := by decide +kernel
theorem kn_ok : kn.okB = true := by decide +kernel
theorem kw_ok : kw.okB = false := by decide +kernel
theorem kw_bd : kw.Bd := fun i hi => six_cases hi (P := fun i => kw.at i < 2 ^ 64) (by decide) (by decide) (by decide) (by decide) (by decide) (by decide)
theorem zone0 : -840 ≤ (0 : Int) ∧ (0 : Int) ≤ 840 := by omega
theorem one {x : Exp.Ex} (h : x.okB = true) {z t : Int} (hz : -840 ≤ z ∧ z ≤ 840) (h0 : 0 ≤ t) (h1 : t ≤ 253402300799) : errC x z [t] = 0 := errC_mk h hz (fun s hs => by
  have : s = t := by simpa using hs
  omega)
theorem two {x : Exp.Ex} (h : x.okB = true) {z a b : Int} (hz : -840 ≤ z ∧ z ≤ 840) (h0 : 0 ≤ a) (h1 : a ≤ 253402300799) (h2 : 0 ≤ b) (h3 : b ≤ 253402300799) : errC x z [a, b] = 0 := errC_mk h hz (fun s hs => by
  have : s = a ∨ s = b := by simpa using hs
  omega)
theorem lm1 {x : Exp.Ex} (h0 : x.a0 = 1) (h1 : x.a1 = 1) (h2 : x.a2 = 1) {t : Int} : x.Lm t ↔ ∃ n, x.On n ∧ t = 86400 * n := by
  constructor
  · intro h
    obtain ⟨n, hh, i, s, g1, g2, g3, g4, g5, g6, g7, g8⟩ := lm_at h
    rw [h2] at g5; rw [h1] at g6; rw [h0] at g7
    have a := bit_one0 g5
    have b := bit_one0 g6
    have c := bit_one0 g7
    exact ⟨n, g1, by omega⟩
  · rintro ⟨n, hn, rfl⟩
    have := lm_mk (x := x) (n := n) (hh := 0) (i := 0) (s := 0) hn (by omega) (by omega) (by omega) (by rw [h2]; decide) (by rw [h1]; decide) (by rw [h0]; decide)
    simpa using this
theorem on_kd {n : Int} (h0 : 0 ≤ n) (h1 : n ≤ 2932896) : kd.On n := by
  obtain ⟨y, m, d, v, rfl⟩ := date_ex n h0 h1
  refine ⟨y, m, d, v, rfl, ?_⟩
  have hm : Nat.testBit 8190 m.toNat = true := by
    have all : ∀ k : Nat, k < 13 → 1 ≤ k → Nat.testBit 8190 k = true := by decide
    have := v.2.2.1; have := v.2.2.2.1
    exact all m.toNat (by omega) (by omega)
  simp [Mat.mt, hm]
theorem kd_lm {t : Int} : kd.Lm t ↔ 0 ≤ t ∧ t ≤ 253402300799 ∧ t % 86400 = 0 := by
  rw [lm1 rfl rfl rfl]
  constructor
  · rintro ⟨n, hn, rfl⟩
    have := on_in hn
    omega
  · rintro ⟨h0, h1, h2⟩
    exact ⟨t / 86400, on_kd (by omega) (by omega), by omega⟩
theorem bit_at {S k : Nat} (e : S = 2 ^ k) {v : Nat} (h : S.testBit v = true) : v = k := by
  subst e
  have := Nat.testBit_two_pow (n := k) (m := v)
  rw [h] at this
  exact (of_decide_eq_true this.symm).symm
theorem on_kl {n : Int} : kl.On n ↔ ∃ y, 1970 ≤ y ∧ y ≤ 9999 ∧ lp y = 1 ∧ n = dby y + 59 := by
  constructor
  · rintro ⟨y, m, d, v, rfl, h⟩
    simp only [Mat.mt, Bool.and_eq_true, Bool.false_eq_true, if_false, if_true] at h
    have e1 := bit_at (S := 4) (k := 2) rfl h.1
    have e2 := bit_at (S := 536870912) (k := 29) rfl h.2
    obtain ⟨v1, v2, v3, v4, v5, v6⟩ := v
    obtain rfl : m = 2 := by omega
    obtain rfl : d = 29 := by omega
    have l := lp_01 y
    simp [dim] at v6
    exact ⟨y, v1, v2, by omega, by simp [num, cum]; omega⟩
  · rintro ⟨y, h1, h2, h3, rfl⟩
    refine ⟨y, 2, 29, ⟨h1, h2, by omega, by omega, by omega, by simp [dim]; omega⟩, by simp [num, cum]; omega, by simp [Mat.mt]; decide⟩
theorem no_kn {n : Int} : ¬ kn.On n := by
  rintro ⟨y, m, d, v, rfl, h⟩
  simp only [Mat.mt, Bool.and_eq_true, Bool.false_eq_true, if_false, if_true] at h
  have e1 := bit_at (S := 4) (k := 2) rfl h.1
  have e2 := bit_at (S := 1073741824) (k := 30) rfl h.2
  obtain ⟨v1, v2, v3, v4, v5, v6⟩ := v
  obtain rfl : m = 2 := by omega
  obtain rfl : d = 30 := by omega
  have l := lp_01 y
  simp [dim] at v6
  omega
theorem nx1 : nextO kl 0 0 = some 68169600 := by
  refine next_of (one kl_ok zone0 (by omega) (by omega)) ⟨by omega, by omega, ?_, ?_⟩
  · exact (lm1 (x := kl) rfl rfl rfl).2 ⟨789, on_kl.2 ⟨1972, by omega, by omega, by decide, by decide⟩, by omega⟩
  · intro y y1 y2 y3
    obtain ⟨n, hn, e⟩ := (lm1 (x := kl) rfl rfl rfl).1 y3
    obtain ⟨a, a1, a2, a3, rfl⟩ := on_kl.1 hn
    by_cases c : a < 1972
    · have : a = 1970 ∨ a = 1971 := by omega
      rcases this with rfl | rfl <;> exact absurd a3 (by decide)
    · have := dby_mono (show 1972 ≤ a by omega)
      have e : dby 1972 = 730 := by decide
      omega
theorem nx2 : nextO kl 0 3981312000 = some 4233686400 := by
  refine next_of (one kl_ok zone0 (by omega) (by omega)) ⟨by omega, by omega, ?_, ?_⟩
  · exact (lm1 (x := kl) rfl rfl rfl).2 ⟨49001, on_kl.2 ⟨2104, by omega, by omega, by decide, by decide⟩, by omega⟩
  · intro y y1 y2 y3
    obtain ⟨n, hn, e⟩ := (lm1 (x := kl) rfl rfl rfl).1 y3
    obtain ⟨a, a1, a2, a3, rfl⟩ := on_kl.1 hn
    by_cases c : a < 2104
    · by_cases c2 : a ≤ 2096
      · have := dby_mono c2
        have e : dby 2096 = 46021 := by decide
        omega
      · have : a = 2097 ∨ a = 2098 ∨ a = 2099 ∨ a = 2100 ∨ a = 2101 ∨ a = 2102 ∨ a = 2103 := by omega
        rcases this with rfl | rfl | rfl | rfl | rfl | rfl | rfl <;> exact absurd a3 (by decide)
    · have := dby_mono (show 2104 ≤ a by omega)
      have e : dby 2104 = 48942 := by decide
      omega
theorem nx3 : nextO kn 0 0 = none :=
  (nextO_is (one kn_ok zone0 (by omega) (by omega))).uniq (fun y _ _ h => no_kn (lm_iff.1 h).1)
theorem ev3 : everO kn = false := by
  cases h : everO kn with
  | false => rfl
  | true =>
    obtain ⟨n, hn⟩ := (everO_iff kn_ok).1 h
    exact absurd hn no_kn
theorem nx4 : nextO kd 60 0 = some 82800 := by
  refine next_of (one kd_ok (by omega) (by omega) (by omega)) ⟨by omega, by omega, kd_lm.2 (by omega), fun y y1 y2 y3 => ?_⟩
  have := kd_lm.1 y3
  omega
theorem prev_of {x : Exp.Ex} {z t u : Int} (e : errC x z [t] = 0) (h : Mat.Most (fun s => x.Lm (s + 60 * z)) 0 (t - 1) (some u)) : prevO x z t = some u := (prevO_is e).uniq h
theorem pv1 : prevO kd 0 86400 = some 0 := by
  refine prev_of (one kd_ok zone0 (by omega) (by omega)) ⟨by omega, by omega, kd_lm.2 (by omega), fun y y1 y2 y3 => ?_⟩
  have := kd_lm.1 y3
  omega
theorem pv2 : prevO kd 0 0 = none :=
  (prevO_is (one kd_ok zone0 (by omega) (by omega))).uniq (fun y y1 y2 _ => by omega)
theorem nx5 : nextO kd 0 253402214400 = none :=
  (nextO_is (one kd_ok zone0 (by omega) (by omega))).uniq (fun y y1 y2 h => by
    have := kd_lm.1 h
    omega)
set_option maxRecDepth 100000 in
theorem ct1 : countN kd 0 0 86400 = 2 := by
  have h := countN_loc (x := kd) (z := 0) (a := 0) (b := 86400) (by decide)
  have d := cnt_days (Exp.okB_iff.1 kd_ok) 1
  have e : (loc1 0 86400 - loc0 0 0 + 1).toNat = 86400 * 1 + 1 := by decide
  have e0 : loc0 0 0 = 0 := by decide
  rw [h, e, e0, cnt_yes (kd_lm.2 (by omega)), d, cnt_yes (P := kd.On) (a := 0) (n := 0) (on_kd (by omega) (by omega))]
  have s : kd.secs = 1 := by decide +kernel
  rw [s]
  rfl
theorem li1 : listO kd 0 86400 0 5 = [] := by
  have h := listO_is (x := kd) (z := 0) (a := 86400) (b := 0) 5 (two kd_ok zone0 (by omega) (by omega) (by omega) (by omega))
  refine h.uniq (show Tms _ _ 5 86400 [] from ?_)
  exact ⟨none, fun y y1 y2 _ => by omega, rfl⟩
theorem er1 : errC kw 900 [-1] = 16 := by unfold errC; rw [if_pos kw_ok]
theorem er2 : errC kd 900 [-1] = 2 := by unfold errC; rw [if_neg (by rw [kd_ok]; simp), if_pos (by decide)]
theorem er3 : errC kd 840 [-1] = 14 := by unfold errC; rw [if_neg (by rw [kd_ok]; simp), if_neg (by decide), if_neg (by decide)]
theorem er4 : errC kd 0 [0, 253402300800] = 14 := by unfold errC; rw [if_neg (by rw [kd_ok]; simp), if_neg (by decide), if_neg (by decide)]
theorem is5 : isO exStar (-1) 0 = false := by
  cases h : isO exStar (-1) 0 with
  | false => rfl
  | true => exact absurd (lm_in (isO_in h).2) (by omega)
theorem _root_.Go.Proofs.YtbehendogcghjaaDoor.MC.boxN {w W : World} {l : List (Nat × Exp.Ex)} (h : MC w l W) (x : Exp.Ex) (n : Nat) (hn : W.heap.size = n) : MC w ((n, x) :: l) (W.alloc (.cells #[.int .u64 x.a0, .int .u64 x.a1, .int .u64 x.a2, .int .u64 x.a3, .int .u64 x.a4, .int .u64 x.a5, .bool x.b3, .bool x.b5] 24)) := by subst hn; exact h.box x
set_option maxRecDepth 100000 in
set_option maxHeartbeats 4000000 in
theorem walk (w : World) (L : LayM w) :
    Calls Tryd.prog 14 #[] w fun e w' => e = .returned (.bool true) ∧ Below w.heap.size w w' := by
  have bd : kd.Bd := bd_of (Exp.okB_iff.1 kd_ok)
  have bl : kl.Bd := bd_of (Exp.okB_iff.1 kl_ok)
  have bn : kn.Bd := bd_of (Exp.okB_iff.1 kn_ok)
  have bs : exStar.Bd := bd_of (Exp.okB_iff.1 exStar_ok)
  have ST := Lib.hid (fun W : World => star_any W)
  have N1 := Lib.hid (fun l W (h : MC w l W) => h.toNext kl bl 0 0 68169600 true 0 (by rw [nx1]; rfl) (by rw [nx1]; rfl) (one kl_ok zone0 (by omega) (by omega)))
  have N2 := Lib.hid (fun l W (h : MC w l W) => h.toNext kl bl 0 3981312000 4233686400 true 0 (by rw [nx2]; rfl) (by rw [nx2]; rfl) (one kl_ok zone0 (by omega) (by omega)))
  have N3 := Lib.hid (fun l W (h : MC w l W) => h.toNext kn bn 0 0 0 false 0 (by rw [nx3]; rfl) (by rw [nx3]; rfl) (one kn_ok zone0 (by omega) (by omega)))
  have E3 := Lib.hid (fun l W (h : MC w l W) => h.ever kn bn false 0 ev3 (by rw [kn_ok]; rfl))
  have N4 := Lib.hid (fun l W (h : MC w l W) => h.toNext kd bd 60 0 82800 true 0 (by rw [nx4]; rfl) (by rw [nx4]; rfl) (one kd_ok (by omega) (by omega) (by omega)))
  have P1 := Lib.hid (fun l W (h : MC w l W) => h.toPrev kd bd 0 86400 0 true 0 (by rw [pv1]; rfl) (by rw [pv1]; rfl) (one kd_ok zone0 (by omega) (by omega)))
  have P2 := Lib.hid (fun l W (h : MC w l W) => h.toPrev kd bd 0 0 0 false 0 (by rw [pv2]; rfl) (by rw [pv2]; rfl) (one kd_ok zone0 (by omega) (by omega)))
  have N5 := Lib.hid (fun l W (h : MC w l W) => h.toNext kd bd 0 253402214400 0 false 0 (by rw [nx5]; rfl) (by rw [nx5]; rfl) (one kd_ok zone0 (by omega) (by omega)))
  have C1 := Lib.hid (fun l W (h : MC w l W) => h.count kd bd 0 0 86400 2 0 (by rw [if_pos (two kd_ok zone0 (by omega) (by omega) (by omega) (by omega)), ct1]) (two kd_ok zone0 (by omega) (by omega) (by omega) (by omega)))
  have L1 := Lib.hid (fun l W (h : MC w l W) => h.list kd bd 0 86400 0 5 [] 0 li1 (two kd_ok zone0 (by omega) (by omega) (by omega) (by omega)))
  have I1 := Lib.hid (fun l W (h : MC w l W) => h.is kw kw_bd 900 (-1) false 16 (isO_no (by rw [er1]; decide)) er1)
  have I2 := Lib.hid (fun l W (h : MC w l W) => h.is kd bd 900 (-1) false 2 (isO_no (by rw [er2]; decide)) er2)
  have I3 := Lib.hid (fun l W (h : MC w l W) => h.is kd bd 840 (-1) false 14 (isO_no (by rw [er3]; decide)) er3)
  have C2 := Lib.hid (fun l W (h : MC w l W) => h.count kd bd 0 0 253402300800 0 14 (by rw [er4]; rfl) er4)
  have I5 := Lib.hid (fun l W (h : MC w l W) => h.is exStar bs (-1) 0 false 0 is5 (one exStar_ok (by omega) (by omega) (by omega)))
  have Q := Lib.hid (MC.start L)
  clear L bd bl bn bs
  go_enter Tryd.func14, Tryd.ntmps14
  go_wp2_with fail
  refine (ST.out _).mono ?_
  rintro e' w1 ⟨rfl, hb⟩
  obtain ⟨B, hB⟩ : ∃ B, w1.heap.size = B := ⟨_, rfl⟩
  have Q := Lib.hid ((((Q.out.next hb).boxN kd B hB).boxN kl (B + 1) (by simp [hB])).boxN kn (B + 1 + 1) (by simp [hB]))
  clear hb
  go_wp2_with fail
  refine (N1.out _ _ Q.out).mono ?_
  rintro e' wc1 ⟨rfl, q⟩
  obtain ⟨c0, c1, c2, c3, c4, c5, c6, c7⟩ := q.cells B kd (by simp)
  obtain ⟨d0, d1, d2, d3, d4, d5, d6, d7⟩ := q.cells (B + 1) kl (by simp)
  obtain ⟨f0, f1, f2, f3, f4, f5, f6, f7⟩ := q.cells (B + 1 + 1) kn (by simp)
  have Q := Lib.hid q
  clear q
  go_wp2_with fail
  refine (N2.out _ _ Q.out).mono ?_
  rintro e' wc2 ⟨rfl, q⟩
  obtain ⟨c0, c1, c2, c3, c4, c5, c6, c7⟩ := q.cells B kd (by simp)
  obtain ⟨d0, d1, d2, d3, d4, d5, d6, d7⟩ := q.cells (B + 1) kl (by simp)
  obtain ⟨f0, f1, f2, f3, f4, f5, f6, f7⟩ := q.cells (B + 1 + 1) kn (by simp)
  have Q := Lib.hid q
  clear q
  go_wp2_with fail
  refine (N3.out _ _ Q.out).mono ?_
  rintro e' wc3 ⟨rfl, q⟩
  obtain ⟨c0, c1, c2, c3, c4, c5, c6, c7⟩ := q.cells B kd (by simp)
  obtain ⟨d0, d1, d2, d3, d4, d5, d6, d7⟩ := q.cells (B + 1) kl (by simp)
  obtain ⟨f0, f1, f2, f3, f4, f5, f6, f7⟩ := q.cells (B + 1 + 1) kn (by simp)
  have Q := Lib.hid q
  clear q
  go_wp2_with fail
  refine (E3.out _ _ Q.out).mono ?_
  rintro e' wc4 ⟨rfl, q⟩
  obtain ⟨c0, c1, c2, c3, c4, c5, c6, c7⟩ := q.cells B kd (by simp)
  obtain ⟨d0, d1, d2, d3, d4, d5, d6, d7⟩ := q.cells (B + 1) kl (by simp)
  obtain ⟨f0, f1, f2, f3, f4, f5, f6, f7⟩ := q.cells (B + 1 + 1) kn (by simp)
  have Q := Lib.hid q
  clear q
  go_wp2_with fail
  refine (N4.out _ _ Q.out).mono ?_
  rintro e' wc5 ⟨rfl, q⟩
  obtain ⟨c0, c1, c2, c3, c4, c5, c6, c7⟩ := q.cells B kd (by simp)
  obtain ⟨d0, d1, d2, d3, d4, d5, d6, d7⟩ := q.cells (B + 1) kl (by simp)
  obtain ⟨f0, f1, f2, f3, f4, f5, f6, f7⟩ := q.cells (B + 1 + 1) kn (by simp)
  have Q := Lib.hid q
  clear q
  go_wp2_with fail
  refine (P1.out _ _ Q.out).mono ?_
  rintro e' wc6 ⟨rfl, q⟩
  obtain ⟨c0, c1, c2, c3, c4, c5, c6, c7⟩ := q.cells B kd (by simp)
  obtain ⟨d0, d1, d2, d3, d4, d5, d6, d7⟩ := q.cells (B + 1) kl (by simp)
  obtain ⟨f0, f1, f2, f3, f4, f5, f6, f7⟩ := q.cells (B + 1 + 1) kn (by simp)
  have Q := Lib.hid q
  clear q
  go_wp2_with fail
  refine (P2.out _ _ Q.out).mono ?_
  rintro e' wc7 ⟨rfl, q⟩
  obtain ⟨c0, c1, c2, c3, c4, c5, c6, c7⟩ := q.cells B kd (by simp)
  obtain ⟨d0, d1, d2, d3, d4, d5, d6, d7⟩ := q.cells (B + 1) kl (by simp)
  obtain ⟨f0, f1, f2, f3, f4, f5, f6, f7⟩ := q.cells (B + 1 + 1) kn (by simp)
  have Q := Lib.hid q
  clear q
  go_wp2_with fail
  refine (N5.out _ _ Q.out).mono ?_
  rintro e' wc8 ⟨rfl, q⟩
  obtain ⟨c0, c1, c2, c3, c4, c5, c6, c7⟩ := q.cells B kd (by simp)
  obtain ⟨d0, d1, d2, d3, d4, d5, d6, d7⟩ := q.cells (B + 1) kl (by simp)
  obtain ⟨f0, f1, f2, f3, f4, f5, f6, f7⟩ := q.cells (B + 1 + 1) kn (by simp)
  have Q := Lib.hid q
  clear q
  go_wp2_with fail
  refine (C1.out _ _ Q.out).mono ?_
  rintro e' wc9 ⟨rfl, q⟩
  obtain ⟨c0, c1, c2, c3, c4, c5, c6, c7⟩ := q.cells B kd (by simp)
  obtain ⟨d0, d1, d2, d3, d4, d5, d6, d7⟩ := q.cells (B + 1) kl (by simp)
  obtain ⟨f0, f1, f2, f3, f4, f5, f6, f7⟩ := q.cells (B + 1 + 1) kn (by simp)
  have Q := Lib.hid q
  clear q
  go_wp2_with fail
  refine (L1.out _ _ Q.out).mono ?_
  rintro e' w2 ⟨A, cap, rfl, _, q⟩
  obtain ⟨c0, c1, c2, c3, c4, c5, c6, c7⟩ := q.cells B kd (by simp)
  obtain ⟨C, hC⟩ : ∃ C, w2.heap.size = C := ⟨_, rfl⟩
  have Q := Lib.hid (q.boxN kw C hC)
  clear q
  go_wp2_with fail
  refine (I1.out _ _ Q.out).mono ?_
  rintro e' wc10 ⟨rfl, q⟩
  obtain ⟨c0, c1, c2, c3, c4, c5, c6, c7⟩ := q.cells B kd (by simp)
  have Q := Lib.hid q
  clear q
  go_wp2_with fail
  refine (I2.out _ _ Q.out).mono ?_
  rintro e' wc11 ⟨rfl, q⟩
  obtain ⟨c0, c1, c2, c3, c4, c5, c6, c7⟩ := q.cells B kd (by simp)
  have Q := Lib.hid q
  clear q
  go_wp2_with fail
  refine (I3.out _ _ Q.out).mono ?_
  rintro e' wc12 ⟨rfl, q⟩
  obtain ⟨c0, c1, c2, c3, c4, c5, c6, c7⟩ := q.cells B kd (by simp)
  have Q := Lib.hid q
  clear q
  go_wp2_with fail
  refine (C2.out _ _ Q.out).mono ?_
  rintro e' wc13 ⟨rfl, q⟩
  obtain ⟨c0, c1, c2, c3, c4, c5, c6, c7⟩ := q.cells B kd (by simp)
  have Q := Lib.hid q
  clear q
  go_wp2_with fail
  refine (ST.out _).mono ?_
  rintro e' w3 ⟨rfl, hb⟩
  have Q := Lib.hid (Q.out.next hb)
  clear hb
  go_wp2_with fail
  refine (I5.out _ _ Q.out).mono ?_
  rintro e' wc14 ⟨rfl, q⟩
  have Q := Lib.hid q
  clear q
  go_wp2_with fail
  refine (MC.works Q.out).mono ?_
  rintro e' wc15 ⟨rfl, q⟩
  have Q := Lib.hid q
  clear q
  go_wp2_with fail
  go_ret
  exact ⟨rfl, Q.out.below⟩

set_option maxRecDepth 100000 in
theorem lifted (os : Os) (started : os.Started) (H : Type) (enc : TypeId × Value → H) :
    ReturnsInHanded {} Tryd.checked os 14 .any (fun w args => (Rows.matchKnownSpec.pre enc Tryd.prog Tryd.f14 [] false w args ∧ laidMetH Tryd.prog Rows.matchKnownRow.laid w) ∧ sizedMet enc Tryd.prog Tryd.f14 (OpenSpec.ofChange Rows.matchKnownSpec) false w args)
      (Rows.matchKnownSpec.post enc Tryd.prog Tryd.f14 false true false false) := by
  refine returnsInHanded_of_change_and (C := Tryd.checked) (X := fun w _ => laidMetH Tryd.prog Rows.matchKnownRow.laid w) (fun _ _ _ hh h => h.of_heap hh) own started (by kernel_rfl) Tryd.func14
    (ChangeSpec.witness_shaped (enc := enc) (C := Tryd.checked) (os := os) (X := fun w _ => laidMetH Tryd.prog Rows.matchKnownRow.laid w) false (World.laidAll Tryd.prog os Rows.matchKnownRow.laid) #[] 8 (World.laidAll_os _ _ _) (World.shaped_of_ZipB (by kernel_rfl) (by kernel_rfl)) (by kernel_rfl) (by kernel_rfl) (by kernel_rfl) (by rw [MakeChecks.laidMetH_plain _ _ _ (by kernel_rfl)]; exact laidMet_laidAll _ (by kernel_rfl) (by kernel_rfl))) ?_
  intro W base args ds gs before hval0 hW _ _ hL _
  have hval : ∀ (j : Nat) t v, Tryd.f14.params[j]? = some t → args[j]? = some v → Value.okWide Tryd.prog W .any base t v := hval0
  have hW' := hW
  obtain ⟨p, q, hA0, hV, rfl, hfz, hnd⟩ := hW
  have hA : DataW.TrodAll enc Tryd.prog W 0 (fun _ => true) true Tryd.f14.params.toList args.toList ds p := hA0
  rw [Tryd.params14] at hA hval

  obtain ⟨hargs, rfl, rfl⟩ := trodAll_nil hA
  obtain rfl : args = #[] := by cases args; simp_all
  obtain ⟨rfl, rfl⟩ := trodVars_none hV
  clear hA0 hval0
  refine (walk  W (layM_of _ W (by kernel_rfl) (.head _) (.tail _ (.head _)) (by kernel_rfl) (by kernel_rfl) hL) ).mono fun e W' ⟨he, bel⟩ => ?_
  subst he
  exact ⟨_, rfl, _, _, _, [], _, [], hW', trodAll_mk1 (shut_bool Tryd.underlying4 _), trodAll_mk0, rfl, bel.frame _, fun h => by cases h⟩

theorem row_holds : Rows.MatchKnownSaid :=
  OpenClaim.holds_of_wide 14 Tryd.f14 rfl rfl rfl rfl rfl rfl rfl ⟨rfl, rfl, rfl, rfl, rfl⟩ rfl rfl rfl rfl rfl (by kernel_rfl) Tryd.func14 (by kernel_rfl)
    (of_decide_eq_true (by kernel_rfl)) (by unfold Func.isWrapper; first | (rw [if_pos (by decide +kernel)]; kernel_rfl) | (rw [if_neg (by decide +kernel)]; exact ⟨rfl, rfl⟩))
    (fun os started H enc _ => lifted os started H enc)

theorem proved : Rows.MatchKnownCardSaid :=
  Claim7.holds_tied_plain_at .later [] Rows.matchKnownCard.laidKinds true Rows.matchKnownCard.stood.harness Rows.matchKnownCard.stood.looks
    row_holds (fun _ h => by cases h) (by kernel_rfl) (fun _ h => by cases h) matchKnown_row_tie rfl ⟨rfl, rfl⟩ (by kernel_rfl) rfl
    (fun f fn hf hfn => by
      obtain rfl : f = 14 := Option.some.inj ((show Tryd.prog.funcNamed Rows.matchKnownRow.func = some 14 by kernel_rfl).symm.trans hf) |>.symm
      obtain rfl : fn = Tryd.f14 := (Option.some.inj (Tryd.func14.symm.trans hfn)).symm
      exact ⟨looks0, fun j t ht => by
        rw [Tryd.params14] at ht
        have hm : t ∈ [] := by simpa using Array.mem_of_getElem? ht
        have hall : ([].all fun u => !Tryd.prog.wantsStandIn u) = true := by kernel_rfl
        exact (show Tryd.prog.wantsStandIn t = false by simpa using List.all_eq_true.1 hall t hm)⟩)
    (by kernel_rfl)

end Go.Proofs.YtbehendogcghjaaDoor.matchKnown
