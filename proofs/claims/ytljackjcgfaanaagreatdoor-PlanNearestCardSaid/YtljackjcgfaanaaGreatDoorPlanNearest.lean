/- For every plan and time, PlanNearest returns true: the next time is one of the plan, and none lies between; the list of a span has the times that are found one after the other. Condition: the program's tables start as its text lays them (tied). -/
import Derived.Test.YtljackjcgfaanaaGreatDoorPlaArg
namespace Go.Proofs.YtljackjcgfaanaaGreatDoor.planNearest
open Go.ChangeShapes Go.WideShapes Go.ChangeAt Go.RowKit Go.ChangeMaps

/-- what is known of a plan with a next time -/
structure Near (q : Pl.P) (t n : Int) : Prop where
  ok : q.Ok
  vt : Pl.vt t
  tn : t < n
  nM : n ≤ 253402300799
  K : q.K n
  no : ∀ y, t < y → y < n → ¬ q.K y
theorem is_no {q : Pl.P} (ok : q.Ok) {y : Int} (vy : Pl.vt y) (h : ¬ q.K y) : Pl.IsR q y false 0 := ⟨(Pl.errT_one ok vy).symm, ⟨fun k => (by cases k), fun k => absurd k.2 h⟩⟩
theorem is_yes {q : Pl.P} (ok : q.Ok) {y : Int} (vy : Pl.vt y) (h : q.K y) : Pl.IsR q y true 0 := ⟨(Pl.errT_one ok vy).symm, ⟨fun _ => ⟨rfl, h⟩, fun _ => rfl⟩⟩
/-- the next time after now is the j-th of the list -/
def Now (q : Pl.P) (l : List Int) (j : Nat) (now : Int) : Prop := Pl.vt now ∧ ∀ u, l[j]? = some u → Mat.Least q.K (now + 1) 253402300799 (some u)
set_option maxRecDepth 100000 in
set_option maxHeartbeats 4000000 in
theorem walk (q : Pl.P) (a0 : Option Addr) (cap : Nat) (t : Int) (w : World) (L : LayM w) (hx : q.x.Bd) (_ : PWf q) (hI : Bo.InS w (.slice a0 q.l.length cap) q.l) (_ : (Lit.int .i64 t).wf = true) :
    Calls Tryz.prog 7 #[.agg #[.int .i64 q.k, .int .u64 q.x.a0, .int .u64 q.x.a1, .int .u64 q.x.a2, .int .u64 q.x.a3, .int .u64 q.x.a4, .int .u64 q.x.a5, .bool q.x.b3, .bool q.x.b5, .int .i64 q.z, .int .i64 q.s, .int .i64 q.p, .int .i64 q.c, (.slice a0 q.l.length cap)], .int .i64 t] w fun e w' => e = .returned (.bool true) ∧ Below w.heap.size w w' := by
  have RX := Lib.hid (show RC w w.heap.size (plL q (.slice a0 q.l.length cap)) (w.alloc (.cells #[.int .i64 q.k, .int .u64 q.x.a0, .int .u64 q.x.a1, .int .u64 q.x.a2, .int .u64 q.x.a3, .int .u64 q.x.a4, .int .u64 q.x.a5, .bool q.x.b3, .bool q.x.b5, .int .i64 q.z, .int .i64 q.s, .int .i64 q.p, .int .i64 q.c, (.slice a0 q.l.length cap)] 29)) from ⟨(Below.refl _ _).alloc (Nat.le_refl _) _, L.alloc _, Row.new w _ _⟩)
  by_cases big : 64 < q.l.length
  · have t0 : decide ((64 : Int) < (q.l.length : Int)) = true := by rw [decide_eq_true_iff]; omega
    clear hI big L hx
    go_enter Tryz.func7, Tryz.ntmps7
    go_wp2_with fail
    refine (works_any _ RX.out.lay).mono ?_
    rintro e w1 ⟨rfl, hb1⟩
    have RY := Lib.hid (RX.out.next hb1)
    clear hb1
    go_wp2_with fail
    go_ret
    exact ⟨rfl, RY.out.below⟩
  have t0 : decide ((64 : Int) < (q.l.length : Int)) = false := by rw [decide_eq_false_iff_not]; omega
  have Q := Lib.hid (PB.start (q := q) L (hI.2.2 (by omega)))
  clear hI L RX big
  obtain ⟨n, p, r, hn⟩ := Pl.nextR_ex q t
  have NX := Lib.hid (fun W (h : PB w w.heap.size q (.slice a0 q.l.length cap) W) => h.toNext hx t n p r hn)
  by_cases z : r ≠ 0 ∨ p = false
  · obtain ⟨rfl, rfl⟩ : n = 0 ∧ p = false := by
      rcases hn.2 with ⟨_, a, b⟩ | ⟨h0, o, _, a, b⟩
      · exact ⟨a, b⟩
      · rcases z with k | k
        · exact absurd h0 k
        · rw [k] at b
          cases o with
          | none => exact ⟨a, k⟩
          | some y => cases b
    obtain ⟨d, hd⟩ : ∃ d, (r != 0) = d := ⟨_, rfl⟩
    clear z hn
    cases d with
    | true =>
      go_enter Tryz.func7, Tryz.ntmps7
      go_wp2_with fail
      refine (NX.out _ Q.out).mono ?_
      rintro e wc1 ⟨rfl, h⟩
      have R1 := Lib.hid h
      clear h
      obtain ⟨c0, c1, c2, c3, c4, c5, c6, c7, c8, c9, c10, c11, c12, c13⟩ := R1.out.cells
      go_wp2_with fail
      refine (R1.out.works).mono ?_
      rintro e wc2 ⟨rfl, h⟩
      have R2 := Lib.hid h
      clear h
      clear c0 c1 c2 c3 c4 c5 c6 c7 c8 c9 c10 c11 c12 c13
      obtain ⟨c0, c1, c2, c3, c4, c5, c6, c7, c8, c9, c10, c11, c12, c13⟩ := R2.out.cells
      go_wp2_with fail
      go_ret
      exact ⟨rfl, R2.out.below⟩
    | false =>
      go_enter Tryz.func7, Tryz.ntmps7
      go_wp2_with fail
      refine (NX.out _ Q.out).mono ?_
      rintro e wc1 ⟨rfl, h⟩
      have R1 := Lib.hid h
      clear h
      obtain ⟨c0, c1, c2, c3, c4, c5, c6, c7, c8, c9, c10, c11, c12, c13⟩ := R1.out.cells
      go_wp2_with fail
      refine (R1.out.works).mono ?_
      rintro e wc2 ⟨rfl, h⟩
      have R2 := Lib.hid h
      clear h
      clear c0 c1 c2 c3 c4 c5 c6 c7 c8 c9 c10 c11 c12 c13
      obtain ⟨c0, c1, c2, c3, c4, c5, c6, c7, c8, c9, c10, c11, c12, c13⟩ := R2.out.cells
      go_wp2_with fail
      go_ret
      exact ⟨rfl, R2.out.below⟩
  have z0 : r = 0 := Classical.not_not.1 fun k => z (.inl k)
  have z1 : p = true := by cases p; exact absurd (.inr rfl) z; rfl
  subst z0 z1
  have NE : Hid (Near q t n) := Lib.hid (by
    obtain ⟨h1, ⟨k, _⟩ | ⟨_, o, ho, e1, e2⟩⟩ := hn
    · exact absurd rfl k
    · cases o with
      | none => cases e2
      | some y =>
        obtain rfl : n = y := e1
        obtain ⟨ok, hv⟩ := Pl.P.errT_zero.1 h1.symm
        exact ⟨ok, hv t (by simp), by have := ho.1; omega, ho.2.1, ho.2.2.1, fun y h1 h2 => ho.2.2.2 y (by omega) h2⟩)
  clear z hn
  obtain ⟨ok, vt, tn, nM, K, no⟩ := NE.out
  have t2 : decide (n ≤ t) = false := by rw [decide_eq_false_iff_not]; omega
  have t3 : decide (253402300799 < n) = false := by rw [decide_eq_false_iff_not]; omega
  have vn : Pl.vt n := ⟨by have := vt.1; omega, nM⟩
  have IN := Lib.hid (fun W (h : PB w w.heap.size q (.slice a0 q.l.length cap) W) => h.is hx n true 0 (is_yes ok vn K))
  have IB := Lib.hid (fun y W (h : PB w w.heap.size q (.slice a0 q.l.length cap) W) (h1 : t < y) (h2 : y < n) => h.is hx y false 0 (is_no ok ⟨by have := vt.1; omega, by omega⟩ (no y h1 h2)))
  have w0 : IntKind.i64.wrap (n - t) = n - t := by have := vt.1; rw [IntKind.wrap_i64]; omega
  obtain ⟨l, hl⟩ := Pl.tms_ex q.K 253402300799 6 t
  have LI := Lib.hid (fun W (h : PB w w.heap.size q (.slice a0 q.l.length cap) W) => h.list hx t 253402300799 6 l 0 ⟨(Pl.errT_two ok vt (by omega)).symm, .inr ⟨rfl, hl⟩⟩)
  have HL := Lib.hid hl
  have ln : l.length ≤ 6 ∧ l.length ≠ 0 := by
    have e := tms_len hl
    have c := cnt_zero (P := q.K) (a := t) (n := (253402300799 - t + 1).toNat)
    refine ⟨by omega, fun k => ?_⟩
    rw [k] at e
    have e0 : cntN q.K t (253402300799 - t + 1).toNat = 0 := by omega
    have s := cnt_add q.K t (n - t).toNat ((253402300799 - n).toNat + 1)
    have e1 : (n - t).toNat + ((253402300799 - n).toNat + 1) = (253402300799 - t + 1).toNat := by omega
    have e2 : t + ((n - t).toNat : Int) = n := by omega
    rw [e1, e2, e0] at s
    have y : cntN q.K n ((253402300799 - n).toNat + 1) ≠ 0 := by
      have := cnt_add q.K n 1 (253402300799 - n).toNat
      rw [Nat.add_comm 1] at this
      have one : cntN q.K n 1 = 1 := by rw [cnt_yes (n := 0) (by simpa using K)]; rfl
      omega
    omega
  obtain ⟨own, hown⟩ : ∃ own : Bool, own = true ↔ q.K t := by
    by_cases k : q.K t
    · exact ⟨true, by simp [k]⟩
    · exact ⟨false, by simp [k]⟩
  have IO := Lib.hid (fun W (h : PB w w.heap.size q (.slice a0 q.l.length cap) W) => pis_any q hx (.slice a0 q.l.length cap) t own 0 ⟨(Pl.errT_one ok vt).symm, hown.trans (by simp)⟩ W h.lay h.sp)
  have NXT := Lib.hid (fun now u W (h : PB w w.heap.size q (.slice a0 q.l.length cap) W) (hv : Pl.vt now) (hu : Mat.Least q.K (now + 1) 253402300799 (some u)) => pnext_any q hx (.slice a0 q.l.length cap) now u true 0 ⟨(Pl.errT_one ok hv).symm, .inr ⟨rfl, some u, hu, rfl, rfl⟩⟩ W h.lay h.sp)
  obtain ⟨u0, hu0⟩ : ∃ u0, l[0]? = some u0 := ⟨_, List.getElem?_eq_getElem (by omega)⟩
  have HU0 := Lib.hid hu0
  have hd0 := tms_head hl hu0
  have OT : Hid (own = true → u0 = t) := Lib.hid fun k => Option.some.inj (hd0.uniq (Pl.least_here (by omega) (hown.1 k)))
  have N1 : Hid (own = true → Now q l 1 t) := Lib.hid fun k => ⟨vt, fun u hu => by
    have := tms_up hl 0 u0 u hu0 hu
    rwa [OT.out k] at this⟩
  have N0 : Hid (own = false → Now q l 0 t) := Lib.hid fun k => ⟨vt, fun u hu => by
    obtain rfl : u0 = u := Option.some.inj (hu0.symm.trans hu)
    exact Pl.least_later hd0 (by omega) (fun y y1 y2 => by obtain rfl : y = t := (by omega); exact fun z => by rw [hown.2 z] at k; cases k)⟩
  have NS := Lib.hid (fun j u u' (e1 : l[j]? = some u) (e2 : l[j + 1]? = some u') => tms_up hl j u u' e1 e2)
  have OWN := Lib.hid hown
  have LN := Lib.hid ln
  have t4 : (((l.length : Nat) : Int) == 0) = false := by rw [beq_eq_false_iff_ne]; omega
  have BD := Lib.hid (And.intro vt.1 (And.intro tn nM))
  clear ok vt tn nM K no vn hx hl ln hown hu0 hd0
  go_enter Tryz.func7, Tryz.ntmps7
  go_wp2_with fail
  refine (NX.out _ Q.out).mono ?_
  rintro e wc1 ⟨rfl, h⟩
  have R1 := Lib.hid h
  clear h
  obtain ⟨c0, c1, c2, c3, c4, c5, c6, c7, c8, c9, c10, c11, c12, c13⟩ := R1.out.cells
  go_wp2_with fail
  refine (IN.out _ R1.out).mono ?_
  rintro e wc2 ⟨rfl, h⟩
  have R2 := Lib.hid h
  clear h
  clear c0 c1 c2 c3 c4 c5 c6 c7 c8 c9 c10 c11 c12 c13
  obtain ⟨c0, c1, c2, c3, c4, c5, c6, c7, c8, c9, c10, c11, c12, c13⟩ := R2.out.cells
  go_wp2_with fail
  go_loopw [10] (fun kv wr => ∃ k : Int, 1 ≤ k ∧ k ≤ 101 ∧ kv = .int .i64 k ∧ Hid (PB w w.heap.size q (.slice a0 q.l.length cap) wr)) (fun kv _ => (102 - intOf kv).toNat)
  case atStart => exact ⟨1, by omega, by omega, rfl, R2⟩
  case round =>
    obtain ⟨k, k1, k2, rfl, QK⟩ := hrel
    have bd := BD.out
    obtain ⟨c0, c1, c2, c3, c4, c5, c6, c7, c8, c9, c10, c11, c12, c13⟩ := QK.out.cells
    by_cases lt : k < min (n - t) 101
    · have e0 : decide (k < min (n - t) 101) = true := decide_eq_true lt
      have w1 : IntKind.i64.wrap (k + 1) = k + 1 := by rw [IntKind.wrap_i64]; omega
      have w2 : IntKind.i64.wrap (t + k) = t + k := by rw [IntKind.wrap_i64]; omega
      by_cases far : 101 < n - t
      · have e1 : decide (101 < n - t) = true := decide_eq_true far
        obtain ⟨g, hg⟩ : ∃ g, (n - t).tdiv 101 = g := ⟨_, rfl⟩
        have hg' : (n - t) / 101 = g := by rw [← hg, Int.tdiv_eq_ediv_of_nonneg (by omega)]
        have g1 : 1 ≤ g ∧ 101 * g ≤ n - t := by omega
        obtain ⟨x, hxx⟩ : ∃ x, g * k = x := ⟨_, rfl⟩
        have x1 : 1 ≤ x ∧ x ≤ 100 * g := by
          have a := Int.mul_le_mul_of_nonneg_left (show 1 ≤ k from k1) (show 0 ≤ g by omega)
          have b := Int.mul_le_mul_of_nonneg_left (show k ≤ 100 by omega) (show 0 ≤ g by omega)
          omega
        have w3 : IntKind.i64.wrap g = g := by rw [IntKind.wrap_i64]; omega
        have w4 : IntKind.i64.wrap x = x := by rw [IntKind.wrap_i64]; omega
        have w5 : IntKind.i64.wrap (t + x) = t + x := by rw [IntKind.wrap_i64]; omega
        have e2 : decide (t + x < n) = true := decide_eq_true (by omega)
        have C := Lib.hid (fun W h => IB.out (t + x) W h (by omega) (by omega))
        have KB := Lib.hid (And.intro k1 lt)
        clear bd lt far hg' g1 x1 k1
        go_wp2_with fail
        refine (C.out _ QK.out).mono ?_
        rintro e W9 ⟨rfl, h⟩
        have Q9 := Lib.hid h
        clear h
        go_wp2_with fail
        go_roundw
        case rel => exact ⟨k + 1, by have := KB.out; omega, by have := KB.out; omega, by first | rfl | go_num, Q9⟩
        case measure => simp [intOf] <;> omega
      · have e1 : decide (101 < n - t) = false := decide_eq_false far
        have e2 : decide (t + k < n) = true := decide_eq_true (by omega)
        have C := Lib.hid (fun W h => IB.out (t + k) W h (by omega) (by omega))
        have KB := Lib.hid (And.intro k1 lt)
        clear bd lt far k1
        go_wp2_with fail
        refine (C.out _ QK.out).mono ?_
        rintro e W9 ⟨rfl, h⟩
        have Q9 := Lib.hid h
        clear h
        go_wp2_with fail
        go_roundw
        case rel => exact ⟨k + 1, by have := KB.out; omega, by have := KB.out; omega, by first | rfl | go_num, Q9⟩
        case measure => simp [intOf] <;> omega
    · have e0 : decide (k < min (n - t) 101) = false := decide_eq_false lt
      clear lt bd
      go_wp2_with fail
      refine (LI.out _ QK.out).mono ?_
      rintro e W4 ⟨A, dd, rfl, rt, h, _⟩
      have Q4 := Lib.hid h
      have RT := Lib.hid rt
      clear h rt c0 c1 c2 c3 c4 c5 c6 c7 c8 c9 c10 c11 c12 c13
      obtain ⟨c0, c1, c2, c3, c4, c5, c6, c7, c8, c9, c10, c11, c12, c13⟩ := Q4.out.cells
      go_wp2_with fail
      refine (IO.out _ Q4.out).mono ?_
      rintro e W5 ⟨rfl, hb5⟩
      have Q5 := Lib.hid (Q4.out.next hb5)
      have RT5 := Lib.hid (RT.out.below hb5)
      clear hb5 c0 c1 c2 c3 c4 c5 c6 c7 c8 c9 c10 c11 c12 c13
      cases own with
      | true =>
        have ut := OT.out rfl
        obtain ⟨b5, o5, hA, f5⟩ : ∃ b o, A = some ⟨b, o, none⟩ ∧ W5.cell? ⟨b, o + 0, none⟩ = some (.int .i64 t) := by
          obtain ⟨A', c', e, g⟩ := RT5.out
          cases e
          exact g 0 t (by rw [← ut]; exact HU0.out)
        subst hA
        rw [Nat.add_zero] at f5
        have t6 : (t != t) = false := by simp
        have l0 : (0 : Int) < (l.length : Int) := by have := LN.out; omega
        clear ut
        go_wp2_with fail
        clear l0 t6 f5
        go_loopw [18, 19] (fun jv nv wr => ∃ (j : Nat) (now : Int), j ≤ l.length ∧ jv = .int .i64 j ∧ nv = .int .i64 now ∧ Hid (Now q l j now) ∧ Hid (PB w w.heap.size q (.slice a0 q.l.length cap) wr) ∧ Hid (RowT wr (.slice (some ⟨b5, o5, none⟩) l.length dd) l)) (fun jv _ _ => l.length - (intOf jv).toNat)
        case atStart => exact ⟨1, t, by have := LN.out; omega, by first | rfl | go_num, rfl, Lib.hid (by first | exact N1.out rfl | exact N1.out trivial), Q5, RT5⟩
        case round =>
          obtain ⟨j, now, hj, rfl, rfl, NW, QJ, RJ⟩ := hrel
          by_cases lt : j < l.length
          · have e0 : decide ((j : Int) < (l.length : Int)) = true := by rw [decide_eq_true_iff]; omega
            have e0n : decide (j < l.length) = true := by rw [decide_eq_true_iff]; exact lt
            have wi : IntKind.i64.wrap ((j : Int) + 1) = (j : Int) + 1 := by have := LN.out.1; rw [IntKind.wrap_i64]; omega
            obtain ⟨u, hu⟩ : ∃ u, l[j]? = some u := ⟨_, List.getElem?_eq_getElem lt⟩
            have lu := NW.out.2 u hu
            have C := Lib.hid (fun W h => NXT.out now u W h NW.out.1 lu)
            have NN : Hid (Now q l (j + 1) u) := Lib.hid ⟨⟨by have := NW.out.1.1; have := lu.1; omega, lu.2.1⟩, fun u' hu' => NS.out j u u' hu hu'⟩
            have RC0 := Lib.hid (fun W (h : RowT W (.slice (some ⟨b5, o5, none⟩) l.length dd) l) => (show ∃ b o, (some (⟨b5, o5, none⟩ : Addr)) = some ⟨b, o, none⟩ ∧ W.cell? ⟨b, o + j, none⟩ = some (.int .i64 u) by obtain ⟨A', c', e, g⟩ := h; cases e; exact g j u hu))
            obtain ⟨c0, c1, c2, c3, c4, c5, c6, c7, c8, c9, c10, c11, c12, c13⟩ := QJ.out.cells
            clear lu hu
            go_wp2_with fail
            refine (C.out _ QJ.out).mono ?_
            rintro e W9 ⟨rfl, hb9⟩
            have Q9 := Lib.hid (QJ.out.next hb9)
            have R9 := Lib.hid (RJ.out.below hb9)
            obtain ⟨b9, o9, hA, f9⟩ := RC0.out _ R9.out
            cases hA
            clear hb9
            go_wp2_with fail
            go_roundw
            case rel => exact ⟨j + 1, u, by omega, by first | rfl | go_num, rfl, NN, Q9, R9⟩
            case measure => simp [intOf] <;> omega
          · have e0 : decide ((j : Int) < (l.length : Int)) = false := by rw [decide_eq_false_iff_not]; omega
            have e0n : decide (j < l.length) = false := by rw [decide_eq_false_iff_not]; exact lt
            clear lt hj
            go_wp2_with fail
            refine (QJ.out.works).mono ?_
            rintro e W9 ⟨rfl, h⟩
            have Q9 := Lib.hid h
            clear h
            go_wp2_with fail
            go_ret
            exact ⟨rfl, Q9.out.below⟩
      | false =>
        go_wp2_with fail
        go_loopw [18, 19] (fun jv nv wr => ∃ (j : Nat) (now : Int), j ≤ l.length ∧ jv = .int .i64 j ∧ nv = .int .i64 now ∧ Hid (Now q l j now) ∧ Hid (PB w w.heap.size q (.slice a0 q.l.length cap) wr) ∧ Hid (RowT wr (.slice A l.length dd) l)) (fun jv _ _ => l.length - (intOf jv).toNat)
        case atStart => exact ⟨0, t, by omega, rfl, rfl, Lib.hid (by first | exact N0.out rfl | exact N0.out trivial), Q5, RT5⟩
        case round =>
          obtain ⟨j, now, hj, rfl, rfl, NW, QJ, RJ⟩ := hrel
          by_cases lt : j < l.length
          · have e0 : decide ((j : Int) < (l.length : Int)) = true := by rw [decide_eq_true_iff]; omega
            have e0n : decide (j < l.length) = true := by rw [decide_eq_true_iff]; exact lt
            have wi : IntKind.i64.wrap ((j : Int) + 1) = (j : Int) + 1 := by have := LN.out.1; rw [IntKind.wrap_i64]; omega
            obtain ⟨u, hu⟩ : ∃ u, l[j]? = some u := ⟨_, List.getElem?_eq_getElem lt⟩
            have lu := NW.out.2 u hu
            have C := Lib.hid (fun W h => NXT.out now u W h NW.out.1 lu)
            have NN : Hid (Now q l (j + 1) u) := Lib.hid ⟨⟨by have := NW.out.1.1; have := lu.1; omega, lu.2.1⟩, fun u' hu' => NS.out j u u' hu hu'⟩
            have RC0 := Lib.hid (fun W (h : RowT W (.slice A l.length dd) l) => (show ∃ b o, A = some ⟨b, o, none⟩ ∧ W.cell? ⟨b, o + j, none⟩ = some (.int .i64 u) by obtain ⟨A', c', e, g⟩ := h; cases e; exact g j u hu))
            obtain ⟨c0, c1, c2, c3, c4, c5, c6, c7, c8, c9, c10, c11, c12, c13⟩ := QJ.out.cells
            clear lu hu
            go_wp2_with fail
            refine (C.out _ QJ.out).mono ?_
            rintro e W9 ⟨rfl, hb9⟩
            have Q9 := Lib.hid (QJ.out.next hb9)
            have R9 := Lib.hid (RJ.out.below hb9)
            obtain ⟨b9, o9, hA, f9⟩ := RC0.out _ R9.out
            subst hA
            clear hb9
            go_wp2_with fail
            go_roundw
            case rel => exact ⟨j + 1, u, by omega, by first | rfl | go_num, rfl, NN, Q9, R9⟩
            case measure => simp [intOf] <;> omega
          · have e0 : decide ((j : Int) < (l.length : Int)) = false := by rw [decide_eq_false_iff_not]; omega
            have e0n : decide (j < l.length) = false := by rw [decide_eq_false_iff_not]; exact lt
            clear lt hj
            go_wp2_with fail
            refine (QJ.out.works).mono ?_
            rintro e W9 ⟨rfl, h⟩
            have Q9 := Lib.hid h
            clear h
            go_wp2_with fail
            go_ret
            exact ⟨rfl, Q9.out.below⟩

set_option maxRecDepth 100000 in
theorem lifted (os : Os) (started : os.Started) (H : Type) (enc : TypeId × Value → H) :
    ReturnsInHanded {} Tryz.checked os 7 .any (fun w args => (Rows.planNearestSpec.pre enc Tryz.prog Tryz.f7 [] false w args ∧ laidMetH Tryz.prog Rows.planNearestRow.laid w) ∧ sizedMet enc Tryz.prog Tryz.f7 (OpenSpec.ofChange Rows.planNearestSpec) false w args)
      (Rows.planNearestSpec.post enc Tryz.prog Tryz.f7 false true false false) := by
  refine returnsInHanded_of_change_and (C := Tryz.checked) (X := fun w _ => laidMetH Tryz.prog Rows.planNearestRow.laid w) (fun _ _ _ hh h => h.of_heap hh) own started (by kernel_rfl) Tryz.func7
    (ChangeSpec.witness_shaped (enc := enc) (C := Tryz.checked) (os := os) (X := fun w _ => laidMetH Tryz.prog Rows.planNearestRow.laid w) false (World.laidAll Tryz.prog os Rows.planNearestRow.laid) #[.agg #[.int .i64 0, .int .u64 0, .int .u64 0, .int .u64 0, .int .u64 0, .int .u64 0, .int .u64 0, .bool false, .bool false, .int .i64 0, .int .i64 0, .int .i64 0, .int .i64 0, .slice none 0 0], .int .i64 0] 8 (World.laidAll_os _ _ _) (World.shaped_of_ZipB (by kernel_rfl) (by kernel_rfl)) (by kernel_rfl) (by kernel_rfl) (by kernel_rfl) (by rw [MakeChecks.laidMetH_plain _ _ _ (by kernel_rfl)]; exact laidMet_laidAll _ (by kernel_rfl) (by kernel_rfl))) ?_
  intro W base args ds gs before hval0 hW _ _ hL _
  have hval : ∀ (j : Nat) t v, Tryz.f7.params[j]? = some t → args[j]? = some v → Value.okWide Tryz.prog W .any base t v := hval0
  have hW' := hW
  obtain ⟨p, q, hA0, hV, rfl, hfz, hnd⟩ := hW
  have hA : DataW.TrodAll enc Tryz.prog W 0 (fun _ => true) true Tryz.f7.params.toList args.toList ds p := hA0
  rw [Tryz.params7] at hA hval
  obtain ⟨v0, vs0, d0, ds0, p0, q0, hargs, rfl, rfl, h0, r0⟩ := trodAll_cons hA
  obtain ⟨v1, vs1, d1, ds1, p1, q1, rfl, rfl, rfl, h1, r1⟩ := trodAll_cons r0
  obtain ⟨rfl, rfl, rfl⟩ := trodAll_nil r1
  obtain rfl : args = #[v0, v1] := by cases args; simp_all
  obtain ⟨rfl, rfl⟩ := trodVars_none hV
  obtain ⟨pl0, a0, cap0, rfl, b0, w0, i0⟩ := open_plan (hval 0 29 v0 rfl rfl) h0
  have k0 := h0
  have lt0 : ∀ x ∈ p0, x.block < W.heap.size := by obtain ⟨m, hm⟩ := k0; exact DataW.trod_lt m _ _ _ hm
  obtain ⟨a1, rfl, rfl, rfl, w1⟩ := open_int Tryz.underlying2 (hval 1 2 v1 rfl rfl) h1
  clear hA0 hval0
  refine (walk pl0 a0 cap0 a1 W (layM_of _ W (by kernel_rfl) (.head _) (.tail _ (.head _)) (by kernel_rfl) (by kernel_rfl) hL) b0 w0 i0 w1).mono fun e W' ⟨he, bel⟩ => ?_
  subst he
  exact ⟨_, rfl, _, _, _, [], _, [], hW', trodAll_mk1 (shut_bool Tryz.underlying4 _), (trodAll_cons_mk (Below.trod laidOut (by kernel_rfl) (of_decide_eq_true (by kernel_rfl)) k0 bel lt0) (trodAll_cons_mk (shut_int Tryz.underlying2 w1) trodAll_mk0)), rfl, bel.frame _, fun h => by cases h⟩

theorem row_holds : Rows.PlanNearestSaid :=
  OpenClaim.holds_of_wide 7 Tryz.f7 rfl rfl rfl rfl rfl rfl rfl ⟨rfl, rfl, rfl, rfl, rfl⟩ rfl rfl rfl rfl rfl (by kernel_rfl) Tryz.func7 (by kernel_rfl)
    (of_decide_eq_true (by kernel_rfl)) (by unfold Func.isWrapper; first | (rw [if_pos (by decide +kernel)]; kernel_rfl) | (rw [if_neg (by decide +kernel)]; exact ⟨rfl, rfl⟩))
    (fun os started H enc _ => lifted os started H enc)

theorem proved : Rows.PlanNearestCardSaid :=
  Claim7.holds_tied_plain_at .later [] Rows.planNearestCard.laidKinds true Rows.planNearestCard.stood.harness Rows.planNearestCard.stood.looks
    row_holds (fun _ h => by cases h) (by kernel_rfl) (fun _ h => by cases h) planNearest_row_tie rfl ⟨rfl, rfl⟩ (by kernel_rfl) rfl
    (fun f fn hf hfn => by
      obtain rfl : f = 7 := Option.some.inj ((show Tryz.prog.funcNamed Rows.planNearestRow.func = some 7 by kernel_rfl).symm.trans hf) |>.symm
      obtain rfl : fn = Tryz.f7 := (Option.some.inj (Tryz.func7.symm.trans hfn)).symm
      exact ⟨looks0, fun j t ht => by
        rw [Tryz.params7] at ht
        have hm : t ∈ [29, 2] := by simpa using Array.mem_of_getElem? ht
        have hall : ([29, 2].all fun u => !Tryz.prog.wantsStandIn u) = true := by kernel_rfl
        exact (show Tryz.prog.wantsStandIn t = false by simpa using List.all_eq_true.1 hall t hm)⟩)
    (by kernel_rfl)

end Go.Proofs.YtljackjcgfaanaaGreatDoor.planNearest
