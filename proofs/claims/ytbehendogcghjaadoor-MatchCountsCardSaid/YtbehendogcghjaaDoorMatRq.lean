/- Contract of the document's program of chapter match: Count. -/
import Derived.Test.YtbehendogcghjaaDoorMatRm
namespace Go.Proofs.YtbehendogcghjaaDoor
open Go.ChangeShapes Go.RowKit Go.Shelf

/-- how many numbers a set has -/
def cn4 (S : Nat) : Int := (Bit.mem S).length
theorem BC.cn {w W : World} {x : Exp.Ex} (h : BC w x W) (S : Nat) (hS : S < 2 ^ 64) : Calls Tryd.prog 51 #[.int .u64 S] W fun e W' => e = .returned (.int .i64 (cn4 S)) ∧ BC w x W' :=
  (countR_any S hS W).mono fun _ _ ⟨h1, h2⟩ => ⟨h1, h.next h2⟩
/-- the day that lies at a pointer -/
def dayAt (v : Value) (W : World) : Nat := match v with
  | .pointer (some p) => (match W.cell? p with
    | some c => (intOf c).toNat
    | none => 0)
  | _ => 0
theorem dayAt_is {B : Nat} {n : Int} {W : World} (h : W.cell? ⟨B, 0, none⟩ = some (.int .i64 n)) : dayAt (.pointer (some ⟨B, 0, none⟩)) W = n.toNat := by
  simp only [dayAt, h, intOf]
/-- the day is copied into a box of its own -/
theorem ED.copy {w W : World} {A B : Nat} {x : Exp.Ex} {n y : Int} {m d k : Nat} (h : ED w A B x n y m d k W) : ED w A W.heap.size x n y m d k (W.alloc (.cells #[.int .i64 n, .int .i64 y, .int .i64 m, .int .i64 d, .int .i64 k] 52)) :=
  ⟨h.below.alloc h.below.size _, h.ex.alloc _, Row.new W _ _, by have := h.ex.lt; omega, h.below.size, h.v, h.hn, h.hk⟩
theorem ED.clock {w W : World} {A B : Nat} {x : Exp.Ex} {n y : Int} {m d k : Nat} (h : ED w A B x n y m d k W) (hx : x.Bd) (s : Int) (b : Bool) (h0 : 0 ≤ s) (h1 : s < 86400) (hb : Mat.clk x.a2 x.a1 x.a0 s = b) :
    Calls Tryd.prog 40 #[.agg #[.int .u64 x.a0, .int .u64 x.a1, .int .u64 x.a2, .int .u64 x.a3, .int .u64 x.a4, .int .u64 x.a5, .bool x.b3, .bool x.b5], .int .i64 s] W fun e W' => e = .returned (.bool b) ∧ ED w A B x n y m d k W' :=
  (rclock_any x hx s W h0 h1).mono fun _ _ ⟨q1, q2⟩ => ⟨by rw [q1, hb], h.next q2⟩
theorem ck_of {x : Exp.Ex} {s : Int} (h0 : 0 ≤ s) (h1 : s < 86400) (h : Mat.clk x.a2 x.a1 x.a0 s = true) : x.ck s := ⟨h0, h1, h⟩
theorem ck_not {x : Exp.Ex} {s : Int} (h : Mat.clk x.a2 x.a1 x.a0 s = false) : ¬ x.ck s := fun q => by
  have := q.2.2
  rw [h] at this
  cases this
/-- the state ahead of a day -/
structure CI (x : Exp.Ex) (lo hi n y m d k u : Int) : Prop where
  n0 : lo / 86400 ≤ n
  n1 : n ≤ 2932897
  v : InD n y m d k
  hu : u = upTo x lo hi n
set_option maxRecDepth 100000 in
set_option maxHeartbeats 16000000 in
theorem rcount_any (x : Exp.Ex) (hx : x.Bd) (z a b : Int) (w : World) (LL : LayM w) :
    Calls Tryd.prog 31 #[.agg #[.int .u64 x.a0, .int .u64 x.a1, .int .u64 x.a2, .int .u64 x.a3, .int .u64 x.a4, .int .u64 x.a5, .bool x.b3, .bool x.b5], .int .i64 z, .int .i64 a, .int .i64 b] w fun e W' => e = .returned (.tuple #[.int .i64 (if errC x z [a, b] = 0 then countN x z a b else 0 : Nat), .int .i64 (errC x z [a, b])]) ∧ Below w.heap.size w W' := by
  have CK := Lib.hid (fun w0 R => rcheck_any x hx z (w.heap.size + 1) [a, b] (by simp) w0 R)
  have RW := Lib.hid (two_row x a b w)
  have LL := Lib.hid LL
  by_cases h : errC x z [a, b] = 0
  · obtain ⟨hk, hz, ha, hb⟩ := errC_two h
    have hok := Exp.okB_iff.1 hk
    rw [if_pos h]
    obtain ⟨sh, hsh⟩ : ∃ sh, z * 60 = sh := ⟨_, rfl⟩
    have w1 : IntKind.i64.wrap (z * 60) = sh := by rw [IntKind.wrap_i64]; omega
    have w2 : IntKind.i64.wrap (a + sh) = a + sh := by rw [IntKind.wrap_i64]; omega
    have w3 : IntKind.i64.wrap (b + sh) = b + sh := by rw [IntKind.wrap_i64]; omega
    obtain ⟨lo, hlo⟩ : ∃ lo, max (a + sh) 0 = lo := ⟨_, rfl⟩
    obtain ⟨hi, hhi⟩ : ∃ hi, min (b + sh) 253402300799 = hi := ⟨_, rfl⟩
    have el : loc0 z a = lo := by unfold loc0; omega
    have eh : loc1 z b = hi := by unfold loc1; omega
    by_cases c : hi < lo
    · have tc : decide (hi < lo) = true := decide_eq_true c
      have DO := Lib.hid (countN_none (x := x) (z := z) (a := a) (b := b) (by rw [el, eh]; exact c))
      rw [h] at CK ⊢
      clear hx hk hz ha hb hok hsh el eh c h
      go_enter Tryd.func31, Tryd.ntmps31
      go_wp2_with fail
      refine (CK.out _ RW.out).mono ?_
      rintro e V ⟨rfl, hb⟩
      have Q := Lib.hid (BC.one LL.out hb)
      clear hb
      go_wp2_with fail
      go_ret2
      exact ⟨by rw [DO.out]; rfl, Q.out.be⟩
    · have tc : decide (hi < lo) = false := decide_eq_false c
      have DO := countN_loc (x := x) (z := z) (a := a) (b := b) (by rw [el, eh]; omega)
      rw [el, eh] at DO
      have HX := Lib.hid hx
      obtain ⟨N, hN⟩ : ∃ N, lo / 86400 = N := ⟨_, rfl⟩
      have l0 : 0 ≤ lo := by omega
      have h1 : hi ≤ 253402300799 := by omega
      have w4 : IntKind.i64.wrap (lo.tdiv 86400) = N := by rw [Int.tdiv_eq_ediv_of_nonneg l0, IntKind.wrap_i64]; omega
      have LN := Lib.hid (show 0 ≤ lo ∧ lo ≤ hi ∧ hi ≤ 253402300799 ∧ lo / 86400 = N by omega)
      obtain ⟨yy0, m0, d0, k0, v0, hn0, hk0, _⟩ := day_ex x N (by omega) (by omega)
      have DA := Lib.hid (fun w0 : World => rdate_any yy0 m0 d0 N w0 v0 hn0)
      rw [hk0] at DA
      have V0 := Lib.hid (And.intro v0 (And.intro hn0 hk0))
      have DO := Lib.hid DO
      have SB := secs_bd hok
      have CD := Lib.hid (cnt_day hok)
      obtain ⟨S, hS⟩ : ∃ S : Int, (x.secs : Int) = S := ⟨_, rfl⟩
      have SS := Lib.hid hS
      have sb : 0 ≤ S ∧ S ≤ 86400 := by omega
      have SB := Lib.hid sb
      obtain ⟨m1, hm1⟩ : ∃ m1, cn4 x.a2 * cn4 x.a1 = m1 := ⟨_, rfl⟩
      have LS := secs_le (Bit.mem x.a2).length (Bit.mem x.a1).length (Bit.mem x.a0).length (Bit.mem_len _) (Bit.mem_len _) (Bit.mem_len _)
      have e1 : m1 = (((Bit.mem x.a2).length * (Bit.mem x.a1).length : Nat) : Int) := by rw [← hm1]; unfold cn4; push_cast; rfl
      have w5 : IntKind.i64.wrap (cn4 x.a2 * cn4 x.a1) = m1 := by rw [hm1, e1, IntKind.wrap_i64]; omega
      have e2 : m1 * cn4 x.a0 = S := by
        rw [e1, ← hS]
        unfold cn4 Exp.Ex.secs
        rw [← Int.natCast_mul]
        congr 1
        rw [Nat.mul_comm, Nat.mul_comm (Bit.mem x.a2).length, Nat.mul_assoc]
      have w6 : IntKind.i64.wrap (m1 * cn4 x.a0) = S := by rw [e2, IntKind.wrap_i64]; omega
      have CN := Lib.hid (fun W (q : BC w x W) (T : Nat) (hT : T < 2 ^ 64) => q.cn T hT)
      have X2 := Lib.hid (show x.a2 < 2 ^ 64 from hx 2 (by decide))
      have X1 := Lib.hid (show x.a1 < 2 ^ 64 from hx 1 (by decide))
      have X0 := Lib.hid (show x.a0 < 2 ^ 64 from hx 0 (by decide))
      obtain ⟨TOT, hTOT⟩ : ∃ T, countN x z a b = T := ⟨_, rfl⟩
      rw [hTOT] at DO ⊢
      rw [h] at CK ⊢
      clear hx hk hz ha hb hok hsh el eh c h hN l0 h1 v0 hn0 hk0 hS sb hm1 LS e1 e2 hTOT
      go_enter Tryd.func31, Tryd.ntmps31
      go_wp2_with fail
      refine (CK.out _ RW.out).mono ?_
      rintro e V0' ⟨rfl, hb⟩
      have Q := Lib.hid (BC.one LL.out hb)
      obtain ⟨y0, y1, y2, y3, y4, y5, y6, y7⟩ := Q.out.cells
      clear hb
      go_wp2_with fail
      go_region_held3 (fun w' => w'.cell? ⟨w.heap.size, 0, none⟩ = some (.int .u64 x.a0) ∧ w'.cell? ⟨w.heap.size, 1, none⟩ = some (.int .u64 x.a1) ∧ w'.cell? ⟨w.heap.size, 2, none⟩ = some (.int .u64 x.a2) ∧ w'.cell? ⟨w.heap.size, 3, none⟩ = some (.int .u64 x.a3) ∧ w'.cell? ⟨w.heap.size, 4, none⟩ = some (.int .u64 x.a4) ∧ w'.cell? ⟨w.heap.size, 5, none⟩ = some (.int .u64 x.a5) ∧ w'.cell? ⟨w.heap.size, 6, none⟩ = some (.bool x.b3) ∧ w'.cell? ⟨w.heap.size, 7, none⟩ = some (.bool x.b5)) (go_keep)
        (first
          | (go_at_call 51; refine (CN.out _ (by first | exact Q.out | exact Q.out.drew) _ (by first | exact X2.out | exact X1.out | exact X0.out)).mono ?_; rintro e w20 ⟨rfl, q'⟩; have Q := Lib.hid q'; obtain ⟨y0, y1, y2, y3, y4, y5, y6, y7⟩ := q'.cells; clear q'))
      clear w2 w3 w5 w6
      go_wp2_with fail
      refine (DA.out _).mono ?_
      rintro e V ⟨rfl, hb⟩
      have QB2 := Lib.hid (Q.out.next hb)
      obtain ⟨A, hA⟩ : ∃ A, w.heap.size = A := ⟨_, rfl⟩
      obtain ⟨B, hB⟩ : ∃ B, V.heap.size = B := ⟨_, rfl⟩
      have hl := QB2.out.ex.lt
      have E0 : ER w A B x N yy0 m0 d0 k0 (V.alloc (.cells #[.int .i64 N, .int .i64 yy0, .int .i64 m0, .int .i64 d0, .int .i64 k0] 52)) :=
        ⟨QB2.out.be.alloc (by have := QB2.out.be.size; omega) _, by rw [← hA]; exact QB2.out.ex.alloc _, by rw [← hB]; exact Row.new V _ _, by omega, by have := QB2.out.be.size; omega⟩
      have E0 := Lib.hid E0
      have C0 : Hid (CI x lo hi N yy0 m0 d0 k0 0) := Lib.hid ⟨by have := LN.out; omega, by have := LN.out; omega, fun _ _ => ⟨V0.out.1, V0.out.2.1, V0.out.2.2.symm⟩, by rw [upTo_first x LN.out.2.2.2]; rfl⟩
      clear hb hl hlo hhi w1 w4 tc y0 y1 y2 y3 y4 y5 y6 y7 Q
      go_wp2_with fail
      go_loopw [14, 16] (fun sv pv wr => ∃ (B : Nat) (n y m d k u : Int), pv = .pointer (some ⟨B, 0, none⟩) ∧ sv = .int .i64 u ∧ Hid (CI x lo hi n y m d k u) ∧ Hid (ER w A B x n y m d k wr)) (fun _ pv wr => 2932898 - dayAt pv wr)
      case atStart => exact ⟨B, N, yy0, m0, d0, k0, 0, rfl, rfl, C0, E0⟩
      case round =>
        obtain ⟨B, n, y, m, d, k, u, rfl, rfl, I, Q⟩ := hrel
        obtain ⟨⟨c0, c1, c2, c3, c4, c5, c6, c7⟩, g0, g1, g2, g3, g4⟩ := Q.out.cells
        have nb : 0 ≤ n ∧ n ≤ 2932897 := by have := I.out.n0; have := I.out.n1; have := LN.out; omega
        have ub : 0 ≤ u ∧ u ≤ 253402300800 := by have := upTo_le x (n := n) LN.out.1 LN.out.2.2.1; have := I.out.hu; omega
        have wn : IntKind.i64.wrap (n * 86400) = n * 86400 := by rw [IntKind.wrap_i64]; omega
        have MS := Lib.hid (dayAt_is g0)
        by_cases hle : n * 86400 ≤ hi
        · have t1 : decide (n * 86400 ≤ hi) = true := decide_eq_true hle
          have ln := LN.out
          have hn1 : n ≤ 2932896 := by omega
          obtain ⟨m, d, k, rfl, rfl, rfl, q⟩ := Q.out.ed I.out.v nb.1 hn1
          have Q := Lib.hid q
          have NL := Lib.hid (show 0 ≤ n ∧ n ≤ 2932896 ∧ 86400 * n ≤ hi by omega)
          have UP := Lib.hid (fun B W (q : ED w A B x n y m d k W) => q.step)
          have UB := Lib.hid ub
          clear q hle hn1 ln nb ub
          cases hon : x.onB n with
          | false =>
            have NX := Lib.hid (upTo_no (x := x) LN.out.2.1 I.out.n0 NL.out.2.2 (onB_no.1 hon))
            have MT := Lib.hid (fun W (q : ED w A B x n y m d k W) => q.mt HX.out false hon)
            clear hon
            go_wp2_with fail
            refine (MT.out _ Q.out).mono ?_
            rintro e' w3 ⟨rfl, q⟩
            obtain ⟨⟨c0, c1, c2, c3, c4, c5, c6, c7⟩, g0, g1, g2, g3, g4⟩ := q.cells
            obtain ⟨B', hB'⟩ : ∃ B', w3.heap.size = B' := ⟨_, rfl⟩
            have q := q.copy
            rw [hB'] at q
            have Q := Lib.hid q
            clear q
            go_wp2_with fail
            refine (UP.out _ _ Q.out).mono ?_
            rintro e' w4 ⟨y', m', d', k', rfl, v', q⟩
            obtain ⟨⟨c0, c1, c2, c3, c4, c5, c6, c7⟩, g0, g1, g2, g3, g4⟩ := q.cells
            have fr := fun k => q.dy.free k
            have Q := Lib.hid (q.store (n + 1) y' m' d' k')
            clear q
            go_wp2_with fail
            go_roundw
            case rel => exact ⟨B', n + 1, y', m', d', k', u, rfl, rfl, Lib.hid ⟨by have := I.out.n0; omega, by have := NL.out; omega, v'.out, by rw [I.out.hu, NX.out]⟩, Q⟩
            case measure =>
              rw [MS.out, dayAt_is (Q.out.cells).2.1]
              have := NL.out
              omega
          | true =>
            obtain ⟨p, hp⟩ : ∃ p : Nat, (p : Int) = max 0 (lo - 86400 * n) := ⟨(max 0 (lo - 86400 * n)).toNat, by omega⟩
            obtain ⟨q0, hq⟩ : ∃ q : Nat, (q : Int) = min 86400 (hi + 1 - 86400 * n) := ⟨(min 86400 (hi + 1 - 86400 * n)).toNat, by have := NL.out; omega⟩
            have NX := Lib.hid (upTo_yes (x := x) LN.out.2.1 I.out.n0 NL.out.2.2 hp hq (onB_iff.1 hon))
            have MT := Lib.hid (fun W (q : ED w A B x n y m d k W) => q.mt HX.out true hon)
            have PQ := Lib.hid (show (p : Int) = max 0 (lo - 86400 * n) ∧ (q0 : Int) = min 86400 (hi + 1 - 86400 * n) ∧ p < 86400 ∧ q0 ≤ 86400 ∧ p ≤ q0 by have := LN.out; have := I.out.n0; have := NL.out; omega)
            have w8 : IntKind.i64.wrap (u + S) = u + S := by have := UB.out; have := SB.out; rw [IntKind.wrap_i64]; omega
            clear hon hp hq
            go_wp2_with fail
            refine (MT.out _ Q.out).mono ?_
            rintro e' w3 ⟨rfl, q⟩
            obtain ⟨⟨c0, c1, c2, c3, c4, c5, c6, c7⟩, g0, g1, g2, g3, g4⟩ := q.cells
            have Q := Lib.hid q
            clear q
            go_wp2_with fail
            go_loopw [14, 17] (fun sv iv wr => ∃ (s : Nat) (v : Int), s ≤ p ∧ iv = .int .i64 s ∧ sv = .int .i64 v ∧ Hid (v = u + S - (cntN x.ck 0 s : Int)) ∧ Hid (ED w A B x n y m d k wr)) (fun _ iv _ => 86401 - (intOf iv).toNat)
            case atStart => exact ⟨0, u + S, by omega, rfl, rfl, Lib.hid (by simp [cntN]), Q⟩
            case round =>
              obtain ⟨s, v, hs, rfl, rfl, HV, Q⟩ := hrel
              obtain ⟨⟨c0, c1, c2, c3, c4, c5, c6, c7⟩, g0, g1, g2, g3, g4⟩ := Q.out.cells
              have pq := PQ.out
              have nl := NL.out
              have cb := cnt_le x.ck 0 s
              have hv := HV.out
              have ub := UB.out
              have sb := SB.out
              have w9 : IntKind.i64.wrap (n * 86400 + (s : Int)) = n * 86400 + (s : Int) := by rw [IntKind.wrap_i64]; omega
              have wa : IntKind.i64.wrap ((s : Int) + 1) = (s : Int) + 1 := by rw [IntKind.wrap_i64]; omega
              have wb : IntKind.i64.wrap (v - 1) = v - 1 := by rw [IntKind.wrap_i64]; omega
              by_cases hlt : n * 86400 + (s : Int) < lo
              · have t2 : decide (n * 86400 + (s : Int) < lo) = true := decide_eq_true hlt
                have sp : s < p := by omega
                have s8 : s < 86400 := by omega
                cases hck : Mat.clk x.a2 x.a1 x.a0 s with
                | true =>
                  have NV : Hid (v - 1 = u + S - (cntN x.ck 0 (s + 1) : Int)) := Lib.hid (by rw [cnt_yes (by rw [Int.zero_add]; exact ck_of (by omega) (by omega) hck)]; omega)
                  have CL := Lib.hid (fun W (q : ED w A B x n y m d k W) => q.clock HX.out s true (by omega) (by omega) hck)
                  clear hck pq nl cb hv ub sb hlt
                  go_wp2_with fail
                  refine (CL.out _ Q.out).mono ?_
                  rintro e' w5 ⟨rfl, q⟩
                  have Q := Lib.hid q
                  clear q
                  go_wp2_with fail
                  go_roundw
                  case rel => exact ⟨s + 1, v - 1, by omega, by go_num, rfl, NV, Q⟩
                  case measure => simp [intOf] <;> omega
                | false =>
                  have NV : Hid (v = u + S - (cntN x.ck 0 (s + 1) : Int)) := Lib.hid (by rw [cnt_no (by rw [Int.zero_add]; exact ck_not hck)]; omega)
                  have CL := Lib.hid (fun W (q : ED w A B x n y m d k W) => q.clock HX.out s false (by omega) (by omega) hck)
                  clear hck pq nl cb hv ub sb hlt
                  go_wp2_with fail
                  refine (CL.out _ Q.out).mono ?_
                  rintro e' w5 ⟨rfl, q⟩
                  have Q := Lib.hid q
                  clear q
                  go_wp2_with fail
                  go_roundw
                  case rel => exact ⟨s + 1, v, by omega, by go_num, rfl, NV, Q⟩
                  case measure => simp [intOf] <;> omega
              · have t2 : decide (n * 86400 + (s : Int) < lo) = false := decide_eq_false hlt
                have sp : s = p := by omega
                have V1 : Hid (v = u + S - (cntN x.ck 0 p : Int) ∧ -100000 ≤ v ∧ v ≤ 253402400000) := Lib.hid (by rw [← sp]; omega)
                clear pq nl cb hv ub sb hlt sp hs wa wb HV
                go_wp2_with fail
                go_loopw [14, 18] (fun sv iv wr => ∃ (j : Nat) (v' : Int), j + q0 ≤ 86400 ∧ iv = .int .i64 (86399 - (j : Int)) ∧ sv = .int .i64 v' ∧ Hid (v' = v - (cntN x.ck ((86400 - j : Nat) : Int) j : Int)) ∧ Hid (ED w A B x n y m d k wr)) (fun _ iv _ => ((intOf iv) + 1).toNat)
                case atStart => exact ⟨0, v, by have := PQ.out; omega, rfl, rfl, Lib.hid (by simp [cntN]), Q⟩
                case round =>
                  obtain ⟨j, v', hj, rfl, rfl, HV, Q⟩ := hrel
                  obtain ⟨⟨c0, c1, c2, c3, c4, c5, c6, c7⟩, g0, g1, g2, g3, g4⟩ := Q.out.cells
                  have pq := PQ.out
                  have nl := NL.out
                  have cb := cnt_le x.ck ((86400 - j : Nat) : Int) j
                  have hv := HV.out
                  have v1 := V1.out
                  obtain ⟨r, hr⟩ : ∃ r : Int, 86399 - (j : Int) = r := ⟨_, rfl⟩
                  have w9 : IntKind.i64.wrap (n * 86400 + r) = n * 86400 + r := by rw [IntKind.wrap_i64]; omega
                  have wa : IntKind.i64.wrap (r - 1) = r - 1 := by rw [IntKind.wrap_i64]; omega
                  have wb : IntKind.i64.wrap (v' - 1) = v' - 1 := by rw [IntKind.wrap_i64]; omega
                  rw [hr]
                  by_cases hlt : hi < n * 86400 + r
                  · have t2 : decide (hi < n * 86400 + r) = true := decide_eq_true hlt
                    have sp : j + 1 + q0 ≤ 86400 := by omega
                    have er : ((86400 - (j + 1) : Nat) : Int) = r := by omega
                    have RB := Lib.hid (show 0 ≤ r ∧ r < 86400 ∧ 86399 - ((j + 1 : Nat) : Int) = r - 1 by omega)
                    have er2 : r + 1 = ((86400 - j : Nat) : Int) := by omega
                    cases hck : Mat.clk x.a2 x.a1 x.a0 r with
                    | true =>
                      have NV : Hid (v' - 1 = v - (cntN x.ck ((86400 - (j + 1) : Nat) : Int) (j + 1) : Int)) := Lib.hid (by rw [er, cnt_head_yes (ck_of RB.out.1 RB.out.2.1 hck) er2]; omega)
                      have CL := Lib.hid (fun W (q : ED w A B x n y m d k W) => q.clock HX.out r true RB.out.1 RB.out.2.1 hck)
                      clear hck pq nl cb hv v1 hlt er er2 hr
                      go_wp2_with fail
                      refine (CL.out _ Q.out).mono ?_
                      rintro e' w5 ⟨rfl, q⟩
                      have Q := Lib.hid q
                      clear q
                      go_wp2_with fail
                      go_roundw
                      case rel => exact ⟨j + 1, v' - 1, sp, by rw [RB.out.2.2], rfl, NV, Q⟩
                      case measure => have := RB.out; simp [intOf] <;> omega
                    | false =>
                      have NV : Hid (v' = v - (cntN x.ck ((86400 - (j + 1) : Nat) : Int) (j + 1) : Int)) := Lib.hid (by rw [er, cnt_head_no (ck_not hck) er2]; omega)
                      have CL := Lib.hid (fun W (q : ED w A B x n y m d k W) => q.clock HX.out r false RB.out.1 RB.out.2.1 hck)
                      clear hck pq nl cb hv v1 hlt er er2 hr
                      go_wp2_with fail
                      refine (CL.out _ Q.out).mono ?_
                      rintro e' w5 ⟨rfl, q⟩
                      have Q := Lib.hid q
                      clear q
                      go_wp2_with fail
                      go_roundw
                      case rel => exact ⟨j + 1, v', sp, by rw [RB.out.2.2], rfl, NV, Q⟩
                      case measure => have := RB.out; simp [intOf] <;> omega
                  · have t2 : decide (hi < n * 86400 + r) = false := decide_eq_false hlt
                    have sp : j = 86400 - q0 := by omega
                    have V2 : Hid (v' = (upTo x lo hi (n + 1) : Int)) := Lib.hid (by
                      have a1 := NX.out
                      have a2 := CD.out
                      have a3 := SS.out
                      have a4 := I.out.hu
                      have e1 : 86400 - j = q0 := by omega
                      rw [e1, sp] at hv
                      omega)
                    clear pq nl cb hv v1 hlt sp hj wa wb HV hr
                    obtain ⟨B', hB'⟩ : ∃ B', wr.heap.size = B' := ⟨_, rfl⟩
                    have q := Q.out.copy
                    rw [hB'] at q
                    have Q := Lib.hid q
                    clear q
                    go_wp2_with fail
                    refine (UP.out _ _ Q.out).mono ?_
                    rintro e' w6 ⟨y', m', d', k', rfl, v'', q⟩
                    obtain ⟨⟨c0, c1, c2, c3, c4, c5, c6, c7⟩, g0, g1, g2, g3, g4⟩ := q.cells
                    have fr := fun k => q.dy.free k
                    have Q := Lib.hid (q.store (n + 1) y' m' d' k')
                    clear q
                    go_wp2_with fail
                    go_roundw
                    case rel => exact ⟨B', n + 1, y', m', d', k', v', rfl, rfl, Lib.hid ⟨by have := I.out.n0; omega, by have := NL.out; omega, v''.out, V2.out⟩, Q⟩
                    case measure =>
                      rw [MS.out, dayAt_is (Q.out.cells).2.1]
                      have := NL.out
                      omega
        · have t1 : decide (n * 86400 ≤ hi) = false := decide_eq_false hle
          have RN : Hid (u = (TOT : Int)) := Lib.hid (by rw [I.out.hu, DO.out, upTo_last x (by omega)])
          clear hle nb ub
          go_wp2_with fail
          go_ret2
          exact ⟨by rw [RN.out]; rfl, Q.out.below⟩
  · rw [if_neg h]
    obtain ⟨E, hE⟩ : ∃ E, errC x z [a, b] = E := ⟨_, rfl⟩
    rw [hE] at h CK ⊢
    have t1 : (E != 0) = true := by rw [bne_iff_ne]; exact h
    clear h hE hx
    go_enter Tryd.func31, Tryd.ntmps31
    go_wp2_with fail
    refine (CK.out _ RW.out).mono ?_
    rintro e V ⟨rfl, hb⟩
    have Q := Lib.hid (BC.one LL.out hb)
    clear hb
    go_wp2_with fail
    go_ret2
    exact ⟨rfl, Q.out.be⟩
end Go.Proofs.YtbehendogcghjaaDoor
