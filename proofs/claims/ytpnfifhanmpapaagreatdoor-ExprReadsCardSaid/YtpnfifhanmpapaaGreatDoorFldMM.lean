/- The document's Parse. -/
import Derived.Test.YtpnfifhanmpapaaGreatDoorFldLL
import Derived.Deep.RegionHeld3
namespace Go.Proofs.YtpnfifhanmpapaaGreatDoor
open Go.ChangeShapes Go.WideShapes Go.RowKit Go.Shelf

/-- the world in Parse: the kind in a block of the call's own, the items at g -/
structure PB (w W : World) (K : Fld.Kd) (v : Value) (xs : List ByteArray) (g : Nat) (ds : List DI) : Prop where
  ib : IB w W K v xs
  lt : g < W.heap.size
  cell : ∀ (j : Nat) u, (flatI ds)[j]? = some u → W.cell? ⟨g, j, none⟩ = some u
theorem PB.next {w W W' : World} {K : Fld.Kd} {v : Value} {xs : List ByteArray} {g : Nat} {ds : List DI} (h : PB w W K v xs g ds) (hb : Below W.heap.size W W') : PB w W' K v xs g ds :=
  ⟨h.ib.next hb, Nat.lt_of_lt_of_le h.lt hb.size, fun j u hu => (hb.cell (p := ⟨g, j, none⟩) h.lt).trans (h.cell j u hu)⟩
theorem PB.drew {w W : World} {K : Fld.Kd} {v : Value} {xs : List ByteArray} {g : Nat} {ds : List DI} (h : PB w W K v xs g ds) : PB w W.drew K v xs g ds := h.next ((Below.refl _ W).drew)
/-- the cells of one item, and of the kind -/
def Cs (W : World) (B : Nat) (K : Fld.Kd) (v : Value) (g k : Nat) (d : DI) : Prop :=
  W.cell? ⟨B, 0, none⟩ = some (.int .i64 K.lo) ∧ W.cell? ⟨B, 1, none⟩ = some (.int .i64 K.hi) ∧ W.cell? ⟨B, 2, none⟩ = some v ∧ W.cell? ⟨B, 3, none⟩ = some (.bool K.week) ∧
  W.cell? ⟨g, k * 7, none⟩ = some (.bool d.star) ∧ W.cell? ⟨g, k * 7 + 1, none⟩ = some (.int .i64 d.a) ∧ W.cell? ⟨g, k * 7 + 2, none⟩ = some (.int .i64 d.b) ∧ W.cell? ⟨g, k * 7 + 3, none⟩ = some (.int .i64 d.c) ∧ W.cell? ⟨g, k * 7 + 4, none⟩ = some (.int .i64 d.p) ∧ W.cell? ⟨g, k * 7 + 5, none⟩ = some (.int .i64 d.q) ∧ W.cell? ⟨g, k * 7 + 6, none⟩ = some (.int .i64 d.r)
theorem PB.cs {w W : World} {K : Fld.Kd} {v : Value} {xs : List ByteArray} {g : Nat} {ds : List DI} (h : PB w W K v xs g ds) (k : Nat) (hk : k < ds.length) (d : DI) (hd : ds[k] = d) : Cs W w.heap.size K v g k d := by
  subst hd
  obtain ⟨k0, k1, k2, k3⟩ := h.ib.kc
  have c : ∀ j u, j < 7 → ds[k].cells[j]? = some u → W.cell? ⟨g, k * 7 + j, none⟩ = some u := fun j u hj hu => h.cell _ _ ((flatI_at ds k hk j hj).trans hu)
  exact ⟨k0, k1, k2, k3, c 0 _ (by decide) rfl, c 1 _ (by decide) rfl, c 2 _ (by decide) rfl, c 3 _ (by decide) rfl, c 4 _ (by decide) rfl, c 5 _ (by decide) rfl, c 6 _ (by decide) rfl⟩
theorem wrong_ctx {w W : World} {K : Fld.Kd} {A : Option Addr} {n c : Nat} {xs : List ByteArray} {g : Nat} {ds : List DI} (h : PB w W K (.slice A n c) xs g ds) (d : DI) (r : Int) (hr : WrongRoad K d r) :
    Calls Tryz.prog 78 #[.agg #[.int .i64 K.lo, .int .i64 K.hi, .slice A n c, .bool K.week], .agg #[.bool d.star, .int .i64 d.a, .int .i64 d.b, .int .i64 d.c, .int .i64 d.p, .int .i64 d.q, .int .i64 d.r]] W fun e W' => e = .returned (.int .i64 r) ∧ PB w W' K (.slice A n c) xs g ds :=
  (wrongR_any K (.slice A n c) d r W ⟨A, n, c, rfl⟩ hr).mono fun _ _ ⟨h1, h2⟩ => ⟨h1, h.next h2⟩
theorem numbers_ctx {w W : World} {K : Fld.Kd} {A : Option Addr} {n c : Nat} {xs : List ByteArray} {g : Nat} {ds : List DI} (h : PB w W K (.slice A n c) xs g ds) (O : K.Ok) (d : DI) (x : Fld.It) (hr : RI K x d) (hw : Fld.wrong K x = none) (ht : x.t ≤ 99) (m : Nat) (hm : Fld.setOf K x = m) :
    Calls Tryz.prog 79 #[.agg #[.int .i64 K.lo, .int .i64 K.hi, .slice A n c, .bool K.week], .agg #[.bool d.star, .int .i64 d.a, .int .i64 d.b, .int .i64 d.c, .int .i64 d.p, .int .i64 d.q, .int .i64 d.r]] W fun e W' => e = .returned (.int .u64 m) ∧ PB w W' K (.slice A n c) xs g ds := by
  obtain ⟨_, h2, h3, h4⟩ := Fld.wrong_none.1 hw
  have l1 := Fld.has_lt O h2
  have l2 := O.le
  have l3 := O.hi
  subst hm
  exact (numbersR_any K (.slice A n c) d x.f x.s x.t W ⟨A, n, c, rfl⟩ (num_road hr h4) h3 (by omega) h4 ht (by omega) (by omega)).mono fun _ _ ⟨h5, h6⟩ => ⟨h5, h.next h6⟩
theorem parseR_no (lo hi : Int) (v : Value) (xs : List ByteArray) (wk : Bool) (s : ByteArray) (w : World) (hv : IsStrs w v xs) (h : ¬ Valid lo hi xs wk) (hs : ∀ x ∈ xs, x.size ≤ 9223372036854775807) :
    Calls Tryz.prog 44 #[.agg #[.int .i64 lo, .int .i64 hi, v, .bool wk], .string s] w fun e w' => e = .returned (.tuple #[.int .u64 0, .bool false, .int .i64 0, .int .i64 2]) ∧ Below w.heap.size w w' := by
  have X := Lib.hid (KBox.new w lo hi v xs wk 95 hv)
  have C := Lib.hid (checkR_no lo hi v xs wk _ X.out.strs h hs)
  obtain ⟨A, cap, rfl, _, _⟩ := hv
  clear h
  go_enter Tryz.func44, Tryz.ntmps44
  go_wp2_with fail
  refine C.out.mono ?_
  rintro e w1 ⟨rfl, hb⟩
  have X := Lib.hid (X.out.next hb)
  clear hb
  go_wp2_with fail
  refine bodyPost_ret (results_four rfl _ _ _) rfl ?_
  exact ⟨rfl, X.out.below⟩
theorem ret_four {a a' : Int} {b b' : Bool} {c c' d d' : Int} (h1 : a = a') (h2 : b = b') (h3 : c = c') (h4 : d = d') : Ending.returned (.tuple #[.int .u64 a, .bool b, .int .i64 c, .int .i64 d]) = .returned (.tuple #[.int .u64 a', .bool b', .int .i64 c', .int .i64 d']) := by rw [h1, h2, h3, h4]
/-- what Parse returns, spelled out -/
def ParseOut (P : Nat × Bool × Nat × Nat) (w : World) (e : Ending) (w' : World) : Prop := e = .returned (.tuple #[.int .u64 (P.1 : Nat), .bool P.2.1, .int .i64 (P.2.2.1 : Nat), .int .i64 (P.2.2.2 : Nat)]) ∧ Below w.heap.size w w'
set_option maxRecDepth 100000 in
set_option maxHeartbeats 4000000 in
theorem parseR_yes (K : Fld.Kd) (v : Value) (xs : List ByteArray) (s : ByteArray) (w : World) (hv : IsStrs w v xs) (hk : KdIs K.lo K.hi xs K.week K) (hs : s.size ≤ 1000) :
    Calls Tryz.prog 44 #[.agg #[.int .i64 K.lo, .int .i64 K.hi, v, .bool K.week], .string s] w (ParseOut (Fld.parse K s.data.toList) w) := by
  have X := Lib.hid (IB.new w K v xs hv)
  have C := Lib.hid (checkR_yes K.lo K.hi v xs K.week _ X.out.strs hk.valid)
  have IT := Lib.hid (fun w hv => itemsR_any K v xs s w hv hk hs)
  have OK := Lib.hid hk.ok
  obtain ⟨P, hP⟩ : ∃ P, Fld.parse K s.data.toList = P := ⟨_, rfl⟩
  rw [hP]
  have HP := Lib.hid hP
  obtain ⟨A, cap, rfl, _, _⟩ := hv
  clear hk hP
  go_enter Tryz.func44, Tryz.ntmps44
  go_wp2_with fail
  refine C.out.mono ?_
  rintro e w1 ⟨rfl, hb⟩
  have X := Lib.hid (X.out.next hb)
  obtain ⟨c0, c1, c2, c3⟩ := X.out.kc
  clear hb
  go_wp2_with fail
  refine (IT.out _ X.out.strs).mono ?_
  intro e w2 ho
  obtain ⟨v2, q, ok, rfl, hr, hb⟩ := ho
  have X := Lib.hid (X.out.next hb)
  clear hb c0 c1 c2 c3 C IT
  rcases hr with ⟨h1, h2, rfl, rfl⟩ | ⟨h1, rfl, rfl, ds, RS, hd, BD, g, c2, rfl, hg, hc⟩
  · have E := Lib.hid (HP.out.symm.trans (parse_form h1))
    clear h1 HP
    go_wp2_with fail
    refine bodyPost_ret (results_four rfl _ _ _) rfl ?_
    rw [E.out]
    exact ⟨rfl, X.out.below⟩
  · obtain ⟨ys, hys⟩ : ∃ ys, (Fld.scan K s.data.toList 0).1 = ys := ⟨_, rfl⟩
    have PA := Lib.hid (fun q hb => HP.out.symm.trans (parse_arg (q := q) h1 hb))
    have PO := Lib.hid (fun hb => HP.out.symm.trans (parse_ok h1 hb))
    rw [hys] at RS BD PA PO
    have hlen := RS.1
    have HR := Lib.hid RS.2
    have HB := Lib.hid BD
    have Y : Hid (PB w w2 K (.slice A xs.length cap) xs g ds) := Lib.hid ⟨X.out, hg, hc⟩
    clear hys h1 HP RS BD X hc
    go_wp2_with fail
    go_loopw [11, 12] (fun o i wr => ∃ k n : Nat, o = .int .u64 n ∧ i = .int .i64 k ∧ k ≤ ds.length ∧ n < 2 ^ 64 ∧ Hid (Fld.bad K (ys.take k) = none) ∧ Hid (Fld.total K (ys.take k) = n) ∧ Hid (PB w wr K (.slice A xs.length cap) xs g ds)) (fun _ i _ => ds.length - (intOf i).toNat)
    case atStart => exact ⟨0, 0, rfl, rfl, Nat.zero_le _, by decide, Lib.hid rfl, Lib.hid rfl, Y⟩
    case round =>
      obtain ⟨k, n, rfl, rfl, hk, hn, NB, NT, Y⟩ := hrel
      by_cases hlt : k < ds.length
      · have l1 : decide ((k : Int) < (ds.length : Int)) = true := by rw [decide_eq_true_iff]; omega
        have l1n : decide (k < ds.length) = true := by rw [decide_eq_true_iff]; omega
        have i0 : (0 : Int) ≤ (k : Int) := by omega
        have i1 : (k : Int) < (ds.length : Int) := by omega
        have hky : k < ys.length := by omega
        have HRI := Lib.hid (HR.out k hky hlt)
        have HBD := Lib.hid (HB.out _ (List.getElem_mem hky))
        obtain ⟨d, hd⟩ : ∃ d, ds[k] = d := ⟨_, rfl⟩
        obtain ⟨x, hx⟩ : ∃ x, ys[k] = x := ⟨_, rfl⟩
        rw [hd, hx] at HRI
        rw [hx] at HBD
        have HX := Lib.hid hx
        have CS := Lib.hid (fun W (h : PB w W K (.slice A xs.length cap) xs g ds) => h.cs k hlt d hd)
        have WR := Lib.hid (wrong_road OK.out HRI.out)
        obtain ⟨c0, c1, c2', c3, d0, d1, d2, d3, d4, d5, d6⟩ := CS.out _ Y.out
        clear hd hx
        cases hw : Fld.wrong K x with
        | some q =>
          have E := Lib.hid (PA.out q (bad_here NB.out hky (by rw [HX.out]; exact hw)))
          rw [hw] at WR
          have WR : Hid (WrongRoad K d (q : Nat)) := Lib.hid WR.out
          have t1 : decide ((0 : Int) ≤ (q : Int)) = true := by rw [decide_eq_true_iff]; omega
          clear hw
          go_wp2_with fail
          go_region_held3 (fun w' => w'.cell? ⟨w.heap.size, 0, none⟩ = some (.int .i64 K.lo) ∧ w'.cell? ⟨w.heap.size, 1, none⟩ = some (.int .i64 K.hi) ∧ w'.cell? ⟨w.heap.size, 2, none⟩ = some (.slice A xs.length cap) ∧ w'.cell? ⟨w.heap.size, 3, none⟩ = some (.bool K.week) ∧ w'.cell? ⟨g, k * 7, none⟩ = some (.bool d.star) ∧ w'.cell? ⟨g, k * 7 + 1, none⟩ = some (.int .i64 d.a) ∧ w'.cell? ⟨g, k * 7 + 2, none⟩ = some (.int .i64 d.b) ∧ w'.cell? ⟨g, k * 7 + 3, none⟩ = some (.int .i64 d.c) ∧ w'.cell? ⟨g, k * 7 + 4, none⟩ = some (.int .i64 d.p) ∧ w'.cell? ⟨g, k * 7 + 5, none⟩ = some (.int .i64 d.q) ∧ w'.cell? ⟨g, k * 7 + 6, none⟩ = some (.int .i64 d.r)) (go_keep)
            (first | (go_at_call 78; refine (wrong_ctx (by first | exact Y.out | exact Y.out.drew) d _ WR.out).mono ?_; rintro e w8 ⟨rfl, y2⟩; have Y := Lib.hid y2; obtain ⟨c0, c1, c2', c3, d0, d1, d2, d3, d4, d5, d6⟩ := CS.out _ y2; clear y2))
          go_wp2_with fail
          refine bodyPost_ret (results_four rfl _ _ _) rfl ?_
          rw [E.out]
          exact ⟨rfl, Y.out.ib.below⟩
        | none =>
          have NB2 := Lib.hid (bad_on NB.out hky (by rw [HX.out]; exact hw))
          have NT2 := Lib.hid (total_on (K := K) hky)
          rw [HX.out, NT.out] at NT2
          have hlt64 := total_lt' OK.out NB2.out
          obtain ⟨m, hm⟩ : ∃ m, Fld.setOf K x = m := ⟨_, rfl⟩
          rw [hm] at NT2
          have hm64 : m < 2 ^ 64 := by rw [← hm]; exact itSet_lt OK.out hw
          have HM := Lib.hid hm
          have HW := Lib.hid hw
          have or1 : bits .or .u64 (n : Int) (m : Int) = ((n ||| m : Nat) : Int) := u64_or_nat n m hn hm64
          have hor : n ||| m < 2 ^ 64 := by rw [← NT2.out]; exact hlt64
          obtain ⟨r, hr⟩ : ∃ r, n ||| m = r := ⟨_, rfl⟩
          rw [hr] at or1 hor NT2
          rw [hw] at WR
          have WR : Hid (WrongRoad K d (-1)) := Lib.hid WR.out
          clear hw hm hr hlt64
          go_wp2_with fail
          go_region_held3 (fun w' => w'.cell? ⟨w.heap.size, 0, none⟩ = some (.int .i64 K.lo) ∧ w'.cell? ⟨w.heap.size, 1, none⟩ = some (.int .i64 K.hi) ∧ w'.cell? ⟨w.heap.size, 2, none⟩ = some (.slice A xs.length cap) ∧ w'.cell? ⟨w.heap.size, 3, none⟩ = some (.bool K.week) ∧ w'.cell? ⟨g, k * 7, none⟩ = some (.bool d.star) ∧ w'.cell? ⟨g, k * 7 + 1, none⟩ = some (.int .i64 d.a) ∧ w'.cell? ⟨g, k * 7 + 2, none⟩ = some (.int .i64 d.b) ∧ w'.cell? ⟨g, k * 7 + 3, none⟩ = some (.int .i64 d.c) ∧ w'.cell? ⟨g, k * 7 + 4, none⟩ = some (.int .i64 d.p) ∧ w'.cell? ⟨g, k * 7 + 5, none⟩ = some (.int .i64 d.q) ∧ w'.cell? ⟨g, k * 7 + 6, none⟩ = some (.int .i64 d.r)) (go_keep)
            (first | (go_at_call 78; refine (wrong_ctx (by first | exact Y.out | exact Y.out.drew) d _ WR.out).mono ?_; rintro e w8 ⟨rfl, y2⟩; have Y := Lib.hid y2; obtain ⟨c0, c1, c2', c3, d0, d1, d2, d3, d4, d5, d6⟩ := CS.out _ y2; clear y2))
          go_wp2_with fail
          go_region_held3 (fun w' => w'.cell? ⟨w.heap.size, 0, none⟩ = some (.int .i64 K.lo) ∧ w'.cell? ⟨w.heap.size, 1, none⟩ = some (.int .i64 K.hi) ∧ w'.cell? ⟨w.heap.size, 2, none⟩ = some (.slice A xs.length cap) ∧ w'.cell? ⟨w.heap.size, 3, none⟩ = some (.bool K.week) ∧ w'.cell? ⟨g, k * 7, none⟩ = some (.bool d.star) ∧ w'.cell? ⟨g, k * 7 + 1, none⟩ = some (.int .i64 d.a) ∧ w'.cell? ⟨g, k * 7 + 2, none⟩ = some (.int .i64 d.b) ∧ w'.cell? ⟨g, k * 7 + 3, none⟩ = some (.int .i64 d.c) ∧ w'.cell? ⟨g, k * 7 + 4, none⟩ = some (.int .i64 d.p) ∧ w'.cell? ⟨g, k * 7 + 5, none⟩ = some (.int .i64 d.q) ∧ w'.cell? ⟨g, k * 7 + 6, none⟩ = some (.int .i64 d.r)) (go_keep)
            (first | (go_at_call 79; refine (numbers_ctx (by first | exact Y.out | exact Y.out.drew) OK.out d x HRI.out HW.out HBD.out.1 m HM.out).mono ?_; rintro e w8 ⟨rfl, y2⟩; have Y := Lib.hid y2; obtain ⟨c0, c1, c2', c3, d0, d1, d2, d3, d4, d5, d6⟩ := CS.out _ y2; clear y2))
          go_wp2_with fail
          go_roundw
          case rel => exact ⟨k + 1, r, rfl, by go_num, by omega, hor, NB2, NT2, Y⟩
          case measure => simp [intOf]; omega
      · obtain rfl : k = ds.length := by omega
        have l1 : decide ((ds.length : Int) < (ds.length : Int)) = false := by rw [decide_eq_false_iff_not]; omega
        have l1n : decide (ds.length < ds.length) = false := by rw [decide_eq_false_iff_not]; omega
        have nb := NB.out
        have nt := NT.out
        rw [List.take_of_length_le (by omega)] at nb nt
        have E := PO.out nb
        rw [nt] at E
        obtain ⟨b, hb⟩ : ∃ b, (s.data.toList == [42]) = b := ⟨_, rfl⟩
        rw [hb] at E
        obtain ⟨st1, st2⟩ := is_star s b hb
        have E := Lib.hid E
        clear hb nb nt
        go_wp2_with fail
        refine bodyPost_ret (results_four rfl _ _ _) rfl ?_
        rw [E.out]
        exact ⟨rfl, Y.out.ib.below⟩
end Go.Proofs.YtpnfifhanmpapaaGreatDoor
