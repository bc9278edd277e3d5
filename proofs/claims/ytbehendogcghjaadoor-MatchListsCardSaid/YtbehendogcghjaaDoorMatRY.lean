/- Contracts of the document's program of chapter match: Day, Is. Contracts of the document's program of chapter match: Is. Contracts of the document's program of chapter match: Ever. Contracts of the document's program of chapter match: Ever. -/
import Derived.Test.YtbehendogcghjaaDoorMatRX
import Derived.Test.YtbehendogcghjaaDoorMatRZ
/- Contracts of the document's program of chapter match: Day, Is. -/
namespace Go.Proofs.YtbehendogcghjaaDoor
open Go.ChangeShapes Go.RowKit Go.Shelf

theorem day_ex (x : Exp.Ex) (n : Int) (h0 : 0 ≤ n) (h1 : n ≤ 2932896) : ∃ (y : Int) (m d k : Nat), Civ.Vld y m d ∧ Civ.num y m d = n ∧ (n + 4) % 7 = k ∧ Mat.mt x.a4 x.a3 x.a5 x.b3 x.b5 m d k = x.onB n := by
  obtain ⟨y, m, d, v, rfl⟩ := Civ.date_ex n h0 h1
  obtain ⟨m, rfl⟩ := Int.eq_ofNat_of_zero_le (show 0 ≤ m by have := v.2.2.1; omega)
  obtain ⟨d, rfl⟩ := Int.eq_ofNat_of_zero_le (show 0 ≤ d by have := v.2.2.2.2.1; omega)
  obtain ⟨k, hk⟩ := Int.eq_ofNat_of_zero_le (show 0 ≤ (Civ.num y m d + 4) % 7 by omega)
  refine ⟨y, m, d, k, v, rfl, hk, ?_⟩
  apply Bool.eq_iff_iff.2
  rw [onB_iff]
  unfold Exp.Ex.On
  rw [Mat.on_iff v, hk]
  exact Iff.rfl
set_option maxRecDepth 100000 in
set_option maxHeartbeats 4000000 in
theorem rday_any (x : Exp.Ex) (hx : x.Bd) (z t : Int) (w : World) (L : LayM w) :
    Calls Tryd.prog 16 #[.agg #[.int .u64 x.a0, .int .u64 x.a1, .int .u64 x.a2, .int .u64 x.a3, .int .u64 x.a4, .int .u64 x.a5, .bool x.b3, .bool x.b5], .int .i64 z, .int .i64 t] w fun e W' => e = .returned (.tuple #[.bool (dayO x z t), .int .i64 (errC x z [t])]) ∧ Below w.heap.size w W' := by
  have CK := Lib.hid (fun w0 R => rcheck_any x hx z (w.heap.size + 1) [t] (by simp) w0 R)
  have RW := Lib.hid (one_row x t w)
  have LL := Lib.hid L
  by_cases h : errC x z [t] = 0
  · obtain ⟨hk, hz, ht⟩ := errC_one h
    have DO : Hid (dayO x z t = (inT (t + 60 * z) && x.onB ((t + 60 * z) / 86400))) := Lib.hid (by unfold dayO; rw [if_pos h])
    have w1 : IntKind.i64.wrap (z * 60) = z * 60 := by rw [IntKind.wrap_i64]; omega
    obtain ⟨u, hu⟩ : ∃ u, t + 60 * z = u := ⟨_, rfl⟩
    have w2 : IntKind.i64.wrap (t + z * 60) = u := by rw [IntKind.wrap_i64]; omega
    rw [hu] at DO
    rw [h] at CK ⊢
    by_cases h0 : 0 ≤ u
    · have t0 : decide (0 ≤ u) = true := decide_eq_true h0
      by_cases h1 : u ≤ 253402300799
      · have t1 : decide (u ≤ 253402300799) = true := decide_eq_true h1
        have w3 : IntKind.i64.wrap (u.tdiv 86400) = u / 86400 := by rw [Int.tdiv_eq_ediv_of_nonneg h0, IntKind.wrap_i64]; omega
        have IT : Hid (inT u = true) := Lib.hid (inT_iff.2 ⟨h0, h1⟩)
        obtain ⟨y, m, d, k, v, hn, hkk, hm⟩ := day_ex x (u / 86400) (by omega) (by omega)
        obtain ⟨N, hN⟩ : ∃ N, u / 86400 = N := ⟨_, rfl⟩
        rw [hN] at w3 hn hkk hm DO
        obtain ⟨ob, hob⟩ : ∃ b, x.onB N = b := ⟨_, rfl⟩
        rw [hob] at hm DO
        have DA := Lib.hid (fun w0 : World => rdate_any y m d N w0 v hn)
        rw [hkk] at DA
        have MT := Lib.hid (fun w0 : World => rmatches_any x hx N y m d k w0)
        rw [hm] at MT
        clear h hk hz ht hu L h0 h1 v hn hkk hm hN hob hx
        go_enter Tryd.func16, Tryd.ntmps16
        go_wp2_with (first
          | (go_at_call 36; refine (CK.out _ RW.out).mono ?_; rintro e V ⟨rfl, hb⟩; have Q := Lib.hid (BC.one LL.out hb); obtain ⟨y0, y1, y2, y3, y4, y5, y6, y7⟩ := Q.out.cells; clear hb))
        go_region_held3 (fun w' => w'.cell? ⟨w.heap.size, 0, none⟩ = some (.int .u64 x.a0) ∧ w'.cell? ⟨w.heap.size, 1, none⟩ = some (.int .u64 x.a1) ∧ w'.cell? ⟨w.heap.size, 2, none⟩ = some (.int .u64 x.a2) ∧ w'.cell? ⟨w.heap.size, 3, none⟩ = some (.int .u64 x.a3) ∧ w'.cell? ⟨w.heap.size, 4, none⟩ = some (.int .u64 x.a4) ∧ w'.cell? ⟨w.heap.size, 5, none⟩ = some (.int .u64 x.a5) ∧ w'.cell? ⟨w.heap.size, 6, none⟩ = some (.bool x.b3) ∧ w'.cell? ⟨w.heap.size, 7, none⟩ = some (.bool x.b5)) (go_keep)
          (first
            | (go_at_call 38; refine (DA.out _).mono ?_; rintro e V' ⟨rfl, hb⟩; have Q := Lib.hid (by first | exact Q.out.next hb | exact (Q.out.next (Below.refl _ _).drew).next hb); obtain ⟨y0, y1, y2, y3, y4, y5, y6, y7⟩ := Q.out.cells; clear hb)
            | (go_at_call 37; refine (MT.out _).mono ?_; rintro e V' ⟨rfl, hb⟩; have Q := Lib.hid (by first | exact Q.out.next hb | exact (Q.out.next (Below.refl _ _).drew).next hb); obtain ⟨y0, y1, y2, y3, y4, y5, y6, y7⟩ := Q.out.cells; clear hb))
        go_wp2_with fail
        go_ret2
        exact ⟨by rw [DO.out, IT.out, Bool.true_and]; rfl, by first | exact Q.out.be | exact below_drewN' Q.out.be _⟩
      · have t1 : decide (u ≤ 253402300799) = false := decide_eq_false h1
        have IT : Hid (inT u = false) := Lib.hid (by unfold inT; simp; omega)
        clear h hk hz ht hu L h0 h1 hx
        go_enter Tryd.func16, Tryd.ntmps16
        go_wp2_with (first
          | (go_at_call 36; refine (CK.out _ RW.out).mono ?_; rintro e V ⟨rfl, hb⟩; have Q := Lib.hid (BC.one LL.out hb); clear hb))
        go_quiet (fail)
        go_wp2_with fail
        go_ret2
        exact ⟨by rw [DO.out, IT.out, Bool.false_and]; rfl, below_drewN' Q.out.be _⟩
    · have t0 : decide (0 ≤ u) = false := decide_eq_false h0
      have IT : Hid (inT u = false) := Lib.hid (by unfold inT; simp; omega)
      clear h hk hz ht hu L h0 hx
      go_enter Tryd.func16, Tryd.ntmps16
      go_wp2_with (first
        | (go_at_call 36; refine (CK.out _ RW.out).mono ?_; rintro e V ⟨rfl, hb⟩; have Q := Lib.hid (BC.one LL.out hb); clear hb))
      go_quiet (fail)
      go_wp2_with fail
      go_ret2
      exact ⟨by rw [DO.out, IT.out, Bool.false_and]; rfl, below_drewN' Q.out.be _⟩
  · have DO : Hid (dayO x z t = false) := Lib.hid (by unfold dayO; rw [if_neg h])
    obtain ⟨E, hE⟩ : ∃ E, errC x z [t] = E := ⟨_, rfl⟩
    rw [hE] at h CK ⊢
    have t1 : (E != 0) = true := by rw [bne_iff_ne]; exact h
    clear h hE L hx
    go_enter Tryd.func16, Tryd.ntmps16
    go_wp2_with (first
      | (go_at_call 36; refine (CK.out _ RW.out).mono ?_; rintro e V ⟨rfl, hb⟩; have Q := Lib.hid (BC.one LL.out hb); clear hb))
    go_ret2
    exact ⟨by rw [DO.out]; rfl, Q.out.be⟩
end Go.Proofs.YtbehendogcghjaaDoor
/- Contracts of the document's program of chapter match: Is. -/
namespace Go.Proofs.YtbehendogcghjaaDoor
open Go.ChangeShapes Go.RowKit Go.Shelf

theorem MC.rday {w W : World} {l : List (Nat × Exp.Ex)} (h : MC w l W) (x : Exp.Ex) (hx : x.Bd) (z t : Int) (r : Bool) (e : Int) (hr : dayO x z t = r) (he : errC x z [t] = e) :
    Calls Tryd.prog 16 #[.agg #[.int .u64 x.a0, .int .u64 x.a1, .int .u64 x.a2, .int .u64 x.a3, .int .u64 x.a4, .int .u64 x.a5, .bool x.b3, .bool x.b5], .int .i64 z, .int .i64 t] W fun e' W' => e' = .returned (.tuple #[.bool r, .int .i64 e]) ∧ MC w l W' :=
  (rday_any x hx z t W h.lay).mono fun _ _ ⟨h1, h2⟩ => ⟨by rw [h1, hr, he], h.next h2⟩
set_option maxRecDepth 100000 in
set_option maxHeartbeats 4000000 in
theorem ris_any (x : Exp.Ex) (hx : x.Bd) (z t : Int) (w : World) (L : LayM w) :
    Calls Tryd.prog 18 #[.agg #[.int .u64 x.a0, .int .u64 x.a1, .int .u64 x.a2, .int .u64 x.a3, .int .u64 x.a4, .int .u64 x.a5, .bool x.b3, .bool x.b5], .int .i64 z, .int .i64 t] w fun e W' => e = .returned (.tuple #[.bool (isO x z t), .int .i64 (errC x z [t])]) ∧ Below w.heap.size w W' := by
  have Q := Lib.hid ((MC.start L).box x)
  by_cases h : errC x z [t] = 0
  · obtain ⟨hk, hz, ht⟩ := errC_one h
    cases hd : dayO x z t with
    | false =>
      have DY := Lib.hid (fun l W (q : MC w l W) => q.rday x hx z t false 0 hd h)
      have IO : Hid (isO x z t = false) := Lib.hid (by
        cases q : isO x z t with
        | false => rfl
        | true => rw [day_of_is q] at hd; cases hd)
      rw [h]
      clear h hk hz ht hd L hx
      go_enter Tryd.func18, Tryd.ntmps18
      go_wp2_with fail
      refine (DY.out _ _ Q.out).mono ?_
      rintro e' w1 ⟨rfl, q⟩
      have Q := Lib.hid q
      clear q
      go_wp2_with fail
      go_ret2
      exact ⟨by rw [IO.out]; rfl, Q.out.below⟩
    | true =>
      have DY := Lib.hid (fun l W (q : MC w l W) => q.rday x hx z t true 0 hd h)
      have w1 : IntKind.i64.wrap (z * 60) = z * 60 := by rw [IntKind.wrap_i64]; omega
      obtain ⟨u, hu⟩ : ∃ u, t + 60 * z = u := ⟨_, rfl⟩
      have w2 : IntKind.i64.wrap (t + z * 60) = u := by rw [IntKind.wrap_i64]; omega
      have hd' := hd
      unfold dayO at hd'
      rw [if_pos h, Bool.and_eq_true, hu, onB_iff] at hd'
      have u0 := (inT_iff.1 hd'.1).1
      have w3 : u.tmod 86400 = u % 86400 := Int.tmod_eq_emod_of_nonneg u0
      have CL := Lib.hid (fun w0 : World => rclock_any x hx (u % 86400) w0 (by omega) (by omega))
      have IO : Hid (isO x z t = Mat.clk x.a2 x.a1 x.a0 (u % 86400)) := Lib.hid (by
        apply Bool.eq_iff_iff.2
        rw [isO_iff h, hu, lm_iff]
        unfold Mat.Ck
        exact ⟨fun q => q.2.2.2, fun q => ⟨hd'.2, by omega, by omega, q⟩⟩)
      obtain ⟨b, hb⟩ : ∃ b, Mat.clk x.a2 x.a1 x.a0 (u % 86400) = b := ⟨_, rfl⟩
      rw [hb] at CL IO
      obtain ⟨s, hs⟩ : ∃ s, u % 86400 = s := ⟨_, rfl⟩
      rw [hs] at CL w3
      rw [h]
      clear h hk hz ht hd L hx hd' hu u0 hb hs
      go_enter Tryd.func18, Tryd.ntmps18
      go_wp2_with fail
      refine (DY.out _ _ Q.out).mono ?_
      rintro e' w1 ⟨rfl, q⟩
      obtain ⟨B, hB⟩ : ∃ B, w.heap.size = B := ⟨_, rfl⟩
      rw [hB] at q
      obtain ⟨c0, c1, c2, c3, c4, c5, c6, c7⟩ := q.cells B x (by simp)
      have Q := Lib.hid q
      clear q
      go_wp2_with fail
      refine (CL.out _).mono ?_
      rintro e' w2 ⟨rfl, q⟩
      have Q := Lib.hid (Q.out.next q)
      clear q
      go_wp2_with fail
      go_ret2
      exact ⟨by rw [IO.out]; rfl, Q.out.below⟩
  · obtain ⟨E, hE⟩ : ∃ E, errC x z [t] = E := ⟨_, rfl⟩
    have DY := Lib.hid (fun l W (q : MC w l W) => q.rday x hx z t false E (dayO_no h) hE)
    have IO : Hid (isO x z t = false) := Lib.hid (isO_no h)
    rw [hE] at h ⊢
    have t1 : (E != 0) = true := by rw [bne_iff_ne]; exact h
    clear h hE L hx
    go_enter Tryd.func18, Tryd.ntmps18
    go_wp2_with fail
    refine (DY.out _ _ Q.out).mono ?_
    rintro e' w1 ⟨rfl, q⟩
    have Q := Lib.hid q
    clear q
    go_wp2_with fail
    go_ret2
    exact ⟨by rw [IO.out]; rfl, Q.out.below⟩
end Go.Proofs.YtbehendogcghjaaDoor
/- Contracts of the document's program of chapter match: Ever. -/
namespace Go.Proofs.YtbehendogcghjaaDoor
open Go.ChangeShapes Go.RowKit Go.Shelf

/-- a day in its box -/
def dL (n y m d k : Int) : List Value := [.int .i64 n, .int .i64 y, .int .i64 m, .int .i64 d, .int .i64 k]
/-- an expression in box A and the day n in box B -/
structure ED (w : World) (A B : Nat) (x : Exp.Ex) (n y : Int) (m d k : Nat) (W : World) : Prop where
  below : Below w.heap.size w W
  ex : Row W A 24 (exL x)
  dy : Row W B 52 (dL n y m d k)
  ne : A ≠ B
  b0 : w.heap.size ≤ B
  v : Civ.Vld y m d
  hn : Civ.num y m d = n
  hk : (n + 4) % 7 = k
theorem ED.next {w W W' : World} {A B : Nat} {x : Exp.Ex} {n y : Int} {m d k : Nat} (h : ED w A B x n y m d k W) (hb : Below W.heap.size W W') : ED w A B x n y m d k W' :=
  ⟨h.below.trans (hb.mono h.below.size), h.ex.below hb, h.dy.below hb, h.ne, h.b0, h.v, h.hn, h.hk⟩
theorem ED.cells {w W : World} {A B : Nat} {x : Exp.Ex} {n y : Int} {m d k : Nat} (h : ED w A B x n y m d k W) : (W.cell? ⟨A, 0, none⟩ = some (.int .u64 x.a0) ∧ W.cell? ⟨A, 1, none⟩ = some (.int .u64 x.a1) ∧ W.cell? ⟨A, 2, none⟩ = some (.int .u64 x.a2) ∧ W.cell? ⟨A, 3, none⟩ = some (.int .u64 x.a3) ∧ W.cell? ⟨A, 4, none⟩ = some (.int .u64 x.a4) ∧ W.cell? ⟨A, 5, none⟩ = some (.int .u64 x.a5) ∧ W.cell? ⟨A, 6, none⟩ = some (.bool x.b3) ∧ W.cell? ⟨A, 7, none⟩ = some (.bool x.b5)) ∧ W.cell? ⟨B, 0, none⟩ = some (.int .i64 n) ∧ W.cell? ⟨B, 1, none⟩ = some (.int .i64 y) ∧ W.cell? ⟨B, 2, none⟩ = some (.int .i64 m) ∧ W.cell? ⟨B, 3, none⟩ = some (.int .i64 d) ∧ W.cell? ⟨B, 4, none⟩ = some (.int .i64 k) :=
  ⟨⟨h.ex.cell 0, h.ex.cell 1, h.ex.cell 2, h.ex.cell 3, h.ex.cell 4, h.ex.cell 5, h.ex.cell 6, h.ex.cell 7⟩, h.dy.cell 0, h.dy.cell 1, h.dy.cell 2, h.dy.cell 3, h.dy.cell 4⟩
/-- another day is stored -/
theorem ED.put {w W : World} {A B : Nat} {x : Exp.Ex} {n y : Int} {m d k : Nat} (h : ED w A B x n y m d k W) (n' y' : Int) (m' d' k' : Nat) (v : Civ.Vld y' m' d') (hn : Civ.num y' m' d' = n') (hk : (n' + 4) % 7 = k') :
    ED w A B x n' y' m' d' k' (((((W.setCell ⟨B, 0, none⟩ (.int .i64 n')).setCell ⟨B, 1, none⟩ (.int .i64 y')).setCell ⟨B, 2, none⟩ (.int .i64 m')).setCell ⟨B, 3, none⟩ (.int .i64 d')).setCell ⟨B, 4, none⟩ (.int .i64 k')) :=
  ⟨((((h.below.setCell (p := ⟨B, 0, none⟩) h.b0 _).setCell (p := ⟨B, 1, none⟩) h.b0 _).setCell (p := ⟨B, 2, none⟩) h.b0 _).setCell (p := ⟨B, 3, none⟩) h.b0 _).setCell (p := ⟨B, 4, none⟩) h.b0 _,
   ((((h.ex.other ⟨B, 0, none⟩ _ h.ne).other ⟨B, 1, none⟩ _ h.ne).other ⟨B, 2, none⟩ _ h.ne).other ⟨B, 3, none⟩ _ h.ne).other ⟨B, 4, none⟩ _ h.ne,
   ((((h.dy.set 0 (.int .i64 n')).set 1 (.int .i64 y')).set 2 (.int .i64 m')).set 3 (.int .i64 d')).set 4 (.int .i64 k'),
   h.ne, h.b0, v, hn, hk⟩
/-- matches at a day in its box -/
theorem ED.mt {w W : World} {A B : Nat} {x : Exp.Ex} {n y : Int} {m d k : Nat} (h : ED w A B x n y m d k W) (hx : x.Bd) (b : Bool) (hb : x.onB n = b) :
    Calls Tryd.prog 37 #[.agg #[.int .u64 x.a0, .int .u64 x.a1, .int .u64 x.a2, .int .u64 x.a3, .int .u64 x.a4, .int .u64 x.a5, .bool x.b3, .bool x.b5], .agg #[.int .i64 n, .int .i64 y, .int .i64 m, .int .i64 d, .int .i64 k]] W fun e W' => e = .returned (.bool b) ∧ ED w A B x n y m d k W' := by
  have e : Mat.mt x.a4 x.a3 x.a5 x.b3 x.b5 m d k = b := by
    rw [← hb]
    apply Bool.eq_iff_iff.2
    rw [onB_iff, ← h.hn]
    unfold Exp.Ex.On
    rw [Mat.on_iff h.v, h.hn, h.hk]
    exact Iff.rfl
  exact (rmatches_any x hx n y m d k W).mono fun _ _ ⟨h1, h2⟩ => ⟨by rw [h1, e], h.next h2⟩
/-- the next day -/
theorem ED.up {w W : World} {A B : Nat} {x : Exp.Ex} {n y : Int} {m d k : Nat} (h : ED w A B x n y m d k W) (hl : n < 2932896) :
    Calls Tryd.prog 44 #[.agg #[.int .i64 n, .int .i64 y, .int .i64 m, .int .i64 d, .int .i64 k], .bool false] W fun e W' => ∃ (y' : Int) (m' d' k' : Nat), e = .returned (.agg #[.int .i64 (n + 1), .int .i64 y', .int .i64 m', .int .i64 d', .int .i64 k']) ∧ Civ.Vld y' m' d' ∧ Civ.num y' m' d' = n + 1 ∧ (n + 1 + 4) % 7 = k' ∧ ED w A B x n y m d k W' :=
  (ron_up n y m d k h.v h.hn h.hk.symm W).mono fun e W' ⟨r, h1, ⟨y', m', d', k', h2, h3⟩, h4⟩ => by
    have r0 := Civ.num_range h.v
    rw [h.hn] at r0
    obtain ⟨v, hn, hk⟩ := h3 (by omega) (by omega)
    obtain ⟨m', rfl⟩ := Int.eq_ofNat_of_zero_le (show 0 ≤ m' by have := v.2.2.1; omega)
    obtain ⟨d', rfl⟩ := Int.eq_ofNat_of_zero_le (show 0 ≤ d' by have := v.2.2.2.2.1; omega)
    obtain ⟨k', rfl⟩ := Int.eq_ofNat_of_zero_le (show 0 ≤ k' by omega)
    exact ⟨y', m', d', k', by rw [h1, h2], v, hn, hk.symm, h.next h4⟩
end Go.Proofs.YtbehendogcghjaaDoor
/- Contracts of the document's program of chapter match: Ever. -/
namespace Go.Proofs.YtbehendogcghjaaDoor
open Go.ChangeShapes Go.RowKit Go.Shelf

theorem evr_first {x : Exp.Ex} (h : ∀ n : Int, 0 ≤ n → n < 10227 → ¬ x.On n) : ¬ x.Evr := by
  rintro ⟨n, hn⟩
  have r := on_in hn
  obtain ⟨j, j0, j1, j2⟩ := Mat.ever.1 ⟨n, r.1, r.2, hn⟩
  exact h j j0 j1 j2
set_option maxRecDepth 100000 in
set_option maxHeartbeats 4000000 in
theorem rever_any (x : Exp.Ex) (hx : x.Bd) (w : World) :
    Calls Tryd.prog 20 #[.agg #[.int .u64 x.a0, .int .u64 x.a1, .int .u64 x.a2, .int .u64 x.a3, .int .u64 x.a4, .int .u64 x.a5, .bool x.b3, .bool x.b5]] w fun e W' => e = .returned (.tuple #[.bool (everO x), .int .i64 (errOk x.okB)]) ∧ Below w.heap.size w W' := by
  have CK := Lib.hid (fun w0 : World => check7_ex x hx w0)
  have HB := Lib.hid ((Below.refl _ w).alloc (Nat.le_refl _) (.cells #[.int .u64 x.a0, .int .u64 x.a1, .int .u64 x.a2, .int .u64 x.a3, .int .u64 x.a4, .int .u64 x.a5, .bool x.b3, .bool x.b5] 24))
  have R0 := Lib.hid (Row.new w (exL x) 24)
  cases h : x.okB with
  | false =>
    have DO : Hid (everO x = false) := Lib.hid (everO_no h)
    rw [h] at CK
    simp only [errOk, Bool.false_eq_true, if_false] at CK ⊢
    clear h hx
    go_enter Tryd.func20, Tryd.ntmps20
    go_wp2_with fail
    refine (CK.out _).mono ?_
    rintro e V ⟨rfl, hb⟩
    have HV := Lib.hid (HB.out.trans (hb.mono HB.out.size))
    clear hb
    go_wp2_with fail
    go_ret2
    exact ⟨by rw [DO.out]; rfl, HV.out⟩
  | true =>
    have HX := Lib.hid hx
    have HE := Lib.hid (everO_iff h)
    have DA := Lib.hid (fun w0 : World => show Calls Tryd.prog 38 #[.int .i64 0] w0 fun e w' => e = .returned (.agg #[.int .i64 0, .int .i64 1970, .int .i64 1, .int .i64 1, .int .i64 4]) ∧ Below w0.heap.size w0 w' from by
      have q := rdate_any 1970 1 1 0 w0 (by unfold Civ.Vld; decide) (by decide)
      rwa [show ((0 : Int) + 4) % 7 = 4 by decide] at q)
    rw [h] at CK
    simp only [errOk, if_true] at CK ⊢
    clear h hx
    go_enter Tryd.func20, Tryd.ntmps20
    go_wp2_with fail
    refine (CK.out _).mono ?_
    rintro e V ⟨rfl, hb⟩
    have HV := Lib.hid (HB.out.trans (hb.mono HB.out.size))
    have RV := Lib.hid (R0.out.below hb)
    clear hb
    go_wp2_with fail
    refine (DA.out _).mono ?_
    rintro e V2 ⟨rfl, hb⟩
    obtain ⟨A, hA⟩ : ∃ A, w.heap.size = A := ⟨_, rfl⟩
    obtain ⟨B, hB⟩ : ∃ B, V2.heap.size = B := ⟨_, rfl⟩
    have hl := RV.out.lt
    have E0 : ED w A B x (0 : Nat) 1970 (1 : Nat) (1 : Nat) (4 : Nat) (V2.alloc (.cells #[.int .i64 0, .int .i64 1970, .int .i64 1, .int .i64 1, .int .i64 4] 52)) :=
      ⟨(HV.out.trans (hb.mono HV.out.size)).alloc (by have := HV.out.size; have := hb.size; omega) _, by rw [← hA]; exact (RV.out.below hb).alloc _, by rw [← hB]; exact Row.new V2 _ _, by have := hb.size; omega, by have := hb.size; omega, by unfold Civ.Vld; decide, by decide, by decide⟩
    have E0 := Lib.hid E0
    clear hb hl
    go_wp2_with fail
    go_loopw [6] (fun iv wr => ∃ i : Nat, i ≤ 10227 ∧ iv = .int .i64 i ∧ Hid (∀ n : Int, 0 ≤ n → n < i → ¬ x.On n) ∧ ∃ (y : Int) (m d k : Nat), Hid (ED w A B x i y m d k wr)) (fun iv _ => 10228 - (intOf iv).toNat)
    case atStart => exact ⟨0, by omega, rfl, Lib.hid (fun n a b => absurd b (by omega)), 1970, 1, 1, 4, E0⟩
    case round =>
      obtain ⟨i, hi, rfl, NO, y, m, d, k, Q⟩ := hrel
      obtain ⟨⟨c0, c1, c2, c3, c4, c5, c6, c7⟩, d0, d1, d2, d3, d4⟩ := Q.out.cells
      by_cases hlt : i < 10227
      · have t1 : decide ((i : Int) < 10227) = true := by rw [decide_eq_true_iff]; omega
        have w1 : IntKind.i64.wrap ((i : Int) + 1) = (i : Int) + 1 := by rw [IntKind.wrap_i64]; omega
        cases hon : x.onB i with
        | true =>
          have YES : Hid (everO x = true) := Lib.hid (HE.out.2 ⟨_, onB_iff.1 hon⟩)
          have MT := Lib.hid (fun W (q : ED w A B x i y m d k W) => q.mt HX.out true hon)
          clear hon
          go_wp2_with fail
          refine (MT.out _ Q.out).mono ?_
          rintro e' w3 ⟨rfl, q⟩
          have Q := Lib.hid q
          clear q
          go_wp2_with fail
          go_ret2
          exact ⟨by rw [YES.out]; rfl, Q.out.below⟩
        | false =>
          have NO2 : Hid (∀ n : Int, 0 ≤ n → n < ((i + 1 : Nat) : Int) → ¬ x.On n) := Lib.hid (fun n a b => by
            by_cases c : n < i
            · exact NO.out n a c
            · obtain rfl : n = i := by omega
              exact onB_no.1 hon)
          have MT := Lib.hid (fun W (q : ED w A B x i y m d k W) => q.mt HX.out false hon)
          have UP := Lib.hid (fun W (q : ED w A B x i y m d k W) => q.up (by omega))
          clear hon
          go_wp2_with fail
          refine (MT.out _ Q.out).mono ?_
          rintro e' w3 ⟨rfl, q⟩
          obtain ⟨⟨c0, c1, c2, c3, c4, c5, c6, c7⟩, d0, d1, d2, d3, d4⟩ := q.cells
          have Q := Lib.hid q
          clear q
          go_wp2_with fail
          refine (UP.out _ Q.out).mono ?_
          rintro e' w4 ⟨y', m', d', k', rfl, v', hn', hk', q⟩
          obtain ⟨⟨c0, c1, c2, c3, c4, c5, c6, c7⟩, d0, d1, d2, d3, d4⟩ := q.cells
          have fr := fun k => q.dy.free k
          have Q := Lib.hid (q.put ((i : Int) + 1) y' m' d' k' v' hn' hk')
          clear q v' hn' hk'
          go_wp2_with fail
          go_roundw
          case rel => exact ⟨i + 1, by omega, by go_num, NO2, y', m', d', k', Lib.hid (by have := Q.out; rwa [show ((i : Int) + 1) = ((i + 1 : Nat) : Int) by omega] at this)⟩
          case measure => simp [intOf] <;> omega
      · have t1 : decide ((i : Int) < 10227) = false := by rw [decide_eq_false_iff_not]; omega
        have FIN : Hid (everO x = false) := Lib.hid (by
          cases q : everO x with
          | false => rfl
          | true => exact absurd (HE.out.1 q) (evr_first (fun n a b => NO.out n a (by omega))))
        go_wp2_with fail
        go_ret2
        exact ⟨by rw [FIN.out]; rfl, Q.out.below⟩
end Go.Proofs.YtbehendogcghjaaDoor
