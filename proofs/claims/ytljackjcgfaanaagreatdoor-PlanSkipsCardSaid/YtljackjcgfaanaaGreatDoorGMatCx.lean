/- The context of a statement of stage 8: expressions in boxes, the tables; the calls of package match in it. Contracts of the document's program of chapter match: check. Contracts of the document's program of chapter match: date. Contracts of the document's program of chapter match: first, last. Contracts of the document's program of chapter match: clock. Contracts of the document's program of chapter match: matches. -/
import Derived.Test.YtljackjcgfaanaaGreatDoorGMatO
import Derived.Test.YtljackjcgfaanaaGreatDoorMatLaid
import Derived.Deep.RegionHeld3
import Derived.Test.YtljackjcgfaanaaGreatDoorExpRb
/- The context of a statement of stage 8: expressions in boxes, the tables; the calls of package match in it. -/
namespace Go.Proofs.YtljackjcgfaanaaGreatDoor
open Go.ChangeShapes Go.RowKit Go.Shelf

structure MC (w : World) (l : List (Nat × Exp.Ex)) (W : World) : Prop where
  below : Below w.heap.size w W
  lay : LayM W
  rows : ∀ p ∈ l, Row W p.1 24 (exL p.2)
theorem MC.next {w W W' : World} {l : List (Nat × Exp.Ex)} (h : MC w l W) (hb : Below W.heap.size W W') : MC w l W' := ⟨h.below.trans (hb.mono h.below.size), h.lay.below hb, fun p hp => (h.rows p hp).below hb⟩
theorem MC.drew {w W : World} {l : List (Nat × Exp.Ex)} (h : MC w l W) : MC w l W.drew := h.next (Below.refl _ _).drew
theorem MC.drewN {w W : World} {l : List (Nat × Exp.Ex)} (h : MC w l W) (n : Nat) : MC w l (W.drewN n) := h.next (below_drewN _ W n)
theorem MC.alloc {w W : World} {l : List (Nat × Exp.Ex)} (h : MC w l W) (o : Obj) : MC w l (W.alloc o) := h.next ((Below.refl _ _).alloc (Nat.le_refl _) o)
theorem MC.box {w W : World} {l : List (Nat × Exp.Ex)} (h : MC w l W) (x : Exp.Ex) : MC w ((W.heap.size, x) :: l) (W.alloc (.cells #[.int .u64 x.a0, .int .u64 x.a1, .int .u64 x.a2, .int .u64 x.a3, .int .u64 x.a4, .int .u64 x.a5, .bool x.b3, .bool x.b5] 24)) := by
  refine ⟨(h.alloc _).below, (h.alloc _).lay, fun p hp => ?_⟩
  rcases List.mem_cons.1 hp with rfl | hp
  · exact Row.new W (exL x) _
  · exact (h.rows p hp).alloc _
theorem MC.start {w : World} (L : LayM w) : MC w [] w := ⟨Below.refl _ _, L, fun _ h => by cases h⟩
theorem MC.cells {w W : World} {l : List (Nat × Exp.Ex)} (h : MC w l W) (B : Nat) (x : Exp.Ex) (hm : (B, x) ∈ l) : W.cell? ⟨B, 0, none⟩ = some (.int .u64 x.a0) ∧ W.cell? ⟨B, 1, none⟩ = some (.int .u64 x.a1) ∧ W.cell? ⟨B, 2, none⟩ = some (.int .u64 x.a2) ∧ W.cell? ⟨B, 3, none⟩ = some (.int .u64 x.a3) ∧ W.cell? ⟨B, 4, none⟩ = some (.int .u64 x.a4) ∧ W.cell? ⟨B, 5, none⟩ = some (.int .u64 x.a5) ∧ W.cell? ⟨B, 6, none⟩ = some (.bool x.b3) ∧ W.cell? ⟨B, 7, none⟩ = some (.bool x.b5) := by
  have r := h.rows _ hm
  exact ⟨r.cell 0, r.cell 1, r.cell 2, r.cell 3, r.cell 4, r.cell 5, r.cell 6, r.cell 7⟩
theorem MC.put {w W : World} {B : Nat} {x : Exp.Ex} (h : MC w [(B, x)] W) (L : LayM w) (hB : w.heap.size ≤ B) (y : Exp.Ex) (i j : Nat) (u v : Value) (e : ((exL x).set i u).set j v = exL y) : MC w [(B, y)] ((W.setCell ⟨B, i, none⟩ u).setCell ⟨B, j, none⟩ v) := by
  have b := (h.below.setCell (p := ⟨B, i, none⟩) hB u).setCell (p := ⟨B, j, none⟩) hB v
  refine ⟨b, L.below b, fun p hp => ?_⟩
  obtain rfl := List.mem_singleton.1 hp
  have r := ((h.rows (B, x) (List.mem_singleton.2 rfl)).set i u).set j v
  rw [e] at r
  exact r

theorem MC.is {w W : World} {l : List (Nat × Exp.Ex)} (h : MC w l W) (x : Exp.Ex) (hx : x.Bd) (z t : Int) (r : Bool) (e : Int) (hr : isO x z t = r) (he : errC x z [t] = e) :
    Calls Tryz.prog 73 #[.agg #[.int .u64 x.a0, .int .u64 x.a1, .int .u64 x.a2, .int .u64 x.a3, .int .u64 x.a4, .int .u64 x.a5, .bool x.b3, .bool x.b5], .int .i64 z, .int .i64 t] W fun e' W' => e' = .returned (.tuple #[.bool r, .int .i64 e]) ∧ MC w l W' :=
  (mis_any x hx z t W h.lay).mono fun _ _ ⟨h1, h2⟩ => ⟨by rw [h1, hr, he], h.next h2⟩
theorem MC.toNext {w W : World} {l : List (Nat × Exp.Ex)} (h : MC w l W) (x : Exp.Ex) (hx : x.Bd) (z t : Int) (n : Int) (r : Bool) (e : Int) (hn : (nextO x z t).getD 0 = n) (hr : (nextO x z t).isSome = r) (he : errC x z [t] = e) :
    Calls Tryz.prog 75 #[.agg #[.int .u64 x.a0, .int .u64 x.a1, .int .u64 x.a2, .int .u64 x.a3, .int .u64 x.a4, .int .u64 x.a5, .bool x.b3, .bool x.b5], .int .i64 z, .int .i64 t] W fun e' W' => e' = .returned (.tuple #[.int .i64 n, .bool r, .int .i64 e]) ∧ MC w l W' :=
  (mnext_any x hx z t W h.lay).mono fun _ _ ⟨h1, h2⟩ => ⟨by rw [h1, hn, hr, he], h.next h2⟩
theorem MC.count {w W : World} {l : List (Nat × Exp.Ex)} (h : MC w l W) (x : Exp.Ex) (hx : x.Bd) (z a b : Int) (n : Nat) (e : Int) (hn : (if errC x z [a, b] = 0 then countN x z a b else 0) = n) (he : errC x z [a, b] = e) :
    Calls Tryz.prog 77 #[.agg #[.int .u64 x.a0, .int .u64 x.a1, .int .u64 x.a2, .int .u64 x.a3, .int .u64 x.a4, .int .u64 x.a5, .bool x.b3, .bool x.b5], .int .i64 z, .int .i64 a, .int .i64 b] W fun e' W' => e' = .returned (.tuple #[.int .i64 (n : Nat), .int .i64 e]) ∧ MC w l W' :=
  (mcount_any x hx z a b W h.lay).mono fun _ _ ⟨h1, h2⟩ => ⟨by rw [h1, hn, he], h.next h2⟩

theorem isO_in {x : Exp.Ex} {z t : Int} (h : isO x z t = true) : errC x z [t] = 0 ∧ x.Lm (t + 60 * z) := by
  unfold isO at h
  split at h
  · exact ⟨by assumption, lmB_iff.1 h⟩
  · cases h
theorem isO_iff {x : Exp.Ex} {z t : Int} (h : errC x z [t] = 0) : isO x z t = true ↔ x.Lm (t + 60 * z) := by
  unfold isO; rw [if_pos h]; exact lmB_iff
theorem isO_no {x : Exp.Ex} {z t : Int} (h : errC x z [t] ≠ 0) : isO x z t = false := by unfold isO; rw [if_neg h]
theorem dayO_no {x : Exp.Ex} {z t : Int} (h : errC x z [t] ≠ 0) : dayO x z t = false := by unfold dayO; rw [if_neg h]
theorem inT_iff {t : Int} : inT t = true ↔ 0 ≤ t ∧ t ≤ 253402300799 := by unfold inT; simp
theorem day_of_is {x : Exp.Ex} {z t : Int} (h : isO x z t = true) : dayO x z t = true := by
  obtain ⟨e, m⟩ := isO_in h
  unfold dayO
  rw [if_pos e, Bool.and_eq_true]
  exact ⟨inT_iff.2 (lm_in m), onB_iff.2 (lm_iff.1 m).1⟩
end Go.Proofs.YtljackjcgfaanaaGreatDoor
/- Contracts of the document's program of chapter match: check. Contracts of the document's program of chapter match: date. Contracts of the document's program of chapter match: first, last. Contracts of the document's program of chapter match: clock. Contracts of the document's program of chapter match: matches. -/
/- Contracts of the document's program of chapter match: check. -/
namespace Go.Proofs.YtljackjcgfaanaaGreatDoor
open Go.ChangeShapes Go.RowKit Go.Shelf

set_option maxRecDepth 100000 in
set_option maxHeartbeats 4000000 in
theorem rcheck_any (x : Exp.Ex) (hx : x.Bd) (z : Int) (B : Nat) (ts : List Int) (hl : ts.length ≤ 2) (w : World) (R : Row w B 2 (ts.map (.int .i64 ·))) :
    Calls Tryz.prog 96 #[.agg #[.int .u64 x.a0, .int .u64 x.a1, .int .u64 x.a2, .int .u64 x.a3, .int .u64 x.a4, .int .u64 x.a5, .bool x.b3, .bool x.b5], .int .i64 z, .slice (some ⟨B, 0, none⟩) ts.length ts.length] w fun e W' => e = .returned (.int .i64 (errC x z ts)) ∧ Below w.heap.size w W' := by
  have CK := Lib.hid (fun w0 : World => check7_ex x hx w0)
  have ZC := Lib.hid (fun w0 : World => zcheckR_any z w0)
  have HB := Lib.hid ((Below.refl _ w).alloc (Nat.le_refl _) (.cells #[.int .u64 x.a0, .int .u64 x.a1, .int .u64 x.a2, .int .u64 x.a3, .int .u64 x.a4, .int .u64 x.a5, .bool x.b3, .bool x.b5] 24))
  have RR := Lib.hid R
  have HL := Lib.hid hl
  have LN := Lib.hid (show ts.length ≤ 9223372036854775807 by omega)
  clear hx R hl
  cases hok : x.okB with
  | false =>
    have E : Hid (errC x z ts = 16) := Lib.hid (by unfold errC; rw [if_pos hok])
    rw [hok] at CK
    simp only [errOk, Bool.false_eq_true, if_false] at CK
    go_enter Tryz.func96, Tryz.ntmps96
    go_wp2_with (go_at_call 45; refine (CK.out _).mono ?_; rintro e V ⟨rfl, hb⟩; have HV := Lib.hid (HB.out.trans (hb.mono HB.out.size)); clear hb)
    go_loopw [7, 8] (fun ev iv wr => ev = .int .i64 16 ∧ iv = .int .i64 0 ∧ V = wr) (fun _ i _ => 0)
    case atStart => exact ⟨rfl, rfl, rfl⟩
    case round =>
      obtain ⟨rfl, rfl, rfl⟩ := hrel
      by_cases h0 : 0 < ts.length
      · go_wp2
        go_ret
        exact ⟨by rw [E.out]; rfl, HV.out⟩
      · go_wp2
        go_ret
        exact ⟨by rw [E.out]; rfl, HV.out⟩
  | true =>
    rw [hok] at CK
    simp only [errOk, if_true] at CK
    rcases errZ_or z with hz | hz
    · rw [hz] at ZC
      have E : Hid (errC x z ts = if ts.all inT = true then 0 else 14) := Lib.hid (by unfold errC; rw [if_neg (by rw [hok]; simp), if_neg (by simpa using hz)])
      clear hz
      go_enter Tryz.func96, Tryz.ntmps96
      go_wp2_with (first
        | (go_at_call 45; refine (CK.out _).mono ?_; rintro e V ⟨rfl, hb⟩; have HV := Lib.hid (HB.out.trans (hb.mono HB.out.size)); have RV := Lib.hid (RR.out.below HV.out); clear hb)
        | (go_at_call 46; refine (ZC.out _).mono ?_; rintro e V2 ⟨rfl, rfl⟩))
      go_loopw [7, 8] (fun ev i wr => ∃ k : Nat, k ≤ ts.length ∧ i = .int .i64 k ∧ (ev = .int .i64 0 ∧ Hid ((ts.take k).all inT = true) ∨ ev = .int .i64 14 ∧ Hid (ts.all inT = false)) ∧ V = wr) (fun _ i _ => ts.length - (intOf i).toNat)
      case atStart => exact ⟨0, by omega, rfl, .inl ⟨rfl, Lib.hid rfl⟩, rfl⟩
      case round =>
        obtain ⟨k, hk, rfl, (⟨rfl, hall⟩ | ⟨rfl, NO⟩), rfl⟩ := hrel
        · by_cases hlt : k < ts.length
          · obtain ⟨t, ht⟩ : ∃ t, ts[k] = t := ⟨_, rfl⟩
            have hc : V.cell? ⟨B, k, none⟩ = some (.int .i64 t) := by rw [RV.out.cell k, List.getElem?_map, List.getElem?_eq_getElem hlt, ht]; rfl
            have TK : Hid (ts.take (k + 1) = ts.take k ++ [t]) := Lib.hid (by rw [← ht]; exact (List.take_append_getElem hlt).symm)
            have wk : IntKind.i64.wrap ((k : Int) + 1) = (k : Int) + 1 := by have := LN.out; rw [IntKind.wrap_i64]; omega
            have IN : inT t = false → ts.all inT = false := fun h => by
              rw [List.all_eq_false]
              exact ⟨t, by rw [← ht]; exact List.getElem_mem hlt, by rw [h]; simp⟩
            by_cases t0 : t < 0
            · have q0 : decide (t < 0) = true := by simpa using t0
              have NO : Hid (ts.all inT = false) := Lib.hid (IN (by unfold inT; simp; omega))
              clear t0 ht IN
              go_wp2
              go_roundw
              case rel => exact ⟨k + 1, by omega, by go_num, .inr ⟨rfl, NO⟩, by first | rfl | trivial⟩
              case measure => simp [intOf]; omega
            · have q0 : decide (t < 0) = false := by simpa using t0
              by_cases t1 : 253402300799 < t
              · have q1 : decide (253402300799 < t) = true := by simpa using t1
                have NO : Hid (ts.all inT = false) := Lib.hid (IN (by unfold inT; simp; omega))
                clear t0 t1 ht IN
                go_wp2
                go_roundw
                case rel => exact ⟨k + 1, by omega, by go_num, .inr ⟨rfl, NO⟩, by first | rfl | trivial⟩
                case measure => simp [intOf]; omega
              · have q1 : decide (253402300799 < t) = false := by simpa using t1
                have YES : Hid (inT t = true) := Lib.hid (by unfold inT; simp; omega)
                clear t0 t1 ht IN
                go_wp2
                go_roundw
                case rel => exact ⟨k + 1, by omega, by go_num, .inl ⟨rfl, Lib.hid (by rw [TK.out, List.all_append, hall.out]; simp [YES.out])⟩, by first | rfl | trivial⟩
                case measure => simp [intOf]; omega
          · have hall' : ts.all inT = true := by have := hall.out; rwa [List.take_of_length_le (by omega)] at this
            have HA := Lib.hid hall'
            clear hall' hall
            go_wp2
            go_ret
            exact ⟨by rw [E.out, HA.out]; rfl, HV.out⟩
        · by_cases hlt : k < ts.length
          · go_wp2
            go_ret
            exact ⟨by rw [E.out, NO.out]; rfl, HV.out⟩
          · go_wp2
            go_ret
            exact ⟨by rw [E.out, NO.out]; rfl, HV.out⟩
    · rw [hz] at ZC
      have E : Hid (errC x z ts = 2) := Lib.hid (by unfold errC; rw [if_neg (by rw [hok]; simp), if_pos (by rw [hz]; decide)])
      clear hz
      go_enter Tryz.func96, Tryz.ntmps96
      go_wp2_with (first
        | (go_at_call 45; refine (CK.out _).mono ?_; rintro e V ⟨rfl, hb⟩; have HV := Lib.hid (HB.out.trans (hb.mono HB.out.size)); clear hb)
        | (go_at_call 46; refine (ZC.out _).mono ?_; rintro e V2 ⟨rfl, rfl⟩))
      go_loopw [7, 8] (fun ev iv wr => ev = .int .i64 2 ∧ iv = .int .i64 0 ∧ V = wr) (fun _ i _ => 0)
      case atStart => exact ⟨rfl, rfl, rfl⟩
      case round =>
        obtain ⟨rfl, rfl, rfl⟩ := hrel
        by_cases h0 : 0 < ts.length
        · go_wp2
          go_ret
          exact ⟨by rw [E.out]; rfl, HV.out⟩
        · go_wp2
          go_ret
          exact ⟨by rw [E.out]; rfl, HV.out⟩

end Go.Proofs.YtljackjcgfaanaaGreatDoor
/- Contracts of the document's program of chapter match: date. -/
namespace Go.Proofs.YtljackjcgfaanaaGreatDoor
open Go.ChangeShapes Go.RowKit Go.Shelf

set_option maxRecDepth 100000 in
set_option maxHeartbeats 4000000 in
theorem rdate_any (y m d n : Int) (w : World) (v : Civ.Vld y m d) (hn : Civ.num y m d = n) :
    Calls Tryz.prog 98 #[.int .i64 n] w fun e w' => e = .returned (.agg #[.int .i64 n, .int .i64 y, .int .i64 m, .int .i64 d, .int .i64 ((n + 4) % 7)]) ∧ Below w.heap.size w w' := by
  have r := Civ.num_range v
  rw [hn] at r
  have D := Lib.hid (fun w0 : World => Cv.dateR_yes y m d n w0 v hn)
  have w1 : IntKind.i64.wrap (n + 4) = n + 4 := by rw [IntKind.wrap_i64]; omega
  have w2 : (n + 4).tmod 7 = (n + 4) % 7 := Int.tmod_eq_emod_of_nonneg (by omega)
  obtain ⟨k, hk⟩ : ∃ k, (n + 4) % 7 = k := ⟨_, rfl⟩
  rw [hk] at w2 ⊢
  have w3 : IntKind.i64.wrap k = k := by rw [IntKind.wrap_i64]; omega
  have Z := Lib.hid ((Below.refl _ w).alloc (Nat.le_refl _) (.cells #[.int .i64 0, .int .i64 0, .int .i64 0, .int .i64 0, .int .i64 0] 110))
  clear v hn r hk
  go_enter Tryz.func98, Tryz.ntmps98
  go_wp2_with fail
  refine (D.out _).mono ?_
  rintro e' w5 ⟨rfl, hb⟩
  have R := (Row.new w [.int .i64 0, .int .i64 0, .int .i64 0, .int .i64 0, .int .i64 0] 110).below hb
  obtain ⟨B, hB⟩ : ∃ B, w.heap.size = B := ⟨_, rfl⟩
  rw [hB] at R
  have r0 := R.cell 0; have r1 := R.cell 1; have r2 := R.cell 2; have r3 := R.cell 3; have r4 := R.cell 4
  simp only [List.getElem?_cons_zero, List.getElem?_cons_succ] at r0 r1 r2 r3 r4
  have fr := fun k => R.free k
  have HB := Lib.hid (show Below w.heap.size w w5 from Z.out.trans (hb.mono Z.out.size))
  have hBB : Hid (w.heap.size ≤ B) := Lib.hid (by omega)
  clear hb R
  go_wp2_with fail
  refine bodyPost_ret (v := .agg #[.int .i64 n, .int .i64 y, .int .i64 m, .int .i64 d, .int .i64 k]) (by simp [results, Tryz.results98, go_sem, r0, r1, r2, r3, r4]) rfl ⟨rfl, by
    have q := HB.out
    have e := hBB.out
    exact ((((q.setCell (p := ⟨B, 0, none⟩) e _).setCell (p := ⟨B, 1, none⟩) e _).setCell (p := ⟨B, 2, none⟩) e _).setCell (p := ⟨B, 3, none⟩) e _).setCell (p := ⟨B, 4, none⟩) e _⟩

end Go.Proofs.YtljackjcgfaanaaGreatDoor
/- Contracts of the document's program of chapter match: first, last. -/
namespace Go.Proofs.YtljackjcgfaanaaGreatDoor
open Go.ChangeShapes Go.RowKit Go.Shelf

theorem ck_no_hour {H I S h : Nat} (b : H.testBit h = false) {t : Int} (h0 : 3600 * (h : Int) ≤ t) (h1 : t < 3600 * (h : Int) + 3600) : ¬ Mat.Ck H I S t := by
  intro c
  obtain ⟨g, i, s, g1, g2, g3, g4, g5, g6, e⟩ := Mat.ck_iff.1 c
  unfold Mat.sec3 at e
  simp only at e
  have : g = h := by omega
  rw [this, b] at g4
  cases g4
theorem ck_no_min {H I S h i : Nat} (b : I.testBit i = false) (hi : i < 60) {t : Int} (h0 : 3600 * (h : Int) + 60 * (i : Int) ≤ t) (h1 : t < 3600 * (h : Int) + 60 * (i : Int) + 60) : ¬ Mat.Ck H I S t := by
  intro c
  obtain ⟨g, j, s, g1, g2, g3, g4, g5, g6, e⟩ := Mat.ck_iff.1 c
  unfold Mat.sec3 at e
  simp only at e
  have : j = i := by omega
  rw [this, b] at g5
  cases g5
theorem ck_no_sec {H I S h i s : Nat} (b : S.testBit s = false) (hs : s < 60) {t : Int} (h0 : t = 3600 * (h : Int) + 60 * (i : Int) + (s : Int)) : ¬ Mat.Ck H I S t := by
  intro c
  obtain ⟨g, j, k, g1, g2, g3, g4, g5, g6, e⟩ := Mat.ck_iff.1 c
  unfold Mat.sec3 at e
  simp only at e
  have : k = s := by omega
  rw [this, b] at g6
  cases g6
theorem ck_yes {H I S h i s : Nat} (hh : h < 24) (hi : i < 60) (hs : s < 60) (a : H.testBit h = true) (b : I.testBit i = true) (c : S.testBit s = true) : Mat.Ck H I S (3600 * (h : Int) + 60 * (i : Int) + (s : Int)) :=
  Mat.ck_iff.2 ⟨h, i, s, hh, hi, hs, a, b, c, by unfold Mat.sec3; simp only⟩
theorem has2 {x : Exp.Ex} (hx : x.Bd) (k : Nat) (w0 : World) : Calls Tryz.prog 99 #[.int .u64 x.a2, .int .i64 k] w0 fun e w' => e = .returned (.bool (x.a2.testBit k)) ∧ w0 = w' := by
  have q := hasR_any x.a2 k w0 (show x.a2 < 2 ^ 64 from hx 2 (by decide)); rwa [has_nat (show x.a2 < 2 ^ 64 from hx 2 (by decide))] at q
theorem has1 {x : Exp.Ex} (hx : x.Bd) (k : Nat) (w0 : World) : Calls Tryz.prog 99 #[.int .u64 x.a1, .int .i64 k] w0 fun e w' => e = .returned (.bool (x.a1.testBit k)) ∧ w0 = w' := by
  have q := hasR_any x.a1 k w0 (show x.a1 < 2 ^ 64 from hx 1 (by decide)); rwa [has_nat (show x.a1 < 2 ^ 64 from hx 1 (by decide))] at q
theorem has0 {x : Exp.Ex} (hx : x.Bd) (k : Nat) (w0 : World) : Calls Tryz.prog 99 #[.int .u64 x.a0, .int .i64 k] w0 fun e w' => e = .returned (.bool (x.a0.testBit k)) ∧ w0 = w' := by
  have q := hasR_any x.a0 k w0 (show x.a0 < 2 ^ 64 from hx 0 (by decide)); rwa [has_nat (show x.a0 < 2 ^ 64 from hx 0 (by decide))] at q
set_option maxRecDepth 100000 in
set_option maxHeartbeats 8000000 in
theorem rfirst_any (x : Exp.Ex) (hx : x.Bd) (a : Int) (r : Option Int) (w : World) (h0 : 0 ≤ a) (h1 : a < 86400) (hr : Mat.Least (Mat.Ck x.a2 x.a1 x.a0) a 86399 r) :
    Calls Tryz.prog 124 #[.agg #[.int .u64 x.a0, .int .u64 x.a1, .int .u64 x.a2, .int .u64 x.a3, .int .u64 x.a4, .int .u64 x.a5, .bool x.b3, .bool x.b5], .int .i64 a] w fun e w' => e = .returned (.int .i64 (r.getD (-1))) ∧ Below w.heap.size w w' := by
  have HB := Lib.hid ((Below.refl _ w).alloc (Nat.le_refl _) (.cells #[.int .u64 x.a0, .int .u64 x.a1, .int .u64 x.a2, .int .u64 x.a3, .int .u64 x.a4, .int .u64 x.a5, .bool x.b3, .bool x.b5] 24))
  have HH := Lib.hid (fun k w0 => has2 hx k w0)
  have HI := Lib.hid (fun k w0 => has1 hx k w0)
  have HS := Lib.hid (fun k w0 => has0 hx k w0)
  have FND := Lib.hid (fun (h i s : Nat) (q1 : h < 24) (q2 : i < 60) (q3 : s < 60) (b2 : x.a2.testBit h = true) (b1 : x.a1.testBit i = true) (b0 : x.a0.testBit s = true) (le : a ≤ 3600 * (h : Int) + 60 * (i : Int) + (s : Int)) (no : ∀ t : Int, a ≤ t → t < 3600 * (h : Int) + 60 * (i : Int) + (s : Int) → ¬ Mat.Ck x.a2 x.a1 x.a0 t) => show r = some (3600 * (h : Int) + 60 * (i : Int) + (s : Int)) from hr.uniq ⟨by omega, by omega, ck_yes q1 q2 q3 b2 b1 b0, fun t t1 t2 => no t t1 t2⟩)
  have END := Lib.hid (fun (no : ∀ t : Int, a ≤ t → t < 86400 → ¬ Mat.Ck x.a2 x.a1 x.a0 t) => show r = none from hr.uniq (fun t t1 t2 => no t t1 (by omega)))
  have d1 : IntKind.i64.wrap (a.tdiv 3600) = a / 3600 := by rw [Int.tdiv_eq_ediv_of_nonneg h0, IntKind.wrap_i64]; omega
  obtain ⟨h9, e9⟩ : ∃ k : Nat, a / 3600 = k := ⟨(a / 3600).toNat, by omega⟩
  have BD := Lib.hid (And.intro h0 (And.intro h1 e9))
  rw [e9] at d1
  clear hx hr h0 h1 e9
  go_enter Tryz.func124, Tryz.ntmps124
  go_wp2_with fail
  go_loopw [5] (fun iv wr => ∃ h : Nat, h ≤ 24 ∧ iv = .int .i64 h ∧ Hid (∀ t : Int, a ≤ t → t < 3600 * (h : Int) → ¬ Mat.Ck x.a2 x.a1 x.a0 t) ∧ wr = (w.alloc (.cells #[.int .u64 x.a0, .int .u64 x.a1, .int .u64 x.a2, .int .u64 x.a3, .int .u64 x.a4, .int .u64 x.a5, .bool x.b3, .bool x.b5] 24))) (fun iv _ => 25 - (intOf iv).toNat)
  case atStart => obtain ⟨h0, h1, e9⟩ := BD.out; exact ⟨h9, by omega, rfl, Lib.hid (fun t t1 t2 => absurd t1 (by omega)), rfl⟩
  case round =>
    obtain ⟨h, qh, rfl, Nh, rfl⟩ := hrel
    by_cases lh : h < 24
    · have dh : decide ((h : Int) < 24) = true := by rw [decide_eq_true_iff]; omega
      have wh : IntKind.i64.wrap ((h : Int) + 1) = (h : Int) + 1 := by rw [IntKind.wrap_i64]; omega
      have wh1 : IntKind.i64.wrap ((h : Int) * 3600) = (h : Int) * 3600 := by rw [IntKind.wrap_i64]; omega
      cases b2 : x.a2.testBit h with
      | false =>
        have HX := Lib.hid (HH.out h); rw [b2] at HX
        go_wp2_with (go_at_call 99; refine (HX.out _).mono ?_; rintro e V2 ⟨rfl, rfl⟩)
        go_roundw
        case rel => exact ⟨h + 1, by omega, by go_num, Lib.hid (fun t t1 t2 => by
            by_cases c : t < 3600 * (h : Int)
            · exact Nh.out t t1 c
            · exact ck_no_hour b2 (by omega) (by omega)), by first | rfl | trivial⟩
        case measure => simp [intOf] <;> omega
      | true =>
        have HX := Lib.hid (HH.out h); rw [b2] at HX
        go_wp2_with (go_at_call 99; refine (HX.out _).mono ?_; rintro e V2 ⟨rfl, rfl⟩)
        clear HX
        go_loopw [6] (fun iv wr => ∃ i : Nat, i ≤ 60 ∧ iv = .int .i64 i ∧ Hid (∀ t : Int, a ≤ t → t < 3600 * (h : Int) + 60 * (i : Int) → ¬ Mat.Ck x.a2 x.a1 x.a0 t) ∧ wr = (w.alloc (.cells #[.int .u64 x.a0, .int .u64 x.a1, .int .u64 x.a2, .int .u64 x.a3, .int .u64 x.a4, .int .u64 x.a5, .bool x.b3, .bool x.b5] 24))) (fun iv _ => 61 - (intOf iv).toNat)
        case atStart => exact ⟨0, by omega, rfl, Lib.hid (fun t t1 t2 => Nh.out t t1 (by omega)), rfl⟩
        case round =>
          obtain ⟨i, qi, rfl, Ni, rfl⟩ := hrel
          by_cases li : i < 60
          · have di : decide ((i : Int) < 60) = true := by rw [decide_eq_true_iff]; omega
            have wi : IntKind.i64.wrap ((i : Int) + 1) = (i : Int) + 1 := by rw [IntKind.wrap_i64]; omega
            have wi1 : IntKind.i64.wrap ((i : Int) * 60) = (i : Int) * 60 := by rw [IntKind.wrap_i64]; omega
            have wi2 : IntKind.i64.wrap ((h : Int) * 3600 + (i : Int) * 60) = (h : Int) * 3600 + (i : Int) * 60 := by rw [IntKind.wrap_i64]; omega
            have wi3 : IntKind.i64.wrap ((h : Int) * 3600 + (i : Int) * 60 + 59) = (h : Int) * 3600 + (i : Int) * 60 + 59 := by rw [IntKind.wrap_i64]; omega
            by_cases c0 : (h : Int) * 3600 + (i : Int) * 60 + 59 < a
            · have dc : decide ((h : Int) * 3600 + (i : Int) * 60 + 59 < a) = true := decide_eq_true c0
              go_wp2_with fail
              go_roundw
              case rel => exact ⟨i + 1, by omega, by go_num, Lib.hid (fun t t1 t2 => by
                  by_cases c : t < 3600 * (h : Int) + 60 * (i : Int)
                  · exact Ni.out t t1 c
                  · exact absurd t1 (by omega)), by first | rfl | trivial⟩
              case measure => simp [intOf] <;> omega
            · have dc : decide ((h : Int) * 3600 + (i : Int) * 60 + 59 < a) = false := decide_eq_false c0
              cases b1 : x.a1.testBit i with
              | false =>
                have HX := Lib.hid (HI.out i); rw [b1] at HX
                go_wp2_with (go_at_call 99; refine (HX.out _).mono ?_; rintro e V2 ⟨rfl, rfl⟩)
                go_roundw
                case rel => exact ⟨i + 1, by omega, by go_num, Lib.hid (fun t t1 t2 => by
                    by_cases c : t < 3600 * (h : Int) + 60 * (i : Int)
                    · exact Ni.out t t1 c
                    · exact ck_no_min b1 li (h := h) (by omega) (by omega)), by first | rfl | trivial⟩
                case measure => simp [intOf] <;> omega
              | true =>
                have HX := Lib.hid (HI.out i); rw [b1] at HX
                go_wp2_with (go_at_call 99; refine (HX.out _).mono ?_; rintro e V2 ⟨rfl, rfl⟩)
                clear HX c0 dc
                go_loopw [7] (fun iv wr => ∃ s : Nat, s ≤ 60 ∧ iv = .int .i64 s ∧ Hid (∀ t : Int, a ≤ t → t < 3600 * (h : Int) + 60 * (i : Int) + (s : Int) → ¬ Mat.Ck x.a2 x.a1 x.a0 t) ∧ wr = (w.alloc (.cells #[.int .u64 x.a0, .int .u64 x.a1, .int .u64 x.a2, .int .u64 x.a3, .int .u64 x.a4, .int .u64 x.a5, .bool x.b3, .bool x.b5] 24))) (fun iv _ => 61 - (intOf iv).toNat)
                case atStart => exact ⟨0, by omega, rfl, Lib.hid (fun t t1 t2 => Ni.out t t1 (by omega)), rfl⟩
                case round =>
                  obtain ⟨s, qs, rfl, Ns, rfl⟩ := hrel
                  by_cases ls : s < 60
                  · have ds : decide ((s : Int) < 60) = true := by rw [decide_eq_true_iff]; omega
                    have ws : IntKind.i64.wrap ((s : Int) + 1) = (s : Int) + 1 := by rw [IntKind.wrap_i64]; omega
                    have ws2 : IntKind.i64.wrap ((h : Int) * 3600 + (i : Int) * 60 + (s : Int)) = (h : Int) * 3600 + (i : Int) * 60 + (s : Int) := by rw [IntKind.wrap_i64]; omega
                    by_cases c0 : a ≤ (h : Int) * 3600 + (i : Int) * 60 + (s : Int)
                    · have dc : decide (a ≤ (h : Int) * 3600 + (i : Int) * 60 + (s : Int)) = true := decide_eq_true c0
                      cases b0 : x.a0.testBit s with
                      | true =>
                        have HX := Lib.hid (HS.out s); rw [b0] at HX
                        have R := Lib.hid (FND.out h i s lh li (by omega) b2 b1 b0 (by omega) (fun t t1 t2 => Ns.out t (by omega) (by omega)))
                        go_wp2_with (go_at_call 99; refine (HX.out _).mono ?_; rintro e V2 ⟨rfl, rfl⟩)
                        go_ret
                        exact ⟨by rw [R.out]; show _ = Ending.returned (.int .i64 (3600 * (h : Int) + 60 * (i : Int) + (s : Int))); rw [show 3600 * (h : Int) + 60 * (i : Int) + (s : Int) = (h : Int) * 3600 + (i : Int) * 60 + (s : Int) by omega]; rfl, HB.out⟩
                      | false =>
                        have HX := Lib.hid (HS.out s); rw [b0] at HX
                        go_wp2_with (go_at_call 99; refine (HX.out _).mono ?_; rintro e V2 ⟨rfl, rfl⟩)
                        go_roundw
                        case rel => exact ⟨s + 1, by omega, by go_num, Lib.hid (fun t t1 t2 => by
                            by_cases c : t < 3600 * (h : Int) + 60 * (i : Int) + (s : Int)
                            · exact Ns.out t t1 c
                            · exact ck_no_sec b0 (h := h) (i := i) (by omega) (by omega)), by first | rfl | trivial⟩
                        case measure => simp [intOf] <;> omega
                    · have dc : decide (a ≤ (h : Int) * 3600 + (i : Int) * 60 + (s : Int)) = false := decide_eq_false c0
                      go_wp2_with fail
                      go_roundw
                      case rel => exact ⟨s + 1, by omega, by go_num, Lib.hid (fun t t1 t2 => by
                          by_cases c : t < 3600 * (h : Int) + 60 * (i : Int) + (s : Int)
                          · exact Ns.out t t1 c
                          · exact absurd t1 (by omega)), by first | rfl | trivial⟩
                      case measure => simp [intOf] <;> omega
                  · have ds : decide ((s : Int) < 60) = false := by rw [decide_eq_false_iff_not]; omega
                    obtain rfl : s = 60 := by omega
                    go_wp2_with fail
                    go_roundw
                    case rel => exact ⟨i + 1, by omega, by go_num, Lib.hid (fun t t1 t2 => by
                        exact Ns.out t t1 (by omega)), by first | rfl | trivial⟩
                    case measure => simp [intOf] <;> omega
          · have di : decide ((i : Int) < 60) = false := by rw [decide_eq_false_iff_not]; omega
            obtain rfl : i = 60 := by omega
            go_wp2_with fail
            go_roundw
            case rel => exact ⟨h + 1, by omega, by go_num, Lib.hid (fun t t1 t2 => by
                exact Ni.out t t1 (by omega)), by first | rfl | trivial⟩
            case measure => simp [intOf] <;> omega
    · have dh : decide ((h : Int) < 24) = false := by rw [decide_eq_false_iff_not]; omega
      obtain rfl : h = 24 := by omega
      have R := Lib.hid (END.out (fun t t1 t2 => Nh.out t t1 (by omega)))
      go_wp2_with fail
      go_ret
      exact ⟨by rw [R.out]; rfl, HB.out⟩
end Go.Proofs.YtljackjcgfaanaaGreatDoor
/- Contracts of the document's program of chapter match: clock. -/
namespace Go.Proofs.YtljackjcgfaanaaGreatDoor
open Go.ChangeShapes Go.RowKit Go.Shelf

set_option maxRecDepth 100000 in
set_option maxHeartbeats 4000000 in
theorem rclock_any (x : Exp.Ex) (hx : x.Bd) (n : Int) (w : World) (h0 : 0 ≤ n) (h1 : n < 86400) :
    Calls Tryz.prog 56 #[.agg #[.int .u64 x.a0, .int .u64 x.a1, .int .u64 x.a2, .int .u64 x.a3, .int .u64 x.a4, .int .u64 x.a5, .bool x.b3, .bool x.b5], .int .i64 n] w fun e w' => e = .returned (.bool (Mat.clk x.a2 x.a1 x.a0 n)) ∧ Below w.heap.size w w' := by
  have d1 : IntKind.i64.wrap (n.tdiv 3600) = n / 3600 := by rw [Int.tdiv_eq_ediv_of_nonneg h0, IntKind.wrap_i64]; omega
  have d2 : IntKind.i64.wrap (n.tdiv 60) = n / 60 := by rw [Int.tdiv_eq_ediv_of_nonneg h0, IntKind.wrap_i64]; omega
  have d3 : (n / 60).tmod 60 = n / 60 % 60 := Int.tmod_eq_emod_of_nonneg (by omega)
  have d4 : n.tmod 60 = n % 60 := Int.tmod_eq_emod_of_nonneg h0
  obtain ⟨hh, e1⟩ : ∃ k : Nat, n / 3600 = k := ⟨(n / 3600).toNat, by omega⟩
  obtain ⟨i, e2⟩ : ∃ k : Nat, n / 60 % 60 = k := ⟨(n / 60 % 60).toNat, by omega⟩
  obtain ⟨s, e3⟩ : ∃ k : Nat, n % 60 = k := ⟨(n % 60).toNat, by omega⟩
  obtain ⟨dd, e4⟩ : ∃ k, n / 60 = k := ⟨_, rfl⟩
  have goal : Mat.clk x.a2 x.a1 x.a0 n = (x.a2.testBit hh && (x.a1.testBit i && x.a0.testBit s)) := by unfold Mat.clk; rw [e1, e2, e3]; rfl
  rw [goal]
  rw [e1] at d1; rw [e4] at d2 d3; rw [e4] at e2; rw [e2] at d3; rw [e3] at d4
  have HH := Lib.hid (fun w0 : World => has2 hx hh w0)
  have HI := Lib.hid (fun w0 : World => has1 hx i w0)
  have HS := Lib.hid (fun w0 : World => has0 hx s w0)
  obtain ⟨b2, g2⟩ : ∃ b, x.a2.testBit hh = b := ⟨_, rfl⟩
  obtain ⟨b1, g1⟩ : ∃ b, x.a1.testBit i = b := ⟨_, rfl⟩
  obtain ⟨b0, g0⟩ : ∃ b, x.a0.testBit s = b := ⟨_, rfl⟩
  rw [g2] at HH ⊢; rw [g1] at HI ⊢; rw [g0] at HS ⊢
  have HB := Lib.hid ((Below.refl _ w).alloc (Nat.le_refl _) (.cells #[.int .u64 x.a0, .int .u64 x.a1, .int .u64 x.a2, .int .u64 x.a3, .int .u64 x.a4, .int .u64 x.a5, .bool x.b3, .bool x.b5] 24))
  clear hx h0 h1 e1 e2 e3 e4 goal g2 g1 g0
  cases b2
  · go_enter Tryz.func56, Tryz.ntmps56
    go_wp2_with fail
    refine (HH.out _).mono ?_
    rintro e V2 ⟨rfl, rfl⟩
    go_wp2_with fail
    go_ret
    exact ⟨rfl, HB.out⟩
  · cases b1
    · go_enter Tryz.func56, Tryz.ntmps56
      go_wp2_with fail
      refine (HH.out _).mono ?_
      rintro e V2 ⟨rfl, rfl⟩
      go_wp2_with fail
      refine (HI.out _).mono ?_
      rintro e V2 ⟨rfl, rfl⟩
      go_wp2_with fail
      go_ret
      exact ⟨rfl, HB.out⟩
    · go_enter Tryz.func56, Tryz.ntmps56
      go_wp2_with fail
      refine (HH.out _).mono ?_
      rintro e V2 ⟨rfl, rfl⟩
      go_wp2_with fail
      refine (HI.out _).mono ?_
      rintro e V2 ⟨rfl, rfl⟩
      go_wp2_with fail
      refine (HS.out _).mono ?_
      rintro e V2 ⟨rfl, rfl⟩
      go_wp2_with fail
      go_ret
      exact ⟨rfl, HB.out⟩
end Go.Proofs.YtljackjcgfaanaaGreatDoor
/- Contracts of the document's program of chapter match: matches. -/
namespace Go.Proofs.YtljackjcgfaanaaGreatDoor
open Go.ChangeShapes Go.RowKit Go.Shelf

theorem hasT (S k : Nat) (hS : S < 2 ^ 64) (w0 : World) : Calls Tryz.prog 99 #[.int .u64 S, .int .i64 k] w0 fun e w' => e = .returned (.bool (S.testBit k)) ∧ w0 = w' := by
  have q := hasR_any S k w0 hS; rwa [has_nat hS] at q
set_option maxRecDepth 100000 in
set_option maxHeartbeats 4000000 in
theorem rmatches_any (x : Exp.Ex) (hx : x.Bd) (n y : Int) (m d k : Nat) (w : World) :
    Calls Tryz.prog 97 #[.agg #[.int .u64 x.a0, .int .u64 x.a1, .int .u64 x.a2, .int .u64 x.a3, .int .u64 x.a4, .int .u64 x.a5, .bool x.b3, .bool x.b5], .agg #[.int .i64 n, .int .i64 y, .int .i64 m, .int .i64 d, .int .i64 k]] w fun e w' => e = .returned (.bool (Mat.mt x.a4 x.a3 x.a5 x.b3 x.b5 m d k)) ∧ Below w.heap.size w w' := by
  have HX := Lib.hid (fun S k hS w0 => hasT S k hS w0)
  have h3 : x.a3 < 2 ^ 64 := hx 3 (by decide)
  have h4 : x.a4 < 2 ^ 64 := hx 4 (by decide)
  have h5 : x.a5 < 2 ^ 64 := hx 5 (by decide)
  obtain ⟨a0, a1, a2, a3, a4, a5, b3, b5⟩ := x
  dsimp only at h3 h4 h5 ⊢
  unfold Mat.mt
  have HB := Lib.hid (fun (o p : Obj) => ((Below.refl w.heap.size w).alloc (Nat.le_refl _) o).alloc (by simp) p)
  clear hx
  cases gm : a4.testBit m
  · go_enter Tryz.func97, Tryz.ntmps97
    go_wp2_with fail
    refine (HX.out _ _ h4 _).mono ?_
    rintro e V2 ⟨rfl, rfl⟩
    go_wp2_with fail
    all_goals
      go_ret
      exact ⟨rfl, HB.out _ _⟩
  · have GD : ∃ bd, a3.testBit d = bd := ⟨_, rfl⟩
    obtain ⟨bd, gd⟩ := GD
    have GK : ∃ bk, a5.testBit k = bk := ⟨_, rfl⟩
    obtain ⟨bk, gk⟩ := GK
    rw [gd, gk]
    have HC : (b3 = true ∧ b5 = true) ∨ (b3 = true ∧ b5 = false) ∨ (b3 = false ∧ b5 = true) ∨ (b3 = false ∧ b5 = false ∧ bd = true) ∨ (b3 = false ∧ b5 = false ∧ bd = false) := by cases b3 <;> cases b5 <;> cases bd <;> simp
    rcases HC with ⟨rfl, rfl⟩ | ⟨rfl, rfl⟩ | ⟨rfl, rfl⟩ | ⟨rfl, rfl, rfl⟩ | ⟨rfl, rfl, rfl⟩
    all_goals
      go_enter Tryz.func97, Tryz.ntmps97
      go_wp2_with fail
      refine (HX.out _ _ h4 _).mono ?_
      rintro e V2 ⟨rfl, rfl⟩
      go_wp2_with fail
      go_quiet (first | (go_at_call 99; exact Calls.quiet_of_same ((HX.out _ _ (by assumption) _).mono fun _ _ ⟨h1, h2⟩ => ⟨h1, h2.symm⟩)))
      go_wp2_with fail
      go_ret
      exact ⟨rfl, below_drewN' (HB.out _ _) _⟩
end Go.Proofs.YtljackjcgfaanaaGreatDoor
