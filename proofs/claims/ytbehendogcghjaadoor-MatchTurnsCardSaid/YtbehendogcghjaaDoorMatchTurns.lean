/- For every expression, zone and time, MatchTurns returns true: the next time of the one before is t itself if that is matched, and one behind it otherwise; the one before of the next one likewise. Condition: the program's tables start as its text lays them (tied). -/
import Derived.Test.YtbehendogcghjaaDoorMatCx
namespace Go.Proofs.YtbehendogcghjaaDoor.matchTurns
open Go.ChangeShapes Go.WideShapes Go.ChangeAt Go.RowKit Go.ChangeMaps

set_option maxRecDepth 100000 in
set_option maxHeartbeats 4000000 in
theorem walk_err (x : Exp.Ex) (z t e : Int) (w : World) (L : LayM w) (hx : x.Bd) (he : errC x z [t] = e) (h0 : e ≠ 0) :
    Calls Tryd.prog 8 #[.agg #[.int .u64 x.a0, .int .u64 x.a1, .int .u64 x.a2, .int .u64 x.a3, .int .u64 x.a4, .int .u64 x.a5, .bool x.b3, .bool x.b5], .int .i64 z, .int .i64 t] w fun e w' => e = .returned (.bool true) ∧ Below w.heap.size w w' := by
  have t1 : (e != 0) = true := by simpa using h0
  have Q := Lib.hid ((MC.start L).box x)
  have IS := Lib.hid (fun l W (h : MC w l W) => h.is x hx z t false e (isO_no (by rw [he]; exact h0)) he)
  clear hx he h0 L
  go_enter Tryd.func8, Tryd.ntmps8
  go_wp2_with fail
  refine (IS.out _ _ Q.out).mono ?_
  rintro e' wc1 ⟨rfl, q⟩
  obtain ⟨B, hB⟩ : ∃ B, w.heap.size = B := ⟨_, rfl⟩
  rw [hB] at q
  obtain ⟨c0, c1, c2, c3, c4, c5, c6, c7⟩ := q.cells B x (by simp)
  have Q := Lib.hid q
  clear q
  go_wp2_with fail
  refine (MC.works Q.out).mono ?_
  rintro e' wc2 ⟨rfl, q⟩
  have Q := Lib.hid q
  clear q
  go_wp2_with fail
  go_ret
  exact ⟨rfl, Q.out.below⟩
set_option maxRecDepth 100000 in
set_option maxHeartbeats 4000000 in
theorem walk_000 (x : Exp.Ex) (z t : Int) (w : World) (L : LayM w) (hx : x.Bd) (he : errC x z [t] = 0) (h1 : isO x z t = false) (h2 : prevO x z t = none) (h3 : nextO x z t = none) :
    Calls Tryd.prog 8 #[.agg #[.int .u64 x.a0, .int .u64 x.a1, .int .u64 x.a2, .int .u64 x.a3, .int .u64 x.a4, .int .u64 x.a5, .bool x.b3, .bool x.b5], .int .i64 z, .int .i64 t] w fun e w' => e = .returned (.bool true) ∧ Below w.heap.size w w' := by
  have Q := Lib.hid ((MC.start L).box x)
  have IS := Lib.hid (fun l W (h : MC w l W) => h.is x hx z t false 0 h1 he)
  have PV := Lib.hid (fun l W (h : MC w l W) => h.toPrev x hx z t 0 false 0 (by rw [h2]; rfl) (by rw [h2]; rfl) he)
  have NX := Lib.hid (fun l W (h : MC w l W) => h.toNext x hx z t 0 false 0 (by rw [h3]; rfl) (by rw [h3]; rfl) he)
  clear hx he h1 h2 h3 L
  go_enter Tryd.func8, Tryd.ntmps8
  go_wp2_with fail
  refine (IS.out _ _ Q.out).mono ?_
  rintro e' wc3 ⟨rfl, q⟩
  obtain ⟨B, hB⟩ : ∃ B, w.heap.size = B := ⟨_, rfl⟩
  rw [hB] at q
  obtain ⟨c0, c1, c2, c3, c4, c5, c6, c7⟩ := q.cells B x (by simp)
  have Q := Lib.hid q
  clear q
  go_wp2_with fail
  refine (PV.out _ _ Q.out).mono ?_
  rintro e' wc4 ⟨rfl, q⟩
  obtain ⟨c0, c1, c2, c3, c4, c5, c6, c7⟩ := q.cells B x (by simp)
  have Q := Lib.hid q
  clear q
  go_wp2_with fail
  refine (NX.out _ _ Q.out).mono ?_
  rintro e' wc5 ⟨rfl, q⟩
  obtain ⟨c0, c1, c2, c3, c4, c5, c6, c7⟩ := q.cells B x (by simp)
  have Q := Lib.hid q
  clear q
  go_wp2_with fail
  refine (MC.works Q.out).mono ?_
  rintro e' wc6 ⟨rfl, q⟩
  have Q := Lib.hid q
  clear q
  go_wp2_with fail
  go_ret
  exact ⟨rfl, Q.out.below⟩
set_option maxRecDepth 100000 in
set_option maxHeartbeats 4000000 in
theorem walk_001 (x : Exp.Ex) (z t n : Int) (w : World) (L : LayM w) (hx : x.Bd) (he : errC x z [t] = 0) (h1 : isO x z t = false) (h2 : prevO x z t = none) (h3 : nextO x z t = some n) (lt2 : t < n) (hn : prevO x z n = none) (en : errC x z [n] = 0) :
    Calls Tryd.prog 8 #[.agg #[.int .u64 x.a0, .int .u64 x.a1, .int .u64 x.a2, .int .u64 x.a3, .int .u64 x.a4, .int .u64 x.a5, .bool x.b3, .bool x.b5], .int .i64 z, .int .i64 t] w fun e w' => e = .returned (.bool true) ∧ Below w.heap.size w w' := by
  have Q := Lib.hid ((MC.start L).box x)
  have IS := Lib.hid (fun l W (h : MC w l W) => h.is x hx z t false 0 h1 he)
  have PV := Lib.hid (fun l W (h : MC w l W) => h.toPrev x hx z t 0 false 0 (by rw [h2]; rfl) (by rw [h2]; rfl) he)
  have NX := Lib.hid (fun l W (h : MC w l W) => h.toNext x hx z t n true 0 (by rw [h3]; rfl) (by rw [h3]; rfl) he)
  have t2 : decide (n ≤ t) = false := by rw [decide_eq_false_iff_not]; omega
  have PN := Lib.hid (fun l W (h : MC w l W) => h.toPrev x hx z n 0 false 0 (by rw [hn]; rfl) (by rw [hn]; rfl) en)
  clear hx he h1 h2 h3 L hn en lt2
  go_enter Tryd.func8, Tryd.ntmps8
  go_wp2_with fail
  refine (IS.out _ _ Q.out).mono ?_
  rintro e' wc7 ⟨rfl, q⟩
  obtain ⟨B, hB⟩ : ∃ B, w.heap.size = B := ⟨_, rfl⟩
  rw [hB] at q
  obtain ⟨c0, c1, c2, c3, c4, c5, c6, c7⟩ := q.cells B x (by simp)
  have Q := Lib.hid q
  clear q
  go_wp2_with fail
  refine (PV.out _ _ Q.out).mono ?_
  rintro e' wc8 ⟨rfl, q⟩
  obtain ⟨c0, c1, c2, c3, c4, c5, c6, c7⟩ := q.cells B x (by simp)
  have Q := Lib.hid q
  clear q
  go_wp2_with fail
  refine (NX.out _ _ Q.out).mono ?_
  rintro e' wc9 ⟨rfl, q⟩
  obtain ⟨c0, c1, c2, c3, c4, c5, c6, c7⟩ := q.cells B x (by simp)
  have Q := Lib.hid q
  clear q
  go_wp2_with fail
  refine (PN.out _ _ Q.out).mono ?_
  rintro e' wc10 ⟨rfl, q⟩
  obtain ⟨c0, c1, c2, c3, c4, c5, c6, c7⟩ := q.cells B x (by simp)
  have Q := Lib.hid q
  clear q
  go_wp2_with fail
  refine (MC.works Q.out).mono ?_
  rintro e' wc11 ⟨rfl, q⟩
  have Q := Lib.hid q
  clear q
  go_wp2_with fail
  go_ret
  exact ⟨rfl, Q.out.below⟩
set_option maxRecDepth 100000 in
set_option maxHeartbeats 4000000 in
theorem walk_010 (x : Exp.Ex) (z t p : Int) (w : World) (L : LayM w) (hx : x.Bd) (he : errC x z [t] = 0) (h1 : isO x z t = false) (h2 : prevO x z t = some p) (h3 : nextO x z t = none) (lt1 : p < t) (hp : nextO x z p = none) (ep : errC x z [p] = 0) :
    Calls Tryd.prog 8 #[.agg #[.int .u64 x.a0, .int .u64 x.a1, .int .u64 x.a2, .int .u64 x.a3, .int .u64 x.a4, .int .u64 x.a5, .bool x.b3, .bool x.b5], .int .i64 z, .int .i64 t] w fun e w' => e = .returned (.bool true) ∧ Below w.heap.size w w' := by
  have Q := Lib.hid ((MC.start L).box x)
  have IS := Lib.hid (fun l W (h : MC w l W) => h.is x hx z t false 0 h1 he)
  have PV := Lib.hid (fun l W (h : MC w l W) => h.toPrev x hx z t p true 0 (by rw [h2]; rfl) (by rw [h2]; rfl) he)
  have NX := Lib.hid (fun l W (h : MC w l W) => h.toNext x hx z t 0 false 0 (by rw [h3]; rfl) (by rw [h3]; rfl) he)
  have t1 : decide (t ≤ p) = false := by rw [decide_eq_false_iff_not]; omega
  have NP := Lib.hid (fun l W (h : MC w l W) => h.toNext x hx z p 0 false 0 (by rw [hp]; rfl) (by rw [hp]; rfl) ep)
  clear hx he h1 h2 h3 L hp ep lt1
  go_enter Tryd.func8, Tryd.ntmps8
  go_wp2_with fail
  refine (IS.out _ _ Q.out).mono ?_
  rintro e' wc12 ⟨rfl, q⟩
  obtain ⟨B, hB⟩ : ∃ B, w.heap.size = B := ⟨_, rfl⟩
  rw [hB] at q
  obtain ⟨c0, c1, c2, c3, c4, c5, c6, c7⟩ := q.cells B x (by simp)
  have Q := Lib.hid q
  clear q
  go_wp2_with fail
  refine (PV.out _ _ Q.out).mono ?_
  rintro e' wc13 ⟨rfl, q⟩
  obtain ⟨c0, c1, c2, c3, c4, c5, c6, c7⟩ := q.cells B x (by simp)
  have Q := Lib.hid q
  clear q
  go_wp2_with fail
  refine (NX.out _ _ Q.out).mono ?_
  rintro e' wc14 ⟨rfl, q⟩
  obtain ⟨c0, c1, c2, c3, c4, c5, c6, c7⟩ := q.cells B x (by simp)
  have Q := Lib.hid q
  clear q
  go_wp2_with fail
  refine (NP.out _ _ Q.out).mono ?_
  rintro e' wc15 ⟨rfl, q⟩
  obtain ⟨c0, c1, c2, c3, c4, c5, c6, c7⟩ := q.cells B x (by simp)
  have Q := Lib.hid q
  clear q
  go_wp2_with fail
  refine (MC.works Q.out).mono ?_
  rintro e' wc16 ⟨rfl, q⟩
  have Q := Lib.hid q
  clear q
  go_wp2_with fail
  go_ret
  exact ⟨rfl, Q.out.below⟩
set_option maxRecDepth 100000 in
set_option maxHeartbeats 4000000 in
theorem walk_011 (x : Exp.Ex) (z t p n : Int) (w : World) (L : LayM w) (hx : x.Bd) (he : errC x z [t] = 0) (h1 : isO x z t = false) (h2 : prevO x z t = some p) (h3 : nextO x z t = some n) (lt1 : p < t) (hp : nextO x z p = some n) (ep : errC x z [p] = 0) (lt2 : t < n) (hn : prevO x z n = some p) (en : errC x z [n] = 0) :
    Calls Tryd.prog 8 #[.agg #[.int .u64 x.a0, .int .u64 x.a1, .int .u64 x.a2, .int .u64 x.a3, .int .u64 x.a4, .int .u64 x.a5, .bool x.b3, .bool x.b5], .int .i64 z, .int .i64 t] w fun e w' => e = .returned (.bool true) ∧ Below w.heap.size w w' := by
  have Q := Lib.hid ((MC.start L).box x)
  have IS := Lib.hid (fun l W (h : MC w l W) => h.is x hx z t false 0 h1 he)
  have PV := Lib.hid (fun l W (h : MC w l W) => h.toPrev x hx z t p true 0 (by rw [h2]; rfl) (by rw [h2]; rfl) he)
  have NX := Lib.hid (fun l W (h : MC w l W) => h.toNext x hx z t n true 0 (by rw [h3]; rfl) (by rw [h3]; rfl) he)
  have t1 : decide (t ≤ p) = false := by rw [decide_eq_false_iff_not]; omega
  have NP := Lib.hid (fun l W (h : MC w l W) => h.toNext x hx z p n true 0 (by rw [hp]; rfl) (by rw [hp]; rfl) ep)
  have t2 : decide (n ≤ t) = false := by rw [decide_eq_false_iff_not]; omega
  have PN := Lib.hid (fun l W (h : MC w l W) => h.toPrev x hx z n p true 0 (by rw [hn]; rfl) (by rw [hn]; rfl) en)
  clear hx he h1 h2 h3 L hp ep lt1 hn en lt2
  go_enter Tryd.func8, Tryd.ntmps8
  go_wp2_with fail
  refine (IS.out _ _ Q.out).mono ?_
  rintro e' wc17 ⟨rfl, q⟩
  obtain ⟨B, hB⟩ : ∃ B, w.heap.size = B := ⟨_, rfl⟩
  rw [hB] at q
  obtain ⟨c0, c1, c2, c3, c4, c5, c6, c7⟩ := q.cells B x (by simp)
  have Q := Lib.hid q
  clear q
  go_wp2_with fail
  refine (PV.out _ _ Q.out).mono ?_
  rintro e' wc18 ⟨rfl, q⟩
  obtain ⟨c0, c1, c2, c3, c4, c5, c6, c7⟩ := q.cells B x (by simp)
  have Q := Lib.hid q
  clear q
  go_wp2_with fail
  refine (NX.out _ _ Q.out).mono ?_
  rintro e' wc19 ⟨rfl, q⟩
  obtain ⟨c0, c1, c2, c3, c4, c5, c6, c7⟩ := q.cells B x (by simp)
  have Q := Lib.hid q
  clear q
  go_wp2_with fail
  refine (NP.out _ _ Q.out).mono ?_
  rintro e' wc20 ⟨rfl, q⟩
  obtain ⟨c0, c1, c2, c3, c4, c5, c6, c7⟩ := q.cells B x (by simp)
  have Q := Lib.hid q
  clear q
  go_wp2_with fail
  refine (PN.out _ _ Q.out).mono ?_
  rintro e' wc21 ⟨rfl, q⟩
  obtain ⟨c0, c1, c2, c3, c4, c5, c6, c7⟩ := q.cells B x (by simp)
  have Q := Lib.hid q
  clear q
  go_wp2_with fail
  refine (MC.works Q.out).mono ?_
  rintro e' wc22 ⟨rfl, q⟩
  have Q := Lib.hid q
  clear q
  go_wp2_with fail
  go_ret
  exact ⟨rfl, Q.out.below⟩
set_option maxRecDepth 100000 in
set_option maxHeartbeats 4000000 in
theorem walk_100 (x : Exp.Ex) (z t : Int) (w : World) (L : LayM w) (hx : x.Bd) (he : errC x z [t] = 0) (h1 : isO x z t = true) (h2 : prevO x z t = none) (h3 : nextO x z t = none) :
    Calls Tryd.prog 8 #[.agg #[.int .u64 x.a0, .int .u64 x.a1, .int .u64 x.a2, .int .u64 x.a3, .int .u64 x.a4, .int .u64 x.a5, .bool x.b3, .bool x.b5], .int .i64 z, .int .i64 t] w fun e w' => e = .returned (.bool true) ∧ Below w.heap.size w w' := by
  have Q := Lib.hid ((MC.start L).box x)
  have IS := Lib.hid (fun l W (h : MC w l W) => h.is x hx z t true 0 h1 he)
  have PV := Lib.hid (fun l W (h : MC w l W) => h.toPrev x hx z t 0 false 0 (by rw [h2]; rfl) (by rw [h2]; rfl) he)
  have NX := Lib.hid (fun l W (h : MC w l W) => h.toNext x hx z t 0 false 0 (by rw [h3]; rfl) (by rw [h3]; rfl) he)
  clear hx he h1 h2 h3 L
  go_enter Tryd.func8, Tryd.ntmps8
  go_wp2_with fail
  refine (IS.out _ _ Q.out).mono ?_
  rintro e' wc23 ⟨rfl, q⟩
  obtain ⟨B, hB⟩ : ∃ B, w.heap.size = B := ⟨_, rfl⟩
  rw [hB] at q
  obtain ⟨c0, c1, c2, c3, c4, c5, c6, c7⟩ := q.cells B x (by simp)
  have Q := Lib.hid q
  clear q
  go_wp2_with fail
  refine (PV.out _ _ Q.out).mono ?_
  rintro e' wc24 ⟨rfl, q⟩
  obtain ⟨c0, c1, c2, c3, c4, c5, c6, c7⟩ := q.cells B x (by simp)
  have Q := Lib.hid q
  clear q
  go_wp2_with fail
  refine (NX.out _ _ Q.out).mono ?_
  rintro e' wc25 ⟨rfl, q⟩
  obtain ⟨c0, c1, c2, c3, c4, c5, c6, c7⟩ := q.cells B x (by simp)
  have Q := Lib.hid q
  clear q
  go_wp2_with fail
  refine (MC.works Q.out).mono ?_
  rintro e' wc26 ⟨rfl, q⟩
  have Q := Lib.hid q
  clear q
  go_wp2_with fail
  go_ret
  exact ⟨rfl, Q.out.below⟩
set_option maxRecDepth 100000 in
set_option maxHeartbeats 4000000 in
theorem walk_101 (x : Exp.Ex) (z t n : Int) (w : World) (L : LayM w) (hx : x.Bd) (he : errC x z [t] = 0) (h1 : isO x z t = true) (h2 : prevO x z t = none) (h3 : nextO x z t = some n) (lt2 : t < n) (hn : prevO x z n = some t) (en : errC x z [n] = 0) :
    Calls Tryd.prog 8 #[.agg #[.int .u64 x.a0, .int .u64 x.a1, .int .u64 x.a2, .int .u64 x.a3, .int .u64 x.a4, .int .u64 x.a5, .bool x.b3, .bool x.b5], .int .i64 z, .int .i64 t] w fun e w' => e = .returned (.bool true) ∧ Below w.heap.size w w' := by
  have Q := Lib.hid ((MC.start L).box x)
  have IS := Lib.hid (fun l W (h : MC w l W) => h.is x hx z t true 0 h1 he)
  have PV := Lib.hid (fun l W (h : MC w l W) => h.toPrev x hx z t 0 false 0 (by rw [h2]; rfl) (by rw [h2]; rfl) he)
  have NX := Lib.hid (fun l W (h : MC w l W) => h.toNext x hx z t n true 0 (by rw [h3]; rfl) (by rw [h3]; rfl) he)
  have t2 : decide (n ≤ t) = false := by rw [decide_eq_false_iff_not]; omega
  have PN := Lib.hid (fun l W (h : MC w l W) => h.toPrev x hx z n t true 0 (by rw [hn]; rfl) (by rw [hn]; rfl) en)
  clear hx he h1 h2 h3 L hn en lt2
  go_enter Tryd.func8, Tryd.ntmps8
  go_wp2_with fail
  refine (IS.out _ _ Q.out).mono ?_
  rintro e' wc27 ⟨rfl, q⟩
  obtain ⟨B, hB⟩ : ∃ B, w.heap.size = B := ⟨_, rfl⟩
  rw [hB] at q
  obtain ⟨c0, c1, c2, c3, c4, c5, c6, c7⟩ := q.cells B x (by simp)
  have Q := Lib.hid q
  clear q
  go_wp2_with fail
  refine (PV.out _ _ Q.out).mono ?_
  rintro e' wc28 ⟨rfl, q⟩
  obtain ⟨c0, c1, c2, c3, c4, c5, c6, c7⟩ := q.cells B x (by simp)
  have Q := Lib.hid q
  clear q
  go_wp2_with fail
  refine (NX.out _ _ Q.out).mono ?_
  rintro e' wc29 ⟨rfl, q⟩
  obtain ⟨c0, c1, c2, c3, c4, c5, c6, c7⟩ := q.cells B x (by simp)
  have Q := Lib.hid q
  clear q
  go_wp2_with fail
  refine (PN.out _ _ Q.out).mono ?_
  rintro e' wc30 ⟨rfl, q⟩
  obtain ⟨c0, c1, c2, c3, c4, c5, c6, c7⟩ := q.cells B x (by simp)
  have Q := Lib.hid q
  clear q
  go_wp2_with fail
  refine (MC.works Q.out).mono ?_
  rintro e' wc31 ⟨rfl, q⟩
  have Q := Lib.hid q
  clear q
  go_wp2_with fail
  go_ret
  exact ⟨rfl, Q.out.below⟩
set_option maxRecDepth 100000 in
set_option maxHeartbeats 4000000 in
theorem walk_110 (x : Exp.Ex) (z t p : Int) (w : World) (L : LayM w) (hx : x.Bd) (he : errC x z [t] = 0) (h1 : isO x z t = true) (h2 : prevO x z t = some p) (h3 : nextO x z t = none) (lt1 : p < t) (hp : nextO x z p = some t) (ep : errC x z [p] = 0) :
    Calls Tryd.prog 8 #[.agg #[.int .u64 x.a0, .int .u64 x.a1, .int .u64 x.a2, .int .u64 x.a3, .int .u64 x.a4, .int .u64 x.a5, .bool x.b3, .bool x.b5], .int .i64 z, .int .i64 t] w fun e w' => e = .returned (.bool true) ∧ Below w.heap.size w w' := by
  have Q := Lib.hid ((MC.start L).box x)
  have IS := Lib.hid (fun l W (h : MC w l W) => h.is x hx z t true 0 h1 he)
  have PV := Lib.hid (fun l W (h : MC w l W) => h.toPrev x hx z t p true 0 (by rw [h2]; rfl) (by rw [h2]; rfl) he)
  have NX := Lib.hid (fun l W (h : MC w l W) => h.toNext x hx z t 0 false 0 (by rw [h3]; rfl) (by rw [h3]; rfl) he)
  have t1 : decide (t ≤ p) = false := by rw [decide_eq_false_iff_not]; omega
  have NP := Lib.hid (fun l W (h : MC w l W) => h.toNext x hx z p t true 0 (by rw [hp]; rfl) (by rw [hp]; rfl) ep)
  clear hx he h1 h2 h3 L hp ep lt1
  go_enter Tryd.func8, Tryd.ntmps8
  go_wp2_with fail
  refine (IS.out _ _ Q.out).mono ?_
  rintro e' wc32 ⟨rfl, q⟩
  obtain ⟨B, hB⟩ : ∃ B, w.heap.size = B := ⟨_, rfl⟩
  rw [hB] at q
  obtain ⟨c0, c1, c2, c3, c4, c5, c6, c7⟩ := q.cells B x (by simp)
  have Q := Lib.hid q
  clear q
  go_wp2_with fail
  refine (PV.out _ _ Q.out).mono ?_
  rintro e' wc33 ⟨rfl, q⟩
  obtain ⟨c0, c1, c2, c3, c4, c5, c6, c7⟩ := q.cells B x (by simp)
  have Q := Lib.hid q
  clear q
  go_wp2_with fail
  refine (NX.out _ _ Q.out).mono ?_
  rintro e' wc34 ⟨rfl, q⟩
  obtain ⟨c0, c1, c2, c3, c4, c5, c6, c7⟩ := q.cells B x (by simp)
  have Q := Lib.hid q
  clear q
  go_wp2_with fail
  refine (NP.out _ _ Q.out).mono ?_
  rintro e' wc35 ⟨rfl, q⟩
  obtain ⟨c0, c1, c2, c3, c4, c5, c6, c7⟩ := q.cells B x (by simp)
  have Q := Lib.hid q
  clear q
  go_wp2_with fail
  refine (MC.works Q.out).mono ?_
  rintro e' wc36 ⟨rfl, q⟩
  have Q := Lib.hid q
  clear q
  go_wp2_with fail
  go_ret
  exact ⟨rfl, Q.out.below⟩
set_option maxRecDepth 100000 in
set_option maxHeartbeats 4000000 in
theorem walk_111 (x : Exp.Ex) (z t p n : Int) (w : World) (L : LayM w) (hx : x.Bd) (he : errC x z [t] = 0) (h1 : isO x z t = true) (h2 : prevO x z t = some p) (h3 : nextO x z t = some n) (lt1 : p < t) (hp : nextO x z p = some t) (ep : errC x z [p] = 0) (lt2 : t < n) (hn : prevO x z n = some t) (en : errC x z [n] = 0) :
    Calls Tryd.prog 8 #[.agg #[.int .u64 x.a0, .int .u64 x.a1, .int .u64 x.a2, .int .u64 x.a3, .int .u64 x.a4, .int .u64 x.a5, .bool x.b3, .bool x.b5], .int .i64 z, .int .i64 t] w fun e w' => e = .returned (.bool true) ∧ Below w.heap.size w w' := by
  have Q := Lib.hid ((MC.start L).box x)
  have IS := Lib.hid (fun l W (h : MC w l W) => h.is x hx z t true 0 h1 he)
  have PV := Lib.hid (fun l W (h : MC w l W) => h.toPrev x hx z t p true 0 (by rw [h2]; rfl) (by rw [h2]; rfl) he)
  have NX := Lib.hid (fun l W (h : MC w l W) => h.toNext x hx z t n true 0 (by rw [h3]; rfl) (by rw [h3]; rfl) he)
  have t1 : decide (t ≤ p) = false := by rw [decide_eq_false_iff_not]; omega
  have NP := Lib.hid (fun l W (h : MC w l W) => h.toNext x hx z p t true 0 (by rw [hp]; rfl) (by rw [hp]; rfl) ep)
  have t2 : decide (n ≤ t) = false := by rw [decide_eq_false_iff_not]; omega
  have PN := Lib.hid (fun l W (h : MC w l W) => h.toPrev x hx z n t true 0 (by rw [hn]; rfl) (by rw [hn]; rfl) en)
  clear hx he h1 h2 h3 L hp ep lt1 hn en lt2
  go_enter Tryd.func8, Tryd.ntmps8
  go_wp2_with fail
  refine (IS.out _ _ Q.out).mono ?_
  rintro e' wc37 ⟨rfl, q⟩
  obtain ⟨B, hB⟩ : ∃ B, w.heap.size = B := ⟨_, rfl⟩
  rw [hB] at q
  obtain ⟨c0, c1, c2, c3, c4, c5, c6, c7⟩ := q.cells B x (by simp)
  have Q := Lib.hid q
  clear q
  go_wp2_with fail
  refine (PV.out _ _ Q.out).mono ?_
  rintro e' wc38 ⟨rfl, q⟩
  obtain ⟨c0, c1, c2, c3, c4, c5, c6, c7⟩ := q.cells B x (by simp)
  have Q := Lib.hid q
  clear q
  go_wp2_with fail
  refine (NX.out _ _ Q.out).mono ?_
  rintro e' wc39 ⟨rfl, q⟩
  obtain ⟨c0, c1, c2, c3, c4, c5, c6, c7⟩ := q.cells B x (by simp)
  have Q := Lib.hid q
  clear q
  go_wp2_with fail
  refine (NP.out _ _ Q.out).mono ?_
  rintro e' wc40 ⟨rfl, q⟩
  obtain ⟨c0, c1, c2, c3, c4, c5, c6, c7⟩ := q.cells B x (by simp)
  have Q := Lib.hid q
  clear q
  go_wp2_with fail
  refine (PN.out _ _ Q.out).mono ?_
  rintro e' wc41 ⟨rfl, q⟩
  obtain ⟨c0, c1, c2, c3, c4, c5, c6, c7⟩ := q.cells B x (by simp)
  have Q := Lib.hid q
  clear q
  go_wp2_with fail
  refine (MC.works Q.out).mono ?_
  rintro e' wc42 ⟨rfl, q⟩
  have Q := Lib.hid q
  clear q
  go_wp2_with fail
  go_ret
  exact ⟨rfl, Q.out.below⟩
theorem next_prev {x : Exp.Ex} {z t p : Int} (h : errC x z [t] = 0) (hp : prevO x z t = some p) : errC x z [p] = 0 ∧ p < t ∧ nextO x z p = (if isO x z t = true then some t else nextO x z t) := by
  obtain ⟨hk, hz, ht⟩ := errC_one h
  have m := prevO_is h
  rw [hp] at m
  obtain ⟨m1, m2, m3, m4⟩ := m
  have ep : errC x z [p] = 0 := errC_mk hk hz (fun s hs => by
    have : s = p := by simpa using hs
    omega)
  refine ⟨ep, by omega, ?_⟩
  refine Mat.Least.uniq (nextO_is ep) ?_
  have gap : ∀ y, p < y → y < t → ¬ x.Lm (y + 60 * z) := fun y a b => m4 y a (by omega)
  split
  · rename_i hi
    exact ⟨by omega, by omega, (isO_iff h).1 hi, fun y a b => gap y (by omega) b⟩
  · rename_i hi
    have nt : ¬ x.Lm (t + 60 * z) := fun q => hi ((isO_iff h).2 q)
    have l := nextO_is h
    cases hq : nextO x z t with
    | none =>
      rw [hq] at l
      intro y a b
      by_cases c : y < t
      · exact gap y (by omega) c
      · by_cases d : y = t
        · rw [d]; exact nt
        · exact l y (by omega) b
    | some n =>
      rw [hq] at l
      obtain ⟨l1, l2, l3, l4⟩ := l
      refine ⟨by omega, l2, l3, fun y a b => ?_⟩
      by_cases c : y < t
      · exact gap y (by omega) c
      · by_cases d : y = t
        · rw [d]; exact nt
        · exact l4 y (by omega) b
theorem prev_next {x : Exp.Ex} {z t n : Int} (h : errC x z [t] = 0) (hn : nextO x z t = some n) : errC x z [n] = 0 ∧ t < n ∧ prevO x z n = (if isO x z t = true then some t else prevO x z t) := by
  obtain ⟨hk, hz, ht⟩ := errC_one h
  have m := nextO_is h
  rw [hn] at m
  obtain ⟨m1, m2, m3, m4⟩ := m
  have en : errC x z [n] = 0 := errC_mk hk hz (fun s hs => by
    have : s = n := by simpa using hs
    omega)
  refine ⟨en, by omega, ?_⟩
  refine Mat.Most.uniq (prevO_is en) ?_
  have gap : ∀ y, t < y → y < n → ¬ x.Lm (y + 60 * z) := fun y a b => m4 y (by omega) b
  split
  · rename_i hi
    exact ⟨by omega, by omega, (isO_iff h).1 hi, fun y a b => gap y a (by omega)⟩
  · rename_i hi
    have nt : ¬ x.Lm (t + 60 * z) := fun q => hi ((isO_iff h).2 q)
    have l := prevO_is h
    cases hq : prevO x z t with
    | none =>
      rw [hq] at l
      intro y a b
      by_cases c : t < y
      · exact gap y c (by omega)
      · by_cases d : y = t
        · rw [d]; exact nt
        · exact l y a (by omega)
    | some p =>
      rw [hq] at l
      obtain ⟨l1, l2, l3, l4⟩ := l
      refine ⟨l1, by omega, l3, fun y a b => ?_⟩
      by_cases c : t < y
      · exact gap y c (by omega)
      · by_cases d : y = t
        · rw [d]; exact nt
        · exact l4 y a (by omega)
theorem walk (x : Exp.Ex) (z t : Int) (w : World) (L : LayM w) (hx : x.Bd) (_ : (Lit.int .i64 z).wf = true) (_ : (Lit.int .i64 t).wf = true) :
    Calls Tryd.prog 8 #[.agg #[.int .u64 x.a0, .int .u64 x.a1, .int .u64 x.a2, .int .u64 x.a3, .int .u64 x.a4, .int .u64 x.a5, .bool x.b3, .bool x.b5], .int .i64 z, .int .i64 t] w fun e w' => e = .returned (.bool true) ∧ Below w.heap.size w w' := by
  by_cases h : errC x z [t] = 0
  · cases hi : isO x z t <;> cases hp : prevO x z t <;> cases hn : nextO x z t
    · exact walk_000 x z t  w L hx h hi hp hn 
    · obtain ⟨en, lt2, pn⟩ := prev_next h hn; rw [hi, hp] at pn; exact walk_001 x z t _ w L hx h hi hp hn lt2 (by simpa using pn) en
    · obtain ⟨ep, lt1, np⟩ := next_prev h hp; rw [hi, hn] at np; exact walk_010 x z t _ w L hx h hi hp hn lt1 (by simpa using np) ep
    · obtain ⟨ep, lt1, np⟩ := next_prev h hp; rw [hi, hn] at np; obtain ⟨en, lt2, pn⟩ := prev_next h hn; rw [hi, hp] at pn; exact walk_011 x z t _ _ w L hx h hi hp hn lt1 (by simpa using np) ep lt2 (by simpa using pn) en
    · exact walk_100 x z t  w L hx h hi hp hn 
    · obtain ⟨en, lt2, pn⟩ := prev_next h hn; rw [hi] at pn; exact walk_101 x z t _ w L hx h hi hp hn lt2 (by simpa using pn) en
    · obtain ⟨ep, lt1, np⟩ := next_prev h hp; rw [hi] at np; exact walk_110 x z t _ w L hx h hi hp hn lt1 (by simpa using np) ep
    · obtain ⟨ep, lt1, np⟩ := next_prev h hp; rw [hi] at np; obtain ⟨en, lt2, pn⟩ := prev_next h hn; rw [hi] at pn; exact walk_111 x z t _ _ w L hx h hi hp hn lt1 (by simpa using np) ep lt2 (by simpa using pn) en
  · exact walk_err x z t _ w L hx rfl h

set_option maxRecDepth 100000 in
theorem lifted (os : Os) (started : os.Started) (H : Type) (enc : TypeId × Value → H) :
    ReturnsInHanded {} Tryd.checked os 8 .any (fun w args => (Rows.matchTurnsSpec.pre enc Tryd.prog Tryd.f8 [] false w args ∧ laidMetH Tryd.prog Rows.matchTurnsRow.laid w) ∧ sizedMet enc Tryd.prog Tryd.f8 (OpenSpec.ofChange Rows.matchTurnsSpec) false w args)
      (Rows.matchTurnsSpec.post enc Tryd.prog Tryd.f8 false true false false) := by
  refine returnsInHanded_of_change_and (C := Tryd.checked) (X := fun w _ => laidMetH Tryd.prog Rows.matchTurnsRow.laid w) (fun _ _ _ hh h => h.of_heap hh) own started (by kernel_rfl) Tryd.func8
    (ChangeSpec.witness_shaped (enc := enc) (C := Tryd.checked) (os := os) (X := fun w _ => laidMetH Tryd.prog Rows.matchTurnsRow.laid w) false (World.laidAll Tryd.prog os Rows.matchTurnsRow.laid) #[.agg #[.int .u64 0, .int .u64 0, .int .u64 0, .int .u64 0, .int .u64 0, .int .u64 0, .bool false, .bool false], .int .i64 0, .int .i64 0] 8 (World.laidAll_os _ _ _) (World.shaped_of_ZipB (by kernel_rfl) (by kernel_rfl)) (by kernel_rfl) (by kernel_rfl) (by kernel_rfl) (by rw [MakeChecks.laidMetH_plain _ _ _ (by kernel_rfl)]; exact laidMet_laidAll _ (by kernel_rfl) (by kernel_rfl))) ?_
  intro W base args ds gs before hval0 hW _ _ hL _
  have hval : ∀ (j : Nat) t v, Tryd.f8.params[j]? = some t → args[j]? = some v → Value.okWide Tryd.prog W .any base t v := hval0
  have hW' := hW
  obtain ⟨p, q, hA0, hV, rfl, hfz, hnd⟩ := hW
  have hA : DataW.TrodAll enc Tryd.prog W 0 (fun _ => true) true Tryd.f8.params.toList args.toList ds p := hA0
  rw [Tryd.params8] at hA hval
  obtain ⟨v0, vs0, d0, ds0, p0, q0, hargs, rfl, rfl, h0, r0⟩ := trodAll_cons hA
  obtain ⟨v1, vs1, d1, ds1, p1, q1, rfl, rfl, rfl, h1, r1⟩ := trodAll_cons r0
  obtain ⟨v2, vs2, d2, ds2, p2, q2, rfl, rfl, rfl, h2, r2⟩ := trodAll_cons r1
  obtain ⟨rfl, rfl, rfl⟩ := trodAll_nil r2
  obtain rfl : args = #[v0, v1, v2] := by cases args; simp_all
  obtain ⟨rfl, rfl⟩ := trodVars_none hV
  obtain ⟨x0, rfl, w0⟩ := open_expr (hval 0 24 v0 rfl rfl) h0
  have k0 := h0
  have lt0 : ∀ x ∈ p0, x.block < W.heap.size := by obtain ⟨m, hm⟩ := k0; exact DataW.trod_lt m _ _ _ hm
  obtain ⟨a1, rfl, rfl, rfl, w1⟩ := open_int Tryd.underlying3 (hval 1 3 v1 rfl rfl) h1
  obtain ⟨a2, rfl, rfl, rfl, w2⟩ := open_int Tryd.underlying2 (hval 2 2 v2 rfl rfl) h2
  clear hA0 hval0
  refine (walk x0 a1 a2 W (layM_of _ W (by kernel_rfl) (.head _) (.tail _ (.head _)) (by kernel_rfl) (by kernel_rfl) hL) w0 w1 w2).mono fun e W' ⟨he, bel⟩ => ?_
  subst he
  exact ⟨_, rfl, _, _, _, [], _, [], hW', trodAll_mk1 (shut_bool Tryd.underlying4 _), (trodAll_cons_mk (Below.trod laidOut (by kernel_rfl) (of_decide_eq_true (by kernel_rfl)) k0 bel lt0) (trodAll_cons_mk (shut_int Tryd.underlying3 w1) (trodAll_cons_mk (shut_int Tryd.underlying2 w2) trodAll_mk0))), rfl, bel.frame _, fun h => by cases h⟩

theorem row_holds : Rows.MatchTurnsSaid :=
  OpenClaim.holds_of_wide 8 Tryd.f8 rfl rfl rfl rfl rfl rfl rfl ⟨rfl, rfl, rfl, rfl, rfl⟩ rfl rfl rfl rfl rfl (by kernel_rfl) Tryd.func8 (by kernel_rfl)
    (of_decide_eq_true (by kernel_rfl)) (by unfold Func.isWrapper; first | (rw [if_pos (by decide +kernel)]; kernel_rfl) | (rw [if_neg (by decide +kernel)]; exact ⟨rfl, rfl⟩))
    (fun os started H enc _ => lifted os started H enc)

theorem proved : Rows.MatchTurnsCardSaid :=
  Claim7.holds_tied_plain_at .later [] Rows.matchTurnsCard.laidKinds true Rows.matchTurnsCard.stood.harness Rows.matchTurnsCard.stood.looks
    row_holds (fun _ h => by cases h) (by kernel_rfl) (fun _ h => by cases h) matchTurns_row_tie rfl ⟨rfl, rfl⟩ (by kernel_rfl) rfl
    (fun f fn hf hfn => by
      obtain rfl : f = 8 := Option.some.inj ((show Tryd.prog.funcNamed Rows.matchTurnsRow.func = some 8 by kernel_rfl).symm.trans hf) |>.symm
      obtain rfl : fn = Tryd.f8 := (Option.some.inj (Tryd.func8.symm.trans hfn)).symm
      exact ⟨looks0, fun j t ht => by
        rw [Tryd.params8] at ht
        have hm : t ∈ [24, 3, 2] := by simpa using Array.mem_of_getElem? ht
        have hall : ([24, 3, 2].all fun u => !Tryd.prog.wantsStandIn u) = true := by kernel_rfl
        exact (show Tryd.prog.wantsStandIn t = false by simpa using List.all_eq_true.1 hall t hm)⟩)
    (by kernel_rfl)

end Go.Proofs.YtbehendogcghjaaDoor.matchTurns
