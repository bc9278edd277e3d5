/- For every plan and time, PlanChecks returns true: Is, Next and Check are as the document says, and the plan stays as it is. Condition: the program's tables start as its text lays them (tied). -/
import Derived.Test.YtljackjcgfaanaaGreatDoorPlaArg
import Derived.Test.YtljackjcgfaanaaGreatDoorPlaT
namespace Go.Proofs.YtljackjcgfaanaaGreatDoor.planChecks
open Go.ChangeShapes Go.WideShapes Go.ChangeAt Go.RowKit Go.ChangeMaps

/-- a plan in its box, and a copy of it in block D -/
structure CC (w : World) (q : Pl.P) (v u : Value) (D : Nat) (W : World) : Prop where
  pb : PB w w.heap.size q v W
  was : Row W D 29 (plL q u)
  us : Bo.RowS W u q.l
theorem CC.next {w W W' : World} {q : Pl.P} {v u : Value} {D : Nat} (h : CC w q v u D W) (hb : Below W.heap.size W W') : CC w q v u D W' := ⟨h.pb.next hb, h.was.below hb, h.us.below hb⟩
theorem CC.drew {w W : World} {q : Pl.P} {v u : Value} {D : Nat} (h : CC w q v u D W) : CC w q v u D W.drew := h.next (Below.refl _ _).drew
theorem CC.cells {w W : World} {q : Pl.P} {v u : Value} {D : Nat} (h : CC w q v u D W) : W.cell? ⟨w.heap.size, 0, none⟩ = some (.int .i64 q.k) ∧ W.cell? ⟨w.heap.size, 1, none⟩ = some (.int .u64 q.x.a0) ∧ W.cell? ⟨w.heap.size, 2, none⟩ = some (.int .u64 q.x.a1) ∧ W.cell? ⟨w.heap.size, 3, none⟩ = some (.int .u64 q.x.a2) ∧ W.cell? ⟨w.heap.size, 4, none⟩ = some (.int .u64 q.x.a3) ∧ W.cell? ⟨w.heap.size, 5, none⟩ = some (.int .u64 q.x.a4) ∧ W.cell? ⟨w.heap.size, 6, none⟩ = some (.int .u64 q.x.a5) ∧ W.cell? ⟨w.heap.size, 7, none⟩ = some (.bool q.x.b3) ∧ W.cell? ⟨w.heap.size, 8, none⟩ = some (.bool q.x.b5) ∧ W.cell? ⟨w.heap.size, 9, none⟩ = some (.int .i64 q.z) ∧ W.cell? ⟨w.heap.size, 10, none⟩ = some (.int .i64 q.s) ∧ W.cell? ⟨w.heap.size, 11, none⟩ = some (.int .i64 q.p) ∧ W.cell? ⟨w.heap.size, 12, none⟩ = some (.int .i64 q.c) ∧ W.cell? ⟨w.heap.size, 13, none⟩ = some (v) := h.pb.cells
theorem CC.was_cells {w W : World} {q : Pl.P} {v u : Value} {D : Nat} (h : CC w q v u D W) : W.cell? ⟨D, 0, none⟩ = some (.int .i64 q.k) ∧ W.cell? ⟨D, 1, none⟩ = some (.int .u64 q.x.a0) ∧ W.cell? ⟨D, 2, none⟩ = some (.int .u64 q.x.a1) ∧ W.cell? ⟨D, 3, none⟩ = some (.int .u64 q.x.a2) ∧ W.cell? ⟨D, 4, none⟩ = some (.int .u64 q.x.a3) ∧ W.cell? ⟨D, 5, none⟩ = some (.int .u64 q.x.a4) ∧ W.cell? ⟨D, 6, none⟩ = some (.int .u64 q.x.a5) ∧ W.cell? ⟨D, 7, none⟩ = some (.bool q.x.b3) ∧ W.cell? ⟨D, 8, none⟩ = some (.bool q.x.b5) ∧ W.cell? ⟨D, 9, none⟩ = some (.int .i64 q.z) ∧ W.cell? ⟨D, 10, none⟩ = some (.int .i64 q.s) ∧ W.cell? ⟨D, 11, none⟩ = some (.int .i64 q.p) ∧ W.cell? ⟨D, 12, none⟩ = some (.int .i64 q.c) ∧ W.cell? ⟨D, 13, none⟩ = some (u) := ⟨h.was.cell 0, h.was.cell 1, h.was.cell 2, h.was.cell 3, h.was.cell 4, h.was.cell 5, h.was.cell 6, h.was.cell 7, h.was.cell 8, h.was.cell 9, h.was.cell 10, h.was.cell 11, h.was.cell 12, h.was.cell 13⟩
set_option maxRecDepth 100000 in
set_option maxHeartbeats 4000000 in
theorem walk (q : Pl.P) (a0 : Option Addr) (cap : Nat) (t : Int) (w : World) (L : LayM w) (hx : q.x.Bd) (_ : PWf q) (hI : Bo.InS w (.slice a0 q.l.length cap) q.l) (_ : (Lit.int .i64 t).wf = true) :
    Calls Tryz.prog 3 #[.agg #[.int .i64 q.k, .int .u64 q.x.a0, .int .u64 q.x.a1, .int .u64 q.x.a2, .int .u64 q.x.a3, .int .u64 q.x.a4, .int .u64 q.x.a5, .bool q.x.b3, .bool q.x.b5, .int .i64 q.z, .int .i64 q.s, .int .i64 q.p, .int .i64 q.c, (.slice a0 q.l.length cap)], .int .i64 t] w fun e w' => e = .returned (.bool true) ∧ Below w.heap.size w w' := by
  have RX := Lib.hid (show RC w w.heap.size (plL q (.slice a0 q.l.length cap)) (w.alloc (.cells #[.int .i64 q.k, .int .u64 q.x.a0, .int .u64 q.x.a1, .int .u64 q.x.a2, .int .u64 q.x.a3, .int .u64 q.x.a4, .int .u64 q.x.a5, .bool q.x.b3, .bool q.x.b5, .int .i64 q.z, .int .i64 q.s, .int .i64 q.p, .int .i64 q.c, (.slice a0 q.l.length cap)] 29)) from ⟨(Below.refl _ _).alloc (Nat.le_refl _) _, L.alloc _, Row.new w _ _⟩)
  by_cases big : 200 < q.l.length
  · have t0 : decide ((200 : Int) < (q.l.length : Int)) = true := by rw [decide_eq_true_iff]; omega
    clear hI big L hx
    go_enter Tryz.func3, Tryz.ntmps3
    go_wp2_with fail
    refine (works_any _ RX.out.lay).mono ?_
    rintro e w1 ⟨rfl, hb1⟩
    have RY := Lib.hid (RX.out.next hb1)
    clear hb1
    go_wp2_with fail
    go_ret
    exact ⟨rfl, RY.out.below⟩
  have t0 : decide ((200 : Int) < (q.l.length : Int)) = false := by rw [decide_eq_false_iff_not]; omega
  have hI' := hI.2.2 (show q.l.length ≤ 1000000 by omega)
  have Q := Lib.hid (PB.start (q := q) L hI')
  have LB := Lib.hid big
  clear hI hI' L RX big
  obtain ⟨ib, ir, hi⟩ := Pl.isR_ex q t
  obtain ⟨nv, np, nr, hn⟩ := Pl.nextR_ex q t
  obtain ⟨er, he⟩ : ∃ er, q.err = er := ⟨_, rfl⟩
  have CP := Lib.hid (fun W (h : PB w w.heap.size q (.slice a0 q.l.length cap) W) => rpcopy_any q (.slice a0 q.l.length cap) W h.sp)
  have I1 := Lib.hid (fun W u D (h : CC w q (.slice a0 q.l.length cap) u D W) => (pis_any q hx (.slice a0 q.l.length cap) t ib ir hi W h.pb.lay h.pb.sp).mono fun e W' (p : e = .returned (.tuple #[.bool ib, .int .i64 ir]) ∧ Below W.heap.size W W') => (show e = .returned (.tuple #[.bool ib, .int .i64 ir]) ∧ CC w q (.slice a0 q.l.length cap) u D W' from ⟨p.1, h.next p.2⟩))
  have I2 := Lib.hid (fun W u D (h : CC w q (.slice a0 q.l.length cap) u D W) => (rpis_any q hx (.slice a0 q.l.length cap) t ib ir hi W h.pb.lay h.pb.sp).mono fun e W' (p : e = .returned (.tuple #[.bool ib, .int .i64 ir]) ∧ Below W.heap.size W W') => (show e = .returned (.tuple #[.bool ib, .int .i64 ir]) ∧ CC w q (.slice a0 q.l.length cap) u D W' from ⟨p.1, h.next p.2⟩))
  have N1 := Lib.hid (fun W u D (h : CC w q (.slice a0 q.l.length cap) u D W) => (pnext_any q hx (.slice a0 q.l.length cap) t nv np nr hn W h.pb.lay h.pb.sp).mono fun e W' (p : e = .returned (.tuple #[.int .i64 nv, .bool np, .int .i64 nr]) ∧ Below W.heap.size W W') => (show e = .returned (.tuple #[.int .i64 nv, .bool np, .int .i64 nr]) ∧ CC w q (.slice a0 q.l.length cap) u D W' from ⟨p.1, h.next p.2⟩))
  have N2 := Lib.hid (fun W u D (h : CC w q (.slice a0 q.l.length cap) u D W) => (rpNext_any q hx (.slice a0 q.l.length cap) t nv np nr hn W h.pb.lay h.pb.sp).mono fun e W' (p : e = .returned (.tuple #[.int .i64 nv, .bool np, .int .i64 nr]) ∧ Below W.heap.size W W') => (show e = .returned (.tuple #[.int .i64 nv, .bool np, .int .i64 nr]) ∧ CC w q (.slice a0 q.l.length cap) u D W' from ⟨p.1, h.next p.2⟩))
  have K1 := Lib.hid (fun W u D (h : CC w q (.slice a0 q.l.length cap) u D W) => (pchk_any q hx (.slice a0 q.l.length cap) er he W h.pb.lay h.pb.sp).mono fun e W' (p : e = .returned (.int .i64 er) ∧ Below W.heap.size W W') => (show e = .returned (.int .i64 er) ∧ CC w q (.slice a0 q.l.length cap) u D W' from ⟨p.1, h.next p.2⟩))
  have K2 := Lib.hid (fun W u D (h : CC w q (.slice a0 q.l.length cap) u D W) => (rpchk_any q hx (.slice a0 q.l.length cap) er he W h.pb.lay h.pb.sp).mono fun e W' (p : e = .returned (.int .i64 er) ∧ Below W.heap.size W W') => (show e = .returned (.int .i64 er) ∧ CC w q (.slice a0 q.l.length cap) u D W' from ⟨p.1, h.next p.2⟩))
  have EQ := Lib.hid (fun W u D (h : CC w q (.slice a0 q.l.length cap) u D W) => (rpeq_any q q (.slice a0 q.l.length cap) u true (by simp) W h.pb.sp h.us).mono fun e W' (p : e = .returned (.bool true) ∧ Below W.heap.size W W') => (show e = .returned (.bool true) ∧ CC w q (.slice a0 q.l.length cap) u D W' from ⟨p.1, h.next p.2⟩))
  have WK := Lib.hid (fun W u D (h : CC w q (.slice a0 q.l.length cap) u D W) => (works_any W h.pb.lay).mono fun e W' (p : e = .returned (.bool true) ∧ Below W.heap.size W W') => (show e = .returned (.bool true) ∧ CC w q (.slice a0 q.l.length cap) u D W' from ⟨p.1, h.next p.2⟩))
  clear hi hn he hx
  obtain ⟨c0, c1, c2, c3, c4, c5, c6, c7, c8, c9, c10, c11, c12, c13⟩ := Q.out.cells
  go_enter Tryz.func3, Tryz.ntmps3
  go_wp2_with fail
  refine (CP.out _ Q.out).mono ?_
  rintro e wc ⟨u, rfl, hu⟩
  have Q1 := Lib.hid (Q.out.next hu.below)
  have US := Lib.hid (hu.rowS (by have := LB.out; omega))
  obtain ⟨Ua, Uc, rfl⟩ := hu.len
  have C0 : Hid (CC w q (.slice a0 q.l.length cap) (.slice Ua q.l.length Uc) wc.heap.size (wc.alloc (.cells #[.int .i64 q.k, .int .u64 q.x.a0, .int .u64 q.x.a1, .int .u64 q.x.a2, .int .u64 q.x.a3, .int .u64 q.x.a4, .int .u64 q.x.a5, .bool q.x.b3, .bool q.x.b5, .int .i64 q.z, .int .i64 q.s, .int .i64 q.p, .int .i64 q.c, (.slice Ua q.l.length Uc)] 29))) := Lib.hid ⟨Q1.out.alloc _, Row.new wc (plL q (.slice Ua q.l.length Uc)) _, US.out.alloc _⟩
  clear hu c0 c1 c2 c3 c4 c5 c6 c7 c8 c9 c10 c11 c12 c13 Q1 US
  obtain ⟨c0, c1, c2, c3, c4, c5, c6, c7, c8, c9, c10, c11, c12, c13⟩ := C0.out.cells
  go_wp2_with fail
  refine (I1.out _ _ _ C0.out).mono ?_
  rintro e w1 ⟨rfl, h⟩
  have C1 := Lib.hid h
  clear h c0 c1 c2 c3 c4 c5 c6 c7 c8 c9 c10 c11 c12 c13
  obtain ⟨c0, c1, c2, c3, c4, c5, c6, c7, c8, c9, c10, c11, c12, c13⟩ := C1.out.cells
  go_wp2_with fail
  refine (I2.out _ _ _ C1.out).mono ?_
  rintro e w2 ⟨rfl, h⟩
  have C2 := Lib.hid h
  clear h c0 c1 c2 c3 c4 c5 c6 c7 c8 c9 c10 c11 c12 c13
  obtain ⟨c0, c1, c2, c3, c4, c5, c6, c7, c8, c9, c10, c11, c12, c13⟩ := C2.out.cells
  go_wp2_with fail
  refine (N1.out _ _ _ C2.out).mono ?_
  rintro e w3 ⟨rfl, h⟩
  have C3 := Lib.hid h
  clear h c0 c1 c2 c3 c4 c5 c6 c7 c8 c9 c10 c11 c12 c13
  obtain ⟨c0, c1, c2, c3, c4, c5, c6, c7, c8, c9, c10, c11, c12, c13⟩ := C3.out.cells
  go_wp2_with fail
  refine (N2.out _ _ _ C3.out).mono ?_
  rintro e w4 ⟨rfl, h⟩
  have C4 := Lib.hid h
  clear h c0 c1 c2 c3 c4 c5 c6 c7 c8 c9 c10 c11 c12 c13
  obtain ⟨c0, c1, c2, c3, c4, c5, c6, c7, c8, c9, c10, c11, c12, c13⟩ := C4.out.cells
  obtain ⟨d0, d1, d2, d3, d4, d5, d6, d7, d8, d9, d10, d11, d12, d13⟩ := C4.out.was_cells
  have QR := C4
  go_wp2_with fail
  go_region_held3 (fun w' => (w'.cell? ⟨w.heap.size, 0, none⟩ = some (.int .i64 q.k) ∧ w'.cell? ⟨w.heap.size, 1, none⟩ = some (.int .u64 q.x.a0) ∧ w'.cell? ⟨w.heap.size, 2, none⟩ = some (.int .u64 q.x.a1) ∧ w'.cell? ⟨w.heap.size, 3, none⟩ = some (.int .u64 q.x.a2) ∧ w'.cell? ⟨w.heap.size, 4, none⟩ = some (.int .u64 q.x.a3) ∧ w'.cell? ⟨w.heap.size, 5, none⟩ = some (.int .u64 q.x.a4) ∧ w'.cell? ⟨w.heap.size, 6, none⟩ = some (.int .u64 q.x.a5) ∧ w'.cell? ⟨w.heap.size, 7, none⟩ = some (.bool q.x.b3) ∧ w'.cell? ⟨w.heap.size, 8, none⟩ = some (.bool q.x.b5) ∧ w'.cell? ⟨w.heap.size, 9, none⟩ = some (.int .i64 q.z) ∧ w'.cell? ⟨w.heap.size, 10, none⟩ = some (.int .i64 q.s) ∧ w'.cell? ⟨w.heap.size, 11, none⟩ = some (.int .i64 q.p) ∧ w'.cell? ⟨w.heap.size, 12, none⟩ = some (.int .i64 q.c) ∧ w'.cell? ⟨w.heap.size, 13, none⟩ = some ((.slice a0 q.l.length cap))) ∧ (w'.cell? ⟨wc.heap.size, 0, none⟩ = some (.int .i64 q.k) ∧ w'.cell? ⟨wc.heap.size, 1, none⟩ = some (.int .u64 q.x.a0) ∧ w'.cell? ⟨wc.heap.size, 2, none⟩ = some (.int .u64 q.x.a1) ∧ w'.cell? ⟨wc.heap.size, 3, none⟩ = some (.int .u64 q.x.a2) ∧ w'.cell? ⟨wc.heap.size, 4, none⟩ = some (.int .u64 q.x.a3) ∧ w'.cell? ⟨wc.heap.size, 5, none⟩ = some (.int .u64 q.x.a4) ∧ w'.cell? ⟨wc.heap.size, 6, none⟩ = some (.int .u64 q.x.a5) ∧ w'.cell? ⟨wc.heap.size, 7, none⟩ = some (.bool q.x.b3) ∧ w'.cell? ⟨wc.heap.size, 8, none⟩ = some (.bool q.x.b5) ∧ w'.cell? ⟨wc.heap.size, 9, none⟩ = some (.int .i64 q.z) ∧ w'.cell? ⟨wc.heap.size, 10, none⟩ = some (.int .i64 q.s) ∧ w'.cell? ⟨wc.heap.size, 11, none⟩ = some (.int .i64 q.p) ∧ w'.cell? ⟨wc.heap.size, 12, none⟩ = some (.int .i64 q.c) ∧ w'.cell? ⟨wc.heap.size, 13, none⟩ = some ((.slice Ua q.l.length Uc)))) (go_keep)
    (first | (go_at_call 19; refine (K1.out _ _ _ (by first | exact QR.out | exact QR.out.drew)).mono ?_; rintro e w20 ⟨rfl, q'⟩; have QR := Lib.hid q'; clear q'; obtain ⟨c0, c1, c2, c3, c4, c5, c6, c7, c8, c9, c10, c11, c12, c13⟩ := QR.out.cells; obtain ⟨d0, d1, d2, d3, d4, d5, d6, d7, d8, d9, d10, d11, d12, d13⟩ := QR.out.was_cells) | (go_at_call 20; refine (K2.out _ _ _ (by first | exact QR.out | exact QR.out.drew)).mono ?_; rintro e w20 ⟨rfl, q'⟩; have QR := Lib.hid q'; clear q'; obtain ⟨c0, c1, c2, c3, c4, c5, c6, c7, c8, c9, c10, c11, c12, c13⟩ := QR.out.cells; obtain ⟨d0, d1, d2, d3, d4, d5, d6, d7, d8, d9, d10, d11, d12, d13⟩ := QR.out.was_cells) | (go_at_call 21; refine (EQ.out _ _ _ (by first | exact QR.out | exact QR.out.drew)).mono ?_; rintro e w20 ⟨rfl, q'⟩; have QR := Lib.hid q'; clear q'; obtain ⟨c0, c1, c2, c3, c4, c5, c6, c7, c8, c9, c10, c11, c12, c13⟩ := QR.out.cells; obtain ⟨d0, d1, d2, d3, d4, d5, d6, d7, d8, d9, d10, d11, d12, d13⟩ := QR.out.was_cells) | (go_at_call 13; refine (WK.out _ _ _ (by first | exact QR.out | exact QR.out.drew)).mono ?_; rintro e w20 ⟨rfl, q'⟩; have QR := Lib.hid q'; clear q'; obtain ⟨c0, c1, c2, c3, c4, c5, c6, c7, c8, c9, c10, c11, c12, c13⟩ := QR.out.cells; obtain ⟨d0, d1, d2, d3, d4, d5, d6, d7, d8, d9, d10, d11, d12, d13⟩ := QR.out.was_cells))
  go_wp2_with fail
  go_ret
  exact ⟨rfl, QR.out.pb.below⟩

set_option maxRecDepth 100000 in
theorem lifted (os : Os) (started : os.Started) (H : Type) (enc : TypeId × Value → H) :
    ReturnsInHanded {} Tryz.checked os 3 .any (fun w args => (Rows.planChecksSpec.pre enc Tryz.prog Tryz.f3 [] false w args ∧ laidMetH Tryz.prog Rows.planChecksRow.laid w) ∧ sizedMet enc Tryz.prog Tryz.f3 (OpenSpec.ofChange Rows.planChecksSpec) false w args)
      (Rows.planChecksSpec.post enc Tryz.prog Tryz.f3 false true false false) := by
  refine returnsInHanded_of_change_and (C := Tryz.checked) (X := fun w _ => laidMetH Tryz.prog Rows.planChecksRow.laid w) (fun _ _ _ hh h => h.of_heap hh) own started (by kernel_rfl) Tryz.func3
    (ChangeSpec.witness_shaped (enc := enc) (C := Tryz.checked) (os := os) (X := fun w _ => laidMetH Tryz.prog Rows.planChecksRow.laid w) false (World.laidAll Tryz.prog os Rows.planChecksRow.laid) #[.agg #[.int .i64 0, .int .u64 0, .int .u64 0, .int .u64 0, .int .u64 0, .int .u64 0, .int .u64 0, .bool false, .bool false, .int .i64 0, .int .i64 0, .int .i64 0, .int .i64 0, .slice none 0 0], .int .i64 0] 8 (World.laidAll_os _ _ _) (World.shaped_of_ZipB (by kernel_rfl) (by kernel_rfl)) (by kernel_rfl) (by kernel_rfl) (by kernel_rfl) (by rw [MakeChecks.laidMetH_plain _ _ _ (by kernel_rfl)]; exact laidMet_laidAll _ (by kernel_rfl) (by kernel_rfl))) ?_
  intro W base args ds gs before hval0 hW _ _ hL _
  have hval : ∀ (j : Nat) t v, Tryz.f3.params[j]? = some t → args[j]? = some v → Value.okWide Tryz.prog W .any base t v := hval0
  have hW' := hW
  obtain ⟨p, q, hA0, hV, rfl, hfz, hnd⟩ := hW
  have hA : DataW.TrodAll enc Tryz.prog W 0 (fun _ => true) true Tryz.f3.params.toList args.toList ds p := hA0
  rw [Tryz.params3] at hA hval
  obtain ⟨v0, vs0, d0, ds0, p0, q0, hargs, rfl, rfl, h0, r0⟩ := trodAll_cons hA
  obtain ⟨v1, vs1, d1, ds1, p1, q1, rfl, rfl, rfl, h1, r1⟩ := trodAll_cons r0
  obtain ⟨rfl, rfl, rfl⟩ := trodAll_nil r1
  obtain rfl : args = #[v0, v1] := by cases args; simp_all
  obtain ⟨rfl, rfl⟩ := trodVars_none hV
  obtain ⟨pl0, a0, cap0, rfl, b0, w0, i0⟩ := open_plan (hval 0 29 v0 rfl rfl) h0
  have k0 := h0
  have lt0 : ∀ x ∈ p0, x.block < W.heap.size := by obtain ⟨m, hm⟩ := k0; exact DataW.trod_lt m _ _ _ hm
  obtain ⟨a1, rfl, rfl, rfl, w1⟩ := open_int Tryz.underlying2 (hval 1 2 v1 rfl rfl) h1
  clear hA0 hval0
  refine (walk pl0 a0 cap0 a1 W (layM_of _ W (by kernel_rfl) (.head _) (.tail _ (.head _)) (by kernel_rfl) (by kernel_rfl) hL) b0 w0 i0 w1).mono fun e W' ⟨he, bel⟩ => ?_
  subst he
  exact ⟨_, rfl, _, _, _, [], _, [], hW', trodAll_mk1 (shut_bool Tryz.underlying4 _), (trodAll_cons_mk (Below.trod laidOut (by kernel_rfl) (of_decide_eq_true (by kernel_rfl)) k0 bel lt0) (trodAll_cons_mk (shut_int Tryz.underlying2 w1) trodAll_mk0)), rfl, bel.frame _, fun h => by cases h⟩

theorem row_holds : Rows.PlanChecksSaid :=
  OpenClaim.holds_of_wide 3 Tryz.f3 rfl rfl rfl rfl rfl rfl rfl ⟨rfl, rfl, rfl, rfl, rfl⟩ rfl rfl rfl rfl rfl (by kernel_rfl) Tryz.func3 (by kernel_rfl)
    (of_decide_eq_true (by kernel_rfl)) (by unfold Func.isWrapper; first | (rw [if_pos (by decide +kernel)]; kernel_rfl) | (rw [if_neg (by decide +kernel)]; exact ⟨rfl, rfl⟩))
    (fun os started H enc _ => lifted os started H enc)

theorem proved : Rows.PlanChecksCardSaid :=
  Claim7.holds_tied_plain_at .later [] Rows.planChecksCard.laidKinds true Rows.planChecksCard.stood.harness Rows.planChecksCard.stood.looks
    row_holds (fun _ h => by cases h) (by kernel_rfl) (fun _ h => by cases h) planChecks_row_tie rfl ⟨rfl, rfl⟩ (by kernel_rfl) rfl
    (fun f fn hf hfn => by
      obtain rfl : f = 3 := Option.some.inj ((show Tryz.prog.funcNamed Rows.planChecksRow.func = some 3 by kernel_rfl).symm.trans hf) |>.symm
      obtain rfl : fn = Tryz.f3 := (Option.some.inj (Tryz.func3.symm.trans hfn)).symm
      exact ⟨looks0, fun j t ht => by
        rw [Tryz.params3] at ht
        have hm : t ∈ [29, 2] := by simpa using Array.mem_of_getElem? ht
        have hall : ([29, 2].all fun u => !Tryz.prog.wantsStandIn u) = true := by kernel_rfl
        exact (show Tryz.prog.wantsStandIn t = false by simpa using List.all_eq_true.1 hall t hm)⟩)
    (by kernel_rfl)

end Go.Proofs.YtljackjcgfaanaaGreatDoor.planChecks
