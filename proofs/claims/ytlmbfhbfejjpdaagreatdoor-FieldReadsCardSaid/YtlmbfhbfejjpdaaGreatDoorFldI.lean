/- Contracts of begin and behindValue of package field, and of all parts. -/
import Derived.Test.YtlmbfhbfejjpdaaGreatDoorFldH
namespace Go.Proofs.YtlmbfhbfejjpdaaGreatDoor
open Go.ChangeShapes Go.WideShapes Go.RowKit Go.Shelf

/-! behindValue -/
set_option maxRecDepth 100000 in
set_option maxHeartbeats 1000000 in
theorem val_part : PartOk 1 := by
  intro R st K xs w h hw
  have hwh : st.wh = false := by rcases hw with q | q; omega; exact q
  have hfit := h.fit
  have hat := h.at_
  show Calls Tryz.prog 42 _ _ _
  by_cases hm : st.rest.head? = some 45
  · obtain ⟨h1, h2⟩ := (head_yes st 45).1 hm
    have T := Lib.hid (takes_yes R st 45 w h.rd h1 h2 (by omega))
    have KK := Lib.hid h
    have HC := Lib.hid hm
    clear h hm
    go_enter Tryz.func42, Tryz.ntmps42
    go_wp2_with fail
    refine T.out.mono ?_
    rintro e w1 ⟨rfl, hr, ho⟩
    have RR := Lib.hid hr
    have OO := Lib.hid ho
    clear hr ho
    go_wp2_with fail
    go_ret
    exact ⟨_, _, rfl, KK.out.step RR.out OO.out rfl rfl rfl rfl rfl rfl rfl h1, OO.out, ⟨rfl, rfl⟩, .inl ⟨2, rfl, by omega, by omega, hwh, fut1_minus HC.out, by simp [meas]; omega⟩⟩
  · have T := Lib.hid (takes_no R st 45 w h.rd h.at_ (head_no hm))
    by_cases hs : st.rest.head? = some 47
    · obtain ⟨h1, h2⟩ := (head_yes st 47).1 hs
      have T2 := Lib.hid (fun w hr => takes_yes R st 47 w hr h1 h2 (by omega))
      have KK := Lib.hid h
      have HC := Lib.hid hm
      have HS := Lib.hid hs
      obtain ⟨m, hmx⟩ : ∃ m : Nat, max (st.f : Int) (st.hi : Int) = (m : Int) := ⟨max st.f st.hi, by omega⟩
      have HM := Lib.hid (show m = max st.f K.hi by rw [← h.hi]; omega)
      clear h hm hs
      go_enter Tryz.func42, Tryz.ntmps42
      go_wp2_with fail
      refine T.out.mono ?_
      rintro e w1 ⟨rfl, hr, ho⟩
      have TT := Lib.hid (T2.out _ hr)
      have OO := Lib.hid ho
      clear hr ho T2
      go_wp2_with fail
      refine TT.out.mono ?_
      rintro e w2 ⟨rfl, hr, ho⟩
      have c1 := hr.cell 1
      have c7 := hr.cell 7
      have c9 := hr.cell 9
      have z9 := hr.frozen 9
      simp only [RS.cells, List.getElem?_toArray, List.getElem?_cons_succ, List.getElem?_cons_zero] at c1 c7 c9
      have RR := Lib.hid hr
      have O2 := Lib.hid (OO.out.trans ho)
      clear hr ho OO T TT
      go_wp2_with fail
      go_still_tail 17, (by kernel_rfl)
      go_wp2_with fail
      go_ret
      have S1 := (RR.out.set 9 (.int .i64 m) (st' := { st with at_ := st.at_ + 1, u := max st.f K.hi }) (by simp [RS.cells, HM.out])).drewN 1
      have O1 := (O2.out.trans (Only.set R 9 w2 (.int .i64 m))).trans (Only.drewN R _ 1)
      exact ⟨_, _, rfl, KK.out.step S1 O1 rfl rfl rfl rfl rfl rfl rfl h1, O1, ⟨rfl, rfl⟩, .inl ⟨4, rfl, by omega, by omega, hwh, fut1_slash HC.out HS.out, by simp [meas]; omega⟩⟩
    · have T2 := Lib.hid (fun w hr => takes_no R st 47 w hr hat (head_no hs))
      have KK := Lib.hid h
      have HC := Lib.hid hm
      have HS := Lib.hid hs
      clear h hm hs
      go_enter Tryz.func42, Tryz.ntmps42
      go_wp2_with fail
      refine T.out.mono ?_
      rintro e w1 ⟨rfl, hr, ho⟩
      have TT := Lib.hid (T2.out _ hr)
      have OO := Lib.hid ho
      clear hr ho T2
      go_wp2_with fail
      refine TT.out.mono ?_
      rintro e w2 ⟨rfl, hr, ho⟩
      have RR := Lib.hid hr
      have O2 := Lib.hid (OO.out.trans ho)
      clear hr ho OO T TT
      go_wp2_with fail
      go_ret
      exact ⟨_, _, rfl, KK.out.step RR.out O2.out rfl rfl rfl rfl rfl rfl rfl hat, O2.out, ⟨rfl, rfl⟩, .inl ⟨5, rfl, by omega, by omega, hwh, fut1_no HC.out HS.out, by simp [meas]⟩⟩

/-! begin -/
/-- the reader with a new item -/
def RS.fresh (st : RS) : RS := { st with f := 0, fa := 0, u := 0, ua := 0, t := 1, ta := 0, wh := false }
theorem begin_world (R : Nat) (st : RS) (w : World) (h : Rd w R st) : ∃ W, W = ((((((w.setCell ⟨R, 7, none⟩ (.int .i64 0)).setCell ⟨R, 8, none⟩ (.int .i64 0)).setCell ⟨R, 9, none⟩ (.int .i64 0)).setCell ⟨R, 10, none⟩ (.int .i64 0)).setCell ⟨R, 11, none⟩ (.int .i64 1)).setCell ⟨R, 12, none⟩ (.int .i64 0)).setCell ⟨R, 13, none⟩ (.bool false) ∧ Rd W R st.fresh ∧ Only R w W := by
  refine ⟨_, rfl, ?_, ?_⟩
  · refine Rd.set (st := { st with f := 0, fa := 0, u := 0, ua := 0, t := 1, ta := 0 }) ?_ _ _ (by simp [RS.cells, RS.fresh])
    refine Rd.set (st := { st with f := 0, fa := 0, u := 0, ua := 0, t := 1 }) ?_ _ _ (by simp [RS.cells])
    refine Rd.set (st := { st with f := 0, fa := 0, u := 0, ua := 0 }) ?_ _ _ (by simp [RS.cells])
    refine Rd.set (st := { st with f := 0, fa := 0, u := 0 }) ?_ _ _ (by simp [RS.cells])
    refine Rd.set (st := { st with f := 0, fa := 0 }) ?_ _ _ (by simp [RS.cells])
    refine Rd.set (st := { st with f := 0 }) ?_ _ _ (by simp [RS.cells])
    exact Rd.set h _ _ (by simp [RS.cells])
  · exact ((((((Only.set R _ _ _).trans (Only.set R _ _ _)).trans (Only.set R _ _ _)).trans (Only.set R _ _ _)).trans (Only.set R _ _ _)).trans (Only.set R _ _ _)).trans (Only.set R _ _ _)
set_option maxRecDepth 100000 in
set_option maxHeartbeats 1000000 in
theorem begin_part : PartOk 0 := by
  intro R st K xs w h hw
  have hfit := h.fit
  have hat := h.at_
  show Calls Tryz.prog 22 _ _ _
  have c7 := h.rd.cell 7
  have c8 := h.rd.cell 8
  have c9 := h.rd.cell 9
  have c10 := h.rd.cell 10
  have c11 := h.rd.cell 11
  have c12 := h.rd.cell 12
  have c13 := h.rd.cell 13
  have z7 := h.rd.frozen 7
  have z8 := h.rd.frozen 8
  have z9 := h.rd.frozen 9
  have z10 := h.rd.frozen 10
  have z11 := h.rd.frozen 11
  have z12 := h.rd.frozen 12
  have z13 := h.rd.frozen 13
  simp only [RS.cells, List.getElem?_toArray, List.getElem?_cons_succ, List.getElem?_cons_zero] at c7 c8 c9 c10 c11 c12 c13
  obtain ⟨W, hW, hr, ho⟩ := begin_world R st w h.rd
  have K1 := h.step hr ho rfl rfl rfl rfl rfl rfl rfl hat
  have HW := Lib.hid hW
  by_cases hc : st.rest.head? = some 42
  · obtain ⟨h1, h2⟩ := (head_yes st 42).1 hc
    have T := Lib.hid (takes_yes R st.fresh 42 W hr h1 h2 (by show st.s.size ≤ _; omega))
    have KK := Lib.hid h
    have HC := Lib.hid hc
    have OO := Lib.hid ho
    clear h hc hr ho K1 hW
    go_enter Tryz.func22, Tryz.ntmps22
    go_wp2_with fail
    rw [← HW.out]
    refine T.out.mono ?_
    rintro e w1 ⟨rfl, hr, ho⟩
    have c0 := hr.cell 0
    have c1 := hr.cell 1
    have d7 := hr.cell 7
    have d9 := hr.cell 9
    have y7 := hr.frozen 7
    have y9 := hr.frozen 9
    simp only [RS.fresh, RS.cells, List.getElem?_toArray, List.getElem?_cons_succ, List.getElem?_cons_zero] at c0 c1 d7 d9
    have RR := Lib.hid hr
    have O2 := Lib.hid (OO.out.trans ho)
    clear hr ho OO T HW c7 c8 c9 c10 c11 c12 c13 z7 z8 z9 z10 z11 z12 z13
    go_wp2_with fail
    go_region_held3 (fun w' => w'.cell? ⟨R, 0, none⟩ = some (.int .i64 st.lo) ∧ w'.cell? ⟨R, 1, none⟩ = some (.int .i64 st.hi)) (simp [*, go_sem]) (fail)
    go_wp2_with fail
    go_ret
    have S1 := ((RR.out.set 7 (.int .i64 st.lo) (st' := { st.fresh with at_ := st.at_ + 1, f := st.lo }) (by simp [RS.cells, RS.fresh])).set 9 (.int .i64 st.hi) (st' := { st.fresh with at_ := st.at_ + 1, f := st.lo, u := st.hi }) (by simp [RS.cells, RS.fresh])).drewN 1
    have O1 := ((O2.out.trans (Only.set R 7 w1 (.int .i64 st.lo))).trans (Only.set R 9 _ (.int .i64 st.hi))).trans (Only.drewN R _ 1)
    exact ⟨_, _, rfl, KK.out.step S1 O1 rfl rfl rfl rfl rfl rfl rfl h1, O1, ⟨rfl, rfl⟩, .inl ⟨3, rfl, by omega, by omega, rfl, fut0_star HC.out _ (by simp [RS.it, RS.fresh, KK.out.lo, KK.out.hi]) rfl rfl, by simp [meas, RS.fresh]; omega⟩⟩
  · have T := Lib.hid (takes_no R st.fresh 42 W hr hat (head_no hc))
    cases hv : Fld.value K st.rest with
    | none =>
      have VN := Lib.hid (fun w h => value_none R st.fresh K xs w h hv)
      have KK := Lib.hid h
      have HC := Lib.hid hc
      have HV := Lib.hid hv
      have OO := Lib.hid ho
      clear h hc hr ho K1 hW hv
      go_enter Tryz.func22, Tryz.ntmps22
      go_wp2_with fail
      rw [← HW.out]
      refine T.out.mono ?_
      rintro e w1 ⟨rfl, hr, ho⟩
      have K1 := KK.out.step hr (OO.out.trans ho) rfl rfl rfl rfl rfl rfl rfl hat
      have VV := Lib.hid (VN.out _ K1)
      have O2 := Lib.hid (OO.out.trans ho)
      clear hr ho OO T HW K1 VN c7 c8 c9 c10 c11 c12 c13 z7 z8 z9 z10 z11 z12 z13
      go_wp2_with fail
      refine VV.out.mono ?_
      rintro e w2 ⟨rfl, hr, ho⟩
      have RR := Lib.hid (hr.alloc (.cells #[.int .i64 0, .int .i64 0] 56))
      have O3 := Lib.hid ((O2.out.trans ho).trans (Only.alloc _ _ (.cells #[.int .i64 0, .int .i64 0] 56)))
      clear hr ho O2 VV
      go_wp2_with fail
      go_ret
      exact ⟨_, _, rfl, KK.out.step RR.out O3.out rfl rfl rfl rfl rfl rfl rfl hat, O3.out, ⟨rfl, rfl⟩, .inr (.inl ⟨rfl, rfl, fut0_no HC.out HV.out⟩)⟩
    | some o =>
      obtain ⟨n, k⟩ := o
      have VN := Lib.hid (fun w h => value_some R st.fresh K xs n k w h hv)
      obtain ⟨k1, k2⟩ := Fld.value_len hv
      rw [rest_len] at k2
      have KK := Lib.hid h
      have HC := Lib.hid hc
      have HV := Lib.hid hv
      have OO := Lib.hid ho
      clear h hc hr ho K1 hW hv
      go_enter Tryz.func22, Tryz.ntmps22
      go_wp2_with fail
      rw [← HW.out]
      refine T.out.mono ?_
      rintro e w1 ⟨rfl, hr, ho⟩
      have K1 := KK.out.step hr (OO.out.trans ho) rfl rfl rfl rfl rfl rfl rfl hat
      have VV := Lib.hid (VN.out _ K1)
      have O2 := Lib.hid (OO.out.trans ho)
      clear hr ho OO T HW K1 VN c7 c8 c9 c10 c11 c12 c13 z7 z8 z9 z10 z11 z12 z13
      go_wp2_with fail
      refine VV.out.mono ?_
      rintro e w2 ⟨rfl, hr, ho⟩
      go_wp2_with fail
      -- the value lies in a variable of its own
      obtain ⟨V, hV⟩ : ∃ V, w2.alloc (.cells #[.int .i64 n, .int .i64 st.fresh.at_] 56) = V := ⟨_, rfl⟩
      have RV := hr.alloc (.cells #[.int .i64 n, .int .i64 st.fresh.at_] 56)
      have OV := (O2.out.trans ho).trans (Only.alloc R w2 (.cells #[.int .i64 n, .int .i64 st.fresh.at_] 56))
      obtain ⟨v0, v1, _⟩ := cell_two w2 (.int .i64 n) (.int .i64 st.fresh.at_) 56
      have hneV : w2.heap.size ≠ R := by have := hr.lt; omega
      rw [hV] at RV OV v0 v1 ⊢
      have RR := Lib.hid RV
      have O3 := Lib.hid OV
      have d7 := RV.cell 7
      have d8 := RV.cell 8
      have d9 := RV.cell 9
      have d10 := RV.cell 10
      have y7 := RV.frozen 7
      have y8 := RV.frozen 8
      have y9 := RV.frozen 9
      have y10 := RV.frozen 10
      simp only [RS.fresh, RS.cells, List.getElem?_toArray, List.getElem?_cons_succ, List.getElem?_cons_zero] at d7 d8 d9 d10
      clear hr ho O2 VV hV RV OV
      generalize w2.heap.size = B at *
      have hneV' : R ≠ B := fun e => hneV e.symm
      go_region_held3 (fun w' => w'.cell? ⟨B, 0, none⟩ = some (.int .i64 n) ∧ w'.cell? ⟨B, 1, none⟩ = some (.int .i64 st.fresh.at_)) (simp [*, go_sem]) (fail)
      go_wp2_with fail
      go_ret
      have S1 := ((((RR.out.set 7 (.int .i64 n) (st' := { st.fresh with at_ := st.at_ + k, f := n }) (by simp [RS.cells, RS.fresh])).set 8 (.int .i64 st.at_) (st' := { st.fresh with at_ := st.at_ + k, f := n, fa := st.at_ }) (by simp [RS.cells, RS.fresh])).set 9 (.int .i64 n) (st' := { st.fresh with at_ := st.at_ + k, f := n, fa := st.at_, u := n }) (by simp [RS.cells, RS.fresh])).set 10 (.int .i64 st.at_) (st' := { st.fresh with at_ := st.at_ + k, f := n, fa := st.at_, u := n, ua := st.at_ }) (by simp [RS.cells, RS.fresh])).drewN 1
      have O1 := ((((O3.out.trans (Only.set R 7 V (.int .i64 n))).trans (Only.set R 8 _ (.int .i64 st.at_))).trans (Only.set R 9 _ (.int .i64 n))).trans (Only.set R 10 _ (.int .i64 st.at_))).trans (Only.drewN R _ 1)
      refine ⟨_, _, rfl, KK.out.step S1 O1 rfl rfl rfl rfl rfl rfl rfl ?_, O1, ⟨rfl, rfl⟩, .inl ⟨1, rfl, by omega, by omega, rfl, fut0_yes HC.out HV.out _ rfl rfl rfl, by simp [meas, RS.fresh]; omega⟩⟩
      show st.at_ + k ≤ st.s.size
      omega
theorem part_ok (p : Nat) (hp : p ≤ 5) : PartOk p := by
  match p, hp with
  | 0, _ => exact begin_part
  | 1, _ => exact val_part
  | 2, _ => exact sec_part
  | 3, _ => exact nums_part
  | 4, _ => exact step_part
  | 5, _ => exact item_part
end Go.Proofs.YtlmbfhbfejjpdaaGreatDoor
