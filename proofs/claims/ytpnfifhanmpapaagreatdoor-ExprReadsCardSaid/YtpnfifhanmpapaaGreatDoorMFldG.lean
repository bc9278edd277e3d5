/- Contract of the reader's method value of package field: a number, or a name of the kind. Contracts of the parts of a field, of package field: what reads a part, and what comes next. Contracts of begin and behindValue of package field, and of all parts. -/
import Derived.Test.YtpnfifhanmpapaaGreatDoorFldF
import Derived.StillTailTactics
/- Contract of the reader's method value of package field: a number, or a name of the kind. -/
namespace Go.Proofs.YtpnfifhanmpapaaGreatDoor
open Go.ChangeShapes Go.WideShapes Go.RowKit Go.Shelf

/-- a reader, its kind, and its names in memory -/
structure KR (w : World) (R : Nat) (st : RS) (K : Fld.Kd) (xs : List ByteArray) : Prop where
  rd : Rd w R st
  strs : IsStrs w (.slice st.nA st.nl st.nc) xs
  apart : ∀ b o, st.nA = some ⟨b, o, none⟩ → 0 < xs.length → b ≠ R
  lo : st.lo = K.lo
  hi : st.hi = K.hi
  nm : K.names = bytesL xs
  wk : st.wk = K.week
  ok : K.Ok
  fit : st.s.size ≤ 9223372036854775000
  at_ : st.at_ ≤ st.s.size
/-- a step that changes the reader alone, and no more of it than what is read and what was found -/
theorem KR.step {w w' : World} {R : Nat} {st st' : RS} {K : Fld.Kd} {xs : List ByteArray} (h : KR w R st K xs) (hr : Rd w' R st') (ho : Only R w w') (h1 : st'.lo = st.lo) (h2 : st'.hi = st.hi) (h3 : st'.nA = st.nA) (h4 : st'.nl = st.nl) (h5 : st'.nc = st.nc) (h6 : st'.wk = st.wk) (h7 : st'.s = st.s) (h8 : st'.at_ ≤ st.s.size) : KR w' R st' K xs := by
  refine ⟨hr, ?_, ?_, by rw [h1]; exact h.lo, by rw [h2]; exact h.hi, h.nm, by rw [h6]; exact h.wk, h.ok, by rw [h7]; exact h.fit, by rw [h7]; exact h8⟩
  · rw [h3, h4, h5]
    exact ho.lay h.strs (fun b o n c e hn => by
      cases hx : xs.length with
      | zero =>
        obtain ⟨A, cap, e2, _, _⟩ := h.strs
        rw [e] at e2
        simp only [Value.slice.injEq] at e2
        omega
      | succ m =>
        simp only [Value.slice.injEq] at e
        exact h.apart b o e.1 (by omega))
  · rw [h3]; exact h.apart
theorem KR.names {w : World} {R : Nat} {st : RS} {K : Fld.Kd} {xs : List ByteArray} (h : KR w R st K xs) : (∀ x ∈ xs, NameB x) ∧ xs.length ≤ 63 := by
  refine ⟨fun x hx => (nameB_list x).2 (h.ok.ups _ (by rw [h.nm]; exact List.mem_map_of_mem hx)), ?_⟩
  have := h.ok.hi
  rcases h.ok.count with c | c
  · have : xs.length = 0 := by rw [← bytesL_len, ← h.nm, c]; rfl
    omega
  · rw [h.nm, bytesL_len] at c; omega
theorem lets_upto {s : ByteArray} {a e : Nat} (h : Upto Fld.letN s a e) : Fld.lets (s.data.toList.drop a) = (s.extract a e).data.toList := by
  rw [extract_list]
  have := upto_take Fld.letN s (e - a) a e rfl h
  exact this
theorem cell_one' (w : World) (x : Value) (t : TypeId) : (w.alloc (.cells #[x] t)).cell? ⟨w.heap.size, 0, none⟩ = some x := by
  have h := World.alloc_heap_new w (.cells #[x] t)
  simp only [World.cell?, h]; rfl
set_option maxHeartbeats 1000000 in
/-- no letters: value does what number does -/
theorem value_digits (R : Nat) (st : RS) (K : Fld.Kd) (xs : List ByteArray) (w : World) (h : KR w R st K xs) (hl : Fld.lets (st.s.data.toList.drop st.at_) = []) (n a k : Nat) (b : Bool)
    (hn : ∀ W, Rd W R st → Calls Tryz.prog 137 #[.pointer (some ⟨R, 0, none⟩)] W fun e w' => e = .returned (.tuple #[.agg #[.int .i64 n, .int .i64 a], .bool b]) ∧ Rd w' R { st with at_ := st.at_ + k } ∧ Only R W w') :
    Calls Tryz.prog 106 #[.pointer (some ⟨R, 0, none⟩)] w fun e w' => e = .returned (.tuple #[.agg #[.int .i64 n, .int .i64 a], .bool b]) ∧ Rd w' R { st with at_ := st.at_ + k } ∧ Only R w w' := by
  have hfit := h.fit
  obtain ⟨e0, hu⟩ := upto_ex Fld.letN st.s st.at_ h.at_
  have H0 := h.rd.alloc (.cells #[.int .i64 0, .int .i64 0] 129)
  have A0 := ahead_letter R st _ _ H0 hu (by omega)
  have O0 := Lib.hid (Only.alloc R w (.cells #[.int .i64 0, .int .i64 0] 129))
  obtain ⟨n0, n1, n2⟩ := cell_two w (.int .i64 0) (.int .i64 0) 129
  have hR := h.rd.lt
  rw [lets_upto hu] at hl
  have hD : st.s.extract st.at_ e0 = ⟨#[]⟩ := str_empty (by rw [Lib.size_eq, hl]; rfl)
  rw [hD] at A0
  have A := Lib.hid A0
  have N := Lib.hid hn
  clear h H0 A0 hl hD hu hn
  go_enter Tryz.func106, Tryz.ntmps106
  go_wp2_with fail
  refine A.out.mono ?_
  rintro e w1 ⟨rfl, hr1, ho1⟩
  have RR := hr1.alloc (.cells #[.string ⟨#[]⟩] 9)
  have OO := Lib.hid ((O0.out.trans ho1).trans (Only.alloc _ _ (.cells #[.string ⟨#[]⟩] 9)))
  obtain ⟨m0, f0⟩ := ho1.cells (b := w.heap.size) (by simp) (by omega) 0
  obtain ⟨m1, f1⟩ := ho1.cells (b := w.heap.size) (by simp) (by omega) 1
  rw [n0] at m0
  rw [n1] at m1
  rw [n2] at f0 f1
  have hw1 : w.heap.size < w1.heap.size := by have := ho1.size; simp at this; omega
  have hR1 := hr1.lt
  have NN := Lib.hid (N.out _ RR)
  have hne : w.heap.size ≠ R := by omega
  clear hr1 ho1 n0 n1 n2 RR
  go_wp2_with fail
  refine NN.out.mono ?_
  rintro e w2 ⟨rfl, hr2, ho2⟩
  obtain ⟨q0, g0⟩ := ho2.cells (b := w.heap.size) (by simp; omega) hne 0
  obtain ⟨q1, g1⟩ := ho2.cells (b := w.heap.size) (by simp; omega) hne 1
  rw [World.cell?_alloc_some _ _ _ (by rw [m0]; rfl), m0] at q0
  rw [World.cell?_alloc_some _ _ _ (by rw [m1]; rfl), m1] at q1
  rw [World.frozen?_of_block (w := w1) (a := ⟨w.heap.size, 0, none⟩) (Below.heap_alloc _ _ _ hw1), f0] at g0
  rw [World.frozen?_of_block (w := w1) (a := ⟨w.heap.size, 1, none⟩) (Below.heap_alloc _ _ _ hw1), f1] at g1
  have RR := Lib.hid hr2
  have OO := Lib.hid (OO.out.trans ho2)
  have hw2 : w.heap.size < w2.heap.size := by have := ho2.size; simp at this; omega
  clear hr2 ho2 m0 m1 f0 f1 NN N A
  go_wp2_with fail
  refine bodyPost_ret (v := .tuple #[.agg #[.int .i64 n, .int .i64 a], .bool b]) (by simp [results, Tryz.results106, go_sem, q0, q1]) rfl ⟨rfl, ?_, ?_⟩
  · exact (RR.out.other _ _ (by simp; omega)).other _ _ (by simp; omega)
  · exact OO.out.two (Nat.le_refl _) _ _ _ _
theorem upto_lets {s : ByteArray} {a e : Nat} (h : Upto Fld.letN s a e) (hl : Fld.lets (s.data.toList.drop a) ≠ []) : 1 ≤ (s.extract a e).size ∧ (s.extract a e).size = e - a ∧ LetS (s.extract a e) := by
  rw [lets_upto h] at hl
  have hsz : (s.extract a e).size = e - a := by have := h.fit; simp; omega
  refine ⟨?_, hsz, fun c hc => ?_⟩
  · rw [Lib.size_eq]
    cases q : (s.extract a e).data.toList with
    | nil => exact (hl q).elim
    | cons a r => simp
  · rw [← lets_upto h] at hc
    exact mem_tw hc
set_option maxHeartbeats 1000000 in
theorem value_noname (R : Nat) (st : RS) (K : Fld.Kd) (xs : List ByteArray) (w : World) (h : KR w R st K xs) (hl : Fld.lets (st.s.data.toList.drop st.at_) ≠ []) (hk : Fld.look K.names (Fld.lets (st.s.data.toList.drop st.at_)) = none) :
    Calls Tryz.prog 106 #[.pointer (some ⟨R, 0, none⟩)] w fun e w' => e = .returned (.tuple #[.agg #[.int .i64 0, .int .i64 0], .bool false]) ∧ Rd w' R st ∧ Only R w w' := by
  have hfit := h.fit
  obtain ⟨e0, hu⟩ := upto_ex Fld.letN st.s st.at_ h.at_
  have hK := h
  have H0 := h.rd.alloc (.cells #[.int .i64 0, .int .i64 0] 129)
  have A0 := ahead_letter R st _ _ H0 hu (by omega)
  have O0 := Lib.hid (Only.alloc R w (.cells #[.int .i64 0, .int .i64 0] 129))
  obtain ⟨n0, n1, n2⟩ := cell_two w (.int .i64 0) (.int .i64 0) 129
  have hR := h.rd.lt
  obtain ⟨hN, hc63⟩ := h.names
  obtain ⟨d1, d2, d3⟩ := upto_lets hu hl
  rw [lets_upto hu, h.nm] at hk
  have lk := look_none hk
  obtain ⟨e1, e2⟩ := str_some d1
  generalize st.s.extract st.at_ e0 = D at *
  have A := Lib.hid A0
  have IX := Lib.hid (fun B w hv hc => index_any st.nA st.nl st.nc xs D (-1) B w hv hN (by omega) d3 lk hc)
  have KK := Lib.hid hK
  clear h H0 A0 hl hu hK hk lk hN d3
  go_enter Tryz.func106, Tryz.ntmps106
  go_wp2_with fail
  refine A.out.mono ?_
  rintro e w1 ⟨rfl, hr1, ho1⟩
  have K1 := KK.out.step hr1 (O0.out.trans ho1) rfl rfl rfl rfl rfl rfl rfl KK.out.at_
  have S1 := K1.strs.below ((Below.refl _ w1).alloc (Nat.le_refl _) (.cells #[.string D] 9))
  have I := Lib.hid (IX.out _ _ S1 (cell_one' w1 (.string D) 9))
  have OO := Lib.hid (O0.out.trans ho1)
  obtain ⟨m0, f0⟩ := ho1.cells (b := w.heap.size) (by simp) (by omega) 0
  obtain ⟨m1, f1⟩ := ho1.cells (b := w.heap.size) (by simp) (by omega) 1
  rw [n0] at m0
  rw [n1] at m1
  rw [n2] at f0 f1
  have c2 := hr1.cell 2
  simp only [RS.cells, List.getElem?_toArray, List.getElem?_cons_succ, List.getElem?_cons_zero] at c2
  have hw1 : w.heap.size < w1.heap.size := by have := ho1.size; simp at this; omega
  have hR1 := hr1.lt
  have hne : w.heap.size ≠ R := by omega
  have R1 := Lib.hid hr1
  clear hr1 ho1 n0 n1 n2 IX A K1 S1
  go_wp2_with fail
  refine I.out.mono ?_
  rintro e w2 ⟨rfl, rfl⟩
  go_wp2_with fail
  refine bodyPost_ret (v := .tuple #[.agg #[.int .i64 0, .int .i64 0], .bool false]) (by simp [results, Tryz.results106, go_sem, m0, m1, hw1]) rfl ⟨rfl, ?_, ?_⟩
  · exact ((R1.out.other _ _ (by simp; omega)).other _ _ (by simp; omega)).alloc _
  · exact (OO.out.two (Nat.le_refl _) _ _ _ _).trans (Only.alloc _ _ _)
set_option maxRecDepth 100000 in
set_option maxHeartbeats 1000000 in
theorem value_name (R : Nat) (st : RS) (K : Fld.Kd) (xs : List ByteArray) (i : Nat) (w : World) (h : KR w R st K xs) (hl : Fld.lets (st.s.data.toList.drop st.at_) ≠ []) (hk : Fld.look K.names (Fld.lets (st.s.data.toList.drop st.at_)) = some i) :
    Calls Tryz.prog 106 #[.pointer (some ⟨R, 0, none⟩)] w fun e w' => e = .returned (.tuple #[.agg #[.int .i64 (K.lo + i : Nat), .int .i64 st.at_], .bool true]) ∧ Rd w' R { st with at_ := st.at_ + (Fld.lets (st.s.data.toList.drop st.at_)).length } ∧ Only R w w' := by
  have hfit := h.fit
  obtain ⟨e0, hu⟩ := upto_ex Fld.letN st.s st.at_ h.at_
  have hK := h
  have H0 := h.rd.alloc (.cells #[.int .i64 0, .int .i64 0] 129)
  have A0 := ahead_letter R st _ _ H0 hu (by omega)
  have O0 := Lib.hid (Only.alloc R w (.cells #[.int .i64 0, .int .i64 0] 129))
  obtain ⟨n0, n1, n2⟩ := cell_two w (.int .i64 0) (.int .i64 0) 129
  have hR := h.rd.lt
  obtain ⟨hN, hc63⟩ := h.names
  obtain ⟨d1, d2, d3⟩ := upto_lets hu hl
  have hfe := hu.fit
  have hle := hu.le
  rw [lets_upto hu, h.nm] at hk
  obtain ⟨hi, lk⟩ := look_some hk
  have hlen : (Fld.lets (st.s.data.toList.drop st.at_)).length = (st.s.extract st.at_ e0).size := by rw [lets_upto hu, ← Lib.size_eq]
  rw [hlen]
  obtain ⟨e1, e2⟩ := str_some d1
  have hlo : K.lo ≤ 62 := by have := h.ok.le; have := h.ok.hi; omega
  have hlo2 : st.lo ≤ 62 := by rw [h.lo]; exact hlo
  have hloE := Lib.hid h.lo
  generalize st.s.extract st.at_ e0 = D at *
  have A := Lib.hid A0
  have IX := Lib.hid (fun B w hv hc => index_any st.nA st.nl st.nc xs D i B w hv hN (by omega) d3 lk hc)
  have KK := Lib.hid hK
  have hDs : st.at_ + D.size ≤ st.s.size := by omega
  clear h H0 A0 hl hu hK hk lk hN d3 hlen d2
  go_enter Tryz.func106, Tryz.ntmps106
  go_wp2_with fail
  refine A.out.mono ?_
  rintro e w1 ⟨rfl, hr1, ho1⟩
  have K1 := KK.out.step hr1 (O0.out.trans ho1) rfl rfl rfl rfl rfl rfl rfl KK.out.at_
  have S1 := K1.strs.below ((Below.refl _ w1).alloc (Nat.le_refl _) (.cells #[.string D] 9))
  have I := Lib.hid (IX.out _ _ S1 (cell_one' w1 (.string D) 9))
  have OO := Lib.hid (O0.out.trans ho1)
  obtain ⟨m0, f0⟩ := ho1.cells (b := w.heap.size) (by simp) (by omega) 0
  obtain ⟨m1, f1⟩ := ho1.cells (b := w.heap.size) (by simp) (by omega) 1
  rw [n0] at m0
  rw [n1] at m1
  rw [n2] at f0 f1
  have c0 := hr1.cell 0
  have c2 := hr1.cell 2
  have c5 := hr1.cell 5
  have z5 := hr1.frozen 5
  simp only [RS.cells, List.getElem?_toArray, List.getElem?_cons_succ, List.getElem?_cons_zero] at c0 c2 c5
  have hw1 : w.heap.size < w1.heap.size := by have := ho1.size; simp at this; omega
  have hR1 := hr1.lt
  have hne : w.heap.size ≠ R := by omega
  have hne' : R ≠ w.heap.size := by omega
  have R1 := Lib.hid hr1
  have t0 : decide ((i : Int) < 0) = false := by simp
  clear hr1 ho1 n0 n1 n2 IX A K1 S1
  go_wp2_with fail
  refine I.out.mono ?_
  rintro e w2 ⟨rfl, rfl⟩
  go_wp2_with fail
  -- the world with the letters in a variable of their own
  obtain ⟨W, hW⟩ : ∃ W, w1.alloc (.cells #[.string D] 9) = W := ⟨_, rfl⟩
  have hB : w1.heap.size < W.heap.size := by rw [← hW]; simp
  have RW := R1.out.alloc (.cells #[.string D] 9)
  have OW := OO.out.trans (Only.alloc R w1 (.cells #[.string D] 9))
  have cD := cell_one' w1 (.string D) 9
  have mW0 := (World.cell?_alloc_some w1 ⟨w.heap.size, 0, none⟩ (.cells #[.string D] 9) (by rw [m0]; rfl)).trans m0
  have mW1 := (World.cell?_alloc_some w1 ⟨w.heap.size, 1, none⟩ (.cells #[.string D] 9) (by rw [m1]; rfl)).trans m1
  have fW0 := (World.frozen?_of_block (w := w1) (a := ⟨w.heap.size, 0, none⟩) (Below.heap_alloc w1 (.cells #[.string D] 9) _ hw1)).trans f0
  have fW1 := (World.frozen?_of_block (w := w1) (a := ⟨w.heap.size, 1, none⟩) (Below.heap_alloc w1 (.cells #[.string D] 9) _ hw1)).trans f1
  rw [hW] at RW OW cD mW0 mW1 fW0 fW1 ⊢
  clear c0 c2 c5 z5 m0 m1 f0 f1 hW I R1 OO
  have c0 := RW.cell 0
  have c5 := RW.cell 5
  have z5 := RW.frozen 5
  simp only [RS.cells, List.getElem?_toArray, List.getElem?_cons_succ, List.getElem?_cons_zero] at c0 c5
  have hRW := RW.lt
  have RR := Lib.hid RW
  have OO := Lib.hid OW
  have hwr : IntKind.i64.wrap ((st.lo : Int) + (i : Int)) = (st.lo : Int) + i := IntWalk.i64_in _ (by omega)
  have k0 := World.new_ne W _ c0
  have k5 := World.new_ne W _ c5
  clear RW OW
  go_region_held3 (fun w' => w'.cell? ⟨R, 0, none⟩ = some (.int .i64 st.lo) ∧ w'.cell? ⟨R, 5, none⟩ = some (.int .i64 st.at_)) (go_keep) (fail)
  go_wp2_with fail
  obtain ⟨V, hV⟩ : ∃ V, (W.alloc (.cells #[.int .i64 ((st.lo : Int) + i), .int .i64 st.at_] 129)).drew = V := ⟨_, rfl⟩
  have hVs : W.heap.size < V.heap.size := by rw [← hV]; show W.heap.size < (W.alloc _).heap.size; simp
  have RV : Rd (W.alloc (.cells #[.int .i64 ((st.lo : Int) + i), .int .i64 st.at_] 129)).drew R st := RR.out.alloc _
  have OV : Only R w (W.alloc (.cells #[.int .i64 ((st.lo : Int) + i), .int .i64 st.at_] 129)).drew := (OO.out.trans (Only.alloc R W _)).trans (Only.drewN R _ 1)
  obtain ⟨v0, v1, v2⟩ := cell_two W (.int .i64 ((st.lo : Int) + i)) (.int .i64 st.at_) 129
  have v0' : (W.alloc (.cells #[.int .i64 ((st.lo : Int) + i), .int .i64 st.at_] 129)).drew.cell? ⟨W.heap.size, 0, none⟩ = _ := v0
  have v1' : (W.alloc (.cells #[.int .i64 ((st.lo : Int) + i), .int .i64 st.at_] 129)).drew.cell? ⟨W.heap.size, 1, none⟩ = _ := v1
  have bV : Below W.heap.size W (W.alloc (.cells #[.int .i64 ((st.lo : Int) + i), .int .i64 st.at_] 129)).drew := ((Below.refl _ W).alloc (Nat.le_refl _) _).drew
  rw [hV] at RV OV v0' v1' bV ⊢
  obtain ⟨hcV, hfV⟩ := kept bV
  have hwW : w.heap.size < W.heap.size := by omega
  have D1 := (hcV w1.heap.size 0 hB).trans cD
  have q0 := (hcV w.heap.size 0 hwW).trans mW0
  have q1 := (hcV w.heap.size 1 hwW).trans mW1
  have g0 := (hfV w.heap.size 0 hwW).trans fW0
  have g1 := (hfV w.heap.size 1 hwW).trans fW1
  clear hcV hfV bV v0 v1 v2 hV c0 c5 z5 cD mW0 mW1 fW0 fW1 k0 k5 RR OO
  have c5 := RV.cell 5
  have z5 := RV.frozen 5
  simp only [RS.cells, List.getElem?_toArray, List.getElem?_cons_succ, List.getElem?_cons_zero] at c5
  have hRV := RV.lt
  have RR := Lib.hid RV
  have OO := Lib.hid OV
  have hwr2 : IntKind.i64.wrap ((st.at_ : Int) + (D.size : Int)) = (st.at_ : Int) + D.size := IntWalk.i64_in _ (by omega)
  have hneW : W.heap.size ≠ R := by omega
  have hneW' : W.heap.size ≠ w.heap.size := by omega
  clear RV OV
  go_still_tail 9, (by kernel_rfl)
  go_wp2_with fail
  refine bodyPost_ret (v := .tuple #[.agg #[.int .i64 ((st.lo : Int) + i), .int .i64 st.at_], .bool true]) (by simp [results, Tryz.results106, go_sem, q0, q1]) rfl ⟨?_, ?_, ?_⟩
  · rw [← hloE.out, Int.natCast_add]
  · exact ((RR.out.set 5 _ (st' := { st with at_ := st.at_ + D.size }) (by simp [RS.cells])).other _ _ (by simp; omega)).other _ _ (by simp; omega)
  · exact ((OO.out.trans (Only.set _ _ _ _)).two (Nat.le_refl _) _ _ _ _).trans (Only.drewN R _ 1)
/-- what value reads -/
theorem value_some (R : Nat) (st : RS) (K : Fld.Kd) (xs : List ByteArray) (n k : Nat) (w : World) (h : KR w R st K xs) (hk : Fld.value K (st.s.data.toList.drop st.at_) = some (n, k)) :
    Calls Tryz.prog 106 #[.pointer (some ⟨R, 0, none⟩)] w fun e w' => e = .returned (.tuple #[.agg #[.int .i64 n, .int .i64 st.at_], .bool true]) ∧ Rd w' R { st with at_ := st.at_ + k } ∧ Only R w w' := by
  have hfit := h.fit
  unfold Fld.value at hk
  split at hk
  · rename_i hl
    exact value_digits R st K xs w h hl n st.at_ k true (fun W hW => number_some R st n k W hW h.at_ hk (by omega))
  · rename_i hl
    cases c : Fld.look K.names (Fld.lets (st.s.data.toList.drop st.at_)) with
    | none => rw [c] at hk; cases hk
    | some i =>
      rw [c] at hk
      simp only [Option.map_some, Option.some.injEq, Prod.mk.injEq] at hk
      obtain ⟨rfl, rfl⟩ := hk
      exact value_name R st K xs i w h hl c
theorem value_none (R : Nat) (st : RS) (K : Fld.Kd) (xs : List ByteArray) (w : World) (h : KR w R st K xs) (hk : Fld.value K (st.s.data.toList.drop st.at_) = none) :
    Calls Tryz.prog 106 #[.pointer (some ⟨R, 0, none⟩)] w fun e w' => e = .returned (.tuple #[.agg #[.int .i64 0, .int .i64 0], .bool false]) ∧ Rd w' R st ∧ Only R w w' := by
  have hfit := h.fit
  unfold Fld.value at hk
  split at hk
  · rename_i hl
    exact value_digits R st K xs w h hl 0 0 0 false (fun W hW => number_none R st W hW h.at_ hk (by omega))
  · rename_i hl
    cases c : Fld.look K.names (Fld.lets (st.s.data.toList.drop st.at_)) with
    | none => exact value_noname R st K xs w h hl c
    | some i => rw [c] at hk; cases hk
end Go.Proofs.YtpnfifhanmpapaaGreatDoor
/- Contracts of the parts of a field, of package field: what reads a part, and what comes next. -/
namespace Go.Proofs.YtpnfifhanmpapaaGreatDoor
open Go.ChangeShapes Go.WideShapes Go.RowKit Go.Shelf

/-- the functions that read the parts, by a number -/
def partF (p : Nat) : Nat := match p with
  | 0 => 69
  | 1 => 107
  | 2 => 141
  | 3 => 105
  | 4 => 133
  | _ => 134
def partV (p : Nat) : Value := .func (.func (partF p)) #[] #[]
def RS.it (st : RS) : Fld.It := ⟨st.f, st.fa, st.u, st.ua, st.t, st.ta⟩
def RS.rest (st : RS) : List UInt8 := st.s.data.toList.drop st.at_
/-- what the item comes to -/
def partRes (K : Fld.Kd) (p : Nat) (st : RS) : Fld.Res := match p with
  | 0 => Fld.item K st.rest st.at_
  | 1 => Fld.rVal K st.it st.rest st.at_
  | 2 => Fld.rSec K st.it st.rest st.at_
  | 3 => Fld.rNums st.it st.rest st.at_
  | 4 => Fld.rStep st.it st.rest st.at_
  | _ => .inl (st.it, st.at_, st.rest)
/-- the items that are still to come, and where the text stops being a field -/
def fut (K : Fld.Kd) (p : Nat) (st : RS) : List Fld.It × Option Nat := Fld.go K (partRes K p st)
def meas (p : Nat) (st : RS) : Nat := 6 * (st.s.size - st.at_) + (5 - p)
/-- one part has been read -/
def Step (K : Fld.Kd) (p : Nat) (st : RS) (v : Value) (st' : RS) : Prop :=
  (∃ p', v = partV p' ∧ 1 ≤ p' ∧ p' ≤ 5 ∧ st'.wh = false ∧ fut K p' st' = fut K p st ∧ meas p' st' < meas p st) ∨
  (v = .nilFunc ∧ st'.wh = false ∧ fut K p st = ([], some st'.at_)) ∨
  (v = .nilFunc ∧ st'.wh = true ∧ fut K p st = ([st'.it], none)) ∨
  (v = partV 0 ∧ st'.wh = true ∧ fut K p st = (st'.it :: (fut K 0 st').1, (fut K 0 st').2) ∧ meas 0 st' < meas p st)
/-- the contract of a part -/
def PartOk (p : Nat) : Prop := ∀ (R : Nat) (st : RS) (K : Fld.Kd) (xs : List ByteArray) (w : World), KR w R st K xs → (p = 0 ∨ st.wh = false) →
  Calls Tryz.prog (partF p) #[.pointer (some ⟨R, 0, none⟩)] w fun e w' => ∃ v st', e = .returned v ∧ KR w' R st' K xs ∧ Only R w w' ∧ (st'.nx = st.nx ∧ st'.nA = st.nA) ∧ Step K p st v st'

/-! what comes next -/
theorem rest_head (st : RS) (h : st.at_ < st.s.size) : st.rest = st.s[st.at_] :: st.s.data.toList.drop (st.at_ + 1) := drop_cons _ _ h
theorem rest_end (st : RS) (h : st.s.size ≤ st.at_) : st.rest = [] := drop_end _ _ h
theorem head_yes (st : RS) (c : UInt8) : st.rest.head? = some c ↔ ∃ h : st.at_ < st.s.size, (st.s[st.at_].toNat : Int) = (c.toNat : Int) := by
  constructor
  · intro h
    rcases Nat.lt_or_ge st.at_ st.s.size with a | a
    · rw [rest_head st a] at h
      have : st.s[st.at_] = c := by simpa using h
      exact ⟨a, by rw [this]⟩
    · rw [rest_end st a] at h; cases h
  · rintro ⟨a, b⟩
    rw [rest_head st a, List.head?_cons, UInt8.toNat_inj.1 (show st.s[st.at_].toNat = c.toNat by omega)]
theorem head_no {st : RS} {c : UInt8} (h : ¬ st.rest.head? = some c) : ∀ h : st.at_ < st.s.size, (st.s[st.at_].toNat : Int) ≠ (c.toNat : Int) := fun a b => h ((head_yes st c).2 ⟨a, b⟩)
theorem rest_tail (st : RS) : st.rest.tail = ({ st with at_ := st.at_ + 1 } : RS).rest := by
  show (st.s.data.toList.drop st.at_).tail = st.s.data.toList.drop (st.at_ + 1)
  rw [List.tail_drop]
theorem rest_drop (st : RS) (k : Nat) : st.rest.drop k = ({ st with at_ := st.at_ + k } : RS).rest := by
  show (st.s.data.toList.drop st.at_).drop k = st.s.data.toList.drop (st.at_ + k)
  rw [List.drop_drop]
theorem rest_len (st : RS) : st.rest.length = st.s.size - st.at_ := by
  show (st.s.data.toList.drop st.at_).length = _
  rw [List.length_drop, ← Lib.size_eq]

/-! what is to come, before and behind a part -/
theorem fut3_yes {K : Fld.Kd} {st : RS} (h : st.rest.head? = some 47) : fut K 4 { st with at_ := st.at_ + 1 } = fut K 3 st := by
  show Fld.go K (Fld.rStep st.it ({ st with at_ := st.at_ + 1 } : RS).rest (st.at_ + 1)) = Fld.go K (Fld.rNums st.it st.rest st.at_)
  unfold Fld.rNums
  rw [if_pos h, rest_tail]
theorem fut3_no {K : Fld.Kd} {st : RS} (h : ¬ st.rest.head? = some 47) : fut K 5 st = fut K 3 st := by
  show Fld.go K (.inl (st.it, st.at_, st.rest)) = Fld.go K (Fld.rNums st.it st.rest st.at_)
  unfold Fld.rNums
  rw [if_neg h]
theorem fut4_no {K : Fld.Kd} {st : RS} (h : Fld.num st.rest = none) : fut K 4 st = ([], some st.at_) := by
  show Fld.go K (Fld.rStep st.it st.rest st.at_) = _
  unfold Fld.rStep
  rw [h]
  rfl
theorem fut4_yes {K : Fld.Kd} {st : RS} {n k : Nat} (h : Fld.num st.rest = some (n, k)) : fut K 5 { st with at_ := st.at_ + k, t := n, ta := st.at_ } = fut K 4 st := by
  show Fld.go K (.inl (⟨st.f, st.fa, st.u, st.ua, n, st.at_⟩, st.at_ + k, ({ st with at_ := st.at_ + k } : RS).rest)) = Fld.go K (Fld.rStep st.it st.rest st.at_)
  unfold Fld.rStep
  rw [h, ← rest_drop]
  rfl
theorem fut2_no {K : Fld.Kd} {st : RS} (h : Fld.value K st.rest = none) : fut K 2 st = ([], some st.at_) := by
  show Fld.go K (Fld.rSec K st.it st.rest st.at_) = _
  unfold Fld.rSec
  rw [h]
  rfl
theorem fut2_yes {K : Fld.Kd} {st : RS} {n k : Nat} (h : Fld.value K st.rest = some (n, k)) : fut K 3 { st with at_ := st.at_ + k, u := n, ua := st.at_ } = fut K 2 st := by
  show Fld.go K (Fld.rNums ⟨st.f, st.fa, n, st.at_, st.t, st.ta⟩ ({ st with at_ := st.at_ + k } : RS).rest (st.at_ + k)) = Fld.go K (Fld.rSec K st.it st.rest st.at_)
  unfold Fld.rSec
  rw [h, ← rest_drop]
  rfl
theorem fut1_minus {K : Fld.Kd} {st : RS} (h : st.rest.head? = some 45) : fut K 2 { st with at_ := st.at_ + 1 } = fut K 1 st := by
  show Fld.go K (Fld.rSec K st.it ({ st with at_ := st.at_ + 1 } : RS).rest (st.at_ + 1)) = Fld.go K (Fld.rVal K st.it st.rest st.at_)
  unfold Fld.rVal
  rw [if_pos h, rest_tail]
theorem fut1_slash {K : Fld.Kd} {st : RS} (h0 : ¬ st.rest.head? = some 45) (h : st.rest.head? = some 47) : fut K 4 { st with at_ := st.at_ + 1, u := max st.f K.hi } = fut K 1 st := by
  show Fld.go K (Fld.rStep ⟨st.f, st.fa, max st.f K.hi, st.ua, st.t, st.ta⟩ ({ st with at_ := st.at_ + 1 } : RS).rest (st.at_ + 1)) = Fld.go K (Fld.rVal K st.it st.rest st.at_)
  unfold Fld.rVal
  rw [if_neg h0, if_pos h, ← rest_tail]
  rfl
theorem fut1_no {K : Fld.Kd} {st : RS} (h0 : ¬ st.rest.head? = some 45) (h : ¬ st.rest.head? = some 47) : fut K 5 st = fut K 1 st := by
  show Fld.go K (.inl (st.it, st.at_, st.rest)) = Fld.go K (Fld.rVal K st.it st.rest st.at_)
  unfold Fld.rVal
  rw [if_neg h0, if_neg h]
theorem fut0_star {K : Fld.Kd} {st : RS} (h : st.rest.head? = some 42) (st' : RS) (e1 : st'.it = ⟨K.lo, 0, K.hi, 0, 1, 0⟩) (e2 : st'.s = st.s) (e3 : st'.at_ = st.at_ + 1) : fut K 3 st' = fut K 0 st := by
  show Fld.go K (Fld.rNums st'.it st'.rest st'.at_) = Fld.go K (Fld.item K st.rest st.at_)
  unfold Fld.item
  rw [if_pos h, rest_tail, e1, e3]
  unfold RS.rest
  rw [e2, e3]
theorem fut0_no {K : Fld.Kd} {st : RS} (h0 : ¬ st.rest.head? = some 42) (h : Fld.value K st.rest = none) : fut K 0 st = ([], some st.at_) := by
  show Fld.go K (Fld.item K st.rest st.at_) = _
  unfold Fld.item
  rw [if_neg h0, h]
  rfl
theorem fut0_yes {K : Fld.Kd} {st : RS} {n k : Nat} (h0 : ¬ st.rest.head? = some 42) (h : Fld.value K st.rest = some (n, k)) (st' : RS) (e1 : st'.it = ⟨n, st.at_, n, st.at_, 1, 0⟩) (e2 : st'.s = st.s) (e3 : st'.at_ = st.at_ + k) : fut K 1 st' = fut K 0 st := by
  show Fld.go K (Fld.rVal K st'.it st'.rest st'.at_) = Fld.go K (Fld.item K st.rest st.at_)
  unfold Fld.item
  rw [if_neg h0, h]
  show _ = Fld.go K (Fld.rVal K _ _ _)
  rw [rest_drop, e1, e3]
  unfold RS.rest
  rw [e2, e3]
theorem fut5_end {K : Fld.Kd} {st : RS} (h : st.s.size ≤ st.at_) : fut K 5 st = ([st.it], none) := by
  show Fld.go K (.inl (st.it, st.at_, st.rest)) = _
  rw [rest_end st h]
  rfl
theorem fut5_comma {K : Fld.Kd} {st : RS} (h : st.rest.head? = some 44) : fut K 5 st = (st.it :: (fut K 0 { st with at_ := st.at_ + 1 }).1, (fut K 0 { st with at_ := st.at_ + 1 }).2) := by
  show Fld.go K (.inl (st.it, st.at_, st.rest)) = (st.it :: (Fld.go K (Fld.item K ({ st with at_ := st.at_ + 1 } : RS).rest (st.at_ + 1))).1, (Fld.go K (Fld.item K ({ st with at_ := st.at_ + 1 } : RS).rest (st.at_ + 1))).2)
  rw [← rest_tail, ← Fld.scan_go]
  obtain ⟨e, _, _⟩ := Fld.at_tail h
  generalize st.rest.tail = r at *
  rw [e, Fld.go_comma]
theorem fut5_junk {K : Fld.Kd} {st : RS} (h0 : st.at_ < st.s.size) (h : ¬ st.rest.head? = some 44) : fut K 5 st = ([], some st.at_) := by
  show Fld.go K (.inl (st.it, st.at_, st.rest)) = _
  rw [rest_head st h0] at h ⊢
  exact Fld.go_junk K _ _ _ _ (by simpa using h)

/-! behindNumbers -/
theorem nums_part : PartOk 3 := by
  intro R st K xs w h hw
  have hwh : st.wh = false := by rcases hw with q | q; omega; exact q
  have hfit := h.fit
  show Calls Tryz.prog 105 _ _ _
  by_cases hc : st.rest.head? = some 47
  · obtain ⟨h1, h2⟩ := (head_yes st 47).1 hc
    have T := Lib.hid (takes_yes R st 47 w h.rd h1 h2 (by omega))
    have KK := Lib.hid h
    have HC := Lib.hid hc
    clear h hc
    go_enter Tryz.func105, Tryz.ntmps105
    go_wp2_with fail
    refine T.out.mono ?_
    rintro e w1 ⟨rfl, hr, ho⟩
    have RR := Lib.hid hr
    have OO := Lib.hid ho
    clear hr ho
    go_wp2_with fail
    go_ret
    exact ⟨_, _, rfl, KK.out.step RR.out OO.out rfl rfl rfl rfl rfl rfl rfl h1, OO.out, ⟨rfl, rfl⟩, .inl ⟨4, rfl, by omega, by omega, hwh, fut3_yes HC.out, by simp [meas]; omega⟩⟩
  · have T := Lib.hid (takes_no R st 47 w h.rd h.at_ (head_no hc))
    have KK := Lib.hid h
    have HC := Lib.hid hc
    clear h hc
    go_enter Tryz.func105, Tryz.ntmps105
    go_wp2_with fail
    refine T.out.mono ?_
    rintro e w1 ⟨rfl, hr, ho⟩
    have RR := Lib.hid hr
    have OO := Lib.hid ho
    clear hr ho
    go_wp2_with fail
    go_ret
    exact ⟨_, _, rfl, KK.out.step RR.out OO.out rfl rfl rfl rfl rfl rfl rfl KK.out.at_, OO.out, ⟨rfl, rfl⟩, .inl ⟨5, rfl, by omega, by omega, hwh, fut3_no HC.out, by simp [meas]⟩⟩

/-! step -/
theorem Rd.two {W : World} {R : Nat} {st : RS} (h : Rd W R st) (b : Nat) (hb : R ≠ b) (j k : Nat) (x y : Value) : Rd ((W.setCell ⟨b, j, none⟩ x).setCell ⟨b, k, none⟩ y) R st := (h.other _ _ hb).other _ _ hb
set_option maxHeartbeats 1000000 in
theorem step_part : PartOk 4 := by
  intro R st K xs w h hw
  have hwh : st.wh = false := by rcases hw with q | q; omega; exact q
  have hfit := h.fit
  show Calls Tryz.prog 133 _ _ _
  cases hc : Fld.num st.rest with
  | none =>
    have T := Lib.hid (number_none R st w h.rd h.at_ hc (by omega))
    have KK := Lib.hid h
    have HC := Lib.hid hc
    clear h hc
    go_enter Tryz.func133, Tryz.ntmps133
    go_wp2_with fail
    refine T.out.mono ?_
    rintro e w1 ⟨rfl, hr, ho⟩
    have RR := Lib.hid (hr.alloc (.cells #[.int .i64 0, .int .i64 0] 129))
    have OO := Lib.hid (ho.trans (Only.alloc _ _ (.cells #[.int .i64 0, .int .i64 0] 129)))
    clear hr ho
    go_wp2_with fail
    go_ret
    exact ⟨_, _, rfl, KK.out.step RR.out OO.out rfl rfl rfl rfl rfl rfl rfl KK.out.at_, OO.out, ⟨rfl, rfl⟩, .inr (.inl ⟨rfl, hwh, fut4_no HC.out⟩)⟩
  | some o =>
    obtain ⟨n, k⟩ := o
    have T := Lib.hid (number_some R st n k w h.rd h.at_ hc (by omega))
    obtain ⟨k1, k2, _⟩ := Fld.num_len hc
    rw [rest_len] at k2
    have KK := Lib.hid h
    have HC := Lib.hid hc
    clear h hc
    go_enter Tryz.func133, Tryz.ntmps133
    go_wp2_with fail
    refine T.out.mono ?_
    rintro e w1 ⟨rfl, hr, ho⟩
    have RR := Lib.hid hr
    have OO := Lib.hid ho
    have hR := hr.lt
    have c11 := hr.cell 11
    have c12 := hr.cell 12
    have z11 := hr.frozen 11
    have z12 := hr.frozen 12
    simp only [RS.cells, List.getElem?_toArray, List.getElem?_cons_succ, List.getElem?_cons_zero] at c11 c12
    have hne : w1.heap.size ≠ R := by omega
    clear hr ho
    go_wp2_with fail
    go_ret
    have S1 := (RR.out.set 11 (.int .i64 n) (st' := { st with at_ := st.at_ + k, t := n }) (by simp [RS.cells])).set 12 (.int .i64 st.at_) (st' := { st with at_ := st.at_ + k, t := n, ta := st.at_ }) (by simp [RS.cells])
    have O1 := (OO.out.trans (Only.set R 11 w1 (.int .i64 n))).trans (Only.set R 12 _ (.int .i64 st.at_))
    refine ⟨_, _, rfl, KK.out.step (S1.alloc _) (O1.trans (Only.alloc _ _ _)) rfl rfl rfl rfl rfl rfl rfl ?_, O1.trans (Only.alloc _ _ _), ⟨rfl, rfl⟩, .inl ⟨5, rfl, by omega, by omega, hwh, fut4_yes HC.out, by simp [meas]; omega⟩⟩
    have := KK.out.at_
    show st.at_ + k ≤ st.s.size
    omega

/-! second -/
set_option maxHeartbeats 1000000 in
theorem sec_part : PartOk 2 := by
  intro R st K xs w h hw
  have hwh : st.wh = false := by rcases hw with q | q; omega; exact q
  have hfit := h.fit
  show Calls Tryz.prog 141 _ _ _
  cases hc : Fld.value K st.rest with
  | none =>
    have T := Lib.hid (value_none R st K xs w h hc)
    have KK := Lib.hid h
    have HC := Lib.hid hc
    clear h hc
    go_enter Tryz.func141, Tryz.ntmps141
    go_wp2_with fail
    refine T.out.mono ?_
    rintro e w1 ⟨rfl, hr, ho⟩
    have RR := Lib.hid (hr.alloc (.cells #[.int .i64 0, .int .i64 0] 129))
    have OO := Lib.hid (ho.trans (Only.alloc _ _ (.cells #[.int .i64 0, .int .i64 0] 129)))
    clear hr ho
    go_wp2_with fail
    go_ret
    exact ⟨_, _, rfl, KK.out.step RR.out OO.out rfl rfl rfl rfl rfl rfl rfl KK.out.at_, OO.out, ⟨rfl, rfl⟩, .inr (.inl ⟨rfl, hwh, fut2_no HC.out⟩)⟩
  | some o =>
    obtain ⟨n, k⟩ := o
    have T := Lib.hid (value_some R st K xs n k w h hc)
    obtain ⟨k1, k2⟩ := Fld.value_len hc
    rw [rest_len] at k2
    have KK := Lib.hid h
    have HC := Lib.hid hc
    clear h hc
    go_enter Tryz.func141, Tryz.ntmps141
    go_wp2_with fail
    refine T.out.mono ?_
    rintro e w1 ⟨rfl, hr, ho⟩
    have RR := Lib.hid hr
    have OO := Lib.hid ho
    have hR := hr.lt
    have c9 := hr.cell 9
    have c10 := hr.cell 10
    have z9 := hr.frozen 9
    have z10 := hr.frozen 10
    simp only [RS.cells, List.getElem?_toArray, List.getElem?_cons_succ, List.getElem?_cons_zero] at c9 c10
    have hne : w1.heap.size ≠ R := by omega
    clear hr ho
    go_wp2_with fail
    go_ret
    have S1 := (RR.out.set 9 (.int .i64 n) (st' := { st with at_ := st.at_ + k, u := n }) (by simp [RS.cells])).set 10 (.int .i64 st.at_) (st' := { st with at_ := st.at_ + k, u := n, ua := st.at_ }) (by simp [RS.cells])
    have O1 := (OO.out.trans (Only.set R 9 w1 (.int .i64 n))).trans (Only.set R 10 _ (.int .i64 st.at_))
    refine ⟨_, _, rfl, KK.out.step (S1.alloc _) (O1.trans (Only.alloc _ _ _)) rfl rfl rfl rfl rfl rfl rfl ?_, O1.trans (Only.alloc _ _ _), ⟨rfl, rfl⟩, .inl ⟨3, rfl, by omega, by omega, hwh, fut2_yes HC.out, by simp [meas]; omega⟩⟩
    have := KK.out.at_
    show st.at_ + k ≤ st.s.size
    omega

/-! behindItem -/
set_option maxHeartbeats 1000000 in
theorem item_part : PartOk 5 := by
  intro R st K xs w h hw
  have hwh : st.wh = false := by rcases hw with q | q; omega; exact q
  have hfit := h.fit
  have hat := h.at_
  show Calls Tryz.prog 134 _ _ _
  have c4 := h.rd.cell 4
  have c5 := h.rd.cell 5
  have c13 := h.rd.cell 13
  have z13 := h.rd.frozen 13
  simp only [RS.cells, List.getElem?_toArray, List.getElem?_cons_succ, List.getElem?_cons_zero] at c4 c5 c13
  by_cases he : st.s.size ≤ st.at_
  · have t0 : ((st.at_ : Int) == (st.s.size : Int)) = true := by rw [beq_iff_eq]; omega
    have t1 : (st.at_ == st.s.size) = true := by rw [beq_iff_eq]; omega
    have KK := Lib.hid h
    clear h
    go_enter Tryz.func134, Tryz.ntmps134
    go_wp2_with fail
    go_quiet (fail)
    go_wp2_with fail
    go_ret
    have S1 := (KK.out.rd.drewN nq).set 13 (.bool true) (st' := { st with wh := true }) (by simp [RS.cells])
    have O1 := (Only.drewN R w nq).trans (Only.set R 13 _ (.bool true))
    exact ⟨_, _, rfl, KK.out.step S1 O1 rfl rfl rfl rfl rfl rfl rfl hat, O1, ⟨rfl, rfl⟩, .inr (.inr (.inl ⟨rfl, rfl, fut5_end he⟩))⟩
  · have t0 : ((st.at_ : Int) == (st.s.size : Int)) = false := by rw [beq_eq_false_iff_ne]; omega
    have t1 : (st.at_ == st.s.size) = false := by rw [beq_eq_false_iff_ne]; omega
    by_cases hc : st.rest.head? = some 44
    · obtain ⟨h1, h2⟩ := (head_yes st 44).1 hc
      have T := Lib.hid (fun n => takes_yes R st 44 (w.drewN n) (h.rd.drewN n) h1 h2 (by omega))
      have KK := Lib.hid h
      have HC := Lib.hid hc
      clear h hc
      go_enter Tryz.func134, Tryz.ntmps134
      go_wp2_with fail
      go_quiet (fail)
      go_wp2_with fail
      refine (T.out _).mono ?_
      rintro e w1 ⟨rfl, hr, ho⟩
      have d13 := hr.cell 13
      have y13 := hr.frozen 13
      simp only [RS.cells, List.getElem?_toArray, List.getElem?_cons_succ, List.getElem?_cons_zero] at d13
      have RR := Lib.hid hr
      have OO := Lib.hid ((Only.drewN R w nq).trans ho)
      clear hr ho
      go_wp2_with fail
      go_ret
      have S1 := RR.out.set 13 (.bool true) (st' := { st with at_ := st.at_ + 1, wh := true }) (by simp [RS.cells])
      have O1 := OO.out.trans (Only.set R 13 _ (.bool true))
      exact ⟨_, _, rfl, KK.out.step S1 O1 rfl rfl rfl rfl rfl rfl rfl h1, O1, ⟨rfl, rfl⟩, .inr (.inr (.inr ⟨rfl, rfl, fut5_comma HC.out, by simp [meas]; omega⟩))⟩
    · have T := Lib.hid (fun n => takes_no R st 44 (w.drewN n) (h.rd.drewN n) h.at_ (head_no hc))
      have KK := Lib.hid h
      have HC := Lib.hid hc
      clear h hc
      go_enter Tryz.func134, Tryz.ntmps134
      go_wp2_with fail
      go_quiet (fail)
      go_wp2_with fail
      refine (T.out _).mono ?_
      rintro e w1 ⟨rfl, hr, ho⟩
      have RR := Lib.hid hr
      have OO := Lib.hid ((Only.drewN R w nq).trans ho)
      clear hr ho
      go_wp2_with fail
      go_ret
      exact ⟨_, _, rfl, KK.out.step RR.out OO.out rfl rfl rfl rfl rfl rfl rfl hat, OO.out, ⟨rfl, rfl⟩, .inr (.inl ⟨rfl, hwh, fut5_junk (by omega) HC.out⟩)⟩
end Go.Proofs.YtpnfifhanmpapaaGreatDoor
/- Contracts of begin and behindValue of package field, and of all parts. -/
namespace Go.Proofs.YtpnfifhanmpapaaGreatDoor
open Go.ChangeShapes Go.WideShapes Go.RowKit Go.Shelf

/-! behindValue -/
set_option maxRecDepth 100000 in
set_option maxHeartbeats 1000000 in
theorem val_part : PartOk 1 := by
  intro R st K xs w h hw
  have hwh : st.wh = false := by rcases hw with q | q; omega; exact q
  have hfit := h.fit
  have hat := h.at_
  show Calls Tryz.prog 107 _ _ _
  by_cases hm : st.rest.head? = some 45
  · obtain ⟨h1, h2⟩ := (head_yes st 45).1 hm
    have T := Lib.hid (takes_yes R st 45 w h.rd h1 h2 (by omega))
    have KK := Lib.hid h
    have HC := Lib.hid hm
    clear h hm
    go_enter Tryz.func107, Tryz.ntmps107
    go_wp2_with fail
    refine T.out.mono ?_
    rintro e w1 ⟨rfl, hr, ho⟩
    have RR := Lib.hid hr
    have OO := Lib.hid ho
    clear hr ho
    go_wp2_with fail
    go_ret
    exact ⟨_, _, rfl, KK.out.step RR.out OO.out rfl rfl rfl rfl rfl rfl rfl h1, OO.out, ⟨rfl, rfl⟩, .inl ⟨2, rfl, by omega, by omega, hwh, fut1_minus HC.out, by simp [meas]; omega⟩⟩
  · have T := Lib.hid (takes_no R st 45 w h.rd h.at_ (head_no hm))
    by_cases hs : st.rest.head? = some 47
    · obtain ⟨h1, h2⟩ := (head_yes st 47).1 hs
      have T2 := Lib.hid (fun w hr => takes_yes R st 47 w hr h1 h2 (by omega))
      have KK := Lib.hid h
      have HC := Lib.hid hm
      have HS := Lib.hid hs
      obtain ⟨m, hmx⟩ : ∃ m : Nat, max (st.f : Int) (st.hi : Int) = (m : Int) := ⟨max st.f st.hi, by omega⟩
      have HM := Lib.hid (show m = max st.f K.hi by rw [← h.hi]; omega)
      clear h hm hs
      go_enter Tryz.func107, Tryz.ntmps107
      go_wp2_with fail
      refine T.out.mono ?_
      rintro e w1 ⟨rfl, hr, ho⟩
      have TT := Lib.hid (T2.out _ hr)
      have OO := Lib.hid ho
      clear hr ho T2
      go_wp2_with fail
      refine TT.out.mono ?_
      rintro e w2 ⟨rfl, hr, ho⟩
      have c1 := hr.cell 1
      have c7 := hr.cell 7
      have c9 := hr.cell 9
      have z9 := hr.frozen 9
      simp only [RS.cells, List.getElem?_toArray, List.getElem?_cons_succ, List.getElem?_cons_zero] at c1 c7 c9
      have RR := Lib.hid hr
      have O2 := Lib.hid (OO.out.trans ho)
      clear hr ho OO T TT
      go_wp2_with fail
      go_still_tail 17, (by kernel_rfl)
      go_wp2_with fail
      go_ret
      have S1 := (RR.out.set 9 (.int .i64 m) (st' := { st with at_ := st.at_ + 1, u := max st.f K.hi }) (by simp [RS.cells, HM.out])).drewN 1
      have O1 := (O2.out.trans (Only.set R 9 w2 (.int .i64 m))).trans (Only.drewN R _ 1)
      exact ⟨_, _, rfl, KK.out.step S1 O1 rfl rfl rfl rfl rfl rfl rfl h1, O1, ⟨rfl, rfl⟩, .inl ⟨4, rfl, by omega, by omega, hwh, fut1_slash HC.out HS.out, by simp [meas]; omega⟩⟩
    · have T2 := Lib.hid (fun w hr => takes_no R st 47 w hr hat (head_no hs))
      have KK := Lib.hid h
      have HC := Lib.hid hm
      have HS := Lib.hid hs
      clear h hm hs
      go_enter Tryz.func107, Tryz.ntmps107
      go_wp2_with fail
      refine T.out.mono ?_
      rintro e w1 ⟨rfl, hr, ho⟩
      have TT := Lib.hid (T2.out _ hr)
      have OO := Lib.hid ho
      clear hr ho T2
      go_wp2_with fail
      refine TT.out.mono ?_
      rintro e w2 ⟨rfl, hr, ho⟩
      have RR := Lib.hid hr
      have O2 := Lib.hid (OO.out.trans ho)
      clear hr ho OO T TT
      go_wp2_with fail
      go_ret
      exact ⟨_, _, rfl, KK.out.step RR.out O2.out rfl rfl rfl rfl rfl rfl rfl hat, O2.out, ⟨rfl, rfl⟩, .inl ⟨5, rfl, by omega, by omega, hwh, fut1_no HC.out HS.out, by simp [meas]⟩⟩

/-! begin -/
/-- the reader with a new item -/
def RS.fresh (st : RS) : RS := { st with f := 0, fa := 0, u := 0, ua := 0, t := 1, ta := 0, wh := false }
theorem begin_world (R : Nat) (st : RS) (w : World) (h : Rd w R st) : ∃ W, W = ((((((w.setCell ⟨R, 7, none⟩ (.int .i64 0)).setCell ⟨R, 8, none⟩ (.int .i64 0)).setCell ⟨R, 9, none⟩ (.int .i64 0)).setCell ⟨R, 10, none⟩ (.int .i64 0)).setCell ⟨R, 11, none⟩ (.int .i64 1)).setCell ⟨R, 12, none⟩ (.int .i64 0)).setCell ⟨R, 13, none⟩ (.bool false) ∧ Rd W R st.fresh ∧ Only R w W := by
  refine ⟨_, rfl, ?_, ?_⟩
  · refine Rd.set (st := { st with f := 0, fa := 0, u := 0, ua := 0, t := 1, ta := 0 }) ?_ _ _ (by simp [RS.cells, RS.fresh])
    refine Rd.set (st := { st with f := 0, fa := 0, u := 0, ua := 0, t := 1 }) ?_ _ _ (by simp [RS.cells])
    refine Rd.set (st := { st with f := 0, fa := 0, u := 0, ua := 0 }) ?_ _ _ (by simp [RS.cells])
    refine Rd.set (st := { st with f := 0, fa := 0, u := 0 }) ?_ _ _ (by simp [RS.cells])
    refine Rd.set (st := { st with f := 0, fa := 0 }) ?_ _ _ (by simp [RS.cells])
    refine Rd.set (st := { st with f := 0 }) ?_ _ _ (by simp [RS.cells])
    exact Rd.set h _ _ (by simp [RS.cells])
  · exact ((((((Only.set R _ _ _).trans (Only.set R _ _ _)).trans (Only.set R _ _ _)).trans (Only.set R _ _ _)).trans (Only.set R _ _ _)).trans (Only.set R _ _ _)).trans (Only.set R _ _ _)
set_option maxRecDepth 100000 in
set_option maxHeartbeats 1000000 in
theorem begin_part : PartOk 0 := by
  intro R st K xs w h hw
  have hfit := h.fit
  have hat := h.at_
  show Calls Tryz.prog 69 _ _ _
  have c7 := h.rd.cell 7
  have c8 := h.rd.cell 8
  have c9 := h.rd.cell 9
  have c10 := h.rd.cell 10
  have c11 := h.rd.cell 11
  have c12 := h.rd.cell 12
  have c13 := h.rd.cell 13
  have z7 := h.rd.frozen 7
  have z8 := h.rd.frozen 8
  have z9 := h.rd.frozen 9
  have z10 := h.rd.frozen 10
  have z11 := h.rd.frozen 11
  have z12 := h.rd.frozen 12
  have z13 := h.rd.frozen 13
  simp only [RS.cells, List.getElem?_toArray, List.getElem?_cons_succ, List.getElem?_cons_zero] at c7 c8 c9 c10 c11 c12 c13
  obtain ⟨W, hW, hr, ho⟩ := begin_world R st w h.rd
  have K1 := h.step hr ho rfl rfl rfl rfl rfl rfl rfl hat
  have HW := Lib.hid hW
  by_cases hc : st.rest.head? = some 42
  · obtain ⟨h1, h2⟩ := (head_yes st 42).1 hc
    have T := Lib.hid (takes_yes R st.fresh 42 W hr h1 h2 (by show st.s.size ≤ _; omega))
    have KK := Lib.hid h
    have HC := Lib.hid hc
    have OO := Lib.hid ho
    clear h hc hr ho K1 hW
    go_enter Tryz.func69, Tryz.ntmps69
    go_wp2_with fail
    rw [← HW.out]
    refine T.out.mono ?_
    rintro e w1 ⟨rfl, hr, ho⟩
    have c0 := hr.cell 0
    have c1 := hr.cell 1
    have d7 := hr.cell 7
    have d9 := hr.cell 9
    have y7 := hr.frozen 7
    have y9 := hr.frozen 9
    simp only [RS.fresh, RS.cells, List.getElem?_toArray, List.getElem?_cons_succ, List.getElem?_cons_zero] at c0 c1 d7 d9
    have RR := Lib.hid hr
    have O2 := Lib.hid (OO.out.trans ho)
    clear hr ho OO T HW c7 c8 c9 c10 c11 c12 c13 z7 z8 z9 z10 z11 z12 z13
    go_wp2_with fail
    go_region_held3 (fun w' => w'.cell? ⟨R, 0, none⟩ = some (.int .i64 st.lo) ∧ w'.cell? ⟨R, 1, none⟩ = some (.int .i64 st.hi)) (simp [*, go_sem]) (fail)
    go_wp2_with fail
    go_ret
    have S1 := ((RR.out.set 7 (.int .i64 st.lo) (st' := { st.fresh with at_ := st.at_ + 1, f := st.lo }) (by simp [RS.cells, RS.fresh])).set 9 (.int .i64 st.hi) (st' := { st.fresh with at_ := st.at_ + 1, f := st.lo, u := st.hi }) (by simp [RS.cells, RS.fresh])).drewN 1
    have O1 := ((O2.out.trans (Only.set R 7 w1 (.int .i64 st.lo))).trans (Only.set R 9 _ (.int .i64 st.hi))).trans (Only.drewN R _ 1)
    exact ⟨_, _, rfl, KK.out.step S1 O1 rfl rfl rfl rfl rfl rfl rfl h1, O1, ⟨rfl, rfl⟩, .inl ⟨3, rfl, by omega, by omega, rfl, fut0_star HC.out _ (by simp [RS.it, RS.fresh, KK.out.lo, KK.out.hi]) rfl rfl, by simp [meas, RS.fresh]; omega⟩⟩
  · have T := Lib.hid (takes_no R st.fresh 42 W hr hat (head_no hc))
    cases hv : Fld.value K st.rest with
    | none =>
      have VN := Lib.hid (fun w h => value_none R st.fresh K xs w h hv)
      have KK := Lib.hid h
      have HC := Lib.hid hc
      have HV := Lib.hid hv
      have OO := Lib.hid ho
      clear h hc hr ho K1 hW hv
      go_enter Tryz.func69, Tryz.ntmps69
      go_wp2_with fail
      rw [← HW.out]
      refine T.out.mono ?_
      rintro e w1 ⟨rfl, hr, ho⟩
      have K1 := KK.out.step hr (OO.out.trans ho) rfl rfl rfl rfl rfl rfl rfl hat
      have VV := Lib.hid (VN.out _ K1)
      have O2 := Lib.hid (OO.out.trans ho)
      clear hr ho OO T HW K1 VN c7 c8 c9 c10 c11 c12 c13 z7 z8 z9 z10 z11 z12 z13
      go_wp2_with fail
      refine VV.out.mono ?_
      rintro e w2 ⟨rfl, hr, ho⟩
      have RR := Lib.hid (hr.alloc (.cells #[.int .i64 0, .int .i64 0] 129))
      have O3 := Lib.hid ((O2.out.trans ho).trans (Only.alloc _ _ (.cells #[.int .i64 0, .int .i64 0] 129)))
      clear hr ho O2 VV
      go_wp2_with fail
      go_ret
      exact ⟨_, _, rfl, KK.out.step RR.out O3.out rfl rfl rfl rfl rfl rfl rfl hat, O3.out, ⟨rfl, rfl⟩, .inr (.inl ⟨rfl, rfl, fut0_no HC.out HV.out⟩)⟩
    | some o =>
      obtain ⟨n, k⟩ := o
      have VN := Lib.hid (fun w h => value_some R st.fresh K xs n k w h hv)
      obtain ⟨k1, k2⟩ := Fld.value_len hv
      rw [rest_len] at k2
      have KK := Lib.hid h
      have HC := Lib.hid hc
      have HV := Lib.hid hv
      have OO := Lib.hid ho
      clear h hc hr ho K1 hW hv
      go_enter Tryz.func69, Tryz.ntmps69
      go_wp2_with fail
      rw [← HW.out]
      refine T.out.mono ?_
      rintro e w1 ⟨rfl, hr, ho⟩
      have K1 := KK.out.step hr (OO.out.trans ho) rfl rfl rfl rfl rfl rfl rfl hat
      have VV := Lib.hid (VN.out _ K1)
      have O2 := Lib.hid (OO.out.trans ho)
      clear hr ho OO T HW K1 VN c7 c8 c9 c10 c11 c12 c13 z7 z8 z9 z10 z11 z12 z13
      go_wp2_with fail
      refine VV.out.mono ?_
      rintro e w2 ⟨rfl, hr, ho⟩
      go_wp2_with fail
      -- the value lies in a variable of its own
      obtain ⟨V, hV⟩ : ∃ V, w2.alloc (.cells #[.int .i64 n, .int .i64 st.fresh.at_] 129) = V := ⟨_, rfl⟩
      have RV := hr.alloc (.cells #[.int .i64 n, .int .i64 st.fresh.at_] 129)
      have OV := (O2.out.trans ho).trans (Only.alloc R w2 (.cells #[.int .i64 n, .int .i64 st.fresh.at_] 129))
      obtain ⟨v0, v1, _⟩ := cell_two w2 (.int .i64 n) (.int .i64 st.fresh.at_) 129
      have hneV : w2.heap.size ≠ R := by have := hr.lt; omega
      rw [hV] at RV OV v0 v1 ⊢
      have RR := Lib.hid RV
      have O3 := Lib.hid OV
      have d7 := RV.cell 7
      have d8 := RV.cell 8
      have d9 := RV.cell 9
      have d10 := RV.cell 10
      have y7 := RV.frozen 7
      have y8 := RV.frozen 8
      have y9 := RV.frozen 9
      have y10 := RV.frozen 10
      simp only [RS.fresh, RS.cells, List.getElem?_toArray, List.getElem?_cons_succ, List.getElem?_cons_zero] at d7 d8 d9 d10
      clear hr ho O2 VV hV RV OV
      generalize w2.heap.size = B at *
      have hneV' : R ≠ B := fun e => hneV e.symm
      go_region_held3 (fun w' => w'.cell? ⟨B, 0, none⟩ = some (.int .i64 n) ∧ w'.cell? ⟨B, 1, none⟩ = some (.int .i64 st.fresh.at_)) (simp [*, go_sem]) (fail)
      go_wp2_with fail
      go_ret
      have S1 := ((((RR.out.set 7 (.int .i64 n) (st' := { st.fresh with at_ := st.at_ + k, f := n }) (by simp [RS.cells, RS.fresh])).set 8 (.int .i64 st.at_) (st' := { st.fresh with at_ := st.at_ + k, f := n, fa := st.at_ }) (by simp [RS.cells, RS.fresh])).set 9 (.int .i64 n) (st' := { st.fresh with at_ := st.at_ + k, f := n, fa := st.at_, u := n }) (by simp [RS.cells, RS.fresh])).set 10 (.int .i64 st.at_) (st' := { st.fresh with at_ := st.at_ + k, f := n, fa := st.at_, u := n, ua := st.at_ }) (by simp [RS.cells, RS.fresh])).drewN 1
      have O1 := ((((O3.out.trans (Only.set R 7 V (.int .i64 n))).trans (Only.set R 8 _ (.int .i64 st.at_))).trans (Only.set R 9 _ (.int .i64 n))).trans (Only.set R 10 _ (.int .i64 st.at_))).trans (Only.drewN R _ 1)
      refine ⟨_, _, rfl, KK.out.step S1 O1 rfl rfl rfl rfl rfl rfl rfl ?_, O1, ⟨rfl, rfl⟩, .inl ⟨1, rfl, by omega, by omega, rfl, fut0_yes HC.out HV.out _ rfl rfl rfl, by simp [meas, RS.fresh]; omega⟩⟩
      show st.at_ + k ≤ st.s.size
      omega
theorem part_ok (p : Nat) (hp : p ≤ 5) : PartOk p := by
  match p, hp with
  | 0, _ => exact begin_part
  | 1, _ => exact val_part
  | 2, _ => exact sec_part
  | 3, _ => exact nums_part
  | 4, _ => exact step_part
  | 5, _ => exact item_part
end Go.Proofs.YtpnfifhanmpapaaGreatDoor
