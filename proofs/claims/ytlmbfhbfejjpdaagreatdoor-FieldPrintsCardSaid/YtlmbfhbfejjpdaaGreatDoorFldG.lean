/- Contract of the reader's method value of package field: a number, or a name of the kind. -/
import Derived.Test.YtlmbfhbfejjpdaaGreatDoorFldF
import Derived.StillTailTactics
namespace Go.Proofs.YtlmbfhbfejjpdaaGreatDoor
open Go.ChangeShapes Go.WideShapes Go.RowKit Go.Shelf

/-- a reader, its kind, and its names in memory -/
structure KR (w : World) (R : Nat) (st : RS) (K : Fld.Kd) (xs : List ByteArray) : Prop where
  rd : Rd w R st
  strs : IsStrs w (.slice st.nA st.nl st.nc) xs
  apart : ∀ b o, st.nA = some ⟨b, o, none⟩ → 0 < xs.length → b ≠ R
  lo : st.lo = K.lo
  hi : st.hi = K.hi
  nm : K.names = bytesL xs
  wk : st.wk = K.week
  ok : K.Ok
  fit : st.s.size ≤ 9223372036854775000
  at_ : st.at_ ≤ st.s.size
/-- a step that changes the reader alone, and no more of it than what is read and what was found -/
theorem KR.step {w w' : World} {R : Nat} {st st' : RS} {K : Fld.Kd} {xs : List ByteArray} (h : KR w R st K xs) (hr : Rd w' R st') (ho : Only R w w') (h1 : st'.lo = st.lo) (h2 : st'.hi = st.hi) (h3 : st'.nA = st.nA) (h4 : st'.nl = st.nl) (h5 : st'.nc = st.nc) (h6 : st'.wk = st.wk) (h7 : st'.s = st.s) (h8 : st'.at_ ≤ st.s.size) : KR w' R st' K xs := by
  refine ⟨hr, ?_, ?_, by rw [h1]; exact h.lo, by rw [h2]; exact h.hi, h.nm, by rw [h6]; exact h.wk, h.ok, by rw [h7]; exact h.fit, by rw [h7]; exact h8⟩
  · rw [h3, h4, h5]
    exact ho.lay h.strs (fun b o n c e hn => by
      cases hx : xs.length with
      | zero =>
        obtain ⟨A, cap, e2, _, _⟩ := h.strs
        rw [e] at e2
        simp only [Value.slice.injEq] at e2
        omega
      | succ m =>
        simp only [Value.slice.injEq] at e
        exact h.apart b o e.1 (by omega))
  · rw [h3]; exact h.apart
theorem KR.names {w : World} {R : Nat} {st : RS} {K : Fld.Kd} {xs : List ByteArray} (h : KR w R st K xs) : (∀ x ∈ xs, NameB x) ∧ xs.length ≤ 63 := by
  refine ⟨fun x hx => (nameB_list x).2 (h.ok.ups _ (by rw [h.nm]; exact List.mem_map_of_mem hx)), ?_⟩
  have := h.ok.hi
  rcases h.ok.count with c | c
  · have : xs.length = 0 := by rw [← bytesL_len, ← h.nm, c]; rfl
    omega
  · rw [h.nm, bytesL_len] at c; omega
theorem lets_upto {s : ByteArray} {a e : Nat} (h : Upto Fld.letN s a e) : Fld.lets (s.data.toList.drop a) = (s.extract a e).data.toList := by
  rw [extract_list]
  have := upto_take Fld.letN s (e - a) a e rfl h
  exact this
theorem cell_one' (w : World) (x : Value) (t : TypeId) : (w.alloc (.cells #[x] t)).cell? ⟨w.heap.size, 0, none⟩ = some x := by
  have h := World.alloc_heap_new w (.cells #[x] t)
  simp only [World.cell?, h]; rfl
set_option maxHeartbeats 1000000 in
/-- no letters: value does what number does -/
theorem value_digits (R : Nat) (st : RS) (K : Fld.Kd) (xs : List ByteArray) (w : World) (h : KR w R st K xs) (hl : Fld.lets (st.s.data.toList.drop st.at_) = []) (n a k : Nat) (b : Bool)
    (hn : ∀ W, Rd W R st → Calls Tryz.prog 63 #[.pointer (some ⟨R, 0, none⟩)] W fun e w' => e = .returned (.tuple #[.agg #[.int .i64 n, .int .i64 a], .bool b]) ∧ Rd w' R { st with at_ := st.at_ + k } ∧ Only R W w') :
    Calls Tryz.prog 41 #[.pointer (some ⟨R, 0, none⟩)] w fun e w' => e = .returned (.tuple #[.agg #[.int .i64 n, .int .i64 a], .bool b]) ∧ Rd w' R { st with at_ := st.at_ + k } ∧ Only R w w' := by
  have hfit := h.fit
  obtain ⟨e0, hu⟩ := upto_ex Fld.letN st.s st.at_ h.at_
  have H0 := h.rd.alloc (.cells #[.int .i64 0, .int .i64 0] 56)
  have A0 := ahead_letter R st _ _ H0 hu (by omega)
  have O0 := Lib.hid (Only.alloc R w (.cells #[.int .i64 0, .int .i64 0] 56))
  obtain ⟨n0, n1, n2⟩ := cell_two w (.int .i64 0) (.int .i64 0) 56
  have hR := h.rd.lt
  rw [lets_upto hu] at hl
  have hD : st.s.extract st.at_ e0 = ⟨#[]⟩ := str_empty (by rw [Lib.size_eq, hl]; rfl)
  rw [hD] at A0
  have A := Lib.hid A0
  have N := Lib.hid hn
  clear h H0 A0 hl hD hu hn
  go_enter Tryz.func41, Tryz.ntmps41
  go_wp2_with fail
  refine A.out.mono ?_
  rintro e w1 ⟨rfl, hr1, ho1⟩
  have RR := hr1.alloc (.cells #[.string ⟨#[]⟩] 9)
  have OO := Lib.hid ((O0.out.trans ho1).trans (Only.alloc _ _ (.cells #[.string ⟨#[]⟩] 9)))
  obtain ⟨m0, f0⟩ := ho1.cells (b := w.heap.size) (by simp) (by omega) 0
  obtain ⟨m1, f1⟩ := ho1.cells (b := w.heap.size) (by simp) (by omega) 1
  rw [n0] at m0
  rw [n1] at m1
  rw [n2] at f0 f1
  have hw1 : w.heap.size < w1.heap.size := by have := ho1.size; simp at this; omega
  have hR1 := hr1.lt
  have NN := Lib.hid (N.out _ RR)
  have hne : w.heap.size ≠ R := by omega
  clear hr1 ho1 n0 n1 n2 RR
  go_wp2_with fail
  refine NN.out.mono ?_
  rintro e w2 ⟨rfl, hr2, ho2⟩
  obtain ⟨q0, g0⟩ := ho2.cells (b := w.heap.size) (by simp; omega) hne 0
  obtain ⟨q1, g1⟩ := ho2.cells (b := w.heap.size) (by simp; omega) hne 1
  rw [World.cell?_alloc_some _ _ _ (by rw [m0]; rfl), m0] at q0
  rw [World.cell?_alloc_some _ _ _ (by rw [m1]; rfl), m1] at q1
  rw [World.frozen?_of_block (w := w1) (a := ⟨w.heap.size, 0, none⟩) (Below.heap_alloc _ _ _ hw1), f0] at g0
  rw [World.frozen?_of_block (w := w1) (a := ⟨w.heap.size, 1, none⟩) (Below.heap_alloc _ _ _ hw1), f1] at g1
  have RR := Lib.hid hr2
  have OO := Lib.hid (OO.out.trans ho2)
  have hw2 : w.heap.size < w2.heap.size := by have := ho2.size; simp at this; omega
  clear hr2 ho2 m0 m1 f0 f1 NN N A
  go_wp2_with fail
  refine bodyPost_ret (v := .tuple #[.agg #[.int .i64 n, .int .i64 a], .bool b]) (by simp [results, Tryz.results41, go_sem, q0, q1]) rfl ⟨rfl, ?_, ?_⟩
  · exact (RR.out.other _ _ (by simp; omega)).other _ _ (by simp; omega)
  · exact OO.out.two (Nat.le_refl _) _ _ _ _
theorem upto_lets {s : ByteArray} {a e : Nat} (h : Upto Fld.letN s a e) (hl : Fld.lets (s.data.toList.drop a) ≠ []) : 1 ≤ (s.extract a e).size ∧ (s.extract a e).size = e - a ∧ LetS (s.extract a e) := by
  rw [lets_upto h] at hl
  have hsz : (s.extract a e).size = e - a := by have := h.fit; simp; omega
  refine ⟨?_, hsz, fun c hc => ?_⟩
  · rw [Lib.size_eq]
    cases q : (s.extract a e).data.toList with
    | nil => exact (hl q).elim
    | cons a r => simp
  · rw [← lets_upto h] at hc
    exact mem_tw hc
set_option maxHeartbeats 1000000 in
theorem value_noname (R : Nat) (st : RS) (K : Fld.Kd) (xs : List ByteArray) (w : World) (h : KR w R st K xs) (hl : Fld.lets (st.s.data.toList.drop st.at_) ≠ []) (hk : Fld.look K.names (Fld.lets (st.s.data.toList.drop st.at_)) = none) :
    Calls Tryz.prog 41 #[.pointer (some ⟨R, 0, none⟩)] w fun e w' => e = .returned (.tuple #[.agg #[.int .i64 0, .int .i64 0], .bool false]) ∧ Rd w' R st ∧ Only R w w' := by
  have hfit := h.fit
  obtain ⟨e0, hu⟩ := upto_ex Fld.letN st.s st.at_ h.at_
  have hK := h
  have H0 := h.rd.alloc (.cells #[.int .i64 0, .int .i64 0] 56)
  have A0 := ahead_letter R st _ _ H0 hu (by omega)
  have O0 := Lib.hid (Only.alloc R w (.cells #[.int .i64 0, .int .i64 0] 56))
  obtain ⟨n0, n1, n2⟩ := cell_two w (.int .i64 0) (.int .i64 0) 56
  have hR := h.rd.lt
  obtain ⟨hN, hc63⟩ := h.names
  obtain ⟨d1, d2, d3⟩ := upto_lets hu hl
  rw [lets_upto hu, h.nm] at hk
  have lk := look_none hk
  obtain ⟨e1, e2⟩ := str_some d1
  generalize st.s.extract st.at_ e0 = D at *
  have A := Lib.hid A0
  have IX := Lib.hid (fun B w hv hc => index_any st.nA st.nl st.nc xs D (-1) B w hv hN (by omega) d3 lk hc)
  have KK := Lib.hid hK
  clear h H0 A0 hl hu hK hk lk hN d3
  go_enter Tryz.func41, Tryz.ntmps41
  go_wp2_with fail
  refine A.out.mono ?_
  rintro e w1 ⟨rfl, hr1, ho1⟩
  have K1 := KK.out.step hr1 (O0.out.trans ho1) rfl rfl rfl rfl rfl rfl rfl KK.out.at_
  have S1 := K1.strs.below ((Below.refl _ w1).alloc (Nat.le_refl _) (.cells #[.string D] 9))
  have I := Lib.hid (IX.out _ _ S1 (cell_one' w1 (.string D) 9))
  have OO := Lib.hid (O0.out.trans ho1)
  obtain ⟨m0, f0⟩ := ho1.cells (b := w.heap.size) (by simp) (by omega) 0
  obtain ⟨m1, f1⟩ := ho1.cells (b := w.heap.size) (by simp) (by omega) 1
  rw [n0] at m0
  rw [n1] at m1
  rw [n2] at f0 f1
  have c2 := hr1.cell 2
  simp only [RS.cells, List.getElem?_toArray, List.getElem?_cons_succ, List.getElem?_cons_zero] at c2
  have hw1 : w.heap.size < w1.heap.size := by have := ho1.size; simp at this; omega
  have hR1 := hr1.lt
  have hne : w.heap.size ≠ R := by omega
  have R1 := Lib.hid hr1
  clear hr1 ho1 n0 n1 n2 IX A K1 S1
  go_wp2_with fail
  refine I.out.mono ?_
  rintro e w2 ⟨rfl, rfl⟩
  go_wp2_with fail
  refine bodyPost_ret (v := .tuple #[.agg #[.int .i64 0, .int .i64 0], .bool false]) (by simp [results, Tryz.results41, go_sem, m0, m1, hw1]) rfl ⟨rfl, ?_, ?_⟩
  · exact ((R1.out.other _ _ (by simp; omega)).other _ _ (by simp; omega)).alloc _
  · exact (OO.out.two (Nat.le_refl _) _ _ _ _).trans (Only.alloc _ _ _)
set_option maxRecDepth 100000 in
set_option maxHeartbeats 1000000 in
theorem value_name (R : Nat) (st : RS) (K : Fld.Kd) (xs : List ByteArray) (i : Nat) (w : World) (h : KR w R st K xs) (hl : Fld.lets (st.s.data.toList.drop st.at_) ≠ []) (hk : Fld.look K.names (Fld.lets (st.s.data.toList.drop st.at_)) = some i) :
    Calls Tryz.prog 41 #[.pointer (some ⟨R, 0, none⟩)] w fun e w' => e = .returned (.tuple #[.agg #[.int .i64 (K.lo + i : Nat), .int .i64 st.at_], .bool true]) ∧ Rd w' R { st with at_ := st.at_ + (Fld.lets (st.s.data.toList.drop st.at_)).length } ∧ Only R w w' := by
  have hfit := h.fit
  obtain ⟨e0, hu⟩ := upto_ex Fld.letN st.s st.at_ h.at_
  have hK := h
  have H0 := h.rd.alloc (.cells #[.int .i64 0, .int .i64 0] 56)
  have A0 := ahead_letter R st _ _ H0 hu (by omega)
  have O0 := Lib.hid (Only.alloc R w (.cells #[.int .i64 0, .int .i64 0] 56))
  obtain ⟨n0, n1, n2⟩ := cell_two w (.int .i64 0) (.int .i64 0) 56
  have hR := h.rd.lt
  obtain ⟨hN, hc63⟩ := h.names
  obtain ⟨d1, d2, d3⟩ := upto_lets hu hl
  have hfe := hu.fit
  have hle := hu.le
  rw [lets_upto hu, h.nm] at hk
  obtain ⟨hi, lk⟩ := look_some hk
  have hlen : (Fld.lets (st.s.data.toList.drop st.at_)).length = (st.s.extract st.at_ e0).size := by rw [lets_upto hu, ← Lib.size_eq]
  rw [hlen]
  obtain ⟨e1, e2⟩ := str_some d1
  have hlo : K.lo ≤ 62 := by have := h.ok.le; have := h.ok.hi; omega
  have hlo2 : st.lo ≤ 62 := by rw [h.lo]; exact hlo
  have hloE := Lib.hid h.lo
  generalize st.s.extract st.at_ e0 = D at *
  have A := Lib.hid A0
  have IX := Lib.hid (fun B w hv hc => index_any st.nA st.nl st.nc xs D i B w hv hN (by omega) d3 lk hc)
  have KK := Lib.hid hK
  have hDs : st.at_ + D.size ≤ st.s.size := by omega
  clear h H0 A0 hl hu hK hk lk hN d3 hlen d2
  go_enter Tryz.func41, Tryz.ntmps41
  go_wp2_with fail
  refine A.out.mono ?_
  rintro e w1 ⟨rfl, hr1, ho1⟩
  have K1 := KK.out.step hr1 (O0.out.trans ho1) rfl rfl rfl rfl rfl rfl rfl KK.out.at_
  have S1 := K1.strs.below ((Below.refl _ w1).alloc (Nat.le_refl _) (.cells #[.string D] 9))
  have I := Lib.hid (IX.out _ _ S1 (cell_one' w1 (.string D) 9))
  have OO := Lib.hid (O0.out.trans ho1)
  obtain ⟨m0, f0⟩ := ho1.cells (b := w.heap.size) (by simp) (by omega) 0
  obtain ⟨m1, f1⟩ := ho1.cells (b := w.heap.size) (by simp) (by omega) 1
  rw [n0] at m0
  rw [n1] at m1
  rw [n2] at f0 f1
  have c0 := hr1.cell 0
  have c2 := hr1.cell 2
  have c5 := hr1.cell 5
  have z5 := hr1.frozen 5
  simp only [RS.cells, List.getElem?_toArray, List.getElem?_cons_succ, List.getElem?_cons_zero] at c0 c2 c5
  have hw1 : w.heap.size < w1.heap.size := by have := ho1.size; simp at this; omega
  have hR1 := hr1.lt
  have hne : w.heap.size ≠ R := by omega
  have hne' : R ≠ w.heap.size := by omega
  have R1 := Lib.hid hr1
  have t0 : decide ((i : Int) < 0) = false := by simp
  clear hr1 ho1 n0 n1 n2 IX A K1 S1
  go_wp2_with fail
  refine I.out.mono ?_
  rintro e w2 ⟨rfl, rfl⟩
  go_wp2_with fail
  -- the world with the letters in a variable of their own
  obtain ⟨W, hW⟩ : ∃ W, w1.alloc (.cells #[.string D] 9) = W := ⟨_, rfl⟩
  have hB : w1.heap.size < W.heap.size := by rw [← hW]; simp
  have RW := R1.out.alloc (.cells #[.string D] 9)
  have OW := OO.out.trans (Only.alloc R w1 (.cells #[.string D] 9))
  have cD := cell_one' w1 (.string D) 9
  have mW0 := (World.cell?_alloc_some w1 ⟨w.heap.size, 0, none⟩ (.cells #[.string D] 9) (by rw [m0]; rfl)).trans m0
  have mW1 := (World.cell?_alloc_some w1 ⟨w.heap.size, 1, none⟩ (.cells #[.string D] 9) (by rw [m1]; rfl)).trans m1
  have fW0 := (World.frozen?_of_block (w := w1) (a := ⟨w.heap.size, 0, none⟩) (Below.heap_alloc w1 (.cells #[.string D] 9) _ hw1)).trans f0
  have fW1 := (World.frozen?_of_block (w := w1) (a := ⟨w.heap.size, 1, none⟩) (Below.heap_alloc w1 (.cells #[.string D] 9) _ hw1)).trans f1
  rw [hW] at RW OW cD mW0 mW1 fW0 fW1 ⊢
  clear c0 c2 c5 z5 m0 m1 f0 f1 hW I R1 OO
  have c0 := RW.cell 0
  have c5 := RW.cell 5
  have z5 := RW.frozen 5
  simp only [RS.cells, List.getElem?_toArray, List.getElem?_cons_succ, List.getElem?_cons_zero] at c0 c5
  have hRW := RW.lt
  have RR := Lib.hid RW
  have OO := Lib.hid OW
  have hwr : IntKind.i64.wrap ((st.lo : Int) + (i : Int)) = (st.lo : Int) + i := IntWalk.i64_in _ (by omega)
  have k0 := World.new_ne W _ c0
  have k5 := World.new_ne W _ c5
  clear RW OW
  go_region_held3 (fun w' => w'.cell? ⟨R, 0, none⟩ = some (.int .i64 st.lo) ∧ w'.cell? ⟨R, 5, none⟩ = some (.int .i64 st.at_)) (go_keep) (fail)
  go_wp2_with fail
  obtain ⟨V, hV⟩ : ∃ V, (W.alloc (.cells #[.int .i64 ((st.lo : Int) + i), .int .i64 st.at_] 56)).drew = V := ⟨_, rfl⟩
  have hVs : W.heap.size < V.heap.size := by rw [← hV]; show W.heap.size < (W.alloc _).heap.size; simp
  have RV : Rd (W.alloc (.cells #[.int .i64 ((st.lo : Int) + i), .int .i64 st.at_] 56)).drew R st := RR.out.alloc _
  have OV : Only R w (W.alloc (.cells #[.int .i64 ((st.lo : Int) + i), .int .i64 st.at_] 56)).drew := (OO.out.trans (Only.alloc R W _)).trans (Only.drewN R _ 1)
  obtain ⟨v0, v1, v2⟩ := cell_two W (.int .i64 ((st.lo : Int) + i)) (.int .i64 st.at_) 56
  have v0' : (W.alloc (.cells #[.int .i64 ((st.lo : Int) + i), .int .i64 st.at_] 56)).drew.cell? ⟨W.heap.size, 0, none⟩ = _ := v0
  have v1' : (W.alloc (.cells #[.int .i64 ((st.lo : Int) + i), .int .i64 st.at_] 56)).drew.cell? ⟨W.heap.size, 1, none⟩ = _ := v1
  have bV : Below W.heap.size W (W.alloc (.cells #[.int .i64 ((st.lo : Int) + i), .int .i64 st.at_] 56)).drew := ((Below.refl _ W).alloc (Nat.le_refl _) _).drew
  rw [hV] at RV OV v0' v1' bV ⊢
  obtain ⟨hcV, hfV⟩ := kept bV
  have hwW : w.heap.size < W.heap.size := by omega
  have D1 := (hcV w1.heap.size 0 hB).trans cD
  have q0 := (hcV w.heap.size 0 hwW).trans mW0
  have q1 := (hcV w.heap.size 1 hwW).trans mW1
  have g0 := (hfV w.heap.size 0 hwW).trans fW0
  have g1 := (hfV w.heap.size 1 hwW).trans fW1
  clear hcV hfV bV v0 v1 v2 hV c0 c5 z5 cD mW0 mW1 fW0 fW1 k0 k5 RR OO
  have c5 := RV.cell 5
  have z5 := RV.frozen 5
  simp only [RS.cells, List.getElem?_toArray, List.getElem?_cons_succ, List.getElem?_cons_zero] at c5
  have hRV := RV.lt
  have RR := Lib.hid RV
  have OO := Lib.hid OV
  have hwr2 : IntKind.i64.wrap ((st.at_ : Int) + (D.size : Int)) = (st.at_ : Int) + D.size := IntWalk.i64_in _ (by omega)
  have hneW : W.heap.size ≠ R := by omega
  have hneW' : W.heap.size ≠ w.heap.size := by omega
  clear RV OV
  go_still_tail 9, (by kernel_rfl)
  go_wp2_with fail
  refine bodyPost_ret (v := .tuple #[.agg #[.int .i64 ((st.lo : Int) + i), .int .i64 st.at_], .bool true]) (by simp [results, Tryz.results41, go_sem, q0, q1]) rfl ⟨?_, ?_, ?_⟩
  · rw [← hloE.out, Int.natCast_add]
  · exact ((RR.out.set 5 _ (st' := { st with at_ := st.at_ + D.size }) (by simp [RS.cells])).other _ _ (by simp; omega)).other _ _ (by simp; omega)
  · exact ((OO.out.trans (Only.set _ _ _ _)).two (Nat.le_refl _) _ _ _ _).trans (Only.drewN R _ 1)
/-- what value reads -/
theorem value_some (R : Nat) (st : RS) (K : Fld.Kd) (xs : List ByteArray) (n k : Nat) (w : World) (h : KR w R st K xs) (hk : Fld.value K (st.s.data.toList.drop st.at_) = some (n, k)) :
    Calls Tryz.prog 41 #[.pointer (some ⟨R, 0, none⟩)] w fun e w' => e = .returned (.tuple #[.agg #[.int .i64 n, .int .i64 st.at_], .bool true]) ∧ Rd w' R { st with at_ := st.at_ + k } ∧ Only R w w' := by
  have hfit := h.fit
  unfold Fld.value at hk
  split at hk
  · rename_i hl
    exact value_digits R st K xs w h hl n st.at_ k true (fun W hW => number_some R st n k W hW h.at_ hk (by omega))
  · rename_i hl
    cases c : Fld.look K.names (Fld.lets (st.s.data.toList.drop st.at_)) with
    | none => rw [c] at hk; cases hk
    | some i =>
      rw [c] at hk
      simp only [Option.map_some, Option.some.injEq, Prod.mk.injEq] at hk
      obtain ⟨rfl, rfl⟩ := hk
      exact value_name R st K xs i w h hl c
theorem value_none (R : Nat) (st : RS) (K : Fld.Kd) (xs : List ByteArray) (w : World) (h : KR w R st K xs) (hk : Fld.value K (st.s.data.toList.drop st.at_) = none) :
    Calls Tryz.prog 41 #[.pointer (some ⟨R, 0, none⟩)] w fun e w' => e = .returned (.tuple #[.agg #[.int .i64 0, .int .i64 0], .bool false]) ∧ Rd w' R st ∧ Only R w w' := by
  have hfit := h.fit
  unfold Fld.value at hk
  split at hk
  · rename_i hl
    exact value_digits R st K xs w h hl 0 0 0 false (fun W hW => number_none R st W hW h.at_ hk (by omega))
  · rename_i hl
    cases c : Fld.look K.names (Fld.lets (st.s.data.toList.drop st.at_)) with
    | none => exact value_noname R st K xs w h hl c
    | some i => rw [c] at hk; cases hk
end Go.Proofs.YtlmbfhbfejjpdaaGreatDoor
