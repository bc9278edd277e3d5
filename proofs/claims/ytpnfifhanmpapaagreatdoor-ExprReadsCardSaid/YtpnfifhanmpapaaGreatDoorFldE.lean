/- Contract of the reader's method number of package field: one or two digits. -/
import Derived.Test.YtpnfifhanmpapaaGreatDoorFldD
import Derived.Lib.Atoi
import Derived.Lib.AtoiErrMem
import Derived.Lib.SmallJoins
namespace Go.Proofs.YtpnfifhanmpapaaGreatDoor
open Go.ChangeShapes Go.WideShapes Go.RowKit Go.Shelf

/-! digits -/
def Dig (l : List UInt8) : Prop := ∀ b ∈ l, Fld.isDig b = true
theorem dig_bd {b : UInt8} (h : Fld.isDig b = true) : 48 ≤ b.toNat ∧ b.toNat ≤ 57 := by
  unfold Fld.isDig Fld.digN at h
  simpa using h
theorem decFrom_val : ∀ (l : List UInt8) (acc : Nat), Dig l → Lib.decFrom acc l = some (l.foldl (fun a c => 10 * a + (c.toNat - 48)) acc)
  | [], acc, _ => rfl
  | b :: l, acc, h => by
    obtain ⟨h0, h1⟩ := dig_bd (h b (by simp))
    have hd : Lib.digitVal b = some (b.toNat - 48) := by unfold Lib.digitVal; rw [if_pos ⟨h0, h1⟩]
    simp only [Lib.decFrom, hd, List.foldl_cons]
    rw [decFrom_val l (acc * 10 + (b.toNat - 48)) (fun c hc => h c (by simp [hc]))]
    congr 2
    omega
theorem atoi_val (l : List UInt8) (h : Dig l) (h0 : l ≠ []) : Lib.atoi l = some ((Fld.val l : Nat) : Int) := by
  have hn := decFrom_val l 0 h
  cases l with
  | nil => exact absurd rfl h0
  | cons b r =>
    obtain ⟨b0, b1⟩ := dig_bd (h b (by simp))
    have e1 : (b == 45) = false := by
      rw [beq_eq_false_iff_ne]; rintro rfl; revert b0; decide
    have e2 : (b == 43) = false := by
      rw [beq_eq_false_iff_ne]; rintro rfl; revert b0; decide
    unfold Lib.atoi Lib.decNat
    simp only [e1, e2, Bool.false_eq_true, if_false, List.isEmpty_cons, hn, Option.map_some]
    rfl
theorem val_bd (l : List UInt8) (h : Dig l) (h2 : l.length ≤ 2) : Fld.val l ≤ 99 := by
  match l, h2 with
  | [], _ => simp [Fld.val]
  | [a], _ => have := dig_bd (h a (by simp)); simp [Fld.val]; omega
  | [a, b], _ => have := dig_bd (h a (by simp)); have := dig_bd (h b (by simp)); simp [Fld.val]; omega
theorem mem_tw {p : UInt8 → Bool} {l : List UInt8} {b : UInt8} (h : b ∈ l.takeWhile p) : p b = true := by
  induction l with
  | nil => simp at h
  | cons a r ih =>
    rw [List.takeWhile_cons] at h
    split at h
    · rcases List.mem_cons.1 h with rfl | h
      · assumption
      · exact ih h
    · simp at h
theorem digs_dig (l : List UInt8) : Dig (Fld.digs l) := by
  intro b hb
  have := List.mem_of_mem_take hb
  exact mem_tw this
theorem num_bd {l : List UInt8} {n k : Nat} (h : Fld.num l = some (n, k)) : n ≤ 99 := by
  unfold Fld.num at h
  split at h
  · cases h
  · simp only [Option.some.injEq, Prod.mk.injEq] at h
    rw [← h.1]
    exact val_bd _ (digs_dig l) (Fld.digs_len l).1
theorem digs_upto {s : ByteArray} {a e : Nat} (h : Upto Fld.digN s a e) : Fld.digs (s.data.toList.drop a) = (s.data.toList.drop a).take (min (e - a) 2) := by
  unfold Fld.digs
  have := upto_take Fld.digN s (e - a) a e rfl h
  rw [show (fun c : UInt8 => Fld.digN c.toNat) = Fld.isDig from rfl] at this
  rw [this, List.take_take]
  congr 1
  omega
theorem num_upto_none {s : ByteArray} {a : Nat} (h : Upto Fld.digN s a a) : Fld.num (s.data.toList.drop a) = none := by
  unfold Fld.num
  rw [digs_upto h]
  simp
theorem num_upto_some {s : ByteArray} {a e : Nat} (h : Upto Fld.digN s a e) (hl : a < e) :
    Fld.num (s.data.toList.drop a) = some (Fld.val ((s.data.toList.drop a).take (min (e - a) 2)), min (e - a) 2) := by
  have hlen : ((s.data.toList.drop a).take (min (e - a) 2)).length = min (e - a) 2 := by
    have := h.fit
    rw [List.length_take, List.length_drop, ← Lib.size_eq]
    omega
  unfold Fld.num
  rw [digs_upto h, if_neg (fun q => by rw [q] at hlen; simp at hlen; omega), hlen]

theorem cell_two (w : World) (x y : Value) (t : TypeId) : (w.alloc (.cells #[x, y] t)).cell? ⟨w.heap.size, 0, none⟩ = some x ∧ (w.alloc (.cells #[x, y] t)).cell? ⟨w.heap.size, 1, none⟩ = some y ∧ ∀ k, (w.alloc (.cells #[x, y] t)).frozen? ⟨w.heap.size, k, none⟩ = false := by
  have h := World.alloc_heap_new w (.cells #[x, y] t)
  refine ⟨by simp only [World.cell?, h]; rfl, by simp only [World.cell?, h]; rfl, fun k => ?_⟩
  simp only [World.frozen?, h]
  rw [Bool.and_eq_false_iff, decide_eq_false_iff_not, decide_eq_false_iff_not]
  omega
theorem Only.cells {R : Nat} {w w' : World} (h : Only R w w') {b : Nat} (hb : b < w.heap.size) (hne : b ≠ R) (k : Nat) : w'.cell? ⟨b, k, none⟩ = w.cell? ⟨b, k, none⟩ ∧ w'.frozen? ⟨b, k, none⟩ = w.frozen? ⟨b, k, none⟩ :=
  have e := h.block b hb (fun q => hne (Option.some.inj q))
  ⟨World.cell?_of_block (w := w) (a := ⟨b, k, none⟩) e, World.frozen?_of_block (w := w) (a := ⟨b, k, none⟩) e⟩
/-- two stores into a block of the call's own -/
theorem Only.two {R : Nat} {w w1 : World} (h : Only R w w1) {b : Nat} (hb : w.heap.size ≤ b) (j k : Nat) (x y : Value) : Only R w ((w1.setCell ⟨b, j, none⟩ x).setCell ⟨b, k, none⟩ y) :=
  h.more (((Below.refl w.heap.size w1).setCell (p := ⟨b, j, none⟩) hb x).setCell (p := ⟨b, k, none⟩) hb y)
theorem number_none (R : Nat) (st : RS) (w : World) (h : Rd w R st) (hat : st.at_ ≤ st.s.size) (hn : Fld.num (st.s.data.toList.drop st.at_) = none) (hs : st.s.size ≤ 9223372036854775806) :
    Calls Tryz.prog 137 #[.pointer (some ⟨R, 0, none⟩)] w fun e w' => e = .returned (.tuple #[.agg #[.int .i64 0, .int .i64 0], .bool false]) ∧ Rd w' R st ∧ Only R w w' := by
  obtain ⟨e0, hu⟩ := upto_ex Fld.digN st.s st.at_ hat
  obtain rfl : e0 = st.at_ := by
    rcases Nat.lt_or_ge st.at_ e0 with q | q
    · rw [num_upto_some hu q] at hn; cases hn
    · have := hu.le; omega
  have H0 := h.alloc (.cells #[.int .i64 0, .int .i64 0] 129)
  have A := Lib.hid (ahead_digit R st _ _ H0 hu hs)
  have O0 := Lib.hid (Only.alloc R w (.cells #[.int .i64 0, .int .i64 0] 129))
  obtain ⟨n0, n1, n2⟩ := cell_two w (.int .i64 0) (.int .i64 0) 129
  have hR := h.lt
  have hD : st.s.extract st.at_ st.at_ = ⟨#[]⟩ := str_empty (by simp)
  rw [hD] at A
  clear h H0 hn hD
  go_enter Tryz.func137, Tryz.ntmps137
  go_wp2_with fail
  refine A.out.mono ?_
  rintro e w1 ⟨rfl, hr1, ho1⟩
  have RR := Lib.hid hr1
  have OO := Lib.hid (O0.out.trans ho1)
  obtain ⟨m0, f0⟩ := ho1.cells (b := w.heap.size) (by simp) (by omega) 0
  obtain ⟨m1, f1⟩ := ho1.cells (b := w.heap.size) (by simp) (by omega) 1
  rw [n0] at m0
  rw [n1] at m1
  rw [n2] at f0 f1
  have hw1 := ho1.size
  clear hr1 ho1 n0 n1 n2
  go_wp2_with fail
  refine bodyPost_ret (v := .tuple #[.agg #[.int .i64 0, .int .i64 0], .bool false]) (by simp [results, Tryz.results137, go_sem, m0, m1]) rfl ⟨rfl, ?_, ?_⟩
  · exact (RR.out.other _ _ (by simp; omega)).other _ _ (by simp; omega)
  · exact OO.out.two (Nat.le_refl _) _ _ _ _
set_option maxHeartbeats 1000000 in
theorem number_some (R : Nat) (st : RS) (n k : Nat) (w : World) (h : Rd w R st) (hat : st.at_ ≤ st.s.size) (hn : Fld.num (st.s.data.toList.drop st.at_) = some (n, k)) (hs : st.s.size ≤ 9223372036854775806) :
    Calls Tryz.prog 137 #[.pointer (some ⟨R, 0, none⟩)] w fun e w' => e = .returned (.tuple #[.agg #[.int .i64 n, .int .i64 st.at_], .bool true]) ∧ Rd w' R { st with at_ := st.at_ + k } ∧ Only R w w' := by
  obtain ⟨e0, hu⟩ := upto_ex Fld.digN st.s st.at_ hat
  have hlt : st.at_ < e0 := by
    rcases Nat.lt_or_ge st.at_ e0 with q | q
    · exact q
    · obtain rfl : e0 = st.at_ := by have := hu.le; omega
      rw [num_upto_none hu] at hn; cases hn
  have hv := num_upto_some hu hlt
  rw [hn] at hv
  simp only [Option.some.injEq, Prod.mk.injEq] at hv
  obtain ⟨hv1, hv2⟩ := hv
  have hd := digs_upto hu
  have hdd := digs_dig (st.s.data.toList.drop st.at_)
  have H0 := h.alloc (.cells #[.int .i64 0, .int .i64 0] 129)
  have A0 := ahead_digit R st _ _ H0 hu hs
  have O0 := Lib.hid (Only.alloc R w (.cells #[.int .i64 0, .int .i64 0] 129))
  obtain ⟨n0, n1, n2⟩ := cell_two w (.int .i64 0) (.int .i64 0) 129
  have hR := h.lt
  have hfit := hu.fit
  -- the digits, and how many are taken
  have hl := extract_list st.s st.at_ e0
  have hsz : (st.s.extract st.at_ e0).size = e0 - st.at_ := by simp; omega
  generalize st.s.extract st.at_ e0 = D at *
  rw [← hsz] at hd hv1 hv2
  have hX : (D.extract 0 k).data.toList = Fld.digs (st.s.data.toList.drop st.at_) := by
    rw [extract_list, hl, List.drop_zero, hd, List.take_take, hv2, Nat.sub_zero]
    congr 1
    omega
  have hXs : (D.extract 0 k).size = k := by simp; omega
  have hm : min (D.size : Int) 2 = (k : Int) := by omega
  have hk0 : 1 ≤ k := by omega
  have hk1 : (k : Int) ≤ (D.size : Int) := by omega
  have hk2 : k ≤ 2 := by omega
  obtain ⟨e1, e2⟩ := str_some (s := D) (by omega)
  have hkat : st.at_ + k ≤ st.s.size := by omega
  rw [← hd] at hv1
  have hat2 : Lib.atoi (D.extract 0 k).data.toList = some (n : Int) := by
    have hne : Fld.digs (st.s.data.toList.drop st.at_) ≠ [] := fun q => by
      rw [q] at hX
      have z := Lib.size_eq (D.extract 0 k)
      rw [hX, hXs] at z
      simp at z
      omega
    rw [hX, atoi_val _ hdd hne, hv1]
  have n99 := num_bd hn
  have AT := Lib.hid (fun w => Tryz.strconv_Atoi (D.extract 0 k) n (by omega) hat2 w)
  have A := Lib.hid A0
  have HXS := Lib.hid hXs
  clear A0 h H0 hn hu hlt hd hv1 hv2 hl hsz hX hXs hat2 hdd
  go_enter Tryz.func137, Tryz.ntmps137
  go_wp2_with fail
  refine A.out.mono ?_
  rintro e w1 ⟨rfl, hr1, ho1⟩
  have RR := Lib.hid hr1
  have OO := Lib.hid (O0.out.trans ho1)
  obtain ⟨m0, f0⟩ := ho1.cells (b := w.heap.size) (by simp) (by omega) 0
  obtain ⟨m1, f1⟩ := ho1.cells (b := w.heap.size) (by simp) (by omega) 1
  rw [n0] at m0
  rw [n1] at m1
  rw [n2] at f0 f1
  have hw1 := ho1.size
  clear hr1 ho1 n0 n1 n2
  go_wp2_with fail
  refine (AT.out _).mono ?_
  clear AT
  have HXS := HXS
  generalize D.extract 0 k = X at *
  rintro e w2 ⟨rfl, b, hw2⟩
  have hb2 : Below w1.heap.size w1 w2 := by rw [hw2]; exact Lib.bytesWorld_below _ _ _
  clear hw2
  obtain ⟨hc2, hf2⟩ := kept hb2
  have q0 := (hc2 w.heap.size 0 (by simp at hw1; omega)).trans m0
  have q1 := (hc2 w.heap.size 1 (by simp at hw1; omega)).trans m1
  have z0 := (hf2 w.heap.size 0 (by simp at hw1; omega)).trans f0
  have z1 := (hf2 w.heap.size 1 (by simp at hw1; omega)).trans f1
  have R2 := RR.out.below hb2
  have c5 := R2.cell 5
  have y5 := R2.frozen 5
  simp only [RS.cells, List.getElem?_toArray, List.getElem?_cons_succ, List.getElem?_cons_zero] at c5
  have RR := Lib.hid R2
  have OO := Lib.hid (OO.out.more (hb2.mono OO.out.size))
  have hs2 : w.heap.size < w2.heap.size := by have := hb2.size; simp at hw1; omega
  have hne : w.heap.size ≠ R := by omega
  have hne' : R ≠ w.heap.size := by omega
  have hx := HXS.out
  have hR2 := R2.lt
  clear R2 hb2 hc2 hf2 m0 m1 f0 f1 HXS hw1
  go_wp2_with fail
  refine bodyPost_ret (v := .tuple #[.agg #[.int .i64 n, .int .i64 st.at_], .bool true]) (by simp [results, Tryz.results137, go_sem, q0, q1, hs2]) rfl ⟨rfl, ?_, ?_⟩
  · exact (((RR.out.set 5 _ (st' := { st with at_ := st.at_ + k }) (by simp [RS.cells])).other _ _ (by simp; omega)).other _ _ (by simp; omega)).alloc _
  · exact ((OO.out.trans (Only.set _ _ _ _)).two (Nat.le_refl _) _ _ _ _).trans (Only.alloc _ _ _)
end Go.Proofs.YtpnfifhanmpapaaGreatDoor
