/- Contracts of the parts of a field, of package field: what reads a part, and what comes next. -/
import Derived.Test.YtlmbfhbfejjpdaaGreatDoorFldG
namespace Go.Proofs.YtlmbfhbfejjpdaaGreatDoor
open Go.ChangeShapes Go.WideShapes Go.RowKit Go.Shelf

/-- the functions that read the parts, by a number -/
def partF (p : Nat) : Nat := match p with
  | 0 => 22
  | 1 => 42
  | 2 => 67
  | 3 => 40
  | 4 => 59
  | _ => 60
def partV (p : Nat) : Value := .func (.func (partF p)) #[] #[]
def RS.it (st : RS) : Fld.It := ⟨st.f, st.fa, st.u, st.ua, st.t, st.ta⟩
def RS.rest (st : RS) : List UInt8 := st.s.data.toList.drop st.at_
/-- what the item comes to -/
def partRes (K : Fld.Kd) (p : Nat) (st : RS) : Fld.Res := match p with
  | 0 => Fld.item K st.rest st.at_
  | 1 => Fld.rVal K st.it st.rest st.at_
  | 2 => Fld.rSec K st.it st.rest st.at_
  | 3 => Fld.rNums st.it st.rest st.at_
  | 4 => Fld.rStep st.it st.rest st.at_
  | _ => .inl (st.it, st.at_, st.rest)
/-- the items that are still to come, and where the text stops being a field -/
def fut (K : Fld.Kd) (p : Nat) (st : RS) : List Fld.It × Option Nat := Fld.go K (partRes K p st)
def meas (p : Nat) (st : RS) : Nat := 6 * (st.s.size - st.at_) + (5 - p)
/-- one part has been read -/
def Step (K : Fld.Kd) (p : Nat) (st : RS) (v : Value) (st' : RS) : Prop :=
  (∃ p', v = partV p' ∧ 1 ≤ p' ∧ p' ≤ 5 ∧ st'.wh = false ∧ fut K p' st' = fut K p st ∧ meas p' st' < meas p st) ∨
  (v = .nilFunc ∧ st'.wh = false ∧ fut K p st = ([], some st'.at_)) ∨
  (v = .nilFunc ∧ st'.wh = true ∧ fut K p st = ([st'.it], none)) ∨
  (v = partV 0 ∧ st'.wh = true ∧ fut K p st = (st'.it :: (fut K 0 st').1, (fut K 0 st').2) ∧ meas 0 st' < meas p st)
/-- the contract of a part -/
def PartOk (p : Nat) : Prop := ∀ (R : Nat) (st : RS) (K : Fld.Kd) (xs : List ByteArray) (w : World), KR w R st K xs → (p = 0 ∨ st.wh = false) →
  Calls Tryz.prog (partF p) #[.pointer (some ⟨R, 0, none⟩)] w fun e w' => ∃ v st', e = .returned v ∧ KR w' R st' K xs ∧ Only R w w' ∧ (st'.nx = st.nx ∧ st'.nA = st.nA) ∧ Step K p st v st'

/-! what comes next -/
theorem rest_head (st : RS) (h : st.at_ < st.s.size) : st.rest = st.s[st.at_] :: st.s.data.toList.drop (st.at_ + 1) := drop_cons _ _ h
theorem rest_end (st : RS) (h : st.s.size ≤ st.at_) : st.rest = [] := drop_end _ _ h
theorem head_yes (st : RS) (c : UInt8) : st.rest.head? = some c ↔ ∃ h : st.at_ < st.s.size, (st.s[st.at_].toNat : Int) = (c.toNat : Int) := by
  constructor
  · intro h
    rcases Nat.lt_or_ge st.at_ st.s.size with a | a
    · rw [rest_head st a] at h
      have : st.s[st.at_] = c := by simpa using h
      exact ⟨a, by rw [this]⟩
    · rw [rest_end st a] at h; cases h
  · rintro ⟨a, b⟩
    rw [rest_head st a, List.head?_cons, UInt8.toNat_inj.1 (show st.s[st.at_].toNat = c.toNat by omega)]
theorem head_no {st : RS} {c : UInt8} (h : ¬ st.rest.head? = some c) : ∀ h : st.at_ < st.s.size, (st.s[st.at_].toNat : Int) ≠ (c.toNat : Int) := fun a b => h ((head_yes st c).2 ⟨a, b⟩)
theorem rest_tail (st : RS) : st.rest.tail = ({ st with at_ := st.at_ + 1 } : RS).rest := by
  show (st.s.data.toList.drop st.at_).tail = st.s.data.toList.drop (st.at_ + 1)
  rw [List.tail_drop]
theorem rest_drop (st : RS) (k : Nat) : st.rest.drop k = ({ st with at_ := st.at_ + k } : RS).rest := by
  show (st.s.data.toList.drop st.at_).drop k = st.s.data.toList.drop (st.at_ + k)
  rw [List.drop_drop]
theorem rest_len (st : RS) : st.rest.length = st.s.size - st.at_ := by
  show (st.s.data.toList.drop st.at_).length = _
  rw [List.length_drop, ← Lib.size_eq]

/-! what is to come, before and behind a part -/
theorem fut3_yes {K : Fld.Kd} {st : RS} (h : st.rest.head? = some 47) : fut K 4 { st with at_ := st.at_ + 1 } = fut K 3 st := by
  show Fld.go K (Fld.rStep st.it ({ st with at_ := st.at_ + 1 } : RS).rest (st.at_ + 1)) = Fld.go K (Fld.rNums st.it st.rest st.at_)
  unfold Fld.rNums
  rw [if_pos h, rest_tail]
theorem fut3_no {K : Fld.Kd} {st : RS} (h : ¬ st.rest.head? = some 47) : fut K 5 st = fut K 3 st := by
  show Fld.go K (.inl (st.it, st.at_, st.rest)) = Fld.go K (Fld.rNums st.it st.rest st.at_)
  unfold Fld.rNums
  rw [if_neg h]
theorem fut4_no {K : Fld.Kd} {st : RS} (h : Fld.num st.rest = none) : fut K 4 st = ([], some st.at_) := by
  show Fld.go K (Fld.rStep st.it st.rest st.at_) = _
  unfold Fld.rStep
  rw [h]
  rfl
theorem fut4_yes {K : Fld.Kd} {st : RS} {n k : Nat} (h : Fld.num st.rest = some (n, k)) : fut K 5 { st with at_ := st.at_ + k, t := n, ta := st.at_ } = fut K 4 st := by
  show Fld.go K (.inl (⟨st.f, st.fa, st.u, st.ua, n, st.at_⟩, st.at_ + k, ({ st with at_ := st.at_ + k } : RS).rest)) = Fld.go K (Fld.rStep st.it st.rest st.at_)
  unfold Fld.rStep
  rw [h, ← rest_drop]
  rfl
theorem fut2_no {K : Fld.Kd} {st : RS} (h : Fld.value K st.rest = none) : fut K 2 st = ([], some st.at_) := by
  show Fld.go K (Fld.rSec K st.it st.rest st.at_) = _
  unfold Fld.rSec
  rw [h]
  rfl
theorem fut2_yes {K : Fld.Kd} {st : RS} {n k : Nat} (h : Fld.value K st.rest = some (n, k)) : fut K 3 { st with at_ := st.at_ + k, u := n, ua := st.at_ } = fut K 2 st := by
  show Fld.go K (Fld.rNums ⟨st.f, st.fa, n, st.at_, st.t, st.ta⟩ ({ st with at_ := st.at_ + k } : RS).rest (st.at_ + k)) = Fld.go K (Fld.rSec K st.it st.rest st.at_)
  unfold Fld.rSec
  rw [h, ← rest_drop]
  rfl
theorem fut1_minus {K : Fld.Kd} {st : RS} (h : st.rest.head? = some 45) : fut K 2 { st with at_ := st.at_ + 1 } = fut K 1 st := by
  show Fld.go K (Fld.rSec K st.it ({ st with at_ := st.at_ + 1 } : RS).rest (st.at_ + 1)) = Fld.go K (Fld.rVal K st.it st.rest st.at_)
  unfold Fld.rVal
  rw [if_pos h, rest_tail]
theorem fut1_slash {K : Fld.Kd} {st : RS} (h0 : ¬ st.rest.head? = some 45) (h : st.rest.head? = some 47) : fut K 4 { st with at_ := st.at_ + 1, u := max st.f K.hi } = fut K 1 st := by
  show Fld.go K (Fld.rStep ⟨st.f, st.fa, max st.f K.hi, st.ua, st.t, st.ta⟩ ({ st with at_ := st.at_ + 1 } : RS).rest (st.at_ + 1)) = Fld.go K (Fld.rVal K st.it st.rest st.at_)
  unfold Fld.rVal
  rw [if_neg h0, if_pos h, ← rest_tail]
  rfl
theorem fut1_no {K : Fld.Kd} {st : RS} (h0 : ¬ st.rest.head? = some 45) (h : ¬ st.rest.head? = some 47) : fut K 5 st = fut K 1 st := by
  show Fld.go K (.inl (st.it, st.at_, st.rest)) = Fld.go K (Fld.rVal K st.it st.rest st.at_)
  unfold Fld.rVal
  rw [if_neg h0, if_neg h]
theorem fut0_star {K : Fld.Kd} {st : RS} (h : st.rest.head? = some 42) (st' : RS) (e1 : st'.it = ⟨K.lo, 0, K.hi, 0, 1, 0⟩) (e2 : st'.s = st.s) (e3 : st'.at_ = st.at_ + 1) : fut K 3 st' = fut K 0 st := by
  show Fld.go K (Fld.rNums st'.it st'.rest st'.at_) = Fld.go K (Fld.item K st.rest st.at_)
  unfold Fld.item
  rw [if_pos h, rest_tail, e1, e3]
  unfold RS.rest
  rw [e2, e3]
theorem fut0_no {K : Fld.Kd} {st : RS} (h0 : ¬ st.rest.head? = some 42) (h : Fld.value K st.rest = none) : fut K 0 st = ([], some st.at_) := by
  show Fld.go K (Fld.item K st.rest st.at_) = _
  unfold Fld.item
  rw [if_neg h0, h]
  rfl
theorem fut0_yes {K : Fld.Kd} {st : RS} {n k : Nat} (h0 : ¬ st.rest.head? = some 42) (h : Fld.value K st.rest = some (n, k)) (st' : RS) (e1 : st'.it = ⟨n, st.at_, n, st.at_, 1, 0⟩) (e2 : st'.s = st.s) (e3 : st'.at_ = st.at_ + k) : fut K 1 st' = fut K 0 st := by
  show Fld.go K (Fld.rVal K st'.it st'.rest st'.at_) = Fld.go K (Fld.item K st.rest st.at_)
  unfold Fld.item
  rw [if_neg h0, h]
  show _ = Fld.go K (Fld.rVal K _ _ _)
  rw [rest_drop, e1, e3]
  unfold RS.rest
  rw [e2, e3]
theorem fut5_end {K : Fld.Kd} {st : RS} (h : st.s.size ≤ st.at_) : fut K 5 st = ([st.it], none) := by
  show Fld.go K (.inl (st.it, st.at_, st.rest)) = _
  rw [rest_end st h]
  rfl
theorem fut5_comma {K : Fld.Kd} {st : RS} (h : st.rest.head? = some 44) : fut K 5 st = (st.it :: (fut K 0 { st with at_ := st.at_ + 1 }).1, (fut K 0 { st with at_ := st.at_ + 1 }).2) := by
  show Fld.go K (.inl (st.it, st.at_, st.rest)) = (st.it :: (Fld.go K (Fld.item K ({ st with at_ := st.at_ + 1 } : RS).rest (st.at_ + 1))).1, (Fld.go K (Fld.item K ({ st with at_ := st.at_ + 1 } : RS).rest (st.at_ + 1))).2)
  rw [← rest_tail, ← Fld.scan_go]
  obtain ⟨e, _, _⟩ := Fld.at_tail h
  generalize st.rest.tail = r at *
  rw [e, Fld.go_comma]
theorem fut5_junk {K : Fld.Kd} {st : RS} (h0 : st.at_ < st.s.size) (h : ¬ st.rest.head? = some 44) : fut K 5 st = ([], some st.at_) := by
  show Fld.go K (.inl (st.it, st.at_, st.rest)) = _
  rw [rest_head st h0] at h ⊢
  exact Fld.go_junk K _ _ _ _ (by simpa using h)

/-! behindNumbers -/
theorem nums_part : PartOk 3 := by
  intro R st K xs w h hw
  have hwh : st.wh = false := by rcases hw with q | q; omega; exact q
  have hfit := h.fit
  show Calls Tryz.prog 40 _ _ _
  by_cases hc : st.rest.head? = some 47
  · obtain ⟨h1, h2⟩ := (head_yes st 47).1 hc
    have T := Lib.hid (takes_yes R st 47 w h.rd h1 h2 (by omega))
    have KK := Lib.hid h
    have HC := Lib.hid hc
    clear h hc
    go_enter Tryz.func40, Tryz.ntmps40
    go_wp2_with fail
    refine T.out.mono ?_
    rintro e w1 ⟨rfl, hr, ho⟩
    have RR := Lib.hid hr
    have OO := Lib.hid ho
    clear hr ho
    go_wp2_with fail
    go_ret
    exact ⟨_, _, rfl, KK.out.step RR.out OO.out rfl rfl rfl rfl rfl rfl rfl h1, OO.out, ⟨rfl, rfl⟩, .inl ⟨4, rfl, by omega, by omega, hwh, fut3_yes HC.out, by simp [meas]; omega⟩⟩
  · have T := Lib.hid (takes_no R st 47 w h.rd h.at_ (head_no hc))
    have KK := Lib.hid h
    have HC := Lib.hid hc
    clear h hc
    go_enter Tryz.func40, Tryz.ntmps40
    go_wp2_with fail
    refine T.out.mono ?_
    rintro e w1 ⟨rfl, hr, ho⟩
    have RR := Lib.hid hr
    have OO := Lib.hid ho
    clear hr ho
    go_wp2_with fail
    go_ret
    exact ⟨_, _, rfl, KK.out.step RR.out OO.out rfl rfl rfl rfl rfl rfl rfl KK.out.at_, OO.out, ⟨rfl, rfl⟩, .inl ⟨5, rfl, by omega, by omega, hwh, fut3_no HC.out, by simp [meas]⟩⟩

/-! step -/
theorem Rd.two {W : World} {R : Nat} {st : RS} (h : Rd W R st) (b : Nat) (hb : R ≠ b) (j k : Nat) (x y : Value) : Rd ((W.setCell ⟨b, j, none⟩ x).setCell ⟨b, k, none⟩ y) R st := (h.other _ _ hb).other _ _ hb
set_option maxHeartbeats 1000000 in
theorem step_part : PartOk 4 := by
  intro R st K xs w h hw
  have hwh : st.wh = false := by rcases hw with q | q; omega; exact q
  have hfit := h.fit
  show Calls Tryz.prog 59 _ _ _
  cases hc : Fld.num st.rest with
  | none =>
    have T := Lib.hid (number_none R st w h.rd h.at_ hc (by omega))
    have KK := Lib.hid h
    have HC := Lib.hid hc
    clear h hc
    go_enter Tryz.func59, Tryz.ntmps59
    go_wp2_with fail
    refine T.out.mono ?_
    rintro e w1 ⟨rfl, hr, ho⟩
    have RR := Lib.hid (hr.alloc (.cells #[.int .i64 0, .int .i64 0] 56))
    have OO := Lib.hid (ho.trans (Only.alloc _ _ (.cells #[.int .i64 0, .int .i64 0] 56)))
    clear hr ho
    go_wp2_with fail
    go_ret
    exact ⟨_, _, rfl, KK.out.step RR.out OO.out rfl rfl rfl rfl rfl rfl rfl KK.out.at_, OO.out, ⟨rfl, rfl⟩, .inr (.inl ⟨rfl, hwh, fut4_no HC.out⟩)⟩
  | some o =>
    obtain ⟨n, k⟩ := o
    have T := Lib.hid (number_some R st n k w h.rd h.at_ hc (by omega))
    obtain ⟨k1, k2, _⟩ := Fld.num_len hc
    rw [rest_len] at k2
    have KK := Lib.hid h
    have HC := Lib.hid hc
    clear h hc
    go_enter Tryz.func59, Tryz.ntmps59
    go_wp2_with fail
    refine T.out.mono ?_
    rintro e w1 ⟨rfl, hr, ho⟩
    have RR := Lib.hid hr
    have OO := Lib.hid ho
    have hR := hr.lt
    have c11 := hr.cell 11
    have c12 := hr.cell 12
    have z11 := hr.frozen 11
    have z12 := hr.frozen 12
    simp only [RS.cells, List.getElem?_toArray, List.getElem?_cons_succ, List.getElem?_cons_zero] at c11 c12
    have hne : w1.heap.size ≠ R := by omega
    clear hr ho
    go_wp2_with fail
    go_ret
    have S1 := (RR.out.set 11 (.int .i64 n) (st' := { st with at_ := st.at_ + k, t := n }) (by simp [RS.cells])).set 12 (.int .i64 st.at_) (st' := { st with at_ := st.at_ + k, t := n, ta := st.at_ }) (by simp [RS.cells])
    have O1 := (OO.out.trans (Only.set R 11 w1 (.int .i64 n))).trans (Only.set R 12 _ (.int .i64 st.at_))
    refine ⟨_, _, rfl, KK.out.step (S1.alloc _) (O1.trans (Only.alloc _ _ _)) rfl rfl rfl rfl rfl rfl rfl ?_, O1.trans (Only.alloc _ _ _), ⟨rfl, rfl⟩, .inl ⟨5, rfl, by omega, by omega, hwh, fut4_yes HC.out, by simp [meas]; omega⟩⟩
    have := KK.out.at_
    show st.at_ + k ≤ st.s.size
    omega

/-! second -/
set_option maxHeartbeats 1000000 in
theorem sec_part : PartOk 2 := by
  intro R st K xs w h hw
  have hwh : st.wh = false := by rcases hw with q | q; omega; exact q
  have hfit := h.fit
  show Calls Tryz.prog 67 _ _ _
  cases hc : Fld.value K st.rest with
  | none =>
    have T := Lib.hid (value_none R st K xs w h hc)
    have KK := Lib.hid h
    have HC := Lib.hid hc
    clear h hc
    go_enter Tryz.func67, Tryz.ntmps67
    go_wp2_with fail
    refine T.out.mono ?_
    rintro e w1 ⟨rfl, hr, ho⟩
    have RR := Lib.hid (hr.alloc (.cells #[.int .i64 0, .int .i64 0] 56))
    have OO := Lib.hid (ho.trans (Only.alloc _ _ (.cells #[.int .i64 0, .int .i64 0] 56)))
    clear hr ho
    go_wp2_with fail
    go_ret
    exact ⟨_, _, rfl, KK.out.step RR.out OO.out rfl rfl rfl rfl rfl rfl rfl KK.out.at_, OO.out, ⟨rfl, rfl⟩, .inr (.inl ⟨rfl, hwh, fut2_no HC.out⟩)⟩
  | some o =>
    obtain ⟨n, k⟩ := o
    have T := Lib.hid (value_some R st K xs n k w h hc)
    obtain ⟨k1, k2⟩ := Fld.value_len hc
    rw [rest_len] at k2
    have KK := Lib.hid h
    have HC := Lib.hid hc
    clear h hc
    go_enter Tryz.func67, Tryz.ntmps67
    go_wp2_with fail
    refine T.out.mono ?_
    rintro e w1 ⟨rfl, hr, ho⟩
    have RR := Lib.hid hr
    have OO := Lib.hid ho
    have hR := hr.lt
    have c9 := hr.cell 9
    have c10 := hr.cell 10
    have z9 := hr.frozen 9
    have z10 := hr.frozen 10
    simp only [RS.cells, List.getElem?_toArray, List.getElem?_cons_succ, List.getElem?_cons_zero] at c9 c10
    have hne : w1.heap.size ≠ R := by omega
    clear hr ho
    go_wp2_with fail
    go_ret
    have S1 := (RR.out.set 9 (.int .i64 n) (st' := { st with at_ := st.at_ + k, u := n }) (by simp [RS.cells])).set 10 (.int .i64 st.at_) (st' := { st with at_ := st.at_ + k, u := n, ua := st.at_ }) (by simp [RS.cells])
    have O1 := (OO.out.trans (Only.set R 9 w1 (.int .i64 n))).trans (Only.set R 10 _ (.int .i64 st.at_))
    refine ⟨_, _, rfl, KK.out.step (S1.alloc _) (O1.trans (Only.alloc _ _ _)) rfl rfl rfl rfl rfl rfl rfl ?_, O1.trans (Only.alloc _ _ _), ⟨rfl, rfl⟩, .inl ⟨3, rfl, by omega, by omega, hwh, fut2_yes HC.out, by simp [meas]; omega⟩⟩
    have := KK.out.at_
    show st.at_ + k ≤ st.s.size
    omega

/-! behindItem -/
set_option maxHeartbeats 1000000 in
theorem item_part : PartOk 5 := by
  intro R st K xs w h hw
  have hwh : st.wh = false := by rcases hw with q | q; omega; exact q
  have hfit := h.fit
  have hat := h.at_
  show Calls Tryz.prog 60 _ _ _
  have c4 := h.rd.cell 4
  have c5 := h.rd.cell 5
  have c13 := h.rd.cell 13
  have z13 := h.rd.frozen 13
  simp only [RS.cells, List.getElem?_toArray, List.getElem?_cons_succ, List.getElem?_cons_zero] at c4 c5 c13
  by_cases he : st.s.size ≤ st.at_
  · have t0 : ((st.at_ : Int) == (st.s.size : Int)) = true := by rw [beq_iff_eq]; omega
    have t1 : (st.at_ == st.s.size) = true := by rw [beq_iff_eq]; omega
    have KK := Lib.hid h
    clear h
    go_enter Tryz.func60, Tryz.ntmps60
    go_wp2_with fail
    go_quiet (fail)
    go_wp2_with fail
    go_ret
    have S1 := (KK.out.rd.drewN nq).set 13 (.bool true) (st' := { st with wh := true }) (by simp [RS.cells])
    have O1 := (Only.drewN R w nq).trans (Only.set R 13 _ (.bool true))
    exact ⟨_, _, rfl, KK.out.step S1 O1 rfl rfl rfl rfl rfl rfl rfl hat, O1, ⟨rfl, rfl⟩, .inr (.inr (.inl ⟨rfl, rfl, fut5_end he⟩))⟩
  · have t0 : ((st.at_ : Int) == (st.s.size : Int)) = false := by rw [beq_eq_false_iff_ne]; omega
    have t1 : (st.at_ == st.s.size) = false := by rw [beq_eq_false_iff_ne]; omega
    by_cases hc : st.rest.head? = some 44
    · obtain ⟨h1, h2⟩ := (head_yes st 44).1 hc
      have T := Lib.hid (fun n => takes_yes R st 44 (w.drewN n) (h.rd.drewN n) h1 h2 (by omega))
      have KK := Lib.hid h
      have HC := Lib.hid hc
      clear h hc
      go_enter Tryz.func60, Tryz.ntmps60
      go_wp2_with fail
      go_quiet (fail)
      go_wp2_with fail
      refine (T.out _).mono ?_
      rintro e w1 ⟨rfl, hr, ho⟩
      have d13 := hr.cell 13
      have y13 := hr.frozen 13
      simp only [RS.cells, List.getElem?_toArray, List.getElem?_cons_succ, List.getElem?_cons_zero] at d13
      have RR := Lib.hid hr
      have OO := Lib.hid ((Only.drewN R w nq).trans ho)
      clear hr ho
      go_wp2_with fail
      go_ret
      have S1 := RR.out.set 13 (.bool true) (st' := { st with at_ := st.at_ + 1, wh := true }) (by simp [RS.cells])
      have O1 := OO.out.trans (Only.set R 13 _ (.bool true))
      exact ⟨_, _, rfl, KK.out.step S1 O1 rfl rfl rfl rfl rfl rfl rfl h1, O1, ⟨rfl, rfl⟩, .inr (.inr (.inr ⟨rfl, rfl, fut5_comma HC.out, by simp [meas]; omega⟩))⟩
    · have T := Lib.hid (fun n => takes_no R st 44 (w.drewN n) (h.rd.drewN n) h.at_ (head_no hc))
      have KK := Lib.hid h
      have HC := Lib.hid hc
      clear h hc
      go_enter Tryz.func60, Tryz.ntmps60
      go_wp2_with fail
      go_quiet (fail)
      go_wp2_with fail
      refine (T.out _).mono ?_
      rintro e w1 ⟨rfl, hr, ho⟩
      have RR := Lib.hid hr
      have OO := Lib.hid ((Only.drewN R w nq).trans ho)
      clear hr ho
      go_wp2_with fail
      go_ret
      exact ⟨_, _, rfl, KK.out.step RR.out OO.out rfl rfl rfl rfl rfl rfl rfl hat, OO.out, ⟨rfl, rfl⟩, .inr (.inl ⟨rfl, hwh, fut5_junk (by omega) HC.out⟩)⟩
end Go.Proofs.YtlmbfhbfejjpdaaGreatDoor
