/- The reader of package field in memory; contracts of its methods takes and ahead. -/
import Derived.Test.YtpnfifhanmpapaaGreatDoorMFldB
import Derived.Deep.RegionHeld3
namespace Go.Proofs.YtpnfifhanmpapaaGreatDoor
open Go.ChangeShapes Go.WideShapes Go.RowKit Go.Shelf

/-- what a reader holds -/
structure RS where
  lo : Nat
  hi : Nat
  nA : Option Addr
  nl : Nat
  nc : Nat
  wk : Bool
  s : ByteArray
  at_ : Nat
  nx : Value
  f : Nat
  fa : Nat
  u : Nat
  ua : Nat
  t : Nat
  ta : Nat
  wh : Bool
def RS.cells (st : RS) : Array Value := #[.int .i64 st.lo, .int .i64 st.hi, .slice st.nA st.nl st.nc, .bool st.wk, .string st.s, .int .i64 st.at_, st.nx, .int .i64 st.f, .int .i64 st.fa, .int .i64 st.u, .int .i64 st.ua, .int .i64 st.t, .int .i64 st.ta, .bool st.wh]
/-- block R is a reader -/
def Rd (W : World) (R : Nat) (st : RS) : Prop := W.heap[R]? = some (.cells st.cells 133 (0, 0))
theorem Rd.lt {W : World} {R : Nat} {st : RS} (h : Rd W R st) : R < W.heap.size := (Array.getElem?_eq_some_iff.1 h).1
theorem Rd.cell {W : World} {R : Nat} {st : RS} (h : Rd W R st) (k : Nat) : W.cell? ⟨R, k, none⟩ = st.cells[k]? := by simp [World.cell?, show W.heap[R]? = _ from h]
theorem Rd.frozen {W : World} {R : Nat} {st : RS} (h : Rd W R st) (k : Nat) : W.frozen? ⟨R, k, none⟩ = false := by simp [World.frozen?, show W.heap[R]? = _ from h]
theorem Rd.set {W : World} {R : Nat} {st st' : RS} (h : Rd W R st) (k : Nat) (v : Value) (e : st.cells.setIfInBounds k v = st'.cells) : Rd (W.setCell ⟨R, k, none⟩ v) R st' := by
  obtain ⟨hlt, hk⟩ := Array.getElem?_eq_some_iff.1 h
  show (W.heap.modify R _)[R]? = _
  rw [Array.getElem?_eq_getElem (by rw [Array.size_modify]; exact hlt), Array.getElem_modify_self, hk]
  simp [e]
theorem Rd.alloc {W : World} {R : Nat} {st : RS} (h : Rd W R st) (o : Obj) : Rd (W.alloc o) R st := (Below.heap_alloc _ _ _ h.lt).trans h
theorem Rd.drewN {W : World} {R : Nat} {st : RS} (h : Rd W R st) (n : Nat) : Rd (W.drewN n) R st := by
  induction n with
  | zero => exact h
  | succ n ih => exact ih
theorem Rd.below {W W' : World} {R : Nat} {st : RS} (h : Rd W R st) (hb : Below W.heap.size W W') : Rd W' R st := (hb.block R h.lt).trans h
theorem Rd.other {W : World} {R : Nat} {st : RS} (h : Rd W R st) (a : Addr) (v : Value) (ha : R ≠ a.block) : Rd (W.setCell a v) R st := (Below.heap_setCell _ _ _ _ ha).trans h
/-- of what there was nothing has changed but block R -/
def Only (R : Nat) (w w' : World) : Prop := w.grownBy w' (some R)
theorem Only.refl (R : Nat) (w : World) : Only R w w := ⟨rfl, rfl, rfl, Nat.le_refl _, fun _ _ _ => rfl⟩
theorem Only.trans {R : Nat} {a b c : World} (h : Only R a b) (k : Only R b c) : Only R a c :=
  ⟨k.os.trans h.os, k.tape.trans h.tape, k.output.trans h.output, Nat.le_trans h.size k.size, fun i hi hr => (k.block i (Nat.lt_of_lt_of_le hi h.size) hr).trans (h.block i hi hr)⟩
theorem Only.of_below {R : Nat} {w w' : World} (h : Below w.heap.size w w') : Only R w w' := ⟨h.os, h.tape, h.output, h.size, fun k hk _ => h.block k hk⟩
theorem Only.more {R : Nat} {a b c : World} (h : Only R a b) (k : Below a.heap.size b c) : Only R a c :=
  ⟨k.os.trans h.os, k.tape.trans h.tape, k.output.trans h.output, Nat.le_trans h.size k.size, fun i hi hr => (k.block i hi).trans (h.block i hi hr)⟩
theorem Only.below {R n : Nat} {w w' : World} (h : Only R w w') (hn : n ≤ w.heap.size) (hR : n ≤ R) : Below n w w' :=
  ⟨h.os, h.tape, h.output, h.size, fun k hk => h.block k (by omega) (fun e => by cases e; omega)⟩
theorem Only.set (R k : Nat) (w : World) (v : Value) : Only R w (w.setCell ⟨R, k, none⟩ v) :=
  ⟨rfl, rfl, rfl, by simp [World.setCell], fun i _ hr => Below.heap_setCell _ _ _ _ (fun e => hr (by rw [e]))⟩
theorem Only.drewN (R : Nat) (w : World) (n : Nat) : Only R w (w.drewN n) := by
  induction n with
  | zero => exact Only.refl _ _
  | succ n ih => exact ih.trans ⟨rfl, rfl, rfl, Nat.le_refl _, fun _ _ _ => rfl⟩
theorem Only.alloc (R : Nat) (w : World) (o : Obj) : Only R w (w.alloc o) := Only.of_below ((Below.refl _ w).alloc (Nat.le_refl _) o)
theorem Only.lay {R : Nat} {w w' : World} {v : Value} {xs : List ByteArray} (h : Only R w w') (hv : IsStrs w v xs) (hne : ∀ b o n c, v = .slice (some ⟨b, o, none⟩) n c → 0 < n → b ≠ R) : IsStrs w' v xs := by
  obtain ⟨A, cap, rfl, h1, h2⟩ := hv
  refine ⟨A, cap, rfl, h1, fun hp => ?_⟩
  obtain ⟨b, o, rfl, h3, h4⟩ := h2 hp
  refine ⟨b, o, rfl, Nat.lt_of_lt_of_le h3 h.size, fun j x hx => ?_⟩
  rw [World.cell?_of_block (w := w) (a := ⟨b, o + j, none⟩) (h.block b h3 (fun e => by cases e; exact hne _ _ _ _ rfl hp rfl))]
  exact h4 j x hx

theorem takes_yes (R : Nat) (st : RS) (c : Int) (w : World) (h : Rd w R st) (h1 : st.at_ < st.s.size) (hc : (st.s[st.at_].toNat : Int) = c) (hs : st.s.size ≤ 9223372036854775807) :
    Calls Tryz.prog 104 #[.pointer (some ⟨R, 0, none⟩), .int .u8 c] w fun e w' => e = .returned (.bool true) ∧ Rd w' R { st with at_ := st.at_ + 1 } ∧ Only R w w' := by
  have c1 := h.cell 4
  have c5 := h.cell 5
  have z5 := h.frozen 5
  simp only [RS.cells, List.getElem?_toArray, List.getElem?_cons_succ, List.getElem?_cons_zero] at c1 c5
  have t0 : ((st.at_ : Int) == (st.s.size : Int)) = false := by rw [beq_eq_false_iff_ne]; omega
  have t1 : ((st.s[st.at_].toNat : Int) != c) = false := by rw [bne_eq_false_iff_eq]; exact hc
  have H := Lib.hid h
  have HC := Lib.hid hc
  have t2 : (st.at_ == st.s.size) = false := by rw [beq_eq_false_iff_ne]; omega
  have i0 : (0 : Int) ≤ (st.at_ : Int) := by omega
  have i1 : (st.at_ : Int) < (st.s.size : Int) := by omega
  clear h hc
  go_enter Tryz.func104, Tryz.ntmps104
  go_wp2_with fail
  go_quiet (fail)
  go_wp2_with fail
  go_ret
  refine ⟨rfl, ?_, ?_⟩
  · exact ((H.out.drewN _).set 5 _ (by simp [RS.cells]))
  · exact (Only.drewN _ _ _).trans (Only.set _ _ _ _)
theorem takes_no (R : Nat) (st : RS) (c : Int) (w : World) (h : Rd w R st) (h1 : st.at_ ≤ st.s.size) (hc : ∀ h : st.at_ < st.s.size, (st.s[st.at_].toNat : Int) ≠ c) :
    Calls Tryz.prog 104 #[.pointer (some ⟨R, 0, none⟩), .int .u8 c] w fun e w' => e = .returned (.bool false) ∧ Rd w' R st ∧ Only R w w' := by
  have c1 := h.cell 4
  have c5 := h.cell 5
  simp only [RS.cells, List.getElem?_toArray, List.getElem?_cons_succ, List.getElem?_cons_zero] at c1 c5
  have H := Lib.hid h
  by_cases hl : st.at_ < st.s.size
  · have t0 : ((st.at_ : Int) == (st.s.size : Int)) = false := by rw [beq_eq_false_iff_ne]; omega
    have t1 : ((st.s[st.at_].toNat : Int) != c) = true := by rw [bne_iff_ne]; exact hc hl
    have t2 : (st.at_ == st.s.size) = false := by rw [beq_eq_false_iff_ne]; omega
    have i0 : (0 : Int) ≤ (st.at_ : Int) := by omega
    have i1 : (st.at_ : Int) < (st.s.size : Int) := by omega
    clear h hc
    go_enter Tryz.func104, Tryz.ntmps104
    go_wp2_with fail
    go_quiet (fail)
    go_wp2_with fail
    go_ret
    exact ⟨rfl, H.out.drewN _, Only.drewN _ _ _⟩
  · have t0 : ((st.at_ : Int) == (st.s.size : Int)) = true := by rw [beq_iff_eq]; omega
    have t2 : (st.at_ == st.s.size) = true := by rw [beq_iff_eq]; omega
    clear h hc h1 hl
    go_enter Tryz.func104, Tryz.ntmps104
    go_wp2_with fail
    go_quiet (fail)
    go_wp2_with fail
    go_ret
    exact ⟨rfl, H.out.drewN _, Only.drewN _ _ _⟩

/-! what comes next, as far as a test goes -/
/-- from a on the bytes of s pass p up to e, and no further -/
structure Upto (p : Nat → Bool) (s : ByteArray) (a e : Nat) : Prop where
  le : a ≤ e
  fit : e ≤ s.size
  yes : ∀ j (h : j < s.size), a ≤ j → j < e → p s[j].toNat = true
  no : ∀ h : e < s.size, p s[e].toNat = false
theorem drop_cons (s : ByteArray) (k : Nat) (h : k < s.size) : s.data.toList.drop k = s[k] :: s.data.toList.drop (k + 1) := by
  rw [List.drop_eq_getElem_cons (by rw [← Lib.size_eq]; exact h)]
  congr 1
theorem drop_end (s : ByteArray) (k : Nat) (h : s.size ≤ k) : s.data.toList.drop k = [] := List.drop_eq_nil_of_le (by rw [← Lib.size_eq]; exact h)
theorem upto_ex (p : Nat → Bool) (s : ByteArray) (a : Nat) (ha : a ≤ s.size) : ∃ e, Upto p s a e := by
  obtain ⟨n, hn⟩ : ∃ n, n = s.size - a := ⟨_, rfl⟩
  induction n generalizing a with
  | zero => exact ⟨a, Nat.le_refl _, ha, fun j _ h1 h2 => by omega, fun h => by omega⟩
  | succ n ih =>
    have hlt : a < s.size := by omega
    cases c : p s[a].toNat with
    | true =>
      obtain ⟨e, he⟩ := ih (a + 1) (by omega) (by omega)
      refine ⟨e, by have := he.le; omega, he.fit, fun j h1 h2 h3 => ?_, he.no⟩
      rcases Nat.lt_or_ge a j with q | q
      · exact he.yes j h1 q h3
      · obtain rfl : j = a := by omega
        exact c
    | false => exact ⟨a, Nat.le_refl _, ha, fun j _ h1 h2 => by omega, fun h => c⟩
theorem upto_take (p : Nat → Bool) (s : ByteArray) : ∀ (n a e : Nat), n = e - a → Upto p s a e → (s.data.toList.drop a).takeWhile (fun c => p c.toNat) = (s.data.toList.drop a).take (e - a) := by
  intro n
  induction n with
  | zero =>
    intro a e hn h
    obtain rfl : a = e := by have := h.le; omega
    rw [Nat.sub_self, List.take_zero]
    by_cases hl : a < s.size
    · rw [drop_cons s a hl, List.takeWhile_cons, h.no hl]
      rfl
    · rw [drop_end s a (by omega)]; rfl
  | succ n ih =>
    intro a e hn h
    have hl : a < s.size := by have := h.fit; omega
    rw [drop_cons s a hl, List.takeWhile_cons, h.yes a hl (Nat.le_refl _) (by omega), show e - a = (e - (a + 1)) + 1 by omega, List.take_succ_cons]
    rw [ih (a + 1) e (by omega) ⟨by omega, h.fit, fun j h1 h2 h3 => h.yes j h1 (by omega) h3, h.no⟩]
    rfl
theorem extract_list (s : ByteArray) (a e : Nat) : (s.extract a e).data.toList = (s.data.toList.drop a).take (e - a) := by
  rw [Lib.extract_data]
theorem ahead_letter (R : Nat) (st : RS) (e0 : Nat) (w : World) (h : Rd w R st) (hu : Upto Fld.letN st.s st.at_ e0) (hs : st.s.size ≤ 9223372036854775806) :
    Calls Tryz.prog 135 #[.pointer (some ⟨R, 0, none⟩), .func (.func 136) #[] #[]] w fun e w' => e = .returned (.string (st.s.extract st.at_ e0)) ∧ Rd w' R st ∧ Only R w w' := by
  have c1 := h.cell 4
  have c5 := h.cell 5
  simp only [RS.cells, List.getElem?_toArray, List.getElem?_cons_succ, List.getElem?_cons_zero] at c1 c5
  have H := Lib.hid h
  have HU := Lib.hid hu
  have hle := hu.le
  have hfit := hu.fit
  clear h hu
  go_enter Tryz.func135, Tryz.ntmps135
  go_wp2_with fail
  go_loop [5] (fun i => ∃ k : Nat, st.at_ ≤ k ∧ k ≤ e0 ∧ i = .int .i64 k) (fun i => e0 - (intOf i).toNat)
  case atStart => exact ⟨_, Nat.le_refl _, hle, rfl⟩
  case round =>
    obtain ⟨k, hk1, hk2, rfl⟩ := hrel
    by_cases hk : k < st.s.size
    · by_cases hlt : k < e0
      · have L := Lib.hid (fun w => letter_any st.s[k].toNat true (HU.out.yes k hk hk1 hlt) w)
        go_wp2_with fail
        refine (L.out _).mono ?_
        rintro e w1 ⟨rfl, rfl⟩
        go_wp2_with fail
        go_round
        case rel => exact ⟨k + 1, by omega, by omega, by go_num⟩
        case measure => simp [intOf]; omega
      · obtain rfl : k = e0 := by omega
        have L := Lib.hid (fun w => letter_any st.s[k].toNat false (HU.out.no hk) w)
        have i0 : (0 : Int) ≤ (st.at_ : Int) := by omega
        have i1 : (st.at_ : Int) ≤ (k : Int) := by omega
        have i2 : (k : Int) ≤ (st.s.size : Int) := by omega
        go_wp2_with fail
        refine (L.out _).mono ?_
        rintro e w1 ⟨rfl, rfl⟩
        go_wp2_with fail
        go_quiet (fail)
        go_wp2_with fail
        go_ret
        exact ⟨rfl, H.out.drewN _, Only.drewN _ _ _⟩
    · obtain rfl : k = e0 := by omega
      have i0 : (0 : Int) ≤ (st.at_ : Int) := by omega
      have i1 : (st.at_ : Int) ≤ (k : Int) := by omega
      have i2 : (k : Int) ≤ (st.s.size : Int) := by omega
      go_wp2_with fail
      go_quiet (fail)
      go_wp2_with fail
      go_ret
      exact ⟨rfl, H.out.drewN _, Only.drewN _ _ _⟩
theorem ahead_digit (R : Nat) (st : RS) (e0 : Nat) (w : World) (h : Rd w R st) (hu : Upto Fld.digN st.s st.at_ e0) (hs : st.s.size ≤ 9223372036854775806) :
    Calls Tryz.prog 135 #[.pointer (some ⟨R, 0, none⟩), .func (.func 158) #[] #[]] w fun e w' => e = .returned (.string (st.s.extract st.at_ e0)) ∧ Rd w' R st ∧ Only R w w' := by
  have c1 := h.cell 4
  have c5 := h.cell 5
  simp only [RS.cells, List.getElem?_toArray, List.getElem?_cons_succ, List.getElem?_cons_zero] at c1 c5
  have H := Lib.hid h
  have HU := Lib.hid hu
  have hle := hu.le
  have hfit := hu.fit
  clear h hu
  go_enter Tryz.func135, Tryz.ntmps135
  go_wp2_with fail
  go_loop [5] (fun i => ∃ k : Nat, st.at_ ≤ k ∧ k ≤ e0 ∧ i = .int .i64 k) (fun i => e0 - (intOf i).toNat)
  case atStart => exact ⟨_, Nat.le_refl _, hle, rfl⟩
  case round =>
    obtain ⟨k, hk1, hk2, rfl⟩ := hrel
    by_cases hk : k < st.s.size
    · by_cases hlt : k < e0
      · have L := Lib.hid (fun w => digit_any st.s[k].toNat true (HU.out.yes k hk hk1 hlt) w)
        go_wp2_with fail
        refine (L.out _).mono ?_
        rintro e w1 ⟨rfl, rfl⟩
        go_wp2_with fail
        go_round
        case rel => exact ⟨k + 1, by omega, by omega, by go_num⟩
        case measure => simp [intOf]; omega
      · obtain rfl : k = e0 := by omega
        have L := Lib.hid (fun w => digit_any st.s[k].toNat false (HU.out.no hk) w)
        have i0 : (0 : Int) ≤ (st.at_ : Int) := by omega
        have i1 : (st.at_ : Int) ≤ (k : Int) := by omega
        have i2 : (k : Int) ≤ (st.s.size : Int) := by omega
        go_wp2_with fail
        refine (L.out _).mono ?_
        rintro e w1 ⟨rfl, rfl⟩
        go_wp2_with fail
        go_quiet (fail)
        go_wp2_with fail
        go_ret
        exact ⟨rfl, H.out.drewN _, Only.drewN _ _ _⟩
    · obtain rfl : k = e0 := by omega
      have i0 : (0 : Int) ≤ (st.at_ : Int) := by omega
      have i1 : (st.at_ : Int) ≤ (k : Int) := by omega
      have i2 : (k : Int) ≤ (st.s.size : Int) := by omega
      go_wp2_with fail
      go_quiet (fail)
      go_wp2_with fail
      go_ret
      exact ⟨rfl, H.out.drewN _, Only.drewN _ _ _⟩
end Go.Proofs.YtpnfifhanmpapaaGreatDoor
