/- Contracts of decimal and Number of package lex: which texts are decimal numbers, and which number a text says. -/
import Derived.Test.YtjlipkklljjdjaaDoorLexE
import Derived.Test.YtjlipkklljjdjaaDoorLexNum
import Derived.Lib.SmallJoins
import Derived.Lib.AtoiErrMem
namespace Go.Proofs.YtjlipkklljjdjaaDoor
open Go.ChangeShapes Go.RowKit Go.Shelf

/-- the bytes behind a minus -/
def dl (l : List UInt8) : List UInt8 := if l.head? = some 45 then l.drop 1 else l
def dgs (s : ByteArray) : ByteArray := if s.data.toList.head? = some 45 then s.extract 1 s.size else s
theorem dgs_list (s : ByteArray) : (dgs s).data.toList = dl s.data.toList := by
  unfold dgs dl
  split
  · exact Lib.extract_to_end s 1
  · rfl
theorem str_ext {a b : ByteArray} (h : a.data.toList = b.data.toList) : a = b := ByteArray.ext (Array.toList_inj.1 h)
theorem trim_dgs (s : ByteArray) : (⟨(Lib.trimPrefix s.data.toList (⟨#[45]⟩ : ByteArray).data.toList).toArray⟩ : ByteArray) = dgs s := by
  apply str_ext
  rw [dgs_list]
  unfold dl Lib.trimPrefix Lib.hasPrefix
  cases h : s.data.toList with
  | nil => simp
  | cons c r =>
    by_cases hc : c = 45
    · subst hc; simp
    · have h2 : ¬ (45 : UInt8) = c := fun e => hc e.symm
      simp [hc, h2]
/-- a decimal number -/
def Dec (l : List UInt8) : Prop := dl l ≠ [] ∧ Num.Dg (dl l) ∧ ((dl l).head? = some 48 → l = [48])
theorem all_dg (D : ByteArray) : AllB digB D ↔ Num.Dg D.data.toList := by
  constructor
  · intro h c hc
    obtain ⟨k, hk, e⟩ := List.getElem_of_mem hc
    have hk' : k < D.size := by rw [Lib.size_eq]; exact hk
    have q := Lib.data_getElem? D k hk'
    rw [List.getElem?_eq_getElem hk] at q
    have := (digB_iff _).1 (h k hk')
    rw [← e, Option.some.inj q]
    exact this
  · intro h k hk
    rw [digB_iff]
    refine h _ ?_
    exact List.mem_of_getElem? (Lib.data_getElem? D k hk)
theorem head_at (D : ByteArray) (h : 0 < D.size) : D.data.toList.head? = some D[0] := by
  rw [← Lib.data_getElem? D 0 h]
  cases D.data.toList <;> rfl
theorem head_48 (D : ByteArray) (h : 0 < D.size) : D.data.toList.head? = some 48 ↔ D[0].toNat = 48 := by
  rw [head_at D h]
  constructor
  · intro e; rw [Option.some.inj e]; rfl
  · intro e; rw [UInt8.toNat_inj.1 (show D[0].toNat = (48 : UInt8).toNat by rw [e]; rfl)]
theorem list_nil (D : ByteArray) : D.data.toList = [] ↔ D.size = 0 := by rw [Lib.size_eq]; exact List.length_eq_zero_iff.symm
theorem is_zero (s : ByteArray) (b : Bool) (h : (s.data.toList == [48]) = b) : (s.toList == [48]) = b ∧ (s.toList == (⟨#[48]⟩ : ByteArray).toList) = b := by
  have e : (⟨#[48]⟩ : ByteArray).toList = [48] := by rw [ByteArray.toList_eq]
  rw [e, ByteArray.toList_eq]
  exact ⟨h, h⟩

theorem decimal_any (s : ByteArray) (b : Bool) (hs : s.size ≤ 9223372036854775807) (h : (b = true ∧ Dec s.data.toList) ∨ (b = false ∧ ¬ Dec s.data.toList)) (w : World) :
    Calls Tryd.prog 44 #[.string s] w fun e w' => e = .returned (.bool b) ∧ w = w' := by
  have T := Tryd.strings_TrimPrefix s ⟨#[45]⟩
  rw [trim_dgs] at T
  have hd := dgs_list s
  have hsz : (dgs s).size ≤ s.size := by
    unfold dgs
    split
    · simp
    · exact Nat.le_refl _
  have hz : dgs s = s ∨ s.data.toList.head? = some 45 := by
    unfold dgs
    split
    · exact .inr ‹_›
    · exact .inl rfl
  generalize dgs s = D at *
  have T := Lib.hid T
  by_cases h0 : D.size = 0
  · have e0 := str_empty h0
    have e1 : D.toList.isEmpty = true := by rw [e0]; rfl
    have hn : ¬ Dec s.data.toList := fun q => q.1 (by rw [← hd]; exact (list_nil D).2 h0)
    have hb : (s.data.toList == [48]) = false := by
      rw [beq_eq_false_iff_ne]
      intro e
      rcases hz with rfl | q
      · rw [(list_nil D).2 h0] at e; simp at e
      · rw [e] at q; simp at q
    obtain ⟨q1, q2⟩ := is_zero s false hb
    obtain rfl : b = false := by rcases h with ⟨_, h⟩ | ⟨h, _⟩; exact (hn h).elim; exact h
    clear h hd hz hn hb h0
    go_enter Tryd.func44, Tryd.ntmps44
    go_wp2_with fail
    refine (T.out _).mono ?_
    rintro e w1 ⟨rfl, rfl⟩
    go_wp2_with fail
    go_ret
    exact ⟨rfl, rfl⟩
  · have hp : 0 < D.size := by omega
    have e1 := str_some (show 1 ≤ D.size by omega)
    have e0 : ¬ D.toList = [] := fun e => by rw [e] at e1; cases e1
    have h48 := head_48 D hp
    by_cases hc : D[0].toNat = 48
    · have t : ((D[0].toNat : Int) == 48) = true := by rw [beq_iff_eq]; omega
      have hb : (s.data.toList == [48]) = b := by
        rcases h with ⟨rfl, h⟩ | ⟨rfl, h⟩
        · rw [beq_iff_eq]
          exact h.2.2 (by rw [← hd]; exact h48.2 hc)
        · rw [beq_eq_false_iff_ne]
          intro e
          refine h ⟨?_, ?_, fun _ => e⟩
          · rw [e]; simp [dl]
          · rw [e]; intro x hx; simp [dl] at hx; subst hx; decide
      obtain ⟨q1, q2⟩ := is_zero s b hb
      clear h hd hz hb hc h48
      go_enter Tryd.func44, Tryd.ntmps44
      go_wp2_with fail
      refine (T.out _).mono ?_
      rintro e w1 ⟨rfl, rfl⟩
      go_wp2_with fail
      go_ret
      exact ⟨rfl, rfl⟩
    · have t : ((D[0].toNat : Int) == 48) = false := by rw [beq_eq_false_iff_ne]; omega
      have A : ∀ w, Calls Tryd.prog 47 #[.string D, .func (.func 71) #[] #[]] w fun e w' => e = .returned (.bool b) ∧ w = w' := by
        intro w
        rcases h with ⟨rfl, h⟩ | ⟨rfl, h⟩
        · exact all_digit_yes D (by omega) ((all_dg D).2 (by rw [hd]; exact h.2.1)) w
        · refine all_digit_no D (by omega) (fun q => h ⟨?_, by rw [← hd]; exact (all_dg D).1 q, ?_⟩) w
          · rw [← hd]; exact fun e => by have := (list_nil D).1 e; omega
          · rw [← hd]; exact fun e => (hc (h48.1 e)).elim
      have A := Lib.hid A
      clear h hd hz hc h48
      go_enter Tryd.func44, Tryd.ntmps44
      go_wp2_with fail
      refine (T.out _).mono ?_
      rintro e w1 ⟨rfl, rfl⟩
      go_wp2_with fail
      refine (A.out _).mono ?_
      rintro e w1 ⟨rfl, rfl⟩
      go_wp2_with fail
      go_ret
      exact ⟨rfl, rfl⟩

/-- what the program lays at its start, and is read here: strconv's table of the powers of ten, and its error of range -/
structure Lay (w : World) : Prop where
  tab : Lib.TabIs Tryd.prog w powName .u64 Lib.pow10Tab
  err : ∃ te pe, w.cell? ⟨2, 0, none⟩ = some (.iface te pe)
theorem Lay.below {w w' : World} (h : Lay w) (hb : Below w.heap.size w w') : Lay w' := by
  refine ⟨Go.Joins.tab_stays powNamed h.tab hb (Nat.le_refl _), ?_⟩
  obtain ⟨te, pe, hc⟩ := h.err
  exact ⟨te, pe, (hb.cell (p := ⟨2, 0, none⟩) (Lib.lt_of_cell hc)).trans hc⟩
theorem Lay.alloc {w : World} (h : Lay w) (o : Obj) : Lay (w.alloc o) := h.below ((Below.refl _ w).alloc (Nat.le_refl _) o)
theorem Lay.drewN {w : World} (h : Lay w) (n : Nat) : Lay (w.drewN n) := h.below (below_drewN _ _ _)

/-- the number v that a text says, and the error e -/
def NumIs (l : List UInt8) (v e : Int) : Prop :=
  (¬ Dec l ∧ v = 0 ∧ e = 10) ∨
  (Dec l ∧ l.head? = some 45 ∧ Num.val 0 (dl l) ≤ 9223372036854775808 ∧ v = -(Num.val 0 (dl l) : Nat) ∧ e = 0) ∨
  (Dec l ∧ ¬ l.head? = some 45 ∧ Num.val 0 (dl l) < 9223372036854775808 ∧ v = (Num.val 0 (dl l) : Nat) ∧ e = 0) ∨
  (Dec l ∧ ((l.head? = some 45 ∧ 9223372036854775808 < Num.val 0 (dl l)) ∨ (¬ l.head? = some 45 ∧ 9223372036854775808 ≤ Num.val 0 (dl l))) ∧ v = 0 ∧ e = 7)
theorem numIs_ex (l : List UInt8) : ∃ v e, NumIs l v e := by
  by_cases hd : Dec l
  · by_cases hn : l.head? = some 45
    · by_cases hv : Num.val 0 (dl l) ≤ 9223372036854775808
      · exact ⟨_, _, .inr (.inl ⟨hd, hn, hv, rfl, rfl⟩)⟩
      · exact ⟨_, _, .inr (.inr (.inr ⟨hd, .inl ⟨hn, by omega⟩, rfl, rfl⟩))⟩
    · by_cases hv : Num.val 0 (dl l) < 9223372036854775808
      · exact ⟨_, _, .inr (.inr (.inl ⟨hd, hn, hv, rfl, rfl⟩))⟩
      · exact ⟨_, _, .inr (.inr (.inr ⟨hd, .inr ⟨hn, by omega⟩, rfl, rfl⟩))⟩
  · exact ⟨_, _, .inl ⟨hd, rfl, rfl⟩⟩
theorem dl_neg {l : List UInt8} (h : l.head? = some 45) : l = 45 :: dl l := by
  unfold dl
  rw [if_pos h]
  cases l with
  | nil => simp at h
  | cons c r =>
    obtain rfl : c = 45 := by simpa using h
    rfl
theorem dl_pos {l : List UInt8} (h : ¬ l.head? = some 45) : dl l = l := by unfold dl; rw [if_neg h]
/-- what the library's reading of a decimal number gives -/
theorem parse_dec {l : List UInt8} (hd : Dec l) : Lib.parseIntB 64 l =
    if l.head? = some 45 then (if Num.val 0 (dl l) ≤ 9223372036854775808 then .ok (-(Num.val 0 (dl l) : Nat)) else .range)
    else (if Num.val 0 (dl l) < 9223372036854775808 then .ok (Num.val 0 (dl l) : Nat) else .range) := by
  by_cases hn : l.head? = some 45
  · rw [if_pos hn]
    have := Num.parse_neg (dl l) hd.2.1 hd.1
    rw [← dl_neg hn] at this
    exact this
  · rw [if_neg hn]
    have h1 := hd.1
    have h2 := hd.2.1
    rw [dl_pos hn] at h1 h2 ⊢
    exact Num.parse_pos l h2 h1
theorem below_parse {w w' : World} {e : TypeId} (h : w' = w ∨ ∃ t, w' = Lib.bytesWorld w e t) : Below w.heap.size w w' := by
  rcases h with rfl | ⟨t, rfl⟩
  · exact Below.refl _ _
  · exact Lib.bytesWorld_below _ _ _

theorem number_form (s : ByteArray) (hs : s.size ≤ 65536) (h : ¬ Dec s.data.toList) (w : World) :
    Calls Tryd.prog 22 #[.string s] w fun e w' => e = .returned (.tuple #[.int .i64 0, .int .i64 10]) ∧ Below w.heap.size w w' := by
  have D := Lib.hid (decimal_any s false (by omega) (.inr ⟨rfl, h⟩))
  clear h
  go_enter Tryd.func22, Tryd.ntmps22
  go_wp2_with fail
  refine (D.out _).mono ?_
  rintro e w1 ⟨rfl, rfl⟩
  go_wp2_with fail
  go_ret2
  exact ⟨rfl, Below.refl _ _⟩
theorem number_ok (s : ByteArray) (hs : s.size ≤ 65536) (h : Dec s.data.toList) (v : Int) (hv : Lib.parseIntB 64 s.data.toList = .ok v) (w : World) :
    Calls Tryd.prog 22 #[.string s] w fun e w' => e = .returned (.tuple #[.int .i64 v, .int .i64 0]) ∧ Below w.heap.size w w' := by
  have D := Lib.hid (decimal_any s true (by omega) (.inl ⟨rfl, h⟩))
  have P := Lib.hid (Tryd.strconv_ParseInt_10_at64_ok s (by omega) v hv)
  clear h hv
  go_enter Tryd.func22, Tryd.ntmps22
  go_wp2_with fail
  refine (D.out _).mono ?_
  rintro e w1 ⟨rfl, rfl⟩
  go_wp2_with fail
  refine (P.out _).mono ?_
  rintro e w1 ⟨rfl, hb⟩
  have HB := Lib.hid (below_parse hb)
  clear hb
  go_wp2_with fail
  go_ret2
  exact ⟨rfl, HB.out⟩
theorem number_over (s : ByteArray) (hs : s.size ≤ 65536) (h : Dec s.data.toList) (hv : Lib.parseIntB 64 s.data.toList = .range) (w : World) (L : Lay w) :
    Calls Tryd.prog 22 #[.string s] w fun e w' => e = .returned (.tuple #[.int .i64 0, .int .i64 7]) ∧ Below w.heap.size w w' := by
  have D := Lib.hid (decimal_any s true (by omega) (.inl ⟨rfl, h⟩))
  obtain ⟨te, pe, hc⟩ := L.err
  have P := Lib.hid (Tryd.strconv_ParseInt_10_at64_range s (by omega) hv _ w hc (.inr ⟨te, pe, rfl⟩))
  clear h hv hc L
  go_enter Tryd.func22, Tryd.ntmps22
  go_wp2_with fail
  refine (D.out _).mono ?_
  rintro e w1 ⟨rfl, rfl⟩
  go_wp2_with fail
  refine P.out.mono ?_
  rintro e w1 ⟨N, rfl, _, _, hb⟩
  have HB := Lib.hid hb
  clear hb
  go_wp2_with fail
  go_ret2
  exact ⟨rfl, HB.out⟩
theorem number_any (s : ByteArray) (hs : s.size ≤ 65536) (v e : Int) (h : NumIs s.data.toList v e) (w : World) (L : Lay w) :
    Calls Tryd.prog 22 #[.string s] w fun r w' => r = .returned (.tuple #[.int .i64 v, .int .i64 e]) ∧ Below w.heap.size w w' := by
  rcases h with ⟨h, rfl, rfl⟩ | ⟨h, hn, hv, rfl, rfl⟩ | ⟨h, hn, hv, rfl, rfl⟩ | ⟨h, hv, rfl, rfl⟩
  · exact number_form s hs h w
  · exact number_ok s hs h _ (by rw [parse_dec h, if_pos hn, if_pos hv]) w
  · exact number_ok s hs h _ (by rw [parse_dec h, if_neg hn, if_pos hv]) w
  · refine number_over s hs h ?_ w L
    rw [parse_dec h]
    rcases hv with ⟨hn, hv⟩ | ⟨hn, hv⟩
    · rw [if_pos hn, if_neg (by omega)]
    · rw [if_neg hn, if_neg (by omega)]
end Go.Proofs.YtjlipkklljjdjaaDoor
