/- Contract of the iterator over the words of a text, of package expr. Contracts of words and firstWords of package expr: the first seven words of a text, in a slice of the call's own. -/
import Derived.Test.YtpnfifhanmpapaaGreatDoorExpRn
import Derived.Test.YtpnfifhanmpapaaGreatDoorFldA
import Derived.RangeFuncNested
import Derived.RangeFuncBox
import Derived.RangeFuncLeaves
import Derived.Shelf.Abstract
import Derived.WalkKit
import Derived.OwnWalkIn
import Derived.TacticsInMore
import Derived.LoopNIn
import Derived.LoopIn
import Derived.Maps.AppendAt
import Derived.Sort.QuietIn
import Derived.Laws.Rows
/- Contract of the iterator over the words of a text, of package expr. -/
namespace Go.Proofs.YtpnfifhanmpapaaGreatDoor
open Go.ChangeShapes Go.WideShapes Go.RowKit Go.Shelf

/-- which block the slice in the variable in block B lies in -/
def arrOf (W : World) (B : Nat) : Option Nat := match W.cell? ⟨B, 0, none⟩ with
  | some v => v.ownBlock
  | none => none
theorem arrOf_same {A C : World} {B : Nat} (h : C.cell? ⟨B, 0, none⟩ = A.cell? ⟨B, 0, none⟩) : arrOf C B = arrOf A B := by unfold arrOf; rw [h]
/-- what a round keeps: all cells but those of the variable in block B, and of its slice -/
structure KW (B : Nat) (A C : World) : Prop where
  size : A.heap.size ≤ C.heap.size
  same : ∀ (b : Nat) (o : Obj), A.heap[b]? = some o → o.isCells = true → b ≠ B → arrOf A B ≠ some b → C.heap[b]? = some o
  arr : arrOf C B = arrOf A B ∨ ∃ g, arrOf C B = some g ∧ A.heap.size ≤ g
  lt : ∀ g, arrOf C B = some g → arrOf A B = some g ∨ g < C.heap.size
theorem KW.trans {B : Nat} {A C D : World} (h : KW B A C) (k : KW B C D) : KW B A D := by
  refine ⟨Nat.le_trans h.size k.size, fun b o hb hc hn ha => ?_, ?_, fun g hg => ?_⟩
  · refine k.same b o (h.same b o hb hc hn ha) hc hn fun e => ?_
    rcases h.arr with q | ⟨g, q, hg⟩
    · exact ha (q.symm.trans e)
    · rw [q] at e
      cases e
      have := (Array.getElem?_eq_some_iff.1 hb).1
      omega
  · rcases k.arr with q | ⟨g, q, hg⟩
    · rcases h.arr with p | ⟨g, p, hg⟩
      · exact .inl (q.trans p)
      · exact .inr ⟨g, q.trans p, hg⟩
    · exact .inr ⟨g, q, Nat.le_trans h.size hg⟩
  · rcases k.lt g hg with q | q
    · rcases h.lt g q with p | p
      · exact .inl p
      · exact .inr (Nat.lt_of_lt_of_le p k.size)
    · exact .inr q
/-- the text lies in block Bs, the variable in block B -/
structure ItW (s : ByteArray) (B Bs : Nat) (W : World) : Prop where
  str : W.heap[Bs]? = some (.cells #[.string s] 9 (0, 0))
  ne : Bs ≠ B
  lt : B < W.heap.size
  arr : ∀ g, arrOf W B = some g → g < W.heap.size ∧ g ≠ Bs
theorem ItW.cell {s : ByteArray} {B Bs : Nat} {W : World} (h : ItW s B Bs W) : W.cell? ⟨Bs, 0, none⟩ = some (.string s) := by
  simp only [World.cell?, h.str]
  rfl
theorem ItW.below {s : ByteArray} {B Bs : Nat} {W W' : World} (h : ItW s B Bs W) (hb : Below W.heap.size W W') : ItW s B Bs W' := by
  have e := arrOf_same (B := B) (hb.cell (p := ⟨B, 0, none⟩) h.lt)
  exact ⟨(hb.block _ (Array.getElem?_eq_some_iff.1 h.str).1).trans h.str, h.ne, Nat.lt_of_lt_of_le h.lt hb.size, fun g hg => by
    rw [e] at hg
    have := h.arr g hg
    exact ⟨Nat.lt_of_lt_of_le this.1 hb.size, this.2⟩⟩
theorem ItW.round {s : ByteArray} {B Bs : Nat} {W W' : World} (h : ItW s B Bs W) (k : KW B W W') : ItW s B Bs W' := by
  have hs := (Array.getElem?_eq_some_iff.1 h.str).1
  refine ⟨k.same _ _ h.str rfl h.ne fun e => (h.arr _ e).2 rfl, h.ne, Nat.lt_of_lt_of_le h.lt k.size, fun g hg => ⟨?_, ?_⟩⟩
  · rcases k.lt g hg with q | q
    · exact Nat.lt_of_lt_of_le (h.arr g q).1 k.size
    · exact q
  · rcases k.arr with q | ⟨g', q, hg'⟩
    · exact (h.arr g (q.symm.trans hg)).2
    · rw [q] at hg
      cases hg
      omega
/-- what has come, and what is left of the text -/
structure ItI (s R : ByteArray) (pre : List (Nat × List UInt8)) : Prop where
  le : R.size ≤ s.size
  eq : pre ++ Lex.wq Exp.isBl (s.size - R.size) [] R.data.toList = Exp.words s.data.toList
  hd : ∀ c t, R.data.toList = c :: t → Exp.isBl c = false
theorem trimL_size (R : ByteArray) : (trimL R).size ≤ R.size := by
  rw [Lib.size_eq, Lib.size_eq, trimL_list]
  exact (List.dropWhile_suffix _).length_le
theorem trimL_hd (R : ByteArray) : ∀ c t, (trimL R).data.toList = c :: t → Exp.isBl c = false := by
  intro c t h
  rw [trimL_list] at h
  cases e : Exp.isBl c with
  | false => rfl
  | true =>
    have q := List.head?_dropWhile_not (p := Exp.isBl) (l := R.data.toList)
    rw [h] at q
    simp [e] at q
theorem ItI.start (s : ByteArray) : ItI s (trimL s) [] := by
  refine ⟨trimL_size s, ?_, trimL_hd s⟩
  rw [List.nil_append, trimL_list]
  unfold Exp.words
  rw [Lex.wq_trim _ s.data.toList 0, Lib.size_eq, Lib.size_eq, trimL_list, Nat.zero_add]
theorem ItI.done {s R : ByteArray} {pre : List (Nat × List UInt8)} (h : ItI s R pre) (h0 : R.size = 0) : pre = Exp.words s.data.toList := by
  have e := h.eq
  have : R.data.toList = [] := List.length_eq_zero_iff.1 (by rw [← Lib.size_eq]; exact h0)
  rw [this] at e
  simpa [Lex.wq] using e
/-- a word T of f bytes at the head of R -/
structure WordAt (R T : ByteArray) (f : Nat) : Prop where
  le : f ≤ R.size
  pos : 1 ≤ f
  sz : T.size = f
  is : T.data.toList = R.data.toList.take f
  no : ∀ c ∈ R.data.toList.take f, Exp.isBl c = false
  end_ : R.data.toList.drop f = [] ∨ ∃ c t, R.data.toList.drop f = c :: t ∧ Exp.isBl c = true
theorem ext_drop (R : ByteArray) (f : Nat) : (R.extract f R.size).data.toList = R.data.toList.drop f := by
  rw [ByteArray.data_extract]
  simp only [Array.toList_extract]
  rw [List.extract_eq_take_drop]
  exact List.take_of_length_le (by rw [List.length_drop, ← Lib.size_eq]; omega)
theorem ext_take (R : ByteArray) (f : Nat) : (R.extract 0 f).data.toList = R.data.toList.take f := by
  rw [ByteArray.data_extract]
  simp
theorem ItI.step {s R T : ByteArray} {f : Nat} {pre : List (Nat × List UInt8)} (h : ItI s R pre) (t : WordAt R T f) : pre.length < (Exp.words s.data.toList).length ∧ ItI s (trimL (R.extract f R.size)) (pre ++ [(s.size - R.size, T.data.toList)]) ∧ (trimL (R.extract f R.size)).size < R.size := by
  have e := h.eq
  have l1 := Lex.wq_step Exp.isBl R.data.toList f (by rw [← Lib.size_eq]; exact t.le) t.pos t.no t.end_ (s.size - R.size)
  have ex : (R.extract f R.size).size = R.size - f := by rw [ByteArray.size_extract]; omega
  have tl := trimL_size (R.extract f R.size)
  have := h.le
  have := t.le
  have := t.pos
  refine ⟨?_, ⟨by omega, ?_, trimL_hd _⟩, by omega⟩
  · rw [← e, l1]
    simp
  · rw [← e, l1, ← t.is, List.append_assoc, List.singleton_append, trimL_list, ext_drop]
    congr 2
    rw [Lex.wq_trim _ (R.data.toList.drop f)]
    congr 1
    rw [Lib.size_eq (trimL _), trimL_list, ext_drop, List.length_drop, ← Lib.size_eq]
    have q : (trimL (R.extract f R.size)).size = (List.dropWhile Exp.isBl (R.data.toList.drop f)).length := by rw [Lib.size_eq, trimL_list, ext_drop]
    omega
theorem word_bl {s R : ByteArray} {pre : List (Nat × List UInt8)} (h : ItI s R pre) {f : Nat} (hf : BlAt R f) : WordAt R (R.extract 0 f) f := by
  have hl := hf.lt
  obtain ⟨n, c, t, e, b⟩ := bl_take hf
  refine ⟨by omega, ?_, by rw [ByteArray.size_extract]; omega, ext_take R f, n, .inr ⟨c, t, e, b⟩⟩
  cases f with
  | zero =>
    rw [List.drop_zero] at e
    have := h.hd c t e
    rw [b] at this
    cases this
  | succ f => omega
theorem word_all {R : ByteArray} (h0 : 0 < R.size) (hn : ∀ (j : Nat) b, R.data.toList[j]? = some b → b ≠ 32 ∧ b ≠ 9) : WordAt R R R.size := by
  have e : R.data.toList.take R.size = R.data.toList := List.take_of_length_le (by rw [Lib.size_eq]; omega)
  refine ⟨Nat.le_refl _, h0, rfl, e.symm, ?_, .inl (List.drop_of_length_le (by rw [Lib.size_eq]; omega))⟩
  rw [e]
  exact bl_none hn
theorem pre_prefix {s R R' : ByteArray} {pre : List (Nat × List UInt8)} {x : Nat × List UInt8} (_ : ItI s R pre) (k : ItI s R' (pre ++ [x])) : pre ++ [x] <+: Exp.words s.data.toList := ⟨_, k.eq⟩
/-- a block that was made since is neither the variable's nor its slice's -/
theorem own_not {s : ByteArray} {B Bs : Nat} {W W' : World} (h : ItW s B Bs W) (hb : Below W.heap.size W W') : W.heap.size ≠ B ∧ arrOf W' B ≠ some W.heap.size := by
  have e := arrOf_same (B := B) (hb.cell (p := ⟨B, 0, none⟩) h.lt)
  refine ⟨by have := h.lt; omega, fun q => ?_⟩
  rw [e] at q
  have := (h.arr _ q).1
  omega
theorem stored_word {w W : World} {p : Int} {R T : ByteArray} {t : TypeId} (hx : W.heap[w.heap.size]? = some (.cells #[.int .i64 p, .string R] t (0, 0))) (hb : Below w.heap.size w W) :
    ∃ V, V = W.setCell ⟨w.heap.size, 1, none⟩ (.string T) ∧ V.cell? ⟨w.heap.size, 0, none⟩ = some (.int .i64 p) ∧ V.cell? ⟨w.heap.size, 1, none⟩ = some (.string T) ∧ V.heap[w.heap.size]? = some (.cells #[.int .i64 p, .string T] t (0, 0)) ∧ Below w.heap.size w V := by
  have e : (W.setCell ⟨w.heap.size, 1, none⟩ (.string T)).heap[w.heap.size]? = some (.cells #[.int .i64 p, .string T] t (0, 0)) := by
    rw [heap_setCell_same W _ 1 _ t _ hx]
    rfl
  refine ⟨_, rfl, ?_, ?_, e, hb.setCell (p := ⟨w.heap.size, 1, none⟩) (Nat.le_refl _) _⟩
  · simp only [World.cell?, e]; rfl
  · simp only [World.cell?, e]; rfl
/-- a word as it is yielded -/
def wdV (x : Nat × List UInt8) : Value := .agg #[.int .i64 (x.1 : Nat), .string ⟨x.2.toArray⟩]
/-- how long a text is -/
def strSz : Value → Nat
  | .string x => x.size
  | _ => 0

section
attribute [local go_sem] Oper.semAt_some
set_option maxRecDepth 100000 in
set_option maxHeartbeats 4000000 in
theorem words_iter (n : Nat) (hn : 1 ≤ n) (l B Bs : Nat) (s : ByteArray) (hs : s.size ≤ 100000) (J Jx : List (Nat × List UInt8) → World → Prop) (hJ : ∀ pre A C, J pre A → Below A.heap.size A C → J pre C)
    (hY : ∀ pre x W, J pre W → pre.length < (Exp.words s.data.toList).length → YieldAt Fence.wide (n - 1) Tryz.prog l #[wdV x] W fun e W' =>
      (e = .returned (.bool true) ∧ J (pre ++ [x]) W' ∧ KW B W W') ∨ (e = .returned (.bool false) ∧ Jx (pre ++ [x]) W'))
    (W : World) (hW : ItW s B Bs W) (h0 : J [] W) :
    CallsIn Fence.wide n Tryz.prog 111 #[.func (.yield l) #[] #[], .pointer (some ⟨Bs, 0, none⟩)] W fun e W' => (∃ v, e = .returned v) ∧
      ((∃ ys, ys = Exp.words s.data.toList ∧ J ys W') ∨ (∃ pre, pre <+: Exp.words s.data.toList ∧ Jx pre W')) := by
  have HY := Lib.hid hY
  have HJ := Lib.hid hJ
  have c0 := hW.cell
  have HW := Lib.hid hW
  clear hY hJ hW
  refine callsIn_of_wp Tryz.func111 rfl trivial ?_ rfl
  simp only [Tryz.ntmps111, List.size_toArray, List.length_cons, List.length_nil, Nat.reduceAdd, Nat.reduceSub, Array.replicate_succ, Array.replicate_zero, List.push_toArray, List.append_toArray, List.nil_append, List.cons_append]
  gi_wp2_with (refine ⟨trivial, ?_⟩; gi_at_call 112; refine (callsIn_wide.2 (trim_left _ _)).mono ?_; rintro e w1 ⟨rfl, hb⟩)
  have H1 := Lib.hid (HW.out.below hb)
  have j1 := HJ.out _ _ _ h0 hb
  obtain ⟨R0, hR0⟩ : ∃ R0, trimL s = R0 := ⟨_, rfl⟩
  have I0 := ItI.start s
  rw [hR0] at I0 ⊢
  have I0 := Lib.hid I0
  clear hb hR0 HW c0 h0
  gi_loopw [3] (fun r wr => ∃ (R : ByteArray) (pre : List (Nat × List UInt8)), r = .string R ∧ Hid (ItI s R pre) ∧ Hid (ItW s B Bs wr) ∧ J pre wr) (fun r _ => strSz r)
  case atStart => exact ⟨R0, [], rfl, I0, H1, j1⟩
  case round =>
    obtain ⟨R, pre, rfl, hi, hw, hj⟩ := hrel
    have c0 := hw.out.cell
    have HJ1 := Lib.hid hj
    clear hj
    have le := hi.out.le
    by_cases z : R.size = 0
    · have e1 : R.toList = [] := List.length_eq_zero_iff.1 (by rw [ByteArray.toList_eq]; rw [Lib.size_eq] at z; exact z)
      have e2 : (R.toList != []) = false := by rw [e1]; rfl
      have e3 : R.toList.isEmpty = true := by rw [e1]; rfl
      have D := Lib.hid (hi.out.done z)
      clear z le
      gi_wp2
      go_end0
      exact ⟨⟨_, rfl⟩, .inl ⟨_, D.out, HJ1.out⟩⟩
    · have e1 : R.toList ≠ [] := fun e => z (by rw [ByteArray.toList_eq] at e; rw [Lib.size_eq, e]; rfl)
      have e2 : (R.toList != []) = true := by simpa using e1
      have e3 : R.toList.isEmpty = false := by simpa using e1
      obtain ⟨p, hp⟩ : ∃ p, s.size - R.size = p := ⟨_, rfl⟩
      have hpi : (s.size : Int) - (R.size : Int) = (p : Int) := by omega
      have wpi : IntKind.i64.wrap ((s.size : Int) - (R.size : Int)) = (p : Int) := by rw [hpi, IntKind.wrap_i64]; omega
      rcases bl_or R with hno | ⟨f, hf⟩
      · have wa := word_all (by omega) hno
        have st := hi.out.step wa
        have ex : R.extract R.size R.size = ByteArray.empty := by
          apply ByteArray.ext
          rw [ByteArray.data_extract]
          simp [← ByteArray.size_data]
        rw [ex] at st
        clear ex
        rw [hp] at st
        have PX := Lib.hid (pre_prefix hi.out st.2.1)
        have ST := Lib.hid st
        have AN := Lib.hid (fun w => any_all R (by omega) hno w)
        have hp2 := Lib.hid hp
        clear st wa hno hp
        gi_wp2_with fail
        refine ⟨trivial, ?_⟩
        gi_at_call 67
        refine (callsIn_wide.2 (AN.out _)).mono ?_
        rintro e w1 ⟨rfl, hb⟩
        obtain ⟨kc, kf⟩ := kept hb
        have m0 : w1.cell? ⟨wr.heap.size, 0, none⟩ = some (.int .i64 p) := (kc _ _ (by simp)).trans (by simp [go_sem])
        have m1 : w1.cell? ⟨wr.heap.size, 1, none⟩ = some (.string R) := (kc _ _ (by simp)).trans (by simp [go_sem])
        have BX := Lib.hid ((hb.block wr.heap.size (by simp)).trans (World.alloc_heap_new wr _))
        have BW : Below wr.heap.size wr w1 := ((Below.refl _ wr).alloc (Nat.le_refl _) _).trans (hb.mono (by simp))
        have HWB := Lib.hid (own_not hw.out BW)
        clear kc kf hb
        have j1 := HJ.out _ _ _ HJ1.out BW
        obtain ⟨fn, tmps, assign, body, hy, hR⟩ := HY.out pre (p, R.data.toList) w1 j1 ST.out.1
        unfold wdV at hy
        dsimp only at hy
        rw [show (⟨R.data.toList.toArray⟩ : ByteArray) = R from rfl] at hy
        have HW1 := Lib.hid (hw.out.below BW)
        clear j1 BW
        gi_wp2
        refine hR.mono ?_
        rintro e W3 (⟨rfl, hJ3, hk3⟩ | ⟨rfl, hJx3⟩)
        · have ne := HWB.out
          have b0 : W3.cell? ⟨wr.heap.size, 0, none⟩ = some (.int .i64 p) := by
            rw [World.cell?_of_block (a := ⟨wr.heap.size, 0, none⟩) (w := w1) ((hk3.same _ _ BX.out rfl ne.1 ne.2).trans BX.out.symm)]
            exact m0
          have b1 : W3.cell? ⟨wr.heap.size, 1, none⟩ = some (.string R) := by
            rw [World.cell?_of_block (a := ⟨wr.heap.size, 1, none⟩) (w := w1) ((hk3.same _ _ BX.out rfl ne.1 ne.2).trans BX.out.symm)]
            exact m1
          have HW3 := Lib.hid (HW1.out.round hk3)
          have HJ3 := Lib.hid hJ3
          clear hk3 hJ3 m0 m1
          gi_wp2_with fail
          refine ⟨trivial, ?_⟩
          gi_at_call 112
          refine (callsIn_wide.2 (trim_left _ _)).mono ?_
          rintro e w4 ⟨rfl, hb⟩
          have jf := HJ.out _ _ _ HJ3.out hb
          have hf := HW3.out.below hb
          clear hb b0 b1
          gi_wp2
          go_roundw
          case rel => exact ⟨_, _, rfl, Lib.hid ST.out.2.1, Lib.hid hf, jf⟩
          case measure => exact ST.out.2.2
        · gi_wp2
          refine bodyPost_ret (results_none rfl _ _ _) rfl ?_
          exact ⟨⟨_, rfl⟩, .inr ⟨_, PX.out, hJx3⟩⟩
      · have wa := word_bl hi.out hf
        have st := hi.out.step wa
        rw [hp] at st
        have PX := Lib.hid (pre_prefix hi.out st.2.1)
        have ST := Lib.hid st
        have AN := Lib.hid (fun w => any_at R (by omega) f hf w)
        have hp2 := Lib.hid hp
        have fl := hf.lt
        have f0 : (0 : Int) ≤ (f : Int) := by omega
        have f1 : (f : Int) ≤ (R.size : Int) := by omega
        have f2 : f ≤ R.size := by omega
        have tz : (R.extract 0 f).size = f := wa.sz
        obtain ⟨X, hX⟩ : ∃ X, R.extract 0 f = X := ⟨_, rfl⟩
        rw [hX] at tz ST PX
        clear st wa hf hp
        gi_wp2_with fail
        refine ⟨trivial, ?_⟩
        gi_at_call 67
        refine (callsIn_wide.2 (AN.out _)).mono ?_
        rintro e w1 ⟨rfl, hb⟩
        obtain ⟨kc, kf⟩ := kept hb
        have n0 : w1.cell? ⟨wr.heap.size, 0, none⟩ = some (.int .i64 p) := (kc _ _ (by simp)).trans (by simp [go_sem])
        have n1 : w1.cell? ⟨wr.heap.size, 1, none⟩ = some (.string R) := (kc _ _ (by simp)).trans (by simp [go_sem])
        have g1 : w1.frozen? ⟨wr.heap.size, 1, none⟩ = false := (kf _ _ (by simp)).trans (by simp [go_sem])
        have BX1 := (hb.block wr.heap.size (by simp)).trans (World.alloc_heap_new wr _)
        have BW1 : Below wr.heap.size wr w1 := ((Below.refl _ wr).alloc (Nat.le_refl _) _).trans (hb.mono (by simp))
        obtain ⟨w2, hw2, m0, m1, BX, BW⟩ := stored_word (T := X) BX1 BW1
        have BX := Lib.hid BX
        have HWB := Lib.hid (own_not hw.out BW)
        have HS := Lib.hid hw2
        clear kc kf hb BX1 BW1 hw2
        gi_wp2_with fail
        rw [← HS.out]
        clear n0 n1 g1 HS
        have j1 := HJ.out _ _ _ HJ1.out BW
        obtain ⟨fn, tmps, assign, body, hy, hR⟩ := HY.out pre (p, X.data.toList) w2 j1 ST.out.1
        unfold wdV at hy
        dsimp only at hy
        rw [show (⟨X.data.toList.toArray⟩ : ByteArray) = X from rfl] at hy
        have HW1 := Lib.hid (hw.out.below BW)
        clear j1 BW
        rw [hy]
        simp only [Oper.uponIn]
        refine ⟨fun _ => hn, ?_⟩
        refine hR.mono ?_
        rintro e W3 (⟨rfl, hJ3, hk3⟩ | ⟨rfl, hJx3⟩)
        · have ne := HWB.out
          have b0 : W3.cell? ⟨wr.heap.size, 0, none⟩ = some (.int .i64 p) := by
            rw [World.cell?_of_block (a := ⟨wr.heap.size, 0, none⟩) (w := w2) ((hk3.same _ _ BX.out rfl ne.1 ne.2).trans BX.out.symm)]
            exact m0
          have b1 : W3.cell? ⟨wr.heap.size, 1, none⟩ = some (.string X) := by
            rw [World.cell?_of_block (a := ⟨wr.heap.size, 1, none⟩) (w := w2) ((hk3.same _ _ BX.out rfl ne.1 ne.2).trans BX.out.symm)]
            exact m1
          have HW3 := Lib.hid (HW1.out.round hk3)
          have HJ3 := Lib.hid hJ3
          clear hk3 hJ3 m0 m1
          gi_wp2_with fail
          refine ⟨trivial, ?_⟩
          gi_at_call 112
          refine (callsIn_wide.2 (trim_left _ _)).mono ?_
          rintro e w4 ⟨rfl, hb⟩
          have jf := HJ.out _ _ _ HJ3.out hb
          have hf := HW3.out.below hb
          clear hb b0 b1
          gi_wp2
          go_roundw
          case rel => exact ⟨_, _, rfl, Lib.hid ST.out.2.1, Lib.hid hf, jf⟩
          case measure => exact ST.out.2.2
        · gi_wp2
          refine bodyPost_ret (results_none rfl _ _ _) rfl ?_
          exact ⟨⟨_, rfl⟩, .inr ⟨_, PX.out, hJx3⟩⟩
end
end Go.Proofs.YtpnfifhanmpapaaGreatDoor
/- Contracts of words and firstWords of package expr: the first seven words of a text, in a slice of the call's own. -/
namespace Go.Proofs.YtpnfifhanmpapaaGreatDoor
open Go.ChangeShapes Go.WideShapes Go.RowKit Go.Shelf

/-- where the result of an append lies -/
theorem append_place {w : World} (base : Nat) (t ty e : TypeId) (i : TypeInfo) (z : Value) (size bytes : Nat) (ht : Tryz.prog.underlying t = some (.slice e)) (hi : Tryz.prog.info? e = some i) (hz : i.zero = some z) (hsize : i.size = size) (hby : i.bytes = bytes)
    (v : Value) (n : Nat) (xs : List Value) (hown : w.ownsRow base e size v n xs) (a : Addr) (m c : Nat) (hm : 0 < m) (news : List Value) (hl : news.length = m * size) (hnews : ∀ j u, news[j]? = some u → w.cell? (a.add j) = some u) (h1 : ∀ u ∈ news, u.oneCell' = true)
    (h63 : n + m ≤ maxLen) (hbytes : (n + m) * bytes ≤ 140737488355328) {v' : Value} {w' : World} (hr : (Builtin.append_ #[t, t] ty #[v, .slice (some a) m c]).run Tryz.prog w = .ok v' w') : v'.ownBlock = v.ownBlock ∨ v'.ownBlock = some w.heap.size := by
  subst hsize hby
  have hs : n + m ≤ 9223372036854775807 := by simp only [maxLen] at h63; omega
  rcases hown.2 with ⟨rfl, rfl⟩ | ⟨g, cap, cur, rfl, _, hg, _, _, hcs, _⟩
  · rw [run_append_nil (P := Tryz.prog) w t ty e i z ht hi hz a m c news hl hnews hm (by omega) (by rw [Nat.zero_add] at hbytes; omega)] at hr
    cases hr
    exact .inr rfl
  · by_cases room : n + m ≤ cap
    · rw [run_append_room (P := Tryz.prog) w t ty e i ht hi g n cap cur hg a m c news hl hnews h1 room (by rw [hl, hcs, ← Nat.add_mul]; exact Nat.mul_le_mul_right _ room)] at hr
      cases hr
      exact .inl rfl
    · rw [run_append_grow (P := Tryz.prog) w t ty e i z ht hi hz ⟨g, 0, none⟩ n cap xs hown.1 (hown.cells (g := g) rfl) a m c news hl hnews (by omega) (by omega) (growslice_fits (by omega) hbytes)] at hr
      cases hr
      exact .inr rfl
theorem append_in {F : Fence} {n : Nat} (w : World) {ops : Array Oper} {rest : List Oper} {o : Oper} {a : Act} {Q : Exit → Act → World → Prop}
    (hg : o.guard = none) (s x : Operand) (t : TypeId) (hop : o.op = Op.call { callee := Callee.builtin Builtin.append, args := #[s, x], argTypes := #[t, t] })
    (base : Nat) (e : TypeId) (i : TypeInfo) (z : Value) (size bytes : Nat) (h1 : Tryz.prog.underlying t = some (.slice e)) (h2 : Tryz.prog.info? e = some i) (h3 : i.zero = some z) (h4 : i.size = size) (h5 : i.bytes = bytes) (h6 : z.cells.size = size) (h7 : 0 < size)
    (v : Value) (k : Nat) (xs : List Value) (hs : a.eval s = v) (hown : w.ownsRow base e size v k xs) (ad : Addr) (m c : Nat) (hm : 0 < m) (news : List Value) (hx : a.eval x = .slice (some ad) m c) (hn : news.length = m * size)
    (hc : ∀ j u, news[j]? = some u → w.cell? (ad.add j) = some u) (h1c : ∀ u ∈ news, u.oneCell' = true) (b1 : k + m ≤ maxLen) (b2 : (k + m) * bytes ≤ 140737488355328) (b3 : base ≤ w.heap.size)
    (hK : ∀ v' w', w'.ownsRow base e size v' (k + m) (xs ++ news) → w.grownBy w' v.ownBlock → (v'.ownBlock = v.ownBlock ∨ v'.ownBlock = some w.heap.size) → wpListIn F n Tryz.prog ops Q rest (a.put o.dst v') w') :
    wpListIn F n Tryz.prog ops Q (o :: rest) a w := by
  refine wpListIn_plain hg fun K hK' => ?_
  obtain ⟨v', w', hrun, r1, r2, _⟩ := run_append_own (P := Tryz.prog) w base t o.type e i z size bytes h1 h2 h3 h4 h5 h6 h7 v k xs hown ad m c news hn hc h1c b1 b2 b3
  have pl := append_place base t o.type e i z size bytes h1 h2 h3 h4 h5 v k xs hown ad m c hm news hn hc h1c b1 b2 hrun
  unfold Oper.wpIn
  refine ⟨?_, ?_⟩
  · simp [Oper.about, hop, resolve, Target.leads, Sem.run_pure]
  · rw [Oper.semAt_plain F _ _ (by rw [hop]; intro c hc'; cases hc')]
    simp [execOp, hop, resolve, invoke, builtin, hs, hx, hrun, Result.andThen]
    exact hK' _ _ (hK v' w' r1 r2 pl)

/-- the cells of words -/
def flatX (l : List (Nat × List UInt8)) : List Value := l.flatMap fun x => [.int .i64 (x.1 : Nat), .string ⟨x.2.toArray⟩]
theorem flatX_len (l : List (Nat × List UInt8)) : (flatX l).length = l.length * 2 := by
  induction l with
  | nil => rfl
  | cons r l ih => simp [flatX] at ih ⊢; omega
theorem flatX_snoc (l : List (Nat × List UInt8)) (x : Nat × List UInt8) : flatX (l ++ [x]) = flatX l ++ [.int .i64 (x.1 : Nat), .string ⟨x.2.toArray⟩] := by simp [flatX]
theorem flatX_at : ∀ (l : List (Nat × List UInt8)) (k : Nat) (h : k < l.length), (flatX l)[k * 2]? = some (.int .i64 (l[k].1 : Nat)) ∧ (flatX l)[k * 2 + 1]? = some (.string ⟨l[k].2.toArray⟩)
  | x :: r, 0, _ => ⟨rfl, rfl⟩
  | x :: r, k + 1, h => by
    have ih := flatX_at r k (by simpa using h)
    have e1 : (k + 1) * 2 = k * 2 + 2 := by omega
    have e2 : (k + 1) * 2 + 1 = k * 2 + 1 + 2 := by omega
    rw [e2, e1]
    simpa [flatX] using ih
theorem infoWordX : (Tryz.prog.info? 86).map (fun i => (i.zero, i.size, i.bytes)) = some (some (.agg #[.int .i64 0, .string ⟨#[]⟩]), 2, 24) := by kernel_rfl
theorem cell_two_new (w : World) (x y : Value) (t : TypeId) : ∀ j c, [x, y][j]? = some c → (w.alloc (.cells #[x, y] t)).cell? ((⟨w.heap.size, 0, none⟩ : Addr).add j) = some c := by
  intro j c hj
  rw [add_flat]
  match j, hj with
  | 0, hj => simp at hj; subst hj; simp [go_sem]
  | 1, hj => simp at hj; subst hj; simp [go_sem]
theorem words_make (s : ByteArray) (w : World) :
    Calls Tryz.prog 73 #[.string s] w fun e w' => e = .returned (.func (.func 111) #[] #[.pointer (some ⟨w.heap.size, 0, none⟩)]) ∧ w.alloc (.cells #[.string s] 9) = w' := by
  go_enter Tryz.func73, Tryz.ntmps73
  go_wp2
  go_ret
  exact ⟨rfl, rfl⟩
theorem words_stops (n : Nat) (hn : 1 ≤ n) (B Bs : Nat) (s : ByteArray) (hs : s.size ≤ 100000) (w : World) (hW : ItW s B Bs w) :
    SeqStopsK Fence.wide n Tryz.prog 111 #[.pointer (some ⟨Bs, 0, none⟩)] (fun x => #[wdV x]) (KW B) (fun ys => ys = Exp.words s.data.toList) (fun pre => pre <+: Exp.words s.data.toList) (Exp.words s.data.toList).length w := fun l J Jx W hb hJ _ hY h0 =>
  words_iter n hn l B Bs s hs (fun pre A => J pre A) Jx (fun pre A C hj hb => hJ pre A C none hj ⟨hb.os, hb.tape, hb.output, hb.size, fun k hk _ => hb.block k hk⟩ (fun r e => by cases e)) hY W (hW.below hb) h0
theorem kw_put {B : Nat} {w : World} (hB : B < w.heap.size) : ∀ (W : World) (l : Nat) (o o' : Obj), w.heap.size ≤ l → W.heap[l]? = some o → o.isCells = false → o.isWalk = false → KW B W (W.putObj l o') := by
  intro W l o o' hl ho hc _
  have e : arrOf (W.putObj l o') B = arrOf W B := arrOf_same (World.cell?_of_block (a := ⟨B, 0, none⟩) (World.putObj_heap_other (show B ≠ l by omega)))
  refine ⟨by simp, fun b q hb hq _ _ => ?_, .inl e, fun g hg => .inl (by rw [← e]; exact hg)⟩
  have : b ≠ l := by
    rintro rfl
    rw [ho] at hb
    cases hb
    rw [hc] at hq
    cases hq
  exact (World.putObj_heap_other this).trans hb
/-- what firstWords' own variables hold -/
def FwI (w : World) (pre : List (Nat × List UInt8)) (W : World) : Prop :=
  (∃ v, Boxed W (w.heap.size + 1) 83 v ∧ W.ownsRow w.heap.size 86 2 v pre.length (flatX pre) ∧ True) ∧ Boxed W w.heap.size 3 (.int .i64 7) ∧ Below w.heap.size w W
theorem fwI_own {w : World} (B : Nat) (hB : w.heap.size ≤ B) : OwnFrom B (FwI w) :=
  OwnFrom.and (Own.from (holdsRow_own w.heap.size (w.heap.size + 1) 83 86 2 (fun pre : List (Nat × List UInt8) => pre.length) (fun pre => flatX pre) (fun _ _ => True)) _) (OwnFrom.and (Own.from (boxed_own _ _ _) _) (ownFrom_below (Nat.le_refl _) hB))
theorem kw_alloc {B : Nat} (W : World) (hB : B < W.heap.size) (o : Obj) : KW B W (W.alloc o) := by
  have e : arrOf (W.alloc o) B = arrOf W B := arrOf_same (World.cell?_of_block (a := ⟨B, 0, none⟩) (Below.heap_alloc _ _ _ hB))
  exact ⟨by simp, fun b q hb _ _ _ => (Below.heap_alloc _ _ _ (Array.getElem?_eq_some_iff.1 hb).1).trans hb, .inl e, fun g hg => .inl (by rw [← e]; exact hg)⟩
/-- one word more -/
theorem fw_step {w W w1 : World} {v v' : Value} {pre : List (Nat × List UInt8)} {x : Nat × List UInt8} {tmp : Obj} (hv : Boxed W (w.heap.size + 1) 83 v) (hrow : W.ownsRow w.heap.size 86 2 v pre.length (flatX pre)) (h7 : Boxed W w.heap.size 3 (.int .i64 7)) (hB : Below w.heap.size w W)
    (hown : w1.ownsRow w.heap.size 86 2 v' (pre.length + 1) (flatX pre ++ [.int .i64 (x.1 : Nat), .string ⟨x.2.toArray⟩])) (hgrow : (W.alloc tmp).grownBy w1 v.ownBlock) (hpl : v'.ownBlock = v.ownBlock ∨ v'.ownBlock = some (W.alloc tmp).heap.size) :
    Boxed w1 (w.heap.size + 1) 83 v ∧ KeepsOthers W (w1.setCell ⟨w.heap.size + 1, 0, none⟩ v') ∧ KW (w.heap.size + 1) W (w1.setCell ⟨w.heap.size + 1, 0, none⟩ v') ∧ FwI w (pre ++ [x]) (w1.setCell ⟨w.heap.size + 1, 0, none⟩ v') := by
  obtain ⟨hv1, hv2, hr2, hk2, hb2⟩ := hv.appended (by decide) hrow hB.size (by omega) hown hgrow
  have e0 : arrOf W (w.heap.size + 1) = v.ownBlock := by unfold arrOf; rw [hv.cell]
  have e1 : arrOf (w1.setCell ⟨w.heap.size + 1, 0, none⟩ v') (w.heap.size + 1) = v'.ownBlock := by unfold arrOf; rw [hv2.cell]
  have z0 : W.heap.size ≤ w1.heap.size := by have := hgrow.size; simp at this; omega
  have g7 : Boxed w1 w.heap.size 3 (.int .i64 7) := (h7.alloc tmp).kept hgrow (h7.not_row (by decide) hrow)
  refine ⟨hv1, hk2, ⟨by simpa using z0, fun b o hb hc hn ha => ?_, ?_, fun g hg => ?_⟩, ⟨v', hv2, by rw [List.length_append, List.length_singleton, flatX_snoc]; exact hr2, trivial⟩, g7.other (by omega) v', hB.trans hb2⟩
  · have lb := (Array.getElem?_eq_some_iff.1 hb).1
    rw [e0] at ha
    rw [Below.heap_setCell _ _ _ _ (by exact hn)]
    rw [hgrow.block b (by simp; omega) (fun e => ha e.symm)]
    exact (Below.heap_alloc _ _ _ lb).trans hb
  · rw [e0, e1]
    rcases hpl with q | q
    · exact .inl q
    · exact .inr ⟨_, q, by simp⟩
  · rw [e1] at hg
    exact .inr (by have := (hown.lt g hg).2; simpa using this)

section
attribute [local go_sem] Oper.semAt_some
set_option maxRecDepth 100000 in
set_option maxHeartbeats 4000000 in
theorem first_words (n : Nat) (hn : 3 ≤ n) (s : ByteArray) (hs : s.size ≤ 100000) (w : World) :
    CallsIn Fence.wide n Tryz.prog 40 #[.string s, .int .i64 7] w fun e W' =>
      ∃ v, e = .returned v ∧ W'.ownsRow w.heap.size 86 2 v ((Exp.words s.data.toList).take 7).length (flatX ((Exp.words s.data.toList).take 7)) ∧ Below w.heap.size w W' := by
  have h1 : 1 ≤ n := by omega
  obtain ⟨i0, hi, hz0, hz1, hz2⟩ := info_parts infoWordX
  refine callsIn_of_wp_marks Tryz.func40 rfl trivial ?_ rfl
  simp only [Tryz.ntmps40, List.size_toArray, List.length_cons, List.length_nil, Nat.reduceAdd, Nat.reduceSub, Array.replicate_succ, Array.replicate_zero, List.push_toArray, List.append_toArray, List.nil_append, List.cons_append]
  gi_wp2_with (refine ⟨trivial, ?_⟩; gi_at_call 73; refine (callsIn_wide.2 (words_make _ _)).mono ?_; rintro e w' ⟨rfl, rfl⟩)
  have hB0 : Below w.heap.size w (((w.alloc (.cells #[.int .i64 7] 3)).alloc (.cells #[.slice none 0 0] 83)).alloc (.cells #[.string s] 9)) :=
    (((Below.refl _ w).alloc (Nat.le_refl _) _).alloc (by simp) _).alloc (by simp; omega) _
  have b7 : Boxed (((w.alloc (.cells #[.int .i64 7] 3)).alloc (.cells #[.slice none 0 0] 83)).alloc (.cells #[.string s] 9)) w.heap.size 3 (.int .i64 7) := ((Boxed.new w _ _).alloc _).alloc _
  have bO : Boxed (((w.alloc (.cells #[.int .i64 7] 3)).alloc (.cells #[.slice none 0 0] 83)).alloc (.cells #[.string s] 9)) (w.heap.size + 1) 83 (.slice none 0 0) := by
    have := (Boxed.new (w.alloc (.cells #[.int .i64 7] 3)) 83 (.slice none 0 0)).alloc (.cells #[.string s] 9)
    rwa [World.size_alloc] at this
  have bS : (((w.alloc (.cells #[.int .i64 7] 3)).alloc (.cells #[.slice none 0 0] 83)).alloc (.cells #[.string s] 9)).heap[w.heap.size + 1 + 1]? = some (.cells #[.string s] 9 (0, 0)) := by
    have := World.alloc_heap_new ((w.alloc (.cells #[.int .i64 7] 3)).alloc (.cells #[.slice none 0 0] 83)) (.cells #[.string s] 9)
    rwa [World.size_alloc, World.size_alloc] at this
  obtain ⟨W0, hW0⟩ : ∃ W0, ((w.alloc (.cells #[.int .i64 7] 3)).alloc (.cells #[.slice none 0 0] 83)).alloc (.cells #[.string s] 9) = W0 := ⟨_, rfl⟩
  have hz0' : W0.heap.size = w.heap.size + 3 := by rw [← hW0]; simp
  rw [hW0] at hB0 b7 bO bS ⊢
  have hW : ItW s (w.heap.size + 1) (w.heap.size + 1 + 1) W0 := ⟨bS, by omega, by omega, fun g hg => by unfold arrOf at hg; rw [bO.cell] at hg; cases hg⟩
  clear hW0
  refine wpIn_rangeFunc_ownH rfl h1 (gf := 111) (lb := #[.pointer (some ⟨w.heap.size + 1 + 1, 0, none⟩)]) rfl trivial (enters_of Tryz.func111 (by kernel_rfl) rfl)
    (words_stops (n - 1) (by omega) (w.heap.size + 1) (w.heap.size + 1 + 1) s hs W0 hW) KW.trans (kw_put (by omega)) (Below.refl _ _) (fun _ => rfl)
    (fun pre W => FwI w pre W ∧ pre.length < 7)
    (fun c pre W => FwI w pre W ∧ pre.length = 7 ∧ c = .exit 0)
    (OwnFrom.and (fwI_own _ (by omega)) (ownFrom_pure _ _))
    (fun c => OwnFrom.and (fwI_own _ (by omega)) (ownFrom_pure _ _))
    ⟨⟨⟨_, bO, World.ownsRow_nil _ _ _ _, trivial⟩, b7, hB0⟩, by simp⟩
    (fun x a' W => ∃ bx, a' = { tmps := #[.string s, .int .i64 7, undef, .pointer (some ⟨w.heap.size, 0, none⟩), .slice none 0 0, .pointer (some ⟨w.heap.size + 1, 0, none⟩), .pointer (some ⟨bx, 0, none⟩), .string s, .func (.func 111) #[] #[.pointer (some ⟨w.heap.size + 1 + 1, 0, none⟩)], wdV x, undef, undef, undef, undef, undef, undef, undef, undef, undef], defers := [] } ∧ W.heap[bx]? = some (.cells #[.int .i64 (x.1 : Nat), .string ⟨x.2.toArray⟩] 86 (0, 0)))
    ?hAx ?assign ?body ?done ?stop
  case hAx =>
    intro x a' _ A C row hs hg hr
    obtain ⟨bx, e, hb⟩ := hs
    refine ⟨bx, e, (hg.block bx (Array.getElem?_eq_some_iff.1 hb).1 fun q => ?_).trans hb⟩
    obtain ⟨_, o, ho, hc⟩ := hr bx q.symm
    rw [hb] at ho
    cases ho
    cases hc
  case assign =>
    intro l pre x W K hI hK
    unfold wdV
    gi_wp2
    exact hK _ _ ((KeepsOthers.alloc W _).from _) (kw_alloc W (by have := hI.1.2.2.size; have := hI.1.1; obtain ⟨v, hv, _⟩ := this; exact hv.lt) _) ⟨(fwI_own (w := w) W0.heap.size (by omega)).alloc _ hI.1, hI.2⟩ ⟨_, rfl, World.alloc_heap_new W _⟩
  case body =>
    rintro l pre x a' W hl _ ⟨⟨⟨v, hv, hrow, _⟩, h7, hB⟩, hlt⟩ ⟨bx, rfl, hb⟩ _
    have hc := hv.cell
    have c7 := h7.cell
    have x0 : W.cell? ⟨bx, 0, none⟩ = some (.int .i64 (x.1 : Nat)) := by simp only [World.cell?, hb]; rfl
    have x1 : W.cell? ⟨bx, 1, none⟩ = some (.string ⟨x.2.toArray⟩) := by simp only [World.cell?, hb]; rfl
    obtain ⟨a, cap, rfl⟩ : ∃ a cap, v = .slice a pre.length cap := by
      rcases hrow.2 with ⟨rfl, hk⟩ | ⟨g, cap, cur, rfl, _⟩
      · exact ⟨none, 0, by simp [hk]⟩
      · exact ⟨_, _, rfl⟩
    have hsz := hB.size
    clear hb
    by_cases h6 : pre.length + 1 = 7
    · have t1 : ((pre.length : Int) + 1 == 7) = true := by rw [beq_iff_eq]; omega
      have t2 : (pre.length + 1 == 7) = true := by rw [beq_iff_eq]; omega
      have p6 : pre.length ≤ 100 := by omega
      have H6 := Lib.hid h6
      clear h6 hlt
      gi_wp2_with (gi_at_builtin; refine append_in _ rfl _ _ 83 rfl w.heap.size 86 i0 (.agg #[.int .i64 0, .string ⟨#[]⟩]) 2 24 Tryz.underlying83 hi hz0 hz1 hz2 rfl (by decide) _ _ _ rfl (hrow.alloc _) ⟨W.heap.size, 0, none⟩ 1 1 (by decide) [.int .i64 (x.1 : Nat), .string ⟨x.2.toArray⟩] rfl rfl (cell_two_new _ _ _ _) (by simp [Value.oneCell']) (by simp [maxLen]; omega) (by omega) (by simp; omega) ?_; intro v' w1 hown' hgrow hpl; obtain ⟨g', cap', rfl⟩ := ownsRow_succ hown'; obtain ⟨hv1, hko, hkw, hfw⟩ := fw_step hv hrow h7 hB hown' hgrow hpl; have hc1 := hv1.cell; have hf1 := hv1.frozen; have e7 := hfw.2.1.cell; have HW := Lib.hid hfw; have HK := Lib.hid hkw; have HO := Lib.hid hko; clear hfw hkw hko hgrow hpl hown')
      exact ⟨HO.out.from _, HW.out, by rw [List.length_append, List.length_singleton]; exact H6.out, rfl⟩
    · have t1 : ((pre.length : Int) + 1 == 7) = false := by rw [beq_eq_false_iff_ne]; omega
      have t2 : (pre.length + 1 == 7) = false := by rw [beq_eq_false_iff_ne]; omega
      have p6 : pre.length ≤ 100 := by omega
      have H6 : Hid (pre.length + 1 < 7) := Lib.hid (by omega)
      clear h6 hlt
      gi_wp2_with (gi_at_builtin; refine append_in _ rfl _ _ 83 rfl w.heap.size 86 i0 (.agg #[.int .i64 0, .string ⟨#[]⟩]) 2 24 Tryz.underlying83 hi hz0 hz1 hz2 rfl (by decide) _ _ _ rfl (hrow.alloc _) ⟨W.heap.size, 0, none⟩ 1 1 (by decide) [.int .i64 (x.1 : Nat), .string ⟨x.2.toArray⟩] rfl rfl (cell_two_new _ _ _ _) (by simp [Value.oneCell']) (by simp [maxLen]; omega) (by omega) (by simp; omega) ?_; intro v' w1 hown' hgrow hpl; obtain ⟨g', cap', rfl⟩ := ownsRow_succ hown'; obtain ⟨hv1, hko, hkw, hfw⟩ := fw_step hv hrow h7 hB hown' hgrow hpl; have hc1 := hv1.cell; have hf1 := hv1.frozen; have e7 := hfw.2.1.cell; have HW := Lib.hid hfw; have HK := Lib.hid hkw; have HO := Lib.hid hko; clear hfw hkw hko hgrow hpl hown')
      exact ⟨HO.out.from _, HK.out, HW.out, by rw [List.length_append, List.length_singleton]; exact H6.out⟩
  case done =>
    rintro D ys W hD rfl ⟨⟨⟨v, hv, hrow, _⟩, _, hB⟩, hlt⟩ hK
    have hc := hv.cell
    have e : (Exp.words s.data.toList).take 7 = Exp.words s.data.toList := List.take_of_length_le (by omega)
    have hrow : W.ownsRow w.heap.size 86 2 v ((Exp.words s.data.toList).take 7).length (flatX ((Exp.words s.data.toList).take 7)) := by rw [e]; exact hrow
    clear e
    gi_wp2
    refine ⟨by simp, .inl ⟨_, _, rfl, run_takeDeferred hK, ?_⟩⟩
    exact ⟨_, results_tmp rfl _ _ _, v, rfl, ownsRow_putObj hrow _ hK rfl, hB.trans (belowK_b (w := w) (Nat.le_refl _) W D _ _ (by omega) hK rfl rfl)⟩
  case stop =>
    rintro D c pre W hD hp ⟨⟨⟨v, hv, hrow, _⟩, _, hB⟩, hlt, rfl⟩ hK
    have hc := hv.cell
    have e : (Exp.words s.data.toList).take 7 = pre := by rw [← hlt]; exact (List.prefix_iff_eq_take.1 hp).symm
    have hrow : W.ownsRow w.heap.size 86 2 v ((Exp.words s.data.toList).take 7).length (flatX ((Exp.words s.data.toList).take 7)) := by rw [e]; exact hrow
    clear e
    gi_wp2
    refine ⟨by simp, .inl ⟨_, _, rfl, run_takeDeferred hK, ?_⟩⟩
    exact ⟨_, results_tmp rfl _ _ _, v, rfl, ownsRow_putObj hrow _ hK rfl, hB.trans (belowK_b (w := w) (Nat.le_refl _) W D _ _ (by omega) hK rfl rfl)⟩
end
end Go.Proofs.YtpnfifhanmpapaaGreatDoor
