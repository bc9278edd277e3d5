/- The words of a text, as the document finds them: contract of Words of wakemanref07. Two slices that grow side by side. -/
import Derived.Test.YtpnfifhanmpapaaGreatDoorExpRa
import Derived.Test.YtpnfifhanmpapaaGreatDoorExpRn
import Derived.Maps.AppendAt
namespace Go.Proofs.YtpnfifhanmpapaaGreatDoor
open Go.ChangeShapes Go.WideShapes Go.RowKit Go.Shelf

/-- two slices of the call's own, in blocks of their own -/
structure TwoR (w : World) (tu td : TypeId) (vu vd : Value) (lu ld : List Value) (wr : World) : Prop where
  up : wr.ownsRow w.heap.size tu 1 vu lu.length lu
  down : wr.ownsRow w.heap.size td 1 vd ld.length ld
  apart : ∀ g, vu.ownBlock = some g → vd.ownBlock ≠ some g
  below : Below w.heap.size w wr
theorem TwoR.step_up {w wr w1 : World} {tu td : TypeId} {vu vd v' : Value} {lu ld : List Value} {o : Obj} {x : Value} (h : TwoR w tu td vu vd lu ld wr)
    (hown : w1.ownsRow w.heap.size tu 1 v' (lu.length + 1) (lu ++ [x])) (hg : (wr.alloc o).grownBy w1 vu.ownBlock)
    (hat : v'.ownBlock = vu.ownBlock ∨ v'.ownBlock = some (wr.heap.size + 1)) : TwoR w tu td v' vd (lu ++ [x]) ld w1 := by
  have hs := h.below.size
  refine ⟨by simpa using hown, (h.down.alloc o).kept hg ?_, ?_, (h.below.alloc hs o).grown hg (by simp; omega) (fun k hk => (h.up.lt k hk).1)⟩
  · by_cases z : vd.ownBlock = none
    · exact .inl z
    · refine .inr fun e => ?_
      obtain ⟨g, hgd⟩ := Option.ne_none_iff_exists'.1 z
      exact h.apart g (by rw [← e, hgd]) hgd
  · intro g hgv hgd
    rcases hat with e | e
    · exact h.apart g (by rw [← e, hgv]) hgd
    · have := (h.down.lt g hgd).2
      rw [e] at hgv
      simp at hgv
      omega
theorem TwoR.step_down {w wr w1 : World} {tu td : TypeId} {vu vd v' : Value} {lu ld : List Value} {o : Obj} {x : Value} (h : TwoR w tu td vu vd lu ld wr)
    (hown : w1.ownsRow w.heap.size td 1 v' (ld.length + 1) (ld ++ [x])) (hg : (wr.alloc o).grownBy w1 vd.ownBlock)
    (hat : v'.ownBlock = vd.ownBlock ∨ v'.ownBlock = some (wr.heap.size + 1)) : TwoR w tu td vu v' lu (ld ++ [x]) w1 := by
  have hs := h.below.size
  refine ⟨(h.up.alloc o).kept hg ?_, by simpa using hown, ?_, (h.below.alloc hs o).grown hg (by simp; omega) (fun k hk => (h.down.lt k hk).1)⟩
  · by_cases z : vu.ownBlock = none
    · exact .inl z
    · refine .inr fun e => ?_
      obtain ⟨g, hgd⟩ := Option.ne_none_iff_exists'.1 z
      exact h.apart g hgd (by rw [← e, hgd])
  · intro g hgu hgd
    rcases hat with e | e
    · exact h.apart g hgu (by rw [← e, hgd])
    · have := (h.up.lt g hgu).2
      rw [e] at hgd
      simp at hgd
      omega
theorem TwoR.next {w wr w1 : World} {tu td : TypeId} {vu vd : Value} {lu ld : List Value} (h : TwoR w tu td vu vd lu ld wr) (hb : Below wr.heap.size wr w1) : TwoR w tu td vu vd lu ld w1 :=
  ⟨own_below h.up hb, own_below h.down hb, h.apart, h.below.trans (hb.mono h.below.size)⟩
theorem TwoR.nil (w : World) (tu td : TypeId) : TwoR w tu td (.slice none 0 0) (.slice none 0 0) [] [] w :=
  ⟨World.ownsRow_nil _ _ _ _, World.ownsRow_nil _ _ _ _, fun _ h => (by cases h), Below.refl _ _⟩

namespace Exp
/-- the words before place i, and where the next one begins -/
structure WI (l : List UInt8) (pre : List (Nat × List UInt8)) (f i : Nat) : Prop where
  fi : f ≤ i
  ino : i ≤ l.length
  eq : words l = pre ++ Lex.wq isBl i ((l.take i).drop f) (l.drop i)
theorem WI.start (l : List UInt8) : WI l [] 0 0 := ⟨Nat.le_refl _, Nat.zero_le _, by simp [words]⟩
theorem take_more (l : List UInt8) (f i : Nat) (hf : f ≤ i) (h : i < l.length) : (l.take (i + 1)).drop f = (l.take i).drop f ++ [l[i]] := by
  rw [List.take_add_one, List.getElem?_eq_getElem h, Option.toList_some, List.drop_append]
  have : (l.take i).length = i := by rw [List.length_take]; omega
  rw [this, show f - i = 0 by omega]
  rfl
theorem take_len (l : List UInt8) (f i : Nat) (h : i ≤ l.length) : ((l.take i).drop f).length = i - f := by
  rw [List.length_drop, List.length_take]; omega
theorem WI.skip {l : List UInt8} {pre : List (Nat × List UInt8)} {f i : Nat} (h : WI l pre f i) (hi : i < l.length) (hc : isBl l[i] = false) : WI l pre f (i + 1) := by
  refine ⟨by have := h.fi; omega, hi, ?_⟩
  rw [h.eq, List.drop_eq_getElem_cons hi, Lex.wq, if_neg (by rw [hc]; simp), take_more l f i h.fi hi]
theorem WI.none {l : List UInt8} {pre : List (Nat × List UInt8)} {i : Nat} (h : WI l pre i i) (hi : i < l.length) (hc : isBl l[i] = true) : WI l pre (i + 1) (i + 1) := by
  refine ⟨Nat.le_refl _, hi, ?_⟩
  have e : ((l.take i).drop i) = [] := List.length_eq_zero_iff.1 (by rw [take_len l i i h.ino]; omega)
  have e' : ((l.take (i + 1)).drop (i + 1)) = [] := List.length_eq_zero_iff.1 (by rw [take_len l _ _ hi]; omega)
  rw [h.eq, List.drop_eq_getElem_cons hi, Lex.wq, if_pos hc, e, e']
  rfl
theorem WI.word {l : List UInt8} {pre : List (Nat × List UInt8)} {f i : Nat} (h : WI l pre f i) (hf : f < i) (hi : i < l.length) (hc : isBl l[i] = true) : WI l (pre ++ [(f, (l.take i).drop f)]) (i + 1) (i + 1) := by
  refine ⟨Nat.le_refl _, hi, ?_⟩
  have n := take_len l f i h.ino
  have e' : ((l.take (i + 1)).drop (i + 1)) = [] := List.length_eq_zero_iff.1 (by rw [take_len l _ _ hi]; omega)
  have e : ((l.take i).drop f).isEmpty = false := by
    cases q : (l.take i).drop f with
    | nil => rw [q] at n; simp at n; omega
    | cons _ _ => rfl
  rw [h.eq, List.drop_eq_getElem_cons hi, Lex.wq, if_pos hc, e, if_neg (by simp), n, e']
  have : i - (i - f) = f := by omega
  rw [this, List.append_assoc]
  rfl
theorem WI.end_none {l : List UInt8} {pre : List (Nat × List UInt8)} {i : Nat} (h : WI l pre i i) (hi : i = l.length) : pre = words l := by
  have e : ((l.take i).drop i) = [] := List.length_eq_zero_iff.1 (by rw [take_len l i i h.ino]; omega)
  rw [h.eq, hi, List.drop_length, ← hi, e]
  simp [Lex.wq]
theorem WI.end_word {l : List UInt8} {pre : List (Nat × List UInt8)} {f i : Nat} (h : WI l pre f i) (hf : f < i) (hi : i = l.length) : pre ++ [(f, (l.take i).drop f)] = words l := by
  have n := take_len l f i h.ino
  have e : ((l.take i).drop f).isEmpty = false := by
    cases q : (l.take i).drop f with
    | nil => rw [q] at n; simp at n; omega
    | cons _ _ => rfl
  rw [h.eq, show l.drop i = [] by rw [hi, List.drop_length], Lex.wq, e, if_neg (by simp), n]
  have : i - (i - f) = f := by omega
  rw [this]
theorem wq_le (p : UInt8 → Bool) : ∀ (r acc : List UInt8) (i : Nat), (Lex.wq p i acc r).length ≤ r.length + 1
  | [], acc, i => by unfold Lex.wq; split <;> simp
  | c :: r, acc, i => by
    unfold Lex.wq
    split
    · split
      · have := wq_le p r [] (i + 1); simp only [List.length_cons]; omega
      · have := wq_le p r [] (i + 1); simp only [List.length_cons]; omega
    · have := wq_le p r (acc ++ [c]) (i + 1); simp only [List.length_cons]; omega
theorem words_len (l : List UInt8) : (words l).length ≤ l.length + 1 := wq_le isBl l [] 0
theorem WI.len {l : List UInt8} {pre : List (Nat × List UInt8)} {f i : Nat} (h : WI l pre f i) : pre.length ≤ l.length + 1 := by
  have := words_len l
  rw [h.eq, List.length_append] at this
  omega
end Exp
def wsV (ws : List (Nat × List UInt8)) : List Value := ws.map fun x => .string ⟨x.2.toArray⟩
def psV (ws : List (Nat × List UInt8)) : List Value := ws.map fun x => .int .i64 (x.1 : Nat)
theorem wsV_snoc (ws : List (Nat × List UInt8)) (x : Nat × List UInt8) : wsV (ws ++ [x]) = wsV ws ++ [.string ⟨x.2.toArray⟩] := by simp [wsV]
theorem psV_snoc (ws : List (Nat × List UInt8)) (x : Nat × List UInt8) : psV (ws ++ [x]) = psV ws ++ [.int .i64 (x.1 : Nat)] := by simp [psV]
theorem wsV_len (ws : List (Nat × List UInt8)) : (wsV ws).length = ws.length := by simp [wsV]
theorem psV_len (ws : List (Nat × List UInt8)) : (psV ws).length = ws.length := by simp [psV]
theorem ext_mid (s : ByteArray) (f i : Nat) : s.extract f i = ⟨((s.data.toList.take i).drop f).toArray⟩ := by
  apply ByteArray.ext
  apply Array.toList_inj.1
  rw [Lib.extract_data]
  simp [List.drop_take]
theorem infoInt7 : (Tryz.prog.info? 3).map (fun i => (i.zero, i.size, i.bytes)) = some (some (.int .i64 0), 1, 8) := by kernel_rfl
/-- the two slices of words, as far as the text was read -/
def WT (w : World) (ws : List (Nat × List UInt8)) (vu vd : Value) (W : World) : Prop := TwoR w 9 3 vu vd (wsV ws) (psV ws) W
theorem WT.step {w W : World} {ws : List (Nat × List UInt8)} {vu vd : Value} (s : ByteArray) {f i : Nat} (h : TwoR w 9 3 vu vd (wsV ws ++ [.string (s.extract f i)]) (psV ws ++ [.int .i64 (f : Nat)]) W) : WT w (ws ++ [(f, (s.data.toList.take i).drop f)]) vu vd W := by
  unfold WT
  rw [wsV_snoc, psV_snoc, ← ext_mid]
  exact h
theorem bl_nat {c : UInt8} : Exp.isBl c = true ↔ c.toNat = 32 ∨ c.toNat = 9 := by
  rw [isBl_iff]
  constructor
  · rintro (rfl | rfl)
    · exact .inl rfl
    · exact .inr rfl
  · rintro (h | h)
    · exact .inl (UInt8.toNat_inj.1 h)
    · exact .inr (UInt8.toNat_inj.1 h)

set_option maxRecDepth 100000 in
set_option maxHeartbeats 8000000 in
theorem words7_any (s : ByteArray) (hs : s.size ≤ 100000) (w : World) :
    Calls Tryz.prog 43 #[.string s] w fun e w' => ∃ vu vd, e = .returned (.tuple #[vu, vd]) ∧ WT w (Exp.words s.data.toList) vu vd w' := by
  obtain ⟨i0, hi, hz0, hz1, hz2⟩ := info_parts infoStr
  obtain ⟨j0, ji, jz0, jz1, jz2⟩ := info_parts infoInt7
  have hsz : s.size = s.data.toList.length := Lib.size_eq s
  have H0 := Lib.hid (TwoR.nil w 9 3)
  go_enter Tryz.func43, Tryz.ntmps43
  go_wp2_with fail
  go_loopw [4, 5, 6, 7] (fun vu vd fr it wr => ∃ (ws : List (Nat × List UInt8)) (f i : Nat), f ≤ i ∧ i ≤ s.size + 1 ∧ fr = .int .i64 f ∧ it = .int .i64 i ∧ Hid ((i ≤ s.size ∧ Exp.WI s.data.toList ws f i) ∨ (i = s.size + 1 ∧ ws = Exp.words s.data.toList)) ∧ Hid (WT w ws vu vd wr)) (fun _ _ _ i _ => 200000 - (intOf i).toNat)
  case atStart => exact ⟨[], 0, 0, Nat.le_refl _, by omega, rfl, rfl, Lib.hid (.inl ⟨Nat.zero_le _, Exp.WI.start _⟩), H0⟩
  case round =>
    obtain ⟨ws, f, i, hfi, hin, rfl, rfl, hW, hT⟩ := hrel
    by_cases hle : i ≤ s.size
    · obtain ⟨_, hI⟩ | ⟨a, _⟩ := hW.out
      case inr => omega
      have q0 : decide ((i : Int) ≤ (s.size : Int)) = true := by rw [decide_eq_true_iff]; omega
      have q0n : decide (i ≤ s.size) = true := by rw [decide_eq_true_iff]; omega
      have i0' : (0 : Int) ≤ (i : Int) := by omega
      have f0' : (0 : Int) ≤ (f : Int) := by omega
      have fi' : (f : Int) ≤ (i : Int) := by omega
      have is' : (i : Int) ≤ (s.size : Int) := by omega
      have LL : Hid ((wsV ws).length ≤ 100001 ∧ (psV ws).length ≤ 100001) := Lib.hid (by rw [wsV_len, psV_len]; have := hI.len; omega)
      have HI := Lib.hid hI
      have HSZ := Lib.hid hsz
      clear hI hsz hW
      by_cases hlt : i < s.size
      · have q1 : decide ((i : Int) < (s.size : Int)) = true := by rw [decide_eq_true_iff]; omega
        have q1n : decide (i < s.size) = true := by rw [decide_eq_true_iff]; omega
        have gi : s.data.toList[i]'(by rw [← Lib.size_eq]; exact hlt) = s[i] := by simp; rfl
        by_cases e32 : s[i].toNat = 32
        · have BL : Hid (Exp.isBl s[i] = true) := Lib.hid (bl_nat.2 (.inl e32))
          have t2 : ((s[i].toNat : Int) != 32) = false := by rw [e32]; rfl
          have HG := Lib.hid gi
          clear e32 gi
          by_cases hf : f < i
          · have t5 : decide ((f : Int) < (i : Int)) = true := by rw [decide_eq_true_iff]; omega
            have t5n : decide (f < i) = true := by rw [decide_eq_true_iff]; omega
            have HF := Lib.hid hf
            clear hf
            go_wp2_with (at_builtin; refine wpList_append_own_at _ rfl (.tmp 33) (.tmp 38) 44 rfl w.heap.size 9 i0 (.string ⟨#[]⟩) 1 16 Tryz.underlying44 hi hz0 hz1 hz2 rfl (by decide) _ (wsV ws).length _ rfl (hT.out.up.alloc _) ⟨wr.heap.size, 0, none⟩ 1 1 [.string (s.extract f i)] rfl ?c1 ?c2 ?c3 ?c4 ?c5 ?c6 ?c7)
            case c1 => rfl
            case c2 => exact cell_one_new _ _ _
            case c3 => simp [Value.oneCell']
            case c4 => have := LL.out.1; unfold maxLen; omega
            case c5 => have := LL.out.1; omega
            case c6 => have := hT.out.below.size; simp; omega
            case c7 =>
              intro v1 w1 hown hg _ hat
              have h1 := Lib.hid (TwoR.step_up hT.out hown hg hat)
              clear hown hg hat
              go_wp2_with (at_builtin; refine wpList_append_own_at _ rfl (.tmp 40) (.tmp 42) 89 rfl w.heap.size 3 j0 (.int .i64 0) 1 8 Tryz.underlying89 ji jz0 jz1 jz2 rfl (by decide) _ (psV ws).length _ rfl (h1.out.down.alloc _) ⟨w1.heap.size, 0, none⟩ 1 1 [.int .i64 f] rfl ?d1 ?d2 ?d3 ?d4 ?d5 ?d6 ?d7)
              case d1 => rfl
              case d2 => exact cell_one_new _ _ _
              case d3 => simp [Value.oneCell']
              case d4 => have := LL.out.2; unfold maxLen; omega
              case d5 => have := LL.out.2; omega
              case d6 => have := h1.out.below.size; simp; omega
              case d7 =>
                intro v2 w2 hown hg _ hat
                have h2 := Lib.hid (WT.step s (TwoR.step_down h1.out hown hg hat))
                clear hown hg hat
                go_wp2_with fail
                go_roundw
                case rel => exact ⟨ws ++ [(f, (s.data.toList.take i).drop f)], i + 1, i + 1, Nat.le_refl _, by omega, by go_num, by go_num, Lib.hid (.inl ⟨hlt, HI.out.word HF.out (by have := HSZ.out; omega) (by rw [HG.out]; exact BL.out)⟩), h2⟩
                case measure => simp [intOf]; omega
          · obtain rfl : f = i := by omega
            have t5 : decide ((f : Int) < (f : Int)) = false := by rw [decide_eq_false_iff_not]; omega
            have t5n : decide (f < f) = false := by rw [decide_eq_false_iff_not]; omega
            go_wp2_with fail
            go_roundw
            case rel => exact ⟨ws, f + 1, f + 1, Nat.le_refl _, by omega, by go_num, by go_num, Lib.hid (.inl ⟨hlt, HI.out.none (by have := HSZ.out; omega) (by rw [HG.out]; exact BL.out)⟩), hT⟩
            case measure => simp [intOf]; omega
        · by_cases e9 : s[i].toNat = 9
          · have BL : Hid (Exp.isBl s[i] = true) := Lib.hid (bl_nat.2 (.inr e9))
            have t2 : ((s[i].toNat : Int) != 32) = true := by rw [e9]; rfl
            have t3 : ((s[i].toNat : Int) != 9) = false := by rw [e9]; rfl
            have HG := Lib.hid gi
            clear e32 e9 gi
            by_cases hf : f < i
            · have t5 : decide ((f : Int) < (i : Int)) = true := by rw [decide_eq_true_iff]; omega
              have t5n : decide (f < i) = true := by rw [decide_eq_true_iff]; omega
              have HF := Lib.hid hf
              clear hf
              go_wp2_with (at_builtin; refine wpList_append_own_at _ rfl (.tmp 33) (.tmp 38) 44 rfl w.heap.size 9 i0 (.string ⟨#[]⟩) 1 16 Tryz.underlying44 hi hz0 hz1 hz2 rfl (by decide) _ (wsV ws).length _ rfl (hT.out.up.alloc _) ⟨wr.heap.size, 0, none⟩ 1 1 [.string (s.extract f i)] rfl ?c1 ?c2 ?c3 ?c4 ?c5 ?c6 ?c7)
              case c1 => rfl
              case c2 => exact cell_one_new _ _ _
              case c3 => simp [Value.oneCell']
              case c4 => have := LL.out.1; unfold maxLen; omega
              case c5 => have := LL.out.1; omega
              case c6 => have := hT.out.below.size; simp; omega
              case c7 =>
                intro v1 w1 hown hg _ hat
                have h1 := Lib.hid (TwoR.step_up hT.out hown hg hat)
                clear hown hg hat
                go_wp2_with (at_builtin; refine wpList_append_own_at _ rfl (.tmp 40) (.tmp 42) 89 rfl w.heap.size 3 j0 (.int .i64 0) 1 8 Tryz.underlying89 ji jz0 jz1 jz2 rfl (by decide) _ (psV ws).length _ rfl (h1.out.down.alloc _) ⟨w1.heap.size, 0, none⟩ 1 1 [.int .i64 f] rfl ?d1 ?d2 ?d3 ?d4 ?d5 ?d6 ?d7)
                case d1 => rfl
                case d2 => exact cell_one_new _ _ _
                case d3 => simp [Value.oneCell']
                case d4 => have := LL.out.2; unfold maxLen; omega
                case d5 => have := LL.out.2; omega
                case d6 => have := h1.out.below.size; simp; omega
                case d7 =>
                  intro v2 w2 hown hg _ hat
                  have h2 := Lib.hid (WT.step s (TwoR.step_down h1.out hown hg hat))
                  clear hown hg hat
                  go_wp2_with fail
                  go_roundw
                  case rel => exact ⟨ws ++ [(f, (s.data.toList.take i).drop f)], i + 1, i + 1, Nat.le_refl _, by omega, by go_num, by go_num, Lib.hid (.inl ⟨hlt, HI.out.word HF.out (by have := HSZ.out; omega) (by rw [HG.out]; exact BL.out)⟩), h2⟩
                  case measure => simp [intOf]; omega
            · obtain rfl : f = i := by omega
              have t5 : decide ((f : Int) < (f : Int)) = false := by rw [decide_eq_false_iff_not]; omega
              have t5n : decide (f < f) = false := by rw [decide_eq_false_iff_not]; omega
              go_wp2_with fail
              go_roundw
              case rel => exact ⟨ws, f + 1, f + 1, Nat.le_refl _, by omega, by go_num, by go_num, Lib.hid (.inl ⟨hlt, HI.out.none (by have := HSZ.out; omega) (by rw [HG.out]; exact BL.out)⟩), hT⟩
              case measure => simp [intOf]; omega
          · have BL : Hid (Exp.isBl s[i] = false) := Lib.hid (by rw [Bool.eq_false_iff]; intro h; rcases bl_nat.1 h with h | h <;> omega)
            have t2 : ((s[i].toNat : Int) != 32) = true := by rw [bne_iff_ne]; omega
            have t3 : ((s[i].toNat : Int) != 9) = true := by rw [bne_iff_ne]; omega
            have HG := Lib.hid gi
            clear e32 e9 gi
            go_wp2_with fail
            go_roundw
            case rel => exact ⟨ws, f, i + 1, by omega, by omega, rfl, by go_num, Lib.hid (.inl ⟨hlt, HI.out.skip (by have := HSZ.out; omega) (by rw [HG.out]; exact BL.out)⟩), hT⟩
            case measure => simp [intOf]; omega
      · have q1 : decide ((i : Int) < (s.size : Int)) = false := by rw [decide_eq_false_iff_not]; omega
        have q1n : decide (i < s.size) = false := by rw [decide_eq_false_iff_not]; omega
        by_cases hf : f < i
        · have t5 : decide ((f : Int) < (i : Int)) = true := by rw [decide_eq_true_iff]; omega
          have t5n : decide (f < i) = true := by rw [decide_eq_true_iff]; omega
          have HF := Lib.hid hf
          clear hf
          go_wp2_with (at_builtin; refine wpList_append_own_at _ rfl (.tmp 33) (.tmp 38) 44 rfl w.heap.size 9 i0 (.string ⟨#[]⟩) 1 16 Tryz.underlying44 hi hz0 hz1 hz2 rfl (by decide) _ (wsV ws).length _ rfl (hT.out.up.alloc _) ⟨wr.heap.size, 0, none⟩ 1 1 [.string (s.extract f i)] rfl ?c1 ?c2 ?c3 ?c4 ?c5 ?c6 ?c7)
          case c1 => rfl
          case c2 => exact cell_one_new _ _ _
          case c3 => simp [Value.oneCell']
          case c4 => have := LL.out.1; unfold maxLen; omega
          case c5 => have := LL.out.1; omega
          case c6 => have := hT.out.below.size; simp; omega
          case c7 =>
            intro v1 w1 hown hg _ hat
            have h1 := Lib.hid (TwoR.step_up hT.out hown hg hat)
            clear hown hg hat
            go_wp2_with (at_builtin; refine wpList_append_own_at _ rfl (.tmp 40) (.tmp 42) 89 rfl w.heap.size 3 j0 (.int .i64 0) 1 8 Tryz.underlying89 ji jz0 jz1 jz2 rfl (by decide) _ (psV ws).length _ rfl (h1.out.down.alloc _) ⟨w1.heap.size, 0, none⟩ 1 1 [.int .i64 f] rfl ?d1 ?d2 ?d3 ?d4 ?d5 ?d6 ?d7)
            case d1 => rfl
            case d2 => exact cell_one_new _ _ _
            case d3 => simp [Value.oneCell']
            case d4 => have := LL.out.2; unfold maxLen; omega
            case d5 => have := LL.out.2; omega
            case d6 => have := h1.out.below.size; simp; omega
            case d7 =>
              intro v2 w2 hown hg _ hat
              have h2 := Lib.hid (WT.step s (TwoR.step_down h1.out hown hg hat))
              clear hown hg hat
              go_wp2_with fail
              go_roundw
              case rel => exact ⟨ws ++ [(f, (s.data.toList.take i).drop f)], i + 1, i + 1, Nat.le_refl _, by omega, by go_num, by go_num, Lib.hid (.inr ⟨by omega, HI.out.end_word HF.out (by have := HSZ.out; omega)⟩), h2⟩
              case measure => simp [intOf]; omega
        · obtain rfl : f = i := by omega
          have t5 : decide ((f : Int) < (f : Int)) = false := by rw [decide_eq_false_iff_not]; omega
          have t5n : decide (f < f) = false := by rw [decide_eq_false_iff_not]; omega
          go_wp2_with fail
          go_roundw
          case rel => exact ⟨ws, f + 1, f + 1, Nat.le_refl _, by omega, by go_num, by go_num, Lib.hid (.inr ⟨by omega, HI.out.end_none (by have := HSZ.out; omega)⟩), hT⟩
          case measure => simp [intOf]; omega
    · have q0 : decide ((i : Int) ≤ (s.size : Int)) = false := by rw [decide_eq_false_iff_not]; omega
      have q0n : decide (i ≤ s.size) = false := by rw [decide_eq_false_iff_not]; omega
      have e : ws = Exp.words s.data.toList := by
        rcases hW.out with ⟨a, _⟩ | ⟨_, a⟩
        · omega
        · exact a
      rw [e] at hT
      clear e hsz
      go_wp2_with fail
      go_ret2
      exact ⟨_, _, rfl, hT.out⟩
end Go.Proofs.YtpnfifhanmpapaaGreatDoor
