/- Contracts of the closures that tell separating bytes, and of the iterator over the pieces of a text. -/
import Derived.RangeFuncBox
import Derived.RangeFuncLeaves
import Derived.Shelf.Abstract
import Derived.WalkKit
import Derived.OwnWalkIn
import Derived.TacticsInMore
import Derived.LoopNIn
import Derived.LoopIn
import Derived.Maps.AppendAt
import Derived.Sort.QuietIn
import Derived.Lib.Hide
import Derived.Test.YtjlipkklljjdjaaDoorProg
import Derived.Test.YtjlipkklljjdjaaDoorLexWord
namespace Go.Proofs.YtjlipkklljjdjaaDoor
open Go.ChangeShapes Go.RowKit Go.Shelf

/-- a line feed; a blank -/
def nlB (c : Nat) : Bool := c == 10
def blB (c : Nat) : Bool := c == 32 || c == 9
/-- does byte k of the text separate? -/
def sepAt (p : Nat → Bool) (s : ByteArray) (k : Nat) : Bool := if h : k < s.size then p s[k].toNat else false
theorem sepAt_in (p : Nat → Bool) (s : ByteArray) (k : Nat) (h : k < s.size) : sepAt p s k = p s[k].toNat := by simp [sepAt, h]
theorem sepAt_out (p : Nat → Bool) (s : ByteArray) (k : Nat) (h : ¬ k < s.size) : sepAt p s k = false := by simp [sepAt, h]
/-- the pieces of a text -/
def pcsOf (p : Nat → Bool) (s : ByteArray) : List (Nat × Nat) := Lex.pcs (sepAt p s) s.size

theorem nl_any (c : Nat) (b : Bool) (h : nlB c = b) (w : World) :
    Calls Tryd.prog 41 #[.int .u8 c] w fun e w' => e = .returned (.bool b) ∧ w = w' := by
  have h' : ((c : Int) == 10) = b := by rw [← h]; unfold nlB; rw [Bool.eq_iff_iff]; simp; omega
  cases b
  all_goals
    go_enter Tryd.func41, Tryd.ntmps41
    go_wp2
    go_ret
    exact ⟨rfl, rfl⟩
theorem bl_any (c : Nat) (b : Bool) (h : blB c = b) (w : World) :
    Calls Tryd.prog 42 #[.int .u8 c] w fun e w' => e = .returned (.bool b) ∧ w = w' := by
  have h1 : ((c : Int) == 32) = (c == 32) := by rw [Bool.eq_iff_iff]; simp; omega
  have h2 : ((c : Int) == 9) = (c == 9) := by rw [Bool.eq_iff_iff]; simp; omega
  unfold blB at h
  by_cases c1 : (c == 32) = true
  · rw [c1] at h1
    obtain rfl : b = true := by rw [← h, c1]; rfl
    clear h h2 c1
    go_enter Tryd.func42, Tryd.ntmps42
    go_wp2
    go_ret
    exact ⟨rfl, rfl⟩
  · have c1 : (c == 32) = false := by simpa using c1
    rw [c1] at h1
    rw [c1, Bool.false_or] at h
    rw [h] at h2
    clear h c1
    cases b
    all_goals
      go_enter Tryd.func42, Tryd.ntmps42
      go_wp2
      go_ret
      exact ⟨rfl, rfl⟩

/-- the iterator's own two variables are kept -/
structure K2 (Bs Bf : Nat) (A B : World) : Prop where
  size : A.heap.size ≤ B.heap.size
  str : B.heap[Bs]? = A.heap[Bs]?
  fn : B.heap[Bf]? = A.heap[Bf]?
theorem K2.refl (Bs Bf : Nat) (A : World) : K2 Bs Bf A A := ⟨Nat.le_refl _, rfl, rfl⟩
theorem K2.trans {Bs Bf : Nat} {A B C : World} (h : K2 Bs Bf A B) (k : K2 Bs Bf B C) : K2 Bs Bf A C := ⟨Nat.le_trans h.size k.size, k.str.trans h.str, k.fn.trans h.fn⟩
theorem K2.drewN {Bs Bf : Nat} {A B : World} (h : K2 Bs Bf A B) (n : Nat) : K2 Bs Bf A (B.drewN n) := ⟨h.size, h.str, h.fn⟩
theorem K2.cellS {Bs Bf : Nat} {A B : World} (h : K2 Bs Bf A B) : B.cell? ⟨Bs, 0, none⟩ = A.cell? ⟨Bs, 0, none⟩ := World.cell?_of_block (a := ⟨Bs, 0, none⟩) h.str
theorem K2.cellF {Bs Bf : Nat} {A B : World} (h : K2 Bs Bf A B) : B.cell? ⟨Bf, 0, none⟩ = A.cell? ⟨Bf, 0, none⟩ := World.cell?_of_block (a := ⟨Bf, 0, none⟩) h.fn
theorem K2.of_below {Bs Bf n₀ : Nat} {A B : World} (h : Below n₀ A B) (h1 : Bs < n₀) (h2 : Bf < n₀) : K2 Bs Bf A B := ⟨h.size, h.block _ h1, h.block _ h2⟩
theorem K2.put {Bs Bf l : Nat} (W : World) (o' : Obj) (h1 : Bs ≠ l) (h2 : Bf ≠ l) : K2 Bs Bf W (W.putObj l o') :=
  ⟨by simp, World.putObj_heap_other h1, World.putObj_heap_other h2⟩
theorem k2_b {w : World} {Bs Bf : Nat} (h1 : Bs < w.heap.size) (h2 : Bf < w.heap.size) : ∀ (W : World) (l : Nat) (o o' : Obj), w.heap.size ≤ l → W.heap[l]? = some o → o.isCells = false → o.isWalk = false → K2 Bs Bf W (W.putObj l o') :=
  fun W _ _ o' hl _ _ _ => K2.put W o' (Nat.ne_of_lt (Nat.lt_of_lt_of_le h1 hl)) (Nat.ne_of_lt (Nat.lt_of_lt_of_le h2 hl))
theorem grown_drewN (W : World) (n : Nat) : W.grownBy (W.drewN n) none := ⟨rfl, rfl, rfl, Nat.le_refl _, fun _ _ _ => rfl⟩
theorem abides_drewN {β : Type} {B : Nat} {J : β → World → Prop} (h : AbidesFrom B J) {s : β} {W : World} (hs : J s W) (n : Nat) : J s (W.drewN n) :=
  h s W _ none hs (grown_drewN W n) (fun _ e => by cases e)

section
attribute [local go_sem] Oper.semAt_some
set_option maxRecDepth 100000 in
set_option maxHeartbeats 2000000 in
theorem iter_nl (n : Nat) (hn : 1 ≤ n) (l Bs Bf : Nat) (s : ByteArray) (hs : s.size ≤ 9223372036854775807) (B : Nat) (J Jx : List (Nat × Nat) → World → Prop) (hJ : AbidesFrom B J)
    (hY : ∀ pre x W, J pre W → pre.length < (pcsOf nlB s).length → YieldAt Fence.wide (n - 1) Tryd.prog l #[.int .i64 ((x : Nat × Nat).1 : Nat), .string (s.extract x.1 x.2)] W fun e W' =>
      (e = .returned (.bool true) ∧ J (pre ++ [x]) W' ∧ K2 Bs Bf W W') ∨ (e = .returned (.bool false) ∧ Jx (pre ++ [x]) W'))
    (W : World) (hBs : W.cell? ⟨Bs, 0, none⟩ = some (.string s)) (hBf : W.cell? ⟨Bf, 0, none⟩ = some (.func (.func 41) #[] #[])) (h0 : J [] W) :
    CallsIn Fence.wide n Tryd.prog 70 #[.func (.yield l) #[] #[], .pointer (some ⟨Bs, 0, none⟩), .pointer (some ⟨Bf, 0, none⟩)] W fun e W' => (∃ v, e = .returned v) ∧
      ((∃ ys, ys = pcsOf nlB s ∧ J ys W') ∨ (∃ pre, pre <+: pcsOf nlB s ∧ Jx pre W')) := by
  have HY := Lib.hid hY
  clear hY
  refine callsIn_of_wp Tryd.func70 rfl trivial ?_ rfl
  simp only [Tryd.ntmps70, List.size_toArray, List.length_cons, List.length_nil, Nat.reduceAdd, Nat.reduceSub, Array.replicate_succ, Array.replicate_zero, List.push_toArray, List.append_toArray, List.nil_append, List.cons_append]
  gi_wp2
  gi_loopw [4, 8] (fun f i wr => ∃ k : Nat, k ≤ s.size ∧ i = .int .i64 k ∧ f = .int .i64 ((Lex.cut (sepAt nlB s) k).2 : Nat) ∧ J (Lex.cut (sepAt nlB s) k).1 wr ∧ K2 Bs Bf W wr) (fun _ i _ => s.size - (intOf i).toNat)
  case atStart => exact ⟨0, Nat.zero_le _, rfl, rfl, h0, K2.refl _ _ _⟩
  case round =>
    obtain ⟨k, hk, rfl, rfl, hJs, hb⟩ := hrel
    have hcs : wr.cell? ⟨Bs, 0, none⟩ = some (.string s) := hb.cellS.trans hBs
    have hcf : wr.cell? ⟨Bf, 0, none⟩ = some (.func (.func 41) #[] #[]) := hb.cellF.trans hBf
    have kf := Lex.cut_le (sepAt nlB s) k
    by_cases hlt : k < s.size
    · have hpre : pcsOf nlB s = pcsOf nlB s := rfl
      cases hp : nlB s[k].toNat with
      | false =>
        have hno : sepAt nlB s k = false := by rw [sepAt_in _ _ _ hlt]; exact hp
        have HN := Lib.hid (Lex.cut_no hno)
        have HP := Lib.hid hp
        clear hno hp hpre
        gi_wp2
        refine wpIn_region_quiet_lit rfl (by kernel_rfl) (by kernel_rfl) ?_
        iterate 4 (gi_big_quiet_step (fail))
        refine wpQuietIn_step (fun _ _ _ _ => trivial) (fun K hK => ?_)
        go_simp
        refine ⟨_, fun _ => CallsIn.quiet_of_same (callsIn_wide.2 ((nl_any _ false HP.out _).mono fun _ _ h => ⟨h.1, h.2.symm⟩)), hK _ ?_⟩
        clear hK K
        gi_big_quiet_step (fail)
        refine wpQuietIn_nil ?_
        intro _ hw'
        obtain ⟨nq, rfl⟩ := hw'
        gi_wp2
        go_roundw
        case rel => exact ⟨k + 1, by omega, by go_num, by rw [HN.out], by rw [HN.out]; exact abides_drewN hJ hJs _, hb.drewN _⟩
        case measure => simp [intOf]; omega
      | true =>
        have hyes : sepAt nlB s k = true := by rw [sepAt_in _ _ _ hlt]; exact hp
        have HN := Lib.hid (Lex.cut_yes hyes)
        have HP := Lib.hid hp
        have hpx := Lib.hid (Lex.cut_pcs (sepAt nlB s) (j := k + 1) (n := s.size) (by omega))
        clear hyes hp hpre
        gi_wp2
        refine wpIn_region_quiet_lit rfl (by kernel_rfl) (by kernel_rfl) ?_
        iterate 4 (gi_big_quiet_step (fail))
        refine wpQuietIn_step (fun _ _ _ _ => trivial) (fun K hK => ?_)
        go_simp
        refine ⟨_, fun _ => CallsIn.quiet_of_same (callsIn_wide.2 ((nl_any _ true HP.out _).mono fun _ _ h => ⟨h.1, h.2.symm⟩)), hK _ ?_⟩
        clear hK K
        gi_big_quiet_step (fail)
        refine wpQuietIn_nil ?_
        intro _ hw'
        obtain ⟨nq, rfl⟩ := hw'
        have hlen : (Lex.cut (sepAt nlB s) k).1.length < (pcsOf nlB s).length := by
          have h1 := hpx.out.length_le
          rw [HN.out] at h1
          simp at h1
          exact h1
        obtain ⟨fn, tmps, assign, body, hy, hR⟩ := HY.out _ ((Lex.cut (sepAt nlB s) k).2, k) _ (abides_drewN hJ hJs nq) hlen
        dsimp only at hy
        clear hlen
        gi_wp2
        refine hR.mono ?_
        rintro e W3 (⟨rfl, hJ3, hk3⟩ | ⟨rfl, hJx3⟩)
        · have hb3 : K2 Bs Bf W W3 := (hb.drewN nq).trans hk3
          gi_wp2
          go_roundw
          case rel => exact ⟨k + 1, by omega, by go_num, by rw [HN.out]; go_num, by rw [HN.out]; exact hJ3, hb3⟩
          case measure => simp [intOf]; omega
        · gi_wp2
          refine bodyPost_ret (results_none rfl _ _ _) rfl ?_
          exact ⟨⟨_, rfl⟩, .inr ⟨_, by have := hpx.out; rw [HN.out] at this; exact this, hJx3⟩⟩
    · obtain rfl : k = s.size := by omega
      by_cases hf : (Lex.cut (sepAt nlB s) s.size).2 < s.size
      · have HP : Hid (pcsOf nlB s = (Lex.cut (sepAt nlB s) s.size).1 ++ [((Lex.cut (sepAt nlB s) s.size).2, s.size)]) := Lib.hid (by simp [pcsOf, Lex.pcs, hf])
        have hlen : (Lex.cut (sepAt nlB s) s.size).1.length < (pcsOf nlB s).length := by rw [HP.out]; simp
        obtain ⟨fn, tmps, assign, body, hy, hR⟩ := HY.out _ ((Lex.cut (sepAt nlB s) s.size).2, s.size) _ hJs hlen
        dsimp only at hy
        clear hlen hlt
        gi_wp2
        refine hR.mono ?_
        rintro e W3 (⟨rfl, hJ3, hk3⟩ | ⟨rfl, hJx3⟩)
        · gi_wp2
          go_end0
          exact ⟨⟨_, rfl⟩, .inl ⟨_, HP.out.symm, hJ3⟩⟩
        · gi_wp2
          go_end0
          exact ⟨⟨_, rfl⟩, .inr ⟨_, by rw [HP.out]; exact List.prefix_refl _, hJx3⟩⟩
      · have HP : Hid (pcsOf nlB s = (Lex.cut (sepAt nlB s) s.size).1) := Lib.hid (by simp [pcsOf, Lex.pcs, hf])
        have hf' : s.size ≤ (Lex.cut (sepAt nlB s) s.size).2 := by omega
        gi_wp2
        go_end0
        exact ⟨⟨_, rfl⟩, .inl ⟨_, HP.out.symm, hJs⟩⟩
set_option maxRecDepth 100000 in
set_option maxHeartbeats 2000000 in
theorem iter_bl (n : Nat) (hn : 1 ≤ n) (l Bs Bf : Nat) (s : ByteArray) (hs : s.size ≤ 9223372036854775807) (B : Nat) (J Jx : List (Nat × Nat) → World → Prop) (hJ : AbidesFrom B J)
    (hY : ∀ pre x W, J pre W → pre.length < (pcsOf blB s).length → YieldAt Fence.wide (n - 1) Tryd.prog l #[.int .i64 ((x : Nat × Nat).1 : Nat), .string (s.extract x.1 x.2)] W fun e W' =>
      (e = .returned (.bool true) ∧ J (pre ++ [x]) W' ∧ K2 Bs Bf W W') ∨ (e = .returned (.bool false) ∧ Jx (pre ++ [x]) W'))
    (W : World) (hBs : W.cell? ⟨Bs, 0, none⟩ = some (.string s)) (hBf : W.cell? ⟨Bf, 0, none⟩ = some (.func (.func 42) #[] #[])) (h0 : J [] W) :
    CallsIn Fence.wide n Tryd.prog 70 #[.func (.yield l) #[] #[], .pointer (some ⟨Bs, 0, none⟩), .pointer (some ⟨Bf, 0, none⟩)] W fun e W' => (∃ v, e = .returned v) ∧
      ((∃ ys, ys = pcsOf blB s ∧ J ys W') ∨ (∃ pre, pre <+: pcsOf blB s ∧ Jx pre W')) := by
  have HY := Lib.hid hY
  clear hY
  refine callsIn_of_wp Tryd.func70 rfl trivial ?_ rfl
  simp only [Tryd.ntmps70, List.size_toArray, List.length_cons, List.length_nil, Nat.reduceAdd, Nat.reduceSub, Array.replicate_succ, Array.replicate_zero, List.push_toArray, List.append_toArray, List.nil_append, List.cons_append]
  gi_wp2
  gi_loopw [4, 8] (fun f i wr => ∃ k : Nat, k ≤ s.size ∧ i = .int .i64 k ∧ f = .int .i64 ((Lex.cut (sepAt blB s) k).2 : Nat) ∧ J (Lex.cut (sepAt blB s) k).1 wr ∧ K2 Bs Bf W wr) (fun _ i _ => s.size - (intOf i).toNat)
  case atStart => exact ⟨0, Nat.zero_le _, rfl, rfl, h0, K2.refl _ _ _⟩
  case round =>
    obtain ⟨k, hk, rfl, rfl, hJs, hb⟩ := hrel
    have hcs : wr.cell? ⟨Bs, 0, none⟩ = some (.string s) := hb.cellS.trans hBs
    have hcf : wr.cell? ⟨Bf, 0, none⟩ = some (.func (.func 42) #[] #[]) := hb.cellF.trans hBf
    have kf := Lex.cut_le (sepAt blB s) k
    by_cases hlt : k < s.size
    · have hpre : pcsOf blB s = pcsOf blB s := rfl
      cases hp : blB s[k].toNat with
      | false =>
        have hno : sepAt blB s k = false := by rw [sepAt_in _ _ _ hlt]; exact hp
        have HN := Lib.hid (Lex.cut_no hno)
        have HP := Lib.hid hp
        clear hno hp hpre
        gi_wp2
        refine wpIn_region_quiet_lit rfl (by kernel_rfl) (by kernel_rfl) ?_
        iterate 4 (gi_big_quiet_step (fail))
        refine wpQuietIn_step (fun _ _ _ _ => trivial) (fun K hK => ?_)
        go_simp
        refine ⟨_, fun _ => CallsIn.quiet_of_same (callsIn_wide.2 ((bl_any _ false HP.out _).mono fun _ _ h => ⟨h.1, h.2.symm⟩)), hK _ ?_⟩
        clear hK K
        gi_big_quiet_step (fail)
        refine wpQuietIn_nil ?_
        intro _ hw'
        obtain ⟨nq, rfl⟩ := hw'
        gi_wp2
        go_roundw
        case rel => exact ⟨k + 1, by omega, by go_num, by rw [HN.out], by rw [HN.out]; exact abides_drewN hJ hJs _, hb.drewN _⟩
        case measure => simp [intOf]; omega
      | true =>
        have hyes : sepAt blB s k = true := by rw [sepAt_in _ _ _ hlt]; exact hp
        have HN := Lib.hid (Lex.cut_yes hyes)
        have HP := Lib.hid hp
        have hpx := Lib.hid (Lex.cut_pcs (sepAt blB s) (j := k + 1) (n := s.size) (by omega))
        clear hyes hp hpre
        gi_wp2
        refine wpIn_region_quiet_lit rfl (by kernel_rfl) (by kernel_rfl) ?_
        iterate 4 (gi_big_quiet_step (fail))
        refine wpQuietIn_step (fun _ _ _ _ => trivial) (fun K hK => ?_)
        go_simp
        refine ⟨_, fun _ => CallsIn.quiet_of_same (callsIn_wide.2 ((bl_any _ true HP.out _).mono fun _ _ h => ⟨h.1, h.2.symm⟩)), hK _ ?_⟩
        clear hK K
        gi_big_quiet_step (fail)
        refine wpQuietIn_nil ?_
        intro _ hw'
        obtain ⟨nq, rfl⟩ := hw'
        have hlen : (Lex.cut (sepAt blB s) k).1.length < (pcsOf blB s).length := by
          have h1 := hpx.out.length_le
          rw [HN.out] at h1
          simp at h1
          exact h1
        obtain ⟨fn, tmps, assign, body, hy, hR⟩ := HY.out _ ((Lex.cut (sepAt blB s) k).2, k) _ (abides_drewN hJ hJs nq) hlen
        dsimp only at hy
        clear hlen
        gi_wp2
        refine hR.mono ?_
        rintro e W3 (⟨rfl, hJ3, hk3⟩ | ⟨rfl, hJx3⟩)
        · have hb3 : K2 Bs Bf W W3 := (hb.drewN nq).trans hk3
          gi_wp2
          go_roundw
          case rel => exact ⟨k + 1, by omega, by go_num, by rw [HN.out]; go_num, by rw [HN.out]; exact hJ3, hb3⟩
          case measure => simp [intOf]; omega
        · gi_wp2
          refine bodyPost_ret (results_none rfl _ _ _) rfl ?_
          exact ⟨⟨_, rfl⟩, .inr ⟨_, by have := hpx.out; rw [HN.out] at this; exact this, hJx3⟩⟩
    · obtain rfl : k = s.size := by omega
      by_cases hf : (Lex.cut (sepAt blB s) s.size).2 < s.size
      · have HP : Hid (pcsOf blB s = (Lex.cut (sepAt blB s) s.size).1 ++ [((Lex.cut (sepAt blB s) s.size).2, s.size)]) := Lib.hid (by simp [pcsOf, Lex.pcs, hf])
        have hlen : (Lex.cut (sepAt blB s) s.size).1.length < (pcsOf blB s).length := by rw [HP.out]; simp
        obtain ⟨fn, tmps, assign, body, hy, hR⟩ := HY.out _ ((Lex.cut (sepAt blB s) s.size).2, s.size) _ hJs hlen
        dsimp only at hy
        clear hlen hlt
        gi_wp2
        refine hR.mono ?_
        rintro e W3 (⟨rfl, hJ3, hk3⟩ | ⟨rfl, hJx3⟩)
        · gi_wp2
          go_end0
          exact ⟨⟨_, rfl⟩, .inl ⟨_, HP.out.symm, hJ3⟩⟩
        · gi_wp2
          go_end0
          exact ⟨⟨_, rfl⟩, .inr ⟨_, by rw [HP.out]; exact List.prefix_refl _, hJx3⟩⟩
      · have HP : Hid (pcsOf blB s = (Lex.cut (sepAt blB s) s.size).1) := Lib.hid (by simp [pcsOf, Lex.pcs, hf])
        have hf' : s.size ≤ (Lex.cut (sepAt blB s) s.size).2 := by omega
        gi_wp2
        go_end0
        exact ⟨⟨_, rfl⟩, .inl ⟨_, HP.out.symm, hJs⟩⟩
end
end Go.Proofs.YtjlipkklljjdjaaDoor
