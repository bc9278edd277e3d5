/- Contract of the iterator over the numbers of a set, from one on, in a direction. -/
import Derived.Shelf.Abstract
import Derived.WalkKit
import Derived.OwnWalkIn
import Derived.TacticsInMore
import Derived.LoopNIn
import Derived.LoopIn
import Derived.Maps.AppendAt
import Derived.Test.YtbehendogcghjaaDoorMatA
namespace Go.Proofs.YtbehendogcghjaaDoor
open Go.ChangeShapes Go.RowKit Go.Shelf

attribute [local go_sem] Oper.semAt_some

/-- what the two variables of the loop hold, ahead of the numbers that are still to come -/
def AheadD (rest : List Nat) (v ok : Value) : Prop :=
  match rest with
  | [] => v = .int .i64 0 ∧ ok = .bool false
  | x :: _ => v = .int .i64 x ∧ ok = .bool true
theorem aheadD_ex {d : Mat.Dir} {S : Nat} {v : Int} (hS : S < 2 ^ 64) : ∃ a b, IsFound d S v a b ∧ AheadD (d.nums S v) (.int .i64 a) (.bool b) := by
  cases h : d.nums S v with
  | nil => exact ⟨_, _, found_nil hS h, rfl, rfl⟩
  | cons x r => exact ⟨_, _, found_cons hS h, rfl, rfl⟩
/-- how far the loop still goes -/
def farD (d : Mat.Dir) : Value → Value → Nat
  | v, .bool true => (match d with
    | .up => 65 - (intOf v).toNat
    | .down => (intOf v).toNat + 1)
  | _, _ => 0

set_option maxRecDepth 100000 in
set_option maxHeartbeats 2000000 in
theorem numbers_in (own : Nat → Prop) (n : Nat) (hn : 1 ≤ n) (l Bw Bs Bv : Nat) (d : Mat.Dir) (S : Nat) (v : Int) (hS : S < 2 ^ 64) (v0 : -1000000 ≤ v) (v1 : v ≤ 1000000)
    (ow : ¬ own Bw) (os : ¬ own Bs) (ot : ¬ own 1) (J Jx : List (Fin 64) → World → Prop)
    (hY : ∀ pre x W, J pre W → pre.length < 64 → YieldAt Fence.wide (n - 1) Tryd.prog l #[.int .i64 ((x : Fin 64).val : Nat)] W fun e W' =>
      (e = .returned (.bool true) ∧ J (pre ++ [x]) W' ∧ Kc own W W') ∨ (e = .returned (.bool false) ∧ Jx (pre ++ [x]) W'))
    (W : World) (cw : W.cell? ⟨Bw, 0, none⟩ = some (.int .i64 d.val)) (cs : W.cell? ⟨Bs, 0, none⟩ = some (.int .u64 S)) (cv : W.cell? ⟨Bv, 0, none⟩ = some (.int .i64 v)) (L0 : Lay W) (h0 : J [] W) :
    CallsIn Fence.wide n Tryd.prog 83 #[.func (.yield l) #[] #[], .pointer (some ⟨Bw, 0, none⟩), .pointer (some ⟨Bs, 0, none⟩), .pointer (some ⟨Bv, 0, none⟩)] W fun e W' => (∃ v, e = .returned v) ∧
      ((∃ ys : List (Fin 64), ys.map (fun x => x.val) = d.nums S v ∧ J ys W') ∨ (∃ pre : List (Fin 64), pre.map (fun x => x.val) <+: d.nums S v ∧ Jx pre W')) := by
  obtain ⟨a0, b0, hn0, ha0⟩ := aheadD_ex (d := d) (S := S) (v := v) hS
  obtain ⟨D, hD⟩ : ∃ D, d.val = D := ⟨_, rfl⟩
  have N0 := Lib.hid (fun w (L : Lay w) => find_any d S v a0 b0 w L hS (by omega) (by omega) hn0)
  have N := Lib.hid (fun (u a : Int) b w (L : Lay w) (u0 : -5 ≤ u) (u1 : u ≤ 70) (h : IsFound d S u a b) => find_any d S u a b w L hS (by omega) (by omega) h)
  rw [hD] at N0 N cw
  have HD := Lib.hid hD
  have HY := Lib.hid hY
  have HS := Lib.hid hS
  have AH := Lib.hid ha0
  have OW := Lib.hid ow; have OS := Lib.hid os; have OT := Lib.hid ot
  have LL := Lib.hid L0
  clear hn0 hY hS ha0 hD ow os ot L0 v0 v1
  refine callsIn_of_wp Tryd.func83 rfl trivial ?_ rfl
  simp only [Tryd.ntmps83, List.size_toArray, List.length_cons, List.length_nil, Nat.reduceAdd, Nat.reduceSub, Array.replicate_succ, Array.replicate_zero, List.push_toArray, List.append_toArray, List.nil_append, List.cons_append]
  gi_wp2_with (refine ⟨trivial, ?_⟩; gi_at_call 84; refine (callsIn_wide.2 (N0.out _ LL.out)).mono ?_; rintro e w' ⟨rfl, rfl⟩)
  gi_loopw [5, 6] (fun v' ok wr => ∃ (pre : List (Fin 64)) (u : Int), Hid (pre.map (fun x => x.val) ++ d.nums S u = d.nums S v) ∧ Hid (AheadD (d.nums S u) v' ok) ∧ J pre wr ∧ Kc own W wr) (fun v' ok _ => farD d v' ok)
  case atStart => exact ⟨[], v, Lib.hid (by simp), AH, h0, Kc.refl _ _⟩
  case round =>
    obtain ⟨pre, u, HX, HA, hJ, hk⟩ := hrel
    cases hr : d.nums S u with
    | nil =>
      obtain ⟨rfl, rfl⟩ : _ ∧ _ := by have := HA.out; rw [hr] at this; exact this
      have HR := Lib.hid hr
      clear hr
      gi_wp2
      refine ⟨fun _ h => (by cases h), ?_⟩
      gi_wp2
      go_end0
      exact ⟨⟨_, rfl⟩, .inl ⟨pre, by have := HX.out; rw [HR.out, List.append_nil] at this; exact this, hJ⟩⟩
    | cons x rest =>
      obtain ⟨rfl, rfl⟩ : _ ∧ _ := by have := HA.out; rw [hr] at this; exact this
      obtain ⟨X, rfl⟩ : ∃ X : Fin 64, X.val = x := ⟨⟨x, (Mat.nums_head hr).1⟩, rfl⟩
      have X64 := Lib.hid X.isLt
      have hlen : pre.length < 64 := by
        have h1 := Mat.nums_len d S v
        have h2 := congrArg List.length HX.out
        rw [hr] at h2
        simp at h2
        omega
      obtain ⟨fn, tmps, assign, body, hy, hR⟩ := HY.out pre X _ hJ hlen
      have HR := Lib.hid hr
      clear hr hlen
      obtain ⟨a1, b1, hn1, ha1⟩ := aheadD_ex (d := d) (S := S) (v := (X.val : Int) + d.val) HS.out
      rw [HD.out] at hn1
      have HN1 := Lib.hid hn1
      have HA1 := Lib.hid ha1
      have us : Hid (-5 ≤ (X.val : Int) + D ∧ (X.val : Int) + D ≤ 70) := Lib.hid (by have := HD.out; have := X64.out; rcases d.val_or with e | e <;> omega)
      have wx : IntKind.i64.wrap ((X.val : Int) + D) = (X.val : Int) + D := by have := us.out; rw [IntKind.wrap_i64]; omega
      clear hn1 ha1
      gi_wp2
      refine hR.mono ?_
      rintro e W3 (⟨rfl, hJ3, hk3⟩ | ⟨rfl, hJx3⟩)
      · have hk4 : Kc own W W3 := hk.trans hk3
        have c1 : W3.cell? ⟨Bw, 0, none⟩ = some (.int .i64 D) := hk4.cell (p := ⟨Bw, 0, none⟩) OW.out cw
        have c2 : W3.cell? ⟨Bs, 0, none⟩ = some (.int .u64 S) := hk4.cell (p := ⟨Bs, 0, none⟩) OS.out cs
        have L3 := Lib.hid (hk4.lay OT.out LL.out)
        gi_wp2_with (refine ⟨trivial, ?_⟩; gi_at_call 84; refine (callsIn_wide.2 (N.out _ _ _ _ L3.out us.out.1 us.out.2 HN1.out)).mono ?_; rintro e w' ⟨rfl, rfl⟩)
        go_roundw
        case rel =>
          refine ⟨pre ++ [X], (X.val : Int) + d.val, Lib.hid ?_, HA1, hJ3, hk4⟩
          have := HX.out
          rw [HR.out] at this
          rw [Mat.nums_more HR.out]
          simpa using this
        case measure =>
          have h := HA1.out
          have m := Mat.nums_more HR.out
          rw [m] at h
          cases rest with
          | nil =>
            obtain ⟨ha, hb⟩ := h
            rw [ha, hb]
            have := X64.out
            cases d <;> simp [farD, intOf] <;> omega
          | cons y r =>
            obtain ⟨ha, hb⟩ := h
            rw [ha, hb]
            have q := (Mat.nums_head m)
            have := X64.out
            have q3 := q.2.2
            cases d <;> simp [farD, intOf, Mat.Dir.val] at q3 ⊢ <;> omega
      · gi_wp2
        go_end0
        exact ⟨⟨_, rfl⟩, .inr ⟨pre ++ [X], ⟨rest, by have := HX.out; rw [HR.out] at this; simpa using this⟩, hJx3⟩⟩
theorem numbers_stops (own : Nat → Prop) (n : Nat) (hn : 1 ≤ n) (Bw Bs Bv : Nat) (d : Mat.Dir) (S : Nat) (v : Int) (hS : S < 2 ^ 64) (v0 : -1000000 ≤ v) (v1 : v ≤ 1000000)
    (ow : ¬ own Bw) (os : ¬ own Bs) (ot : ¬ own 1) (w : World)
    (bw : Boxed w Bw 55 (.int .i64 d.val)) (bs : Boxed w Bs 22 (.int .u64 S)) (bv : Boxed w Bv 3 (.int .i64 v)) (L : Lay w) :
    SeqStopsK Fence.wide n Tryd.prog 83 #[.pointer (some ⟨Bw, 0, none⟩), .pointer (some ⟨Bs, 0, none⟩), .pointer (some ⟨Bv, 0, none⟩)] (fun x : Fin 64 => #[Value.int .i64 (x.val : Nat)]) (Kc own)
      (fun ys => ys.map (fun x => x.val) = d.nums S v) (fun pre => pre.map (fun x => x.val) <+: d.nums S v) 64 w := fun l J Jx W hW _ _ hY h0 =>
  numbers_in own n hn l Bw Bs Bv d S v hS v0 v1 ow os ot J Jx hY W ((hW.cell (p := ⟨Bw, 0, none⟩) bw.lt).trans bw.cell) ((hW.cell (p := ⟨Bs, 0, none⟩) bs.lt).trans bs.cell) ((hW.cell (p := ⟨Bv, 0, none⟩) bv.lt).trans bv.cell) (L.below hW) h0
end Go.Proofs.YtbehendogcghjaaDoor
