/- Contracts of the iterator over a set's numbers, of slices.Collect over it, and of List of package bits: a slice of the call's own with the numbers of the set. -/
import Derived.RangeFuncBox
import Derived.RangeFuncLeaves
import Derived.Shelf.Abstract
import Derived.WalkKit
import Derived.OwnWalkIn
import Derived.TacticsInMore
import Derived.LoopNIn
import Derived.LoopIn
import Derived.Maps.AppendAt
import Derived.Test.YtlmbfhbfejjpdaaGreatDoorBitF
namespace Go.Proofs.YtlmbfhbfejjpdaaGreatDoor
open Go.ChangeShapes Go.RowKit Go.Shelf

attribute [local go_sem] Oper.semAt_some

/-! the next number, on the list -/
theorem mem_bit {S : Nat} (hS : S < 2 ^ 64) {v : Nat} : v ∈ Bit.mem S ↔ S.testBit v = true :=
  ⟨fun h => (Bit.mem_iff.1 h).2, fun h => Bit.mem_iff.2 ⟨set_hi hS h, h⟩⟩
theorem first_none {S : Nat} (hS : S < 2 ^ 64) (h : Bit.mem S = []) : NoNxt S 0 := by
  intro j hj
  have := (mem_bit hS).2 hj
  rw [h] at this
  simp at this
theorem first_some {S x : Nat} {r : List Nat} (hS : S < 2 ^ 64) (h : Bit.mem S = x :: r) : Nxt S 0 x := by
  have so := Bit.mem_sorted S
  rw [h, List.pairwise_cons] at so
  refine ⟨(mem_bit hS).1 (by rw [h]; simp), by omega, fun j hj _ => ?_⟩
  have := (mem_bit hS).2 hj
  rw [h, List.mem_cons] at this
  rcases this with rfl | q
  · omega
  · have := so.1 j q; omega
theorem more_none {S x : Nat} {p : List Nat} (hS : S < 2 ^ 64) (h : Bit.mem S = p ++ [x]) : NoNxt S ((x : Int) + 1) := by
  have so := Bit.mem_sorted S
  rw [h, List.pairwise_append] at so
  intro j hj
  have := (mem_bit hS).2 hj
  rw [h, List.mem_append] at this
  rcases this with q | q
  · have := so.2.2 j q x (by simp); omega
  · obtain rfl : j = x := by simpa using q
    omega
theorem more_some {S x y : Nat} {p r : List Nat} (hS : S < 2 ^ 64) (h : Bit.mem S = p ++ x :: y :: r) : Nxt S ((x : Int) + 1) y := by
  have so := Bit.mem_sorted S
  rw [h, List.pairwise_append, List.pairwise_cons, List.pairwise_cons] at so
  refine ⟨(mem_bit hS).1 (by rw [h]; simp), ?_, fun j hj hx => ?_⟩
  · have := so.2.1.1 y (by simp); omega
  · have := (mem_bit hS).2 hj
    rw [h, List.mem_append, List.mem_cons, List.mem_cons] at this
    rcases this with q | rfl | rfl | q
    · have := so.2.2 j q x (by simp); omega
    · omega
    · omega
    · have := so.2.1.2.1 j q; omega

/-- what the two variables of the loop hold, ahead of the numbers that are still to come -/
def Ahead (rest : List Nat) (v ok : Value) : Prop :=
  match rest with
  | [] => v = .int .i64 0 ∧ ok = .bool false
  | x :: _ => v = .int .i64 x ∧ ok = .bool true
theorem ahead_first {S : Nat} (hS : S < 2 ^ 64) : ∃ a b, IsNext S 0 a b ∧ Ahead (Bit.mem S) (.int .i64 a) (.bool b) := by
  cases h : Bit.mem S with
  | nil => exact ⟨_, _, .inl ⟨first_none hS h, rfl, rfl⟩, rfl, rfl⟩
  | cons x r => exact ⟨_, _, .inr ⟨x, first_some hS h, rfl, rfl⟩, rfl, rfl⟩
theorem ahead_more {S x : Nat} {p r : List Nat} (hS : S < 2 ^ 64) (h : Bit.mem S = p ++ x :: r) : ∃ a b, IsNext S ((x : Int) + 1) a b ∧ Ahead r (.int .i64 a) (.bool b) := by
  cases r with
  | nil => exact ⟨_, _, .inl ⟨more_none hS h, rfl, rfl⟩, rfl, rfl⟩
  | cons y r => exact ⟨_, _, .inr ⟨y, more_some hS h, rfl, rfl⟩, rfl, rfl⟩
/-- how far the loop still goes -/
def far : Value → Value → Nat
  | v, .bool true => 65 - (intOf v).toNat
  | _, _ => 0

/-- the iterator's own variable, and the table, are kept -/
structure K2 (Bn : Nat) (A B : World) : Prop where
  size : A.heap.size ≤ B.heap.size
  var : B.heap[Bn]? = A.heap[Bn]?
  tab : B.heap[(3 : Nat)]? = A.heap[(3 : Nat)]?
theorem K2.refl (Bn : Nat) (A : World) : K2 Bn A A := ⟨Nat.le_refl _, rfl, rfl⟩
theorem K2.trans {Bn : Nat} {A B C : World} (h : K2 Bn A B) (k : K2 Bn B C) : K2 Bn A C := ⟨Nat.le_trans h.size k.size, k.var.trans h.var, k.tab.trans h.tab⟩
theorem K2.lay {Bn : Nat} {A B : World} (h : K2 Bn A B) (L : Lay A) : Lay B :=
  ⟨fun j hj => (World.cell?_of_block (a := ⟨3, j, none⟩) h.tab).trans (L.c j hj), Nat.lt_of_lt_of_le L.lt h.size⟩
theorem K2.cell {Bn : Nat} {A B : World} (h : K2 Bn A B) : B.cell? ⟨Bn, 0, none⟩ = A.cell? ⟨Bn, 0, none⟩ := World.cell?_of_block (a := ⟨Bn, 0, none⟩) h.var
theorem K2.of_below {Bn n₀ : Nat} {A B : World} (h : Below n₀ A B) (h1 : Bn < n₀) (h2 : 3 < n₀) : K2 Bn A B := ⟨h.size, h.block _ h1, h.block _ h2⟩
theorem K2.put {Bn l : Nat} (W : World) (o' : Obj) (h1 : Bn ≠ l) (h2 : (3 : Nat) ≠ l) : K2 Bn W (W.putObj l o') :=
  ⟨by simp, World.putObj_heap_other h1, World.putObj_heap_other h2⟩

set_option maxRecDepth 100000 in
set_option maxHeartbeats 2000000 in
theorem iter_in (n : Nat) (hn : 1 ≤ n) (l Bn S : Nat) (hS : S < 2 ^ 64) (J Jx : List Nat → World → Prop)
    (hY : ∀ pre x W, J pre W → pre.length < (Bit.mem S).length → YieldAt Fence.wide (n - 1) Tryz.prog l #[.int .i64 (x : Nat)] W fun e W' =>
      (e = .returned (.bool true) ∧ J (pre ++ [x]) W' ∧ K2 Bn W W') ∨ (e = .returned (.bool false) ∧ Jx (pre ++ [x]) W'))
    (W : World) (hBn : W.cell? ⟨Bn, 0, none⟩ = some (.int .u64 S)) (L0 : Lay W) (h0 : J [] W) :
    CallsIn Fence.wide n Tryz.prog 87 #[.func (.yield l) #[] #[], .pointer (some ⟨Bn, 0, none⟩)] W fun e W' => (∃ v, e = .returned v) ∧
      ((∃ ys, ys = Bit.mem S ∧ J ys W') ∨ (∃ pre, pre <+: Bit.mem S ∧ Jx pre W')) := by
  obtain ⟨a0, b0, hn0, ha0⟩ := ahead_first hS
  have N0 := Lib.hid (fun w (L : Lay w) => next_any S 0 a0 b0 w L hS (by omega) hn0)
  have N := Lib.hid (fun (v a : Int) b w (L : Lay w) (v1 : v ≤ 64) (h : IsNext S v a b) => next_any S v a b w L hS (by omega) h)
  have HY := Lib.hid hY
  have HS := Lib.hid hS
  have AH := Lib.hid ha0
  clear hn0 hY hS ha0
  refine callsIn_of_wp Tryz.func87 rfl trivial ?_ rfl
  simp only [Tryz.ntmps87, List.size_toArray, List.length_cons, List.length_nil, Nat.reduceAdd, Nat.reduceSub, Array.replicate_succ, Array.replicate_zero, List.push_toArray, List.append_toArray, List.nil_append, List.cons_append]
  gi_wp2_with (refine ⟨trivial, ?_⟩; gi_at_call 70; refine (callsIn_wide.2 (N0.out _ L0)).mono ?_; rintro e w' ⟨rfl, rfl⟩)
  gi_loopw [3, 4] (fun v ok wr => ∃ pre rest : List Nat, Bit.mem S = pre ++ rest ∧ Hid (Ahead rest v ok) ∧ J pre wr ∧ K2 Bn W wr) (fun v ok _ => far v ok)
  case atStart => exact ⟨[], _, rfl, AH, h0, K2.refl _ _⟩
  case round =>
    obtain ⟨pre, rest, hx, ha, hJ, hb⟩ := hrel
    cases rest with
    | nil =>
      obtain ⟨rfl, rfl⟩ := ha.out
      gi_wp2
      go_end0
      exact ⟨⟨_, rfl⟩, .inl ⟨pre, by simp [hx], hJ⟩⟩
    | cons x rest =>
      obtain ⟨rfl, rfl⟩ := ha.out
      have x64 : x < 64 := Bit.mem_lt (S := S) (by rw [hx]; simp)
      obtain ⟨fn, tmps, assign, body, hy, hR⟩ := HY.out pre x _ hJ (by rw [hx]; simp)
      obtain ⟨a1, b1, hn1, ha1⟩ := ahead_more HS.out hx
      have AH1 := Lib.hid ha1
      have HX := Lib.hid hx
      have HN1 := Lib.hid hn1
      clear ha1 hn1 hx
      gi_wp2
      refine hR.mono ?_
      rintro e W3 (⟨rfl, hJ3, hk3⟩ | ⟨rfl, hJx3⟩)
      · have hb3 : K2 Bn W W3 := hb.trans hk3
        have hc3 : W3.cell? ⟨Bn, 0, none⟩ = some (.int .u64 S) := hb3.cell.trans hBn
        have L3 := hb3.lay L0
        gi_wp2_with (refine ⟨trivial, ?_⟩; gi_at_call 70; refine (callsIn_wide.2 (N.out _ _ _ _ L3 (by omega) HN1.out)).mono ?_; rintro e w' ⟨rfl, rfl⟩)
        go_roundw
        case rel => exact ⟨pre ++ [x], rest, by rw [HX.out]; simp, AH1, hJ3, hb3⟩
        case measure =>
          have h := AH1.out
          cases rest with
          | nil =>
            obtain ⟨ha, hb⟩ := h
            rw [ha, hb]
            simp [far, intOf]; omega
          | cons y r =>
            obtain ⟨ha, hb⟩ := h
            rw [ha, hb]
            have so := Bit.mem_sorted S
            rw [HX.out, List.pairwise_append, List.pairwise_cons] at so
            have := so.2.1.1 y (by simp)
            have y64 : y < 64 := Bit.mem_lt (S := S) (by rw [HX.out]; simp)
            simp [far, intOf]; omega
      · gi_wp2
        refine bodyPost_ret (results_none rfl _ _ _) rfl ?_
        exact ⟨⟨_, rfl⟩, .inr ⟨pre ++ [x], ⟨rest, by rw [HX.out]; simp⟩, hJx3⟩⟩

theorem numbers_any (S : Nat) (w : World) :
    Calls Tryz.prog 72 #[.int .u64 S] w fun e w' => e = .returned (.func (.func 87) #[] #[.pointer (some ⟨w.heap.size, 0, none⟩)]) ∧ w' = w.alloc (.cells #[.int .u64 S] 26) := by
  go_enter Tryz.func72, Tryz.ntmps72
  go_wp2
  go_ret
  exact ⟨rfl, rfl⟩
theorem numbers_stops (n : Nat) (hn : 1 ≤ n) (Bn S : Nat) (hS : S < 2 ^ 64) (w : World) (hB : Bn < w.heap.size) (hc : w.cell? ⟨Bn, 0, none⟩ = some (.int .u64 S)) (L : Lay w) :
    SeqStopsK Fence.wide n Tryz.prog 87 #[.pointer (some ⟨Bn, 0, none⟩)] (fun x : Nat => #[Value.int .i64 (x : Nat)]) (K2 Bn) (fun ys => ys = Bit.mem S) (fun pre => pre <+: Bit.mem S) (Bit.mem S).length w := fun l J Jx W hW _ _ hY h0 =>
  iter_in n hn l Bn S hS J Jx hY W ((hW.cell (p := ⟨Bn, 0, none⟩) hB).trans hc) (L.below hW) h0
theorem k2_b {w : World} {Bn : Nat} (h1 : Bn < w.heap.size) (h2 : 3 < w.heap.size) : ∀ (W : World) (l : Nat) (o o' : Obj), w.heap.size ≤ l → W.heap[l]? = some o → o.isCells = false → o.isWalk = false → K2 Bn W (W.putObj l o') :=
  fun W _ _ o' hl _ _ _ => K2.put W o' (Nat.ne_of_lt (Nat.lt_of_lt_of_le h1 hl)) (Nat.ne_of_lt (Nat.lt_of_lt_of_le h2 hl))

theorem infoInt : (Tryz.prog.info? 3).map (fun i => (i.zero, i.size, i.bytes)) = some (some (.int .i64 0), 1, 8) := by kernel_rfl
/-- the numbers of a list, as Go has them -/
def asInts (l : List Nat) : List Int := l.map (fun x : Nat => (x : Int))
theorem asInts_len (l : List Nat) : (asInts l).length = l.length := by simp [asInts]
theorem asInts_snoc (l : List Nat) (x : Nat) : (asInts (l ++ [x])).map (Value.int .i64) = (asInts l).map (Value.int .i64) ++ [.int .i64 x] := by simp [asInts]

theorem ownsRow_base {W : World} {base base' : Nat} {e : TypeId} {size : Nat} {v : Value} {k : Nat} {xs : List Value} (h : W.ownsRow base e size v k xs) (hb : base' ≤ base) : W.ownsRow base' e size v k xs := by
  refine ⟨h.1, ?_⟩
  rcases h.2 with hn | ⟨g, cap, cur, hv, hbg, rest⟩
  · exact .inl hn
  · exact .inr ⟨g, cap, cur, hv, Nat.le_trans hb hbg, rest⟩
end Go.Proofs.YtlmbfhbfejjpdaaGreatDoor
