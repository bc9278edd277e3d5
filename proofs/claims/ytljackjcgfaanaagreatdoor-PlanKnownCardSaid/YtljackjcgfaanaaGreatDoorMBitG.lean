/- Contracts of the iterator over a set's numbers, of slices.Collect over it, and of List of package bits: a slice of the call's own with the numbers of the set. Contracts of the document's List and Count, and of the statements' comparison of two lists of numbers. Plain mathematics of the count of a number's bits, eight bits at a time; the contract of OnesCount64, and of Count of package bits. -/
import Derived.RangeFuncBox
import Derived.RangeFuncLeaves
import Derived.Shelf.Abstract
import Derived.WalkKit
import Derived.OwnWalkIn
import Derived.TacticsInMore
import Derived.LoopNIn
import Derived.LoopIn
import Derived.Maps.AppendAt
import Derived.Test.YtljackjcgfaanaaGreatDoorMBitB
import Derived.OwnWalk
import Derived.BigQuiet
import Derived.Deep.QuietTactic
/- Contracts of the iterator over a set's numbers, of slices.Collect over it, and of List of package bits: a slice of the call's own with the numbers of the set. -/
namespace Go.Proofs.YtljackjcgfaanaaGreatDoor
open Go.ChangeShapes Go.RowKit Go.Shelf

attribute [local go_sem] Oper.semAt_some

/-- how far the loop still goes -/
def far : Value → Value → Nat
  | v, .bool true => 65 - (intOf v).toNat
  | _, _ => 0

/-- the iterator's own variable, and the table, are kept -/
structure K2 (Bn : Nat) (A B : World) : Prop where
  size : A.heap.size ≤ B.heap.size
  var : B.heap[Bn]? = A.heap[Bn]?
  tab : B.heap[(1 : Nat)]? = A.heap[(1 : Nat)]?
theorem K2.refl (Bn : Nat) (A : World) : K2 Bn A A := ⟨Nat.le_refl _, rfl, rfl⟩
theorem K2.trans {Bn : Nat} {A B C : World} (h : K2 Bn A B) (k : K2 Bn B C) : K2 Bn A C := ⟨Nat.le_trans h.size k.size, k.var.trans h.var, k.tab.trans h.tab⟩
theorem K2.lay {Bn : Nat} {A B : World} (h : K2 Bn A B) (L : Lay A) : Lay B :=
  ⟨fun j hj => (World.cell?_of_block (a := ⟨1, j, none⟩) h.tab).trans (L.c j hj), Nat.lt_of_lt_of_le L.lt h.size⟩
theorem K2.cell {Bn : Nat} {A B : World} (h : K2 Bn A B) : B.cell? ⟨Bn, 0, none⟩ = A.cell? ⟨Bn, 0, none⟩ := World.cell?_of_block (a := ⟨Bn, 0, none⟩) h.var
theorem K2.of_below {Bn n₀ : Nat} {A B : World} (h : Below n₀ A B) (h1 : Bn < n₀) (h2 : 1 < n₀) : K2 Bn A B := ⟨h.size, h.block _ h1, h.block _ h2⟩
theorem K2.put {Bn l : Nat} (W : World) (o' : Obj) (h1 : Bn ≠ l) (h2 : (1 : Nat) ≠ l) : K2 Bn W (W.putObj l o') :=
  ⟨by simp, World.putObj_heap_other h1, World.putObj_heap_other h2⟩

theorem infoInt : (Tryz.prog.info? 3).map (fun i => (i.zero, i.size, i.bytes)) = some (some (.int .i64 0), 1, 8) := by kernel_rfl
/-- the numbers of a list, as Go has them -/
def asInts (l : List Nat) : List Int := l.map (fun x : Nat => (x : Int))
theorem asInts_snoc (l : List Nat) (x : Nat) : (asInts (l ++ [x])).map (Value.int .i64) = (asInts l).map (Value.int .i64) ++ [.int .i64 x] := by simp [asInts]

theorem ownsRow_base {W : World} {base base' : Nat} {e : TypeId} {size : Nat} {v : Value} {k : Nat} {xs : List Value} (h : W.ownsRow base e size v k xs) (hb : base' ≤ base) : W.ownsRow base' e size v k xs := by
  refine ⟨h.1, ?_⟩
  rcases h.2 with hn | ⟨g, cap, cur, hv, hbg, rest⟩
  · exact .inl hn
  · exact .inr ⟨g, cap, cur, hv, Nat.le_trans hb hbg, rest⟩
end Go.Proofs.YtljackjcgfaanaaGreatDoor
/- Contracts of the document's List and Count, and of the statements' comparison of two lists of numbers. -/
namespace Go.Proofs.YtljackjcgfaanaaGreatDoor
open Go.ChangeShapes Go.RowKit

/-- a list of the call's own, and what lay before the call is as it was -/
structure Own1 (w : World) (v : Value) (l : List Nat) (wr : World) : Prop where
  row : wr.ownsRow w.heap.size 3 1 v l.length ((asInts l).map (Value.int .i64))
  below : Below w.heap.size w wr
theorem Own1.step {w wr w1 : World} {v v' : Value} {l : List Nat} {o : Obj} {x : Nat} (h : Own1 w v l wr)
    (hown : w1.ownsRow w.heap.size 3 1 v' (l.length + 1) ((asInts l).map (Value.int .i64) ++ [.int .i64 x])) (hg : (wr.alloc o).grownBy w1 v.ownBlock) : Own1 w v' (l ++ [x]) w1 := by
  have hs := h.below.size
  refine ⟨by rw [asInts_snoc]; simpa using hown, (h.below.alloc hs o).grown hg (by simp; omega) (fun k hk => (h.row.lt k hk).1)⟩
set_option maxRecDepth 100000 in
theorem listR_any (S : Nat) (hS : S < 2 ^ 64) (w : World) :
    Calls Tryz.prog 137 #[.int .u64 S] w fun e W' => ∃ v, e = .returned v ∧ Own1 w v (Bit.mem S) W' := by
  obtain ⟨i0, hi, hz0, hz1, hz2⟩ := info_parts infoInt
  have A := Lib.hid (fun (k : Nat) w => hasR_any S k w hS)
  have E := Lib.hid (fun k => has_nat hS k)
  clear hS
  go_enter Tryz.func137, Tryz.ntmps137
  go_wp2_with fail
  go_loopw [3, 4] (fun v i wr => ∃ k : Nat, k ≤ 64 ∧ i = .int .i64 k ∧ Hid (Own1 w v (Bit.memTo S k) wr)) (fun _ i _ => 64 - (intOf i).toNat)
  case atStart => exact ⟨0, by omega, rfl, Lib.hid ⟨World.ownsRow_nil _ _ _ _, Below.refl _ _⟩⟩
  case round =>
    obtain ⟨k, hk, rfl, ho⟩ := hrel
    by_cases c : k < 64
    · have ML := Bit.memTo_len S k
      have MS := Lib.hid (Bit.memTo_succ S k)
      cases t : S.testBit k with
      | true =>
        have e : hasB S k = true := (E.out k).trans t
        rw [t, if_pos rfl] at MS
        clear t
        obtain ⟨l, hl⟩ : ∃ l, Bit.memTo S k = l := ⟨_, rfl⟩
        rw [hl] at ho ML MS
        clear hl
        have hsz := ho.out.below.size
        go_wp2_with (first
          | (go_at_call 99; refine (A.out k _).mono ?_; rw [e]; rintro e w1 ⟨rfl, rfl⟩)
          | (at_builtin; refine wpList_append_own_at _ rfl (.tmp 12) (.tmp 14) 50 rfl w.heap.size 3 i0 (.int .i64 0) 1 8 Tryz.underlying50 hi hz0 hz1 hz2 rfl (by decide) _ l.length _ rfl (ho.out.row.alloc _) ⟨wr.heap.size, 0, none⟩ 1 1 [.int .i64 k] rfl ?c1 ?c2 ?c3 ?c4 ?c5 ?c6 ?c7))
        case c1 => rfl
        case c2 => exact cell_one_new _ _ _
        case c3 => simp [Value.oneCell']
        case c4 => simp [maxLen]; omega
        case c5 => omega
        case c6 => simp; omega
        case c7 =>
          intro v1 w1 hown hg _ _
          have h1 := ho.out.step hown hg
          rw [← MS.out] at h1
          have H1 := Lib.hid h1
          clear h1 hown hg
          go_wp2_with fail
          go_roundw
          case rel => exact ⟨k + 1, by omega, by go_num, H1⟩
          case measure => simp [intOf]; omega
      | false =>
        have e : hasB S k = false := (E.out k).trans t
        rw [t, if_neg (by simp)] at MS
        clear t
        go_wp2_with (go_at_call 99; refine (A.out k _).mono ?_; rw [e]; rintro e w1 ⟨rfl, rfl⟩)
        go_roundw
        case rel => exact ⟨k + 1, by omega, by go_num, by rw [MS.out]; exact ho⟩
        case measure => simp [intOf]; omega
    · obtain rfl : k = 64 := by omega
      go_wp2_with fail
      go_ret
      exact ⟨_, rfl, ho.out⟩
theorem own_len {w wr : World} {v : Value} {l : List Nat} (h : Own1 w v l wr) : ∃ a cap, v = .slice a l.length cap := by
  rcases h.row.2 with ⟨rfl, h0⟩ | ⟨g, cap, cur, rfl, _⟩
  · rw [h0]; exact ⟨_, _, rfl⟩
  · exact ⟨_, _, rfl⟩
theorem countR_any (S : Nat) (hS : S < 2 ^ 64) (w : World) :
    Calls Tryz.prog 120 #[.int .u64 S] w fun e W' => e = .returned (.int .i64 (Bit.mem S).length) ∧ Below w.heap.size w W' := by
  have A := Lib.hid (listR_any S hS w)
  obtain ⟨l, hl⟩ : ∃ l, Bit.mem S = l := ⟨_, rfl⟩
  rw [hl] at A ⊢
  clear hl
  go_enter Tryz.func120, Tryz.ntmps120
  go_wp2_with fail
  refine A.out.mono ?_
  rintro e w1 ⟨v, rfl, ho⟩
  have HO := Lib.hid ho
  obtain ⟨a, cap, rfl⟩ := own_len ho
  clear ho
  go_wp2_with fail
  go_ret
  exact ⟨rfl, HO.out.below⟩

end Go.Proofs.YtljackjcgfaanaaGreatDoor
/- Plain mathematics of the count of a number's bits, eight bits at a time; the contract of OnesCount64, and of Count of package bits. -/
namespace Go.Proofs.YtljackjcgfaanaaGreatDoor
open Go.ChangeShapes Go.RowKit

namespace Pop
theorem and256 {a b c d : Nat} (hb : b < 256) (hd : d < 256) : (a * 256 + b) &&& (c * 256 + d) = (a &&& c) * 256 + (b &&& d) := by
  have h1 : ((a * 256 + b) &&& (c * 256 + d)) / 2 ^ 8 = (a * 256 + b) / 2 ^ 8 &&& (c * 256 + d) / 2 ^ 8 := Nat.and_div_two_pow
  have h2 : ((a * 256 + b) &&& (c * 256 + d)) % 2 ^ 8 = ((a * 256 + b) % 2 ^ 8) &&& ((c * 256 + d) % 2 ^ 8) := Nat.and_mod_two_pow
  rw [show (a * 256 + b) / 2 ^ 8 = a by omega, show (c * 256 + d) / 2 ^ 8 = c by omega] at h1
  rw [show (a * 256 + b) % 2 ^ 8 = b by omega, show (c * 256 + d) % 2 ^ 8 = d by omega] at h2
  omega
def val : List Nat → Nat
  | [] => 0
  | b :: r => val r * 256 + b
def mask (m : Nat) (l : List Nat) : Nat := val (l.map fun _ => m)
def g1 (b : Nat) : Nat := (b / 2 &&& 85) + (b &&& 85)
def g2 (b : Nat) : Nat := (b / 4 &&& 51) + (b &&& 51)
def g3 (b : Nat) : Nat := (b / 16 + b) &&& 15
theorem dec1 : ∀ b : Fin 256, ∀ q : Fin 2, (q.val * 128 + b.val / 2) &&& 85 = (b.val / 2 &&& 85) := by decide +kernel
theorem dec2 : ∀ b : Fin 256, ∀ q : Fin 4, (q.val * 64 + b.val / 4) &&& 51 = (b.val / 4 &&& 51) := by decide +kernel
theorem dec3 : ∀ q : Fin 5, ∀ b : Fin 256, b.val % 16 ≤ 4 → b.val / 16 ≤ 4 → (q.val * 16 + b.val / 16 + b.val) < 256 ∧ (q.val * 16 + b.val / 16 + b.val) &&& 15 = g3 b.val := by decide +kernel
theorem dec4 : ∀ b : Fin 256, g1 b.val < 256 ∧ g2 (g1 b.val) < 256 ∧ g2 (g1 b.val) % 16 ≤ 4 ∧ g2 (g1 b.val) / 16 ≤ 4 ∧ g3 (g2 (g1 b.val)) = (Bit.memTo b.val 8).length := by decide +kernel
theorem step1 (l : List Nat) (h : ∀ b ∈ l, b < 256) : (val l / 2 &&& mask 85 l) + (val l &&& mask 85 l) = val (l.map g1) := by
  induction l with
  | nil => rfl
  | cons b r ih =>
    have hb : b < 256 := h b (by simp)
    have ih := ih (fun x hx => h x (by simp [hx]))
    unfold mask at ih ⊢
    simp only [List.map_cons, val]
    have e : (val r * 256 + b) / 2 = (val r / 2) * 256 + (val r % 2 * 128 + b / 2) := by omega
    have d := dec1 ⟨b, hb⟩ ⟨val r % 2, by omega⟩
    simp only at d
    rw [e, and256 (by omega) (by decide), and256 hb (by decide), d]
    show _ = _ * 256 + ((b / 2 &&& 85) + (b &&& 85))
    omega
theorem step2 (l : List Nat) (h : ∀ b ∈ l, b < 256) : (val l / 4 &&& mask 51 l) + (val l &&& mask 51 l) = val (l.map g2) := by
  induction l with
  | nil => rfl
  | cons b r ih =>
    have hb : b < 256 := h b (by simp)
    have ih := ih (fun x hx => h x (by simp [hx]))
    unfold mask at ih ⊢
    simp only [List.map_cons, val]
    have e : (val r * 256 + b) / 4 = (val r / 4) * 256 + (val r % 4 * 64 + b / 4) := by omega
    have d := dec2 ⟨b, hb⟩ ⟨val r % 4, by omega⟩
    simp only at d
    rw [e, and256 (by omega) (by decide), and256 hb (by decide), d]
    show _ = _ * 256 + ((b / 4 &&& 51) + (b &&& 51))
    omega
theorem step3 (l : List Nat) (h : ∀ b ∈ l, b < 256 ∧ b % 16 ≤ 4 ∧ b / 16 ≤ 4) : (val l / 16 + val l) &&& mask 15 l = val (l.map g3) := by
  induction l with
  | nil => rfl
  | cons b r ih =>
    obtain ⟨hb, h1, h2⟩ := h b (by simp)
    have ih := ih (fun x hx => h x (by simp [hx]))
    have q : val r % 16 ≤ 4 := by
      cases r with
      | nil => simp [val]
      | cons c s =>
        have := (h c (by simp)).2.1
        simp only [val]; omega
    unfold mask at ih ⊢
    simp only [List.map_cons, val]
    have d := dec3 ⟨val r % 16, by omega⟩ ⟨b, hb⟩ h1 h2
    simp only at d
    have e : (val r * 256 + b) / 16 + (val r * 256 + b) = (val r / 16 + val r) * 256 + (val r % 16 * 16 + b / 16 + b) := by omega
    rw [e, and256 d.1 (by decide), ih, d.2]
def bytes (x : Nat) : List Nat := [x % 256, x / 256 % 256, x / 65536 % 256, x / 16777216 % 256, x / 4294967296 % 256, x / 1099511627776 % 256, x / 281474976710656 % 256, x / 72057594037927936]
theorem val_bytes (x : Nat) : val (bytes x) = x := by
  simp only [bytes, val]; omega
theorem bytes_lt {x : Nat} (h : x < 2 ^ 64) : ∀ b ∈ bytes x, b < 256 := by
  intro b hb
  simp only [bytes, List.mem_cons, List.not_mem_nil, or_false] at hb
  omega
theorem memTo_256 {a b : Nat} (hb : b < 256) (k : Nat) : (Bit.memTo (a * 256 + b) (8 + k)).length = (Bit.memTo b 8).length + (Bit.memTo a k).length := by
  have tb : ∀ j, (a * 256 + b).testBit j = if j < 8 then b.testBit j else a.testBit (j - 8) := fun j => by
    have := Nat.testBit_two_pow_mul_add a (show b < 2 ^ 8 by omega) j
    rwa [Nat.mul_comm] at this
  unfold Bit.memTo
  rw [show List.range' 0 (8 + k) = List.range' 0 8 ++ List.range' 8 k by rw [← List.range'_append_1], List.filter_append, List.length_append]
  congr 1
  · congr 1
    apply List.filter_congr
    intro j hj
    rw [tb, if_pos (by simpa using (List.mem_range'_1.1 hj).2)]
  · rw [show List.range' 8 k = (List.range' 0 k).map (8 + ·) by rw [List.map_add_range'], List.filter_map, List.length_map]
    congr 1
    apply List.filter_congr
    intro j hj
    simp only [Function.comp]
    rw [tb, if_neg (by omega), Nat.add_sub_cancel_left]
theorem sum_bytes (x : Nat) : (Bit.memTo x 64).length = (Bit.memTo (x % 256) 8).length + (Bit.memTo (x / 256 % 256) 8).length + (Bit.memTo (x / 65536 % 256) 8).length + (Bit.memTo (x / 16777216 % 256) 8).length + (Bit.memTo (x / 4294967296 % 256) 8).length + (Bit.memTo (x / 1099511627776 % 256) 8).length + (Bit.memTo (x / 281474976710656 % 256) 8).length + (Bit.memTo (x / 72057594037927936) 8).length := by
  have st : ∀ y k, (Bit.memTo y (8 + k)).length = (Bit.memTo (y % 256) 8).length + (Bit.memTo (y / 256) k).length := fun y k => by
    have := memTo_256 (a := y / 256) (b := y % 256) (by omega) k
    rwa [show y / 256 * 256 + y % 256 = y by omega] at this
  rw [show (64 : Nat) = 8 + 56 from rfl, st x 56, show (56 : Nat) = 8 + 48 from rfl, st _ 48, show (48 : Nat) = 8 + 40 from rfl, st _ 40, show (40 : Nat) = 8 + 32 from rfl, st _ 32, show (32 : Nat) = 8 + 24 from rfl, st _ 24, show (24 : Nat) = 8 + 16 from rfl, st _ 16, show (16 : Nat) = 8 + 8 from rfl, st _ 8]
  simp only [Nat.div_div_eq_div_mul, Nat.reduceMul]
  omega
/-- the three steps, on a number of 64 bits -/
theorem three {x : Nat} (h : x < 2 ^ 64) : ∃ x1 x2 h0 h1 h2 h3 h4 h5 h6 h7 : Nat,
    (x / 2 &&& 6148914691236517205) + (x &&& 6148914691236517205) = x1 ∧ x1 < 2 ^ 64 ∧
    (x1 / 4 &&& 3689348814741910323) + (x1 &&& 3689348814741910323) = x2 ∧ x2 / 16 + x2 < 2 ^ 64 ∧
    (x2 / 16 + x2) &&& 1085102592571150095 = h0 + h1 * 256 + h2 * 65536 + h3 * 16777216 + h4 * 4294967296 + h5 * 1099511627776 + h6 * 281474976710656 + h7 * 72057594037927936 ∧
    (h0 ≤ 8 ∧ h1 ≤ 8 ∧ h2 ≤ 8 ∧ h3 ≤ 8 ∧ h4 ≤ 8 ∧ h5 ≤ 8 ∧ h6 ≤ 8 ∧ h7 ≤ 8) ∧ h0 + h1 + h2 + h3 + h4 + h5 + h6 + h7 = (Bit.mem x).length := by
  have hb := bytes_lt h
  have d := fun b (hb : b < 256) => dec4 ⟨b, hb⟩
  simp only at d
  have s1 := step1 (bytes x) hb
  have s2 := step2 ((bytes x).map g1) (fun b hq => by obtain ⟨c, hc, rfl⟩ := List.mem_map.1 hq; exact (d c (hb c hc)).1)
  have s3 := step3 (((bytes x).map g1).map g2) (fun b hq => by
    obtain ⟨c', hc', rfl⟩ := List.mem_map.1 hq
    obtain ⟨c, hc, rfl⟩ := List.mem_map.1 hc'
    exact ⟨(d c (hb c hc)).2.1, (d c (hb c hc)).2.2.1, (d c (hb c hc)).2.2.2.1⟩)
  rw [val_bytes] at s1
  have sb := sum_bytes x
  rw [Bit.memTo_all] at sb
  have e := fun b (hb : b < 256) => (d b hb).2.2.2.2
  have l8 := fun b => Bit.memTo_len b 8
  have hb' : ∀ b ∈ bytes x, g1 b < 256 ∧ g2 (g1 b) < 256 ∧ g2 (g1 b) / 16 ≤ 4 := fun b hq => ⟨(d b (hb b hq)).1, (d b (hb b hq)).2.1, (d b (hb b hq)).2.2.2.1⟩
  unfold mask at s1 s2 s3
  unfold bytes at s1 s2 s3 hb hb'
  simp only [List.map_cons, List.map_nil, val] at s1 s2 s3
  simp only [List.mem_cons, List.not_mem_nil, or_false, forall_eq_or_imp, forall_eq] at hb hb'
  obtain ⟨b0, b1, b2, b3, b4, b5, b6, b7⟩ := hb
  obtain ⟨c0, c1, c2, c3, c4, c5, c6, c7⟩ := hb'
  refine ⟨_, _, (Bit.memTo (x % 256) 8).length, (Bit.memTo (x / 256 % 256) 8).length, (Bit.memTo (x / 65536 % 256) 8).length, (Bit.memTo (x / 16777216 % 256) 8).length, (Bit.memTo (x / 4294967296 % 256) 8).length, (Bit.memTo (x / 1099511627776 % 256) 8).length, (Bit.memTo (x / 281474976710656 % 256) 8).length, (Bit.memTo (x / 72057594037927936) 8).length, s1, ?_, s2, ?_, ?_, ⟨l8 _, l8 _, l8 _, l8 _, l8 _, l8 _, l8 _, l8 _⟩, sb.symm⟩
  · omega
  · omega
  · rw [e _ b0, e _ b1, e _ b2, e _ b3, e _ b4, e _ b5, e _ b6, e _ b7] at s3
    refine s3.trans ?_
    omega
/-- the sums of neighbours -/
theorem fold {X h0 h1 h2 h3 h4 h5 h6 h7 : Nat} (e : X = h0 + h1 * 256 + h2 * 65536 + h3 * 16777216 + h4 * 4294967296 + h5 * 1099511627776 + h6 * 281474976710656 + h7 * 72057594037927936)
    (b : h0 ≤ 8 ∧ h1 ≤ 8 ∧ h2 ≤ 8 ∧ h3 ≤ 8 ∧ h4 ≤ 8 ∧ h5 ≤ 8 ∧ h6 ≤ 8 ∧ h7 ≤ 8) :
    ∃ x4 x5 x6 : Nat, X + X / 256 = x4 ∧ x4 + x4 / 65536 = x5 ∧ x5 + x5 / 4294967296 = x6 ∧ x4 < 2 ^ 62 ∧ x5 < 2 ^ 62 ∧ x6 < 2 ^ 62 ∧ x6 % 128 = h0 + h1 + h2 + h3 + h4 + h5 + h6 + h7 := by
  have e4 : X + X / 256 = (h0 + h1) + (h1 + h2) * 256 + (h2 + h3) * 65536 + (h3 + h4) * 16777216 + (h4 + h5) * 4294967296 + (h5 + h6) * 1099511627776 + (h6 + h7) * 281474976710656 + h7 * 72057594037927936 := by
    have : X / 256 = h1 + h2 * 256 + h3 * 65536 + h4 * 16777216 + h5 * 4294967296 + h6 * 1099511627776 + h7 * 281474976710656 := by omega
    omega
  obtain ⟨x4, hx4⟩ : ∃ x4, X + X / 256 = x4 := ⟨_, rfl⟩
  have e4' : x4 = (h0 + h1) + (h1 + h2) * 256 + (h2 + h3) * 65536 + (h3 + h4) * 16777216 + (h4 + h5) * 4294967296 + (h5 + h6) * 1099511627776 + (h6 + h7) * 281474976710656 + h7 * 72057594037927936 := by rw [← hx4, e4]
  have e5 : x4 + x4 / 65536 = (h0 + h1 + h2 + h3) + (h1 + h2 + h3 + h4) * 256 + (h2 + h3 + h4 + h5) * 65536 + (h3 + h4 + h5 + h6) * 16777216 + (h4 + h5 + h6 + h7) * 4294967296 + (h5 + h6 + h7) * 1099511627776 + (h6 + h7) * 281474976710656 + h7 * 72057594037927936 := by
    have : x4 / 65536 = (h2 + h3) + (h3 + h4) * 256 + (h4 + h5) * 65536 + (h5 + h6) * 16777216 + (h6 + h7) * 4294967296 + h7 * 1099511627776 := by
      clear e e4 hx4; omega
    clear e e4 hx4; omega
  obtain ⟨x5, hx5⟩ : ∃ x5, x4 + x4 / 65536 = x5 := ⟨_, rfl⟩
  have e5' := hx5.symm.trans e5
  have e6 : x5 + x5 / 4294967296 = (h0 + h1 + h2 + h3 + h4 + h5 + h6 + h7) + ((h1 + h2 + h3 + h4) + (h5 + h6 + h7)) * 256 + ((h2 + h3 + h4 + h5) + (h6 + h7)) * 65536 + ((h3 + h4 + h5 + h6) + h7) * 16777216 + (h4 + h5 + h6 + h7) * 4294967296 + (h5 + h6 + h7) * 1099511627776 + (h6 + h7) * 281474976710656 + h7 * 72057594037927936 := by
    have : x5 / 4294967296 = (h4 + h5 + h6 + h7) + (h5 + h6 + h7) * 256 + (h6 + h7) * 65536 + h7 * 16777216 := by
      clear e e4 hx4 e4' e5 hx5; omega
    clear e e4 hx4 e4' e5 hx5; omega
  refine ⟨x4, x5, _, hx4, hx5, rfl, ?_, ?_, ?_, ?_⟩
  · clear e e4 hx4 e5 hx5 e5' e6; omega
  · clear e e4 hx4 e4' e5 hx5 e6; omega
  · rw [e6]; clear e e4 hx4 e4' e5 hx5 e5' e6; omega
  · rw [e6]; clear e e4 hx4 e4' e5 hx5 e5' e6; omega
end Pop

theorem and127 (x : Nat) (h : x < 2 ^ 62) : bits .and .i64 (x : Int) 127 = ((x % 128 : Nat) : Int) := by
  show IntKind.i64.wrap ((BitVec.ofInt 64 (x : Int) &&& BitVec.ofInt 64 ((127 : Nat) : Int)).toNat : Int) = _
  rw [BitVec.toNat_and, ofInt_u64 127 (by omega), ofInt_u64 x (by omega), nat_mask7]
  simp [IntKind.wrap, IntKind.bits, IntKind.signed]
  omega
theorem ones_walk (x p1 p2 x1 p3 p4 x2 q x3 x4 x5 x6 c : Nat) (w : World)
    (a1 : bits .and .u64 ((x : Int) / 2) 6148914691236517205 = (p1 : Nat)) (a2 : bits .and .u64 (x : Int) 6148914691236517205 = (p2 : Nat)) (s1 : IntKind.u64.wrap ((p1 : Int) + p2) = (x1 : Nat))
    (a3 : bits .and .u64 ((x1 : Int) / 4) 3689348814741910323 = (p3 : Nat)) (a4 : bits .and .u64 (x1 : Int) 3689348814741910323 = (p4 : Nat)) (s2 : IntKind.u64.wrap ((p3 : Int) + p4) = (x2 : Nat))
    (s3 : IntKind.u64.wrap ((x2 : Int) / 16 + x2) = (q : Nat)) (a5 : bits .and .u64 (q : Int) 1085102592571150095 = (x3 : Nat))
    (s4 : IntKind.u64.wrap ((x3 : Int) + (x3 : Int) / 256) = (x4 : Nat)) (s5 : IntKind.u64.wrap ((x4 : Int) + (x4 : Int) / 65536) = (x5 : Nat)) (s6 : IntKind.u64.wrap ((x5 : Int) + (x5 : Int) / 4294967296) = (x6 : Nat))
    (s7 : IntKind.i64.wrap (x6 : Int) = (x6 : Nat)) (a6 : bits .and .i64 (x6 : Int) 127 = (c : Nat)) :
    Calls Tryz.prog 149 #[.int .u64 x] w fun e w' => e = .returned (.int .i64 c) ∧ w = w' := by
  go_enter Tryz.func149, Tryz.ntmps149
  go_wp2
  go_ret
  exact ⟨rfl, rfl⟩
theorem wrap62 (x : Nat) (h : x < 2 ^ 62) : IntKind.i64.wrap (x : Int) = (x : Nat) := by
  simp [IntKind.wrap, IntKind.bits, IntKind.signed]; omega
theorem ones_any (S : Nat) (hS : S < 2 ^ 64) (w : World) :
    Calls Tryz.prog 149 #[.int .u64 S] w fun e w' => e = .returned (.int .i64 (Bit.mem S).length) ∧ w = w' := by
  obtain ⟨x1, x2, h0, h1, h2, h3, h4, h5, h6, h7, e1, l1, e2, l2, e3, hb, hs⟩ := Pop.three hS
  obtain ⟨x3, hx3⟩ : ∃ x3, (x2 / 16 + x2) &&& 1085102592571150095 = x3 := ⟨_, rfl⟩
  rw [hx3] at e3
  obtain ⟨x4, x5, x6, f4, f5, f6, l4, l5, l6, m6⟩ := Pop.fold e3 hb
  have wr : ∀ a b c : Nat, a + b = c → c < 2 ^ 64 → IntKind.u64.wrap ((a : Int) + b) = (c : Nat) := fun a b c e h => by rw [IntKind.wrap_u64]; omega
  refine ones_walk S (S / 2 &&& 6148914691236517205) (S &&& 6148914691236517205) x1 (x1 / 4 &&& 3689348814741910323) (x1 &&& 3689348814741910323) x2 (x2 / 16 + x2) x3 x4 x5 x6 (Bit.mem S).length w
    ?_ (u64_and_nat S 6148914691236517205 hS (by decide)) (wr _ _ _ e1 l1) ?_ (u64_and_nat x1 3689348814741910323 l1 (by decide)) (wr _ _ _ e2 (by omega)) ?_ ?_ ?_ ?_ ?_ ?_ ?_
  · exact u64_and_nat (S / 2) 6148914691236517205 (by omega) (by decide)
  · exact u64_and_nat (x1 / 4) 3689348814741910323 (by omega) (by decide)
  · exact wr (x2 / 16) x2 _ rfl l2
  · rw [← hx3]; exact u64_and_nat (x2 / 16 + x2) 1085102592571150095 l2 (by decide)
  · exact wr x3 (x3 / 256) _ f4 (by omega)
  · exact wr x4 (x4 / 65536) _ f5 (by omega)
  · exact wr x5 (x5 / 4294967296) _ f6 (by omega)
  · exact wrap62 x6 l6
  · rw [and127 x6 l6, m6, hs]
theorem count_any (S : Nat) (hS : S < 2 ^ 64) (w : World) :
    Calls Tryz.prog 131 #[.int .u64 S] w fun e w' => e = .returned (.int .i64 (Bit.mem S).length) ∧ w = w' := by
  have A := Lib.hid (ones_any S hS w)
  obtain ⟨l, hl⟩ : ∃ l, (Bit.mem S).length = l := ⟨_, rfl⟩
  rw [hl] at A ⊢
  clear hl
  go_enter Tryz.func131, Tryz.ntmps131
  go_wp2_with fail
  refine A.out.mono ?_
  rintro e w1 ⟨rfl, rfl⟩
  go_wp2_with fail
  go_ret
  exact ⟨rfl, rfl⟩
end Go.Proofs.YtljackjcgfaanaaGreatDoor
