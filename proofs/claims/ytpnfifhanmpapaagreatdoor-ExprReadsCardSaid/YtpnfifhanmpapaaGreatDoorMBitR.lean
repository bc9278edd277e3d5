/- Contracts of firstRun of package bits and of the closure in it: the first run of a set that is not empty. Contracts of firstRun and of Runs, of package bits; == of two arrays of three ints. -/
import Derived.Test.YtpnfifhanmpapaaGreatDoorMBitG
import Derived.Laws.EntriesVeiled
import Derived.RangeFuncNested
import Derived.RangeFuncCalls
import Derived.Laws.StructEq
/- Contracts of firstRun of package bits and of the closure in it: the first run of a set that is not empty. -/
namespace Go.Proofs.YtpnfifhanmpapaaGreatDoor
open Go.ChangeShapes Go.RowKit Go.Shelf

attribute [local go_sem] Oper.semAt_some

theorem goesOn_any (x h t : Int) (b1 b2 : Nat) (r : Bool) (w : World) (h1 : w.cell? ⟨b1, 0, none⟩ = some (.int .i64 h)) (h2 : w.cell? ⟨b2, 0, none⟩ = some (.int .i64 t)) (hs : IntKind.i64.wrap (h + t) = h + t) (hr : (x == h + t) = r) :
    Calls Tryz.prog 149 #[.int .i64 x, .pointer (some ⟨b1, 0, none⟩), .pointer (some ⟨b2, 0, none⟩)] w fun e w' => e = .returned (.bool r) ∧ w = w' := by
  go_enter Tryz.func149, Tryz.ntmps149
  go_wp2
  go_ret
  exact ⟨rfl, rfl⟩
/-- a set without its first number -/
theorem rest_mem {S a : Nat} {l : List Nat} (hS : S < 2 ^ 64) (hm : Bit.mem S = a :: l) : Bit.mem (S &&& (18446744073709551615 - 2 ^ a)) = l := by
  have so := Bit.mem_sorted S
  rw [hm, List.pairwise_cons] at so
  have a64 : a < 64 := Bit.mem_lt (S := S) (by rw [hm]; simp)
  refine Bit.sorted_ext (Bit.mem_sorted _) so.2 fun v => ?_
  rw [Bit.mem_iff, Nat.testBit_and, not_bit (Bit.one_lt a64), Bit.bit_one]
  have k := mem_bit (v := v) hS
  rw [hm, List.mem_cons] at k
  constructor
  · rintro ⟨h1, h2⟩
    simp only [Bool.and_eq_true, decide_eq_true_eq, Bool.not_eq_true', decide_eq_false_iff_not] at h2
    rcases k.2 h2.1 with rfl | q
    · exact absurd rfl h2.2.2
    · exact q
  · intro q
    have q1 := k.1 (.inr q)
    have q2 := so.1 v q
    have := set_hi hS q1
    refine ⟨this, ?_⟩
    simp only [Bool.and_eq_true, decide_eq_true_eq, Bool.not_eq_true', decide_eq_false_iff_not]
    exact ⟨q1, this, by omega⟩

theorem K2.set {Bn : Nat} (W : World) {a : Addr} (v : Value) (h1 : Bn ≠ a.block) (h2 : (6 : Nat) ≠ a.block) : K2 Bn W (W.setCell a v) :=
  ⟨by simp, Below.heap_setCell _ _ _ _ h1, Below.heap_setCell _ _ _ _ h2⟩
/-- what the call's own variables hold while the numbers come -/
structure FrC (z : Nat) (d h : Int) (W : World) : Prop where
  hic : W.cell? ⟨z + 1, 0, none⟩ = some (.int .i64 h)
  hif : W.frozen? ⟨z + 1, 0, none⟩ = false
  stc : W.cell? ⟨z + 1 + 1, 0, none⟩ = some (.int .i64 d)
  clc : W.cell? ⟨z + 1 + 1 + 1, 0, none⟩ = some (.func (.func 149) #[] #[.pointer (some ⟨z + 1, 0, none⟩), .pointer (some ⟨z + 1 + 1, 0, none⟩)])
  r0 : W.cell? ⟨z, 0, none⟩ = some (.int .i64 0)
  r1 : W.cell? ⟨z, 1, none⟩ = some (.int .i64 0)
  r2 : W.cell? ⟨z, 2, none⟩ = some (.int .i64 0)
  f0 : W.frozen? ⟨z, 0, none⟩ = false
  f1 : W.frozen? ⟨z, 1, none⟩ = false
  f2 : W.frozen? ⟨z, 2, none⟩ = false
theorem frC_own {β : Type} (z : Nat) (d : Int) (f : β → Int) : Own (fun (s : β) W => FrC z d (f s) W) := fun _ _ _ _ hs hg hr =>
  ⟨cell_kept hs.hic hg hr, (frozen_kept hs.hic hg hr).trans hs.hif, cell_kept hs.stc hg hr, cell_kept hs.clc hg hr, cell_kept hs.r0 hg hr, cell_kept hs.r1 hg hr, cell_kept hs.r2 hg hr,
   (frozen_kept hs.r0 hg hr).trans hs.f0, (frozen_kept hs.r1 hg hr).trans hs.f1, (frozen_kept hs.r2 hg hr).trans hs.f2⟩
theorem FrC.set {z : Nat} {d h : Int} {W : World} (hs : FrC z d h W) (x : Int) : FrC z d x (W.setCell ⟨z + 1, 0, none⟩ (.int .i64 x)) where
  hic := World.cell?_setCell_same' _ _ _ (by rw [hs.hic]; rfl)
  hif := by rw [World.frozen?_setCell]; exact hs.hif
  stc := by rw [World.cell?_setCell_other _ _ _ _ (by simp)]; exact hs.stc
  clc := by rw [World.cell?_setCell_other _ _ _ _ (by simp)]; exact hs.clc
  r0 := by rw [World.cell?_setCell_other _ _ _ _ (by simp)]; exact hs.r0
  r1 := by rw [World.cell?_setCell_other _ _ _ _ (by simp)]; exact hs.r1
  r2 := by rw [World.cell?_setCell_other _ _ _ _ (by simp)]; exact hs.r2
  f0 := by rw [World.frozen?_setCell]; exact hs.f0
  f1 := by rw [World.frozen?_setCell]; exact hs.f1
  f2 := by rw [World.frozen?_setCell]; exact hs.f2

/-- the numbers that came keep the distance -/
def Chain (a d : Nat) (pre : List Nat) : Prop := pre = Bit.nums (a + d) d pre.length
theorem nums_last (lo d k : Nat) : Bit.nums lo d (k + 1) = Bit.nums lo d k ++ [lo + k * d] := by
  simp [Bit.nums, List.range_succ]
theorem Chain.snoc {a d : Nat} {pre : List Nat} (h : Chain a d pre) {x : Nat} (hx : x = a + (pre.length + 1) * d) : Chain a d (pre ++ [x]) := by
  unfold Chain at h ⊢
  rw [List.length_append, List.length_singleton, nums_last, ← h, hx, Nat.succ_mul]
  congr 2
  omega
theorem keep_break (d a m x : Nat) (rest : List Nat) (d0 : 0 < d) (h : x ≠ a + (m + 1) * d) : Bit.keep d a (Bit.nums (a + d) d m ++ x :: rest) = m := by
  induction m generalizing a with
  | zero =>
    show Bit.keep d a (x :: rest) = 0
    unfold Bit.keep
    rw [if_neg (by omega)]
  | succ m ih =>
    rw [Bit.nums_succ]
    show Bit.keep d a ((a + d) :: (Bit.nums (a + d + d) d m ++ x :: rest)) = m + 1
    unfold Bit.keep
    rw [if_pos (by omega), ih (a + d) (fun e => h (by rw [e, Nat.succ_mul (m + 1) d]; omega))]
theorem Chain.keep_all {a d : Nat} {pre : List Nat} (h : Chain a d pre) : Bit.keep d a pre = pre.length := by
  have k := Bit.keep_self d a pre.length
  rwa [← (show pre = Bit.nums (a + d) d pre.length from h)] at k
theorem Chain.keep_stop {a d x : Nat} {pre l : List Nat} (h : Chain a d pre) (d0 : 0 < d) (hx : x ≠ a + (pre.length + 1) * d) (hp : pre ++ [x] <+: l) : Bit.keep d a l = pre.length := by
  obtain ⟨t, rfl⟩ := hp
  have k := keep_break d a pre.length x t d0 hx
  rw [← (show pre = Bit.nums (a + d) d pre.length from h)] at k
  simpa using k

/-- the world with the result stored -/
theorem stored {z D : Nat} {d h x y u : Int} {w W : World} (hF : FrC z d h W) (hB : Below w.heap.size w W) (hz : w.heap.size ≤ z) (hK : W.heap[D]? = some (.deferred (some []))) :
    ∃ W3, W3 = ((W.setCell ⟨z, 0, none⟩ (.int .i64 x)).setCell ⟨z, 1, none⟩ (.int .i64 y)).setCell ⟨z, 2, none⟩ (.int .i64 u) ∧ W3.heap[D]? = some (.deferred (some [])) ∧ Below w.heap.size w W3 ∧
      W3.cell? ⟨z, 0, none⟩ = some (.int .i64 x) ∧ W3.cell? ⟨z, 1, none⟩ = some (.int .i64 y) ∧ W3.cell? ⟨z, 2, none⟩ = some (.int .i64 u) := by
  refine ⟨_, rfl, (((KeepsOthers.setCell _ _ _).trans (KeepsOthers.setCell _ _ _)).trans (KeepsOthers.setCell _ _ _)).same D _ hK rfl,
    ((hB.setCell (p := ⟨z, 0, none⟩) hz _).setCell (p := ⟨z, 1, none⟩) hz _).setCell (p := ⟨z, 2, none⟩) hz _, ?_, ?_, ?_⟩
  · rw [World.cell?_setCell_other _ _ _ _ (by simp), World.cell?_setCell_other _ _ _ _ (by simp)]
    exact World.cell?_setCell_same' _ _ _ (by rw [hF.r0]; rfl)
  · rw [World.cell?_setCell_other _ _ _ _ (by simp)]
    exact World.cell?_setCell_same' _ _ _ (by rw [World.cell?_setCell_other _ _ _ _ (by simp), hF.r1]; rfl)
  · exact World.cell?_setCell_same' _ _ _ (by rw [World.cell?_setCell_other _ _ _ _ (by simp), World.cell?_setCell_other _ _ _ _ (by simp), hF.r2]; rfl)
set_option maxRecDepth 100000 in
set_option maxHeartbeats 4000000 in
theorem first_in (n : Nat) (hn : 8 ≤ n) (S a b d m h : Nat) (La Ta : Int) (r : List Nat) (hS : S < 2 ^ 64) (hm : Bit.mem S = a :: b :: r) (hd : b = a + d) (d0 : 0 < d) (b64 : b < 64) (hk : Bit.keep d a (b :: r) = m) (hh0 : a + m * d = h)
    (hr : (m = 1 ∧ 1 < d ∧ La = a ∧ Ta = 1) ∨ (¬ (m = 1 ∧ 1 < d) ∧ La = h ∧ Ta = d)) (w : World) (L : Lay w) :
    CallsIn Fence.wide n Tryz.prog 117 #[.int .u64 S] w fun e W' => e = .returned (.agg #[.int .i64 a, .int .i64 La, .int .i64 Ta]) ∧ Below w.heap.size w W' := by
  have h1 : 1 ≤ n := by omega
  have N1 := Lib.hid (fun w (L : Lay w) => next_any S 0 a true w L hS (by omega) (.inr ⟨a, first_some hS hm, rfl, rfl⟩))
  have N2 := Lib.hid (fun w (L : Lay w) => next_any S (a + 1) b true w L hS (by omega) (.inr ⟨b, more_some (p := []) hS hm, rfl, rfl⟩))
  have L1 := L.alloc (.cells #[.int .i64 0, .int .i64 0, .int .i64 0] 156)
  have O := Lib.hid (fun w => only_any a w (by omega))
  have RM := Lib.hid (rest_mem hS hm)
  have an : bits .andNot .u64 (S : Int) ((2 ^ a : Nat) : Int) = (S &&& (18446744073709551615 - 2 ^ a) : Nat) := u64_andNot_nat S (2 ^ a) hS (Bit.one_lt (by omega))
  have tl : S &&& (18446744073709551615 - 2 ^ a) < 2 ^ 64 := Nat.lt_of_le_of_lt Nat.and_le_left hS
  have rl := Bit.mem_len S
  rw [hm] at rl
  simp only [List.length_cons] at rl
  obtain ⟨M, hM⟩ : ∃ M : Nat, 2 ^ a = M := ⟨_, rfl⟩
  obtain ⟨T, hT⟩ : ∃ T, S &&& (18446744073709551615 - 2 ^ a) = T := ⟨_, rfl⟩
  rw [hT] at RM tl an
  rw [hM] at O an
  have NU := Lib.hid (fun w => numbers_any T w)
  have sub : (b : Int) - a = d := by omega
  have HM := Lib.hid hm
  have HD := Lib.hid hd
  have HK := Lib.hid hk
  have HR := Lib.hid hr
  have HM0 := Lib.hid hh0
  have a64 : a < 64 := by omega
  have d64 : d < 64 := by omega
  have glt := Lib.hid L.lt
  clear hM hT hm hd hk hr hh0
  refine callsIn_of_wp_marks Tryz.func117 rfl trivial ?_ rfl
  simp only [Tryz.ntmps117, List.size_toArray, List.length_cons, List.length_nil, Nat.reduceAdd, Nat.reduceSub, Array.replicate_succ, Array.replicate_zero, List.push_toArray, List.append_toArray, List.nil_append, List.cons_append]
  gi_wp2_with (first
   | (refine ⟨trivial, ?_⟩; gi_at_call 148; refine (callsIn_wide.2 (N1.out _ L1)).mono ?_; rintro e w' ⟨rfl, rfl⟩; clear N1)
   | (refine ⟨trivial, ?_⟩; gi_at_call 148; refine (callsIn_wide.2 (N2.out _ L1)).mono ?_; rintro e w' ⟨rfl, rfl⟩)
   | (refine ⟨trivial, ?_⟩; gi_at_call 98; refine (callsIn_wide.2 (O.out _)).mono ?_; rintro e w' ⟨rfl, rfl⟩)
   | (refine ⟨trivial, ?_⟩; gi_at_call 150; refine (callsIn_wide.2 (NU.out _)).mono ?_; rintro e w' ⟨rfl, rfl⟩))
  obtain ⟨w5, hw5⟩ : ∃ w5, (((((w.alloc (Obj.cells #[Value.int IntKind.i64 0, Value.int IntKind.i64 0, Value.int IntKind.i64 0] 156)).alloc (Obj.cells #[Value.int IntKind.i64 ↑a] 3)).alloc (Obj.cells #[Value.int IntKind.i64 ↑d] 3)).alloc
          (Obj.cells #[Value.func (Fn.func 149) #[] #[Value.pointer (some { block := w.heap.size + 1, off := 0 }), Value.pointer (some { block := w.heap.size + 1 + 1, off := 0 })]] 171)).alloc (Obj.cells #[Value.int IntKind.u64 ↑T] 23)) = w5 := ⟨_, rfl⟩
  have hsz : w5.heap.size = w.heap.size + 1 + 1 + 1 + 1 + 1 := by rw [← hw5]; simp
  have hb5 : Below w.heap.size w w5 := by
    rw [← hw5]
    exact (((((Below.refl _ w).alloc (Nat.le_refl _) _).alloc (by simp) _).alloc (by simp; omega) _).alloc (by simp; omega) _).alloc (by simp; omega) _
  have hF5 : FrC w.heap.size d (a + 0 * d : Nat) w5 := by
    rw [← hw5]
    constructor <;> simp [go_sem]
  have hT5 : w5.cell? ⟨w.heap.size + 1 + 1 + 1 + 1, 0, none⟩ = some (.int .u64 T) := by rw [← hw5]; simp [go_sem]
  have L5 : Lay w5 := L.below hb5
  rw [hw5]
  have FN : Hid (Bit.mem T = b :: r) := RM
  refine wpIn_rangeFunc_ownG rfl h1 (gf := 166) (lb := #[.pointer (some ⟨w.heap.size + 1 + 1 + 1 + 1, 0, none⟩)]) rfl trivial (enters_of Tryz.func166 (by kernel_rfl) rfl)
    (numbers_stops (n - 1) (by omega) (w.heap.size + 1 + 1 + 1 + 1) T tl w5 (by omega) hT5 L5) K2.trans (k2_b (by omega) L5.lt) (Below.refl _ _) (fun _ => rfl)
    (fun pre W => (FrC w.heap.size d (a + pre.length * d : Nat) W ∧ Chain a d pre) ∧ Below w.heap.size w W)
    (fun c pre W => (∃ q x, pre = q ++ [x] ∧ x ≠ a + (q.length + 1) * d ∧ Chain a d q ∧ c = .exit 0 ∧ FrC w.heap.size d (a + q.length * d : Nat) W) ∧ Below w.heap.size w W)
    (OwnFrom.and (OwnFrom.and (Own.from (frC_own w.heap.size d (fun pre : List Nat => ((a + pre.length * d : Nat) : Int))) _) (ownFrom_pure _ _)) (ownFrom_below (Nat.le_refl _) (by omega)))
    (fun c => OwnFrom.and (fun s A B row hs hg hr => by
      obtain ⟨q, x, e1, e2, e3, e4, e5⟩ := hs
      exact ⟨q, x, e1, e2, e3, e4, frC_own w.heap.size d (fun _ : Unit => ((a + q.length * d : Nat) : Int)) () A B row e5 hg (fun r e => (hr r e).2)⟩) (ownFrom_below (Nat.le_refl _) (by omega)))
    ⟨⟨hF5, rfl⟩, hb5⟩
    (fun x => { tmps := #[Value.int IntKind.u64 ↑S, undef, Value.pointer (some { block := w.heap.size, off := 0 }),
          Value.int IntKind.i64 ↑a, Value.bool true, Value.int IntKind.i64 ↑b, Value.bool true,
          Value.pointer (some { block := w.heap.size + 1, off := 0 }),
          Value.pointer (some { block := w.heap.size + 1 + 1, off := 0 }),
          Value.pointer (some { block := w.heap.size + 1 + 1 + 1, off := 0 }), Value.int IntKind.i64 ↑x,
          Value.tuple #[Value.int IntKind.i64 ↑a, Value.bool true], Value.int IntKind.u64 ↑S,
          Value.tuple #[Value.int IntKind.i64 ↑a, Value.bool true], Value.int IntKind.i64 ↑a, Value.bool true,
          Value.tuple #[Value.int IntKind.i64 ↑b, Value.bool true], Value.int IntKind.u64 ↑S,
          Value.int IntKind.i64 ↑a, Value.int IntKind.i64 (↑a + 1),
          Value.tuple #[Value.int IntKind.i64 ↑b, Value.bool true], Value.int IntKind.i64 ↑b,
          Value.bool true, Value.bool true, Value.bool false, undef, undef, undef, Value.int IntKind.i64 ↑a,
          Value.int IntKind.i64 ↑b, Value.int IntKind.i64 ↑a, Value.int IntKind.i64 ↑d,
          Value.func (Fn.func 149) #[]
            #[Value.pointer (some { block := w.heap.size + 1, off := 0 }),
              Value.pointer (some { block := w.heap.size + 1 + 1, off := 0 })],
          Value.int IntKind.u64 ↑S, Value.int IntKind.i64 ↑a, Value.int IntKind.u64 ↑M, Value.int IntKind.u64 ↑T,
          Value.func (Fn.func 166) #[] #[Value.pointer (some { block := w.heap.size + 1 + 1 + 1 + 1, off := 0 })], Value.int IntKind.i64 ↑x,
          undef, undef, undef, undef, undef, undef, undef, undef, undef, undef, undef, undef, undef, undef, undef,
          undef, undef, undef, undef], defers := [] }) ?assign ?body ?done ?stop
  case assign =>
    intro l x W K hK
    gi_wp2
    exact hK
  case body =>
    rintro l pre x W ⟨⟨hF, hch⟩, hB⟩ hlt
    rw [FN.out, List.length_cons] at hlt
    have hm1 : pre.length * d ≤ 64 * 64 := Nat.mul_le_mul (by omega) (by omega)
    have SU := Lib.hid (Nat.succ_mul pre.length d)
    have HCH := Lib.hid hch
    clear HR HM0
    obtain ⟨h, hh⟩ : ∃ h, a + pre.length * d = h := ⟨_, rfl⟩
    rw [hh] at hF
    have h9 : h < 5000 := by omega
    have HF := Lib.hid hF
    have HH := Lib.hid hh
    have c1 := hF.hic; have c2 := hF.hif; have c3 := hF.stc; have c4 := hF.clc
    have ws : IntKind.i64.wrap ((h : Int) + d) = (h : Int) + d := by simp [IntKind.wrap, IntKind.signed, IntKind.bits]; omega
    have NX : Hid (a + (pre.length + 1) * d = h + d) := Lib.hid (by rw [SU.out]; omega)
    clear hF hch hh hm1 hlt
    by_cases q : x = h + d
    · have G := Lib.hid (fun W h1 h2 => goesOn_any x h d (w.heap.size + 1) (w.heap.size + 1 + 1) true W h1 h2 ws (by rw [beq_iff_eq]; omega))
      have Q := Lib.hid q
      clear q ws
      gi_wp2_with fail
      refine ⟨trivial, fun h => (by cases h), (CallsIn.inRound l (callsIn_wide.2 (G.out _ c1 c3))).mono ?_⟩
      rintro e w' ⟨rfl, rfl⟩
      gi_wp2
      refine ⟨(KeepsOthers.setCell _ _ _).from _, K2.set W _ (by dsimp only; omega) (by have := glt.out; dsimp only; omega), ⟨?_, HCH.out.snoc (Q.out.trans NX.out.symm)⟩, hB.setCell (p := ⟨w.heap.size + 1, 0, none⟩) (by simp) _⟩
      have := HF.out.set x
      rw [List.length_append, List.length_singleton, NX.out, ← Q.out]
      exact this
    · have G := Lib.hid (fun W h1 h2 => goesOn_any x h d (w.heap.size + 1) (w.heap.size + 1 + 1) false W h1 h2 ws (by rw [beq_eq_false_iff_ne]; omega))
      have Q := Lib.hid q
      clear q ws
      gi_wp2_with fail
      refine ⟨trivial, fun h => (by cases h), (CallsIn.inRound l (callsIn_wide.2 (G.out _ c1 c3))).mono ?_⟩
      rintro e w' ⟨rfl, rfl⟩
      gi_wp2
      exact ⟨KeepsFrom.refl _ _, ⟨⟨pre, x, rfl, fun e => Q.out (e.trans NX.out), HCH.out, rfl, by rw [HH.out]; exact HF.out⟩, hB⟩⟩
  case done =>
    rintro D ys W hD rfl ⟨⟨hF, hch⟩, hB⟩ hK
    have hm : m = (Bit.mem T).length := by
      rw [← HK.out, ← FN.out]
      exact hch.keep_all
    rw [← hm] at hF
    clear hch hm
    have c1 := hF.hic; have c3 := hF.stc
    have r0 := hF.r0; have r1 := hF.r1; have r2 := hF.r2; have f0 := hF.f0; have f1 := hF.f1; have f2 := hF.f2
    have hh := HM0.out
    rw [hh] at c1
    rcases HR.out with ⟨m1, d1, rfl, rfl⟩ | ⟨md, rfl, rfl⟩
    · subst m1
      have e1 : ((h : Int) == b) = true := by rw [beq_iff_eq]; have := HD.out; omega
      have e2 : decide (1 < d) = true := by simpa using d1
      have e3 : decide (1 < (d : Int)) = true := by simp; omega
      clear hh
      gi_wp2
      obtain ⟨W3, hW3, hK3, hB3, k0, k1, k2⟩ := stored (x := (a : Int)) (y := (a : Int)) (u := 1) hF hB (Nat.le_refl _) hK
      rw [← hW3]
      refine ⟨by simp, .inl ⟨_, _, rfl, run_takeDeferred hK3, ?_⟩⟩
      have pk : ∀ {x : Addr} {v : Value}, W3.cell? x = some v → (W3.putObj D (Obj.deferred none)).cell? x = some v := fun h => cell_kept h (grownBy_putObj' _ D (.deferred none)) (fun r e => by cases e; exact ⟨_, hK3, rfl⟩)
      have k0 := pk k0; have k1 := pk k1; have k2 := pk k2
      have hb4 := hB3.trans (belowK_b (w := w) (Nat.le_refl _) W3 D _ (Obj.deferred none) (by omega) hK3 rfl rfl)
      exact ⟨.agg #[.int .i64 a, .int .i64 a, .int .i64 1], by simp [results, Tryz.results117, go_sem, k0, k1, k2], rfl, hb4⟩
    · by_cases m1 : m = 1
      · subst m1
        have e1 : ((h : Int) == b) = true := by rw [beq_iff_eq]; have := HD.out; omega
        have e2 : decide (1 < d) = false := by simp; omega
        have e3 : decide (1 < (d : Int)) = false := by simp; omega
        clear hh md
        gi_wp2
        obtain ⟨W3, hW3, hK3, hB3, k0, k1, k2⟩ := stored (x := (a : Int)) (y := (h : Int)) (u := (d : Int)) hF hB (Nat.le_refl _) hK
        rw [← hW3]
        refine ⟨by simp, .inl ⟨_, _, rfl, run_takeDeferred hK3, ?_⟩⟩
        have pk : ∀ {x : Addr} {v : Value}, W3.cell? x = some v → (W3.putObj D (Obj.deferred none)).cell? x = some v := fun h => cell_kept h (grownBy_putObj' _ D (.deferred none)) (fun r e => by cases e; exact ⟨_, hK3, rfl⟩)
        have k0 := pk k0; have k1 := pk k1; have k2 := pk k2
        have hb4 := hB3.trans (belowK_b (w := w) (Nat.le_refl _) W3 D _ (Obj.deferred none) (by omega) hK3 rfl rfl)
        exact ⟨.agg #[.int .i64 a, .int .i64 h, .int .i64 d], by simp [results, Tryz.results117, go_sem, k0, k1, k2], rfl, hb4⟩
      · have e1 : ((h : Int) == b) = false := by
          rw [beq_eq_false_iff_ne]
          have := HD.out
          intro e
          have e : m * d = 1 * d := by omega
          exact m1 (Nat.eq_of_mul_eq_mul_right d0 e)
        clear hh md m1
        gi_wp2
        obtain ⟨W3, hW3, hK3, hB3, k0, k1, k2⟩ := stored (x := (a : Int)) (y := (h : Int)) (u := (d : Int)) hF hB (Nat.le_refl _) hK
        rw [← hW3]
        refine ⟨by simp, .inl ⟨_, _, rfl, run_takeDeferred hK3, ?_⟩⟩
        have pk : ∀ {x : Addr} {v : Value}, W3.cell? x = some v → (W3.putObj D (Obj.deferred none)).cell? x = some v := fun h => cell_kept h (grownBy_putObj' _ D (.deferred none)) (fun r e => by cases e; exact ⟨_, hK3, rfl⟩)
        have k0 := pk k0; have k1 := pk k1; have k2 := pk k2
        have hb4 := hB3.trans (belowK_b (w := w) (Nat.le_refl _) W3 D _ (Obj.deferred none) (by omega) hK3 rfl rfl)
        exact ⟨.agg #[.int .i64 a, .int .i64 h, .int .i64 d], by simp [results, Tryz.results117, go_sem, k0, k1, k2], rfl, hb4⟩
  case stop =>
    rintro D c pre W hD hp ⟨⟨q, x, rfl, hx, hch, rfl, hF⟩, hB⟩ hK
    have hm : m = q.length := by
      rw [← HK.out, ← FN.out]
      exact hch.keep_stop d0 hx hp
    rw [← hm] at hF
    clear hch hm hx hp
    have c1 := hF.hic; have c3 := hF.stc
    have r0 := hF.r0; have r1 := hF.r1; have r2 := hF.r2; have f0 := hF.f0; have f1 := hF.f1; have f2 := hF.f2
    have hh := HM0.out
    rw [hh] at c1
    rcases HR.out with ⟨m1, d1, rfl, rfl⟩ | ⟨md, rfl, rfl⟩
    · subst m1
      have e1 : ((h : Int) == b) = true := by rw [beq_iff_eq]; have := HD.out; omega
      have e2 : decide (1 < d) = true := by simpa using d1
      have e3 : decide (1 < (d : Int)) = true := by simp; omega
      clear hh
      gi_wp2
      obtain ⟨W3, hW3, hK3, hB3, k0, k1, k2⟩ := stored (x := (a : Int)) (y := (a : Int)) (u := 1) hF hB (Nat.le_refl _) hK
      rw [← hW3]
      refine ⟨by simp, .inl ⟨_, _, rfl, run_takeDeferred hK3, ?_⟩⟩
      have pk : ∀ {x : Addr} {v : Value}, W3.cell? x = some v → (W3.putObj D (Obj.deferred none)).cell? x = some v := fun h => cell_kept h (grownBy_putObj' _ D (.deferred none)) (fun r e => by cases e; exact ⟨_, hK3, rfl⟩)
      have k0 := pk k0; have k1 := pk k1; have k2 := pk k2
      have hb4 := hB3.trans (belowK_b (w := w) (Nat.le_refl _) W3 D _ (Obj.deferred none) (by omega) hK3 rfl rfl)
      exact ⟨.agg #[.int .i64 a, .int .i64 a, .int .i64 1], by simp [results, Tryz.results117, go_sem, k0, k1, k2], rfl, hb4⟩
    · by_cases m1 : m = 1
      · subst m1
        have e1 : ((h : Int) == b) = true := by rw [beq_iff_eq]; have := HD.out; omega
        have e2 : decide (1 < d) = false := by simp; omega
        have e3 : decide (1 < (d : Int)) = false := by simp; omega
        clear hh md
        gi_wp2
        obtain ⟨W3, hW3, hK3, hB3, k0, k1, k2⟩ := stored (x := (a : Int)) (y := (h : Int)) (u := (d : Int)) hF hB (Nat.le_refl _) hK
        rw [← hW3]
        refine ⟨by simp, .inl ⟨_, _, rfl, run_takeDeferred hK3, ?_⟩⟩
        have pk : ∀ {x : Addr} {v : Value}, W3.cell? x = some v → (W3.putObj D (Obj.deferred none)).cell? x = some v := fun h => cell_kept h (grownBy_putObj' _ D (.deferred none)) (fun r e => by cases e; exact ⟨_, hK3, rfl⟩)
        have k0 := pk k0; have k1 := pk k1; have k2 := pk k2
        have hb4 := hB3.trans (belowK_b (w := w) (Nat.le_refl _) W3 D _ (Obj.deferred none) (by omega) hK3 rfl rfl)
        exact ⟨.agg #[.int .i64 a, .int .i64 h, .int .i64 d], by simp [results, Tryz.results117, go_sem, k0, k1, k2], rfl, hb4⟩
      · have e1 : ((h : Int) == b) = false := by
          rw [beq_eq_false_iff_ne]
          have := HD.out
          intro e
          have e : m * d = 1 * d := by omega
          exact m1 (Nat.eq_of_mul_eq_mul_right d0 e)
        clear hh md m1
        gi_wp2
        obtain ⟨W3, hW3, hK3, hB3, k0, k1, k2⟩ := stored (x := (a : Int)) (y := (h : Int)) (u := (d : Int)) hF hB (Nat.le_refl _) hK
        rw [← hW3]
        refine ⟨by simp, .inl ⟨_, _, rfl, run_takeDeferred hK3, ?_⟩⟩
        have pk : ∀ {x : Addr} {v : Value}, W3.cell? x = some v → (W3.putObj D (Obj.deferred none)).cell? x = some v := fun h => cell_kept h (grownBy_putObj' _ D (.deferred none)) (fun r e => by cases e; exact ⟨_, hK3, rfl⟩)
        have k0 := pk k0; have k1 := pk k1; have k2 := pk k2
        have hb4 := hB3.trans (belowK_b (w := w) (Nat.le_refl _) W3 D _ (Obj.deferred none) (by omega) hK3 rfl rfl)
        exact ⟨.agg #[.int .i64 a, .int .i64 h, .int .i64 d], by simp [results, Tryz.results117, go_sem, k0, k1, k2], rfl, hb4⟩
end Go.Proofs.YtpnfifhanmpapaaGreatDoor
/- Contracts of firstRun and of Runs, of package bits; == of two arrays of three ints. -/
namespace Go.Proofs.YtpnfifhanmpapaaGreatDoor
open Go.ChangeShapes Go.RowKit

def same3 (a b c a' b' c' : Int) : Bool := a == a' && (b == b' && c == c')
theorem same3_t (a b c : Int) : same3 a b c a b c = true := by simp [same3]
theorem same3_f {a b c a' b' c' : Int} (h : ¬ (a = a' ∧ b = b' ∧ c = c')) : same3 a b c a' b' c' = false := by
  rw [Bool.eq_false_iff]; intro k; apply h; simpa [same3] using k
@[go_sem] theorem eqArr (a b c a' b' c' : Int) (w : World) : (Op.equalIn 10000 156 (.agg #[.int .i64 a, .int .i64 b, .int .i64 c]) (.agg #[.int .i64 a', .int .i64 b', .int .i64 c'])).run Tryz.prog w = .ok (same3 a b c a' b' c') w := by
  have u3 := Tryz.underlying3
  have a3 := Tryz.isAgg3
  have z3 := Tryz.sizeOf3
  rw [show (10000 : Nat) = 9999 + 1 from rfl, Op.equalIn]
  simp only [Sem.run_bind, run_underlying Tryz.underlying156, Result.andThen_ok]
  simp only [Std.Legacy.Range.forIn_eq_forIn_range', Std.Legacy.Range.size, Nat.sub_zero, Nat.add_sub_cancel, Nat.div_one, List.range'_succ, List.range'_zero, List.forIn_cons, List.forIn_nil]
  go_simp
  by_cases h1 : a = a' <;> by_cases h2 : b = b' <;> by_cases h3 : c = c' <;> simp [h1, h2, h3, same3]

theorem first_one (S a : Nat) (hS : S < 2 ^ 64) (hm : Bit.mem S = [a]) (w : World) (L : Lay w) :
    Calls Tryz.prog 117 #[.int .u64 S] w fun e W' => e = .returned (.agg #[.int .i64 a, .int .i64 a, .int .i64 1]) ∧ Below w.heap.size w W' := by
  have a64 : a < 64 := Bit.mem_lt (S := S) (by rw [hm]; simp)
  have N1 := Lib.hid (fun w (L : Lay w) => next_any S 0 a true w L hS (by omega) (.inr ⟨a, first_some hS hm, rfl, rfl⟩))
  have N2 := Lib.hid (fun w (L : Lay w) => next_any S (a + 1) 0 false w L hS (by omega) (.inl ⟨more_none (p := []) hS hm, rfl, rfl⟩))
  have L1 := L.alloc (.cells #[.int .i64 0, .int .i64 0, .int .i64 0] 156)
  clear hm
  go_enter Tryz.func117, Tryz.ntmps117
  go_wp2_with fail
  refine (N1.out _ L1).mono ?_
  rintro e w1 ⟨rfl, rfl⟩
  go_wp2_with fail
  refine (N2.out _ L1).mono ?_
  rintro e w1 ⟨rfl, rfl⟩
  go_wp2_with fail
  exact bodyPost_ret (v := .agg #[.int .i64 a, .int .i64 a, .int .i64 1]) (by simp [results, Tryz.results117, go_sem]) rfl ⟨rfl, (Below.refl _ _).alloc (Nat.le_refl _) _⟩
/-- the last number and the step of the first run -/
def lastOf (l : List Nat) : Nat := l.getD (Bit.take1 l - 1) 0
theorem first_any (S a : Nat) (l : List Nat) (hS : S < 2 ^ 64) (hm : Bit.mem S = a :: l) (w : World) (L : Lay w) :
    Calls Tryz.prog 117 #[.int .u64 S] w fun e W' => e = .returned (.agg #[.int .i64 a, .int .i64 (lastOf (a :: l)), .int .i64 (Bit.step1 (a :: l))]) ∧ Below w.heap.size w W' := by
  have so := Bit.mem_sorted S
  rw [hm] at so
  have ll := Bit.last1 a l so
  cases l with
  | nil => exact first_one S a hS hm w L
  | cons b r =>
    rw [List.pairwise_cons] at so
    have ab := so.1 b (by simp)
    have b64 : b < 64 := Bit.mem_lt (S := S) (by rw [hm]; simp)
    obtain ⟨d, rfl⟩ : ∃ d, b = a + d := ⟨b - a, by omega⟩
    have kk : Bit.keep d a ((a + d) :: r) = Bit.keep d (a + d) r + 1 := by
      show (if a + d - a = d then _ else _) = _
      rw [if_pos (by omega)]
    have t1 := Bit.take1_two a (a + d) r
    have s1 := Bit.step1_two a (a + d) r
    rw [Nat.add_sub_cancel_left] at t1 s1
    refine callsIn_wide.1 (first_in 8 (by omega) S a (a + d) d (Bit.keep d (a + d) r + 1) (a + (Bit.keep d (a + d) r + 1) * d) _ _ r hS hm rfl (by omega) b64 kk rfl ?_ w L)
    unfold lastOf
    rw [ll, t1, s1]
    by_cases c : Bit.keep d (a + d) r = 0 ∧ 1 < d
    · rw [if_pos c, if_pos c]
      exact .inl ⟨by omega, c.2, by simp, rfl⟩
    · rw [if_neg c, if_neg c]
      exact .inr ⟨by omega, by rw [Nat.add_sub_assoc (by omega)], rfl⟩

/-! Runs -/
/-- the cells of a list of runs -/
def flat (l : List (Nat × Nat × Nat)) : List Value := l.flatMap fun r => [.int .i64 r.1, .int .i64 r.2.1, .int .i64 r.2.2]
theorem flat_len (l : List (Nat × Nat × Nat)) : (flat l).length = l.length * 3 := by
  induction l with
  | nil => rfl
  | cons r l ih => simp [flat] at ih ⊢; omega
theorem flat_snoc (l : List (Nat × Nat × Nat)) (a b c : Nat) : flat (l ++ [(a, b, c)]) = flat l ++ [.int .i64 a, .int .i64 b, .int .i64 c] := by simp [flat]
theorem flat_at : ∀ (l : List (Nat × Nat × Nat)) (k : Nat) (h : k < l.length), (flat l)[k * 3]? = some (.int .i64 l[k].1) ∧ (flat l)[k * 3 + 1]? = some (.int .i64 l[k].2.1) ∧ (flat l)[k * 3 + 2]? = some (.int .i64 l[k].2.2)
  | r :: l, 0, _ => ⟨rfl, rfl, rfl⟩
  | r :: l, k + 1, h => by
    have ih := flat_at l k (by simpa using h)
    have e : flat (r :: l) = [.int .i64 r.1, .int .i64 r.2.1, .int .i64 r.2.2] ++ flat l := by simp [flat]
    rw [e]
    have g : ∀ j, ([Value.int .i64 (r.1 : Nat), .int .i64 (r.2.1 : Nat), .int .i64 (r.2.2 : Nat)] ++ flat l)[j + 3]? = (flat l)[j]? := fun j => by
      rw [List.getElem?_append_right (by simp)]; simp
    have e1 : (k + 1) * 3 = k * 3 + 3 := by omega
    have e2 : (k + 1) * 3 + 1 = k * 3 + 1 + 3 := by omega
    have e3 : (k + 1) * 3 + 2 = k * 3 + 2 + 3 := by omega
    rw [e2, e3, e1, g, g, g]
    simpa using ih
theorem own_below {W W' : World} {base : Nat} {e : TypeId} {size : Nat} {v : Value} {k : Nat} {xs : List Value} (h : W.ownsRow base e size v k xs) (hb : Below W.heap.size W W') : W'.ownsRow base e size v k xs := by
  refine ⟨h.1, ?_⟩
  rcases h.2 with hn | ⟨g, cap, cur, hv, hbg, hc, rest⟩
  · exact .inl hn
  · exact .inr ⟨g, cap, cur, hv, hbg, (hb.block g (Array.getElem?_eq_some_iff.1 hc).1).trans hc, rest⟩
/-- a list of runs of the call's own; base: what lay before -/
structure Own3 (z : Nat) (w : World) (v : Value) (l : List (Nat × Nat × Nat)) (wr : World) : Prop where
  row : wr.ownsRow z 156 3 v l.length (flat l)
  below : Below z w wr
theorem info3 : (Tryz.prog.info? 156).map (fun i => (i.zero, i.size, i.bytes)) = some (some (.agg #[.int .i64 0, .int .i64 0, .int .i64 0]), 3, 24) := by kernel_rfl
theorem cell_three_new (w : World) (x y u : Value) (t : TypeId) : ∀ j c, [x, y, u][j]? = some c → (w.alloc (.cells #[x, y, u] t)).cell? ((⟨w.heap.size, 0, none⟩ : Addr).add j) = some c := by
  intro j c hj
  rw [add_flat]
  match j, hj with
  | 0, hj => simp at hj; subst hj; simp [go_sem]
  | 1, hj => simp at hj; subst hj; simp [go_sem]
  | 2, hj => simp at hj; subst hj; simp [go_sem]
theorem Own3.step {z : Nat} {w wr w1 : World} {v v' : Value} {l : List (Nat × Nat × Nat)} {o : Obj} {a b c : Nat} (h : Own3 z w v l wr) (hz : z ≤ wr.heap.size)
    (hown : w1.ownsRow z 156 3 v' (l.length + 1) (flat l ++ [.int .i64 a, .int .i64 b, .int .i64 c])) (hg : (wr.alloc o).grownBy w1 v.ownBlock) : Own3 z w v' (l ++ [(a, b, c)]) w1 := by
  refine ⟨by rw [flat_snoc]; simpa using hown, (h.below.alloc hz o).grown hg (by simp; omega) (fun k hk => (h.row.lt k hk).1)⟩
/-- what is left behind the first run -/
theorem drop_mem {T a : Nat} {l : List Nat} (hT : T < 2 ^ 64) (hm : Bit.mem T = a :: l) : Bit.mem (from_ T ((lastOf (a :: l) : Int) + 1)) = (a :: l).drop (Bit.take1 (a :: l)) := by
  have so := Bit.mem_sorted T
  have bd := Bit.take1_bd (a := a) (l := l)
  rw [hm] at so
  have so' := so
  refine Bit.sorted_ext (Bit.mem_sorted _) (so.sublist (List.drop_sublist _ _)) fun v => ?_
  rw [mem_bit (from_lt hT _), from_bit hT]
  have k := mem_bit (v := v) hT
  rw [hm] at k
  obtain ⟨t, ht⟩ : ∃ t, Bit.take1 (a :: l) = t + 1 := ⟨Bit.take1 (a :: l) - 1, by omega⟩
  have tl : t < (a :: l).length := by omega
  have hl : lastOf (a :: l) = (a :: l)[t] := by
    unfold lastOf
    rw [ht, Nat.add_sub_cancel, List.getD_eq_getElem?_getD, List.getElem?_eq_getElem tl]
    rfl
  have sp : a :: l = (a :: l).take (t + 1) ++ (a :: l).drop (t + 1) := (List.take_append_drop _ _).symm
  rw [ht, hl]
  generalize hA : (a :: l) = A at *
  constructor
  · intro h
    simp only [Bool.and_eq_true, decide_eq_true_eq] at h
    have q := k.2 h.1
    rw [sp, List.mem_append] at q
    rcases q with q | q
    · exfalso
      obtain ⟨i, hi, e⟩ := List.getElem_of_mem q
      rw [List.length_take] at hi
      rw [List.getElem_take] at e
      rcases Nat.lt_or_ge i t with c | c
      · have := (List.pairwise_iff_getElem.1 so) i t (by omega) tl c
        omega
      · have : i = t := by omega
        subst this
        omega
    · exact q
  · intro q
    have q1 := k.1 (by rw [sp, List.mem_append]; exact .inr q)
    obtain ⟨i, hi, e⟩ := List.getElem_of_mem q
    rw [List.length_drop] at hi
    rw [List.getElem_drop] at e
    have := (List.pairwise_iff_getElem.1 so) t (t + 1 + i) tl (by omega) (by omega)
    rw [q1]
    simp only [Bool.true_and, decide_eq_true_eq]
    omega
theorem mem_ne {T a : Nat} {l : List Nat} (hm : Bit.mem T = a :: l) : T ≠ 0 := by
  rintro rfl
  have : a ∈ Bit.mem 0 := by rw [hm]; simp
  have := (Bit.mem_iff.1 this).2
  rw [Nat.zero_testBit] at this
  cases this
theorem mem_nil {T : Nat} (hT : T < 2 ^ 64) (hm : Bit.mem T = []) : T = 0 := by
  apply Bit.ext64 hT (by decide)
  intro v _
  rw [Nat.zero_testBit]
  cases h : T.testBit v with
  | false => rfl
  | true =>
    have := (mem_bit hT).2 h
    rw [hm] at this
    simp at this
theorem last_lt {T a : Nat} {l : List Nat} (hm : Bit.mem T = a :: l) : lastOf (a :: l) < 64 := by
  have bd := Bit.take1_bd (a := a) (l := l)
  have tl : Bit.take1 (a :: l) - 1 < (a :: l).length := by omega
  unfold lastOf
  rw [List.getD_eq_getElem?_getD, List.getElem?_eq_getElem tl]
  exact Bit.mem_lt (S := T) (by rw [hm]; exact List.getElem_mem tl)

theorem runs_any (S : Nat) (hS : S < 2 ^ 64) (w : World) (L : Lay w) :
    Calls Tryz.prog 81 #[.int .u64 S] w fun e W' => ∃ v, e = .returned v ∧ Own3 w.heap.size w v (Bit.runs (Bit.mem S)) W' := by
  obtain ⟨i0, hi, hz0, hz1, hz2⟩ := info_parts info3
  have LL := Lib.hid L
  go_enter Tryz.func81, Tryz.ntmps81
  go_wp2_with fail
  go_loopw [0, 3] (fun s v wr => ∃ (T : Nat) (rs : List (Nat × Nat × Nat)), s = .int .u64 T ∧ T < 18446744073709551616 ∧ Hid (Bit.runs (Bit.mem S) = rs ++ Bit.runs (Bit.mem T)) ∧ Hid (Own3 w.heap.size w v rs wr)) (fun s _ _ => (Bit.mem (intOf s).toNat).length)
  case atStart => exact ⟨S, [], rfl, hS, Lib.hid rfl, Lib.hid ⟨World.ownsRow_nil _ _ _ _, Below.refl _ _⟩⟩
  case round =>
    obtain ⟨T, rs, rfl, hT, hr, ho⟩ := hrel
    have hsz := ho.out.below.size
    cases hm : Bit.mem T with
    | nil =>
      obtain rfl := mem_nil hT hm
      rw [hm, Bit.runs_nil, List.append_nil] at hr
      clear hm
      go_wp2_with fail
      go_ret
      exact ⟨_, rfl, by rw [hr.out]; exact ho.out⟩
    | cons a l =>
      have ne : (((T : Nat) : Int) != 0) = true := by
        have := mem_ne hm
        rw [bne_iff_ne]; omega
      rw [hm, Bit.runs_cons] at hr
      have LT := last_lt hm
      have F := Lib.hid (fun w L => first_any T a l hT hm w L)
      have DM := Lib.hid (drop_mem hT hm)
      have HM := Lib.hid hm
      have rl : rs.length < 64 := by
        have h1 := Bit.runs_len (Bit.mem S)
        have h2 := Bit.mem_len S
        rw [hr.out, List.length_append, List.length_cons] at h1
        omega
      have B := Lib.hid (fun w => below_any ((lastOf (a :: l) : Int) + 1) w (by omega))
      have an : bits .andNot .u64 (T : Int) (low ((lastOf (a :: l) : Int) + 1) : Nat) = (from_ T ((lastOf (a :: l) : Int) + 1) : Nat) := u64_andNot_nat T _ hT (low_lt _)
      have FL := Lib.hid (from_lt hT ((lastOf (a :: l) : Int) + 1))
      have TB := Lib.hid (Bit.take1_bd (a := a) (l := l))
      have HRL : Hid (Bit.runs (Bit.mem S) = (rs ++ [(a, lastOf (a :: l), Bit.step1 (a :: l))]) ++ Bit.runs ((a :: l).drop (Bit.take1 (a :: l)))) := Lib.hid (by rw [hr.out]; simp [lastOf])
      obtain ⟨la, hla⟩ : ∃ la, lastOf (a :: l) = la := ⟨_, rfl⟩
      obtain ⟨sa, hsa⟩ : ∃ sa, Bit.step1 (a :: l) = sa := ⟨_, rfl⟩
      obtain ⟨M, hM⟩ : ∃ M, low ((la : Int) + 1) = M := ⟨_, rfl⟩
      obtain ⟨U, hU⟩ : ∃ U, from_ T ((la : Int) + 1) = U := ⟨_, rfl⟩
      rw [hla, hsa] at F HRL
      rw [hla] at LT B an FL DM
      rw [hM] at B an
      rw [hU] at an FL DM
      have Lw := Lib.hid (LL.out.below ho.out.below)
      clear hm hla hsa hM hU hr
      go_wp2_with fail
      refine (F.out _ Lw.out).mono ?_
      rintro e w1 ⟨rfl, hb1⟩
      have ho1 : Own3 w.heap.size w _ rs w1 := ⟨own_below ho.out.row hb1, ho.out.below.trans (hb1.mono hsz)⟩
      have HO1 := Lib.hid ho1
      have hsz1 := ho1.below.size
      clear ho1 ho hb1
      go_wp2_with (at_builtin; refine wpList_append_own_at _ rfl (.tmp 9) (.tmp 11) 154 rfl w.heap.size 156 i0 (.agg #[.int .i64 0, .int .i64 0, .int .i64 0]) 3 24 Tryz.underlying154 hi hz0 hz1 hz2 rfl (by decide) _ rs.length _ rfl ((HO1.out.row.alloc _).alloc _) ⟨w1.heap.size + 1, 0, none⟩ 1 1 [.int .i64 a, .int .i64 la, .int .i64 sa] rfl ?c1 ?c2 ?c3 ?c4 ?c5 ?c6 ?c7)
      case c1 => rfl
      case c2 => simpa using cell_three_new (w1.alloc (.cells #[.int .i64 a, .int .i64 la, .int .i64 sa] 156)) (.int .i64 a) (.int .i64 la) (.int .i64 sa) 156
      case c3 => simp [Value.oneCell']
      case c4 => simp [maxLen]; omega
      case c5 => omega
      case c6 => simp; omega
      case c7 =>
        intro v2 w2 hown hg _ _
        have hA : Own3 w.heap.size w _ rs (w1.alloc (.cells #[.int .i64 a, .int .i64 la, .int .i64 sa] 156)) := ⟨HO1.out.row.alloc _, HO1.out.below.alloc hsz1 _⟩
        have h2 := hA.step (by simp; omega) hown hg
        have cl : w2.cell? ⟨w1.heap.size, 1, none⟩ = some (.int .i64 la) := by
          rw [World.cell?_of_block (a := ⟨w1.heap.size, 1, none⟩) (hg.block w1.heap.size (by simp; omega) (fun e => by
            have := (HO1.out.row.lt _ e.symm).2
            omega))]
          simp [go_sem]
        have H2 := Lib.hid h2
        clear h2 hA hown hg
        go_wp2_with fail
        refine (B.out _).mono ?_
        rintro e w3 ⟨rfl, rfl⟩
        go_wp2_with fail
        go_roundw
        case rel => exact ⟨U, _, rfl, FL.out, by rw [DM.out]; exact HRL, H2⟩
        case measure =>
          have := TB.out
          simp only [intOf, Int.toNat_natCast]
          rw [DM.out, HM.out, List.length_drop]
          omega
end Go.Proofs.YtpnfifhanmpapaaGreatDoor
