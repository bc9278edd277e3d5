/- Plain mathematics of crontab expressions: which are valid, their texts, how texts are read. No program stands here. Blocks of a call's own, told cell by cell; an expression in a block; where its fields lie. -/
import Derived.Test.YtbehendogcghjaaDoorMFldO
import Derived.Test.YtbehendogcghjaaDoorMFldR
import Derived.Laws.Rows
import Derived.Deep.RegionHeld3
import Derived.WalkSmall
/- Plain mathematics of crontab expressions: which are valid, their texts, how texts are read. No program stands here. -/
namespace Go.Proofs.YtbehendogcghjaaDoor.Exp

/-- an expression -/
structure Ex where
  a0 : Nat
  a1 : Nat
  a2 : Nat
  a3 : Nat
  a4 : Nat
  a5 : Nat
  b3 : Bool
  b5 : Bool
def Ex.at (x : Ex) : Nat → Nat
  | 0 => x.a0
  | 1 => x.a1
  | 2 => x.a2
  | 3 => x.a3
  | 4 => x.a4
  | _ => x.a5
def zero : Ex := ⟨0, 0, 0, 0, 0, 0, false, false⟩
/-- all numbers of a field -/
def fl (i : Nat) : Nat := fullK (kd6 i)
/-- an expression that is valid -/
structure Ex.Ok (x : Ex) : Prop where
  ne : ∀ i, i < 6 → x.at i ≠ 0
  inn : ∀ i, i < 6 → Fld.In (kd6 i) (x.at i)
  d : x.b3 = true → x.a3 = fl 3
  w : x.b5 = true → x.a5 = fl 5
theorem kd_ok {i : Nat} (h : i < 6) : (kd6 i).Ok := kd6_ok i h
theorem at_lt {x : Ex} (h : x.Ok) {i : Nat} (hi : i < 6) : x.at i < 2 ^ 64 := by
  apply Nat.lt_pow_two_of_testBit
  intro v hv
  cases e : (x.at i).testBit v with
  | false => rfl
  | true =>
    have a := h.inn i hi v e
    have b := (kd_ok hi).hi
    omega
end Go.Proofs.YtbehendogcghjaaDoor.Exp
/- Blocks of a call's own, told cell by cell; an expression in a block; where its fields lie. -/
namespace Go.Proofs.YtbehendogcghjaaDoor
open Go.ChangeShapes Go.WideShapes Go.RowKit Go.Shelf

theorem bel_cell {B b : Nat} {w W : World} (h : Below B w W) (hb : B ≤ b) (k : Nat) (v : Value) : Below B w (W.setCell ⟨b, k, none⟩ v) := h.setCell (p := ⟨b, k, none⟩) hb v
/-- what a block holds -/
def Row (W : World) (b : Nat) (t : TypeId) (cs : List Value) : Prop := W.heap[b]? = some (.cells cs.toArray t (0, 0))
theorem Row.lt {W : World} {b : Nat} {t : TypeId} {cs : List Value} (h : Row W b t cs) : b < W.heap.size := (Array.getElem?_eq_some_iff.1 h).1
theorem Row.cell {W : World} {b : Nat} {t : TypeId} {cs : List Value} (h : Row W b t cs) (k : Nat) : W.cell? ⟨b, k, none⟩ = cs[k]? := by
  have h' : W.heap[b]? = some (.cells cs.toArray t (0, 0)) := h
  simp only [World.cell?, h']
  simp
theorem Row.free {W : World} {b : Nat} {t : TypeId} {cs : List Value} (h : Row W b t cs) (k : Nat) : W.frozen? ⟨b, k, none⟩ = false := by
  have h' : W.heap[b]? = some (.cells cs.toArray t (0, 0)) := h
  simp [World.frozen?, h']
theorem Row.new (W : World) (cs : List Value) (t : TypeId) : Row (W.alloc (.cells cs.toArray t)) W.heap.size t cs := World.alloc_heap_new W _
theorem Row.below {W W' : World} {b : Nat} {t : TypeId} {cs : List Value} (h : Row W b t cs) (hb : Below W.heap.size W W') : Row W' b t cs := (hb.block _ h.lt).trans h
theorem Row.alloc {W : World} {b : Nat} {t : TypeId} {cs : List Value} (h : Row W b t cs) (o : Obj) : Row (W.alloc o) b t cs := h.below ((Below.refl _ _).alloc (Nat.le_refl _) _)
theorem Row.drew {W : World} {b : Nat} {t : TypeId} {cs : List Value} (h : Row W b t cs) : Row W.drew b t cs := h
theorem Row.drewN {W : World} {b : Nat} {t : TypeId} {cs : List Value} (h : Row W b t cs) (n : Nat) : Row (W.drewN n) b t cs := h.below (below_drewN _ W n)
theorem Row.other {W : World} {b : Nat} {t : TypeId} {cs : List Value} (h : Row W b t cs) (a : Addr) (v : Value) (hb : b ≠ a.block) : Row (W.setCell a v) b t cs := (Below.heap_setCell _ _ _ _ hb).trans h
theorem Row.set {W : World} {b : Nat} {t : TypeId} {cs : List Value} (h : Row W b t cs) (k : Nat) (v : Value) : Row (W.setCell ⟨b, k, none⟩ v) b t (cs.set k v) := by
  unfold Row
  rw [heap_setCell_same W b k cs.toArray t v h]
  simp
theorem Row.grown {W W' : World} {b c : Nat} {t : TypeId} {cs : List Value} (h : Row W c t cs) (hg : W.grownBy W' (some b)) (hn : c ≠ b) : Row W' c t cs := (hg.block c h.lt (fun e => hn (by cases e; rfl))).trans h
/-- an expression in memory -/
def exL (x : Exp.Ex) : List Value := [.int .u64 x.a0, .int .u64 x.a1, .int .u64 x.a2, .int .u64 x.a3, .int .u64 x.a4, .int .u64 x.a5, .bool x.b3, .bool x.b5]
/-- each of the six sets fits -/
def Exp.Ex.Bd (x : Exp.Ex) : Prop := ∀ i, i < 6 → x.at i < 2 ^ 64
theorem exL_at (x : Exp.Ex) (i : Nat) (h : i < 6) : (exL x)[i]? = some (.int .u64 (x.at i)) :=
  six_cases h (P := fun i => (exL x)[i]? = some (.int .u64 (x.at i))) rfl rfl rfl rfl rfl rfl
theorem ptr_index (B k : Nat) (h : k < 6) (W : World) : (Instr.index 79 (.agg #[.pointer (some ⟨B, 0, none⟩), .pointer (some ⟨B, 1, none⟩), .pointer (some ⟨B, 2, none⟩), .pointer (some ⟨B, 3, none⟩), .pointer (some ⟨B, 4, none⟩), .pointer (some ⟨B, 5, none⟩)]) (.int .i64 (k : Int))).run Tryd.prog W = .ok (.pointer (some ⟨B, k, none⟩)) W :=
  six_cases h (P := fun k => (Instr.index 79 (.agg #[.pointer (some ⟨B, 0, none⟩), .pointer (some ⟨B, 1, none⟩), .pointer (some ⟨B, 2, none⟩), .pointer (some ⟨B, 3, none⟩), .pointer (some ⟨B, 4, none⟩), .pointer (some ⟨B, 5, none⟩)]) (.int .i64 (k : Int))).run Tryd.prog W = .ok (.pointer (some ⟨B, k, none⟩)) W)
    (by kernel_rfl) (by kernel_rfl) (by kernel_rfl) (by kernel_rfl) (by kernel_rfl) (by kernel_rfl)

set_option maxRecDepth 100000 in
set_option maxHeartbeats 2000000 in
theorem fields_any (B : Nat) (w : World) :
    Calls Tryd.prog 61 #[.pointer (some ⟨B, 0, none⟩)] w fun e w' => e = .returned (.agg #[.pointer (some ⟨B, 0, none⟩), .pointer (some ⟨B, 1, none⟩), .pointer (some ⟨B, 2, none⟩), .pointer (some ⟨B, 3, none⟩), .pointer (some ⟨B, 4, none⟩), .pointer (some ⟨B, 5, none⟩)]) ∧ Below w.heap.size w w' := by
  go_enter Tryd.func61, Tryd.ntmps61
  go_wp2_with fail
  go_region_held3 (fun _ => True) (trivial) (fail)
  go_wp2_with fail
  refine bodyPost_ret (v := .agg #[.pointer (some ⟨B, 0, none⟩), .pointer (some ⟨B, 1, none⟩), .pointer (some ⟨B, 2, none⟩), .pointer (some ⟨B, 3, none⟩), .pointer (some ⟨B, 4, none⟩), .pointer (some ⟨B, 5, none⟩)]) (by simp [results, Tryd.results61, go_sem]) rfl ⟨rfl, ?_⟩
  exact ((Below.refl _ w).alloc (Nat.le_refl _) _).drew

theorem full_at {i : Nat} (h6 : i < 6) (v : Value) (w : World) (hv : IsStrs w v (xs6 i)) :
    Calls Tryd.prog 80 #[.agg #[.int .i64 (kd6 i).lo, .int .i64 (kd6 i).hi, v, .bool (kd6 i).week]] w fun e w' => e = .returned (.tuple #[.int .u64 (Exp.fl i : Nat), .int .i64 0]) ∧ Below w.heap.size w w' := by
  have c := full_yes (kd6 i).lo (kd6 i).hi v (xs6 i) (kd6 i).week w hv (kd6_is i h6).valid
  rw [fullK_is] at c
  exact c
/-- the first k of the six full sets -/
def fulls (k : Nat) : List Value := (List.range 6).map fun j => if j < k then .int .u64 (Exp.fl j : Nat) else .int .u64 0
theorem fulls_step (k : Nat) (h : k < 6) : (fulls k).set k (.int .u64 (Exp.fl k : Nat)) = fulls (k + 1) :=
  six_cases h (P := fun k => (fulls k).set k (.int .u64 (Exp.fl k : Nat)) = fulls (k + 1)) rfl rfl rfl rfl rfl rfl
theorem fulls_at (k : Nat) (h : k < 6) : (fulls k)[k]? = some (.int .u64 0) :=
  six_cases h (P := fun k => (fulls k)[k]? = some (.int .u64 0)) rfl rfl rfl rfl rfl rfl
theorem fulls_at0 (k : Nat) (h : k < 6) : (fulls 0)[k]? = some (.int .u64 0) :=
  six_cases h (P := fun k => (fulls 0)[k]? = some (.int .u64 0)) rfl rfl rfl rfl rfl rfl
theorem fulls_all : fulls 6 = [.int .u64 (Exp.fl 0 : Nat), .int .u64 (Exp.fl 1 : Nat), .int .u64 (Exp.fl 2 : Nat), .int .u64 (Exp.fl 3 : Nat), .int .u64 (Exp.fl 4 : Nat), .int .u64 (Exp.fl 5 : Nat)] := rfl
/-- the world in fullFields: the result's block, the array's, the six kinds -/
structure FF (w : World) (k : Nat) (W : World) : Prop where
  below : Below w.heap.size w W
  r0 : Row W w.heap.size 76 (fulls 0)
  r1 : Row W (w.heap.size + 1) 76 (fulls k)
  six : Six W (w.heap.size + 1 + 1)
theorem FF.next {w W W' : World} {k : Nat} (h : FF w k W) (hb : Below W.heap.size W W') : FF w k W' := ⟨h.below.trans (hb.mono h.below.size), h.r0.below hb, h.r1.below hb, h.six.below hb⟩
theorem FF.set {w W : World} {k : Nat} (h : FF w k W) (hk : k < 6) : FF w (k + 1) (W.setCell ⟨w.heap.size + 1, k, none⟩ (.int .u64 (Exp.fl k : Nat))) := by
  have hz := h.six.lt
  refine ⟨h.below.setCell (by show w.heap.size ≤ w.heap.size + 1; omega) _, h.r0.other _ _ (by show w.heap.size ≠ w.heap.size + 1; omega), by rw [← fulls_step k hk]; exact h.r1.set k _, ?_⟩
  exact ⟨(Below.heap_setCell _ _ _ _ (by show w.heap.size + 1 + 1 ≠ w.heap.size + 1; omega)).trans h.six.months, (Below.heap_setCell _ _ _ _ (by show w.heap.size + 1 + 1 + 1 ≠ w.heap.size + 1; omega)).trans h.six.days, (Below.heap_setCell _ _ _ _ (by show w.heap.size + 1 + 1 + 1 + 1 ≠ w.heap.size + 1; omega)).trans h.six.kinds⟩
set_option maxRecDepth 100000 in
set_option maxHeartbeats 2000000 in
theorem fullFields_any (w : World) :
    Calls Tryd.prog 60 #[] w fun e w' => e = .returned (.agg #[.int .u64 (Exp.fl 0 : Nat), .int .u64 (Exp.fl 1 : Nat), .int .u64 (Exp.fl 2 : Nat), .int .u64 (Exp.fl 3 : Nat), .int .u64 (Exp.fl 4 : Nat), .int .u64 (Exp.fl 5 : Nat)]) ∧ Below w.heap.size w w' := by
  have A0 : Row ((w.alloc (.cells (fulls 0).toArray 76)).alloc (.cells (fulls 0).toArray 76)) w.heap.size 76 (fulls 0) := (Row.new w _ _).alloc _
  have A1 : Row ((w.alloc (.cells (fulls 0).toArray 76)).alloc (.cells (fulls 0).toArray 76)) (w.heap.size + 1) 76 (fulls 0) := by
    have := Row.new (w.alloc (.cells (fulls 0).toArray 76)) (fulls 0) 76
    rwa [World.size_alloc] at this
  have B0 := two_new w (.cells (fulls 0).toArray 76) (.cells (fulls 0).toArray 76)
  have HA0 := Lib.hid A0
  have HA1 := Lib.hid A1
  have HB0 := Lib.hid B0
  clear A0 A1 B0
  go_enter Tryd.func60, Tryd.ntmps60
  go_wp2_with fail
  refine (specs_any _).mono ?_
  rintro e w1 ⟨rfl, hb, h6⟩
  have F0 : FF w 0 w1 := ⟨HB0.out.trans (hb.mono (by simp; omega)), HA0.out.below hb, HA1.out.below hb, by simpa using h6⟩
  have HF := Lib.hid F0
  obtain ⟨a, ha⟩ : ∃ a, w.heap.size + 1 + 1 = a := ⟨_, rfl⟩
  simp only [World.size_alloc, ha]
  clear hb h6 HA0 HA1 HB0 F0
  go_wp2_with fail
  go_loopw [6] (fun i wr => ∃ k : Nat, k ≤ 6 ∧ i = .int .i64 k ∧ Hid (FF w k wr)) (fun i _ => 6 - (intOf i).toNat)
  case atStart => exact ⟨0, Nat.zero_le _, rfl, HF⟩
  case round =>
    obtain ⟨k, hk, rfl, hf⟩ := hrel
    by_cases hlt : k < 6
    · have six := hf.out.six
      rw [ha] at six
      obtain ⟨c0, c1, c2, c3⟩ := six.at_ k hlt
      have SK := Lib.hid (six.strs k hlt)
      obtain ⟨A, L, C, e, _⟩ := na6_slice a k hlt
      rw [e] at c2 SK
      have q1 : decide ((k : Int) < 6) = true := by rw [decide_eq_true_iff]; omega
      have q1n : decide (k < 6) = true := by rw [decide_eq_true_iff]; omega
      have i0 : (0 : Int) ≤ (k : Int) := by omega
      have i1 : (k : Int) < 6 := by omega
      have FU := Lib.hid (fun w hv => full_at hlt (.slice A L C) w hv)
      clear six e
      go_wp2_with fail
      have bp : Below wr.heap.size wr (wr.alloc (.cells #[.int .i64 (kd6 k).lo, .int .i64 (kd6 k).hi, .slice A L C, .bool (kd6 k).week] 105)) := (Below.refl _ _).alloc (Nat.le_refl _) _
      refine (FU.out _ (SK.out.below bp)).mono ?_
      rintro e w2 ⟨rfl, hb⟩
      have hf2 := (hf.out.next bp).next hb
      have d := (hf2.r1.cell k).trans (fulls_at k hlt)
      have dz := hf2.r1.free k
      have HN := Lib.hid (hf2.set hlt)
      clear hb hf2 bp SK FU c0 c1 c2 c3
      go_wp2_with fail
      go_roundw
      case rel => exact ⟨k + 1, by omega, by go_num, HN⟩
      case measure => simp [intOf]; omega
    · obtain rfl : k = 6 := by omega
      have r1 := hf.out.r1
      have r0 := hf.out.r0
      have c0 := r1.cell 0; have c1 := r1.cell 1; have c2 := r1.cell 2; have c3 := r1.cell 3; have c4 := r1.cell 4; have c5 := r1.cell 5
      have n0 := r0.cell 0; have n1 := r0.cell 1; have n2 := r0.cell 2; have n3 := r0.cell 3; have n4 := r0.cell 4; have n5 := r0.cell 5
      have f0 := r0.free 0; have f1 := r0.free 1; have f2 := r0.free 2; have f3 := r0.free 3; have f4 := r0.free 4; have f5 := r0.free 5
      rw [fulls_all] at c0 c1 c2 c3 c4 c5
      simp only [List.getElem?_cons_zero, List.getElem?_cons_succ] at c0 c1 c2 c3 c4 c5
      replace n0 := n0.trans (fulls_at0 0 (by decide)); replace n1 := n1.trans (fulls_at0 1 (by decide)); replace n2 := n2.trans (fulls_at0 2 (by decide)); replace n3 := n3.trans (fulls_at0 3 (by decide)); replace n4 := n4.trans (fulls_at0 4 (by decide)); replace n5 := n5.trans (fulls_at0 5 (by decide))
      clear r1 r0
      go_wp2_with fail
      refine bodyPost_ret (v := .agg #[.int .u64 (Exp.fl 0 : Nat), .int .u64 (Exp.fl 1 : Nat), .int .u64 (Exp.fl 2 : Nat), .int .u64 (Exp.fl 3 : Nat), .int .u64 (Exp.fl 4 : Nat), .int .u64 (Exp.fl 5 : Nat)]) (by simp [results, Tryd.results60, go_sem, n0, n1, n2, n3, n4, n5]) rfl ⟨rfl, ?_⟩
      have b := hf.out.below
      repeat' refine bel_cell ?_ (by omega) _ _
      exact b
end Go.Proofs.YtbehendogcghjaaDoor
