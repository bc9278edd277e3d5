/- The document's Name and Specs. -/
import Derived.Test.YtlmbfhbfejjpdaaDoorFldAA
namespace Go.Proofs.YtlmbfhbfejjpdaaDoor
open Go.ChangeShapes Go.WideShapes Go.RowKit Go.Shelf

set_option maxHeartbeats 1000000 in
theorem nameR_any (lo hi : Int) (v : Value) (xs : List ByteArray) (wk : Bool) (k : Int) (s : ByteArray) (q : Int) (w : World) (hv : IsStrs w v xs) (hs : ∀ x ∈ xs, x.size ≤ 9223372036854775807) (h : NameIs lo hi xs wk k s q) :
    Calls Tryd.prog 15 #[.agg #[.int .i64 lo, .int .i64 hi, v, .bool wk], .int .i64 k] w fun e w' => e = .returned (.tuple #[.string s, .int .i64 q]) ∧ Below w.heap.size w w' := by
  have X := Lib.hid (KBox.new w lo hi v xs wk 32 hv)
  have V0 := X.out.strs
  rcases h with ⟨h, rfl, rfl⟩ | ⟨h, h1, rfl, rfl⟩ | ⟨h, h1, h2, rfl, rfl, rfl⟩ | ⟨h, h1, h2, i, hi', rfl, rfl, rfl⟩
  · have C := Lib.hid (checkR_no lo hi v xs wk _ V0 h hs)
    obtain ⟨A, cap, rfl, _, _⟩ := hv
    clear V0 h
    go_enter Tryd.func15, Tryd.ntmps15
    go_wp2_with fail
    refine C.out.mono ?_
    rintro e w1 ⟨rfl, hb⟩
    have X := Lib.hid (X.out.next hb)
    clear hb
    go_wp2_with fail
    go_ret2
    exact ⟨rfl, X.out.below⟩
  · have C := Lib.hid (checkR_yes lo hi v xs wk _ V0 h)
    obtain ⟨A, cap, rfl, _, _⟩ := hv
    clear V0 h
    by_cases c : k < lo
    · have d : decide (k < lo) = true := by simpa using c
      clear h1 c
      go_enter Tryd.func15, Tryd.ntmps15
      go_wp2_with fail
      refine C.out.mono ?_
      rintro e w1 ⟨rfl, hb⟩
      have X := Lib.hid (X.out.next hb)
      obtain ⟨_, _, _, c0, c1, c2, c3⟩ := X.out
      clear hb
      go_wp2_with fail
      go_ret2
      exact ⟨rfl, X.out.below⟩
    · have d : decide (k < lo) = false := by simpa using c
      have d2 : decide (hi < k) = true := by simp; omega
      clear h1 c
      go_enter Tryd.func15, Tryd.ntmps15
      go_wp2_with fail
      refine C.out.mono ?_
      rintro e w1 ⟨rfl, hb⟩
      have X := Lib.hid (X.out.next hb)
      obtain ⟨_, _, _, c0, c1, c2, c3⟩ := X.out
      clear hb
      go_wp2_with fail
      go_ret2
      exact ⟨rfl, X.out.below⟩
  · have C := Lib.hid (checkR_yes lo hi v [] wk _ V0 h)
    obtain ⟨A, cap, rfl, _, _⟩ := hv
    have d : decide (k < lo) = false := by simp; omega
    have d2 : decide (hi < k) = false := by simp; omega
    clear V0 h h1 h2
    go_enter Tryd.func15, Tryd.ntmps15
    go_wp2_with fail
    refine C.out.mono ?_
    rintro e w1 ⟨rfl, hb⟩
    have X := Lib.hid (X.out.next hb)
    obtain ⟨_, _, _, c0, c1, c2, c3⟩ := X.out
    clear hb
    go_wp2_with fail
    go_ret2
    exact ⟨rfl, X.out.below⟩
  · have C := Lib.hid (checkR_yes lo hi v xs wk _ V0 h)
    obtain ⟨l0, _, h62, _⟩ := h
    obtain ⟨A, cap, rfl, _, _⟩ := hv
    obtain ⟨x, hx⟩ : ∃ x, xs[i] = x := ⟨_, rfl⟩
    have HX := Lib.hid hx
    rw [hx]
    have n0 : ((xs.length : Int) == 0) = false := by rw [beq_eq_false_iff_ne]; omega
    have n0' : (xs.length == 0) = false := by rw [beq_eq_false_iff_ne]; omega
    have d : decide (lo + (i : Int) < lo) = false := by simp; omega
    have d1 : decide ((i : Int) < 0) = false := by simp
    have d2 : decide (hi < lo + (i : Int)) = false := by simp; omega
    have hsub : lo + (i : Int) - lo = i := by omega
    clear V0 hx
    go_enter Tryd.func15, Tryd.ntmps15
    go_wp2_with fail
    refine C.out.mono ?_
    rintro e w1 ⟨rfl, hb⟩
    have X := Lib.hid (X.out.next hb)
    obtain ⟨b, o, e, hb0, g⟩ := X.out.strs.at_ i hi'
    cases e
    rw [HX.out] at g
    obtain ⟨_, _, _, c0, c1, c2, c3⟩ := X.out
    clear hb
    go_wp2_with fail
    go_ret2
    exact ⟨rfl, X.out.below⟩

/-! the six kinds, of both -/
/-- six kinds in block B, with their names nv -/
structure SixC (W : World) (B : Nat) (nv : Nat → Value) : Prop where
  lt : B < W.heap.size
  cells : ∀ i, i < 6 → W.cell? ⟨B, i * 4, none⟩ = some (.int .i64 (kd6 i).lo) ∧ W.cell? ⟨B, i * 4 + 1, none⟩ = some (.int .i64 (kd6 i).hi) ∧ W.cell? ⟨B, i * 4 + 2, none⟩ = some (nv i) ∧ W.cell? ⟨B, i * 4 + 3, none⟩ = some (.bool (kd6 i).week)
  strs : ∀ i, i < 6 → IsStrs W (nv i) (xs6 i)
theorem SixC.next {W W' : World} {B : Nat} {nv : Nat → Value} (h : SixC W B nv) (hb : Below W.heap.size W W') : SixC W' B nv :=
  ⟨Nat.lt_of_lt_of_le h.lt hb.size, fun i hi => by
    obtain ⟨a, b, c, d⟩ := h.cells i hi
    exact ⟨(hb.cell (p := ⟨B, i * 4, none⟩) h.lt).trans a, (hb.cell (p := ⟨B, i * 4 + 1, none⟩) h.lt).trans b, (hb.cell (p := ⟨B, i * 4 + 2, none⟩) h.lt).trans c, (hb.cell (p := ⟨B, i * 4 + 3, none⟩) h.lt).trans d⟩,
  fun i hi => (h.strs i hi).below hb⟩
theorem Six.c {W : World} {a : Nat} (h : Six W a) : SixC W (a + 1 + 1) (na6 a) := ⟨h.lt, fun i hi => h.at_ i hi, fun i hi => h.strs i hi⟩
theorem sixR_allocs {w : World} {o1 o2 o3 : Obj} (h1 : o1 = .cells (xsM.map Value.string).toArray 9) (h2 : o2 = .cells (xsW.map Value.string).toArray 9)
    (h3 : o3 = .cells #[.int .i64 0, .int .i64 59, .slice none 0 0, .bool false, .int .i64 0, .int .i64 59, .slice none 0 0, .bool false, .int .i64 0, .int .i64 23, .slice none 0 0, .bool false, .int .i64 1, .int .i64 31, .slice none 0 0, .bool false, .int .i64 1, .int .i64 12, .slice (some ⟨w.heap.size, 0, none⟩) 12 12, .bool false, .int .i64 0, .int .i64 6, .slice (some ⟨w.heap.size + 1, 0, none⟩) 7 7, .bool true] 32) : SixC (((w.alloc o1).alloc o2).alloc o3) (w.heap.size + 1 + 1) (na6 w.heap.size) := by
  have s1 : (w.alloc o1).heap.size = w.heap.size + 1 := by simp
  have s2 : ((w.alloc o1).alloc o2).heap.size = (w.alloc o1).heap.size + 1 := by simp
  have m : (((w.alloc o1).alloc o2).alloc o3).heap[w.heap.size]? = some (.cells (xsM.map Value.string).toArray 9 (0, 0)) := by
    rw [heap_old _ _ _ (by omega), heap_old _ _ _ (by omega), World.alloc_heap_new, h1]
  have d : (((w.alloc o1).alloc o2).alloc o3).heap[w.heap.size + 1]? = some (.cells (xsW.map Value.string).toArray 9 (0, 0)) := by
    rw [heap_old _ _ _ (by omega), ← s1, World.alloc_heap_new, h2]
  have k : (((w.alloc o1).alloc o2).alloc o3).heap[w.heap.size + 1 + 1]? = some o3 := by
    rw [show w.heap.size + 1 + 1 = ((w.alloc o1).alloc o2).heap.size by omega, World.alloc_heap_new]
  have lt := (Array.getElem?_eq_some_iff.1 k).1
  rw [h3] at k
  refine ⟨lt, fun i hi => ?_, fun i hi => ?_⟩
  · simp only [World.cell?, h3, k]
    match i, hi with
    | 0, _ => exact ⟨rfl, rfl, rfl, rfl⟩
    | 1, _ => exact ⟨rfl, rfl, rfl, rfl⟩
    | 2, _ => exact ⟨rfl, rfl, rfl, rfl⟩
    | 3, _ => exact ⟨rfl, rfl, rfl, rfl⟩
    | 4, _ => exact ⟨rfl, rfl, rfl, rfl⟩
    | 5, _ => exact ⟨rfl, rfl, rfl, rfl⟩
  · exact six_cases hi (P := fun i => IsStrs _ (na6 w.heap.size i) (xs6 i)) (strs_nil _) (strs_nil _) (strs_nil _) (strs_nil _) (strs_block m) (strs_block d)
set_option maxRecDepth 100000 in
set_option maxHeartbeats 2000000 in
theorem specsR_any (w : World) :
    Calls Tryd.prog 18 #[] w fun e w' => e = .returned (.slice (some ⟨w.heap.size + 1 + 1, 0, none⟩) 6 6) ∧ Below w.heap.size w w' ∧ SixC w' (w.heap.size + 1 + 1) (na6 w.heap.size) := by
  go_enter Tryd.func18, Tryd.ntmps18
  go_wp2
  go_ret
  exact ⟨rfl, three_below _ _ _ _, sixR_allocs rfl rfl rfl⟩
/-- the six kinds of both, in a world since w -/
structure NCtx (w W : World) (B1 B2 : Nat) (n1 n2 : Nat → Value) : Prop where
  below : Below w.heap.size w W
  lay : Lay W
  one : SixC W B1 n1
  two : SixC W B2 n2
theorem NCtx.next {w W W' : World} {B1 B2 : Nat} {n1 n2 : Nat → Value} (h : NCtx w W B1 B2 n1 n2) (hb : Below W.heap.size W W') : NCtx w W' B1 B2 n1 n2 :=
  ⟨h.below.trans (hb.mono h.below.size), h.lay.below hb, h.one.next hb, h.two.next hb⟩
theorem NCtx.drew {w W : World} {B1 B2 : Nat} {n1 n2 : Nat → Value} (h : NCtx w W B1 B2 n1 n2) : NCtx w W.drew B1 B2 n1 n2 := h.next ((Below.refl _ W).drew)
theorem NCtx.drewN {w W : World} {B1 B2 : Nat} {n1 n2 : Nat → Value} (h : NCtx w W B1 B2 n1 n2) (n : Nat) : NCtx w (W.drewN n) B1 B2 n1 n2 := h.next (below_drewN _ W n)
theorem xs6_len (i : Nat) (h : i < 6) : (xs6 i).length ≤ 12 := six_cases h (P := fun i => (xs6 i).length ≤ 12) (by decide) (by decide) (by decide) (by decide) (by decide) (by decide)
theorem texts_ctx {w W : World} {B1 B2 : Nat} {n1 n2 : Nat → Value} (h : NCtx w W B1 B2 n1 n2) (i : Nat) (hi : i < 6) (u v : Value) (hu : n1 i = u) (hv : n2 i = v) :
    Calls Tryd.prog 19 #[u, v] W fun e W' => e = .returned (.bool true) ∧ NCtx w W' B1 B2 n1 n2 := by
  subst hu hv
  exact (texts_same _ _ (xs6 i) W (by have := xs6_len i hi; omega) (h.one.strs i hi) (h.two.strs i hi)).mono fun _ _ ⟨a, b⟩ => ⟨a, h.next b⟩
end Go.Proofs.YtlmbfhbfejjpdaaDoor
