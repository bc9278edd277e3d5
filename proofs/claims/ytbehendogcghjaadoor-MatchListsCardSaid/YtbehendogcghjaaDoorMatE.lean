/- Contract of ever of package match: is any date matched. -/
import Derived.Test.YtbehendogcghjaaDoorMatC
namespace Go.Proofs.YtbehendogcghjaaDoor
open Go.ChangeShapes Go.RowKit Go.Shelf

/-- some blocks more -/
def allocs (w : World) (os : List Obj) : World := os.foldl (fun w o => w.alloc o) w
theorem allocs_size : ∀ (os : List Obj) (w : World), (allocs w os).heap.size = w.heap.size + os.length
  | [], w => by simp [allocs]
  | o :: os, w => by
    have := allocs_size os (w.alloc o)
    simp only [World.size_alloc] at this
    show (allocs (w.alloc o) os).heap.size = _
    rw [this, List.length_cons]
    omega
theorem allocs_below : ∀ (os : List Obj) (w : World), Below w.heap.size w (allocs w os)
  | [], w => Below.refl _ _
  | o :: os, w => ((Below.refl _ w).alloc (Nat.le_refl _) o).trans ((allocs_below os (w.alloc o)).mono (by simp))
theorem allocs_at : ∀ (os : List Obj) (w : World) (k : Nat) (o : Obj), os[k]? = some o → (allocs w os).heap[w.heap.size + k]? = some o
  | [], _, _, _, h => by simp at h
  | o :: os, w, 0, p, h => by
    simp only [List.getElem?_cons_zero, Option.some.injEq] at h
    subst h
    show (allocs (w.alloc o) os).heap[w.heap.size + 0]? = _
    rw [Nat.add_zero, (allocs_below os (w.alloc o)).block _ (by simp)]
    exact World.alloc_heap_new w o
  | o :: os, w, k + 1, p, h => by
    have q := allocs_at os (w.alloc o) k p (by simpa using h)
    rw [World.size_alloc] at q
    show (allocs (w.alloc o) os).heap[w.heap.size + (k + 1)]? = _
    rw [show w.heap.size + (k + 1) = w.heap.size + 1 + k by omega]
    exact q
theorem allocs_box {os : List Obj} {w : World} {k b : Nat} {t : TypeId} {v : Value} (h : os[k]? = some (.cells #[v] t)) (hb : b = w.heap.size + k) : Boxed (allocs w os) b t v := by rw [hb]; exact allocs_at os w k _ h

attribute [local go_sem] Oper.semAt_some
theorem lenM_in (m : Nat) (l n : Nat) (w : World) (L : LayM w) :
    CallsIn (Fence.wide.inRound l) n Tryd.prog 65 #[.int .i64 2000, .int .i64 m] w fun e w' => (∃ q, e = .returned (.tuple #[.int .i64 (lenM m), .int .i64 q])) ∧ w = w' :=
  CallsIn.inRound l (callsIn_wide.2 (lenM_any m w L))
set_option maxRecDepth 100000 in
set_option maxHeartbeats 2000000 in
theorem ever_in (n : Nat) (hn : 3 ≤ n) (x : Exp.Ex) (hok : x.Ok) (r : Bool) (hr : r = true ↔ x.Evr) (w : World) (L : LayM w) :
    CallsIn Fence.wide n Tryd.prog 42 #[.agg #[.int .u64 x.a0, .int .u64 x.a1, .int .u64 x.a2, .int .u64 x.a3, .int .u64 x.a4, .int .u64 x.a5, .bool x.b3, .bool x.b5]] w fun e W' => e = .returned (.bool r) ∧ Below w.heap.size w W' := by
  have h1 : 1 ≤ n := by omega
  refine callsIn_of_wp_marks Tryd.func42 rfl trivial ?_ rfl
  simp only [Tryd.ntmps42, List.size_toArray, List.length_cons, List.length_nil, Nat.reduceAdd, Nat.reduceSub, Array.replicate_succ, Array.replicate_zero, List.push_toArray, List.append_toArray, List.nil_append, List.cons_append]
  cases h5 : x.b5 with
  | false =>
    obtain rfl : r = true := hr.2 (evr_week hok h5)
    clear hok hr
    gi_wp2
    refine ⟨.bool true, by simp [results, Tryd.results42, go_sem], rfl, ?_⟩
    exact ((Below.refl _ w).alloc (Nat.le_refl _) _).alloc (by simp) _
  | true =>
    have hx := bd_of hok
    have h3 : x.a3 < 2 ^ 64 := hx 3 (by decide)
    have h4 : x.a4 < 2 ^ 64 := hx 4 (by decide)
    obtain ⟨a, b, hab, _⟩ := aheadD_ex (d := .up) (v := 1) h3
    have HE := Lib.hid (evr_star hok h5 hab)
    have HN := Lib.hid (fun w0 (L : LayM w0) => next_any x.a3 1 a b w0 L.b h3 (by decide) hab)
    have H4 := Lib.hid h4
    have HM := Lib.hid (fun v (h : x.a4.testBit v = true) => bit4 hok h)
    have LL := Lib.hid L
    clear hok hab hx h3 h4 L
    gi_wp2_with (first
     | (refine ⟨trivial, ?_⟩; gi_at_call 63; refine (callsIn_wide.2 (HN.out _ ((LL.out.alloc _).alloc _))).mono ?_; rintro e w' ⟨rfl, rfl⟩)
     | (refine ⟨trivial, ?_⟩; gi_at_call 64; refine (callsIn_wide.2 (numbers_up _ _ _)).mono ?_; rintro e w' ⟨rfl, rfl⟩))
    obtain ⟨os, hos⟩ : ∃ os : List Obj, os = [.cells #[.int .u64 x.a0, .int .u64 x.a1, .int .u64 x.a2, .int .u64 x.a3, .int .u64 x.a4, .int .u64 x.a5, .bool x.b3, .bool true] 24, .cells #[.bool false] 4, .cells #[.int .i64 a] 3, .cells #[.int .i64 1] 55, .cells #[.int .u64 x.a4] 22, .cells #[.int .i64 1] 3] := ⟨_, rfl⟩
    obtain ⟨W0, hW0⟩ : ∃ W0, W0 = allocs w os := ⟨_, rfl⟩
    have hB0 : Below w.heap.size w W0 := by rw [hW0]; exact allocs_below _ _
    have hsz : W0.heap.size = w.heap.size + 6 := by rw [hW0, allocs_size, hos]; rfl
    have b1 : Boxed W0 (w.heap.size + 1) 4 (.bool false) := by rw [hW0]; exact allocs_box (k := 1) (by rw [hos]; rfl) rfl
    have b2 : Boxed W0 (w.heap.size + 1 + 1) 3 (.int .i64 a) := by rw [hW0]; exact allocs_box (k := 2) (by rw [hos]; rfl) (by omega)
    have b3 : Boxed W0 (w.heap.size + 1 + 1 + 1) 55 (.int .i64 1) := by rw [hW0]; exact allocs_box (k := 3) (by rw [hos]; rfl) (by omega)
    have b4 : Boxed W0 (w.heap.size + 1 + 1 + 1 + 1) 22 (.int .u64 x.a4) := by rw [hW0]; exact allocs_box (k := 4) (by rw [hos]; rfl) (by omega)
    have b5 : Boxed W0 (w.heap.size + 1 + 1 + 1 + 1 + 1) 3 (.int .i64 1) := by rw [hW0]; exact allocs_box (k := 5) (by rw [hos]; rfl) (by omega)
    change Code.wpIn _ _ _ _ _ _ (allocs w [.cells #[.int .u64 x.a0, .int .u64 x.a1, .int .u64 x.a2, .int .u64 x.a3, .int .u64 x.a4, .int .u64 x.a5, .bool x.b3, .bool true] 24, .cells #[.bool false] 4, .cells #[.int .i64 a] 3, .cells #[.int .i64 1] 55, .cells #[.int .u64 x.a4] 22, .cells #[.int .i64 1] 3])
    rw [← hos, ← hW0]
    clear hos hW0
    have L0 := Lib.hid (LL.out.below hB0)
    have tb : 1 < w.heap.size := LL.out.b.lt
    have tc : 0 < w.heap.size := LL.out.c.lt
    have TB := Lib.hid tb
    have TC := Lib.hid tc
    clear tb tc
    apply wpIn_rangeFunc_ownG rfl h1 (gf := 83) (lb := #[.pointer (some ⟨w.heap.size + 1 + 1 + 1, 0, none⟩), .pointer (some ⟨w.heap.size + 1 + 1 + 1 + 1, 0, none⟩), .pointer (some ⟨w.heap.size + 1 + 1 + 1 + 1 + 1, 0, none⟩)]) rfl trivial (enters_of Tryd.func83 (by kernel_rfl) rfl)
      (numbers_stops (fun b => b = w.heap.size + 1) (n - 1) (by omega) _ _ _ .up x.a4 1 H4.out (by decide) (by decide) (by omega) (by omega) (by have := TB.out; omega) W0 b3 b4 b5 L0.out.b) Kc.trans Kc.book (Below.refl _ _) (fun _ => rfl)
      (fun pre W => ((Boxed W (w.heap.size + 1) 4 (.bool false) ∧ Boxed W (w.heap.size + 1 + 1) 3 (.int .i64 a)) ∧ (∀ m ∈ pre, ¬ a ≤ lenM (m : Fin 64).val)) ∧ Kc (fun b => b = w.heap.size + 1) W0 W ∧ Below w.heap.size w W)
      (fun c pre W => (Boxed W (w.heap.size + 1) 4 (.bool true) ∧ (c = .ret ∧ ∃ m ∈ pre, a ≤ lenM (m : Fin 64).val)) ∧ Below w.heap.size w W)
      (OwnFrom.and (OwnFrom.and (OwnFrom.and (Own.from (boxed_own _ _ _) _) (Own.from (boxed_own _ _ _) _)) (ownFrom_pure _ _)) (OwnFrom.and (Own.from Kc.own _) (ownFrom_below (Nat.le_refl _) (by omega))))
      (fun c => OwnFrom.and (OwnFrom.and (Own.from (boxed_own _ _ _) _) (ownFrom_pure _ _)) (ownFrom_below (Nat.le_refl _) (by omega)))
      ⟨⟨⟨b1, b2⟩, by simp⟩, Kc.refl _ _, hB0⟩
      _ ?assign ?body ?done ?stop
    case assign =>
      intro l x W K hK
      gi_wp2
      exact hK
    case body =>
      rintro l pre m W ⟨⟨⟨v1, v2⟩, hp⟩, hk, hB⟩ _
      have c1 := v1.cell; have f1 := v1.frozen; have c2 := v2.cell
      have LW := Lib.hid (LayM.kc hk (by have := TB.out; omega) (by have := TC.out; omega) L0.out)
      have h1' : 1 ≤ n - 1 - 1 := by omega
      have HP := Lib.hid hp
      clear hp
      by_cases hl : a ≤ lenM m.val
      · have HL := Lib.hid hl
        gi_wp2_with (refine ⟨trivial, ?_⟩; gi_at_call 65; refine (lenM_in _ _ _ _ LW.out).mono ?_; rintro e w' ⟨⟨q, rfl⟩, rfl⟩)
        exact ⟨(KeepsOthers.setCell _ _ _).from _, ⟨v1.set _, rfl, m, by simp, HL.out⟩, hB.setCell (p := ⟨w.heap.size + 1, 0, none⟩) (by simp) _⟩
      · have HL := Lib.hid hl
        gi_wp2_with (refine ⟨trivial, ?_⟩; gi_at_call 65; refine (lenM_in _ _ _ _ LW.out).mono ?_; rintro e w' ⟨⟨q, rfl⟩, rfl⟩)
        refine ⟨KeepsFrom.refl _ _, Kc.refl _ _, ⟨⟨v1, v2⟩, fun k hk' => ?_⟩, hk, hB⟩
        rcases List.mem_append.1 hk' with e | e
        · exact HP.out k e
        · obtain rfl : k = m := by simpa using e
          exact HL.out
    case done =>
      rintro D ys W hD hys ⟨⟨⟨v1, v2⟩, hp⟩, hk, hB⟩ hK
      have c1 := v1.cell; have f1 := v1.frozen
      have e : r = false := by
        cases r with
        | false => rfl
        | true =>
          obtain ⟨m, h1, h2⟩ := HE.out.1 (hr.1 rfl)
          have mm : m ∈ Mat.Dir.up.nums x.a4 1 := Mat.nums_mem.2 ⟨set_hi H4.out h1, h1, by have := HM.out m h1; simp only [Mat.Dir.val]; omega⟩
          rw [← hys] at mm
          obtain ⟨q, hq, rfl⟩ := List.mem_map.1 mm
          exact absurd h2 (hp q hq)
      subst e
      clear hp hr hys
      gi_wp2
      have hK' := (KeepsOthers.setCell W ⟨w.heap.size + 1, 0, none⟩ (.bool false)).same D _ hK rfl
      refine ⟨by simp, .inl ⟨_, _, rfl, run_takeDeferred hK', ?_⟩⟩
      have hc5 := cell_kept (v1.set (.bool false)).cell (grownBy_putObj' _ D (.deferred none)) (fun r e => by cases e; exact ⟨_, hK', rfl⟩)
      refine ⟨.bool false, ?_, rfl, (hB.setCell (p := ⟨w.heap.size + 1, 0, none⟩) (by simp) _).trans (belowK_b (w := w) (Nat.le_refl _) _ D _ _ (by omega) hK' rfl rfl)⟩
      simp [results, Tryd.results42, go_sem, hc5]
    case stop =>
      rintro D c pre W hD hpre ⟨⟨v1, rfl, m, hm, hl⟩, hB⟩ hK
      obtain rfl : r = true := hr.2 (HE.out.2 ⟨m.val, (Mat.nums_mem.1 (hpre.subset (List.mem_map_of_mem (f := fun x : Fin 64 => x.val) hm))).2.1, hl⟩)
      clear hr hl hm hpre
      gi_wp2
      refine ⟨by simp, .inl ⟨_, _, rfl, run_takeDeferred hK, ?_⟩⟩
      have hc5 := cell_kept v1.cell (grownBy_putObj' _ D (.deferred none)) (fun r e => by cases e; exact ⟨_, hK, rfl⟩)
      refine ⟨.bool true, ?_, rfl, hB.trans (belowK_b (w := w) (Nat.le_refl _) W D _ _ (by omega) hK rfl rfl)⟩
      simp [results, Tryd.results42, go_sem, hc5]
end Go.Proofs.YtbehendogcghjaaDoor
