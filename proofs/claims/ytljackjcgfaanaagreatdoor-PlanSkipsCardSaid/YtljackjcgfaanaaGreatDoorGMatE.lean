/- Contract of ever of package match: is any date matched. Plain facts of the days that an expression matches, in a direction: which there are, one behind the other. Plain facts of the search for the first matching second, day by day, in a direction. Contract of the iterator over the days that an expression matches, in a direction. -/
import Derived.Test.YtljackjcgfaanaaGreatDoorGMFldO
import Derived.Test.YtljackjcgfaanaaGreatDoorGMPlain
import Derived.Sort.QuietIn
/- Contract of ever of package match: is any date matched. -/
namespace Go.Proofs.YtljackjcgfaanaaGreatDoor
open Go.ChangeShapes Go.RowKit Go.Shelf

/-- some blocks more -/
def allocs (w : World) (os : List Obj) : World := os.foldl (fun w o => w.alloc o) w
theorem allocs_size : ∀ (os : List Obj) (w : World), (allocs w os).heap.size = w.heap.size + os.length
  | [], w => by simp [allocs]
  | o :: os, w => by
    have := allocs_size os (w.alloc o)
    simp only [World.size_alloc] at this
    show (allocs (w.alloc o) os).heap.size = _
    rw [this, List.length_cons]
    omega
theorem allocs_below : ∀ (os : List Obj) (w : World), Below w.heap.size w (allocs w os)
  | [], w => Below.refl _ _
  | o :: os, w => ((Below.refl _ w).alloc (Nat.le_refl _) o).trans ((allocs_below os (w.alloc o)).mono (by simp))
theorem allocs_at : ∀ (os : List Obj) (w : World) (k : Nat) (o : Obj), os[k]? = some o → (allocs w os).heap[w.heap.size + k]? = some o
  | [], _, _, _, h => by simp at h
  | o :: os, w, 0, p, h => by
    simp only [List.getElem?_cons_zero, Option.some.injEq] at h
    subst h
    show (allocs (w.alloc o) os).heap[w.heap.size + 0]? = _
    rw [Nat.add_zero, (allocs_below os (w.alloc o)).block _ (by simp)]
    exact World.alloc_heap_new w o
  | o :: os, w, k + 1, p, h => by
    have q := allocs_at os (w.alloc o) k p (by simpa using h)
    rw [World.size_alloc] at q
    show (allocs (w.alloc o) os).heap[w.heap.size + (k + 1)]? = _
    rw [show w.heap.size + (k + 1) = w.heap.size + 1 + k by omega]
    exact q
theorem allocs_box {os : List Obj} {w : World} {k b : Nat} {t : TypeId} {v : Value} (h : os[k]? = some (.cells #[v] t)) (hb : b = w.heap.size + k) : Boxed (allocs w os) b t v := by rw [hb]; exact allocs_at os w k _ h

attribute [local go_sem] Oper.semAt_some
theorem lenM_in (m : Nat) (l n : Nat) (w : World) (L : LayM w) :
    CallsIn (Fence.wide.inRound l) n Tryz.prog 146 #[.int .i64 2000, .int .i64 m] w fun e w' => (∃ q, e = .returned (.tuple #[.int .i64 (lenM m), .int .i64 q])) ∧ w = w' :=
  CallsIn.inRound l (callsIn_wide.2 (lenM_any m w L))
set_option maxRecDepth 100000 in
set_option maxHeartbeats 2000000 in
theorem ever_in (n : Nat) (hn : 3 ≤ n) (x : Exp.Ex) (hok : x.Ok) (r : Bool) (hr : r = true ↔ x.Evr) (w : World) (L : LayM w) :
    CallsIn Fence.wide n Tryz.prog 143 #[.agg #[.int .u64 x.a0, .int .u64 x.a1, .int .u64 x.a2, .int .u64 x.a3, .int .u64 x.a4, .int .u64 x.a5, .bool x.b3, .bool x.b5]] w fun e W' => e = .returned (.bool r) ∧ Below w.heap.size w W' := by
  have h1 : 1 ≤ n := by omega
  refine callsIn_of_wp_marks Tryz.func143 rfl trivial ?_ rfl
  simp only [Tryz.ntmps143, List.size_toArray, List.length_cons, List.length_nil, Nat.reduceAdd, Nat.reduceSub, Array.replicate_succ, Array.replicate_zero, List.push_toArray, List.append_toArray, List.nil_append, List.cons_append]
  cases h5 : x.b5 with
  | false =>
    obtain rfl : r = true := hr.2 (evr_week hok h5)
    clear hok hr
    gi_wp2
    refine ⟨.bool true, by simp [results, Tryz.results143, go_sem], rfl, ?_⟩
    exact ((Below.refl _ w).alloc (Nat.le_refl _) _).alloc (by simp) _
  | true =>
    have hx := bd_of hok
    have h3 : x.a3 < 2 ^ 64 := hx 3 (by decide)
    have h4 : x.a4 < 2 ^ 64 := hx 4 (by decide)
    obtain ⟨a, b, hab, _⟩ := aheadD_ex (d := .up) (v := 1) h3
    have HE := Lib.hid (evr_star hok h5 hab)
    have HN := Lib.hid (fun w0 (L : LayM w0) => next_any x.a3 1 a b w0 L.b h3 (by decide) hab)
    have H4 := Lib.hid h4
    have HM := Lib.hid (fun v (h : x.a4.testBit v = true) => bit4 hok h)
    have LL := Lib.hid L
    clear hok hab hx h3 h4 L
    gi_wp2_with (first
     | (refine ⟨trivial, ?_⟩; gi_at_call 158; refine (callsIn_wide.2 (HN.out _ ((LL.out.alloc _).alloc _))).mono ?_; rintro e w' ⟨rfl, rfl⟩)
     | (refine ⟨trivial, ?_⟩; gi_at_call 148; refine (callsIn_wide.2 (numbers_up _ _ _)).mono ?_; rintro e w' ⟨rfl, rfl⟩))
    obtain ⟨os, hos⟩ : ∃ os : List Obj, os = [.cells #[.int .u64 x.a0, .int .u64 x.a1, .int .u64 x.a2, .int .u64 x.a3, .int .u64 x.a4, .int .u64 x.a5, .bool x.b3, .bool true] 24, .cells #[.bool false] 4, .cells #[.int .i64 a] 3, .cells #[.int .i64 1] 124, .cells #[.int .u64 x.a4] 22, .cells #[.int .i64 1] 3] := ⟨_, rfl⟩
    obtain ⟨W0, hW0⟩ : ∃ W0, W0 = allocs w os := ⟨_, rfl⟩
    have hB0 : Below w.heap.size w W0 := by rw [hW0]; exact allocs_below _ _
    have hsz : W0.heap.size = w.heap.size + 6 := by rw [hW0, allocs_size, hos]; rfl
    have b1 : Boxed W0 (w.heap.size + 1) 4 (.bool false) := by rw [hW0]; exact allocs_box (k := 1) (by rw [hos]; rfl) rfl
    have b2 : Boxed W0 (w.heap.size + 1 + 1) 3 (.int .i64 a) := by rw [hW0]; exact allocs_box (k := 2) (by rw [hos]; rfl) (by omega)
    have b3 : Boxed W0 (w.heap.size + 1 + 1 + 1) 124 (.int .i64 1) := by rw [hW0]; exact allocs_box (k := 3) (by rw [hos]; rfl) (by omega)
    have b4 : Boxed W0 (w.heap.size + 1 + 1 + 1 + 1) 22 (.int .u64 x.a4) := by rw [hW0]; exact allocs_box (k := 4) (by rw [hos]; rfl) (by omega)
    have b5 : Boxed W0 (w.heap.size + 1 + 1 + 1 + 1 + 1) 3 (.int .i64 1) := by rw [hW0]; exact allocs_box (k := 5) (by rw [hos]; rfl) (by omega)
    change Code.wpIn _ _ _ _ _ _ (allocs w [.cells #[.int .u64 x.a0, .int .u64 x.a1, .int .u64 x.a2, .int .u64 x.a3, .int .u64 x.a4, .int .u64 x.a5, .bool x.b3, .bool true] 24, .cells #[.bool false] 4, .cells #[.int .i64 a] 3, .cells #[.int .i64 1] 124, .cells #[.int .u64 x.a4] 22, .cells #[.int .i64 1] 3])
    rw [← hos, ← hW0]
    clear hos hW0
    have L0 := Lib.hid (LL.out.below hB0)
    have tb : 1 < w.heap.size := LL.out.b.lt
    have tc : 0 < w.heap.size := LL.out.c.lt
    have TB := Lib.hid tb
    have TC := Lib.hid tc
    clear tb tc
    apply wpIn_rangeFunc_ownG rfl h1 (gf := 163) (lb := #[.pointer (some ⟨w.heap.size + 1 + 1 + 1, 0, none⟩), .pointer (some ⟨w.heap.size + 1 + 1 + 1 + 1, 0, none⟩), .pointer (some ⟨w.heap.size + 1 + 1 + 1 + 1 + 1, 0, none⟩)]) rfl trivial (enters_of Tryz.func163 (by kernel_rfl) rfl)
      (numbers_stops (fun b => b = w.heap.size + 1) (n - 1) (by omega) _ _ _ .up x.a4 1 H4.out (by decide) (by decide) (by omega) (by omega) (by have := TB.out; omega) W0 b3 b4 b5 L0.out.b) Kc.trans Kc.book (Below.refl _ _) (fun _ => rfl)
      (fun pre W => ((Boxed W (w.heap.size + 1) 4 (.bool false) ∧ Boxed W (w.heap.size + 1 + 1) 3 (.int .i64 a)) ∧ (∀ m ∈ pre, ¬ a ≤ lenM (m : Fin 64).val)) ∧ Kc (fun b => b = w.heap.size + 1) W0 W ∧ Below w.heap.size w W)
      (fun c pre W => (Boxed W (w.heap.size + 1) 4 (.bool true) ∧ (c = .ret ∧ ∃ m ∈ pre, a ≤ lenM (m : Fin 64).val)) ∧ Below w.heap.size w W)
      (OwnFrom.and (OwnFrom.and (OwnFrom.and (Own.from (boxed_own _ _ _) _) (Own.from (boxed_own _ _ _) _)) (ownFrom_pure _ _)) (OwnFrom.and (Own.from Kc.own _) (ownFrom_below (Nat.le_refl _) (by omega))))
      (fun c => OwnFrom.and (OwnFrom.and (Own.from (boxed_own _ _ _) _) (ownFrom_pure _ _)) (ownFrom_below (Nat.le_refl _) (by omega)))
      ⟨⟨⟨b1, b2⟩, by simp⟩, Kc.refl _ _, hB0⟩
      _ ?assign ?body ?done ?stop
    case assign =>
      intro l x W K hK
      gi_wp2
      exact hK
    case body =>
      rintro l pre m W ⟨⟨⟨v1, v2⟩, hp⟩, hk, hB⟩ _
      have c1 := v1.cell; have f1 := v1.frozen; have c2 := v2.cell
      have LW := Lib.hid (LayM.kc hk (by have := TB.out; omega) (by have := TC.out; omega) L0.out)
      have h1' : 1 ≤ n - 1 - 1 := by omega
      have HP := Lib.hid hp
      clear hp
      by_cases hl : a ≤ lenM m.val
      · have HL := Lib.hid hl
        gi_wp2_with (refine ⟨trivial, ?_⟩; gi_at_call 146; refine (lenM_in _ _ _ _ LW.out).mono ?_; rintro e w' ⟨⟨q, rfl⟩, rfl⟩)
        exact ⟨(KeepsOthers.setCell _ _ _).from _, ⟨v1.set _, rfl, m, by simp, HL.out⟩, hB.setCell (p := ⟨w.heap.size + 1, 0, none⟩) (by simp) _⟩
      · have HL := Lib.hid hl
        gi_wp2_with (refine ⟨trivial, ?_⟩; gi_at_call 146; refine (lenM_in _ _ _ _ LW.out).mono ?_; rintro e w' ⟨⟨q, rfl⟩, rfl⟩)
        refine ⟨KeepsFrom.refl _ _, Kc.refl _ _, ⟨⟨v1, v2⟩, fun k hk' => ?_⟩, hk, hB⟩
        rcases List.mem_append.1 hk' with e | e
        · exact HP.out k e
        · obtain rfl : k = m := by simpa using e
          exact HL.out
    case done =>
      rintro D ys W hD hys ⟨⟨⟨v1, v2⟩, hp⟩, hk, hB⟩ hK
      have c1 := v1.cell; have f1 := v1.frozen
      have e : r = false := by
        cases r with
        | false => rfl
        | true =>
          obtain ⟨m, h1, h2⟩ := HE.out.1 (hr.1 rfl)
          have mm : m ∈ Mat.Dir.up.nums x.a4 1 := Mat.nums_mem.2 ⟨set_hi H4.out h1, h1, by have := HM.out m h1; simp only [Mat.Dir.val]; omega⟩
          rw [← hys] at mm
          obtain ⟨q, hq, rfl⟩ := List.mem_map.1 mm
          exact absurd h2 (hp q hq)
      subst e
      clear hp hr hys
      gi_wp2
      have hK' := (KeepsOthers.setCell W ⟨w.heap.size + 1, 0, none⟩ (.bool false)).same D _ hK rfl
      refine ⟨by simp, .inl ⟨_, _, rfl, run_takeDeferred hK', ?_⟩⟩
      have hc5 := cell_kept (v1.set (.bool false)).cell (grownBy_putObj' _ D (.deferred none)) (fun r e => by cases e; exact ⟨_, hK', rfl⟩)
      refine ⟨.bool false, ?_, rfl, (hB.setCell (p := ⟨w.heap.size + 1, 0, none⟩) (by simp) _).trans (belowK_b (w := w) (Nat.le_refl _) _ D _ _ (by omega) hK' rfl rfl)⟩
      simp [results, Tryz.results143, go_sem, hc5]
    case stop =>
      rintro D c pre W hD hpre ⟨⟨v1, rfl, m, hm, hl⟩, hB⟩ hK
      obtain rfl : r = true := hr.2 (HE.out.2 ⟨m.val, (Mat.nums_mem.1 (hpre.subset (List.mem_map_of_mem (f := fun x : Fin 64 => x.val) hm))).2.1, hl⟩)
      clear hr hl hm hpre
      gi_wp2
      refine ⟨by simp, .inl ⟨_, _, rfl, run_takeDeferred hK, ?_⟩⟩
      have hc5 := cell_kept v1.cell (grownBy_putObj' _ D (.deferred none)) (fun r e => by cases e; exact ⟨_, hK, rfl⟩)
      refine ⟨.bool true, ?_, rfl, hB.trans (belowK_b (w := w) (Nat.le_refl _) W D _ _ (by omega) hK rfl rfl)⟩
      simp [results, Tryz.results143, go_sem, hc5]
end Go.Proofs.YtljackjcgfaanaaGreatDoor
/- Plain facts of the days that an expression matches, in a direction: which there are, one behind the other. -/
namespace Go.Proofs.YtljackjcgfaanaaGreatDoor
open Go.ChangeShapes Go.RowKit

/-- a day of the calendar -/
abbrev Dy := { n : Int // 0 ≤ n ∧ n ≤ 2932896 }
/-- does an expression match a day? -/
noncomputable def Exp.Ex.onB (x : Exp.Ex) (n : Int) : Bool := @decide (x.On n) (Classical.propDecidable _)
theorem onB_iff {x : Exp.Ex} {n : Int} : x.onB n = true ↔ x.On n := by unfold Exp.Ex.onB; exact @decide_eq_true_iff _ (Classical.propDecidable _)
theorem onB_no {x : Exp.Ex} {n : Int} : x.onB n = false ↔ ¬ x.On n := by unfold Exp.Ex.onB; exact @decide_eq_false_iff_not _ (Classical.propDecidable _)
/-- of so many days, from one on, those that match -/
noncomputable def Mat.Dir.daysTo (d : Mat.Dir) (x : Exp.Ex) (a : Int) (k : Nat) : List Int := ((List.range k).map fun i => a + d.val * ((i : Nat) : Int)).filter x.onB
theorem daysTo_yes {d : Mat.Dir} {x : Exp.Ex} {a : Int} {k : Nat} (h : x.onB (a + d.val * (k : Int)) = true) : d.daysTo x a (k + 1) = d.daysTo x a k ++ [a + d.val * (k : Int)] := by
  unfold Mat.Dir.daysTo
  rw [List.range_succ, List.map_append, List.filter_append]
  simp [h]
theorem daysTo_no {d : Mat.Dir} {x : Exp.Ex} {a : Int} {k : Nat} (h : x.onB (a + d.val * (k : Int)) = false) : d.daysTo x a (k + 1) = d.daysTo x a k := by
  unfold Mat.Dir.daysTo
  rw [List.range_succ, List.map_append, List.filter_append]
  simp [h]
theorem daysTo_pre (d : Mat.Dir) (x : Exp.Ex) (a : Int) (k : Nat) : ∀ j : Nat, d.daysTo x a k <+: d.daysTo x a (k + j)
  | 0 => List.prefix_refl _
  | j + 1 => by
    refine (daysTo_pre d x a k j).trans ?_
    rw [show k + (j + 1) = (k + j) + 1 by omega]
    cases h : x.onB (a + d.val * ((k + j : Nat) : Int)) with
    | true => rw [daysTo_yes h]; exact List.prefix_append _ _
    | false => rw [daysTo_no h]; exact List.prefix_refl _
theorem daysTo_len (d : Mat.Dir) (x : Exp.Ex) (a : Int) (k : Nat) : (d.daysTo x a k).length ≤ k := by
  unfold Mat.Dir.daysTo
  exact Nat.le_trans (List.length_filter_le _ _) (by simp)
theorem daysTo_mem {d : Mat.Dir} {x : Exp.Ex} {a n : Int} {k : Nat} : n ∈ d.daysTo x a k ↔ x.On n ∧ ∃ i : Nat, i < k ∧ n = a + d.val * (i : Int) := by
  unfold Mat.Dir.daysTo
  rw [List.mem_filter, List.mem_map, onB_iff]
  constructor
  · rintro ⟨⟨i, hi, rfl⟩, h⟩
    exact ⟨h, i, List.mem_range.1 hi, rfl⟩
  · rintro ⟨h, i, hi, rfl⟩
    exact ⟨⟨i, List.mem_range.2 hi, rfl⟩, h⟩
theorem daysTo_sorted (d : Mat.Dir) (x : Exp.Ex) (a : Int) (k : Nat) : (d.daysTo x a k).Pairwise (fun p q : Int => d.val * p < d.val * q) := by
  unfold Mat.Dir.daysTo
  refine List.Pairwise.filter _ ?_
  rw [List.pairwise_map]
  exact List.Pairwise.imp (fun {p q} h => by cases d <;> simp only [Mat.Dir.val] <;> omega) List.pairwise_lt_range
/-- how many days there are, from that of one second to that of another one -/
def Mat.Dir.cnt (d : Mat.Dir) (f t : Int) : Nat := (d.val * (t / 86400 - f / 86400)).toNat + 1
/-- the days that match, from that of one second to that of another one -/
noncomputable def Mat.Dir.daysL (d : Mat.Dir) (x : Exp.Ex) (f t : Int) : List Int := if d.past f t = true then [] else d.daysTo x (f / 86400) (d.cnt f t)
theorem daysL_never {x : Exp.Ex} (h : ¬ x.Evr) (d : Mat.Dir) (f t : Int) : d.daysL x f t = [] := by
  unfold Mat.Dir.daysL
  split
  · rfl
  · exact List.eq_nil_iff_forall_not_mem.2 fun n hn => h ⟨n, (daysTo_mem.1 hn).1⟩
/-- how many days are left -/
def leftD (d : Mat.Dir) (a : Int) (c : Nat) (day : Value) : Nat := c - (d.val * (intOf day - a)).toNat
theorem leftD_at (d : Mat.Dir) (a : Int) (c k : Nat) (q : IntKind) : leftD d a c (.int q (a + d.val * (k : Int))) = c - k := by
  unfold leftD
  cases d <;> simp [intOf, Mat.Dir.val] <;> omega
theorem abides_below {β : Type} {B : Nat} {J : β → World → Prop} (h : AbidesFrom B J) {s : β} {W W' : World} (hs : J s W) (hb : Below W.heap.size W W') : J s W' :=
  h s W W' none hs ⟨hb.os, hb.tape, hb.output, hb.size, fun k hk _ => hb.block k hk⟩ (fun _ e => by cases e)
/-- a day between the first and the last one lies in the calendar, or is the first one behind it -/
theorem mid_day {d : Mat.Dir} {f t : Int} {k : Nat} (hp : d.past f t = false) (f0 : 0 ≤ f) (f1 : f ≤ 253402300800) (t0 : 0 ≤ t) (t1 : t ≤ 253402300800) (hk : k < d.cnt f t) : 0 ≤ f / 86400 + d.val * (k : Int) ∧ f / 86400 + d.val * (k : Int) ≤ 2932897 := by
  unfold Mat.Dir.past at hp
  unfold Mat.Dir.cnt at hk
  have hp := of_decide_eq_false hp
  cases d <;> simp only [Mat.Dir.val] at hp hk ⊢ <;> omega
/-- a day behind the calendar is the last one that is looked at -/
theorem last_day {d : Mat.Dir} {f t : Int} {k : Nat} (hp : d.past f t = false) (t1 : t ≤ 253402300800) (hd : d = .up ∨ f ≤ 253402300799) (hk : k < d.cnt f t) (he : 2932896 < f / 86400 + d.val * (k : Int)) : d.cnt f t = k + 1 := by
  unfold Mat.Dir.past at hp
  unfold Mat.Dir.cnt at hk ⊢
  have hp := of_decide_eq_false hp
  rcases hd with rfl | hd
  · simp only [Mat.Dir.val] at *; omega
  · cases d <;> simp only [Mat.Dir.val] at * <;> omega
theorem onB_out {x : Exp.Ex} {n : Int} (h : 2932896 < n) : x.onB n = false := onB_no.2 fun q => by have := (Mat.on_range q).2; omega
theorem past_mid {d : Mat.Dir} {f t : Int} {k : Nat} (hp : d.past f t = false) : d.past (f / 86400 + d.val * (k : Int)) (t / 86400) = decide (d.cnt f t ≤ k) := by
  unfold Mat.Dir.past at hp ⊢
  unfold Mat.Dir.cnt
  have hp := of_decide_eq_false hp
  rw [decide_eq_decide]
  cases d <;> simp only [Mat.Dir.val] at hp ⊢ <;> omega
/-- how many days may come -/
def Mat.Dir.lim (d : Mat.Dir) (f t : Int) : Nat := if d.past f t = true then 0 else 2932898
theorem lim_of {d : Mat.Dir} {f t : Int} (h : d.past f t = false) : d.lim f t = 2932898 := by unfold Mat.Dir.lim; rw [if_neg (by rw [h]; simp)]
theorem lim_lt {d : Mat.Dir} {f t : Int} {k : Nat} (h : k < d.lim f t) : d.past f t = false ∧ k < 2932898 := by
  unfold Mat.Dir.lim at h
  split at h
  · omega
  · exact ⟨by simpa using (by assumption : ¬ d.past f t = true), h⟩
end Go.Proofs.YtljackjcgfaanaaGreatDoor
/- Plain facts of the search for the first matching second, day by day, in a direction. -/
namespace Go.Proofs.YtljackjcgfaanaaGreatDoor
open Go.ChangeShapes Go.RowKit

/-- a local second that is matched -/
def Exp.Ex.Lm (x : Exp.Ex) (t : Int) : Prop := Mat.Lm x.a4 x.a3 x.a5 x.b3 x.b5 x.a2 x.a1 x.a0 t
/-- from which second of a day on it is looked -/
def Mat.Dir.st (d : Mat.Dir) (f day : Int) : Nat := if day = f / 86400 then (f % 86400).toNat else d.fst 86400
/-- what is found on a day -/
def Mat.Dir.onDay (d : Mat.Dir) (x : Exp.Ex) (s : Nat) : Option (Nat × Nat × Nat) := d.fh x.a0 x.a1 x.a2 (s / 3600) (s % 3600 / 60) (s % 60)
def Mat.Dir.hit (d : Mat.Dir) (x : Exp.Ex) (f t day : Int) : Option Int := match d.onDay x (d.st f day) with
  | some p => if d.past (86400 * day + Mat.sec3 p) t = true then none else some (86400 * day + Mat.sec3 p)
  | none => none
/-- what is found -/
noncomputable def Mat.Dir.seek (d : Mat.Dir) (x : Exp.Ex) (f t : Int) : Option Int := (d.daysL x f t).findSome? (d.hit x f t)
theorem hms_of {x : Exp.Ex} (hok : x.Ok) : Mat.Hms x.a2 x.a1 x.a0 :=
  ⟨fun _ h => by have := (hok.inn 2 (by decide) _ h).2; exact Nat.lt_succ_of_le this, fun _ h => by have := (hok.inn 1 (by decide) _ h).2; exact Nat.lt_succ_of_le this, fun _ h => by have := (hok.inn 0 (by decide) _ h).2; exact Nat.lt_succ_of_le this⟩
theorem onDay_is {d : Mat.Dir} {x : Exp.Ex} (hok : x.Ok) {s : Nat} (hs : s < 86400) : d.Fst (Mat.Ck x.a2 x.a1 x.a0) s (86399 - (d.fst 86400 : Nat) : Int) ((d.onDay x s).map Mat.sec3) := Mat.fh_is (hms_of hok) hs
theorem lm_iff {x : Exp.Ex} {t : Int} : x.Lm t ↔ x.On (t / 86400) ∧ Mat.Ck x.a2 x.a1 x.a0 (t % 86400) := by
  unfold Exp.Ex.Lm Mat.Lm Mat.Ck
  exact ⟨fun h => ⟨h.1, by omega, by omega, h.2⟩, fun h => ⟨h.1, h.2.2.2⟩⟩
/-- the days on the way: one behind the other -/
theorem daysL_mem {d : Mat.Dir} {x : Exp.Ex} {f t n : Int} (hp : d.past f t = false) : n ∈ d.daysL x f t ↔ x.On n ∧ d.val * (f / 86400) ≤ d.val * n ∧ d.val * n ≤ d.val * (t / 86400) := by
  unfold Mat.Dir.daysL
  rw [if_neg (by rw [hp]; simp), daysTo_mem]
  unfold Mat.Dir.past at hp
  have hp := of_decide_eq_false hp
  constructor
  · rintro ⟨h, i, hi, rfl⟩
    refine ⟨h, ?_⟩
    unfold Mat.Dir.cnt at hi
    cases d <;> simp only [Mat.Dir.val] at hp hi ⊢ <;> omega
  · rintro ⟨h, h1, h2⟩
    refine ⟨h, (d.val * (n - f / 86400)).toNat, ?_⟩
    unfold Mat.Dir.cnt
    cases d <;> simp only [Mat.Dir.val] at hp h1 h2 ⊢ <;> omega
theorem daysL_sorted (d : Mat.Dir) (x : Exp.Ex) (f t : Int) : (d.daysL x f t).Pairwise (fun p q : Int => d.val * p < d.val * q) := by
  unfold Mat.Dir.daysL
  split
  · exact List.Pairwise.nil
  · exact daysTo_sorted _ _ _ _
theorem st_lt (d : Mat.Dir) (f day : Int) : d.st f day < 86400 := by
  unfold Mat.Dir.st
  have := d.fst_lt (n := 86400) (by decide)
  split <;> omega
/-- on a day on the way: the first second from f on, up to t -/
theorem hit_some {d : Mat.Dir} {x : Exp.Ex} (hok : x.Ok) {f t day u : Int} (h1 : d.val * (f / 86400) ≤ d.val * day) (h : d.hit x f t day = some u) :
    u / 86400 = day ∧ Mat.Ck x.a2 x.a1 x.a0 (u % 86400) ∧ d.val * f ≤ d.val * u ∧ d.val * u ≤ d.val * t ∧ ∀ y, y / 86400 = day → d.val * f ≤ d.val * y → d.val * y < d.val * u → ¬ Mat.Ck x.a2 x.a1 x.a0 (y % 86400) := by
  have F := onDay_is (d := d) hok (st_lt d f day)
  unfold Mat.Dir.hit at h
  cases e : d.onDay x (d.st f day) with
  | none => rw [e] at h; cases h
  | some p =>
    rw [e] at h F
    simp only [Option.map_some] at F
    simp only at h
    split at h
    · cases h
    · rename_i hp
      obtain rfl : 86400 * day + Mat.sec3 p = u := by simpa using h
      obtain ⟨g1, g2, g3, g4⟩ := F
      obtain ⟨g5, g6, g7⟩ := id g3
      have e1 : (86400 * day + Mat.sec3 p) / 86400 = day := by omega
      have e2 : (86400 * day + Mat.sec3 p) % 86400 = Mat.sec3 p := by omega
      have hp' : ¬ 0 < d.val * (86400 * day + Mat.sec3 p - t) := by
        unfold Mat.Dir.past at hp
        simpa using hp
      unfold Mat.Dir.st at g1 g4
      refine ⟨e1, by rw [e2]; exact g3, ?_, ?_, ?_⟩
      · cases d <;> simp only [Mat.Dir.val, Mat.Dir.fst] at * <;> split at g1 <;> omega
      · cases d <;> simp only [Mat.Dir.val] at * <;> omega
      · intro y y1 y2 y3
        refine g4 _ ?_ ?_
        · cases d <;> simp only [Mat.Dir.val, Mat.Dir.fst] at * <;> split <;> omega
        · cases d <;> simp only [Mat.Dir.val] at * <;> omega
theorem hit_none {d : Mat.Dir} {x : Exp.Ex} (hok : x.Ok) {f t day : Int} (h : d.hit x f t day = none) :
    ∀ y, y / 86400 = day → d.val * f ≤ d.val * y → d.val * y ≤ d.val * t → ¬ Mat.Ck x.a2 x.a1 x.a0 (y % 86400) := by
  have F := onDay_is (d := d) hok (st_lt d f day)
  intro y y1 y2 y3 hc
  have ef : ∀ z : Int, 0 ≤ z → z < 86400 → d.val * z ≤ d.val * (86399 - (d.fst 86400 : Nat) : Int) := fun z a b => by cases d <;> simp [Mat.Dir.val, Mat.Dir.fst] <;> omega
  have ge : d.val * (d.st f day : Nat) ≤ d.val * (y % 86400) := by
    unfold Mat.Dir.st
    cases d <;> simp only [Mat.Dir.val, Mat.Dir.fst] at * <;> split <;> omega
  unfold Mat.Dir.hit at h
  cases e : d.onDay x (d.st f day) with
  | none =>
    rw [e] at F
    exact F _ ge (ef _ (by omega) (by omega)) hc
  | some p =>
    rw [e] at h F
    simp only [Option.map_some] at F
    simp only at h
    split at h
    · rename_i hp
      obtain ⟨g1, g2, g3, g4⟩ := F
      obtain ⟨g5, g6, g7⟩ := id g3
      have hp' : 0 < d.val * (86400 * day + Mat.sec3 p - t) := by
        unfold Mat.Dir.past at hp
        simpa using hp
      refine g4 _ ge ?_ hc
      cases d <;> simp only [Mat.Dir.val] at * <;> omega
    · cases h
/-- **what is found is the first matching second** -/
theorem seek_is {d : Mat.Dir} {x : Exp.Ex} (hok : x.Ok) (f t : Int) : d.Fst x.Lm f t (d.seek x f t) := by
  cases hp : d.past f t with
  | true =>
    have e : d.seek x f t = none := by unfold Mat.Dir.seek Mat.Dir.daysL; rw [if_pos hp]; rfl
    rw [e]
    intro y h1 h2
    unfold Mat.Dir.past at hp
    have hp := of_decide_eq_true hp
    exfalso
    cases d <;> simp only [Mat.Dir.val] at * <;> omega
  | false =>
    have hq := of_decide_eq_false hp
    cases e : d.seek x f t with
    | none =>
      intro y h1 h2 h3
      rw [lm_iff] at h3
      have m : y / 86400 ∈ d.daysL x f t := (daysL_mem hp).2 ⟨h3.1, by cases d <;> simp only [Mat.Dir.val] at * <;> omega, by cases d <;> simp only [Mat.Dir.val] at * <;> omega⟩
      exact hit_none hok (List.findSome?_eq_none_iff.1 e _ m) y rfl h1 h2 h3.2
    | some u =>
      obtain ⟨l, a, r, e1, e2, e3⟩ := List.findSome?_eq_some_iff.1 e
      have ma := (daysL_mem hp).1 (show a ∈ d.daysL x f t by rw [e1]; simp)
      obtain ⟨g1, g2, g3, g4, g5⟩ := hit_some hok ma.2.1 e2
      refine ⟨g3, g4, lm_iff.2 ⟨by rw [g1]; exact ma.1, g2⟩, ?_⟩
      intro y h1 h2 h3
      rw [lm_iff] at h3
      have hyt : d.val * y ≤ d.val * t := by omega
      have m : y / 86400 ∈ d.daysL x f t := (daysL_mem hp).2 ⟨h3.1, by cases d <;> simp only [Mat.Dir.val] at * <;> omega, by cases d <;> simp only [Mat.Dir.val] at * <;> omega⟩
      by_cases c : y / 86400 = a
      · exact g5 y c h1 h2 h3.2
      · have so := daysL_sorted d x f t
        rw [e1] at m so
        rw [List.pairwise_append, List.pairwise_cons] at so
        rcases List.mem_append.1 m with q | q
        · exact hit_none hok (e3 _ q) y rfl h1 hyt h3.2
        · rcases List.mem_cons.1 q with q | q
          · exact c q
          · have := so.2.1.1 _ q
            cases d <;> simp only [Mat.Dir.val] at * <;> omega
end Go.Proofs.YtljackjcgfaanaaGreatDoor
/- Contract of the iterator over the days that an expression matches, in a direction. -/
namespace Go.Proofs.YtljackjcgfaanaaGreatDoor
open Go.ChangeShapes Go.RowKit Go.Shelf

attribute [local go_sem] Oper.semAt_some
theorem ever_any (x : Exp.Ex) (hok : x.Ok) (r : Bool) (hr : r = true ↔ x.Evr) (w : World) (L : LayM w) :
    Calls Tryz.prog 143 #[.agg #[.int .u64 x.a0, .int .u64 x.a1, .int .u64 x.a2, .int .u64 x.a3, .int .u64 x.a4, .int .u64 x.a5, .bool x.b3, .bool x.b5]] w fun e W' => e = .returned (.bool r) ∧ Below w.heap.size w W' := callsIn_wide.1 (ever_in 3 (by omega) x hok r hr w L)

/-- the cells of an expression in memory -/
theorem row_cells {W : World} {b : Nat} {x : Exp.Ex} (h : Row W b 24 (exL x)) : W.cell? ⟨b, 0, none⟩ = some (.int .u64 x.a0) ∧ W.cell? ⟨b, 1, none⟩ = some (.int .u64 x.a1) ∧ W.cell? ⟨b, 2, none⟩ = some (.int .u64 x.a2) ∧ W.cell? ⟨b, 3, none⟩ = some (.int .u64 x.a3) ∧ W.cell? ⟨b, 4, none⟩ = some (.int .u64 x.a4) ∧ W.cell? ⟨b, 5, none⟩ = some (.int .u64 x.a5) ∧ W.cell? ⟨b, 6, none⟩ = some (.bool x.b3) ∧ W.cell? ⟨b, 7, none⟩ = some (.bool x.b5) :=
  ⟨h.cell 0, h.cell 1, h.cell 2, h.cell 3, h.cell 4, h.cell 5, h.cell 6, h.cell 7⟩
set_option maxRecDepth 100000 in
set_option maxHeartbeats 4000000 in
theorem days_in (own : Nat → Prop) (n : Nat) (hn : 1 ≤ n) (l Bw Bf Bt Bx : Nat) (d : Mat.Dir) (x : Exp.Ex) (hok : x.Ok) (f t : Int) (fl : -1000000000000 ≤ f) (fh : f ≤ 1000000000000) (tl : -1000000000000 ≤ t) (th : t ≤ 1000000000000)
    (hin : d.past f t = false → 0 ≤ f ∧ f ≤ 253402300800 ∧ 0 ≤ t ∧ t ≤ 253402300800 ∧ (d = .up ∨ f ≤ 253402300799))
    (ow : ¬ own Bw) (oF : ¬ own Bf) (oT : ¬ own Bt) (ox : ¬ own Bx) (ob : ¬ own 1) (oc : ¬ own 0) (B : Nat) (J Jx : List Dy → World → Prop) (hJ : AbidesFrom B J)
    (hY : ∀ pre q W, J pre W → pre.length < d.lim f t → YieldAt Fence.wide (n - 1) Tryz.prog l #[.int .i64 (q : Dy).val] W fun e W' =>
      (e = .returned (.bool true) ∧ J (pre ++ [q]) W' ∧ Kc own W W') ∨ (e = .returned (.bool false) ∧ Jx (pre ++ [q]) W'))
    (W : World) (hown : ∀ b, own b → b < W.heap.size) (cw : W.cell? ⟨Bw, 0, none⟩ = some (.int .i64 d.val)) (cf : W.cell? ⟨Bf, 0, none⟩ = some (.int .i64 f)) (ct : W.cell? ⟨Bt, 0, none⟩ = some (.int .i64 t)) (rx : Row W Bx 24 (exL x))
    (L0 : LayM W) (h0 : J [] W) :
    CallsIn Fence.wide n Tryz.prog 142 #[.func (.yield l) #[] #[], .pointer (some ⟨Bw, 0, none⟩), .pointer (some ⟨Bf, 0, none⟩), .pointer (some ⟨Bt, 0, none⟩), .pointer (some ⟨Bx, 0, none⟩)] W fun e W' => (∃ v, e = .returned v) ∧
      ((∃ ys : List Dy, ys.map (fun q => q.val) = d.daysL x f t ∧ J ys W') ∨ (∃ pre : List Dy, pre.map (fun q => q.val) <+: d.daysL x f t ∧ Jx pre W')) := by
  obtain ⟨p0, hp0⟩ : ∃ p, d.past f t = p := ⟨_, rfl⟩
  obtain ⟨r, hr⟩ : ∃ r : Bool, r = true ↔ x.Evr := by
    by_cases c : x.Evr
    · exact ⟨true, by simpa using c⟩
    · exact ⟨false, by simpa using c⟩
  have P0 := Lib.hid (fun w0 : World => past_any d f t p0 hp0 w0 (by omega) (by omega) (by omega) (by omega))
  have EV := Lib.hid (fun w0 (L : LayM w0) => ever_any x hok r hr w0 L)
  have HP0 := Lib.hid hp0
  have HJ := Lib.hid hJ
  have HY := Lib.hid hY
  have HR := Lib.hid hr
  have OK := Lib.hid hok
  have LL := Lib.hid L0
  have OW := Lib.hid ow; have OF := Lib.hid oF; have OT := Lib.hid oT; have OX := Lib.hid ox; have OB := Lib.hid ob; have OC := Lib.hid oc
  have HO := Lib.hid hown
  have IN := Lib.hid hin
  obtain ⟨x0, x1, x2, x3, x4, x5, x6, x7⟩ := row_cells rx
  have RX := Lib.hid rx
  clear hp0 hJ hY hr hok L0 ow oF oT ox ob oc hown hin rx fl fh tl th
  cases p0 with
  | true =>
    have DL : d.daysL x f t = [] := by unfold Mat.Dir.daysL; rw [if_pos HP0.out]
    have DL := Lib.hid DL
    refine callsIn_of_wp Tryz.func142 rfl trivial ?_ rfl
    simp only [Tryz.ntmps142, List.size_toArray, List.length_cons, List.length_nil, Nat.reduceAdd, Nat.reduceSub, Array.replicate_succ, Array.replicate_zero, List.push_toArray, List.append_toArray, List.nil_append, List.cons_append]
    gi_wp2_with (refine ⟨trivial, ?_⟩; gi_at_call 130; refine (callsIn_wide.2 (P0.out _)).mono ?_; rintro e w' ⟨rfl, rfl⟩)
    refine ⟨trivial, ?_⟩
    gi_wp2
    refine bodyPost_ret (results_none rfl _ _ _) rfl ?_
    exact ⟨⟨_, rfl⟩, .inl ⟨[], DL.out.symm, h0⟩⟩
  | false =>
    cases r with
    | false =>
      have DL := Lib.hid (daysL_never (x := x) (fun h => by have := HR.out.2 h; cases this) d f t)
      refine callsIn_of_wp Tryz.func142 rfl trivial ?_ rfl
      simp only [Tryz.ntmps142, List.size_toArray, List.length_cons, List.length_nil, Nat.reduceAdd, Nat.reduceSub, Array.replicate_succ, Array.replicate_zero, List.push_toArray, List.append_toArray, List.nil_append, List.cons_append]
      gi_wp2_with (refine ⟨trivial, ?_⟩; first
        | (gi_at_call 130; refine (callsIn_wide.2 (P0.out _)).mono ?_; rintro e w' ⟨rfl, rfl⟩)
        | (gi_at_call 143; refine (callsIn_wide.2 (EV.out _ LL.out)).mono ?_; rintro e w' ⟨rfl, hb⟩; have HB := Lib.hid hb; clear hb))
      refine bodyPost_ret (results_none rfl _ _ _) rfl ?_
      exact ⟨⟨_, rfl⟩, .inl ⟨[], DL.out.symm, abides_below HJ.out h0 HB.out⟩⟩
    | true =>
      refine callsIn_of_wp Tryz.func142 rfl trivial ?_ rfl
      simp only [Tryz.ntmps142, List.size_toArray, List.length_cons, List.length_nil, Nat.reduceAdd, Nat.reduceSub, Array.replicate_succ, Array.replicate_zero, List.push_toArray, List.append_toArray, List.nil_append, List.cons_append]
      gi_wp2_with (refine ⟨trivial, ?_⟩; first
        | (gi_at_call 130; refine (callsIn_wide.2 (P0.out _)).mono ?_; rintro e w' ⟨rfl, rfl⟩)
        | (gi_at_call 143; refine (callsIn_wide.2 (EV.out _ LL.out)).mono ?_; rintro e V ⟨rfl, hb⟩; have HB := Lib.hid hb; obtain ⟨y0, y1, y2, y3, y4, y5, y6, y7⟩ := row_cells ((Kc.of_below (own := own) hb).row OX.out RX.out); clear hb)
        | (gi_at_call 144; refine (callsIn_wide.2 (matcher_any x _)).mono ?_; rintro e V1 ⟨rfl, hV1⟩; have HV1 := Lib.hid hV1; clear hV1 y0 y1 y2 y3 y4 y5 y6 y7 x0 x1 x2 x3 x4 x5 x6 x7))
      obtain ⟨M, hM⟩ : ∃ M, V.heap.size = M := ⟨_, rfl⟩
      have hb1 : Below W.heap.size W V1 := by rw [HV1.out]; exact HB.out.alloc HB.out.size _
      have RM := Lib.hid (show Row V1 M 24 (exL x) by rw [HV1.out, ← hM]; exact Row.new V (exL x) _)
      have oM := Lib.hid (show ¬ own M from fun h => by have := HO.out M h; have := HB.out.size; omega)
      rw [hM]
      have K1 : Kc own W V1 := Kc.of_below hb1
      have J1 := Lib.hid (abides_below HJ.out h0 hb1)
      have cw1 := K1.cell (p := ⟨Bw, 0, none⟩) OW.out cw
      have cf1 := K1.cell (p := ⟨Bf, 0, none⟩) OF.out cf
      have ct1 := K1.cell (p := ⟨Bt, 0, none⟩) OT.out ct
      have L1 := Lib.hid (LL.out.below hb1)
      have HK1 := Lib.hid K1
      clear hM hb1 h0 cw cf ct HB HV1 K1 LL RX OX
      obtain ⟨i1, i2, i3, i4, i5⟩ := IN.out HP0.out
      have qf : f.tdiv 86400 = f / 86400 := Int.tdiv_eq_ediv_of_nonneg i1
      have qt : t.tdiv 86400 = t / 86400 := Int.tdiv_eq_ediv_of_nonneg i3
      obtain ⟨F, hF⟩ : ∃ F, f / 86400 = F := ⟨_, rfl⟩
      obtain ⟨T, hT⟩ : ∃ T, t / 86400 = T := ⟨_, rfl⟩
      rw [hF] at qf
      rw [hT] at qt
      have MD := Lib.hid (fun k (hk : k < d.cnt f t) => mid_day (k := k) HP0.out i1 i2 i3 i4 hk)
      have LD := Lib.hid (fun k (hk : k < d.cnt f t) he => last_day (k := k) HP0.out i4 i5 hk he)
      have PM := Lib.hid (fun k => past_mid (d := d) (f := f) (t := t) (k := k) HP0.out)
      have TB := Lib.hid (show 0 ≤ T ∧ T ≤ 2932897 by omega)
      have FB := Lib.hid (show 0 ≤ F ∧ F ≤ 2932897 by omega)
      have DL : d.daysL x f t = d.daysTo x F (d.cnt f t) := by unfold Mat.Dir.daysL; rw [if_neg (by rw [HP0.out]; simp), hF]
      obtain ⟨C, hC⟩ : ∃ C, d.cnt f t = C := ⟨_, rfl⟩
      rw [hC] at MD PM DL LD
      rw [hF] at MD PM LD
      rw [hT] at PM
      have DL := Lib.hid DL
      have CB : Hid (C ≤ 2932898) := Lib.hid (by rw [← hC]; unfold Mat.Dir.cnt; rcases d.val_or with e | e <;> rw [e] <;> omega)
      have wF : IntKind.i64.wrap F = F := by have := FB.out; rw [IntKind.wrap_i64]; omega
      have wT : IntKind.i64.wrap T = T := by have := TB.out; rw [IntKind.wrap_i64]; omega
      clear hC hF hT i1 i2 i3 i4 i5 IN P0 EV
      refine wpIn_region_quiet_lit rfl (by kernel_rfl) (by kernel_rfl) ?_
      iterate 6 (gi_big_quiet_step (fail))
      refine wpQuietIn_nil ?_
      intro _ hw'
      obtain ⟨nq, rfl⟩ := hw'
      obtain ⟨V2, hV2⟩ : ∃ V2, V1.drewN nq = V2 := ⟨_, rfl⟩
      have hb2 : Below V1.heap.size V1 V2 := by rw [← hV2]; exact below_drewN _ _ _
      rw [hV2]
      have J2 := Lib.hid (abides_below HJ.out J1.out hb2)
      have K2 : Kc own V1 V2 := Kc.of_below hb2
      have RM := Lib.hid (K2.row oM.out RM.out)
      have L2 := Lib.hid (L1.out.below hb2)
      have CW := Lib.hid (K2.cell (p := ⟨Bw, 0, none⟩) OW.out cw1)
      clear hV2 hb2 K2 J1 L1 cw1 cf1 ct1 qf qt HK1 wF wT
      gi_wp2
      gi_loopw [7] (fun day wr => ∃ (k : Nat) (pre : List Dy), day = .int .i64 (F + d.val * (k : Int)) ∧ Hid (k ≤ C) ∧ Hid (pre.map (fun q => q.val) = d.daysTo x F k) ∧ Hid (J pre wr) ∧ Hid (Kc own V2 wr)) (fun day _ => leftD d F C day)
      case atStart => exact ⟨0, [], by simp, Lib.hid (by omega), Lib.hid rfl, J2, Lib.hid (Kc.refl _ _)⟩
      case round =>
        obtain ⟨k, pre, rfl, hkC, hpre, hj, hkc⟩ := hrel
        obtain ⟨e, he⟩ : ∃ e, F + d.val * (k : Int) = e := ⟨_, rfl⟩
        have HE := Lib.hid he
        have cw := hkc.out.cell (p := ⟨Bw, 0, none⟩) OW.out CW.out
        by_cases c : k < C
        · have hm := MD.out k c
          have hpm := PM.out k
          rw [he] at hm hpm ⊢
          rw [decide_eq_false (by omega)] at hpm
          have PF := Lib.hid (fun w0 : World => past_any d e T false hpm w0 (by omega) (by omega) (by have := TB.out; omega) (by have := TB.out; omega))
          by_cases hel : 2932896 < e
          · have DN := Lib.hid (fun w0 : World => Cv.date_no e w0 (.inr hel))
            have ec := LD.out k c (by rw [he]; exact hel)
            have dk : d.daysTo x F C = d.daysTo x F k := by rw [ec]; exact daysTo_no (onB_out (by rw [he]; exact hel))
            have DK := Lib.hid dk
            clear hel ec dk hm hpm he c
            gi_wp2_with (refine ⟨trivial, ?_⟩; first
              | (gi_at_call 130; refine (callsIn_wide.2 (PF.out _)).mono ?_; rintro e' w' ⟨rfl, rfl⟩)
              | (gi_at_call 145; refine (callsIn_wide.2 (DN.out _)).mono ?_; rintro e' w' ⟨rfl, rfl⟩))
            refine bodyPost_ret (results_none rfl _ _ _) rfl ?_
            exact ⟨⟨_, rfl⟩, .inl ⟨pre, by rw [DL.out, DK.out]; exact hpre.out, hj.out⟩⟩
          obtain ⟨y, m, dd, v, hn⟩ := Civ.date_ex e hm.1 (by omega)
          obtain ⟨m, rfl⟩ := Int.eq_ofNat_of_zero_le (show 0 ≤ m by have := v.2.2.1; omega)
          obtain ⟨dd, rfl⟩ := Int.eq_ofNat_of_zero_le (show 0 ≤ dd by have := v.2.2.2.2.1; omega)
          have DT := Lib.hid (fun w0 (L : LayM w0) => Cv.date_yes y m dd e w0 L.c v hn)
          have LN := Lib.hid (fun w0 (L : LayM w0) => Cv.length_yes y m w0 L.c v.1 v.2.1 v.2.2.1 v.2.2.2.1)
          obtain ⟨ln, hln⟩ : ∃ ln, Civ.dim y m = ln := ⟨_, rfl⟩
          rw [hln] at LN
          have VV := Lib.hid v
          have HN := Lib.hid hn
          have HL := Lib.hid hln
          have HC := Lib.hid c
          have LW := Lib.hid (LayM.kc hkc.out OB.out OC.out L2.out)
          clear hm hpm v hn hln c he
          gi_wp2_with (refine ⟨trivial, ?_⟩; first
            | (gi_at_call 130; refine (callsIn_wide.2 (PF.out _)).mono ?_; rintro e' w' ⟨rfl, rfl⟩)
            | (gi_at_call 145; refine (callsIn_wide.2 (DT.out _ LW.out)).mono ?_; rintro e' w' ⟨rfl, rfl⟩)
            | (gi_at_call 146; refine (callsIn_wide.2 (LN.out _ LW.out)).mono ?_; rintro e' w' ⟨rfl, rfl⟩))
          gi_loopw [7, 11] (fun day dt wr => ∃ (k' : Nat) (pre' : List Dy) (q : Nat), day = .int .i64 (F + d.val * (k' : Int)) ∧ dt = .int .i64 (q : Nat) ∧ Hid (k ≤ k' ∧ k' ≤ C ∧ Civ.num y m q = F + d.val * (k' : Int) ∧ q ≤ 32 ∧ (k' = k → 1 ≤ q ∧ (q : Int) ≤ ln)) ∧ Hid (pre'.map (fun q => q.val) = d.daysTo x F k') ∧ Hid (J pre' wr) ∧ Hid (Kc own V2 wr)) (fun day _ _ => leftD d F C day)
          case atStart =>
            refine ⟨k, pre, dd, by rw [HE.out], rfl, Lib.hid ⟨Nat.le_refl _, hkC.out, by rw [HN.out, HE.out], ?_, fun _ => ?_⟩, hpre, hj, hkc⟩
            · have a := VV.out.2.2.2.2.2
              have b := Civ.dim_bd y m
              omega
            · have a := VV.out.2.2.2.2
              have b := HL.out
              exact ⟨by omega, by omega⟩
          case round =>
            clear cw
            obtain ⟨k', pre', q, rfl, rfl, HA, hpre', hj', hkc'⟩ := hrel
            obtain ⟨e', he'⟩ : ∃ e', F + d.val * (k' : Int) = e' := ⟨_, rfl⟩
            have HE' := Lib.hid he'
            have cw := hkc'.out.cell (p := ⟨Bw, 0, none⟩) OW.out CW.out
            have eb := Lib.hid (show -3000000 ≤ e' ∧ e' ≤ 6000000 by
              have := FB.out; have := CB.out; have := HA.out.2.1
              rcases d.val_or with e | e <;> rw [e] at he' <;> omega)
            have PM' := PM.out k'
            rw [he'] at PM' ⊢
            have PF2 := Lib.hid (fun w0 : World => past_any d e' T _ PM' w0 (by have := eb.out; omega) (by have := eb.out; omega) (by have := TB.out; omega) (by have := TB.out; omega))
            clear PM' he' PF DT LN LW
            by_cases q1 : 1 ≤ q
            · by_cases q2 : (q : Int) ≤ ln
              · by_cases q3 : k' < C
                · have pf : decide (C ≤ k') = false := decide_eq_false (by omega)
                  rw [pf] at PF2
                  have HQ := Lib.hid q3
                  have v' : Civ.Vld y m q := ⟨VV.out.1, VV.out.2.1, VV.out.2.2.1, VV.out.2.2.2.1, by omega, by rw [HL.out]; exact q2⟩
                  have hn' : Civ.num y m q = e' := by rw [HA.out.2.2.1, HE'.out]
                  have md := Civ.num_range v'
                  rw [hn'] at md
                  have wz : IntKind.i64.wrap (86400 * e') = 86400 * e' := by rw [IntKind.wrap_i64]; omega
                  obtain ⟨wk, hwk⟩ : ∃ wk : Nat, (86400 * e' / 86400 + 4) % 7 = (wk : Int) := ⟨((e' + 4) % 7).toNat, by omega⟩
                  have WK := Lib.hid (fun w0 : World => Cv.week_yes (86400 * e') w0 (by omega) (by omega))
                  rw [hwk] at WK
                  have hm := mB_on OK.out v' hn'
                  have ew : ((e' + 4) % 7).toNat = wk := by omega
                  rw [ew, Int.toNat_natCast, Int.toNat_natCast] at hm
                  obtain ⟨b, hb⟩ : ∃ b, x.mB m q wk = b := ⟨_, rfl⟩
                  rw [hb] at hm
                  have MB := Lib.hid (fun w0 R => matcher1_any x (bd_of OK.out) m q wk M b hb w0 R)
                  have HM := Lib.hid hm
                  have HMD := Lib.hid md
                  have RW := Lib.hid (hkc'.out.row oM.out RM.out)
                  clear pf q3 hm hb ew hn' v' hwk md
                  gi_wp2_with (refine ⟨trivial, ?_⟩; first | (gi_at_call 130; refine (callsIn_wide.2 (PF2.out _)).mono ?_; rintro e' w' ⟨rfl, rfl⟩) | (gi_at_call 147; refine (callsIn_wide.2 (WK.out _)).mono ?_; rintro e' w' ⟨rfl, rfl⟩))
                  refine ⟨trivial, (callsIn_wide.2 (MB.out _ RW.out)).mono ?_⟩
                  rintro e1 V3 ⟨rfl, hb3⟩
                  have k3 : Kc own wr V3 := Kc.of_below hb3
                  have HK3 := Lib.hid (hkc'.out.trans k3)
                  have HJ3 := Lib.hid (abides_below HJ.out hj'.out hb3)
                  have cw3 := k3.cell (p := ⟨Bw, 0, none⟩) OW.out cw
                  have HCW3 := Lib.hid cw3
                  have we : IntKind.i64.wrap (e' + d.val) = e' + d.val := by have := HMD.out; rw [IntKind.wrap_i64]; rcases d.val_or with e | e <;> omega
                  obtain ⟨q2, hq2⟩ : ∃ q2 : Nat, (q : Int) + d.val = (q2 : Int) := ⟨((q : Int) + d.val).toNat, by rcases d.val_or with e | e <;> omega⟩
                  have wq : IntKind.i64.wrap ((q : Int) + d.val) = (q2 : Int) := by rw [hq2, IntKind.wrap_i64]; have := HA.out.2.2.2.1; rcases d.val_or with e | e <;> omega
                  have HQ2 := Lib.hid (show q2 ≤ 32 ∧ (q2 : Int) = (q : Int) + d.val by refine ⟨?_, hq2.symm⟩; have := Civ.dim_bd y m; have := HL.out; rcases d.val_or with e | e <;> omega)
                  have HS := Lib.hid (show F + d.val * (k' : Int) = e' ∧ e' + d.val = F + d.val * ((k' + 1 : Nat) : Int) by refine ⟨HE'.out, ?_⟩; have := HE'.out; rcases d.val_or with e | e <;> rw [e] at this ⊢ <;> omega)
                  clear hb3 k3 cw hq2 WK PF2
                  cases b with
                  | false =>
                    have HNO := Lib.hid (onB_no.2 (fun h => by have := HM.out.2 h; cases this))
                    have HJ4 := HJ3
                    have HK4 := HK3
                    gi_wp2
                    refine ⟨fun _ h => (by cases h), ?_⟩
                    gi_wp2
                    refine wpIn_region_quiet_lit rfl (by kernel_rfl) (by kernel_rfl) ?_
                    iterate 8 (gi_big_quiet_step (fail))
                    refine wpQuietIn_nil ?_
                    intro _ hw'
                    obtain ⟨nq, rfl⟩ := hw'
                    gi_wp2
                    go_roundw
                    case rel =>
                      refine ⟨k' + 1, pre', q2, by rw [HS.out.2], rfl, Lib.hid ?_, Lib.hid ?_, Lib.hid (abides_below HJ.out HJ4.out (below_drewN _ _ _)), Lib.hid (HK4.out.trans (Kc.of_below (below_drewN _ _ _)))⟩
                      · have a := HA.out
                        have g := HQ2.out
                        exact ⟨by omega, by have := HQ.out; omega, by rw [g.2, ← HS.out.2]; unfold Civ.num at *; have := a.2.2.1; have := HE'.out; omega, by omega, fun h => by omega⟩
                      · rw [daysTo_no (by rw [HS.out.1]; exact HNO.out)]; exact hpre'.out
                    case measure =>
                      have a := HA.out
                      have ec := HQ.out
                      have e1 := leftD_at d F C k' .i64
                      have e2 := leftD_at d F C (k' + 1) .i64
                      rw [HE'.out] at e1
                      rw [← HS.out.2] at e2
                      rw [e1, e2]
                      omega
                  | true =>
                    have HYES := Lib.hid (onB_iff.2 (HM.out.1 rfl))
                    have hlen : pre'.length < d.lim f t := by
                      rw [lim_of HP0.out]
                      have h1 := congrArg List.length hpre'.out
                      have h2 := daysTo_len d x F k'
                      have := HQ.out
                      have := CB.out
                      simp at h1
                      omega
                    obtain ⟨fn, tmps, assign, body, hy, hR⟩ := HY.out pre' ⟨e', HMD.out⟩ V3 HJ3.out hlen
                    dsimp only at hy
                    clear hlen
                    gi_wp2
                    refine hR.mono ?_
                    rintro e1 V4 (⟨rfl, hJ4, hk4⟩ | ⟨rfl, hJx4⟩)
                    · have HJ4 := Lib.hid hJ4
                      have HK4 := Lib.hid (HK3.out.trans hk4)
                      have cw4 := hk4.cell (p := ⟨Bw, 0, none⟩) OW.out HCW3.out
                      clear cw3 hJ4 hk4
                      gi_wp2
                      refine wpIn_region_quiet_lit rfl (by kernel_rfl) (by kernel_rfl) ?_
                      iterate 8 (gi_big_quiet_step (fail))
                      refine wpQuietIn_nil ?_
                      intro _ hw'
                      obtain ⟨nq, rfl⟩ := hw'
                      gi_wp2
                      go_roundw
                      case rel =>
                        refine ⟨k' + 1, (pre' ++ [⟨e', HMD.out⟩]), q2, by rw [HS.out.2], rfl, Lib.hid ?_, Lib.hid ?_, Lib.hid (abides_below HJ.out HJ4.out (below_drewN _ _ _)), Lib.hid (HK4.out.trans (Kc.of_below (below_drewN _ _ _)))⟩
                        · have a := HA.out
                          have g := HQ2.out
                          exact ⟨by omega, by have := HQ.out; omega, by rw [g.2, ← HS.out.2]; unfold Civ.num at *; have := a.2.2.1; have := HE'.out; omega, by omega, fun h => by omega⟩
                        · rw [daysTo_yes (by rw [HS.out.1]; exact HYES.out), HS.out.1, List.map_append, hpre'.out]; rfl
                      case measure =>
                        have a := HA.out
                        have ec := HQ.out
                        have e1 := leftD_at d F C k' .i64
                        have e2 := leftD_at d F C (k' + 1) .i64
                        rw [HE'.out] at e1
                        rw [← HS.out.2] at e2
                        rw [e1, e2]
                        omega
                    · have HJX := Lib.hid hJx4
                      clear hJx4
                      gi_wp2
                      refine bodyPost_ret (results_none rfl _ _ _) rfl ?_
                      refine ⟨⟨_, rfl⟩, .inr ⟨pre' ++ [⟨e', HMD.out⟩], ?_, HJX.out⟩⟩
                      rw [DL.out, List.map_append, hpre'.out]
                      have h1 := daysTo_pre d x F (k' + 1) (C - (k' + 1))
                      rw [daysTo_yes (by rw [HS.out.1]; exact HYES.out), HS.out.1, show k' + 1 + (C - (k' + 1)) = C by have := HQ.out; omega] at h1
                      exact h1
                · have pf : decide (C ≤ k') = true := decide_eq_true (by omega)
                  rw [pf] at PF2
                  have HQ := Lib.hid q3
                  clear pf q3
                  gi_wp2_with (refine ⟨trivial, ?_⟩; first | (gi_at_call 130; refine (callsIn_wide.2 (PF2.out _)).mono ?_; rintro e' w' ⟨rfl, rfl⟩))
                  go_roundw
                  case rel => exact ⟨k', pre', by rw [HE'.out], Lib.hid HA.out.2.1, hpre', hj', hkc'⟩
                  case measure =>
                    have a := HA.out
                    have ec := HC.out
                    have e1 := leftD_at d F C k .i64
                    have e2 := leftD_at d F C k' .i64
                    rw [HE.out] at e1
                    rw [HE'.out] at e2
                    rw [e1, e2]
                    by_cases ek : k' = k
                    · have := a.2.2.2.2 ek
                      first | omega | (have := HQ.out; omega)
                    · omega
              · gi_wp2
                refine ⟨trivial, ?_⟩
                gi_wp2
                go_roundw
                case rel => exact ⟨k', pre', by rw [HE'.out], Lib.hid HA.out.2.1, hpre', hj', hkc'⟩
                case measure =>
                  have a := HA.out
                  have ec := HC.out
                  have e1 := leftD_at d F C k .i64
                  have e2 := leftD_at d F C k' .i64
                  rw [HE.out] at e1
                  rw [HE'.out] at e2
                  rw [e1, e2]
                  by_cases ek : k' = k
                  · have := a.2.2.2.2 ek
                    first | omega | (have := HQ.out; omega)
                  · omega
            · gi_wp2
              refine ⟨trivial, ?_⟩
              gi_wp2
              go_roundw
              case rel => exact ⟨k', pre', by rw [HE'.out], Lib.hid HA.out.2.1, hpre', hj', hkc'⟩
              case measure =>
                have a := HA.out
                have ec := HC.out
                have e1 := leftD_at d F C k .i64
                have e2 := leftD_at d F C k' .i64
                rw [HE.out] at e1
                rw [HE'.out] at e2
                rw [e1, e2]
                by_cases ek : k' = k
                · have := a.2.2.2.2 ek
                  first | omega | (have := HQ.out; omega)
                · omega
        · have hpm := PM.out k
          rw [he] at hpm ⊢
          rw [decide_eq_true (by omega)] at hpm
          have PF := Lib.hid (fun w0 : World => past_any d e T true hpm w0 (by have := FB.out; have := CB.out; have := hkC.out; rcases d.val_or with e | e <;> rw [e] at he <;> omega) (by have := FB.out; have := CB.out; have := hkC.out; rcases d.val_or with e | e <;> rw [e] at he <;> omega) (by have := TB.out; omega) (by have := TB.out; omega))
          have ek : k = C := by have := hkC.out; omega
          subst ek
          have HP := Lib.hid hpre
          clear hpm he c
          gi_wp2_with (refine ⟨trivial, ?_⟩; gi_at_call 130; refine (callsIn_wide.2 (PF.out _)).mono ?_; rintro e' w' ⟨rfl, rfl⟩)
          go_end0
          exact ⟨⟨_, rfl⟩, .inl ⟨pre, by rw [DL.out]; exact hpre.out, hj.out⟩⟩
theorem days_any (d : Mat.Dir) (x : Exp.Ex) (f t : Int) (w : World) :
    Calls Tryz.prog 127 #[.int .i64 d.val, .agg #[.int .u64 x.a0, .int .u64 x.a1, .int .u64 x.a2, .int .u64 x.a3, .int .u64 x.a4, .int .u64 x.a5, .bool x.b3, .bool x.b5], .int .i64 f, .int .i64 t] w fun e w' => e = .returned (.func (.func 142) #[] #[.pointer (some ⟨w.heap.size, 0, none⟩), .pointer (some ⟨w.heap.size + 1 + 1, 0, none⟩), .pointer (some ⟨w.heap.size + 1 + 1 + 1, 0, none⟩), .pointer (some ⟨w.heap.size + 1, 0, none⟩)]) ∧
      w' = (((w.alloc (.cells #[.int .i64 d.val] 124)).alloc (.cells #[.int .u64 x.a0, .int .u64 x.a1, .int .u64 x.a2, .int .u64 x.a3, .int .u64 x.a4, .int .u64 x.a5, .bool x.b3, .bool x.b5] 24)).alloc (.cells #[.int .i64 f] 2)).alloc (.cells #[.int .i64 t] 2) := by
  obtain ⟨q, hq⟩ : ∃ q, d.val = q := ⟨_, rfl⟩
  rw [hq]
  clear hq
  go_enter Tryz.func127, Tryz.ntmps127
  go_wp2
  go_ret
  exact ⟨rfl, rfl⟩
theorem days_stops (own : Nat → Prop) (n : Nat) (hn : 1 ≤ n) (Bw Bf Bt Bx : Nat) (d : Mat.Dir) (x : Exp.Ex) (hok : x.Ok) (f t : Int) (fl : -1000000000000 ≤ f) (fh : f ≤ 1000000000000) (tl : -1000000000000 ≤ t) (th : t ≤ 1000000000000)
    (hin : d.past f t = false → 0 ≤ f ∧ f ≤ 253402300800 ∧ 0 ≤ t ∧ t ≤ 253402300800 ∧ (d = .up ∨ f ≤ 253402300799))
    (ow : ¬ own Bw) (oF : ¬ own Bf) (oT : ¬ own Bt) (ox : ¬ own Bx) (ob : ¬ own 1) (oc : ¬ own 0) (w : World) (hown : ∀ b, own b → b < w.heap.size)
    (bw : Boxed w Bw 124 (.int .i64 d.val)) (bf : Boxed w Bf 2 (.int .i64 f)) (bt : Boxed w Bt 2 (.int .i64 t)) (rx : Row w Bx 24 (exL x)) (L : LayM w) :
    SeqStopsK Fence.wide n Tryz.prog 142 #[.pointer (some ⟨Bw, 0, none⟩), .pointer (some ⟨Bf, 0, none⟩), .pointer (some ⟨Bt, 0, none⟩), .pointer (some ⟨Bx, 0, none⟩)] (fun q : Dy => #[Value.int .i64 q.val]) (Kc own)
      (fun ys => ys.map (fun q => q.val) = d.daysL x f t) (fun pre => pre.map (fun q => q.val) <+: d.daysL x f t) (d.lim f t) w := fun l J Jx W hW hJ _ hY h0 =>
  days_in own n hn l Bw Bf Bt Bx d x hok f t fl fh tl th hin ow oF oT ox ob oc _ J Jx hJ hY W (fun b h => Nat.lt_of_lt_of_le (hown b h) hW.size) ((hW.cell (p := ⟨Bw, 0, none⟩) bw.lt).trans bw.cell) ((hW.cell (p := ⟨Bf, 0, none⟩) bf.lt).trans bf.cell) ((hW.cell (p := ⟨Bt, 0, none⟩) bt.lt).trans bt.cell) (rx.below hW) (L.below hW) h0
end Go.Proofs.YtljackjcgfaanaaGreatDoor
