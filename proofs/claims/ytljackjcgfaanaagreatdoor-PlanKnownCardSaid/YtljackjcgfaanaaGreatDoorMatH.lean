/- Contract of inDay of package match: the first second of a day that is matched, from one on, in a direction. -/
import Derived.Test.YtljackjcgfaanaaGreatDoorGMatE
import Derived.Test.YtljackjcgfaanaaGreatDoorGMPlain
import Derived.WalkMore
import Derived.ControlIn
namespace Go.Proofs.YtljackjcgfaanaaGreatDoor
open Go.ChangeShapes Go.RowKit Go.Shelf

/-- a scope through which the run goes with no jump to a label, at a fence that is no round's -/
theorem wpIn_scope {F : Fence} {n : Nat} {P : Program} {Q : Exit → Act → World → Prop} {a : Act} {w : World} {c : Code} (hro : F.round = none) (h : c.wpIn F n P (Exit.noGoto Q) a w) : (Code.scope c).wpIn F n P Q a w := by
  intro b k cs hb hf hr
  have hn : b.roundOf = none := hb.trans hro
  have h0 : (lone (b.atR a (.code (.scope c) :: k)) cs w).fenced P F := fenced_calm hf hr rfl
  have s1 : step P (lone (b.atR a (.code (.scope c) :: k)) cs w) = .next (lone (b.atR a (.code c :: .inScope c :: k)) cs w) := by
    rw [Frame.atR_of_none hn, Frame.atR_of_none hn]; exact step_scope
  obtain ⟨e, a1, w1, hq, harr⟩ := h b (.inScope c :: k) cs hb hf hr
  have s2 : step P (lone (b.atR a1 (.inScope c :: k)) cs w1) = .next (lone (b.atR a1 k) cs w1) := by
    rw [Frame.atR_of_none hn, Frame.atR_of_none hn]; exact step_inScope
  cases e with
  | normal => exact ⟨.normal, a1, w1, hq, .head h0 s1 (StepsIn.trans harr (.one (fenced_calm hf hr rfl) s2))⟩
  | exit id =>
    have hx : exitTo id (.inScope c :: k) = exitTo id k := by simp [exitTo]
    exact ⟨.exit id, a1, w1, hq, fun k' hk => .head h0 s1 (harr.1 k' (by rw [hx]; exact hk)),
      fun hr' hk => let ⟨k1, g1, g2⟩ := harr.2 hr' (by rw [hx]; exact hk); ⟨k1, g1, .head h0 s1 g2⟩⟩
  | goto l => exact hq.elim
  | ret => exact ⟨_, a1, w1, hq, .of_steps (.one h0 s1) harr⟩
  | panic ch => exact ⟨_, a1, w1, hq, .of_steps (.one h0 s1) harr⟩
  | outgrown => exact ⟨_, a1, w1, hq, .of_steps (.one h0 s1) harr⟩
section
variable {F : Fence} {n : Nat} {P : Program} {ops : Array Oper} {Q : Exit → Act → World → Prop} {md : Region.Mode}
/-- a region that draws its order, step by step: what is ready, one after the other -/
theorem anyIn_cons {fuel : Nat} {listed : Array Bool} {a : Act} {w : World} {l : List Nat} (hr : Region.ready md ops listed = l) (hl : l ≠ [])
    (h : ∀ i ∈ l, wpOpIn F n P ops Q i (wpAnyIn F n P md ops Q fuel (listed.setIfInBounds i true)) a w) : wpAnyIn F n P md ops Q (fuel + 1) listed a w :=
  ⟨fun e => absurd (hr.symm.trans e) hl, by rw [hr]; exact h⟩
theorem anyIn_end {listed : Array Bool} {a : Act} {w : World} (hr : Region.ready md ops listed = []) (h : Q .normal a w) : wpAnyIn F n P md ops Q 0 listed a w := ⟨hr, h⟩
theorem opIn_at {i : Nat} {o : Oper} {K : Act → World → Prop} {a : Act} {w : World} (ho : ops[i]? = some o) (hg : o.guard = none) (h : o.wpIn F n P a w K Q) : wpOpIn F n P ops Q i K a w := by
  unfold wpOpIn
  rw [ho]
  simp only [Region.wanted, hg, if_true]
  exact h
end
attribute [local go_sem] Oper.semAt_some
/-- what inDay returns -/
def inV (r : Option (Nat × Nat × Nat)) : Value := match r with
  | some p => .tuple #[.int .i64 (Mat.sec3 p), .bool true]
  | none => .tuple #[.int .i64 0, .bool false]
/-- the blocks that inDay writes -/
def ownI (S b : Nat) : Prop := S + 3 ≤ b ∧ b ≤ S + 6
/-- the state between two rounds: minute, second, nothing found -/
structure IS (w W0 : World) (d : Mat.Dir) (x : Exp.Ex) (hh i s : Nat) (W : World) : Prop where
  mi : Boxed W (w.heap.size + 1 + 1 + 1) 3 (.int .i64 i)
  se : Boxed W (w.heap.size + 1 + 1 + 1 + 1) 3 (.int .i64 s)
  fo : Boxed W (w.heap.size + 1 + 1 + 1 + 1 + 1) 3 (.int .i64 0)
  ok : Boxed W (w.heap.size + 1 + 1 + 1 + 1 + 1 + 1) 4 (.bool false)
  wa : Boxed W w.heap.size 124 (.int .i64 d.val)
  ex : Row W (w.heap.size + 1) 24 (exL x)
  ho : Boxed W (w.heap.size + 1 + 1) 3 (.int .i64 hh)
  kc : Kc (ownI w.heap.size) W0 W
  be : Below w.heap.size w W
theorem IS.grow {w W0 : World} {d : Mat.Dir} {x : Exp.Ex} {hh i s base : Nat} {A B : World} {row : Option Nat} (h : IS w W0 d x hh i s A) (hb : w.heap.size ≤ base) (hg : A.grownBy B row) (hr : ∀ r, row = some r → base ≤ r ∧ ∃ o : Obj, A.heap[r]? = some o ∧ o.isCells = false) : IS w W0 d x hh i s B := by
  have hr' : ∀ r, row = some r → ∃ o : Obj, A.heap[r]? = some o ∧ o.isCells = false := fun r e => (hr r e).2
  have bx : ∀ {b t v}, Boxed A b t v → Boxed B b t v := fun {b t v} q => boxed_own b t (fun (_ : Unit) => v) () A B row q hg hr'
  refine ⟨bx h.mi, bx h.se, bx h.fo, bx h.ok, bx h.wa, ?_, bx h.ho, Kc.own () A B row h.kc hg hr', ownFrom_below (β := Unit) (Nat.le_refl _) hb () A B row h.be hg hr⟩
  have q := h.ex
  refine (hg.block _ q.lt fun e => ?_).trans q
  obtain ⟨o, ho, hc⟩ := hr' _ e.symm
  rw [show A.heap[w.heap.size + 1]? = _ from q] at ho
  cases ho
  cases hc
theorem IS.next {w W0 : World} {d : Mat.Dir} {x : Exp.Ex} {hh i s : Nat} {A B : World} (h : IS w W0 d x hh i s A) (hb : Below A.heap.size A B) : IS w W0 d x hh i s B := by
  have bx : ∀ {b t v}, Boxed A b t v → Boxed B b t v := fun {b t v} q => (hb.block _ q.lt).trans q
  exact ⟨bx h.mi, bx h.se, bx h.fo, bx h.ok, bx h.wa, h.ex.below hb, bx h.ho, h.kc.trans (Kc.of_below hb), h.be.trans (hb.mono h.be.size)⟩
theorem IS.setMi {w W0 : World} {d : Mat.Dir} {x : Exp.Ex} {hh i s : Nat} {A : World} (h : IS w W0 d x hh i s A) (j : Nat) : IS w W0 d x hh j s (A.setCell ⟨w.heap.size + 1 + 1 + 1, 0, none⟩ (.int .i64 j)) :=
  ⟨h.mi.set _, h.se.other (by omega) _, h.fo.other (by omega) _, h.ok.other (by omega) _, h.wa.other (by omega) _, h.ex.other _ _ (by dsimp only; omega), h.ho.other (by omega) _, h.kc.setCell _ _ (by unfold ownI; omega), h.be.setCell (p := ⟨w.heap.size + 1 + 1 + 1, 0, none⟩) (by dsimp only; omega) _⟩
theorem IS.setSe {w W0 : World} {d : Mat.Dir} {x : Exp.Ex} {hh i s : Nat} {A : World} (h : IS w W0 d x hh i s A) (j : Nat) : IS w W0 d x hh i j (A.setCell ⟨w.heap.size + 1 + 1 + 1 + 1, 0, none⟩ (.int .i64 j)) :=
  ⟨h.mi.other (by omega) _, h.se.set _, h.fo.other (by omega) _, h.ok.other (by omega) _, h.wa.other (by omega) _, h.ex.other _ _ (by dsimp only; omega), h.ho.other (by omega) _, h.kc.setCell _ _ (by unfold ownI; omega), h.be.setCell (p := ⟨w.heap.size + 1 + 1 + 1 + 1, 0, none⟩) (by dsimp only; omega) _⟩
/-- what has been found lies in its two cells -/
structure FS (w : World) (r : Nat × Nat × Nat) (W : World) : Prop where
  fo : Boxed W (w.heap.size + 1 + 1 + 1 + 1 + 1) 3 (.int .i64 (Mat.sec3 r))
  ok : Boxed W (w.heap.size + 1 + 1 + 1 + 1 + 1 + 1) 4 (.bool true)
  be : Below w.heap.size w W
theorem FS.grow {w : World} {r : Nat × Nat × Nat} {base : Nat} {A B : World} {row : Option Nat} (h : FS w r A) (hb : w.heap.size ≤ base) (hg : A.grownBy B row) (hr : ∀ r, row = some r → base ≤ r ∧ ∃ o : Obj, A.heap[r]? = some o ∧ o.isCells = false) : FS w r B := by
  have hr' : ∀ r, row = some r → ∃ o : Obj, A.heap[r]? = some o ∧ o.isCells = false := fun r e => (hr r e).2
  have bx : ∀ {b t v}, Boxed A b t v → Boxed B b t v := fun {b t v} q => boxed_own b t (fun (_ : Unit) => v) () A B row q hg hr'
  exact ⟨bx h.fo, bx h.ok, ownFrom_below (β := Unit) (Nat.le_refl _) hb () A B row h.be hg hr⟩
theorem below_drewN' {B : Nat} {w W : World} (h : Below B w W) (k : Nat) : Below B w (W.drewN k) := ⟨h.os, h.tape, h.output, h.size, h.block⟩
theorem keeps_of_below {W W' : World} (h : Below W.heap.size W W') : KeepsOthers W W' := ⟨h.size, fun k _ hk _ => (h.block k (Array.getElem?_eq_some_iff.1 hk).1).trans hk⟩
/-- the lists that came, as numbers -/
def nats (l : List (Fin 64)) : List Nat := l.map fun x => x.val
theorem nats_snoc (l : List (Fin 64)) (x : Fin 64) : nats (l ++ [x]) = nats l ++ [x.val] := by simp [nats]
set_option maxRecDepth 100000 in
set_option maxHeartbeats 8000000 in
theorem inDay_in (n : Nat) (hn : 9 ≤ n) (d : Mat.Dir) (x : Exp.Ex) (hok : x.Ok) (t : Nat) (ht : t < 86400) (w : World) (L : LayM w) :
    CallsIn Fence.wide n Tryz.prog 129 #[.int .i64 d.val, .agg #[.int .u64 x.a0, .int .u64 x.a1, .int .u64 x.a2, .int .u64 x.a3, .int .u64 x.a4, .int .u64 x.a5, .bool x.b3, .bool x.b5], .int .i64 t] w fun e W' => e = .returned (inV (d.fh x.a0 x.a1 x.a2 (t / 3600) (t % 3600 / 60) (t % 60))) ∧ Below w.heap.size w W' := by
  have h1 : 1 ≤ n := by omega
  obtain ⟨hh, hhh⟩ : ∃ h, t / 3600 = h := ⟨_, rfl⟩
  obtain ⟨ii, hii⟩ : ∃ h, t % 3600 / 60 = h := ⟨_, rfl⟩
  obtain ⟨ss, hss⟩ : ∃ h, t % 60 = h := ⟨_, rfl⟩
  have CK := Lib.hid (fun w0 : World => clock_any t w0 ht)
  rw [hhh, hii, hss] at CK
  have BB := Lib.hid (show hh < 24 ∧ ii < 60 ∧ ss < 60 by omega)
  rw [hhh, hii, hss]
  clear hhh hii hss ht
  have hx := bd_of hok
  have X0 := Lib.hid (show x.a0 < 2 ^ 64 from hx 0 (by decide))
  have X1 := Lib.hid (show x.a1 < 2 ^ 64 from hx 1 (by decide))
  have X2 := Lib.hid (show x.a2 < 2 ^ 64 from hx 2 (by decide))
  have OK := Lib.hid hok
  have LL := Lib.hid L
  clear hx hok L
  refine callsIn_of_wp_marks Tryz.func129 rfl trivial ?_ rfl
  simp only [Tryz.ntmps129, List.size_toArray, List.length_cons, List.length_nil, Nat.reduceAdd, Nat.reduceSub, Array.replicate_succ, Array.replicate_zero, List.push_toArray, List.append_toArray, List.nil_append, List.cons_append]
  gi_wp2
  refine wpIn_scope rfl ?_
  gi_wp2_with (refine ⟨trivial, ?_⟩; first
    | (gi_at_call 133; refine (callsIn_wide.2 (CK.out _)).mono ?_; rintro e w' ⟨rfl, rfl⟩)
    | (gi_at_call 148; refine (callsIn_wide.2 (numbers_any d _ _ _)).mono ?_; rintro e w' ⟨rfl, rfl⟩))
  refine wpIn_label ?_
  gi_wp2_with (refine ⟨trivial, ?_⟩; first
    | (gi_at_call 133; refine (callsIn_wide.2 (CK.out _)).mono ?_; rintro e w' ⟨rfl, rfl⟩)
    | (gi_at_call 148; refine (callsIn_wide.2 (numbers_any d _ _ _)).mono ?_; rintro e w' ⟨rfl, rfl⟩))
  obtain ⟨os, hos⟩ : ∃ os : List Obj, os = [.cells #[.int .i64 d.val] 124, (.cells #[.int .u64 x.a0, .int .u64 x.a1, .int .u64 x.a2, .int .u64 x.a3, .int .u64 x.a4, .int .u64 x.a5, .bool x.b3, .bool x.b5] 24), .cells #[.int .i64 hh] 3, .cells #[.int .i64 ii] 3, .cells #[.int .i64 ss] 3, .cells #[.int .i64 0] 3, .cells #[.bool false] 4, .cells #[.int .i64 d.val] 124, .cells #[.int .u64 x.a2] 22, .cells #[.int .i64 hh] 3] := ⟨_, rfl⟩
  obtain ⟨W0, hW0⟩ : ∃ W0, W0 = allocs w os := ⟨_, rfl⟩
  have hB0 : Below w.heap.size w W0 := by rw [hW0]; exact allocs_below _ _
  have hsz : W0.heap.size = w.heap.size + 10 := by rw [hW0, allocs_size, hos]; rfl
  have hI0 : IS w W0 d x hh ii ss W0 := by
    refine ⟨?_, ?_, ?_, ?_, ?_, ?_, ?_, Kc.refl _ _, hB0⟩
    · rw [hW0]; exact allocs_box (k := 3) (by rw [hos]; rfl) (by omega)
    · rw [hW0]; exact allocs_box (k := 4) (by rw [hos]; rfl) (by omega)
    · rw [hW0]; exact allocs_box (k := 5) (by rw [hos]; rfl) (by omega)
    · rw [hW0]; exact allocs_box (k := 6) (by rw [hos]; rfl) (by omega)
    · rw [hW0]; exact allocs_box (k := 0) (by rw [hos]; rfl) (by omega)
    · show W0.heap[w.heap.size + 1]? = _
      rw [hW0]; exact allocs_at _ _ 1 _ (by rw [hos]; rfl)
    · rw [hW0]; exact allocs_box (k := 2) (by rw [hos]; rfl) (by omega)
  have b7 : Boxed W0 (w.heap.size + 1 + 1 + 1 + 1 + 1 + 1 + 1) 124 (.int .i64 d.val) := by rw [hW0]; exact allocs_box (k := 7) (by rw [hos]; rfl) (by omega)
  have b8 : Boxed W0 (w.heap.size + 1 + 1 + 1 + 1 + 1 + 1 + 1 + 1) 22 (.int .u64 x.a2) := by rw [hW0]; exact allocs_box (k := 8) (by rw [hos]; rfl) (by omega)
  have b9 : Boxed W0 (w.heap.size + 1 + 1 + 1 + 1 + 1 + 1 + 1 + 1 + 1) 3 (.int .i64 hh) := by rw [hW0]; exact allocs_box (k := 9) (by rw [hos]; rfl) (by omega)
  change Code.wpIn _ _ _ _ _ _ (allocs w [.cells #[.int .i64 d.val] 124, (.cells #[.int .u64 x.a0, .int .u64 x.a1, .int .u64 x.a2, .int .u64 x.a3, .int .u64 x.a4, .int .u64 x.a5, .bool x.b3, .bool x.b5] 24), .cells #[.int .i64 hh] 3, .cells #[.int .i64 ii] 3, .cells #[.int .i64 ss] 3, .cells #[.int .i64 0] 3, .cells #[.bool false] 4, .cells #[.int .i64 d.val] 124, .cells #[.int .u64 x.a2] 22, .cells #[.int .i64 hh] 3])
  rw [← hos, ← hW0]
  clear hos hW0
  have L0 := Lib.hid (LL.out.below hB0)
  have TB := Lib.hid (show 1 < w.heap.size from LL.out.b.lt)
  have TC := Lib.hid (show 0 < w.heap.size from LL.out.c.lt)
  have HS := Lib.hid hsz
  apply wpIn_rangeFunc_ownH rfl h1 (gf := 163) (lb := #[.pointer (some ⟨w.heap.size + 1 + 1 + 1 + 1 + 1 + 1 + 1, 0, none⟩), .pointer (some ⟨w.heap.size + 1 + 1 + 1 + 1 + 1 + 1 + 1 + 1, 0, none⟩), .pointer (some ⟨w.heap.size + 1 + 1 + 1 + 1 + 1 + 1 + 1 + 1 + 1, 0, none⟩)]) rfl trivial (enters_of Tryz.func163 (by kernel_rfl) rfl)
    (numbers_stops (ownI w.heap.size) (n - 1) (by omega) _ _ _ d x.a2 hh X2.out (by omega) (by have := BB.out; omega) (by unfold ownI; omega) (by unfold ownI; omega) (by have := TB.out; unfold ownI; omega) W0 b7 b8 b9 L0.out.b) Kc.trans Kc.book (Below.refl _ _) (fun _ => rfl)
    (fun pre W => ∃ i s : Nat, (i < 60 ∧ s < 60) ∧ (∀ r, d.goH x.a0 x.a1 hh (nats pre ++ r) ii ss = d.goH x.a0 x.a1 hh r i s) ∧ IS w W0 d x hh i s W)
    (fun c pre W => ∃ p, c = .exit 0 ∧ (∀ r, d.goH x.a0 x.a1 hh (nats pre ++ r) ii ss = some p) ∧ FS w p W)
    (fun pre A B row ⟨i, s, e1, e2, e3⟩ hg hr => ⟨i, s, e1, e2, e3.grow (by omega) hg hr⟩)
    (fun c pre A B row ⟨p, e1, e2, e3⟩ hg hr => ⟨p, e1, e2, e3.grow (by omega) hg hr⟩)
    ⟨ii, ss, ⟨BB.out.2.1, BB.out.2.2⟩, fun r => rfl, hI0⟩
    (fun q a' W => ∃ Bx, w.heap.size + 6 < Bx ∧ Boxed W Bx 3 (.int .i64 ((q : Fin 64).val : Nat)) ∧ a' = { tmps := #[Value.int IntKind.i64 d.val, Value.agg #[Value.int IntKind.u64 ((x.a0 : Nat) : Int), Value.int IntKind.u64 ((x.a1 : Nat) : Int), Value.int IntKind.u64 ((x.a2 : Nat) : Int), Value.int IntKind.u64 ((x.a3 : Nat) : Int), Value.int IntKind.u64 ((x.a4 : Nat) : Int), Value.int IntKind.u64 ((x.a5 : Nat) : Int), Value.bool x.b3, Value.bool x.b5], Value.int IntKind.i64 ((t : Nat) : Int), Value.pointer (some { block := w.heap.size, off := 0 }), Value.pointer (some { block := w.heap.size + 1, off := 0 }), undef, Value.int IntKind.i64 0, Value.bool false, Value.pointer (some { block := w.heap.size + 1 + 1, off := 0 }), Value.pointer (some { block := w.heap.size + 1 + 1 + 1, off := 0 }), Value.pointer (some { block := w.heap.size + 1 + 1 + 1 + 1, off := 0 }), Value.pointer (some { block := w.heap.size + 1 + 1 + 1 + 1 + 1, off := 0 }), Value.pointer (some { block := w.heap.size + 1 + 1 + 1 + 1 + 1 + 1, off := 0 }), Value.pointer (some { block := Bx, off := 0 }), undef, undef, Value.tuple #[Value.int IntKind.i64 ((hh : Nat) : Int), Value.int IntKind.i64 ((ii : Nat) : Int), Value.int IntKind.i64 ((ss : Nat) : Int)], Value.int IntKind.i64 ((t : Nat) : Int), Value.tuple #[Value.int IntKind.i64 ((hh : Nat) : Int), Value.int IntKind.i64 ((ii : Nat) : Int), Value.int IntKind.i64 ((ss : Nat) : Int)], Value.int IntKind.i64 ((hh : Nat) : Int), Value.int IntKind.i64 ((ii : Nat) : Int), Value.int IntKind.i64 ((ss : Nat) : Int), Value.int IntKind.i64 d.val, Value.pointer (some { block := w.heap.size + 1, off := 2 }), Value.int IntKind.u64 ((x.a2 : Nat) : Int), Value.int IntKind.i64 ((hh : Nat) : Int), Value.func (Fn.func 163) #[] #[Value.pointer (some { block := w.heap.size + 1 + 1 + 1 + 1 + 1 + 1 + 1, off := 0 }), Value.pointer (some { block := w.heap.size + 1 + 1 + 1 + 1 + 1 + 1 + 1 + 1, off := 0 }), Value.pointer (some { block := w.heap.size + 1 + 1 + 1 + 1 + 1 + 1 + 1 + 1 + 1, off := 0 })], Value.int IntKind.i64 ((q.val : Nat) : Int), undef, undef, undef, undef, undef, undef, undef, undef, undef, undef, undef, undef, undef, undef, undef, undef, undef, undef, undef, undef, undef, undef, undef, undef, undef, undef, undef, undef, undef, undef, undef, undef, undef], defers := [] })
    (fun q a' _ X Y row hs hg hr => by obtain ⟨Bx, e1, e2, e3⟩ := hs; exact ⟨Bx, e1, boxed_own Bx 3 (fun (_ : Unit) => Value.int .i64 (q.val : Nat)) () X Y row e2 hg (fun r e => (hr r e).2), e3⟩)
    ?assign ?body ?done ?stop
  case assign =>
    rintro l pre q W K ⟨i, s, e1, e2, e3⟩ hK
    gi_wp2
    have hsW := e3.be.size
    exact hK _ _ ((KeepsOthers.alloc _ _).from _) ((Kc.refl _ W).alloc _) ⟨i, s, e1, e2, e3.next ((Below.refl _ _).alloc (Nat.le_refl _) _)⟩ ⟨W.heap.size, by have := e3.ok.lt; omega, Boxed.new W 3 _, rfl⟩
  case body =>
    rintro l pre q a' W hl ⟨r, hr⟩ ⟨i, s, hb, hg, hI⟩ ⟨Bx, hBx, bX, rfl⟩ hlt
    have h1' : 1 ≤ n - 1 - 1 := by omega
    have HI := Lib.hid hI
    have HG := Lib.hid hg
    have HBD := Lib.hid hb
    have cX := bX.cell
    have cH := hI.ho.cell
    have cw := hI.wa.cell
    have c1 := hI.ex.cell 1
    have ci := hI.mi.cell
    have fi := hI.mi.frozen
    have cs := hI.se.cell
    have fs := hI.se.frozen
    simp only [exL, List.getElem?_cons_zero, List.getElem?_cons_succ] at c1
    clear hI hg hb hlt
    by_cases hq : q.val = hh
    · have HQ := Lib.hid hq
      have t1 : (((q.val : Nat) : Int) != (hh : Int)) = false := by rw [hq]; simp
      have t2 : (q.val != hh) = false := by rw [hq]; simp
      clear hq
      gi_wp2_with (refine ⟨trivial, ?_⟩; gi_at_call 148; refine (CallsIn.inRound l (callsIn_wide.2 (numbers_any d _ _ _))).mono ?_; rintro e w' ⟨rfl, rfl⟩)
      have HBX := Lib.hid hBx
      have HRB := Lib.hid hr
      have HIB := HI
      have BXB := Lib.hid bX
      have KCB := Lib.hid (Kc.refl (ownI w.heap.size) W)
      have KFB := Lib.hid (KeepsFrom.refl W0.heap.size W)
      have HEI : Hid ((if q.val = hh then i else d.fst 60) = i) := Lib.hid (if_pos HQ.out)
      have HESS : Hid ((if q.val = hh then s else d.fst 60) = s) := Lib.hid (if_pos HQ.out)
      obtain ⟨os2, hos2⟩ : ∃ os : List Obj, os = [.cells #[.int .i64 d.val] 124, .cells #[.int .u64 x.a1] 22, .cells #[.int .i64 ((i : Nat) : Int)] 3] := ⟨_, rfl⟩
      obtain ⟨W2, hW2⟩ : ∃ W2, W2 = allocs W os2 := ⟨_, rfl⟩
      have hB2 : Below W.heap.size W W2 := by rw [hW2]; exact allocs_below _ _
      have d0 : Boxed W2 W.heap.size 124 (.int .i64 d.val) := by rw [hW2]; exact allocs_box (k := 0) (by rw [hos2]; rfl) (by omega)
      have d1 : Boxed W2 (W.heap.size + 1) 22 (.int .u64 x.a1) := by rw [hW2]; exact allocs_box (k := 1) (by rw [hos2]; rfl) (by omega)
      have d2 : Boxed W2 (W.heap.size + 1 + 1) 3 (.int .i64 ((i : Nat) : Int)) := by rw [hW2]; exact allocs_box (k := 2) (by rw [hos2]; rfl) (by omega)
      change Code.wpIn _ _ _ _ _ _ (allocs W [.cells #[.int .i64 d.val] 124, .cells #[.int .u64 x.a1] 22, .cells #[.int .i64 ((i : Nat) : Int)] 3])
      rw [← hos2, ← hW2]
      have hsB : w.heap.size + 6 < W.heap.size := by have := HIB.out.ok.lt; omega
      have hs2 : W.heap.size ≤ W2.heap.size := hB2.size
      clear hos2 hW2
      have HI2 := Lib.hid (HIB.out.next hB2)
      have bX2 := Lib.hid ((hB2.block _ BXB.out.lt).trans BXB.out)
      have KC2 := Lib.hid (KCB.out.trans (Kc.of_below (own := ownI w.heap.size) hB2))
      have KF2 := Lib.hid (KFB.out.trans ((keeps_of_below hB2).from _))
      have hr2 : W2.heap[l]? = some (.loop r) := (hB2.block _ (Array.getElem?_eq_some_iff.1 HRB.out).1).trans HRB.out
      have L2 := Lib.hid (LayM.kc HI2.out.kc (by have := TB.out; unfold ownI; omega) (by have := TC.out; unfold ownI; omega) L0.out)
      obtain ⟨I, hI⟩ : ∃ I, i = I := ⟨_, rfl⟩
      have HII := Lib.hid hI
      have HIl : Hid (I < 60) := Lib.hid (by rw [← hI]; exact HBD.out.1)
      have HI2 : Hid (IS w W0 d x hh I s W2) := Lib.hid (by rw [← hI]; exact HI2.out)
      rw [hI] at d2
      clear HIB hI
      apply wpIn_rangeFunc_ownN (l₀ := l) (r₀ := r) rfl hr2 h1' (gf := 163) (lb := #[.pointer (some ⟨W.heap.size, 0, none⟩), .pointer (some ⟨W.heap.size + 1, 0, none⟩), .pointer (some ⟨W.heap.size + 1 + 1, 0, none⟩)]) rfl trivial (enters_of Tryz.func163 (by kernel_rfl) rfl)
        ((numbers_stops (ownI w.heap.size) (n - 1 - 1 - 1) (by omega) _ _ _ d x.a1 ((I : Nat) : Int) X1.out (by omega) (by have := HIl.out; omega) (by unfold ownI; omega) (by unfold ownI; omega) (by have := TB.out; unfold ownI; omega) W2 d0 d1 d2 L2.out.b).inRound l) Kc.trans Kc.book (Below.refl _ _) (fun _ => rfl)
        (fun pre2 V => ∃ s2 : Nat, s2 < 60 ∧ (∀ r, d.goM x.a0 I (nats pre2 ++ r) s = d.goM x.a0 I r s2) ∧ IS w W0 d x hh I s2 V ∧ Boxed V Bx 3 (.int .i64 ((q.val : Nat) : Int)) ∧ Kc (ownI w.heap.size) W V ∧ KeepsFrom W0.heap.size W V)
        (fun c pre2 V => ∃ p : Nat × Nat, c = .exit 0 ∧ (∀ r, d.goM x.a0 I (nats pre2 ++ r) s = (some p, 0)) ∧ FS w (q.val, p.1, p.2) V ∧ KeepsFrom W0.heap.size W V)
        (fun pre2 A B row ⟨s2, e0, e1, e2, e3, e4, e5⟩ hg hr => ⟨s2, e0, e1, e2.grow (by omega) hg hr, boxed_own Bx 3 (fun (_ : Unit) => Value.int .i64 ((q.val : Nat) : Int)) () A B row e3 hg (fun r e => (hr r e).2), Kc.own () A B row e4 hg (fun r e => (hr r e).2), ownFrom_keepsFrom (β := Unit) (by have := KC2.out.size; omega) () A B row e5 hg hr⟩)
        (fun c pre2 A B row ⟨p, e1, e2, e3, e4⟩ hg hr => ⟨p, e1, e2, e3.grow (by omega) hg hr, ownFrom_keepsFrom (β := Unit) (by have := KC2.out.size; omega) () A B row e4 hg hr⟩)
        ⟨s, HBD.out.2, fun _ => rfl, HI2.out, bX2.out, KC2.out, KF2.out⟩
        (fun m a4 V => ∃ By, w.heap.size + 6 < By ∧ Boxed V By 3 (.int .i64 (((m : Fin 64).val : Nat) : Int)) ∧ a4 = { tmps := #[Value.int IntKind.i64 d.val, Value.agg #[Value.int IntKind.u64 ((x.a0 : Nat) : Int), Value.int IntKind.u64 ((x.a1 : Nat) : Int), Value.int IntKind.u64 ((x.a2 : Nat) : Int), Value.int IntKind.u64 ((x.a3 : Nat) : Int), Value.int IntKind.u64 ((x.a4 : Nat) : Int), Value.int IntKind.u64 ((x.a5 : Nat) : Int), Value.bool x.b3, Value.bool x.b5], Value.int IntKind.i64 ((t : Nat) : Int), Value.pointer (some { block := w.heap.size, off := 0 }), Value.pointer (some { block := w.heap.size + 1, off := 0 }), undef, Value.int IntKind.i64 0, Value.bool false, Value.pointer (some { block := w.heap.size + 1 + 1, off := 0 }), Value.pointer (some { block := w.heap.size + 1 + 1 + 1, off := 0 }), Value.pointer (some { block := w.heap.size + 1 + 1 + 1 + 1, off := 0 }), Value.pointer (some { block := w.heap.size + 1 + 1 + 1 + 1 + 1, off := 0 }), Value.pointer (some { block := w.heap.size + 1 + 1 + 1 + 1 + 1 + 1, off := 0 }), Value.pointer (some { block := Bx, off := 0 }), Value.pointer (some { block := By, off := 0 }), undef, Value.tuple #[Value.int IntKind.i64 ((hh : Nat) : Int), Value.int IntKind.i64 ((ii : Nat) : Int), Value.int IntKind.i64 ((ss : Nat) : Int)], Value.int IntKind.i64 ((t : Nat) : Int), Value.tuple #[Value.int IntKind.i64 ((hh : Nat) : Int), Value.int IntKind.i64 ((ii : Nat) : Int), Value.int IntKind.i64 ((ss : Nat) : Int)], Value.int IntKind.i64 ((hh : Nat) : Int), Value.int IntKind.i64 ((ii : Nat) : Int), Value.int IntKind.i64 ((ss : Nat) : Int), Value.int IntKind.i64 d.val, Value.pointer (some { block := w.heap.size + 1, off := 2 }), Value.int IntKind.u64 ((x.a2 : Nat) : Int), Value.int IntKind.i64 ((hh : Nat) : Int), Value.func (Fn.func 163) #[] #[Value.pointer (some { block := w.heap.size + 1 + 1 + 1 + 1 + 1 + 1 + 1, off := 0 }), Value.pointer (some { block := w.heap.size + 1 + 1 + 1 + 1 + 1 + 1 + 1 + 1, off := 0 }), Value.pointer (some { block := w.heap.size + 1 + 1 + 1 + 1 + 1 + 1 + 1 + 1 + 1, off := 0 })], Value.int IntKind.i64 ((q.val : Nat) : Int), Value.int IntKind.i64 ((q.val : Nat) : Int), Value.int IntKind.i64 ((hh : Nat) : Int), Value.bool false, undef, undef, undef, undef, Value.int IntKind.i64 d.val, Value.pointer (some { block := w.heap.size + 1, off := 1 }), Value.int IntKind.u64 ((x.a1 : Nat) : Int), Value.int IntKind.i64 ((i : Nat) : Int), Value.func (Fn.func 163) #[] #[Value.pointer (some { block := W.heap.size, off := 0 }), Value.pointer (some { block := W.heap.size + 1, off := 0 }), Value.pointer (some { block := W.heap.size + 1 + 1, off := 0 })], Value.int IntKind.i64 ((m.val : Nat) : Int), undef, undef, undef, undef, undef, undef, undef, undef, undef, undef, undef, undef, undef, undef, undef, undef, undef, undef, undef, undef], defers := [] })
        (fun m a4 _ X Y row hs hg hr => by obtain ⟨By, e1, e2, e3⟩ := hs; exact ⟨By, e1, boxed_own By 3 (fun (_ : Unit) => Value.int .i64 ((m.val : Nat) : Int)) () X Y row e2 hg (fun r e => (hr r e).2), e3⟩)
        ?assign2 ?body2 ?done2 ?stop2
      case assign2 =>
        rintro l2 pre2 m V K ⟨s2, e0, e1, e2, e3, e4, e5⟩ hK
        gi_wp2
        have hsV := e2.ok.lt
        refine hK _ _ ((KeepsOthers.alloc _ _).from _) ((Kc.refl _ V).alloc _) ⟨s2, e0, e1, e2.next ((Below.refl _ _).alloc (Nat.le_refl _) _), e3.alloc _, e4.alloc _, e5.trans ((KeepsOthers.alloc _ _).from _)⟩ ⟨V.heap.size, by omega, Boxed.new V 3 _, ?_⟩
        rfl
      case body2 =>
        rintro l2 pre2 m a4 W' hl2 ⟨r2, hr2'⟩ ⟨s2, e0, e1, e2, e3, e4, e5⟩ ⟨By, hBy, bY, rfl⟩ hlt2
        have h1'' : 1 ≤ n - 1 - 1 - 1 - 1 := by omega
        have HGM := Lib.hid e1
        have HS2 := Lib.hid e0
        have HW' := Lib.hid e2
        have BX' := Lib.hid e3
        have KC' := Lib.hid e4
        have KF' := Lib.hid e5
        have HR2 := Lib.hid hr2'
        have cY := bY.cell
        have cw := e2.wa.cell
        have c0 := e2.ex.cell 0
        have ci := e2.mi.cell
        have cs := e2.se.cell
        have fs := e2.se.frozen
        simp only [exL, List.getElem?_cons_zero] at c0
        have BY' := Lib.hid bY
        clear e0 e1 e2 e3 e4 e5 hlt2 hr2' bY cX cH c1
        by_cases hm : m.val = I
        · have HES : Hid ((if m.val = I then s2 else d.fst 60) = s2) := Lib.hid (if_pos hm)
          have t1 : (((m.val : Nat) : Int) != (I : Int)) = false := by rw [hm]; simp
          have t2 : (m.val != I) = false := by rw [hm]; simp
          clear hm
          gi_wp2_with (refine ⟨trivial, ?_⟩; (gi_at_call 148; refine (CallsIn.inRound l2 (callsIn_wide.2 (numbers_any d _ _ _))).mono ?_; rintro e w' ⟨rfl, rfl⟩))
          have HIC := HW'; have BXC := BX'; have BYC := BY'; have KCC := KC'; have KFC := KF'; have HRC := HR2
          have KCC' := Lib.hid (Kc.refl (ownI w.heap.size) W')
          have KFC' := Lib.hid (KeepsFrom.refl W2.heap.size W')
          obtain ⟨os3, hos3⟩ : ∃ os : List Obj, os = [.cells #[.int .i64 d.val] 124, .cells #[.int .u64 x.a0] 22, .cells #[.int .i64 ((s2 : Nat) : Int)] 3] := ⟨_, rfl⟩
          obtain ⟨W3, hW3⟩ : ∃ W3, W3 = allocs W' os3 := ⟨_, rfl⟩
          have hB3 : Below W'.heap.size W' W3 := by rw [hW3]; exact allocs_below _ _
          have d0 : Boxed W3 W'.heap.size 124 (.int .i64 d.val) := by rw [hW3]; exact allocs_box (k := 0) (by rw [hos3]; rfl) (by omega)
          have d1 : Boxed W3 (W'.heap.size + 1) 22 (.int .u64 x.a0) := by rw [hW3]; exact allocs_box (k := 1) (by rw [hos3]; rfl) (by omega)
          have d2 : Boxed W3 (W'.heap.size + 1 + 1) 3 (.int .i64 ((s2 : Nat) : Int)) := by rw [hW3]; exact allocs_box (k := 2) (by rw [hos3]; rfl) (by omega)
          change Code.wpIn _ _ _ _ _ _ (allocs W' [.cells #[.int .i64 d.val] 124, .cells #[.int .u64 x.a0] 22, .cells #[.int .i64 ((s2 : Nat) : Int)] 3])
          rw [← hos3, ← hW3]
          have hsC : w.heap.size + 6 < W'.heap.size := by have := HIC.out.ok.lt; omega
          have hs3 : W'.heap.size ≤ W3.heap.size := hB3.size
          clear hos3 hW3
          have HI3 := Lib.hid (HIC.out.next hB3)
          have bX3 := Lib.hid ((hB3.block _ BXC.out.lt).trans BXC.out)
          have bY3 := Lib.hid ((hB3.block _ BYC.out.lt).trans BYC.out)
          have KC3 := Lib.hid (KCC.out.trans (Kc.of_below (own := ownI w.heap.size) hB3))
          have KF3 := Lib.hid (KFC.out.trans ((keeps_of_below hB3).from _))
          have KC3' := Lib.hid (KCC'.out.trans (Kc.of_below (own := ownI w.heap.size) hB3))
          have KF3' := Lib.hid (KFC'.out.trans ((keeps_of_below hB3).from _))
          have hr3 : W3.heap[l2]? = some (.loop r2) := (hB3.block _ (Array.getElem?_eq_some_iff.1 HRC.out).1).trans HRC.out
          have h1'' : 1 ≤ n - 1 - 1 - 1 - 1 := by omega
          have L3 := Lib.hid (LayM.kc HI3.out.kc (by have := TB.out; unfold ownI; omega) (by have := TC.out; unfold ownI; omega) L0.out)
          apply wpIn_rangeFunc_ownN (l₀ := l2) (r₀ := r2) rfl hr3 h1'' (gf := 163) (lb := #[.pointer (some ⟨W'.heap.size, 0, none⟩), .pointer (some ⟨W'.heap.size + 1, 0, none⟩), .pointer (some ⟨W'.heap.size + 1 + 1, 0, none⟩)]) rfl trivial (enters_of Tryz.func163 (by kernel_rfl) rfl)
            ((numbers_stops (ownI w.heap.size) (n - 1 - 1 - 1 - 1 - 1) (by omega) _ _ _ d x.a0 ((s2 : Nat) : Int) X0.out (by omega) (by have := HS2.out; omega) (by unfold ownI; omega) (by unfold ownI; omega) (by have := TB.out; unfold ownI; omega) W3 d0 d1 d2 L3.out.b).inRound l2) Kc.trans Kc.book (Below.refl _ _) (fun _ => rfl)
            (fun pre3 V => (pre3 = [] ∧ IS w W0 d x hh I s2 V) ∧ (Boxed V Bx 3 (.int .i64 ((q.val : Nat) : Int)) ∧ Boxed V By 3 (.int .i64 ((m.val : Nat) : Int))) ∧ ((Kc (ownI w.heap.size) W V ∧ KeepsFrom W0.heap.size W V) ∧ (Kc (ownI w.heap.size) W' V ∧ KeepsFrom W2.heap.size W' V)))
            (fun c pre3 V => ∃ z : Fin 64, (pre3 = [z] ∧ c = .exit 0) ∧ FS w (q.val, m.val, z.val) V ∧ (KeepsFrom W0.heap.size W V ∧ KeepsFrom W2.heap.size W' V))
            (fun pre3 A B row ⟨⟨e1, e2⟩, ⟨e3, e4⟩, ⟨e5, e6⟩, e7, e8⟩ hg hr => ⟨⟨e1, e2.grow (by omega) hg hr⟩, ⟨boxed_own Bx 3 (fun (_ : Unit) => Value.int .i64 ((q.val : Nat) : Int)) () A B row e3 hg (fun r e => (hr r e).2), boxed_own By 3 (fun (_ : Unit) => Value.int .i64 ((m.val : Nat) : Int)) () A B row e4 hg (fun r e => (hr r e).2)⟩,
              ⟨Kc.own () A B row e5 hg (fun r e => (hr r e).2), ownFrom_keepsFrom (β := Unit) (by have := KC3.out.size; omega) () A B row e6 hg hr⟩, Kc.own () A B row e7 hg (fun r e => (hr r e).2), ownFrom_keepsFrom (β := Unit) (by have := KC3'.out.size; omega) () A B row e8 hg hr⟩)
            (fun c pre3 A B row ⟨z, e1, e2, e3, e4⟩ hg hr => ⟨z, e1, e2.grow (by omega) hg hr, ownFrom_keepsFrom (β := Unit) (by have := KC3.out.size; omega) () A B row e3 hg hr, ownFrom_keepsFrom (β := Unit) (by have := KC3'.out.size; omega) () A B row e4 hg hr⟩)
            ⟨⟨rfl, HI3.out⟩, ⟨bX3.out, bY3.out⟩, ⟨KC3.out, KF3.out⟩, KC3'.out, KF3'.out⟩
            (fun z a4 _ => a4 = { tmps := #[Value.int IntKind.i64 d.val, Value.agg #[Value.int IntKind.u64 ((x.a0 : Nat) : Int), Value.int IntKind.u64 ((x.a1 : Nat) : Int), Value.int IntKind.u64 ((x.a2 : Nat) : Int), Value.int IntKind.u64 ((x.a3 : Nat) : Int), Value.int IntKind.u64 ((x.a4 : Nat) : Int), Value.int IntKind.u64 ((x.a5 : Nat) : Int), Value.bool x.b3, Value.bool x.b5], Value.int IntKind.i64 ((t : Nat) : Int), Value.pointer (some { block := w.heap.size, off := 0 }), Value.pointer (some { block := w.heap.size + 1, off := 0 }), undef, Value.int IntKind.i64 0, Value.bool false, Value.pointer (some { block := w.heap.size + 1 + 1, off := 0 }), Value.pointer (some { block := w.heap.size + 1 + 1 + 1, off := 0 }), Value.pointer (some { block := w.heap.size + 1 + 1 + 1 + 1, off := 0 }), Value.pointer (some { block := w.heap.size + 1 + 1 + 1 + 1 + 1, off := 0 }), Value.pointer (some { block := w.heap.size + 1 + 1 + 1 + 1 + 1 + 1, off := 0 }), Value.pointer (some { block := Bx, off := 0 }), Value.pointer (some { block := By, off := 0 }), Value.int IntKind.i64 ((z.val : Nat) : Int), Value.tuple #[Value.int IntKind.i64 ((hh : Nat) : Int), Value.int IntKind.i64 ((ii : Nat) : Int), Value.int IntKind.i64 ((ss : Nat) : Int)], Value.int IntKind.i64 ((t : Nat) : Int), Value.tuple #[Value.int IntKind.i64 ((hh : Nat) : Int), Value.int IntKind.i64 ((ii : Nat) : Int), Value.int IntKind.i64 ((ss : Nat) : Int)], Value.int IntKind.i64 ((hh : Nat) : Int), Value.int IntKind.i64 ((ii : Nat) : Int), Value.int IntKind.i64 ((ss : Nat) : Int), Value.int IntKind.i64 d.val, Value.pointer (some { block := w.heap.size + 1, off := 2 }), Value.int IntKind.u64 ((x.a2 : Nat) : Int), Value.int IntKind.i64 ((hh : Nat) : Int), Value.func (Fn.func 163) #[] #[Value.pointer (some { block := w.heap.size + 1 + 1 + 1 + 1 + 1 + 1 + 1, off := 0 }), Value.pointer (some { block := w.heap.size + 1 + 1 + 1 + 1 + 1 + 1 + 1 + 1, off := 0 }), Value.pointer (some { block := w.heap.size + 1 + 1 + 1 + 1 + 1 + 1 + 1 + 1 + 1, off := 0 })], Value.int IntKind.i64 ((q.val : Nat) : Int), Value.int IntKind.i64 ((q.val : Nat) : Int), Value.int IntKind.i64 ((hh : Nat) : Int), Value.bool false, undef, undef, undef, undef, Value.int IntKind.i64 d.val, Value.pointer (some { block := w.heap.size + 1, off := 1 }), Value.int IntKind.u64 ((x.a1 : Nat) : Int), Value.int IntKind.i64 ((i : Nat) : Int), Value.func (Fn.func 163) #[] #[Value.pointer (some { block := W.heap.size, off := 0 }), Value.pointer (some { block := W.heap.size + 1, off := 0 }), Value.pointer (some { block := W.heap.size + 1 + 1, off := 0 })], Value.int IntKind.i64 ((m.val : Nat) : Int), Value.int IntKind.i64 ((m.val : Nat) : Int), Value.int IntKind.i64 ((I : Nat) : Int), Value.bool false, undef, undef, Value.int IntKind.i64 d.val, Value.pointer (some { block := w.heap.size + 1, off := 0 }), Value.int IntKind.u64 ((x.a0 : Nat) : Int), Value.int IntKind.i64 ((s2 : Nat) : Int), Value.func (Fn.func 163) #[] #[Value.pointer (some { block := W'.heap.size, off := 0 }), Value.pointer (some { block := W'.heap.size + 1, off := 0 }), Value.pointer (some { block := W'.heap.size + 1 + 1, off := 0 })], Value.int IntKind.i64 ((z.val : Nat) : Int), undef, undef, undef, undef, undef, undef, undef, undef, undef], defers := [] })
            (fun _ _ _ _ _ _ hs _ _ => hs)
            ?assign3 ?body3 ?done3 ?stop3
          case assign3 =>
            rintro l3 pre3 z V K hi hK
            gi_wp2
            exact hK _ _ (KeepsFrom.refl _ _) (Kc.refl _ _) hi rfl
          case body3 =>
            rintro l3 pre3 z a4 V _ _ ⟨⟨rfl, e2⟩, ⟨e3, e4⟩, ⟨e5, e6⟩, e7, e8⟩ rfl _
            have c1 := e3.cell; have c2 := e4.cell
            have f1 := e2.fo.cell; have f2 := e2.fo.frozen; have f3 := e2.ok.cell; have f4 := e2.ok.frozen
            have hv : Mat.sec3 (q.val, m.val, z.val) = 3600 * (q.val : Int) + 60 * (m.val : Int) + (z.val : Int) := rfl
            have w1 : IntKind.i64.wrap (3600 * (q.val : Int)) = 3600 * (q.val : Int) := by have := q.isLt; rw [IntKind.wrap_i64]; omega
            have w2 : IntKind.i64.wrap (60 * (m.val : Int)) = 60 * (m.val : Int) := by have := m.isLt; rw [IntKind.wrap_i64]; omega
            have w3 : IntKind.i64.wrap (3600 * (q.val : Int) + 60 * (m.val : Int)) = 3600 * (q.val : Int) + 60 * (m.val : Int) := by have := q.isLt; have := m.isLt; rw [IntKind.wrap_i64]; omega
            have w4 : IntKind.i64.wrap (3600 * (q.val : Int) + 60 * (m.val : Int) + (z.val : Int)) = Mat.sec3 (q.val, m.val, z.val) := by have := q.isLt; have := m.isLt; have := z.isLt; rw [hv, IntKind.wrap_i64]; omega
            have E2 := Lib.hid e2; have E6 := Lib.hid e6; have E8 := Lib.hid e8
            clear hv e2 e3 e4 e5 e6 e7 e8
            gi_wp2
            have ks := ((KeepsOthers.setCell V ⟨w.heap.size + 1 + 1 + 1 + 1 + 1, 0, none⟩ (.int .i64 (Mat.sec3 (q.val, m.val, z.val)))).trans (KeepsOthers.setCell _ ⟨w.heap.size + 1 + 1 + 1 + 1 + 1 + 1, 0, none⟩ (.bool true)))
            refine ⟨ks.from _, z, ⟨rfl, rfl⟩, ⟨(E2.out.fo.set _).other (by omega) _, (E2.out.ok.other (by omega) _).set _, (E2.out.be.setCell (p := ⟨w.heap.size + 1 + 1 + 1 + 1 + 1, 0, none⟩) (by dsimp only; omega) _).setCell (p := ⟨w.heap.size + 1 + 1 + 1 + 1 + 1 + 1, 0, none⟩) (by dsimp only; omega) _⟩, E6.out.trans (ks.from _), E8.out.trans (ks.from _)⟩
          case done3 =>
            rintro ys V hys ⟨⟨rfl, e2⟩, ⟨e3, e4⟩, ⟨e5, e6⟩, e7, e8⟩
            have hfs : d.fs x.a0 (if m.val = I then s2 else d.fst 60) = none := by
              rw [HES.out]
              unfold Mat.Dir.fs
              have : d.nums x.a0 ((s2 : Nat) : Int) = [] := hys.symm
              rw [this]; rfl
            have HFS := Lib.hid hfs
            clear hfs hys
            gi_wp2
            refine ⟨e8, e7, ⟨s2, HS2.out, fun r => ?_, e2, e3, e5, e6⟩⟩
            rw [nats_snoc, List.append_assoc, HGM.out, List.singleton_append, Mat.Dir.goM, HFS.out, HES.out]
          case stop3 =>
            rintro c pre3 V hpre ⟨z, ⟨rfl, rfl⟩, e2, e3, e4⟩
            have hfs : d.fs x.a0 (if m.val = I then s2 else d.fst 60) = some z.val := by
              rw [HES.out]
              unfold Mat.Dir.fs
              obtain ⟨t, ht⟩ := hpre
              have : d.nums x.a0 ((s2 : Nat) : Int) = z.val :: t := ht.symm
              rw [this]; rfl
            have HFS := Lib.hid hfs
            clear hfs hpre
            gi_wp2
            refine ⟨e4, (m.val, z.val), rfl, fun r => ?_, e2, e3⟩
            rw [nats_snoc, List.append_assoc, HGM.out, List.singleton_append, Mat.Dir.goM, HFS.out]
        · have HES : Hid ((if m.val = I then s2 else d.fst 60) = d.fst 60) := Lib.hid (if_neg hm)
          have t1 : (((m.val : Nat) : Int) != (I : Int)) = true := by rw [bne_iff_ne]; omega
          have t2 : (m.val != I) = true := by rw [bne_iff_ne]; omega
          clear hm
          obtain ⟨WC, hWC⟩ : ∃ WC, W'.setCell ⟨w.heap.size + 1 + 1 + 1 + 1, 0, none⟩ (.int .i64 (d.fst 60 : Nat)) = WC := ⟨_, rfl⟩
          have HIC := Lib.hid (HW'.out.setSe (d.fst 60)); have BXC := Lib.hid (BX'.out.other (B' := w.heap.size + 1 + 1 + 1 + 1) (by have := HBX.out; omega) (.int .i64 (d.fst 60 : Nat))); have BYC := Lib.hid (BY'.out.other (B' := w.heap.size + 1 + 1 + 1 + 1) (by omega) (.int .i64 (d.fst 60 : Nat)))
          have KCC' := Lib.hid ((Kc.refl (ownI w.heap.size) W').setCell (w.heap.size + 1 + 1 + 1 + 1) (.int .i64 (d.fst 60 : Nat)) (by unfold ownI; omega))
          have KFC' := Lib.hid ((KeepsOthers.setCell W' ⟨w.heap.size + 1 + 1 + 1 + 1, 0, none⟩ (.int .i64 (d.fst 60 : Nat))).from W2.heap.size)
          rw [hWC] at HIC BXC BYC KCC' KFC'
          have KCC := Lib.hid (KC'.out.trans KCC'.out); have KFC := Lib.hid (KF'.out.trans ((KeepsOthers.setCell W' ⟨w.heap.size + 1 + 1 + 1 + 1, 0, none⟩ (.int .i64 (d.fst 60 : Nat))).from W0.heap.size))
          rw [hWC] at KFC
          have HRC : Hid (WC.heap[l2]? = some (.loop r2)) := Lib.hid (by rw [← hWC]; exact (KeepsOthers.setCell W' ⟨w.heap.size + 1 + 1 + 1 + 1, 0, none⟩ (.int .i64 (d.fst 60 : Nat))).same l2 _ HR2.out rfl)
          have HWC := Lib.hid hWC
          have k1 := HIC.out.wa.cell
          have k2 := HIC.out.ex.cell 0
          have k3 := HIC.out.se.cell
          simp only [exL, List.getElem?_cons_zero] at k2
          gi_wp2_with (refine ⟨trivial, ?_⟩; first | (gi_at_call 128; refine (CallsIn.inRound l2 (callsIn_wide.2 (first_any d 60 _ (by decide) (by decide)))).mono ?_; rintro e w' ⟨rfl, rfl⟩) | (gi_at_call 148; refine (CallsIn.inRound l2 (callsIn_wide.2 (numbers_any d _ _ _))).mono ?_; rintro e w' ⟨rfl, rfl⟩))
          have hS3 := d.fst_lt (n := 60) (by decide)
          obtain ⟨os3, hos3⟩ : ∃ os : List Obj, os = [.cells #[.int .i64 d.val] 124, .cells #[.int .u64 x.a0] 22, .cells #[.int .i64 (((d.fst 60) : Nat) : Int)] 3] := ⟨_, rfl⟩
          obtain ⟨W3, hW3⟩ : ∃ W3, W3 = allocs WC os3 := ⟨_, rfl⟩
          have hB3 : Below WC.heap.size WC W3 := by rw [hW3]; exact allocs_below _ _
          have d0 : Boxed W3 WC.heap.size 124 (.int .i64 d.val) := by rw [hW3]; exact allocs_box (k := 0) (by rw [hos3]; rfl) (by omega)
          have d1 : Boxed W3 (WC.heap.size + 1) 22 (.int .u64 x.a0) := by rw [hW3]; exact allocs_box (k := 1) (by rw [hos3]; rfl) (by omega)
          have d2 : Boxed W3 (WC.heap.size + 1 + 1) 3 (.int .i64 (((d.fst 60) : Nat) : Int)) := by rw [hW3]; exact allocs_box (k := 2) (by rw [hos3]; rfl) (by omega)
          change Code.wpIn _ _ _ _ _ _ (allocs WC [.cells #[.int .i64 d.val] 124, .cells #[.int .u64 x.a0] 22, .cells #[.int .i64 (((d.fst 60) : Nat) : Int)] 3])
          rw [← hos3, ← hW3]
          have hsC : w.heap.size + 6 < WC.heap.size := by have := HIC.out.ok.lt; omega
          have hs3 : WC.heap.size ≤ W3.heap.size := hB3.size
          clear hos3 hW3
          have HI3 := Lib.hid (HIC.out.next hB3)
          have bX3 := Lib.hid ((hB3.block _ BXC.out.lt).trans BXC.out)
          have bY3 := Lib.hid ((hB3.block _ BYC.out.lt).trans BYC.out)
          have KC3 := Lib.hid (KCC.out.trans (Kc.of_below (own := ownI w.heap.size) hB3))
          have KF3 := Lib.hid (KFC.out.trans ((keeps_of_below hB3).from _))
          have KC3' := Lib.hid (KCC'.out.trans (Kc.of_below (own := ownI w.heap.size) hB3))
          have KF3' := Lib.hid (KFC'.out.trans ((keeps_of_below hB3).from _))
          have hr3 : W3.heap[l2]? = some (.loop r2) := (hB3.block _ (Array.getElem?_eq_some_iff.1 HRC.out).1).trans HRC.out
          have h1'' : 1 ≤ n - 1 - 1 - 1 - 1 := by omega
          have L3 := Lib.hid (LayM.kc HI3.out.kc (by have := TB.out; unfold ownI; omega) (by have := TC.out; unfold ownI; omega) L0.out)
          apply wpIn_rangeFunc_ownN (l₀ := l2) (r₀ := r2) rfl hr3 h1'' (gf := 163) (lb := #[.pointer (some ⟨WC.heap.size, 0, none⟩), .pointer (some ⟨WC.heap.size + 1, 0, none⟩), .pointer (some ⟨WC.heap.size + 1 + 1, 0, none⟩)]) rfl trivial (enters_of Tryz.func163 (by kernel_rfl) rfl)
            ((numbers_stops (ownI w.heap.size) (n - 1 - 1 - 1 - 1 - 1) (by omega) _ _ _ d x.a0 (((d.fst 60) : Nat) : Int) X0.out (by omega) (by have := hS3; omega) (by unfold ownI; omega) (by unfold ownI; omega) (by have := TB.out; unfold ownI; omega) W3 d0 d1 d2 L3.out.b).inRound l2) Kc.trans Kc.book (Below.refl _ _) (fun _ => rfl)
            (fun pre3 V => (pre3 = [] ∧ IS w W0 d x hh I (d.fst 60) V) ∧ (Boxed V Bx 3 (.int .i64 ((q.val : Nat) : Int)) ∧ Boxed V By 3 (.int .i64 ((m.val : Nat) : Int))) ∧ ((Kc (ownI w.heap.size) W V ∧ KeepsFrom W0.heap.size W V) ∧ (Kc (ownI w.heap.size) W' V ∧ KeepsFrom W2.heap.size W' V)))
            (fun c pre3 V => ∃ z : Fin 64, (pre3 = [z] ∧ c = .exit 0) ∧ FS w (q.val, m.val, z.val) V ∧ (KeepsFrom W0.heap.size W V ∧ KeepsFrom W2.heap.size W' V))
            (fun pre3 A B row ⟨⟨e1, e2⟩, ⟨e3, e4⟩, ⟨e5, e6⟩, e7, e8⟩ hg hr => ⟨⟨e1, e2.grow (by omega) hg hr⟩, ⟨boxed_own Bx 3 (fun (_ : Unit) => Value.int .i64 ((q.val : Nat) : Int)) () A B row e3 hg (fun r e => (hr r e).2), boxed_own By 3 (fun (_ : Unit) => Value.int .i64 ((m.val : Nat) : Int)) () A B row e4 hg (fun r e => (hr r e).2)⟩,
              ⟨Kc.own () A B row e5 hg (fun r e => (hr r e).2), ownFrom_keepsFrom (β := Unit) (by have := KC3.out.size; omega) () A B row e6 hg hr⟩, Kc.own () A B row e7 hg (fun r e => (hr r e).2), ownFrom_keepsFrom (β := Unit) (by have := KC3'.out.size; omega) () A B row e8 hg hr⟩)
            (fun c pre3 A B row ⟨z, e1, e2, e3, e4⟩ hg hr => ⟨z, e1, e2.grow (by omega) hg hr, ownFrom_keepsFrom (β := Unit) (by have := KC3.out.size; omega) () A B row e3 hg hr, ownFrom_keepsFrom (β := Unit) (by have := KC3'.out.size; omega) () A B row e4 hg hr⟩)
            ⟨⟨rfl, HI3.out⟩, ⟨bX3.out, bY3.out⟩, ⟨KC3.out, KF3.out⟩, KC3'.out, KF3'.out⟩
            (fun z a4 _ => a4 = { tmps := #[Value.int IntKind.i64 d.val, Value.agg #[Value.int IntKind.u64 ((x.a0 : Nat) : Int), Value.int IntKind.u64 ((x.a1 : Nat) : Int), Value.int IntKind.u64 ((x.a2 : Nat) : Int), Value.int IntKind.u64 ((x.a3 : Nat) : Int), Value.int IntKind.u64 ((x.a4 : Nat) : Int), Value.int IntKind.u64 ((x.a5 : Nat) : Int), Value.bool x.b3, Value.bool x.b5], Value.int IntKind.i64 ((t : Nat) : Int), Value.pointer (some { block := w.heap.size, off := 0 }), Value.pointer (some { block := w.heap.size + 1, off := 0 }), undef, Value.int IntKind.i64 0, Value.bool false, Value.pointer (some { block := w.heap.size + 1 + 1, off := 0 }), Value.pointer (some { block := w.heap.size + 1 + 1 + 1, off := 0 }), Value.pointer (some { block := w.heap.size + 1 + 1 + 1 + 1, off := 0 }), Value.pointer (some { block := w.heap.size + 1 + 1 + 1 + 1 + 1, off := 0 }), Value.pointer (some { block := w.heap.size + 1 + 1 + 1 + 1 + 1 + 1, off := 0 }), Value.pointer (some { block := Bx, off := 0 }), Value.pointer (some { block := By, off := 0 }), Value.int IntKind.i64 ((z.val : Nat) : Int), Value.tuple #[Value.int IntKind.i64 ((hh : Nat) : Int), Value.int IntKind.i64 ((ii : Nat) : Int), Value.int IntKind.i64 ((ss : Nat) : Int)], Value.int IntKind.i64 ((t : Nat) : Int), Value.tuple #[Value.int IntKind.i64 ((hh : Nat) : Int), Value.int IntKind.i64 ((ii : Nat) : Int), Value.int IntKind.i64 ((ss : Nat) : Int)], Value.int IntKind.i64 ((hh : Nat) : Int), Value.int IntKind.i64 ((ii : Nat) : Int), Value.int IntKind.i64 ((ss : Nat) : Int), Value.int IntKind.i64 d.val, Value.pointer (some { block := w.heap.size + 1, off := 2 }), Value.int IntKind.u64 ((x.a2 : Nat) : Int), Value.int IntKind.i64 ((hh : Nat) : Int), Value.func (Fn.func 163) #[] #[Value.pointer (some { block := w.heap.size + 1 + 1 + 1 + 1 + 1 + 1 + 1, off := 0 }), Value.pointer (some { block := w.heap.size + 1 + 1 + 1 + 1 + 1 + 1 + 1 + 1, off := 0 }), Value.pointer (some { block := w.heap.size + 1 + 1 + 1 + 1 + 1 + 1 + 1 + 1 + 1, off := 0 })], Value.int IntKind.i64 ((q.val : Nat) : Int), Value.int IntKind.i64 ((q.val : Nat) : Int), Value.int IntKind.i64 ((hh : Nat) : Int), Value.bool false, undef, undef, undef, undef, Value.int IntKind.i64 d.val, Value.pointer (some { block := w.heap.size + 1, off := 1 }), Value.int IntKind.u64 ((x.a1 : Nat) : Int), Value.int IntKind.i64 ((i : Nat) : Int), Value.func (Fn.func 163) #[] #[Value.pointer (some { block := W.heap.size, off := 0 }), Value.pointer (some { block := W.heap.size + 1, off := 0 }), Value.pointer (some { block := W.heap.size + 1 + 1, off := 0 })], Value.int IntKind.i64 ((m.val : Nat) : Int), Value.int IntKind.i64 ((m.val : Nat) : Int), Value.int IntKind.i64 ((I : Nat) : Int), Value.bool true, Value.int IntKind.i64 d.val, Value.int IntKind.i64 ↑(d.fst 60), Value.int IntKind.i64 d.val, Value.pointer (some { block := w.heap.size + 1, off := 0 }), Value.int IntKind.u64 ((x.a0 : Nat) : Int), Value.int IntKind.i64 ↑(d.fst 60), Value.func (Fn.func 163) #[] #[Value.pointer (some { block := WC.heap.size, off := 0 }), Value.pointer (some { block := WC.heap.size + 1, off := 0 }), Value.pointer (some { block := WC.heap.size + 1 + 1, off := 0 })], Value.int IntKind.i64 ((z.val : Nat) : Int), undef, undef, undef, undef, undef, undef, undef, undef, undef], defers := [] })
            (fun _ _ _ _ _ _ hs _ _ => hs)
            ?assign3 ?body3 ?done3 ?stop3
          case assign3 =>
            rintro l3 pre3 z V K hi hK
            gi_wp2
            exact hK _ _ (KeepsFrom.refl _ _) (Kc.refl _ _) hi rfl
          case body3 =>
            rintro l3 pre3 z a4 V _ _ ⟨⟨rfl, e2⟩, ⟨e3, e4⟩, ⟨e5, e6⟩, e7, e8⟩ rfl _
            have c1 := e3.cell; have c2 := e4.cell
            have f1 := e2.fo.cell; have f2 := e2.fo.frozen; have f3 := e2.ok.cell; have f4 := e2.ok.frozen
            have hv : Mat.sec3 (q.val, m.val, z.val) = 3600 * (q.val : Int) + 60 * (m.val : Int) + (z.val : Int) := rfl
            have w1 : IntKind.i64.wrap (3600 * (q.val : Int)) = 3600 * (q.val : Int) := by have := q.isLt; rw [IntKind.wrap_i64]; omega
            have w2 : IntKind.i64.wrap (60 * (m.val : Int)) = 60 * (m.val : Int) := by have := m.isLt; rw [IntKind.wrap_i64]; omega
            have w3 : IntKind.i64.wrap (3600 * (q.val : Int) + 60 * (m.val : Int)) = 3600 * (q.val : Int) + 60 * (m.val : Int) := by have := q.isLt; have := m.isLt; rw [IntKind.wrap_i64]; omega
            have w4 : IntKind.i64.wrap (3600 * (q.val : Int) + 60 * (m.val : Int) + (z.val : Int)) = Mat.sec3 (q.val, m.val, z.val) := by have := q.isLt; have := m.isLt; have := z.isLt; rw [hv, IntKind.wrap_i64]; omega
            have E2 := Lib.hid e2; have E6 := Lib.hid e6; have E8 := Lib.hid e8
            clear hv e2 e3 e4 e5 e6 e7 e8
            gi_wp2
            have ks := ((KeepsOthers.setCell V ⟨w.heap.size + 1 + 1 + 1 + 1 + 1, 0, none⟩ (.int .i64 (Mat.sec3 (q.val, m.val, z.val)))).trans (KeepsOthers.setCell _ ⟨w.heap.size + 1 + 1 + 1 + 1 + 1 + 1, 0, none⟩ (.bool true)))
            refine ⟨ks.from _, z, ⟨rfl, rfl⟩, ⟨(E2.out.fo.set _).other (by omega) _, (E2.out.ok.other (by omega) _).set _, (E2.out.be.setCell (p := ⟨w.heap.size + 1 + 1 + 1 + 1 + 1, 0, none⟩) (by dsimp only; omega) _).setCell (p := ⟨w.heap.size + 1 + 1 + 1 + 1 + 1 + 1, 0, none⟩) (by dsimp only; omega) _⟩, E6.out.trans (ks.from _), E8.out.trans (ks.from _)⟩
          case done3 =>
            rintro ys V hys ⟨⟨rfl, e2⟩, ⟨e3, e4⟩, ⟨e5, e6⟩, e7, e8⟩
            have hfs : d.fs x.a0 (if m.val = I then s2 else d.fst 60) = none := by
              rw [HES.out]
              unfold Mat.Dir.fs
              have : d.nums x.a0 (((d.fst 60) : Nat) : Int) = [] := hys.symm
              rw [this]; rfl
            have HFS := Lib.hid hfs
            clear hfs hys
            gi_wp2
            refine ⟨e8, e7, ⟨(d.fst 60), hS3, fun r => ?_, e2, e3, e5, e6⟩⟩
            rw [nats_snoc, List.append_assoc, HGM.out, List.singleton_append, Mat.Dir.goM, HFS.out, HES.out]
          case stop3 =>
            rintro c pre3 V hpre ⟨z, ⟨rfl, rfl⟩, e2, e3, e4⟩
            have hfs : d.fs x.a0 (if m.val = I then s2 else d.fst 60) = some z.val := by
              rw [HES.out]
              unfold Mat.Dir.fs
              obtain ⟨t, ht⟩ := hpre
              have : d.nums x.a0 (((d.fst 60) : Nat) : Int) = z.val :: t := ht.symm
              rw [this]; rfl
            have HFS := Lib.hid hfs
            clear hfs hpre
            gi_wp2
            refine ⟨e4, (m.val, z.val), rfl, fun r => ?_, e2, e3⟩
            rw [nats_snoc, List.append_assoc, HGM.out, List.singleton_append, Mat.Dir.goM, HFS.out]
      case done2 =>
        rintro ys V hys ⟨s2, e0, e1, e2, e3, e4, e5⟩
        have hgm : d.goM x.a0 I (d.nums x.a1 I) s = (none, s2) := by
          have := e1 []
          rw [List.append_nil, show nats ys = d.nums x.a1 I from hys] at this
          exact this
        gi_wp2
        refine ⟨e5, e4, ⟨i, s2, ⟨HBD.out.1, e0⟩, fun r => ?_, by rw [HII.out]; exact e2⟩⟩
        rw [← HII.out] at hgm
        rw [nats_snoc, List.append_assoc, HG.out, List.singleton_append, Mat.Dir.goH, HEI.out, HESS.out, hgm]
      case stop2 =>
        rintro c pre2 V hpre ⟨p, rfl, e1, e2, e3⟩
        have hgm : d.goM x.a0 I (d.nums x.a1 I) s = (some p, 0) := by
          obtain ⟨t, ht⟩ := hpre
          have := e1 t
          rw [show nats pre2 ++ t = d.nums x.a1 I from ht] at this
          exact this
        gi_wp2
        refine ⟨e3, (q.val, p.1, p.2), rfl, fun r => ?_, e2⟩
        rw [← HII.out] at hgm
        rw [nats_snoc, List.append_assoc, HG.out, List.singleton_append, Mat.Dir.goH, HEI.out, HESS.out, hgm]
    · have HQ := Lib.hid hq
      have t1 : (((q.val : Nat) : Int) != (hh : Int)) = true := by rw [bne_iff_ne]; omega
      have t2 : (q.val != hh) = true := by rw [bne_iff_ne]; omega
      clear hq
      gi_wp2
      refine wpIn_mono (Q := fun e a2 w2 => e = .normal ∧ a2 = { tmps := #[Value.int IntKind.i64 d.val, Value.agg #[Value.int IntKind.u64 ((x.a0 : Nat) : Int), Value.int IntKind.u64 ((x.a1 : Nat) : Int), Value.int IntKind.u64 ((x.a2 : Nat) : Int), Value.int IntKind.u64 ((x.a3 : Nat) : Int), Value.int IntKind.u64 ((x.a4 : Nat) : Int), Value.int IntKind.u64 ((x.a5 : Nat) : Int), Value.bool x.b3, Value.bool x.b5], Value.int IntKind.i64 ((t : Nat) : Int), Value.pointer (some { block := w.heap.size, off := 0 }), Value.pointer (some { block := w.heap.size + 1, off := 0 }), undef, Value.int IntKind.i64 0, Value.bool false, Value.pointer (some { block := w.heap.size + 1 + 1, off := 0 }), Value.pointer (some { block := w.heap.size + 1 + 1 + 1, off := 0 }), Value.pointer (some { block := w.heap.size + 1 + 1 + 1 + 1, off := 0 }), Value.pointer (some { block := w.heap.size + 1 + 1 + 1 + 1 + 1, off := 0 }), Value.pointer (some { block := w.heap.size + 1 + 1 + 1 + 1 + 1 + 1, off := 0 }), Value.pointer (some { block := Bx, off := 0 }), undef, undef, Value.tuple #[Value.int IntKind.i64 ((hh : Nat) : Int), Value.int IntKind.i64 ((ii : Nat) : Int), Value.int IntKind.i64 ((ss : Nat) : Int)], Value.int IntKind.i64 ((t : Nat) : Int), Value.tuple #[Value.int IntKind.i64 ((hh : Nat) : Int), Value.int IntKind.i64 ((ii : Nat) : Int), Value.int IntKind.i64 ((ss : Nat) : Int)], Value.int IntKind.i64 ((hh : Nat) : Int), Value.int IntKind.i64 ((ii : Nat) : Int), Value.int IntKind.i64 ((ss : Nat) : Int), Value.int IntKind.i64 d.val, Value.pointer (some { block := w.heap.size + 1, off := 2 }), Value.int IntKind.u64 ((x.a2 : Nat) : Int), Value.int IntKind.i64 ((hh : Nat) : Int), Value.func (Fn.func 163) #[] #[Value.pointer (some { block := w.heap.size + 1 + 1 + 1 + 1 + 1 + 1 + 1, off := 0 }), Value.pointer (some { block := w.heap.size + 1 + 1 + 1 + 1 + 1 + 1 + 1 + 1, off := 0 }), Value.pointer (some { block := w.heap.size + 1 + 1 + 1 + 1 + 1 + 1 + 1 + 1 + 1, off := 0 })], Value.int IntKind.i64 ((q.val : Nat) : Int), Value.int IntKind.i64 ((q.val : Nat) : Int), Value.int IntKind.i64 ((hh : Nat) : Int), Value.bool true, Value.int IntKind.i64 d.val, Value.int IntKind.i64 ↑(d.fst 60), Value.int IntKind.i64 d.val, Value.int IntKind.i64 ↑(d.fst 60), undef, undef, undef, undef, undef, undef, undef, undef, undef, undef, undef, undef, undef, undef, undef, undef, undef, undef, undef, undef, undef, undef, undef, undef, undef, undef], defers := [] } ∧ w2 = ((W.setCell ⟨w.heap.size + 1 + 1 + 1, 0, none⟩ (.int .i64 (d.fst 60 : Nat))).setCell ⟨w.heap.size + 1 + 1 + 1 + 1, 0, none⟩ (.int .i64 (d.fst 60 : Nat))).drew) ?_ ?_
      · refine wpIn_region_any (by kernel_rfl) ?_
        refine anyIn_cons (l := [0, 2]) (by kernel_rfl) (by simp) ?_
        intro i hi
        obtain rfl | rfl : i = 0 ∨ i = 2 := by simpa using hi
        · clear hi
          refine opIn_at rfl rfl ?_
          gi_wp2_with (refine ⟨trivial, ?_⟩; gi_at_call 128; refine (CallsIn.inRound l (callsIn_wide.2 (first_any d 60 _ (by decide) (by decide)))).mono ?_; rintro e w' ⟨rfl, rfl⟩)
          refine anyIn_cons (l := [1, 2]) (by kernel_rfl) (by simp) ?_
          intro i hi
          obtain rfl | rfl : i = 1 ∨ i = 2 := by simpa using hi
          · clear hi
            refine opIn_at rfl rfl ?_
            gi_wp2_with (refine ⟨trivial, ?_⟩; gi_at_call 128; refine (CallsIn.inRound l (callsIn_wide.2 (first_any d 60 _ (by decide) (by decide)))).mono ?_; rintro e w' ⟨rfl, rfl⟩)
            refine anyIn_cons (l := [2]) (by kernel_rfl) (by simp) ?_
            intro i hi
            obtain rfl : i = 2 := by simpa using hi
            clear hi
            refine opIn_at rfl rfl ?_
            gi_wp2_with (refine ⟨trivial, ?_⟩; gi_at_call 128; refine (CallsIn.inRound l (callsIn_wide.2 (first_any d 60 _ (by decide) (by decide)))).mono ?_; rintro e w' ⟨rfl, rfl⟩)
            refine anyIn_cons (l := [3]) (by kernel_rfl) (by simp) ?_
            intro i hi
            obtain rfl : i = 3 := by simpa using hi
            clear hi
            refine opIn_at rfl rfl ?_
            gi_wp2_with (refine ⟨trivial, ?_⟩; gi_at_call 128; refine (CallsIn.inRound l (callsIn_wide.2 (first_any d 60 _ (by decide) (by decide)))).mono ?_; rintro e w' ⟨rfl, rfl⟩)
            refine anyIn_cons (l := [4]) (by kernel_rfl) (by simp) ?_
            intro i hi
            obtain rfl : i = 4 := by simpa using hi
            clear hi
            refine opIn_at rfl rfl ?_
            gi_wp2_with (refine ⟨trivial, ?_⟩; gi_at_call 128; refine (CallsIn.inRound l (callsIn_wide.2 (first_any d 60 _ (by decide) (by decide)))).mono ?_; rintro e w' ⟨rfl, rfl⟩)
            refine anyIn_cons (l := [5]) (by kernel_rfl) (by simp) ?_
            intro i hi
            obtain rfl : i = 5 := by simpa using hi
            clear hi
            refine opIn_at rfl rfl ?_
            gi_wp2_with (refine ⟨trivial, ?_⟩; gi_at_call 128; refine (CallsIn.inRound l (callsIn_wide.2 (first_any d 60 _ (by decide) (by decide)))).mono ?_; rintro e w' ⟨rfl, rfl⟩)
            exact anyIn_end (by kernel_rfl) ⟨rfl, rfl, rfl⟩
          · clear hi
            refine opIn_at rfl rfl ?_
            gi_wp2_with (refine ⟨trivial, ?_⟩; gi_at_call 128; refine (CallsIn.inRound l (callsIn_wide.2 (first_any d 60 _ (by decide) (by decide)))).mono ?_; rintro e w' ⟨rfl, rfl⟩)
            refine anyIn_cons (l := [1]) (by kernel_rfl) (by simp) ?_
            intro i hi
            obtain rfl : i = 1 := by simpa using hi
            clear hi
            refine opIn_at rfl rfl ?_
            gi_wp2_with (refine ⟨trivial, ?_⟩; gi_at_call 128; refine (CallsIn.inRound l (callsIn_wide.2 (first_any d 60 _ (by decide) (by decide)))).mono ?_; rintro e w' ⟨rfl, rfl⟩)
            refine anyIn_cons (l := [3]) (by kernel_rfl) (by simp) ?_
            intro i hi
            obtain rfl : i = 3 := by simpa using hi
            clear hi
            refine opIn_at rfl rfl ?_
            gi_wp2_with (refine ⟨trivial, ?_⟩; gi_at_call 128; refine (CallsIn.inRound l (callsIn_wide.2 (first_any d 60 _ (by decide) (by decide)))).mono ?_; rintro e w' ⟨rfl, rfl⟩)
            refine anyIn_cons (l := [4]) (by kernel_rfl) (by simp) ?_
            intro i hi
            obtain rfl : i = 4 := by simpa using hi
            clear hi
            refine opIn_at rfl rfl ?_
            gi_wp2_with (refine ⟨trivial, ?_⟩; gi_at_call 128; refine (CallsIn.inRound l (callsIn_wide.2 (first_any d 60 _ (by decide) (by decide)))).mono ?_; rintro e w' ⟨rfl, rfl⟩)
            refine anyIn_cons (l := [5]) (by kernel_rfl) (by simp) ?_
            intro i hi
            obtain rfl : i = 5 := by simpa using hi
            clear hi
            refine opIn_at rfl rfl ?_
            gi_wp2_with (refine ⟨trivial, ?_⟩; gi_at_call 128; refine (CallsIn.inRound l (callsIn_wide.2 (first_any d 60 _ (by decide) (by decide)))).mono ?_; rintro e w' ⟨rfl, rfl⟩)
            exact anyIn_end (by kernel_rfl) ⟨rfl, rfl, rfl⟩
        · clear hi
          refine opIn_at rfl rfl ?_
          gi_wp2_with (refine ⟨trivial, ?_⟩; gi_at_call 128; refine (CallsIn.inRound l (callsIn_wide.2 (first_any d 60 _ (by decide) (by decide)))).mono ?_; rintro e w' ⟨rfl, rfl⟩)
          refine anyIn_cons (l := [0]) (by kernel_rfl) (by simp) ?_
          intro i hi
          obtain rfl : i = 0 := by simpa using hi
          clear hi
          refine opIn_at rfl rfl ?_
          gi_wp2_with (refine ⟨trivial, ?_⟩; gi_at_call 128; refine (CallsIn.inRound l (callsIn_wide.2 (first_any d 60 _ (by decide) (by decide)))).mono ?_; rintro e w' ⟨rfl, rfl⟩)
          refine anyIn_cons (l := [1]) (by kernel_rfl) (by simp) ?_
          intro i hi
          obtain rfl : i = 1 := by simpa using hi
          clear hi
          refine opIn_at rfl rfl ?_
          gi_wp2_with (refine ⟨trivial, ?_⟩; gi_at_call 128; refine (CallsIn.inRound l (callsIn_wide.2 (first_any d 60 _ (by decide) (by decide)))).mono ?_; rintro e w' ⟨rfl, rfl⟩)
          refine anyIn_cons (l := [3]) (by kernel_rfl) (by simp) ?_
          intro i hi
          obtain rfl : i = 3 := by simpa using hi
          clear hi
          refine opIn_at rfl rfl ?_
          gi_wp2_with (refine ⟨trivial, ?_⟩; gi_at_call 128; refine (CallsIn.inRound l (callsIn_wide.2 (first_any d 60 _ (by decide) (by decide)))).mono ?_; rintro e w' ⟨rfl, rfl⟩)
          refine anyIn_cons (l := [4]) (by kernel_rfl) (by simp) ?_
          intro i hi
          obtain rfl : i = 4 := by simpa using hi
          clear hi
          refine opIn_at rfl rfl ?_
          gi_wp2_with (refine ⟨trivial, ?_⟩; gi_at_call 128; refine (CallsIn.inRound l (callsIn_wide.2 (first_any d 60 _ (by decide) (by decide)))).mono ?_; rintro e w' ⟨rfl, rfl⟩)
          refine anyIn_cons (l := [5]) (by kernel_rfl) (by simp) ?_
          intro i hi
          obtain rfl : i = 5 := by simpa using hi
          clear hi
          refine opIn_at rfl rfl ?_
          gi_wp2_with (refine ⟨trivial, ?_⟩; gi_at_call 128; refine (CallsIn.inRound l (callsIn_wide.2 (first_any d 60 _ (by decide) (by decide)))).mono ?_; rintro e w' ⟨rfl, rfl⟩)
          exact anyIn_end (by kernel_rfl) ⟨rfl, rfl, rfl⟩
      · rintro e3 a3 w3 ⟨rfl, rfl, rfl⟩
        have hI1 := ((HI.out.setMi (d.fst 60)).setSe (d.fst 60)).next (Below.refl _ _).drew
        obtain ⟨W1, hW1⟩ : ∃ W1, ((W.setCell ⟨w.heap.size + 1 + 1 + 1, 0, none⟩ (.int .i64 (d.fst 60 : Nat))).setCell ⟨w.heap.size + 1 + 1 + 1 + 1, 0, none⟩ (.int .i64 (d.fst 60 : Nat))).drew = W1 := ⟨_, rfl⟩
        have cX1 : W1.cell? ⟨Bx, 0, none⟩ = some (.int .i64 ((q.val : Nat) : Int)) := by
          rw [← hW1]
          have b1 := (bX.other (B' := w.heap.size + 1 + 1 + 1) (by omega) (.int .i64 (d.fst 60 : Nat))).other (B' := w.heap.size + 1 + 1 + 1 + 1) (by omega) (.int .i64 (d.fst 60 : Nat))
          exact b1.cell
        rw [hW1] at hI1 ⊢
        have cw := hI1.wa.cell
        have c1 := hI1.ex.cell 1
        have ci := hI1.mi.cell
        have cs := hI1.se.cell
        simp only [exL, List.getElem?_cons_zero, List.getElem?_cons_succ] at c1
        have HIB := Lib.hid hI1
        have ks := ((KeepsOthers.setCell W ⟨w.heap.size + 1 + 1 + 1, 0, none⟩ (.int .i64 (d.fst 60 : Nat))).trans (KeepsOthers.setCell _ ⟨w.heap.size + 1 + 1 + 1 + 1, 0, none⟩ (.int .i64 (d.fst 60 : Nat)))).trans (KeepsOthers.drew _)
        rw [hW1] at ks
        have HRB := Lib.hid (ks.same l _ hr rfl)
        have KFB := Lib.hid (ks.from W0.heap.size)
        have KCB := Lib.hid ((((Kc.refl (ownI w.heap.size) W).setCell (w.heap.size + 1 + 1 + 1) (.int .i64 (d.fst 60 : Nat)) (by unfold ownI; omega)).setCell (w.heap.size + 1 + 1 + 1 + 1) (.int .i64 (d.fst 60 : Nat)) (by unfold ownI; omega)).trans (Kc.of_below (Below.refl _ _).drew))
        rw [hW1] at KCB
        have BXB : Hid (Boxed W1 Bx 3 (.int .i64 ((q.val : Nat) : Int))) := Lib.hid (by
          rw [← hW1]
          exact (bX.other (B' := w.heap.size + 1 + 1 + 1) (by omega) (.int .i64 (d.fst 60 : Nat))).other (B' := w.heap.size + 1 + 1 + 1 + 1) (by omega) (.int .i64 (d.fst 60 : Nat)))
        clear hI1 hW1 ks
        gi_wp2_with (refine ⟨trivial, ?_⟩; first
          | (gi_at_call 148; refine (CallsIn.inRound l (callsIn_wide.2 (numbers_any d _ _ _))).mono ?_; rintro e w' ⟨rfl, rfl⟩))
        have HBX := Lib.hid hBx
        have HEI : Hid ((if q.val = hh then i else d.fst 60) = d.fst 60) := Lib.hid (if_neg HQ.out)
        have HESS : Hid ((if q.val = hh then s else d.fst 60) = d.fst 60) := Lib.hid (if_neg HQ.out)
        have hS2 := d.fst_lt (n := 60) (by decide)
        obtain ⟨os2, hos2⟩ : ∃ os : List Obj, os = [.cells #[.int .i64 d.val] 124, .cells #[.int .u64 x.a1] 22, .cells #[.int .i64 (((d.fst 60) : Nat) : Int)] 3] := ⟨_, rfl⟩
        obtain ⟨W2, hW2⟩ : ∃ W2, W2 = allocs W1 os2 := ⟨_, rfl⟩
        have hB2 : Below W1.heap.size W1 W2 := by rw [hW2]; exact allocs_below _ _
        have d0 : Boxed W2 W1.heap.size 124 (.int .i64 d.val) := by rw [hW2]; exact allocs_box (k := 0) (by rw [hos2]; rfl) (by omega)
        have d1 : Boxed W2 (W1.heap.size + 1) 22 (.int .u64 x.a1) := by rw [hW2]; exact allocs_box (k := 1) (by rw [hos2]; rfl) (by omega)
        have d2 : Boxed W2 (W1.heap.size + 1 + 1) 3 (.int .i64 (((d.fst 60) : Nat) : Int)) := by rw [hW2]; exact allocs_box (k := 2) (by rw [hos2]; rfl) (by omega)
        change Code.wpIn _ _ _ _ _ _ (allocs W1 [.cells #[.int .i64 d.val] 124, .cells #[.int .u64 x.a1] 22, .cells #[.int .i64 (((d.fst 60) : Nat) : Int)] 3])
        rw [← hos2, ← hW2]
        have hsB : w.heap.size + 6 < W1.heap.size := by have := HIB.out.ok.lt; omega
        have hs2 : W1.heap.size ≤ W2.heap.size := hB2.size
        clear hos2 hW2
        have HI2 := Lib.hid (HIB.out.next hB2)
        have bX2 := Lib.hid ((hB2.block _ BXB.out.lt).trans BXB.out)
        have KC2 := Lib.hid (KCB.out.trans (Kc.of_below (own := ownI w.heap.size) hB2))
        have KF2 := Lib.hid (KFB.out.trans ((keeps_of_below hB2).from _))
        have hr2 : W2.heap[l]? = some (.loop r) := (hB2.block _ (Array.getElem?_eq_some_iff.1 HRB.out).1).trans HRB.out
        have L2 := Lib.hid (LayM.kc HI2.out.kc (by have := TB.out; unfold ownI; omega) (by have := TC.out; unfold ownI; omega) L0.out)
        obtain ⟨I, hI⟩ : ∃ I, (d.fst 60) = I := ⟨_, rfl⟩
        have HII := Lib.hid hI
        have HIl : Hid (I < 60) := Lib.hid (by rw [← hI]; exact hS2)
        have HI2 : Hid (IS w W0 d x hh I (d.fst 60) W2) := Lib.hid (by rw [← hI]; exact HI2.out)
        rw [hI] at d2
        clear HIB hI
        apply wpIn_rangeFunc_ownN (l₀ := l) (r₀ := r) rfl hr2 h1' (gf := 163) (lb := #[.pointer (some ⟨W1.heap.size, 0, none⟩), .pointer (some ⟨W1.heap.size + 1, 0, none⟩), .pointer (some ⟨W1.heap.size + 1 + 1, 0, none⟩)]) rfl trivial (enters_of Tryz.func163 (by kernel_rfl) rfl)
          ((numbers_stops (ownI w.heap.size) (n - 1 - 1 - 1) (by omega) _ _ _ d x.a1 ((I : Nat) : Int) X1.out (by omega) (by have := HIl.out; omega) (by unfold ownI; omega) (by unfold ownI; omega) (by have := TB.out; unfold ownI; omega) W2 d0 d1 d2 L2.out.b).inRound l) Kc.trans Kc.book (Below.refl _ _) (fun _ => rfl)
          (fun pre2 V => ∃ s2 : Nat, s2 < 60 ∧ (∀ r, d.goM x.a0 I (nats pre2 ++ r) (d.fst 60) = d.goM x.a0 I r s2) ∧ IS w W0 d x hh I s2 V ∧ Boxed V Bx 3 (.int .i64 ((q.val : Nat) : Int)) ∧ Kc (ownI w.heap.size) W V ∧ KeepsFrom W0.heap.size W V)
          (fun c pre2 V => ∃ p : Nat × Nat, c = .exit 0 ∧ (∀ r, d.goM x.a0 I (nats pre2 ++ r) (d.fst 60) = (some p, 0)) ∧ FS w (q.val, p.1, p.2) V ∧ KeepsFrom W0.heap.size W V)
          (fun pre2 A B row ⟨s2, e0, e1, e2, e3, e4, e5⟩ hg hr => ⟨s2, e0, e1, e2.grow (by omega) hg hr, boxed_own Bx 3 (fun (_ : Unit) => Value.int .i64 ((q.val : Nat) : Int)) () A B row e3 hg (fun r e => (hr r e).2), Kc.own () A B row e4 hg (fun r e => (hr r e).2), ownFrom_keepsFrom (β := Unit) (by have := KC2.out.size; omega) () A B row e5 hg hr⟩)
          (fun c pre2 A B row ⟨p, e1, e2, e3, e4⟩ hg hr => ⟨p, e1, e2, e3.grow (by omega) hg hr, ownFrom_keepsFrom (β := Unit) (by have := KC2.out.size; omega) () A B row e4 hg hr⟩)
          ⟨(d.fst 60), hS2, fun _ => rfl, HI2.out, bX2.out, KC2.out, KF2.out⟩
          (fun m a4 V => ∃ By, w.heap.size + 6 < By ∧ Boxed V By 3 (.int .i64 (((m : Fin 64).val : Nat) : Int)) ∧ a4 = { tmps := #[Value.int IntKind.i64 d.val, Value.agg #[Value.int IntKind.u64 ((x.a0 : Nat) : Int), Value.int IntKind.u64 ((x.a1 : Nat) : Int), Value.int IntKind.u64 ((x.a2 : Nat) : Int), Value.int IntKind.u64 ((x.a3 : Nat) : Int), Value.int IntKind.u64 ((x.a4 : Nat) : Int), Value.int IntKind.u64 ((x.a5 : Nat) : Int), Value.bool x.b3, Value.bool x.b5], Value.int IntKind.i64 ((t : Nat) : Int), Value.pointer (some { block := w.heap.size, off := 0 }), Value.pointer (some { block := w.heap.size + 1, off := 0 }), undef, Value.int IntKind.i64 0, Value.bool false, Value.pointer (some { block := w.heap.size + 1 + 1, off := 0 }), Value.pointer (some { block := w.heap.size + 1 + 1 + 1, off := 0 }), Value.pointer (some { block := w.heap.size + 1 + 1 + 1 + 1, off := 0 }), Value.pointer (some { block := w.heap.size + 1 + 1 + 1 + 1 + 1, off := 0 }), Value.pointer (some { block := w.heap.size + 1 + 1 + 1 + 1 + 1 + 1, off := 0 }), Value.pointer (some { block := Bx, off := 0 }), Value.pointer (some { block := By, off := 0 }), undef, Value.tuple #[Value.int IntKind.i64 ((hh : Nat) : Int), Value.int IntKind.i64 ((ii : Nat) : Int), Value.int IntKind.i64 ((ss : Nat) : Int)], Value.int IntKind.i64 ((t : Nat) : Int), Value.tuple #[Value.int IntKind.i64 ((hh : Nat) : Int), Value.int IntKind.i64 ((ii : Nat) : Int), Value.int IntKind.i64 ((ss : Nat) : Int)], Value.int IntKind.i64 ((hh : Nat) : Int), Value.int IntKind.i64 ((ii : Nat) : Int), Value.int IntKind.i64 ((ss : Nat) : Int), Value.int IntKind.i64 d.val, Value.pointer (some { block := w.heap.size + 1, off := 2 }), Value.int IntKind.u64 ((x.a2 : Nat) : Int), Value.int IntKind.i64 ((hh : Nat) : Int), Value.func (Fn.func 163) #[] #[Value.pointer (some { block := w.heap.size + 1 + 1 + 1 + 1 + 1 + 1 + 1, off := 0 }), Value.pointer (some { block := w.heap.size + 1 + 1 + 1 + 1 + 1 + 1 + 1 + 1, off := 0 }), Value.pointer (some { block := w.heap.size + 1 + 1 + 1 + 1 + 1 + 1 + 1 + 1 + 1, off := 0 })], Value.int IntKind.i64 ((q.val : Nat) : Int), Value.int IntKind.i64 ((q.val : Nat) : Int), Value.int IntKind.i64 ((hh : Nat) : Int), Value.bool true, Value.int IntKind.i64 d.val, Value.int IntKind.i64 ↑(d.fst 60), Value.int IntKind.i64 d.val, Value.int IntKind.i64 ↑(d.fst 60), Value.int IntKind.i64 d.val, Value.pointer (some { block := w.heap.size + 1, off := 1 }), Value.int IntKind.u64 ((x.a1 : Nat) : Int), Value.int IntKind.i64 ↑(d.fst 60), Value.func (Fn.func 163) #[] #[Value.pointer (some { block := W1.heap.size, off := 0 }), Value.pointer (some { block := W1.heap.size + 1, off := 0 }), Value.pointer (some { block := W1.heap.size + 1 + 1, off := 0 })], Value.int IntKind.i64 ((m.val : Nat) : Int), undef, undef, undef, undef, undef, undef, undef, undef, undef, undef, undef, undef, undef, undef, undef, undef, undef, undef, undef, undef], defers := [] })
          (fun m a4 _ X Y row hs hg hr => by obtain ⟨By, e1, e2, e3⟩ := hs; exact ⟨By, e1, boxed_own By 3 (fun (_ : Unit) => Value.int .i64 ((m.val : Nat) : Int)) () X Y row e2 hg (fun r e => (hr r e).2), e3⟩)
          ?assign2 ?body2 ?done2 ?stop2
        case assign2 =>
          rintro l2 pre2 m V K ⟨s2, e0, e1, e2, e3, e4, e5⟩ hK
          gi_wp2
          have hsV := e2.ok.lt
          refine hK _ _ ((KeepsOthers.alloc _ _).from _) ((Kc.refl _ V).alloc _) ⟨s2, e0, e1, e2.next ((Below.refl _ _).alloc (Nat.le_refl _) _), e3.alloc _, e4.alloc _, e5.trans ((KeepsOthers.alloc _ _).from _)⟩ ⟨V.heap.size, by omega, Boxed.new V 3 _, ?_⟩
          rfl
        case body2 =>
          rintro l2 pre2 m a4 W' hl2 ⟨r2, hr2'⟩ ⟨s2, e0, e1, e2, e3, e4, e5⟩ ⟨By, hBy, bY, rfl⟩ hlt2
          have h1'' : 1 ≤ n - 1 - 1 - 1 - 1 := by omega
          have HGM := Lib.hid e1
          have HS2 := Lib.hid e0
          have HW' := Lib.hid e2
          have BX' := Lib.hid e3
          have KC' := Lib.hid e4
          have KF' := Lib.hid e5
          have HR2 := Lib.hid hr2'
          have cY := bY.cell
          have cw := e2.wa.cell
          have c0 := e2.ex.cell 0
          have ci := e2.mi.cell
          have cs := e2.se.cell
          have fs := e2.se.frozen
          simp only [exL, List.getElem?_cons_zero] at c0
          have BY' := Lib.hid bY
          clear e0 e1 e2 e3 e4 e5 hlt2 hr2' bY cX cH c1
          by_cases hm : m.val = I
          · have HES : Hid ((if m.val = I then s2 else d.fst 60) = s2) := Lib.hid (if_pos hm)
            have t1 : (((m.val : Nat) : Int) != (I : Int)) = false := by rw [hm]; simp
            have t2 : (m.val != I) = false := by rw [hm]; simp
            clear hm
            gi_wp2_with (refine ⟨trivial, ?_⟩; (gi_at_call 148; refine (CallsIn.inRound l2 (callsIn_wide.2 (numbers_any d _ _ _))).mono ?_; rintro e w' ⟨rfl, rfl⟩))
            have HIC := HW'; have BXC := BX'; have BYC := BY'; have KCC := KC'; have KFC := KF'; have HRC := HR2
            have KCC' := Lib.hid (Kc.refl (ownI w.heap.size) W')
            have KFC' := Lib.hid (KeepsFrom.refl W2.heap.size W')
            obtain ⟨os3, hos3⟩ : ∃ os : List Obj, os = [.cells #[.int .i64 d.val] 124, .cells #[.int .u64 x.a0] 22, .cells #[.int .i64 ((s2 : Nat) : Int)] 3] := ⟨_, rfl⟩
            obtain ⟨W3, hW3⟩ : ∃ W3, W3 = allocs W' os3 := ⟨_, rfl⟩
            have hB3 : Below W'.heap.size W' W3 := by rw [hW3]; exact allocs_below _ _
            have d0 : Boxed W3 W'.heap.size 124 (.int .i64 d.val) := by rw [hW3]; exact allocs_box (k := 0) (by rw [hos3]; rfl) (by omega)
            have d1 : Boxed W3 (W'.heap.size + 1) 22 (.int .u64 x.a0) := by rw [hW3]; exact allocs_box (k := 1) (by rw [hos3]; rfl) (by omega)
            have d2 : Boxed W3 (W'.heap.size + 1 + 1) 3 (.int .i64 ((s2 : Nat) : Int)) := by rw [hW3]; exact allocs_box (k := 2) (by rw [hos3]; rfl) (by omega)
            change Code.wpIn _ _ _ _ _ _ (allocs W' [.cells #[.int .i64 d.val] 124, .cells #[.int .u64 x.a0] 22, .cells #[.int .i64 ((s2 : Nat) : Int)] 3])
            rw [← hos3, ← hW3]
            have hsC : w.heap.size + 6 < W'.heap.size := by have := HIC.out.ok.lt; omega
            have hs3 : W'.heap.size ≤ W3.heap.size := hB3.size
            clear hos3 hW3
            have HI3 := Lib.hid (HIC.out.next hB3)
            have bX3 := Lib.hid ((hB3.block _ BXC.out.lt).trans BXC.out)
            have bY3 := Lib.hid ((hB3.block _ BYC.out.lt).trans BYC.out)
            have KC3 := Lib.hid (KCC.out.trans (Kc.of_below (own := ownI w.heap.size) hB3))
            have KF3 := Lib.hid (KFC.out.trans ((keeps_of_below hB3).from _))
            have KC3' := Lib.hid (KCC'.out.trans (Kc.of_below (own := ownI w.heap.size) hB3))
            have KF3' := Lib.hid (KFC'.out.trans ((keeps_of_below hB3).from _))
            have hr3 : W3.heap[l2]? = some (.loop r2) := (hB3.block _ (Array.getElem?_eq_some_iff.1 HRC.out).1).trans HRC.out
            have h1'' : 1 ≤ n - 1 - 1 - 1 - 1 := by omega
            have L3 := Lib.hid (LayM.kc HI3.out.kc (by have := TB.out; unfold ownI; omega) (by have := TC.out; unfold ownI; omega) L0.out)
            apply wpIn_rangeFunc_ownN (l₀ := l2) (r₀ := r2) rfl hr3 h1'' (gf := 163) (lb := #[.pointer (some ⟨W'.heap.size, 0, none⟩), .pointer (some ⟨W'.heap.size + 1, 0, none⟩), .pointer (some ⟨W'.heap.size + 1 + 1, 0, none⟩)]) rfl trivial (enters_of Tryz.func163 (by kernel_rfl) rfl)
              ((numbers_stops (ownI w.heap.size) (n - 1 - 1 - 1 - 1 - 1) (by omega) _ _ _ d x.a0 ((s2 : Nat) : Int) X0.out (by omega) (by have := HS2.out; omega) (by unfold ownI; omega) (by unfold ownI; omega) (by have := TB.out; unfold ownI; omega) W3 d0 d1 d2 L3.out.b).inRound l2) Kc.trans Kc.book (Below.refl _ _) (fun _ => rfl)
              (fun pre3 V => (pre3 = [] ∧ IS w W0 d x hh I s2 V) ∧ (Boxed V Bx 3 (.int .i64 ((q.val : Nat) : Int)) ∧ Boxed V By 3 (.int .i64 ((m.val : Nat) : Int))) ∧ ((Kc (ownI w.heap.size) W V ∧ KeepsFrom W0.heap.size W V) ∧ (Kc (ownI w.heap.size) W' V ∧ KeepsFrom W2.heap.size W' V)))
              (fun c pre3 V => ∃ z : Fin 64, (pre3 = [z] ∧ c = .exit 0) ∧ FS w (q.val, m.val, z.val) V ∧ (KeepsFrom W0.heap.size W V ∧ KeepsFrom W2.heap.size W' V))
              (fun pre3 A B row ⟨⟨e1, e2⟩, ⟨e3, e4⟩, ⟨e5, e6⟩, e7, e8⟩ hg hr => ⟨⟨e1, e2.grow (by omega) hg hr⟩, ⟨boxed_own Bx 3 (fun (_ : Unit) => Value.int .i64 ((q.val : Nat) : Int)) () A B row e3 hg (fun r e => (hr r e).2), boxed_own By 3 (fun (_ : Unit) => Value.int .i64 ((m.val : Nat) : Int)) () A B row e4 hg (fun r e => (hr r e).2)⟩,
                ⟨Kc.own () A B row e5 hg (fun r e => (hr r e).2), ownFrom_keepsFrom (β := Unit) (by have := KC3.out.size; omega) () A B row e6 hg hr⟩, Kc.own () A B row e7 hg (fun r e => (hr r e).2), ownFrom_keepsFrom (β := Unit) (by have := KC3'.out.size; omega) () A B row e8 hg hr⟩)
              (fun c pre3 A B row ⟨z, e1, e2, e3, e4⟩ hg hr => ⟨z, e1, e2.grow (by omega) hg hr, ownFrom_keepsFrom (β := Unit) (by have := KC3.out.size; omega) () A B row e3 hg hr, ownFrom_keepsFrom (β := Unit) (by have := KC3'.out.size; omega) () A B row e4 hg hr⟩)
              ⟨⟨rfl, HI3.out⟩, ⟨bX3.out, bY3.out⟩, ⟨KC3.out, KF3.out⟩, KC3'.out, KF3'.out⟩
              (fun z a4 _ => a4 = { tmps := #[Value.int IntKind.i64 d.val, Value.agg #[Value.int IntKind.u64 ((x.a0 : Nat) : Int), Value.int IntKind.u64 ((x.a1 : Nat) : Int), Value.int IntKind.u64 ((x.a2 : Nat) : Int), Value.int IntKind.u64 ((x.a3 : Nat) : Int), Value.int IntKind.u64 ((x.a4 : Nat) : Int), Value.int IntKind.u64 ((x.a5 : Nat) : Int), Value.bool x.b3, Value.bool x.b5], Value.int IntKind.i64 ((t : Nat) : Int), Value.pointer (some { block := w.heap.size, off := 0 }), Value.pointer (some { block := w.heap.size + 1, off := 0 }), undef, Value.int IntKind.i64 0, Value.bool false, Value.pointer (some { block := w.heap.size + 1 + 1, off := 0 }), Value.pointer (some { block := w.heap.size + 1 + 1 + 1, off := 0 }), Value.pointer (some { block := w.heap.size + 1 + 1 + 1 + 1, off := 0 }), Value.pointer (some { block := w.heap.size + 1 + 1 + 1 + 1 + 1, off := 0 }), Value.pointer (some { block := w.heap.size + 1 + 1 + 1 + 1 + 1 + 1, off := 0 }), Value.pointer (some { block := Bx, off := 0 }), Value.pointer (some { block := By, off := 0 }), Value.int IntKind.i64 ((z.val : Nat) : Int), Value.tuple #[Value.int IntKind.i64 ((hh : Nat) : Int), Value.int IntKind.i64 ((ii : Nat) : Int), Value.int IntKind.i64 ((ss : Nat) : Int)], Value.int IntKind.i64 ((t : Nat) : Int), Value.tuple #[Value.int IntKind.i64 ((hh : Nat) : Int), Value.int IntKind.i64 ((ii : Nat) : Int), Value.int IntKind.i64 ((ss : Nat) : Int)], Value.int IntKind.i64 ((hh : Nat) : Int), Value.int IntKind.i64 ((ii : Nat) : Int), Value.int IntKind.i64 ((ss : Nat) : Int), Value.int IntKind.i64 d.val, Value.pointer (some { block := w.heap.size + 1, off := 2 }), Value.int IntKind.u64 ((x.a2 : Nat) : Int), Value.int IntKind.i64 ((hh : Nat) : Int), Value.func (Fn.func 163) #[] #[Value.pointer (some { block := w.heap.size + 1 + 1 + 1 + 1 + 1 + 1 + 1, off := 0 }), Value.pointer (some { block := w.heap.size + 1 + 1 + 1 + 1 + 1 + 1 + 1 + 1, off := 0 }), Value.pointer (some { block := w.heap.size + 1 + 1 + 1 + 1 + 1 + 1 + 1 + 1 + 1, off := 0 })], Value.int IntKind.i64 ((q.val : Nat) : Int), Value.int IntKind.i64 ((q.val : Nat) : Int), Value.int IntKind.i64 ((hh : Nat) : Int), Value.bool true, Value.int IntKind.i64 d.val, Value.int IntKind.i64 ↑(d.fst 60), Value.int IntKind.i64 d.val, Value.int IntKind.i64 ↑(d.fst 60), Value.int IntKind.i64 d.val, Value.pointer (some { block := w.heap.size + 1, off := 1 }), Value.int IntKind.u64 ((x.a1 : Nat) : Int), Value.int IntKind.i64 ↑(d.fst 60), Value.func (Fn.func 163) #[] #[Value.pointer (some { block := W1.heap.size, off := 0 }), Value.pointer (some { block := W1.heap.size + 1, off := 0 }), Value.pointer (some { block := W1.heap.size + 1 + 1, off := 0 })], Value.int IntKind.i64 ((m.val : Nat) : Int), Value.int IntKind.i64 ((m.val : Nat) : Int), Value.int IntKind.i64 ((I : Nat) : Int), Value.bool false, undef, undef, Value.int IntKind.i64 d.val, Value.pointer (some { block := w.heap.size + 1, off := 0 }), Value.int IntKind.u64 ((x.a0 : Nat) : Int), Value.int IntKind.i64 ((s2 : Nat) : Int), Value.func (Fn.func 163) #[] #[Value.pointer (some { block := W'.heap.size, off := 0 }), Value.pointer (some { block := W'.heap.size + 1, off := 0 }), Value.pointer (some { block := W'.heap.size + 1 + 1, off := 0 })], Value.int IntKind.i64 ((z.val : Nat) : Int), undef, undef, undef, undef, undef, undef, undef, undef, undef], defers := [] })
              (fun _ _ _ _ _ _ hs _ _ => hs)
              ?assign3 ?body3 ?done3 ?stop3
            case assign3 =>
              rintro l3 pre3 z V K hi hK
              gi_wp2
              exact hK _ _ (KeepsFrom.refl _ _) (Kc.refl _ _) hi rfl
            case body3 =>
              rintro l3 pre3 z a4 V _ _ ⟨⟨rfl, e2⟩, ⟨e3, e4⟩, ⟨e5, e6⟩, e7, e8⟩ rfl _
              have c1 := e3.cell; have c2 := e4.cell
              have f1 := e2.fo.cell; have f2 := e2.fo.frozen; have f3 := e2.ok.cell; have f4 := e2.ok.frozen
              have hv : Mat.sec3 (q.val, m.val, z.val) = 3600 * (q.val : Int) + 60 * (m.val : Int) + (z.val : Int) := rfl
              have w1 : IntKind.i64.wrap (3600 * (q.val : Int)) = 3600 * (q.val : Int) := by have := q.isLt; rw [IntKind.wrap_i64]; omega
              have w2 : IntKind.i64.wrap (60 * (m.val : Int)) = 60 * (m.val : Int) := by have := m.isLt; rw [IntKind.wrap_i64]; omega
              have w3 : IntKind.i64.wrap (3600 * (q.val : Int) + 60 * (m.val : Int)) = 3600 * (q.val : Int) + 60 * (m.val : Int) := by have := q.isLt; have := m.isLt; rw [IntKind.wrap_i64]; omega
              have w4 : IntKind.i64.wrap (3600 * (q.val : Int) + 60 * (m.val : Int) + (z.val : Int)) = Mat.sec3 (q.val, m.val, z.val) := by have := q.isLt; have := m.isLt; have := z.isLt; rw [hv, IntKind.wrap_i64]; omega
              have E2 := Lib.hid e2; have E6 := Lib.hid e6; have E8 := Lib.hid e8
              clear hv e2 e3 e4 e5 e6 e7 e8
              gi_wp2
              have ks := ((KeepsOthers.setCell V ⟨w.heap.size + 1 + 1 + 1 + 1 + 1, 0, none⟩ (.int .i64 (Mat.sec3 (q.val, m.val, z.val)))).trans (KeepsOthers.setCell _ ⟨w.heap.size + 1 + 1 + 1 + 1 + 1 + 1, 0, none⟩ (.bool true)))
              refine ⟨ks.from _, z, ⟨rfl, rfl⟩, ⟨(E2.out.fo.set _).other (by omega) _, (E2.out.ok.other (by omega) _).set _, (E2.out.be.setCell (p := ⟨w.heap.size + 1 + 1 + 1 + 1 + 1, 0, none⟩) (by dsimp only; omega) _).setCell (p := ⟨w.heap.size + 1 + 1 + 1 + 1 + 1 + 1, 0, none⟩) (by dsimp only; omega) _⟩, E6.out.trans (ks.from _), E8.out.trans (ks.from _)⟩
            case done3 =>
              rintro ys V hys ⟨⟨rfl, e2⟩, ⟨e3, e4⟩, ⟨e5, e6⟩, e7, e8⟩
              have hfs : d.fs x.a0 (if m.val = I then s2 else d.fst 60) = none := by
                rw [HES.out]
                unfold Mat.Dir.fs
                have : d.nums x.a0 ((s2 : Nat) : Int) = [] := hys.symm
                rw [this]; rfl
              have HFS := Lib.hid hfs
              clear hfs hys
              gi_wp2
              refine ⟨e8, e7, ⟨s2, HS2.out, fun r => ?_, e2, e3, e5, e6⟩⟩
              rw [nats_snoc, List.append_assoc, HGM.out, List.singleton_append, Mat.Dir.goM, HFS.out, HES.out]
            case stop3 =>
              rintro c pre3 V hpre ⟨z, ⟨rfl, rfl⟩, e2, e3, e4⟩
              have hfs : d.fs x.a0 (if m.val = I then s2 else d.fst 60) = some z.val := by
                rw [HES.out]
                unfold Mat.Dir.fs
                obtain ⟨t, ht⟩ := hpre
                have : d.nums x.a0 ((s2 : Nat) : Int) = z.val :: t := ht.symm
                rw [this]; rfl
              have HFS := Lib.hid hfs
              clear hfs hpre
              gi_wp2
              refine ⟨e4, (m.val, z.val), rfl, fun r => ?_, e2, e3⟩
              rw [nats_snoc, List.append_assoc, HGM.out, List.singleton_append, Mat.Dir.goM, HFS.out]
          · have HES : Hid ((if m.val = I then s2 else d.fst 60) = d.fst 60) := Lib.hid (if_neg hm)
            have t1 : (((m.val : Nat) : Int) != (I : Int)) = true := by rw [bne_iff_ne]; omega
            have t2 : (m.val != I) = true := by rw [bne_iff_ne]; omega
            clear hm
            obtain ⟨WC, hWC⟩ : ∃ WC, W'.setCell ⟨w.heap.size + 1 + 1 + 1 + 1, 0, none⟩ (.int .i64 (d.fst 60 : Nat)) = WC := ⟨_, rfl⟩
            have HIC := Lib.hid (HW'.out.setSe (d.fst 60)); have BXC := Lib.hid (BX'.out.other (B' := w.heap.size + 1 + 1 + 1 + 1) (by have := HBX.out; omega) (.int .i64 (d.fst 60 : Nat))); have BYC := Lib.hid (BY'.out.other (B' := w.heap.size + 1 + 1 + 1 + 1) (by omega) (.int .i64 (d.fst 60 : Nat)))
            have KCC' := Lib.hid ((Kc.refl (ownI w.heap.size) W').setCell (w.heap.size + 1 + 1 + 1 + 1) (.int .i64 (d.fst 60 : Nat)) (by unfold ownI; omega))
            have KFC' := Lib.hid ((KeepsOthers.setCell W' ⟨w.heap.size + 1 + 1 + 1 + 1, 0, none⟩ (.int .i64 (d.fst 60 : Nat))).from W2.heap.size)
            rw [hWC] at HIC BXC BYC KCC' KFC'
            have KCC := Lib.hid (KC'.out.trans KCC'.out); have KFC := Lib.hid (KF'.out.trans ((KeepsOthers.setCell W' ⟨w.heap.size + 1 + 1 + 1 + 1, 0, none⟩ (.int .i64 (d.fst 60 : Nat))).from W0.heap.size))
            rw [hWC] at KFC
            have HRC : Hid (WC.heap[l2]? = some (.loop r2)) := Lib.hid (by rw [← hWC]; exact (KeepsOthers.setCell W' ⟨w.heap.size + 1 + 1 + 1 + 1, 0, none⟩ (.int .i64 (d.fst 60 : Nat))).same l2 _ HR2.out rfl)
            have HWC := Lib.hid hWC
            have k1 := HIC.out.wa.cell
            have k2 := HIC.out.ex.cell 0
            have k3 := HIC.out.se.cell
            simp only [exL, List.getElem?_cons_zero] at k2
            gi_wp2_with (refine ⟨trivial, ?_⟩; first | (gi_at_call 128; refine (CallsIn.inRound l2 (callsIn_wide.2 (first_any d 60 _ (by decide) (by decide)))).mono ?_; rintro e w' ⟨rfl, rfl⟩) | (gi_at_call 148; refine (CallsIn.inRound l2 (callsIn_wide.2 (numbers_any d _ _ _))).mono ?_; rintro e w' ⟨rfl, rfl⟩))
            have hS3 := d.fst_lt (n := 60) (by decide)
            obtain ⟨os3, hos3⟩ : ∃ os : List Obj, os = [.cells #[.int .i64 d.val] 124, .cells #[.int .u64 x.a0] 22, .cells #[.int .i64 (((d.fst 60) : Nat) : Int)] 3] := ⟨_, rfl⟩
            obtain ⟨W3, hW3⟩ : ∃ W3, W3 = allocs WC os3 := ⟨_, rfl⟩
            have hB3 : Below WC.heap.size WC W3 := by rw [hW3]; exact allocs_below _ _
            have d0 : Boxed W3 WC.heap.size 124 (.int .i64 d.val) := by rw [hW3]; exact allocs_box (k := 0) (by rw [hos3]; rfl) (by omega)
            have d1 : Boxed W3 (WC.heap.size + 1) 22 (.int .u64 x.a0) := by rw [hW3]; exact allocs_box (k := 1) (by rw [hos3]; rfl) (by omega)
            have d2 : Boxed W3 (WC.heap.size + 1 + 1) 3 (.int .i64 (((d.fst 60) : Nat) : Int)) := by rw [hW3]; exact allocs_box (k := 2) (by rw [hos3]; rfl) (by omega)
            change Code.wpIn _ _ _ _ _ _ (allocs WC [.cells #[.int .i64 d.val] 124, .cells #[.int .u64 x.a0] 22, .cells #[.int .i64 (((d.fst 60) : Nat) : Int)] 3])
            rw [← hos3, ← hW3]
            have hsC : w.heap.size + 6 < WC.heap.size := by have := HIC.out.ok.lt; omega
            have hs3 : WC.heap.size ≤ W3.heap.size := hB3.size
            clear hos3 hW3
            have HI3 := Lib.hid (HIC.out.next hB3)
            have bX3 := Lib.hid ((hB3.block _ BXC.out.lt).trans BXC.out)
            have bY3 := Lib.hid ((hB3.block _ BYC.out.lt).trans BYC.out)
            have KC3 := Lib.hid (KCC.out.trans (Kc.of_below (own := ownI w.heap.size) hB3))
            have KF3 := Lib.hid (KFC.out.trans ((keeps_of_below hB3).from _))
            have KC3' := Lib.hid (KCC'.out.trans (Kc.of_below (own := ownI w.heap.size) hB3))
            have KF3' := Lib.hid (KFC'.out.trans ((keeps_of_below hB3).from _))
            have hr3 : W3.heap[l2]? = some (.loop r2) := (hB3.block _ (Array.getElem?_eq_some_iff.1 HRC.out).1).trans HRC.out
            have h1'' : 1 ≤ n - 1 - 1 - 1 - 1 := by omega
            have L3 := Lib.hid (LayM.kc HI3.out.kc (by have := TB.out; unfold ownI; omega) (by have := TC.out; unfold ownI; omega) L0.out)
            apply wpIn_rangeFunc_ownN (l₀ := l2) (r₀ := r2) rfl hr3 h1'' (gf := 163) (lb := #[.pointer (some ⟨WC.heap.size, 0, none⟩), .pointer (some ⟨WC.heap.size + 1, 0, none⟩), .pointer (some ⟨WC.heap.size + 1 + 1, 0, none⟩)]) rfl trivial (enters_of Tryz.func163 (by kernel_rfl) rfl)
              ((numbers_stops (ownI w.heap.size) (n - 1 - 1 - 1 - 1 - 1) (by omega) _ _ _ d x.a0 (((d.fst 60) : Nat) : Int) X0.out (by omega) (by have := hS3; omega) (by unfold ownI; omega) (by unfold ownI; omega) (by have := TB.out; unfold ownI; omega) W3 d0 d1 d2 L3.out.b).inRound l2) Kc.trans Kc.book (Below.refl _ _) (fun _ => rfl)
              (fun pre3 V => (pre3 = [] ∧ IS w W0 d x hh I (d.fst 60) V) ∧ (Boxed V Bx 3 (.int .i64 ((q.val : Nat) : Int)) ∧ Boxed V By 3 (.int .i64 ((m.val : Nat) : Int))) ∧ ((Kc (ownI w.heap.size) W V ∧ KeepsFrom W0.heap.size W V) ∧ (Kc (ownI w.heap.size) W' V ∧ KeepsFrom W2.heap.size W' V)))
              (fun c pre3 V => ∃ z : Fin 64, (pre3 = [z] ∧ c = .exit 0) ∧ FS w (q.val, m.val, z.val) V ∧ (KeepsFrom W0.heap.size W V ∧ KeepsFrom W2.heap.size W' V))
              (fun pre3 A B row ⟨⟨e1, e2⟩, ⟨e3, e4⟩, ⟨e5, e6⟩, e7, e8⟩ hg hr => ⟨⟨e1, e2.grow (by omega) hg hr⟩, ⟨boxed_own Bx 3 (fun (_ : Unit) => Value.int .i64 ((q.val : Nat) : Int)) () A B row e3 hg (fun r e => (hr r e).2), boxed_own By 3 (fun (_ : Unit) => Value.int .i64 ((m.val : Nat) : Int)) () A B row e4 hg (fun r e => (hr r e).2)⟩,
                ⟨Kc.own () A B row e5 hg (fun r e => (hr r e).2), ownFrom_keepsFrom (β := Unit) (by have := KC3.out.size; omega) () A B row e6 hg hr⟩, Kc.own () A B row e7 hg (fun r e => (hr r e).2), ownFrom_keepsFrom (β := Unit) (by have := KC3'.out.size; omega) () A B row e8 hg hr⟩)
              (fun c pre3 A B row ⟨z, e1, e2, e3, e4⟩ hg hr => ⟨z, e1, e2.grow (by omega) hg hr, ownFrom_keepsFrom (β := Unit) (by have := KC3.out.size; omega) () A B row e3 hg hr, ownFrom_keepsFrom (β := Unit) (by have := KC3'.out.size; omega) () A B row e4 hg hr⟩)
              ⟨⟨rfl, HI3.out⟩, ⟨bX3.out, bY3.out⟩, ⟨KC3.out, KF3.out⟩, KC3'.out, KF3'.out⟩
              (fun z a4 _ => a4 = { tmps := #[Value.int IntKind.i64 d.val, Value.agg #[Value.int IntKind.u64 ((x.a0 : Nat) : Int), Value.int IntKind.u64 ((x.a1 : Nat) : Int), Value.int IntKind.u64 ((x.a2 : Nat) : Int), Value.int IntKind.u64 ((x.a3 : Nat) : Int), Value.int IntKind.u64 ((x.a4 : Nat) : Int), Value.int IntKind.u64 ((x.a5 : Nat) : Int), Value.bool x.b3, Value.bool x.b5], Value.int IntKind.i64 ((t : Nat) : Int), Value.pointer (some { block := w.heap.size, off := 0 }), Value.pointer (some { block := w.heap.size + 1, off := 0 }), undef, Value.int IntKind.i64 0, Value.bool false, Value.pointer (some { block := w.heap.size + 1 + 1, off := 0 }), Value.pointer (some { block := w.heap.size + 1 + 1 + 1, off := 0 }), Value.pointer (some { block := w.heap.size + 1 + 1 + 1 + 1, off := 0 }), Value.pointer (some { block := w.heap.size + 1 + 1 + 1 + 1 + 1, off := 0 }), Value.pointer (some { block := w.heap.size + 1 + 1 + 1 + 1 + 1 + 1, off := 0 }), Value.pointer (some { block := Bx, off := 0 }), Value.pointer (some { block := By, off := 0 }), Value.int IntKind.i64 ((z.val : Nat) : Int), Value.tuple #[Value.int IntKind.i64 ((hh : Nat) : Int), Value.int IntKind.i64 ((ii : Nat) : Int), Value.int IntKind.i64 ((ss : Nat) : Int)], Value.int IntKind.i64 ((t : Nat) : Int), Value.tuple #[Value.int IntKind.i64 ((hh : Nat) : Int), Value.int IntKind.i64 ((ii : Nat) : Int), Value.int IntKind.i64 ((ss : Nat) : Int)], Value.int IntKind.i64 ((hh : Nat) : Int), Value.int IntKind.i64 ((ii : Nat) : Int), Value.int IntKind.i64 ((ss : Nat) : Int), Value.int IntKind.i64 d.val, Value.pointer (some { block := w.heap.size + 1, off := 2 }), Value.int IntKind.u64 ((x.a2 : Nat) : Int), Value.int IntKind.i64 ((hh : Nat) : Int), Value.func (Fn.func 163) #[] #[Value.pointer (some { block := w.heap.size + 1 + 1 + 1 + 1 + 1 + 1 + 1, off := 0 }), Value.pointer (some { block := w.heap.size + 1 + 1 + 1 + 1 + 1 + 1 + 1 + 1, off := 0 }), Value.pointer (some { block := w.heap.size + 1 + 1 + 1 + 1 + 1 + 1 + 1 + 1 + 1, off := 0 })], Value.int IntKind.i64 ((q.val : Nat) : Int), Value.int IntKind.i64 ((q.val : Nat) : Int), Value.int IntKind.i64 ((hh : Nat) : Int), Value.bool true, Value.int IntKind.i64 d.val, Value.int IntKind.i64 ↑(d.fst 60), Value.int IntKind.i64 d.val, Value.int IntKind.i64 ↑(d.fst 60), Value.int IntKind.i64 d.val, Value.pointer (some { block := w.heap.size + 1, off := 1 }), Value.int IntKind.u64 ((x.a1 : Nat) : Int), Value.int IntKind.i64 ↑(d.fst 60), Value.func (Fn.func 163) #[] #[Value.pointer (some { block := W1.heap.size, off := 0 }), Value.pointer (some { block := W1.heap.size + 1, off := 0 }), Value.pointer (some { block := W1.heap.size + 1 + 1, off := 0 })], Value.int IntKind.i64 ((m.val : Nat) : Int), Value.int IntKind.i64 ((m.val : Nat) : Int), Value.int IntKind.i64 ((I : Nat) : Int), Value.bool true, Value.int IntKind.i64 d.val, Value.int IntKind.i64 ↑(d.fst 60), Value.int IntKind.i64 d.val, Value.pointer (some { block := w.heap.size + 1, off := 0 }), Value.int IntKind.u64 ((x.a0 : Nat) : Int), Value.int IntKind.i64 ↑(d.fst 60), Value.func (Fn.func 163) #[] #[Value.pointer (some { block := WC.heap.size, off := 0 }), Value.pointer (some { block := WC.heap.size + 1, off := 0 }), Value.pointer (some { block := WC.heap.size + 1 + 1, off := 0 })], Value.int IntKind.i64 ((z.val : Nat) : Int), undef, undef, undef, undef, undef, undef, undef, undef, undef], defers := [] })
              (fun _ _ _ _ _ _ hs _ _ => hs)
              ?assign3 ?body3 ?done3 ?stop3
            case assign3 =>
              rintro l3 pre3 z V K hi hK
              gi_wp2
              exact hK _ _ (KeepsFrom.refl _ _) (Kc.refl _ _) hi rfl
            case body3 =>
              rintro l3 pre3 z a4 V _ _ ⟨⟨rfl, e2⟩, ⟨e3, e4⟩, ⟨e5, e6⟩, e7, e8⟩ rfl _
              have c1 := e3.cell; have c2 := e4.cell
              have f1 := e2.fo.cell; have f2 := e2.fo.frozen; have f3 := e2.ok.cell; have f4 := e2.ok.frozen
              have hv : Mat.sec3 (q.val, m.val, z.val) = 3600 * (q.val : Int) + 60 * (m.val : Int) + (z.val : Int) := rfl
              have w1 : IntKind.i64.wrap (3600 * (q.val : Int)) = 3600 * (q.val : Int) := by have := q.isLt; rw [IntKind.wrap_i64]; omega
              have w2 : IntKind.i64.wrap (60 * (m.val : Int)) = 60 * (m.val : Int) := by have := m.isLt; rw [IntKind.wrap_i64]; omega
              have w3 : IntKind.i64.wrap (3600 * (q.val : Int) + 60 * (m.val : Int)) = 3600 * (q.val : Int) + 60 * (m.val : Int) := by have := q.isLt; have := m.isLt; rw [IntKind.wrap_i64]; omega
              have w4 : IntKind.i64.wrap (3600 * (q.val : Int) + 60 * (m.val : Int) + (z.val : Int)) = Mat.sec3 (q.val, m.val, z.val) := by have := q.isLt; have := m.isLt; have := z.isLt; rw [hv, IntKind.wrap_i64]; omega
              have E2 := Lib.hid e2; have E6 := Lib.hid e6; have E8 := Lib.hid e8
              clear hv e2 e3 e4 e5 e6 e7 e8
              gi_wp2
              have ks := ((KeepsOthers.setCell V ⟨w.heap.size + 1 + 1 + 1 + 1 + 1, 0, none⟩ (.int .i64 (Mat.sec3 (q.val, m.val, z.val)))).trans (KeepsOthers.setCell _ ⟨w.heap.size + 1 + 1 + 1 + 1 + 1 + 1, 0, none⟩ (.bool true)))
              refine ⟨ks.from _, z, ⟨rfl, rfl⟩, ⟨(E2.out.fo.set _).other (by omega) _, (E2.out.ok.other (by omega) _).set _, (E2.out.be.setCell (p := ⟨w.heap.size + 1 + 1 + 1 + 1 + 1, 0, none⟩) (by dsimp only; omega) _).setCell (p := ⟨w.heap.size + 1 + 1 + 1 + 1 + 1 + 1, 0, none⟩) (by dsimp only; omega) _⟩, E6.out.trans (ks.from _), E8.out.trans (ks.from _)⟩
            case done3 =>
              rintro ys V hys ⟨⟨rfl, e2⟩, ⟨e3, e4⟩, ⟨e5, e6⟩, e7, e8⟩
              have hfs : d.fs x.a0 (if m.val = I then s2 else d.fst 60) = none := by
                rw [HES.out]
                unfold Mat.Dir.fs
                have : d.nums x.a0 (((d.fst 60) : Nat) : Int) = [] := hys.symm
                rw [this]; rfl
              have HFS := Lib.hid hfs
              clear hfs hys
              gi_wp2
              refine ⟨e8, e7, ⟨(d.fst 60), hS3, fun r => ?_, e2, e3, e5, e6⟩⟩
              rw [nats_snoc, List.append_assoc, HGM.out, List.singleton_append, Mat.Dir.goM, HFS.out, HES.out]
            case stop3 =>
              rintro c pre3 V hpre ⟨z, ⟨rfl, rfl⟩, e2, e3, e4⟩
              have hfs : d.fs x.a0 (if m.val = I then s2 else d.fst 60) = some z.val := by
                rw [HES.out]
                unfold Mat.Dir.fs
                obtain ⟨t, ht⟩ := hpre
                have : d.nums x.a0 (((d.fst 60) : Nat) : Int) = z.val :: t := ht.symm
                rw [this]; rfl
              have HFS := Lib.hid hfs
              clear hfs hpre
              gi_wp2
              refine ⟨e4, (m.val, z.val), rfl, fun r => ?_, e2, e3⟩
              rw [nats_snoc, List.append_assoc, HGM.out, List.singleton_append, Mat.Dir.goM, HFS.out]
        case done2 =>
          rintro ys V hys ⟨s2, e0, e1, e2, e3, e4, e5⟩
          have hgm : d.goM x.a0 I (d.nums x.a1 I) (d.fst 60) = (none, s2) := by
            have := e1 []
            rw [List.append_nil, show nats ys = d.nums x.a1 I from hys] at this
            exact this
          gi_wp2
          refine ⟨e5, e4, ⟨(d.fst 60), s2, ⟨hS2, e0⟩, fun r => ?_, by rw [HII.out]; exact e2⟩⟩
          rw [← HII.out] at hgm
          rw [nats_snoc, List.append_assoc, HG.out, List.singleton_append, Mat.Dir.goH, HEI.out, HESS.out, hgm]
        case stop2 =>
          rintro c pre2 V hpre ⟨p, rfl, e1, e2, e3⟩
          have hgm : d.goM x.a0 I (d.nums x.a1 I) (d.fst 60) = (some p, 0) := by
            obtain ⟨t, ht⟩ := hpre
            have := e1 t
            rw [show nats pre2 ++ t = d.nums x.a1 I from ht] at this
            exact this
          gi_wp2
          refine ⟨e3, (q.val, p.1, p.2), rfl, fun r => ?_, e2⟩
          rw [← HII.out] at hgm
          rw [nats_snoc, List.append_assoc, HG.out, List.singleton_append, Mat.Dir.goH, HEI.out, HESS.out, hgm]
  case done =>
    rintro D ys W hD hys ⟨i, s, e1, e2, e3⟩ hK
    have hg : d.fh x.a0 x.a1 x.a2 hh ii ss = none := by
      rw [← Mat.goH_is]
      have := e2 []
      rw [List.append_nil, show nats ys = d.nums x.a2 hh from hys] at this
      exact this
    have HGG := Lib.hid hg
    have BE := Lib.hid e3.be
    have f1 := e3.fo.cell
    have f2 := e3.ok.cell
    clear hg e2 e3 hys
    gi_wp2
    refine wpIn_region_quiet_lit rfl (by kernel_rfl) (by kernel_rfl) ?_
    iterate 4 (gi_big_quiet_step (fail))
    refine wpQuietIn_nil ?_
    intro _ hw'
    obtain ⟨nq, rfl⟩ := hw'
    gi_wp2
    have hK' : (W.drewN nq).heap[D]? = some (.deferred (some [])) := hK
    refine ⟨by simp, .inl ⟨_, _, rfl, run_takeDeferred hK', ?_⟩⟩
    exact ⟨_, results_tmp2 rfl _ _ _, by rw [HGG.out]; rfl, (below_drewN' BE.out nq).trans (belowK_b (w := w) (Nat.le_refl _) (W.drewN nq) D _ _ (by omega) hK' rfl rfl)⟩
  case stop =>
    rintro D c pre W hD hpre ⟨p, rfl, e2, e3⟩ hK
    have hg : d.fh x.a0 x.a1 x.a2 hh ii ss = some p := by
      rw [← Mat.goH_is]
      obtain ⟨t, ht⟩ := hpre
      have := e2 t
      rw [show nats pre ++ t = d.nums x.a2 hh from ht] at this
      exact this
    have HGG := Lib.hid hg
    have BE := Lib.hid e3.be
    have f1 := e3.fo.cell
    have f2 := e3.ok.cell
    clear hg e2 e3 hpre
    gi_wp2
    refine wpIn_region_quiet_lit rfl (by kernel_rfl) (by kernel_rfl) ?_
    iterate 4 (gi_big_quiet_step (fail))
    refine wpQuietIn_nil ?_
    intro _ hw'
    obtain ⟨nq, rfl⟩ := hw'
    gi_wp2
    have hK' : (W.drewN nq).heap[D]? = some (.deferred (some [])) := hK
    refine ⟨by simp, .inl ⟨_, _, rfl, run_takeDeferred hK', ?_⟩⟩
    exact ⟨_, results_tmp2 rfl _ _ _, by rw [HGG.out]; rfl, (below_drewN' BE.out nq).trans (belowK_b (w := w) (Nat.le_refl _) (W.drewN nq) D _ _ (by omega) hK' rfl rfl)⟩
end Go.Proofs.YtljackjcgfaanaaGreatDoor
