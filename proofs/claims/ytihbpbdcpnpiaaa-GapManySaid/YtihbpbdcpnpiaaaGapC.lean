/- Slices of times of the call's own; the checks of one list and of two; Gaps of package gap and of the document's. -/
import Derived.Test.YtihbpbdcpnpiaaaGapB
import Derived.Deep.RegionLaw
import Derived.WalkSmall
namespace Go.Proofs.Ytihbpbdcpnpiaaa
open Go.ChangeShapes Go.RowKit

theorem add_flat (b off i : Nat) : (Addr.add ⟨b, off, none⟩ i) = ⟨b, off + i, none⟩ := by
  unfold Addr.add; split <;> simp_all
theorem ownsRow_base {W : World} {base base' : Nat} {e : TypeId} {size : Nat} {v : Value} {k : Nat} {xs : List Value} (h : W.ownsRow base e size v k xs) (hb : base' ≤ base) : W.ownsRow base' e size v k xs := by
  refine ⟨h.1, ?_⟩
  rcases h.2 with hn | ⟨g, cap, cur, hv, hbg, rest⟩
  · exact .inl hn
  · exact .inr ⟨g, cap, cur, hv, Nat.le_trans hb hbg, rest⟩
theorem infoT : (Try.prog.info? 2).map (fun i => (i.zero, i.size, i.bytes)) = some (some (.int .i64 0), 1, 8) := by kernel_rfl
/-- a list of times of the call's own, and what lay before the call is as it was -/
structure OwnT (w : World) (v : Value) (l : List Int) (wr : World) : Prop where
  row : wr.ownsRow w.heap.size 2 1 v l.length (l.map (.int .i64 ·))
  below : Below w.heap.size w wr
theorem OwnT.nil {w wr : World} (h : Below w.heap.size w wr) : OwnT w (.slice none 0 0) [] wr := ⟨World.ownsRow_nil _ _ _ _, h⟩
theorem OwnT.drew {w wr : World} {v : Value} {l : List Int} (h : OwnT w v l wr) : OwnT w v l wr.drew := ⟨h.row, h.below.drew⟩
theorem OwnT.step {w wr w1 : World} {v v' : Value} {l : List Int} {o : Obj} {x : Int} (h : OwnT w v l wr)
    (hown : w1.ownsRow w.heap.size 2 1 v' (l.length + 1) (l.map (.int .i64 ·) ++ [.int .i64 x])) (hg : (wr.alloc o).grownBy w1 v.ownBlock) : OwnT w v' (l ++ [x]) w1 := by
  have hs := h.below.size
  refine ⟨by rw [List.map_append]; simpa using hown, (h.below.alloc hs o).grown hg (by simp; omega) (fun k hk => (h.row.lt k hk).1)⟩
theorem OwnT.next {w wr w1 : World} {v : Value} {l : List Int} (h : OwnT w v l wr) (hb : Below wr.heap.size wr w1) : OwnT w v l w1 := by
  refine ⟨h.row.kept ⟨hb.os, hb.tape, hb.output, hb.size, fun k hk _ => hb.block k hk⟩ (row := none) ?_, h.below.trans (hb.mono h.below.size)⟩
  rcases h.row.2 with ⟨rfl, _⟩ | ⟨g, cap, cur, rfl, _⟩
  · exact .inl rfl
  · exact .inr (by simp [Value.ownBlock])
theorem OwnT.len {w wr : World} {v : Value} {l : List Int} (h : OwnT w v l wr) : ∃ a cap, v = .slice a l.length cap := by
  rcases h.row.2 with ⟨rfl, h0⟩ | ⟨g, cap, cur, rfl, _⟩
  · rw [h0]; exact ⟨_, _, rfl⟩
  · exact ⟨_, _, rfl⟩
theorem OwnT.base {w V wr : World} {v : Value} {l : List Int} (h : OwnT V v l wr) (hb : Below w.heap.size w V) : OwnT w v l wr := ⟨ownsRow_base h.row hb.size, hb.trans (h.below.mono hb.size)⟩
theorem OwnT.rowT {w W : World} {v : Value} {l : List Int} (h : OwnT w v l W) (hl : l.length ≤ 1000000) : RowT W v l := by
  refine ⟨hl, ?_⟩
  rcases h.row.2 with ⟨rfl, h0⟩ | ⟨g, cap, cur, rfl, _, hg, _, _, _, ht⟩
  · have : l = [] := List.length_eq_zero_iff.1 h0
    subst this
    exact ⟨_, _, rfl, fun j h => by simp at h⟩
  · refine ⟨_, _, rfl, fun j hlt => ⟨g, 0, rfl, ?_⟩⟩
    have e : (cur.toList.take (l.length * 1))[j]? = some (.int .i64 (l.getD j 0)) := by rw [ht, List.getElem?_map]; simp [hlt]
    rw [Nat.mul_one, List.getElem?_take_of_lt hlt] at e
    simp only [World.cell?, hg]
    simpa using e
def lenV : Value → Nat
  | .slice _ n _ => n
  | _ => 0
theorem RowT.alloc {w : World} {v : Value} {l : List Int} (h : RowT w v l) (o : Obj) : RowT (w.alloc o) v l := h.below ((Below.refl _ w).alloc (Nat.le_refl _) o)
theorem below_of_drew {w w' : World} (h : ∃ m, w' = w.drewN m) : Below w.heap.size w w' := by
  obtain ⟨m, rfl⟩ := h
  exact below_drewN (Below.refl _ _) m
theorem RowsT.one {W : World} {g : Nat} {v : Value} {l : List Int} (hc : W.cell? ⟨g, 0, none⟩ = some v) (h : RowT W v l) : RowsT W g [l] := by
  intro k hk
  obtain rfl : k = 0 := by simpa using hk
  exact ⟨v, hc, h⟩
theorem RowsT.two {W : World} {g : Nat} {v u : Value} {l m : List Int} (hc : W.cell? ⟨g, 0, none⟩ = some v) (hd : W.cell? ⟨g, 1, none⟩ = some u) (h : RowT W v l) (h' : RowT W u m) : RowsT W g [l, m] := by
  intro k hk
  have : k = 0 ∨ k = 1 := by simp at hk; omega
  rcases this with rfl | rfl
  · exact ⟨v, hc, h⟩
  · exact ⟨u, hd, h'⟩
theorem check_one (g : Nat) (v : Value) (l : List Int) (r : Int) (hr : Gp.errL [l] = r) (W : World) (hc : W.cell? ⟨g, 0, none⟩ = some v) (h : RowT W v l) :
    Calls Try.prog 42 #[.slice (some ⟨g, 0, none⟩) 1 1] W fun e w' => e = .returned (.int .i64 r) ∧ Below W.heap.size W w' :=
  (check_any g 1 [l] (by simp) W (.one hc h)).mono fun _ _ ⟨h1, h2⟩ => ⟨by rw [h1, hr], below_of_drew h2⟩
theorem rcheck_one (g : Nat) (v : Value) (l : List Int) (r : Int) (hr : Gp.errL [l] = r) (W : World) (hc : W.cell? ⟨g, 0, none⟩ = some v) (h : RowT W v l) :
    Calls Try.prog 43 #[.slice (some ⟨g, 0, none⟩) 1 1] W fun e w' => e = .returned (.int .i64 r) ∧ Below W.heap.size W w' :=
  (rcheck_any g 1 [l] (by simp) W (.one hc h)).mono fun _ _ ⟨h1, h2⟩ => ⟨by rw [h1, hr], below_of_drew h2⟩
theorem check_two (g : Nat) (v u : Value) (l m : List Int) (r : Int) (hr : Gp.errL [l, m] = r) (W : World) (hc : W.cell? ⟨g, 0, none⟩ = some v) (hd : W.cell? ⟨g, 1, none⟩ = some u) (h : RowT W v l) (h' : RowT W u m) :
    Calls Try.prog 42 #[.slice (some ⟨g, 0, none⟩) 2 2] W fun e w' => e = .returned (.int .i64 r) ∧ Below W.heap.size W w' :=
  (check_any g 2 [l, m] (by simp) W (.two hc hd h h')).mono fun _ _ ⟨h1, h2⟩ => ⟨by rw [h1, hr], below_of_drew h2⟩
theorem rcheck_two (g : Nat) (v u : Value) (l m : List Int) (r : Int) (hr : Gp.errL [l, m] = r) (W : World) (hc : W.cell? ⟨g, 0, none⟩ = some v) (hd : W.cell? ⟨g, 1, none⟩ = some u) (h : RowT W v l) (h' : RowT W u m) :
    Calls Try.prog 43 #[.slice (some ⟨g, 0, none⟩) 2 2] W fun e w' => e = .returned (.int .i64 r) ∧ Below W.heap.size W w' :=
  (rcheck_any g 2 [l, m] (by simp) W (.two hc hd h h')).mono fun _ _ ⟨h1, h2⟩ => ⟨by rw [h1, hr], below_of_drew h2⟩

open Classical in
/-- the error of a list and the length of a window -/
noncomputable def errW (l : List Int) (w : Int) : Int := if Gp.errL [l] = 0 then (if 1 ≤ w ∧ w ≤ 68719476736 then 0 else 2) else Gp.errL [l]
/-- the gaps, or none -/
noncomputable def gapsO (l : List Int) : List Int := if Gp.errL [l] = 0 then Gp.gapsL l else []

/-- append to a slice of the call's own, as one step of a region that draws -/
theorem step_append_own {P : Program} {ops : Array Oper} {o : Oper} {a : Act} {w : World} {K : Act → World → Prop} {Q : Exit → Act → World → Prop} {E : Prop}
    (hgd : o.guard = none) (s x : Operand) (t : TypeId) (ho : o.op = .call { callee := .builtin .append, args := #[s, x], argTypes := #[t, t] })
    (base : Nat) (e : TypeId) (i : TypeInfo) (z : Value) (size bytes : Nat) (ht : P.underlying t = some (.slice e)) (hi : P.info? e = some i) (hz : i.zero = some z)
    (hsize : i.size = size) (hby : i.bytes = bytes) (hzs : z.cells.size = size) (hsz : 0 < size)
    (v : Value) (n : Nat) (xs : List Value) (hs : a.eval s = v) (hown : w.ownsRow base e size v n xs)
    (ad : Addr) (m c : Nat) (news : List Value) (hx : a.eval x = .slice (some ad) m c) (hl : news.length = m * size) (hnews : ∀ j u, news[j]? = some u → w.cell? (ad.add j) = some u) (h1 : ∀ u ∈ news, u.oneCell' = true)
    (h63 : n + m ≤ maxLen) (hbytes : (n + m) * bytes ≤ 140737488355328) (hbase : base ≤ w.heap.size)
    (h : ∀ v' w', w'.ownsRow base e size v' (n + m) (xs ++ news) → w.grownBy w' v.ownBlock → K (a.put o.dst v') w') :
    if Region.wanted o (yielded ops a.tmps) = true then Oper.wp P o a w K Q else E := by
  have hw : Region.wanted o (yielded ops a.tmps) = true := by simp [Region.wanted, hgd]
  rw [if_pos hw]
  obtain ⟨v', w', hr, h2, h3, h4, h5⟩ := run_append_own_at (P := P) w base t o.type e i z size bytes ht hi hz hsize hby hzs hsz v n xs hown ad m c news hl hnews h1 h63 hbytes hbase
  unfold Oper.wp execOp
  simp only [ho, resolve, invoke, builtin, Sem.run_bind, Sem.run_pure, Result.andThen_ok, List.map_toArray, List.map_cons, List.map_nil, hs, hx, hr]
  exact h _ _ h2 h3

set_option maxRecDepth 100000 in
set_option maxHeartbeats 4000000 in
theorem gaps_any (v : Value) (l : List Int) (w : World) (h : RowT w v l) :
    Calls Try.prog 17 #[v] w fun e w' => ∃ u, e = .returned (.tuple #[u, .int .i64 (Gp.errL [l])]) ∧ OwnT w u (gapsO l) w' := by
  obtain ⟨i0, hi, hz0, hz1, hz2⟩ := info_parts infoT
  have HR := Lib.hid h
  have CK := Lib.hid (fun r hr g W hc h => check_one g v l r hr W hc h)
  obtain ⟨r, hr⟩ : ∃ r, Gp.errL [l] = r := ⟨_, rfl⟩
  have CK := Lib.hid (CK.out r hr)
  have HB := Lib.hid ((Below.refl _ w).alloc (Nat.le_refl _) (.cells #[v] 22))
  have GO : Hid (gapsO l = if r = 0 then Gp.gapsL l else []) := Lib.hid (by unfold gapsO; rw [hr])
  rw [hr]
  obtain ⟨h0, A, cap, rfl, _⟩ := h
  by_cases z : r = 0
  · subst z
    have G2 : Hid (gapsO l = Gp.gapsTo l (l.length - 1)) := Lib.hid (by rw [GO.out, if_pos rfl]; rfl)
    have TL := Lib.hid (Gp.errL_tl hr l (by simp))
    clear GO hr
    go_enter Try.func17, Try.ntmps17
    go_wp2_with fail
    refine (CK.out _ _ (by simp [go_sem]) (HR.out.alloc _)).mono ?_
    rintro e W1 ⟨rfl, hb⟩
    have B1 : Hid (Below w.heap.size w W1) := Lib.hid (HB.out.trans (hb.mono (by simp)))
    have ho : Hid (OwnT w (.slice none 0 0) [] W1) := Lib.hid (.nil B1.out)
    clear hb
    go_wp2_with fail
    go_loopw [5, 6] (fun ov iv wr => ∃ p : Nat, (p + 1 ≤ l.length ∨ p = 0) ∧ iv = .int .i64 (p + 1 : Nat) ∧ Hid (OwnT w ov (Gp.gapsTo l p) wr)) (fun _ iv _ => l.length + 1 - (intOf iv).toNat)
    case atStart => exact ⟨0, .inr rfl, rfl, ho⟩
    case round =>
      obtain ⟨p, hp, rfl, ho⟩ := hrel
      by_cases lt : p + 1 < l.length
      · have e0 : decide (((p + 1 : Nat) : Int) < (l.length : Int)) = true := by rw [decide_eq_true_iff]; omega
        have wi : IntKind.i64.wrap (((p + 1 : Nat) : Int) + 1) = ((p + 1 : Nat) : Int) + 1 := by rw [IntKind.wrap_i64]; omega
        have wp : IntKind.i64.wrap (p : Int) = (p : Int) := by rw [IntKind.wrap_i64]; omega
        have q0 : (0 : Int) ≤ (p : Int) + 1 := by omega
        obtain ⟨_, A', cp', e1, cells⟩ := HR.out.below ho.out.below
        obtain ⟨b, o, e2, c2⟩ := cells (p + 1) lt
        obtain ⟨b', o', e3, c3⟩ := cells p (by omega)
        cases e1
        subst e2
        cases e3
        obtain ⟨x, hx⟩ : ∃ x, l.getD p 0 = x := ⟨_, rfl⟩
        obtain ⟨y, hy⟩ : ∃ y, l.getD (p + 1) 0 = y := ⟨_, rfl⟩
        rw [hx] at c3
        rw [hy] at c2
        have GS : Hid (Gp.gapsTo l (p + 1) = Gp.gapsTo l p ++ [IntKind.i64.wrap (y - x)]) := Lib.hid (by
          have t1 := TL.out.ok _ (Gp.getD_mem (l := l) (i := p) (by omega))
          have t2 := TL.out.ok _ (Gp.getD_mem lt)
          rw [hx] at t1
          rw [hy] at t2
          unfold Gp.okT at t1 t2
          rw [Gp.gapsTo_succ, hx, hy, IntKind.wrap_i64]
          congr 2
          omega)
        have LL := Lib.hid (Gp.gapsTo_len l p)
        obtain ⟨G, hG⟩ : ∃ G, Gp.gapsTo l p = G := ⟨_, rfl⟩
        rw [hG] at ho GS LL
        have hp : p < l.length := by omega
        have hs := ho.out.below.size
        have GL := LL.out
        have HOD := Lib.hid ho.out.drew
        clear hx hy hG cells
        go_wp2_with fail
        go_region_law (refine step_append_own rfl (.tmp 19) (.tmp 30) 22 rfl w.heap.size 2 i0 (.int .i64 0) 1 8 Try.underlying22 hi hz0 hz1 hz2 rfl (by decide) _ G.length _ rfl (HOD.out.row.alloc _) ⟨wr.drew.heap.size, 0, none⟩ 1 1 [.int .i64 (IntKind.i64.wrap (y - x))] rfl rfl (cell_one_new _ _ _) (by simp [Value.oneCell']) (by simp [maxLen]; omega) (by omega) (by simp; omega) ?_; intro v2 w2 hown hg2)
        all_goals
          have h2 := HOD.out.step hown hg2
          rw [← GS.out] at h2
          have H2 := Lib.hid h2
          clear h2 hown hg2
          go_wp2_with fail
          go_roundw
          case rel => exact ⟨p + 1, .inl (by omega), by go_num, H2⟩
          case measure => simp [intOf]; omega
      · have e0 : decide (((p + 1 : Nat) : Int) < (l.length : Int)) = false := by rw [decide_eq_false_iff_not]; omega
        go_wp2_with fail
        go_ret2
        exact ⟨_, rfl, by rw [G2.out, show l.length - 1 = p by omega]; exact ho.out⟩
  · have t1 : (r != 0) = true := by rw [bne_iff_ne]; exact z
    have G2 : Hid (gapsO l = []) := Lib.hid (by rw [GO.out, if_neg z])
    clear GO hr z
    go_enter Try.func17, Try.ntmps17
    go_wp2_with fail
    refine (CK.out _ _ (by simp [go_sem]) (HR.out.alloc _)).mono ?_
    rintro e W1 ⟨rfl, hb⟩
    have B1 : Hid (Below w.heap.size w W1) := Lib.hid (HB.out.trans (hb.mono (by simp)))
    clear hb
    go_wp2_with fail
    go_ret2
    exact ⟨_, rfl, by rw [G2.out]; exact .nil B1.out⟩

set_option maxRecDepth 100000 in
set_option maxHeartbeats 4000000 in
theorem rgaps_any (v : Value) (l : List Int) (w : World) (h : RowT w v l) :
    Calls Try.prog 18 #[v] w fun e w' => ∃ u, e = .returned (.tuple #[u, .int .i64 (Gp.errL [l])]) ∧ OwnT w u (gapsO l) w' := by
  obtain ⟨i0, hi, hz0, hz1, hz2⟩ := info_parts infoT
  have HR := Lib.hid h
  have CK := Lib.hid (fun r hr g W hc h => rcheck_one g v l r hr W hc h)
  obtain ⟨r, hr⟩ : ∃ r, Gp.errL [l] = r := ⟨_, rfl⟩
  have CK := Lib.hid (CK.out r hr)
  have HB := Lib.hid ((Below.refl _ w).alloc (Nat.le_refl _) (.cells #[v] 22))
  have GO : Hid (gapsO l = if r = 0 then Gp.gapsL l else []) := Lib.hid (by unfold gapsO; rw [hr])
  rw [hr]
  obtain ⟨h0, A, cap, rfl, _⟩ := h
  by_cases z : r = 0
  · subst z
    have G2 : Hid (gapsO l = Gp.gapsTo l (l.length - 1)) := Lib.hid (by rw [GO.out, if_pos rfl]; rfl)
    have TL := Lib.hid (Gp.errL_tl hr l (by simp))
    clear GO hr
    go_enter Try.func18, Try.ntmps18
    go_wp2_with fail
    refine (CK.out _ _ (by simp [go_sem]) (HR.out.alloc _)).mono ?_
    rintro e W1 ⟨rfl, hb⟩
    have B1 : Hid (Below w.heap.size w W1) := Lib.hid (HB.out.trans (hb.mono (by simp)))
    have ho : Hid (OwnT w (.slice none 0 0) [] W1) := Lib.hid (.nil B1.out)
    clear hb
    go_wp2_with fail
    go_loopw [5, 6] (fun ov iv wr => ∃ p : Nat, (p + 1 ≤ l.length ∨ p = 0) ∧ iv = .int .i64 (p + 1 : Nat) ∧ Hid (OwnT w ov (Gp.gapsTo l p) wr)) (fun _ iv _ => l.length + 1 - (intOf iv).toNat)
    case atStart => exact ⟨0, .inr rfl, rfl, ho⟩
    case round =>
      obtain ⟨p, hp, rfl, ho⟩ := hrel
      by_cases lt : p + 1 < l.length
      · have e0 : decide (((p + 1 : Nat) : Int) < (l.length : Int)) = true := by rw [decide_eq_true_iff]; omega
        have wi : IntKind.i64.wrap (((p + 1 : Nat) : Int) + 1) = ((p + 1 : Nat) : Int) + 1 := by rw [IntKind.wrap_i64]; omega
        have wp : IntKind.i64.wrap (p : Int) = (p : Int) := by rw [IntKind.wrap_i64]; omega
        have q0 : (0 : Int) ≤ (p : Int) + 1 := by omega
        obtain ⟨_, A', cp', e1, cells⟩ := HR.out.below ho.out.below
        obtain ⟨b, o, e2, c2⟩ := cells (p + 1) lt
        obtain ⟨b', o', e3, c3⟩ := cells p (by omega)
        cases e1
        subst e2
        cases e3
        obtain ⟨x, hx⟩ : ∃ x, l.getD p 0 = x := ⟨_, rfl⟩
        obtain ⟨y, hy⟩ : ∃ y, l.getD (p + 1) 0 = y := ⟨_, rfl⟩
        rw [hx] at c3
        rw [hy] at c2
        have GS : Hid (Gp.gapsTo l (p + 1) = Gp.gapsTo l p ++ [IntKind.i64.wrap (y - x)]) := Lib.hid (by
          have t1 := TL.out.ok _ (Gp.getD_mem (l := l) (i := p) (by omega))
          have t2 := TL.out.ok _ (Gp.getD_mem lt)
          rw [hx] at t1
          rw [hy] at t2
          unfold Gp.okT at t1 t2
          rw [Gp.gapsTo_succ, hx, hy, IntKind.wrap_i64]
          congr 2
          omega)
        have LL := Lib.hid (Gp.gapsTo_len l p)
        obtain ⟨G, hG⟩ : ∃ G, Gp.gapsTo l p = G := ⟨_, rfl⟩
        rw [hG] at ho GS LL
        have hp : p < l.length := by omega
        have hs := ho.out.below.size
        have GL := LL.out
        have HOD := Lib.hid ho.out.drew
        clear hx hy hG cells
        go_wp2_with fail
        go_region_law (refine step_append_own rfl (.tmp 19) (.tmp 30) 22 rfl w.heap.size 2 i0 (.int .i64 0) 1 8 Try.underlying22 hi hz0 hz1 hz2 rfl (by decide) _ G.length _ rfl (HOD.out.row.alloc _) ⟨wr.drew.heap.size, 0, none⟩ 1 1 [.int .i64 (IntKind.i64.wrap (y - x))] rfl rfl (cell_one_new _ _ _) (by simp [Value.oneCell']) (by simp [maxLen]; omega) (by omega) (by simp; omega) ?_; intro v2 w2 hown hg2)
        all_goals
          have h2 := HOD.out.step hown hg2
          rw [← GS.out] at h2
          have H2 := Lib.hid h2
          clear h2 hown hg2
          go_wp2_with fail
          go_roundw
          case rel => exact ⟨p + 1, .inl (by omega), by go_num, H2⟩
          case measure => simp [intOf]; omega
      · have e0 : decide (((p + 1 : Nat) : Int) < (l.length : Int)) = false := by rw [decide_eq_false_iff_not]; omega
        go_wp2_with fail
        go_ret2
        exact ⟨_, rfl, by rw [G2.out, show l.length - 1 = p by omega]; exact ho.out⟩
  · have t1 : (r != 0) = true := by rw [bne_iff_ne]; exact z
    have G2 : Hid (gapsO l = []) := Lib.hid (by rw [GO.out, if_neg z])
    clear GO hr z
    go_enter Try.func18, Try.ntmps18
    go_wp2_with fail
    refine (CK.out _ _ (by simp [go_sem]) (HR.out.alloc _)).mono ?_
    rintro e W1 ⟨rfl, hb⟩
    have B1 : Hid (Below w.heap.size w W1) := Lib.hid (HB.out.trans (hb.mono (by simp)))
    clear hb
    go_wp2_with fail
    go_ret2
    exact ⟨_, rfl, by rw [G2.out]; exact .nil B1.out⟩
end Go.Proofs.Ytihbpbdcpnpiaaa
