/- The document's program of blackout: add, borders, wanted. -/
import Derived.Test.YtodjipbkeddbcaaBlkC
import Derived.Laws.AppendOwnNone
namespace Go.Proofs.Ytodjipbkeddbcaa
open Go.ChangeShapes Go.RowKit

/-- a slice of numbers -/
def RowI (W : World) (v : Value) (l : List Int) : Prop := l.length ≤ 1000000 ∧ ((v = .slice none 0 0 ∧ l = []) ∨ ∃ b o cap, v = .slice (some ⟨b, o, none⟩) l.length cap ∧ l.length ≤ cap ∧ ∀ j, j < l.length → W.cell? ⟨b, o + j, none⟩ = some (.int .i64 (l.getD j 0)))
theorem RowI.below {W W' : World} {v : Value} {l : List Int} (h : RowI W v l) (hb : Below W.heap.size W W') : RowI W' v l := by
  obtain ⟨h0, h | ⟨b, o, cap, e, hc, h⟩⟩ := h
  · exact ⟨h0, .inl h⟩
  · exact ⟨h0, .inr ⟨b, o, cap, e, hc, fun j hj => (hb.cell (p := ⟨b, o + j, none⟩) (lt_of_cell (h j hj))).trans (h j hj)⟩⟩
theorem RowI.nil (W : World) : RowI W (.slice none 0 0) [] := ⟨by simp, .inl ⟨rfl, rfl⟩⟩
theorem RowI.len {W : World} {v : Value} {l : List Int} (h : RowI W v l) : ∃ A cap, v = .slice A l.length cap := by
  obtain ⟨_, ⟨rfl, rfl⟩ | ⟨b, o, cap, e, _⟩⟩ := h
  · exact ⟨_, _, rfl⟩
  · exact ⟨_, _, e⟩
theorem RowI.at {W : World} {A : Option Addr} {n cap : Nat} {l : List Int} (h : RowI W (.slice A n cap) l) {j : Nat} (hj : j < l.length) : ∃ b o, A = some ⟨b, o, none⟩ ∧ W.cell? ⟨b, o + j, none⟩ = some (.int .i64 (l.getD j 0)) := by
  obtain ⟨_, ⟨_, rfl⟩ | ⟨b, o, cap', e, _, h⟩⟩ := h
  · simp at hj
  · cases e; exact ⟨b, o, rfl, h j hj⟩
theorem RowS.none {W : World} {n cap : Nat} {l : List (Int × Int)} (h : RowS W (.slice none n cap) l) : l = [] ∧ cap = 0 := by
  obtain ⟨_, hz, A', cap', e, h⟩ := h
  cases e
  refine ⟨?_, hz _ _ rfl⟩
  cases l with
  | nil => rfl
  | cons x r => obtain ⟨b, o, q, _⟩ := h 0 (by simp); cases q
theorem infoI : (Try.prog.info? 2).map (fun i => (i.zero, i.size, i.bytes)) = some (some (.int .i64 0), 1, 8) := by kernel_rfl
theorem rowI_own {W : World} {n : Nat} {v : Value} {l : List Int} (h : W.ownsRow n 2 1 v l.length (l.map (.int .i64 ·))) (hl : l.length ≤ 1000000) : RowI W v l := by
  refine ⟨hl, ?_⟩
  rcases h.2 with ⟨rfl, h0⟩ | ⟨g, cap, cur, rfl, _, hg, hc, _, _, ht⟩
  · exact .inl ⟨rfl, List.length_eq_zero_iff.1 h0⟩
  · refine .inr ⟨g, 0, cap, rfl, hc, fun j hlt => ?_⟩
    have e : (cur.toList.take (l.length * 1))[j]? = some (.int .i64 (l.getD j 0)) := by rw [ht, List.getElem?_map]; simp [hlt]
    rw [Nat.mul_one, List.getElem?_take_of_lt hlt] at e
    simp only [World.cell?, hg]
    simpa using e
section
variable {ops : Array Oper} {rest : List Oper} {o : Oper} {a : Act} {w : World} {Q : Exit → Act → World → Prop}
/-- append of a slice of spans to a slice of the call's own -/
theorem wpList_append_rowS (hgd : o.guard = none) (s x : Operand) (ho : o.op = .call { callee := .builtin .append, args := #[s, x], argTypes := #[22, 22] })
    (base : Nat) (v : Value) (n : Nat) (xs : List Value) (hs : a.eval s = v) (hown : w.ownsRow base 27 2 v n xs) (vx : Value) (l : List (Int × Int)) (hx : a.eval x = vx) (hr : RowS w vx l) (hn : n + l.length ≤ 2000000) (hbase : base ≤ w.heap.size)
    (h : ∀ v' w', w'.ownsRow base 27 2 v' (n + l.length) (xs ++ l.flatMap encS) → w.grownBy w' v.ownBlock → wpList Try.prog ops Q rest (a.put o.dst v') w') : wpList Try.prog ops Q (o :: rest) a w := by
  obtain ⟨i0, hi, hz0, hz1, hz2⟩ := info_parts infoS
  obtain ⟨A, cap, rfl⟩ := hr.len
  cases A with
  | none =>
    obtain ⟨rfl, rfl⟩ := hr.none
    refine wpList_append_own_none hgd s x _ ho base 27 i0 2 Try.underlying22 hi v n xs hs hown hx ?_
    exact h v w (by simpa using hown) ⟨rfl, rfl, rfl, Nat.le_refl _, fun _ _ _ => rfl⟩
  | some ad =>
    refine wpList_append_own w hgd s x _ ho base 27 i0 (.agg #[.int .i64 0, .int .i64 0]) 2 16 Try.underlying22 hi hz0 hz1 hz2 rfl (by decide) v n xs hs hown ad l.length cap (l.flatMap encS) hx (flatS_len l) (fun j u hj => ?_) flatS_one (by simp [maxLen]; omega) (by omega) hbase (fun v' w' h2 h3 _ => h v' w' h2 h3)
    have hjl : j < l.length * 2 := by have := (List.getElem?_eq_some_iff.1 hj).1; rwa [flatS_len] at this
    obtain ⟨b, off, e, c1, c2⟩ := hr.at (j := j / 2) (by omega)
    cases e
    have g := flatS_get l (j / 2) (by omega)
    rw [add_flat]
    by_cases q : j % 2 = 0
    · rw [show j = j / 2 * 2 by omega] at hj ⊢
      rw [g.1] at hj
      cases hj
      rw [c1]
    · rw [show j = j / 2 * 2 + 1 by omega] at hj ⊢
      rw [g.2] at hj
      cases hj
      rw [← Nat.add_assoc, c2]
/-- append of a slice of numbers to a slice of the call's own -/
theorem wpList_append_rowI (hgd : o.guard = none) (s x : Operand) (ho : o.op = .call { callee := .builtin .append, args := #[s, x], argTypes := #[49, 49] })
    (base : Nat) (v : Value) (n : Nat) (xs : List Value) (hs : a.eval s = v) (hown : w.ownsRow base 2 1 v n xs) (vx : Value) (l : List Int) (hx : a.eval x = vx) (hr : RowI w vx l) (hn : n + l.length ≤ 2000000) (hbase : base ≤ w.heap.size)
    (h : ∀ v' w', w'.ownsRow base 2 1 v' (n + l.length) (xs ++ l.map (.int .i64 ·)) → w.grownBy w' v.ownBlock → wpList Try.prog ops Q rest (a.put o.dst v') w') : wpList Try.prog ops Q (o :: rest) a w := by
  obtain ⟨i0, hi, hz0, hz1, hz2⟩ := info_parts infoI
  obtain ⟨_, ⟨rfl, rfl⟩ | ⟨b, off, cap, rfl, _, hc⟩⟩ := hr
  · refine wpList_append_own_none hgd s x _ ho base 2 i0 1 Try.underlying49 hi v n xs hs hown hx ?_
    exact h v w (by simpa using hown) ⟨rfl, rfl, rfl, Nat.le_refl _, fun _ _ _ => rfl⟩
  · refine wpList_append_own w hgd s x _ ho base 2 i0 (.int .i64 0) 1 8 Try.underlying49 hi hz0 hz1 hz2 rfl (by decide) v n xs hs hown ⟨b, off, none⟩ l.length cap (l.map (.int .i64 ·)) hx (by simp) (fun j u hj => ?_) (fun u hu => by obtain ⟨x, _, rfl⟩ := List.mem_map.1 hu; rfl) (by simp [maxLen]; omega) (by omega) hbase (fun v' w' h2 h3 _ => h v' w' h2 h3)
    have hjl : j < l.length := by have := (List.getElem?_eq_some_iff.1 hj).1; simpa using this
    rw [add_flat, hc j hjl, ← hj]
    simp [hjl]
end
/-- a list of numbers of the call's own -/
structure OwnI (w : World) (v : Value) (l : List Int) (wr : World) : Prop where
  row : wr.ownsRow w.heap.size 2 1 v l.length (l.map (.int .i64 ·))
  below : Below w.heap.size w wr
theorem OwnI.grow {w wr w1 : World} {v v' : Value} {l m : List Int} (h : OwnI w v l wr)
    (hown : w1.ownsRow w.heap.size 2 1 v' (l.length + m.length) (l.map (.int .i64 ·) ++ m.map (.int .i64 ·))) (hg : wr.grownBy w1 v.ownBlock) : OwnI w v' (l ++ m) w1 := by
  refine ⟨by rw [List.map_append, List.length_append]; exact hown, h.below.grown hg h.below.size (fun k hk => (h.row.lt k hk).1)⟩
theorem OwnI.alloc {w wr : World} {v : Value} {l : List Int} (h : OwnI w v l wr) (o : Obj) : OwnI w v l (wr.alloc o) := ⟨h.row.alloc o, h.below.alloc h.below.size o⟩
theorem OwnI.len {w wr : World} {v : Value} {l : List Int} (h : OwnI w v l wr) : ∃ a cap, v = .slice a l.length cap := by
  rcases h.row.2 with ⟨rfl, h0⟩ | ⟨g, cap, cur, rfl, _⟩
  · rw [h0]; exact ⟨_, _, rfl⟩
  · exact ⟨_, _, rfl⟩
theorem rowI_take {W : World} {b o cap : Nat} {l : List Int} (hl : l.length ≤ 1000000) (hc : l.length ≤ cap) (h : ∀ j, j < l.length → W.cell? ⟨b, o + j, none⟩ = some (.int .i64 (l.getD j 0))) {k : Nat} (hk : k ≤ l.length) : RowI W (.slice (some ⟨b, o, none⟩) k cap) (l.take k) := by
  have e : (l.take k).length = k := by rw [List.length_take]; omega
  refine ⟨by omega, .inr ⟨b, o, cap, by rw [e], by omega, fun j hj => ?_⟩⟩
  rw [e] at hj
  rw [h j (by omega)]
  simp [List.getD_eq_getElem?_getD, hj]
theorem rowI_drop {W : World} {b o cap : Nat} {l : List Int} (hl : l.length ≤ 1000000) (hc : l.length ≤ cap) (h : ∀ j, j < l.length → W.cell? ⟨b, o + j, none⟩ = some (.int .i64 (l.getD j 0))) {k : Nat} (hk : k ≤ l.length) : RowI W (.slice (some ⟨b, o + k, none⟩) (l.length - k) (cap - k)) (l.drop k) := by
  have e : (l.drop k).length = l.length - k := by rw [List.length_drop]
  refine ⟨by omega, .inr ⟨b, o + k, cap - k, by rw [e], by omega, fun j hj => ?_⟩⟩
  rw [e] at hj
  rw [show o + k + j = o + (k + j) by omega, h (k + j) (by omega)]
  simp [List.getD_eq_getElem?_getD]
-- GEN
theorem rowI_empty (W : World) (b o c : Nat) : RowI W (.slice (some ⟨b, o, none⟩) 0 c) [] := ⟨by simp, .inr ⟨b, o, c, rfl, by simp, fun j hj => by simp at hj⟩⟩
theorem ins_no {l : List Int} {t : Int} {k : Nat} (hk : k ≤ l.length) (h1 : ∀ j, j < k → l.getD j 0 < t) (h2 : k < l.length → t < l.getD k 0) : Bk.ins l t = l.take k ++ [t] ++ l.drop k := by
  rw [Bk.ins_at hk h1 (fun q => by have := h2 q; omega), if_neg (fun q => by have := h2 q.1; omega)]
set_option maxRecDepth 100000 in
set_option maxHeartbeats 4000000 in
theorem radd_any (v : Value) (l : List Int) (t : Int) (hl : l.length ≤ 1000) (w : World) (h : RowI w v l) :
    Calls Try.prog 60 #[v, .int .i64 t] w fun e w' => ∃ u, e = .returned u ∧ RowI w' u (Bk.ins l t) ∧ Below w.heap.size w w' := by
  obtain ⟨i0, hi, hz0, hz1, hz2⟩ := info_parts infoI
  have HR := Lib.hid h
  obtain ⟨_, ⟨rfl, rfl⟩ | ⟨b, o, cap, rfl, hcap, cc⟩⟩ := h
  · have R1 : Hid (RowI w (.slice none 0 0) []) := Lib.hid (RowI.nil w)
    clear HR
    go_enter Try.func60, Try.ntmps60
    go_wp2_with fail
    refine wp_loop_rounds 1 ?_
    rw [rounds_succ]
    have E0 : Hid (OwnI w (.slice none 0 0) [] w) := Lib.hid ⟨World.ownsRow_nil _ _ _ _, Below.refl _ _⟩
    go_wp2_with (at_builtin; first
      | (refine wpList_append_rowI rfl _ _ rfl w.heap.size _ 0 [] rfl (World.ownsRow_nil _ _ _ _) _ [] rfl R1.out (by simp) (Nat.le_refl _) ?_; intro v1 w1 hown hg; have O1 := Lib.hid (E0.out.grow hown hg); have S1 := O1.out.below.size; clear hown hg)
      | (refine wpList_append_own _ rfl _ _ 49 rfl w.heap.size 2 i0 (.int .i64 0) 1 8 Try.underlying49 hi hz0 hz1 hz2 rfl (by decide) _ 0 _ rfl (O1.out.alloc _).row ⟨w1.heap.size, 0, none⟩ 1 1 [.int .i64 t] rfl rfl (cells_new _ _ rfl [.int .i64 t] _) (by simp [Value.oneCell']) (by simp [maxLen]) (by simp) (by simp; omega) ?_; intro v2 w2 hown hg _; have O2 := Lib.hid ((O1.out.alloc (.cells #[.int .i64 t] 2)).grow (m := [t]) hown hg); have S2 := O2.out.below.size; have R2 : Hid (RowI w2 (.slice none 0 0) []) := Lib.hid (RowI.nil w2); clear hown hg)
      | (refine wpList_append_rowI rfl _ _ rfl w.heap.size _ _ _ rfl O2.out.row _ [] rfl R2.out (by simp) S2 ?_; intro v3 w3 hown hg; have O3 := Lib.hid (O2.out.grow hown hg); clear hown hg))
    go_ret
    refine ⟨_, rfl, ?_, O3.out.below⟩
    have := rowI_own O3.out.row (by simp)
    simpa [Bk.ins] using this
  · have CC := Lib.hid cc
    clear cc
    go_enter Try.func60, Try.ntmps60
    go_wp2_with fail
    go_loop [5] (fun iv => ∃ k : Nat, k ≤ l.length ∧ iv = .int .i64 k ∧ Hid (∀ j, j < k → l.getD j 0 < t)) (fun iv => l.length - (intOf iv).toNat)
    case atStart => exact ⟨0, by omega, rfl, Lib.hid (fun j hj => by omega)⟩
    case round =>
      obtain ⟨k, hk, rfl, no⟩ := hrel
      by_cases lt : k < l.length
      · have e0 : decide ((k : Int) < (l.length : Int)) = true := by rw [decide_eq_true_iff]; omega
        have wk : IntKind.i64.wrap ((k : Int) + 1) = (k : Int) + 1 := by rw [IntKind.wrap_i64]; omega
        have c1 := CC.out k lt
        obtain ⟨x, hx⟩ : ∃ x, l.getD k 0 = x := ⟨_, rfl⟩
        have HX := Lib.hid hx
        rw [hx] at c1
        clear hx
        by_cases q : x < t
        · have t1 : decide (x < t) = true := decide_eq_true q
          have Q := Lib.hid q
          clear q
          go_wp2_with fail
          go_round
          case rel => exact ⟨k + 1, by omega, by go_num, Lib.hid (fun j hj => by
            by_cases e : j = k
            · subst e; rw [HX.out]; exact Q.out
            · exact no.out j (by omega))⟩
          case measure => simp [intOf]; omega
        · have t1 : decide (x < t) = false := decide_eq_false q
          by_cases q2 : x = t
          · have t2 : (x == t) = true := by rw [beq_iff_eq]; exact q2
            have R : Hid (Bk.ins l t = l) := Lib.hid (by rw [Bk.ins_at hk no.out (fun _ => by rw [HX.out]; omega), if_pos ⟨lt, by rw [HX.out]; exact q2⟩])
            clear q q2 no
            go_wp2_with fail
            go_ret
            exact ⟨_, rfl, by rw [R.out]; exact HR.out, Below.refl _ _⟩
          · have t2 : (x == t) = false := by rw [beq_eq_false_iff_ne]; exact q2
            have AT := Lib.hid (ins_no hk no.out (fun _ => by rw [HX.out]; omega))
            clear q q2
            have RT := Lib.hid (rowI_take HR.out.1 hcap CC.out hk)
            have RD := Lib.hid (rowI_drop HR.out.1 hcap CC.out hk)
            have hkc : (k : Int) ≤ (cap : Int) := by omega
            have hkl : (k : Int) ≤ (l.length : Int) := by omega
            have E0 : Hid (OwnI w (.slice none 0 0) [] w) := Lib.hid ⟨World.ownsRow_nil _ _ _ _, Below.refl _ _⟩
            have LT : (l.take k).length = k := by rw [List.length_take]; omega
            have LD : (l.drop k).length = l.length - k := by rw [List.length_drop]
            clear no
            go_wp2_with (at_builtin; first
              | (refine wpList_append_rowI rfl _ _ rfl w.heap.size _ 0 [] rfl (World.ownsRow_nil _ _ _ _) _ (l.take k) rfl RT.out (by omega) (Nat.le_refl _) ?_; intro v1 w1 hown hg; have O1 := Lib.hid (E0.out.grow (m := l.take k) (by simpa using hown) hg); have S1 := O1.out.below.size; clear hown hg)
              | (refine wpList_append_own _ rfl _ _ 49 rfl w.heap.size 2 i0 (.int .i64 0) 1 8 Try.underlying49 hi hz0 hz1 hz2 rfl (by decide) _ ([] ++ l.take k).length _ rfl (O1.out.alloc _).row ⟨w1.heap.size, 0, none⟩ 1 1 [.int .i64 t] rfl rfl (cells_new _ _ rfl [.int .i64 t] _) (by simp [Value.oneCell']) (by simp [maxLen]; omega) (by simp; omega) (by simp; omega) ?_; intro v2 w2 hown hg _; have O2 := Lib.hid ((O1.out.alloc (.cells #[.int .i64 t] 2)).grow (m := [t]) hown hg); have S2 := O2.out.below.size; have RD2 := Lib.hid (RD.out.below O2.out.below); clear hown hg)
              | (refine wpList_append_rowI rfl _ _ rfl w.heap.size _ _ _ rfl O2.out.row _ (l.drop k) rfl RD2.out (by simp; omega) S2 ?_; intro v3 w3 hown hg; have O3 := Lib.hid (O2.out.grow hown hg); clear hown hg))
            go_ret
            refine ⟨_, rfl, ?_, O3.out.below⟩
            have := rowI_own O3.out.row (by simp; omega)
            rw [AT.out]
            simpa using this
      · have e0 : decide ((k : Int) < (l.length : Int)) = false := by rw [decide_eq_false_iff_not]; omega
        have AT := Lib.hid (ins_no hk no.out (fun q => absurd q lt))
        by_cases full : k = cap
        · have AT2 : Hid (Bk.ins l t = l.take k ++ [t] ++ []) := Lib.hid (by rw [AT.out, List.drop_eq_nil_of_le (by omega)])
          clear AT
          have AT := AT2
          subst full
          have RT := Lib.hid (rowI_take HR.out.1 hcap CC.out hk)
          have RD := Lib.hid (rowI_drop HR.out.1 hcap CC.out hk)
          have hkc : (k : Int) ≤ (k : Int) := by omega
          have hkl : (k : Int) ≤ (l.length : Int) := by omega
          have E0 : Hid (OwnI w (.slice none 0 0) [] w) := Lib.hid ⟨World.ownsRow_nil _ _ _ _, Below.refl _ _⟩
          have LT : (l.take k).length = k := by rw [List.length_take]; omega
          have LD : (l.drop k).length = l.length - k := by rw [List.length_drop]
          clear no
          go_wp2_with (at_builtin; first
            | (refine wpList_append_rowI rfl _ _ rfl w.heap.size _ 0 [] rfl (World.ownsRow_nil _ _ _ _) _ (l.take k) rfl RT.out (by omega) (Nat.le_refl _) ?_; intro v1 w1 hown hg; have O1 := Lib.hid (E0.out.grow (m := l.take k) (by simpa using hown) hg); have S1 := O1.out.below.size; clear hown hg)
            | (refine wpList_append_own _ rfl _ _ 49 rfl w.heap.size 2 i0 (.int .i64 0) 1 8 Try.underlying49 hi hz0 hz1 hz2 rfl (by decide) _ ([] ++ l.take k).length _ rfl (O1.out.alloc _).row ⟨w1.heap.size, 0, none⟩ 1 1 [.int .i64 t] rfl rfl (cells_new _ _ rfl [.int .i64 t] _) (by simp [Value.oneCell']) (by simp [maxLen]; omega) (by simp; omega) (by simp; omega) ?_; intro v2 w2 hown hg _; have O2 := Lib.hid ((O1.out.alloc (.cells #[.int .i64 t] 2)).grow (m := [t]) hown hg); have S2 := O2.out.below.size; have RD2 := Lib.hid (RD.out.below O2.out.below); clear hown hg)
            | (refine wpList_append_rowI rfl _ _ rfl w.heap.size _ _ _ rfl O2.out.row _ [] rfl (rowI_empty _ _ _ _) (by simp; omega) S2 ?_; intro v3 w3 hown hg; have O3 := Lib.hid (O2.out.grow hown hg); clear hown hg))
          go_ret
          refine ⟨_, rfl, ?_, O3.out.below⟩
          have := rowI_own O3.out.row (by simp; omega)
          rw [AT.out]
          simpa using this
        · have hkc0 : ¬ (k : Int) = (cap : Int) := by omega
          have hkc1 : (k : Int) < (cap : Int) := by omega
          have hkc2 : ¬ cap = k := by omega
          have RT := Lib.hid (rowI_take HR.out.1 hcap CC.out hk)
          have RD := Lib.hid (rowI_drop HR.out.1 hcap CC.out hk)
          have hkc : (k : Int) ≤ (cap : Int) := by omega
          have hkl : (k : Int) ≤ (l.length : Int) := by omega
          have E0 : Hid (OwnI w (.slice none 0 0) [] w) := Lib.hid ⟨World.ownsRow_nil _ _ _ _, Below.refl _ _⟩
          have LT : (l.take k).length = k := by rw [List.length_take]; omega
          have LD : (l.drop k).length = l.length - k := by rw [List.length_drop]
          clear no
          go_wp2_with (at_builtin; first
            | (refine wpList_append_rowI rfl _ _ rfl w.heap.size _ 0 [] rfl (World.ownsRow_nil _ _ _ _) _ (l.take k) rfl RT.out (by omega) (Nat.le_refl _) ?_; intro v1 w1 hown hg; have O1 := Lib.hid (E0.out.grow (m := l.take k) (by simpa using hown) hg); have S1 := O1.out.below.size; clear hown hg)
            | (refine wpList_append_own _ rfl _ _ 49 rfl w.heap.size 2 i0 (.int .i64 0) 1 8 Try.underlying49 hi hz0 hz1 hz2 rfl (by decide) _ ([] ++ l.take k).length _ rfl (O1.out.alloc _).row ⟨w1.heap.size, 0, none⟩ 1 1 [.int .i64 t] rfl rfl (cells_new _ _ rfl [.int .i64 t] _) (by simp [Value.oneCell']) (by simp [maxLen]; omega) (by simp; omega) (by simp; omega) ?_; intro v2 w2 hown hg _; have O2 := Lib.hid ((O1.out.alloc (.cells #[.int .i64 t] 2)).grow (m := [t]) hown hg); have S2 := O2.out.below.size; have RD2 := Lib.hid (RD.out.below O2.out.below); clear hown hg)
            | (refine wpList_append_rowI rfl _ _ rfl w.heap.size _ _ _ rfl O2.out.row _ (l.drop k) rfl RD2.out (by simp; omega) S2 ?_; intro v3 w3 hown hg; have O3 := Lib.hid (O2.out.grow hown hg); clear hown hg))
          go_ret
          refine ⟨_, rfl, ?_, O3.out.below⟩
          have := rowI_own O3.out.row (by simp; omega)
          rw [AT.out]
          simpa using this
end Go.Proofs.Ytodjipbkeddbcaa
