/- Contracts of Union, Meet, Without, Normal, Length of package blackout. -/
import Derived.Test.YtodjipbkeddbcaaBlkE
namespace Go.Proofs.Ytodjipbkeddbcaa.Bk
/-- what Union (1), Meet (2), Without (3) answer -/
def ResR (a b : List (Int × Int)) (k : Int) (l : List (Int × Int)) (r : Int) : Prop := r = err2 a b ∧ ((r = 0 ∧ IsRes a b k l) ∨ (r ≠ 0 ∧ l = []))
theorem err2_ok {a b : List (Int × Int)} (h : err2 a b = 0) : OkL a ∧ OkL b := ⟨errL_zero.1 (err2_zero.1 h).1, errL_zero.1 (err2_zero.1 h).2⟩
theorem resR_ex (a b : List (Int × Int)) (k : Int) : ∃ l r, ResR a b k l r := by
  by_cases h : err2 a b = 0
  · obtain ⟨oa, ob⟩ := err2_ok h
    exact ⟨_, 0, h.symm, .inl ⟨rfl, want_res k oa.2 ob.2⟩⟩
  · exact ⟨[], _, rfl, .inr ⟨h, rfl⟩⟩
theorem ResR.uniq {a b l m : List (Int × Int)} {k r s : Int} (h : ResR a b k l r) (h' : ResR a b k m s) : l = m ∧ r = s := by
  obtain ⟨e, h⟩ := h
  obtain ⟨e', h'⟩ := h'
  have z : r = s := e.trans e'.symm
  subst z
  refine ⟨?_, rfl⟩
  rcases h with h | h <;> rcases h' with h' | h'
  · exact h.2.uniq h'.2
  · exact absurd h.1 h'.1
  · exact absurd h'.1 h.1
  · exact h.2.trans h'.2.symm
theorem ResR.len {a b l : List (Int × Int)} {k r : Int} (h : ResR a b k l r) : l.length ≤ 256 := by
  obtain ⟨e, h | h⟩ := h
  · obtain ⟨z, h⟩ := h
    obtain ⟨oa, ob⟩ := err2_ok (e.symm.trans z)
    rw [h.uniq (run_is k oa.2 ob.2)]
    have h1 := run_len (bel k) (bor a b) ⟨[], false, 0⟩
    have h2 := bor_len a b
    have := oa.1
    have := ob.1
    simp only [List.length_nil] at h1
    omega
  · rw [h.2]; simp
theorem ResR.res {a b l : List (Int × Int)} {k : Int} (h : ResR a b k l 0) : IsRes a b k l := by
  rcases h.2 with q | q
  · exact q.2
  · exact absurd rfl q.1
theorem ResR.no {a b l : List (Int × Int)} {k r : Int} (h : ResR a b k l r) (z : r ≠ 0) : l = [] := by
  rcases h.2 with q | q
  · exact absurd q.1 z
  · exact q.2
theorem errL_nil : errL [] = 0 := rfl
theorem err2_nil (l : List (Int × Int)) : err2 l [] = errL l := by
  unfold err2
  split
  · rename_i h; rw [h]; rfl
  · rfl
theorem okS_nil : OkS [] := fun x h => by simp at h
theorem okS_one {a b : Int} (ha : okT a) (hb : okT b) (h : a ≤ b) : OkS [(a, b)] := fun x hx => by
  simp only [List.mem_singleton] at hx
  subst hx
  exact ⟨ha, hb, h⟩
/-- what Length answers -/
def LenR (l : List (Int × Int)) (a b n r : Int) : Prop := r = errR l a b ∧ ((r = 0 ∧ n = len l a b) ∨ (r ≠ 0 ∧ n = 0))
theorem lenR_ex (l : List (Int × Int)) (a b : Int) : ∃ n r, LenR l a b n r := by
  by_cases h : errR l a b = 0
  · exact ⟨_, 0, h.symm, .inl ⟨rfl, rfl⟩⟩
  · exact ⟨0, _, rfl, .inr ⟨h, rfl⟩⟩
theorem LenR.sum {l m : List (Int × Int)} {a b n r : Int} (h : LenR l a b n r) (hm : ResR l [(a, b)] 2 m r) : sumL m = n := by
  by_cases z : r = 0
  · subst z
    have e := errR_zero.1 h.1.symm
    rw [len_is e.2.2.2 hm.res]
    rcases h.2 with q | q
    · exact q.2.symm
    · exact absurd rfl q.1
  · rw [hm.no z]
    rcases h.2 with q | q
    · exact absurd q.1 z
    · exact q.2.symm
theorem ResR.okS {a b l : List (Int × Int)} {k r : Int} (h : ResR a b k l r) : OkS l := by
  by_cases z : r = 0
  · subst z
    obtain ⟨oa, ob⟩ := err2_ok h.1.symm
    exact h.res.ok oa.2 ob.2
  · rw [h.no z]; exact okS_nil
theorem sumL_take {l : List (Int × Int)} {i : Nat} (h : i < l.length) : sumL (l.take (i + 1)) = sumL (l.take i) + ((l.getD i (0, 0)).2 - (l.getD i (0, 0)).1 + 1) := by
  rw [List.take_add_one, ← sumL_snoc]
  simp [h]
theorem sumL_small {l : List (Int × Int)} (h : OkS l) (hl : l.length ≤ 400) (i : Nat) : 0 ≤ sumL (l.take i) ∧ sumL (l.take i) ≤ 101360920320000 := by
  have q := sumL_bound (l := l.take i) (fun x hx => h x (List.mem_of_mem_take hx))
  have : (l.take i).length ≤ 400 := by rw [List.length_take]; omega
  omega
end Go.Proofs.Ytodjipbkeddbcaa.Bk
namespace Go.Proofs.Ytodjipbkeddbcaa
open Go.ChangeShapes Go.RowKit Go.Shelf

theorem bel1 (p q : Bool) (W : World) : Calls Try.prog 47 #[.agg #[.bool p, .bool q]] W fun e w' => e = .returned (.bool (Bk.bel 1 p q)) ∧ Below W.heap.size W w' := by
  have HB := Lib.hid ((Below.refl _ W).alloc (Nat.le_refl _) (.cells #[.bool p, .bool q] 63))
  have R : Hid (Bk.bel 1 p q = (p || q)) := Lib.hid rfl
  cases p with
  | true =>
    go_enter Try.func47, Try.ntmps47
    go_wp2_with fail
    go_ret
    exact ⟨ret_bool (by rw [R.out]; rfl), HB.out⟩
  | false =>
    go_enter Try.func47, Try.ntmps47
    go_wp2_with fail
    go_ret
    exact ⟨ret_bool (by rw [R.out]; simp), HB.out⟩
theorem bel2 (p q : Bool) (W : World) : Calls Try.prog 49 #[.agg #[.bool p, .bool q]] W fun e w' => e = .returned (.bool (Bk.bel 2 p q)) ∧ Below W.heap.size W w' := by
  have HB := Lib.hid ((Below.refl _ W).alloc (Nat.le_refl _) (.cells #[.bool p, .bool q] 63))
  have R : Hid (Bk.bel 2 p q = (p && q)) := Lib.hid rfl
  cases p with
  | true =>
    go_enter Try.func49, Try.ntmps49
    go_wp2_with fail
    go_ret
    exact ⟨ret_bool (by rw [R.out]; simp), HB.out⟩
  | false =>
    go_enter Try.func49, Try.ntmps49
    go_wp2_with fail
    go_ret
    exact ⟨ret_bool (by rw [R.out]; rfl), HB.out⟩
theorem bel3 (p q : Bool) (W : World) : Calls Try.prog 50 #[.agg #[.bool p, .bool q]] W fun e w' => e = .returned (.bool (Bk.bel 3 p q)) ∧ Below W.heap.size W w' := by
  have HB := Lib.hid ((Below.refl _ W).alloc (Nat.le_refl _) (.cells #[.bool p, .bool q] 63))
  have R : Hid (Bk.bel 3 p q = (p && !q)) := Lib.hid rfl
  cases p with
  | true =>
    go_enter Try.func50, Try.ntmps50
    go_wp2_with fail
    go_ret
    exact ⟨ret_bool (by rw [R.out]; simp), HB.out⟩
  | false =>
    go_enter Try.func50, Try.ntmps50
    go_wp2_with fail
    go_ret
    exact ⟨ret_bool (by rw [R.out]; rfl), HB.out⟩

theorem combine_any (g : Nat) (k : Int) (eg : ∀ args w, (callFunc g args).run Try.prog w = .ok (.enter g args) w) (hg : BelC g k) (va vb : Value) (a b l : List (Int × Int)) (r : Int) (hr : Bk.ResR a b k l r) (w : World) (ha : RowS w va a) (hb : RowS w vb b) :
    Calls Try.prog 46 #[va, vb, .func (.func g) #[] #[]] w fun e w' => ∃ u, e = .returned (.tuple #[u, .int .i64 r]) ∧ OwnS w u l w' := by
  by_cases z : r = 0
  · subst z
    obtain ⟨oa, ob⟩ := Bk.err2_ok hr.1.symm
    rw [hr.res.uniq (Bk.run_is k oa.2 ob.2)]
    exact callsIn_wide.1 (combine_in 5 (by omega) g k eg hg va vb a b w ha hb hr.1.symm)
  · have CK := Lib.hid (fun g W hc hd h1 h2 => check_two g va vb a b r hr.1.symm W hc hd h1 h2)
    have d1 : (r != 0) = true := by rw [bne_iff_ne]; exact z
    have HB := Lib.hid (below_new (below_new (Below.refl _ w) (.cells #[.func (.func g) #[] #[]] 64) (Nat.le_refl _)) (.cells #[va, vb] 22) (Nat.le_refl _))
    have RA := Lib.hid ha
    have RB := Lib.hid hb
    rw [hr.no z]
    obtain ⟨A1, cap1, rfl⟩ := ha.len
    obtain ⟨A2, cap2, rfl⟩ := hb.len
    clear z hr ha hb eg hg
    go_enter Try.func46, Try.ntmps46
    go_wp2_with fail
    refine (CK.out _ _ (by simp [go_sem]) (by simp [go_sem]) (RA.out.below HB.out) (RB.out.below HB.out)).mono ?_
    rintro e V ⟨rfl, hb⟩
    have B1 : Hid (Below w.heap.size w V) := Lib.hid (below_next HB.out hb)
    clear hb
    go_wp2_with fail
    go_ret2
    exact ⟨_, rfl, .nil B1.out⟩
theorem union_any (va vb : Value) (a b l : List (Int × Int)) (r : Int) (hr : Bk.ResR a b 1 l r) (w : World) (ha : RowS w va a) (hb : RowS w vb b) :
    Calls Try.prog 23 #[va, vb] w fun e w' => ∃ u, e = .returned (.tuple #[u, .int .i64 r]) ∧ OwnS w u l w' := by
  have C := Lib.hid (combine_any 47 1 (enters_of Try.func47 (by kernel_rfl) rfl) bel1 va vb a b l r hr w ha hb)
  obtain ⟨A1, cap1, rfl⟩ := ha.len
  obtain ⟨A2, cap2, rfl⟩ := hb.len
  clear ha hb hr
  go_enter Try.func23, Try.ntmps23
  go_wp2_with fail
  refine C.out.mono ?_
  rintro e V ⟨u, rfl, hu⟩
  have HU := Lib.hid hu
  clear hu
  go_wp2_with fail
  go_ret2
  exact ⟨_, rfl, HU.out⟩
theorem meet_any (va vb : Value) (a b l : List (Int × Int)) (r : Int) (hr : Bk.ResR a b 2 l r) (w : World) (ha : RowS w va a) (hb : RowS w vb b) :
    Calls Try.prog 25 #[va, vb] w fun e w' => ∃ u, e = .returned (.tuple #[u, .int .i64 r]) ∧ OwnS w u l w' := by
  have C := Lib.hid (combine_any 49 2 (enters_of Try.func49 (by kernel_rfl) rfl) bel2 va vb a b l r hr w ha hb)
  obtain ⟨A1, cap1, rfl⟩ := ha.len
  obtain ⟨A2, cap2, rfl⟩ := hb.len
  clear ha hb hr
  go_enter Try.func25, Try.ntmps25
  go_wp2_with fail
  refine C.out.mono ?_
  rintro e V ⟨u, rfl, hu⟩
  have HU := Lib.hid hu
  clear hu
  go_wp2_with fail
  go_ret2
  exact ⟨_, rfl, HU.out⟩
theorem without_any (va vb : Value) (a b l : List (Int × Int)) (r : Int) (hr : Bk.ResR a b 3 l r) (w : World) (ha : RowS w va a) (hb : RowS w vb b) :
    Calls Try.prog 27 #[va, vb] w fun e w' => ∃ u, e = .returned (.tuple #[u, .int .i64 r]) ∧ OwnS w u l w' := by
  have C := Lib.hid (combine_any 50 3 (enters_of Try.func50 (by kernel_rfl) rfl) bel3 va vb a b l r hr w ha hb)
  obtain ⟨A1, cap1, rfl⟩ := ha.len
  obtain ⟨A2, cap2, rfl⟩ := hb.len
  clear ha hb hr
  go_enter Try.func27, Try.ntmps27
  go_wp2_with fail
  refine C.out.mono ?_
  rintro e V ⟨u, rfl, hu⟩
  have HU := Lib.hid hu
  clear hu
  go_wp2_with fail
  go_ret2
  exact ⟨_, rfl, HU.out⟩
theorem normal_any (va : Value) (a l : List (Int × Int)) (r : Int) (hr : Bk.ResR a [] 1 l r) (w : World) (ha : RowS w va a) :
    Calls Try.prog 15 #[va] w fun e w' => ∃ u, e = .returned (.tuple #[u, .int .i64 r]) ∧ OwnS w u l w' := by
  have C := Lib.hid (union_any va (.slice none 0 0) a [] l r hr w ha (RowS.nil w))
  obtain ⟨A1, cap1, rfl⟩ := ha.len
  clear ha hr
  go_enter Try.func15, Try.ntmps15
  go_wp2_with fail
  refine C.out.mono ?_
  rintro e V ⟨u, rfl, hu⟩
  have HU := Lib.hid hu
  clear hu
  go_wp2_with fail
  go_ret2
  exact ⟨_, rfl, HU.out⟩

set_option maxRecDepth 100000 in
set_option maxHeartbeats 4000000 in
theorem length_any (v : Value) (l : List (Int × Int)) (a b n r : Int) (hr : Bk.LenR l a b n r) (w : World) (h : RowS w v l) :
    Calls Try.prog 29 #[v, .int .i64 a, .int .i64 b] w fun e w' => e = .returned (.tuple #[.int .i64 n, .int .i64 r]) ∧ Below w.heap.size w w' := by
  obtain ⟨m, r', hm⟩ := Bk.resR_ex l [(a, b)] 2
  have er : r' = r := by rw [hm.1, hr.1, Bk.errR_is]
  subst er
  have SM := Lib.hid (hr.sum hm)
  have OS := Lib.hid hm.okS
  have ML := hm.len
  have B0 := Lib.hid (below_new (Below.refl _ w) (.cells #[.int .i64 a, .int .i64 b] 27) (Nat.le_refl _))
  have ON := Lib.hid (only_any a b w)
  have CM := Lib.hid (meet_any v _ l [(a, b)] m r' hm _ (h.below B0.out) (rowS_one w a b 1))
  obtain ⟨A1, cap1, rfl⟩ := h.len
  clear h hr hm
  go_enter Try.func29, Try.ntmps29
  go_wp2_with fail
  refine ON.out.mono ?_
  rintro e V ⟨rfl, rfl⟩
  go_wp2_with fail
  refine CM.out.mono ?_
  rintro e W1 ⟨u, rfl, hu⟩
  have RM := Lib.hid (hu.rowS (by omega))
  have B1 := Lib.hid (below_next B0.out hu.below)
  obtain ⟨A2, cap2, rfl⟩ := hu.len
  clear hu CM ON
  go_wp2_with fail
  go_loopw [10, 23] (fun nv iv wr => ∃ i : Nat, i ≤ m.length ∧ iv = .int .i64 i ∧ nv = .int .i64 (Bk.sumL (m.take i)) ∧ Hid (Below W1.heap.size W1 wr)) (fun _ iv _ => m.length - (intOf iv).toNat)
  case atStart => exact ⟨0, by omega, rfl, rfl, Lib.hid (Below.refl _ _)⟩
  case round =>
    obtain ⟨i, hi, rfl, rfl, hb⟩ := hrel
    by_cases lt : i < m.length
    · have e0 : decide ((i : Int) < (m.length : Int)) = true := by rw [decide_eq_true_iff]; omega
      have wi : IntKind.i64.wrap ((i : Int) + 1) = (i : Int) + 1 := by rw [IntKind.wrap_i64]; omega
      obtain ⟨b', o, e1, c1, c2⟩ := (RM.out.below hb.out).at lt
      subst e1
      have OX := okS_at OS.out lt
      have ST := Bk.sumL_take lt
      have S0 := Bk.sumL_small OS.out (by omega) i
      have S1 := Bk.sumL_small OS.out (by omega) (i + 1)
      obtain ⟨x, hx⟩ : ∃ x, m.getD i (0, 0) = x := ⟨_, rfl⟩
      rw [hx] at c1 c2 OX ST
      obtain ⟨x1, x2⟩ := x
      simp only at c1 c2 OX ST
      obtain ⟨s, hs⟩ : ∃ s, Bk.sumL (m.take i) = s := ⟨_, rfl⟩
      obtain ⟨s', hs'⟩ : ∃ s, Bk.sumL (m.take (i + 1)) = s := ⟨_, rfl⟩
      rw [hs] at ST S0 ⊢
      rw [hs'] at ST S1
      have HS := Lib.hid hs'
      have w1' : IntKind.i64.wrap (x2 - x1) = x2 - x1 := by rw [IntKind.wrap_i64]; omega
      have w2' : IntKind.i64.wrap (x2 - x1 + 1) = x2 - x1 + 1 := by rw [IntKind.wrap_i64]; omega
      have w3' : IntKind.i64.wrap (s + (x2 - x1 + 1)) = s' := by rw [IntKind.wrap_i64]; omega
      have HB := Lib.hid (below_new hb.out (.cells #[.int .i64 x1, .int .i64 x2] 27) (Nat.le_refl _))
      clear hx hs hs' ST S0 S1 OX
      go_wp2_with fail
      go_roundw
      case rel => exact ⟨i + 1, by omega, by go_num, by rw [HS.out], HB⟩
      case measure => simp [intOf]; omega
    · have e0 : decide ((i : Int) < (m.length : Int)) = false := by rw [decide_eq_false_iff_not]; omega
      obtain rfl : i = m.length := by omega
      rw [List.take_length, SM.out]
      clear lt hi
      go_wp2_with fail
      go_ret2
      exact ⟨rfl, below_next B1.out hb.out⟩
end Go.Proofs.Ytodjipbkeddbcaa
