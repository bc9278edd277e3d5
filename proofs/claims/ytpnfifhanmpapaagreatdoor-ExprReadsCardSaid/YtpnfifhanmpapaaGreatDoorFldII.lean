/- The document's one: reading an item. Written by FldII.gen.py. -/
import Derived.Test.YtpnfifhanmpapaaGreatDoorMRefG
import Derived.Test.YtpnfifhanmpapaaGreatDoorMRefC
namespace Go.Proofs.YtpnfifhanmpapaaGreatDoor
open Go.ChangeShapes Go.WideShapes Go.RowKit Go.Shelf

/-- the blocks of a call of one: the kind, the result's cell, the item -/
structure OB (w W : World) (K : Fld.Kd) (v : Value) (xs : List ByteArray) (d : DI) : Prop where
  below : Below w.heap.size w W
  strs : IsStrs W v xs
  sz : w.heap.size + 1 + 1 < W.heap.size
  kind : W.heap[w.heap.size]? = some (.cells #[.int .i64 K.lo, .int .i64 K.hi, v, .bool K.week] 95 (0, 0))
  res : W.heap[w.heap.size + 1]? = some (.cells (DI.cells ⟨false, 0, 0, 0, 0, 0, 0⟩).toArray 150 (0, 0))
  blk : W.heap[w.heap.size + 1 + 1]? = some (.cells d.cells.toArray 150 (0, 0))
theorem OB.new (w : World) (K : Fld.Kd) (v : Value) (xs : List ByteArray) (d : DI) (hv : IsStrs w v xs) : OB w (((w.alloc (.cells #[.int .i64 K.lo, .int .i64 K.hi, v, .bool K.week] 95)).alloc (.cells (DI.cells ⟨false, 0, 0, 0, 0, 0, 0⟩).toArray 150)).alloc (.cells d.cells.toArray 150)) K v xs d := by
  have B1 : Below w.heap.size w (((w.alloc (.cells #[.int .i64 K.lo, .int .i64 K.hi, v, .bool K.week] 95)).alloc (.cells (DI.cells ⟨false, 0, 0, 0, 0, 0, 0⟩).toArray 150)).alloc (.cells d.cells.toArray 150)) :=
    (((Below.refl _ w).alloc (Nat.le_refl _) _).alloc (by simp) _).alloc (by simp; omega) _
  refine ⟨B1, hv.below B1, by simp, ?_, ?_, ?_⟩
  · rw [Below.heap_alloc _ _ _ (by simp; omega), Below.heap_alloc _ _ _ (by simp)]; exact World.alloc_heap_new w _
  · rw [Below.heap_alloc _ _ _ (by simp)]; simpa using World.alloc_heap_new (w.alloc (.cells #[.int .i64 K.lo, .int .i64 K.hi, v, .bool K.week] 95)) (.cells (DI.cells ⟨false, 0, 0, 0, 0, 0, 0⟩).toArray 150)
  · simpa using World.alloc_heap_new ((w.alloc (.cells #[.int .i64 K.lo, .int .i64 K.hi, v, .bool K.week] 95)).alloc (.cells (DI.cells ⟨false, 0, 0, 0, 0, 0, 0⟩).toArray 150)) (.cells d.cells.toArray 150)
theorem OB.next {w W W' : World} {K : Fld.Kd} {v : Value} {xs : List ByteArray} {d : DI} (h : OB w W K v xs d) (hb : Below W.heap.size W W') : OB w W' K v xs d :=
  ⟨h.below.trans (hb.mono h.below.size), h.strs.below hb, Nat.lt_of_lt_of_le h.sz hb.size, (hb.block _ (by have := h.sz; omega)).trans h.kind, (hb.block _ (by have := h.sz; omega)).trans h.res, (hb.block _ h.sz).trans h.blk⟩
theorem OB.set {w W : World} {K : Fld.Kd} {v : Value} {xs : List ByteArray} {d d' : DI} (h : OB w W K v xs d) (hv : ∀ b o n c, v = .slice (some ⟨b, o, none⟩) n c → 0 < n → b < w.heap.size) (j : Nat) (u : Value) (e : d.cells.toArray.setIfInBounds j u = d'.cells.toArray) : OB w (W.setCell ⟨w.heap.size + 1 + 1, j, none⟩ u) K v xs d' := by
  refine ⟨h.below.setCell (show w.heap.size ≤ w.heap.size + 1 + 1 by omega) _, (Only.set _ _ _ _).lay h.strs (fun b o n c e hn q => by have := hv b o n c e hn; omega), by simpa [World.setCell] using h.sz, ?_, ?_, ?_⟩
  · exact (Below.heap_setCell _ _ _ _ (show w.heap.size ≠ w.heap.size + 1 + 1 by omega)).trans h.kind
  · exact (Below.heap_setCell _ _ _ _ (show w.heap.size + 1 ≠ w.heap.size + 1 + 1 by omega)).trans h.res
  · obtain ⟨hlt, hk⟩ := Array.getElem?_eq_some_iff.1 h.blk
    show (W.heap.modify (w.heap.size + 1 + 1) _)[w.heap.size + 1 + 1]? = _
    rw [Array.getElem?_eq_getElem (by rw [Array.size_modify]; exact hlt), Array.getElem_modify_self, hk]
    simp [e]
theorem frozen_no {W : World} {B : Nat} {t : TypeId} {c : Array Value} (h : W.heap[B]? = some (.cells c t (0, 0))) (k : Nat) : W.frozen? ⟨B, k, none⟩ = false := by simp [World.frozen?, h]
theorem obj_cell {W : World} {B : Nat} {t : TypeId} {c : Array Value} (h : W.heap[B]? = some (.cells c t (0, 0))) (j : Nat) (u : Value) (hu : c[j]? = some u) : W.cell? ⟨B, j, none⟩ = some u := by simp [World.cell?, h, hu]
theorem OB.bc {w W : World} {K : Fld.Kd} {v : Value} {xs : List ByteArray} {d : DI} (h : OB w W K v xs d) : W.cell? ⟨w.heap.size + 1 + 1, 0, none⟩ = some (.bool d.star) ∧ W.cell? ⟨w.heap.size + 1 + 1, 1, none⟩ = some (.int .i64 d.a) ∧ W.cell? ⟨w.heap.size + 1 + 1, 2, none⟩ = some (.int .i64 d.b) ∧ W.cell? ⟨w.heap.size + 1 + 1, 3, none⟩ = some (.int .i64 d.c) ∧ W.cell? ⟨w.heap.size + 1 + 1, 4, none⟩ = some (.int .i64 d.p) ∧ W.cell? ⟨w.heap.size + 1 + 1, 5, none⟩ = some (.int .i64 d.q) ∧ W.cell? ⟨w.heap.size + 1 + 1, 6, none⟩ = some (.int .i64 d.r) :=
  ⟨obj_cell h.blk 0 _ rfl, obj_cell h.blk 1 _ rfl, obj_cell h.blk 2 _ rfl, obj_cell h.blk 3 _ rfl, obj_cell h.blk 4 _ rfl, obj_cell h.blk 5 _ rfl, obj_cell h.blk 6 _ rfl⟩
theorem OB.rc {w W : World} {K : Fld.Kd} {v : Value} {xs : List ByteArray} {d : DI} (h : OB w W K v xs d) : W.cell? ⟨w.heap.size + 1, 0, none⟩ = some (.bool false) ∧ W.cell? ⟨w.heap.size + 1, 1, none⟩ = some (.int .i64 0) ∧ W.cell? ⟨w.heap.size + 1, 2, none⟩ = some (.int .i64 0) ∧ W.cell? ⟨w.heap.size + 1, 3, none⟩ = some (.int .i64 0) ∧ W.cell? ⟨w.heap.size + 1, 4, none⟩ = some (.int .i64 0) ∧ W.cell? ⟨w.heap.size + 1, 5, none⟩ = some (.int .i64 0) ∧ W.cell? ⟨w.heap.size + 1, 6, none⟩ = some (.int .i64 0) :=
  ⟨obj_cell h.res 0 _ rfl, obj_cell h.res 1 _ rfl, obj_cell h.res 2 _ rfl, obj_cell h.res 3 _ rfl, obj_cell h.res 4 _ rfl, obj_cell h.res 5 _ rfl, obj_cell h.res 6 _ rfl⟩
theorem OB.kc {w W : World} {K : Fld.Kd} {v : Value} {xs : List ByteArray} {d : DI} (h : OB w W K v xs d) : W.cell? ⟨w.heap.size, 0, none⟩ = some (.int .i64 K.lo) ∧ W.cell? ⟨w.heap.size, 1, none⟩ = some (.int .i64 K.hi) ∧ W.cell? ⟨w.heap.size, 2, none⟩ = some v ∧ W.cell? ⟨w.heap.size, 3, none⟩ = some (.bool K.week) :=
  ⟨obj_cell h.kind 0 _ rfl, obj_cell h.kind 1 _ rfl, obj_cell h.kind 2 _ rfl, obj_cell h.kind 3 _ rfl⟩
theorem OB.fz {w W : World} {K : Fld.Kd} {v : Value} {xs : List ByteArray} {d : DI} (h : OB w W K v xs d) : (∀ k, W.frozen? ⟨w.heap.size + 1 + 1, k, none⟩ = false) ∧ (∀ k, W.frozen? ⟨w.heap.size + 1, k, none⟩ = false) := ⟨frozen_no h.blk, frozen_no h.res⟩
theorem strs_old {w : World} {v : Value} {xs : List ByteArray} (h : IsStrs w v xs) : ∀ b o n c, v = .slice (some ⟨b, o, none⟩) n c → 0 < n → b < w.heap.size := by
  intro b o n c e hn
  obtain ⟨A, cap, e2, _, hp⟩ := h
  rw [e2] at e
  simp only [Value.slice.injEq] at e
  obtain ⟨rfl, rfl, rfl⟩ := e
  obtain ⟨b', o', e3, hb, _⟩ := hp hn
  cases e3
  exact hb
theorem bel_set {B : Nat} {a w : World} (b j : Nat) (u : Value) (h : Below B a w) (hp : B ≤ b) : Below B a (w.setCell ⟨b, j, none⟩ u) := h.setCell hp u
/-- what one gives -/
def OneOut (K : Fld.Kd) (s : ByteArray) (a : Nat) (w : World) (e : Ending) (w' : World) : Prop := ∃ (d : DI) (q : Nat) (ok : Bool), e = .returned (.tuple #[d.val, .int .i64 q, .bool ok]) ∧ OneRes K s a d q ok ∧ Below w.heap.size w w'
/-- the call's answer -/
theorem ret_one {d d' : DI} {q q' : Int} {ok : Bool} (h : d = d') (h2 : q = q') : Ending.returned (.tuple #[d.val, .int .i64 q, .bool ok]) = .returned (.tuple #[d'.val, .int .i64 q', .bool ok]) := by rw [h, h2]
theorem byte_at (s : ByteArray) (e c : Nat) : (∃ h : e < s.size, s[e].toNat = c) ∨ (∃ h : e < s.size, s[e].toNat ≠ c) ∨ s.size ≤ e := by
  rcases Nat.lt_or_ge e s.size with h | h
  · by_cases q : s[e].toNat = c
    · exact .inl ⟨h, q⟩
    · exact .inr (.inl ⟨h, q⟩)
  · exact .inr (.inr h)
theorem num_res (s : ByteArray) (a : Nat) : ∃ n b ok, NumRes s a n b ok := by
  cases h : Fld.num (s.data.toList.drop a) with
  | none => exact ⟨0, a, false, .inl ⟨h, rfl, rfl, rfl⟩⟩
  | some p =>
    obtain ⟨n, k⟩ := p
    exact ⟨n, a + k, true, .inr ⟨k, h, rfl, rfl⟩⟩
theorem num_call (s : ByteArray) (a n b : Nat) (ok : Bool) (x : Int) (hx : x = a) (w : World) (ha : a ≤ s.size) (hs : s.size ≤ 9223372036854775000) (h : NumRes s a n b ok) :
    Calls Tryz.prog 147 #[.string s, .int .i64 x] w fun e w' => e = .returned (.tuple #[.int .i64 n, .int .i64 b, .bool ok]) ∧ w = w' := by
  subst hx
  exact numberR_any s a n b ok w ha hs h
theorem val_call (K : Fld.Kd) (v : Value) (xs : List ByteArray) (s : ByteArray) (a n b : Nat) (ok : Bool) (x : Int) (hx : x = a) (w : World) (hv : IsStrs w v xs) (hk : KdIs K.lo K.hi xs K.week K) (ha : a ≤ s.size) (hs : s.size ≤ 9223372036854775000) (h : ValRes K s a n b ok) :
    Calls Tryz.prog 146 #[.agg #[.int .i64 K.lo, .int .i64 K.hi, v, .bool K.week], .string s, .int .i64 x] w fun e w' => e = .returned (.tuple #[.int .i64 n, .int .i64 b, .bool ok]) ∧ Below w.heap.size w w' := by
  subst hx
  exact valueR_any K v xs s a n b ok w hv hk ha hs h
theorem eq_byte {s : ByteArray} {e c : Nat} (h : e < s.size) (hc : s[e].toNat = c) (h2 : c < 256) : s[e] = UInt8.ofNat c := (byte_eq h2).2 hc
theorem ne_byte {s : ByteArray} {e c : Nat} (h2 : c < 256) (h : (∃ h : e < s.size, s[e].toNat ≠ c) ∨ s.size ≤ e) : ∀ h : e < s.size, s[e] ≠ UInt8.ofNat c := by
  intro h3
  rcases h with ⟨_, q⟩ | q
  · exact (byte_ne h2).2 q
  · omega
set_option maxRecDepth 100000 in
set_option maxHeartbeats 4000000 in
theorem oneR_star (K : Fld.Kd) (v : Value) (xs : List ByteArray) (s : ByteArray) (a : Nat) (w : World) (hv : IsStrs w v xs) (_hk : KdIs K.lo K.hi xs K.week K) (_ha : a ≤ s.size) (hs : s.size ≤ 1000) (hst : ∃ h : a < s.size, s[a].toNat = 42) :
    Calls Tryz.prog 115 #[.agg #[.int .i64 K.lo, .int .i64 K.hi, v, .bool K.week], .string s, .int .i64 a] w (OneOut K s a w) := by
  have X := Lib.hid (OB.new w K v xs ⟨false, -1, -1, -1, a, 0, 0⟩ hv)
  have VO := Lib.hid (strs_old hv)
  obtain ⟨A, cap, rfl, _, _⟩ := hv
  obtain ⟨h1, hc⟩ := hst
  have IT := Lib.hid (item_star (K := K) h1 (eq_byte h1 hc (by decide)))
  rcases byte_at s (a + 1) 47 with ⟨g1, gc⟩ | g
  · obtain ⟨n, b, ok, hn⟩ := num_res s (a + 1 + 1)
    have NU := Lib.hid (fun x hx w => num_call s (a + 1 + 1) n b ok x hx w (by omega) (by omega) hn)
    have RES : Hid (OneRes K s a ⟨true, -1, -1, n, a, 0, (a : Int) + 1 + 1⟩ b ok) := Lib.hid (by
      rcases hn with ⟨e, rfl, rfl, rfl⟩ | ⟨k, e, rfl, rfl⟩
      · exact one_f _ (by rw [IT.out, rNums_t g1 (eq_byte g1 gc (by decide)), rStep_f e])
      · exact one_t (by rw [IT.out, rNums_t g1 (eq_byte g1 gc (by decide)), rStep_t e]) (.inl ⟨rfl, rfl, rfl, rfl, rfl, .inr ⟨rfl, rfl⟩⟩))
    clear hn IT
    have u1 : decide ((a : Int) < (s.size : Int)) = true := by rw [decide_eq_true_iff]; omega
    have v1 : decide (a < s.size) = true := by rw [decide_eq_true_iff]; omega
    have i1 : (0 : Int) ≤ (a : Int) := by omega
    have j1 : (a : Int) < (s.size : Int) := by omega
    have y1 : ((s[a].toNat : Int) == 42) = true := by rw [beq_iff_eq]; omega
    have z1 : (s[a].toNat == 42) = true := by rw [beq_iff_eq]; omega
    have u2 : decide (((a : Int) + 1) < (s.size : Int)) = true := by rw [decide_eq_true_iff]; omega
    have v2 : decide (a + 1 < s.size) = true := by rw [decide_eq_true_iff]; omega
    have i2 : (0 : Int) ≤ ((a : Int) + 1) := by omega
    have j2 : ((a : Int) + 1) < (s.size : Int) := by omega
    have y2 : ((s[a + 1].toNat : Int) == 47) = true := by rw [beq_iff_eq]; omega
    have z2 : (s[a + 1].toNat == 47) = true := by rw [beq_iff_eq]; omega
    clear hc gc
    go_enter Tryz.func115, Tryz.ntmps115
    go_wp2_with fail
    refine (NU.out _ (by omega) _).mono ?_
    rintro e w1 ⟨rfl, rfl⟩
    go_wp2_with fail
    refine bodyPost_ret (v := .tuple #[DI.val ⟨true, -1, -1, n, a, 0, (a : Int) + 1 + 1⟩, .int .i64 b, .bool ok]) (by simp [DI.val, results, Tryz.results115, go_sem]) rfl ⟨⟨true, -1, -1, n, a, 0, (a : Int) + 1 + 1⟩, _, ok, rfl, RES.out, ?_⟩
    exact three_below _ _ _ _

  · have RES : Hid (OneRes K s a ⟨true, -1, -1, -1, a, 0, 0⟩ (a + 1) true) := Lib.hid (one_t (by rw [IT.out, rNums_f (ne_byte (by decide) g)]) (.inl ⟨rfl, rfl, rfl, rfl, rfl, .inl ⟨rfl, rfl⟩⟩))
    clear IT
    have u3 : decide ((a : Int) < (s.size : Int)) = true := by rw [decide_eq_true_iff]; omega
    have v3 : decide (a < s.size) = true := by rw [decide_eq_true_iff]; omega
    have i3 : (0 : Int) ≤ (a : Int) := by omega
    have j3 : (a : Int) < (s.size : Int) := by omega
    have y3 : ((s[a].toNat : Int) == 42) = true := by rw [beq_iff_eq]; omega
    have z3 : (s[a].toNat == 42) = true := by rw [beq_iff_eq]; omega
    clear hc
    rcases g with ⟨g1, gc⟩ | g1
    · have u4 : decide (((a : Int) + 1) < (s.size : Int)) = true := by rw [decide_eq_true_iff]; omega
      have v4 : decide (a + 1 < s.size) = true := by rw [decide_eq_true_iff]; omega
      have i4 : (0 : Int) ≤ ((a : Int) + 1) := by omega
      have j4 : ((a : Int) + 1) < (s.size : Int) := by omega
      have y4 : ((s[a + 1].toNat : Int) == 47) = false := by rw [beq_eq_false_iff_ne]; omega
      have z4 : (s[a + 1].toNat == 47) = false := by rw [beq_eq_false_iff_ne]; omega
      clear gc
      go_enter Tryz.func115, Tryz.ntmps115
      go_wp2_with fail
      refine bodyPost_ret (v := .tuple #[DI.val ⟨true, -1, -1, -1, a, 0, 0⟩, .int .i64 ((a : Int) + 1), .bool true]) (by simp [DI.val, results, Tryz.results115, go_sem]) rfl ⟨⟨true, -1, -1, -1, a, 0, 0⟩, _, true, rfl, RES.out, ?_⟩
      exact three_below _ _ _ _

    · have u5 : decide (((a : Int) + 1) < (s.size : Int)) = false := by rw [decide_eq_false_iff_not]; omega
      have v5 : decide (a + 1 < s.size) = false := by rw [decide_eq_false_iff_not]; omega
      go_enter Tryz.func115, Tryz.ntmps115
      go_wp2_with fail
      refine bodyPost_ret (v := .tuple #[DI.val ⟨true, -1, -1, -1, a, 0, 0⟩, .int .i64 ((a : Int) + 1), .bool true]) (by simp [DI.val, results, Tryz.results115, go_sem]) rfl ⟨⟨true, -1, -1, -1, a, 0, 0⟩, _, true, rfl, RES.out, ?_⟩
      exact three_below _ _ _ _
set_option maxRecDepth 100000 in
set_option maxHeartbeats 4000000 in
theorem oneR_value (K : Fld.Kd) (v : Value) (xs : List ByteArray) (s : ByteArray) (a : Nat) (w : World) (hv : IsStrs w v xs) (hk : KdIs K.lo K.hi xs K.week K) (ha : a ≤ s.size) (hs : s.size ≤ 1000) (hst : (∃ h : a < s.size, s[a].toNat ≠ 42) ∨ s.size ≤ a) :
    Calls Tryz.prog 115 #[.agg #[.int .i64 K.lo, .int .i64 K.hi, v, .bool K.week], .string s, .int .i64 a] w (OneOut K s a w) := by
  have X := Lib.hid (OB.new w K v xs ⟨false, -1, -1, -1, a, 0, 0⟩ hv)
  have VO := Lib.hid (strs_old hv)
  obtain ⟨A, cap, rfl, _, _⟩ := hv
  rcases hst with ⟨h1, hc⟩ | h1
  · cases hvv : Fld.value K (s.data.toList.drop a) with
    | none =>
      have hvn := hvv
      clear hvv
      have IT := Lib.hid (item_f (K := K) (ne_byte (by decide) (.inl ⟨h1, hc⟩)) hvn)
      have RES : Hid (OneRes K s a ⟨false, 0, -1, -1, a, 0, 0⟩ a false) := Lib.hid (one_f _ IT.out)
      have VA := Lib.hid (fun x hx w hv => val_call K (.slice A xs.length cap) xs s a 0 a false x hx w hv hk ha (by omega) (.inl ⟨hvn, rfl, rfl, rfl⟩))
      clear hvn IT
      have u6 : decide ((a : Int) < (s.size : Int)) = true := by rw [decide_eq_true_iff]; omega
      have v6 : decide (a < s.size) = true := by rw [decide_eq_true_iff]; omega
      have i6 : (0 : Int) ≤ (a : Int) := by omega
      have j6 : (a : Int) < (s.size : Int) := by omega
      have y6 : ((s[a].toNat : Int) == 42) = false := by rw [beq_eq_false_iff_ne]; omega
      have z6 : (s[a].toNat == 42) = false := by rw [beq_eq_false_iff_ne]; omega
      clear hc
      go_enter Tryz.func115, Tryz.ntmps115
      go_wp2_with fail
      refine (VA.out _ rfl _ X.out.strs).mono ?_
      rintro e w1 ⟨rfl, hb⟩
      have X := Lib.hid (X.out.next hb)
      clear hb VA
      obtain ⟨b0, b1, b2, b3, b4, b5, b6⟩ := X.out.bc
      obtain ⟨r0, r1, r2, r3, r4, r5, r6⟩ := X.out.rc
      obtain ⟨fb, fr⟩ := X.out.fz
      obtain ⟨k0, k1, k2, k3⟩ := X.out.kc
      have sz := X.out.sz
      go_wp2_with fail
      refine bodyPost_ret (v := .tuple #[DI.val ⟨false, 0, -1, -1, a, 0, 0⟩, .int .i64 a, .bool false]) (by simp [DI.val, results, Tryz.results115, go_sem, r0, r1, r2, r3, r4, r5, r6]) rfl ⟨⟨false, 0, -1, -1, a, 0, 0⟩, _, false, rfl, RES.out, ?_⟩
      repeat refine bel_set _ _ _ ?_ (by omega)
      exact X.out.below

    | some nk =>
      obtain ⟨n, k1⟩ := nk
      have hvs := hvv
      clear hvv
      have hkl := (Fld.value_len hvs).2
      rw [List.length_drop, ← Lib.size_eq] at hkl
      have IT0 := item_t (K := K) (ne_byte (by decide) (.inl ⟨h1, hc⟩)) hvs
      obtain ⟨b, hb⟩ : ∃ b, b = a + k1 := ⟨_, rfl⟩
      rw [← hb] at IT0
      have VA := Lib.hid (fun x hx w hv => val_call K (.slice A xs.length cap) xs s a n b true x hx w hv hk ha (by omega) (.inr ⟨k1, hvs, hb, rfl⟩))
      have hbs : b ≤ s.size := by omega
      have IT := Lib.hid IT0
      clear IT0 hvs hkl hb
      rcases byte_at s b 45 with ⟨p1, pc⟩ | ⟨p1, pc⟩ | p1
      · have IM := (IT.out.trans (rVal_m p1 (eq_byte p1 pc (by decide))))
        cases hw : Fld.value K (s.data.toList.drop (b + 1)) with
        | none =>
          have RES : Hid (OneRes K s a ⟨false, n, 0, -1, a, (b : Int) + 1, 0⟩ (b + 1) false) := Lib.hid (one_f _ (IM.trans (rSec_f hw)))
          have VB := Lib.hid (fun x hx w hv => val_call K (.slice A xs.length cap) xs s (b + 1) 0 (b + 1) false x hx w hv hk (by omega) (by omega) (.inl ⟨hw, rfl, rfl, rfl⟩))
          clear hw IM IT
          have u7 : decide ((a : Int) < (s.size : Int)) = true := by rw [decide_eq_true_iff]; omega
          have v7 : decide (a < s.size) = true := by rw [decide_eq_true_iff]; omega
          have i7 : (0 : Int) ≤ (a : Int) := by omega
          have j7 : (a : Int) < (s.size : Int) := by omega
          have y7 : ((s[a].toNat : Int) == 42) = false := by rw [beq_eq_false_iff_ne]; omega
          have z7 : (s[a].toNat == 42) = false := by rw [beq_eq_false_iff_ne]; omega
          have u8 : decide ((b : Int) < (s.size : Int)) = true := by rw [decide_eq_true_iff]; omega
          have v8 : decide (b < s.size) = true := by rw [decide_eq_true_iff]; omega
          have i8 : (0 : Int) ≤ (b : Int) := by omega
          have j8 : (b : Int) < (s.size : Int) := by omega
          have y8 : ((s[b].toNat : Int) == 45) = true := by rw [beq_iff_eq]; omega
          have z8 : (s[b].toNat == 45) = true := by rw [beq_iff_eq]; omega
          clear hc pc
          go_enter Tryz.func115, Tryz.ntmps115
          go_wp2_with fail
          refine (VA.out _ rfl _ X.out.strs).mono ?_
          rintro e w1 ⟨rfl, hb⟩
          have X := Lib.hid (X.out.next hb)
          clear hb VA
          obtain ⟨b0, b1, b2, b3, b4, b5, b6⟩ := X.out.bc
          obtain ⟨r0, r1, r2, r3, r4, r5, r6⟩ := X.out.rc
          obtain ⟨fb, fr⟩ := X.out.fz
          obtain ⟨k0, k1, k2, k3⟩ := X.out.kc
          have sz := X.out.sz
          go_wp2_with fail
          refine (VB.out _ (by omega) _ ((X.out.set (d' := ⟨false, n, -1, -1, a, 0, 0⟩) VO.out 1 (.int .i64 n) rfl).set (d' := ⟨false, n, -1, -1, a, (b : Int) + 1, 0⟩) VO.out 5 (.int .i64 ((b : Int) + 1)) rfl).strs).mono ?_
          rintro e w2 ⟨rfl, hb⟩
          have X := Lib.hid (((X.out.set (d' := ⟨false, n, -1, -1, a, 0, 0⟩) VO.out 1 (.int .i64 n) rfl).set (d' := ⟨false, n, -1, -1, a, (b : Int) + 1, 0⟩) VO.out 5 (.int .i64 ((b : Int) + 1)) rfl).next hb)
          clear hb VB b0 b1 b2 b3 b4 b5 b6 r0 r1 r2 r3 r4 r5 r6 fb fr k0 k1 k2 k3 sz
          obtain ⟨b0, b1, b2, b3, b4, b5, b6⟩ := X.out.bc
          obtain ⟨r0, r1, r2, r3, r4, r5, r6⟩ := X.out.rc
          obtain ⟨fb, fr⟩ := X.out.fz
          obtain ⟨k0, k1, k2, k3⟩ := X.out.kc
          have sz := X.out.sz
          go_wp2_with fail
          refine bodyPost_ret (v := .tuple #[DI.val ⟨false, n, 0, -1, a, (b : Int) + 1, 0⟩, .int .i64 ((b + 1 : Nat) : Int), .bool false]) (by simp [DI.val, results, Tryz.results115, go_sem, r0, r1, r2, r3, r4, r5, r6]) rfl ⟨⟨false, n, 0, -1, a, (b : Int) + 1, 0⟩, _, false, rfl, RES.out, ?_⟩
          repeat refine bel_set _ _ _ ?_ (by omega)
          exact X.out.below

        | some mk =>
          obtain ⟨m, k2⟩ := mk
          have hkl := (Fld.value_len hw).2
          rw [List.length_drop, ← Lib.size_eq] at hkl
          obtain ⟨c, hcc⟩ : ∃ c, c = b + 1 + k2 := ⟨_, rfl⟩
          have IM := IM.trans (rSec_t hw)
          rw [← hcc] at IM
          have IM := Lib.hid IM
          have VB := Lib.hid (fun x hx w hv => val_call K (.slice A xs.length cap) xs s (b + 1) m c true x hx w hv hk (by omega) (by omega) (.inr ⟨k2, hw, hcc, rfl⟩))
          have hcs : c ≤ s.size := by omega
          clear hw hkl hcc IT
          have IT := IM
          clear IM
          rcases byte_at s c 47 with ⟨g1, gc⟩ | ⟨g1, gc⟩ | g1
          · obtain ⟨n2, e2, ok2, hn2⟩ := num_res s (c + 1)
            have NU := Lib.hid (fun x hx w => num_call s (c + 1) n2 e2 ok2 x hx w (by omega) (by omega) hn2)
            have RES : Hid (OneRes K s a ⟨false, n, m, n2, a, (b : Int) + 1, (c : Int) + 1⟩ e2 ok2) := Lib.hid (by
              rcases hn2 with ⟨e, rfl, rfl, rfl⟩ | ⟨k, e, rfl, rfl⟩
              · exact one_f _ (by rw [IT.out, rNums_t g1 (eq_byte g1 gc (by decide)), rStep_f e])
              · exact one_t (by rw [IT.out, rNums_t g1 (eq_byte g1 gc (by decide)), rStep_t e]) (.inr (.inr ⟨rfl, rfl, rfl, rfl, rfl, .inr ⟨rfl, rfl⟩⟩)))
            clear hn2 IT
            have u9 : decide ((a : Int) < (s.size : Int)) = true := by rw [decide_eq_true_iff]; omega
            have v9 : decide (a < s.size) = true := by rw [decide_eq_true_iff]; omega
            have i9 : (0 : Int) ≤ (a : Int) := by omega
            have j9 : (a : Int) < (s.size : Int) := by omega
            have y9 : ((s[a].toNat : Int) == 42) = false := by rw [beq_eq_false_iff_ne]; omega
            have z9 : (s[a].toNat == 42) = false := by rw [beq_eq_false_iff_ne]; omega
            have u10 : decide ((b : Int) < (s.size : Int)) = true := by rw [decide_eq_true_iff]; omega
            have v10 : decide (b < s.size) = true := by rw [decide_eq_true_iff]; omega
            have i10 : (0 : Int) ≤ (b : Int) := by omega
            have j10 : (b : Int) < (s.size : Int) := by omega
            have y10 : ((s[b].toNat : Int) == 45) = true := by rw [beq_iff_eq]; omega
            have z10 : (s[b].toNat == 45) = true := by rw [beq_iff_eq]; omega
            have u11 : decide ((c : Int) < (s.size : Int)) = true := by rw [decide_eq_true_iff]; omega
            have v11 : decide (c < s.size) = true := by rw [decide_eq_true_iff]; omega
            have i11 : (0 : Int) ≤ (c : Int) := by omega
            have j11 : (c : Int) < (s.size : Int) := by omega
            have y11 : ((s[c].toNat : Int) == 47) = true := by rw [beq_iff_eq]; omega
            have z11 : (s[c].toNat == 47) = true := by rw [beq_iff_eq]; omega
            clear hc pc gc
            go_enter Tryz.func115, Tryz.ntmps115
            go_wp2_with fail
            refine (VA.out _ rfl _ X.out.strs).mono ?_
            rintro e w1 ⟨rfl, hb⟩
            have X := Lib.hid (X.out.next hb)
            clear hb VA
            obtain ⟨b0, b1, b2, b3, b4, b5, b6⟩ := X.out.bc
            obtain ⟨r0, r1, r2, r3, r4, r5, r6⟩ := X.out.rc
            obtain ⟨fb, fr⟩ := X.out.fz
            obtain ⟨k0, k1, k2, k3⟩ := X.out.kc
            have sz := X.out.sz
            go_wp2_with fail
            refine (VB.out _ (by omega) _ ((X.out.set (d' := ⟨false, n, -1, -1, a, 0, 0⟩) VO.out 1 (.int .i64 n) rfl).set (d' := ⟨false, n, -1, -1, a, (b : Int) + 1, 0⟩) VO.out 5 (.int .i64 ((b : Int) + 1)) rfl).strs).mono ?_
            rintro e w2 ⟨rfl, hb⟩
            have X := Lib.hid (((X.out.set (d' := ⟨false, n, -1, -1, a, 0, 0⟩) VO.out 1 (.int .i64 n) rfl).set (d' := ⟨false, n, -1, -1, a, (b : Int) + 1, 0⟩) VO.out 5 (.int .i64 ((b : Int) + 1)) rfl).next hb)
            clear hb VB b0 b1 b2 b3 b4 b5 b6 r0 r1 r2 r3 r4 r5 r6 fb fr k0 k1 k2 k3 sz
            obtain ⟨b0, b1, b2, b3, b4, b5, b6⟩ := X.out.bc
            obtain ⟨r0, r1, r2, r3, r4, r5, r6⟩ := X.out.rc
            obtain ⟨fb, fr⟩ := X.out.fz
            obtain ⟨k0, k1, k2, k3⟩ := X.out.kc
            have sz := X.out.sz
            go_wp2_with fail
            refine (NU.out _ (by omega) _).mono ?_
            rintro e w9 ⟨rfl, rfl⟩
            go_wp2_with fail
            refine bodyPost_ret (v := .tuple #[DI.val ⟨false, n, m, n2, a, (b : Int) + 1, (c : Int) + 1⟩, .int .i64 e2, .bool ok2]) (by simp [DI.val, results, Tryz.results115, go_sem, r0, r1, r2, r3, r4, r5, r6]) rfl ⟨⟨false, n, m, n2, a, (b : Int) + 1, (c : Int) + 1⟩, _, ok2, rfl, RES.out, ?_⟩
            repeat refine bel_set _ _ _ ?_ (by omega)
            exact X.out.below

          · have RES : Hid (OneRes K s a ⟨false, n, m, -1, a, (b : Int) + 1, 0⟩ c true) := Lib.hid (one_t (by rw [IT.out, rNums_f (ne_byte (by decide) (.inl ⟨g1, gc⟩))]) (.inr (.inr ⟨rfl, rfl, rfl, rfl, rfl, .inl ⟨rfl, rfl⟩⟩)))
            clear IT
            have u12 : decide ((a : Int) < (s.size : Int)) = true := by rw [decide_eq_true_iff]; omega
            have v12 : decide (a < s.size) = true := by rw [decide_eq_true_iff]; omega
            have i12 : (0 : Int) ≤ (a : Int) := by omega
            have j12 : (a : Int) < (s.size : Int) := by omega
            have y12 : ((s[a].toNat : Int) == 42) = false := by rw [beq_eq_false_iff_ne]; omega
            have z12 : (s[a].toNat == 42) = false := by rw [beq_eq_false_iff_ne]; omega
            have u13 : decide ((b : Int) < (s.size : Int)) = true := by rw [decide_eq_true_iff]; omega
            have v13 : decide (b < s.size) = true := by rw [decide_eq_true_iff]; omega
            have i13 : (0 : Int) ≤ (b : Int) := by omega
            have j13 : (b : Int) < (s.size : Int) := by omega
            have y13 : ((s[b].toNat : Int) == 45) = true := by rw [beq_iff_eq]; omega
            have z13 : (s[b].toNat == 45) = true := by rw [beq_iff_eq]; omega
            have u14 : decide ((c : Int) < (s.size : Int)) = true := by rw [decide_eq_true_iff]; omega
            have v14 : decide (c < s.size) = true := by rw [decide_eq_true_iff]; omega
            have i14 : (0 : Int) ≤ (c : Int) := by omega
            have j14 : (c : Int) < (s.size : Int) := by omega
            have y14 : ((s[c].toNat : Int) == 47) = false := by rw [beq_eq_false_iff_ne]; omega
            have z14 : (s[c].toNat == 47) = false := by rw [beq_eq_false_iff_ne]; omega
            clear hc pc gc
            go_enter Tryz.func115, Tryz.ntmps115
            go_wp2_with fail
            refine (VA.out _ rfl _ X.out.strs).mono ?_
            rintro e w1 ⟨rfl, hb⟩
            have X := Lib.hid (X.out.next hb)
            clear hb VA
            obtain ⟨b0, b1, b2, b3, b4, b5, b6⟩ := X.out.bc
            obtain ⟨r0, r1, r2, r3, r4, r5, r6⟩ := X.out.rc
            obtain ⟨fb, fr⟩ := X.out.fz
            obtain ⟨k0, k1, k2, k3⟩ := X.out.kc
            have sz := X.out.sz
            go_wp2_with fail
            refine (VB.out _ (by omega) _ ((X.out.set (d' := ⟨false, n, -1, -1, a, 0, 0⟩) VO.out 1 (.int .i64 n) rfl).set (d' := ⟨false, n, -1, -1, a, (b : Int) + 1, 0⟩) VO.out 5 (.int .i64 ((b : Int) + 1)) rfl).strs).mono ?_
            rintro e w2 ⟨rfl, hb⟩
            have X := Lib.hid (((X.out.set (d' := ⟨false, n, -1, -1, a, 0, 0⟩) VO.out 1 (.int .i64 n) rfl).set (d' := ⟨false, n, -1, -1, a, (b : Int) + 1, 0⟩) VO.out 5 (.int .i64 ((b : Int) + 1)) rfl).next hb)
            clear hb VB b0 b1 b2 b3 b4 b5 b6 r0 r1 r2 r3 r4 r5 r6 fb fr k0 k1 k2 k3 sz
            obtain ⟨b0, b1, b2, b3, b4, b5, b6⟩ := X.out.bc
            obtain ⟨r0, r1, r2, r3, r4, r5, r6⟩ := X.out.rc
            obtain ⟨fb, fr⟩ := X.out.fz
            obtain ⟨k0, k1, k2, k3⟩ := X.out.kc
            have sz := X.out.sz
            go_wp2_with fail
            refine bodyPost_ret (v := .tuple #[DI.val ⟨false, n, m, -1, a, (b : Int) + 1, 0⟩, .int .i64 c, .bool true]) (by simp [DI.val, results, Tryz.results115, go_sem, r0, r1, r2, r3, r4, r5, r6]) rfl ⟨⟨false, n, m, -1, a, (b : Int) + 1, 0⟩, _, true, rfl, RES.out, ?_⟩
            repeat refine bel_set _ _ _ ?_ (by omega)
            exact X.out.below

          · have RES : Hid (OneRes K s a ⟨false, n, m, -1, a, (b : Int) + 1, 0⟩ c true) := Lib.hid (one_t (by rw [IT.out, rNums_f (ne_byte (by decide) (.inr g1))]) (.inr (.inr ⟨rfl, rfl, rfl, rfl, rfl, .inl ⟨rfl, rfl⟩⟩)))
            clear IT
            have u15 : decide ((a : Int) < (s.size : Int)) = true := by rw [decide_eq_true_iff]; omega
            have v15 : decide (a < s.size) = true := by rw [decide_eq_true_iff]; omega
            have i15 : (0 : Int) ≤ (a : Int) := by omega
            have j15 : (a : Int) < (s.size : Int) := by omega
            have y15 : ((s[a].toNat : Int) == 42) = false := by rw [beq_eq_false_iff_ne]; omega
            have z15 : (s[a].toNat == 42) = false := by rw [beq_eq_false_iff_ne]; omega
            have u16 : decide ((b : Int) < (s.size : Int)) = true := by rw [decide_eq_true_iff]; omega
            have v16 : decide (b < s.size) = true := by rw [decide_eq_true_iff]; omega
            have i16 : (0 : Int) ≤ (b : Int) := by omega
            have j16 : (b : Int) < (s.size : Int) := by omega
            have y16 : ((s[b].toNat : Int) == 45) = true := by rw [beq_iff_eq]; omega
            have z16 : (s[b].toNat == 45) = true := by rw [beq_iff_eq]; omega
            have u17 : decide ((c : Int) < (s.size : Int)) = false := by rw [decide_eq_false_iff_not]; omega
            have v17 : decide (c < s.size) = false := by rw [decide_eq_false_iff_not]; omega
            clear hc pc
            go_enter Tryz.func115, Tryz.ntmps115
            go_wp2_with fail
            refine (VA.out _ rfl _ X.out.strs).mono ?_
            rintro e w1 ⟨rfl, hb⟩
            have X := Lib.hid (X.out.next hb)
            clear hb VA
            obtain ⟨b0, b1, b2, b3, b4, b5, b6⟩ := X.out.bc
            obtain ⟨r0, r1, r2, r3, r4, r5, r6⟩ := X.out.rc
            obtain ⟨fb, fr⟩ := X.out.fz
            obtain ⟨k0, k1, k2, k3⟩ := X.out.kc
            have sz := X.out.sz
            go_wp2_with fail
            refine (VB.out _ (by omega) _ ((X.out.set (d' := ⟨false, n, -1, -1, a, 0, 0⟩) VO.out 1 (.int .i64 n) rfl).set (d' := ⟨false, n, -1, -1, a, (b : Int) + 1, 0⟩) VO.out 5 (.int .i64 ((b : Int) + 1)) rfl).strs).mono ?_
            rintro e w2 ⟨rfl, hb⟩
            have X := Lib.hid (((X.out.set (d' := ⟨false, n, -1, -1, a, 0, 0⟩) VO.out 1 (.int .i64 n) rfl).set (d' := ⟨false, n, -1, -1, a, (b : Int) + 1, 0⟩) VO.out 5 (.int .i64 ((b : Int) + 1)) rfl).next hb)
            clear hb VB b0 b1 b2 b3 b4 b5 b6 r0 r1 r2 r3 r4 r5 r6 fb fr k0 k1 k2 k3 sz
            obtain ⟨b0, b1, b2, b3, b4, b5, b6⟩ := X.out.bc
            obtain ⟨r0, r1, r2, r3, r4, r5, r6⟩ := X.out.rc
            obtain ⟨fb, fr⟩ := X.out.fz
            obtain ⟨k0, k1, k2, k3⟩ := X.out.kc
            have sz := X.out.sz
            go_wp2_with fail
            refine bodyPost_ret (v := .tuple #[DI.val ⟨false, n, m, -1, a, (b : Int) + 1, 0⟩, .int .i64 c, .bool true]) (by simp [DI.val, results, Tryz.results115, go_sem, r0, r1, r2, r3, r4, r5, r6]) rfl ⟨⟨false, n, m, -1, a, (b : Int) + 1, 0⟩, _, true, rfl, RES.out, ?_⟩
            repeat refine bel_set _ _ _ ?_ (by omega)
            exact X.out.below

      · by_cases gc : s[b].toNat = 47
        · obtain ⟨n2, e2, ok2, hn2⟩ := num_res s (b + 1)
          have NU := Lib.hid (fun x hx w => num_call s (b + 1) n2 e2 ok2 x hx w (by omega) (by omega) hn2)
          have RES : Hid (OneRes K s a ⟨false, n, -1, n2, a, 0, (b : Int) + 1⟩ e2 ok2) := Lib.hid (by
            rcases hn2 with ⟨e, rfl, rfl, rfl⟩ | ⟨k, e, rfl, rfl⟩
            · exact one_f _ (by rw [IT.out, rVal_s p1 (eq_byte p1 gc (by decide)), rStep_f e])
            · exact one_t (by rw [IT.out, rVal_s p1 (eq_byte p1 gc (by decide)), rStep_t e]) (.inr (.inl ⟨rfl, rfl, rfl, rfl, .inr ⟨rfl, rfl, rfl⟩⟩)))
          clear hn2 IT
          have u18 : decide ((a : Int) < (s.size : Int)) = true := by rw [decide_eq_true_iff]; omega
          have v18 : decide (a < s.size) = true := by rw [decide_eq_true_iff]; omega
          have i18 : (0 : Int) ≤ (a : Int) := by omega
          have j18 : (a : Int) < (s.size : Int) := by omega
          have y18 : ((s[a].toNat : Int) == 42) = false := by rw [beq_eq_false_iff_ne]; omega
          have z18 : (s[a].toNat == 42) = false := by rw [beq_eq_false_iff_ne]; omega
          have u19 : decide ((b : Int) < (s.size : Int)) = true := by rw [decide_eq_true_iff]; omega
          have v19 : decide (b < s.size) = true := by rw [decide_eq_true_iff]; omega
          have i19 : (0 : Int) ≤ (b : Int) := by omega
          have j19 : (b : Int) < (s.size : Int) := by omega
          have y19 : ((s[b].toNat : Int) == 45) = false := by rw [beq_eq_false_iff_ne]; omega
          have z19 : (s[b].toNat == 45) = false := by rw [beq_eq_false_iff_ne]; omega
          have u20 : decide ((b : Int) < (s.size : Int)) = true := by rw [decide_eq_true_iff]; omega
          have v20 : decide (b < s.size) = true := by rw [decide_eq_true_iff]; omega
          have i20 : (0 : Int) ≤ (b : Int) := by omega
          have j20 : (b : Int) < (s.size : Int) := by omega
          have y20 : ((s[b].toNat : Int) == 47) = true := by rw [beq_iff_eq]; omega
          have z20 : (s[b].toNat == 47) = true := by rw [beq_iff_eq]; omega
          clear hc pc gc
          go_enter Tryz.func115, Tryz.ntmps115
          go_wp2_with fail
          refine (VA.out _ rfl _ X.out.strs).mono ?_
          rintro e w1 ⟨rfl, hb⟩
          have X := Lib.hid (X.out.next hb)
          clear hb VA
          obtain ⟨b0, b1, b2, b3, b4, b5, b6⟩ := X.out.bc
          obtain ⟨r0, r1, r2, r3, r4, r5, r6⟩ := X.out.rc
          obtain ⟨fb, fr⟩ := X.out.fz
          obtain ⟨k0, k1, k2, k3⟩ := X.out.kc
          have sz := X.out.sz
          go_wp2_with fail
          refine (NU.out _ (by omega) _).mono ?_
          rintro e w9 ⟨rfl, rfl⟩
          go_wp2_with fail
          refine bodyPost_ret (v := .tuple #[DI.val ⟨false, n, -1, n2, a, 0, (b : Int) + 1⟩, .int .i64 e2, .bool ok2]) (by simp [DI.val, results, Tryz.results115, go_sem, r0, r1, r2, r3, r4, r5, r6]) rfl ⟨⟨false, n, -1, n2, a, 0, (b : Int) + 1⟩, _, ok2, rfl, RES.out, ?_⟩
          repeat refine bel_set _ _ _ ?_ (by omega)
          exact X.out.below

        · have RES : Hid (OneRes K s a ⟨false, n, -1, -1, a, 0, 0⟩ b true) := Lib.hid (one_t (by rw [IT.out, rVal_f (ne_byte (by decide) (.inl ⟨p1, pc⟩)) (ne_byte (by decide) (.inl ⟨p1, gc⟩))]) (.inr (.inl ⟨rfl, rfl, rfl, rfl, .inl ⟨rfl, rfl, rfl⟩⟩)))
          clear IT
          have u21 : decide ((a : Int) < (s.size : Int)) = true := by rw [decide_eq_true_iff]; omega
          have v21 : decide (a < s.size) = true := by rw [decide_eq_true_iff]; omega
          have i21 : (0 : Int) ≤ (a : Int) := by omega
          have j21 : (a : Int) < (s.size : Int) := by omega
          have y21 : ((s[a].toNat : Int) == 42) = false := by rw [beq_eq_false_iff_ne]; omega
          have z21 : (s[a].toNat == 42) = false := by rw [beq_eq_false_iff_ne]; omega
          have u22 : decide ((b : Int) < (s.size : Int)) = true := by rw [decide_eq_true_iff]; omega
          have v22 : decide (b < s.size) = true := by rw [decide_eq_true_iff]; omega
          have i22 : (0 : Int) ≤ (b : Int) := by omega
          have j22 : (b : Int) < (s.size : Int) := by omega
          have y22 : ((s[b].toNat : Int) == 45) = false := by rw [beq_eq_false_iff_ne]; omega
          have z22 : (s[b].toNat == 45) = false := by rw [beq_eq_false_iff_ne]; omega
          have u23 : decide ((b : Int) < (s.size : Int)) = true := by rw [decide_eq_true_iff]; omega
          have v23 : decide (b < s.size) = true := by rw [decide_eq_true_iff]; omega
          have i23 : (0 : Int) ≤ (b : Int) := by omega
          have j23 : (b : Int) < (s.size : Int) := by omega
          have y23 : ((s[b].toNat : Int) == 47) = false := by rw [beq_eq_false_iff_ne]; omega
          have z23 : (s[b].toNat == 47) = false := by rw [beq_eq_false_iff_ne]; omega
          clear hc pc gc
          go_enter Tryz.func115, Tryz.ntmps115
          go_wp2_with fail
          refine (VA.out _ rfl _ X.out.strs).mono ?_
          rintro e w1 ⟨rfl, hb⟩
          have X := Lib.hid (X.out.next hb)
          clear hb VA
          obtain ⟨b0, b1, b2, b3, b4, b5, b6⟩ := X.out.bc
          obtain ⟨r0, r1, r2, r3, r4, r5, r6⟩ := X.out.rc
          obtain ⟨fb, fr⟩ := X.out.fz
          obtain ⟨k0, k1, k2, k3⟩ := X.out.kc
          have sz := X.out.sz
          go_wp2_with fail
          refine bodyPost_ret (v := .tuple #[DI.val ⟨false, n, -1, -1, a, 0, 0⟩, .int .i64 b, .bool true]) (by simp [DI.val, results, Tryz.results115, go_sem, r0, r1, r2, r3, r4, r5, r6]) rfl ⟨⟨false, n, -1, -1, a, 0, 0⟩, _, true, rfl, RES.out, ?_⟩
          repeat refine bel_set _ _ _ ?_ (by omega)
          exact X.out.below

      · have RES : Hid (OneRes K s a ⟨false, n, -1, -1, a, 0, 0⟩ b true) := Lib.hid (one_t (by rw [IT.out, rVal_f (ne_byte (by decide) (.inr p1)) (ne_byte (by decide) (.inr p1))]) (.inr (.inl ⟨rfl, rfl, rfl, rfl, .inl ⟨rfl, rfl, rfl⟩⟩)))
        clear IT
        have u24 : decide ((a : Int) < (s.size : Int)) = true := by rw [decide_eq_true_iff]; omega
        have v24 : decide (a < s.size) = true := by rw [decide_eq_true_iff]; omega
        have i24 : (0 : Int) ≤ (a : Int) := by omega
        have j24 : (a : Int) < (s.size : Int) := by omega
        have y24 : ((s[a].toNat : Int) == 42) = false := by rw [beq_eq_false_iff_ne]; omega
        have z24 : (s[a].toNat == 42) = false := by rw [beq_eq_false_iff_ne]; omega
        have u25 : decide ((b : Int) < (s.size : Int)) = false := by rw [decide_eq_false_iff_not]; omega
        have v25 : decide (b < s.size) = false := by rw [decide_eq_false_iff_not]; omega
        clear hc
        go_enter Tryz.func115, Tryz.ntmps115
        go_wp2_with fail
        refine (VA.out _ rfl _ X.out.strs).mono ?_
        rintro e w1 ⟨rfl, hb⟩
        have X := Lib.hid (X.out.next hb)
        clear hb VA
        obtain ⟨b0, b1, b2, b3, b4, b5, b6⟩ := X.out.bc
        obtain ⟨r0, r1, r2, r3, r4, r5, r6⟩ := X.out.rc
        obtain ⟨fb, fr⟩ := X.out.fz
        obtain ⟨k0, k1, k2, k3⟩ := X.out.kc
        have sz := X.out.sz
        go_wp2_with fail
        refine bodyPost_ret (v := .tuple #[DI.val ⟨false, n, -1, -1, a, 0, 0⟩, .int .i64 b, .bool true]) (by simp [DI.val, results, Tryz.results115, go_sem, r0, r1, r2, r3, r4, r5, r6]) rfl ⟨⟨false, n, -1, -1, a, 0, 0⟩, _, true, rfl, RES.out, ?_⟩
        repeat refine bel_set _ _ _ ?_ (by omega)
        exact X.out.below
  · have hvn : Fld.value K (s.data.toList.drop a) = none := by
      cases q : Fld.value K (s.data.toList.drop a) with
      | none => rfl
      | some nk =>
        obtain ⟨n, k1⟩ := nk
        have := Fld.value_len q
        rw [List.length_drop, ← Lib.size_eq] at this
        omega
    have IT := Lib.hid (item_f (K := K) (ne_byte (by decide) (.inr h1)) hvn)
    have RES : Hid (OneRes K s a ⟨false, 0, -1, -1, a, 0, 0⟩ a false) := Lib.hid (one_f _ IT.out)
    have VA := Lib.hid (fun x hx w hv => val_call K (.slice A xs.length cap) xs s a 0 a false x hx w hv hk ha (by omega) (.inl ⟨hvn, rfl, rfl, rfl⟩))
    clear hvn IT
    have u26 : decide ((a : Int) < (s.size : Int)) = false := by rw [decide_eq_false_iff_not]; omega
    have v26 : decide (a < s.size) = false := by rw [decide_eq_false_iff_not]; omega
    go_enter Tryz.func115, Tryz.ntmps115
    go_wp2_with fail
    refine (VA.out _ rfl _ X.out.strs).mono ?_
    rintro e w1 ⟨rfl, hb⟩
    have X := Lib.hid (X.out.next hb)
    clear hb VA
    obtain ⟨b0, b1, b2, b3, b4, b5, b6⟩ := X.out.bc
    obtain ⟨r0, r1, r2, r3, r4, r5, r6⟩ := X.out.rc
    obtain ⟨fb, fr⟩ := X.out.fz
    obtain ⟨k0, k1, k2, k3⟩ := X.out.kc
    have sz := X.out.sz
    go_wp2_with fail
    refine bodyPost_ret (v := .tuple #[DI.val ⟨false, 0, -1, -1, a, 0, 0⟩, .int .i64 a, .bool false]) (by simp [DI.val, results, Tryz.results115, go_sem, r0, r1, r2, r3, r4, r5, r6]) rfl ⟨⟨false, 0, -1, -1, a, 0, 0⟩, _, false, rfl, RES.out, ?_⟩
    repeat refine bel_set _ _ _ ?_ (by omega)
    exact X.out.below
theorem oneR_any (K : Fld.Kd) (v : Value) (xs : List ByteArray) (s : ByteArray) (a : Nat) (w : World) (hv : IsStrs w v xs) (hk : KdIs K.lo K.hi xs K.week K) (ha : a ≤ s.size) (hs : s.size ≤ 1000) :
    Calls Tryz.prog 115 #[.agg #[.int .i64 K.lo, .int .i64 K.hi, v, .bool K.week], .string s, .int .i64 a] w (OneOut K s a w) := by
  rcases byte_at s a 42 with h | h
  · exact oneR_star K v xs s a w hv hk ha hs h
  · exact oneR_value K v xs s a w hv hk ha hs h
end Go.Proofs.YtpnfifhanmpapaaGreatDoor
