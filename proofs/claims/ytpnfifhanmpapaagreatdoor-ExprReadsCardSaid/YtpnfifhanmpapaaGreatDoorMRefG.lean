/- The document's in, wrong and numbers. The document's one: what reading an item says, road by road. No walk stands here. -/
import Derived.Test.YtpnfifhanmpapaaGreatDoorMRefC
/- The document's in, wrong and numbers. -/
namespace Go.Proofs.YtpnfifhanmpapaaGreatDoor
open Go.ChangeShapes Go.WideShapes Go.RowKit Go.Shelf

theorem ret_u64 {a b : Int} (h : a = b) : Ending.returned (.int .u64 a) = .returned (.int .u64 b) := by rw [h]
theorem has_bool (K : Fld.Kd) (n : Nat) : decide (Fld.has K n) = ((decide (K.lo ≤ n) && decide (n ≤ K.hi)) || (K.week && decide (n = 7))) := by
  unfold Fld.has
  rw [Bool.eq_iff_iff]
  simp
  exact decide_eq_true_iff
theorem eq_facts (a c : Nat) (b : Bool) (h : decide (c = a) = b) : ((c : Int) == (a : Int)) = b ∧ (c == a) = b := by
  constructor
  · rw [← h, Bool.eq_iff_iff, beq_iff_eq, decide_eq_true_iff]; omega
  · rw [← h, Bool.eq_iff_iff, beq_iff_eq, decide_eq_true_iff]
set_option maxHeartbeats 1000000 in
theorem inR_any (K : Fld.Kd) (v : Value) (n : Nat) (b : Bool) (w : World) (hv : ∃ A len cap, v = .slice A len cap) (h : decide (Fld.has K n) = b) :
    Calls Tryz.prog 116 #[.agg #[.int .i64 K.lo, .int .i64 K.hi, v, .bool K.week], .int .i64 n] w fun e w' => e = .returned (.bool b) ∧ Below w.heap.size w w' := by
  rw [has_bool] at h
  have BX : Below w.heap.size w (w.alloc (.cells #[.int .i64 K.lo, .int .i64 K.hi, v, .bool K.week] 95)) := (Below.refl _ w).alloc (Nat.le_refl _) _
  have BX := Lib.hid BX
  obtain ⟨A, len, cap, rfl⟩ := hv
  generalize K.week = wk at *
  generalize K.lo = lo at *
  generalize K.hi = hi at *
  cases h1 : decide (lo ≤ n) <;> cases h2 : decide (n ≤ hi) <;> cases wk <;> cases h4 : decide (n = 7)
  all_goals
    have g1 : decide ((lo : Int) ≤ (n : Int)) = _ := le_facts lo n _ h1
    have g2 : decide ((n : Int) ≤ (hi : Int)) = _ := ge_facts hi n _ h2
    obtain ⟨g4, g5⟩ := eq_facts 7 n _ h4
    have g4 : ((n : Int) == 7) = _ := g4
    rw [h1, h2, h4] at h
    subst h
    go_enter Tryz.func116, Tryz.ntmps116
    go_wp2
    go_ret
    exact ⟨rfl, BX.out⟩
/-- an item of the document in block B -/
structure IBox (W : World) (B : Nat) (d : DI) : Prop where
  lt : B < W.heap.size
  cell : ∀ (j : Nat) u, d.cells[j]? = some u → W.cell? ⟨B, j, none⟩ = some u
theorem IBox.next {W W' : World} {B : Nat} {d : DI} (h : IBox W B d) (hb : Below W.heap.size W W') : IBox W' B d :=
  ⟨Nat.lt_of_lt_of_le h.lt hb.size, fun j u hu => (hb.cell (p := ⟨B, j, none⟩) h.lt).trans (h.cell j u hu)⟩
theorem IBox.new (w : World) (d : DI) (t : TypeId) : IBox (w.alloc (.cells d.cells.toArray t)) w.heap.size d := by
  have hh := World.alloc_heap_new w (.cells d.cells.toArray t)
  refine ⟨by simp, fun j u hu => ?_⟩
  simp only [World.cell?, hh]
  simpa using hu
/-- a kind and an item of the document, as a call has them in two blocks of its own -/
structure KI (w W : World) (K : Fld.Kd) (v : Value) (d : DI) : Prop where
  below : Below w.heap.size w W
  size : w.heap.size + 1 < W.heap.size
  c0 : W.cell? ⟨w.heap.size, 0, none⟩ = some (.int .i64 K.lo)
  c1 : W.cell? ⟨w.heap.size, 1, none⟩ = some (.int .i64 K.hi)
  c2 : W.cell? ⟨w.heap.size, 2, none⟩ = some v
  c3 : W.cell? ⟨w.heap.size, 3, none⟩ = some (.bool K.week)
  d0 : W.cell? ⟨w.heap.size + 1, 0, none⟩ = some (.bool d.star)
  d1 : W.cell? ⟨w.heap.size + 1, 1, none⟩ = some (.int .i64 d.a)
  d2 : W.cell? ⟨w.heap.size + 1, 2, none⟩ = some (.int .i64 d.b)
  d3 : W.cell? ⟨w.heap.size + 1, 3, none⟩ = some (.int .i64 d.c)
  d4 : W.cell? ⟨w.heap.size + 1, 4, none⟩ = some (.int .i64 d.p)
  d5 : W.cell? ⟨w.heap.size + 1, 5, none⟩ = some (.int .i64 d.q)
  d6 : W.cell? ⟨w.heap.size + 1, 6, none⟩ = some (.int .i64 d.r)
theorem KI.next {w W W' : World} {K : Fld.Kd} {v : Value} {d : DI} (h : KI w W K v d) (hb : Below W.heap.size W W') : KI w W' K v d := by
  have s1 : w.heap.size < W.heap.size := by have := h.size; omega
  have hk : ∀ j, W'.cell? ⟨w.heap.size, j, none⟩ = W.cell? ⟨w.heap.size, j, none⟩ := fun j => hb.cell (p := ⟨w.heap.size, j, none⟩) s1
  have hd : ∀ j, W'.cell? ⟨w.heap.size + 1, j, none⟩ = W.cell? ⟨w.heap.size + 1, j, none⟩ := fun j => hb.cell (p := ⟨w.heap.size + 1, j, none⟩) h.size
  exact ⟨h.below.trans (hb.mono h.below.size), Nat.lt_of_lt_of_le h.size hb.size, (hk 0).trans h.c0, (hk 1).trans h.c1, (hk 2).trans h.c2, (hk 3).trans h.c3,
    (hd 0).trans h.d0, (hd 1).trans h.d1, (hd 2).trans h.d2, (hd 3).trans h.d3, (hd 4).trans h.d4, (hd 5).trans h.d5, (hd 6).trans h.d6⟩
theorem KI.new (w : World) (K : Fld.Kd) (v : Value) (d : DI) (t u : TypeId) : KI w ((w.alloc (.cells #[.int .i64 K.lo, .int .i64 K.hi, v, .bool K.week] t)).alloc (.cells #[.bool d.star, .int .i64 d.a, .int .i64 d.b, .int .i64 d.c, .int .i64 d.p, .int .i64 d.q, .int .i64 d.r] u)) K v d := by
  have B1 : Below w.heap.size w (w.alloc (.cells #[.int .i64 K.lo, .int .i64 K.hi, v, .bool K.week] t)) := (Below.refl _ _).alloc (Nat.le_refl _) _
  have hh := World.alloc_heap_new w (.cells #[.int .i64 K.lo, .int .i64 K.hi, v, .bool K.week] t)
  have s1 : (w.alloc (.cells #[.int .i64 K.lo, .int .i64 K.hi, v, .bool K.week] t)).heap.size = w.heap.size + 1 := by simp
  have h2 := World.alloc_heap_new (w.alloc (.cells #[.int .i64 K.lo, .int .i64 K.hi, v, .bool K.week] t)) (.cells #[.bool d.star, .int .i64 d.a, .int .i64 d.b, .int .i64 d.c, .int .i64 d.p, .int .i64 d.q, .int .i64 d.r] u)
  rw [s1] at h2
  have h1 := (Below.heap_alloc (w.alloc (.cells #[.int .i64 K.lo, .int .i64 K.hi, v, .bool K.week] t)) (.cells #[.bool d.star, .int .i64 d.a, .int .i64 d.b, .int .i64 d.c, .int .i64 d.p, .int .i64 d.q, .int .i64 d.r] u) w.heap.size (by simp)).trans hh
  refine ⟨B1.trans ((Below.refl _ _).alloc (by simp) _), by simp, ?_, ?_, ?_, ?_, ?_, ?_, ?_, ?_, ?_, ?_, ?_⟩
  all_goals first | (simp only [World.cell?, h1]; rfl) | (simp only [World.cell?, h2]; rfl)
theorem KI.drewN {w W : World} {K : Fld.Kd} {v : Value} {d : DI} (h : KI w W K v d) (n : Nat) : KI w (W.drewN n) K v d := h.next (below_drewN _ W n)

set_option maxRecDepth 100000 in
set_option maxHeartbeats 4000000 in
theorem wrongR_any (K : Fld.Kd) (v : Value) (d : DI) (r : Int) (w : World) (hv : ∃ A len cap, v = .slice A len cap) (h : WrongRoad K d r) :
    Calls Tryz.prog 78 #[.agg #[.int .i64 K.lo, .int .i64 K.hi, v, .bool K.week], d.val] w fun e w' => e = .returned (.int .i64 r) ∧ Below w.heap.size w w' := by
  have X := Lib.hid (KI.new w K v d 95 150)
  have hv2 := Lib.hid hv
  obtain ⟨A, len, cap, rfl⟩ := hv
  have IN := Lib.hid (fun n b w h => inR_any K (.slice A len cap) n b w hv2.out h)
  have step : StepOut d r → ((d.c == 0) = true ∧ r = d.r) ∨ ((d.c == 0) = false ∧ r = -1) := by
    rintro (⟨a, b⟩ | ⟨a, b⟩)
    · exact .inl ⟨by rw [beq_iff_eq]; exact a, b⟩
    · exact .inr ⟨by rw [beq_eq_false_iff_ne]; exact a, b⟩
  obtain ⟨star, a, b, c, p, q, r0⟩ := d
  simp only [DI.val] at *
  clear hv2
  rcases h with ⟨rfl, rfl, so⟩ | ⟨n, rfl, rfl, h⟩
  · have so := step so
    clear step
    rcases so with ⟨t, rfl⟩ | ⟨t, rfl⟩
    all_goals
      go_enter Tryz.func78, Tryz.ntmps78
      go_wp2_with fail
      go_ret
      exact ⟨rfl, X.out.below⟩
  · rcases h with ⟨hn, rfl⟩ | ⟨hn, rfl, so⟩ | ⟨m, hn, rfl, h⟩
    · have I := Lib.hid (fun w => IN.out n false w (by rw [decide_eq_false_iff_not]; exact hn))
      clear hn step IN
      go_enter Tryz.func78, Tryz.ntmps78
      go_wp2_with fail
      refine (I.out _).mono ?_
      rintro e w1 ⟨rfl, hb⟩
      have X := Lib.hid (X.out.next hb)
      obtain ⟨_, _, c0, c1, c2, c3, d0, d1, d2, d3, d4, d5, d6⟩ := X.out
      clear hb
      go_wp2_with fail
      go_ret
      exact ⟨rfl, X.out.below⟩
    · have I := Lib.hid (fun w => IN.out n true w (by rw [decide_eq_true_iff]; exact hn))
      have so := step so
      clear hn step IN
      rcases so with ⟨t, rfl⟩ | ⟨t, rfl⟩
      all_goals
        go_enter Tryz.func78, Tryz.ntmps78
        go_wp2_with fail
        refine (I.out _).mono ?_
        rintro e w1 ⟨rfl, hb⟩
        have X := Lib.hid (X.out.next hb)
        obtain ⟨_, _, c0, c1, c2, c3, d0, d1, d2, d3, d4, d5, d6⟩ := X.out
        clear hb
        go_wp2_with fail
        go_ret
        exact ⟨rfl, X.out.below⟩
    · have I := Lib.hid (fun w => IN.out n true w (by rw [decide_eq_true_iff]; exact hn))
      have m0 : decide ((0 : Int) ≤ (m : Int)) = true := by rw [decide_eq_true_iff]; omega
      clear hn
      rcases h with ⟨hm, rfl⟩ | ⟨hm, hlt, rfl⟩ | ⟨hm, hle, so⟩
      · have J := Lib.hid (fun w => IN.out m false w (by rw [decide_eq_false_iff_not]; exact hm))
        clear hm step IN
        go_enter Tryz.func78, Tryz.ntmps78
        go_wp2_with fail
        refine (I.out _).mono ?_
        rintro e w1 ⟨rfl, hb⟩
        have X := Lib.hid (X.out.next hb)
        obtain ⟨_, _, c0, c1, c2, c3, d0, d1, d2, d3, d4, d5, d6⟩ := X.out
        clear hb
        go_wp2_with fail
        refine (J.out _).mono ?_
        rintro e w2 ⟨rfl, hb⟩
        have X := Lib.hid (X.out.next hb)
        clear c0 c1 c2 c3 d0 d1 d2 d3 d4 d5 d6
        obtain ⟨_, _, c0, c1, c2, c3, d0, d1, d2, d3, d4, d5, d6⟩ := X.out
        clear hb
        go_wp2_with fail
        go_ret
        exact ⟨rfl, X.out.below⟩
      · have J := Lib.hid (fun w => IN.out m true w (by rw [decide_eq_true_iff]; exact hm))
        have l1 : decide ((m : Int) < (n : Int)) = true := by rw [decide_eq_true_iff]; omega
        have l2 : decide (m < n) = true := by rw [decide_eq_true_iff]; omega
        clear hm step IN hlt
        go_enter Tryz.func78, Tryz.ntmps78
        go_wp2_with fail
        refine (I.out _).mono ?_
        rintro e w1 ⟨rfl, hb⟩
        have X := Lib.hid (X.out.next hb)
        obtain ⟨_, _, c0, c1, c2, c3, d0, d1, d2, d3, d4, d5, d6⟩ := X.out
        clear hb
        go_wp2_with fail
        refine (J.out _).mono ?_
        rintro e w2 ⟨rfl, hb⟩
        have X := Lib.hid (X.out.next hb)
        clear c0 c1 c2 c3 d0 d1 d2 d3 d4 d5 d6
        obtain ⟨_, _, c0, c1, c2, c3, d0, d1, d2, d3, d4, d5, d6⟩ := X.out
        clear hb
        go_wp2_with fail
        go_ret
        exact ⟨rfl, X.out.below⟩
      · have J := Lib.hid (fun w => IN.out m true w (by rw [decide_eq_true_iff]; exact hm))
        have l1 : decide ((m : Int) < (n : Int)) = false := by rw [decide_eq_false_iff_not]; omega
        have l2 : decide (m < n) = false := by rw [decide_eq_false_iff_not]; omega
        have so := step so
        clear hm step IN hle
        rcases so with ⟨t, rfl⟩ | ⟨t, rfl⟩
        all_goals
          go_enter Tryz.func78, Tryz.ntmps78
          go_wp2_with fail
          refine (I.out _).mono ?_
          rintro e w1 ⟨rfl, hb⟩
          have X := Lib.hid (X.out.next hb)
          obtain ⟨_, _, c0, c1, c2, c3, d0, d1, d2, d3, d4, d5, d6⟩ := X.out
          clear hb
          go_wp2_with fail
          refine (J.out _).mono ?_
          rintro e w2 ⟨rfl, hb⟩
          have X := Lib.hid (X.out.next hb)
          clear c0 c1 c2 c3 d0 d1 d2 d3 d4 d5 d6
          obtain ⟨_, _, c0, c1, c2, c3, d0, d1, d2, d3, d4, d5, d6⟩ := X.out
          clear hb
          go_wp2_with fail
          go_ret
          exact ⟨rfl, X.out.below⟩
/-! numbers -/
theorem part_end {f s t k v : Nat} (hfs : f ≤ s) (ht : 1 ≤ t) (hv : v = f + k * t) (h : s < v) (hk : k = 0 ∨ f + (k - 1) * t ≤ s) : part f t k = Bit.rangeS f s t := by
  show part f t k = part f t ((s - f) / t + 1)
  have k1 : k = (s - f) / t + 1 := by
    rcases hk with rfl | z
    · omega
    · have a1 : k - 1 ≤ (s - f) / t := (Nat.le_div_iff_mul_le (by omega)).2 (by omega)
      have a2 : (s - f) / t < k := (Nat.div_lt_iff_lt_mul (by omega)).2 (by omega)
      omega
  rw [k1]
/-- the bit of a number, 7 at 0 in a week -/
def bit7 (wk : Bool) (v : Nat) : Nat := if wk = true ∧ v = 7 then 1 else 2 ^ v
set_option maxRecDepth 100000 in
set_option maxHeartbeats 4000000 in
theorem numbersR_any (K : Fld.Kd) (v : Value) (d : DI) (f s t : Nat) (w : World) (hv : ∃ A len cap, v = .slice A len cap) (h : NumRoad K d f s t) (hfs : f ≤ s) (hs : s < 64) (ht : 1 ≤ t) (ht2 : t ≤ 99) (hlo : K.lo ≤ 62) (hhi : K.hi ≤ 62) :
    Calls Tryz.prog 79 #[.agg #[.int .i64 K.lo, .int .i64 K.hi, v, .bool K.week], d.val] w fun e w' => e = .returned (.int .u64 (Fld.fold7 K (Bit.rangeS f s t) : Nat)) ∧ Below w.heap.size w w' := by
  have X := Lib.hid (KI.new w K v d 95 150)
  obtain ⟨A, len, cap, rfl⟩ := hv
  obtain ⟨G, hG⟩ : ∃ G : Nat → Nat, ∀ k, G k = Fld.fold7 K (part f t k) := ⟨_, fun _ => rfl⟩
  obtain ⟨R, hR⟩ : ∃ R, Fld.fold7 K (Bit.rangeS f s t) = R := ⟨_, rfl⟩
  have GE := Lib.hid (fun (k n : Nat) h1 h2 h3 => show G k = R by rw [hG, part_end (k := k) (v := n) hfs ht h1 h2 h3, hR])
  have GA := Lib.hid (fun (k n : Nat) (hv : n = f + k * t) (h1 : k = 0 ∨ f + (k - 1) * t ≤ s) (hv64 : n < 64) => show G (k + 1) = G k ||| bit7 K.week n by
    rw [hG, hG, part_succ, ← hv]; exact fold7_add K _ n (part_lt h1 hs) hv64)
  have GL := Lib.hid (fun k (h1 : k = 0 ∨ f + (k - 1) * t ≤ s) => show G k < 2 ^ 64 by rw [hG]; exact fold7_lt (part_lt h1 hs))
  have G0 := Lib.hid (show G 0 = 0 by rw [hG, part_zero]; unfold Fld.fold7; simp)
  rw [hR]
  clear hG hR
  have tests : ((d.c = -1 ∧ t = 1 ∧ decide (d.c < 0) = true ∧ decide (0 < d.c) = false) ∨ (d.c = (t : Int) ∧ decide (d.c < 0) = false ∧ decide (0 < d.c) = true)) := by
    rcases h.2 with ⟨a, b⟩ | ⟨a, b⟩
    · exact .inl ⟨a, b, by rw [decide_eq_true_iff]; omega, by rw [decide_eq_false_iff_not]; omega⟩
    · exact .inr ⟨a, by rw [decide_eq_false_iff_not]; omega, by rw [decide_eq_true_iff]; omega⟩
  have road := h.1
  clear h
  obtain ⟨star, a, b, c, p, q', r0⟩ := d
  obtain ⟨lo, hi, nms, wk⟩ := K
  simp only [DI.val] at *
  rcases road with ⟨rfl, hf, hS⟩ | ⟨rfl, rfl, m, rfl, rfl⟩ | ⟨rfl, rfl, rfl, hc, hs2⟩ | ⟨rfl, rfl, rfl, hc, hs2⟩
  · obtain rfl := hf
    obtain rfl := hS
    rcases tests with ⟨rfl, rfl, t1, t2⟩ | ⟨rfl, t1, t2⟩
    · go_enter Tryz.func79, Tryz.ntmps79
      go_wp2_with fail
      go_quiet (fail)
      have XA := Lib.hid (fun n => X.out.drewN n)
      have X := Lib.hid (X.out.drewN nq)
      obtain ⟨_, _, c0, c1, c2, c3, d0, d1, d2, d3, d4, d5, d6⟩ := X.out
      go_wp2_with fail
      go_quiet (fail)
      go_wp2_with fail
      clear c0 c1 c2 c3 d0 d1 d2 d3 d4 d5 d6
      go_loopw [8, 9] (fun o i wr => ∃ k n : Nat, n = f + k * 1 ∧ n ≤ 200 ∧ i = .int .i64 n ∧ o = .int .u64 (G k : Nat) ∧ Hid (k = 0 ∨ f + (k - 1) * 1 ≤ s) ∧ Hid (KI w wr ⟨f, s, nms, wk⟩ (.slice A len cap) ⟨true, a, b, -1, p, q', r0⟩)) (fun _ i _ => 300 - (intOf i).toNat)
      case atStart => exact ⟨0, f, by omega, by omega, rfl, by rw [G0.out]; rfl, Lib.hid (.inl rfl), Lib.hid (XA.out _)⟩
      case round =>
        obtain ⟨k, n, hv, n1, rfl, rfl, hk, X⟩ := hrel
        have c3 := X.out.c3
        have V := Lib.hid hv
        have pl := GL.out k hk.out
        by_cases q : n ≤ s
        · have q1 : decide ((n : Int) ≤ (s : Int)) = true := by rw [decide_eq_true_iff]; omega
          have q2 : decide (n ≤ s) = true := by rw [decide_eq_true_iff]; omega
          have fa := GA.out k n hv hk.out (by omega)
          clear hv
          by_cases z : wk = true ∧ n = 7
          · obtain ⟨rfl, h7⟩ := z
            have e7 : ((n : Int) == 7) = true := by rw [beq_iff_eq]; omega
            have e7n : (n == 7) = true := by rw [beq_iff_eq]; exact h7
            rw [show bit7 true n = 1 from if_pos ⟨rfl, h7⟩] at fa
            have or1 : bits .or .u64 (G k : Nat) (1 : Int) = (G (k + 1) : Nat) := by rw [fa]; exact u64_or_nat (G k) 1 pl (by decide)
            clear h7
            obtain ⟨x, hx⟩ : ∃ x : Nat, G k = x := ⟨_, rfl⟩
            obtain ⟨y, hy⟩ : ∃ y : Nat, G (k + 1) = y := ⟨_, rfl⟩
            rw [hx, hy] at or1
            rw [hx] at pl ⊢
            have HY := Lib.hid hy
            clear fa hx hy
            go_wp2_with fail
            go_roundw
            case rel => exact ⟨k + 1, n + 1, by rw [V.out, Nat.succ_mul]; omega, by omega, by go_num, by rw [HY.out], Lib.hid (.inr (by rw [Nat.add_sub_cancel, ← V.out]; exact q)), X⟩
            case measure => simp [intOf]; omega
          · rw [show bit7 wk n = 2 ^ n from if_neg z] at fa
            have or1 : bits .or .u64 (G k : Nat) ((2 ^ n : Nat) : Int) = (G (k + 1) : Nat) := by rw [fa]; exact u64_or_nat (G k) _ pl (Bit.one_lt (by omega))
            have w1 : IntKind.u64.wrap ((2 : Int) ^ n) = ((2 ^ n : Nat) : Int) := wrap_pow (by omega)
            have n64 : n < 64 := by omega
            obtain ⟨m, hm⟩ : ∃ m : Nat, 2 ^ n = m := ⟨_, rfl⟩
            rw [hm] at w1 or1 fa
            clear hm
            cases wk with
            | false =>
              clear z
              obtain ⟨x, hx⟩ : ∃ x : Nat, G k = x := ⟨_, rfl⟩
              obtain ⟨y, hy⟩ : ∃ y : Nat, G (k + 1) = y := ⟨_, rfl⟩
              rw [hx, hy] at or1
              rw [hx] at pl ⊢
              have HY := Lib.hid hy
              clear fa hx hy
              go_wp2_with fail
              go_roundw
              case rel => exact ⟨k + 1, n + 1, by rw [V.out, Nat.succ_mul]; omega, by omega, by go_num, by rw [HY.out], Lib.hid (.inr (by rw [Nat.add_sub_cancel, ← V.out]; exact q)), X⟩
              case measure => simp [intOf]; omega
            | true =>
              have h7 : ¬ n = 7 := fun e => z ⟨rfl, e⟩
              have e7 : ((n : Int) == 7) = false := by rw [beq_eq_false_iff_ne]; omega
              have e7n : (n == 7) = false := by rw [beq_eq_false_iff_ne]; exact h7
              clear z h7
              obtain ⟨x, hx⟩ : ∃ x : Nat, G k = x := ⟨_, rfl⟩
              obtain ⟨y, hy⟩ : ∃ y : Nat, G (k + 1) = y := ⟨_, rfl⟩
              rw [hx, hy] at or1
              rw [hx] at pl ⊢
              have HY := Lib.hid hy
              clear fa hx hy
              go_wp2_with fail
              go_roundw
              case rel => exact ⟨k + 1, n + 1, by rw [V.out, Nat.succ_mul]; omega, by omega, by go_num, by rw [HY.out], Lib.hid (.inr (by rw [Nat.add_sub_cancel, ← V.out]; exact q)), X⟩
              case measure => simp [intOf]; omega
        · have q1 : decide ((n : Int) ≤ (s : Int)) = false := by rw [decide_eq_false_iff_not]; omega
          have q2 : decide (n ≤ s) = false := by rw [decide_eq_false_iff_not]; omega
          have E := Lib.hid (GE.out k n hv (by omega) hk.out)
          clear hv
          go_wp2_with fail
          go_ret
          exact ⟨ret_u64 (by rw [E.out]), X.out.below⟩
    · go_enter Tryz.func79, Tryz.ntmps79
      go_wp2_with fail
      go_quiet (fail)
      have XA := Lib.hid (fun n => X.out.drewN n)
      have X := Lib.hid (X.out.drewN nq)
      obtain ⟨_, _, c0, c1, c2, c3, d0, d1, d2, d3, d4, d5, d6⟩ := X.out
      go_wp2_with fail
      go_quiet (fail)
      go_wp2_with fail
      clear c0 c1 c2 c3 d0 d1 d2 d3 d4 d5 d6
      go_loopw [8, 9] (fun o i wr => ∃ k n : Nat, n = f + k * t ∧ n ≤ 200 ∧ i = .int .i64 n ∧ o = .int .u64 (G k : Nat) ∧ Hid (k = 0 ∨ f + (k - 1) * t ≤ s) ∧ Hid (KI w wr ⟨f, s, nms, wk⟩ (.slice A len cap) ⟨true, a, b, (t : Nat), p, q', r0⟩)) (fun _ i _ => 300 - (intOf i).toNat)
      case atStart => exact ⟨0, f, by omega, by omega, rfl, by rw [G0.out]; rfl, Lib.hid (.inl rfl), Lib.hid (XA.out _)⟩
      case round =>
        obtain ⟨k, n, hv, n1, rfl, rfl, hk, X⟩ := hrel
        have c3 := X.out.c3
        have V := Lib.hid hv
        have pl := GL.out k hk.out
        by_cases q : n ≤ s
        · have q1 : decide ((n : Int) ≤ (s : Int)) = true := by rw [decide_eq_true_iff]; omega
          have q2 : decide (n ≤ s) = true := by rw [decide_eq_true_iff]; omega
          have fa := GA.out k n hv hk.out (by omega)
          clear hv
          by_cases z : wk = true ∧ n = 7
          · obtain ⟨rfl, h7⟩ := z
            have e7 : ((n : Int) == 7) = true := by rw [beq_iff_eq]; omega
            have e7n : (n == 7) = true := by rw [beq_iff_eq]; exact h7
            rw [show bit7 true n = 1 from if_pos ⟨rfl, h7⟩] at fa
            have or1 : bits .or .u64 (G k : Nat) (1 : Int) = (G (k + 1) : Nat) := by rw [fa]; exact u64_or_nat (G k) 1 pl (by decide)
            clear h7
            obtain ⟨x, hx⟩ : ∃ x : Nat, G k = x := ⟨_, rfl⟩
            obtain ⟨y, hy⟩ : ∃ y : Nat, G (k + 1) = y := ⟨_, rfl⟩
            rw [hx, hy] at or1
            rw [hx] at pl ⊢
            have HY := Lib.hid hy
            clear fa hx hy
            go_wp2_with fail
            go_roundw
            case rel => exact ⟨k + 1, n + t, by rw [V.out, Nat.succ_mul]; omega, by omega, by go_num, by rw [HY.out], Lib.hid (.inr (by rw [Nat.add_sub_cancel, ← V.out]; exact q)), X⟩
            case measure => simp [intOf]; omega
          · rw [show bit7 wk n = 2 ^ n from if_neg z] at fa
            have or1 : bits .or .u64 (G k : Nat) ((2 ^ n : Nat) : Int) = (G (k + 1) : Nat) := by rw [fa]; exact u64_or_nat (G k) _ pl (Bit.one_lt (by omega))
            have w1 : IntKind.u64.wrap ((2 : Int) ^ n) = ((2 ^ n : Nat) : Int) := wrap_pow (by omega)
            have n64 : n < 64 := by omega
            obtain ⟨m, hm⟩ : ∃ m : Nat, 2 ^ n = m := ⟨_, rfl⟩
            rw [hm] at w1 or1 fa
            clear hm
            cases wk with
            | false =>
              clear z
              obtain ⟨x, hx⟩ : ∃ x : Nat, G k = x := ⟨_, rfl⟩
              obtain ⟨y, hy⟩ : ∃ y : Nat, G (k + 1) = y := ⟨_, rfl⟩
              rw [hx, hy] at or1
              rw [hx] at pl ⊢
              have HY := Lib.hid hy
              clear fa hx hy
              go_wp2_with fail
              go_roundw
              case rel => exact ⟨k + 1, n + t, by rw [V.out, Nat.succ_mul]; omega, by omega, by go_num, by rw [HY.out], Lib.hid (.inr (by rw [Nat.add_sub_cancel, ← V.out]; exact q)), X⟩
              case measure => simp [intOf]; omega
            | true =>
              have h7 : ¬ n = 7 := fun e => z ⟨rfl, e⟩
              have e7 : ((n : Int) == 7) = false := by rw [beq_eq_false_iff_ne]; omega
              have e7n : (n == 7) = false := by rw [beq_eq_false_iff_ne]; exact h7
              clear z h7
              obtain ⟨x, hx⟩ : ∃ x : Nat, G k = x := ⟨_, rfl⟩
              obtain ⟨y, hy⟩ : ∃ y : Nat, G (k + 1) = y := ⟨_, rfl⟩
              rw [hx, hy] at or1
              rw [hx] at pl ⊢
              have HY := Lib.hid hy
              clear fa hx hy
              go_wp2_with fail
              go_roundw
              case rel => exact ⟨k + 1, n + t, by rw [V.out, Nat.succ_mul]; omega, by omega, by go_num, by rw [HY.out], Lib.hid (.inr (by rw [Nat.add_sub_cancel, ← V.out]; exact q)), X⟩
              case measure => simp [intOf]; omega
        · have q1 : decide ((n : Int) ≤ (s : Int)) = false := by rw [decide_eq_false_iff_not]; omega
          have q2 : decide (n ≤ s) = false := by rw [decide_eq_false_iff_not]; omega
          have E := Lib.hid (GE.out k n hv (by omega) hk.out)
          clear hv
          go_wp2_with fail
          go_ret
          exact ⟨ret_u64 (by rw [E.out]), X.out.below⟩
  · have m0 : decide ((0 : Int) ≤ (s : Int)) = true := by rw [decide_eq_true_iff]; omega
    rcases tests with ⟨rfl, rfl, t1, t2⟩ | ⟨rfl, t1, t2⟩
    · go_enter Tryz.func79, Tryz.ntmps79
      go_wp2_with fail
      go_quiet (fail)
      have X := Lib.hid (X.out.drewN nq)
      obtain ⟨_, _, c0, c1, c2, c3, d0, d1, d2, d3, d4, d5, d6⟩ := X.out
      go_wp2_with fail
      clear c0 c1 c2 c3 d0 d1 d2 d3 d4 d5 d6
      go_loopw [8, 9] (fun o i wr => ∃ k n : Nat, n = f + k * 1 ∧ n ≤ 200 ∧ i = .int .i64 n ∧ o = .int .u64 (G k : Nat) ∧ Hid (k = 0 ∨ f + (k - 1) * 1 ≤ s) ∧ Hid (KI w wr ⟨lo, hi, nms, wk⟩ (.slice A len cap) ⟨false, (f : Nat), (s : Nat), -1, p, q', r0⟩)) (fun _ i _ => 300 - (intOf i).toNat)
      case atStart => exact ⟨0, f, by omega, by omega, rfl, by rw [G0.out]; rfl, Lib.hid (.inl rfl), X⟩
      case round =>
        obtain ⟨k, n, hv, n1, rfl, rfl, hk, X⟩ := hrel
        have c3 := X.out.c3
        have V := Lib.hid hv
        have pl := GL.out k hk.out
        by_cases q : n ≤ s
        · have q1 : decide ((n : Int) ≤ (s : Int)) = true := by rw [decide_eq_true_iff]; omega
          have q2 : decide (n ≤ s) = true := by rw [decide_eq_true_iff]; omega
          have fa := GA.out k n hv hk.out (by omega)
          clear hv
          by_cases z : wk = true ∧ n = 7
          · obtain ⟨rfl, h7⟩ := z
            have e7 : ((n : Int) == 7) = true := by rw [beq_iff_eq]; omega
            have e7n : (n == 7) = true := by rw [beq_iff_eq]; exact h7
            rw [show bit7 true n = 1 from if_pos ⟨rfl, h7⟩] at fa
            have or1 : bits .or .u64 (G k : Nat) (1 : Int) = (G (k + 1) : Nat) := by rw [fa]; exact u64_or_nat (G k) 1 pl (by decide)
            clear h7
            obtain ⟨x, hx⟩ : ∃ x : Nat, G k = x := ⟨_, rfl⟩
            obtain ⟨y, hy⟩ : ∃ y : Nat, G (k + 1) = y := ⟨_, rfl⟩
            rw [hx, hy] at or1
            rw [hx] at pl ⊢
            have HY := Lib.hid hy
            clear fa hx hy
            go_wp2_with fail
            go_roundw
            case rel => exact ⟨k + 1, n + 1, by rw [V.out, Nat.succ_mul]; omega, by omega, by go_num, by rw [HY.out], Lib.hid (.inr (by rw [Nat.add_sub_cancel, ← V.out]; exact q)), X⟩
            case measure => simp [intOf]; omega
          · rw [show bit7 wk n = 2 ^ n from if_neg z] at fa
            have or1 : bits .or .u64 (G k : Nat) ((2 ^ n : Nat) : Int) = (G (k + 1) : Nat) := by rw [fa]; exact u64_or_nat (G k) _ pl (Bit.one_lt (by omega))
            have w1 : IntKind.u64.wrap ((2 : Int) ^ n) = ((2 ^ n : Nat) : Int) := wrap_pow (by omega)
            have n64 : n < 64 := by omega
            obtain ⟨m, hm⟩ : ∃ m : Nat, 2 ^ n = m := ⟨_, rfl⟩
            rw [hm] at w1 or1 fa
            clear hm
            cases wk with
            | false =>
              clear z
              obtain ⟨x, hx⟩ : ∃ x : Nat, G k = x := ⟨_, rfl⟩
              obtain ⟨y, hy⟩ : ∃ y : Nat, G (k + 1) = y := ⟨_, rfl⟩
              rw [hx, hy] at or1
              rw [hx] at pl ⊢
              have HY := Lib.hid hy
              clear fa hx hy
              go_wp2_with fail
              go_roundw
              case rel => exact ⟨k + 1, n + 1, by rw [V.out, Nat.succ_mul]; omega, by omega, by go_num, by rw [HY.out], Lib.hid (.inr (by rw [Nat.add_sub_cancel, ← V.out]; exact q)), X⟩
              case measure => simp [intOf]; omega
            | true =>
              have h7 : ¬ n = 7 := fun e => z ⟨rfl, e⟩
              have e7 : ((n : Int) == 7) = false := by rw [beq_eq_false_iff_ne]; omega
              have e7n : (n == 7) = false := by rw [beq_eq_false_iff_ne]; exact h7
              clear z h7
              obtain ⟨x, hx⟩ : ∃ x : Nat, G k = x := ⟨_, rfl⟩
              obtain ⟨y, hy⟩ : ∃ y : Nat, G (k + 1) = y := ⟨_, rfl⟩
              rw [hx, hy] at or1
              rw [hx] at pl ⊢
              have HY := Lib.hid hy
              clear fa hx hy
              go_wp2_with fail
              go_roundw
              case rel => exact ⟨k + 1, n + 1, by rw [V.out, Nat.succ_mul]; omega, by omega, by go_num, by rw [HY.out], Lib.hid (.inr (by rw [Nat.add_sub_cancel, ← V.out]; exact q)), X⟩
              case measure => simp [intOf]; omega
        · have q1 : decide ((n : Int) ≤ (s : Int)) = false := by rw [decide_eq_false_iff_not]; omega
          have q2 : decide (n ≤ s) = false := by rw [decide_eq_false_iff_not]; omega
          have E := Lib.hid (GE.out k n hv (by omega) hk.out)
          clear hv
          go_wp2_with fail
          go_ret
          exact ⟨ret_u64 (by rw [E.out]), X.out.below⟩
    · go_enter Tryz.func79, Tryz.ntmps79
      go_wp2_with fail
      go_quiet (fail)
      have X := Lib.hid (X.out.drewN nq)
      obtain ⟨_, _, c0, c1, c2, c3, d0, d1, d2, d3, d4, d5, d6⟩ := X.out
      go_wp2_with fail
      clear c0 c1 c2 c3 d0 d1 d2 d3 d4 d5 d6
      go_loopw [8, 9] (fun o i wr => ∃ k n : Nat, n = f + k * t ∧ n ≤ 200 ∧ i = .int .i64 n ∧ o = .int .u64 (G k : Nat) ∧ Hid (k = 0 ∨ f + (k - 1) * t ≤ s) ∧ Hid (KI w wr ⟨lo, hi, nms, wk⟩ (.slice A len cap) ⟨false, (f : Nat), (s : Nat), (t : Nat), p, q', r0⟩)) (fun _ i _ => 300 - (intOf i).toNat)
      case atStart => exact ⟨0, f, by omega, by omega, rfl, by rw [G0.out]; rfl, Lib.hid (.inl rfl), X⟩
      case round =>
        obtain ⟨k, n, hv, n1, rfl, rfl, hk, X⟩ := hrel
        have c3 := X.out.c3
        have V := Lib.hid hv
        have pl := GL.out k hk.out
        by_cases q : n ≤ s
        · have q1 : decide ((n : Int) ≤ (s : Int)) = true := by rw [decide_eq_true_iff]; omega
          have q2 : decide (n ≤ s) = true := by rw [decide_eq_true_iff]; omega
          have fa := GA.out k n hv hk.out (by omega)
          clear hv
          by_cases z : wk = true ∧ n = 7
          · obtain ⟨rfl, h7⟩ := z
            have e7 : ((n : Int) == 7) = true := by rw [beq_iff_eq]; omega
            have e7n : (n == 7) = true := by rw [beq_iff_eq]; exact h7
            rw [show bit7 true n = 1 from if_pos ⟨rfl, h7⟩] at fa
            have or1 : bits .or .u64 (G k : Nat) (1 : Int) = (G (k + 1) : Nat) := by rw [fa]; exact u64_or_nat (G k) 1 pl (by decide)
            clear h7
            obtain ⟨x, hx⟩ : ∃ x : Nat, G k = x := ⟨_, rfl⟩
            obtain ⟨y, hy⟩ : ∃ y : Nat, G (k + 1) = y := ⟨_, rfl⟩
            rw [hx, hy] at or1
            rw [hx] at pl ⊢
            have HY := Lib.hid hy
            clear fa hx hy
            go_wp2_with fail
            go_roundw
            case rel => exact ⟨k + 1, n + t, by rw [V.out, Nat.succ_mul]; omega, by omega, by go_num, by rw [HY.out], Lib.hid (.inr (by rw [Nat.add_sub_cancel, ← V.out]; exact q)), X⟩
            case measure => simp [intOf]; omega
          · rw [show bit7 wk n = 2 ^ n from if_neg z] at fa
            have or1 : bits .or .u64 (G k : Nat) ((2 ^ n : Nat) : Int) = (G (k + 1) : Nat) := by rw [fa]; exact u64_or_nat (G k) _ pl (Bit.one_lt (by omega))
            have w1 : IntKind.u64.wrap ((2 : Int) ^ n) = ((2 ^ n : Nat) : Int) := wrap_pow (by omega)
            have n64 : n < 64 := by omega
            obtain ⟨m, hm⟩ : ∃ m : Nat, 2 ^ n = m := ⟨_, rfl⟩
            rw [hm] at w1 or1 fa
            clear hm
            cases wk with
            | false =>
              clear z
              obtain ⟨x, hx⟩ : ∃ x : Nat, G k = x := ⟨_, rfl⟩
              obtain ⟨y, hy⟩ : ∃ y : Nat, G (k + 1) = y := ⟨_, rfl⟩
              rw [hx, hy] at or1
              rw [hx] at pl ⊢
              have HY := Lib.hid hy
              clear fa hx hy
              go_wp2_with fail
              go_roundw
              case rel => exact ⟨k + 1, n + t, by rw [V.out, Nat.succ_mul]; omega, by omega, by go_num, by rw [HY.out], Lib.hid (.inr (by rw [Nat.add_sub_cancel, ← V.out]; exact q)), X⟩
              case measure => simp [intOf]; omega
            | true =>
              have h7 : ¬ n = 7 := fun e => z ⟨rfl, e⟩
              have e7 : ((n : Int) == 7) = false := by rw [beq_eq_false_iff_ne]; omega
              have e7n : (n == 7) = false := by rw [beq_eq_false_iff_ne]; exact h7
              clear z h7
              obtain ⟨x, hx⟩ : ∃ x : Nat, G k = x := ⟨_, rfl⟩
              obtain ⟨y, hy⟩ : ∃ y : Nat, G (k + 1) = y := ⟨_, rfl⟩
              rw [hx, hy] at or1
              rw [hx] at pl ⊢
              have HY := Lib.hid hy
              clear fa hx hy
              go_wp2_with fail
              go_roundw
              case rel => exact ⟨k + 1, n + t, by rw [V.out, Nat.succ_mul]; omega, by omega, by go_num, by rw [HY.out], Lib.hid (.inr (by rw [Nat.add_sub_cancel, ← V.out]; exact q)), X⟩
              case measure => simp [intOf]; omega
        · have q1 : decide ((n : Int) ≤ (s : Int)) = false := by rw [decide_eq_false_iff_not]; omega
          have q2 : decide (n ≤ s) = false := by rw [decide_eq_false_iff_not]; omega
          have E := Lib.hid (GE.out k n hv (by omega) hk.out)
          clear hv
          go_wp2_with fail
          go_ret
          exact ⟨ret_u64 (by rw [E.out]), X.out.below⟩
  · have mx : max (f : Int) (hi : Int) = (s : Int) := by omega
    rcases tests with ⟨rfl, rfl, t1, t2⟩ | ⟨rfl, t1, t2⟩
    · exact absurd hc (by decide)
    · clear hc hs2
      go_enter Tryz.func79, Tryz.ntmps79
      go_wp2_with fail
      go_quiet (fail)
      have X := Lib.hid (X.out.drewN nq)
      obtain ⟨_, _, c0, c1, c2, c3, d0, d1, d2, d3, d4, d5, d6⟩ := X.out
      go_wp2_with fail
      clear c0 c1 c2 c3 d0 d1 d2 d3 d4 d5 d6
      go_loopw [8, 9] (fun o i wr => ∃ k n : Nat, n = f + k * t ∧ n ≤ 200 ∧ i = .int .i64 n ∧ o = .int .u64 (G k : Nat) ∧ Hid (k = 0 ∨ f + (k - 1) * t ≤ s) ∧ Hid (KI w wr ⟨lo, hi, nms, wk⟩ (.slice A len cap) ⟨false, (f : Nat), (-1), (t : Nat), p, q', r0⟩)) (fun _ i _ => 300 - (intOf i).toNat)
      case atStart => exact ⟨0, f, by omega, by omega, rfl, by rw [G0.out]; rfl, Lib.hid (.inl rfl), X⟩
      case round =>
        obtain ⟨k, n, hv, n1, rfl, rfl, hk, X⟩ := hrel
        have c3 := X.out.c3
        have V := Lib.hid hv
        have pl := GL.out k hk.out
        by_cases q : n ≤ s
        · have q1 : decide ((n : Int) ≤ (s : Int)) = true := by rw [decide_eq_true_iff]; omega
          have q2 : decide (n ≤ s) = true := by rw [decide_eq_true_iff]; omega
          have fa := GA.out k n hv hk.out (by omega)
          clear hv
          by_cases z : wk = true ∧ n = 7
          · obtain ⟨rfl, h7⟩ := z
            have e7 : ((n : Int) == 7) = true := by rw [beq_iff_eq]; omega
            have e7n : (n == 7) = true := by rw [beq_iff_eq]; exact h7
            rw [show bit7 true n = 1 from if_pos ⟨rfl, h7⟩] at fa
            have or1 : bits .or .u64 (G k : Nat) (1 : Int) = (G (k + 1) : Nat) := by rw [fa]; exact u64_or_nat (G k) 1 pl (by decide)
            clear h7
            obtain ⟨x, hx⟩ : ∃ x : Nat, G k = x := ⟨_, rfl⟩
            obtain ⟨y, hy⟩ : ∃ y : Nat, G (k + 1) = y := ⟨_, rfl⟩
            rw [hx, hy] at or1
            rw [hx] at pl ⊢
            have HY := Lib.hid hy
            clear fa hx hy
            go_wp2_with fail
            go_roundw
            case rel => exact ⟨k + 1, n + t, by rw [V.out, Nat.succ_mul]; omega, by omega, by go_num, by rw [HY.out], Lib.hid (.inr (by rw [Nat.add_sub_cancel, ← V.out]; exact q)), X⟩
            case measure => simp [intOf]; omega
          · rw [show bit7 wk n = 2 ^ n from if_neg z] at fa
            have or1 : bits .or .u64 (G k : Nat) ((2 ^ n : Nat) : Int) = (G (k + 1) : Nat) := by rw [fa]; exact u64_or_nat (G k) _ pl (Bit.one_lt (by omega))
            have w1 : IntKind.u64.wrap ((2 : Int) ^ n) = ((2 ^ n : Nat) : Int) := wrap_pow (by omega)
            have n64 : n < 64 := by omega
            obtain ⟨m, hm⟩ : ∃ m : Nat, 2 ^ n = m := ⟨_, rfl⟩
            rw [hm] at w1 or1 fa
            clear hm
            cases wk with
            | false =>
              clear z
              obtain ⟨x, hx⟩ : ∃ x : Nat, G k = x := ⟨_, rfl⟩
              obtain ⟨y, hy⟩ : ∃ y : Nat, G (k + 1) = y := ⟨_, rfl⟩
              rw [hx, hy] at or1
              rw [hx] at pl ⊢
              have HY := Lib.hid hy
              clear fa hx hy
              go_wp2_with fail
              go_roundw
              case rel => exact ⟨k + 1, n + t, by rw [V.out, Nat.succ_mul]; omega, by omega, by go_num, by rw [HY.out], Lib.hid (.inr (by rw [Nat.add_sub_cancel, ← V.out]; exact q)), X⟩
              case measure => simp [intOf]; omega
            | true =>
              have h7 : ¬ n = 7 := fun e => z ⟨rfl, e⟩
              have e7 : ((n : Int) == 7) = false := by rw [beq_eq_false_iff_ne]; omega
              have e7n : (n == 7) = false := by rw [beq_eq_false_iff_ne]; exact h7
              clear z h7
              obtain ⟨x, hx⟩ : ∃ x : Nat, G k = x := ⟨_, rfl⟩
              obtain ⟨y, hy⟩ : ∃ y : Nat, G (k + 1) = y := ⟨_, rfl⟩
              rw [hx, hy] at or1
              rw [hx] at pl ⊢
              have HY := Lib.hid hy
              clear fa hx hy
              go_wp2_with fail
              go_roundw
              case rel => exact ⟨k + 1, n + t, by rw [V.out, Nat.succ_mul]; omega, by omega, by go_num, by rw [HY.out], Lib.hid (.inr (by rw [Nat.add_sub_cancel, ← V.out]; exact q)), X⟩
              case measure => simp [intOf]; omega
        · have q1 : decide ((n : Int) ≤ (s : Int)) = false := by rw [decide_eq_false_iff_not]; omega
          have q2 : decide (n ≤ s) = false := by rw [decide_eq_false_iff_not]; omega
          have E := Lib.hid (GE.out k n hv (by omega) hk.out)
          clear hv
          go_wp2_with fail
          go_ret
          exact ⟨ret_u64 (by rw [E.out]), X.out.below⟩
  · rcases tests with ⟨_, rfl, t1, t2⟩ | ⟨e, t1, t2⟩
    · obtain rfl := hc
      obtain rfl : f = s := hs2.symm
      clear hs2
      go_enter Tryz.func79, Tryz.ntmps79
      go_wp2_with fail
      go_quiet (fail)
      have X := Lib.hid (X.out.drewN nq)
      obtain ⟨_, _, c0, c1, c2, c3, d0, d1, d2, d3, d4, d5, d6⟩ := X.out
      go_wp2_with fail
      clear c0 c1 c2 c3 d0 d1 d2 d3 d4 d5 d6
      go_loopw [8, 9] (fun o i wr => ∃ k n : Nat, n = f + k * 1 ∧ n ≤ 200 ∧ i = .int .i64 n ∧ o = .int .u64 (G k : Nat) ∧ Hid (k = 0 ∨ f + (k - 1) * 1 ≤ f) ∧ Hid (KI w wr ⟨lo, hi, nms, wk⟩ (.slice A len cap) ⟨false, (f : Nat), (-1), -1, p, q', r0⟩)) (fun _ i _ => 300 - (intOf i).toNat)
      case atStart => exact ⟨0, f, by omega, by omega, rfl, by rw [G0.out]; rfl, Lib.hid (.inl rfl), X⟩
      case round =>
        obtain ⟨k, n, hv, n1, rfl, rfl, hk, X⟩ := hrel
        have c3 := X.out.c3
        have V := Lib.hid hv
        have pl := GL.out k hk.out
        by_cases q : n ≤ f
        · have q1 : decide ((n : Int) ≤ (f : Int)) = true := by rw [decide_eq_true_iff]; omega
          have q2 : decide (n ≤ f) = true := by rw [decide_eq_true_iff]; omega
          have fa := GA.out k n hv hk.out (by omega)
          clear hv
          by_cases z : wk = true ∧ n = 7
          · obtain ⟨rfl, h7⟩ := z
            have e7 : ((n : Int) == 7) = true := by rw [beq_iff_eq]; omega
            have e7n : (n == 7) = true := by rw [beq_iff_eq]; exact h7
            rw [show bit7 true n = 1 from if_pos ⟨rfl, h7⟩] at fa
            have or1 : bits .or .u64 (G k : Nat) (1 : Int) = (G (k + 1) : Nat) := by rw [fa]; exact u64_or_nat (G k) 1 pl (by decide)
            clear h7
            obtain ⟨x, hx⟩ : ∃ x : Nat, G k = x := ⟨_, rfl⟩
            obtain ⟨y, hy⟩ : ∃ y : Nat, G (k + 1) = y := ⟨_, rfl⟩
            rw [hx, hy] at or1
            rw [hx] at pl ⊢
            have HY := Lib.hid hy
            clear fa hx hy
            go_wp2_with fail
            go_roundw
            case rel => exact ⟨k + 1, n + 1, by rw [V.out, Nat.succ_mul]; omega, by omega, by go_num, by rw [HY.out], Lib.hid (.inr (by rw [Nat.add_sub_cancel, ← V.out]; exact q)), X⟩
            case measure => simp [intOf]; omega
          · rw [show bit7 wk n = 2 ^ n from if_neg z] at fa
            have or1 : bits .or .u64 (G k : Nat) ((2 ^ n : Nat) : Int) = (G (k + 1) : Nat) := by rw [fa]; exact u64_or_nat (G k) _ pl (Bit.one_lt (by omega))
            have w1 : IntKind.u64.wrap ((2 : Int) ^ n) = ((2 ^ n : Nat) : Int) := wrap_pow (by omega)
            have n64 : n < 64 := by omega
            obtain ⟨m, hm⟩ : ∃ m : Nat, 2 ^ n = m := ⟨_, rfl⟩
            rw [hm] at w1 or1 fa
            clear hm
            cases wk with
            | false =>
              clear z
              obtain ⟨x, hx⟩ : ∃ x : Nat, G k = x := ⟨_, rfl⟩
              obtain ⟨y, hy⟩ : ∃ y : Nat, G (k + 1) = y := ⟨_, rfl⟩
              rw [hx, hy] at or1
              rw [hx] at pl ⊢
              have HY := Lib.hid hy
              clear fa hx hy
              go_wp2_with fail
              go_roundw
              case rel => exact ⟨k + 1, n + 1, by rw [V.out, Nat.succ_mul]; omega, by omega, by go_num, by rw [HY.out], Lib.hid (.inr (by rw [Nat.add_sub_cancel, ← V.out]; exact q)), X⟩
              case measure => simp [intOf]; omega
            | true =>
              have h7 : ¬ n = 7 := fun e => z ⟨rfl, e⟩
              have e7 : ((n : Int) == 7) = false := by rw [beq_eq_false_iff_ne]; omega
              have e7n : (n == 7) = false := by rw [beq_eq_false_iff_ne]; exact h7
              clear z h7
              obtain ⟨x, hx⟩ : ∃ x : Nat, G k = x := ⟨_, rfl⟩
              obtain ⟨y, hy⟩ : ∃ y : Nat, G (k + 1) = y := ⟨_, rfl⟩
              rw [hx, hy] at or1
              rw [hx] at pl ⊢
              have HY := Lib.hid hy
              clear fa hx hy
              go_wp2_with fail
              go_roundw
              case rel => exact ⟨k + 1, n + 1, by rw [V.out, Nat.succ_mul]; omega, by omega, by go_num, by rw [HY.out], Lib.hid (.inr (by rw [Nat.add_sub_cancel, ← V.out]; exact q)), X⟩
              case measure => simp [intOf]; omega
        · have q1 : decide ((n : Int) ≤ (f : Int)) = false := by rw [decide_eq_false_iff_not]; omega
          have q2 : decide (n ≤ f) = false := by rw [decide_eq_false_iff_not]; omega
          have E := Lib.hid (GE.out k n hv (by omega) hk.out)
          clear hv
          go_wp2_with fail
          go_ret
          exact ⟨ret_u64 (by rw [E.out]), X.out.below⟩
    · exact absurd (e.symm.trans hc) (by omega)
end Go.Proofs.YtpnfifhanmpapaaGreatDoor
/- The document's one: what reading an item says, road by road. No walk stands here. -/
namespace Go.Proofs.YtpnfifhanmpapaaGreatDoor
open Go.ChangeShapes Go.WideShapes Go.RowKit Go.Shelf

theorem hd_yes (s : ByteArray) (a : Nat) (c : UInt8) (h : a < s.size) (hc : s[a] = c) : (s.data.toList.drop a).head? = some c := by rw [drop_cons s a h, hc]; rfl
theorem hd_no (s : ByteArray) (a : Nat) (c : UInt8) (hc : ∀ h : a < s.size, s[a] ≠ c) : ¬ (s.data.toList.drop a).head? = some c := by
  rcases Nat.lt_or_ge a s.size with h | h
  · rw [drop_cons s a h]
    intro q
    exact hc h (by simpa using q)
  · rw [drop_end s a h]
    intro q
    cases q
theorem tl_drop (s : ByteArray) (a : Nat) : (s.data.toList.drop a).tail = s.data.toList.drop (a + 1) := by rw [List.tail_drop]
theorem dr_more (s : ByteArray) (a k : Nat) : (s.data.toList.drop a).drop k = s.data.toList.drop (a + k) := by rw [List.drop_drop]
/-- reading a step -/
theorem rStep_f {s : ByteArray} {x : Fld.It} {e : Nat} (h : Fld.num (s.data.toList.drop e) = none) : Fld.rStep x (s.data.toList.drop e) e = .inr e := by unfold Fld.rStep; rw [h]
theorem rStep_t {s : ByteArray} {x : Fld.It} {e n k : Nat} (h : Fld.num (s.data.toList.drop e) = some (n, k)) : Fld.rStep x (s.data.toList.drop e) e = .inl ({ x with t := n, ta := e }, e + k, s.data.toList.drop (e + k)) := by
  unfold Fld.rStep; rw [h]; simp only [dr_more]
theorem rNums_f {s : ByteArray} {x : Fld.It} {e : Nat} (h : ∀ h : e < s.size, s[e] ≠ 47) : Fld.rNums x (s.data.toList.drop e) e = .inl (x, e, s.data.toList.drop e) := by
  unfold Fld.rNums; rw [if_neg (hd_no s e 47 h)]
theorem rNums_t {s : ByteArray} {x : Fld.It} {e : Nat} (h : e < s.size) (hc : s[e] = 47) : Fld.rNums x (s.data.toList.drop e) e = Fld.rStep x (s.data.toList.drop (e + 1)) (e + 1) := by
  unfold Fld.rNums; rw [if_pos (hd_yes s e 47 h hc), tl_drop]
theorem rSec_f {K : Fld.Kd} {s : ByteArray} {x : Fld.It} {e : Nat} (h : Fld.value K (s.data.toList.drop e) = none) : Fld.rSec K x (s.data.toList.drop e) e = .inr e := by unfold Fld.rSec; rw [h]
theorem rSec_t {K : Fld.Kd} {s : ByteArray} {x : Fld.It} {e n k : Nat} (h : Fld.value K (s.data.toList.drop e) = some (n, k)) : Fld.rSec K x (s.data.toList.drop e) e = Fld.rNums { x with s := n, sa := e } (s.data.toList.drop (e + k)) (e + k) := by
  unfold Fld.rSec; rw [h]; simp only [dr_more]
theorem rVal_m {K : Fld.Kd} {s : ByteArray} {x : Fld.It} {e : Nat} (h : e < s.size) (hc : s[e] = 45) : Fld.rVal K x (s.data.toList.drop e) e = Fld.rSec K x (s.data.toList.drop (e + 1)) (e + 1) := by
  unfold Fld.rVal; rw [if_pos (hd_yes s e 45 h hc), tl_drop]
theorem rVal_s {K : Fld.Kd} {s : ByteArray} {x : Fld.It} {e : Nat} (h : e < s.size) (hc : s[e] = 47) : Fld.rVal K x (s.data.toList.drop e) e = Fld.rStep { x with s := max x.f K.hi } (s.data.toList.drop (e + 1)) (e + 1) := by
  unfold Fld.rVal; rw [if_neg (hd_no s e 45 (fun h' q => by rw [hc] at q; revert q; decide)), if_pos (hd_yes s e 47 h hc), tl_drop]
theorem rVal_f {K : Fld.Kd} {s : ByteArray} {x : Fld.It} {e : Nat} (h : ∀ h : e < s.size, s[e] ≠ 45) (h2 : ∀ h : e < s.size, s[e] ≠ 47) : Fld.rVal K x (s.data.toList.drop e) e = .inl (x, e, s.data.toList.drop e) := by
  unfold Fld.rVal; rw [if_neg (hd_no s e 45 h), if_neg (hd_no s e 47 h2)]
theorem item_star {K : Fld.Kd} {s : ByteArray} {e : Nat} (h : e < s.size) (hc : s[e] = 42) : Fld.item K (s.data.toList.drop e) e = Fld.rNums ⟨K.lo, 0, K.hi, 0, 1, 0⟩ (s.data.toList.drop (e + 1)) (e + 1) := by
  unfold Fld.item; rw [if_pos (hd_yes s e 42 h hc), tl_drop]
theorem item_f {K : Fld.Kd} {s : ByteArray} {e : Nat} (h : ∀ h : e < s.size, s[e] ≠ 42) (hv : Fld.value K (s.data.toList.drop e) = none) : Fld.item K (s.data.toList.drop e) e = .inr e := by
  unfold Fld.item; rw [if_neg (hd_no s e 42 h), hv]
theorem item_t {K : Fld.Kd} {s : ByteArray} {e n k : Nat} (h : ∀ h : e < s.size, s[e] ≠ 42) (hv : Fld.value K (s.data.toList.drop e) = some (n, k)) : Fld.item K (s.data.toList.drop e) e = Fld.rVal K ⟨n, e, n, e, 1, 0⟩ (s.data.toList.drop (e + k)) (e + k) := by
  unfold Fld.item; rw [if_neg (hd_no s e 42 h), hv]; simp only [dr_more]
/-- what one returns -/
def OneRes (K : Fld.Kd) (s : ByteArray) (a : Nat) (d : DI) (q : Nat) (ok : Bool) : Prop := match Fld.item K (s.data.toList.drop a) a with
  | .inr q' => q = q' ∧ ok = false
  | .inl (x, q', _) => RI K x d ∧ q = q' ∧ ok = true
theorem one_f {K : Fld.Kd} {s : ByteArray} {a q : Nat} (d : DI) (h : Fld.item K (s.data.toList.drop a) a = .inr q) : OneRes K s a d q false := by unfold OneRes; rw [h]; exact ⟨rfl, rfl⟩
theorem one_t {K : Fld.Kd} {s : ByteArray} {a q : Nat} {x : Fld.It} {r : List UInt8} {d : DI} (h : Fld.item K (s.data.toList.drop a) a = .inl (x, q, r)) (hr : RI K x d) : OneRes K s a d q true := by unfold OneRes; rw [h]; exact ⟨hr, rfl, rfl⟩
theorem byte_ne {c : UInt8} {n : Nat} (hn : n < 256) : c ≠ UInt8.ofNat n ↔ c.toNat ≠ n := by
  rw [Ne, Ne, ← UInt8.toNat_inj]
  rw [UInt8.toNat_ofNat_of_lt' hn]
theorem byte_eq {c : UInt8} {n : Nat} (hn : n < 256) : c = UInt8.ofNat n ↔ c.toNat = n := by
  rw [← UInt8.toNat_inj, UInt8.toNat_ofNat_of_lt' hn]
end Go.Proofs.YtpnfifhanmpapaaGreatDoor
