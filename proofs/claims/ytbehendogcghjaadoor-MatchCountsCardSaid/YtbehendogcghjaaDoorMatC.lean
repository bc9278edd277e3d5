/- Contracts of matcher, its closure, and ever of package match. -/
import Derived.Test.YtbehendogcghjaaDoorMatB
import Derived.Test.YtbehendogcghjaaDoorCivE
import Derived.Deep.QuietTactic
import Derived.BigQuiet
namespace Go.Proofs.YtbehendogcghjaaDoor
open Go.ChangeShapes Go.RowKit Go.Shelf

/-- both tables -/
structure LayM (w : World) : Prop where
  b : Lay w
  c : Cv.Lay w
theorem LayM.below {w w' : World} (L : LayM w) (h : Below w.heap.size w w') : LayM w' := ⟨L.b.below h, L.c.below h⟩
theorem LayM.alloc {w : World} (L : LayM w) (o : Obj) : LayM (w.alloc o) := L.below ((Below.refl _ _).alloc (Nat.le_refl _) _)
theorem LayM.kc {own : Nat → Prop} {A B : World} (h : Kc own A B) (ob : ¬ own 1) (oc : ¬ own 0) (L : LayM A) : LayM B where
  b := h.lay ob L.b
  c := by
    have g := fun k v (e : A.cell? ⟨0, k, none⟩ = some v) => h.cell (p := ⟨0, k, none⟩) oc e
    have s := h.size
    have q := L.c.lt
    constructor
    all_goals first | exact g _ _ (by first | exact L.c.c0 | exact L.c.c1 | exact L.c.c2 | exact L.c.c3 | exact L.c.c4 | exact L.c.c5 | exact L.c.c6 | exact L.c.c7 | exact L.c.c8 | exact L.c.c9 | exact L.c.c10 | exact L.c.c11) | omega

/-! plain facts of valid expressions -/
theorem fl3_eq : Exp.fl 3 = 4294967294 := by decide +kernel
theorem fl5_eq : Exp.fl 5 = 127 := by decide +kernel
theorem fl3_bit : ∀ d : Nat, 1 ≤ d → d ≤ 31 → (Exp.fl 3).testBit d = true := by
  intro d h1 h2
  rw [fl3_eq]
  have : ∀ k : Fin 32, 1 ≤ k.val → (4294967294 : Nat).testBit k.val = true := by decide +kernel
  exact this ⟨d, by omega⟩ h1
theorem fl5_bit : ∀ d : Nat, d ≤ 6 → (Exp.fl 5).testBit d = true := by
  intro d h2
  rw [fl5_eq]
  have : ∀ k : Fin 7, (127 : Nat).testBit k.val = true := by decide +kernel
  exact this ⟨d, by omega⟩
/-- the day with this number is matched -/
def Exp.Ex.On (x : Exp.Ex) (n : Int) : Prop := Mat.On x.a4 x.a3 x.a5 x.b3 x.b5 n
/-- some day is matched -/
def Exp.Ex.Evr (x : Exp.Ex) : Prop := ∃ n, x.On n
/-- what the closure answers -/
def Exp.Ex.mB (x : Exp.Ex) (m d k : Nat) : Bool := if (x.b3 || x.b5) = true then x.a4.testBit m && x.a3.testBit d && x.a5.testBit k else x.a4.testBit m && (x.a3.testBit d || x.a5.testBit k)
theorem mB_mt {x : Exp.Ex} (hok : x.Ok) (m : Nat) {d k : Nat} (d1 : 1 ≤ d) (d2 : d ≤ 31) (k2 : k ≤ 6) : x.mB m d k = Mat.mt x.a4 x.a3 x.a5 x.b3 x.b5 m d k := by
  unfold Exp.Ex.mB Mat.mt
  cases h3 : x.b3 <;> cases h5 : x.b5
  · simp
  · have e : x.a5.testBit k = true := by rw [hok.w h5]; exact fl5_bit k k2
    simp [e]
  · have e : x.a3.testBit d = true := by rw [hok.d h3]; exact fl3_bit d d1 d2
    simp [e]
  · have e : x.a5.testBit k = true := by rw [hok.w h5]; exact fl5_bit k k2
    have e' : x.a3.testBit d = true := by rw [hok.d h3]; exact fl3_bit d d1 d2
    simp [e, e']
theorem mB_on {x : Exp.Ex} (hok : x.Ok) {y m d n : Int} (v : Civ.Vld y m d) (hn : Civ.num y m d = n) : x.mB m.toNat d.toNat ((n + 4) % 7).toNat = true ↔ x.On n := by
  have b := Civ.dim_bd y m
  obtain ⟨_, _, v3, v4, v5, v6⟩ := id v
  rw [mB_mt hok _ (by omega) (by omega) (by omega), ← hn]
  exact (Mat.on_iff v).symm
theorem bit4 {x : Exp.Ex} (hok : x.Ok) {v : Nat} (h : x.a4.testBit v = true) : 1 ≤ v ∧ v ≤ 12 := hok.inn 4 (by decide) v h
theorem bit3 {x : Exp.Ex} (hok : x.Ok) {v : Nat} (h : x.a3.testBit v = true) : 1 ≤ v ∧ v ≤ 31 := hok.inn 3 (by decide) v h
theorem bit5 {x : Exp.Ex} (hok : x.Ok) {v : Nat} (h : x.a5.testBit v = true) : v ≤ 6 := (hok.inn 5 (by decide) v h).2
theorem bit2 {x : Exp.Ex} (hok : x.Ok) {v : Nat} (h : x.a2.testBit v = true) : v ≤ 23 := (hok.inn 2 (by decide) v h).2
theorem bit1 {x : Exp.Ex} (hok : x.Ok) {v : Nat} (h : x.a1.testBit v = true) : v ≤ 59 := (hok.inn 1 (by decide) v h).2
theorem bit0 {x : Exp.Ex} (hok : x.Ok) {v : Nat} (h : x.a0.testBit v = true) : v ≤ 59 := (hok.inn 0 (by decide) v h).2
theorem bit_some {S : Nat} (h : S ≠ 0) : ∃ v, S.testBit v = true := Nat.exists_testBit_of_ne_zero h
/-- the length of a month of a leap year; 0 for what is no month -/
def lenM (m : Nat) : Int := if 1 ≤ m ∧ m ≤ 12 then Civ.dim 2000 m else 0
theorem evr_week {x : Exp.Ex} (hok : x.Ok) (h5 : x.b5 = false) : x.Evr := by
  obtain ⟨m, hm⟩ := bit_some (hok.ne 4 (by decide))
  obtain ⟨k, hk⟩ := bit_some (hok.ne 5 (by decide))
  have m1 := bit4 hok hm
  have k1 := bit5 hok hk
  obtain ⟨f, hf⟩ : ∃ f, Civ.num 2000 m 1 = f := ⟨_, rfl⟩
  obtain ⟨j, j0, j6, jw⟩ : ∃ j : Int, 0 ≤ j ∧ j ≤ 6 ∧ (f + j + 4) % 7 = k := ⟨(k - f - 4) % 7, by omega, by omega, by omega⟩
  have bd := Civ.dim_bd 2000 m
  have v : Civ.Vld 2000 m (1 + j) := ⟨by omega, by omega, by omega, by omega, by omega, by omega⟩
  have e : Civ.num 2000 m (1 + j) = f + j := by rw [← hf]; unfold Civ.num; omega
  refine ⟨f + j, 2000, m, 1 + j, v, e, ?_⟩
  unfold Mat.mt
  have hk' : x.a5.testBit ((f + j + 4) % 7).toNat = true := by rw [jw]; exact hk
  have hm' : x.a4.testBit (m : Int).toNat = true := hm
  rw [hm', hk', h5]
  cases x.b3 <;> simp
theorem dim2000 (y m : Int) : Civ.dim y m ≤ Civ.dim 2000 m := by
  have := Civ.lp_01 y
  have l : Civ.lp 2000 = 1 := by decide
  unfold Civ.dim
  rw [l]
  split
  · omega
  · exact Int.le_refl _
/-- is a day matched, where any day of the week is right: the smallest day, and the lengths of the months -/
theorem evr_star {x : Exp.Ex} (hok : x.Ok) (h5 : x.b5 = true) {a : Int} {b : Bool} (ha : IsNext x.a3 1 a b) : x.Evr ↔ ∃ m, x.a4.testBit m = true ∧ a ≤ lenM m := by
  obtain ⟨d0, hd0⟩ := bit_some (hok.ne 3 (by decide))
  have e0 := bit3 hok hd0
  obtain ⟨r, hr, rfl, rfl⟩ : ∃ r : Nat, Nxt x.a3 1 r ∧ a = r ∧ b = true := by
    rcases ha with ⟨h, _⟩ | h
    · have := h d0 hd0; omega
    · exact h
  have hr1 := bit3 hok hr.has
  constructor
  · rintro ⟨n, y, m, d, v, _, t⟩
    obtain ⟨_, _, v3, v4, v5, v6⟩ := id v
    unfold Mat.mt at t
    simp only [Bool.and_eq_true] at t
    refine ⟨m.toNat, t.1, ?_⟩
    unfold lenM
    have em : ((m.toNat : Nat) : Int) = m := by omega
    rw [if_pos (by omega), em]
    have g := dim2000 y m
    have hd : x.a3.testBit d.toNat = true := by
      cases h3 : x.b3 with
      | true => rw [hok.d h3]; exact fl3_bit _ (by omega) (by have := Civ.dim_bd y m; omega)
      | false =>
        have := t.2
        rw [h3, h5] at this
        simpa using this
    have := hr.min d.toNat hd (by omega)
    omega
  · rintro ⟨m, hm, hl⟩
    have m1 := bit4 hok hm
    unfold lenM at hl
    rw [if_pos m1] at hl
    have v : Civ.Vld 2000 m r := ⟨by omega, by omega, by omega, by omega, by omega, hl⟩
    refine ⟨_, 2000, m, r, v, rfl, ?_⟩
    unfold Mat.mt
    have hm' : x.a4.testBit (m : Int).toNat = true := hm
    have hr' : x.a3.testBit (r : Int).toNat = true := hr.has
    rw [hm', hr', h5]
    cases x.b3 <;> simp
theorem bd_of {x : Exp.Ex} (hok : x.Ok) : x.Bd := fun _ hi => Exp.at_lt hok hi

/-! the closure -/
theorem has_nat_any (S j : Nat) (r : Bool) (hS : S < 2 ^ 64) (h : S.testBit j = r) (w : World) :
    Calls Tryd.prog 72 #[.int .u64 S, .int .i64 j] w fun e w' => e = .returned (.bool r) ∧ w' = w := by
  have := has_any S j w hS
  rw [has_nat hS, h] at this
  exact this.mono fun _ _ ⟨h1, h2⟩ => ⟨h1, h2.symm⟩
set_option maxRecDepth 100000 in
set_option maxHeartbeats 2000000 in
theorem matcher1_any (x : Exp.Ex) (hx : x.Bd) (m d k B : Nat) (r : Bool) (hr : x.mB m d k = r) (w : World) (R : Row w B 24 (exL x)) :
    Calls Tryd.prog 92 #[.int .i64 m, .int .i64 d, .int .i64 k, .pointer (some ⟨B, 0, none⟩)] w fun e w' => e = .returned (.bool r) ∧ Below w.heap.size w w' := by
  have c3 := R.cell 3; have c4 := R.cell 4; have c5 := R.cell 5; have c6 := R.cell 6; have c7 := R.cell 7
  simp only [exL, List.getElem?_cons_zero, List.getElem?_cons_succ] at c3 c4 c5 c6 c7
  obtain ⟨bm, hm⟩ : ∃ b, x.a4.testBit m = b := ⟨_, rfl⟩
  obtain ⟨bd, hd⟩ : ∃ b, x.a3.testBit d = b := ⟨_, rfl⟩
  obtain ⟨bk, hk⟩ : ∃ b, x.a5.testBit k = b := ⟨_, rfl⟩
  unfold Exp.Ex.mB at hr
  rw [hm, hd, hk] at hr
  have lm := hx 4 (by decide); have ld := hx 3 (by decide); have lk := hx 5 (by decide)
  simp only [Exp.Ex.at] at lm ld lk
  have BW := Lib.hid (fun nq => below_drewN w.heap.size w nq)
  have HR := Lib.hid hr
  clear hx R hr
  cases h3 : x.b3 <;> cases h5 : x.b5
  all_goals
    rw [h3] at c6
    rw [h5] at c7
    go_enter Tryd.func92, Tryd.ntmps92
    go_wp2_with fail
    go_quiet (first | (go_at_call 72; exact Calls.quiet_of_same (has_nat_any _ _ _ (by assumption) (by assumption) _)))
    have hr := HR.out
    rw [h3, h5] at hr
    clear HR h3 h5
    cases bm <;> cases bd <;> cases bk
    all_goals
      obtain rfl := hr
      go_wp2_with (go_at_call 72; refine (has_nat_any _ _ _ lm hm _).mono ?_; rintro e w1 ⟨rfl, rfl⟩)
      go_ret
      exact ⟨rfl, BW.out _⟩
theorem matcher_any (x : Exp.Ex) (w : World) :
    Calls Tryd.prog 75 #[.agg #[.int .u64 x.a0, .int .u64 x.a1, .int .u64 x.a2, .int .u64 x.a3, .int .u64 x.a4, .int .u64 x.a5, .bool x.b3, .bool x.b5]] w fun e w' => e = .returned (.func (.func 92) #[] #[.pointer (some ⟨w.heap.size, 0, none⟩)]) ∧ w' = w.alloc (.cells #[.int .u64 x.a0, .int .u64 x.a1, .int .u64 x.a2, .int .u64 x.a3, .int .u64 x.a4, .int .u64 x.a5, .bool x.b3, .bool x.b5] 24) := by
  go_enter Tryd.func75, Tryd.ntmps75
  go_wp2
  go_ret
  exact ⟨rfl, rfl⟩
theorem lenM_any (m : Nat) (w : World) (L : LayM w) :
    Calls Tryd.prog 65 #[.int .i64 2000, .int .i64 m] w fun e w' => (∃ q, e = .returned (.tuple #[.int .i64 (lenM m), .int .i64 q])) ∧ w = w' := by
  unfold lenM
  split
  · exact (Cv.length_yes 2000 m w L.c (by omega) (by omega) (by omega) (by omega)).mono fun _ _ ⟨h1, h2⟩ => ⟨⟨_, h1⟩, h2⟩
  · exact (Cv.length_no 2000 m w (by omega)).mono fun _ _ ⟨h1, h2⟩ => ⟨⟨_, h1⟩, h2⟩
theorem numbers_up (S : Nat) (v : Int) (w : World) :
    Calls Tryd.prog 64 #[.int .i64 1, .int .u64 S, .int .i64 v] w fun e w' => e = .returned (.func (.func 83) #[] #[.pointer (some ⟨w.heap.size, 0, none⟩), .pointer (some ⟨w.heap.size + 1, 0, none⟩), .pointer (some ⟨w.heap.size + 1 + 1, 0, none⟩)]) ∧
      w' = ((w.alloc (.cells #[.int .i64 1] 55)).alloc (.cells #[.int .u64 S] 22)).alloc (.cells #[.int .i64 v] 3) := numbers_any .up S v w
end Go.Proofs.YtbehendogcghjaaDoor
