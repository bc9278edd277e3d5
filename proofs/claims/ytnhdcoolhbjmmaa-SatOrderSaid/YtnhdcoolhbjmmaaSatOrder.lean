/- For all int64 numbers a, b and c, SatOrder returns true: sums and products do not depend on the order, differences change their sign with it, sums are monotone, and all results are clipped. No conditions. -/
import Derived.Test.YtnhdcoolhbjmmaaRows
import Derived.Test.YtnhdcoolhbjmmaaSatH
import Derived.OpenShut
import Derived.ChangeOld
namespace Go.Proofs.Ytnhdcoolhbjmmaa.satOrder
open Go.ChangeShapes Go.WideShapes Go.ChangeAt Go.RowKit

theorem add_comm' (a b : Int) : addS a b = addS b a := by unfold addS; rw [Int.add_comm]
theorem mul_comm' (a b : Int) : mulS a b = mulS b a := by unfold mulS; rw [Int.mul_comm]
theorem sub_neg' (a b : Int) : subS b a = -subS a b := by unfold subS; rw [← clip_neg]; congr 1; omega
theorem add_mono (a b c : Int) (h : a ≤ b) : addS a c ≤ addS b c := by unfold addS clip; omega
theorem add_zero' {v : Int} (v0 : -4611686018427387904 ≤ v) (v1 : v ≤ 4611686018427387904) : addS v 0 = v := by unfold addS clip; omega
theorem mul_one' {v : Int} (v0 : -4611686018427387904 ≤ v) (v1 : v ≤ 4611686018427387904) : mulS v 1 = v := by
  unfold mulS; rw [clip_in v0 v1, clip_in (a := 1) (by omega) (by omega), Int.mul_one, clip_in v0 v1]
theorem inB {v : Int} (v0 : -4611686018427387904 ≤ v) (v1 : v ≤ 4611686018427387904) : (clip v == v) = true := by rw [clip_in v0 v1]; simp
theorem clipV (a c : Int) (w : World) (hc : clip a = c) :
    Calls Try.prog 16 #[.int .i64 a] w fun e w' => e = .returned (.int .i64 c) ∧ w = w' := by
  subst hc; exact clip_any a w
theorem within_any (a : Int) (v : Bool) (w : World) (hv : (clip a == a) = v) :
    Calls Try.prog 35 #[.int .i64 a] w fun e w' => e = .returned (.bool v) ∧ w = w' := by
  subst hv
  by_cases h : a < -4611686018427387904
  · rw [show (clip a == a) = false by rw [clip_lo (by omega)]; exact beq_eq_false_iff_ne.2 (by omega)]
    have d : decide (-4611686018427387904 ≤ a) = false := by simp; omega
    go_enter Try.func35, Try.ntmps35
    go_wp2
    go_ret
    exact ⟨rfl, rfl⟩
  · have d : decide (-4611686018427387904 ≤ a) = true := by simp; omega
    by_cases k : 4611686018427387904 < a
    · rw [show (clip a == a) = false by rw [clip_hi (by omega)]; exact beq_eq_false_iff_ne.2 (by omega)]
      have d' : decide (a ≤ 4611686018427387904) = false := by simp; omega
      go_enter Try.func35, Try.ntmps35
      go_wp2
      go_ret
      exact ⟨rfl, rfl⟩
    · rw [inB (by omega) (by omega)]
      have d' : decide (a ≤ 4611686018427387904) = true := by simp; omega
      go_enter Try.func35, Try.ntmps35
      go_wp2
      go_ret
      exact ⟨rfl, rfl⟩
/-- the four results lie in the block that was made, nothing older has changed -/
def Inv (w w3 : World) (vs : List Int) (wr : World) : Prop := Below w.heap.size w wr ∧ ∀ i, i < 4 → wr.cell? ⟨w3.heap.size, i, none⟩ = some (.int .i64 (vs.getD i 0))
theorem Inv.step {w w3 wr w4 : World} {vs : List Int} (h : Inv w w3 vs wr) (hz : w3.heap.size < wr.heap.size) (hb : Below wr.heap.size wr w4) : Inv w w3 vs w4 :=
  ⟨h.1.trans (hb.mono h.1.size), fun i hi => by rw [hb.cell (p := ⟨w3.heap.size, i, none⟩) hz]; exact h.2 i hi⟩
theorem vbd (a s d p : Int) (k : Nat) (v : Int) (hk : k < 4) (hs : -4611686018427387904 ≤ s ∧ s ≤ 4611686018427387904) (hd : -4611686018427387904 ≤ d ∧ d ≤ 4611686018427387904) (hp : -4611686018427387904 ≤ p ∧ p ≤ 4611686018427387904) (hv : [clip a, s, d, p].getD k 0 = v) : -4611686018427387904 ≤ v ∧ v ≤ 4611686018427387904 := by
  have hc := clip_bd a
  have : k = 0 ∨ k = 1 ∨ k = 2 ∨ k = 3 := by omega
  rcases this with rfl | rfl | rfl | rfl <;> simp at hv <;> subst hv <;> assumption

theorem walk (a b c : Int) (w : World) (_ : (Lit.int .i64 a).wf = true) (_ : (Lit.int .i64 b).wf = true) (_ : (Lit.int .i64 c).wf = true) :
    Calls Try.prog 8 #[.int .i64 a, .int .i64 b, .int .i64 c] w fun e w' => e = .returned (.bool true) ∧ Below w.heap.size w w' := by
  obtain ⟨s, hs⟩ : ∃ s, addS a b = s := ⟨_, rfl⟩
  obtain ⟨p, hp⟩ : ∃ p, mulS a b = p := ⟨_, rfl⟩
  obtain ⟨d, hd⟩ : ∃ d, subS a b = d := ⟨_, rfl⟩
  obtain ⟨x, hx⟩ : ∃ x, addS a c = x := ⟨_, rfl⟩
  obtain ⟨y, hy⟩ : ∃ y, addS b c = y := ⟨_, rfl⟩
  obtain ⟨sb0, sb1⟩ := hs ▸ addS_bd a b
  obtain ⟨pb0, pb1⟩ := hp ▸ mulS_bd a b
  obtain ⟨db0, db1⟩ := hd ▸ subS_bd a b
  have le1 : a ≤ b → x ≤ y := fun h => hx ▸ hy ▸ add_mono a b c h
  have le2 : b ≤ a → y ≤ x := fun h => hx ▸ hy ▸ add_mono b a c h
  have H1 := Lib.hid hs
  have H2 := Lib.hid ((add_comm' b a).trans hs)
  have H3 := Lib.hid hp
  have H4 := Lib.hid ((mul_comm' b a).trans hp)
  have H5 := Lib.hid hd
  have H6 := Lib.hid ((sub_neg' a b).trans (by rw [hd]))
  have HX := Lib.hid hx
  have HY := Lib.hid hy
  clear hs hp hd hx hy
  have nd : -(-d) = d := by omega
  by_cases h : a < b
  · have d1 : decide (a ≤ b) = true := by simp; omega
    have d2 : decide (b ≤ a) = false := by simp; omega
    have d3 : decide (y < x) = false := by have := le1 (by omega); simp; omega
    clear le1 le2 nd
    go_enter Try.func8, Try.ntmps8
    go_wp2_with fail
    refine (addV _ _ s _ H1.out).mono ?_
    rintro e w' ⟨rfl, rfl⟩
    go_wp2_with fail
    refine (addV _ _ s _ H2.out).mono ?_
    rintro e w' ⟨rfl, rfl⟩
    go_wp2_with fail
    refine (mulP_any _ _ p H3.out _).mono ?_
    rintro e w1 ⟨rfl, hb1⟩
    go_wp2_with fail
    refine (mulP_any _ _ p H4.out _).mono ?_
    rintro e w2 ⟨rfl, hb2⟩
    go_wp2_with fail
    refine (subV _ _ d _ H5.out).mono ?_
    rintro e w' ⟨rfl, rfl⟩
    go_wp2_with fail
    refine (subV _ _ (-d) _ H6.out).mono ?_
    rintro e w' ⟨rfl, rfl⟩
    go_wp2_with fail
    refine (addV _ _ x _ HX.out).mono ?_
    rintro e w' ⟨rfl, rfl⟩
    go_wp2_with fail
    refine (addV _ _ y _ HY.out).mono ?_
    rintro e w' ⟨rfl, rfl⟩
    go_wp2_with fail
    refine (clip_any _ _).mono ?_
    rintro e w' ⟨rfl, rfl⟩
    go_wp2_with fail
    refine (addV _ _ s _ H1.out).mono ?_
    rintro e w' ⟨rfl, rfl⟩
    go_wp2_with fail
    refine (subV _ _ d _ H5.out).mono ?_
    rintro e w' ⟨rfl, rfl⟩
    go_wp2_with fail
    refine (mulP_any _ _ p H3.out _).mono ?_
    rintro e w3 ⟨rfl, hb3⟩
    go_wp2_with fail
    have hc0 : ∀ i, i < 4 → (w3.alloc (.cells #[.int .i64 (clip a), .int .i64 s, .int .i64 d, .int .i64 p] 2)).cell? ⟨w3.heap.size, i, none⟩ = some (.int .i64 ([clip a, s, d, p].getD i 0)) := by
      intro i hi
      have : i = 0 ∨ i = 1 ∨ i = 2 ∨ i = 3 := by omega
      rcases this with rfl | rfl | rfl | rfl <;> simp [go_sem]
    have s1 := hb1.size
    have s2 := hb2.size
    have s3 := hb3.size
    have hbA : Below w.heap.size w (w3.alloc (.cells #[.int .i64 (clip a), .int .i64 s, .int .i64 d, .int .i64 p] 2)) :=
      (hb1.trans ((hb2.mono (by omega)).trans (hb3.mono (by omega)))).alloc (by omega) _
    have hzA : w3.heap.size < (w3.alloc (.cells #[.int .i64 (clip a), .int .i64 s, .int .i64 d, .int .i64 p] 2)).heap.size := by simp
    have HC := Lib.hid hc0
    have HB := Lib.hid hbA
    clear hc0 hbA hb1 hb2 hb3 s1 s2 s3
    go_loopw [74] (fun i wr => ∃ k : Nat, k ≤ 4 ∧ i = .int .i64 k ∧ w3.heap.size < wr.heap.size ∧ Inv w w3 [clip a, s, d, p] wr) (fun i _ => 4 - (intOf i).toNat)
    case atStart => exact ⟨0, by omega, rfl, hzA, HB.out, HC.out⟩
    case round =>
      obtain ⟨k, hk, rfl, hz, hi⟩ := hrel
      by_cases hlt : k < 4
      · obtain ⟨v, hv⟩ : ∃ v, [clip a, s, d, p].getD k 0 = v := ⟨_, rfl⟩
        have hcell : wr.cell? ⟨w3.heap.size, k, none⟩ = some (.int .i64 v) := by rw [hi.2 k hlt, hv]
        have vb := vbd a s d p k v hlt ⟨sb0, sb1⟩ ⟨db0, db1⟩ ⟨pb0, pb1⟩ hv
        obtain ⟨v0, v1⟩ := vb
        have HI := Lib.hid hi
        clear hi hv hzA
        go_wp2_with fail
        refine (within_any _ true _ (inB v0 v1)).mono ?_
        rintro e w' ⟨rfl, rfl⟩
        go_wp2_with fail
        refine (clipV _ v _ (clip_in v0 v1)).mono ?_
        rintro e w' ⟨rfl, rfl⟩
        go_wp2_with fail
        refine (addV _ _ v _ (add_zero' v0 v1)).mono ?_
        rintro e w' ⟨rfl, rfl⟩
        go_wp2_with fail
        refine (mulP_any _ _ v (mul_one' v0 v1) _).mono ?_
        rintro e w4 ⟨rfl, hb4⟩
        go_wp2_with fail
        go_roundw
        case rel => exact ⟨k + 1, by omega, by go_num, by have := hb4.size; omega, (HI.out).step hz hb4⟩
        case measure => simp [intOf]; omega
      · have HI := Lib.hid hi
        clear hi
        go_wp2_with fail
        refine (within_any _ _ _ rfl).mono ?_
        rintro e w' ⟨rfl, rfl⟩
        go_wp2_with fail
        refine (clip_any _ _).mono ?_
        rintro e w' ⟨rfl, rfl⟩
        go_wp2_with fail
        refine (works_any _).mono ?_
        rintro e w5 ⟨rfl, hb5⟩
        go_wp2_with fail
        go_ret
        exact ⟨rfl, HI.out.1.trans (hb5.mono HI.out.1.size)⟩
  · by_cases g : b < a
    · have d1 : decide (a ≤ b) = false := by simp; omega
      have d2 : decide (b ≤ a) = true := by simp; omega
      have d3 : decide (x < y) = false := by have := le2 (by omega); simp; omega
      clear le1 le2 nd
      go_enter Try.func8, Try.ntmps8
      go_wp2_with fail
      refine (addV _ _ s _ H1.out).mono ?_
      rintro e w' ⟨rfl, rfl⟩
      go_wp2_with fail
      refine (addV _ _ s _ H2.out).mono ?_
      rintro e w' ⟨rfl, rfl⟩
      go_wp2_with fail
      refine (mulP_any _ _ p H3.out _).mono ?_
      rintro e w1 ⟨rfl, hb1⟩
      go_wp2_with fail
      refine (mulP_any _ _ p H4.out _).mono ?_
      rintro e w2 ⟨rfl, hb2⟩
      go_wp2_with fail
      refine (subV _ _ d _ H5.out).mono ?_
      rintro e w' ⟨rfl, rfl⟩
      go_wp2_with fail
      refine (subV _ _ (-d) _ H6.out).mono ?_
      rintro e w' ⟨rfl, rfl⟩
      go_wp2_with fail
      refine (addV _ _ x _ HX.out).mono ?_
      rintro e w' ⟨rfl, rfl⟩
      go_wp2_with fail
      refine (addV _ _ y _ HY.out).mono ?_
      rintro e w' ⟨rfl, rfl⟩
      go_wp2_with fail
      refine (clip_any _ _).mono ?_
      rintro e w' ⟨rfl, rfl⟩
      go_wp2_with fail
      refine (addV _ _ s _ H1.out).mono ?_
      rintro e w' ⟨rfl, rfl⟩
      go_wp2_with fail
      refine (subV _ _ d _ H5.out).mono ?_
      rintro e w' ⟨rfl, rfl⟩
      go_wp2_with fail
      refine (mulP_any _ _ p H3.out _).mono ?_
      rintro e w3 ⟨rfl, hb3⟩
      go_wp2_with fail
      have hc0 : ∀ i, i < 4 → (w3.alloc (.cells #[.int .i64 (clip a), .int .i64 s, .int .i64 d, .int .i64 p] 2)).cell? ⟨w3.heap.size, i, none⟩ = some (.int .i64 ([clip a, s, d, p].getD i 0)) := by
        intro i hi
        have : i = 0 ∨ i = 1 ∨ i = 2 ∨ i = 3 := by omega
        rcases this with rfl | rfl | rfl | rfl <;> simp [go_sem]
      have s1 := hb1.size
      have s2 := hb2.size
      have s3 := hb3.size
      have hbA : Below w.heap.size w (w3.alloc (.cells #[.int .i64 (clip a), .int .i64 s, .int .i64 d, .int .i64 p] 2)) :=
        (hb1.trans ((hb2.mono (by omega)).trans (hb3.mono (by omega)))).alloc (by omega) _
      have hzA : w3.heap.size < (w3.alloc (.cells #[.int .i64 (clip a), .int .i64 s, .int .i64 d, .int .i64 p] 2)).heap.size := by simp
      have HC := Lib.hid hc0
      have HB := Lib.hid hbA
      clear hc0 hbA hb1 hb2 hb3 s1 s2 s3
      go_loopw [74] (fun i wr => ∃ k : Nat, k ≤ 4 ∧ i = .int .i64 k ∧ w3.heap.size < wr.heap.size ∧ Inv w w3 [clip a, s, d, p] wr) (fun i _ => 4 - (intOf i).toNat)
      case atStart => exact ⟨0, by omega, rfl, hzA, HB.out, HC.out⟩
      case round =>
        obtain ⟨k, hk, rfl, hz, hi⟩ := hrel
        by_cases hlt : k < 4
        · obtain ⟨v, hv⟩ : ∃ v, [clip a, s, d, p].getD k 0 = v := ⟨_, rfl⟩
          have hcell : wr.cell? ⟨w3.heap.size, k, none⟩ = some (.int .i64 v) := by rw [hi.2 k hlt, hv]
          have vb := vbd a s d p k v hlt ⟨sb0, sb1⟩ ⟨db0, db1⟩ ⟨pb0, pb1⟩ hv
          obtain ⟨v0, v1⟩ := vb
          have HI := Lib.hid hi
          clear hi hv hzA
          go_wp2_with fail
          refine (within_any _ true _ (inB v0 v1)).mono ?_
          rintro e w' ⟨rfl, rfl⟩
          go_wp2_with fail
          refine (clipV _ v _ (clip_in v0 v1)).mono ?_
          rintro e w' ⟨rfl, rfl⟩
          go_wp2_with fail
          refine (addV _ _ v _ (add_zero' v0 v1)).mono ?_
          rintro e w' ⟨rfl, rfl⟩
          go_wp2_with fail
          refine (mulP_any _ _ v (mul_one' v0 v1) _).mono ?_
          rintro e w4 ⟨rfl, hb4⟩
          go_wp2_with fail
          go_roundw
          case rel => exact ⟨k + 1, by omega, by go_num, by have := hb4.size; omega, (HI.out).step hz hb4⟩
          case measure => simp [intOf]; omega
        · have HI := Lib.hid hi
          clear hi
          go_wp2_with fail
          refine (within_any _ _ _ rfl).mono ?_
          rintro e w' ⟨rfl, rfl⟩
          go_wp2_with fail
          refine (clip_any _ _).mono ?_
          rintro e w' ⟨rfl, rfl⟩
          go_wp2_with fail
          refine (works_any _).mono ?_
          rintro e w5 ⟨rfl, hb5⟩
          go_wp2_with fail
          go_ret
          exact ⟨rfl, HI.out.1.trans (hb5.mono HI.out.1.size)⟩
    · have d1 : decide (a ≤ b) = true := by simp; omega
      have d2 : decide (b ≤ a) = true := by simp; omega
      have d3 : decide (y < x) = false := by have := le1 (by omega); simp; omega
      have d4 : decide (x < y) = false := by have := le2 (by omega); simp; omega
      clear le1 le2 nd
      go_enter Try.func8, Try.ntmps8
      go_wp2_with fail
      refine (addV _ _ s _ H1.out).mono ?_
      rintro e w' ⟨rfl, rfl⟩
      go_wp2_with fail
      refine (addV _ _ s _ H2.out).mono ?_
      rintro e w' ⟨rfl, rfl⟩
      go_wp2_with fail
      refine (mulP_any _ _ p H3.out _).mono ?_
      rintro e w1 ⟨rfl, hb1⟩
      go_wp2_with fail
      refine (mulP_any _ _ p H4.out _).mono ?_
      rintro e w2 ⟨rfl, hb2⟩
      go_wp2_with fail
      refine (subV _ _ d _ H5.out).mono ?_
      rintro e w' ⟨rfl, rfl⟩
      go_wp2_with fail
      refine (subV _ _ (-d) _ H6.out).mono ?_
      rintro e w' ⟨rfl, rfl⟩
      go_wp2_with fail
      refine (addV _ _ x _ HX.out).mono ?_
      rintro e w' ⟨rfl, rfl⟩
      go_wp2_with fail
      refine (addV _ _ y _ HY.out).mono ?_
      rintro e w' ⟨rfl, rfl⟩
      go_wp2_with fail
      refine (addV _ _ x _ HX.out).mono ?_
      rintro e w' ⟨rfl, rfl⟩
      go_wp2_with fail
      refine (addV _ _ y _ HY.out).mono ?_
      rintro e w' ⟨rfl, rfl⟩
      go_wp2_with fail
      refine (clip_any _ _).mono ?_
      rintro e w' ⟨rfl, rfl⟩
      go_wp2_with fail
      refine (addV _ _ s _ H1.out).mono ?_
      rintro e w' ⟨rfl, rfl⟩
      go_wp2_with fail
      refine (subV _ _ d _ H5.out).mono ?_
      rintro e w' ⟨rfl, rfl⟩
      go_wp2_with fail
      refine (mulP_any _ _ p H3.out _).mono ?_
      rintro e w3 ⟨rfl, hb3⟩
      go_wp2_with fail
      have hc0 : ∀ i, i < 4 → (w3.alloc (.cells #[.int .i64 (clip a), .int .i64 s, .int .i64 d, .int .i64 p] 2)).cell? ⟨w3.heap.size, i, none⟩ = some (.int .i64 ([clip a, s, d, p].getD i 0)) := by
        intro i hi
        have : i = 0 ∨ i = 1 ∨ i = 2 ∨ i = 3 := by omega
        rcases this with rfl | rfl | rfl | rfl <;> simp [go_sem]
      have s1 := hb1.size
      have s2 := hb2.size
      have s3 := hb3.size
      have hbA : Below w.heap.size w (w3.alloc (.cells #[.int .i64 (clip a), .int .i64 s, .int .i64 d, .int .i64 p] 2)) :=
        (hb1.trans ((hb2.mono (by omega)).trans (hb3.mono (by omega)))).alloc (by omega) _
      have hzA : w3.heap.size < (w3.alloc (.cells #[.int .i64 (clip a), .int .i64 s, .int .i64 d, .int .i64 p] 2)).heap.size := by simp
      have HC := Lib.hid hc0
      have HB := Lib.hid hbA
      clear hc0 hbA hb1 hb2 hb3 s1 s2 s3
      go_loopw [74] (fun i wr => ∃ k : Nat, k ≤ 4 ∧ i = .int .i64 k ∧ w3.heap.size < wr.heap.size ∧ Inv w w3 [clip a, s, d, p] wr) (fun i _ => 4 - (intOf i).toNat)
      case atStart => exact ⟨0, by omega, rfl, hzA, HB.out, HC.out⟩
      case round =>
        obtain ⟨k, hk, rfl, hz, hi⟩ := hrel
        by_cases hlt : k < 4
        · obtain ⟨v, hv⟩ : ∃ v, [clip a, s, d, p].getD k 0 = v := ⟨_, rfl⟩
          have hcell : wr.cell? ⟨w3.heap.size, k, none⟩ = some (.int .i64 v) := by rw [hi.2 k hlt, hv]
          have vb := vbd a s d p k v hlt ⟨sb0, sb1⟩ ⟨db0, db1⟩ ⟨pb0, pb1⟩ hv
          obtain ⟨v0, v1⟩ := vb
          have HI := Lib.hid hi
          clear hi hv hzA
          go_wp2_with fail
          refine (within_any _ true _ (inB v0 v1)).mono ?_
          rintro e w' ⟨rfl, rfl⟩
          go_wp2_with fail
          refine (clipV _ v _ (clip_in v0 v1)).mono ?_
          rintro e w' ⟨rfl, rfl⟩
          go_wp2_with fail
          refine (addV _ _ v _ (add_zero' v0 v1)).mono ?_
          rintro e w' ⟨rfl, rfl⟩
          go_wp2_with fail
          refine (mulP_any _ _ v (mul_one' v0 v1) _).mono ?_
          rintro e w4 ⟨rfl, hb4⟩
          go_wp2_with fail
          go_roundw
          case rel => exact ⟨k + 1, by omega, by go_num, by have := hb4.size; omega, (HI.out).step hz hb4⟩
          case measure => simp [intOf]; omega
        · have HI := Lib.hid hi
          clear hi
          go_wp2_with fail
          refine (within_any _ _ _ rfl).mono ?_
          rintro e w' ⟨rfl, rfl⟩
          go_wp2_with fail
          refine (clip_any _ _).mono ?_
          rintro e w' ⟨rfl, rfl⟩
          go_wp2_with fail
          refine (works_any _).mono ?_
          rintro e w5 ⟨rfl, hb5⟩
          go_wp2_with fail
          go_ret
          exact ⟨rfl, HI.out.1.trans (hb5.mono HI.out.1.size)⟩

theorem own : ownKnob Try.prog.godebug = none := by kernel_rfl
theorem laidOut : laidOutB Try.prog = true := by kernel_rfl

set_option maxRecDepth 100000 in
theorem lifted (os : Os) (started : os.Started) (H : Type) (enc : TypeId × Value → H) :
    ReturnsInHanded {} Try.checked os 8 .any (Rows.satOrderSpec.pre6 enc Try.prog Try.f8 Rows.satOrderRow.domain false) (Rows.satOrderSpec.post enc Try.prog Try.f8 false true false false) := by
  refine returnsInHanded_of_change (C := Try.checked) own started (by kernel_rfl) Try.func8
    (ChangeSpec.witness6 (enc := enc) (C := Try.checked) false ⟨#[], #[.int .i64 0, .int .i64 0, .int .i64 0], []⟩ 8 (by kernel_rfl) (by kernel_rfl) (by kernel_rfl) (by kernel_rfl)) ?_
  intro W base args ds gs before hval0 hW hcnd _
  have hval : ∀ (j : Nat) t v, Try.f8.params[j]? = some t → args[j]? = some v → Value.okWide Try.prog W .any base t v := hval0
  have hW' := hW
  obtain ⟨p, q, hA0, hV, rfl, hfz, hnd⟩ := hW
  have hA : DataW.TrodAll enc Try.prog W 0 (fun _ => true) true Try.f8.params.toList args.toList ds p := hA0
  rw [Try.params8] at hA hval
  obtain ⟨v0, vs0, d0, ds0, p0, q0, hargs, rfl, rfl, h0, r0⟩ := trodAll_cons hA
  obtain ⟨v1, vs1, d1, ds1, p1, q1, rfl, rfl, rfl, h1, r1⟩ := trodAll_cons r0
  obtain ⟨v2, vs2, d2, ds2, p2, q2, rfl, rfl, rfl, h2, r2⟩ := trodAll_cons r1
  obtain ⟨rfl, rfl, rfl⟩ := trodAll_nil r2
  obtain rfl : args = #[v0, v1, v2] := by cases args; simp_all
  obtain ⟨rfl, rfl⟩ := trodVars_none hV
  obtain ⟨a0, rfl, rfl, rfl, w0⟩ := open_int Try.underlying2 (hval 0 2 v0 rfl rfl) h0
  obtain ⟨a1, rfl, rfl, rfl, w1⟩ := open_int Try.underlying2 (hval 1 2 v1 rfl rfl) h1
  obtain ⟨a2, rfl, rfl, rfl, w2⟩ := open_int Try.underlying2 (hval 2 2 v2 rfl rfl) h2
  clear hA0 hval0
  refine (walk a0 a1 a2 W w0 w1 w2).mono fun e W' ⟨he, bel⟩ => ?_
  subst he
  exact ⟨_, rfl, _, _, _, [], _, [], hW', trodAll_mk1 (shut_bool Try.underlying4 _), (trodAll_cons_mk (shut_int Try.underlying2 w0) (trodAll_cons_mk (shut_int Try.underlying2 w1) (trodAll_cons_mk (shut_int Try.underlying2 w2) trodAll_mk0))), rfl, bel.frame _, fun h => by cases h⟩

theorem proved : Rows.SatOrderSaid :=
  OpenClaim.holds_of_wide 8 Try.f8 rfl rfl rfl rfl rfl rfl rfl ⟨rfl, rfl, rfl, rfl, rfl⟩ rfl rfl rfl rfl rfl (by kernel_rfl) Try.func8 (by kernel_rfl)
    (of_decide_eq_true (by kernel_rfl)) (by unfold Func.isWrapper; first | (rw [if_pos (by decide +kernel)]; kernel_rfl) | (rw [if_neg (by decide +kernel)]; exact ⟨rfl, rfl⟩))
    (fun os started H enc _ => lifted os started H enc)
end Go.Proofs.Ytnhdcoolhbjmmaa.satOrder
