/- Contracts of the document's program of chapter match: Next. -/
import Derived.Test.YtbehendogcghjaaDoorMatRl
namespace Go.Proofs.YtbehendogcghjaaDoor
open Go.ChangeShapes Go.RowKit Go.Shelf

set_option maxRecDepth 100000 in
set_option maxHeartbeats 4000000 in
theorem rnext_any (x : Exp.Ex) (hx : x.Bd) (z t : Int) (w : World) (L : LayM w) :
    Calls Tryd.prog 23 #[.agg #[.int .u64 x.a0, .int .u64 x.a1, .int .u64 x.a2, .int .u64 x.a3, .int .u64 x.a4, .int .u64 x.a5, .bool x.b3, .bool x.b5], .int .i64 z, .int .i64 t] w fun e W' => e = .returned (.tuple #[.int .i64 ((nextO x z t).getD 0), .bool (nextO x z t).isSome, .int .i64 (errC x z [t])]) ∧ Below w.heap.size w W' := by
  have CK := Lib.hid (fun w0 R => rcheck_any x hx z (w.heap.size + 1) [t] (by simp) w0 R)
  have RW := Lib.hid (one_row x t w)
  have LL := Lib.hid L
  by_cases h : errC x z [t] = 0
  · obtain ⟨hk, hz, ht⟩ := errC_one h
    have FR := Lib.hid (fun w0 : World => rfrom_any x hx z (t + 1) hz.1 hz.2 (by omega) (by omega) (nextO x z t) (nextO_is h) w0)
    have w1 : IntKind.i64.wrap (t + 1) = t + 1 := by rw [IntKind.wrap_i64]; omega
    have UB : ∀ u, nextO x z t = some u → 0 ≤ u := fun u e => by
      have q := nextO_is h
      rw [e] at q
      have := q.1
      omega
    obtain ⟨r, hr⟩ : ∃ r, nextO x z t = r := ⟨_, rfl⟩
    rw [h] at CK ⊢
    rw [hr] at FR UB ⊢
    clear h hk hz ht L hr hx
    cases r with
    | none =>
      simp only [Option.getD_none, Option.isSome_none] at FR ⊢
      clear UB
      go_enter Tryd.func23, Tryd.ntmps23
      go_wp2_with fail
      refine (CK.out _ RW.out).mono ?_
      rintro e V ⟨rfl, hb⟩
      have Q := Lib.hid (BC.one LL.out hb)
      obtain ⟨y0, y1, y2, y3, y4, y5, y6, y7⟩ := Q.out.cells
      clear hb
      go_wp2_with fail
      refine (FR.out _).mono ?_
      rintro e V2 ⟨rfl, hb⟩
      have Q := Lib.hid (Q.out.next hb)
      clear hb
      go_wp2_with fail
      go_ret3
      exact ⟨rfl, Q.out.be⟩
    | some u =>
      simp only [Option.getD_some, Option.isSome_some] at FR ⊢
      have u0 := UB u rfl
      have t1 : decide (u < 0) = false := by rw [decide_eq_false_iff_not]; omega
      clear UB u0
      go_enter Tryd.func23, Tryd.ntmps23
      go_wp2_with fail
      refine (CK.out _ RW.out).mono ?_
      rintro e V ⟨rfl, hb⟩
      have Q := Lib.hid (BC.one LL.out hb)
      obtain ⟨y0, y1, y2, y3, y4, y5, y6, y7⟩ := Q.out.cells
      clear hb
      go_wp2_with fail
      refine (FR.out _).mono ?_
      rintro e V2 ⟨rfl, hb⟩
      have Q := Lib.hid (Q.out.next hb)
      clear hb
      go_wp2_with fail
      go_ret3
      exact ⟨rfl, Q.out.be⟩
  · have DO : Hid (nextO x z t = none) := Lib.hid (by unfold nextO; rw [if_neg h])
    obtain ⟨E, hE⟩ : ∃ E, errC x z [t] = E := ⟨_, rfl⟩
    rw [hE] at h CK ⊢
    have t1 : (E != 0) = true := by rw [bne_iff_ne]; exact h
    clear h hE L hx
    go_enter Tryd.func23, Tryd.ntmps23
    go_wp2_with fail
    refine (CK.out _ RW.out).mono ?_
    rintro e V ⟨rfl, hb⟩
    have Q := Lib.hid (BC.one LL.out hb)
    clear hb
    go_wp2_with fail
    go_ret3
    exact ⟨by rw [DO.out]; rfl, Q.out.be⟩
end Go.Proofs.YtbehendogcghjaaDoor
