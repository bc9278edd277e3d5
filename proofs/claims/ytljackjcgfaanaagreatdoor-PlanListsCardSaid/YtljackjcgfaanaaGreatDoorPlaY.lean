/- The document's count: how many times of a span, without the plan's spans. -/
import Derived.Test.YtljackjcgfaanaaGreatDoorPlaS
import Derived.Test.YtljackjcgfaanaaGreatDoorGPlaC
import Derived.Test.YtljackjcgfaanaaGreatDoorGMatRZ
namespace Go.Proofs.YtljackjcgfaanaaGreatDoor
open Go.ChangeShapes Go.RowKit

set_option maxRecDepth 100000 in
set_option maxHeartbeats 4000000 in
theorem rpcnt_any (q : Pl.P) (ok : q.Ok) (hx : q.x.Bd) (v : Value) (a b : Int) (ha : Pl.vt a) (hb : Pl.vt b) (le : a ≤ b) (n : Nat) (hn : cntN q.T a (b - a + 1).toNat = n) (w : World) (L : LayM w) (h : Bo.RowS w v q.l) :
    Calls Tryz.prog 49 #[.agg #[.int .i64 q.k, .int .u64 q.x.a0, .int .u64 q.x.a1, .int .u64 q.x.a2, .int .u64 q.x.a3, .int .u64 q.x.a4, .int .u64 q.x.a5, .bool q.x.b3, .bool q.x.b5, .int .i64 q.z, .int .i64 q.s, .int .i64 q.p, .int .i64 q.c, v], .int .i64 a, .int .i64 b] w fun e w' => e = .returned (.int .i64 (n : Nat)) ∧ Below w.heap.size w w' := by
  have Q := Lib.hid (PB.start L h)
  have d1 : decide (b < a) = false := decide_eq_false (by omega)
  obtain ⟨c0, c1, c2, c3, c4, c5, c6, c7, c8, c9, c10, c11, c12, c13⟩ := Q.out.cells
  rcases ok.kinds with hk | hk | hk
  · obtain ⟨k1, k1'⟩ := neq_t (show q.k ≠ 1 by omega)
    obtain ⟨k2, k2'⟩ := neq_t (show q.k ≠ 2 by omega)
    obtain rfl : n = 0 := by rw [← hn, cnt_zero (P := q.T) (fun k _ => by rw [Pl.P.T_0 hk]; exact fun z => z)]
    clear ok hx ha hb le hn L h hk
    go_enter Tryz.func49, Tryz.ntmps49
    go_wp2_with fail
    go_ret
    exact ⟨rfl, Q.out.below⟩
  · obtain ⟨k1, k1'⟩ := neq_f (show q.k = 1 from hk)
    obtain ⟨k2, k2'⟩ := neq_t (show q.k ≠ 2 by omega)
    obtain ⟨he, hv⟩ := Pl.count_cron ok hk ha hb
    have KC := Lib.hid (fun W (L : LayM W) => (show Calls Tryz.prog 91 #[.agg #[.int .u64 q.x.a0, .int .u64 q.x.a1, .int .u64 q.x.a2, .int .u64 q.x.a3, .int .u64 q.x.a4, .int .u64 q.x.a5, .bool q.x.b3, .bool q.x.b5], .int .i64 q.z, .int .i64 a, .int .i64 b] W fun e' W' => e' = .returned (.tuple #[.int .i64 (n : Nat), .int .i64 0]) ∧ Below W.heap.size W W' from by
      have := rcount_any q.x hx q.z a b W L
      rw [if_pos he, hv, he, hn] at this
      exact this))
    clear ok hx ha hb le hn L h hk he hv
    go_enter Tryz.func49, Tryz.ntmps49
    go_wp2_with fail
    refine (KC.out _ Q.out.lay).mono ?_
    rintro e w1 ⟨rfl, hb1⟩
    have Q1 := Lib.hid (Q.out.next hb1)
    clear hb1 c0 c1 c2 c3 c4 c5 c6 c7 c8 c9 c10 c11 c12 c13
    obtain ⟨c0, c1, c2, c3, c4, c5, c6, c7, c8, c9, c10, c11, c12, c13⟩ := Q1.out.cells
    go_wp2_with fail
    go_ret
    exact ⟨rfl, Q1.out.below⟩
  · obtain ⟨k1, k1'⟩ := neq_t (show q.k ≠ 1 by omega)
    obtain ⟨k2, k2'⟩ := neq_f (show q.k = 2 from hk)
    have hc := Pl.count_ever ok hk ha hb
    rw [hn] at hc
    have KC := Lib.hid (fun W (_ : LayM W) => En.rcount_any q.s q.p q.c a b (n : Nat) 0 W hc)
    clear ok hx ha hb le hn L h hk hc
    go_enter Tryz.func49, Tryz.ntmps49
    go_wp2_with fail
    refine (KC.out _ Q.out.lay).mono ?_
    rintro e w1 ⟨rfl, hb1⟩
    have Q1 := Lib.hid (Q.out.next hb1)
    clear hb1 c0 c1 c2 c3 c4 c5 c6 c7 c8 c9 c10 c11 c12 c13
    obtain ⟨c0, c1, c2, c3, c4, c5, c6, c7, c8, c9, c10, c11, c12, c13⟩ := Q1.out.cells
    go_wp2_with fail
    go_ret
    exact ⟨rfl, Q1.out.below⟩
end Go.Proofs.YtljackjcgfaanaaGreatDoor
