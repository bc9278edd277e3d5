/- For all schedules, times and shifts EveryShifts returns true: a schedule that begins later by some seconds has the times later by so many, as far as these are times. No conditions. -/
import Derived.Test.YtnajpgkahnjabaaRows
import Derived.Test.YtnajpgkahnjabaaEveArg
import Derived.OpenShut
import Derived.ChangeOld
namespace Go.Proofs.Ytnajpgkahnjabaa.everyShifts
open Go.ChangeShapes Go.WideShapes Go.ChangeAt Go.RowKit

set_option maxRecDepth 100000 in
set_option maxHeartbeats 4000000 in
theorem walk (s p c t e : Int) (w : World) (h0 : (Lit.int .i64 s).wf = true ∧ (Lit.int .i64 p).wf = true ∧ (Lit.int .i64 c).wf = true) (h1 : (Lit.int .i64 t).wf = true) (h2 : (Lit.int .u32 e).wf = true) :
    Calls Try.prog 13 #[.agg #[.int .i64 s, .int .i64 p, .int .i64 c], .int .i64 t, .int .u32 e] w fun e w' => e = .returned (.bool true) ∧ Below w.heap.size w w' := by
  have WK := Lib.hid works_any
  have he : 0 ≤ e ∧ e ≤ 4294967295 := by simpa [Lit.wf, show IntKind.u32.min = 0 from rfl, show IntKind.u32.max = 4294967295 from rfl] using h2
  have _ := h0; have _ := h1
  clear h0 h1 h2
  obtain ⟨D, hD⟩ : ∃ D, e % 1048576 = D := ⟨_, rfl⟩
  have D0 : 0 ≤ D := by omega
  have D1 : D < 1048576 := by omega
  have e1 : e.tmod 1048576 = D := by rw [rem_is he.1, hD]
  have e2 : IntKind.i64.wrap D = D := by rw [IntKind.wrap_i64]; omega
  clear he
  by_cases h : Ev.Ok s p c
  rotate_left
  · have CK := Lib.hid (fun w' => check_no s p c w' h)
    clear h D0 D1
    go_enter Try.func13, Try.ntmps13
    go_wp2_with fail
    have EA := Lib.hid ((Ex.start w (s) (p) (c)).alloc (.cells #[.int .i64 (s), .int .i64 (p), .int .i64 (c)] 23))
    have EB := Lib.hid (Ex.second w (s) (p) (c) (s) (p) (c))
    refine (CK.out _).mono ?_
    rintro e v1 ⟨rfl, hb⟩
    have EA := Lib.hid (EA.out.next hb)
    have EB := Lib.hid (EB.out.next hb)
    clear hb
    have ea0 := EA.out.c0
    have ea1 := EA.out.c1
    have ea2 := EA.out.c2
    have eb0 := EB.out.c0
    have eb1 := EB.out.c1
    have eb2 := EB.out.c2
    go_wp2_with fail
    refine (WK.out _).mono ?_
    rintro e v2 ⟨rfl, hb⟩
    have EA := Lib.hid (EA.out.next hb)
    have EB := Lib.hid (EB.out.next hb)
    clear hb
    have ea0 := EA.out.c0
    have ea1 := EA.out.c1
    have ea2 := EA.out.c2
    have eb0 := EB.out.c0
    have eb1 := EB.out.c1
    have eb2 := EB.out.c2
    go_wp2_with fail
    go_ret
    exact ⟨rfl, EA.out.bel⟩
  have CK := Lib.hid (fun w' => check_yes s p c w' h)
  by_cases kt : Vt t
  rotate_left
  · have TT := Lib.hid (fun w' => time_no t w' kt)
    clear h kt D0 D1
    go_enter Try.func13, Try.ntmps13
    go_wp2_with fail
    have EA := Lib.hid ((Ex.start w (s) (p) (c)).alloc (.cells #[.int .i64 (s), .int .i64 (p), .int .i64 (c)] 23))
    have EB := Lib.hid (Ex.second w (s) (p) (c) (s) (p) (c))
    refine (CK.out _).mono ?_
    rintro e v1 ⟨rfl, hb⟩
    have EA := Lib.hid (EA.out.next hb)
    have EB := Lib.hid (EB.out.next hb)
    clear hb
    have ea0 := EA.out.c0
    have ea1 := EA.out.c1
    have ea2 := EA.out.c2
    have eb0 := EB.out.c0
    have eb1 := EB.out.c1
    have eb2 := EB.out.c2
    go_wp2_with fail
    refine (TT.out _).mono ?_
    rintro e v2 ⟨rfl, rfl⟩
    go_wp2_with fail
    refine (WK.out _).mono ?_
    rintro e v3 ⟨rfl, hb⟩
    have EA := Lib.hid (EA.out.next hb)
    have EB := Lib.hid (EB.out.next hb)
    clear hb
    have ea0 := EA.out.c0
    have ea1 := EA.out.c1
    have ea2 := EA.out.c2
    have eb0 := EB.out.c0
    have eb1 := EB.out.c1
    have eb2 := EB.out.c2
    go_wp2_with fail
    go_ret
    exact ⟨rfl, EA.out.bel⟩
  have TT := Lib.hid (fun w' => time_yes t w' kt)
  by_cases l1 : 253401252223 < t
  · have d1 := dec_t l1
    clear h kt l1 D0 D1
    go_enter Try.func13, Try.ntmps13
    go_wp2_with fail
    have EA := Lib.hid ((Ex.start w (s) (p) (c)).alloc (.cells #[.int .i64 (s), .int .i64 (p), .int .i64 (c)] 23))
    have EB := Lib.hid (Ex.second w (s) (p) (c) (s) (p) (c))
    refine (CK.out _).mono ?_
    rintro e v1 ⟨rfl, hb⟩
    have EA := Lib.hid (EA.out.next hb)
    have EB := Lib.hid (EB.out.next hb)
    clear hb
    have ea0 := EA.out.c0
    have ea1 := EA.out.c1
    have ea2 := EA.out.c2
    have eb0 := EB.out.c0
    have eb1 := EB.out.c1
    have eb2 := EB.out.c2
    go_wp2_with fail
    refine (TT.out _).mono ?_
    rintro e v2 ⟨rfl, rfl⟩
    go_wp2_with fail
    refine (WK.out _).mono ?_
    rintro e v3 ⟨rfl, hb⟩
    have EA := Lib.hid (EA.out.next hb)
    have EB := Lib.hid (EB.out.next hb)
    clear hb
    have ea0 := EA.out.c0
    have ea1 := EA.out.c1
    have ea2 := EA.out.c2
    have eb0 := EB.out.c0
    have eb1 := EB.out.c1
    have eb2 := EB.out.c2
    go_wp2_with fail
    go_ret
    exact ⟨rfl, EA.out.bel⟩
  have d1 := dec_f l1
  by_cases l2 : 253401252223 < s
  · have d2 := dec_t l2
    clear h kt l1 l2 D0 D1
    go_enter Try.func13, Try.ntmps13
    go_wp2_with fail
    have EA := Lib.hid ((Ex.start w (s) (p) (c)).alloc (.cells #[.int .i64 (s), .int .i64 (p), .int .i64 (c)] 23))
    have EB := Lib.hid (Ex.second w (s) (p) (c) (s) (p) (c))
    refine (CK.out _).mono ?_
    rintro e v1 ⟨rfl, hb⟩
    have EA := Lib.hid (EA.out.next hb)
    have EB := Lib.hid (EB.out.next hb)
    clear hb
    have ea0 := EA.out.c0
    have ea1 := EA.out.c1
    have ea2 := EA.out.c2
    have eb0 := EB.out.c0
    have eb1 := EB.out.c1
    have eb2 := EB.out.c2
    go_wp2_with fail
    refine (TT.out _).mono ?_
    rintro e v2 ⟨rfl, rfl⟩
    go_wp2_with fail
    refine (WK.out _).mono ?_
    rintro e v3 ⟨rfl, hb⟩
    have EA := Lib.hid (EA.out.next hb)
    have EB := Lib.hid (EB.out.next hb)
    clear hb
    have ea0 := EA.out.c0
    have ea1 := EA.out.c1
    have ea2 := EA.out.c2
    have eb0 := EB.out.c0
    have eb1 := EB.out.c1
    have eb2 := EB.out.c2
    go_wp2_with fail
    go_ret
    exact ⟨rfl, EA.out.bel⟩
  have d2 := dec_f l2
  have h' : Ev.Ok (s + D) p c := ⟨by have := h.s0; omega, by omega, h.p0, h.p1, h.c0, h.c1⟩
  have kd : Vt (t + D) := ⟨by have := kt.1; omega, by omega⟩
  have SH := fun u => Ev.on_shift (t := u) h h' D0
  have w1 : IntKind.i64.wrap (s + D) = s + D := by have := h.s0; rw [IntKind.wrap_i64]; omega
  have w2 : IntKind.i64.wrap (t + D) = t + D := by have := kt.1; rw [IntKind.wrap_i64]; omega
  have w3 : IntKind.i64.wrap (253402300799 - D) = 253402300799 - D := by rw [IntKind.wrap_i64]; omega
  obtain ⟨b, hb⟩ : ∃ b : Bool, (b = true ↔ Ev.On s p c t) := by
    classical
    exact ⟨decide (Ev.On s p c t), by simp⟩
  have hb' : b = true ↔ Ev.On (s + D) p c (t + D) := by rw [hb, SH]; exact ⟨fun q => ⟨q, by omega⟩, fun q => q.1⟩
  obtain ⟨v, ok, hv⟩ := next_ex t h
  have C1 := Lib.hid (fun w' => is_any s p c t b 0 w' (.inr (.inr ⟨h, kt, rfl, hb⟩)))
  have C2 := Lib.hid (fun w' => is_any (s + D) p c (t + D) b 0 w' (.inr (.inr ⟨h', kd, rfl, hb'⟩)))
  have C3 := Lib.hid (fun w' => next_any s p c t v ok 0 w' (.inr (.inr ⟨h, kt, rfl, hv⟩)))
  have back : ∀ z, Ev.On (s + D) p c z → Ev.On s p c (z - D) := fun z oz => ((SH (z - D)).1 (by rw [show z - D + D = z by omega]; exact oz)).1
  have NX := Lib.hid (fun z is (q : Ev.IsNext (s + D) p c (t + D) z is) w' => next_any (s + D) p c (t + D) z is 0 w' (.inr (.inr ⟨h', kd, rfl, q⟩)))
  rcases hv with ⟨rfl, on, gt, least⟩ | ⟨rfl, rfl, none_⟩
  · by_cases far : v ≤ 253402300799 - D
    · have C4 := Lib.hid (NX.out (v + D) true (.inl ⟨rfl, (SH v).2 ⟨on, by omega⟩, by omega, fun z oz lz => by have := least _ (back z oz) (by omega); omega⟩))
      have d3 := dec_t far
      have w4 : IntKind.i64.wrap (v + D) = v + D := by have := (Ev.on_time h on).2.2; have := h.s0; rw [IntKind.wrap_i64]; omega
      clear hb hb' SH back on gt least h h' kt kd l1 l2 far NX D0 D1
      go_enter Try.func13, Try.ntmps13
      go_wp2_with fail
      have EA := Lib.hid ((Ex.start w (s) (p) (c)).alloc (.cells #[.int .i64 (s), .int .i64 (p), .int .i64 (c)] 23))
      have EB := Lib.hid (Ex.second w (s) (p) (c) (s) (p) (c))
      refine (CK.out _).mono ?_
      rintro e v1 ⟨rfl, hb⟩
      have FR : v1.frozen? ⟨w.heap.size + 1, 0, none⟩ = false := by rw [hb.frozen (p := ⟨w.heap.size + 1, 0, none⟩) (by simp)]; simp [go_sem]
      have EA := Lib.hid (EA.out.next hb)
      have EB := Lib.hid (EB.out.next hb)
      clear hb
      have ea0 := EA.out.c0
      have ea1 := EA.out.c1
      have ea2 := EA.out.c2
      have eb0 := EB.out.c0
      have eb1 := EB.out.c1
      have eb2 := EB.out.c2
      go_wp2_with fail
      refine (TT.out _).mono ?_
      rintro e v2 ⟨rfl, rfl⟩
      go_wp2_with fail
      have EA : Hid (Ex w w.heap.size s p c (v1.setCell ⟨w.heap.size + 1, 0, none⟩ (.int .i64 (s + D)))) := Lib.hid ⟨EA.out.bel.setCell (by simp) _, by simp [go_sem, *], by simp [go_sem, *], by simp [go_sem, *]⟩
      have EB : Hid (Ex w (w.heap.size + 1) (s + D) p c (v1.setCell ⟨w.heap.size + 1, 0, none⟩ (.int .i64 (s + D)))) := Lib.hid ⟨EA.out.bel, by simp [go_sem, *], by simp [go_sem, *], by simp [go_sem, *]⟩
      clear ea0 ea1 ea2 eb0 eb1 eb2
      refine (C1.out _).mono ?_
      rintro e v3 ⟨rfl, hb⟩
      have EA := Lib.hid (EA.out.next hb)
      have EB := Lib.hid (EB.out.next hb)
      clear hb
      have ea0 := EA.out.c0
      have ea1 := EA.out.c1
      have ea2 := EA.out.c2
      have eb0 := EB.out.c0
      have eb1 := EB.out.c1
      have eb2 := EB.out.c2
      go_wp2_with fail
      refine (C2.out _).mono ?_
      rintro e v4 ⟨rfl, hb⟩
      have EA := Lib.hid (EA.out.next hb)
      have EB := Lib.hid (EB.out.next hb)
      clear hb
      have ea0 := EA.out.c0
      have ea1 := EA.out.c1
      have ea2 := EA.out.c2
      have eb0 := EB.out.c0
      have eb1 := EB.out.c1
      have eb2 := EB.out.c2
      go_wp2_with fail
      refine (C3.out _).mono ?_
      rintro e v5 ⟨rfl, hb⟩
      have EA := Lib.hid (EA.out.next hb)
      have EB := Lib.hid (EB.out.next hb)
      clear hb
      have ea0 := EA.out.c0
      have ea1 := EA.out.c1
      have ea2 := EA.out.c2
      have eb0 := EB.out.c0
      have eb1 := EB.out.c1
      have eb2 := EB.out.c2
      go_wp2_with fail
      refine (C4.out _).mono ?_
      rintro e v6 ⟨rfl, hb⟩
      have EA := Lib.hid (EA.out.next hb)
      have EB := Lib.hid (EB.out.next hb)
      clear hb
      have ea0 := EA.out.c0
      have ea1 := EA.out.c1
      have ea2 := EA.out.c2
      have eb0 := EB.out.c0
      have eb1 := EB.out.c1
      have eb2 := EB.out.c2
      go_wp2_with fail
      refine (WK.out _).mono ?_
      rintro e v7 ⟨rfl, hb⟩
      have EA := Lib.hid (EA.out.next hb)
      have EB := Lib.hid (EB.out.next hb)
      clear hb
      have ea0 := EA.out.c0
      have ea1 := EA.out.c1
      have ea2 := EA.out.c2
      have eb0 := EB.out.c0
      have eb1 := EB.out.c1
      have eb2 := EB.out.c2
      go_wp2_with fail
      go_ret
      exact ⟨rfl, EA.out.bel⟩
    · have C4 := Lib.hid (NX.out 0 false (.inr ⟨rfl, rfl, fun z oz => by
        apply Classical.byContradiction
        intro q
        have := least _ (back z oz) (by omega)
        have := (Ev.on_time h' oz).2.1
        omega⟩))
      have d3 := dec_f far
      clear hb hb' SH back on gt least h h' kt kd l1 l2 far NX D0 D1
      go_enter Try.func13, Try.ntmps13
      go_wp2_with fail
      have EA := Lib.hid ((Ex.start w (s) (p) (c)).alloc (.cells #[.int .i64 (s), .int .i64 (p), .int .i64 (c)] 23))
      have EB := Lib.hid (Ex.second w (s) (p) (c) (s) (p) (c))
      refine (CK.out _).mono ?_
      rintro e v1 ⟨rfl, hb⟩
      have FR : v1.frozen? ⟨w.heap.size + 1, 0, none⟩ = false := by rw [hb.frozen (p := ⟨w.heap.size + 1, 0, none⟩) (by simp)]; simp [go_sem]
      have EA := Lib.hid (EA.out.next hb)
      have EB := Lib.hid (EB.out.next hb)
      clear hb
      have ea0 := EA.out.c0
      have ea1 := EA.out.c1
      have ea2 := EA.out.c2
      have eb0 := EB.out.c0
      have eb1 := EB.out.c1
      have eb2 := EB.out.c2
      go_wp2_with fail
      refine (TT.out _).mono ?_
      rintro e v2 ⟨rfl, rfl⟩
      go_wp2_with fail
      have EA : Hid (Ex w w.heap.size s p c (v1.setCell ⟨w.heap.size + 1, 0, none⟩ (.int .i64 (s + D)))) := Lib.hid ⟨EA.out.bel.setCell (by simp) _, by simp [go_sem, *], by simp [go_sem, *], by simp [go_sem, *]⟩
      have EB : Hid (Ex w (w.heap.size + 1) (s + D) p c (v1.setCell ⟨w.heap.size + 1, 0, none⟩ (.int .i64 (s + D)))) := Lib.hid ⟨EA.out.bel, by simp [go_sem, *], by simp [go_sem, *], by simp [go_sem, *]⟩
      clear ea0 ea1 ea2 eb0 eb1 eb2
      refine (C1.out _).mono ?_
      rintro e v3 ⟨rfl, hb⟩
      have EA := Lib.hid (EA.out.next hb)
      have EB := Lib.hid (EB.out.next hb)
      clear hb
      have ea0 := EA.out.c0
      have ea1 := EA.out.c1
      have ea2 := EA.out.c2
      have eb0 := EB.out.c0
      have eb1 := EB.out.c1
      have eb2 := EB.out.c2
      go_wp2_with fail
      refine (C2.out _).mono ?_
      rintro e v4 ⟨rfl, hb⟩
      have EA := Lib.hid (EA.out.next hb)
      have EB := Lib.hid (EB.out.next hb)
      clear hb
      have ea0 := EA.out.c0
      have ea1 := EA.out.c1
      have ea2 := EA.out.c2
      have eb0 := EB.out.c0
      have eb1 := EB.out.c1
      have eb2 := EB.out.c2
      go_wp2_with fail
      refine (C3.out _).mono ?_
      rintro e v5 ⟨rfl, hb⟩
      have EA := Lib.hid (EA.out.next hb)
      have EB := Lib.hid (EB.out.next hb)
      clear hb
      have ea0 := EA.out.c0
      have ea1 := EA.out.c1
      have ea2 := EA.out.c2
      have eb0 := EB.out.c0
      have eb1 := EB.out.c1
      have eb2 := EB.out.c2
      go_wp2_with fail
      refine (C4.out _).mono ?_
      rintro e v6 ⟨rfl, hb⟩
      have EA := Lib.hid (EA.out.next hb)
      have EB := Lib.hid (EB.out.next hb)
      clear hb
      have ea0 := EA.out.c0
      have ea1 := EA.out.c1
      have ea2 := EA.out.c2
      have eb0 := EB.out.c0
      have eb1 := EB.out.c1
      have eb2 := EB.out.c2
      go_wp2_with fail
      refine (WK.out _).mono ?_
      rintro e v7 ⟨rfl, hb⟩
      have EA := Lib.hid (EA.out.next hb)
      have EB := Lib.hid (EB.out.next hb)
      clear hb
      have ea0 := EA.out.c0
      have ea1 := EA.out.c1
      have ea2 := EA.out.c2
      have eb0 := EB.out.c0
      have eb1 := EB.out.c1
      have eb2 := EB.out.c2
      go_wp2_with fail
      go_ret
      exact ⟨rfl, EA.out.bel⟩
  · have C4 := Lib.hid (NX.out 0 false (.inr ⟨rfl, rfl, fun z oz => by have := none_ _ (back z oz); omega⟩))
    clear hb hb' SH back none_ h h' kt kd l1 l2 NX D0 D1
    go_enter Try.func13, Try.ntmps13
    go_wp2_with fail
    have EA := Lib.hid ((Ex.start w (s) (p) (c)).alloc (.cells #[.int .i64 (s), .int .i64 (p), .int .i64 (c)] 23))
    have EB := Lib.hid (Ex.second w (s) (p) (c) (s) (p) (c))
    refine (CK.out _).mono ?_
    rintro e v1 ⟨rfl, hb⟩
    have FR : v1.frozen? ⟨w.heap.size + 1, 0, none⟩ = false := by rw [hb.frozen (p := ⟨w.heap.size + 1, 0, none⟩) (by simp)]; simp [go_sem]
    have EA := Lib.hid (EA.out.next hb)
    have EB := Lib.hid (EB.out.next hb)
    clear hb
    have ea0 := EA.out.c0
    have ea1 := EA.out.c1
    have ea2 := EA.out.c2
    have eb0 := EB.out.c0
    have eb1 := EB.out.c1
    have eb2 := EB.out.c2
    go_wp2_with fail
    refine (TT.out _).mono ?_
    rintro e v2 ⟨rfl, rfl⟩
    go_wp2_with fail
    have EA : Hid (Ex w w.heap.size s p c (v1.setCell ⟨w.heap.size + 1, 0, none⟩ (.int .i64 (s + D)))) := Lib.hid ⟨EA.out.bel.setCell (by simp) _, by simp [go_sem, *], by simp [go_sem, *], by simp [go_sem, *]⟩
    have EB : Hid (Ex w (w.heap.size + 1) (s + D) p c (v1.setCell ⟨w.heap.size + 1, 0, none⟩ (.int .i64 (s + D)))) := Lib.hid ⟨EA.out.bel, by simp [go_sem, *], by simp [go_sem, *], by simp [go_sem, *]⟩
    clear ea0 ea1 ea2 eb0 eb1 eb2
    refine (C1.out _).mono ?_
    rintro e v3 ⟨rfl, hb⟩
    have EA := Lib.hid (EA.out.next hb)
    have EB := Lib.hid (EB.out.next hb)
    clear hb
    have ea0 := EA.out.c0
    have ea1 := EA.out.c1
    have ea2 := EA.out.c2
    have eb0 := EB.out.c0
    have eb1 := EB.out.c1
    have eb2 := EB.out.c2
    go_wp2_with fail
    refine (C2.out _).mono ?_
    rintro e v4 ⟨rfl, hb⟩
    have EA := Lib.hid (EA.out.next hb)
    have EB := Lib.hid (EB.out.next hb)
    clear hb
    have ea0 := EA.out.c0
    have ea1 := EA.out.c1
    have ea2 := EA.out.c2
    have eb0 := EB.out.c0
    have eb1 := EB.out.c1
    have eb2 := EB.out.c2
    go_wp2_with fail
    refine (C3.out _).mono ?_
    rintro e v5 ⟨rfl, hb⟩
    have EA := Lib.hid (EA.out.next hb)
    have EB := Lib.hid (EB.out.next hb)
    clear hb
    have ea0 := EA.out.c0
    have ea1 := EA.out.c1
    have ea2 := EA.out.c2
    have eb0 := EB.out.c0
    have eb1 := EB.out.c1
    have eb2 := EB.out.c2
    go_wp2_with fail
    refine (C4.out _).mono ?_
    rintro e v6 ⟨rfl, hb⟩
    have EA := Lib.hid (EA.out.next hb)
    have EB := Lib.hid (EB.out.next hb)
    clear hb
    have ea0 := EA.out.c0
    have ea1 := EA.out.c1
    have ea2 := EA.out.c2
    have eb0 := EB.out.c0
    have eb1 := EB.out.c1
    have eb2 := EB.out.c2
    go_wp2_with fail
    refine (WK.out _).mono ?_
    rintro e v7 ⟨rfl, hb⟩
    have EA := Lib.hid (EA.out.next hb)
    have EB := Lib.hid (EB.out.next hb)
    clear hb
    have ea0 := EA.out.c0
    have ea1 := EA.out.c1
    have ea2 := EA.out.c2
    have eb0 := EB.out.c0
    have eb1 := EB.out.c1
    have eb2 := EB.out.c2
    go_wp2_with fail
    go_ret
    exact ⟨rfl, EA.out.bel⟩

set_option maxRecDepth 100000 in
theorem lifted (os : Os) (started : os.Started) (H : Type) (enc : TypeId × Value → H) :
    ReturnsInHanded {} Try.checked os 13 .any (Rows.everyShiftsSpec.pre6 enc Try.prog Try.f13 Rows.everyShiftsRow.domain false) (Rows.everyShiftsSpec.post enc Try.prog Try.f13 false true false false) := by
  refine returnsInHanded_of_change (C := Try.checked) own started (by kernel_rfl) Try.func13
    (ChangeSpec.witness6 (enc := enc) (C := Try.checked) false ⟨#[], #[.agg #[.int .i64 0, .int .i64 0, .int .i64 0], .int .i64 0, .int .u32 0], []⟩ 8 (by kernel_rfl) (by kernel_rfl) (by kernel_rfl) (by kernel_rfl)) ?_
  intro W base args ds gs before hval0 hW hcnd _
  have hval : ∀ (j : Nat) t v, Try.f13.params[j]? = some t → args[j]? = some v → Value.okWide Try.prog W .any base t v := hval0
  have hW' := hW
  obtain ⟨p, q, hA0, hV, rfl, hfz, hnd⟩ := hW
  have hA : DataW.TrodAll enc Try.prog W 0 (fun _ => true) true Try.f13.params.toList args.toList ds p := hA0
  rw [Try.params13] at hA hval
  obtain ⟨v0, vs0, d0, ds0, p0, q0, hargs, rfl, rfl, h0, r0⟩ := trodAll_cons hA
  obtain ⟨v1, vs1, d1, ds1, p1, q1, rfl, rfl, rfl, h1, r1⟩ := trodAll_cons r0
  obtain ⟨v2, vs2, d2, ds2, p2, q2, rfl, rfl, rfl, h2, r2⟩ := trodAll_cons r1
  obtain ⟨rfl, rfl, rfl⟩ := trodAll_nil r2
  obtain rfl : args = #[v0, v1, v2] := by cases args; simp_all
  obtain ⟨rfl, rfl⟩ := trodVars_none hV
  obtain ⟨s0, p0', c0, rfl, w0⟩ := open_every (hval 0 23 v0 rfl rfl) h0
  have k0 := h0
  have lt0 : ∀ x ∈ p0, x.block < W.heap.size := by obtain ⟨m, hm⟩ := k0; exact DataW.trod_lt m _ _ _ hm
  obtain ⟨a1, rfl, rfl, rfl, w1⟩ := open_int Try.underlying2 (hval 1 2 v1 rfl rfl) h1
  obtain ⟨a2, rfl, rfl, rfl, w2⟩ := open_int Try.underlying44 (hval 2 44 v2 rfl rfl) h2
  clear hA0 hval0
  refine (walk s0 p0' c0 a1 a2 W w0 w1 w2).mono fun e W' ⟨he, bel⟩ => ?_
  subst he
  exact ⟨_, rfl, _, _, _, [], _, [], hW', trodAll_mk1 (shut_bool Try.underlying4 _), (trodAll_cons_mk (Below.trod laidOut (by kernel_rfl) (of_decide_eq_true (by kernel_rfl)) k0 bel lt0) (trodAll_cons_mk (shut_int Try.underlying2 w1) (trodAll_cons_mk (shut_int Try.underlying44 w2) trodAll_mk0))), rfl, bel.frame _, fun h => by cases h⟩

theorem proved : Rows.EveryShiftsSaid :=
  OpenClaim.holds_of_wide 13 Try.f13 rfl rfl rfl rfl rfl rfl rfl ⟨rfl, rfl, rfl, rfl, rfl⟩ rfl rfl rfl rfl rfl (by kernel_rfl) Try.func13 (by kernel_rfl)
    (of_decide_eq_true (by kernel_rfl)) (by unfold Func.isWrapper; first | (rw [if_pos (by decide +kernel)]; kernel_rfl) | (rw [if_neg (by decide +kernel)]; exact ⟨rfl, rfl⟩))
    (fun os started H enc _ => lifted os started H enc)

end Go.Proofs.Ytnajpgkahnjabaa.everyShifts
