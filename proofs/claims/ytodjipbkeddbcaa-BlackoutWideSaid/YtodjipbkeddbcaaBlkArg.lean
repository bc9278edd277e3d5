/- Slices of spans, of pairs of bytes that come in. -/
import Derived.Test.YtodjipbkeddbcaaRows
import Derived.Test.YtodjipbkeddbcaaBlkW
import Derived.OpenShut
import Derived.ChangeOld
import Derived.Deep.SlicePairs
namespace Go.Proofs.Ytodjipbkeddbcaa
open Go.ChangeShapes Go.WideShapes Go.ChangeAt Go.RowKit Go.Deep

theorem own : ownKnob Try.prog.godebug = none := by kernel_rfl
theorem laidOut : laidOutB Try.prog = true := by kernel_rfl
theorem bd64 {n : Int} (h : (Lit.int .i64 n).wf = true) : -9223372036854775808 ≤ n ∧ n ≤ 9223372036854775807 := by
  simpa [Lit.wf, show IntKind.i64.min = -9223372036854775808 from rfl, show IntKind.i64.max = 9223372036854775807 from rfl] using h
theorem bd8 {n : Int} (h : (Lit.int .u8 n).wf = true) : 0 ≤ n ∧ n ≤ 255 := by
  simpa [Lit.wf, show IntKind.u8.min = 0 from rfl, show IntKind.u8.max = 255 from rfl] using h
/-- what is known of a slice of spans that came in -/
def InS (W : World) (v : Value) (l : List (Int × Int)) : Prop := (∃ A cap, v = .slice A l.length cap) ∧ l.length ≤ maxLen ∧ (l.length ≤ 1000000 → RowS W v l)
theorem open_spans {H : Type} {enc : TypeId × Value → H} {W : World} {base fuel : Nat} {spare : Nat → Bool} {held : Bool} {a : Option Addr} {len cap : Nat} {x : DataW H × List MemPlace}
    (h : DataW.trod enc Try.prog W base spare held fuel 22 [.slice a len cap] = some x) : ∃ l, l.length = len ∧ InS W (.slice a len cap) l := by
  rcases open_slice_pairs Try.underlying22 Try.underlying27 (by kernel_rfl) rfl rfl (by kernel_rfl) (by kernel_rfl) h with ⟨hcs, _⟩ | ⟨p, l, c, m, n, V0, V1, D0, D1, P0, P1, hcs, _, hl, hm, hmm, _, he⟩
  · simp at hcs
    obtain ⟨rfl, rfl, rfl⟩ := hcs
    exact ⟨[], rfl, ⟨_, _, rfl⟩, by simp, fun _ => RowS.nil W⟩
  · simp at hcs
    obtain ⟨rfl, rfl, rfl⟩ := hcs
    have lm : len ≤ m := by rw [hmm]; split <;> omega
    obtain ⟨b, o, s⟩ := p
    have each : ∀ i, i < len → ∃ q : Int × Int, W.cell? (Addr.add ⟨b, o, s⟩ (i * 2)) = some (.int .i64 q.1) ∧ W.cell? (Addr.add ⟨b, o, s⟩ (i * 2 + 1)) = some (.int .i64 q.2) := by
      intro i hi
      obtain ⟨c0, c1, t0, t1⟩ := he i (by omega)
      obtain ⟨z0, e0, _, _⟩ := DataW.trod_int Try.underlying2 t0
      obtain ⟨z1, e1, _, _⟩ := DataW.trod_int Try.underlying2 t1
      simp only [List.cons.injEq, and_true] at e0 e1
      exact ⟨(z0, z1), by rw [c0, e0], by rw [c1, e1]⟩
    obtain ⟨q, hq⟩ := choose_lt each
    have hlen : ((List.range len).map q).length = len := by simp
    refine ⟨(List.range len).map q, hlen, ⟨_, _, by rw [hlen]⟩, by rw [hlen]; omega, fun hk => ⟨hk, (fun n c h => by cases h), _, _, by rw [hlen], fun j hj => ?_⟩⟩
    rw [hlen] at hj
    have hs : s = none := by simpa [Addr.add] using World.cell?_spot (hq 0 (by omega)).1
    subst hs
    have g : ((List.range len).map q).getD j (0, 0) = q j := by simp [List.getD_eq_getElem?_getD, hj]
    rw [g]
    have c0 := (hq j hj).1
    have c1 := (hq j hj).2
    rw [add_flat] at c0 c1
    exact ⟨b, o, rfl, c0, by rw [Nat.add_assoc]; exact c1⟩
/-- what is known of a slice of pairs of bytes that came in -/
def InP (W : World) (a : Option Addr) (len cap : Nat) (l : List (Nat × Nat)) : Prop :=
  l.length = len ∧ (∀ x ∈ l, x.1 < 256 ∧ x.2 < 256) ∧ ((a = none ∧ len = 0 ∧ cap = 0) ∨ ∃ p, a = some p ∧ len ≤ cap ∧ cap ≤ 9223372036854775807 ∧
    (0 < len → ∃ b o, p = ⟨b, o, none⟩ ∧ b < W.heap.size ∧ ∀ i, i < len → W.cell? ⟨b, o + i * 2, none⟩ = some (.int .u8 ((l.getD i (0, 0)).1 : Nat)) ∧ W.cell? ⟨b, o + i * 2 + 1, none⟩ = some (.int .u8 ((l.getD i (0, 0)).2 : Nat))))
theorem nat_of_u8 {z : Int} (h : (Lit.int .u8 z).wf = true) : ∃ n : Nat, z = n ∧ n < 256 := by
  obtain ⟨h0, h1⟩ := bd8 h
  exact ⟨z.toNat, by omega, by omega⟩
set_option maxRecDepth 100000 in
theorem open_pairs2 {H : Type} {enc : TypeId × Value → H} {W : World} {base fuel : Nat} {spare : Nat → Bool} {held : Bool} {a : Option Addr} {len cap : Nat} {x : DataW H × List MemPlace}
    (h : DataW.trod enc Try.prog W base spare held fuel 43 [.slice a len cap] = some x) : ∃ l, InP W a len cap l := by
  have c2 : Try.prog.cellsOf 66 = 2 := by kernel_rfl
  have c1 : Try.prog.cellsOf 5 = 1 := by kernel_rfl
  rcases DataW.trod_slice Try.underlying43 h with ⟨h0, _⟩ | ⟨p, l, c, elems, rest, n, _, hcs, _, hb, hl, hm, hlen, hel, _, _⟩
  · simp at h0
    obtain ⟨rfl, rfl, rfl⟩ := h0
    exact ⟨[], rfl, by simp, .inl ⟨rfl, rfl, rfl⟩⟩
  · simp at hcs
    obtain ⟨rfl, rfl, rfl⟩ := hcs
    have each : ∀ i, i < len → ∃ q : Nat × Nat, (q.1 < 256 ∧ q.2 < 256) ∧ W.cells? base (p.add (i * 2)) 2 = some [.int .u8 (q.1 : Nat), .int .u8 (q.2 : Nat)] := by
      intro i hi
      have q := hel i hi
      rw [c2, List.getElem?_eq_getElem (by omega), Option.bind_eq_some_iff] at q
      obtain ⟨cs, hcs, hq⟩ := q
      obtain ⟨ys, m, _, _, hl2, hy, hq⟩ := DataW.trod_array Try.underlying66 hq
      have l2 : cs.length = 2 := by rw [← c2]; exact hl2
      match cs, l2 with
      | [v0, v1], _ =>
        rw [c1] at hq
        match ys, hy with
        | [x0, x1], _ =>
          have one : ∀ {v : Value} {y : DataW H × List MemPlace}, DataW.trod enc Try.prog W base spare held m 5 [v] = some y → ∃ n : Nat, n < 256 ∧ v = .int .u8 n := fun g => by
            obtain ⟨z, e, _, w0⟩ := DataW.trod_int Try.underlying5 g
            obtain ⟨n, rfl, hn⟩ := nat_of_u8 w0
            simp only [List.cons.injEq, and_true] at e
            exact ⟨n, hn, e⟩
          obtain ⟨n0, k0, rfl⟩ := one (hq 0 (by omega))
          obtain ⟨n1, k1, rfl⟩ := one (hq 1 (by omega))
          exact ⟨(n0, n1), ⟨k0, k1⟩, hcs⟩
    obtain ⟨q, hq⟩ := choose_lt each
    refine ⟨(List.range len).map q, by simp, fun x hx => ?_, .inr ⟨p, rfl, hl, by unfold maxLen at hm; omega, fun h0 => ?_⟩⟩
    · obtain ⟨i, hi, rfl⟩ := List.mem_map.1 hx
      exact (hq i (by simpa using hi)).1
    · obtain ⟨b, o, s⟩ := p
      have cell : ∀ i, i < len → W.cell? (Addr.add ⟨b, o, s⟩ (i * 2)) = some (.int .u8 ((q i).1 : Nat)) ∧ W.cell? ((Addr.add ⟨b, o, s⟩ (i * 2)).add 1) = some (.int .u8 ((q i).2 : Nat)) := by
        intro i hi
        have g := (World.cells?_some (hq i hi).2).2.2
        have g0 := g 0 (by omega)
        have g1 := g 1 (by omega)
        exact ⟨by rw [show (Addr.add ⟨b, o, s⟩ (i * 2)) = (Addr.add ⟨b, o, s⟩ (i * 2)).add 0 by simp [Addr.add]]; exact g0, g1⟩
      have hs : s = none := by simpa [Addr.add] using World.cell?_spot (cell 0 h0).1
      subst hs
      refine ⟨b, o, rfl, lt_of_cell (by have := (cell 0 h0).1; rw [add_flat] at this; exact this), fun i hi => ?_⟩
      have c := cell i hi
      rw [add_flat, add_flat] at c
      have g : ((List.range len).map q).getD i (0, 0) = q i := by simp [List.getD_eq_getElem?_getD, hi]
      rw [g]
      exact c
end Go.Proofs.Ytodjipbkeddbcaa
