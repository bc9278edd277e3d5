/- Slices of spans, of pairs of bytes that come in. -/
import Derived.Test.YtljackjcgfaanaaGreatDoorRows
import Derived.Test.YtljackjcgfaanaaGreatDoorBlkW
import Derived.OpenShut
import Derived.ChangeOld
import Derived.Deep.SlicePairs
namespace Go.Proofs.YtljackjcgfaanaaGreatDoor.Bo
open Go.ChangeShapes Go.WideShapes Go.ChangeAt Go.RowKit Go.Deep

theorem own : ownKnob Tryz.prog.godebug = none := by kernel_rfl
theorem laidOut : laidOutB Tryz.prog = true := by kernel_rfl
theorem bd64 {n : Int} (h : (Lit.int .i64 n).wf = true) : -9223372036854775808 ≤ n ∧ n ≤ 9223372036854775807 := by
  simpa [Lit.wf, show IntKind.i64.min = -9223372036854775808 from rfl, show IntKind.i64.max = 9223372036854775807 from rfl] using h
theorem bd8 {n : Int} (h : (Lit.int .u8 n).wf = true) : 0 ≤ n ∧ n ≤ 255 := by
  simpa [Lit.wf, show IntKind.u8.min = 0 from rfl, show IntKind.u8.max = 255 from rfl] using h
/-- what is known of a slice of spans that came in -/
def InS (W : World) (v : Value) (l : List (Int × Int)) : Prop := (∃ A cap, v = .slice A l.length cap) ∧ l.length ≤ maxLen ∧ (l.length ≤ 1000000 → RowS W v l)
theorem open_spans {H : Type} {enc : TypeId × Value → H} {W : World} {base fuel : Nat} {spare : Nat → Bool} {held : Bool} {a : Option Addr} {len cap : Nat} {x : DataW H × List MemPlace}
    (h : DataW.trod enc Tryz.prog W base spare held fuel 27 [.slice a len cap] = some x) : ∃ l, l.length = len ∧ InS W (.slice a len cap) l := by
  rcases open_slice_pairs Tryz.underlying27 Tryz.underlying48 (by kernel_rfl) rfl rfl (by kernel_rfl) (by kernel_rfl) h with ⟨hcs, _⟩ | ⟨p, l, c, m, n, V0, V1, D0, D1, P0, P1, hcs, _, hl, hm, hmm, _, he⟩
  · simp at hcs
    obtain ⟨rfl, rfl, rfl⟩ := hcs
    exact ⟨[], rfl, ⟨_, _, rfl⟩, by simp, fun _ => RowS.nil W⟩
  · simp at hcs
    obtain ⟨rfl, rfl, rfl⟩ := hcs
    have lm : len ≤ m := by rw [hmm]; split <;> omega
    obtain ⟨b, o, s⟩ := p
    have each : ∀ i, i < len → ∃ q : Int × Int, W.cell? (Addr.add ⟨b, o, s⟩ (i * 2)) = some (.int .i64 q.1) ∧ W.cell? (Addr.add ⟨b, o, s⟩ (i * 2 + 1)) = some (.int .i64 q.2) := by
      intro i hi
      obtain ⟨c0, c1, t0, t1⟩ := he i (by omega)
      obtain ⟨z0, e0, _, _⟩ := DataW.trod_int Tryz.underlying2 t0
      obtain ⟨z1, e1, _, _⟩ := DataW.trod_int Tryz.underlying2 t1
      simp only [List.cons.injEq, and_true] at e0 e1
      exact ⟨(z0, z1), by rw [c0, e0], by rw [c1, e1]⟩
    obtain ⟨q, hq⟩ := choose_lt each
    have hlen : ((List.range len).map q).length = len := by simp
    refine ⟨(List.range len).map q, hlen, ⟨_, _, by rw [hlen]⟩, by rw [hlen]; omega, fun hk => ⟨hk, (fun n c h => by cases h), _, _, by rw [hlen], fun j hj => ?_⟩⟩
    rw [hlen] at hj
    have hs : s = none := by simpa [Addr.add] using World.cell?_spot (hq 0 (by omega)).1
    subst hs
    have g : ((List.range len).map q).getD j (0, 0) = q j := by simp [List.getD_eq_getElem?_getD, hj]
    rw [g]
    have c0 := (hq j hj).1
    have c1 := (hq j hj).2
    rw [add_flat] at c0 c1
    exact ⟨b, o, rfl, c0, by rw [Nat.add_assoc]; exact c1⟩
end Go.Proofs.YtljackjcgfaanaaGreatDoor.Bo
