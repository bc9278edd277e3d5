/- For the statements that add lengths up: half as many spans as borders; rows of numbers over calls; works beside five numbers. -/
import Derived.Test.YtodjipbkeddbcaaBlkK
import Derived.Deep.RegionHeld3
namespace Go.Proofs.Ytodjipbkeddbcaa.Bk
def tn : Bool → Nat
  | true => 1
  | false => 0
theorem tn_le (b : Bool) : tn b ≤ 1 := by cases b <;> simp [tn]
theorem step_half (s : St) (t : Int) (p : Bool) : 2 * (step s t p).out.length + tn (step s t p).ins ≤ 2 * s.out.length + tn s.ins + 1 := by
  obtain ⟨o, i, f⟩ := s
  unfold step
  cases i <;> cases p <;> simp [tn] <;> omega
theorem run_half (f : Bool → Bool → Bool) : ∀ (l : List (Int × Bool × Bool)) (s : St), 2 * (run f l s).out.length + tn (run f l s).ins ≤ 2 * s.out.length + tn s.ins + l.length
  | [], s => by simp [run]
  | x :: r, s => by
    have h1 := run_half f r (step s x.1 (f x.2.1 x.2.2))
    have h2 := step_half s x.1 (f x.2.1 x.2.2)
    simp only [run, List.length_cons]
    omega
theorem res_half {a b l : List (Int × Int)} {k : Int} (h : ResR a b k l 0) (ha : a.length ≤ 20) (hb : b.length ≤ 20) : l.length ≤ 40 := by
  obtain ⟨oa, ob⟩ := err2_ok h.1.symm
  rw [h.res.uniq (run_is k oa.2 ob.2)]
  have h1 := run_half (bel k) (bor a b) ⟨[], false, 0⟩
  have h2 := bor_len a b
  simp only [List.length_nil, tn] at h1
  omega
end Go.Proofs.Ytodjipbkeddbcaa.Bk
namespace Go.Proofs.Ytodjipbkeddbcaa
open Go.ChangeShapes Go.RowKit

theorem own_next {w wr w1 : World} {v : Value} {l : List Int} (h : OwnI w v l wr) (hb : Below wr.heap.size wr w1) : OwnI w v l w1 := by
  refine ⟨h.row.kept ⟨hb.os, hb.tape, hb.output, hb.size, fun k hk _ => hb.block k hk⟩ (row := none) ?_, h.below.trans (hb.mono h.below.size)⟩
  rcases h.row.2 with ⟨rfl, _⟩ | ⟨g, cap, cur, rfl, _⟩
  · exact .inl rfl
  · exact .inr (by simp [Value.ownBlock])
/-- five numbers side by side, kept -/
def CtxW (w _V : World) (gb go : Nat) (s0 s1 s2 s3 s4 : Int) (W : World) : Prop := Below w.heap.size w W ∧ W.cell? ⟨gb, go, none⟩ = some (.int .i64 s0) ∧ W.cell? ⟨gb, go + 1, none⟩ = some (.int .i64 s1) ∧ W.cell? ⟨gb, go + 2, none⟩ = some (.int .i64 s2) ∧ W.cell? ⟨gb, go + 3, none⟩ = some (.int .i64 s3) ∧ W.cell? ⟨gb, go + 4, none⟩ = some (.int .i64 s4)
theorem CtxW.drew {w V W : World} {gb go : Nat} {s0 s1 s2 s3 s4 : Int} (h : CtxW w V gb go s0 s1 s2 s3 s4 W) : CtxW w V gb go s0 s1 s2 s3 s4 W.drew := ⟨h.1.drew, h.2⟩
theorem works_ctx {w V W : World} {gb go : Nat} {s0 s1 s2 s3 s4 : Int} (h : CtxW w V gb go s0 s1 s2 s3 s4 W) : Calls Try.prog 13 #[] W fun e w' => e = .returned (.bool true) ∧ CtxW w V gb go s0 s1 s2 s3 s4 w' :=
  (works_any W).mono fun _ w' ⟨h1, h2⟩ => by
    obtain ⟨b, c0, c1, c2, c3, c4⟩ := h
    have k : ∀ j v, W.cell? ⟨gb, j, none⟩ = some v → w'.cell? ⟨gb, j, none⟩ = some v := fun j v q => (h2.cell (p := ⟨gb, j, none⟩) (lt_of_cell q)).trans q
    exact ⟨h1, below_next b h2, k _ _ c0, k _ _ c1, k _ _ c2, k _ _ c3, k _ _ c4⟩
end Go.Proofs.Ytodjipbkeddbcaa
