/- Contracts of Of, of package bits and of the document's: the set of a slice's numbers, or the error; the world stays. -/
import Derived.Test.YtpnfifhanmpapaaGreatDoorMBitB
import Derived.OwnWalk
import Derived.Maps.AppendAt
namespace Go.Proofs.YtpnfifhanmpapaaGreatDoor
open Go.ChangeShapes Go.RowKit

/-- what is known of a slice of integers: nil, or a row of cap cells, whose numbers are zs -/
def IsRow (k : IntKind) (w : World) (a : Option Addr) (len cap : Nat) (zs : List Int) : Prop :=
  (a = none ∧ len = 0 ∧ cap = 0 ∧ zs = []) ∨
  ∃ x, a = some x ∧ len ≤ cap ∧ cap ≤ maxLen ∧ zs.length = cap ∧ (∀ i, i < zs.length → w.cell? (x.add i) = some (.int k (zs.getD i 0))) ∧ ∀ n ∈ zs, (Lit.int k n).wf = true
theorem add_flat (b off i : Nat) : (Addr.add ⟨b, off, none⟩ i) = ⟨b, off + i, none⟩ := by
  unfold Addr.add; split <;> simp_all
/-- a row that is not empty lies at a plain address -/
theorem IsRow.spot {w : World} {a : Option Addr} {len cap : Nat} {zs : List Int} (h : IsRow .i64 w a len cap zs) (h0 : 0 < len) :
    ∃ b off, a = some ⟨b, off, none⟩ ∧ len ≤ zs.length ∧ len ≤ 9223372036854775807 ∧ (∀ i, i < len → w.cell? ⟨b, off + i, none⟩ = some (.int .i64 (zs.getD i 0))) := by
  rcases h with ⟨_, h, _, _⟩ | ⟨x, rfl, h1, h2, h3, h4, h5⟩
  · omega
  · obtain ⟨b, off, s⟩ := x
    have hs : s = none := by simpa [Addr.add] using World.cell?_spot (h4 0 (by omega))
    subst hs
    exact ⟨b, off, rfl, by omega, by unfold maxLen at h2; omega, fun i hi => by rw [← add_flat]; exact h4 i (by omega)⟩
theorem take_succ_getD (zs : List Int) (k : Nat) (h : k < zs.length) : zs.take (k + 1) = zs.take k ++ [zs.getD k 0] := by
  rw [List.take_succ_eq_append_getElem h]; simp [h]

/-- is this a number that a set can have? -/
def okN (z : Int) : Prop := 0 ≤ z ∧ z < 64
/-- the set of a list of numbers -/
def setOf (zs : List Int) : Nat := Bit.ofL 0 (zs.map Int.toNat)
theorem setOf_snoc (zs : List Int) (z : Int) : setOf (zs ++ [z]) = setOf zs ||| 2 ^ z.toNat := by
  unfold setOf Bit.ofL
  rw [List.map_append, List.foldl_append]
  rfl
theorem setOf_lt {zs : List Int} (h : ∀ z ∈ zs, okN z) : setOf zs < 2 ^ 64 := by
  apply Bit.ofL_lt _ _ (by decide)
  intro v hv
  obtain ⟨z, hz, rfl⟩ := List.mem_map.1 hv
  have := h z hz
  unfold okN at this
  omega
/-- what Of returns -/
def IsOf (zs : List Int) (s : Nat) (r : Int) : Prop := ((∀ z ∈ zs, okN z) ∧ s = setOf zs ∧ r = 0) ∨ (¬ (∀ z ∈ zs, okN z) ∧ s = 0 ∧ r = 3)
theorem isOf_ex (zs : List Int) : ∃ s r, IsOf zs s r := by
  by_cases h : ∀ z ∈ zs, okN z
  · exact ⟨_, _, .inl ⟨h, rfl, rfl⟩⟩
  · exact ⟨_, _, .inr ⟨h, rfl, rfl⟩⟩

theorem isOf_nil {s : Nat} {r : Int} (h : IsOf [] s r) : s = 0 ∧ r = 0 := by
  rcases h with ⟨_, rfl, rfl⟩ | ⟨h, _, _⟩
  · exact ⟨rfl, rfl⟩
  · exact absurd (fun z hz => by simp at hz) h
end Go.Proofs.YtpnfifhanmpapaaGreatDoor
