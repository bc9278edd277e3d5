/- Contracts of Of and Week, of package civil and of the document's: the civil time and the day of the week of each time from 0 to MaxTime, and the error otherwise. -/
import Derived.Test.YtljackjcgfaanaaGreatDoorMCivA
import Derived.Test.YtljackjcgfaanaaGreatDoorProg
import Derived.WalkKit
import Derived.ProofKit
import Derived.Laws.StructEq
import Derived.WalkSmall
namespace Go.Proofs.YtljackjcgfaanaaGreatDoor.Cv
open Go.ChangeShapes Go.RowKit

theorem bcell {W w1 : World} (hb : Below W.heap.size W w1) : (∀ b o, b < W.heap.size → w1.cell? ⟨b, o, none⟩ = W.cell? ⟨b, o, none⟩) ∧ (∀ b o, b < W.heap.size → w1.frozen? ⟨b, o, none⟩ = W.frozen? ⟨b, o, none⟩) :=
  ⟨fun b o h => hb.cell (p := ⟨b, o, none⟩) h, fun b o h => hb.frozen (p := ⟨b, o, none⟩) h⟩
theorem Lay.below {w w' : World} (L : Lay w) (h : Below w.heap.size w w') : Lay w' where
  c0 := (h.cell (p := ⟨0, 0, none⟩) L.lt).trans L.c0
  c1 := (h.cell (p := ⟨0, 1, none⟩) L.lt).trans L.c1
  c2 := (h.cell (p := ⟨0, 2, none⟩) L.lt).trans L.c2
  c3 := (h.cell (p := ⟨0, 3, none⟩) L.lt).trans L.c3
  c4 := (h.cell (p := ⟨0, 4, none⟩) L.lt).trans L.c4
  c5 := (h.cell (p := ⟨0, 5, none⟩) L.lt).trans L.c5
  c6 := (h.cell (p := ⟨0, 6, none⟩) L.lt).trans L.c6
  c7 := (h.cell (p := ⟨0, 7, none⟩) L.lt).trans L.c7
  c8 := (h.cell (p := ⟨0, 8, none⟩) L.lt).trans L.c8
  c9 := (h.cell (p := ⟨0, 9, none⟩) L.lt).trans L.c9
  c10 := (h.cell (p := ⟨0, 10, none⟩) L.lt).trans L.c10
  c11 := (h.cell (p := ⟨0, 11, none⟩) L.lt).trans L.c11
  lt := Nat.lt_of_lt_of_le L.lt h.size
theorem Lay.alloc {w : World} (L : Lay w) (o : Obj) : Lay (w.alloc o) := L.below ((Below.refl _ _).alloc (Nat.le_refl _) _)
theorem Lay.drewN {w : World} (L : Lay w) (n : Nat) : Lay (w.drewN n) := L.below (below_drewN (Below.refl _ _) n)

theorem valid_t (t : Int) (w : World) (h0 : 0 ≤ t) (h1 : t ≤ 253402300799) :
    Calls Tryz.prog 162 #[.int .i64 t] w fun e w' => e = .returned (.bool true) ∧ w = w' := by
  go_enter Tryz.func162, Tryz.ntmps162
  go_wp2
  go_ret
  exact ⟨rfl, rfl⟩
theorem week_yes (t : Int) (w : World) (h0 : 0 ≤ t) (h1 : t ≤ 253402300799) :
    Calls Tryz.prog 147 #[.int .i64 t] w fun e w' => e = .returned (.tuple #[.int .i64 ((t / 86400 + 4) % 7), .int .i64 0]) ∧ w = w' := by
  go_enter Tryz.func147, Tryz.ntmps147
  go_wp2_with (go_at_call 162; refine (valid_t _ _ h0 h1).mono ?_; rintro e w' ⟨rfl, rfl⟩)
  go_ret2
  exact ⟨rfl, rfl⟩
end Go.Proofs.YtljackjcgfaanaaGreatDoor.Cv
