/- A word that a loop holds in a block of its own, over calls that make memory; rows of an own slice over such calls. -/
import Derived.Test.YtjlipkklljjdjaaDoorLexPt
import Derived.Deep.RegionHeld3
namespace Go.Proofs.YtjlipkklljjdjaaDoor
open Go.ChangeShapes Go.RowKit Go.Shelf

structure Wd (w0 : World) (b : Nat) (f : Int) (T : ByteArray) (w' : World) : Prop where
  bel : Below w0.heap.size w0 w'
  lt : b < w0.heap.size
  c0 : w'.cell? ⟨b, 0, none⟩ = some (.int .i64 f)
  c1 : w'.cell? ⟨b, 1, none⟩ = some (.string T)
theorem Wd.step {w0 : World} {b : Nat} {f : Int} {T : ByteArray} {w1 w2 : World} (h : Wd w0 b f T w1) (hb : Below w1.heap.size w1 w2) : Wd w0 b f T w2 := by
  have hs := h.bel.size
  have hl := h.lt
  exact ⟨h.bel.trans (hb.mono h.bel.size), h.lt, (hb.cell (p := ⟨b, 0, none⟩) (show b < w1.heap.size by omega)).trans h.c0, (hb.cell (p := ⟨b, 1, none⟩) (show b < w1.heap.size by omega)).trans h.c1⟩
theorem Wd.drew {w0 : World} {b : Nat} {f : Int} {T : ByteArray} {w1 : World} (h : Wd w0 b f T w1) : Wd w0 b f T w1.drew := h.step (Below.refl _ _).drew
theorem wd_start (w : World) (f : Int) (T : ByteArray) (t : TypeId) : Wd (w.alloc (.cells #[.int .i64 f, .string T] t)) w.heap.size f T (w.alloc (.cells #[.int .i64 f, .string T] t)) := by
  have e := cell_two_new w (.int .i64 f) (.string T) t
  exact ⟨Below.refl _ _, by simp, e 0 _ rfl, e 1 _ rfl⟩
theorem wd_call {P : Program} {fn : FuncId} {args : Array Value} {v : Value} {w0 : World} {b : Nat} {f : Int} {T : ByteArray} {w1 : World} (h : Wd w0 b f T w1)
    (C : ∀ w, Calls P fn args w fun e w' => e = .returned v ∧ Below w.heap.size w w') : Calls P fn args w1 fun e w' => e = .returned v ∧ Wd w0 b f T w' :=
  (C w1).mono fun _ _ ⟨a, c⟩ => ⟨a, h.step c⟩
theorem own_below {B : Nat} {e : TypeId} {k : Nat} {v : Value} {n : Nat} {xs : List Value} {w w' : World} (h : w.ownsRow B e k v n xs) (hb : Below w.heap.size w w') : w'.ownsRow B e k v n xs := by
  refine ⟨h.1, ?_⟩
  rcases h.2 with a | ⟨g, cap, cur, h1, h2, h3, h4⟩
  · exact .inl a
  · refine .inr ⟨g, cap, cur, h1, h2, ?_, h4⟩
    rw [hb.block g (Array.getElem?_eq_some_iff.1 h3).1]
    exact h3
theorem wd_own {B : Nat} {e : TypeId} {n : Nat} {v : Value} {k : Nat} {xs : List Value} {w w1 : World} {o : Obj} {b : Nat} {f : Int} {T : ByteArray} (h : w.ownsRow B e k v n xs) (q : Wd (w.alloc o) b f T w1) : w1.ownsRow B e k v n xs :=
  own_below (h.alloc o) q.bel
theorem cell_str_new (w : World) (T : ByteArray) (t : TypeId) : ∀ j c, [Value.string T][j]? = some c → (w.alloc (.cells #[.string T] t)).cell? ((⟨w.heap.size, 0, none⟩ : Addr).add j) = some c := by
  intro j c hj
  rw [add_flat]
  match j, hj with
  | 0, hj =>
    obtain rfl := Option.some.inj hj
    rw [World.cell?_alloc_at _ _ _ _ (by simp)]
    rfl
  | j + 1, hj => simp at hj
end Go.Proofs.YtjlipkklljjdjaaDoor
