/- The context of a statement of stage 8: List in it. -/
import Derived.Test.YtbehendogcghjaaDoorMatCx
namespace Go.Proofs.YtbehendogcghjaaDoor
open Go.ChangeShapes Go.RowKit Go.Shelf

/-- List answers a slice that is nil or lies in blocks of its own -/
theorem MC.list {w W : World} {l : List (Nat × Exp.Ex)} (h : MC w l W) (x : Exp.Ex) (hx : x.Bd) (z a b most : Int) (r : List Int) (e : Int) (hr : listO x z a b most = r) (he : errC x z [a, b] = e) :
    Calls Tryd.prog 26 #[.agg #[.int .u64 x.a0, .int .u64 x.a1, .int .u64 x.a2, .int .u64 x.a3, .int .u64 x.a4, .int .u64 x.a5, .bool x.b3, .bool x.b5], .int .i64 z, .int .i64 a, .int .i64 b, .int .i64 most] W fun e' W' => ∃ A cap, e' = .returned (.tuple #[.slice A r.length cap, .int .i64 e]) ∧ RowT W' (.slice A r.length cap) r ∧ MC w l W' :=
  (mlist_any x hx z a b most W h.lay).mono fun e' W' ⟨v, h1, h2⟩ => by
    rw [hr] at h2
    have t := h2.rowT
    obtain ⟨A, cap, e1, _⟩ := id t
    subst e1
    exact ⟨A, cap, by rw [h1, he], t, h.next h2.below⟩
end Go.Proofs.YtbehendogcghjaaDoor
