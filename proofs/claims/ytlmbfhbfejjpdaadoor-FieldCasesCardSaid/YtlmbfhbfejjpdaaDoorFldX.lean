/- What the laws on the six kinds share: the kind in a block of the call's own, and the contracts at it. -/
import Derived.Test.YtlmbfhbfejjpdaaDoorFldU
import Derived.Test.YtlmbfhbfejjpdaaDoorFldW
import Derived.DataShut
namespace Go.Proofs.YtlmbfhbfejjpdaaDoor
open Go.ChangeShapes Go.WideShapes Go.RowKit Go.Shelf

theorem nat_u64 {s : Int} (h : (Lit.int .u64 s).wf = true) : ∃ S : Nat, s = S ∧ S < 2 ^ 64 := by
  rw [Lit.wf_int_iff] at h
  have h1 : 0 ≤ s ∧ s ≤ 18446744073709551615 := by simpa [IntKind.min, IntKind.max, IntKind.signed, IntKind.bits] using h
  obtain ⟨S, rfl⟩ := Int.eq_ofNat_of_zero_le h1.1
  exact ⟨S, rfl, by omega⟩
theorem nat_u8 {s : Int} (h : (Lit.int .u8 s).wf = true) : ∃ S : Nat, s = S ∧ S < 256 := by
  rw [Lit.wf_int_iff] at h
  have h1 : 0 ≤ s ∧ s ≤ 255 := by simpa [IntKind.min, IntKind.max, IntKind.signed, IntKind.bits] using h
  obtain ⟨S, rfl⟩ := Int.eq_ofNat_of_zero_le h1.1
  exact ⟨S, rfl, by omega⟩
theorem nat_u16 {s : Int} (h : (Lit.int .u16 s).wf = true) : ∃ S : Nat, s = S ∧ S < 65536 := by
  rw [Lit.wf_int_iff] at h
  have h1 : 0 ≤ s ∧ s ≤ 65535 := by simpa [IntKind.min, IntKind.max, IntKind.signed, IntKind.bits] using h
  obtain ⟨S, rfl⟩ := Int.eq_ofNat_of_zero_le h1.1
  exact ⟨S, rfl, by omega⟩
theorem int_i64 {s : Int} (h : (Lit.int .i64 s).wf = true) : -9223372036854775808 ≤ s ∧ s ≤ 9223372036854775807 := by
  rw [Lit.wf_int_iff] at h
  simpa [IntKind.min, IntKind.max, IntKind.signed, IntKind.bits] using h

/-- the kind's value -/
def kv (i : Nat) (v : Value) : Value := .agg #[.int .i64 (kd6 i).lo, .int .i64 (kd6 i).hi, v, .bool (kd6 i).week]
/-- the world since the call began: the kind i lies in block B -/
structure Ctx (w W : World) (B i : Nat) (v : Value) : Prop where
  below : Below w.heap.size w W
  lay : Lay W
  strs : IsStrs W v (xs6 i)
  lt : B < W.heap.size
  c0 : W.cell? ⟨B, 0, none⟩ = some (.int .i64 (kd6 i).lo)
  c1 : W.cell? ⟨B, 1, none⟩ = some (.int .i64 (kd6 i).hi)
  c2 : W.cell? ⟨B, 2, none⟩ = some v
  c3 : W.cell? ⟨B, 3, none⟩ = some (.bool (kd6 i).week)
theorem Ctx.first {w w1 : World} {i : Nat} {v : Value} (L : Lay w) (hb : Below w.heap.size w w1) (hs : IsStrs w1 v (xs6 i)) :
    Ctx w (w1.alloc (.cells #[.int .i64 (kd6 i).lo, .int .i64 (kd6 i).hi, v, .bool (kd6 i).week] 29)) w1.heap.size i v := by
  have B1 : Below w1.heap.size w1 (w1.alloc (.cells #[.int .i64 (kd6 i).lo, .int .i64 (kd6 i).hi, v, .bool (kd6 i).week] 29)) := (Below.refl _ _).alloc (Nat.le_refl _) _
  have hh := World.alloc_heap_new w1 (.cells #[.int .i64 (kd6 i).lo, .int .i64 (kd6 i).hi, v, .bool (kd6 i).week] 29)
  exact ⟨hb.trans (B1.mono hb.size), (L.below hb).below B1, hs.below B1, by simp, by simp only [World.cell?, hh]; rfl, by simp only [World.cell?, hh]; rfl, by simp only [World.cell?, hh]; rfl, by simp only [World.cell?, hh]; rfl⟩
theorem Ctx.next {w W W' : World} {B i : Nat} {v : Value} (h : Ctx w W B i v) (hb : Below W.heap.size W W') : Ctx w W' B i v :=
  ⟨h.below.trans (hb.mono h.below.size), h.lay.below hb, h.strs.below hb, Nat.lt_of_lt_of_le h.lt hb.size, (hb.cell (p := ⟨B, 0, none⟩) h.lt).trans h.c0, (hb.cell (p := ⟨B, 1, none⟩) h.lt).trans h.c1, (hb.cell (p := ⟨B, 2, none⟩) h.lt).trans h.c2, (hb.cell (p := ⟨B, 3, none⟩) h.lt).trans h.c3⟩

/-- Parse at a kind, where the answer is known -/
theorem parse_at {i : Nat} (h6 : i < 6) (v : Value) (s : ByteArray) (w : World) (hv : IsStrs w v (xs6 i)) (hs : s.size ≤ 9223372036854775000) {S a e : Nat} {star : Bool} (h : Fld.parse (kd6 i) s.data.toList = (S, star, a, e)) :
    Calls Tryd.prog 22 #[.agg #[.int .i64 (kd6 i).lo, .int .i64 (kd6 i).hi, v, .bool (kd6 i).week], .string s] w fun r w' => r = .returned (.tuple #[.int .u64 S, .bool star, .int .i64 a, .int .i64 e]) ∧ Below w.heap.size w w' := by
  have c := parse_yes (kd6 i) v (xs6 i) s w hv (kd6_is i h6) hs
  rw [h] at c
  exact c
theorem normal_at {i : Nat} (h6 : i < 6) (v : Value) (s : ByteArray) (w : World) (L : Lay w) (hv : IsStrs w v (xs6 i)) (hs : s.size ≤ 9223372036854775000) {t : ByteArray} {a e : Nat} (h : normR (kd6 i) s.data.toList = (t.data.toList, a, e)) :
    Calls Tryd.prog 23 #[.agg #[.int .i64 (kd6 i).lo, .int .i64 (kd6 i).hi, v, .bool (kd6 i).week], .string s] w fun r w' => r = .returned (.tuple #[.string t, .int .i64 a, .int .i64 e]) ∧ Below w.heap.size w w' := by
  have c := normal_yes (kd6 i) v (xs6 i) s w L hv (kd6_is i h6) hs
  rw [h] at c
  exact c
theorem print_at {i : Nat} (h6 : i < 6) (v : Value) (S : Nat) (star : Bool) (w : World) (L : Lay w) (hv : IsStrs w v (xs6 i)) (hS : S < 2 ^ 64) {t : ByteArray} {e : Nat} (h : printR (kd6 i) S star = (t.data.toList, e)) :
    Calls Tryd.prog 21 #[.agg #[.int .i64 (kd6 i).lo, .int .i64 (kd6 i).hi, v, .bool (kd6 i).week], .int .u64 S, .bool star] w fun r w' => r = .returned (.tuple #[.string t, .int .i64 e]) ∧ Below w.heap.size w w' := by
  have c := print_yes (kd6 i) v (xs6 i) S star w L hv (kd6_is i h6) hS
  rw [h] at c
  exact c
theorem Ctx.drew {w W : World} {B i : Nat} {v : Value} (h : Ctx w W B i v) : Ctx w W.drew B i v :=
  h.next ((Below.refl _ W).drew)
theorem parse_ctx {w W : World} {B i : Nat} {v : Value} (X : Ctx w W B i v) (h6 : i < 6) (s : ByteArray) (hs : s.size ≤ 9223372036854775000) {S a e : Nat} {star : Bool} (h : Fld.parse (kd6 i) s.data.toList = (S, star, a, e)) :
    Calls Tryd.prog 22 #[.agg #[.int .i64 (kd6 i).lo, .int .i64 (kd6 i).hi, v, .bool (kd6 i).week], .string s] W fun r W' => r = .returned (.tuple #[.int .u64 S, .bool star, .int .i64 a, .int .i64 e]) ∧ Ctx w W' B i v :=
  (parse_at h6 v s W X.strs hs h).mono fun _ _ ⟨h1, h2⟩ => ⟨h1, X.next h2⟩
theorem list_of (l : List UInt8) : (⟨l.toArray⟩ : ByteArray).data.toList = l := rfl
theorem full_in (i : Nat) (h6 : i < 6) : Fld.In (kd6 i) (fullK (kd6 i)) := fun v hv => by
  rw [Fld.full_bit (kd6_ok i h6)] at hv
  exact of_decide_eq_true hv
end Go.Proofs.YtlmbfhbfejjpdaaDoor
