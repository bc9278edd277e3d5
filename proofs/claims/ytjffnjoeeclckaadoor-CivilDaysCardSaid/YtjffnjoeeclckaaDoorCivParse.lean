/- Contracts of Parse of package civil: what each text is read as. -/
import Derived.Test.YtjffnjoeeclckaaDoorCivForm
import Derived.Test.YtjffnjoeeclckaaDoorCivF
import Derived.Deep.RegionHeld3
import Derived.Deep.DrawnRows
namespace Go.Proofs.YtjffnjoeeclckaaDoor
open Go.ChangeShapes Go.RowKit
attribute [local go_sem ↓] Go.wp_at_zero Go.wp_at_succ

/-- the number that the bytes from a on up to b say -/
def fld (s : ByteArray) (a b : Nat) : Int := numS (s.extract a b)
theorem extract_list (s : ByteArray) (a b : Nat) : (s.extract a b).data.toList = (s.data.toList.drop a).take (b - a) := by
  rw [ByteArray.data_extract, Array.toList_extract]
theorem dig_extract (s : ByteArray) (a b : Nat) (hb : b ≤ s.size) (hg : ∀ k (h : k < s.size), a ≤ k → k < b → 48 ≤ (s[k]'h).toNat ∧ (s[k]'h).toNat ≤ 57) : Dig (s.extract a b).data.toList := by
  intro c hc
  rw [extract_list] at hc
  obtain ⟨j, hj, rfl⟩ := List.mem_iff_getElem.1 hc
  have hj' : j < min (b - a) (s.size - a) := by simpa using hj
  have := hg (a + j) (by omega) (by omega) (by omega)
  rw [List.getElem_take, List.getElem_drop]
  exact this
theorem size_extract (s : ByteArray) (a b : Nat) (hb : b ≤ s.size) : (s.extract a b).size = b - a := by
  rw [ByteArray.size_extract]; omega
/-- a text that has the form: six fields of digits -/
structure Six (s : ByteArray) : Prop where
  size : s.size = 19
  d0 : Dig (s.extract 0 4).data.toList
  d1 : Dig (s.extract 5 7).data.toList
  d2 : Dig (s.extract 8 10).data.toList
  d3 : Dig (s.extract 11 13).data.toList
  d4 : Dig (s.extract 14 16).data.toList
  d5 : Dig (s.extract 17 19).data.toList
theorem good_dig {s : ByteArray} {k : Nat} (h : Good s k) (hp : pt k = 48) (hk : k < s.size) : 48 ≤ (s[k]'hk).toNat ∧ (s[k]'hk).toNat ≤ 57 := by
  obtain ⟨_, g⟩ := h
  rw [if_pos hp] at g
  exact g
theorem six_of {s : ByteArray} (hs : s.size = 19) (h : ∀ k, k < 19 → Good s k) : Six s := by
  refine ⟨hs, ?_, ?_, ?_, ?_, ?_, ?_⟩
  all_goals
    refine dig_extract s _ _ (by omega) fun k hk h1 h2 => good_dig (h k (by omega)) ?_ hk
    rcases nineteen (k := k) (by omega) with rfl | rfl | rfl | rfl | rfl | rfl | rfl | rfl | rfl | rfl | rfl | rfl | rfl | rfl | rfl | rfl | rfl | rfl | rfl <;> first | rfl | omega

/-- the table lies there, and nothing that was has changed -/
def LB (w0 W : World) : Prop := Lay W ∧ Below w0.heap.size w0 W
theorem LB.drew {w0 W : World} (h : LB w0 W) : LB w0 W.drew := ⟨h.1.below (Below.drew (Below.refl _ _)), h.2.drew⟩
theorem LB.below {w0 W W' : World} (h : LB w0 W) (b : Below W.heap.size W W') : LB w0 W' := ⟨h.1.below b, h.2.trans (b.mono h.2.size)⟩

theorem read_lb {w0 W : World} (A : LB w0 W) (x : ByteArray) (hd : Hid (Dig x.data.toList)) (h0 : 0 < x.size) (h1 : x.size ≤ 18) :
    Calls Tryd.prog 44 #[.string x] W fun e w' => e = .returned (.int .i64 (numS x)) ∧ LB w0 w' :=
  (read_any x W hd.out h0 h1).mono fun _ _ ⟨he, hb⟩ => ⟨he, A.below hb⟩

theorem parse_form (s : ByteArray) (w : World) (hs : s.size ≠ 19 ∨ ∃ k, k < 19 ∧ ¬ Good s k) :
    Calls Tryd.prog 34 #[.string s] w fun e w' => e = .returned (.tuple #[.int .i64 0, .int .i64 10]) ∧ Below w.heap.size w w' := by
  by_cases q : s.size = 19
  · obtain ⟨k, hk, hg⟩ := hs.resolve_left (by omega)
    have F := Lib.hid (formed_any s w q)
    rw [frmB_f k hk hg] at F
    clear hs q hg
    go_enter Tryd.func34, Tryd.ntmps34
    go_wp2_with fail
    refine F.out.mono ?_
    rintro e w1 ⟨rfl, hb⟩
    go_wp2_with fail
    go_ret2
    exact ⟨rfl, hb⟩
  · have F := Lib.hid (formed_len s w q)
    clear hs q
    go_enter Tryd.func34, Tryd.ntmps34
    go_wp2_with fail
    refine F.out.mono ?_
    rintro e w' ⟨rfl, rfl⟩
    go_wp2_with fail
    go_ret2
    exact ⟨rfl, Below.refl _ _⟩

set_option maxRecDepth 100000 in
set_option maxHeartbeats 800000 in
theorem parse_six (s : ByteArray) (w : World) (L : Lay w) (hs : s.size = 19) (hg : ∀ k, k < 19 → Good s k) (r q : Int)
    (T : ∀ w1, Lay w1 → Calls Tryd.prog 30 #[.agg #[.int .i64 (fld s 0 4), .int .i64 (fld s 5 7), .int .i64 (fld s 8 10), .int .i64 (fld s 11 13), .int .i64 (fld s 14 16), .int .i64 (fld s 17 19)]] w1 fun e w' => e = .returned (.tuple #[.int .i64 r, .int .i64 q]) ∧ Below w1.heap.size w1 w') :
    Calls Tryd.prog 34 #[.string s] w fun e w' => e = .returned (.tuple #[.int .i64 r, .int .i64 q]) ∧ Below w.heap.size w w' := by
  obtain ⟨_, d0, d1, d2, d3, d4, d5⟩ := six_of hs hg
  have F := Lib.hid (formed_any s w hs)
  rw [frmB_t hg] at F
  have D0 := Lib.hid d0
  have D1 := Lib.hid d1
  have D2 := Lib.hid d2
  have D3 := Lib.hid d3
  have D4 := Lib.hid d4
  have D5 := Lib.hid d5
  have z0 := size_extract s 0 4 (by omega)
  have z1 := size_extract s 5 7 (by omega)
  have z2 := size_extract s 8 10 (by omega)
  have z3 := size_extract s 11 13 (by omega)
  have z4 := size_extract s 14 16 (by omega)
  have z5 := size_extract s 17 19 (by omega)
  have TT := Lib.hid T
  clear hg d0 d1 d2 d3 d4 d5 T
  go_enter Tryd.func34, Tryd.ntmps34
  go_wp2_with fail
  refine F.out.mono ?_
  rintro e w1 ⟨rfl, hb⟩
  have A := Lib.hid (show LB w w1 from ⟨L.below hb, hb⟩)
  clear hb
  go_wp2_with fail
  go_region_held3 (fun _ => True) (trivial)
    (first
      | (go_at_call 44; refine (read_lb (by first | exact A.out | exact A.out.drew) _ (by first | exact D0 | exact D1 | exact D2 | exact D3 | exact D4 | exact D5) (by omega) (by omega)).mono ?_; rintro e w2 ⟨rfl, a2⟩; have A := Lib.hid a2; clear a2)
      | (go_at_call 30; refine (TT.out _ A.out.1).mono ?_; rintro e w2 ⟨rfl, b2⟩))
  go_wp2_with fail
  go_ret2
  exact ⟨rfl, (A.out.below b2).2⟩
end Go.Proofs.YtjffnjoeeclckaaDoor
