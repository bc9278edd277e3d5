/- Contracts of the document's List and Count, and of the statements' comparison of two lists of numbers. -/
import Derived.Test.YtlmbfhbfejjpdaaGreatDoorBitG
import Derived.BigQuiet
import Derived.Deep.QuietTactic
namespace Go.Proofs.YtlmbfhbfejjpdaaGreatDoor
open Go.ChangeShapes Go.RowKit

/-- a list of the call's own, and what lay before the call is as it was -/
structure Own1 (w : World) (v : Value) (l : List Nat) (wr : World) : Prop where
  row : wr.ownsRow w.heap.size 3 1 v l.length ((asInts l).map (Value.int .i64))
  below : Below w.heap.size w wr
theorem Own1.step {w wr w1 : World} {v v' : Value} {l : List Nat} {o : Obj} {x : Nat} (h : Own1 w v l wr)
    (hown : w1.ownsRow w.heap.size 3 1 v' (l.length + 1) ((asInts l).map (Value.int .i64) ++ [.int .i64 x])) (hg : (wr.alloc o).grownBy w1 v.ownBlock) : Own1 w v' (l ++ [x]) w1 := by
  have hs := h.below.size
  refine ⟨by rw [asInts_snoc]; simpa using hown, (h.below.alloc hs o).grown hg (by simp; omega) (fun k hk => (h.row.lt k hk).1)⟩
set_option maxRecDepth 100000 in
theorem listR_any (S : Nat) (hS : S < 2 ^ 64) (w : World) :
    Calls Tryz.prog 54 #[.int .u64 S] w fun e W' => ∃ v, e = .returned v ∧ Own1 w v (Bit.mem S) W' := by
  obtain ⟨i0, hi, hz0, hz1, hz2⟩ := info_parts infoInt
  have A := Lib.hid (fun (k : Nat) w => hasR_any S k w hS)
  have E := Lib.hid (fun k => has_nat hS k)
  clear hS
  go_enter Tryz.func54, Tryz.ntmps54
  go_wp2_with fail
  go_loopw [3, 4] (fun v i wr => ∃ k : Nat, k ≤ 64 ∧ i = .int .i64 k ∧ Hid (Own1 w v (Bit.memTo S k) wr)) (fun _ i _ => 64 - (intOf i).toNat)
  case atStart => exact ⟨0, by omega, rfl, Lib.hid ⟨World.ownsRow_nil _ _ _ _, Below.refl _ _⟩⟩
  case round =>
    obtain ⟨k, hk, rfl, ho⟩ := hrel
    by_cases c : k < 64
    · have ML := Bit.memTo_len S k
      have MS := Lib.hid (Bit.memTo_succ S k)
      cases t : S.testBit k with
      | true =>
        have e : hasB S k = true := (E.out k).trans t
        rw [t, if_pos rfl] at MS
        clear t
        obtain ⟨l, hl⟩ : ∃ l, Bit.memTo S k = l := ⟨_, rfl⟩
        rw [hl] at ho ML MS
        clear hl
        have hsz := ho.out.below.size
        go_wp2_with (first
          | (go_at_call 76; refine (A.out k _).mono ?_; rw [e]; rintro e w1 ⟨rfl, rfl⟩)
          | (at_builtin; refine wpList_append_own_at _ rfl (.tmp 12) (.tmp 14) 105 rfl w.heap.size 3 i0 (.int .i64 0) 1 8 Tryz.underlying105 hi hz0 hz1 hz2 rfl (by decide) _ l.length _ rfl (ho.out.row.alloc _) ⟨wr.heap.size, 0, none⟩ 1 1 [.int .i64 k] rfl ?c1 ?c2 ?c3 ?c4 ?c5 ?c6 ?c7))
        case c1 => rfl
        case c2 => exact cell_one_new _ _ _
        case c3 => simp [Value.oneCell']
        case c4 => simp [maxLen]; omega
        case c5 => omega
        case c6 => simp; omega
        case c7 =>
          intro v1 w1 hown hg _ _
          have h1 := ho.out.step hown hg
          rw [← MS.out] at h1
          have H1 := Lib.hid h1
          clear h1 hown hg
          go_wp2_with fail
          go_roundw
          case rel => exact ⟨k + 1, by omega, by go_num, H1⟩
          case measure => simp [intOf]; omega
      | false =>
        have e : hasB S k = false := (E.out k).trans t
        rw [t, if_neg (by simp)] at MS
        clear t
        go_wp2_with (go_at_call 76; refine (A.out k _).mono ?_; rw [e]; rintro e w1 ⟨rfl, rfl⟩)
        go_roundw
        case rel => exact ⟨k + 1, by omega, by go_num, by rw [MS.out]; exact ho⟩
        case measure => simp [intOf]; omega
    · obtain rfl : k = 64 := by omega
      go_wp2_with fail
      go_ret
      exact ⟨_, rfl, ho.out⟩
theorem own_len {w wr : World} {v : Value} {l : List Nat} (h : Own1 w v l wr) : ∃ a cap, v = .slice a l.length cap := by
  rcases h.row.2 with ⟨rfl, h0⟩ | ⟨g, cap, cur, rfl, _⟩
  · rw [h0]; exact ⟨_, _, rfl⟩
  · exact ⟨_, _, rfl⟩
end Go.Proofs.YtlmbfhbfejjpdaaGreatDoor
