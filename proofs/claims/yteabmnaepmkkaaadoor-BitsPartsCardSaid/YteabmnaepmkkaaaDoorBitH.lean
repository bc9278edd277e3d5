/- Contracts of the document's List and Count, and of the statements' comparison of two lists of numbers. -/
import Derived.Test.YteabmnaepmkkaaaDoorBitG
import Derived.BigQuiet
import Derived.Deep.QuietTactic
namespace Go.Proofs.YteabmnaepmkkaaaDoor
open Go.ChangeShapes Go.RowKit

/-- a list of the call's own, and what lay before the call is as it was -/
structure Own1 (w : World) (v : Value) (l : List Nat) (wr : World) : Prop where
  row : wr.ownsRow w.heap.size 3 1 v l.length ((asInts l).map (Value.int .i64))
  below : Below w.heap.size w wr
theorem Own1.step {w wr w1 : World} {v v' : Value} {l : List Nat} {o : Obj} {x : Nat} (h : Own1 w v l wr)
    (hown : w1.ownsRow w.heap.size 3 1 v' (l.length + 1) ((asInts l).map (Value.int .i64) ++ [.int .i64 x])) (hg : (wr.alloc o).grownBy w1 v.ownBlock) : Own1 w v' (l ++ [x]) w1 := by
  have hs := h.below.size
  refine ⟨by rw [asInts_snoc]; simpa using hown, (h.below.alloc hs o).grown hg (by simp; omega) (fun k hk => (h.row.lt k hk).1)⟩
theorem listR_any (S : Nat) (hS : S < 2 ^ 64) (w : World) :
    Calls Tryd.prog 27 #[.int .u64 S] w fun e W' => ∃ v, e = .returned v ∧ Own1 w v (Bit.mem S) W' := by
  obtain ⟨i0, hi, hz0, hz1, hz2⟩ := info_parts infoInt
  have A := Lib.hid (fun (k : Nat) w => hasR_any S k w hS)
  have E := Lib.hid (fun k => has_nat hS k)
  clear hS
  go_enter Tryd.func27, Tryd.ntmps27
  go_wp2_with fail
  go_loopw [3, 4] (fun v i wr => ∃ k : Nat, k ≤ 64 ∧ i = .int .i64 k ∧ Hid (Own1 w v (Bit.memTo S k) wr)) (fun _ i _ => 64 - (intOf i).toNat)
  case atStart => exact ⟨0, by omega, rfl, Lib.hid ⟨World.ownsRow_nil _ _ _ _, Below.refl _ _⟩⟩
  case round =>
    obtain ⟨k, hk, rfl, ho⟩ := hrel
    by_cases c : k < 64
    · have ML := Bit.memTo_len S k
      have MS := Lib.hid (Bit.memTo_succ S k)
      cases t : S.testBit k with
      | true =>
        have e : hasB S k = true := (E.out k).trans t
        rw [t, if_pos rfl] at MS
        clear t
        obtain ⟨l, hl⟩ : ∃ l, Bit.memTo S k = l := ⟨_, rfl⟩
        rw [hl] at ho ML MS
        clear hl
        have hsz := ho.out.below.size
        go_wp2_with (first
          | (go_at_call 24; refine (A.out k _).mono ?_; rw [e]; rintro e w1 ⟨rfl, rfl⟩)
          | (at_builtin; refine wpList_append_own_at _ rfl (.tmp 12) (.tmp 14) 22 rfl w.heap.size 3 i0 (.int .i64 0) 1 8 Tryd.underlying22 hi hz0 hz1 hz2 rfl (by decide) _ l.length _ rfl (ho.out.row.alloc _) ⟨wr.heap.size, 0, none⟩ 1 1 [.int .i64 k] rfl ?c1 ?c2 ?c3 ?c4 ?c5 ?c6 ?c7))
        case c1 => rfl
        case c2 => exact cell_one_new _ _ _
        case c3 => simp [Value.oneCell']
        case c4 => simp [maxLen]; omega
        case c5 => omega
        case c6 => simp; omega
        case c7 =>
          intro v1 w1 hown hg _ _
          have h1 := ho.out.step hown hg
          rw [← MS.out] at h1
          have H1 := Lib.hid h1
          clear h1 hown hg
          go_wp2_with fail
          go_roundw
          case rel => exact ⟨k + 1, by omega, by go_num, H1⟩
          case measure => simp [intOf]; omega
      | false =>
        have e : hasB S k = false := (E.out k).trans t
        rw [t, if_neg (by simp)] at MS
        clear t
        go_wp2_with (go_at_call 24; refine (A.out k _).mono ?_; rw [e]; rintro e w1 ⟨rfl, rfl⟩)
        go_roundw
        case rel => exact ⟨k + 1, by omega, by go_num, by rw [MS.out]; exact ho⟩
        case measure => simp [intOf]; omega
    · obtain rfl : k = 64 := by omega
      go_wp2_with fail
      go_ret
      exact ⟨_, rfl, ho.out⟩
theorem own_len {w wr : World} {v : Value} {l : List Nat} (h : Own1 w v l wr) : ∃ a cap, v = .slice a l.length cap := by
  rcases h.row.2 with ⟨rfl, h0⟩ | ⟨g, cap, cur, rfl, _⟩
  · rw [h0]; exact ⟨_, _, rfl⟩
  · exact ⟨_, _, rfl⟩
theorem countR_any (S : Nat) (hS : S < 2 ^ 64) (w : World) :
    Calls Tryd.prog 29 #[.int .u64 S] w fun e W' => e = .returned (.int .i64 (Bit.mem S).length) ∧ Below w.heap.size w W' := by
  have A := Lib.hid (listR_any S hS w)
  obtain ⟨l, hl⟩ : ∃ l, Bit.mem S = l := ⟨_, rfl⟩
  rw [hl] at A ⊢
  clear hl
  go_enter Tryd.func29, Tryd.ntmps29
  go_wp2_with fail
  refine A.out.mono ?_
  rintro e w1 ⟨v, rfl, ho⟩
  have HO := Lib.hid ho
  obtain ⟨a, cap, rfl⟩ := own_len ho
  clear ho
  go_wp2_with fail
  go_ret
  exact ⟨rfl, HO.out.below⟩

/-- two rows with the same numbers are equal -/
theorem ints_nil (a b : Option Addr) (cap cap' : Nat) (w : World) : Calls Tryd.prog 25 #[.slice a 0 cap, .slice b 0 cap'] w fun e w' => e = .returned (.bool true) ∧ ∃ m, w' = w.drewN m := by
  go_enter Tryd.func25, Tryd.ntmps25
  go_wp2
  go_loop [5] (fun i => i = .int .i64 0) (fun _ => 0)
  case atStart => rfl
  case round =>
    subst hrel
    go_wp2
    go_ret
    exact ⟨rfl, 0, rfl⟩
theorem ints_row (g g' n cap cap' : Nat) (zs : List Int) (w : World) (hn : n ≤ 64) (hc : ∀ i, i < n → w.cell? ⟨g, i, none⟩ = some (.int .i64 (zs.getD i 0))) (hc' : ∀ i, i < n → w.cell? ⟨g', i, none⟩ = some (.int .i64 (zs.getD i 0))) :
    Calls Tryd.prog 25 #[.slice (some ⟨g, 0, none⟩) n cap, .slice (some ⟨g', 0, none⟩) n cap'] w fun e w' => e = .returned (.bool true) ∧ ∃ m, w' = w.drewN m := by
  have HC := Lib.hid hc
  have HC' := Lib.hid hc'
  clear hc hc'
  go_enter Tryd.func25, Tryd.ntmps25
  go_wp2
  go_loopw [5] (fun i wr => ∃ k : Nat, k ≤ n ∧ i = .int .i64 k ∧ ∃ m, wr = w.drewN m) (fun i _ => n - (intOf i).toNat)
  case atStart => exact ⟨0, by omega, rfl, 0, rfl⟩
  case round =>
    obtain ⟨k, hk, rfl, m, rfl⟩ := hrel
    by_cases c : k < n
    · have h1 : w.cell? ⟨g, k, none⟩ = some (.int .i64 (zs.getD k 0)) := HC.out k c
      have h2 : w.cell? ⟨g', k, none⟩ = some (.int .i64 (zs.getD k 0)) := HC'.out k c
      have i1 : (k : Int) < (n : Int) := by omega
      obtain ⟨z, hz⟩ : ∃ z, zs.getD k 0 = z := ⟨_, rfl⟩
      rw [hz] at h1 h2
      clear hz
      go_wp2
      go_quiet (fail)
      go_wp2
      go_roundw
      case rel => exact ⟨k + 1, by omega, by go_num, _, rfl⟩
      case measure => simp [intOf]; omega
    · obtain rfl : k = n := by omega
      go_wp2
      go_ret
      exact ⟨rfl, m, rfl⟩
theorem ints_same (b1 b2 : Nat) (v u : Value) (l : List Nat) (w : World) (hl : l.length ≤ 64) (h1 : w.ownsRow b1 3 1 v l.length ((asInts l).map (Value.int .i64))) (h2 : w.ownsRow b2 3 1 u l.length ((asInts l).map (Value.int .i64))) :
    Calls Tryd.prog 25 #[v, u] w fun e w' => e = .returned (.bool true) ∧ ∃ m, w' = w.drewN m := by
  by_cases z : l.length = 0
  · have : l = [] := List.eq_nil_of_length_eq_zero z
    subst this
    obtain ⟨a, c, rfl⟩ : ∃ a c, v = .slice a 0 c := by
      rcases h1.2 with ⟨rfl, h0⟩ | ⟨g, cap, cur, rfl, _⟩
      · exact ⟨_, _, rfl⟩
      · exact ⟨_, _, rfl⟩
    obtain ⟨a', c', rfl⟩ : ∃ a c, u = .slice a 0 c := by
      rcases h2.2 with ⟨rfl, h0⟩ | ⟨g, cap, cur, rfl, _⟩
      · exact ⟨_, _, rfl⟩
      · exact ⟨_, _, rfl⟩
    exact ints_nil a a' c c' w
  · rcases h1.2 with ⟨rfl, h0⟩ | ⟨g, cap, cur, rfl, _⟩
    · exact absurd h0 z
    · rcases h2.2 with ⟨rfl, h0⟩ | ⟨g', cap', cur', rfl, _⟩
      · exact absurd h0 z
      · exact ints_row g g' l.length cap cap' (asInts l) w hl
          (fun i hi => by
            have hi' : i < (asInts l).length := by rw [asInts_len]; exact hi
            rw [h1.cellAt i (by omega)]; simp [hi'])
          (fun i hi => by
            have hi' : i < (asInts l).length := by rw [asInts_len]; exact hi
            rw [h2.cellAt i (by omega)]; simp [hi'])
end Go.Proofs.YteabmnaepmkkaaaDoor
