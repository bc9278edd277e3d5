/- The form of a text of a time: which bytes are digits, and which are signs. Contract of formed. -/
import Derived.Test.YtjffnjoeeclckaaDoorCivN
import Derived.Laws.RangeAny
import Derived.Laws.RangeString
namespace Go.Proofs.YtjffnjoeeclckaaDoor
open Go.ChangeShapes Go.RowKit

/-- the bytes of the pattern: 48 in the place of each digit -/
def pt (k : Nat) : Nat := [48, 48, 48, 48, 45, 48, 48, 45, 48, 48, 32, 48, 48, 58, 48, 48, 58, 48, 48].getD k 0
/-- byte k is as the pattern says -/
def Good (s : ByteArray) (k : Nat) : Prop := ∃ h : k < s.size, if pt k = 48 then 48 ≤ (s[k]'h).toNat ∧ (s[k]'h).toNat ≤ 57 else (s[k]'h).toNat = pt k
theorem nineteen {k : Nat} (h : k < 19) : k = 0 ∨ k = 1 ∨ k = 2 ∨ k = 3 ∨ k = 4 ∨ k = 5 ∨ k = 6 ∨ k = 7 ∨ k = 8 ∨ k = 9 ∨ k = 10 ∨ k = 11 ∨ k = 12 ∨ k = 13 ∨ k = 14 ∨ k = 15 ∨ k = 16 ∨ k = 17 ∨ k = 18 := by omega
theorem pt_cases {k : Nat} (h : k < 19) : pt k = 48 ∨ pt k = 45 ∨ pt k = 32 ∨ pt k = 58 := by
  rcases nineteen h with rfl | rfl | rfl | rfl | rfl | rfl | rfl | rfl | rfl | rfl | rfl | rfl | rfl | rfl | rfl | rfl | rfl | rfl | rfl <;> decide
theorem pattern_at : ∃ F : ByteArray, F = ⟨#[48, 48, 48, 48, 45, 48, 48, 45, 48, 48, 32, 48, 48, 58, 48, 48, 58, 48, 48]⟩ ∧ F.size = 19 ∧ ∀ (k : Nat) (h : k < F.size), (F[k]'h).toNat = pt k := by
  refine ⟨_, rfl, rfl, fun k h => ?_⟩
  rcases nineteen (k := k) h with rfl | rfl | rfl | rfl | rfl | rfl | rfl | rfl | rfl | rfl | rfl | rfl | rfl | rfl | rfl | rfl | rfl | rfl | rfl <;> rfl

theorem below_iter (w : World) (s : ByteArray) (p : Nat) : Below w.heap.size w (w.iter s p) := (Below.refl _ _).alloc (Nat.le_refl _) _

theorem wrap32_byte' {n : Nat} (h : n < 256) : wrap32 (n : Int) = n := by unfold wrap32; omega
theorem ret_bool {a b : Bool} (h : a = b) : Ending.returned (.bool a) = .returned (.bool b) := by rw [h]
theorem formed_len (s : ByteArray) (w : World) (h : s.size ≠ 19) :
    Calls Tryd.prog 43 #[.string s] w fun e w' => e = .returned (.bool false) ∧ w = w' := by
  have q : ((s.size : Int) != 19) = true := by rw [bne_iff_ne]; omega
  go_enter Tryd.func43, Tryd.ntmps43
  go_wp2
  go_ret
  exact ⟨rfl, rfl⟩

noncomputable def frmB (s : ByteArray) : Bool := (List.range 19).all fun k => @decide (Good s k) (Classical.propDecidable _)
theorem frmB_t {s : ByteArray} (h : ∀ k, k < 19 → Good s k) : frmB s = true := by
  unfold frmB; rw [List.all_eq_true]; intro k hk; simpa using h k (by simpa using hk)
theorem frmB_f {s : ByteArray} (k : Nat) (hk : k < 19) (h : ¬ Good s k) : frmB s = false := by
  unfold frmB; rw [Bool.eq_false_iff]; intro e; rw [List.all_eq_true] at e; exact h (by simpa using e k (by simpa using hk))
theorem frmB_iff {s : ByteArray} : frmB s = true ↔ ∀ k, k < 19 → Good s k := by
  refine ⟨fun e k hk => ?_, frmB_t⟩
  unfold frmB at e; rw [List.all_eq_true] at e; simpa using e k (by simpa using hk)

set_option maxRecDepth 100000 in
theorem formed_any (s : ByteArray) (w : World) (hs : s.size = 19) :
    Calls Tryd.prog 43 #[.string s] w fun e w' => e = .returned (.bool (frmB s)) ∧ Below w.heap.size w w' := by
  obtain ⟨F, hF, hz, hp⟩ := pattern_at
  have H := Lib.hid hF
  have HP := Lib.hid hp
  have hs0 : s.size ≤ 9223372036854775807 := by omega
  have q : ((s.size : Int) != 19) = false := by rw [bne_eq_false_iff_eq]; omega
  have HS := Lib.hid hs
  have HZ := Lib.hid hz
  clear hF hp hs hz
  go_enter Tryd.func43, Tryd.ntmps43
  go_wp2_with fail
  rw [← H.out]
  go_loopw [2] (fun _ wr => ∃ k : Nat, k ≤ 19 ∧ wr = w.iter F k ∧ Hid (∀ j, j < k → Good s j)) (fun _ wr => 19 - wr.iterPos w.heap.size)
  case atStart => exact ⟨0, by omega, rfl, Lib.hid (fun j h => absurd h (by omega))⟩
  case round =>
    obtain ⟨k, hk, rfl, hg⟩ := hrel
    by_cases hlt : k < 19
    · have hkF : k < F.size := by rw [HZ.out]; exact hlt
      have hks : k < s.size := by rw [HS.out]; exact hlt
      have hnx : ∀ ty, (Instr.next (.pointer (some ⟨w.heap.size, 0, none⟩)) true ty).run Tryd.prog (w.iter F k) = _ := fun ty => run_next_ascii w F k ty hkF (by rw [HP.out]; rcases pt_cases hlt with e | e | e | e <;> rw [e] <;> decide)
      rw [HP.out k hkF] at hnx
      have hb := (s[k]'hks).toNat_lt
      have W32 := Lib.hid (wrap32_byte' (n := (s[k]'hks).toNat) hb)
      go_wp2_with fail
      all_goals have hw := W32.out
      all_goals clear hnx
      all_goals simp only [bne_iff_ne, bne_eq_false_iff_eq, ne_eq, hw] at *
      all_goals first
        | (go_ret
           exact ⟨ret_bool (frmB_f k hlt (by
             rintro ⟨h, g⟩
             by_cases e : pt k = 48
             · rw [if_pos e] at g; omega
             · rw [if_neg e] at g; omega)).symm, below_iter _ _ _⟩)
        | (go_roundw
           case rel => exact ⟨k + 1, by omega, rfl, Lib.hid (fun j hj => by
             by_cases e : j = k
             · subst e
               refine ⟨hks, ?_⟩
               by_cases e : pt j = 48
               · rw [if_pos e]; omega
               · rw [if_neg e]; omega
             · exact hg.out j (by omega))⟩
           case measure => simp; omega)
    · obtain rfl : k = 19 := by omega
      have hnx : ∀ ty, (Instr.next (.pointer (some ⟨w.heap.size, 0, none⟩)) true ty).run Tryd.prog (w.iter F 19) = _ := fun ty => run_next_end w F 19 ty (by rw [HZ.out]; decide)
      go_wp2_with fail
      go_ret
      exact ⟨ret_bool (frmB_t hg.out).symm, below_iter _ _ _⟩
end Go.Proofs.YtjffnjoeeclckaaDoor
