/- Contracts of Parse of the document: what each text is read as. -/
import Derived.Test.YtjffnjoeeclckaaDoorCivParse
namespace Go.Proofs.YtjffnjoeeclckaaDoor
open Go.ChangeShapes Go.RowKit
attribute [local go_sem ↓] Go.wp_at_zero Go.wp_at_succ

/-- the bytes of the document's form: 100 in the place of each digit -/
def fm (k : Nat) : Nat := if pt k = 48 then 100 else pt k
theorem form_at : ∃ F : ByteArray, F = ⟨#[100, 100, 100, 100, 45, 100, 100, 45, 100, 100, 32, 100, 100, 58, 100, 100, 58, 100, 100]⟩ ∧ F.size = 19 ∧ ∀ (k : Nat) (h : k < F.size), (F[k]'h).toNat = fm k := by
  refine ⟨_, rfl, rfl, fun k h => ?_⟩
  rcases nineteen (k := k) h with rfl | rfl | rfl | rfl | rfl | rfl | rfl | rfl | rfl | rfl | rfl | rfl | rfl | rfl | rfl | rfl | rfl | rfl | rfl <;> rfl

theorem parseR_len (s : ByteArray) (w : World) (h : s.size ≠ 19) :
    Calls Tryd.prog 35 #[.string s] w fun e w' => e = .returned (.tuple #[.int .i64 0, .int .i64 10]) ∧ w = w' := by
  have q : ((s.size : Int) != 19) = true := by rw [bne_iff_ne]; omega
  go_enter Tryd.func35, Tryd.ntmps35
  go_wp2
  go_ret2
  exact ⟨rfl, rfl⟩

theorem number_below (x : ByteArray) (w : World) (hd : Hid (Dig x.data.toList)) (h1 : x.size ≤ 4) :
    Calls Tryd.prog 45 #[.string x] w fun e w' => e = .returned (.int .i64 (numS x)) ∧ w = w' := number_any x w hd.out h1

/-- what Parse does with a text of 19 bytes: a wrong form, or the time of its six fields -/
def Read (s : ByteArray) (r q : Int) : Prop := (r = 0 ∧ q = 10 ∧ ∃ k, k < 19 ∧ ¬ Good s k) ∨ ((∀ k, k < 19 → Good s k) ∧ ∀ w1, Calls Tryd.prog 31 #[.agg #[.int .i64 (fld s 0 4), .int .i64 (fld s 5 7), .int .i64 (fld s 8 10), .int .i64 (fld s 11 13), .int .i64 (fld s 14 16), .int .i64 (fld s 17 19)]] w1 fun e w' => e = .returned (.tuple #[.int .i64 r, .int .i64 q]) ∧ Below w1.heap.size w1 w')
theorem Read.bad {s : ByteArray} {r q : Int} (h : Read s r q) (k : Nat) (hk : k < 19) (hb : ¬ Good s k) : r = 0 ∧ q = 10 := by
  rcases h with ⟨a, b, _⟩ | ⟨a, _⟩
  · exact ⟨a, b⟩
  · exact absurd (a k hk) hb
theorem ret_pair {a b c d : Int} (h : a = c ∧ b = d) : Ending.returned (.tuple #[.int .i64 c, .int .i64 d]) = .returned (.tuple #[.int .i64 a, .int .i64 b]) := by rw [h.1, h.2]

set_option maxRecDepth 100000 in
set_option maxHeartbeats 2000000 in
theorem parseR_any (s : ByteArray) (w : World) (hs : s.size = 19) (r q : Int) (R : Read s r q) :
    Calls Tryd.prog 35 #[.string s] w fun e w' => e = .returned (.tuple #[.int .i64 r, .int .i64 q]) ∧ Below w.heap.size w w' := by
  obtain ⟨F, hF, hz, hp⟩ := form_at
  have H := Lib.hid hF
  have HP := Lib.hid hp
  have q1 : ((s.size : Int) != 19) = false := by rw [bne_eq_false_iff_eq]; omega
  have HS := Lib.hid hs
  have HZ := Lib.hid hz
  have RR := Lib.hid R
  have hs0 : s.size ≤ 9223372036854775807 := by omega
  clear hF hp hs hz R
  go_enter Tryd.func35, Tryd.ntmps35
  go_wp2_with fail
  rw [← H.out]
  go_loopw [5] (fun a wr => ∃ k n : Nat, k ≤ 19 ∧ a = .int .i64 k ∧ wr = w.drewN n ∧ Hid (∀ j, j < k → Good s j)) (fun a _ => 19 - (intOf a).toNat)
  case atStart => exact ⟨0, 0, by omega, rfl, rfl, Lib.hid (fun j h => absurd h (by omega))⟩
  case round =>
    obtain ⟨k, n, hk, rfl, rfl, hg⟩ := hrel
    by_cases hlt : k < 19
    · have hkF : k < F.size := by rw [HZ.out]; exact hlt
      have hks : k < s.size := by rw [HS.out]; exact hlt
      have hFz : (F.size : Int) = 19 := by rw [HZ.out]; rfl
      have hfk := HP.out k hkF
      have e0 : (0 : Int) ≤ (k : Int) := by omega
      have e1 : (k : Int) < (s.size : Int) := by omega
      have e2 : (k : Int) < (F.size : Int) := by omega
      by_cases e : pt k = 48
      · have hf : (((F[k]'hkF).toNat : Int) == 100) = true := by rw [hfk]; unfold fm; rw [if_pos e]; rfl
        have hf' : (((F[k]'hkF).toNat : Int) != 100) = false := by rw [hfk]; unfold fm; rw [if_pos e]; rfl
        clear hfk
        have E := Lib.hid e
        clear e
        by_cases d0 : (s[k]'hks).toNat < 48
        · have b := RR.out.bad k hlt (by rintro ⟨_, g⟩; rw [if_pos E.out] at g; omega)
          have B := Lib.hid b
          clear b
          have t0 : decide (((s[k]'hks).toNat : Int) < 48) = true := by simp; omega
          go_wp2_with fail
          go_quiet (fail)
          go_wp2_with fail
          go_ret2
          exact ⟨ret_pair B.out, below_drewN (below_drewN (Below.refl _ _) _) _⟩
        · have t0 : decide (((s[k]'hks).toNat : Int) < 48) = false := by simp; omega
          by_cases d1 : 57 < (s[k]'hks).toNat
          · have b := RR.out.bad k hlt (by rintro ⟨_, g⟩; rw [if_pos E.out] at g; omega)
            have B := Lib.hid b
            clear b
            have t1 : decide ((57 : Int) < ((s[k]'hks).toNat : Int)) = true := by simp; omega
            go_wp2_with fail
            go_quiet (fail)
            go_wp2_with fail
            go_ret2
            exact ⟨ret_pair B.out, below_drewN (below_drewN (Below.refl _ _) _) _⟩
          · have t1 : decide ((57 : Int) < ((s[k]'hks).toNat : Int)) = false := by simp; omega
            have G := Lib.hid (show Good s k from ⟨hks, by rw [if_pos E.out]; omega⟩)
            go_wp2_with fail
            go_quiet (fail)
            go_wp2_with fail
            go_roundw
            case rel => exact ⟨k + 1, _, by omega, by go_num, rfl, Lib.hid (fun j hj => by
              by_cases e : j = k
              · subst e; exact G.out
              · exact hg.out j (by omega))⟩
            case measure => simp [intOf]; omega
      · have hc : pt k ≠ 100 := by rcases pt_cases hlt with e | e | e | e <;> omega
        have hfe : fm k = pt k := by unfold fm; rw [if_neg e]
        have hf : (((F[k]'hkF).toNat : Int) == 100) = false := by rw [hfk, hfe, beq_eq_false_iff_ne]; omega
        have hf' : (((F[k]'hkF).toNat : Int) != 100) = true := by rw [hfk, hfe, bne_iff_ne]; omega
        have E := Lib.hid e
        have P := Lib.hid (hfk.trans hfe)
        clear hfk hfe e hc
        by_cases d : (s[k]'hks).toNat = (F[k]'hkF).toNat
        · have t0 : (((s[k]'hks).toNat : Int) != ((F[k]'hkF).toNat : Int)) = false := by rw [bne_eq_false_iff_eq]; omega
          have G := Lib.hid (show Good s k from ⟨hks, by rw [if_neg E.out, ← P.out]; exact d⟩)
          clear d
          go_wp2_with fail
          go_quiet (fail)
          go_wp2_with fail
          go_roundw
          case rel => exact ⟨k + 1, _, by omega, by go_num, rfl, Lib.hid (fun j hj => by
            by_cases e : j = k
            · subst e; exact G.out
            · exact hg.out j (by omega))⟩
          case measure => simp [intOf]; omega
        · have t0 : (((s[k]'hks).toNat : Int) != ((F[k]'hkF).toNat : Int)) = true := by rw [bne_iff_ne]; omega
          have b := RR.out.bad k hlt (by rintro ⟨_, g⟩; rw [if_neg E.out, ← P.out] at g; exact d g)
          have B := Lib.hid b
          clear b d
          go_wp2_with fail
          go_quiet (fail)
          go_wp2_with fail
          go_ret2
          exact ⟨ret_pair B.out, below_drewN (below_drewN (Below.refl _ _) _) _⟩
    · obtain rfl : k = 19 := by omega
      have hFz : (F.size : Int) = 19 := by rw [HZ.out]; rfl
      have hg' := hg.out
      have T := Lib.hid ((RR.out.resolve_left (fun ⟨_, _, k, hk, hb⟩ => hb (hg' k hk))).2)
      obtain ⟨_, d0, d1, d2, d3, d4, d5⟩ := six_of HS.out hg'
      have D0 := Lib.hid d0
      have D1 := Lib.hid d1
      have D2 := Lib.hid d2
      have D3 := Lib.hid d3
      have D4 := Lib.hid d4
      have D5 := Lib.hid d5
      have hs := HS.out
      have z0 := size_extract s 0 4 (by omega)
      have z1 := size_extract s 5 7 (by omega)
      have z2 := size_extract s 8 10 (by omega)
      have z3 := size_extract s 11 13 (by omega)
      have z4 := size_extract s 14 16 (by omega)
      have z5 := size_extract s 17 19 (by omega)
      clear hg' d0 d1 d2 d3 d4 d5
      go_wp2_with fail
      go_region_held3 (fun _ => True) (trivial)
        (first
          | (go_at_call 45; refine (number_below _ _ (by first | exact D0 | exact D1 | exact D2 | exact D3 | exact D4 | exact D5) (by omega)).mono ?_; rintro e w' ⟨rfl, rfl⟩)
          | (go_at_call 31; refine (T.out _).mono ?_; rintro e w2 ⟨rfl, b2⟩))
      go_wp2_with fail
      go_ret2
      exact ⟨rfl, ((below_drewN (Below.refl _ _) n).drew).trans b2⟩
end Go.Proofs.YtjffnjoeeclckaaDoor
