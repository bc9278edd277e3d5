/- For all texts s and numbers of tabs, LexParts returns true: words are not empty, have no blanks, and stand where they say, with nothing but blanks around them; joined with a blank and some tabs they have the same words again (texts of more than 2,000 bytes are not asked). Conditions: strconv's table of the powers of ten and its errors, and the tables of UTF-8, start as the program's text lays them (tied). -/
import Derived.Test.YtjlipkklljjdjaaDoorLexLaid
import Derived.ChangeMaps5
import Derived.Test.YtjlipkklljjdjaaDoorLexX
import Derived.Test.YtjlipkklljjdjaaDoorLexWd
namespace Go.Proofs.YtjlipkklljjdjaaDoor.lexParts
open Go.ChangeShapes Go.WideShapes Go.ChangeAt Go.RowKit Go.ChangeMaps

set_option linter.unusedSimpArgs false in
set_option maxRecDepth 100000 in
set_option maxHeartbeats 8000000 in
theorem walk (s : ByteArray) (c0 : Int) (w : World) (L : Lay w) (hs : s.size ≤ maxLen) (hc : (Lit.int .u8 c0).wf = true) :
    Calls Tryd.prog 11 #[.string s, .int .u8 c0] w fun e w' => e = .returned (.bool true) ∧ Below w.heap.size w w' := by
  unfold maxLen at hs
  obtain ⟨c, rfl, hc1⟩ := nat_u8 hc
  clear hc
  have LL := Lib.hid L
  clear L
  by_cases h : 2000 < s.size
  · have t : decide ((2000 : Int) < (s.size : Int)) = true := by rw [decide_eq_true_iff]; omega
    go_enter Tryd.func11, Tryd.ntmps11
    go_wp2_with fail
    refine (works_any w LL.out).mono ?_
    rintro e w1 ⟨rfl, hb⟩
    have HB := Lib.hid hb
    clear hb
    go_wp2_with fail
    go_ret
    exact ⟨rfl, HB.out⟩
  · have t : decide ((2000 : Int) < (s.size : Int)) = false := by rw [decide_eq_false_iff_not]; omega
    have A := Lib.hid (words_any s (by omega))
    have FA := Lib.hid (word_is s)
    have TK := Lib.hid (wt_len s (wsOf s))
    have GB := Lib.hid (rest_blank s)
    have GT := rest_top s
    have E0 := Lib.hid (endOf_zero (wsOf s))
    have hn : (wsOf s).length ≤ 2000 := by have := (sum_le s _ (Nat.le_refl _)).2; omega
    have SM := Lib.hid (show ∀ x ∈ wt s (wsOf s) (wsOf s).length, x.size ≤ 70000 from fun x hx => by
      obtain ⟨y, _, rfl⟩ := List.mem_map.1 hx
      rw [ByteArray.size_extract]
      omega)
    obtain ⟨m, hm, hm1⟩ : ∃ m : Nat, c % 20 = m ∧ m ≤ 19 := ⟨_, rfl, by omega⟩
    have hm2 : (c : Int) % 20 = (m : Int) := by omega
    have hm3 : (c : Int).tmod 20 = (m : Int) := by rw [Int.tmod_eq_emod_of_nonneg (by omega)]; exact hm2
    obtain ⟨R, hJ, hR1, hR2, hR3⟩ := parts_join s m (by omega) hm1
    have RA := Lib.hid (words_any R hR1)
    rw [show (Lex.full (pcsOf blB R)) = wsOf R from rfl, hR2] at RA
    rw [show (Lex.full (pcsOf blB s)) = wsOf s from rfl] at A
    have RR := Lib.hid hR3
    have JJ := Lib.hid hJ
    have RP := Lib.hid (repeat_any 9 m (by omega))
    obtain ⟨Y, hY⟩ : ∃ Y : ByteArray, (⟨(List.replicate m 9).toArray⟩ : ByteArray) = Y := ⟨_, rfl⟩
    have hYs : Y.size = m := by rw [← hY, Lib.size_eq]; simp
    have z1 : (⟨#[32]⟩ : ByteArray).size = 1 := rfl
    have JS : sepB m = (⟨#[32]⟩ : ByteArray) ++ Y := by rw [← hY]; rfl
    have JZ : (sepB m).size ≤ 70000 := by rw [sepB_size]; omega
    rw [hY] at RP
    rw [JS] at JJ JZ
    have HZ := Lib.hid JZ
    clear hY JS JZ hJ hR1 hR2 hR3 hm
    obtain ⟨N, hN⟩ : ∃ N, (wsOf s).length = N := ⟨_, rfl⟩
    rw [hN] at A FA hn TK RA RR JJ GB GT SM
    clear hN
    obtain ⟨i0, hi, hz0, hz1, hz2⟩ := info_parts infoStr
    go_enter Tryd.func11, Tryd.ntmps11
    go_wp2_with fail
    refine (A.out w).mono ?_
    rintro e w1 ⟨v1, rfl, o1⟩
    obtain ⟨A1, cap1, rfl, c1, p1⟩ := own_any o1.row
    have H1 := Lib.hid o1.below
    have P1 := Lib.hid p1
    clear o1 p1
    go_wp2_with fail
    go_loopw [6, 7, 23] (fun a v i wr => ∃ k : Nat, k ≤ N ∧ i = .int .i64 k ∧ a = .int .i64 (endOf (wsOf s) k : Nat) ∧ Hid (OwnR w1.heap.size 9 1 w1 v k ((wt s (wsOf s) k).map Value.string) wr)) (fun _ _ i _ => N - (intOf i).toNat)
    case atStart => exact ⟨0, Nat.zero_le _, rfl, by rw [E0.out]; rfl, Lib.hid ⟨by rw [wt_zero]; exact World.ownsRow_nil _ _ _ _, Below.refl _ _⟩⟩
    case round =>
      obtain ⟨k, hk, rfl, rfl, ho⟩ := hrel
      have hsz := ho.out.below.size
      by_cases hlt : k < N
      · obtain ⟨f, T, q⟩ := FA.out k hlt
        obtain ⟨g1, rfl, hg1, hc1⟩ := P1.out (by omega)
        have a0 := (ho.out.below.cell (p := ⟨g1, k * 2, none⟩) hg1).trans (hc1 _ _ q.at0)
        have a1 := (ho.out.below.cell (p := ⟨g1, k * 2 + 1, none⟩) hg1).trans (hc1 _ _ q.at1)
        have q1 := q.end_
        have q2 := q.top
        have q3 := q.pos
        have q4 := q.ge
        have q5 := q.gt
        have CN := Lib.hid (contains_none T (by omega) q.none)
        have HP := Lib.hid (show ∀ w, Calls Tryd.prog 35 #[.string (s.extract f s.size), .string T] w fun e w' => e = .returned (.bool true) ∧ Below w.heap.size w w' from fun w => (Tryd.strings_HasPrefix _ T w).mono fun _ _ ⟨h1, h2⟩ => ⟨by rw [h1, q.pre], h2 ▸ Below.refl _ _⟩)
        have TB := Lib.hid (trim_blank (s.extract (endOf (wsOf s) k) f) (by rw [ByteArray.size_extract]; omega) q.gap)
        have NX := Lib.hid q.next
        clear q hc1
        obtain ⟨E, hE⟩ : ∃ E, endOf (wsOf s) k = E := ⟨_, rfl⟩
        obtain ⟨D, hD⟩ : ∃ D, endOf (wsOf s) (k + 1) = D := ⟨_, rfl⟩
        rw [hE] at TB q4 q5 ⊢
        rw [hD] at q1
        have HD := Lib.hid hD
        clear hE hD
        have t1 : decide ((f : Int) < (E : Int)) = false := by rw [decide_eq_false_iff_not]; omega
        have t2 : decide ((s.size : Int) < (f : Int)) = false := by rw [decide_eq_false_iff_not]; omega
        have t1n : decide (f < E) = false := by rw [decide_eq_false_iff_not]; omega
        have t2n : decide (s.size < f) = false := by rw [decide_eq_false_iff_not]; omega
        have b1 : (0 : Int) ≤ (f : Int) := by omega
        have b2 : (f : Int) ≤ (s.size : Int) := by omega
        have b3 : (0 : Int) ≤ (E : Int) := by omega
        have b4 : (E : Int) ≤ (f : Int) := by omega
        have b5 : (E : Int) ≤ (s.size : Int) := by omega
        have e1 := str_some q3
        have e0 : ¬ T.toList = [] := fun e => by rw [e] at e1; cases e1
        have e2 : (T.toList == []) = false := by cases hT : T.toList with | nil => exact absurd hT e0 | cons _ _ => rfl
        obtain ⟨aT, capT, rfl⟩ := ho.out.form
        have HO := Lib.hid ho.out
        clear ho
        rcases Nat.eq_zero_or_pos k with hk0 | hk0
        · subst hk0
          clear q5
          have hf1 : IntKind.i64.wrap ((f : Int) + (T.size : Int)) = (D : Int) := by rw [IntWalk.i64_in _ (by omega)]; omega
          go_wp2_with fail
          have Q := Lib.hid (wd_start wr f T 39)
          have p0 := Q.out.c0
          have p1 := Q.out.c1
          refine wp_region_held_drew (S := fun w' => w'.cell? ⟨wr.heap.size, 0, none⟩ = some (.int .i64 f) ∧ w'.cell? ⟨wr.heap.size, 1, none⟩ = some (.string T)) (by kernel_rfl) ?mhS (fun hHeld => ?mhR)
          case mhS => ((try dsimp only); go_keep)
          refine wpAnyH_take (i := 0) (v := ?mv0) rfl (by kernel_rfl) (by kernel_rfl) (by kernel_rfl) (fun _ _ _ h => h) (Or.inl ⟨by rfl, ?my0⟩) (by assumption) ?mr0
          case my0 => (intro w hSw; (try dsimp only at hSw); (try simp only [List.getElem_toArray, List.getElem_cons_zero, List.getElem_cons_succ]); go_simp; try with_reducible rfl)
          simp only [Act.put, List.getElem_toArray, List.getElem_cons_zero, List.getElem_cons_succ, List.setIfInBounds_toArray, List.set_cons_zero, List.set_cons_succ]
          refine wpAnyH_take (i := 1) (v := ?mv1) rfl (by kernel_rfl) (by kernel_rfl) (by kernel_rfl) (fun _ _ _ h => h) (Or.inl ⟨by rfl, ?my1⟩) (by assumption) ?mr1
          case my1 => (intro w hSw; (try dsimp only at hSw); (try simp only [List.getElem_toArray, List.getElem_cons_zero, List.getElem_cons_succ]); go_simp; try with_reducible rfl)
          simp only [Act.put, List.getElem_toArray, List.getElem_cons_zero, List.getElem_cons_succ, List.setIfInBounds_toArray, List.set_cons_zero, List.set_cons_succ]
          refine wpAnyH_take (i := 2) (v := ?mv2) rfl (by kernel_rfl) (by kernel_rfl) (by kernel_rfl) (fun _ _ _ h => h) (Or.inl ⟨by rfl, ?my2⟩) (by assumption) ?mr2
          case my2 => (intro w hSw; (try dsimp only at hSw); (try simp only [List.getElem_toArray, List.getElem_cons_zero, List.getElem_cons_succ]); go_simp; try with_reducible rfl)
          simp only [Act.put, List.getElem_toArray, List.getElem_cons_zero, List.getElem_cons_succ, List.setIfInBounds_toArray, List.set_cons_zero, List.set_cons_succ]
          refine wpAnyH_take (i := 3) (v := ?mv3) rfl (by kernel_rfl) (by kernel_rfl) (by kernel_rfl) (fun _ _ _ h => h) (Or.inl ⟨by rfl, ?my3⟩) (by assumption) ?mr3
          case my3 => (intro w hSw; (try dsimp only at hSw); (try simp only [List.getElem_toArray, List.getElem_cons_zero, List.getElem_cons_succ]); go_simp; try with_reducible rfl)
          simp only [Act.put, List.getElem_toArray, List.getElem_cons_zero, List.getElem_cons_succ, List.setIfInBounds_toArray, List.set_cons_zero, List.set_cons_succ]
          refine wpAnyH_take (i := 4) (v := ?mv4) rfl (by kernel_rfl) (by kernel_rfl) (by kernel_rfl) (fun _ _ _ h => h) (Or.inl ⟨by rfl, ?my4⟩) (by assumption) ?mr4
          case my4 => (intro w hSw; (try dsimp only at hSw); (try simp only [List.getElem_toArray, List.getElem_cons_zero, List.getElem_cons_succ]); go_simp; try with_reducible rfl)
          simp only [Act.put, List.getElem_toArray, List.getElem_cons_zero, List.getElem_cons_succ, List.setIfInBounds_toArray, List.set_cons_zero, List.set_cons_succ]
          refine wpAnyH_take (i := 5) (v := ?mv5) rfl (by kernel_rfl) (by kernel_rfl) (by kernel_rfl) (fun _ _ _ h => h) (Or.inl ⟨by rfl, ?my5⟩) (by assumption) ?mr5
          case my5 => (intro w hSw; (try dsimp only at hSw); (try simp only [List.getElem_toArray, List.getElem_cons_zero, List.getElem_cons_succ]); go_simp; try with_reducible rfl)
          simp only [Act.put, List.getElem_toArray, List.getElem_cons_zero, List.getElem_cons_succ, List.setIfInBounds_toArray, List.set_cons_zero, List.set_cons_succ]
          refine wpAnyH_take (i := 6) (v := ?mv6) rfl (by kernel_rfl) (by kernel_rfl) (by kernel_rfl) (fun _ _ _ h => h) (Or.inl ⟨by rfl, ?my6⟩) (by assumption) ?mr6
          case my6 => (intro w hSw; (try dsimp only at hSw); (try simp only [List.getElem_toArray, List.getElem_cons_zero, List.getElem_cons_succ]); go_simp; try with_reducible rfl)
          simp only [Act.put, List.getElem_toArray, List.getElem_cons_zero, List.getElem_cons_succ, List.setIfInBounds_toArray, List.set_cons_zero, List.set_cons_succ]
          refine wpAnyH_take (i := 7) (v := ?mv7) rfl (by kernel_rfl) (by kernel_rfl) (by kernel_rfl) (fun _ _ _ h => h) (Or.inl ⟨by rfl, ?my7⟩) (by assumption) ?mr7
          case my7 => (intro w hSw; (try dsimp only at hSw); (try simp only [List.getElem_toArray, List.getElem_cons_zero, List.getElem_cons_succ]); go_simp; try with_reducible rfl)
          simp only [Act.put, List.getElem_toArray, List.getElem_cons_zero, List.getElem_cons_succ, List.setIfInBounds_toArray, List.set_cons_zero, List.set_cons_succ]
          refine wpAnyH_take (i := 8) (v := ?mv8) rfl (by kernel_rfl) (by kernel_rfl) (by kernel_rfl) (fun _ _ _ h => h) (Or.inl ⟨by rfl, ?my8⟩) (by assumption) ?mr8
          case my8 => (intro w hSw; (try dsimp only at hSw); (try simp only [List.getElem_toArray, List.getElem_cons_zero, List.getElem_cons_succ]); go_simp; try with_reducible rfl)
          simp only [Act.put, List.getElem_toArray, List.getElem_cons_zero, List.getElem_cons_succ, List.setIfInBounds_toArray, List.set_cons_zero, List.set_cons_succ]
          refine wpAnyH_take (i := 9) (v := ?mv9) rfl (by kernel_rfl) (by kernel_rfl) (by kernel_rfl) (fun _ _ _ h => h) (Or.inl ⟨by rfl, ?my9⟩) (by assumption) ?mr9
          case my9 => (intro w hSw; (try dsimp only at hSw); (try simp only [List.getElem_toArray, List.getElem_cons_zero, List.getElem_cons_succ]); go_simp; try with_reducible rfl)
          simp only [Act.put, List.getElem_toArray, List.getElem_cons_zero, List.getElem_cons_succ, List.setIfInBounds_toArray, List.set_cons_zero, List.set_cons_succ]
          refine wpAnyH_take (i := 10) (v := ?mv10) rfl (by kernel_rfl) (by kernel_rfl) (by kernel_rfl) (fun _ _ _ h => h) (Or.inl ⟨by rfl, ?my10⟩) (by assumption) ?mr10
          case my10 => (intro w hSw; (try dsimp only at hSw); (try simp only [List.getElem_toArray, List.getElem_cons_zero, List.getElem_cons_succ]); go_simp; try with_reducible rfl)
          simp only [Act.put, List.getElem_toArray, List.getElem_cons_zero, List.getElem_cons_succ, List.setIfInBounds_toArray, List.set_cons_zero, List.set_cons_succ]
          refine wpAnyH_take (i := 11) (v := ?mv11) rfl (by kernel_rfl) (by kernel_rfl) (by kernel_rfl) (fun _ _ _ h => h) (Or.inl ⟨by rfl, ?my11⟩) (by assumption) ?mr11
          case my11 => (intro w hSw; (try dsimp only at hSw); (try simp only [List.getElem_toArray, List.getElem_cons_zero, List.getElem_cons_succ]); go_simp; try with_reducible rfl)
          simp only [Act.put, List.getElem_toArray, List.getElem_cons_zero, List.getElem_cons_succ, List.setIfInBounds_toArray, List.set_cons_zero, List.set_cons_succ]
          refine wpAnyH_take (i := 12) (v := ?mv12) rfl (by kernel_rfl) (by kernel_rfl) (by kernel_rfl) (fun _ _ _ h => h) (Or.inl ⟨by rfl, ?my12⟩) (by assumption) ?mr12
          case my12 => (intro w hSw; (try dsimp only at hSw); (try simp only [List.getElem_toArray, List.getElem_cons_zero, List.getElem_cons_succ]); go_simp; try with_reducible rfl)
          simp only [Act.put, List.getElem_toArray, List.getElem_cons_zero, List.getElem_cons_succ, List.setIfInBounds_toArray, List.set_cons_zero, List.set_cons_succ]
          refine wpAnyH_take (i := 13) (v := ?mv13) rfl (by kernel_rfl) (by kernel_rfl) (by kernel_rfl) (fun _ _ _ h => h) (Or.inl ⟨by rfl, ?my13⟩) (by assumption) ?mr13
          case my13 => (intro w hSw; (try dsimp only at hSw); (try simp only [List.getElem_toArray, List.getElem_cons_zero, List.getElem_cons_succ]); go_simp; try with_reducible rfl)
          simp only [Act.put, List.getElem_toArray, List.getElem_cons_zero, List.getElem_cons_succ, List.setIfInBounds_toArray, List.set_cons_zero, List.set_cons_succ]
          refine wpAnyH_take (i := 14) (v := ?mv14) rfl (by kernel_rfl) (by kernel_rfl) (by kernel_rfl) (fun _ _ _ h => h) (Or.inl ⟨by rfl, ?my14⟩) (by assumption) ?mr14
          case my14 => (intro w hSw; (try dsimp only at hSw); (try simp only [List.getElem_toArray, List.getElem_cons_zero, List.getElem_cons_succ]); go_simp; try with_reducible rfl)
          simp only [Act.put, List.getElem_toArray, List.getElem_cons_zero, List.getElem_cons_succ, List.setIfInBounds_toArray, List.set_cons_zero, List.set_cons_succ]
          refine wpAnyH_take (i := 15) (v := ?mv15) rfl (by kernel_rfl) (by kernel_rfl) (by kernel_rfl) (fun _ _ _ h => h) (Or.inl ⟨by rfl, ?my15⟩) (by assumption) ?mr15
          case my15 => (intro w hSw; (try dsimp only at hSw); (try simp only [List.getElem_toArray, List.getElem_cons_zero, List.getElem_cons_succ]); go_simp; try with_reducible rfl)
          simp only [Act.put, List.getElem_toArray, List.getElem_cons_zero, List.getElem_cons_succ, List.setIfInBounds_toArray, List.set_cons_zero, List.set_cons_succ]
          refine wpAnyH_take (i := 16) (v := ?mv16) rfl (by kernel_rfl) (by kernel_rfl) (by kernel_rfl) (fun _ _ _ h => h) (Or.inl ⟨by rfl, ?my16⟩) (by assumption) ?mr16
          case my16 => (intro w hSw; (try dsimp only at hSw); (try simp only [List.getElem_toArray, List.getElem_cons_zero, List.getElem_cons_succ]); go_simp; try with_reducible rfl)
          simp only [Act.put, List.getElem_toArray, List.getElem_cons_zero, List.getElem_cons_succ, List.setIfInBounds_toArray, List.set_cons_zero, List.set_cons_succ]
          refine wpAnyH_take (i := 17) (v := ?mv17) rfl (by kernel_rfl) (by kernel_rfl) (by kernel_rfl) (fun _ _ _ h => h) (Or.inl ⟨by rfl, ?my17⟩) (by assumption) ?mr17
          case my17 => (intro w hSw; (try dsimp only at hSw); (try simp only [List.getElem_toArray, List.getElem_cons_zero, List.getElem_cons_succ]); go_simp; try with_reducible rfl)
          simp only [Act.put, List.getElem_toArray, List.getElem_cons_zero, List.getElem_cons_succ, List.setIfInBounds_toArray, List.set_cons_zero, List.set_cons_succ]
          refine wpAnyH_take (i := 18) (v := ?mv18) rfl (by kernel_rfl) (by kernel_rfl) (by kernel_rfl) (fun _ _ _ h => h) (Or.inl ⟨by rfl, ?my18⟩) (by assumption) ?mr18
          case my18 => (intro w hSw; (try dsimp only at hSw); (try simp only [List.getElem_toArray, List.getElem_cons_zero, List.getElem_cons_succ]); go_simp; try with_reducible rfl)
          simp only [Act.put, List.getElem_toArray, List.getElem_cons_zero, List.getElem_cons_succ, List.setIfInBounds_toArray, List.set_cons_zero, List.set_cons_succ]
          refine wpAnyH_ready (rs := [19]) (by kernel_rfl) (by simp) ?_
          refine AllReadyH.cons rfl (fun K hK => ?_) AllReadyH.nil
          rw [if_pos (by rfl)]
          simp only [List.getElem_toArray, List.getElem_cons_zero, List.getElem_cons_succ]
          go_simp
          (refine (wd_call (by first | exact Q.out | exact Q.out.drew) CN.out).mono ?_; rintro e w5 ⟨rfl, q'⟩; have Q := Lib.hid q'; clear q'; have p0 := Q.out.c0; have p1 := Q.out.c1)
          refine hK.out _ _ ?mhS19 (fun hHeld => ?mhR19)
          case mhS19 => ((try dsimp only); go_keep)
          clear hK K
          (try simp only [Act.put, List.setIfInBounds_toArray, List.set_cons_zero, List.set_cons_succ])
          refine wpAnyH_take (i := 20) (v := ?mv20) rfl (by kernel_rfl) (by kernel_rfl) (by kernel_rfl) (fun _ _ _ h => h) (Or.inl ⟨by rfl, ?my20⟩) (by assumption) ?mr20
          case my20 => (intro w hSw; (try dsimp only at hSw); (try simp only [List.getElem_toArray, List.getElem_cons_zero, List.getElem_cons_succ]); go_simp; try with_reducible rfl)
          simp only [Act.put, List.getElem_toArray, List.getElem_cons_zero, List.getElem_cons_succ, List.setIfInBounds_toArray, List.set_cons_zero, List.set_cons_succ]
          refine wpAnyH_take (i := 21) (v := ?mv21) rfl (by kernel_rfl) (by kernel_rfl) (by kernel_rfl) (fun _ _ _ h => h) (Or.inl ⟨by rfl, ?my21⟩) (by assumption) ?mr21
          case my21 => (intro w hSw; (try dsimp only at hSw); (try simp only [List.getElem_toArray, List.getElem_cons_zero, List.getElem_cons_succ]); go_simp; try with_reducible rfl)
          simp only [Act.put, List.getElem_toArray, List.getElem_cons_zero, List.getElem_cons_succ, List.setIfInBounds_toArray, List.set_cons_zero, List.set_cons_succ]
          refine wpAnyH_take (i := 22) (v := ?mv22) rfl (by kernel_rfl) (by kernel_rfl) (by kernel_rfl) (fun _ _ _ h => h) (Or.inl ⟨by rfl, ?my22⟩) (by assumption) ?mr22
          case my22 => (intro w hSw; (try dsimp only at hSw); (try simp only [List.getElem_toArray, List.getElem_cons_zero, List.getElem_cons_succ]); go_simp; try with_reducible rfl)
          simp only [Act.put, List.getElem_toArray, List.getElem_cons_zero, List.getElem_cons_succ, List.setIfInBounds_toArray, List.set_cons_zero, List.set_cons_succ]
          refine wpAnyH_take (i := 23) (v := ?mv23) rfl (by kernel_rfl) (by kernel_rfl) (by kernel_rfl) (fun _ _ _ h => h) (Or.inl ⟨by rfl, ?my23⟩) (by assumption) ?mr23
          case my23 => (intro w hSw; (try dsimp only at hSw); (try simp only [List.getElem_toArray, List.getElem_cons_zero, List.getElem_cons_succ]); go_simp; try with_reducible rfl)
          simp only [Act.put, List.getElem_toArray, List.getElem_cons_zero, List.getElem_cons_succ, List.setIfInBounds_toArray, List.set_cons_zero, List.set_cons_succ]
          refine wpAnyH_take (i := 24) (v := ?mv24) rfl (by kernel_rfl) (by kernel_rfl) (by kernel_rfl) (fun _ _ _ h => h) (Or.inl ⟨by rfl, ?my24⟩) (by assumption) ?mr24
          case my24 => (intro w hSw; (try dsimp only at hSw); (try simp only [List.getElem_toArray, List.getElem_cons_zero, List.getElem_cons_succ]); go_simp; try with_reducible rfl)
          simp only [Act.put, List.getElem_toArray, List.getElem_cons_zero, List.getElem_cons_succ, List.setIfInBounds_toArray, List.set_cons_zero, List.set_cons_succ]
          refine wpAnyH_take (i := 25) (v := ?mv25) rfl (by kernel_rfl) (by kernel_rfl) (by kernel_rfl) (fun _ _ _ h => h) (Or.inl ⟨by rfl, ?my25⟩) (by assumption) ?mr25
          case my25 => (intro w hSw; (try dsimp only at hSw); (try simp only [List.getElem_toArray, List.getElem_cons_zero, List.getElem_cons_succ]); go_simp; try with_reducible rfl)
          simp only [Act.put, List.getElem_toArray, List.getElem_cons_zero, List.getElem_cons_succ, List.setIfInBounds_toArray, List.set_cons_zero, List.set_cons_succ]
          refine wpAnyH_take (i := 26) (v := ?mv26) rfl (by kernel_rfl) (by kernel_rfl) (by kernel_rfl) (fun _ _ _ h => h) (Or.inl ⟨by rfl, ?my26⟩) (by assumption) ?mr26
          case my26 => (intro w hSw; (try dsimp only at hSw); (try simp only [List.getElem_toArray, List.getElem_cons_zero, List.getElem_cons_succ]); go_simp; try with_reducible rfl)
          simp only [Act.put, List.getElem_toArray, List.getElem_cons_zero, List.getElem_cons_succ, List.setIfInBounds_toArray, List.set_cons_zero, List.set_cons_succ]
          refine wpAnyH_take (i := 27) (v := ?mv27) rfl (by kernel_rfl) (by kernel_rfl) (by kernel_rfl) (fun _ _ _ h => h) (Or.inl ⟨by rfl, ?my27⟩) (by assumption) ?mr27
          case my27 => (intro w hSw; (try dsimp only at hSw); (try simp only [List.getElem_toArray, List.getElem_cons_zero, List.getElem_cons_succ]); go_simp; try with_reducible rfl)
          simp only [Act.put, List.getElem_toArray, List.getElem_cons_zero, List.getElem_cons_succ, List.setIfInBounds_toArray, List.set_cons_zero, List.set_cons_succ]
          refine wpAnyH_ready (rs := [28]) (by kernel_rfl) (by simp) ?_
          refine AllReadyH.cons rfl (fun K hK => ?_) AllReadyH.nil
          rw [if_pos (by rfl)]
          simp only [List.getElem_toArray, List.getElem_cons_zero, List.getElem_cons_succ]
          go_simp
          (refine (wd_call (by first | exact Q.out | exact Q.out.drew) HP.out).mono ?_; rintro e w5 ⟨rfl, q'⟩; have Q := Lib.hid q'; clear q'; have p0 := Q.out.c0; have p1 := Q.out.c1)
          refine hK.out _ _ ?mhS28 (fun hHeld => ?mhR28)
          case mhS28 => ((try dsimp only); go_keep)
          clear hK K
          (try simp only [Act.put, List.setIfInBounds_toArray, List.set_cons_zero, List.set_cons_succ])
          refine wpAnyH_take (i := 29) (v := ?mv29) rfl (by kernel_rfl) (by kernel_rfl) (by kernel_rfl) (fun _ _ _ h => h) (Or.inl ⟨by rfl, ?my29⟩) (by assumption) ?mr29
          case my29 => (intro w hSw; (try dsimp only at hSw); (try simp only [List.getElem_toArray, List.getElem_cons_zero, List.getElem_cons_succ]); go_simp; try with_reducible rfl)
          simp only [Act.put, List.getElem_toArray, List.getElem_cons_zero, List.getElem_cons_succ, List.setIfInBounds_toArray, List.set_cons_zero, List.set_cons_succ]
          refine wpAnyH_take (i := 30) (v := ?mv30) rfl (by kernel_rfl) (by kernel_rfl) (by kernel_rfl) (fun _ _ _ h => h) (Or.inl ⟨by rfl, ?my30⟩) (by assumption) ?mr30
          case my30 => (intro w hSw; (try dsimp only at hSw); (try simp only [List.getElem_toArray, List.getElem_cons_zero, List.getElem_cons_succ]); go_simp; try with_reducible rfl)
          simp only [Act.put, List.getElem_toArray, List.getElem_cons_zero, List.getElem_cons_succ, List.setIfInBounds_toArray, List.set_cons_zero, List.set_cons_succ]
          refine wpAnyH_take (i := 31) (v := ?mv31) rfl (by kernel_rfl) (by kernel_rfl) (by kernel_rfl) (fun _ _ _ h => h) (Or.inl ⟨by rfl, ?my31⟩) (by assumption) ?mr31
          case my31 => (intro w hSw; (try dsimp only at hSw); (try simp only [List.getElem_toArray, List.getElem_cons_zero, List.getElem_cons_succ]); go_simp; try with_reducible rfl)
          simp only [Act.put, List.getElem_toArray, List.getElem_cons_zero, List.getElem_cons_succ, List.setIfInBounds_toArray, List.set_cons_zero, List.set_cons_succ]
          refine wpAnyH_take (i := 32) (v := ?mv32) rfl (by kernel_rfl) (by kernel_rfl) (by kernel_rfl) (fun _ _ _ h => h) (Or.inl ⟨by rfl, ?my32⟩) (by assumption) ?mr32
          case my32 => (intro w hSw; (try dsimp only at hSw); (try simp only [List.getElem_toArray, List.getElem_cons_zero, List.getElem_cons_succ]); go_simp; try with_reducible rfl)
          simp only [Act.put, List.getElem_toArray, List.getElem_cons_zero, List.getElem_cons_succ, List.setIfInBounds_toArray, List.set_cons_zero, List.set_cons_succ]
          refine wpAnyH_take (i := 33) (v := ?mv33) rfl (by kernel_rfl) (by kernel_rfl) (by kernel_rfl) (fun _ _ _ h => h) (Or.inl ⟨by rfl, ?my33⟩) (by assumption) ?mr33
          case my33 => (intro w hSw; (try dsimp only at hSw); (try simp only [List.getElem_toArray, List.getElem_cons_zero, List.getElem_cons_succ]); go_simp; try with_reducible rfl)
          simp only [Act.put, List.getElem_toArray, List.getElem_cons_zero, List.getElem_cons_succ, List.setIfInBounds_toArray, List.set_cons_zero, List.set_cons_succ]
          refine wpAnyH_take (i := 34) (v := ?mv34) rfl (by kernel_rfl) (by kernel_rfl) (by kernel_rfl) (fun _ _ _ h => h) (Or.inl ⟨by rfl, ?my34⟩) (by assumption) ?mr34
          case my34 => (intro w hSw; (try dsimp only at hSw); (try simp only [List.getElem_toArray, List.getElem_cons_zero, List.getElem_cons_succ]); go_simp; try with_reducible rfl)
          simp only [Act.put, List.getElem_toArray, List.getElem_cons_zero, List.getElem_cons_succ, List.setIfInBounds_toArray, List.set_cons_zero, List.set_cons_succ]
          refine wpAnyH_take (i := 35) (v := ?mv35) rfl (by kernel_rfl) (by kernel_rfl) (by kernel_rfl) (fun _ _ _ h => h) (Or.inl ⟨by rfl, ?my35⟩) (by assumption) ?mr35
          case my35 => (intro w hSw; (try dsimp only at hSw); (try simp only [List.getElem_toArray, List.getElem_cons_zero, List.getElem_cons_succ]); go_simp; try with_reducible rfl)
          simp only [Act.put, List.getElem_toArray, List.getElem_cons_zero, List.getElem_cons_succ, List.setIfInBounds_toArray, List.set_cons_zero, List.set_cons_succ]
          refine wpAnyH_take (i := 36) (v := ?mv36) rfl (by kernel_rfl) (by kernel_rfl) (by kernel_rfl) (fun _ _ _ h => h) (Or.inl ⟨by rfl, ?my36⟩) (by assumption) ?mr36
          case my36 => (intro w hSw; (try dsimp only at hSw); (try simp only [List.getElem_toArray, List.getElem_cons_zero, List.getElem_cons_succ]); go_simp; try with_reducible rfl)
          simp only [Act.put, List.getElem_toArray, List.getElem_cons_zero, List.getElem_cons_succ, List.setIfInBounds_toArray, List.set_cons_zero, List.set_cons_succ]
          refine wpAnyH_ready (rs := [37]) (by kernel_rfl) (by simp) ?_
          refine AllReadyH.cons rfl (fun K hK => ?_) AllReadyH.nil
          rw [if_pos (by rfl)]
          simp only [List.getElem_toArray, List.getElem_cons_zero, List.getElem_cons_succ]
          go_simp
          (refine (wd_call (by first | exact Q.out | exact Q.out.drew) TB.out).mono ?_; rintro e w5 ⟨rfl, q'⟩; have Q := Lib.hid q'; clear q'; have p0 := Q.out.c0; have p1 := Q.out.c1)
          refine hK.out _ _ ?mhS37 (fun hHeld => ?mhR37)
          case mhS37 => ((try dsimp only); go_keep)
          clear hK K
          (try simp only [Act.put, List.setIfInBounds_toArray, List.set_cons_zero, List.set_cons_succ])
          refine wpAnyH_take (i := 38) (v := ?mv38) rfl (by kernel_rfl) (by kernel_rfl) (by kernel_rfl) (fun _ _ _ h => h) (Or.inl ⟨by rfl, ?my38⟩) (by assumption) ?mr38
          case my38 => (intro w hSw; (try dsimp only at hSw); (try simp only [List.getElem_toArray, List.getElem_cons_zero, List.getElem_cons_succ]); go_simp; try with_reducible rfl)
          simp only [Act.put, List.getElem_toArray, List.getElem_cons_zero, List.getElem_cons_succ, List.setIfInBounds_toArray, List.set_cons_zero, List.set_cons_succ]
          refine wpAnyH_take (i := 39) (v := ?mv39) rfl (by kernel_rfl) (by kernel_rfl) (by kernel_rfl) (fun _ _ _ h => h) (Or.inl ⟨by rfl, ?my39⟩) (by assumption) ?mr39
          case my39 => (intro w hSw; (try dsimp only at hSw); (try simp only [List.getElem_toArray, List.getElem_cons_zero, List.getElem_cons_succ]); go_simp; try with_reducible rfl)
          simp only [Act.put, List.getElem_toArray, List.getElem_cons_zero, List.getElem_cons_succ, List.setIfInBounds_toArray, List.set_cons_zero, List.set_cons_succ]
          refine wpAnyH_take (i := 40) (v := ?mv40) rfl (by kernel_rfl) (by kernel_rfl) (by kernel_rfl) (fun _ _ _ h => h) (Or.inl ⟨by rfl, ?my40⟩) (by assumption) ?mr40
          case my40 => (intro w hSw; (try dsimp only at hSw); (try simp only [List.getElem_toArray, List.getElem_cons_zero, List.getElem_cons_succ]); go_simp; try with_reducible rfl)
          simp only [Act.put, List.getElem_toArray, List.getElem_cons_zero, List.getElem_cons_succ, List.setIfInBounds_toArray, List.set_cons_zero, List.set_cons_succ]
          refine wpAnyH_take (i := 41) (v := ?mv41) rfl (by kernel_rfl) (by kernel_rfl) (by kernel_rfl) (fun _ _ _ h => h) (Or.inl ⟨by rfl, ?my41⟩) (by assumption) ?mr41
          case my41 => (intro w hSw; (try dsimp only at hSw); (try simp only [List.getElem_toArray, List.getElem_cons_zero, List.getElem_cons_succ]); go_simp; try with_reducible rfl)
          simp only [Act.put, List.getElem_toArray, List.getElem_cons_zero, List.getElem_cons_succ, List.setIfInBounds_toArray, List.set_cons_zero, List.set_cons_succ]
          refine wpAnyH_take (i := 42) (v := ?mv42) rfl (by kernel_rfl) (by kernel_rfl) (by kernel_rfl) (fun _ _ _ h => h) (Or.inl ⟨by rfl, ?my42⟩) (by assumption) ?mr42
          case my42 => (intro w hSw; (try dsimp only at hSw); (try simp only [List.getElem_toArray, List.getElem_cons_zero, List.getElem_cons_succ]); go_simp; try with_reducible rfl)
          simp only [Act.put, List.getElem_toArray, List.getElem_cons_zero, List.getElem_cons_succ, List.setIfInBounds_toArray, List.set_cons_zero, List.set_cons_succ]
          refine wpAnyH_take (i := 43) (v := ?mv43) rfl (by kernel_rfl) (by kernel_rfl) (by kernel_rfl) (fun _ _ _ h => h) (Or.inl ⟨by rfl, ?my43⟩) (by assumption) ?mr43
          case my43 => (intro w hSw; (try dsimp only at hSw); (try simp only [List.getElem_toArray, List.getElem_cons_zero, List.getElem_cons_succ]); go_simp; try with_reducible rfl)
          simp only [Act.put, List.getElem_toArray, List.getElem_cons_zero, List.getElem_cons_succ, List.setIfInBounds_toArray, List.set_cons_zero, List.set_cons_succ]
          refine wpAnyH_take (i := 44) (v := ?mv44) rfl (by kernel_rfl) (by kernel_rfl) (by kernel_rfl) (fun _ _ _ h => h) (Or.inl ⟨by rfl, ?my44⟩) (by assumption) ?mr44
          case my44 => (intro w hSw; (try dsimp only at hSw); (try simp only [List.getElem_toArray, List.getElem_cons_zero, List.getElem_cons_succ]); go_simp; try with_reducible rfl)
          simp only [Act.put, List.getElem_toArray, List.getElem_cons_zero, List.getElem_cons_succ, List.setIfInBounds_toArray, List.set_cons_zero, List.set_cons_succ]
          refine wpAnyH_take (i := 45) rfl (by kernel_rfl) (by kernel_rfl) (by kernel_rfl) (fun _ _ _ h => h) (Or.inr ⟨by rfl, rfl⟩) (by assumption) ?_
          simp only [Act.put, List.getElem_toArray, List.getElem_cons_zero, List.getElem_cons_succ, List.setIfInBounds_toArray, List.set_cons_zero, List.set_cons_succ]
          refine wpAnyH_take (i := 46) rfl (by kernel_rfl) (by kernel_rfl) (by kernel_rfl) (fun _ _ _ h => h) (Or.inr ⟨by rfl, rfl⟩) (by assumption) ?_
          simp only [Act.put, List.getElem_toArray, List.getElem_cons_zero, List.getElem_cons_succ, List.setIfInBounds_toArray, List.set_cons_zero, List.set_cons_succ]
          refine wpAnyH_take (i := 47) rfl (by kernel_rfl) (by kernel_rfl) (by kernel_rfl) (fun _ _ _ h => h) (Or.inr ⟨by rfl, rfl⟩) (by assumption) ?_
          simp only [Act.put, List.getElem_toArray, List.getElem_cons_zero, List.getElem_cons_succ, List.setIfInBounds_toArray, List.set_cons_zero, List.set_cons_succ]
          refine wpAnyH_take (i := 48) rfl (by kernel_rfl) (by kernel_rfl) (by kernel_rfl) (fun _ _ _ h => h) (Or.inr ⟨by rfl, rfl⟩) (by assumption) ?_
          simp only [Act.put, List.getElem_toArray, List.getElem_cons_zero, List.getElem_cons_succ, List.setIfInBounds_toArray, List.set_cons_zero, List.set_cons_succ]
          refine wpAnyH_take (i := 49) (v := ?mv49) rfl (by kernel_rfl) (by kernel_rfl) (by kernel_rfl) (fun _ _ _ h => h) (Or.inl ⟨by rfl, ?my49⟩) (by assumption) ?mr49
          case my49 => (intro w hSw; (try dsimp only at hSw); (try simp only [List.getElem_toArray, List.getElem_cons_zero, List.getElem_cons_succ]); go_simp; try with_reducible rfl)
          simp only [Act.put, List.getElem_toArray, List.getElem_cons_zero, List.getElem_cons_succ, List.setIfInBounds_toArray, List.set_cons_zero, List.set_cons_succ]
          refine wpAnyH_take (i := 50) (v := ?mv50) rfl (by kernel_rfl) (by kernel_rfl) (by kernel_rfl) (fun _ _ _ h => h) (Or.inl ⟨by rfl, ?my50⟩) (by assumption) ?mr50
          case my50 => (intro w hSw; (try dsimp only at hSw); (try simp only [List.getElem_toArray, List.getElem_cons_zero, List.getElem_cons_succ]); go_simp; try with_reducible rfl)
          simp only [Act.put, List.getElem_toArray, List.getElem_cons_zero, List.getElem_cons_succ, List.setIfInBounds_toArray, List.set_cons_zero, List.set_cons_succ]
          refine wpAnyH_done (by kernel_rfl) ?_ _
          all_goals (
            have hw5 : wr.heap.size + 1 ≤ w5.heap.size := by have := Q.out.bel.size; simpa using this
            clear t1 t1n t2 t2n
            go_wp2_with (at_builtin; refine wpList_append_own _ rfl _ _ 48 rfl w1.heap.size 9 i0 (.string ⟨#[]⟩) 1 16 Tryd.underlying48 hi hz0 hz1 hz2 rfl (by decide) _ 0 _ rfl ((wd_own HO.out.row Q.out).alloc _) ⟨w5.heap.size, 0, none⟩ 1 1 [.string T] rfl rfl ?c1 ?c2 ?c3 ?c4 ?c5 ?c6)
            case c1 => simpa using cell_str_new w5 T 9
            case c2 => intro u hu; rw [List.mem_singleton] at hu; subst hu; rfl
            case c3 => simp [maxLen] <;> omega
            case c4 => omega
            case c5 => simp <;> omega
            case c6 =>
              intro v' W2 hown hgrow _
              have HS := Lib.hid (show OwnR w1.heap.size 9 1 w1 v' (0 + 1) ((wt s (wsOf s) (0 + 1)).map Value.string) W2 from ⟨by
                rw [NX.out, List.map_append]
                simpa using hown, (((HO.out.below.alloc hsz _).trans (Q.out.bel.mono (by simp; omega))).alloc (by omega) _).grown hgrow (by simp; omega) (fun j hj => (HO.out.row.lt j hj).1)⟩)
              clear hown hgrow
              go_wp2_with fail
              go_roundw
              case rel => exact ⟨0 + 1, by omega, by go_num, by rw [HD.out], HS⟩
              case measure => simp [intOf]; omega)
        · have t5 : decide ((0 : Int) < (k : Int)) = true := by rw [decide_eq_true_iff]; omega
          have t5n : decide (0 < k) = true := by rw [decide_eq_true_iff]; omega
          have t6 : ((f : Int) == (E : Int)) = false := by rw [beq_eq_false_iff_ne]; have := q5 hk0; omega
          have t6n : (f == E) = false := by rw [beq_eq_false_iff_ne]; have := q5 hk0; omega
          clear hk0 q5
          have hf1 : IntKind.i64.wrap ((f : Int) + (T.size : Int)) = (D : Int) := by rw [IntWalk.i64_in _ (by omega)]; omega
          go_wp2_with fail
          have Q := Lib.hid (wd_start wr f T 39)
          have p0 := Q.out.c0
          have p1 := Q.out.c1
          go_region_held3 (fun w' => w'.cell? ⟨wr.heap.size, 0, none⟩ = some (.int .i64 f) ∧ w'.cell? ⟨wr.heap.size, 1, none⟩ = some (.string T)) (go_keep)
            (first
              | (go_at_call 34; refine (wd_call (by first | exact Q.out | exact Q.out.drew) CN.out).mono ?_; rintro e w5 ⟨rfl, q'⟩; have Q := Lib.hid q'; clear q'; have p0 := Q.out.c0; have p1 := Q.out.c1)
              | (go_at_call 35; refine (wd_call (by first | exact Q.out | exact Q.out.drew) HP.out).mono ?_; rintro e w5 ⟨rfl, q'⟩; have Q := Lib.hid q'; clear q'; have p0 := Q.out.c0; have p1 := Q.out.c1)
              | (go_at_call 36; refine (wd_call (by first | exact Q.out | exact Q.out.drew) TB.out).mono ?_; rintro e w5 ⟨rfl, q'⟩; have Q := Lib.hid q'; clear q'; have p0 := Q.out.c0; have p1 := Q.out.c1))
          all_goals (
            have hw5 : wr.heap.size + 1 ≤ w5.heap.size := by have := Q.out.bel.size; simpa using this
            clear t1 t1n t2 t2n
            go_wp2_with (at_builtin; refine wpList_append_own _ rfl _ _ 48 rfl w1.heap.size 9 i0 (.string ⟨#[]⟩) 1 16 Tryd.underlying48 hi hz0 hz1 hz2 rfl (by decide) _ k _ rfl ((wd_own HO.out.row Q.out).alloc _) ⟨w5.heap.size, 0, none⟩ 1 1 [.string T] rfl rfl ?c1 ?c2 ?c3 ?c4 ?c5 ?c6)
            case c1 => simpa using cell_str_new w5 T 9
            case c2 => intro u hu; rw [List.mem_singleton] at hu; subst hu; rfl
            case c3 => simp [maxLen] <;> omega
            case c4 => omega
            case c5 => simp <;> omega
            case c6 =>
              intro v' W2 hown hgrow _
              have HS := Lib.hid (show OwnR w1.heap.size 9 1 w1 v' (k + 1) ((wt s (wsOf s) (k + 1)).map Value.string) W2 from ⟨by
                rw [NX.out, List.map_append]
                simpa using hown, (((HO.out.below.alloc hsz _).trans (Q.out.bel.mono (by simp; omega))).alloc (by omega) _).grown hgrow (by simp; omega) (fun j hj => (HO.out.row.lt j hj).1)⟩)
              clear hown hgrow
              go_wp2_with fail
              go_roundw
              case rel => exact ⟨k + 1, by omega, by go_num, by rw [HD.out], HS⟩
              case measure => simp [intOf]; omega)
      · obtain rfl : k = N := by omega
        have HO := Lib.hid ho.out
        obtain ⟨aT, capT, rfl, cT, pT⟩ := own_any ho.out.row
        have V := Lib.hid (strs_own (xs := wt s (wsOf s) k) (by rw [TK.out k (Nat.le_refl _)]; exact HO.out.row))
        have PT := Lib.hid pT
        have B1 := Lib.hid (H1.out.trans (HO.out.below.mono H1.out.size))
        have TB := Lib.hid (trim_blank (s.extract (endOf (wsOf s) k) s.size) (by rw [ByteArray.size_extract]; omega) GB.out)
        have JQ := Lib.hid (fun v w hv => join_any (wt s (wsOf s) k) (⟨#[32]⟩ ++ Y) R 0 ⟨by rw [TK.out k (Nat.le_refl _)]; omega, HZ.out, SM.out⟩ JJ.out v w hv)
        obtain ⟨E, hE⟩ : ∃ E, endOf (wsOf s) k = E := ⟨_, rfl⟩
        rw [hE] at TB GT ⊢
        clear ho pT hE
        go_wp2_with fail
        refine (TB.out _).mono ?_
        rintro e w2 ⟨rfl, hb⟩
        have B2 := Lib.hid (B1.out.trans (hb.mono B1.out.size))
        have V2 := Lib.hid (V.out.below hb)
        have P2 := Lib.hid (PT.out.below hb)
        clear hb
        go_wp2_with fail
        refine (RP.out _).mono ?_
        rintro e w3 ⟨rfl, hb⟩
        have B3 := Lib.hid (B2.out.trans (hb.mono B2.out.size))
        have V3 := Lib.hid (V2.out.below hb)
        have P3 := Lib.hid (P2.out.below hb)
        clear hb
        go_wp2_with fail
        refine (JQ.out _ _ V3.out).mono ?_
        rintro e w4 ⟨rfl, hb⟩
        have B4 := Lib.hid (B3.out.trans (hb.mono B3.out.size))
        have P4 := Lib.hid (P3.out.below hb)
        clear hb
        go_wp2_with fail
        refine (RA.out _).mono ?_
        rintro e w5 ⟨v2, rfl, o2⟩
        obtain ⟨A2, cap2, rfl, c2, p2⟩ := own_any o2.row
        have B5 := Lib.hid (B4.out.trans (o2.below.mono B4.out.size))
        have P5 := Lib.hid (P4.out.below o2.below)
        have Q5 := Lib.hid p2
        clear o2 p2
        go_wp2_with fail
        go_loopw [118] (fun i wr => ∃ j : Nat, j ≤ k ∧ i = .int .i64 j ∧ Hid (Below w5.heap.size w5 wr)) (fun i _ => k - (intOf i).toNat)
        case atStart => exact ⟨0, Nat.zero_le _, rfl, Lib.hid (Below.refl _ _)⟩
        case round =>
          obtain ⟨j, hj, rfl, hB⟩ := hrel
          have hBs := hB.out.size
          by_cases hlt : j < k
          · obtain ⟨T, hT⟩ : ∃ T, (wt s (wsOf s) k)[j]? = some T := ⟨_, List.getElem?_eq_getElem (by rw [TK.out k (Nat.le_refl _)]; omega)⟩
            obtain ⟨g, f0, f1⟩ := RR.out j T hT
            obtain ⟨g2, rfl, hg2, hc2⟩ := Q5.out (by omega)
            have a0 := (hB.out.cell (p := ⟨g2, j * 2, none⟩) hg2).trans (hc2 _ _ f0)
            have a1 := (hB.out.cell (p := ⟨g2, j * 2 + 1, none⟩) hg2).trans (hc2 _ _ f1)
            obtain ⟨gT, rfl, hgT, hcT⟩ := P5.out (by omega)
            have b0 := (hB.out.cell (p := ⟨gT, j, none⟩) hgT).trans (hcT j (.string T) (by rw [List.getElem?_map, hT]; rfl))
            have b1 := (((Below.refl wr.heap.size wr).alloc (Nat.le_refl _) (.cells #[.int .i64 g, .string T] 39)).cell (p := ⟨gT, j, none⟩) (show gT < wr.heap.size by omega)).trans b0
            have es : (T.toList == T.toList) = true := by simp
            have es2 : (T.toList != T.toList) = false := by simp
            clear hc2 hcT hT f0 f1
            go_wp2_with fail
            go_quiet (fail)
            go_wp2_with fail
            go_roundw
            case rel => exact ⟨j + 1, by omega, by go_num, Lib.hid ((hB.out.alloc hBs _).trans (below_drewN _ _ _))⟩
            case measure => simp [intOf]; omega
          · go_wp2_with fail
            refine (works_any _ (LL.out.below (B5.out.trans (hB.out.mono B5.out.size)))).mono ?_
            rintro e w6 ⟨rfl, hb⟩
            have HB := Lib.hid ((B5.out.trans (hB.out.mono B5.out.size)).trans (hb.mono (B5.out.trans (hB.out.mono B5.out.size)).size))
            clear hb
            go_wp2_with fail
            go_ret
            exact ⟨rfl, HB.out⟩
end Go.Proofs.YtjlipkklljjdjaaDoor.lexParts
