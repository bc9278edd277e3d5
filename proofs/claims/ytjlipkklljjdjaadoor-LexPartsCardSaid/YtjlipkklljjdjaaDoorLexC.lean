/- Contracts of the document's Lines and Words. -/
import Derived.Test.YtjlipkklljjdjaaDoorLexB
namespace Go.Proofs.YtjlipkklljjdjaaDoor
open Go.ChangeShapes Go.RowKit Go.Shelf

theorem nl_eq (c : Nat) (b : Bool) (h : nlB c = b) : ((c : Int) == 10) = b := by rw [← h]; unfold nlB; rw [Bool.eq_iff_iff]; simp; omega
theorem blank_any (c : Nat) (b : Bool) (h : blB c = b) (w : World) :
    Calls Tryd.prog 43 #[.int .u8 c] w fun e w' => e = .returned (.bool b) ∧ w = w' := by
  have h1 : ((c : Int) == 32) = (c == 32) := by rw [Bool.eq_iff_iff]; simp; omega
  have h2 : ((c : Int) == 9) = (c == 9) := by rw [Bool.eq_iff_iff]; simp; omega
  unfold blB at h
  by_cases c1 : (c == 32) = true
  · rw [c1] at h1
    obtain rfl : b = true := by rw [← h, c1]; rfl
    clear h h2 c1
    go_enter Tryd.func43, Tryd.ntmps43
    go_wp2
    go_ret
    exact ⟨rfl, rfl⟩
  · have c1 : (c == 32) = false := by simpa using c1
    rw [c1] at h1
    rw [c1, Bool.false_or] at h
    rw [h] at h2
    clear h c1
    cases b
    all_goals
      go_enter Tryd.func43, Tryd.ntmps43
      go_wp2
      go_ret
      exact ⟨rfl, rfl⟩

/-- lines, or words, of the call's own; z: what lay before -/
structure OwnR (z : Nat) (t : TypeId) (m : Nat) (w : World) (v : Value) (k : Nat) (xs : List Value) (wr : World) : Prop where
  row : wr.ownsRow z t m v k xs
  below : Below z w wr
theorem OwnR.step {z : Nat} {t : TypeId} {m k : Nat} {w wr w1 : World} {v v' : Value} {xs ys : List Value} {o : Obj} (h : OwnR z t m w v k xs wr) (hz : z ≤ wr.heap.size)
    (hown : w1.ownsRow z t m v' (k + 1) (xs ++ ys)) (hg : (wr.alloc o).grownBy w1 v.ownBlock) : OwnR z t m w v' (k + 1) (xs ++ ys) w1 :=
  ⟨hown, (h.below.alloc hz o).grown hg (by simp; omega) (fun k hk => (h.row.lt k hk).1)⟩
theorem OwnR.form {z : Nat} {t : TypeId} {m k : Nat} {w wr : World} {v : Value} {xs : List Value} (h : OwnR z t m w v k xs wr) : ∃ a cap, v = .slice a k cap := by
  rcases h.row.2 with ⟨rfl, hk⟩ | ⟨g, cap, cur, rfl, _⟩
  · exact ⟨none, 0, by simp [hk]⟩
  · exact ⟨_, _, rfl⟩
/-- how far the loop over the bytes has come: v the pieces that are done, f where the next one begins -/
def AtL (s : ByteArray) (w : World) (k : Nat) (v f : Value) (wr : World) : Prop :=
  (k ≤ s.size ∧ f = .int .i64 ((Lex.cut (sepAt nlB s) k).2 : Nat) ∧ OwnR w.heap.size 32 3 w v (Lex.cut (sepAt nlB s) k).1.length (flatL s 0 (Lex.cut (sepAt nlB s) k).1) wr) ∨
  (k = s.size + 1 ∧ OwnR w.heap.size 32 3 w v (pcsOf nlB s).length (flatL s 0 (pcsOf nlB s)) wr)

set_option maxRecDepth 100000 in
set_option maxHeartbeats 2000000 in
theorem rlines_any (s : ByteArray) (hs : s.size ≤ 65536) (w : World) :
    Calls Tryd.prog 17 #[.string s] w fun e W' =>
      ∃ v, e = .returned (.tuple #[v, .int .i64 0]) ∧ OwnR w.heap.size 32 3 w v (pcsOf nlB s).length (flatL s 0 (pcsOf nlB s)) W' := by
  obtain ⟨i0, hi, hz0, hz1, hz2⟩ := info_parts infoLineR
  have hs' : decide ((65536 : Int) < (s.size : Int)) = false := by simp; omega
  go_enter Tryd.func17, Tryd.ntmps17
  go_wp2
  go_loopw [4, 5, 6] (fun v f i wr => ∃ k : Nat, k ≤ s.size + 1 ∧ i = .int .i64 k ∧ Hid (AtL s w k v f wr)) (fun _ _ i _ => s.size + 1 - (intOf i).toNat)
  case atStart => exact ⟨0, Nat.zero_le _, rfl, Lib.hid (.inl ⟨Nat.zero_le _, rfl, World.ownsRow_nil _ _ _ _, Below.refl _ _⟩)⟩
  case round =>
    obtain ⟨k, hk, rfl, hr⟩ := hrel
    rcases hr.out with ⟨hk', rfl, ho⟩ | ⟨rfl, ho⟩
    · have kf := Lex.cut_le (sepAt nlB s) k
      have kl := Lex.cut_len (sepAt nlB s) k
      have HO := Lib.hid ho
      have hsz := ho.below.size
      obtain ⟨a, cap, rfl⟩ := ho.form
      clear ho hr
      by_cases hlt : k < s.size
      · have hne : ((k : Int) == (s.size : Int)) = false := by rw [Bool.eq_false_iff]; simp; omega
        cases hp : nlB s[k].toNat with
        | false =>
          have hp' := nl_eq _ _ hp
          have HN := Lib.hid (Lex.cut_no (show sepAt nlB s k = false by rw [sepAt_in _ _ _ hlt]; exact hp))
          clear hp
          go_wp2
          go_roundw
          case rel => exact ⟨k + 1, by omega, by go_num, Lib.hid (.inl ⟨by omega, by rw [HN.out], by rw [HN.out]; exact HO.out⟩)⟩
          case measure => simp [intOf]; omega
        | true =>
          have hp' := nl_eq _ _ hp
          have HN := Lib.hid (Lex.cut_yes (show sepAt nlB s k = true by rw [sepAt_in _ _ _ hlt]; exact hp))
          clear hp
          go_wp2_with (at_builtin; refine wpList_append_own _ rfl _ _ 27 rfl w.heap.size 32 i0 (.agg #[.int .i64 0, .int .i64 0, .string ⟨#[]⟩]) 3 32 Tryd.underlying27 hi hz0 hz1 hz2 rfl (by decide) _ _ _ rfl (HO.out.row.alloc _) ⟨wr.heap.size, 0, none⟩ 1 1 [.int .i64 (((Lex.cut (sepAt nlB s) k).1.length : Int) + 1), .int .i64 ((Lex.cut (sepAt nlB s) k).2 : Nat), .string (s.extract (Lex.cut (sepAt nlB s) k).2 k)] rfl rfl (cell_three_new _ _ _ _ _) (by simp [Value.oneCell']) (by simp [maxLen]; omega) (by omega) (by simp; omega) ?_; intro v' w1 hown' hgrow _; have HS := Lib.hid (HO.out.step hsz hown' hgrow); obtain ⟨a1, cap1, rfl⟩ := HS.out.form; clear hown' hgrow)
          go_roundw
          case rel => exact ⟨k + 1, by omega, by go_num, Lib.hid (.inl ⟨by omega, by rw [HN.out]; go_num, by rw [HN.out]; simp only [flatL_snoc, List.length_append, List.length_cons, List.length_nil]; simpa using HS.out⟩)⟩
          case measure => simp [intOf]; omega
      · obtain rfl : k = s.size := by omega
        have hne : ((s.size : Int) == (s.size : Int)) = true := by simp
        by_cases hf : (Lex.cut (sepAt nlB s) s.size).2 < s.size
        · have HP := Lib.hid (show pcsOf nlB s = (Lex.cut (sepAt nlB s) s.size).1 ++ [((Lex.cut (sepAt nlB s) s.size).2, s.size)] by simp [pcsOf, Lex.pcs, hf])
          go_wp2_with (at_builtin; refine wpList_append_own _ rfl _ _ 27 rfl w.heap.size 32 i0 (.agg #[.int .i64 0, .int .i64 0, .string ⟨#[]⟩]) 3 32 Tryd.underlying27 hi hz0 hz1 hz2 rfl (by decide) _ _ _ rfl (HO.out.row.alloc _) ⟨wr.heap.size, 0, none⟩ 1 1 [.int .i64 (((Lex.cut (sepAt nlB s) s.size).1.length : Int) + 1), .int .i64 ((Lex.cut (sepAt nlB s) s.size).2 : Nat), .string (s.extract (Lex.cut (sepAt nlB s) s.size).2 s.size)] rfl rfl (cell_three_new _ _ _ _ _) (by simp [Value.oneCell']) (by simp [maxLen]; omega) (by omega) (by simp; omega) ?_; intro v' w1 hown' hgrow _; have HS := Lib.hid (HO.out.step hsz hown' hgrow); obtain ⟨a1, cap1, rfl⟩ := HS.out.form; clear hown' hgrow)
          go_roundw
          case rel => exact ⟨s.size + 1, by omega, by go_num, Lib.hid (.inr ⟨rfl, by rw [HP.out]; simp only [flatL_snoc, List.length_append, List.length_cons, List.length_nil]; simpa using HS.out⟩)⟩
          case measure => simp [intOf]
        · have HP := Lib.hid (show pcsOf nlB s = (Lex.cut (sepAt nlB s) s.size).1 by simp [pcsOf, Lex.pcs, hf])
          have hf' : s.size ≤ (Lex.cut (sepAt nlB s) s.size).2 := by omega
          go_wp2
          go_roundw
          case rel => exact ⟨s.size + 1, by omega, by go_num, Lib.hid (.inr ⟨rfl, by rw [HP.out]; exact HO.out⟩)⟩
          case measure => simp [intOf]
    · have HO := Lib.hid ho
      clear ho hr
      go_wp2
      go_ret2
      exact ⟨_, rfl, HO.out⟩

/-- how far the loop over the bytes has come: v the words that are done, f where the next piece begins -/
def AtW (s : ByteArray) (w : World) (k : Nat) (v f : Value) (wr : World) : Prop :=
  (k ≤ s.size ∧ f = .int .i64 ((Lex.cut (sepAt blB s) k).2 : Nat) ∧ OwnR w.heap.size 40 2 w v (Lex.full (Lex.cut (sepAt blB s) k).1).length (flatW s (Lex.full (Lex.cut (sepAt blB s) k).1)) wr) ∨
  (k = s.size + 1 ∧ OwnR w.heap.size 40 2 w v (Lex.full (pcsOf blB s)).length (flatW s (Lex.full (pcsOf blB s))) wr)

set_option maxRecDepth 100000 in
set_option maxHeartbeats 2000000 in
theorem rwords_any (s : ByteArray) (hs : s.size ≤ 65536) (w : World) :
    Calls Tryd.prog 19 #[.string s] w fun e W' =>
      ∃ v, e = .returned v ∧ OwnR w.heap.size 40 2 w v (Lex.full (pcsOf blB s)).length (flatW s (Lex.full (pcsOf blB s))) W' := by
  obtain ⟨i0, hi, hz0, hz1, hz2⟩ := info_parts infoWordR
  go_enter Tryd.func19, Tryd.ntmps19
  go_wp2
  go_loopw [3, 4, 5] (fun v f i wr => ∃ k : Nat, k ≤ s.size + 1 ∧ i = .int .i64 k ∧ (∃ g : Int, f = .int .i64 g) ∧ Hid (AtW s w k v f wr)) (fun _ _ i _ => s.size + 1 - (intOf i).toNat)
  case atStart => exact ⟨0, Nat.zero_le _, rfl, ⟨_, rfl⟩, Lib.hid (.inl ⟨Nat.zero_le _, rfl, World.ownsRow_nil _ _ _ _, Below.refl _ _⟩)⟩
  case round =>
    obtain ⟨k, hk, rfl, ⟨g, rfl⟩, hr⟩ := hrel
    rcases hr.out with ⟨hk', hf, ho⟩ | ⟨rfl, ho⟩
    · obtain rfl : g = ((Lex.cut (sepAt blB s) k).2 : Nat) := by injection hf
      have kf := Lex.cut_le (sepAt blB s) k
      have kl := Lex.cut_len (sepAt blB s) k
      have kl2 := Lex.full_len (Lex.cut (sepAt blB s) k).1
      have HO := Lib.hid ho
      have hsz := ho.below.size
      obtain ⟨a, cap, rfl⟩ := ho.form
      clear ho hr hf
      by_cases hlt : k < s.size
      · have hne : ((k : Int) == (s.size : Int)) = false := by rw [Bool.eq_false_iff]; simp; omega
        cases hp : blB s[k].toNat with
        | false =>
          have HN := Lib.hid (Lex.cut_no (show sepAt blB s k = false by rw [sepAt_in _ _ _ hlt]; exact hp))
          have HP := Lib.hid hp
          clear hp
          go_wp2_with (go_at_call 43; refine (blank_any _ false HP.out _).mono ?_; rintro e w' ⟨rfl, rfl⟩)
          go_roundw
          case rel => exact ⟨k + 1, by omega, by go_num, ⟨_, rfl⟩, Lib.hid (.inl ⟨by omega, by rw [HN.out], by rw [HN.out]; exact HO.out⟩)⟩
          case measure => simp [intOf]; omega
        | true =>
          have HN := Lib.hid (Lex.cut_yes (show sepAt blB s k = true by rw [sepAt_in _ _ _ hlt]; exact hp))
          have HP := Lib.hid hp
          clear hp
          by_cases hf : (Lex.cut (sepAt blB s) k).2 < k
          · have HF := Lib.hid (Lex.full_snoc_yes (l := (Lex.cut (sepAt blB s) k).1) hf)
            go_wp2_with (first
              | (go_at_call 43; refine (blank_any _ true HP.out _).mono ?_; rintro e w' ⟨rfl, rfl⟩)
              | (at_builtin; refine wpList_append_own _ rfl _ _ 36 rfl w.heap.size 40 i0 (.agg #[.int .i64 0, .string ⟨#[]⟩]) 2 24 Tryd.underlying36 hi hz0 hz1 hz2 rfl (by decide) _ _ _ rfl (HO.out.row.alloc _) ⟨wr.heap.size, 0, none⟩ 1 1 [.int .i64 ((Lex.cut (sepAt blB s) k).2 : Nat), .string (s.extract (Lex.cut (sepAt blB s) k).2 k)] rfl rfl (cell_two_new _ _ _ _) (by simp [Value.oneCell']) (by simp [maxLen]; omega) (by omega) (by simp; omega) ?_; intro v' w1 hown' hgrow _; have HS := Lib.hid (HO.out.step hsz hown' hgrow); obtain ⟨a1, cap1, rfl⟩ := HS.out.form; clear hown' hgrow))
            go_roundw
            case rel => exact ⟨k + 1, by omega, by go_num, ⟨_, rfl⟩, Lib.hid (.inl ⟨by omega, by rw [HN.out]; go_num, by rw [HN.out, HF.out]; simp only [flatW_snoc, List.length_append, List.length_cons, List.length_nil]; simpa using HS.out⟩)⟩
            case measure => simp [intOf]; omega
          · have HF := Lib.hid (Lex.full_snoc_no (l := (Lex.cut (sepAt blB s) k).1) hf)
            have hf' : k ≤ (Lex.cut (sepAt blB s) k).2 := by omega
            go_wp2_with (go_at_call 43; refine (blank_any _ true HP.out _).mono ?_; rintro e w' ⟨rfl, rfl⟩)
            go_roundw
            case rel => exact ⟨k + 1, by omega, by go_num, ⟨_, rfl⟩, Lib.hid (.inl ⟨by omega, by rw [HN.out]; go_num, by rw [HN.out, HF.out]; exact HO.out⟩)⟩
            case measure => simp [intOf]; omega
      · obtain rfl : k = s.size := by omega
        have hne : ((s.size : Int) == (s.size : Int)) = true := by simp
        by_cases hf : (Lex.cut (sepAt blB s) s.size).2 < s.size
        · have HP := Lib.hid (show Lex.full (pcsOf blB s) = Lex.full (Lex.cut (sepAt blB s) s.size).1 ++ [((Lex.cut (sepAt blB s) s.size).2, s.size)] by
            rw [← Lex.full_snoc_yes hf]; simp [pcsOf, Lex.pcs, hf])
          go_wp2_with (at_builtin; refine wpList_append_own _ rfl _ _ 36 rfl w.heap.size 40 i0 (.agg #[.int .i64 0, .string ⟨#[]⟩]) 2 24 Tryd.underlying36 hi hz0 hz1 hz2 rfl (by decide) _ _ _ rfl (HO.out.row.alloc _) ⟨wr.heap.size, 0, none⟩ 1 1 [.int .i64 ((Lex.cut (sepAt blB s) s.size).2 : Nat), .string (s.extract (Lex.cut (sepAt blB s) s.size).2 s.size)] rfl rfl (cell_two_new _ _ _ _) (by simp [Value.oneCell']) (by simp [maxLen]; omega) (by omega) (by simp; omega) ?_; intro v' w1 hown' hgrow _; have HS := Lib.hid (HO.out.step hsz hown' hgrow); obtain ⟨a1, cap1, rfl⟩ := HS.out.form; clear hown' hgrow)
          go_roundw
          case rel => exact ⟨s.size + 1, by omega, by go_num, ⟨_, rfl⟩, Lib.hid (.inr ⟨rfl, by rw [HP.out]; simp only [flatW_snoc, List.length_append, List.length_cons, List.length_nil]; simpa using HS.out⟩)⟩
          case measure => simp [intOf]
        · have HP := Lib.hid (show Lex.full (pcsOf blB s) = Lex.full (Lex.cut (sepAt blB s) s.size).1 by simp [pcsOf, Lex.pcs, hf])
          have hf' : s.size ≤ (Lex.cut (sepAt blB s) s.size).2 := by omega
          go_wp2
          go_roundw
          case rel => exact ⟨s.size + 1, by omega, by go_num, ⟨_, rfl⟩, Lib.hid (.inr ⟨rfl, by rw [HP.out]; exact HO.out⟩)⟩
          case measure => simp [intOf]
    · have HO := Lib.hid ho
      clear ho hr
      go_wp2
      go_ret
      exact ⟨_, rfl, HO.out⟩
end Go.Proofs.YtjlipkklljjdjaaDoor
