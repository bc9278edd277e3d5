/- Contract of Normal of package field. -/
import Derived.Test.YtlmbfhbfejjpdaaGreatDoorFldO
namespace Go.Proofs.YtlmbfhbfejjpdaaGreatDoor
open Go.ChangeShapes Go.WideShapes Go.RowKit Go.Shelf

theorem itSet_lt {K : Fld.Kd} (O : K.Ok) {x : Fld.It} (h : Fld.wrong K x = none) : Fld.setOf K x < 2 ^ 64 := by
  obtain ⟨_, h2, h3, h4⟩ := Fld.wrong_none.1 h
  have := Fld.has_lt O h2
  exact fold7_lt (Bit.rangeS_lt h3 h4 (by omega))
theorem total_lt {K : Fld.Kd} (O : K.Ok) : ∀ (xs : List Fld.It), (∀ x ∈ xs, Fld.wrong K x = none) → Fld.total K xs < 2 ^ 64 := by
  intro xs
  suffices h : ∀ (xs : List Fld.It) (A : Nat), A < 2 ^ 64 → (∀ x ∈ xs, Fld.wrong K x = none) → xs.foldl (fun S x => S ||| Fld.setOf K x) A < 2 ^ 64 from h xs 0 (by decide)
  intro xs
  induction xs with
  | nil => intro A hA _; exact hA
  | cons x r ih => intro A hA h; exact ih _ (Nat.or_lt_two_pow hA (itSet_lt O (h x (by simp)))) (fun y hy => h y (by simp [hy]))
theorem parse_lt {K : Fld.Kd} (O : K.Ok) (l : List UInt8) : (Fld.parse K l).1 < 2 ^ 64 := by
  unfold Fld.parse
  split
  · exact (by decide : (0 : Nat) < 2 ^ 64)
  · split
    · exact (by decide : (0 : Nat) < 2 ^ 64)
    · rename_i h
      exact total_lt O _ (Fld.bad_none.1 h)
/-- what Normal returns for a valid kind -/
def normR (K : Fld.Kd) (l : List UInt8) : List UInt8 × Nat × Nat :=
  if (Fld.parse K l).2.2.2 = 0 then ((printR K (Fld.parse K l).1 (Fld.parse K l).2.1).1, 0, (printR K (Fld.parse K l).1 (Fld.parse K l).2.1).2) else ([], (Fld.parse K l).2.2.1, (Fld.parse K l).2.2.2)
theorem ret_sii {a a' : ByteArray} {b b' c c' : Int} (h1 : a = a') (h2 : b = b') (h3 : c = c') : Ending.returned (.tuple #[.string a, .int .i64 b, .int .i64 c]) = .returned (.tuple #[.string a', .int .i64 b', .int .i64 c']) := by rw [h1, h2, h3]
theorem parse_err {K : Fld.Kd} (l : List UInt8) : (Fld.parse K l).2.2.2 ≤ 10 := by
  unfold Fld.parse
  split
  · exact Nat.le_refl _
  · split
    · exact (by decide : (2 : Nat) ≤ 10)
    · exact (by decide : (0 : Nat) ≤ 10)
set_option maxHeartbeats 1000000 in
theorem normal_yes (K : Fld.Kd) (v : Value) (xs : List ByteArray) (s : ByteArray) (w : World) (L : Lay w) (hv : IsStrs w v xs) (hk : KdIs K.lo K.hi xs K.week K) (hs : s.size ≤ 9223372036854775000) :
    Calls Tryz.prog 11 #[.agg #[.int .i64 K.lo, .int .i64 K.hi, v, .bool K.week], .string s] w fun e w' =>
      e = .returned (.tuple #[.string ⟨(normR K s.data.toList).1.toArray⟩, .int .i64 ((normR K s.data.toList).2.1 : Nat), .int .i64 ((normR K s.data.toList).2.2 : Nat)]) ∧ Below w.heap.size w w' := by
  have B0 := spec_box w K.lo K.hi v K.week
  have V0 := hv.below B0
  have C := Lib.hid (parse_yes K v xs s _ V0 hk hs)
  have hlt := parse_lt hk.ok s.data.toList
  have PR := Lib.hid (fun w L hv => print_yes K v xs (Fld.parse K s.data.toList).1 (Fld.parse K s.data.toList).2.1 w L hv hk hlt)
  have VV := Lib.hid V0
  have LL := Lib.hid (L.below B0)
  have NR := Lib.hid (show normR K s.data.toList = (if (Fld.parse K s.data.toList).2.2.2 = 0 then ((printR K (Fld.parse K s.data.toList).1 (Fld.parse K s.data.toList).2.1).1, 0, (printR K (Fld.parse K s.data.toList).1 (Fld.parse K s.data.toList).2.1).2) else ([], (Fld.parse K s.data.toList).2.2.1, (Fld.parse K s.data.toList).2.2.2)) from rfl)
  have he := parse_err (K := K) s.data.toList
  obtain ⟨A, cap, rfl, _, _⟩ := hv
  generalize Fld.parse K s.data.toList = P at *
  generalize normR K s.data.toList = Q at *
  obtain ⟨S, star, at_, er⟩ := P
  simp only at C PR NR he
  clear V0 hk hlt L B0
  by_cases h : er = 0
  · subst h
    have hQ := NR.out
    rw [if_pos rfl] at hQ
    subst hQ
    simp only at PR ⊢
    generalize printR K S star = p at *
    obtain ⟨t, pe⟩ := p
    simp only at PR ⊢
    clear NR he
    go_enter Tryz.func11, Tryz.ntmps11
    go_wp2_with fail
    refine C.out.mono ?_
    rintro e w1 ⟨rfl, hb⟩
    obtain ⟨hc, hf⟩ := kept hb
    have P2 := Lib.hid (PR.out w1 (LL.out.below hb) (VV.out.below hb))
    have HB := Lib.hid hb
    clear hb
    go_wp2_with fail
    refine P2.out.mono ?_
    rintro e w2 ⟨rfl, hb2⟩
    have HB2 := Lib.hid (HB.out.trans (hb2.mono HB.out.size))
    clear hb2 P2 hc hf
    go_wp2_with fail
    go_ret3
    exact ⟨rfl, box_below (by simpa using HB2.out)⟩
  · have hQ := NR.out
    rw [if_neg h] at hQ
    subst hQ
    have te : ((er : Int) != 0) = true := by rw [bne_iff_ne]; omega
    have te' : (er != 0) = true := by rw [bne_iff_ne]; omega
    clear NR PR h
    go_enter Tryz.func11, Tryz.ntmps11
    go_wp2_with fail
    refine C.out.mono ?_
    rintro e w1 ⟨rfl, hb⟩
    have HB := Lib.hid hb
    clear hb
    go_wp2_with fail
    go_ret3
    exact ⟨rfl, box_below (by simpa using HB.out)⟩
theorem normal_no (lo hi : Int) (v : Value) (xs : List ByteArray) (wk : Bool) (s : ByteArray) (w : World) (hv : IsStrs w v xs) (h : ¬ Valid lo hi xs wk) (hs : ∀ x ∈ xs, x.size ≤ 9223372036854775807) :
    Calls Tryz.prog 11 #[.agg #[.int .i64 lo, .int .i64 hi, v, .bool wk], .string s] w fun e w' => e = .returned (.tuple #[.string ⟨#[]⟩, .int .i64 0, .int .i64 2]) ∧ Below w.heap.size w w' := by
  have V0 := hv.below (spec_box w lo hi v wk)
  have C := Lib.hid (parse_no lo hi v xs wk s _ V0 h hs)
  obtain ⟨A, cap, rfl, _, _⟩ := hv
  clear V0 h
  go_enter Tryz.func11, Tryz.ntmps11
  go_wp2_with fail
  refine C.out.mono ?_
  rintro e w1 ⟨rfl, hb⟩
  have HB := Lib.hid hb
  clear hb
  go_wp2_with fail
  go_ret3
  exact ⟨rfl, box_below (by simpa using HB.out)⟩
end Go.Proofs.YtlmbfhbfejjpdaaGreatDoor
