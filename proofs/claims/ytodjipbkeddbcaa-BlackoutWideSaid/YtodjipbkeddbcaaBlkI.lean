/- Contracts of the document's two, Union, Meet, Without, Normal, In, Free, Length. -/
import Derived.Test.YtodjipbkeddbcaaBlkH
import Derived.Test.YtodjipbkeddbcaaBlkG
namespace Go.Proofs.Ytodjipbkeddbcaa
open Go.ChangeShapes Go.RowKit

/-- the result, whichever way it is named -/
theorem rres_any (va vb : Value) (a b l : List (Int × Int)) (k : Int) (hk : k = 1 ∨ k = 2 ∨ k = 3) (la : a.length ≤ 100) (lb : b.length ≤ 100) (oa : Bk.OkS a) (ob : Bk.OkS b) (hl : Bk.IsRes a b k l) (w : World) (ha : RowS w va a) (hb : RowS w vb b) :
    Calls Try.prog 39 #[va, vb, .int .i64 k] w fun e w' => ∃ u, e = .returned u ∧ OwnS w u l w' :=
  (rresult_any va vb a b k hk la lb oa ob w ha hb).mono fun _ _ ⟨u, m, h1, h2, _, h4⟩ => ⟨u, h1, by rw [hl.uniq h4]; exact h2⟩
theorem rtwo_any (va vb : Value) (a b l : List (Int × Int)) (k r : Int) (hk : k = 1 ∨ k = 2 ∨ k = 3) (hr : Bk.ResR a b k l r) (w : World) (ha : RowS w va a) (hb : RowS w vb b) :
    Calls Try.prog 48 #[va, vb, .int .i64 k] w fun e w' => ∃ u, e = .returned (.tuple #[u, .int .i64 r]) ∧ OwnS w u l w' := by
  have RA := Lib.hid ha
  have RB := Lib.hid hb
  obtain ⟨ra, hra⟩ : ∃ r, Bk.errL a = r := ⟨_, rfl⟩
  obtain ⟨rb, hrb⟩ : ∃ r, Bk.errL b = r := ⟨_, rfl⟩
  have KA := Lib.hid (rchk_any va a ra hra w ha)
  have KB := Lib.hid (fun W h => rchk_any vb b rb hrb W h)
  have E : r = if ra = 0 then rb else ra := by rw [hr.1]; unfold Bk.err2; rw [hra, hrb]
  have HR := Lib.hid hr
  have EA := Lib.hid hra
  have EB := Lib.hid hrb
  have HK := Lib.hid hk
  obtain ⟨A1, cap1, rfl⟩ := ha.len
  obtain ⟨A2, cap2, rfl⟩ := hb.len
  clear hra hrb ha hb hr hk
  by_cases za : ra = 0
  · rw [if_pos za] at E
    subst za
    subst E
    by_cases zb : r = 0
    · subst zb
      have OA := Lib.hid (Bk.errL_zero.1 EA.out)
      have OB := Lib.hid (Bk.errL_zero.1 EB.out)
      have HH := Lib.hid (fun va vb W h1 h2 => rres_any va vb a b l k HK.out (by have := OA.out.1; omega) (by have := OB.out.1; omega) OA.out.2 OB.out.2 HR.out.res W h1 h2)
      go_enter Try.func48, Try.ntmps48
      go_wp2_with fail
      refine KA.out.mono ?_
      rintro e V ⟨rfl, h1⟩
      have B1 := Lib.hid h1
      clear h1
      go_wp2_with fail
      refine (KB.out _ (RB.out.below B1.out)).mono ?_
      rintro e V2 ⟨rfl, h2⟩
      have B2 := Lib.hid (below_next B1.out h2)
      clear h2
      go_wp2_with fail
      refine (HH.out _ _ _ (RA.out.below B2.out) (RB.out.below B2.out)).mono ?_
      rintro e V3 ⟨u, rfl, h3⟩
      have O3 := Lib.hid (h3.base B2.out)
      clear h3
      go_wp2_with fail
      go_ret2
      exact ⟨_, rfl, O3.out⟩
    · have t1 : (r != 0) = true := by rw [bne_iff_ne]; exact zb
      have LN := Lib.hid (HR.out.no zb)
      clear zb
      go_enter Try.func48, Try.ntmps48
      go_wp2_with fail
      refine KA.out.mono ?_
      rintro e V ⟨rfl, h1⟩
      have B1 := Lib.hid h1
      clear h1
      go_wp2_with fail
      refine (KB.out _ (RB.out.below B1.out)).mono ?_
      rintro e V2 ⟨rfl, h2⟩
      have B2 := Lib.hid (below_next B1.out h2)
      clear h2
      go_wp2_with fail
      go_ret2
      exact ⟨_, rfl, by rw [LN.out]; exact .nil B2.out⟩
  · rw [if_neg za] at E
    subst E
    have t1 : (r != 0) = true := by rw [bne_iff_ne]; exact za
    have t2 : (r == 0) = false := by rw [beq_eq_false_iff_ne]; exact za
    have LN := Lib.hid (HR.out.no za)
    clear za
    go_enter Try.func48, Try.ntmps48
    go_wp2_with fail
    refine KA.out.mono ?_
    rintro e V ⟨rfl, h1⟩
    have B1 := Lib.hid h1
    clear h1
    go_wp2_with fail
    go_ret2
    exact ⟨_, rfl, by rw [LN.out]; exact .nil B1.out⟩
theorem runion_any (va vb : Value) (a b l : List (Int × Int)) (r : Int) (hr : Bk.ResR a b 1 l r) (w : World) (ha : RowS w va a) (hb : RowS w vb b) :
    Calls Try.prog 24 #[va, vb] w fun e w' => ∃ u, e = .returned (.tuple #[u, .int .i64 r]) ∧ OwnS w u l w' := by
  have C := Lib.hid (rtwo_any va vb a b l 1 r (by omega) hr w ha hb)
  obtain ⟨A1, cap1, rfl⟩ := ha.len
  obtain ⟨A2, cap2, rfl⟩ := hb.len
  clear ha hb hr
  go_enter Try.func24, Try.ntmps24
  go_wp2_with fail
  refine C.out.mono ?_
  rintro e V ⟨u, rfl, hu⟩
  have HU := Lib.hid hu
  clear hu
  go_wp2_with fail
  go_ret2
  exact ⟨_, rfl, HU.out⟩
theorem rmeet_any (va vb : Value) (a b l : List (Int × Int)) (r : Int) (hr : Bk.ResR a b 2 l r) (w : World) (ha : RowS w va a) (hb : RowS w vb b) :
    Calls Try.prog 26 #[va, vb] w fun e w' => ∃ u, e = .returned (.tuple #[u, .int .i64 r]) ∧ OwnS w u l w' := by
  have C := Lib.hid (rtwo_any va vb a b l 2 r (by omega) hr w ha hb)
  obtain ⟨A1, cap1, rfl⟩ := ha.len
  obtain ⟨A2, cap2, rfl⟩ := hb.len
  clear ha hb hr
  go_enter Try.func26, Try.ntmps26
  go_wp2_with fail
  refine C.out.mono ?_
  rintro e V ⟨u, rfl, hu⟩
  have HU := Lib.hid hu
  clear hu
  go_wp2_with fail
  go_ret2
  exact ⟨_, rfl, HU.out⟩
theorem rwithout_any (va vb : Value) (a b l : List (Int × Int)) (r : Int) (hr : Bk.ResR a b 3 l r) (w : World) (ha : RowS w va a) (hb : RowS w vb b) :
    Calls Try.prog 28 #[va, vb] w fun e w' => ∃ u, e = .returned (.tuple #[u, .int .i64 r]) ∧ OwnS w u l w' := by
  have C := Lib.hid (rtwo_any va vb a b l 3 r (by omega) hr w ha hb)
  obtain ⟨A1, cap1, rfl⟩ := ha.len
  obtain ⟨A2, cap2, rfl⟩ := hb.len
  clear ha hb hr
  go_enter Try.func28, Try.ntmps28
  go_wp2_with fail
  refine C.out.mono ?_
  rintro e V ⟨u, rfl, hu⟩
  have HU := Lib.hid hu
  clear hu
  go_wp2_with fail
  go_ret2
  exact ⟨_, rfl, HU.out⟩
theorem rnormal_any (va : Value) (a l : List (Int × Int)) (r : Int) (hr : Bk.ResR a [] 1 l r) (w : World) (ha : RowS w va a) :
    Calls Try.prog 16 #[va] w fun e w' => ∃ u, e = .returned (.tuple #[u, .int .i64 r]) ∧ OwnS w u l w' := by
  have RA := Lib.hid ha
  have er : Bk.errL a = r := by rw [hr.1, Bk.err2_nil]
  have KA := Lib.hid (rchk_any va a r er w ha)
  have HR := Lib.hid hr
  obtain ⟨A1, cap1, rfl⟩ := ha.len
  clear ha hr
  by_cases z : r = 0
  · subst z
    have OA := Lib.hid (Bk.errL_zero.1 er)
    have HH := Lib.hid (fun va vb W h1 h2 => rres_any va vb a [] l 1 (by omega) (by have := OA.out.1; omega) (by simp) OA.out.2 Bk.okS_nil HR.out.res W h1 h2)
    clear er
    go_enter Try.func16, Try.ntmps16
    go_wp2_with fail
    refine KA.out.mono ?_
    rintro e V ⟨rfl, h1⟩
    have B1 := Lib.hid h1
    clear h1
    go_wp2_with fail
    refine (HH.out _ _ _ (RA.out.below B1.out) (RowS.nil _)).mono ?_
    rintro e V3 ⟨u, rfl, h3⟩
    have O3 := Lib.hid (h3.base B1.out)
    clear h3
    go_wp2_with fail
    go_ret2
    exact ⟨_, rfl, O3.out⟩
  · have t1 : (r != 0) = true := by rw [bne_iff_ne]; exact z
    have LN := Lib.hid (HR.out.no z)
    clear z er
    go_enter Try.func16, Try.ntmps16
    go_wp2_with fail
    refine KA.out.mono ?_
    rintro e V ⟨rfl, h1⟩
    have B1 := Lib.hid h1
    clear h1
    go_wp2_with fail
    go_ret2
    exact ⟨_, rfl, by rw [LN.out]; exact .nil B1.out⟩
theorem rin_any (v : Value) (l : List (Int × Int)) (t : Int) (p : Bool) (r : Int) (hr : Bk.errI l t = r) (hp : decide (r = 0 ∧ Bk.has l t) = p) (w : World) (h : RowS w v l) :
    Calls Try.prog 20 #[v, .int .i64 t] w fun e w' => e = .returned (.tuple #[.bool p, .int .i64 r]) ∧ Below w.heap.size w w' := by
  have HR := Lib.hid h
  obtain ⟨rl, hl⟩ : ∃ r, Bk.errL l = r := ⟨_, rfl⟩
  have KA := Lib.hid (rchk_any v l rl hl w h)
  have HH := Lib.hid (fun q hq W hh => rhas_any v l t q hq W hh)
  have E : r = if rl = 0 then (if Bk.okT t then 0 else 14) else rl := by rw [← hr]; unfold Bk.errI; rw [hl]
  have HP := Lib.hid hp
  obtain ⟨A1, cap1, rfl⟩ := h.len
  clear h hr hp hl
  by_cases z : rl = 0
  · rw [if_pos z] at E
    subst z
    by_cases ok : Bk.okT t
    · rw [if_pos ok] at E
      subst E
      have VT := Lib.hid (rvalid_any t true (decide_eq_true ok))
      have PP : Hid (decide (Bk.has l t) = p) := Lib.hid (by rw [← HP.out, decide_eq_decide]; simp)
      clear ok
      go_enter Try.func20, Try.ntmps20
      go_wp2_with fail
      refine KA.out.mono ?_
      rintro e V ⟨rfl, h1⟩
      have B1 := Lib.hid h1
      clear h1
      go_wp2_with fail
      refine (VT.out _).mono ?_
      rintro e V2 ⟨rfl, rfl⟩
      go_wp2_with fail
      refine (HH.out p PP.out _ (HR.out.below B1.out)).mono ?_
      rintro e V2 ⟨rfl, rfl⟩
      go_wp2_with fail
      go_ret2
      exact ⟨rfl, B1.out⟩
    · rw [if_neg ok] at E
      subst E
      have VT := Lib.hid (rvalid_any t false (decide_eq_false ok))
      obtain rfl : false = p := by rw [← HP.out]; symm; rw [decide_eq_false_iff_not]; exact fun q => by have := q.1; omega
      clear ok
      go_enter Try.func20, Try.ntmps20
      go_wp2_with fail
      refine KA.out.mono ?_
      rintro e V ⟨rfl, h1⟩
      have B1 := Lib.hid h1
      clear h1
      go_wp2_with fail
      refine (VT.out _).mono ?_
      rintro e V2 ⟨rfl, rfl⟩
      go_wp2_with fail
      go_ret2
      exact ⟨rfl, B1.out⟩
  · rw [if_neg z] at E
    subst E
    have t1 : (r != 0) = true := by rw [bne_iff_ne]; exact z
    obtain rfl : false = p := by rw [← HP.out]; symm; rw [decide_eq_false_iff_not]; exact fun q => z q.1
    clear z
    go_enter Try.func20, Try.ntmps20
    go_wp2_with fail
    refine KA.out.mono ?_
    rintro e V ⟨rfl, h1⟩
    have B1 := Lib.hid h1
    clear h1
    go_wp2_with fail
    go_ret2
    exact ⟨rfl, B1.out⟩

set_option maxRecDepth 100000 in
set_option maxHeartbeats 4000000 in
theorem rfree_any (v : Value) (l : List (Int × Int)) (t x : Int) (p : Bool) (r : Int) (hr : Bk.FreeR l t x p r) (w : World) (h : RowS w v l) :
    Calls Try.prog 22 #[v, .int .i64 t] w fun e w' => e = .returned (.tuple #[.int .i64 x, .bool p, .int .i64 r]) ∧ Below w.heap.size w w' := by
  have HR := Lib.hid h
  obtain ⟨rl, hl⟩ : ∃ r, Bk.errL l = r := ⟨_, rfl⟩
  have KA := Lib.hid (rchk_any v l rl hl w h)
  have E : r = if rl = 0 then (if Bk.okT t then 0 else 14) else rl := by rw [hr.1]; unfold Bk.errI; rw [hl]
  have HF := Lib.hid hr
  have EL := Lib.hid hl
  obtain ⟨A1, cap1, rfl⟩ := h.len
  clear h hr hl
  by_cases z : rl = 0
  · rw [if_pos z] at E
    subst z
    by_cases ok : Bk.okT t
    · rw [if_pos ok] at E
      subst E
      have VT := Lib.hid (rvalid_any t true (decide_eq_true ok))
      have OA := Lib.hid (Bk.errL_zero.1 EL.out)
      have FF : Hid (Bk.IsFree l t x p) := Lib.hid (by
        rcases HF.out.2 with q | q
        · exact q.2
        · exact absurd rfl q.1)
      have IR := Bk.want_res 1 OA.out.2 Bk.okS_nil
      obtain ⟨n, hn⟩ : ∃ n, Bk.res (Bk.want l [] 1) (Bk.bords (l ++ []) []) = n := ⟨_, rfl⟩
      rw [hn] at IR
      have NL : n.length ≤ 256 := (show Bk.ResR l [] 1 n 0 from ⟨by rw [Bk.err2_nil, EL.out], .inl ⟨rfl, IR⟩⟩).len
      have OS := Lib.hid (IR.ok OA.out.2 Bk.okS_nil)
      have HH := Lib.hid (fun va vb W h1 h2 => rres_any va vb l [] n 1 (by omega) (by have := OA.out.1; omega) (by simp) OA.out.2 Bk.okS_nil IR W h1 h2)
      have FR := Bk.fre_free (t := t) IR.norm
      have SM := fun u => Bk.res_one IR u
      have ANS : Hid ((Bk.fre n t ≤ 253402300799 → x = Bk.fre n t ∧ p = true) ∧ (253402300799 < Bk.fre n t → x = 0 ∧ p = false)) := Lib.hid ⟨fun q => FF.out.uniq ((FR.1 q).same SM), fun q => FF.out.uniq ((FR.2 q).same SM)⟩
      have TB : 0 ≤ t ∧ t ≤ 253402300800 := by unfold Bk.okT at ok; omega
      clear ok hn FR SM IR FF
      go_enter Try.func22, Try.ntmps22
      go_wp2_with fail
      refine KA.out.mono ?_
      rintro e V ⟨rfl, h1⟩
      have B1 := Lib.hid h1
      clear h1
      go_wp2_with fail
      refine (VT.out _).mono ?_
      rintro e V2 ⟨rfl, rfl⟩
      go_wp2_with fail
      refine (HH.out _ _ _ (HR.out.below B1.out) (RowS.nil _)).mono ?_
      rintro e W1 ⟨u, rfl, hu⟩
      have RN := Lib.hid (hu.rowS (by omega))
      have B2 := Lib.hid (below_next B1.out hu.below)
      obtain ⟨A2, cap2, rfl⟩ := hu.len
      clear hu
      go_wp2_with fail
      go_loop [1, 9] (fun tv iv => ∃ (i : Nat) (s : Int), i ≤ n.length ∧ iv = .int .i64 i ∧ tv = .int .i64 s ∧ (0 ≤ s ∧ s ≤ 253402300800) ∧ Hid (Bk.fre (n.drop i) s = Bk.fre n t)) (fun _ iv => n.length - (intOf iv).toNat)
      case atStart => exact ⟨0, t, by omega, rfl, rfl, TB, Lib.hid rfl⟩
      case round =>
        obtain ⟨i, s, hi, rfl, rfl, hs, hfr⟩ := hrel
        by_cases lt : i < n.length
        · have e0 : decide ((i : Int) < (n.length : Int)) = true := by rw [decide_eq_true_iff]; omega
          have wi : IntKind.i64.wrap ((i : Int) + 1) = (i : Int) + 1 := by rw [IntKind.wrap_i64]; omega
          obtain ⟨b', o, e1, c1, c2⟩ := RN.out.at lt
          subst e1
          have OX := okS_at OS.out lt
          have DR : n.drop i = n.getD i (0, 0) :: n.drop (i + 1) := by rw [List.drop_eq_getElem_cons lt]; simp [lt]
          obtain ⟨y, hy⟩ : ∃ y, n.getD i (0, 0) = y := ⟨_, rfl⟩
          rw [hy] at c1 c2 OX DR
          obtain ⟨y1, y2⟩ := y
          simp only at c1 c2 OX
          have wy : IntKind.i64.wrap (y2 + 1) = y2 + 1 := by rw [IntKind.wrap_i64]; omega
          have FS : Hid (Bk.fre (n.drop (i + 1)) (if y1 ≤ s ∧ s ≤ y2 then y2 + 1 else s) = Bk.fre n t) := Lib.hid (by rw [← hfr.out, DR]; rfl)
          clear hy DR hfr
          by_cases a1 : y1 ≤ s
          · have f1 : decide (y1 ≤ s) = true := decide_eq_true a1
            by_cases a2 : s ≤ y2
            · have f2 : decide (s ≤ y2) = true := decide_eq_true a2
              have F2 : Hid (Bk.fre (n.drop (i + 1)) (y2 + 1) = Bk.fre n t) := Lib.hid (by have := FS.out; rwa [if_pos ⟨a1, a2⟩] at this)
              clear FS a1 a2
              go_wp2_with fail
              go_round
              case rel => exact ⟨i + 1, y2 + 1, by omega, by go_num, rfl, by omega, F2⟩
              case measure => simp [intOf]; omega
            · have f2 : decide (s ≤ y2) = false := decide_eq_false a2
              have F2 : Hid (Bk.fre (n.drop (i + 1)) s = Bk.fre n t) := Lib.hid (by have := FS.out; rwa [if_neg (fun q => a2 q.2)] at this)
              clear FS a1 a2
              go_wp2_with fail
              go_round
              case rel => exact ⟨i + 1, s, by omega, by go_num, rfl, by omega, F2⟩
              case measure => simp [intOf]; omega
          · have f1 : decide (y1 ≤ s) = false := decide_eq_false a1
            have F2 : Hid (Bk.fre (n.drop (i + 1)) s = Bk.fre n t) := Lib.hid (by have := FS.out; rwa [if_neg (fun q => a1 q.1)] at this)
            clear FS a1
            go_wp2_with fail
            go_round
            case rel => exact ⟨i + 1, s, by omega, by go_num, rfl, by omega, F2⟩
            case measure => simp [intOf]; omega
        · have e0 : decide ((i : Int) < (n.length : Int)) = false := by rw [decide_eq_false_iff_not]; omega
          obtain rfl : i = n.length := by omega
          have FE : s = Bk.fre n t := by rw [← hfr.out, List.drop_eq_nil_of_le (by omega)]; rfl
          rw [← FE] at ANS
          clear FE hfr
          by_cases le : s ≤ 253402300799
          · obtain ⟨rfl, rfl⟩ := ANS.out.1 le
            have VS := Lib.hid (rvalid_any x true (decide_eq_true (by unfold Bk.okT; omega)))
            clear le lt hi
            go_wp2_with fail
            refine (VS.out _).mono ?_
            rintro e V3 ⟨rfl, rfl⟩
            go_wp2_with fail
            go_ret3
            exact ⟨rfl, B2.out⟩
          · obtain ⟨rfl, rfl⟩ := ANS.out.2 (by omega)
            have VS := Lib.hid (rvalid_any s false (decide_eq_false (by unfold Bk.okT; omega)))
            clear le lt hi
            go_wp2_with fail
            refine (VS.out _).mono ?_
            rintro e V3 ⟨rfl, rfl⟩
            go_wp2_with fail
            go_ret3
            exact ⟨rfl, B2.out⟩
    · rw [if_neg ok] at E
      subst E
      have VT := Lib.hid (rvalid_any t false (decide_eq_false ok))
      obtain ⟨rfl, rfl⟩ : x = 0 ∧ p = false := by
        rcases HF.out.2 with q | q
        · exact absurd q.1 (by omega)
        · exact q.2
      clear ok
      go_enter Try.func22, Try.ntmps22
      go_wp2_with fail
      refine KA.out.mono ?_
      rintro e V ⟨rfl, h1⟩
      have B1 := Lib.hid h1
      clear h1
      go_wp2_with fail
      refine (VT.out _).mono ?_
      rintro e V2 ⟨rfl, rfl⟩
      go_wp2_with fail
      go_ret3
      exact ⟨rfl, B1.out⟩
  · rw [if_neg z] at E
    subst E
    have t1 : (r != 0) = true := by rw [bne_iff_ne]; exact z
    obtain ⟨rfl, rfl⟩ : x = 0 ∧ p = false := by
      rcases HF.out.2 with q | q
      · exact absurd q.1 z
      · exact q.2
    clear z
    go_enter Try.func22, Try.ntmps22
    go_wp2_with fail
    refine KA.out.mono ?_
    rintro e V ⟨rfl, h1⟩
    have B1 := Lib.hid h1
    clear h1
    go_wp2_with fail
    go_ret3
    exact ⟨rfl, B1.out⟩
set_option maxRecDepth 100000 in
set_option maxHeartbeats 4000000 in
theorem rlength_any (v : Value) (l : List (Int × Int)) (a b n r : Int) (hr : Bk.LenR l a b n r) (w : World) (h : RowS w v l) :
    Calls Try.prog 30 #[v, .int .i64 a, .int .i64 b] w fun e w' => e = .returned (.tuple #[.int .i64 n, .int .i64 r]) ∧ Below w.heap.size w w' := by
  have HR := Lib.hid h
  obtain ⟨rl, hl⟩ : ∃ r, Bk.errL l = r := ⟨_, rfl⟩
  have KA := Lib.hid (rchk_any v l rl hl w h)
  have E : r = if rl = 0 then (if Bk.okT a ∧ Bk.okT b then (if b < a then 8 else 0) else 14) else rl := by rw [hr.1]; unfold Bk.errR; rw [hl]
  have HF := Lib.hid hr
  have EL := Lib.hid hl
  obtain ⟨A1, cap1, rfl⟩ := h.len
  clear h hr hl
  by_cases z : rl = 0
  · rw [if_pos z] at E
    subst z
    by_cases oka : Bk.okT a
    · have VA := Lib.hid (rvalid_any a true (decide_eq_true oka))
      by_cases okb : Bk.okT b
      · have VB := Lib.hid (rvalid_any b true (decide_eq_true okb))
        rw [if_pos ⟨oka, okb⟩] at E
        by_cases lt0 : b < a
        · rw [if_pos lt0] at E
          subst E
          have f0 : decide (b < a) = true := decide_eq_true lt0
          obtain rfl : n = 0 := by
            rcases HF.out.2 with q | q
            · exact absurd q.1 (by omega)
            · exact q.2
          clear lt0 oka okb
          go_enter Try.func30, Try.ntmps30
          go_wp2_with fail
          refine KA.out.mono ?_
          rintro e V ⟨rfl, h1⟩
          have B1 := Lib.hid h1
          clear h1
          go_wp2_with fail
          refine (VA.out _).mono ?_
          rintro e V2 ⟨rfl, rfl⟩
          go_wp2_with fail
          refine (VB.out _).mono ?_
          rintro e V2 ⟨rfl, rfl⟩
          go_wp2_with fail
          go_ret2
          exact ⟨rfl, B1.out⟩
        · rw [if_neg lt0] at E
          subst E
          have f0 : decide (b < a) = false := decide_eq_false lt0
          obtain ⟨m, r', hm⟩ := Bk.resR_ex l [(a, b)] 2
          have er : r' = 0 := by rw [hm.1, Bk.errR_is, ← HF.out.1]
          subst er
          have SM := Lib.hid (HF.out.sum hm)
          have OS := Lib.hid hm.okS
          have ML := hm.len
          have OA := Lib.hid (Bk.errL_zero.1 EL.out)
          have OO := Lib.hid (Bk.okS_one oka okb (by omega))
          have HH := Lib.hid (fun W va vb h1 h2 => rres_any va vb l [(a, b)] m 2 (by omega) (by have := OA.out.1; omega) (by simp) OA.out.2 OO.out hm.res W h1 h2)
          clear lt0 oka okb hm
          go_enter Try.func30, Try.ntmps30
          go_wp2_with fail
          refine KA.out.mono ?_
          rintro e V ⟨rfl, h1⟩
          have B1 := Lib.hid h1
          clear h1
          go_wp2_with fail
          refine (VA.out _).mono ?_
          rintro e V2 ⟨rfl, rfl⟩
          go_wp2_with fail
          refine (VB.out _).mono ?_
          rintro e V2 ⟨rfl, rfl⟩
          go_wp2_with fail
          refine (HH.out _ _ _ ((HR.out.below B1.out).alloc _) (rowS_one _ a b 1)).mono ?_
          rintro e W1 ⟨u, rfl, hu⟩
          have RM := Lib.hid (hu.rowS (by omega))
          have B2 := Lib.hid (below_next (below_new B1.out (.cells #[.int .i64 a, .int .i64 b] 27) (Nat.le_refl _)) hu.below)
          obtain ⟨A2, cap2, rfl⟩ := hu.len
          clear hu
          go_wp2_with fail
          go_loopw [10, 11] (fun nv iv wr => ∃ i : Nat, i ≤ m.length ∧ iv = .int .i64 i ∧ nv = .int .i64 (Bk.sumL (m.take i)) ∧ ∃ q, wr = W1.drewN q) (fun _ iv _ => m.length - (intOf iv).toNat)
          case atStart => exact ⟨0, by omega, rfl, rfl, 0, rfl⟩
          case round =>
            obtain ⟨i, hi, rfl, rfl, q, rfl⟩ := hrel
            by_cases lt : i < m.length
            · have e0 : decide ((i : Int) < (m.length : Int)) = true := by rw [decide_eq_true_iff]; omega
              have hlt : i < m.length := lt
              have wi : IntKind.i64.wrap ((i : Int) + 1) = (i : Int) + 1 := by rw [IntKind.wrap_i64]; omega
              obtain ⟨b', o, e1, c1, c2⟩ := RM.out.at lt
              subst e1
              have OX := okS_at OS.out lt
              have ST := Bk.sumL_take lt
              have S0 := Bk.sumL_small OS.out (by omega) i
              have S1 := Bk.sumL_small OS.out (by omega) (i + 1)
              obtain ⟨x, hx⟩ : ∃ x, m.getD i (0, 0) = x := ⟨_, rfl⟩
              rw [hx] at c1 c2 OX ST
              obtain ⟨x1, x2⟩ := x
              simp only at c1 c2 OX ST
              obtain ⟨s, hs⟩ : ∃ s, Bk.sumL (m.take i) = s := ⟨_, rfl⟩
              obtain ⟨s', hs'⟩ : ∃ s, Bk.sumL (m.take (i + 1)) = s := ⟨_, rfl⟩
              rw [hs] at ST S0 ⊢
              rw [hs'] at ST S1
              have HS := Lib.hid hs'
              have w1' : IntKind.i64.wrap (s + x2) = s + x2 := by rw [IntKind.wrap_i64]; omega
              have w2' : IntKind.i64.wrap (s + x2 - x1) = s + x2 - x1 := by rw [IntKind.wrap_i64]; omega
              have w3' : IntKind.i64.wrap (s + x2 - x1 + 1) = s' := by rw [IntKind.wrap_i64]; omega
              clear hx hs hs' ST S0 S1 OX
              go_wp2_with fail
              go_quiet (fail)
              go_wp2_with fail
              go_roundw
              case rel => exact ⟨i + 1, by omega, by go_num, by rw [HS.out], _, rfl⟩
              case measure => simp [intOf]; omega
            · have e0 : decide ((i : Int) < (m.length : Int)) = false := by rw [decide_eq_false_iff_not]; omega
              obtain rfl : i = m.length := by omega
              rw [List.take_length, SM.out]
              clear lt hi
              go_wp2_with fail
              go_ret2
              exact ⟨rfl, below_drewN B2.out _⟩
      · rw [if_neg (fun q => okb q.2)] at E
        subst E
        have VB := Lib.hid (rvalid_any b false (decide_eq_false okb))
        obtain rfl : n = 0 := by
          rcases HF.out.2 with q | q
          · exact absurd q.1 (by omega)
          · exact q.2
        clear oka okb
        go_enter Try.func30, Try.ntmps30
        go_wp2_with fail
        refine KA.out.mono ?_
        rintro e V ⟨rfl, h1⟩
        have B1 := Lib.hid h1
        clear h1
        go_wp2_with fail
        refine (VA.out _).mono ?_
        rintro e V2 ⟨rfl, rfl⟩
        go_wp2_with fail
        refine (VB.out _).mono ?_
        rintro e V2 ⟨rfl, rfl⟩
        go_wp2_with fail
        go_ret2
        exact ⟨rfl, B1.out⟩
    · rw [if_neg (fun q => oka q.1)] at E
      subst E
      have VA := Lib.hid (rvalid_any a false (decide_eq_false oka))
      obtain rfl : n = 0 := by
        rcases HF.out.2 with q | q
        · exact absurd q.1 (by omega)
        · exact q.2
      clear oka
      go_enter Try.func30, Try.ntmps30
      go_wp2_with fail
      refine KA.out.mono ?_
      rintro e V ⟨rfl, h1⟩
      have B1 := Lib.hid h1
      clear h1
      go_wp2_with fail
      refine (VA.out _).mono ?_
      rintro e V2 ⟨rfl, rfl⟩
      go_wp2_with fail
      go_ret2
      exact ⟨rfl, B1.out⟩
  · rw [if_neg z] at E
    subst E
    have t1 : (r != 0) = true := by rw [bne_iff_ne]; exact z
    obtain rfl : n = 0 := by
      rcases HF.out.2 with q | q
      · exact absurd q.1 z
      · exact q.2
    clear z
    go_enter Try.func30, Try.ntmps30
    go_wp2_with fail
    refine KA.out.mono ?_
    rintro e V ⟨rfl, h1⟩
    have B1 := Lib.hid h1
    clear h1
    go_wp2_with fail
    go_ret2
    exact ⟨rfl, B1.out⟩
end Go.Proofs.Ytodjipbkeddbcaa
