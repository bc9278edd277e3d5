/- For all less and at, LexLong returns true: a text of up to MaxText bytes with one line feed has its lines, and can be joined; one more byte is too long; a name has at most MaxName bytes. Conditions: strconv's table of the powers of ten and its errors start as the program's text lays them (tied). -/
import Derived.Test.YtjlipkklljjdjaaDoorLexLaid
import Derived.ChangeMaps5
import Derived.Test.YtjlipkklljjdjaaDoorLexX
namespace Go.Proofs.YtjlipkklljjdjaaDoor.lexLong
open Go.ChangeShapes Go.WideShapes Go.ChangeAt Go.RowKit Go.ChangeMaps

set_option maxRecDepth 100000 in
set_option maxHeartbeats 2000000 in
theorem walk (l0 a0 : Int) (w : World) (L : Lay w) (hl : (Lit.int .u8 l0).wf = true) (ha : (Lit.int .u16 a0).wf = true) :
    Calls Tryd.prog 14 #[.int .u8 l0, .int .u16 a0] w fun e w' => e = .returned (.bool true) ∧ Below w.heap.size w w' := by
  obtain ⟨l, rfl, hl1⟩ := nat_u8 hl
  obtain ⟨a, rfl, ha1⟩ := nat_u16 ha
  clear hl ha
  obtain ⟨n, hn⟩ : ∃ n, n = 65536 - l % 4 := ⟨_, rfl⟩
  have n0 : 65533 ≤ n := by omega
  have n1 : n ≤ 65536 := by omega
  obtain ⟨p, hp⟩ : ∃ p, p = a % n := ⟨_, rfl⟩
  have p1 : p < n := by rw [hp]; exact Nat.mod_lt _ (by omega)
  obtain ⟨m, hm⟩ : ∃ m, m = 65537 - n := ⟨_, rfl⟩
  have en : (65536 : Int) - (l : Int) % 4 = (n : Int) := by omega
  have ep : (a : Int) % (n : Int) = (p : Int) := by rw [hp]; exact (Int.natCast_emod a n).symm
  have em : (65537 : Int) - (n : Int) = (m : Int) := by omega
  have m0 : 1 ≤ m := by omega
  have m1 : m ≤ 4 := by omega
  have l4 : (l : Int) % 4 ≤ 3 := by omega
  have l3 : 0 ≤ (l : Int) % 4 := by omega
  have RX := Lib.hid (repeat_any 120 n (by omega))
  obtain ⟨X, hX⟩ : ∃ X : ByteArray, X = ⟨(List.replicate n 120).toArray⟩ := ⟨_, rfl⟩
  have zX : X.size = n := by rw [hX, Lib.size_eq]; simp
  rw [← hX] at RX
  have HX := Lib.hid hX
  have HM := Lib.hid hm
  clear hX hn hp hm
  have LL := Lib.hid L
  clear L
  go_enter Tryd.func14, Tryd.ntmps14
  go_wp2_with fail
  refine (RX.out w).mono ?_
  rintro e w1 ⟨rfl, hb1⟩
  obtain ⟨W1, cap, kc, hb2, hz2, hcl, hfr⟩ := bytes_of X w1
  have H1 := Lib.hid (hb1.trans (hb2.mono hb1.size))
  have K1 := Lib.hid hz2
  have C1 := Lib.hid hcl
  have fp := hfr p (by omega)
  have cp := hcl p (by omega)
  rw [zX] at kc C1
  have kd := back_of w1.heap.size cap n p X W1 HX.out C1.out
  have zT := oneLf_size 120 n p
  have PT := Lib.hid (oneLf_lines 120 (by decide) n p p1)
  generalize oneLf 120 n p = T at *
  have H2 := Lib.hid (show Below w.heap.size w (W1.setCell ⟨w1.heap.size, p, none⟩ (.int .u8 10)) from H1.out.setCell (p := ⟨w1.heap.size, p, none⟩) hb1.size _)
  have HX1 := Lib.hid hb1.size
  clear hb1 hb2 hz2 hcl hfr
  have LT := Lib.hid (lines_any T (by omega))
  -- what stands behind the text
  have RY := Lib.hid (repeat_any 121 m (by omega))
  obtain ⟨Y, hY⟩ : ∃ Y : ByteArray, Y = ⟨(List.replicate m 121).toArray⟩ := ⟨_, rfl⟩
  have zY : Y.size = m := by rw [hY, Lib.size_eq]; simp
  rw [← hY] at RY
  clear hY
  obtain ⟨S2, hS2⟩ : ∃ S2, T ++ Y = S2 := ⟨_, rfl⟩
  have zS2 : S2.size = 65537 := by rw [← hS2, ByteArray.size_append, zT, zY]; omega
  have LS := Lib.hid (lines_long S2 (by omega) (by omega))
  obtain ⟨M, hM⟩ : ∃ M, Y.extract 1 m = M := ⟨_, rfl⟩
  have zM : M.size = 65536 - n := by rw [← hM, ByteArray.size_extract, zY]; omega
  have hM' : Y.extract 1 Y.size = M := by rw [zY]; exact hM
  obtain ⟨R, hR⟩ : ∃ R, T ++ M = R := ⟨_, rfl⟩
  have zR : R.size = 65536 := by rw [← hR, ByteArray.size_append, zT, zM]; omega
  have SM : ∀ sep : ByteArray, sep.size ≤ 70000 → Small [T, M] sep := fun sep hs => ⟨by simp, hs, fun x hx => by
    rcases List.mem_cons.1 hx with rfl | hx
    · omega
    · obtain rfl : x = M := by simpa using hx
      omega⟩
  have lRT : T.data.toList ++ M.data.toList = R.data.toList := by rw [← hR]; simp
  have lR : R.data.toList.length = 65536 := by rw [← Lib.size_eq]; exact zR
  have J1 := Lib.hid (fun v w hv => join_any [T, M] ⟨#[]⟩ R 0 (SM _ (by decide)) (.inl ⟨by rw [join_two]; simp [lRT, lR], by rw [join_two]; simp [lRT], rfl⟩) v w hv)
  have J2 := Lib.hid (fun v w hv => join_any [T, M] ⟨#[122]⟩ ⟨#[]⟩ 11 (SM _ (by decide)) (.inr ⟨by
    rw [join_two]
    have : (T.data.toList ++ M.data.toList).length = 65536 := by rw [lRT, lR]
    simp at this ⊢
    omega, rfl, rfl⟩) v w hv)
  have eR : (R.toList == R.toList) = true := by simp
  have HZ := Lib.hid zM
  have zM2 : M.size ≤ 3 := by omega
  clear zM SM lRT lR
  -- names
  have RN : ∀ w, Calls Tryd.prog 37 #[.string ⟨#[110]⟩, .int .i64 24] w fun e w' => e = .returned (.string ⟨(List.replicate 24 110).toArray⟩) ∧ Below w.heap.size w w' := fun w => repeat_any 110 24 (by omega) w
  have RN := Lib.hid RN
  obtain ⟨N, hN⟩ : ∃ N : ByteArray, N = ⟨(List.replicate 24 110).toArray⟩ := ⟨_, rfl⟩
  have zN : N.size = 24 := by rw [hN]; rfl
  rw [← hN] at RN
  obtain ⟨N1, hN1⟩ : ∃ N1, N ++ ⟨#[110]⟩ = N1 := ⟨_, rfl⟩
  have zN1 : N1.size = 25 := by rw [← hN1, ByteArray.size_append, zN]; rfl
  obtain ⟨N2, hN2⟩ : ∃ N2, N.extract 1 24 ++ ⟨#[10]⟩ = N2 := ⟨_, rfl⟩
  have zE : (N.extract 1 24).size = 23 := by rw [ByteArray.size_extract, zN]; rfl
  obtain ⟨E, hE⟩ : ∃ E, N.extract 1 24 = E := ⟨_, rfl⟩
  have NA := Lib.hid (name_any N true (.inl ⟨rfl, by omega, by omega, fun k hk => by
    have hb : N[k] = 110 := by
      have h1 := Lib.data_getElem? N k hk
      have hl : N.data.toList = List.replicate 24 110 := by rw [hN]
      rw [hl, List.getElem?_replicate, if_pos (by omega)] at h1
      exact (Option.some.inj h1).symm
    rw [hb]; decide⟩))
  have NB := Lib.hid (name_any N1 false (.inr ⟨rfl, fun q => by omega⟩))
  have NC := Lib.hid (name_any ⟨#[]⟩ false (.inr ⟨rfl, fun q => by have h1 : (0 : Nat) < 0 := q.1; omega⟩))
  have ND := Lib.hid (name_any N2 false (.inr ⟨rfl, fun q => by
    have zN2 : N2.size = 24 := by rw [← hN2, ByteArray.size_append, zE]; rfl
    have h1 := q.2.2 23 (by omega)
    have h2 := Lib.data_getElem? N2 23 (by omega)
    have h3 : N2.data.toList = (N.extract 1 24).data.toList ++ [10] := by rw [← hN2]; simp
    have h4 : (N.extract 1 24).data.toList.length = 23 := by rw [← Lib.size_eq]; exact zE
    rw [h3, List.getElem?_append_right (by omega), h4] at h2
    have h5 : (10 : UInt8) = N2[23] := by simpa using h2
    rw [← h5] at h1
    revert h1
    decide⟩))
  rw [hE] at hN2 zE
  have HN := Lib.hid hN
  clear hN
  -- one line or two
  rcases (show (p = n - 1 ∧ (if p = n - 1 then 1 else 2) = 1) ∨ (p ≠ n - 1 ∧ (if p = n - 1 then 1 else 2) = 2) by
    by_cases q : p = n - 1
    · exact .inl ⟨q, if_pos q⟩
    · exact .inr ⟨q, if_neg q⟩) with ⟨q, hq⟩ | ⟨q, hq⟩
  all_goals
    have PT1 := PT.out.trans hq
    rw [PT1] at LT
    clear hq PT1
  · have tq : ((p : Int) == (n : Int) - 1) = true := by rw [beq_iff_eq]; omega
    have tq' : ((a : Int) % (n : Int) == (n : Int) - 1) = true := by rw [ep]; exact tq
    have HQ := Lib.hid q
    clear q
    go_wp2_with fail
    refine (LT.out _).mono ?_
    rintro e w2 ⟨v, rfl, o⟩
    obtain ⟨A, cap2, rfl, c2, _⟩ := own_any o.row
    have H3 := Lib.hid (H2.out.trans (o.below.mono (by have := K1.out; have := HX1.out; simp; omega)))
    clear o
    go_wp2_with fail
    refine (RY.out _).mono ?_
    rintro e w3 ⟨rfl, hb⟩
    have H4 := Lib.hid (H3.out.trans (hb.mono H3.out.size))
    clear hb
    go_wp2_with fail
    refine (LS.out _).mono ?_
    rintro e w4 ⟨rfl, rfl⟩
    have hz4 := H4.out.size
    go_wp2_with fail
    refine (J1.out _ _ (strs_two _ _ _ _)).mono ?_
    rintro e w5 ⟨rfl, hb⟩
    have H5 := Lib.hid ((H4.out.alloc hz4 _).trans (hb.mono (by simp; omega)))
    have hz5 := H5.out.size
    clear hb
    go_wp2_with fail
    refine (J2.out _ _ (strs_two _ _ _ _)).mono ?_
    rintro e w6 ⟨rfl, hb⟩
    have H6 := Lib.hid ((H5.out.alloc hz5 _).trans (hb.mono (by simp; omega)))
    clear hb
    go_wp2_with fail
    refine (RN.out _).mono ?_
    rintro e w7 ⟨rfl, hb⟩
    have H7 := Lib.hid (H6.out.trans (hb.mono H6.out.size))
    clear hb
    go_wp2_with fail
    refine (NA.out _).mono ?_
    rintro e w8 ⟨rfl, rfl⟩
    go_wp2_with fail
    refine (NB.out _).mono ?_
    rintro e w8 ⟨rfl, rfl⟩
    go_wp2_with fail
    refine (NC.out _).mono ?_
    rintro e w8 ⟨rfl, rfl⟩
    go_wp2_with fail
    refine (ND.out _).mono ?_
    rintro e w8 ⟨rfl, rfl⟩
    go_wp2_with fail
    refine (works_any _ (LL.out.below H7.out)).mono ?_
    rintro e w9 ⟨rfl, hb⟩
    have HB := Lib.hid (H7.out.trans (hb.mono H7.out.size))
    clear hb
    go_wp2_with fail
    go_ret
    exact ⟨rfl, HB.out⟩
  · have tq : ((p : Int) == (n : Int) - 1) = false := by rw [beq_eq_false_iff_ne]; omega
    have tq' : ((a : Int) % (n : Int) == (n : Int) - 1) = false := by rw [ep]; exact tq
    have HQ := Lib.hid q
    clear q
    go_wp2_with fail
    refine (LT.out _).mono ?_
    rintro e w2 ⟨v, rfl, o⟩
    obtain ⟨A, cap2, rfl, c2, _⟩ := own_any o.row
    have H3 := Lib.hid (H2.out.trans (o.below.mono (by have := K1.out; have := HX1.out; simp; omega)))
    clear o
    go_wp2_with fail
    refine (RY.out _).mono ?_
    rintro e w3 ⟨rfl, hb⟩
    have H4 := Lib.hid (H3.out.trans (hb.mono H3.out.size))
    clear hb
    go_wp2_with fail
    refine (LS.out _).mono ?_
    rintro e w4 ⟨rfl, rfl⟩
    have hz4 := H4.out.size
    go_wp2_with fail
    refine (J1.out _ _ (strs_two _ _ _ _)).mono ?_
    rintro e w5 ⟨rfl, hb⟩
    have H5 := Lib.hid ((H4.out.alloc hz4 _).trans (hb.mono (by simp; omega)))
    have hz5 := H5.out.size
    clear hb
    go_wp2_with fail
    refine (J2.out _ _ (strs_two _ _ _ _)).mono ?_
    rintro e w6 ⟨rfl, hb⟩
    have H6 := Lib.hid ((H5.out.alloc hz5 _).trans (hb.mono (by simp; omega)))
    clear hb
    go_wp2_with fail
    refine (RN.out _).mono ?_
    rintro e w7 ⟨rfl, hb⟩
    have H7 := Lib.hid (H6.out.trans (hb.mono H6.out.size))
    clear hb
    go_wp2_with fail
    refine (NA.out _).mono ?_
    rintro e w8 ⟨rfl, rfl⟩
    go_wp2_with fail
    refine (NB.out _).mono ?_
    rintro e w8 ⟨rfl, rfl⟩
    go_wp2_with fail
    refine (NC.out _).mono ?_
    rintro e w8 ⟨rfl, rfl⟩
    go_wp2_with fail
    refine (ND.out _).mono ?_
    rintro e w8 ⟨rfl, rfl⟩
    go_wp2_with fail
    refine (works_any _ (LL.out.below H7.out)).mono ?_
    rintro e w9 ⟨rfl, hb⟩
    have HB := Lib.hid (H7.out.trans (hb.mono H7.out.size))
    clear hb
    go_wp2_with fail
    go_ret
    exact ⟨rfl, HB.out⟩

set_option maxRecDepth 100000 in
theorem lifted (os : Os) (started : os.Started) (H : Type) (enc : TypeId × Value → H) :
    ReturnsInHanded {} Tryd.checked os 14 .any (fun w args => (Rows.lexLongSpec.pre enc Tryd.prog Tryd.f14 [] false w args ∧ laidMetH Tryd.prog Rows.lexLongRow.laid w) ∧ sizedMet enc Tryd.prog Tryd.f14 (OpenSpec.ofChange Rows.lexLongSpec) false w args)
      (Rows.lexLongSpec.post enc Tryd.prog Tryd.f14 false true false false) := by
  refine returnsInHanded_of_change_and (C := Tryd.checked) (X := fun w _ => laidMetH Tryd.prog Rows.lexLongRow.laid w) (fun _ _ _ hh h => h.of_heap hh) own started (by kernel_rfl) Tryd.func14
    (ChangeSpec.witness_shaped (enc := enc) (C := Tryd.checked) (os := os) (X := fun w _ => laidMetH Tryd.prog Rows.lexLongRow.laid w) false (World.doorLaid Tryd.prog 400 os) #[.int .u8 0, .int .u16 0] 8 rfl (shaped0 os _) (by kernel_rfl) (by kernel_rfl) (by kernel_rfl) (door_met os _)) ?_
  intro W base args ds gs before hval0 hW _ _ hL _
  have hval : ∀ (j : Nat) t v, Tryd.f14.params[j]? = some t → args[j]? = some v → Value.okWide Tryd.prog W .any base t v := hval0
  have hW' := hW
  obtain ⟨p, q, hA0, hV, rfl, hfz, hnd⟩ := hW
  have hA : DataW.TrodAll enc Tryd.prog W 0 (fun _ => true) true Tryd.f14.params.toList args.toList ds p := hA0
  rw [Tryd.params14] at hA hval
  obtain ⟨v0, vs0, d0, ds0, p0, q0, hargs, rfl, rfl, h0, r0⟩ := trodAll_cons hA
  obtain ⟨v1, vs1, d1, ds1, p1, q1, rfl, rfl, rfl, h1, r1⟩ := trodAll_cons r0
  obtain ⟨rfl, rfl, rfl⟩ := trodAll_nil r1
  obtain rfl : args = #[v0, v1] := by cases args; simp_all
  obtain ⟨rfl, rfl⟩ := trodVars_none hV
  obtain ⟨a0, rfl, rfl, rfl, w0⟩ := open_int Tryd.underlying5 (hval 0 5 v0 rfl rfl) h0
  obtain ⟨a1, rfl, rfl, rfl, w1⟩ := open_int Tryd.underlying61 (hval 1 61 v1 rfl rfl) h1
  clear hA0 hval0
  refine (walk a0 a1 W (lay_of _ W (by kernel_rfl) (.tail _ (.tail _ (.head _))) (.tail _ (.tail _ (.tail _ (.head _)))) hL) w0 w1).mono fun e W' ⟨he, bel⟩ => ?_
  subst he
  exact ⟨_, rfl, _, _, _, [], _, [], hW', trodAll_mk1 (shut_bool Tryd.underlying4 _), (trodAll_cons_mk (shut_int Tryd.underlying5 w0) (trodAll_cons_mk (shut_int Tryd.underlying61 w1) trodAll_mk0)), rfl, bel.frame _, fun h => by cases h⟩

theorem row_holds : Rows.LexLongSaid :=
  OpenClaim.holds_of_wide 14 Tryd.f14 rfl rfl rfl rfl rfl rfl rfl ⟨rfl, rfl, rfl, rfl, rfl⟩ rfl rfl rfl rfl rfl (by kernel_rfl) Tryd.func14 (by kernel_rfl)
    (of_decide_eq_true (by kernel_rfl)) (by unfold Func.isWrapper; first | (rw [if_pos (by decide +kernel)]; kernel_rfl) | (rw [if_neg (by decide +kernel)]; exact ⟨rfl, rfl⟩))
    (fun os started H enc _ => lifted os started H enc)

theorem proved : Rows.LexLongCardSaid :=
  Claim7.holds_tied_plain_at .later [] Rows.lexLongCard.laidKinds true Rows.lexLongCard.stood.harness Rows.lexLongCard.stood.looks
    row_holds (fun _ h => by cases h) (by kernel_rfl) (fun _ h => by cases h) lexLong_row_tie rfl ⟨rfl, rfl⟩ (by kernel_rfl) rfl
    (fun f fn hf hfn => by
      obtain rfl : f = 14 := Option.some.inj ((show Tryd.prog.funcNamed Rows.lexLongRow.func = some 14 by kernel_rfl).symm.trans hf) |>.symm
      obtain rfl : fn = Tryd.f14 := (Option.some.inj (Tryd.func14.symm.trans hfn)).symm
      exact ⟨looks0, fun j t ht => by
        rw [Tryd.params14] at ht
        have hm : t ∈ [5, 61] := by simpa using Array.mem_of_getElem? ht
        have hall : ([5, 61].all fun u => !Tryd.prog.wantsStandIn u) = true := by kernel_rfl
        exact (show Tryd.prog.wantsStandIn t = false by simpa using List.all_eq_true.1 hall t hm)⟩)
    (by kernel_rfl)
end Go.Proofs.YtjlipkklljjdjaaDoor.lexLong
