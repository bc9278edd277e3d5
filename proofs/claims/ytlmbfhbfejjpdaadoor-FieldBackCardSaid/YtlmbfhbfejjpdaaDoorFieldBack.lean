/- For all bytes 'which' and sets, FieldBack returns true: what Print writes for a set of numbers of one of the six kinds is read by Parse as this set, and is no star; it is its own normal field; a star is read as all numbers; the empty set is refused. Conditions: the variables of Go's library that the row lists start as the program's text lays them (tied). -/
import Derived.Test.YtlmbfhbfejjpdaaDoorFldLaid
import Derived.Test.YtlmbfhbfejjpdaaDoorFldX
namespace Go.Proofs.YtlmbfhbfejjpdaaDoor.fieldBack
open Go.ChangeShapes Go.WideShapes Go.ChangeAt Go.RowKit Go.ChangeMaps

set_option maxRecDepth 100000 in
set_option maxHeartbeats 2000000 in
theorem walk (u s : Int) (w : World) (L : Lay w) (hu : (Lit.int .u8 u).wf = true) (hs : (Lit.int .u64 s).wf = true) :
    Calls Tryd.prog 4 #[.int .u8 u, .int .u64 s] w fun e w' => e = .returned (.bool true) ∧ Below w.heap.size w w' := by
  obtain ⟨U, rfl, hU⟩ := nat_u8 hu
  obtain ⟨S0, rfl, hS0⟩ := nat_u64 hs
  obtain ⟨i, hi⟩ : ∃ i, i = U % 6 := ⟨_, rfl⟩
  have i6 : i < 6 := by omega
  have O := kd6_ok i i6
  obtain ⟨F0, F1⟩ := six_full i i6
  have SX := Lib.hid (fun w => six_any U hU i hi w)
  have A1 := Lib.hid (fun v w L hv => print_at i6 v (fullK (kd6 i)) true w L hv F1 (t := ⟨#[42]⟩) (e := 0) (Fld.print_norm O F0 (full_in i i6) (fun _ => rfl)))
  have A2 := Lib.hid (fun v w hv => parse_at i6 v ⟨#[42]⟩ w hv (by decide) (Fld.parse_star O))
  have ea : bits .and .u64 (S0 : Int) (fullK (kd6 i) : Nat) = (S0 &&& fullK (kd6 i) : Nat) := u64_and_nat S0 _ hS0 F1
  have HI : Fld.In (kd6 i) (S0 &&& fullK (kd6 i)) := Fld.in_of_sub O (by rw [Nat.and_assoc, Nat.and_self])
  have hS : S0 &&& fullK (kd6 i) < 2 ^ 64 := Nat.lt_of_le_of_lt Nat.and_le_left hS0
  have LL := Lib.hid L
  generalize S0 &&& fullK (kd6 i) = S at *
  have A3 := Lib.hid (fun (h0 : S = 0) v w L hv => print_at i6 v S false w L hv hS (t := ⟨#[]⟩) (e := 2) (by unfold printR; rw [if_pos (.inl h0)]))
  have hpt := fun (h0 : S ≠ 0) => Fld.parse_txt O h0 hS HI
  have A4 := Lib.hid (fun (h0 : S ≠ 0) v w L hv => print_at i6 v S false w L hv hS (t := ⟨(txt S).toArray⟩) (e := 0) (Fld.print_norm O h0 HI (fun h => by cases h)))
  have hsz : (⟨(txt S).toArray⟩ : ByteArray).size ≤ 9223372036854775000 := by have := txt_len S; rw [Lib.size_eq]; simp only; omega
  have A5 := Lib.hid (fun (h0 : S ≠ 0) v w hv => parse_at i6 v ⟨(txt S).toArray⟩ w hv hsz (hpt h0))
  have A6 := Lib.hid (fun (h0 : S ≠ 0) v w L hv => normal_at i6 v ⟨(txt S).toArray⟩ w L hv hsz (t := ⟨(txt S).toArray⟩) (a := 0) (e := 0) (by
    have p := hpt h0
    have e : (Fld.parse (kd6 i) (txt S)).2.2.2 = 0 := by rw [p]
    have n := Fld.norm_form O (txt S) e
    rw [p] at n
    exact n))
  clear hpt hsz
  generalize (⟨(txt S).toArray⟩ : ByteArray) = T at *
  generalize fullK (kd6 i) = F at *
  clear O HI L hi
  go_enter Tryd.func4, Tryd.ntmps4
  go_wp2_with fail
  refine (SX.out _).mono ?_
  rintro e w1 ⟨v, rfl, hb, hv⟩
  have X := Lib.hid (Ctx.first LL.out hb hv)
  obtain ⟨A, cap, rfl, _, _⟩ := hv
  clear hb
  go_wp2_with fail
  refine (A1.out _ _ X.out.lay X.out.strs).mono ?_
  rintro e w2 ⟨rfl, hb⟩
  have X := Lib.hid (X.out.next hb)
  obtain ⟨_, _, _, _, c0, c1, c2, c3⟩ := X.out
  clear hb
  go_wp2_with fail
  refine (A2.out _ _ X.out.strs).mono ?_
  rintro e w3 ⟨rfl, hb⟩
  have X := Lib.hid (X.out.next hb)
  obtain ⟨_, _, _, _, c0, c1, c2, c3⟩ := X.out
  clear hb
  go_wp2_with fail
  by_cases h0 : S = 0
  · refine (A3.out h0 _ _ X.out.lay X.out.strs).mono ?_
    rintro e w4 ⟨rfl, hb⟩
    have X := Lib.hid (X.out.next hb)
    subst h0
    clear hb
    go_wp2_with fail
    refine (works_any _ X.out.lay).mono ?_
    rintro e w5 ⟨rfl, hb⟩
    have X := Lib.hid (X.out.next hb)
    clear hb
    go_wp2_with fail
    go_ret
    exact ⟨rfl, X.out.below⟩
  · refine (A4.out h0 _ _ X.out.lay X.out.strs).mono ?_
    rintro e w4 ⟨rfl, hb⟩
    have X := Lib.hid (X.out.next hb)
    obtain ⟨_, _, _, _, c0, c1, c2, c3⟩ := X.out
    have A5 := Lib.hid (A5.out h0)
    have A6 := Lib.hid (A6.out h0)
    have t0 : ((S : Int) == 0) = false := by rw [beq_eq_false_iff_ne]; omega
    have t1 : (S == 0) = false := by rw [beq_eq_false_iff_ne]; omega
    clear hb h0
    go_wp2_with fail
    refine (A5.out _ _ X.out.strs).mono ?_
    rintro e w5 ⟨rfl, hb⟩
    have X := Lib.hid (X.out.next hb)
    obtain ⟨_, _, _, _, c0, c1, c2, c3⟩ := X.out
    clear hb
    go_wp2_with fail
    refine (A6.out _ _ X.out.lay X.out.strs).mono ?_
    rintro e w6 ⟨rfl, hb⟩
    have X := Lib.hid (X.out.next hb)
    clear hb
    go_wp2_with fail
    refine (works_any _ X.out.lay).mono ?_
    rintro e w7 ⟨rfl, hb⟩
    have X := Lib.hid (X.out.next hb)
    clear hb
    go_wp2_with fail
    go_ret
    exact ⟨rfl, X.out.below⟩

set_option maxRecDepth 100000 in
theorem lifted (os : Os) (started : os.Started) (H : Type) (enc : TypeId × Value → H) :
    ReturnsInHanded {} Tryd.checked os 4 .any (fun w args => (Rows.fieldBackSpec.pre enc Tryd.prog Tryd.f4 [] false w args ∧ laidMetH Tryd.prog Rows.fieldBackRow.laid w) ∧ sizedMet enc Tryd.prog Tryd.f4 (OpenSpec.ofChange Rows.fieldBackSpec) false w args)
      (Rows.fieldBackSpec.post enc Tryd.prog Tryd.f4 false true false false) := by
  refine returnsInHanded_of_change_and (C := Tryd.checked) (X := fun w _ => laidMetH Tryd.prog Rows.fieldBackRow.laid w) (fun _ _ _ hh h => h.of_heap hh) own started (by kernel_rfl) Tryd.func4
    (ChangeSpec.witness_shaped (enc := enc) (C := Tryd.checked) (os := os) (X := fun w _ => laidMetH Tryd.prog Rows.fieldBackRow.laid w) false (World.laidAll Tryd.prog os Rows.fieldBackRow.laid) #[.int .u8 0, .int .u64 0] 8 (World.laidAll_os _ _ _) (World.shaped_of_ZipB (by kernel_rfl) (by kernel_rfl)) (by kernel_rfl) (by kernel_rfl) (by kernel_rfl) (by rw [MakeChecks.laidMetH_plain _ _ _ (by kernel_rfl)]; exact laidMet_laidAll _ (by kernel_rfl) (by kernel_rfl))) ?_
  intro W base args ds gs before hval0 hW _ _ hL _
  have hval : ∀ (j : Nat) t v, Tryd.f4.params[j]? = some t → args[j]? = some v → Value.okWide Tryd.prog W .any base t v := hval0
  have hW' := hW
  obtain ⟨p, q, hA0, hV, rfl, hfz, hnd⟩ := hW
  have hA : DataW.TrodAll enc Tryd.prog W 0 (fun _ => true) true Tryd.f4.params.toList args.toList ds p := hA0
  rw [Tryd.params4] at hA hval
  obtain ⟨v0, vs0, d0, ds0, p0, q0, hargs, rfl, rfl, h0, r0⟩ := trodAll_cons hA
  obtain ⟨v1, vs1, d1, ds1, p1, q1, rfl, rfl, rfl, h1, r1⟩ := trodAll_cons r0
  obtain ⟨rfl, rfl, rfl⟩ := trodAll_nil r1
  obtain rfl : args = #[v0, v1] := by cases args; simp_all
  obtain ⟨rfl, rfl⟩ := trodVars_none hV
  obtain ⟨a0, rfl, rfl, rfl, w0⟩ := open_int Tryd.underlying5 (hval 0 5 v0 rfl rfl) h0
  obtain ⟨a1, rfl, rfl, rfl, w1⟩ := open_int Tryd.underlying40 (hval 1 40 v1 rfl rfl) h1
  clear hA0 hval0
  refine (walk a0 a1 W (lay_of _ W (by kernel_rfl) (.tail _ (.head _)) (by kernel_rfl) hL) w0 w1).mono fun e W' ⟨he, bel⟩ => ?_
  subst he
  exact ⟨_, rfl, _, _, _, [], _, [], hW', trodAll_mk1 (shut_bool Tryd.underlying4 _), (trodAll_cons_mk (shut_int Tryd.underlying5 w0) (trodAll_cons_mk (shut_int Tryd.underlying40 w1) trodAll_mk0)), rfl, bel.frame _, fun h => by cases h⟩

theorem row_holds : Rows.FieldBackSaid :=
  OpenClaim.holds_of_wide 4 Tryd.f4 rfl rfl rfl rfl rfl rfl rfl ⟨rfl, rfl, rfl, rfl, rfl⟩ rfl rfl rfl rfl rfl (by kernel_rfl) Tryd.func4 (by kernel_rfl)
    (of_decide_eq_true (by kernel_rfl)) (by unfold Func.isWrapper; first | (rw [if_pos (by decide +kernel)]; kernel_rfl) | (rw [if_neg (by decide +kernel)]; exact ⟨rfl, rfl⟩))
    (fun os started H enc _ => lifted os started H enc)

theorem proved : Rows.FieldBackCardSaid :=
  Claim7.holds_tied_plain_at .later [] Rows.fieldBackCard.laidKinds true Rows.fieldBackCard.stood.harness Rows.fieldBackCard.stood.looks
    row_holds (fun _ h => by cases h) (by kernel_rfl) (fun _ h => by cases h) fieldBack_row_tie rfl ⟨rfl, rfl⟩ (by kernel_rfl) rfl
    (fun f fn hf hfn => by
      obtain rfl : f = 4 := Option.some.inj ((show Tryd.prog.funcNamed Rows.fieldBackRow.func = some 4 by kernel_rfl).symm.trans hf) |>.symm
      obtain rfl : fn = Tryd.f4 := (Option.some.inj (Tryd.func4.symm.trans hfn)).symm
      exact ⟨looks0, fun j t ht => by
        rw [Tryd.params4] at ht
        have hm : t ∈ [5, 40] := by simpa using Array.mem_of_getElem? ht
        have hall : ([5, 40].all fun u => !Tryd.prog.wantsStandIn u) = true := by kernel_rfl
        exact (show Tryd.prog.wantsStandIn t = false by simpa using List.all_eq_true.1 hall t hm)⟩)
    (by kernel_rfl)
end Go.Proofs.YtlmbfhbfejjpdaaDoor.fieldBack
