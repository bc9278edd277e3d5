/- Contract of Print of package field. Contract of Normal of package field. Contracts of Specs of package field and of six, of the statements: the six kinds. Plain facts: what is written for a set is read as this set; a star is read as all numbers. Plain facts: a comma behind a field; places; what Parse returns for two fields, and for a normal one. -/
import Derived.Test.YtpnfifhanmpapaaGreatDoorFldN
import Derived.Maps.AppendAt
/- Contract of Print of package field. -/
namespace Go.Proofs.YtpnfifhanmpapaaGreatDoor
open Go.ChangeShapes Go.WideShapes Go.RowKit Go.Shelf

/-- all numbers of a kind -/
def fullK (K : Fld.Kd) : Nat := Bit.rangeS K.lo K.hi 1
theorem fullK_is (K : Fld.Kd) : fullS K.lo K.hi = fullK K := by simp [fullS, fullK]
/-- the text of some runs -/
def txtR (rs : List (Nat × Nat × Nat)) : List UInt8 := Lib.join (rs.map runT) [44]
/-- the text of a set -/
def txt (S : Nat) : List UInt8 := txtR (Bit.runs (Bit.mem S))
/-- what Print returns for a valid kind -/
def printR (K : Fld.Kd) (S : Nat) (star : Bool) : List UInt8 × Nat :=
  if S = 0 ∨ subB S (fullK K) = false ∨ (star = true ∧ S ≠ fullK K) then ([], 2) else if star = true then ([42], 0) else (txt S, 0)
theorem run_bd {S : Nat} : ∀ r ∈ Bit.runs (Bit.mem S), r.1 < 64 ∧ r.2.1 < 64 ∧ r.2.2 < 100 ∧ r.1 ≤ r.2.1 := by
  intro r hr
  obtain ⟨h1, h2⟩ := Bit.runs_all (Bit.mem S) (Bit.mem_sorted S)
  obtain ⟨q1, q2, q3, q4, _⟩ := h1 r hr
  have hin : ∀ v ∈ Bit.numsR r, v < 64 := fun v hv => Bit.mem_lt (S := S) (by rw [← h2]; exact List.mem_flatMap.2 ⟨r, hr, hv⟩)
  have hb : r.2.1 ∈ Bit.numsR r := by
    unfold Bit.numsR
    rw [Bit.nums_range q1 q2]
    exact ⟨q1, Nat.le_refl _, q3⟩
  have hb64 := hin _ hb
  refine ⟨by omega, hb64, ?_, q1⟩
  rcases Nat.lt_or_ge r.2.2 100 with c | c
  · exact c
  · have e : r.2.1 - r.1 = 0 := by
      have := Nat.mod_eq_of_lt (show r.2.1 - r.1 < r.2.2 by omega)
      omega
    have := q4 (by omega)
    omega
theorem txt_len (S : Nat) : (txt S).length ≤ 600 := by
  unfold txt txtR
  have hl : (Bit.runs (Bit.mem S)).length ≤ 64 := Nat.le_trans (Bit.runs_len _) (Bit.mem_len S)
  have key : ∀ rs : List (Nat × Nat × Nat), Lib.lens (rs.map runT) ≤ 8 * rs.length := by
    intro rs
    induction rs with
    | nil => simp [Lib.lens]
    | cons r rs ih =>
      have := runT_len r
      simp only [Lib.lens, List.map_cons, List.sum_cons, List.length_cons] at ih ⊢
      omega
  cases h : Bit.runs (Bit.mem S) with
  | nil => simp [Lib.join_nil]
  | cons r rs =>
    rw [h] at hl
    have := key (r :: rs)
    rw [List.map_cons, Lib.join_length, ← List.map_cons, List.length_map]
    simp only [List.length_cons, List.length_nil] at this hl ⊢
    omega
theorem infoStr : (Tryz.prog.info? 9).map (fun i => (i.zero, i.size, i.bytes)) = some (some (.string ⟨#[]⟩), 1, 16) := by kernel_rfl
/-- cells of the call's own -/
structure OwnR (z : Nat) (t : TypeId) (m : Nat) (w : World) (v : Value) (k : Nat) (xs : List Value) (wr : World) : Prop where
  row : wr.ownsRow z t m v k xs
  below : Below z w wr
theorem own_spot {W : World} {base : Nat} {e : TypeId} {size : Nat} {v : Value} {k : Nat} {xs : List Value} (h : W.ownsRow base e size v k xs) (h0 : 0 < k) :
    ∃ g cap, v = .slice (some ⟨g, 0, none⟩) k cap ∧ g < W.heap.size ∧ k ≤ cap ∧ ∀ (j : Nat) u, xs[j]? = some u → W.cell? ⟨g, j, none⟩ = some u := by
  rcases h.2 with ⟨_, hk⟩ | ⟨g, cap, cur, rfl, _, hgb, hc, _, _, ht⟩
  · omega
  · refine ⟨g, cap, rfl, (Array.getElem?_eq_some_iff.1 hgb).1, hc, fun j u hu => ?_⟩
    have hj : j < k * size := by rw [← h.1]; exact (List.getElem?_eq_some_iff.1 hu).1
    rw [← ht, List.getElem?_take_of_lt hj, Array.getElem?_toList] at hu
    simp only [World.cell?, hgb]
    exact hu
/-- the texts of the first k runs -/
def rtx (rs : List (Nat × Nat × Nat)) (k : Nat) : List Value := (rs.take k).map fun r => .string ⟨(runT r).toArray⟩
theorem rtx_succ (rs : List (Nat × Nat × Nat)) (k : Nat) (h : k < rs.length) : rtx rs (k + 1) = rtx rs k ++ [.string ⟨(runT rs[k]).toArray⟩] := by
  unfold rtx
  rw [List.take_succ_eq_append_getElem h, List.map_append]
  rfl

theorem print_bad (K : Fld.Kd) (v : Value) (xs : List ByteArray) (S : Nat) (star : Bool) (w : World) (hv : IsStrs w v xs) (hk : KdIs K.lo K.hi xs K.week K) (hS : S < 2 ^ 64)
    (h : S = 0 ∨ subB S (fullK K) = false ∨ (star = true ∧ S ≠ fullK K)) :
    Calls Tryz.prog 51 #[.agg #[.int .i64 K.lo, .int .i64 K.hi, v, .bool K.week], .int .u64 S, .bool star] w fun e w' => e = .returned (.tuple #[.string ⟨#[]⟩, .int .i64 2]) ∧ Below w.heap.size w w' := by
  have V0 := hv.below (spec_box w K.lo K.hi v K.week)
  have C := full_yes K.lo K.hi v xs K.week _ V0 hk.valid
  have hF := fullS_lt hk.valid
  rw [fullK_is] at C hF
  have C := Lib.hid C
  have IN := Lib.hid (fun w => inside_any S (fullK K) w hS hF)
  obtain ⟨A, cap, rfl, _, _⟩ := hv
  generalize fullK K = F at *
  clear V0 hk
  by_cases h0 : S = 0
  · subst h0
    clear h
    go_enter Tryz.func51, Tryz.ntmps51
    go_wp2_with fail
    refine C.out.mono ?_
    rintro e w1 ⟨rfl, hb⟩
    have HB := Lib.hid hb
    clear hb
    go_wp2_with fail
    go_ret2
    exact ⟨rfl, box_below (by simpa using HB.out)⟩
  · have t0 : ((S : Int) == 0) = false := by rw [beq_eq_false_iff_ne]; omega
    have t0' : (S == 0) = false := by rw [beq_eq_false_iff_ne]; omega
    cases hs : subB S F with
    | false =>
      rw [hs] at IN
      clear h h0 hs
      go_enter Tryz.func51, Tryz.ntmps51
      go_wp2_with fail
      refine C.out.mono ?_
      rintro e w1 ⟨rfl, hb⟩
      have HB := Lib.hid hb
      clear hb
      go_wp2_with fail
      refine (IN.out _).mono ?_
      rintro e w2 ⟨rfl, rfl⟩
      go_wp2_with fail
      go_ret2
      exact ⟨rfl, box_below (by simpa using HB.out)⟩
    | true =>
      obtain ⟨rfl, hne⟩ : star = true ∧ S ≠ F := by
        rcases h with h | h | h
        · exact (h0 h).elim
        · rw [hs] at h; cases h
        · exact h
      have t1 : ((S : Int) != F) = true := by rw [bne_iff_ne]; omega
      have t1' : (S != F) = true := by rw [bne_iff_ne]; omega
      rw [hs] at IN
      clear h h0 hs hne
      go_enter Tryz.func51, Tryz.ntmps51
      go_wp2_with fail
      refine C.out.mono ?_
      rintro e w1 ⟨rfl, hb⟩
      have HB := Lib.hid hb
      clear hb
      go_wp2_with fail
      refine (IN.out _).mono ?_
      rintro e w2 ⟨rfl, rfl⟩
      go_wp2_with fail
      go_ret2
      exact ⟨rfl, box_below (by simpa using HB.out)⟩
theorem print_star (K : Fld.Kd) (v : Value) (xs : List ByteArray) (w : World) (hv : IsStrs w v xs) (hk : KdIs K.lo K.hi xs K.week K) (h0 : fullK K ≠ 0) :
    Calls Tryz.prog 51 #[.agg #[.int .i64 K.lo, .int .i64 K.hi, v, .bool K.week], .int .u64 (fullK K : Nat), .bool true] w fun e w' => e = .returned (.tuple #[.string ⟨#[42]⟩, .int .i64 0]) ∧ Below w.heap.size w w' := by
  have V0 := hv.below (spec_box w K.lo K.hi v K.week)
  have C := full_yes K.lo K.hi v xs K.week _ V0 hk.valid
  have hF := fullS_lt hk.valid
  rw [fullK_is] at C hF
  have C := Lib.hid C
  have hsub : subB (fullK K) (fullK K) = true := by unfold subB; rw [decide_eq_true_iff]; exact Nat.and_self _
  have IN := Lib.hid (fun w => hsub ▸ inside_any (fullK K) (fullK K) w hF hF)
  obtain ⟨A, cap, rfl, _, _⟩ := hv
  generalize fullK K = F at *
  have t0 : ((F : Int) == 0) = false := by rw [beq_eq_false_iff_ne]; omega
  have t0' : (F == 0) = false := by rw [beq_eq_false_iff_ne]; omega
  have t1 : ((F : Int) != F) = false := by rw [bne_eq_false_iff_eq]
  have t1' : (F != F) = false := by rw [bne_eq_false_iff_eq]
  clear V0 hk h0 hsub
  go_enter Tryz.func51, Tryz.ntmps51
  go_wp2_with fail
  refine C.out.mono ?_
  rintro e w1 ⟨rfl, hb⟩
  have HB := Lib.hid hb
  clear hb
  go_wp2_with fail
  refine (IN.out _).mono ?_
  rintro e w2 ⟨rfl, rfl⟩
  go_wp2_with fail
  go_ret2
  exact ⟨rfl, box_below (by simpa using HB.out)⟩
set_option maxRecDepth 100000 in
set_option maxHeartbeats 2000000 in
theorem print_runs (K : Fld.Kd) (v : Value) (xs : List ByteArray) (S : Nat) (w : World) (L : Lay w) (hv : IsStrs w v xs) (hk : KdIs K.lo K.hi xs K.week K) (hS : S < 2 ^ 64) (h0 : S ≠ 0) (hs : subB S (fullK K) = true) :
    Calls Tryz.prog 51 #[.agg #[.int .i64 K.lo, .int .i64 K.hi, v, .bool K.week], .int .u64 S, .bool false] w fun e w' => e = .returned (.tuple #[.string ⟨(txt S).toArray⟩, .int .i64 0]) ∧ Below w.heap.size w w' := by
  have V0 := hv.below (spec_box w K.lo K.hi v K.week)
  have C := full_yes K.lo K.hi v xs K.week _ V0 hk.valid
  have hF := fullS_lt hk.valid
  rw [fullK_is] at C hF
  have C := Lib.hid C
  have IN := Lib.hid (fun w => hs ▸ inside_any S (fullK K) w hS hF)
  have RU := Lib.hid (fun w L => runs_any S hS w L)
  have BD := Lib.hid (run_bd (S := S))
  have TL := Lib.hid (txt_len S)
  have hlen : (Bit.runs (Bit.mem S)).length ≤ 64 := Nat.le_trans (Bit.runs_len _) (Bit.mem_len S)
  have TX := Lib.hid (show txt S = txtR (Bit.runs (Bit.mem S)) from rfl)
  have hpos : 0 < (Bit.runs (Bit.mem S)).length := by
    have hne : Bit.mem S ≠ [] := fun q => h0 (mem_nil hS q)
    cases q : Bit.mem S with
    | nil => exact (hne q).elim
    | cons a l => rw [Bit.runs_cons]; simp
  have LL := Lib.hid (L.alloc (.cells #[.int .i64 K.lo, .int .i64 K.hi, v, .bool K.week] 75))
  obtain ⟨A, cap, rfl, _, _⟩ := hv
  generalize Bit.runs (Bit.mem S) = rs at *
  generalize fullK K = F at *
  have t0 : ((S : Int) == 0) = false := by rw [beq_eq_false_iff_ne]; omega
  have t0' : (S == 0) = false := by rw [beq_eq_false_iff_ne]; omega
  obtain ⟨i0, hi, hz0, hz1, hz2⟩ := info_parts infoStr
  clear V0 hk h0 hs L
  go_enter Tryz.func51, Tryz.ntmps51
  go_wp2_with fail
  refine C.out.mono ?_
  rintro e w1 ⟨rfl, hb⟩
  have HB := Lib.hid (box_below (by simpa using hb))
  have L1 := Lib.hid (LL.out.below hb)
  clear hb
  go_wp2_with fail
  refine (IN.out _).mono ?_
  rintro e w2 ⟨rfl, rfl⟩
  go_wp2_with fail
  refine (RU.out _ L1.out).mono ?_
  rintro e w2 ⟨v2, rfl, ho⟩
  obtain ⟨g, c2, rfl, hg, hgc, hcell⟩ := own_spot ho.row hpos
  have B2 := Lib.hid (HB.out.trans (ho.below.mono HB.out.size))
  have HC := Lib.hid hcell
  clear ho hcell
  go_wp2_with fail
  go_loopw [10, 41] (fun v i wr => ∃ k : Nat, k ≤ rs.length ∧ i = .int .i64 k ∧ Hid (OwnR w2.heap.size 9 1 w2 v k (rtx rs k) wr)) (fun _ i _ => rs.length - (intOf i).toNat)
  case atStart => exact ⟨0, Nat.zero_le _, rfl, Lib.hid ⟨World.ownsRow_nil _ _ _ _, Below.refl _ _⟩⟩
  case round =>
    obtain ⟨k, hk, rfl, ho⟩ := hrel
    have hsz := ho.out.below.size
    by_cases hlt : k < rs.length
    · obtain ⟨f0, f1, f2⟩ := flat_at rs k hlt
      have hgw : g < wr.heap.size := by omega
      have d0 := (ho.out.below.cell (p := ⟨g, k * 3, none⟩) hg).trans (HC.out _ _ f0)
      have d1 := (ho.out.below.cell (p := ⟨g, k * 3 + 1, none⟩) hg).trans (HC.out _ _ f1)
      have d2 := (ho.out.below.cell (p := ⟨g, k * 3 + 2, none⟩) hg).trans (HC.out _ _ f2)
      obtain ⟨r1, r2, r3, r4⟩ := BD.out rs[k] (List.getElem_mem hlt)
      have RS := Lib.hid (rtx_succ rs k hlt)
      obtain ⟨⟨a, b, c⟩, hr⟩ : ∃ r, rs[k] = r := ⟨_, rfl⟩
      rw [hr] at d0 d1 d2 r1 r2 r3 r4 RS
      simp only at d0 d1 d2 r1 r2 r3 r4
      have WR := Lib.hid (fun w => written_any a b c (by omega) (by omega) r3 w)
      have HO := Lib.hid ho.out
      clear hr f0 f1 f2 ho
      go_wp2_with fail
      refine (WR.out _).mono ?_
      rintro e w3 ⟨rfl, hb⟩
      have bA : Below w2.heap.size wr w3 := ((Below.refl w2.heap.size wr).alloc hsz _).trans (hb.mono (by simp; omega))
      have bW : Below wr.heap.size wr w3 := ((Below.refl _ wr).alloc (Nat.le_refl _) _).trans (hb.mono (by simp))
      have HO3 := Lib.hid (show OwnR w2.heap.size 9 1 w2 _ k (rtx rs k) w3 from ⟨own_below HO.out.row bW, HO.out.below.trans bA⟩)
      have hsz3 := HO3.out.below.size
      obtain ⟨T, hT⟩ : ∃ T : ByteArray, (⟨(runT (a, b, c)).toArray⟩ : ByteArray) = T := ⟨_, rfl⟩
      rw [hT] at RS ⊢
      clear hb bA bW HO hT
      go_wp2_with (at_builtin; refine wpList_append_own _ rfl _ _ 44 rfl w2.heap.size 9 i0 (.string ⟨#[]⟩) 1 16 Tryz.underlying44 hi hz0 hz1 hz2 rfl (by decide) _ k _ rfl (HO3.out.row.alloc _) ⟨w3.heap.size, 0, none⟩ 1 1 [.string T] rfl rfl ?c1 ?c2 ?c3 ?c4 ?c5 ?c6)
      case c1 => exact cell_one_new _ _ _
      case c2 => intro u hu; simp at hu; subst hu; rfl
      case c3 => simp [maxLen]; omega
      case c4 => omega
      case c5 => simp; omega
      case c6 =>
        intro v' W2 hown hgrow _
        have HS := Lib.hid (show OwnR w2.heap.size 9 1 w2 v' (k + 1) (rtx rs (k + 1)) W2 from ⟨by
          rw [RS.out]
          simpa using hown, (HO3.out.below.alloc hsz3 _).grown hgrow (by simp; omega) (fun j hj => (HO3.out.row.lt j hj).1)⟩)
        clear hown hgrow
        go_wp2_with fail
        go_roundw
        case rel => exact ⟨k + 1, by omega, by go_num, HS⟩
        case measure => simp [intOf]; omega
    · obtain rfl : k = rs.length := by omega
      obtain ⟨g3, c3, rfl, hg3, hgc3, hcell3⟩ := own_spot ho.out.row hpos
      have hst : ∀ (j : Nat) (x : ByteArray), (rs.map fun r => (⟨(runT r).toArray⟩ : ByteArray))[j]? = some x → wr.cell? ⟨g3, 0 + j, none⟩ = some (.string x) := by
        intro j x hx
        rw [Nat.zero_add]
        apply hcell3
        unfold rtx
        rw [List.take_length, List.getElem?_map]
        rw [List.getElem?_map] at hx
        cases q : rs[j]? with
        | none => rw [q] at hx; cases hx
        | some r => rw [q] at hx; simp only [Option.map_some, Option.some.injEq] at hx ⊢; rw [hx]
      have hjoin : Lib.join ((rs.map fun r => (⟨(runT r).toArray⟩ : ByteArray)).map (·.data.toList)) (⟨#[44]⟩ : ByteArray).data.toList = txt S := by
        rw [TX.out, List.map_map]
        rfl
      have J := Tryz.strings_Join g3 0 c3 (rs.map fun r => (⟨(runT r).toArray⟩ : ByteArray)) ⟨#[44]⟩ wr hst hg3 (by rw [List.length_map]; omega) (by rw [List.length_map]; exact hgc3) (by rw [hjoin]; have := TL.out; omega)
      rw [hjoin, List.length_map] at J
      have J := Lib.hid J
      have BB := Lib.hid (B2.out.trans (ho.out.below.mono B2.out.size))
      clear hst hjoin hcell3 ho
      go_wp2_with fail
      refine J.out.mono ?_
      rintro e w4 ⟨rfl, hb⟩
      have BB2 := Lib.hid (BB.out.trans (hb.mono BB.out.size))
      clear hb
      go_wp2_with fail
      go_ret2
      exact ⟨rfl, BB2.out⟩
/-- what Print returns for a valid kind -/
theorem print_yes (K : Fld.Kd) (v : Value) (xs : List ByteArray) (S : Nat) (star : Bool) (w : World) (L : Lay w) (hv : IsStrs w v xs) (hk : KdIs K.lo K.hi xs K.week K) (hS : S < 2 ^ 64) :
    Calls Tryz.prog 51 #[.agg #[.int .i64 K.lo, .int .i64 K.hi, v, .bool K.week], .int .u64 S, .bool star] w fun e w' => e = .returned (.tuple #[.string ⟨(printR K S star).1.toArray⟩, .int .i64 ((printR K S star).2 : Nat)]) ∧ Below w.heap.size w w' := by
  by_cases h : S = 0 ∨ subB S (fullK K) = false ∨ (star = true ∧ S ≠ fullK K)
  · have e : printR K S star = ([], 2) := by unfold printR; rw [if_pos h]
    rw [e]
    exact print_bad K v xs S star w hv hk hS h
  · have h1 : S ≠ 0 := fun q => h (.inl q)
    have h2 : subB S (fullK K) = true := by cases q : subB S (fullK K); exact (h (.inr (.inl q))).elim; rfl
    cases star with
    | true =>
      obtain rfl : S = fullK K := Classical.byContradiction fun q => h (.inr (.inr ⟨rfl, q⟩))
      have e : printR K (fullK K) true = ([42], 0) := by unfold printR; rw [if_neg h, if_pos rfl]
      rw [e]
      exact print_star K v xs w hv hk h1
    | false =>
      have e : printR K S false = (txt S, 0) := by unfold printR; rw [if_neg h, if_neg (by simp)]
      rw [e]
      exact print_runs K v xs S w L hv hk hS h1 h2
theorem print_no (lo hi : Int) (v : Value) (xs : List ByteArray) (wk : Bool) (S : Nat) (star : Bool) (w : World) (hv : IsStrs w v xs) (h : ¬ Valid lo hi xs wk) (hs : ∀ x ∈ xs, x.size ≤ 9223372036854775807) :
    Calls Tryz.prog 51 #[.agg #[.int .i64 lo, .int .i64 hi, v, .bool wk], .int .u64 S, .bool star] w fun e w' => e = .returned (.tuple #[.string ⟨#[]⟩, .int .i64 2]) ∧ Below w.heap.size w w' := by
  have V0 := hv.below (spec_box w lo hi v wk)
  have C := Lib.hid (full_no lo hi v xs wk _ V0 h hs)
  obtain ⟨A, cap, rfl, _, _⟩ := hv
  clear V0 h
  go_enter Tryz.func51, Tryz.ntmps51
  go_wp2_with fail
  refine C.out.mono ?_
  rintro e w1 ⟨rfl, hb⟩
  have HB := Lib.hid hb
  clear hb
  go_wp2_with fail
  go_ret2
  exact ⟨rfl, box_below (by simpa using HB.out)⟩
end Go.Proofs.YtpnfifhanmpapaaGreatDoor
/- Contract of Normal of package field. -/
namespace Go.Proofs.YtpnfifhanmpapaaGreatDoor
open Go.ChangeShapes Go.WideShapes Go.RowKit Go.Shelf

theorem itSet_lt {K : Fld.Kd} (O : K.Ok) {x : Fld.It} (h : Fld.wrong K x = none) : Fld.setOf K x < 2 ^ 64 := by
  obtain ⟨_, h2, h3, h4⟩ := Fld.wrong_none.1 h
  have := Fld.has_lt O h2
  exact fold7_lt (Bit.rangeS_lt h3 h4 (by omega))
theorem total_lt {K : Fld.Kd} (O : K.Ok) : ∀ (xs : List Fld.It), (∀ x ∈ xs, Fld.wrong K x = none) → Fld.total K xs < 2 ^ 64 := by
  intro xs
  suffices h : ∀ (xs : List Fld.It) (A : Nat), A < 2 ^ 64 → (∀ x ∈ xs, Fld.wrong K x = none) → xs.foldl (fun S x => S ||| Fld.setOf K x) A < 2 ^ 64 from h xs 0 (by decide)
  intro xs
  induction xs with
  | nil => intro A hA _; exact hA
  | cons x r ih => intro A hA h; exact ih _ (Nat.or_lt_two_pow hA (itSet_lt O (h x (by simp)))) (fun y hy => h y (by simp [hy]))
theorem parse_lt {K : Fld.Kd} (O : K.Ok) (l : List UInt8) : (Fld.parse K l).1 < 2 ^ 64 := by
  unfold Fld.parse
  split
  · exact (by decide : (0 : Nat) < 2 ^ 64)
  · split
    · exact (by decide : (0 : Nat) < 2 ^ 64)
    · rename_i h
      exact total_lt O _ (Fld.bad_none.1 h)
/-- what Normal returns for a valid kind -/
def normR (K : Fld.Kd) (l : List UInt8) : List UInt8 × Nat × Nat :=
  if (Fld.parse K l).2.2.2 = 0 then ((printR K (Fld.parse K l).1 (Fld.parse K l).2.1).1, 0, (printR K (Fld.parse K l).1 (Fld.parse K l).2.1).2) else ([], (Fld.parse K l).2.2.1, (Fld.parse K l).2.2.2)
theorem ret_sii {a a' : ByteArray} {b b' c c' : Int} (h1 : a = a') (h2 : b = b') (h3 : c = c') : Ending.returned (.tuple #[.string a, .int .i64 b, .int .i64 c]) = .returned (.tuple #[.string a', .int .i64 b', .int .i64 c']) := by rw [h1, h2, h3]
theorem parse_err {K : Fld.Kd} (l : List UInt8) : (Fld.parse K l).2.2.2 ≤ 10 := by
  unfold Fld.parse
  split
  · exact Nat.le_refl _
  · split
    · exact (by decide : (2 : Nat) ≤ 10)
    · exact (by decide : (0 : Nat) ≤ 10)
end Go.Proofs.YtpnfifhanmpapaaGreatDoor
/- Contracts of Specs of package field and of six, of the statements: the six kinds. -/
namespace Go.Proofs.YtpnfifhanmpapaaGreatDoor
open Go.ChangeShapes Go.WideShapes Go.RowKit Go.Shelf

/-- the names of the months, and of the days of the week -/
def xsM : List ByteArray := [⟨#[74, 65, 78]⟩, ⟨#[70, 69, 66]⟩, ⟨#[77, 65, 82]⟩, ⟨#[65, 80, 82]⟩, ⟨#[77, 65, 89]⟩, ⟨#[74, 85, 78]⟩, ⟨#[74, 85, 76]⟩, ⟨#[65, 85, 71]⟩, ⟨#[83, 69, 80]⟩, ⟨#[79, 67, 84]⟩, ⟨#[78, 79, 86]⟩, ⟨#[68, 69, 67]⟩]
def xsW : List ByteArray := [⟨#[83, 85, 78]⟩, ⟨#[77, 79, 78]⟩, ⟨#[84, 85, 69]⟩, ⟨#[87, 69, 68]⟩, ⟨#[84, 72, 85]⟩, ⟨#[70, 82, 73]⟩, ⟨#[83, 65, 84]⟩]
def xs6 (i : Nat) : List ByteArray := match i with
  | 0 => []
  | 1 => []
  | 2 => []
  | 3 => []
  | 4 => xsM
  | _ => xsW
/-- the six kinds -/
def kd6 (i : Nat) : Fld.Kd := match i with
  | 0 => ⟨0, 59, bytesL [], false⟩
  | 1 => ⟨0, 59, bytesL [], false⟩
  | 2 => ⟨0, 23, bytesL [], false⟩
  | 3 => ⟨1, 31, bytesL [], false⟩
  | 4 => ⟨1, 12, bytesL xsM, false⟩
  | _ => ⟨0, 6, bytesL xsW, true⟩
theorem six_cases {i : Nat} (h : i < 6) {P : Nat → Prop} (h0 : P 0) (h1 : P 1) (h2 : P 2) (h3 : P 3) (h4 : P 4) (h5 : P 5) : P i := by
  match i, h with
  | 0, _ => exact h0
  | 1, _ => exact h1
  | 2, _ => exact h2
  | 3, _ => exact h3
  | 4, _ => exact h4
  | 5, _ => exact h5
theorem kd6_ok (i : Nat) (h : i < 6) : (kd6 i).Ok := by
  refine six_cases h (P := fun i => (kd6 i).Ok) ?_ ?_ ?_ ?_ ?_ ?_
  · exact ⟨by decide, by decide, by decide, .inl rfl, (fun s hs => by cases hs), List.Pairwise.nil⟩
  · exact ⟨by decide, by decide, by decide, .inl rfl, (fun s hs => by cases hs), List.Pairwise.nil⟩
  · exact ⟨by decide, by decide, by decide, .inl rfl, (fun s hs => by cases hs), List.Pairwise.nil⟩
  · exact ⟨by decide, by decide, by decide, .inl rfl, (fun s hs => by cases hs), List.Pairwise.nil⟩
  · exact ⟨by decide, by decide, by decide, .inr rfl, by decide, by decide⟩
  · exact ⟨by decide, by decide, by decide, .inr rfl, by decide, by decide⟩
theorem kd6_is (i : Nat) (h : i < 6) : KdIs (kd6 i).lo (kd6 i).hi (xs6 i) (kd6 i).week (kd6 i) :=
  ⟨rfl, rfl, six_cases h (P := fun i => (kd6 i).names = bytesL (xs6 i)) rfl rfl rfl rfl rfl rfl, rfl, kd6_ok i h⟩
/-- the names of a kind, in memory -/
def na6 (a i : Nat) : Value := match i with
  | 0 => .slice none 0 0
  | 1 => .slice none 0 0
  | 2 => .slice none 0 0
  | 3 => .slice none 0 0
  | 4 => .slice (some ⟨a, 0, none⟩) 12 12
  | _ => .slice (some ⟨a + 1, 0, none⟩) 7 7
/-- the six kinds, in three blocks from a on -/
structure Six (W : World) (a : Nat) : Prop where
  months : W.heap[a]? = some (.cells (xsM.map Value.string).toArray 9 (0, 0))
  days : W.heap[a + 1]? = some (.cells (xsW.map Value.string).toArray 9 (0, 0))
  kinds : W.heap[a + 1 + 1]? = some (.cells #[.int .i64 0, .int .i64 59, .slice none 0 0, .bool false, .int .i64 0, .int .i64 59, .slice none 0 0, .bool false, .int .i64 0, .int .i64 23, .slice none 0 0, .bool false, .int .i64 1, .int .i64 31, .slice none 0 0, .bool false, .int .i64 1, .int .i64 12, .slice (some ⟨a, 0, none⟩) 12 12, .bool false, .int .i64 0, .int .i64 6, .slice (some ⟨a + 1, 0, none⟩) 7 7, .bool true] 75 (0, 0))
theorem Six.lt {W : World} {a : Nat} (h : Six W a) : a + 1 + 1 < W.heap.size := (Array.getElem?_eq_some_iff.1 h.kinds).1
theorem Six.below {W W' : World} {a : Nat} (h : Six W a) (hb : Below W.heap.size W W') : Six W' a := by
  have := h.lt
  exact ⟨(hb.block _ (by omega)).trans h.months, (hb.block _ (by omega)).trans h.days, (hb.block _ this).trans h.kinds⟩
theorem Six.cell {W : World} {a : Nat} (h : Six W a) (k : Nat) : W.cell? ⟨a + 1 + 1, k, none⟩ = (#[Value.int .i64 0, .int .i64 59, .slice none 0 0, .bool false, .int .i64 0, .int .i64 59, .slice none 0 0, .bool false, .int .i64 0, .int .i64 23, .slice none 0 0, .bool false, .int .i64 1, .int .i64 31, .slice none 0 0, .bool false, .int .i64 1, .int .i64 12, .slice (some ⟨a, 0, none⟩) 12 12, .bool false, .int .i64 0, .int .i64 6, .slice (some ⟨a + 1, 0, none⟩) 7 7, .bool true] : Array Value)[k]? := by
  simp only [World.cell?, h.kinds]
  cases h' : (_ : Array Value)[k]? <;> rfl
theorem strs_block {W : World} {a : Nat} {xs : List ByteArray} (h : W.heap[a]? = some (.cells (xs.map Value.string).toArray 9 (0, 0))) : IsStrs W (.slice (some ⟨a, 0, none⟩) xs.length xs.length) xs := by
  refine ⟨_, _, rfl, Nat.le_refl _, fun _ => ⟨a, 0, rfl, (Array.getElem?_eq_some_iff.1 h).1, fun j x hx => ?_⟩⟩
  rw [Nat.zero_add]
  simp only [World.cell?, h, List.getElem?_toArray, List.getElem?_map, hx]
  rfl
theorem strs_nil (W : World) : IsStrs W (.slice none 0 0) [] := ⟨none, 0, rfl, Nat.le_refl _, fun h => by simp at h⟩
theorem Six.strs {W : World} {a : Nat} (h : Six W a) (i : Nat) (hi : i < 6) : IsStrs W (na6 a i) (xs6 i) :=
  six_cases hi (P := fun i => IsStrs W (na6 a i) (xs6 i)) (strs_nil W) (strs_nil W) (strs_nil W) (strs_nil W) (strs_block h.months) (strs_block h.days)
theorem heap_old (w : World) (o : Obj) (b : Nat) (h : b < w.heap.size) : (w.alloc o).heap[b]? = w.heap[b]? := Below.heap_alloc w o b h
theorem six_allocs {w : World} {o1 o2 o3 : Obj} (h1 : o1 = .cells (xsM.map Value.string).toArray 9) (h2 : o2 = .cells (xsW.map Value.string).toArray 9)
    (h3 : o3 = .cells #[.int .i64 0, .int .i64 59, .slice none 0 0, .bool false, .int .i64 0, .int .i64 59, .slice none 0 0, .bool false, .int .i64 0, .int .i64 23, .slice none 0 0, .bool false, .int .i64 1, .int .i64 31, .slice none 0 0, .bool false, .int .i64 1, .int .i64 12, .slice (some ⟨w.heap.size, 0, none⟩) 12 12, .bool false, .int .i64 0, .int .i64 6, .slice (some ⟨w.heap.size + 1, 0, none⟩) 7 7, .bool true] 75) : Six (((w.alloc o1).alloc o2).alloc o3) w.heap.size := by
  have s1 : (w.alloc o1).heap.size = w.heap.size + 1 := by simp
  have s2 : ((w.alloc o1).alloc o2).heap.size = (w.alloc o1).heap.size + 1 := by simp
  refine ⟨?_, ?_, ?_⟩
  · rw [heap_old _ _ _ (by omega), heap_old _ _ _ (by omega), World.alloc_heap_new, h1]
  · rw [heap_old _ _ _ (by omega), ← s1, World.alloc_heap_new, h2]
  · rw [show w.heap.size + 1 + 1 = ((w.alloc o1).alloc o2).heap.size by omega, World.alloc_heap_new, h3]
theorem three_below (w : World) (o1 o2 o3 : Obj) : Below w.heap.size w (((w.alloc o1).alloc o2).alloc o3) :=
  (((Below.refl _ w).alloc (Nat.le_refl _) o1).alloc (by simp) o2).alloc (by simp; omega) o3
set_option maxRecDepth 100000 in
set_option maxHeartbeats 2000000 in
theorem specs_any (w : World) :
    Calls Tryz.prog 36 #[] w fun e w' => e = .returned (.slice (some ⟨w.heap.size + 1 + 1, 0, none⟩) 6 6) ∧ Below w.heap.size w w' ∧ Six w' w.heap.size := by
  go_enter Tryz.func36, Tryz.ntmps36
  go_wp2
  go_ret
  exact ⟨rfl, three_below _ _ _ _, six_allocs rfl rfl rfl⟩
end Go.Proofs.YtpnfifhanmpapaaGreatDoor
/- Plain facts: what is written for a set is read as this set; a star is read as all numbers. -/
namespace Go.Proofs.YtpnfifhanmpapaaGreatDoor
namespace Fld

/-! digits -/
theorem dec_head : ∀ n, n < 100 → ∃ c t, dec n = c :: t ∧ isDig c = true := by
  intro n h
  unfold dec
  split
  · exact ⟨_, _, rfl, (by decide +kernel : ∀ n, n < 10 → isDig (48 + n).toUInt8 = true) n (by omega)⟩
  · exact ⟨_, _, rfl, (by decide +kernel : ∀ n, n < 100 → 10 ≤ n → isDig (48 + n / 10).toUInt8 = true) n h (by omega)⟩
theorem dec_dig : ∀ n, n < 100 → ∀ c ∈ dec n, isDig c = true := by decide +kernel
theorem val_dec : ∀ n, n < 100 → val (dec n) = n := by decide +kernel
theorem dig_not_let {c : UInt8} (h : isDig c = true) : isLet c = false := by
  unfold isDig digN at h
  unfold isLet letN upN loN
  have h := of_decide_eq_true h
  simp only [Bool.or_eq_false_iff, decide_eq_false_iff_not]
  omega
/-- no digit comes next -/
def NoDig (r : List UInt8) : Prop := ∀ c, r.head? = some c → isDig c = false
theorem noDig_nil : NoDig [] := fun c h => by cases h
theorem noDig_cons {c : UInt8} {r : List UInt8} (h : isDig c = false) : NoDig (c :: r) := fun d e => by
  obtain rfl : c = d := by simpa using e
  exact h
theorem noDig_comma (r : List UInt8) : NoDig (44 :: r) := noDig_cons (by decide)
theorem noDig_minus (r : List UInt8) : NoDig (45 :: r) := noDig_cons (by decide)
theorem noDig_slash (r : List UInt8) : NoDig (47 :: r) := noDig_cons (by decide)
theorem digs_app {d r : List UInt8} (hd : ∀ c ∈ d, isDig c = true) (hl : d.length ≤ 2) (hr : NoDig r) : digs (d ++ r) = d := by
  unfold digs
  rw [List.takeWhile_append_of_pos hd]
  have e : r.takeWhile isDig = [] := by
    cases r with
    | nil => rfl
    | cons c r => rw [List.takeWhile_cons, hr c rfl]; rfl
  rw [e, List.append_nil, List.take_of_length_le hl]
theorem num_dec {n : Nat} (h : n < 100) {r : List UInt8} (hr : NoDig r) : num (dec n ++ r) = some (n, (dec n).length) := by
  obtain ⟨c, t, e, _⟩ := dec_head n h
  unfold num
  rw [digs_app (dec_dig n h) (dec_len n).2 hr, if_neg (by rw [e]; simp), val_dec n h]
theorem lets_dec {n : Nat} (h : n < 100) (r : List UInt8) : lets (dec n ++ r) = [] := by
  obtain ⟨c, t, e, hc⟩ := dec_head n h
  unfold lets
  rw [e, List.cons_append, List.takeWhile_cons, dig_not_let hc]
  rfl
theorem value_dec (K : Kd) {n : Nat} (h : n < 100) {r : List UInt8} (hr : NoDig r) : value K (dec n ++ r) = some (n, (dec n).length) := by
  unfold value
  rw [if_pos (lets_dec h r), num_dec h hr]
theorem head_dec {n : Nat} (h : n < 100) (r : List UInt8) {k : UInt8} (hk : isDig k = false) : ¬ (dec n ++ r).head? = some k := by
  obtain ⟨c, t, e, hc⟩ := dec_head n h
  rw [e]
  intro q
  obtain rfl : c = k := by simpa using q
  rw [hc] at hk
  cases hk
/-- what stands behind an item that is whole -/
def Ends (r : List UInt8) : Prop := r = [] ∨ ∃ t, r = 44 :: t
theorem Ends.noDig {r : List UInt8} (h : Ends r) : NoDig r := by
  rcases h with rfl | ⟨t, rfl⟩
  · exact noDig_nil
  · exact noDig_comma t
theorem Ends.no {r : List UInt8} (h : Ends r) {k : UInt8} (hk : k ≠ 44) : ¬ r.head? = some k := by
  rcases h with rfl | ⟨t, rfl⟩
  · intro q; cases q
  · intro q
    exact hk (by simpa using q.symm)
theorem drop_dec (n : Nat) (r : List UInt8) : (dec n ++ r).drop (dec n).length = r := List.drop_left

/-! items -/
theorem rStep_dec (x : It) {c : Nat} (h : c < 100) {r : List UInt8} (hr : NoDig r) (p : Nat) : rStep x (dec c ++ r) p = .inl ({ x with t := c, ta := p }, p + (dec c).length, r) := by
  unfold rStep
  rw [num_dec h hr]
  show Sum.inl (_, _, (dec c ++ r).drop (dec c).length) = _
  rw [drop_dec]
/-- a single number -/
theorem item_one (K : Kd) {a : Nat} (ha : a < 100) {r : List UInt8} (hr : Ends r) (p : Nat) : item K (dec a ++ r) p = .inl (⟨a, p, a, p, 1, 0⟩, p + (dec a).length, r) := by
  unfold item
  rw [if_neg (head_dec ha r (by decide)), value_dec K ha hr.noDig]
  show rVal K _ ((dec a ++ r).drop (dec a).length) _ = _
  rw [drop_dec]
  unfold rVal
  rw [if_neg (hr.no (by decide)), if_neg (hr.no (by decide))]
/-- a single number with a step -/
theorem item_step (K : Kd) {a c : Nat} (ha : a < 100) (hc : c < 100) {r : List UInt8} (hr : Ends r) (p : Nat) :
    item K (dec a ++ 47 :: (dec c ++ r)) p = .inl (⟨a, p, max a K.hi, p, c, p + (dec a).length + 1⟩, p + (dec a).length + 1 + (dec c).length, r) := by
  unfold item
  rw [if_neg (head_dec ha _ (by decide)), value_dec K ha (noDig_slash _)]
  show rVal K _ ((dec a ++ _).drop (dec a).length) _ = _
  rw [drop_dec]
  unfold rVal
  rw [if_neg (by simp), if_pos (by simp)]
  exact rStep_dec _ hc hr.noDig _
/-- a range -/
theorem item_range (K : Kd) {a b : Nat} (ha : a < 100) (hb : b < 100) {r : List UInt8} (hr : Ends r) (p : Nat) :
    item K (dec a ++ 45 :: (dec b ++ r)) p = .inl (⟨a, p, b, p + (dec a).length + 1, 1, 0⟩, p + (dec a).length + 1 + (dec b).length, r) := by
  unfold item
  rw [if_neg (head_dec ha _ (by decide)), value_dec K ha (noDig_minus _)]
  show rVal K _ ((dec a ++ _).drop (dec a).length) _ = _
  rw [drop_dec]
  unfold rVal
  rw [if_pos (by simp)]
  unfold rSec
  show (match value K (dec b ++ r) with | none => _ | some (v, k) => _) = _
  rw [value_dec K hb hr.noDig]
  show rNums _ ((dec b ++ r).drop (dec b).length) _ = _
  rw [drop_dec]
  unfold rNums
  rw [if_neg (hr.no (by decide))]
/-- a range with a step -/
theorem item_full (K : Kd) {a b c : Nat} (ha : a < 100) (hb : b < 100) (hc : c < 100) {r : List UInt8} (hr : Ends r) (p : Nat) :
    item K (dec a ++ 45 :: (dec b ++ 47 :: (dec c ++ r))) p =
      .inl (⟨a, p, b, p + (dec a).length + 1, c, p + (dec a).length + 1 + (dec b).length + 1⟩, p + (dec a).length + 1 + (dec b).length + 1 + (dec c).length, r) := by
  unfold item
  rw [if_neg (head_dec ha _ (by decide)), value_dec K ha (noDig_minus _)]
  show rVal K _ ((dec a ++ _).drop (dec a).length) _ = _
  rw [drop_dec]
  unfold rVal
  rw [if_pos (by simp)]
  unfold rSec
  show (match value K (dec b ++ 47 :: (dec c ++ r)) with | none => _ | some (v, k) => _) = _
  rw [value_dec K hb (noDig_slash _)]
  show rNums _ ((dec b ++ _).drop (dec b).length) _ = _
  rw [drop_dec]
  unfold rNums
  rw [if_pos (by simp)]
  exact rStep_dec _ hc hr.noDig _
/-- a star, alone or with a step -/
theorem item_star (K : Kd) {r : List UInt8} (hr : Ends r) (p : Nat) : item K (42 :: r) p = .inl (⟨K.lo, 0, K.hi, 0, 1, 0⟩, p + 1, r) := by
  unfold item
  rw [if_pos (by simp)]
  show rNums _ r _ = _
  unfold rNums
  rw [if_neg (hr.no (by decide))]
theorem item_stars (K : Kd) {c : Nat} (hc : c < 100) {r : List UInt8} (hr : Ends r) (p : Nat) : item K (42 :: 47 :: (dec c ++ r)) p = .inl (⟨K.lo, 0, K.hi, 0, c, p + 1 + 1⟩, p + 1 + 1 + (dec c).length, r) := by
  unfold item
  rw [if_pos (by simp)]
  show rNums _ (47 :: (dec c ++ r)) _ = _
  unfold rNums
  rw [if_pos (by simp)]
  exact rStep_dec _ hc hr.noDig _
theorem scan_one {K : Kd} {l : List UInt8} {p q : Nat} {x : It} (h : item K l p = .inl (x, q, [])) : scan K l p = ([x], none) := by rw [scan_go, h]; rfl
theorem scan_comma {K : Kd} {l t : List UInt8} {p q : Nat} {x : It} (h : item K l p = .inl (x, q, 44 :: t)) : scan K l p = (x :: (scan K t (q + 1)).1, (scan K t (q + 1)).2) := by rw [scan_go, h, go_comma]
def trip (x : It) : Nat × Nat × Nat := (x.f, x.s, x.t)
/-- the item that is written for a run -/
theorem item_run (K : Kd) {r : Nat × Nat × Nat} (h1 : r.1 < 100) (h2 : r.2.1 < 100) (h3 : r.2.2 < 100) (h : r.1 = r.2.1 → r.2.2 = 1) {t : List UInt8} (ht : Ends t) (p : Nat) :
    ∃ x q, item K (runT r ++ t) p = .inl (x, q, t) ∧ trip x = r := by
  obtain ⟨a, b, c⟩ := r
  simp only at h1 h2 h3 h
  unfold runT
  by_cases e : a = b
  · obtain rfl := e
    obtain rfl := h rfl
    refine ⟨_, _, Eq.trans (congrArg (fun l => item K l p) ?_) (item_one K h1 ht p), rfl⟩
    rw [if_pos rfl, if_pos rfl, List.append_nil, List.append_nil]
  · by_cases f : c = 1
    · obtain rfl := f
      refine ⟨_, _, Eq.trans (congrArg (fun l => item K l p) ?_) (item_range K h1 h2 ht p), rfl⟩
      rw [if_neg e, if_pos rfl, List.append_nil, List.append_assoc, List.cons_append]
    · refine ⟨_, _, Eq.trans (congrArg (fun l => item K l p) ?_) (item_full K h1 h2 h3 ht p), rfl⟩
      rw [if_neg e, if_neg f, List.append_assoc, List.append_assoc, List.cons_append, List.cons_append]
/-- runs behind a comma each -/
def tailT (rs : List (Nat × Nat × Nat)) : List UInt8 := Lib.joinTail [44] (rs.map runT)
theorem tailT_nil : tailT [] = [] := rfl
theorem tailT_cons (r : Nat × Nat × Nat) (rs : List (Nat × Nat × Nat)) : tailT (r :: rs) = 44 :: (runT r ++ tailT rs) := by simp [tailT, Lib.joinTail]
theorem tailT_ends (rs : List (Nat × Nat × Nat)) : Ends (tailT rs) := by
  cases rs with
  | nil => exact .inl rfl
  | cons r rs => exact .inr ⟨_, tailT_cons r rs⟩
theorem txtR_cons (r : Nat × Nat × Nat) (rs : List (Nat × Nat × Nat)) : txtR (r :: rs) = runT r ++ tailT rs := by
  unfold txtR tailT
  rw [List.map_cons, Lib.join_cons]
def RunOk (r : Nat × Nat × Nat) : Prop := r.1 < 100 ∧ r.2.1 < 100 ∧ r.2.2 < 100 ∧ (r.1 = r.2.1 → r.2.2 = 1)
theorem scan_runs (K : Kd) : ∀ (rs : List (Nat × Nat × Nat)) (r : Nat × Nat × Nat) (p : Nat), (∀ r' ∈ r :: rs, RunOk r') → ∃ xs, scan K (runT r ++ tailT rs) p = (xs, none) ∧ xs.map trip = r :: rs := by
  intro rs
  induction rs with
  | nil =>
    intro r p h
    obtain ⟨a, b, c, d⟩ := h r (by simp)
    obtain ⟨x, q, e, et⟩ := item_run K a b c d (t := tailT []) (tailT_ends []) p
    exact ⟨[x], scan_one e, by simp [et]⟩
  | cons r' rs ih =>
    intro r p h
    obtain ⟨a, b, c, d⟩ := h r (by simp)
    obtain ⟨x, q, e, et⟩ := item_run K a b c d (t := tailT (r' :: rs)) (tailT_ends _) p
    rw [tailT_cons] at e ⊢
    obtain ⟨xs, e2, et2⟩ := ih r' (q + 1) (fun z hz => h z (by simp only [List.mem_cons] at hz ⊢; exact .inr hz))
    refine ⟨x :: xs, ?_, by simp [et, et2]⟩
    rw [scan_comma e, e2]

/-! sets -/
theorem total_bit (K : Kd) (xs : List It) (v : Nat) : (total K xs).testBit v = xs.any (fun x => (setOf K x).testBit v) := by
  unfold total
  suffices h : ∀ (xs : List It) (A : Nat), (xs.foldl (fun S x => S ||| setOf K x) A).testBit v = (A.testBit v || xs.any (fun x => (setOf K x).testBit v)) by
    rw [h xs 0, Nat.zero_testBit, Bool.false_or]
  intro xs
  induction xs with
  | nil => intro A; simp
  | cons x r ih => intro A; rw [List.foldl_cons, ih, Nat.testBit_or, List.any_cons, Bool.or_assoc]
theorem full_bit {K : Kd} (O : K.Ok) (v : Nat) : (fullK K).testBit v = decide (K.lo ≤ v ∧ v ≤ K.hi) := by
  unfold fullK
  rw [Bit.rangeS_bit O.le (Nat.le_refl _)]
  congr 1
  simp [Nat.mod_one]
/-- all numbers of S are numbers of the kind -/
def In (K : Kd) (S : Nat) : Prop := ∀ v, S.testBit v = true → K.lo ≤ v ∧ v ≤ K.hi
theorem in_of_sub {K : Kd} (O : K.Ok) {S : Nat} (h : S &&& fullK K = S) : In K S := fun v hv => by
  rw [← h, Nat.testBit_and, full_bit O] at hv
  simpa using (Bool.and_eq_true_iff.1 hv).2
theorem bit_lt {S v : Nat} (hS : S < 2 ^ 64) (h : S.testBit v = true) : v < 64 := by
  rcases Nat.lt_or_ge v 64 with a | a
  · exact a
  · rw [Nat.testBit_lt_two_pow (Nat.lt_of_lt_of_le hS (Nat.pow_le_pow_right (by decide) a))] at h; cases h
theorem run_mem {S : Nat} {v : Nat} : v ∈ Bit.mem S ↔ ∃ r ∈ Bit.runs (Bit.mem S), r.1 ≤ v ∧ v ≤ r.2.1 ∧ (v - r.1) % r.2.2 = 0 := by
  obtain ⟨h1, h2⟩ := Bit.runs_all (Bit.mem S) (Bit.mem_sorted S)
  constructor
  · intro h
    rw [← h2] at h
    obtain ⟨r, hr, hv⟩ := List.mem_flatMap.1 h
    obtain ⟨a, b, _⟩ := h1 r hr
    exact ⟨r, hr, (Bit.nums_range a b).1 hv⟩
  · rintro ⟨r, hr, hv⟩
    obtain ⟨a, b, _⟩ := h1 r hr
    rw [← h2]
    exact List.mem_flatMap.2 ⟨r, hr, (Bit.nums_range a b).2 hv⟩
theorem runs_ok (S : Nat) : ∀ r ∈ Bit.runs (Bit.mem S), RunOk r := fun r hr => by
  obtain ⟨a, b, c, _⟩ := run_bd r hr
  obtain ⟨h1, _⟩ := Bit.runs_all (Bit.mem S) (Bit.mem_sorted S)
  exact ⟨by omega, by omega, c, (h1 r hr).2.2.2.1⟩
/-- what is written for a set is read as this set -/
theorem parse_txt {K : Kd} (O : K.Ok) {S : Nat} (h0 : S ≠ 0) (hS : S < 2 ^ 64) (hI : In K S) : parse K (txt S) = (S, false, 0, 0) := by
  have hne : Bit.mem S ≠ [] := fun q => h0 (mem_nil hS q)
  have hB := runs_ok S
  obtain ⟨hR, _⟩ := Bit.runs_all (Bit.mem S) (Bit.mem_sorted S)
  have hM := fun v => run_mem (S := S) (v := v)
  have key : ∃ xs, scan K (txt S) 0 = (xs, none) ∧ xs.map trip = Bit.runs (Bit.mem S) := by
    unfold txt
    cases q : Bit.runs (Bit.mem S) with
    | nil =>
      rw [q] at hM
      cases e : Bit.mem S with
      | nil => exact (hne e).elim
      | cons a l =>
        obtain ⟨r, hr, _⟩ := (hM a).1 (by rw [e]; simp)
        cases hr
    | cons r rs =>
      rw [q] at hB
      rw [txtR_cons]
      exact scan_runs K rs r 0 hB
  have hstar : (txt S == [42]) = false := by
    rw [beq_eq_false_iff_ne]
    intro e
    obtain ⟨xs, e2, e3⟩ := key
    rw [e, scan_one (item_star K (.inl rfl) 0)] at e2
    cases hq : Bit.runs (Bit.mem S) with
    | nil =>
      rw [hq] at e3
      cases e2
      simp at e3
    | cons r rs =>
      have : txt S = runT r ++ tailT rs := by unfold txt; rw [hq, txtR_cons]
      rw [this] at e
      have hr := hB r (by rw [hq]; simp)
      obtain ⟨c, t, ec, hc⟩ := dec_head r.1 hr.1
      unfold runT at e
      rw [ec] at e
      simp only [List.cons_append, List.cons.injEq] at e
      rw [e.1] at hc
      exact absurd hc (by decide)
  obtain ⟨xs, e2, e3⟩ := key
  have hw : ∀ x ∈ xs, wrong K x = none ∧ trip x ∈ Bit.runs (Bit.mem S) := by
    intro x hx
    have hx' : trip x ∈ Bit.runs (Bit.mem S) := by rw [← e3]; exact List.mem_map_of_mem hx
    obtain ⟨a, b, c, _⟩ := hR _ hx'
    have m1 : x.f ∈ Bit.mem S := (hM _).2 ⟨_, hx', Nat.le_refl _, a, by show (x.f - x.f) % _ = 0; simp⟩
    have m2 : x.s ∈ Bit.mem S := (hM _).2 ⟨_, hx', a, Nat.le_refl _, c⟩
    have i1 := hI _ (Bit.mem_iff.1 m1).2
    have i2 := hI _ (Bit.mem_iff.1 m2).2
    exact ⟨wrong_none.2 ⟨.inl i1, .inl i2, a, b⟩, hx'⟩
  unfold parse
  rw [e2]
  show (match bad K xs with | some a => _ | none => _) = _
  rw [bad_none.2 (fun x hx => (hw x hx).1)]
  show (total K xs, txt S == [42], 0, 0) = _
  rw [hstar]
  have : total K xs = S := by
    apply Nat.eq_of_testBit_eq
    intro v
    rw [total_bit, Bool.eq_iff_iff, List.any_eq_true]
    constructor
    · rintro ⟨x, hx, hv⟩
      obtain ⟨w1, w2⟩ := hw x hx
      obtain ⟨u1, u2, _, _⟩ := wrong_none.1 w1
      rw [setOf_bit O w1] at hv
      have hv := of_decide_eq_true hv
      rcases hv.2 with g | ⟨g1, g2, g3, g4, g5⟩
      · exact (Bit.mem_iff.1 ((hM v).2 ⟨_, w2, g⟩)).2
      · obtain ⟨a, b, c, _⟩ := hR _ w2
        have m2 : x.s ∈ Bit.mem S := (hM _).2 ⟨_, w2, a, Nat.le_refl _, c⟩
        have i2 := hI _ (Bit.mem_iff.1 m2).2
        have := O.week g1
        omega
    · intro hv
      obtain ⟨r, hr, g⟩ := (hM v).1 (Bit.mem_iff.2 ⟨bit_lt hS hv, hv⟩)
      rw [← e3] at hr
      obtain ⟨x, hx, rfl⟩ := List.mem_map.1 hr
      refine ⟨x, hx, ?_⟩
      rw [setOf_bit O (hw x hx).1]
      exact decide_eq_true ⟨hI v hv, .inl g⟩
  rw [this]
theorem wrong_star {K : Kd} (O : K.Ok) {t : Nat} (ht : 1 ≤ t) (a : Nat) : wrong K ⟨K.lo, 0, K.hi, 0, t, a⟩ = none := wrong_none.2 ⟨.inl ⟨Nat.le_refl _, O.le⟩, .inl ⟨O.le, Nat.le_refl _⟩, O.le, ht⟩
theorem week_top {K : Kd} (O : K.Ok) (w : K.week = true) : K.hi < 7 := by have := O.week w; omega
theorem setOf_star {K : Kd} (O : K.Ok) (a : Nat) : setOf K ⟨K.lo, 0, K.hi, 0, 1, a⟩ = fullK K := by
  apply Nat.eq_of_testBit_eq
  intro v
  rw [setOf_bit O (wrong_star O (Nat.le_refl _) a), full_bit O]
  rw [Bool.eq_iff_iff]
  simp only [decide_eq_true_iff, Nat.mod_one]
  constructor
  · exact fun h => h.1
  · exact fun h => ⟨h, .inl ⟨h.1, h.2, trivial⟩⟩
/-- a star is read as all numbers -/
theorem parse_star {K : Kd} (O : K.Ok) : parse K [42] = (fullK K, true, 0, 0) := by
  unfold parse
  rw [scan_one (item_star K (.inl rfl) 0)]
  show (match bad K [⟨K.lo, 0, K.hi, 0, 1, 0⟩] with | some a => _ | none => _) = _
  rw [bad_none.2 (fun x hx => by rw [List.mem_singleton] at hx; subst hx; exact wrong_star O (Nat.le_refl _) 0)]
  show (total K [⟨K.lo, 0, K.hi, 0, 1, 0⟩], _, 0, 0) = _
  have : total K [⟨K.lo, 0, K.hi, 0, 1, 0⟩] = fullK K := by
    unfold total
    rw [List.foldl_cons, List.foldl_nil, Nat.zero_or, setOf_star O]
  rw [this]
  rfl
end Fld
end Go.Proofs.YtpnfifhanmpapaaGreatDoor
/- Plain facts: a comma behind a field; places; what Parse returns for two fields, and for a normal one. -/
namespace Go.Proofs.YtpnfifhanmpapaaGreatDoor
namespace Fld

/-! a comma behind a text -/
theorem while_stop {p : UInt8 → Bool} {c : UInt8} (h : p c = false) : ∀ (l t : List UInt8), (l ++ c :: t).takeWhile p = l.takeWhile p
  | [], t => by rw [List.nil_append, List.takeWhile_cons, h]; rfl
  | a :: l, t => by rw [List.cons_append, List.takeWhile_cons, List.takeWhile_cons, while_stop h l t]
theorem digs_comma (l t : List UInt8) : digs (l ++ 44 :: t) = digs l := by unfold digs; rw [while_stop (by decide)]
theorem lets_comma (l t : List UInt8) : lets (l ++ 44 :: t) = lets l := by unfold lets; rw [while_stop (by decide)]
theorem num_comma (l t : List UInt8) : num (l ++ 44 :: t) = num l := by unfold num; rw [digs_comma]
theorem value_comma (K : Kd) (l t : List UInt8) : value K (l ++ 44 :: t) = value K l := by unfold value; rw [lets_comma, num_comma]
theorem head_comma {l t : List UInt8} {k : UInt8} (hk : k ≠ 44) : (l ++ 44 :: t).head? = some k ↔ l.head? = some k := by
  cases l with
  | nil => simp [hk.symm]
  | cons a l => simp
theorem tail_comma {l t : List UInt8} {k : UInt8} (h : l.head? = some k) : (l ++ 44 :: t).tail = l.tail ++ 44 :: t := by
  cases l with
  | nil => cases h
  | cons a l => rfl
/-- more stands behind it -/
def Res.ext (m : List UInt8) : Res → Res
  | .inl (x, q, r) => .inl (x, q, r ++ m)
  | .inr q => .inr q
theorem rStep_comma (x : It) (l t : List UInt8) (p : Nat) : rStep x (l ++ 44 :: t) p = (rStep x l p).ext (44 :: t) := by
  unfold rStep
  rw [num_comma]
  cases h : num l with
  | none => rfl
  | some o =>
    obtain ⟨n, k⟩ := o
    show Sum.inl (_, _, (l ++ 44 :: t).drop k) = Sum.inl (_, _, l.drop k ++ 44 :: t)
    rw [List.drop_append_of_le_length (num_len h).2.1]
theorem rNums_comma (x : It) (l t : List UInt8) (p : Nat) : rNums x (l ++ 44 :: t) p = (rNums x l p).ext (44 :: t) := by
  unfold rNums
  by_cases h : l.head? = some 47
  · rw [if_pos ((head_comma (by decide)).2 h), if_pos h, tail_comma h, rStep_comma]
  · rw [if_neg (fun q => h ((head_comma (by decide)).1 q)), if_neg h]
    rfl
theorem rSec_comma (K : Kd) (x : It) (l t : List UInt8) (p : Nat) : rSec K x (l ++ 44 :: t) p = (rSec K x l p).ext (44 :: t) := by
  unfold rSec
  rw [value_comma]
  cases h : value K l with
  | none => rfl
  | some o =>
    obtain ⟨n, k⟩ := o
    show rNums _ ((l ++ 44 :: t).drop k) _ = (rNums _ (l.drop k) _).ext _
    rw [List.drop_append_of_le_length (value_len h).2, rNums_comma]
theorem rVal_comma (K : Kd) (x : It) (l t : List UInt8) (p : Nat) : rVal K x (l ++ 44 :: t) p = (rVal K x l p).ext (44 :: t) := by
  unfold rVal
  by_cases h : l.head? = some 45
  · rw [if_pos ((head_comma (by decide)).2 h), if_pos h, tail_comma h, rSec_comma]
  · rw [if_neg (fun q => h ((head_comma (by decide)).1 q)), if_neg h]
    by_cases h2 : l.head? = some 47
    · rw [if_pos ((head_comma (by decide)).2 h2), if_pos h2, tail_comma h2, rStep_comma]
    · rw [if_neg (fun q => h2 ((head_comma (by decide)).1 q)), if_neg h2]
      rfl
theorem item_comma (K : Kd) (l t : List UInt8) (p : Nat) : item K (l ++ 44 :: t) p = (item K l p).ext (44 :: t) := by
  unfold item
  by_cases h : l.head? = some 42
  · rw [if_pos ((head_comma (by decide)).2 h), if_pos h, tail_comma h, rNums_comma]
  · rw [if_neg (fun q => h ((head_comma (by decide)).1 q)), if_neg h, value_comma]
    cases h : value K l with
    | none => rfl
    | some o =>
      obtain ⟨n, k⟩ := o
      show rVal K _ ((l ++ 44 :: t).drop k) _ = (rVal K _ (l.drop k) _).ext _
      rw [List.drop_append_of_le_length (value_len h).2, rVal_comma]
/-- what is left of a text behind an item -/
theorem item_rest {K : Kd} {l r : List UInt8} {p q : Nat} {x : It} (h : item K l p = .inl (x, q, r)) : q + r.length = p + l.length ∧ p ≤ q := by
  obtain ⟨a, b, rfl⟩ := item_len h
  rw [List.length_drop]
  omega
/-- an item has at least one byte -/
theorem item_some {K : Kd} {l r : List UInt8} {p q : Nat} {x : It} (h : item K l p = .inl (x, q, r)) : p < q := by
  have up : ∀ {l' : List UInt8} {p' : Nat} {R : Res}, At l' p' R → R = .inl (x, q, r) → p' ≤ q := fun a e => by rw [e] at a; exact a.1
  unfold item at h
  split at h
  · exact up (rNums_at _ _ _) h
  · split at h
    · cases h
    · rename_i n k hv
      have := value_len hv
      have := up (rVal_at K _ _ _) h
      omega
theorem scan_app (K : Kd) (t : List UInt8) : ∀ (n : Nat) (l : List UInt8) (p : Nat), l.length ≤ n →
    ((scan K l p).2 = none → scan K (l ++ 44 :: t) p = ((scan K l p).1 ++ (scan K t (p + l.length + 1)).1, (scan K t (p + l.length + 1)).2)) ∧
    (∀ q, (scan K l p).2 = some q → (scan K (l ++ 44 :: t) p).2 = some q) := by
  intro n
  induction n with
  | zero =>
    intro l p hl
    obtain rfl : l = [] := List.length_eq_zero_iff.1 (by omega)
    have e : ∀ l, item K [] p ≠ .inl l := by
      rintro ⟨x, q, r⟩ e
      have := item_some e
      have := item_rest e
      simp at this
      omega
    have e2 := item_comma K [] t p
    rw [scan_go, scan_go K ([] ++ 44 :: t), e2]
    cases h : item K [] p with
    | inl o => exact (e o h).elim
    | inr q => exact ⟨fun q => (by cases q), fun q' hq => hq⟩
  | succ n ih =>
    intro l p hl
    have e2 := item_comma K l t p
    rw [scan_go, scan_go K (l ++ 44 :: t), e2]
    cases h : item K l p with
    | inr q => exact ⟨fun q => (by cases q), fun q' hq => hq⟩
    | inl o =>
      obtain ⟨x, q, r⟩ := o
      have h1 := item_rest h
      have h2 := item_some h
      show (_ → go K (.inl (x, q, r ++ 44 :: t)) = _) ∧ (∀ q', _ → (go K (.inl (x, q, r ++ 44 :: t))).2 = some q')
      cases r with
      | nil =>
        rw [List.nil_append, go_comma, go_end]
        refine ⟨fun _ => ?_, fun q' hq => by cases hq⟩
        simp only [List.length_nil, Nat.add_zero] at h1
        rw [← h1.1]
        rfl
      | cons c r =>
        rw [List.cons_append]
        by_cases hc : c = 44
        · subst hc
          rw [go_comma, go_comma]
          simp only [List.length_cons] at h1
          obtain ⟨i1, i2⟩ := ih r (q + 1) (by omega)
          refine ⟨fun hn => ?_, fun q' hq => i2 q' hq⟩
          have := i1 hn
          rw [show q + 1 + r.length + 1 = p + l.length + 1 by omega] at this
          rw [this]
          rfl
        · rw [go_junk K x q c _ hc, go_junk K x q c _ hc]
          exact ⟨fun q => (by cases q), fun q' hq => hq⟩

/-! a field that begins later -/
inductive All2 {α : Type} (R : α → α → Prop) : List α → List α → Prop
  | nil : All2 R [] []
  | cons {a b : α} {l m : List α} (h : R a b) (r : All2 R l m) : All2 R (a :: l) (b :: m)
structure Sh (K : Kd) (d : Nat) (x x' : It) : Prop where
  f : x'.f = x.f
  s : x'.s = x.s
  t : x'.t = x.t
  at_ : (x'.fa = x.fa + d ∧ x'.sa = x.sa + d) ∨ (x.f = K.lo ∧ x.s = K.hi)
  ta : x'.ta = x.ta + d ∨ x.t ≠ 0
inductive ShR (K : Kd) (d : Nat) : Res → Res → Prop
  | ok {x x' : It} {q : Nat} {r : List UInt8} (h : Sh K d x x') : ShR K d (.inl (x, q, r)) (.inl (x', q + d, r))
  | err {q : Nat} : ShR K d (.inr q) (.inr (q + d))
theorem ShR.ok' {K : Kd} {d : Nat} {x x' : It} {q q' : Nat} {r : List UInt8} (h : Sh K d x x') (e : q' = q + d) : ShR K d (.inl (x, q, r)) (.inl (x', q', r)) := by subst e; exact .ok h
theorem rStep_sh {K : Kd} {d : Nat} {x x' : It} (h : Sh K d x x') (l : List UInt8) (p p' : Nat) (e : p' = p + d) : ShR K d (rStep x l p) (rStep x' l p') := by
  subst e
  unfold rStep
  cases num l with
  | none => exact .err
  | some o =>
    obtain ⟨n, k⟩ := o
    exact .ok' ⟨h.f, h.s, rfl, h.at_, .inl rfl⟩ (by omega)
theorem rNums_sh {K : Kd} {d : Nat} {x x' : It} (h : Sh K d x x') (l : List UInt8) (p p' : Nat) (e : p' = p + d) : ShR K d (rNums x l p) (rNums x' l p') := by
  unfold rNums
  split
  · exact rStep_sh h _ _ _ (by omega)
  · exact .ok' h e
theorem rSec_sh {K : Kd} {d : Nat} {x x' : It} (h : Sh K d x x') (hf : x'.fa = x.fa + d) (l : List UInt8) (p p' : Nat) (e : p' = p + d) : ShR K d (rSec K x l p) (rSec K x' l p') := by
  unfold rSec
  cases value K l with
  | none => subst e; exact .err
  | some o =>
    obtain ⟨n, k⟩ := o
    exact rNums_sh (x := { x with s := n, sa := p }) (x' := { x' with s := n, sa := p' }) ⟨h.f, rfl, h.t, .inl ⟨hf, e⟩, h.ta⟩ _ _ _ (by omega)
theorem rVal_sh {K : Kd} {d : Nat} {x x' : It} (h : Sh K d x x') (hf : x'.fa = x.fa + d) (hs : x'.sa = x.sa + d) (l : List UInt8) (p p' : Nat) (e : p' = p + d) : ShR K d (rVal K x l p) (rVal K x' l p') := by
  unfold rVal
  split
  · exact rSec_sh h hf _ _ _ (by omega)
  · split
    · refine rStep_sh (x := { x with s := max x.f K.hi }) (x' := { x' with s := max x'.f K.hi }) ⟨h.f, ?_, h.t, .inl ⟨hf, hs⟩, h.ta⟩ _ _ _ (by omega)
      show max x'.f K.hi = max x.f K.hi
      rw [h.f]
    · exact .ok' h e
theorem item_sh (K : Kd) (d : Nat) (l : List UInt8) (p p' : Nat) (e : p' = p + d) : ShR K d (item K l p) (item K l p') := by
  unfold item
  split
  · exact rNums_sh (x := ⟨K.lo, 0, K.hi, 0, 1, 0⟩) (x' := ⟨K.lo, 0, K.hi, 0, 1, 0⟩) ⟨rfl, rfl, rfl, .inr ⟨rfl, rfl⟩, .inr Nat.one_ne_zero⟩ _ _ _ (by omega)
  · cases value K l with
    | none => subst e; exact .err
    | some o =>
      obtain ⟨n, k⟩ := o
      exact rVal_sh (x := ⟨n, p, n, p, 1, 0⟩) (x' := ⟨n, p', n, p', 1, 0⟩) ⟨rfl, rfl, rfl, .inl ⟨e, e⟩, .inr Nat.one_ne_zero⟩ e e _ _ _ (by omega)
theorem scan_sh (K : Kd) (d : Nat) : ∀ (n : Nat) (l : List UInt8) (p p' : Nat), l.length ≤ n → p' = p + d → All2 (Sh K d) (scan K l p).1 (scan K l p').1 ∧ (scan K l p').2 = (scan K l p).2.map (· + d) := by
  intro n
  induction n with
  | zero =>
    intro l p p' hl e
    have hs := item_sh K d l p p' e
    rw [scan_go, scan_go K l p']
    cases h : item K l p with
    | inl o =>
      obtain ⟨x, q, r⟩ := o
      have := item_some h
      have := item_rest h
      omega
    | inr q =>
      rw [h] at hs
      generalize item K l p' = R at hs
      cases hs
      exact ⟨.nil, rfl⟩
  | succ n ih =>
    intro l p p' hl e
    have hs := item_sh K d l p p' e
    rw [scan_go, scan_go K l p']
    cases h : item K l p with
    | inr q =>
      rw [h] at hs
      generalize item K l p' = R at hs
      cases hs
      exact ⟨.nil, rfl⟩
    | inl o =>
      obtain ⟨x, q, r⟩ := o
      have h1 := item_rest h
      have h2 := item_some h
      rw [h] at hs
      generalize item K l p' = R at hs
      cases hs with
      | ok hx =>
        cases r with
        | nil => exact ⟨.cons hx .nil, rfl⟩
        | cons c r =>
          by_cases hc : c = 44
          · subst hc
            simp only [List.length_cons] at h1
            obtain ⟨i1, i2⟩ := ih r (q + 1) (q + d + 1) (by omega) (by omega)
            rw [go_comma, go_comma]
            exact ⟨.cons hx i1, i2⟩
          · rw [go_junk K _ q c _ hc, go_junk K _ _ c _ hc]
            exact ⟨.nil, rfl⟩
theorem wrong_sh {K : Kd} (O : K.Ok) {d : Nat} {x x' : It} (h : Sh K d x x') : wrong K x' = (wrong K x).map (· + d) := by
  obtain ⟨f, s, t, a, b⟩ := h
  unfold wrong
  rw [f, s, t]
  have hl : x.f = K.lo → has K x.f := fun e => .inl ⟨by omega, by have := O.le; omega⟩
  have hh : x.s = K.hi → has K x.s := fun e => .inl ⟨by have := O.le; omega, by omega⟩
  have hle := O.le
  split
  · rename_i c
    rcases a with ⟨a, _⟩ | ⟨a, _⟩
    · rw [a]; rfl
    · exact (c (hl a)).elim
  · split
    · rename_i c
      rcases a with ⟨_, a⟩ | ⟨_, a⟩
      · rw [a]; rfl
      · exact (c (hh a)).elim
    · split
      · rename_i c
        rcases a with ⟨a, _⟩ | ⟨a1, a2⟩
        · rw [a]; rfl
        · omega
      · split
        · rename_i c
          rcases b with b | b
          · rw [b]; rfl
          · exact (b c).elim
        · rfl
theorem bad_sh {K : Kd} (O : K.Ok) {d : Nat} {xs ys : List It} (h : All2 (Sh K d) xs ys) : bad K ys = (bad K xs).map (· + d) := by
  unfold bad
  induction h with
  | nil => rfl
  | cons a r ih =>
    rw [List.findSome?_cons, List.findSome?_cons, wrong_sh O a, ih]
    cases wrong K _ <;> rfl
theorem total_sh {K : Kd} {d : Nat} {xs ys : List It} (h : All2 (Sh K d) xs ys) : total K ys = total K xs := by
  unfold total
  generalize 0 = A
  induction h generalizing A with
  | nil => rfl
  | cons a r ih =>
    rw [List.foldl_cons, List.foldl_cons]
    rename_i x y _ _
    have e : setOf K y = setOf K x := by unfold setOf; rw [a.f, a.s, a.t]
    rw [e, ih]

/-! what Parse returns for two fields -/
theorem parse_err' (K : Kd) (l : List UInt8) : (parse K l).2.2.2 = 0 ∨ (parse K l).2.2.2 = 2 ∨ (parse K l).2.2.2 = 10 := by
  unfold parse
  split
  · exact .inr (.inr rfl)
  · split
    · exact .inr (.inl rfl)
    · exact .inl rfl
/-- the three ways of Parse -/
theorem parse_form {K : Kd} {l : List UInt8} {q : Nat} (h : (scan K l 0).2 = some q) : parse K l = (0, false, q, 10) := by unfold parse; rw [h]
theorem parse_arg {K : Kd} {l : List UInt8} {a : Nat} (h : (scan K l 0).2 = none) (hb : bad K (scan K l 0).1 = some a) : parse K l = (0, false, a, 2) := by unfold parse; rw [h]; simp only [hb]
theorem parse_ok {K : Kd} {l : List UInt8} (h : (scan K l 0).2 = none) (hb : bad K (scan K l 0).1 = none) : parse K l = (total K (scan K l 0).1, l == [42], 0, 0) := by unfold parse; rw [h]; simp only [hb]
def two (P Q : Nat × Bool × Nat × Nat) (n : Nat) : Nat × Bool × Nat × Nat :=
  if P.2.2.2 = 10 then (0, false, P.2.2.1, 10) else if Q.2.2.2 = 10 then (0, false, Q.2.2.1 + (n + 1), 10) else if P.2.2.2 = 2 then (0, false, P.2.2.1, 2)
  else if Q.2.2.2 = 2 then (0, false, Q.2.2.1 + (n + 1), 2) else (P.1 ||| Q.1, false, 0, 0)
theorem parse_two {K : Kd} (O : K.Ok) (l t : List UInt8) : parse K (l ++ 44 :: t) = two (parse K l) (parse K t) l.length := by
  obtain ⟨a1, a2⟩ := scan_app K t l.length l 0 (Nat.le_refl _)
  obtain ⟨b1, b2⟩ := scan_sh K (l.length + 1) t.length t 0 (l.length + 1) (Nat.le_refl _) (by omega)
  rw [Nat.zero_add] at a1
  cases h1 : (scan K l 0).2 with
  | some q => rw [parse_form h1, parse_form (a2 q h1)]; rfl
  | none =>
    have e := a1 h1
    cases h2 : (scan K t 0).2 with
    | some q =>
      rw [h2] at b2
      rw [parse_form h2, parse_form (q := q + (l.length + 1)) (by rw [e]; exact b2)]
      unfold two
      rw [if_neg, if_pos rfl]
      intro c
      cases hb : bad K (scan K l 0).1 with
      | none => rw [parse_ok h1 hb] at c; cases c
      | some a => rw [parse_arg h1 hb] at c; cases c
    | none =>
      rw [h2] at b2
      have e2 : (scan K (l ++ 44 :: t) 0).2 = none := by rw [e]; exact b2
      have e1 : (scan K (l ++ 44 :: t) 0).1 = (scan K l 0).1 ++ (scan K t (l.length + 1)).1 := by rw [e]
      have hb : bad K (scan K (l ++ 44 :: t) 0).1 = (bad K (scan K l 0).1).or ((bad K (scan K t 0).1).map (· + (l.length + 1))) := by rw [e1, bad_app, bad_sh O b1]
      cases g1 : bad K (scan K l 0).1 with
      | some a =>
        rw [g1] at hb
        rw [parse_arg h1 g1, parse_arg e2 hb]
        cases g2 : bad K (scan K t 0).1 with
        | some a2 => rw [parse_arg h2 g2]; rfl
        | none => rw [parse_ok h2 g2]; rfl
      | none =>
        rw [g1] at hb
        cases g2 : bad K (scan K t 0).1 with
        | some a2 =>
          rw [g2] at hb
          rw [parse_arg h2 g2, parse_ok h1 g1, parse_arg e2 hb]
          rfl
        | none =>
          rw [g2] at hb
          rw [parse_ok h2 g2, parse_ok h1 g1, parse_ok e2 hb, e1, total_app, total_sh b1]
          have : (l ++ 44 :: t == [42]) = false := by
            rw [beq_eq_false_iff_ne]
            intro q
            cases l with
            | nil => cases q
            | cons a l => simp at q
          rw [this]
          rfl

/-! places -/
def Pl (x : It) (q : Nat) : Prop := x.fa < q ∧ x.sa < q ∧ x.ta < q
def PlR : Res → Prop
  | .inl (x, q, _) => Pl x q
  | .inr _ => True
theorem Pl.mono {x : It} {p q : Nat} (h : Pl x p) (e : p ≤ q) : Pl x q := ⟨by have := h.1; omega, by have := h.2.1; omega, by have := h.2.2; omega⟩
theorem rStep_pl {x : It} {p : Nat} (h : Pl x p) (l : List UInt8) : PlR (rStep x l p) := by
  unfold rStep
  cases e : num l with
  | none => trivial
  | some o =>
    obtain ⟨n, k⟩ := o
    have := num_len e
    exact ⟨by have := h.1; show x.fa < p + k; omega, by have := h.2.1; show x.sa < p + k; omega, by show p < p + k; omega⟩
theorem rNums_pl {x : It} {p : Nat} (h : Pl x p) (l : List UInt8) : PlR (rNums x l p) := by
  unfold rNums
  split
  · exact rStep_pl (h.mono (by omega)) _
  · exact h
theorem rSec_pl (K : Kd) {x : It} {p : Nat} (h : Pl x p) (l : List UInt8) : PlR (rSec K x l p) := by
  unfold rSec
  cases e : value K l with
  | none => trivial
  | some o =>
    obtain ⟨n, k⟩ := o
    have := value_len e
    exact rNums_pl ⟨by have := h.1; show x.fa < p + k; omega, by show p < p + k; omega, by have := h.2.2; show x.ta < p + k; omega⟩ _
theorem rVal_pl (K : Kd) {x : It} {p : Nat} (h : Pl x p) (l : List UInt8) : PlR (rVal K x l p) := by
  unfold rVal
  split
  · exact rSec_pl K (h.mono (by omega)) _
  · split
    · exact rStep_pl (show Pl { x with s := max x.f K.hi } (p + 1) from h.mono (by omega)) _
    · exact h
theorem item_pl {K : Kd} {l r : List UInt8} {p q : Nat} {x : It} (h : item K l p = .inl (x, q, r)) : Pl x q := by
  have key : PlR (item K l p) := by
    unfold item
    split
    · exact rNums_pl ⟨by show 0 < p + 1; omega, by show 0 < p + 1; omega, by show 0 < p + 1; omega⟩ _
    · cases e : value K l with
      | none => trivial
      | some o =>
        obtain ⟨n, k⟩ := o
        have := value_len e
        exact rVal_pl K ⟨by show p < p + k; omega, by show p < p + k; omega, by show 0 < p + k; omega⟩ _
  rw [h] at key
  exact key
theorem scan_pl (K : Kd) : ∀ (n : Nat) (l : List UInt8) (p : Nat), l.length ≤ n → (∀ x ∈ (scan K l p).1, Pl x (p + l.length)) ∧ (∀ q, (scan K l p).2 = some q → p ≤ q ∧ q ≤ p + l.length) ∧ ((scan K l p).2 = none → (scan K l p).1 ≠ []) := by
  intro n
  induction n with
  | zero =>
    intro l p hl
    rw [scan_go]
    cases h : item K l p with
    | inl o =>
      obtain ⟨x, q, r⟩ := o
      have := item_some h
      have := item_rest h
      omega
    | inr q =>
      have := item_fail h
      refine ⟨fun x hx => (by cases hx), fun q' e => ?_, fun e => (by cases e)⟩
      obtain rfl : q = q' := by simpa [go] using e
      omega
  | succ n ih =>
    intro l p hl
    rw [scan_go]
    cases h : item K l p with
    | inr q =>
      have := item_fail h
      refine ⟨fun x hx => (by cases hx), fun q' e => ?_, fun e => (by cases e)⟩
      obtain rfl : q = q' := by simpa [go] using e
      omega
    | inl o =>
      obtain ⟨x, q, r⟩ := o
      have h1 := item_rest h
      have h2 := item_some h
      have h3 := item_pl h
      cases r with
      | nil =>
        rw [go_end]
        refine ⟨fun y hy => ?_, fun q' e => (by cases e), fun _ => (by simp)⟩
        rw [List.mem_singleton] at hy
        subst hy
        exact h3.mono (by simp at h1; omega)
      | cons c r =>
        by_cases hc : c = 44
        · subst hc
          simp only [List.length_cons] at h1
          obtain ⟨i1, i2, i3⟩ := ih r (q + 1) (by omega)
          rw [go_comma]
          refine ⟨fun y hy => ?_, fun q' e => ?_, fun _ => (by simp)⟩
          · rcases List.mem_cons.1 hy with rfl | hy
            · exact h3.mono (by omega)
            · exact (i1 y hy).mono (by omega)
          · have := i2 q' e
            omega
        · rw [go_junk K x q c _ hc]
          simp only [List.length_cons] at h1
          refine ⟨fun x hx => (by cases hx), fun q' e => ?_, fun e => (by cases e)⟩
          obtain rfl : q = q' := by simpa using e
          omega
theorem wrong_pl {K : Kd} {x : It} {q a : Nat} (h : Pl x q) (e : wrong K x = some a) : a < q := by
  obtain ⟨h1, h2, h3⟩ := h
  unfold wrong at e
  split at e
  · simp only [Option.some.injEq] at e; omega
  · split at e
    · simp only [Option.some.injEq] at e; omega
    · split at e
      · simp only [Option.some.injEq] at e; omega
      · split at e
        · simp only [Option.some.injEq] at e; omega
        · cases e
theorem bad_pl {K : Kd} {xs : List It} {q a : Nat} (h : ∀ x ∈ xs, Pl x q) (e : bad K xs = some a) : a < q := by
  unfold bad at e
  obtain ⟨x, hx, e⟩ := List.exists_of_findSome?_eq_some e
  exact wrong_pl (h x hx) e
/-- what an error comes with -/
theorem parse_bad {K : Kd} (l : List UInt8) (h : (parse K l).2.2.2 ≠ 0) : (parse K l).1 = 0 ∧ (parse K l).2.1 = false ∧ (parse K l).2.2.1 ≤ l.length ∧ ((parse K l).2.2.2 = 10 ∨ ((parse K l).2.2.2 = 2 ∧ (parse K l).2.2.1 < l.length)) := by
  obtain ⟨p1, p2, _⟩ := scan_pl K l.length l 0 (Nat.le_refl _)
  rw [Nat.zero_add] at p1
  cases h1 : (scan K l 0).2 with
  | some q =>
    rw [parse_form h1]
    have := p2 q h1
    exact ⟨rfl, rfl, by show q ≤ l.length; omega, .inl rfl⟩
  | none =>
    cases h2 : bad K (scan K l 0).1 with
    | some a =>
      rw [parse_arg h1 h2]
      have := bad_pl p1 h2
      exact ⟨rfl, rfl, by show a ≤ l.length; omega, .inr ⟨rfl, this⟩⟩
    | none => rw [parse_ok h1 h2] at h; exact (h rfl).elim
theorem setOf_in {K : Kd} (O : K.Ok) {x : It} (h : wrong K x = none) : In K (setOf K x) ∧ setOf K x ≠ 0 := by
  refine ⟨fun v hv => ?_, fun e => ?_⟩
  · rw [setOf_bit O h] at hv
    exact (of_decide_eq_true hv).1
  · obtain ⟨h1, h2, h3, h4⟩ := wrong_none.1 h
    rcases h1 with h1 | ⟨w, h1⟩
    · have := setOf_bit O h x.f
      rw [e, Nat.zero_testBit] at this
      have := of_decide_eq_false this.symm
      exact this ⟨h1, .inl ⟨Nat.le_refl _, h3, by simp⟩⟩
    · have := setOf_bit O h 0
      rw [e, Nat.zero_testBit] at this
      have := of_decide_eq_false this.symm
      have w2 := O.week w
      exact this ⟨by omega, .inr ⟨w, rfl, by omega, by omega, by rw [h1]; simp⟩⟩
/-- what a field that is right comes with -/
theorem parse_good {K : Kd} (O : K.Ok) (l : List UInt8) (h : (parse K l).2.2.2 = 0) : (parse K l).1 ≠ 0 ∧ In K (parse K l).1 ∧ (parse K l).2.1 = (l == [42]) ∧ (parse K l).2.2.1 = 0 ∧ ((parse K l).2.1 = true → (parse K l).1 = fullK K) := by
  obtain ⟨_, _, p3⟩ := scan_pl K l.length l 0 (Nat.le_refl _)
  cases h1 : (scan K l 0).2 with
  | some q => rw [parse_form h1] at h; cases h
  | none =>
    cases h2 : bad K (scan K l 0).1 with
    | some a => rw [parse_arg h1 h2] at h; cases h
    | none =>
      have hw := bad_none.1 h2
      refine ⟨?_, ?_, ?_, ?_, ?_⟩
      · rw [parse_ok h1 h2]
        show total K (scan K l 0).1 ≠ 0
        cases hq : (scan K l 0).1 with
        | nil => exact (p3 h1 hq).elim
        | cons x r =>
          intro e
          have hx := setOf_in O (hw x (by rw [hq]; simp))
          obtain ⟨v, hv⟩ : ∃ v, (setOf K x).testBit v = true := by
            apply Classical.byContradiction
            intro c
            apply hx.2
            apply Nat.eq_of_testBit_eq
            intro v
            rw [Nat.zero_testBit]
            cases q : (setOf K x).testBit v with
            | false => rfl
            | true => exact (c ⟨v, q⟩).elim
          have t := total_bit K (x :: r) v
          rw [e, Nat.zero_testBit, List.any_cons, hv, Bool.true_or] at t
          cases t
      · rw [parse_ok h1 h2]
        intro v hv
        have hv : (total K (scan K l 0).1).testBit v = true := hv
        rw [total_bit, List.any_eq_true] at hv
        obtain ⟨x, hx, hv⟩ := hv
        exact (setOf_in O (hw x hx)).1 v hv
      · rw [parse_ok h1 h2]
      · rw [parse_ok h1 h2]
      · intro hs
        rw [parse_ok h1 h2] at hs
        have hs : (l == [42]) = true := hs
        obtain rfl : l = [42] := by simpa using hs
        rw [parse_star O]

/-! normal fields -/
theorem sub_full {K : Kd} (O : K.Ok) {S : Nat} (h : In K S) : subB S (fullK K) = true := by
  unfold subB
  rw [decide_eq_true_iff]
  apply Nat.eq_of_testBit_eq
  intro v
  rw [Nat.testBit_and, full_bit O]
  cases q : S.testBit v with
  | false => rfl
  | true => rw [Bool.true_and, decide_eq_true (h v q)]
theorem print_norm {K : Kd} (O : K.Ok) {S : Nat} {star : Bool} (h0 : S ≠ 0) (h : In K S) (hs : star = true → S = fullK K) : printR K S star = (if star = true then [42] else txt S, 0) := by
  unfold printR
  rw [if_neg]
  · split <;> rfl
  · rintro (c | c | ⟨c, d⟩)
    · exact h0 c
    · rw [sub_full O h] at c; cases c
    · exact d (hs c)
theorem norm_form {K : Kd} (O : K.Ok) (l : List UInt8) (h : (parse K l).2.2.2 = 0) : normR K l = (if (parse K l).2.1 = true then [42] else txt (parse K l).1, 0, 0) := by
  obtain ⟨a, b, c, d, e⟩ := parse_good O l h
  unfold normR
  rw [if_pos h, print_norm O a b e]
theorem norm_read {K : Kd} (O : K.Ok) (l : List UInt8) (h : (parse K l).2.2.2 = 0) : parse K (normR K l).1 = ((parse K l).1, (parse K l).2.1, 0, 0) := by
  obtain ⟨a, b, c, d, e⟩ := parse_good O l h
  rw [norm_form O l h]
  cases q : (parse K l).2.1 with
  | true => rw [if_pos rfl, parse_star O, e q]
  | false => rw [if_neg (by decide), parse_txt O a (parse_lt O l) b]
theorem norm_norm {K : Kd} (O : K.Ok) (l : List UInt8) (h : (parse K l).2.2.2 = 0) : normR K (normR K l).1 = ((normR K l).1, 0, 0) := by
  have r := norm_read O l h
  have e : (parse K (normR K l).1).2.2.2 = 0 := by rw [r]
  rw [norm_form O _ e, r]
  have e2 := norm_form O l h
  rw [e2]
theorem norm_bad {K : Kd} (l : List UInt8) (h : (parse K l).2.2.2 ≠ 0) : normR K l = ([], (parse K l).2.2.1, (parse K l).2.2.2) := by unfold normR; rw [if_neg h]
end Fld
end Go.Proofs.YtpnfifhanmpapaaGreatDoor
