/- Contract of Print of package field. -/
import Derived.Test.YtlmbfhbfejjpdaaGreatDoorFldN
import Derived.Maps.AppendAt
namespace Go.Proofs.YtlmbfhbfejjpdaaGreatDoor
open Go.ChangeShapes Go.WideShapes Go.RowKit Go.Shelf

/-- all numbers of a kind -/
def fullK (K : Fld.Kd) : Nat := Bit.rangeS K.lo K.hi 1
theorem fullK_is (K : Fld.Kd) : fullS K.lo K.hi = fullK K := by simp [fullS, fullK]
/-- the text of some runs -/
def txtR (rs : List (Nat × Nat × Nat)) : List UInt8 := Lib.join (rs.map runT) [44]
/-- the text of a set -/
def txt (S : Nat) : List UInt8 := txtR (Bit.runs (Bit.mem S))
/-- what Print returns for a valid kind -/
def printR (K : Fld.Kd) (S : Nat) (star : Bool) : List UInt8 × Nat :=
  if S = 0 ∨ subB S (fullK K) = false ∨ (star = true ∧ S ≠ fullK K) then ([], 2) else if star = true then ([42], 0) else (txt S, 0)
theorem run_bd {S : Nat} : ∀ r ∈ Bit.runs (Bit.mem S), r.1 < 64 ∧ r.2.1 < 64 ∧ r.2.2 < 100 ∧ r.1 ≤ r.2.1 := by
  intro r hr
  obtain ⟨h1, h2⟩ := Bit.runs_all (Bit.mem S) (Bit.mem_sorted S)
  obtain ⟨q1, q2, q3, q4, _⟩ := h1 r hr
  have hin : ∀ v ∈ Bit.numsR r, v < 64 := fun v hv => Bit.mem_lt (S := S) (by rw [← h2]; exact List.mem_flatMap.2 ⟨r, hr, hv⟩)
  have hb : r.2.1 ∈ Bit.numsR r := by
    unfold Bit.numsR
    rw [Bit.nums_range q1 q2]
    exact ⟨q1, Nat.le_refl _, q3⟩
  have hb64 := hin _ hb
  refine ⟨by omega, hb64, ?_, q1⟩
  rcases Nat.lt_or_ge r.2.2 100 with c | c
  · exact c
  · have e : r.2.1 - r.1 = 0 := by
      have := Nat.mod_eq_of_lt (show r.2.1 - r.1 < r.2.2 by omega)
      omega
    have := q4 (by omega)
    omega
theorem txt_len (S : Nat) : (txt S).length ≤ 600 := by
  unfold txt txtR
  have hl : (Bit.runs (Bit.mem S)).length ≤ 64 := Nat.le_trans (Bit.runs_len _) (Bit.mem_len S)
  have key : ∀ rs : List (Nat × Nat × Nat), Lib.lens (rs.map runT) ≤ 8 * rs.length := by
    intro rs
    induction rs with
    | nil => simp [Lib.lens]
    | cons r rs ih =>
      have := runT_len r
      simp only [Lib.lens, List.map_cons, List.sum_cons, List.length_cons] at ih ⊢
      omega
  cases h : Bit.runs (Bit.mem S) with
  | nil => simp [Lib.join_nil]
  | cons r rs =>
    rw [h] at hl
    have := key (r :: rs)
    rw [List.map_cons, Lib.join_length, ← List.map_cons, List.length_map]
    simp only [List.length_cons, List.length_nil] at this hl ⊢
    omega
theorem infoStr : (Tryz.prog.info? 9).map (fun i => (i.zero, i.size, i.bytes)) = some (some (.string ⟨#[]⟩), 1, 16) := by kernel_rfl
/-- cells of the call's own -/
structure OwnR (z : Nat) (t : TypeId) (m : Nat) (w : World) (v : Value) (k : Nat) (xs : List Value) (wr : World) : Prop where
  row : wr.ownsRow z t m v k xs
  below : Below z w wr
theorem own_spot {W : World} {base : Nat} {e : TypeId} {size : Nat} {v : Value} {k : Nat} {xs : List Value} (h : W.ownsRow base e size v k xs) (h0 : 0 < k) :
    ∃ g cap, v = .slice (some ⟨g, 0, none⟩) k cap ∧ g < W.heap.size ∧ k ≤ cap ∧ ∀ (j : Nat) u, xs[j]? = some u → W.cell? ⟨g, j, none⟩ = some u := by
  rcases h.2 with ⟨_, hk⟩ | ⟨g, cap, cur, rfl, _, hgb, hc, _, _, ht⟩
  · omega
  · refine ⟨g, cap, rfl, (Array.getElem?_eq_some_iff.1 hgb).1, hc, fun j u hu => ?_⟩
    have hj : j < k * size := by rw [← h.1]; exact (List.getElem?_eq_some_iff.1 hu).1
    rw [← ht, List.getElem?_take_of_lt hj, Array.getElem?_toList] at hu
    simp only [World.cell?, hgb]
    exact hu
/-- the texts of the first k runs -/
def rtx (rs : List (Nat × Nat × Nat)) (k : Nat) : List Value := (rs.take k).map fun r => .string ⟨(runT r).toArray⟩
theorem rtx_succ (rs : List (Nat × Nat × Nat)) (k : Nat) (h : k < rs.length) : rtx rs (k + 1) = rtx rs k ++ [.string ⟨(runT rs[k]).toArray⟩] := by
  unfold rtx
  rw [List.take_succ_eq_append_getElem h, List.map_append]
  rfl

theorem print_bad (K : Fld.Kd) (v : Value) (xs : List ByteArray) (S : Nat) (star : Bool) (w : World) (hv : IsStrs w v xs) (hk : KdIs K.lo K.hi xs K.week K) (hS : S < 2 ^ 64)
    (h : S = 0 ∨ subB S (fullK K) = false ∨ (star = true ∧ S ≠ fullK K)) :
    Calls Tryz.prog 14 #[.agg #[.int .i64 K.lo, .int .i64 K.hi, v, .bool K.week], .int .u64 S, .bool star] w fun e w' => e = .returned (.tuple #[.string ⟨#[]⟩, .int .i64 2]) ∧ Below w.heap.size w w' := by
  have V0 := hv.below (spec_box w K.lo K.hi v K.week)
  have C := full_yes K.lo K.hi v xs K.week _ V0 hk.valid
  have hF := fullS_lt hk.valid
  rw [fullK_is] at C hF
  have C := Lib.hid C
  have IN := Lib.hid (fun w => inside_any S (fullK K) w hS hF)
  obtain ⟨A, cap, rfl, _, _⟩ := hv
  generalize fullK K = F at *
  clear V0 hk
  by_cases h0 : S = 0
  · subst h0
    clear h
    go_enter Tryz.func14, Tryz.ntmps14
    go_wp2_with fail
    refine C.out.mono ?_
    rintro e w1 ⟨rfl, hb⟩
    have HB := Lib.hid hb
    clear hb
    go_wp2_with fail
    go_ret2
    exact ⟨rfl, box_below (by simpa using HB.out)⟩
  · have t0 : ((S : Int) == 0) = false := by rw [beq_eq_false_iff_ne]; omega
    have t0' : (S == 0) = false := by rw [beq_eq_false_iff_ne]; omega
    cases hs : subB S F with
    | false =>
      rw [hs] at IN
      clear h h0 hs
      go_enter Tryz.func14, Tryz.ntmps14
      go_wp2_with fail
      refine C.out.mono ?_
      rintro e w1 ⟨rfl, hb⟩
      have HB := Lib.hid hb
      clear hb
      go_wp2_with fail
      refine (IN.out _).mono ?_
      rintro e w2 ⟨rfl, rfl⟩
      go_wp2_with fail
      go_ret2
      exact ⟨rfl, box_below (by simpa using HB.out)⟩
    | true =>
      obtain ⟨rfl, hne⟩ : star = true ∧ S ≠ F := by
        rcases h with h | h | h
        · exact (h0 h).elim
        · rw [hs] at h; cases h
        · exact h
      have t1 : ((S : Int) != F) = true := by rw [bne_iff_ne]; omega
      have t1' : (S != F) = true := by rw [bne_iff_ne]; omega
      rw [hs] at IN
      clear h h0 hs hne
      go_enter Tryz.func14, Tryz.ntmps14
      go_wp2_with fail
      refine C.out.mono ?_
      rintro e w1 ⟨rfl, hb⟩
      have HB := Lib.hid hb
      clear hb
      go_wp2_with fail
      refine (IN.out _).mono ?_
      rintro e w2 ⟨rfl, rfl⟩
      go_wp2_with fail
      go_ret2
      exact ⟨rfl, box_below (by simpa using HB.out)⟩
theorem print_star (K : Fld.Kd) (v : Value) (xs : List ByteArray) (w : World) (hv : IsStrs w v xs) (hk : KdIs K.lo K.hi xs K.week K) (h0 : fullK K ≠ 0) :
    Calls Tryz.prog 14 #[.agg #[.int .i64 K.lo, .int .i64 K.hi, v, .bool K.week], .int .u64 (fullK K : Nat), .bool true] w fun e w' => e = .returned (.tuple #[.string ⟨#[42]⟩, .int .i64 0]) ∧ Below w.heap.size w w' := by
  have V0 := hv.below (spec_box w K.lo K.hi v K.week)
  have C := full_yes K.lo K.hi v xs K.week _ V0 hk.valid
  have hF := fullS_lt hk.valid
  rw [fullK_is] at C hF
  have C := Lib.hid C
  have hsub : subB (fullK K) (fullK K) = true := by unfold subB; rw [decide_eq_true_iff]; exact Nat.and_self _
  have IN := Lib.hid (fun w => hsub ▸ inside_any (fullK K) (fullK K) w hF hF)
  obtain ⟨A, cap, rfl, _, _⟩ := hv
  generalize fullK K = F at *
  have t0 : ((F : Int) == 0) = false := by rw [beq_eq_false_iff_ne]; omega
  have t0' : (F == 0) = false := by rw [beq_eq_false_iff_ne]; omega
  have t1 : ((F : Int) != F) = false := by rw [bne_eq_false_iff_eq]
  have t1' : (F != F) = false := by rw [bne_eq_false_iff_eq]
  clear V0 hk h0 hsub
  go_enter Tryz.func14, Tryz.ntmps14
  go_wp2_with fail
  refine C.out.mono ?_
  rintro e w1 ⟨rfl, hb⟩
  have HB := Lib.hid hb
  clear hb
  go_wp2_with fail
  refine (IN.out _).mono ?_
  rintro e w2 ⟨rfl, rfl⟩
  go_wp2_with fail
  go_ret2
  exact ⟨rfl, box_below (by simpa using HB.out)⟩
set_option maxRecDepth 100000 in
set_option maxHeartbeats 2000000 in
theorem print_runs (K : Fld.Kd) (v : Value) (xs : List ByteArray) (S : Nat) (w : World) (L : Lay w) (hv : IsStrs w v xs) (hk : KdIs K.lo K.hi xs K.week K) (hS : S < 2 ^ 64) (h0 : S ≠ 0) (hs : subB S (fullK K) = true) :
    Calls Tryz.prog 14 #[.agg #[.int .i64 K.lo, .int .i64 K.hi, v, .bool K.week], .int .u64 S, .bool false] w fun e w' => e = .returned (.tuple #[.string ⟨(txt S).toArray⟩, .int .i64 0]) ∧ Below w.heap.size w w' := by
  have V0 := hv.below (spec_box w K.lo K.hi v K.week)
  have C := full_yes K.lo K.hi v xs K.week _ V0 hk.valid
  have hF := fullS_lt hk.valid
  rw [fullK_is] at C hF
  have C := Lib.hid C
  have IN := Lib.hid (fun w => hs ▸ inside_any S (fullK K) w hS hF)
  have RU := Lib.hid (fun w L => runs_any S hS w L)
  have BD := Lib.hid (run_bd (S := S))
  have TL := Lib.hid (txt_len S)
  have hlen : (Bit.runs (Bit.mem S)).length ≤ 64 := Nat.le_trans (Bit.runs_len _) (Bit.mem_len S)
  have TX := Lib.hid (show txt S = txtR (Bit.runs (Bit.mem S)) from rfl)
  have hpos : 0 < (Bit.runs (Bit.mem S)).length := by
    have hne : Bit.mem S ≠ [] := fun q => h0 (mem_nil hS q)
    cases q : Bit.mem S with
    | nil => exact (hne q).elim
    | cons a l => rw [Bit.runs_cons]; simp
  have LL := Lib.hid (L.alloc (.cells #[.int .i64 K.lo, .int .i64 K.hi, v, .bool K.week] 30))
  obtain ⟨A, cap, rfl, _, _⟩ := hv
  generalize Bit.runs (Bit.mem S) = rs at *
  generalize fullK K = F at *
  have t0 : ((S : Int) == 0) = false := by rw [beq_eq_false_iff_ne]; omega
  have t0' : (S == 0) = false := by rw [beq_eq_false_iff_ne]; omega
  obtain ⟨i0, hi, hz0, hz1, hz2⟩ := info_parts infoStr
  clear V0 hk h0 hs L
  go_enter Tryz.func14, Tryz.ntmps14
  go_wp2_with fail
  refine C.out.mono ?_
  rintro e w1 ⟨rfl, hb⟩
  have HB := Lib.hid (box_below (by simpa using hb))
  have L1 := Lib.hid (LL.out.below hb)
  clear hb
  go_wp2_with fail
  refine (IN.out _).mono ?_
  rintro e w2 ⟨rfl, rfl⟩
  go_wp2_with fail
  refine (RU.out _ L1.out).mono ?_
  rintro e w2 ⟨v2, rfl, ho⟩
  obtain ⟨g, c2, rfl, hg, hgc, hcell⟩ := own_spot ho.row hpos
  have B2 := Lib.hid (HB.out.trans (ho.below.mono HB.out.size))
  have HC := Lib.hid hcell
  clear ho hcell
  go_wp2_with fail
  go_loopw [10, 41] (fun v i wr => ∃ k : Nat, k ≤ rs.length ∧ i = .int .i64 k ∧ Hid (OwnR w2.heap.size 9 1 w2 v k (rtx rs k) wr)) (fun _ i _ => rs.length - (intOf i).toNat)
  case atStart => exact ⟨0, Nat.zero_le _, rfl, Lib.hid ⟨World.ownsRow_nil _ _ _ _, Below.refl _ _⟩⟩
  case round =>
    obtain ⟨k, hk, rfl, ho⟩ := hrel
    have hsz := ho.out.below.size
    by_cases hlt : k < rs.length
    · obtain ⟨f0, f1, f2⟩ := flat_at rs k hlt
      have hgw : g < wr.heap.size := by omega
      have d0 := (ho.out.below.cell (p := ⟨g, k * 3, none⟩) hg).trans (HC.out _ _ f0)
      have d1 := (ho.out.below.cell (p := ⟨g, k * 3 + 1, none⟩) hg).trans (HC.out _ _ f1)
      have d2 := (ho.out.below.cell (p := ⟨g, k * 3 + 2, none⟩) hg).trans (HC.out _ _ f2)
      obtain ⟨r1, r2, r3, r4⟩ := BD.out rs[k] (List.getElem_mem hlt)
      have RS := Lib.hid (rtx_succ rs k hlt)
      obtain ⟨⟨a, b, c⟩, hr⟩ : ∃ r, rs[k] = r := ⟨_, rfl⟩
      rw [hr] at d0 d1 d2 r1 r2 r3 r4 RS
      simp only at d0 d1 d2 r1 r2 r3 r4
      have WR := Lib.hid (fun w => written_any a b c (by omega) (by omega) r3 w)
      have HO := Lib.hid ho.out
      clear hr f0 f1 f2 ho
      go_wp2_with fail
      refine (WR.out _).mono ?_
      rintro e w3 ⟨rfl, hb⟩
      have bA : Below w2.heap.size wr w3 := ((Below.refl w2.heap.size wr).alloc hsz _).trans (hb.mono (by simp; omega))
      have bW : Below wr.heap.size wr w3 := ((Below.refl _ wr).alloc (Nat.le_refl _) _).trans (hb.mono (by simp))
      have HO3 := Lib.hid (show OwnR w2.heap.size 9 1 w2 _ k (rtx rs k) w3 from ⟨own_below HO.out.row bW, HO.out.below.trans bA⟩)
      have hsz3 := HO3.out.below.size
      obtain ⟨T, hT⟩ : ∃ T : ByteArray, (⟨(runT (a, b, c)).toArray⟩ : ByteArray) = T := ⟨_, rfl⟩
      rw [hT] at RS ⊢
      clear hb bA bW HO hT
      go_wp2_with (at_builtin; refine wpList_append_own _ rfl _ _ 22 rfl w2.heap.size 9 i0 (.string ⟨#[]⟩) 1 16 Tryz.underlying22 hi hz0 hz1 hz2 rfl (by decide) _ k _ rfl (HO3.out.row.alloc _) ⟨w3.heap.size, 0, none⟩ 1 1 [.string T] rfl rfl ?c1 ?c2 ?c3 ?c4 ?c5 ?c6)
      case c1 => exact cell_one_new _ _ _
      case c2 => intro u hu; simp at hu; subst hu; rfl
      case c3 => simp [maxLen]; omega
      case c4 => omega
      case c5 => simp; omega
      case c6 =>
        intro v' W2 hown hgrow _
        have HS := Lib.hid (show OwnR w2.heap.size 9 1 w2 v' (k + 1) (rtx rs (k + 1)) W2 from ⟨by
          rw [RS.out]
          simpa using hown, (HO3.out.below.alloc hsz3 _).grown hgrow (by simp; omega) (fun j hj => (HO3.out.row.lt j hj).1)⟩)
        clear hown hgrow
        go_wp2_with fail
        go_roundw
        case rel => exact ⟨k + 1, by omega, by go_num, HS⟩
        case measure => simp [intOf]; omega
    · obtain rfl : k = rs.length := by omega
      obtain ⟨g3, c3, rfl, hg3, hgc3, hcell3⟩ := own_spot ho.out.row hpos
      have hst : ∀ (j : Nat) (x : ByteArray), (rs.map fun r => (⟨(runT r).toArray⟩ : ByteArray))[j]? = some x → wr.cell? ⟨g3, 0 + j, none⟩ = some (.string x) := by
        intro j x hx
        rw [Nat.zero_add]
        apply hcell3
        unfold rtx
        rw [List.take_length, List.getElem?_map]
        rw [List.getElem?_map] at hx
        cases q : rs[j]? with
        | none => rw [q] at hx; cases hx
        | some r => rw [q] at hx; simp only [Option.map_some, Option.some.injEq] at hx ⊢; rw [hx]
      have hjoin : Lib.join ((rs.map fun r => (⟨(runT r).toArray⟩ : ByteArray)).map (·.data.toList)) (⟨#[44]⟩ : ByteArray).data.toList = txt S := by
        rw [TX.out, List.map_map]
        rfl
      have J := Tryz.strings_Join g3 0 c3 (rs.map fun r => (⟨(runT r).toArray⟩ : ByteArray)) ⟨#[44]⟩ wr hst hg3 (by rw [List.length_map]; omega) (by rw [List.length_map]; exact hgc3) (by rw [hjoin]; have := TL.out; omega)
      rw [hjoin, List.length_map] at J
      have J := Lib.hid J
      have BB := Lib.hid (B2.out.trans (ho.out.below.mono B2.out.size))
      clear hst hjoin hcell3 ho
      go_wp2_with fail
      refine J.out.mono ?_
      rintro e w4 ⟨rfl, hb⟩
      have BB2 := Lib.hid (BB.out.trans (hb.mono BB.out.size))
      clear hb
      go_wp2_with fail
      go_ret2
      exact ⟨rfl, BB2.out⟩
/-- what Print returns for a valid kind -/
theorem print_yes (K : Fld.Kd) (v : Value) (xs : List ByteArray) (S : Nat) (star : Bool) (w : World) (L : Lay w) (hv : IsStrs w v xs) (hk : KdIs K.lo K.hi xs K.week K) (hS : S < 2 ^ 64) :
    Calls Tryz.prog 14 #[.agg #[.int .i64 K.lo, .int .i64 K.hi, v, .bool K.week], .int .u64 S, .bool star] w fun e w' => e = .returned (.tuple #[.string ⟨(printR K S star).1.toArray⟩, .int .i64 ((printR K S star).2 : Nat)]) ∧ Below w.heap.size w w' := by
  by_cases h : S = 0 ∨ subB S (fullK K) = false ∨ (star = true ∧ S ≠ fullK K)
  · have e : printR K S star = ([], 2) := by unfold printR; rw [if_pos h]
    rw [e]
    exact print_bad K v xs S star w hv hk hS h
  · have h1 : S ≠ 0 := fun q => h (.inl q)
    have h2 : subB S (fullK K) = true := by cases q : subB S (fullK K); exact (h (.inr (.inl q))).elim; rfl
    cases star with
    | true =>
      obtain rfl : S = fullK K := Classical.byContradiction fun q => h (.inr (.inr ⟨rfl, q⟩))
      have e : printR K (fullK K) true = ([42], 0) := by unfold printR; rw [if_neg h, if_pos rfl]
      rw [e]
      exact print_star K v xs w hv hk h1
    | false =>
      have e : printR K S false = (txt S, 0) := by unfold printR; rw [if_neg h, if_neg (by simp)]
      rw [e]
      exact print_runs K v xs S w L hv hk hS h1 h2
theorem print_no (lo hi : Int) (v : Value) (xs : List ByteArray) (wk : Bool) (S : Nat) (star : Bool) (w : World) (hv : IsStrs w v xs) (h : ¬ Valid lo hi xs wk) (hs : ∀ x ∈ xs, x.size ≤ 9223372036854775807) :
    Calls Tryz.prog 14 #[.agg #[.int .i64 lo, .int .i64 hi, v, .bool wk], .int .u64 S, .bool star] w fun e w' => e = .returned (.tuple #[.string ⟨#[]⟩, .int .i64 2]) ∧ Below w.heap.size w w' := by
  have V0 := hv.below (spec_box w lo hi v wk)
  have C := Lib.hid (full_no lo hi v xs wk _ V0 h hs)
  obtain ⟨A, cap, rfl, _, _⟩ := hv
  clear V0 h
  go_enter Tryz.func14, Tryz.ntmps14
  go_wp2_with fail
  refine C.out.mono ?_
  rintro e w1 ⟨rfl, hb⟩
  have HB := Lib.hid hb
  clear hb
  go_wp2_with fail
  go_ret2
  exact ⟨rfl, box_below (by simpa using HB.out)⟩
end Go.Proofs.YtlmbfhbfejjpdaaGreatDoor
