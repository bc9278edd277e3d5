/- The document's decimal and Print; Print and Full of both. -/
import Derived.Test.YtpnfifhanmpapaaGreatDoorMRefC
import Derived.DataShut
namespace Go.Proofs.YtpnfifhanmpapaaGreatDoor
open Go.ChangeShapes Go.WideShapes Go.RowKit Go.Shelf

theorem setU64 {s : Int} (h : (Lit.int .u64 s).wf = true) : ∃ S : Nat, s = S ∧ S < 2 ^ 64 := by
  rw [Lit.wf_int_iff] at h
  have h1 : 0 ≤ s ∧ s ≤ 18446744073709551615 := by simpa [IntKind.min, IntKind.max, IntKind.signed, IntKind.bits] using h
  obtain ⟨S, rfl⟩ := Int.eq_ofNat_of_zero_le h1.1
  exact ⟨S, rfl, by omega⟩
/-! texts of runs -/
theorem txtR_zero (rs : List (Nat × Nat × Nat)) : txtR (rs.take 0) = [] := rfl
theorem txtR_first (rs : List (Nat × Nat × Nat)) (h : 0 < rs.length) : txtR (rs.take 1) = runT rs[0] := by
  cases rs with
  | nil => simp at h
  | cons r rs => simp [txtR, Lib.join_cons, Lib.joinTail]
theorem txtR_more (rs : List (Nat × Nat × Nat)) (k : Nat) (h0 : 0 < k) (h : k < rs.length) : txtR (rs.take (k + 1)) = txtR (rs.take k) ++ 44 :: runT rs[k] := by
  cases rs with
  | nil => simp at h
  | cons r rs =>
    obtain ⟨j, rfl⟩ : ∃ j, k = j + 1 := ⟨k - 1, by omega⟩
    rw [List.take_succ_cons, List.take_succ_cons]
    simp only [txtR, List.map_cons, Lib.join_cons, Lib.joinTail, List.getElem_cons_succ]
    rw [List.take_succ_eq_append_getElem (by simpa using h)]
    simp only [List.map_append, List.map_cons, List.map_nil, List.flatten_append, List.flatten_cons, List.flatten_nil, List.append_assoc, List.append_nil]
    rfl
theorem dec_parts {n : Nat} (h : ¬ n < 10) (hn : n < 100) : dec n = dec (n / 10) ++ dec (n % 10) := by
  unfold dec
  rw [if_neg h, if_pos (show n / 10 < 10 by omega), if_pos (show n % 10 < 10 by omega)]
  rfl
/-! decimal -/
attribute [local go_sem] conv_oneR
theorem ret_strR {a b : ByteArray} (h : a = b) : Ending.returned (.string a) = .returned (.string b) := by rw [h]
theorem decR_one (n : Nat) (hn : n < 10) (x : Int) (hx : x = n) (w : World) :
    Calls Tryz.prog 87 #[.int .i64 x] w fun e w' => e = .returned (.string ⟨(dec n).toArray⟩) ∧ Below w.heap.size w w' := by
  subst hx
  have h1 : decide ((n : Int) < 10) = true := by simp; omega
  have h2 : decide (n < 10) = true := by simp; omega
  have e : dec n = [UInt8.ofNat (48 + n)] := by simp [dec, hn]
  rw [e]
  have E := Lib.hid (ret_strR (nums_oneR (48 + n) (48 + n) (by omega)))
  clear e
  go_enter Tryz.func87, Tryz.ntmps87
  go_wp2
  go_ret
  exact ⟨E.out, (Below.refl _ _).alloc (Nat.le_refl _) _⟩
theorem decR_any (n : Nat) (hn : n < 100) (x : Int) (hx : x = n) (w : World) :
    Calls Tryz.prog 87 #[.int .i64 x] w fun e w' => e = .returned (.string ⟨(dec n).toArray⟩) ∧ Below w.heap.size w w' := by
  by_cases h : n < 10
  · exact decR_one n h x hx w
  · subst hx
    have h1 : decide ((n : Int) < 10) = false := by simp; omega
    have h2 : decide (n < 10) = false := by simp; omega
    have A := Lib.hid (fun x hx w => decR_one (n / 10) (by omega) x hx w)
    have B := Lib.hid (fun x hx w => decR_one (n % 10) (by omega) x hx w)
    have E := Lib.hid (ret_strR (show (⟨(dec (n / 10)).toArray⟩ : ByteArray) ++ ⟨(dec (n % 10)).toArray⟩ = ⟨(dec n).toArray⟩ from list_str _ _ (by rw [app_list, dec_parts h hn])))
    have l1 := dec_len (n / 10)
    have l2 := dec_len (n % 10)
    obtain ⟨U, hU⟩ : ∃ U : ByteArray, ⟨(dec (n / 10)).toArray⟩ = U := ⟨_, rfl⟩
    obtain ⟨V, hV⟩ : ∃ V : ByteArray, ⟨(dec (n % 10)).toArray⟩ = V := ⟨_, rfl⟩
    have s1 : U.size ≤ 2 := by rw [← hU, Lib.size_eq]; simpa using l1.2
    have s2 : V.size ≤ 2 := by rw [← hV, Lib.size_eq]; simpa using l2.2
    rw [hU] at A
    rw [hV] at B
    rw [hU, hV] at E
    clear l1 l2 hU hV
    go_enter Tryz.func87, Tryz.ntmps87
    go_wp2_with fail
    refine (A.out _ (by omega) _).mono ?_
    rintro e w1 ⟨rfl, hb1⟩
    go_wp2_with fail
    refine (B.out _ (by omega) _).mono ?_
    rintro e w2 ⟨rfl, hb2⟩
    have HB := Lib.hid (hb1.trans (hb2.mono hb1.size))
    clear hb1 hb2
    go_wp2_with fail
    go_ret
    exact ⟨E.out, HB.out⟩
/-! Full and Print, for any kind -/
/-- what Full returns -/
def FullIs (lo hi : Int) (xs : List ByteArray) (wk : Bool) (F : Nat) (q : Int) : Prop := (Valid lo hi xs wk ∧ F = fullS lo hi ∧ q = 0) ∨ (¬ Valid lo hi xs wk ∧ F = 0 ∧ q = 2)
theorem fullIs_ex (lo hi : Int) (xs : List ByteArray) (wk : Bool) : ∃ F q, FullIs lo hi xs wk F q := by
  by_cases h : Valid lo hi xs wk
  · exact ⟨_, _, .inl ⟨h, rfl, rfl⟩⟩
  · exact ⟨_, _, .inr ⟨h, rfl, rfl⟩⟩
theorem full_any (lo hi : Int) (v : Value) (xs : List ByteArray) (wk : Bool) (F : Nat) (q : Int) (w : World) (hv : IsStrs w v xs) (hs : ∀ x ∈ xs, x.size ≤ 9223372036854775807) (h : FullIs lo hi xs wk F q) :
    Calls Tryz.prog 80 #[.agg #[.int .i64 lo, .int .i64 hi, v, .bool wk]] w fun e w' => e = .returned (.tuple #[.int .u64 F, .int .i64 q]) ∧ Below w.heap.size w w' := by
  rcases h with ⟨h, rfl, rfl⟩ | ⟨h, rfl, rfl⟩
  · exact full_yes lo hi v xs wk w hv h
  · exact full_no lo hi v xs wk w hv h hs
theorem fullR_any (lo hi : Int) (v : Value) (xs : List ByteArray) (wk : Bool) (F : Nat) (q : Int) (w : World) (hv : IsStrs w v xs) (hs : ∀ x ∈ xs, x.size ≤ 9223372036854775807) (h : FullIs lo hi xs wk F q) :
    Calls Tryz.prog 85 #[.agg #[.int .i64 lo, .int .i64 hi, v, .bool wk]] w fun e w' => e = .returned (.tuple #[.int .u64 F, .int .i64 q]) ∧ Below w.heap.size w w' := by
  rcases h with ⟨h, rfl, rfl⟩ | ⟨h, rfl, rfl⟩
  · exact fullR_yes lo hi v xs wk w hv h
  · exact fullR_no lo hi v xs wk w hv h hs
/-- what Print returns -/
def PrintIs (lo hi : Int) (xs : List ByteArray) (wk : Bool) (S : Nat) (star : Bool) (t : ByteArray) (q : Int) : Prop :=
  (¬ Valid lo hi xs wk ∧ t = ⟨#[]⟩ ∧ q = 2) ∨ ∃ K : Fld.Kd, KdIs K.lo K.hi xs K.week K ∧ lo = K.lo ∧ hi = K.hi ∧ wk = K.week ∧ t = ⟨(printR K S star).1.toArray⟩ ∧ q = ((printR K S star).2 : Nat)
theorem kdIs_self {lo hi : Int} {xs : List ByteArray} {wk : Bool} (h : Valid lo hi xs wk) : ∃ K : Fld.Kd, KdIs K.lo K.hi xs K.week K ∧ lo = K.lo ∧ hi = K.hi ∧ wk = K.week := by
  obtain ⟨K, hk⟩ := kdIs_ex h
  have h1 := hk.lo
  have h2 := hk.hi
  have h3 := hk.wk
  exact ⟨K, ⟨rfl, rfl, hk.nm, rfl, hk.ok⟩, h1, h2, h3⟩
theorem printIs_ex (lo hi : Int) (xs : List ByteArray) (wk : Bool) (S : Nat) (star : Bool) : ∃ t q, PrintIs lo hi xs wk S star t q := by
  by_cases h : Valid lo hi xs wk
  · obtain ⟨K, h1, h2, h3, h4⟩ := kdIs_self h
    exact ⟨_, _, .inr ⟨K, h1, h2, h3, h4, rfl, rfl⟩⟩
  · exact ⟨_, _, .inl ⟨h, rfl, rfl⟩⟩
theorem printF_any (lo hi : Int) (v : Value) (xs : List ByteArray) (wk : Bool) (S : Nat) (star : Bool) (t : ByteArray) (q : Int) (w : World) (L : Lay w) (hv : IsStrs w v xs) (hS : S < 2 ^ 64) (hs : ∀ x ∈ xs, x.size ≤ 9223372036854775807) (h : PrintIs lo hi xs wk S star t q) :
    Calls Tryz.prog 51 #[.agg #[.int .i64 lo, .int .i64 hi, v, .bool wk], .int .u64 S, .bool star] w fun e w' => e = .returned (.tuple #[.string t, .int .i64 q]) ∧ Below w.heap.size w w' := by
  rcases h with ⟨h, rfl, rfl⟩ | ⟨K, hk, rfl, rfl, rfl, rfl, rfl⟩
  · exact print_no lo hi v xs wk S star w hv h hs
  · exact print_yes K v xs S star w L hv hk hS
/-! the document's Print -/
/-- the world in Print: the runs lie at g -/
structure PR3 (w W : World) (g : Nat) (rs : List (Nat × Nat × Nat)) : Prop where
  below : Below w.heap.size w W
  lt : g < W.heap.size
  cell : ∀ (j : Nat) u, (flat rs)[j]? = some u → W.cell? ⟨g, j, none⟩ = some u
theorem PR3.next {w W W' : World} {g : Nat} {rs : List (Nat × Nat × Nat)} (h : PR3 w W g rs) (hb : Below W.heap.size W W') : PR3 w W' g rs :=
  ⟨h.below.trans (hb.mono h.below.size), Nat.lt_of_lt_of_le h.lt hb.size, fun j u hu => (hb.cell (p := ⟨g, j, none⟩) h.lt).trans (h.cell j u hu)⟩
theorem PR3.drewN {w W : World} {g : Nat} {rs : List (Nat × Nat × Nat)} (h : PR3 w W g rs) (n : Nat) : PR3 w (W.drewN n) g rs := h.next (below_drewN _ W n)
theorem dec_str (n : Nat) (hn : n < 100) : ∃ x : ByteArray, x.data.toList = dec n ∧ x.size ≤ 2 ∧ ∀ w, Calls Tryz.prog 87 #[.int .i64 n] w fun e w' => e = .returned (.string x) ∧ Below w.heap.size w w' := by
  have hl := dec_len n
  exact ⟨⟨(dec n).toArray⟩, by simp, by rw [Lib.size_eq]; simpa using hl.2, fun w => decR_any n hn n rfl w⟩
theorem txt_step {rs : List (Nat × Nat × Nat)} {k a b c : Nat} (hk : k < rs.length) (hr : rs[k] = (a, b, c)) {p : List UInt8} (hp : p = (if k = 0 then [] else txtR (rs.take k) ++ [44]) ++ dec a ++ (if a = b then [] else 45 :: dec b) ++ (if c = 1 then [] else 47 :: dec c)) : p = txtR (rs.take (k + 1)) := by
  rw [hp]
  rcases Nat.eq_zero_or_pos k with rfl | h
  · rw [if_pos rfl, txtR_first rs hk, hr]
    simp [runT]
  · rw [if_neg (by omega), txtR_more rs k h hk, hr]
    simp [runT]
theorem printR_no (lo hi : Int) (v : Value) (xs : List ByteArray) (wk : Bool) (S : Nat) (star : Bool) (w : World) (hv : IsStrs w v xs) (h : ¬ Valid lo hi xs wk) (hs : ∀ x ∈ xs, x.size ≤ 9223372036854775807) :
    Calls Tryz.prog 54 #[.agg #[.int .i64 lo, .int .i64 hi, v, .bool wk], .int .u64 S, .bool star] w fun e w' => e = .returned (.tuple #[.string ⟨#[]⟩, .int .i64 2]) ∧ Below w.heap.size w w' := by
  have X := Lib.hid (KBox.new w lo hi v xs wk 95 hv)
  have C := Lib.hid (fullR_no lo hi v xs wk _ X.out.strs h hs)
  obtain ⟨A, cap, rfl, _, _⟩ := hv
  clear h
  go_enter Tryz.func54, Tryz.ntmps54
  go_wp2_with fail
  refine C.out.mono ?_
  rintro e w1 ⟨rfl, hb⟩
  have X := Lib.hid (X.out.next hb)
  clear hb
  go_wp2_with fail
  go_ret2
  exact ⟨rfl, X.out.below⟩
set_option maxHeartbeats 1000000 in
theorem printR_bad (K : Fld.Kd) (v : Value) (xs : List ByteArray) (S : Nat) (star : Bool) (w : World) (hv : IsStrs w v xs) (hk : KdIs K.lo K.hi xs K.week K) (hS : S < 2 ^ 64)
    (h : S = 0 ∨ subB S (fullK K) = false ∨ (star = true ∧ S ≠ fullK K)) :
    Calls Tryz.prog 54 #[.agg #[.int .i64 K.lo, .int .i64 K.hi, v, .bool K.week], .int .u64 S, .bool star] w fun e w' => e = .returned (.tuple #[.string ⟨#[]⟩, .int .i64 2]) ∧ Below w.heap.size w w' := by
  have X := Lib.hid (KBox.new w K.lo K.hi v xs K.week 95 hv)
  have C := fullR_yes K.lo K.hi v xs K.week _ X.out.strs hk.valid
  have hF := fullS_lt hk.valid
  rw [fullK_is] at C hF
  have C := Lib.hid C
  obtain ⟨A, cap, rfl, _, _⟩ := hv
  generalize fullK K = F at *
  clear hk
  by_cases h0 : S = 0
  · subst h0
    clear h
    go_enter Tryz.func54, Tryz.ntmps54
    go_wp2_with fail
    refine C.out.mono ?_
    rintro e w1 ⟨rfl, hb⟩
    have X := Lib.hid (X.out.next hb)
    clear hb
    go_wp2_with fail
    go_ret2
    exact ⟨rfl, X.out.below⟩
  · have t0 : ((S : Int) == 0) = false := by rw [beq_eq_false_iff_ne]; omega
    have t0' : (S == 0) = false := by rw [beq_eq_false_iff_ne]; omega
    have an := u64_andNot_nat S F hS hF
    cases hs : subB S F with
    | false =>
      obtain ⟨N, hN⟩ : ∃ N, S &&& (18446744073709551615 - F) = N := ⟨_, rfl⟩
      have hn : N ≠ 0 := fun q => by
        have := (sub_iff hS hF).1 (hN.trans q)
        rw [hs] at this
        cases this
      rw [hN] at an
      have t1 : ((N : Int) != 0) = true := by rw [bne_iff_ne]; omega
      have t1' : (N != 0) = true := by rw [bne_iff_ne]; omega
      clear h h0 hs hN hn
      go_enter Tryz.func54, Tryz.ntmps54
      go_wp2_with fail
      refine C.out.mono ?_
      rintro e w1 ⟨rfl, hb⟩
      have X := Lib.hid (X.out.next hb)
      clear hb
      go_wp2_with fail
      go_ret2
      exact ⟨rfl, X.out.below⟩
    | true =>
      obtain ⟨rfl, hne⟩ : star = true ∧ S ≠ F := by
        rcases h with h | h | h
        · exact (h0 h).elim
        · rw [hs] at h; cases h
        · exact h
      rw [(sub_iff hS hF).2 hs] at an
      have t1 : ((S : Int) != F) = true := by rw [bne_iff_ne]; omega
      have t1' : (S != F) = true := by rw [bne_iff_ne]; omega
      clear h h0 hs hne
      go_enter Tryz.func54, Tryz.ntmps54
      go_wp2_with fail
      refine C.out.mono ?_
      rintro e w1 ⟨rfl, hb⟩
      have X := Lib.hid (X.out.next hb)
      clear hb
      go_wp2_with fail
      go_ret2
      exact ⟨rfl, X.out.below⟩
theorem printR_star (K : Fld.Kd) (v : Value) (xs : List ByteArray) (w : World) (hv : IsStrs w v xs) (hk : KdIs K.lo K.hi xs K.week K) (h0 : fullK K ≠ 0) :
    Calls Tryz.prog 54 #[.agg #[.int .i64 K.lo, .int .i64 K.hi, v, .bool K.week], .int .u64 (fullK K : Nat), .bool true] w fun e w' => e = .returned (.tuple #[.string ⟨#[42]⟩, .int .i64 0]) ∧ Below w.heap.size w w' := by
  have X := Lib.hid (KBox.new w K.lo K.hi v xs K.week 95 hv)
  have C := fullR_yes K.lo K.hi v xs K.week _ X.out.strs hk.valid
  have hF := fullS_lt hk.valid
  rw [fullK_is] at C hF
  have C := Lib.hid C
  have hsub : subB (fullK K) (fullK K) = true := by unfold subB; rw [decide_eq_true_iff]; exact Nat.and_self _
  obtain ⟨A, cap, rfl, _, _⟩ := hv
  generalize fullK K = F at *
  have an := u64_andNot_nat F F hF hF
  rw [(sub_iff hF hF).2 hsub] at an
  have t0 : ((F : Int) == 0) = false := by rw [beq_eq_false_iff_ne]; omega
  have t0' : (F == 0) = false := by rw [beq_eq_false_iff_ne]; omega
  have t1 : ((F : Int) != F) = false := by rw [bne_eq_false_iff_eq]
  have t1' : (F != F) = false := by rw [bne_eq_false_iff_eq]
  clear hk h0 hsub
  go_enter Tryz.func54, Tryz.ntmps54
  go_wp2_with fail
  refine C.out.mono ?_
  rintro e w1 ⟨rfl, hb⟩
  have X := Lib.hid (X.out.next hb)
  clear hb
  go_wp2_with fail
  go_ret2
  exact ⟨rfl, X.out.below⟩
set_option maxRecDepth 100000 in
set_option maxHeartbeats 4000000 in
theorem printR_runs (K : Fld.Kd) (v : Value) (xs : List ByteArray) (S : Nat) (w : World) (hv : IsStrs w v xs) (hk : KdIs K.lo K.hi xs K.week K) (hS : S < 2 ^ 64) (h0 : S ≠ 0) (hs : subB S (fullK K) = true) :
    Calls Tryz.prog 54 #[.agg #[.int .i64 K.lo, .int .i64 K.hi, v, .bool K.week], .int .u64 S, .bool false] w fun e w' => e = .returned (.tuple #[.string ⟨(txt S).toArray⟩, .int .i64 0]) ∧ Below w.heap.size w w' := by
  have X := Lib.hid (KBox.new w K.lo K.hi v xs K.week 95 hv)
  have C := fullR_yes K.lo K.hi v xs K.week _ X.out.strs hk.valid
  have hF := fullS_lt hk.valid
  rw [fullK_is] at C hF
  have C := Lib.hid C
  have RU := Lib.hid (fun w => runsR_any S hS w)
  have BD := Lib.hid (run_bd (S := S))
  have hlen : (Bit.runs (Bit.mem S)).length ≤ 64 := Nat.le_trans (Bit.runs_len _) (Bit.mem_len S)
  have TX := Lib.hid (show txt S = txtR (Bit.runs (Bit.mem S)) from rfl)
  have hpos : 0 < (Bit.runs (Bit.mem S)).length := by
    have hne : Bit.mem S ≠ [] := fun q => h0 (mem_nil hS q)
    cases q : Bit.mem S with
    | nil => exact (hne q).elim
    | cons a l => rw [Bit.runs_cons]; simp
  have an := u64_andNot_nat S (fullK K) hS hF
  rw [(sub_iff hS hF).2 hs] at an
  obtain ⟨A, cap, rfl, _, _⟩ := hv
  generalize Bit.runs (Bit.mem S) = rs at *
  generalize fullK K = F at *
  have t0 : ((S : Int) == 0) = false := by rw [beq_eq_false_iff_ne]; omega
  have t0' : (S == 0) = false := by rw [beq_eq_false_iff_ne]; omega
  clear hk h0 hs
  go_enter Tryz.func54, Tryz.ntmps54
  go_wp2_with fail
  refine C.out.mono ?_
  rintro e w1 ⟨rfl, hb⟩
  have X := Lib.hid (X.out.next hb)
  clear hb
  go_wp2_with fail
  refine (RU.out _).mono ?_
  rintro e w2 ⟨v2, rfl, ho⟩
  obtain ⟨g, c2, rfl, hg, hgc, hcell⟩ := own_spot ho.row hpos
  have Y : Hid (PR3 w w2 g rs) := Lib.hid ⟨X.out.below.trans (ho.below.mono X.out.below.size), hg, hcell⟩
  clear ho hcell X C RU
  go_wp2_with fail
  go_loopw [10, 12] (fun o i wr => ∃ (k : Nat) (T : ByteArray), k ≤ rs.length ∧ i = .int .i64 k ∧ o = .string T ∧ T.size ≤ 9 * k ∧ Hid (T.data.toList = txtR (rs.take k)) ∧ Hid (PR3 w wr g rs)) (fun _ i _ => rs.length - (intOf i).toNat)
  case atStart => exact ⟨0, ⟨#[]⟩, Nat.zero_le _, rfl, rfl, Nat.zero_le _, Lib.hid rfl, Y⟩
  case round =>
    obtain ⟨k, T, hk, rfl, rfl, hT, HT, Y⟩ := hrel
    by_cases hlt : k < rs.length
    · have l1 : decide ((k : Int) < (rs.length : Int)) = true := by rw [decide_eq_true_iff]; omega
      have l1n : decide (k < rs.length) = true := by rw [decide_eq_true_iff]; omega
      have i0 : (0 : Int) ≤ (k : Int) := by omega
      have i1 : (k : Int) < (rs.length : Int) := by omega
      obtain ⟨f0, f1, f2⟩ := flat_at rs k hlt
      obtain ⟨r1, r2, r3, r4⟩ := BD.out rs[k] (List.getElem_mem hlt)
      obtain ⟨⟨a, b, c⟩, hr⟩ : ∃ r, rs[k] = r := ⟨_, rfl⟩
      rw [hr] at f0 f1 f2 r1 r2 r3 r4
      simp only at f0 f1 f2 r1 r2 r3 r4
      obtain ⟨xa, la, sa, ca⟩ := dec_str a (by omega)
      obtain ⟨xb, lb, sb, cb⟩ := dec_str b (by omega)
      obtain ⟨xc, lc, sc, cc⟩ := dec_str c r3
      have CA := Lib.hid ca
      have CB := Lib.hid cb
      have CC := Lib.hid cc
      have s44 : (⟨#[44]⟩ : ByteArray).size = 1 := rfl
      have s45 : (⟨#[45]⟩ : ByteArray).size = 1 := rfl
      have s47 : (⟨#[47]⟩ : ByteArray).size = 1 := rfl
      have LA := Lib.hid la
      have LB := Lib.hid lb
      have LC := Lib.hid lc
      have CS : Hid (∀ W, PR3 w W g rs → W.cell? ⟨g, k * 3, none⟩ = some (.int .i64 a) ∧ W.cell? ⟨g, k * 3 + 1, none⟩ = some (.int .i64 b) ∧ W.cell? ⟨g, k * 3 + 2, none⟩ = some (.int .i64 c)) := Lib.hid (fun W h => ⟨h.cell _ _ f0, h.cell _ _ f1, h.cell _ _ f2⟩)
      have ST : Hid (∀ p : List UInt8, p = (if k = 0 then [] else txtR (rs.take k) ++ [44]) ++ dec a ++ (if a = b then [] else 45 :: dec b) ++ (if c = 1 then [] else 47 :: dec c) → p = txtR (rs.take (k + 1))) := Lib.hid (fun p hp => txt_step hlt hr hp)
      have T0 : Hid (k = 0 → T.data.toList = []) := Lib.hid (fun q => by rw [HT.out, q]; rfl)
      clear la lb lc ca cb cc f0 f1 f2 hr BD r4
      obtain ⟨d0, d1, d2⟩ := CS.out _ Y.out
      by_cases hk0 : k = 0
      · by_cases hab : a = b
        · by_cases hc1 : c = 1
          · have g1 : decide ((0 : Int) < (k : Int)) = false := by rw [decide_eq_false_iff_not]; omega
            have g2 : decide (0 < k) = false := by rw [decide_eq_false_iff_not]; omega
            have h1 : ((a : Int) != (b : Int)) = false := by rw [bne_eq_false_iff_eq]; omega
            have h1n : (a != b) = false := by rw [bne_eq_false_iff_eq]; omega
            have h2 : ((c : Int) != 1) = false := by rw [bne_eq_false_iff_eq]; omega
            have h2n : (c != 1) = false := by rw [bne_eq_false_iff_eq]; omega
            have K0 := Lib.hid hk0
            have AB := Lib.hid hab
            have C1 := Lib.hid hc1
            clear hk0 hab hc1
            go_wp2_with fail
            refine (CA.out _).mono ?_
            rintro e w3 ⟨rfl, hb⟩
            have Y := Lib.hid (Y.out.next hb)
            clear hb d0 d1 d2
            obtain ⟨d0, d1, d2⟩ := CS.out _ Y.out
            go_wp2_with fail
            go_quiet (fail)
            have Y := Lib.hid (Y.out.drewN nq)
            clear d0 d1 d2
            obtain ⟨d0, d1, d2⟩ := CS.out _ Y.out
            go_wp2_with fail
            go_roundw
            case rel => exact ⟨k + 1, _, by omega, by go_num, rfl, by simp only [ByteArray.size_append]; omega, Lib.hid (ST.out _ (by rw [if_pos K0.out, if_pos AB.out, if_pos C1.out, app_list, LA.out, T0.out K0.out]; simp)), Y⟩
            case measure => simp [intOf]; omega
          · have g1 : decide ((0 : Int) < (k : Int)) = false := by rw [decide_eq_false_iff_not]; omega
            have g2 : decide (0 < k) = false := by rw [decide_eq_false_iff_not]; omega
            have h1 : ((a : Int) != (b : Int)) = false := by rw [bne_eq_false_iff_eq]; omega
            have h1n : (a != b) = false := by rw [bne_eq_false_iff_eq]; omega
            have h2 : ((c : Int) != 1) = true := by rw [bne_iff_ne]; omega
            have h2n : (c != 1) = true := by rw [bne_iff_ne]; omega
            have K0 := Lib.hid hk0
            have AB := Lib.hid hab
            have C1 := Lib.hid hc1
            clear hk0 hab hc1
            go_wp2_with fail
            refine (CA.out _).mono ?_
            rintro e w3 ⟨rfl, hb⟩
            have Y := Lib.hid (Y.out.next hb)
            clear hb d0 d1 d2
            obtain ⟨d0, d1, d2⟩ := CS.out _ Y.out
            go_wp2_with fail
            go_quiet (fail)
            have Y := Lib.hid (Y.out.drewN nq)
            clear d0 d1 d2
            obtain ⟨d0, d1, d2⟩ := CS.out _ Y.out
            go_wp2_with fail
            refine (CC.out _).mono ?_
            rintro e w3 ⟨rfl, hb⟩
            have Y := Lib.hid (Y.out.next hb)
            clear hb d0 d1 d2
            obtain ⟨d0, d1, d2⟩ := CS.out _ Y.out
            go_wp2_with fail
            go_roundw
            case rel => exact ⟨k + 1, _, by omega, by go_num, rfl, by simp only [ByteArray.size_append]; omega, Lib.hid (ST.out _ (by rw [if_pos K0.out, if_pos AB.out, if_neg C1.out, app_list, app_list, app_list, LA.out, LC.out, T0.out K0.out]; simp)), Y⟩
            case measure => simp [intOf]; omega
        · by_cases hc1 : c = 1
          · have g1 : decide ((0 : Int) < (k : Int)) = false := by rw [decide_eq_false_iff_not]; omega
            have g2 : decide (0 < k) = false := by rw [decide_eq_false_iff_not]; omega
            have h1 : ((a : Int) != (b : Int)) = true := by rw [bne_iff_ne]; omega
            have h1n : (a != b) = true := by rw [bne_iff_ne]; omega
            have h2 : ((c : Int) != 1) = false := by rw [bne_eq_false_iff_eq]; omega
            have h2n : (c != 1) = false := by rw [bne_eq_false_iff_eq]; omega
            have K0 := Lib.hid hk0
            have AB := Lib.hid hab
            have C1 := Lib.hid hc1
            clear hk0 hab hc1
            go_wp2_with fail
            refine (CA.out _).mono ?_
            rintro e w3 ⟨rfl, hb⟩
            have Y := Lib.hid (Y.out.next hb)
            clear hb d0 d1 d2
            obtain ⟨d0, d1, d2⟩ := CS.out _ Y.out
            go_wp2_with fail
            go_quiet (fail)
            have Y := Lib.hid (Y.out.drewN nq)
            clear d0 d1 d2
            obtain ⟨d0, d1, d2⟩ := CS.out _ Y.out
            go_wp2_with fail
            refine (CB.out _).mono ?_
            rintro e w3 ⟨rfl, hb⟩
            have Y := Lib.hid (Y.out.next hb)
            clear hb d0 d1 d2
            obtain ⟨d0, d1, d2⟩ := CS.out _ Y.out
            go_wp2_with fail
            go_roundw
            case rel => exact ⟨k + 1, _, by omega, by go_num, rfl, by simp only [ByteArray.size_append]; omega, Lib.hid (ST.out _ (by rw [if_pos K0.out, if_neg AB.out, if_pos C1.out, app_list, app_list, app_list, LA.out, LB.out, T0.out K0.out]; simp)), Y⟩
            case measure => simp [intOf]; omega
          · have g1 : decide ((0 : Int) < (k : Int)) = false := by rw [decide_eq_false_iff_not]; omega
            have g2 : decide (0 < k) = false := by rw [decide_eq_false_iff_not]; omega
            have h1 : ((a : Int) != (b : Int)) = true := by rw [bne_iff_ne]; omega
            have h1n : (a != b) = true := by rw [bne_iff_ne]; omega
            have h2 : ((c : Int) != 1) = true := by rw [bne_iff_ne]; omega
            have h2n : (c != 1) = true := by rw [bne_iff_ne]; omega
            have K0 := Lib.hid hk0
            have AB := Lib.hid hab
            have C1 := Lib.hid hc1
            clear hk0 hab hc1
            go_wp2_with fail
            refine (CA.out _).mono ?_
            rintro e w3 ⟨rfl, hb⟩
            have Y := Lib.hid (Y.out.next hb)
            clear hb d0 d1 d2
            obtain ⟨d0, d1, d2⟩ := CS.out _ Y.out
            go_wp2_with fail
            go_quiet (fail)
            have Y := Lib.hid (Y.out.drewN nq)
            clear d0 d1 d2
            obtain ⟨d0, d1, d2⟩ := CS.out _ Y.out
            go_wp2_with fail
            refine (CB.out _).mono ?_
            rintro e w3 ⟨rfl, hb⟩
            have Y := Lib.hid (Y.out.next hb)
            clear hb d0 d1 d2
            obtain ⟨d0, d1, d2⟩ := CS.out _ Y.out
            go_wp2_with fail
            refine (CC.out _).mono ?_
            rintro e w3 ⟨rfl, hb⟩
            have Y := Lib.hid (Y.out.next hb)
            clear hb d0 d1 d2
            obtain ⟨d0, d1, d2⟩ := CS.out _ Y.out
            go_wp2_with fail
            go_roundw
            case rel => exact ⟨k + 1, _, by omega, by go_num, rfl, by simp only [ByteArray.size_append]; omega, Lib.hid (ST.out _ (by rw [if_pos K0.out, if_neg AB.out, if_neg C1.out, app_list, app_list, app_list, app_list, app_list, LA.out, LB.out, LC.out, T0.out K0.out]; simp)), Y⟩
            case measure => simp [intOf]; omega
      · by_cases hab : a = b
        · by_cases hc1 : c = 1
          · have g1 : decide ((0 : Int) < (k : Int)) = true := by rw [decide_eq_true_iff]; omega
            have g2 : decide (0 < k) = true := by rw [decide_eq_true_iff]; omega
            have h1 : ((a : Int) != (b : Int)) = false := by rw [bne_eq_false_iff_eq]; omega
            have h1n : (a != b) = false := by rw [bne_eq_false_iff_eq]; omega
            have h2 : ((c : Int) != 1) = false := by rw [bne_eq_false_iff_eq]; omega
            have h2n : (c != 1) = false := by rw [bne_eq_false_iff_eq]; omega
            have K0 := Lib.hid hk0
            have AB := Lib.hid hab
            have C1 := Lib.hid hc1
            clear hk0 hab hc1
            go_wp2_with fail
            refine (CA.out _).mono ?_
            rintro e w3 ⟨rfl, hb⟩
            have Y := Lib.hid (Y.out.next hb)
            clear hb d0 d1 d2
            obtain ⟨d0, d1, d2⟩ := CS.out _ Y.out
            go_wp2_with fail
            go_quiet (fail)
            have Y := Lib.hid (Y.out.drewN nq)
            clear d0 d1 d2
            obtain ⟨d0, d1, d2⟩ := CS.out _ Y.out
            go_wp2_with fail
            go_roundw
            case rel => exact ⟨k + 1, _, by omega, by go_num, rfl, by simp only [ByteArray.size_append]; omega, Lib.hid (ST.out _ (by rw [if_neg K0.out, if_pos AB.out, if_pos C1.out, app_list, app_list, LA.out, HT.out]; simp)), Y⟩
            case measure => simp [intOf]; omega
          · have g1 : decide ((0 : Int) < (k : Int)) = true := by rw [decide_eq_true_iff]; omega
            have g2 : decide (0 < k) = true := by rw [decide_eq_true_iff]; omega
            have h1 : ((a : Int) != (b : Int)) = false := by rw [bne_eq_false_iff_eq]; omega
            have h1n : (a != b) = false := by rw [bne_eq_false_iff_eq]; omega
            have h2 : ((c : Int) != 1) = true := by rw [bne_iff_ne]; omega
            have h2n : (c != 1) = true := by rw [bne_iff_ne]; omega
            have K0 := Lib.hid hk0
            have AB := Lib.hid hab
            have C1 := Lib.hid hc1
            clear hk0 hab hc1
            go_wp2_with fail
            refine (CA.out _).mono ?_
            rintro e w3 ⟨rfl, hb⟩
            have Y := Lib.hid (Y.out.next hb)
            clear hb d0 d1 d2
            obtain ⟨d0, d1, d2⟩ := CS.out _ Y.out
            go_wp2_with fail
            go_quiet (fail)
            have Y := Lib.hid (Y.out.drewN nq)
            clear d0 d1 d2
            obtain ⟨d0, d1, d2⟩ := CS.out _ Y.out
            go_wp2_with fail
            refine (CC.out _).mono ?_
            rintro e w3 ⟨rfl, hb⟩
            have Y := Lib.hid (Y.out.next hb)
            clear hb d0 d1 d2
            obtain ⟨d0, d1, d2⟩ := CS.out _ Y.out
            go_wp2_with fail
            go_roundw
            case rel => exact ⟨k + 1, _, by omega, by go_num, rfl, by simp only [ByteArray.size_append]; omega, Lib.hid (ST.out _ (by rw [if_neg K0.out, if_pos AB.out, if_neg C1.out, app_list, app_list, app_list, app_list, LA.out, LC.out, HT.out]; simp)), Y⟩
            case measure => simp [intOf]; omega
        · by_cases hc1 : c = 1
          · have g1 : decide ((0 : Int) < (k : Int)) = true := by rw [decide_eq_true_iff]; omega
            have g2 : decide (0 < k) = true := by rw [decide_eq_true_iff]; omega
            have h1 : ((a : Int) != (b : Int)) = true := by rw [bne_iff_ne]; omega
            have h1n : (a != b) = true := by rw [bne_iff_ne]; omega
            have h2 : ((c : Int) != 1) = false := by rw [bne_eq_false_iff_eq]; omega
            have h2n : (c != 1) = false := by rw [bne_eq_false_iff_eq]; omega
            have K0 := Lib.hid hk0
            have AB := Lib.hid hab
            have C1 := Lib.hid hc1
            clear hk0 hab hc1
            go_wp2_with fail
            refine (CA.out _).mono ?_
            rintro e w3 ⟨rfl, hb⟩
            have Y := Lib.hid (Y.out.next hb)
            clear hb d0 d1 d2
            obtain ⟨d0, d1, d2⟩ := CS.out _ Y.out
            go_wp2_with fail
            go_quiet (fail)
            have Y := Lib.hid (Y.out.drewN nq)
            clear d0 d1 d2
            obtain ⟨d0, d1, d2⟩ := CS.out _ Y.out
            go_wp2_with fail
            refine (CB.out _).mono ?_
            rintro e w3 ⟨rfl, hb⟩
            have Y := Lib.hid (Y.out.next hb)
            clear hb d0 d1 d2
            obtain ⟨d0, d1, d2⟩ := CS.out _ Y.out
            go_wp2_with fail
            go_roundw
            case rel => exact ⟨k + 1, _, by omega, by go_num, rfl, by simp only [ByteArray.size_append]; omega, Lib.hid (ST.out _ (by rw [if_neg K0.out, if_neg AB.out, if_pos C1.out, app_list, app_list, app_list, app_list, LA.out, LB.out, HT.out]; simp)), Y⟩
            case measure => simp [intOf]; omega
          · have g1 : decide ((0 : Int) < (k : Int)) = true := by rw [decide_eq_true_iff]; omega
            have g2 : decide (0 < k) = true := by rw [decide_eq_true_iff]; omega
            have h1 : ((a : Int) != (b : Int)) = true := by rw [bne_iff_ne]; omega
            have h1n : (a != b) = true := by rw [bne_iff_ne]; omega
            have h2 : ((c : Int) != 1) = true := by rw [bne_iff_ne]; omega
            have h2n : (c != 1) = true := by rw [bne_iff_ne]; omega
            have K0 := Lib.hid hk0
            have AB := Lib.hid hab
            have C1 := Lib.hid hc1
            clear hk0 hab hc1
            go_wp2_with fail
            refine (CA.out _).mono ?_
            rintro e w3 ⟨rfl, hb⟩
            have Y := Lib.hid (Y.out.next hb)
            clear hb d0 d1 d2
            obtain ⟨d0, d1, d2⟩ := CS.out _ Y.out
            go_wp2_with fail
            go_quiet (fail)
            have Y := Lib.hid (Y.out.drewN nq)
            clear d0 d1 d2
            obtain ⟨d0, d1, d2⟩ := CS.out _ Y.out
            go_wp2_with fail
            refine (CB.out _).mono ?_
            rintro e w3 ⟨rfl, hb⟩
            have Y := Lib.hid (Y.out.next hb)
            clear hb d0 d1 d2
            obtain ⟨d0, d1, d2⟩ := CS.out _ Y.out
            go_wp2_with fail
            refine (CC.out _).mono ?_
            rintro e w3 ⟨rfl, hb⟩
            have Y := Lib.hid (Y.out.next hb)
            clear hb d0 d1 d2
            obtain ⟨d0, d1, d2⟩ := CS.out _ Y.out
            go_wp2_with fail
            go_roundw
            case rel => exact ⟨k + 1, _, by omega, by go_num, rfl, by simp only [ByteArray.size_append]; omega, Lib.hid (ST.out _ (by rw [if_neg K0.out, if_neg AB.out, if_neg C1.out, app_list, app_list, app_list, app_list, app_list, app_list, LA.out, LB.out, LC.out, HT.out]; simp)), Y⟩
            case measure => simp [intOf]; omega
    · obtain rfl : k = rs.length := by omega
      have l1 : decide ((rs.length : Int) < (rs.length : Int)) = false := by rw [decide_eq_false_iff_not]; omega
      have l1n : decide (rs.length < rs.length) = false := by rw [decide_eq_false_iff_not]; omega
      have E := Lib.hid (show T = ⟨(txt S).toArray⟩ from list_str T _ (by rw [HT.out, List.take_length, TX.out]))
      clear HT
      go_wp2_with fail
      go_ret2
      exact ⟨ret_se E.out rfl, Y.out.below⟩
/-- what the document's Print returns for a valid kind -/
theorem printR_yes (K : Fld.Kd) (v : Value) (xs : List ByteArray) (S : Nat) (star : Bool) (w : World) (hv : IsStrs w v xs) (hk : KdIs K.lo K.hi xs K.week K) (hS : S < 2 ^ 64) :
    Calls Tryz.prog 54 #[.agg #[.int .i64 K.lo, .int .i64 K.hi, v, .bool K.week], .int .u64 S, .bool star] w fun e w' => e = .returned (.tuple #[.string ⟨(printR K S star).1.toArray⟩, .int .i64 ((printR K S star).2 : Nat)]) ∧ Below w.heap.size w w' := by
  by_cases h : S = 0 ∨ subB S (fullK K) = false ∨ (star = true ∧ S ≠ fullK K)
  · have e : printR K S star = ([], 2) := by unfold printR; rw [if_pos h]
    rw [e]
    exact printR_bad K v xs S star w hv hk hS h
  · have h1 : S ≠ 0 := fun q => h (.inl q)
    have h2 : subB S (fullK K) = true := by cases q : subB S (fullK K); exact (h (.inr (.inl q))).elim; rfl
    cases star with
    | true =>
      obtain rfl : S = fullK K := Classical.byContradiction fun q => h (.inr (.inr ⟨rfl, q⟩))
      have e : printR K (fullK K) true = ([42], 0) := by unfold printR; rw [if_neg h, if_pos rfl]
      rw [e]
      exact printR_star K v xs w hv hk h1
    | false =>
      have e : printR K S false = (txt S, 0) := by unfold printR; rw [if_neg h, if_neg (by simp)]
      rw [e]
      exact printR_runs K v xs S w hv hk hS h1 h2
theorem printR_any (lo hi : Int) (v : Value) (xs : List ByteArray) (wk : Bool) (S : Nat) (star : Bool) (t : ByteArray) (q : Int) (w : World) (hv : IsStrs w v xs) (hS : S < 2 ^ 64) (hs : ∀ x ∈ xs, x.size ≤ 9223372036854775807) (h : PrintIs lo hi xs wk S star t q) :
    Calls Tryz.prog 54 #[.agg #[.int .i64 lo, .int .i64 hi, v, .bool wk], .int .u64 S, .bool star] w fun e w' => e = .returned (.tuple #[.string t, .int .i64 q]) ∧ Below w.heap.size w w' := by
  rcases h with ⟨h, rfl, rfl⟩ | ⟨K, hk, rfl, rfl, rfl, rfl, rfl⟩
  · exact printR_no lo hi v xs wk S star w hv h hs
  · exact printR_yes K v xs S star w hv hk hS
end Go.Proofs.YtpnfifhanmpapaaGreatDoor
