/- Contracts of firstRun and of Runs, of package bits; == of two arrays of three ints. -/
import Derived.Test.YtlmbfhbfejjpdaaGreatDoorBitR
import Derived.Laws.StructEq
namespace Go.Proofs.YtlmbfhbfejjpdaaGreatDoor
open Go.ChangeShapes Go.RowKit

def same3 (a b c a' b' c' : Int) : Bool := a == a' && (b == b' && c == c')
theorem same3_t (a b c : Int) : same3 a b c a b c = true := by simp [same3]
theorem same3_f {a b c a' b' c' : Int} (h : ¬ (a = a' ∧ b = b' ∧ c = c')) : same3 a b c a' b' c' = false := by
  rw [Bool.eq_false_iff]; intro k; apply h; simpa [same3] using k
@[go_sem] theorem eqArr (a b c a' b' c' : Int) (w : World) : (Op.equalIn 10000 77 (.agg #[.int .i64 a, .int .i64 b, .int .i64 c]) (.agg #[.int .i64 a', .int .i64 b', .int .i64 c'])).run Tryz.prog w = .ok (same3 a b c a' b' c') w := by
  have u3 := Tryz.underlying3
  have a3 := Tryz.isAgg3
  have z3 := Tryz.sizeOf3
  rw [show (10000 : Nat) = 9999 + 1 from rfl, Op.equalIn]
  simp only [Sem.run_bind, run_underlying Tryz.underlying77, Result.andThen_ok]
  simp only [Std.Legacy.Range.forIn_eq_forIn_range', Std.Legacy.Range.size, Nat.sub_zero, Nat.add_sub_cancel, Nat.div_one, List.range'_succ, List.range'_zero, List.forIn_cons, List.forIn_nil]
  go_simp
  by_cases h1 : a = a' <;> by_cases h2 : b = b' <;> by_cases h3 : c = c' <;> simp [h1, h2, h3, same3]

theorem first_one (S a : Nat) (hS : S < 2 ^ 64) (hm : Bit.mem S = [a]) (w : World) (L : Lay w) :
    Calls Tryz.prog 48 #[.int .u64 S] w fun e W' => e = .returned (.agg #[.int .i64 a, .int .i64 a, .int .i64 1]) ∧ Below w.heap.size w W' := by
  have a64 : a < 64 := Bit.mem_lt (S := S) (by rw [hm]; simp)
  have N1 := Lib.hid (fun w (L : Lay w) => next_any S 0 a true w L hS (by omega) (.inr ⟨a, first_some hS hm, rfl, rfl⟩))
  have N2 := Lib.hid (fun w (L : Lay w) => next_any S (a + 1) 0 false w L hS (by omega) (.inl ⟨more_none (p := []) hS hm, rfl, rfl⟩))
  have L1 := L.alloc (.cells #[.int .i64 0, .int .i64 0, .int .i64 0] 77)
  clear hm
  go_enter Tryz.func48, Tryz.ntmps48
  go_wp2_with fail
  refine (N1.out _ L1).mono ?_
  rintro e w1 ⟨rfl, rfl⟩
  go_wp2_with fail
  refine (N2.out _ L1).mono ?_
  rintro e w1 ⟨rfl, rfl⟩
  go_wp2_with fail
  exact bodyPost_ret (v := .agg #[.int .i64 a, .int .i64 a, .int .i64 1]) (by simp [results, Tryz.results48, go_sem]) rfl ⟨rfl, (Below.refl _ _).alloc (Nat.le_refl _) _⟩
/-- the last number and the step of the first run -/
def lastOf (l : List Nat) : Nat := l.getD (Bit.take1 l - 1) 0
theorem first_any (S a : Nat) (l : List Nat) (hS : S < 2 ^ 64) (hm : Bit.mem S = a :: l) (w : World) (L : Lay w) :
    Calls Tryz.prog 48 #[.int .u64 S] w fun e W' => e = .returned (.agg #[.int .i64 a, .int .i64 (lastOf (a :: l)), .int .i64 (Bit.step1 (a :: l))]) ∧ Below w.heap.size w W' := by
  have so := Bit.mem_sorted S
  rw [hm] at so
  have ll := Bit.last1 a l so
  cases l with
  | nil => exact first_one S a hS hm w L
  | cons b r =>
    rw [List.pairwise_cons] at so
    have ab := so.1 b (by simp)
    have b64 : b < 64 := Bit.mem_lt (S := S) (by rw [hm]; simp)
    obtain ⟨d, rfl⟩ : ∃ d, b = a + d := ⟨b - a, by omega⟩
    have kk : Bit.keep d a ((a + d) :: r) = Bit.keep d (a + d) r + 1 := by
      show (if a + d - a = d then _ else _) = _
      rw [if_pos (by omega)]
    have t1 := Bit.take1_two a (a + d) r
    have s1 := Bit.step1_two a (a + d) r
    rw [Nat.add_sub_cancel_left] at t1 s1
    refine callsIn_wide.1 (first_in 8 (by omega) S a (a + d) d (Bit.keep d (a + d) r + 1) (a + (Bit.keep d (a + d) r + 1) * d) _ _ r hS hm rfl (by omega) b64 kk rfl ?_ w L)
    unfold lastOf
    rw [ll, t1, s1]
    by_cases c : Bit.keep d (a + d) r = 0 ∧ 1 < d
    · rw [if_pos c, if_pos c]
      exact .inl ⟨by omega, c.2, by simp, rfl⟩
    · rw [if_neg c, if_neg c]
      exact .inr ⟨by omega, by rw [Nat.add_sub_assoc (by omega)], rfl⟩

/-! Runs -/
/-- the cells of a list of runs -/
def flat (l : List (Nat × Nat × Nat)) : List Value := l.flatMap fun r => [.int .i64 r.1, .int .i64 r.2.1, .int .i64 r.2.2]
theorem flat_len (l : List (Nat × Nat × Nat)) : (flat l).length = l.length * 3 := by
  induction l with
  | nil => rfl
  | cons r l ih => simp [flat] at ih ⊢; omega
theorem flat_snoc (l : List (Nat × Nat × Nat)) (a b c : Nat) : flat (l ++ [(a, b, c)]) = flat l ++ [.int .i64 a, .int .i64 b, .int .i64 c] := by simp [flat]
theorem flat_at : ∀ (l : List (Nat × Nat × Nat)) (k : Nat) (h : k < l.length), (flat l)[k * 3]? = some (.int .i64 l[k].1) ∧ (flat l)[k * 3 + 1]? = some (.int .i64 l[k].2.1) ∧ (flat l)[k * 3 + 2]? = some (.int .i64 l[k].2.2)
  | r :: l, 0, _ => ⟨rfl, rfl, rfl⟩
  | r :: l, k + 1, h => by
    have ih := flat_at l k (by simpa using h)
    have e : flat (r :: l) = [.int .i64 r.1, .int .i64 r.2.1, .int .i64 r.2.2] ++ flat l := by simp [flat]
    rw [e]
    have g : ∀ j, ([Value.int .i64 (r.1 : Nat), .int .i64 (r.2.1 : Nat), .int .i64 (r.2.2 : Nat)] ++ flat l)[j + 3]? = (flat l)[j]? := fun j => by
      rw [List.getElem?_append_right (by simp)]; simp
    have e1 : (k + 1) * 3 = k * 3 + 3 := by omega
    have e2 : (k + 1) * 3 + 1 = k * 3 + 1 + 3 := by omega
    have e3 : (k + 1) * 3 + 2 = k * 3 + 2 + 3 := by omega
    rw [e2, e3, e1, g, g, g]
    simpa using ih
theorem own_below {W W' : World} {base : Nat} {e : TypeId} {size : Nat} {v : Value} {k : Nat} {xs : List Value} (h : W.ownsRow base e size v k xs) (hb : Below W.heap.size W W') : W'.ownsRow base e size v k xs := by
  refine ⟨h.1, ?_⟩
  rcases h.2 with hn | ⟨g, cap, cur, hv, hbg, hc, rest⟩
  · exact .inl hn
  · exact .inr ⟨g, cap, cur, hv, hbg, (hb.block g (Array.getElem?_eq_some_iff.1 hc).1).trans hc, rest⟩
/-- a list of runs of the call's own; base: what lay before -/
structure Own3 (z : Nat) (w : World) (v : Value) (l : List (Nat × Nat × Nat)) (wr : World) : Prop where
  row : wr.ownsRow z 77 3 v l.length (flat l)
  below : Below z w wr
theorem info3 : (Tryz.prog.info? 77).map (fun i => (i.zero, i.size, i.bytes)) = some (some (.agg #[.int .i64 0, .int .i64 0, .int .i64 0]), 3, 24) := by kernel_rfl
theorem cell_three_new (w : World) (x y u : Value) (t : TypeId) : ∀ j c, [x, y, u][j]? = some c → (w.alloc (.cells #[x, y, u] t)).cell? ((⟨w.heap.size, 0, none⟩ : Addr).add j) = some c := by
  intro j c hj
  rw [add_flat]
  match j, hj with
  | 0, hj => simp at hj; subst hj; simp [go_sem]
  | 1, hj => simp at hj; subst hj; simp [go_sem]
  | 2, hj => simp at hj; subst hj; simp [go_sem]
theorem Own3.step {z : Nat} {w wr w1 : World} {v v' : Value} {l : List (Nat × Nat × Nat)} {o : Obj} {a b c : Nat} (h : Own3 z w v l wr) (hz : z ≤ wr.heap.size)
    (hown : w1.ownsRow z 77 3 v' (l.length + 1) (flat l ++ [.int .i64 a, .int .i64 b, .int .i64 c])) (hg : (wr.alloc o).grownBy w1 v.ownBlock) : Own3 z w v' (l ++ [(a, b, c)]) w1 := by
  refine ⟨by rw [flat_snoc]; simpa using hown, (h.below.alloc hz o).grown hg (by simp; omega) (fun k hk => (h.row.lt k hk).1)⟩
/-- what is left behind the first run -/
theorem drop_mem {T a : Nat} {l : List Nat} (hT : T < 2 ^ 64) (hm : Bit.mem T = a :: l) : Bit.mem (from_ T ((lastOf (a :: l) : Int) + 1)) = (a :: l).drop (Bit.take1 (a :: l)) := by
  have so := Bit.mem_sorted T
  have bd := Bit.take1_bd (a := a) (l := l)
  rw [hm] at so
  have so' := so
  refine Bit.sorted_ext (Bit.mem_sorted _) (so.sublist (List.drop_sublist _ _)) fun v => ?_
  rw [mem_bit (from_lt hT _), from_bit hT]
  have k := mem_bit (v := v) hT
  rw [hm] at k
  obtain ⟨t, ht⟩ : ∃ t, Bit.take1 (a :: l) = t + 1 := ⟨Bit.take1 (a :: l) - 1, by omega⟩
  have tl : t < (a :: l).length := by omega
  have hl : lastOf (a :: l) = (a :: l)[t] := by
    unfold lastOf
    rw [ht, Nat.add_sub_cancel, List.getD_eq_getElem?_getD, List.getElem?_eq_getElem tl]
    rfl
  have sp : a :: l = (a :: l).take (t + 1) ++ (a :: l).drop (t + 1) := (List.take_append_drop _ _).symm
  rw [ht, hl]
  generalize hA : (a :: l) = A at *
  constructor
  · intro h
    simp only [Bool.and_eq_true, decide_eq_true_eq] at h
    have q := k.2 h.1
    rw [sp, List.mem_append] at q
    rcases q with q | q
    · exfalso
      obtain ⟨i, hi, e⟩ := List.getElem_of_mem q
      rw [List.length_take] at hi
      rw [List.getElem_take] at e
      rcases Nat.lt_or_ge i t with c | c
      · have := (List.pairwise_iff_getElem.1 so) i t (by omega) tl c
        omega
      · have : i = t := by omega
        subst this
        omega
    · exact q
  · intro q
    have q1 := k.1 (by rw [sp, List.mem_append]; exact .inr q)
    obtain ⟨i, hi, e⟩ := List.getElem_of_mem q
    rw [List.length_drop] at hi
    rw [List.getElem_drop] at e
    have := (List.pairwise_iff_getElem.1 so) t (t + 1 + i) tl (by omega) (by omega)
    rw [q1]
    simp only [Bool.true_and, decide_eq_true_eq]
    omega
theorem mem_ne {T a : Nat} {l : List Nat} (hm : Bit.mem T = a :: l) : T ≠ 0 := by
  rintro rfl
  have : a ∈ Bit.mem 0 := by rw [hm]; simp
  have := (Bit.mem_iff.1 this).2
  rw [Nat.zero_testBit] at this
  cases this
theorem mem_nil {T : Nat} (hT : T < 2 ^ 64) (hm : Bit.mem T = []) : T = 0 := by
  apply Bit.ext64 hT (by decide)
  intro v _
  rw [Nat.zero_testBit]
  cases h : T.testBit v with
  | false => rfl
  | true =>
    have := (mem_bit hT).2 h
    rw [hm] at this
    simp at this
theorem last_lt {T a : Nat} {l : List Nat} (hm : Bit.mem T = a :: l) : lastOf (a :: l) < 64 := by
  have bd := Bit.take1_bd (a := a) (l := l)
  have tl : Bit.take1 (a :: l) - 1 < (a :: l).length := by omega
  unfold lastOf
  rw [List.getD_eq_getElem?_getD, List.getElem?_eq_getElem tl]
  exact Bit.mem_lt (S := T) (by rw [hm]; exact List.getElem_mem tl)

theorem runs_any (S : Nat) (hS : S < 2 ^ 64) (w : World) (L : Lay w) :
    Calls Tryz.prog 30 #[.int .u64 S] w fun e W' => ∃ v, e = .returned v ∧ Own3 w.heap.size w v (Bit.runs (Bit.mem S)) W' := by
  obtain ⟨i0, hi, hz0, hz1, hz2⟩ := info_parts info3
  have LL := Lib.hid L
  go_enter Tryz.func30, Tryz.ntmps30
  go_wp2_with fail
  go_loopw [0, 3] (fun s v wr => ∃ (T : Nat) (rs : List (Nat × Nat × Nat)), s = .int .u64 T ∧ T < 18446744073709551616 ∧ Hid (Bit.runs (Bit.mem S) = rs ++ Bit.runs (Bit.mem T)) ∧ Hid (Own3 w.heap.size w v rs wr)) (fun s _ _ => (Bit.mem (intOf s).toNat).length)
  case atStart => exact ⟨S, [], rfl, hS, Lib.hid rfl, Lib.hid ⟨World.ownsRow_nil _ _ _ _, Below.refl _ _⟩⟩
  case round =>
    obtain ⟨T, rs, rfl, hT, hr, ho⟩ := hrel
    have hsz := ho.out.below.size
    cases hm : Bit.mem T with
    | nil =>
      obtain rfl := mem_nil hT hm
      rw [hm, Bit.runs_nil, List.append_nil] at hr
      clear hm
      go_wp2_with fail
      go_ret
      exact ⟨_, rfl, by rw [hr.out]; exact ho.out⟩
    | cons a l =>
      have ne : (((T : Nat) : Int) != 0) = true := by
        have := mem_ne hm
        rw [bne_iff_ne]; omega
      rw [hm, Bit.runs_cons] at hr
      have LT := last_lt hm
      have F := Lib.hid (fun w L => first_any T a l hT hm w L)
      have DM := Lib.hid (drop_mem hT hm)
      have HM := Lib.hid hm
      have rl : rs.length < 64 := by
        have h1 := Bit.runs_len (Bit.mem S)
        have h2 := Bit.mem_len S
        rw [hr.out, List.length_append, List.length_cons] at h1
        omega
      have B := Lib.hid (fun w => below_any ((lastOf (a :: l) : Int) + 1) w (by omega))
      have an : bits .andNot .u64 (T : Int) (low ((lastOf (a :: l) : Int) + 1) : Nat) = (from_ T ((lastOf (a :: l) : Int) + 1) : Nat) := u64_andNot_nat T _ hT (low_lt _)
      have FL := Lib.hid (from_lt hT ((lastOf (a :: l) : Int) + 1))
      have TB := Lib.hid (Bit.take1_bd (a := a) (l := l))
      have HRL : Hid (Bit.runs (Bit.mem S) = (rs ++ [(a, lastOf (a :: l), Bit.step1 (a :: l))]) ++ Bit.runs ((a :: l).drop (Bit.take1 (a :: l)))) := Lib.hid (by rw [hr.out]; simp [lastOf])
      obtain ⟨la, hla⟩ : ∃ la, lastOf (a :: l) = la := ⟨_, rfl⟩
      obtain ⟨sa, hsa⟩ : ∃ sa, Bit.step1 (a :: l) = sa := ⟨_, rfl⟩
      obtain ⟨M, hM⟩ : ∃ M, low ((la : Int) + 1) = M := ⟨_, rfl⟩
      obtain ⟨U, hU⟩ : ∃ U, from_ T ((la : Int) + 1) = U := ⟨_, rfl⟩
      rw [hla, hsa] at F HRL
      rw [hla] at LT B an FL DM
      rw [hM] at B an
      rw [hU] at an FL DM
      have Lw := Lib.hid (LL.out.below ho.out.below)
      clear hm hla hsa hM hU hr
      go_wp2_with fail
      refine (F.out _ Lw.out).mono ?_
      rintro e w1 ⟨rfl, hb1⟩
      have ho1 : Own3 w.heap.size w _ rs w1 := ⟨own_below ho.out.row hb1, ho.out.below.trans (hb1.mono hsz)⟩
      have HO1 := Lib.hid ho1
      have hsz1 := ho1.below.size
      clear ho1 ho hb1
      go_wp2_with (at_builtin; refine wpList_append_own_at _ rfl (.tmp 9) (.tmp 11) 75 rfl w.heap.size 77 i0 (.agg #[.int .i64 0, .int .i64 0, .int .i64 0]) 3 24 Tryz.underlying75 hi hz0 hz1 hz2 rfl (by decide) _ rs.length _ rfl ((HO1.out.row.alloc _).alloc _) ⟨w1.heap.size + 1, 0, none⟩ 1 1 [.int .i64 a, .int .i64 la, .int .i64 sa] rfl ?c1 ?c2 ?c3 ?c4 ?c5 ?c6 ?c7)
      case c1 => rfl
      case c2 => simpa using cell_three_new (w1.alloc (.cells #[.int .i64 a, .int .i64 la, .int .i64 sa] 77)) (.int .i64 a) (.int .i64 la) (.int .i64 sa) 77
      case c3 => simp [Value.oneCell']
      case c4 => simp [maxLen]; omega
      case c5 => omega
      case c6 => simp; omega
      case c7 =>
        intro v2 w2 hown hg _ _
        have hA : Own3 w.heap.size w _ rs (w1.alloc (.cells #[.int .i64 a, .int .i64 la, .int .i64 sa] 77)) := ⟨HO1.out.row.alloc _, HO1.out.below.alloc hsz1 _⟩
        have h2 := hA.step (by simp; omega) hown hg
        have cl : w2.cell? ⟨w1.heap.size, 1, none⟩ = some (.int .i64 la) := by
          rw [World.cell?_of_block (a := ⟨w1.heap.size, 1, none⟩) (hg.block w1.heap.size (by simp; omega) (fun e => by
            have := (HO1.out.row.lt _ e.symm).2
            omega))]
          simp [go_sem]
        have H2 := Lib.hid h2
        clear h2 hA hown hg
        go_wp2_with fail
        refine (B.out _).mono ?_
        rintro e w3 ⟨rfl, rfl⟩
        go_wp2_with fail
        go_roundw
        case rel => exact ⟨U, _, rfl, FL.out, by rw [DM.out]; exact HRL, H2⟩
        case measure =>
          have := TB.out
          simp only [intOf, Int.toNat_natCast]
          rw [DM.out, HM.out, List.length_drop]
          omega
end Go.Proofs.YtlmbfhbfejjpdaaGreatDoor
