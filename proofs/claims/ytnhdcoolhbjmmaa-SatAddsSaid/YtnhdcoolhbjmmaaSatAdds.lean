/- For all slices of int64 numbers, SatAdds returns true: the sum of a list is that of its beginning with the last element added, and numbers from 0 on have the same sum in the other order. No conditions. -/
import Derived.Test.YtnhdcoolhbjmmaaRows
import Derived.Test.YtnhdcoolhbjmmaaSatOwn
import Derived.Laws.BitsAllLaws
import Derived.StillTailTactics
import Derived.OpenShut
import Derived.ChangeOld
namespace Go.Proofs.Ytnhdcoolhbjmmaa.satAdds
open Go.ChangeShapes Go.WideShapes Go.ChangeAt Go.RowKit

/-! ### plain facts -/
def msk (z : Int) : Int := bits BinOp.and IntKind.i64 z 9223372036854775807
theorem msk_nonneg (z : Int) : 0 ≤ msk z := by
  show 0 ≤ IntKind.i64.wrap ((BitVec.ofInt 64 z &&& BitVec.ofInt 64 ((9223372036854775807 : Nat) : Int)).toNat : Int)
  rw [BitVec.toNat_and, ofInt_u64 9223372036854775807 (by omega)]
  have k : (BitVec.ofInt 64 z).toNat &&& 9223372036854775807 ≤ 9223372036854775807 := Nat.and_le_right
  generalize (BitVec.ofInt 64 z).toNat &&& 9223372036854775807 = m at k
  simp [IntKind.wrap, IntKind.bits, IntKind.signed]
  omega
def tot (l : List Int) : Int := l.foldr (· + ·) 0
theorem tot_append (l m : List Int) : tot (l ++ m) = tot l + tot m := by
  induction l with
  | nil => simp [tot]
  | cons x l ih => simp only [tot, List.cons_append, List.foldr_cons] at *; omega
theorem tot_reverse (l : List Int) : tot l.reverse = tot l := by
  induction l with
  | nil => rfl
  | cons x l ih => rw [List.reverse_cons, tot_append, ih]; simp only [tot, List.foldr_cons, List.foldr_nil]; omega
theorem tot_nonneg : ∀ (l : List Int), (∀ x ∈ l, 0 ≤ x) → 0 ≤ tot l
  | [], _ => by simp [tot]
  | x :: l, h => by
    have h1 := h x (by simp)
    have h2 := tot_nonneg l (fun y hy => h y (by simp [hy]))
    simp only [tot, List.foldr_cons] at *
    omega
theorem fold_tot : ∀ (l : List Int) (t : Int), 0 ≤ t → (∀ x ∈ l, 0 ≤ x) → l.foldl addS (clip t) = clip (t + tot l)
  | [], t, _, _ => by simp [tot]
  | x :: l, t, ht, h => by
    have h1 := h x (by simp)
    have e : addS (clip t) x = clip (t + x) := by unfold addS clip; omega
    rw [List.foldl_cons, e, fold_tot l (t + x) (by omega) (fun y hy => h y (by simp [hy]))]
    simp only [tot, List.foldr_cons]
    congr 1
    omega
theorem sum_tot (l : List Int) (h : ∀ x ∈ l, 0 ≤ x) : sumS l = clip (tot l) := by
  have := fold_tot l 0 (by omega) h
  rw [show clip 0 = 0 from rfl, Int.zero_add] at this
  exact this
def ups (zs : List Int) (k : Nat) : List Int := (List.range k).map fun i => msk (zs.getD i 0)
def downs (zs : List Int) (len k : Nat) : List Int := (List.range k).map fun i => msk (zs.getD (len - 1 - i) 0)
theorem ups_length (zs : List Int) (k : Nat) : (ups zs k).length = k := by simp [ups]
theorem downs_length (zs : List Int) (len k : Nat) : (downs zs len k).length = k := by simp [downs]
theorem ups_succ (zs : List Int) (k : Nat) : ups zs (k + 1) = ups zs k ++ [msk (zs.getD k 0)] := by simp [ups, List.range_succ]
theorem downs_succ (zs : List Int) (len k : Nat) : downs zs len (k + 1) = downs zs len k ++ [msk (zs.getD (len - 1 - k) 0)] := by simp [downs, List.range_succ]
theorem downs_rev (zs : List Int) (len : Nat) : downs zs len len = (ups zs len).reverse := by
  apply List.ext_getElem
  · simp [ups, downs]
  · intro i h1 h2
    simp [downs] at h1
    simp [ups, downs]
theorem sums_eq (zs : List Int) (len : Nat) : sumS (ups zs len) = sumS (downs zs len len) := by
  have p : ∀ x ∈ ups zs len, 0 ≤ x := by
    intro x hx
    obtain ⟨i, _, rfl⟩ := List.mem_map.1 hx
    exact msk_nonneg _
  rw [downs_rev, sum_tot _ p, sum_tot _ (fun x hx => p x (List.mem_reverse.1 hx)), tot_reverse]

/-! ### the walks -/
theorem walk_long (a : Option Addr) (len cap : Nat) (w : World) (hl : 300 < len) (hm : len ≤ 9223372036854775807) :
    Calls Try.prog 13 #[.slice a len cap] w fun e w' => e = .returned (.bool true) ∧ Below w.heap.size w w' := by
  go_enter Try.func13, Try.ntmps13
  go_wp2_with fail
  refine (works_any _).mono ?_
  rintro e w1 ⟨rfl, hb1⟩
  go_wp2_with fail
  go_ret
  exact ⟨rfl, hb1⟩

/-- the two lists that are made: each the call's own, in blocks of their own -/
structure Two (w : World) (vu vd : Value) (nu nd : Nat) (lu ld : List Int) (wr : World) : Prop where
  up : wr.ownsRow w.heap.size 2 1 vu nu (lu.map (Value.int .i64))
  down : wr.ownsRow w.heap.size 2 1 vd nd (ld.map (Value.int .i64))
  apart : ∀ g, vu.ownBlock = some g → vd.ownBlock ≠ some g
  below : Below w.heap.size w wr
theorem Two.step_up {w wr w1 : World} {vu vd v' : Value} {nu nd : Nat} {lu ld : List Int} {o : Obj} {x : Int} (h : Two w vu vd nu nd lu ld wr)
    (hown : w1.ownsRow w.heap.size 2 1 v' (nu + 1) (lu.map (Value.int .i64) ++ [.int .i64 x])) (hg : (wr.alloc o).grownBy w1 vu.ownBlock)
    (hat : v'.ownBlock = vu.ownBlock ∨ v'.ownBlock = some (wr.heap.size + 1)) : Two w v' vd (nu + 1) nd (lu ++ [x]) ld w1 := by
  have hs := h.below.size
  refine ⟨by simpa using hown, (h.down.alloc o).kept hg ?_, ?_, (h.below.alloc hs o).grown hg (by simp; omega) (fun k hk => (h.up.lt k hk).1)⟩
  · by_cases z : vd.ownBlock = none
    · exact .inl z
    · refine .inr fun e => ?_
      obtain ⟨g, hgd⟩ := Option.ne_none_iff_exists'.1 z
      exact h.apart g (by rw [← e, hgd]) hgd
  · intro g hgv hgd
    rcases hat with e | e
    · exact h.apart g (by rw [← e, hgv]) hgd
    · have := (h.down.lt g hgd).2
      rw [e] at hgv
      simp at hgv
      omega
theorem Two.step_down {w wr w1 : World} {vu vd v' : Value} {nu nd : Nat} {lu ld : List Int} {o : Obj} {x : Int} (h : Two w vu vd nu nd lu ld wr)
    (hown : w1.ownsRow w.heap.size 2 1 v' (nd + 1) (ld.map (Value.int .i64) ++ [.int .i64 x])) (hg : (wr.alloc o).grownBy w1 vd.ownBlock)
    (hat : v'.ownBlock = vd.ownBlock ∨ v'.ownBlock = some (wr.heap.size + 1)) : Two w vu v' nu (nd + 1) lu (ld ++ [x]) w1 := by
  have hs := h.below.size
  refine ⟨(h.up.alloc o).kept hg ?_, by simpa using hown, ?_, (h.below.alloc hs o).grown hg (by simp; omega) (fun k hk => (h.down.lt k hk).1)⟩
  · by_cases z : vu.ownBlock = none
    · exact .inl z
    · refine .inr fun e => ?_
      obtain ⟨g, hgd⟩ := Option.ne_none_iff_exists'.1 z
      exact h.apart g hgd (by rw [← e, hgd])
  · intro g hgu hgd
    rcases hat with e | e
    · exact h.apart g hgu (by rw [← e, hgd])
    · have := (h.up.lt g hgu).2
      rw [e] at hgd
      simp at hgd
      omega

theorem sumOV (base : Nat) (v : Value) (n : Nat) (zs : List Int) (c : Int) (w : World) (ho : w.ownsRow base 2 1 v n (zs.map (Value.int .i64))) (hn : n ≤ 9223372036854775807) (hc : sumS zs = c) :
    Calls Try.prog 33 #[v] w fun e w' => e = .returned (.int .i64 c) ∧ w = w' := by
  subst hc; exact sum_own base v n zs w ho hn
theorem sumF (b off len cap : Nat) (zs : List Int) (c : Int) (w : World) (hz : len ≤ zs.length) (hm : len ≤ 9223372036854775807) (hs : sumS (zs.take len) = c) (hc : ∀ i, i < len → w.cell? ⟨b, off + i, none⟩ = some (.int .i64 (zs.getD i 0))) :
    Calls Try.prog 33 #[.slice (some ⟨b, off, none⟩) len cap] w fun e w' => e = .returned (.int .i64 c) ∧ w' = w := by
  subst hs
  by_cases h0 : len = 0
  · subst h0
    exact (sum_nil _ _ w).mono fun _ _ ⟨h1, h2⟩ => ⟨h1, h2.symm⟩
  · exact (sum_row b off len cap zs w (by omega) hz hm hc).mono fun _ _ ⟨h1, h2⟩ => ⟨h1, h2.symm⟩
theorem walk_row (b off len cap : Nat) (zs : List Int) (w : World) (h0 : 0 < len) (hl : len ≤ 300) (hcap : len ≤ cap) (hz : len ≤ zs.length) (hc : ∀ i, i < len → w.cell? ⟨b, off + i, none⟩ = some (.int .i64 (zs.getD i 0))) :
    Calls Try.prog 13 #[.slice (some ⟨b, off, none⟩) len cap] w fun e w' => e = .returned (.bool true) ∧ Below w.heap.size w w' := by
  obtain ⟨i0, hi, hz0, hz1, hz2⟩ := info_parts info2
  have hb : b < w.heap.size := lt_of_cell (hc 0 h0)
  have HC := Lib.hid hc
  clear hc
  go_enter Try.func13, Try.ntmps13
  go_wp2_with fail
  go_loopw [3, 4, 13] (fun vu vd i wr => ∃ k : Nat, k ≤ len ∧ i = .int .i64 k ∧ Two w vu vd k k (ups zs k) (downs zs len k) wr) (fun _ _ i _ => len - (intOf i).toNat)
  case atStart => exact ⟨0, by omega, rfl, World.ownsRow_nil _ _ _ _, World.ownsRow_nil _ _ _ _, by simp [Value.ownBlock], Below.refl _ _⟩
  case round =>
    obtain ⟨k, hk, rfl, hi1⟩ := hrel
    by_cases hlt : k < len
    · obtain ⟨x, hx⟩ : ∃ x, zs.getD k 0 = x := ⟨_, rfl⟩
      obtain ⟨y, hy⟩ : ∃ y, zs.getD (len - 1 - k) 0 = y := ⟨_, rfl⟩
      have c1 : wr.cell? ⟨b, off + k, none⟩ = some (.int .i64 x) := by rw [hi1.below.cell (p := ⟨b, off + k, none⟩) hb, HC.out k hlt, hx]
      have c2 : wr.cell? ⟨b, off + (len - 1 - k), none⟩ = some (.int .i64 y) := by rw [hi1.below.cell (p := ⟨b, off + (len - 1 - k), none⟩) hb, HC.out _ (by omega), hy]
      have hzw := hi1.below.size
      have HX := Lib.hid hx
      have HY := Lib.hid hy
      have HI := Lib.hid hi1
      clear hx hy hi1
      go_wp2_with (at_builtin; refine wpList_append_own_at _ rfl (.tmp 16) (.tmp 22) 33 rfl w.heap.size 2 i0 (.int .i64 0) 1 8 Try.underlying33 hi hz0 hz1 hz2 rfl (by decide) _ k _ rfl (HI.out.up.alloc _) ⟨wr.heap.size, 0, none⟩ 1 1 [.int .i64 (msk x)] rfl ?c1 ?c2 ?c3 ?c4 ?c5 ?c6 ?c7)
      case c1 => rfl
      case c2 => exact cell_one_new _ _ _
      case c3 => simp [Value.oneCell']
      case c4 => unfold maxLen; omega
      case c5 => omega
      case c6 => simp; omega
      case c7 =>
        intro v1 w1 hown hg _ hat
        have h1 := Two.step_up HI.out hown hg hat
        have hzw1 := h1.below.size
        have c3 : w1.cell? ⟨b, off + (len - 1 - k), none⟩ = some (.int .i64 y) := by rw [h1.below.cell (p := ⟨b, off + (len - 1 - k), none⟩) hb, HC.out _ (by omega), HY.out]
        have H1 := Lib.hid h1
        clear h1 hown hg hat c1 c2 hzw
        go_wp2_with (at_builtin; refine wpList_append_own_at _ rfl (.tmp 24) (.tmp 34) 33 rfl w.heap.size 2 i0 (.int .i64 0) 1 8 Try.underlying33 hi hz0 hz1 hz2 rfl (by decide) _ k _ rfl (H1.out.down.alloc _) ⟨w1.heap.size, 0, none⟩ 1 1 [.int .i64 (msk y)] rfl ?d1 ?d2 ?d3 ?d4 ?d5 ?d6 ?d7)
        case d1 => rfl
        case d2 => exact cell_one_new _ _ _
        case d3 => simp [Value.oneCell']
        case d4 => unfold maxLen; omega
        case d5 => omega
        case d6 => simp; omega
        case d7 =>
          intro v2 w2 hown hg _ hat
          have h2 := Two.step_down H1.out hown hg hat
          rw [← HX.out, ← HY.out, ← ups_succ, ← downs_succ] at h2
          have H2 := Lib.hid h2
          clear h2 hown hg hat c3 hzw1
          go_wp2_with fail
          go_roundw
          case rel => exact ⟨k + 1, by omega, by go_num, H2.out⟩
          case measure => simp [intOf]; omega
    · have hkl : k = len := by omega
      subst hkl
      have HE := Lib.hid (sums_eq zs k)
      obtain ⟨s, hs⟩ : ∃ s, sumS (downs zs k k) = s := ⟨_, rfl⟩
      have HU : Hid (sumS (ups zs k) = s) := Lib.hid (HE.out.trans hs)
      have HD := Lib.hid hs
      have HI := Lib.hid hi1
      have hl1 : ∀ i, i < k → wr.cell? ⟨b, off + i, none⟩ = some (.int .i64 (zs.getD i 0)) := fun i h => by
        rw [hi1.below.cell (p := ⟨b, off + i, none⟩) hb, HC.out i h]
      have L1 := Lib.hid hl1
      clear hs hi1 hl1
      go_wp2_with fail
      refine (sumOV w.heap.size _ k (ups zs k) s _ HI.out.up (by omega) HU.out).mono ?_
      rintro e w' ⟨rfl, rfl⟩
      go_wp2_with fail
      refine (sumOV w.heap.size _ k (downs zs k k) s _ HI.out.down (by omega) HD.out).mono ?_
      rintro e w' ⟨rfl, rfl⟩
      go_wp2_with fail
      obtain ⟨j, hj⟩ : ∃ j, k - 1 = j := ⟨_, rfl⟩
      have e1 : IntKind.i64.wrap ((k : Int) - 1) = (j : Int) := by simp [IntKind.wrap, IntKind.signed, IntKind.bits]; omega
      have j1 : j < k := by omega
      have j2 : j ≤ cap := by omega
      have j3 : (j : Int) < (k : Int) := by omega
      have j4 : (j : Int) ≤ (cap : Int) := by omega
      obtain ⟨z, hz'⟩ : ∃ z, zs.getD j 0 = z := ⟨_, rfl⟩
      obtain ⟨t, ht⟩ : ∃ t, sumS (zs.take k) = t := ⟨_, rfl⟩
      obtain ⟨r, hr'⟩ : ∃ r, sumS (zs.take j) = r := ⟨_, rfl⟩
      have c9 : wr.cell? ⟨b, off + j, none⟩ = some (.int .i64 z) := by rw [← hz']; exact L1.out j j1
      have ha : addS r z = t := by
        rw [← hr', ← hz', ← ht, ← sumS_step zs j (by omega), show j + 1 = k by omega]
      have HT := Lib.hid ht
      have HR := Lib.hid hr'
      have HA := Lib.hid ha
      clear hz' ht hr' ha hj
      refine wp_region_still_tail 14 (by kernel_rfl) (by kernel_rfl) ?_
      simp only [List.take_succ_cons, List.take_zero, List.drop_succ_cons, List.drop_zero]
      still_step
      still_call (sumF b off k cap zs t _ hz (by omega) HT.out (fun i h => by have := L1.out i h; simpa using this))
      still_step
      still_step
      still_step
      still_step
      still_call (sumF b off j cap zs r _ (by omega) (by omega) HR.out (fun i h => by have := L1.out i (by omega); simpa using this))
      still_step
      still_step
      still_step
      still_step
      still_step
      still_call ((addV r z t _ HA.out).mono fun _ _ ⟨h1, h2⟩ => ⟨h1, h2.symm⟩)
      still_step
      refine wpStill_nil ?_
      change wpList _ _ _ _ _ wr.drew
      go_wp2_with fail
      refine (works_any _).mono ?_
      rintro e w5 ⟨rfl, hb5⟩
      go_wp2_with fail
      go_ret
      exact ⟨rfl, (HI.out.below.drew).trans (hb5.mono (by simpa using HI.out.below.size))⟩

theorem walk_none (a : Option Addr) (cap : Nat) (w : World) :
    Calls Try.prog 13 #[.slice a 0 cap] w fun e w' => e = .returned (.bool true) ∧ Below w.heap.size w w' := by
  go_enter Try.func13, Try.ntmps13
  go_wp2_with fail
  go_loop [3, 4, 13] (fun u d i => i = .int .i64 0 ∧ u = .slice none 0 0 ∧ d = .slice none 0 0) (fun _ _ _ => 0)
  case atStart => exact ⟨rfl, rfl, rfl⟩
  case round =>
    obtain ⟨rfl, rfl, rfl⟩ := hrel
    go_wp2_with fail
    refine (sum_nil _ _ _).mono ?_
    rintro e w' ⟨rfl, rfl⟩
    go_wp2_with fail
    refine (sum_nil _ _ _).mono ?_
    rintro e w' ⟨rfl, rfl⟩
    go_wp2_with fail
    refine (sum_nil _ _ _).mono ?_
    rintro e w' ⟨rfl, rfl⟩
    go_wp2_with fail
    refine (works_any _).mono ?_
    rintro e w5 ⟨rfl, hb5⟩
    go_wp2_with fail
    go_ret
    exact ⟨rfl, hb5⟩

theorem walk (a : Option Addr) (len cap : Nat) (zs : List Int) (w : World) (hr : IsRow .i64 w a len cap zs) :
    Calls Try.prog 13 #[.slice a len cap] w fun e w' => e = .returned (.bool true) ∧ Below w.heap.size w w' := by
  by_cases h0 : len = 0
  · subst h0
    exact walk_none a cap w
  · have hcap : len ≤ cap := by
      rcases hr with ⟨_, h, _, _⟩ | ⟨x, _, h, _⟩
      · omega
      · exact h
    obtain ⟨b, off, rfl, hz, hm, hc⟩ := hr.spot (by omega)
    by_cases hl : len ≤ 300
    · exact walk_row b off len cap zs w (by omega) hl hcap hz hc
    · exact walk_long _ len cap w (by omega) hm

theorem own : ownKnob Try.prog.godebug = none := by kernel_rfl
theorem laidOut : laidOutB Try.prog = true := by kernel_rfl

set_option maxRecDepth 100000 in
theorem lifted (os : Os) (started : os.Started) (H : Type) (enc : TypeId × Value → H) :
    ReturnsInHanded {} Try.checked os 13 .any (Rows.satAddsSpec.pre6 enc Try.prog Try.f13 Rows.satAddsRow.domain false) (Rows.satAddsSpec.post enc Try.prog Try.f13 false true false false) := by
  refine returnsInHanded_of_change (C := Try.checked) own started (by kernel_rfl) Try.func13
    (ChangeSpec.witness6 (enc := enc) (C := Try.checked) false ⟨#[], #[.slice none 0 0], []⟩ 8 (by kernel_rfl) (by kernel_rfl) (by kernel_rfl) (by kernel_rfl)) ?_
  intro W base args ds gs before hval0 hW hcnd _
  have hval : ∀ (j : Nat) t v, Try.f13.params[j]? = some t → args[j]? = some v → Value.okWide Try.prog W .any base t v := hval0
  have hW' := hW
  obtain ⟨p, q, hA0, hV, rfl, hfz, hnd⟩ := hW
  have hA : DataW.TrodAll enc Try.prog W 0 (fun _ => true) true Try.f13.params.toList args.toList ds p := hA0
  rw [Try.params13] at hA hval
  obtain ⟨v0, vs0, d0, ds0, p0, q0, hargs, rfl, rfl, h0, r0⟩ := trodAll_cons hA
  obtain ⟨rfl, rfl, rfl⟩ := trodAll_nil r0
  obtain rfl : args = #[v0] := by cases args; simp_all
  obtain ⟨rfl, rfl⟩ := trodVars_none hV
  obtain ⟨a0, len0, cap0, rfl⟩ := okWide_slice Try.underlying33 (hval 0 33 v0 rfl rfl)
  have k0 := h0
  have lt0 : ∀ x ∈ p0, x.block < W.heap.size := by obtain ⟨m, hm⟩ := k0; exact DataW.trod_lt m _ _ _ hm
  obtain ⟨z0, w0⟩ : ∃ zs, IsRow .i64 W a0 len0 cap0 zs := by
    obtain ⟨fuel, hf⟩ := h0
    rcases open_ints Try.underlying33 Try.underlying2 (by kernel_rfl) hf with ⟨hcs, _⟩ | ⟨x, l, c, zs, hcs, _, hl, hm, hz, _, hcell, hwz⟩
    · simp [Value.cells] at hcs
      obtain ⟨rfl, rfl, rfl⟩ := hcs
      exact ⟨[], .inl ⟨rfl, rfl, rfl, rfl⟩⟩
    · simp [Value.cells] at hcs
      obtain ⟨rfl, rfl, rfl⟩ := hcs
      exact ⟨zs, .inr ⟨_, rfl, hl, hm, by simpa using hz, hcell, hwz⟩⟩
  clear hA0 hval0
  refine (walk a0 len0 cap0 z0 W w0).mono fun e W' ⟨he, bel⟩ => ?_
  subst he
  exact ⟨_, rfl, _, _, _, [], _, [], hW', trodAll_mk1 (shut_bool Try.underlying4 _), (trodAll_cons_mk (Below.trod laidOut (by kernel_rfl) (of_decide_eq_true (by kernel_rfl)) k0 bel lt0) trodAll_mk0), rfl, bel.frame _, fun h => by cases h⟩

theorem proved : Rows.SatAddsSaid :=
  OpenClaim.holds_of_wide 13 Try.f13 rfl rfl rfl rfl rfl rfl rfl ⟨rfl, rfl, rfl, rfl, rfl⟩ rfl rfl rfl rfl rfl (by kernel_rfl) Try.func13 (by kernel_rfl)
    (of_decide_eq_true (by kernel_rfl)) (by unfold Func.isWrapper; first | (rw [if_pos (by decide +kernel)]; kernel_rfl) | (rw [if_neg (by decide +kernel)]; exact ⟨rfl, rfl⟩))
    (fun os started H enc _ => lifted os started H enc)
end Go.Proofs.Ytnhdcoolhbjmmaa.satAdds
