/- Contracts of the statements' comparison of two lists of runs, and of the document's Runs. The examples of the chapter hold: what each of the statements asks besides. -/
import Derived.Test.YtpnfifhanmpapaaGreatDoorMBitR
import Derived.Deep.RegionLaw
import Derived.WalkSmall
import Derived.DataShut
/- Contracts of the statements' comparison of two lists of runs, and of the document's Runs. -/
namespace Go.Proofs.YtpnfifhanmpapaaGreatDoor
open Go.ChangeShapes Go.RowKit

/-- append to a slice of the call's own, as one step of a region that draws -/
theorem step_append_own {P : Program} {ops : Array Oper} {o : Oper} {a : Act} {w : World} {K : Act → World → Prop} {Q : Exit → Act → World → Prop} {E : Prop}
    (hgd : o.guard = none) (s x : Operand) (t : TypeId) (ho : o.op = .call { callee := .builtin .append, args := #[s, x], argTypes := #[t, t] })
    (base : Nat) (e : TypeId) (i : TypeInfo) (z : Value) (size bytes : Nat) (ht : P.underlying t = some (.slice e)) (hi : P.info? e = some i) (hz : i.zero = some z)
    (hsize : i.size = size) (hby : i.bytes = bytes) (hzs : z.cells.size = size) (hsz : 0 < size)
    (v : Value) (n : Nat) (xs : List Value) (hs : a.eval s = v) (hown : w.ownsRow base e size v n xs)
    (ad : Addr) (m c : Nat) (news : List Value) (hx : a.eval x = .slice (some ad) m c) (hl : news.length = m * size) (hnews : ∀ j u, news[j]? = some u → w.cell? (ad.add j) = some u) (h1 : ∀ u ∈ news, u.oneCell' = true)
    (h63 : n + m ≤ maxLen) (hbytes : (n + m) * bytes ≤ 140737488355328) (hbase : base ≤ w.heap.size)
    (h : ∀ v' w', w'.ownsRow base e size v' (n + m) (xs ++ news) → w.grownBy w' v.ownBlock → K (a.put o.dst v') w') :
    if Region.wanted o (yielded ops a.tmps) = true then Oper.wp P o a w K Q else E := by
  have hw : Region.wanted o (yielded ops a.tmps) = true := by simp [Region.wanted, hgd]
  rw [if_pos hw]
  obtain ⟨v', w', hr, h2, h3, h4, h5⟩ := run_append_own_at (P := P) w base t o.type e i z size bytes ht hi hz hsize hby hzs hsz v n xs hown ad m c news hl hnews h1 h63 hbytes hbase
  unfold Oper.wp execOp
  simp only [ho, resolve, invoke, builtin, Sem.run_bind, Sem.run_pure, Result.andThen_ok, List.map_toArray, List.map_cons, List.map_nil, hs, hx, hr]
  exact h _ _ h2 h3
/-- block g holds the list's runs -/
def Cells3 (w : World) (g : Nat) (l : List (Nat × Nat × Nat)) : Prop := ∀ k (h : k < l.length), w.cell? ⟨g, k * 3, none⟩ = some (.int .i64 l[k].1) ∧ w.cell? ⟨g, k * 3 + 1, none⟩ = some (.int .i64 l[k].2.1) ∧ w.cell? ⟨g, k * 3 + 2, none⟩ = some (.int .i64 l[k].2.2)
theorem cells3_own {w : World} {b g cap : Nat} {l : List (Nat × Nat × Nat)} (h : w.ownsRow b 156 3 (.slice (some ⟨g, 0, none⟩) l.length cap) l.length (flat l)) : Cells3 w g l := by
  intro k hk
  obtain ⟨f1, f2, f3⟩ := flat_at l k hk
  exact ⟨by rw [h.cellAt _ (by omega), f1], by rw [h.cellAt _ (by omega), f2], by rw [h.cellAt _ (by omega), f3]⟩
/-- what is left: a slice of numbers -/
def Left (w : World) (v : Value) (l : List Nat) : Prop :=
  (l = [] ∧ ∃ a c, v = .slice a 0 c) ∨ ∃ g off cap, g < w.heap.size ∧ v = .slice (some ⟨g, off, none⟩) l.length cap ∧ l.length ≤ cap ∧ cap ≤ 9223372036854775807 ∧ ∀ i (h : i < l.length), w.cell? ⟨g, off + i, none⟩ = some (.int .i64 l[i])
theorem left_own {w wr : World} {v : Value} {l : List Nat} (h : Own1 w v l wr) : Left wr v l := by
  rcases h.row.2 with ⟨rfl, h0⟩ | ⟨g, cap, cur, rfl, hb, hc, h1, h2, _⟩
  · exact .inl ⟨List.eq_nil_of_length_eq_zero h0, _, _, rfl⟩
  · refine .inr ⟨g, 0, cap, (Array.getElem?_eq_some_iff.1 hc).1, rfl, h1, by simpa [maxLen] using h2, fun i hi => ?_⟩
    have hi' : i < (asInts l).length := by rw [asInts_len]; exact hi
    rw [Nat.zero_add, h.row.cellAt i (by omega)]
    simp [asInts, hi]
theorem keep_is (d : Nat) : ∀ (r : List Nat) (prev m : Nat), m ≤ r.length → (∀ i, i < m → (prev :: r).getD (i + 1) 0 - (prev :: r).getD i 0 = d) → (m = r.length ∨ (prev :: r).getD (m + 1) 0 - (prev :: r).getD m 0 ≠ d) → Bit.keep d prev r = m
  | [], _, m, hm, _, _ => by
    have : m = 0 := by simpa using hm
    subst this; rfl
  | x :: r, prev, 0, _, _, hx => by
    rcases hx with h | h
    · simp at h
    · unfold Bit.keep
      rw [if_neg (by simpa using h)]
  | x :: r, prev, m + 1, hm, h, hx => by
    unfold Bit.keep
    rw [if_pos (by simpa using h 0 (by omega)), keep_is d r x m (by simpa using hm) (fun i hi => by simpa using h (i + 1) (by omega)) (by simpa using hx)]
/-- the first run of a list, by the count of the numbers that keep the distance -/
theorem take_is {a b d k : Nat} {r : List Nat} (hd : b = a + d) (h2 : 2 ≤ k) (hk : k ≤ (a :: b :: r).length) (h : ∀ i, 2 ≤ i → i < k → (a :: b :: r).getD i 0 - (a :: b :: r).getD (i - 1) 0 = d)
    (hx : k = (a :: b :: r).length ∨ (a :: b :: r).getD k 0 - (a :: b :: r).getD (k - 1) 0 ≠ d) :
    (k = 2 ∧ 1 < d → Bit.take1 (a :: b :: r) = 1 ∧ Bit.step1 (a :: b :: r) = 1 ∧ lastOf (a :: b :: r) = a) ∧
    (¬ (k = 2 ∧ 1 < d) → Bit.take1 (a :: b :: r) = k ∧ Bit.step1 (a :: b :: r) = d ∧ lastOf (a :: b :: r) = (a :: b :: r).getD (k - 1) 0) := by
  obtain ⟨m, rfl⟩ : ∃ m, k = m + 2 := ⟨k - 2, by omega⟩
  have e : ∀ i, (a :: b :: r).getD (i + 1) 0 = (b :: r).getD i 0 := fun i => by simp
  have kk : Bit.keep d b r = m := keep_is d r b m (by simpa using hk) (fun i hi => by
      have := h (i + 2) (by omega) (by omega)
      rw [show i + 2 - 1 = i + 1 by omega, e, e] at this
      exact this) (by
      rcases hx with q | q
      · left; simpa using q
      · right
        rw [show m + 2 - 1 = m + 1 by omega, e, e] at q
        exact q)
  have t1 := Bit.take1_two a b r
  have s1 := Bit.step1_two a b r
  rw [show b - a = d by omega, kk] at t1 s1
  unfold lastOf
  constructor
  · rintro ⟨c1, c2⟩
    rw [if_pos ⟨by omega, c2⟩] at t1 s1
    rw [t1, s1]
    exact ⟨rfl, rfl, rfl⟩
  · intro c
    rw [if_neg (by omega)] at t1 s1
    rw [t1, s1]
    exact ⟨rfl, rfl, rfl⟩
def lenOf : Value → Nat
  | .slice _ n _ => n
  | _ => 0
set_option maxRecDepth 100000 in
set_option maxHeartbeats 4000000 in
theorem runsR_any (S : Nat) (hS : S < 2 ^ 64) (w : World) :
    Calls Tryz.prog 86 #[.int .u64 S] w fun e W' => ∃ v, e = .returned v ∧ Own3 w.heap.size w v (Bit.runs (Bit.mem S)) W' := by
  obtain ⟨i0, hi, hz0, hz1, hz2⟩ := info_parts info3
  have A := Lib.hid (listR_any S hS w)
  have SO := Lib.hid (Bit.mem_sorted S)
  have M64 := Lib.hid (fun v (h : v ∈ Bit.mem S) => Bit.mem_lt h)
  have ML := Bit.mem_len S
  have RL := Lib.hid (Bit.runs_len (Bit.mem S))
  clear hS
  go_enter Tryz.func86, Tryz.ntmps86
  go_wp2_with fail
  refine A.out.mono ?_
  rintro e w1 ⟨v, rfl, ho⟩
  have LF := Lib.hid (left_own ho)
  have hb1 := ho.below
  have hsz1 := hb1.size
  clear ho
  go_wp2_with fail
  go_loopw [3, 4] (fun left v wr => ∃ (rs : List (Nat × Nat × Nat)) (l : List Nat), Hid (l <:+ Bit.mem S) ∧ Hid (Bit.runs (Bit.mem S) = rs ++ Bit.runs l) ∧ Hid (Left w1 left l) ∧ Hid (Own3 w1.heap.size w1 v rs wr)) (fun left _ _ => lenOf left)
  case atStart => exact ⟨[], _, Lib.hid (List.suffix_refl _), Lib.hid rfl, LF, Lib.hid ⟨World.ownsRow_nil _ _ _ _, Below.refl _ _⟩⟩
  case round =>
    obtain ⟨rs, l, hsf, hr, hlf, ho⟩ := hrel
    have hsz := ho.out.below.size
    cases l with
    | nil =>
      obtain ⟨a0, c0, rfl⟩ : ∃ a c, u3 = .slice a 0 c := by
        rcases hlf.out with ⟨_, a, c, e⟩ | ⟨g, off, cap, _, e, _⟩
        · exact ⟨_, _, e⟩
        · exact ⟨_, _, e⟩
      have HR : Hid (Bit.runs (Bit.mem S) = rs) := Lib.hid (by rw [hr.out, Bit.runs_nil, List.append_nil])
      go_wp2_with fail
      go_ret
      exact ⟨_, rfl, by rw [HR.out]; exact ⟨ownsRow_base ho.out.row hsz1, hb1.trans (ho.out.below.mono hsz1)⟩⟩
    | cons a l =>
      obtain ⟨g, off, cap, hg, rfl, hcap, hcap2, hcell⟩ : ∃ g off cap, g < w1.heap.size ∧ u3 = .slice (some ⟨g, off, none⟩) (a :: l).length cap ∧ (a :: l).length ≤ cap ∧ cap ≤ 9223372036854775807 ∧ ∀ i (h : i < (a :: l).length), w1.cell? ⟨g, off + i, none⟩ = some (.int .i64 (a :: l)[i]) := by
        rcases hlf.out with ⟨h, _⟩ | h
        · cases h
        · exact h
      have rl : rs.length < 64 := by
        have h1 := RL.out
        rw [hr.out, List.length_append, Bit.runs_cons, List.length_cons] at h1
        omega
      have N64 : (a :: l).length ≤ 64 := Nat.le_trans hsf.out.length_le ML
      have TB := Bit.take1_bd (a := a) (l := l)
      have HRL : Hid (Bit.runs (Bit.mem S) = (rs ++ [(a, lastOf (a :: l), Bit.step1 (a :: l))]) ++ Bit.runs ((a :: l).drop (Bit.take1 (a :: l)))) := Lib.hid (by rw [hr.out, Bit.runs_cons]; simp [lastOf])
      have DSA : Hid (a :: l <:+ Bit.mem S) := hsf
      have DS : Hid ((a :: l).drop (Bit.take1 (a :: l)) <:+ Bit.mem S) := Lib.hid ((List.drop_suffix _ _).trans hsf.out)
      have HCELL : Hid (∀ i x : Nat, (a :: l)[i]? = some x → wr.cell? ⟨g, off + i, none⟩ = some (.int .i64 x)) := Lib.hid (fun i x hx => by
        obtain ⟨hi, rfl⟩ := List.getElem?_eq_some_iff.1 hx
        rw [ho.out.below.cell (p := ⟨g, off + i, none⟩) hg]
        exact hcell i hi)
      have LEFT : Hid (∀ t, t ≤ (a :: l).length → ∀ u, (t < (a :: l).length → u = .slice (some ⟨g, off + t, none⟩) ((a :: l).length - t) (cap - t)) → (t = (a :: l).length → ∃ x c, u = .slice x 0 c) → Left w1 u ((a :: l).drop t)) := Lib.hid (fun t ht u h1 h2 => by
        by_cases q : t < (a :: l).length
        · refine .inr ⟨g, off + t, cap - t, hg, by rw [List.length_drop]; exact h1 q, by rw [List.length_drop]; omega, by omega, fun i hi => ?_⟩
          rw [List.length_drop] at hi
          rw [List.getElem_drop, Nat.add_assoc]
          exact hcell (t + i) (by omega)
        · exact .inl ⟨List.drop_of_length_le (by omega), h2 (by omega)⟩)
      have LAST : Hid ((a :: l)[Bit.take1 (a :: l) - 1]? = some (lastOf (a :: l))) := Lib.hid (by
        unfold lastOf
        rw [List.getD_eq_getElem?_getD, List.getElem?_eq_getElem (by omega)]
        rfl)
      have c0 : wr.cell? ⟨g, off, none⟩ = some (.int .i64 a) := HCELL.out 0 a rfl
      have T1 := Lib.hid (rfl : Bit.take1 (a :: l) = Bit.take1 (a :: l))
      obtain ⟨N, hN⟩ : ∃ N, (a :: l).length = N := ⟨_, rfl⟩
      have HN := Lib.hid hN
      rw [hN] at hcap N64 TB LEFT ⊢
      clear hcell hlf hr hsf hN
      cases l with
      | nil =>
        have HRL' : Hid (Bit.runs (Bit.mem S) = (rs ++ [(a, a, 1)]) ++ Bit.runs (List.drop 1 [a])) := HRL
        have DS' : Hid (List.drop 1 [a] <:+ Bit.mem S) := DS
        obtain rfl : N = 1 := HN.out.symm
        clear HRL DS LAST T1 DSA
        go_wp2_with fail
        have e0 : IntKind.i64.wrap (1 - 1) = 0 := rfl
        have e1 : IntKind.i64.wrap 0 = 0 := rfl
        have HOD : Hid (Own3 w1.heap.size w1 _ rs wr.drew) := Lib.hid ⟨ho.out.row, ho.out.below.drew⟩
        have HOS : w1.heap.size ≤ wr.heap.size := ho.out.below.size
        go_region_law (refine step_append_own rfl (.tmp 48) (.tmp 59) 154 rfl w1.heap.size 156 i0 (.agg #[.int .i64 0, .int .i64 0, .int .i64 0]) 3 24 Tryz.underlying154 hi hz0 hz1 hz2 rfl (by decide) _ rs.length _ rfl (ho.out.row.alloc _) ⟨wr.drew.heap.size, 0, none⟩ 1 1 [.int .i64 a, .int .i64 a, .int .i64 1] rfl rfl (cell_three_new wr.drew (.int .i64 a) (.int .i64 a) (.int .i64 1) 156) (by simp [Value.oneCell']) (by simp [maxLen]; omega) (by omega) (by simp; omega) ?_; intro v2 w2 hown hg2)
        all_goals
          have h2 := Own3.step (c := 1) HOD.out HOS hown hg2
          have H2 := Lib.hid h2
          clear h2 hown hg2
          go_wp2_with fail
          go_roundw
          case rel => exact ⟨_, _, DS', HRL', Lib.hid (LEFT.out 1 (by omega) _ (fun q => by exact absurd q (by omega)) (fun q => by exact ⟨_, _, rfl⟩)), H2⟩
          case measure => simp [lenOf] <;> omega
      | cons b r =>
        have ab : a < b := by
          have := SO.out.sublist DSA.out.sublist
          rw [List.pairwise_cons] at this
          exact this.1 b (by simp)
        have LT : ∀ i, (a :: b :: r).getD i 0 < 64 := fun i => by
          rw [List.getD_eq_getElem?_getD]
          by_cases q : i < (a :: b :: r).length
          · rw [List.getElem?_eq_getElem q]
            exact M64.out _ (DSA.out.subset (List.getElem_mem q))
          · rw [List.getElem?_eq_none (by omega)]; decide
        have CG : Hid (∀ i, i < N → wr.cell? ⟨g, off + i, none⟩ = some (.int .i64 ((a :: b :: r).getD i 0 : Nat))) := Lib.hid (fun i hi => HCELL.out i _ (by
          rw [List.getD_eq_getElem?_getD, List.getElem?_eq_getElem (by rw [HN.out]; exact hi)]; rfl))
        have GT : ∀ i, i + 1 < N → (a :: b :: r).getD i 0 < (a :: b :: r).getD (i + 1) 0 := fun i hi => by
          have so := SO.out.sublist DSA.out.sublist
          rw [List.getD_eq_getElem?_getD, List.getD_eq_getElem?_getD, List.getElem?_eq_getElem (by rw [HN.out]; omega), List.getElem?_eq_getElem (by rw [HN.out]; omega)]
          exact (List.pairwise_iff_getElem.1 so) i (i + 1) (by rw [HN.out]; omega) (by rw [HN.out]; omega) (by omega)
        have N2 : 2 ≤ N := by rw [← HN.out]; simp
        have b64 : b < 64 := LT 1
        have c1 : wr.cell? ⟨g, off + 1, none⟩ = some (.int .i64 b) := CG.out 1 (by omega)
        obtain ⟨d, hd⟩ : ∃ d, b = a + d := ⟨b - a, by omega⟩
        have TI := Lib.hid (fun k (h2 : 2 ≤ k) (hk : k ≤ N) h hx => take_is (k := k) (r := r) hd h2 (by rw [HN.out]; exact hk) h hx)
        have HD := Lib.hid hd
        have sub : (b : Int) - a = d := by omega
        have d64 : d < 64 := by omega
        have n1 : (1 : Int) < (N : Int) := by omega
        have n0 : (0 : Int) < (N : Int) := by omega
        have n1' : decide (1 < N) = true := by simp; omega
        have GTH := Lib.hid GT
        have LTH := Lib.hid LT
        clear hd ab LT GT LAST T1 TB HCELL DSA
        go_wp2_with fail
        go_quiet (fail)
        go_wp2_with fail
        obtain ⟨f, hf⟩ : ∃ f : Nat → Nat, f = fun i => (a :: b :: r).getD i 0 := ⟨_, rfl⟩
        have CF : Hid (∀ i, i < N → wr.cell? ⟨g, off + i, none⟩ = some (.int .i64 (f i : Nat))) := Lib.hid (by rw [hf]; exact CG.out)
        have GF : Hid (∀ i, i + 1 < N → f i < f (i + 1)) := Lib.hid (by rw [hf]; exact GTH.out)
        have LF64 : Hid (∀ i, f i < 64) := Lib.hid (by rw [hf]; exact LTH.out)
        have TF : Hid (∀ k, 2 ≤ k → k ≤ N → (∀ i, 2 ≤ i → i < k → f i - f (i - 1) = d) → (k = N ∨ f k - f (k - 1) ≠ d) →
          (k = 2 ∧ 1 < d → Bit.take1 (a :: b :: r) = 1 ∧ Bit.step1 (a :: b :: r) = 1 ∧ lastOf (a :: b :: r) = a) ∧
          (¬ (k = 2 ∧ 1 < d) → Bit.take1 (a :: b :: r) = k ∧ Bit.step1 (a :: b :: r) = d ∧ lastOf (a :: b :: r) = f (k - 1))) := Lib.hid (by
            rw [hf]
            intro k h2 hk h hx
            exact TI.out k h2 hk h (by rw [HN.out]; exact hx))
        clear hf CG GTH LTH TI
        go_loopw [5] (fun n wr' => ∃ k m : Nat, 2 ≤ k ∧ k ≤ N ∧ n = .int .i64 k ∧ wr' = wr.drewN m ∧ Hid (∀ i, 2 ≤ i → i < k → f i - f (i - 1) = d)) (fun n _ => N - (intOf n).toNat)
        case atStart => exact ⟨2, _, by omega, N2, rfl, rfl, Lib.hid (fun i h1 h2 => by omega)⟩
        case round =>
          obtain ⟨k, m, k2, kN, rfl, rfl, hch⟩ := hrel
          obtain ⟨j, hj⟩ : ∃ j, k = j + 1 := ⟨k - 1, by omega⟩
          have e1 : IntKind.i64.wrap ((k : Int) - 1) = (j : Int) := by simp [IntKind.wrap, IntKind.bits, IntKind.signed]; omega
          have i2 : (j : Int) < (N : Int) := by omega
          have kc : k ≤ cap := by omega
          have kc' : (k : Int) ≤ (cap : Int) := by omega
          have kN' : (k : Int) ≤ (N : Int) := by omega
          have gf := GF.out j
          have jk : k - 1 = j := by omega
          have cy := CF.out j (by omega)
          have y64 := LF64.out j
          obtain ⟨y, hy⟩ : ∃ y, f j = y := ⟨_, rfl⟩
          rw [hy] at cy y64 gf
          have HY := Lib.hid hy
          have HJ := Lib.hid hj
          clear hy
          by_cases c : k < N
          · have cx := CF.out k c
            have x64 := LF64.out k
            rw [← hj] at gf
            have gf := gf c
            obtain ⟨x, hx⟩ : ∃ x, f k = x := ⟨_, rfl⟩
            rw [hx] at cx x64 gf
            have HX := Lib.hid hx
            have i1 : (k : Int) < (N : Int) := by omega
            have g1 : decide ((k : Int) < (N : Int)) = true := by simp; omega
            have g2 : decide (k < N) = true := by simpa using c
            clear hx hj
            by_cases q : x - y = d
            · have tt : ((x : Int) - y == d) = true := by rw [beq_iff_eq]; omega
              have Q := Lib.hid q
              clear q jk
              go_wp2_with fail
              go_quiet (fail)
              go_wp2_with fail
              go_roundw
              case rel => exact ⟨k + 1, _, by omega, by omega, by go_num, rfl, Lib.hid (fun i h1 h2 => by
                by_cases e : i = k
                · subst e
                  rw [show i - 1 = j by have := HJ.out; omega, HX.out, HY.out]
                  exact Q.out
                · exact hch.out i h1 (by omega))⟩
              case measure => simp [intOf]; omega
            · have tt : ((x : Int) - y == d) = false := by rw [beq_eq_false_iff_ne]; omega
              have X := TF.out k k2 kN hch.out (.inr (by rw [jk, HX.out, HY.out]; exact q))
              rw [jk, HY.out] at X
              have HXX := Lib.hid X
              clear X q jk
              by_cases k22 : k = 2
              · have kk : ((k : Int) == 2) = true := by rw [beq_iff_eq]; omega
                by_cases d1 : 1 < d
                · have dd : decide (1 < (d : Int)) = true := by simp; omega
                  have dd' : decide (1 < d) = true := by simpa using d1
                  have X := HXX.out.1 ⟨k22, d1⟩
                  clear k22 d1
                  have HRL' : Hid (Bit.runs (Bit.mem S) = (rs ++ [(a, a, 1)]) ++ Bit.runs (List.drop 1 (a :: b :: r))) := Lib.hid (by have := HRL.out; rwa [X.1, X.2.1, X.2.2] at this)
                  have DS' : Hid (List.drop 1 (a :: b :: r) <:+ Bit.mem S) := Lib.hid (by have := DS.out; rwa [X.1] at this)
                  clear HRL DS X HXX
                  go_wp2_with fail
                  go_quiet (fail)
                  go_wp2_with fail
                  have ho6 : Own3 w1.heap.size w1 _ rs (wr.drewN (m + nq)) := ⟨ho.out.row, below_drewN ho.out.below _⟩
                  have c06 : (wr.drewN (m + nq)).cell? ⟨g, off, none⟩ = some (.int .i64 a) := c0
                  have cy6 : (wr.drewN (m + nq)).cell? ⟨g, off + j, none⟩ = some (.int .i64 y) := cy
                  generalize wr.drewN (m + nq) = w6 at ho6 c06 cy6 ⊢
                  clear c0 c1 cy ho CF GF TF LF64 hch
                  have e0 : IntKind.i64.wrap (1 - 1) = 0 := rfl
                  have e1 : IntKind.i64.wrap 0 = 0 := rfl
                  have HOD : Hid (Own3 w1.heap.size w1 _ rs w6.drew) := Lib.hid ⟨ho6.row, ho6.below.drew⟩
                  have HOS : w1.heap.size ≤ w6.heap.size := ho6.below.size
                  go_region_law (refine step_append_own rfl (.tmp 48) (.tmp 59) 154 rfl w1.heap.size 156 i0 (.agg #[.int .i64 0, .int .i64 0, .int .i64 0]) 3 24 Tryz.underlying154 hi hz0 hz1 hz2 rfl (by decide) _ rs.length _ rfl (ho6.row.alloc _) ⟨w6.drew.heap.size, 0, none⟩ 1 1 [.int .i64 a, .int .i64 a, .int .i64 1] rfl rfl (cell_three_new w6.drew (.int .i64 a) (.int .i64 a) (.int .i64 1) 156) (by simp [Value.oneCell']) (by simp [maxLen]; omega) (by omega) (by simp; omega) ?_; intro v2 w2 hown hg2)
                  all_goals
                    have h2 := Own3.step (c := 1) HOD.out HOS hown hg2
                    have H2 := Lib.hid h2
                    clear h2 hown hg2
                    go_wp2_with fail
                    go_roundw
                    case rel => exact ⟨_, _, DS', HRL', Lib.hid (LEFT.out 1 (by omega) _ (fun q => by first | rfl | (rw [if_neg (by omega)])) (fun q => by exact absurd q (by omega))), H2⟩
                    case measure => simp [lenOf] <;> omega
                · have dd : decide (1 < (d : Int)) = false := by simp; omega
                  have dd' : decide (1 < d) = false := by simpa using d1
                  have X := HXX.out.2 (fun z => d1 z.2)
                  clear k22 d1
                  have HRL' : Hid (Bit.runs (Bit.mem S) = (rs ++ [(a, y, d)]) ++ Bit.runs (List.drop k (a :: b :: r))) := Lib.hid (by have := HRL.out; rwa [X.1, X.2.1, X.2.2] at this)
                  have DS' : Hid (List.drop k (a :: b :: r) <:+ Bit.mem S) := Lib.hid (by have := DS.out; rwa [X.1] at this)
                  clear HRL DS X HXX
                  go_wp2_with fail
                  go_quiet (fail)
                  go_wp2_with fail
                  have ho6 : Own3 w1.heap.size w1 _ rs (wr.drewN (m + nq)) := ⟨ho.out.row, below_drewN ho.out.below _⟩
                  have c06 : (wr.drewN (m + nq)).cell? ⟨g, off, none⟩ = some (.int .i64 a) := c0
                  have cy6 : (wr.drewN (m + nq)).cell? ⟨g, off + j, none⟩ = some (.int .i64 y) := cy
                  generalize wr.drewN (m + nq) = w6 at ho6 c06 cy6 ⊢
                  clear c0 c1 cy ho CF GF TF LF64 hch
                  have HOD : Hid (Own3 w1.heap.size w1 _ rs w6.drew) := Lib.hid ⟨ho6.row, ho6.below.drew⟩
                  have HOS : w1.heap.size ≤ w6.heap.size := ho6.below.size
                  go_region_law (refine step_append_own rfl (.tmp 48) (.tmp 59) 154 rfl w1.heap.size 156 i0 (.agg #[.int .i64 0, .int .i64 0, .int .i64 0]) 3 24 Tryz.underlying154 hi hz0 hz1 hz2 rfl (by decide) _ rs.length _ rfl (ho6.row.alloc _) ⟨w6.drew.heap.size, 0, none⟩ 1 1 [.int .i64 a, .int .i64 y, .int .i64 d] rfl rfl (cell_three_new w6.drew (.int .i64 a) (.int .i64 y) (.int .i64 d) 156) (by simp [Value.oneCell']) (by simp [maxLen]; omega) (by omega) (by simp; omega) ?_; intro v2 w2 hown hg2)
                  all_goals
                    have h2 := Own3.step (c := d) HOD.out HOS hown hg2
                    have H2 := Lib.hid h2
                    clear h2 hown hg2
                    go_wp2_with fail
                    go_roundw
                    case rel => exact ⟨_, _, DS', HRL', Lib.hid (LEFT.out k (by omega) _ (fun q => by first | rfl | (rw [if_neg (by omega)])) (fun q => by first | exact ⟨_, _, rfl⟩ | (rw [show N - k = 0 by omega]; exact ⟨_, _, rfl⟩))), H2⟩
                    case measure => simp [lenOf] <;> omega
              · have kk : ((k : Int) == 2) = false := by rw [beq_eq_false_iff_ne]; omega
                have X := HXX.out.2 (fun z => k22 z.1)
                clear k22
                have HRL' : Hid (Bit.runs (Bit.mem S) = (rs ++ [(a, y, d)]) ++ Bit.runs (List.drop k (a :: b :: r))) := Lib.hid (by have := HRL.out; rwa [X.1, X.2.1, X.2.2] at this)
                have DS' : Hid (List.drop k (a :: b :: r) <:+ Bit.mem S) := Lib.hid (by have := DS.out; rwa [X.1] at this)
                clear HRL DS X HXX
                go_wp2_with fail
                go_quiet (fail)
                go_wp2_with fail
                have ho6 : Own3 w1.heap.size w1 _ rs (wr.drewN (m + nq)) := ⟨ho.out.row, below_drewN ho.out.below _⟩
                have c06 : (wr.drewN (m + nq)).cell? ⟨g, off, none⟩ = some (.int .i64 a) := c0
                have cy6 : (wr.drewN (m + nq)).cell? ⟨g, off + j, none⟩ = some (.int .i64 y) := cy
                generalize wr.drewN (m + nq) = w6 at ho6 c06 cy6 ⊢
                clear c0 c1 cy ho CF GF TF LF64 hch
                have HOD : Hid (Own3 w1.heap.size w1 _ rs w6.drew) := Lib.hid ⟨ho6.row, ho6.below.drew⟩
                have HOS : w1.heap.size ≤ w6.heap.size := ho6.below.size
                go_region_law (refine step_append_own rfl (.tmp 48) (.tmp 59) 154 rfl w1.heap.size 156 i0 (.agg #[.int .i64 0, .int .i64 0, .int .i64 0]) 3 24 Tryz.underlying154 hi hz0 hz1 hz2 rfl (by decide) _ rs.length _ rfl (ho6.row.alloc _) ⟨w6.drew.heap.size, 0, none⟩ 1 1 [.int .i64 a, .int .i64 y, .int .i64 d] rfl rfl (cell_three_new w6.drew (.int .i64 a) (.int .i64 y) (.int .i64 d) 156) (by simp [Value.oneCell']) (by simp [maxLen]; omega) (by omega) (by simp; omega) ?_; intro v2 w2 hown hg2)
                all_goals
                  have h2 := Own3.step (c := d) HOD.out HOS hown hg2
                  have H2 := Lib.hid h2
                  clear h2 hown hg2
                  go_wp2_with fail
                  go_roundw
                  case rel => exact ⟨_, _, DS', HRL', Lib.hid (LEFT.out k (by omega) _ (fun q => by first | rfl | (rw [if_neg (by omega)])) (fun q => by first | exact ⟨_, _, rfl⟩ | (rw [show N - k = 0 by omega]; exact ⟨_, _, rfl⟩))), H2⟩
                  case measure => simp [lenOf] <;> omega
          · obtain rfl : k = N := by omega
            have X := TF.out k k2 kN hch.out (.inl rfl)
            rw [jk, HY.out] at X
            have HXX := Lib.hid X
            have g1 : decide ((k : Int) < (k : Int)) = false := by simp
            have g2 : decide (k < k) = false := by simp
            clear X jk hj gf
            by_cases k22 : k = 2
            · have kk : ((k : Int) == 2) = true := by rw [beq_iff_eq]; omega
              by_cases d1 : 1 < d
              · have dd : decide (1 < (d : Int)) = true := by simp; omega
                have dd' : decide (1 < d) = true := by simpa using d1
                have X := HXX.out.1 ⟨k22, d1⟩
                clear k22 d1
                have HRL' : Hid (Bit.runs (Bit.mem S) = (rs ++ [(a, a, 1)]) ++ Bit.runs (List.drop 1 (a :: b :: r))) := Lib.hid (by have := HRL.out; rwa [X.1, X.2.1, X.2.2] at this)
                have DS' : Hid (List.drop 1 (a :: b :: r) <:+ Bit.mem S) := Lib.hid (by have := DS.out; rwa [X.1] at this)
                clear HRL DS X HXX
                go_wp2_with fail
                go_quiet (fail)
                go_wp2_with fail
                have ho6 : Own3 w1.heap.size w1 _ rs (wr.drewN (m + nq)) := ⟨ho.out.row, below_drewN ho.out.below _⟩
                have c06 : (wr.drewN (m + nq)).cell? ⟨g, off, none⟩ = some (.int .i64 a) := c0
                have cy6 : (wr.drewN (m + nq)).cell? ⟨g, off + j, none⟩ = some (.int .i64 y) := cy
                generalize wr.drewN (m + nq) = w6 at ho6 c06 cy6 ⊢
                clear c0 c1 cy ho CF GF TF LF64 hch
                have e0 : IntKind.i64.wrap (1 - 1) = 0 := rfl
                have e1 : IntKind.i64.wrap 0 = 0 := rfl
                have HOD : Hid (Own3 w1.heap.size w1 _ rs w6.drew) := Lib.hid ⟨ho6.row, ho6.below.drew⟩
                have HOS : w1.heap.size ≤ w6.heap.size := ho6.below.size
                go_region_law (refine step_append_own rfl (.tmp 48) (.tmp 59) 154 rfl w1.heap.size 156 i0 (.agg #[.int .i64 0, .int .i64 0, .int .i64 0]) 3 24 Tryz.underlying154 hi hz0 hz1 hz2 rfl (by decide) _ rs.length _ rfl (ho6.row.alloc _) ⟨w6.drew.heap.size, 0, none⟩ 1 1 [.int .i64 a, .int .i64 a, .int .i64 1] rfl rfl (cell_three_new w6.drew (.int .i64 a) (.int .i64 a) (.int .i64 1) 156) (by simp [Value.oneCell']) (by simp [maxLen]; omega) (by omega) (by simp; omega) ?_; intro v2 w2 hown hg2)
                all_goals
                  have h2 := Own3.step (c := 1) HOD.out HOS hown hg2
                  have H2 := Lib.hid h2
                  clear h2 hown hg2
                  go_wp2_with fail
                  go_roundw
                  case rel => exact ⟨_, _, DS', HRL', Lib.hid (LEFT.out 1 (by omega) _ (fun q => by first | rfl | (rw [if_neg (by omega)])) (fun q => by exact absurd q (by omega))), H2⟩
                  case measure => simp [lenOf] <;> omega
              · have dd : decide (1 < (d : Int)) = false := by simp; omega
                have dd' : decide (1 < d) = false := by simpa using d1
                have X := HXX.out.2 (fun z => d1 z.2)
                clear k22 d1
                have HRL' : Hid (Bit.runs (Bit.mem S) = (rs ++ [(a, y, d)]) ++ Bit.runs (List.drop k (a :: b :: r))) := Lib.hid (by have := HRL.out; rwa [X.1, X.2.1, X.2.2] at this)
                have DS' : Hid (List.drop k (a :: b :: r) <:+ Bit.mem S) := Lib.hid (by have := DS.out; rwa [X.1] at this)
                clear HRL DS X HXX
                go_wp2_with fail
                go_quiet (fail)
                go_wp2_with fail
                have ho6 : Own3 w1.heap.size w1 _ rs (wr.drewN (m + nq)) := ⟨ho.out.row, below_drewN ho.out.below _⟩
                have c06 : (wr.drewN (m + nq)).cell? ⟨g, off, none⟩ = some (.int .i64 a) := c0
                have cy6 : (wr.drewN (m + nq)).cell? ⟨g, off + j, none⟩ = some (.int .i64 y) := cy
                generalize wr.drewN (m + nq) = w6 at ho6 c06 cy6 ⊢
                clear c0 c1 cy ho CF GF TF LF64 hch
                have HOD : Hid (Own3 w1.heap.size w1 _ rs w6.drew) := Lib.hid ⟨ho6.row, ho6.below.drew⟩
                have HOS : w1.heap.size ≤ w6.heap.size := ho6.below.size
                go_region_law (refine step_append_own rfl (.tmp 48) (.tmp 59) 154 rfl w1.heap.size 156 i0 (.agg #[.int .i64 0, .int .i64 0, .int .i64 0]) 3 24 Tryz.underlying154 hi hz0 hz1 hz2 rfl (by decide) _ rs.length _ rfl (ho6.row.alloc _) ⟨w6.drew.heap.size, 0, none⟩ 1 1 [.int .i64 a, .int .i64 y, .int .i64 d] rfl rfl (cell_three_new w6.drew (.int .i64 a) (.int .i64 y) (.int .i64 d) 156) (by simp [Value.oneCell']) (by simp [maxLen]; omega) (by omega) (by simp; omega) ?_; intro v2 w2 hown hg2)
                all_goals
                  have h2 := Own3.step (c := d) HOD.out HOS hown hg2
                  have H2 := Lib.hid h2
                  clear h2 hown hg2
                  go_wp2_with fail
                  go_roundw
                  case rel => exact ⟨_, _, DS', HRL', Lib.hid (LEFT.out k (by omega) _ (fun q => by exact absurd q (by omega)) (fun q => by first | exact ⟨_, _, rfl⟩ | (rw [show k - k = 0 by omega]; exact ⟨_, _, rfl⟩))), H2⟩
                  case measure => simp [lenOf] <;> omega
            · have kk : ((k : Int) == 2) = false := by rw [beq_eq_false_iff_ne]; omega
              have X := HXX.out.2 (fun z => k22 z.1)
              clear k22
              have HRL' : Hid (Bit.runs (Bit.mem S) = (rs ++ [(a, y, d)]) ++ Bit.runs (List.drop k (a :: b :: r))) := Lib.hid (by have := HRL.out; rwa [X.1, X.2.1, X.2.2] at this)
              have DS' : Hid (List.drop k (a :: b :: r) <:+ Bit.mem S) := Lib.hid (by have := DS.out; rwa [X.1] at this)
              clear HRL DS X HXX
              go_wp2_with fail
              go_quiet (fail)
              go_wp2_with fail
              have ho6 : Own3 w1.heap.size w1 _ rs (wr.drewN (m + nq)) := ⟨ho.out.row, below_drewN ho.out.below _⟩
              have c06 : (wr.drewN (m + nq)).cell? ⟨g, off, none⟩ = some (.int .i64 a) := c0
              have cy6 : (wr.drewN (m + nq)).cell? ⟨g, off + j, none⟩ = some (.int .i64 y) := cy
              generalize wr.drewN (m + nq) = w6 at ho6 c06 cy6 ⊢
              clear c0 c1 cy ho CF GF TF LF64 hch
              have HOD : Hid (Own3 w1.heap.size w1 _ rs w6.drew) := Lib.hid ⟨ho6.row, ho6.below.drew⟩
              have HOS : w1.heap.size ≤ w6.heap.size := ho6.below.size
              go_region_law (refine step_append_own rfl (.tmp 48) (.tmp 59) 154 rfl w1.heap.size 156 i0 (.agg #[.int .i64 0, .int .i64 0, .int .i64 0]) 3 24 Tryz.underlying154 hi hz0 hz1 hz2 rfl (by decide) _ rs.length _ rfl (ho6.row.alloc _) ⟨w6.drew.heap.size, 0, none⟩ 1 1 [.int .i64 a, .int .i64 y, .int .i64 d] rfl rfl (cell_three_new w6.drew (.int .i64 a) (.int .i64 y) (.int .i64 d) 156) (by simp [Value.oneCell']) (by simp [maxLen]; omega) (by omega) (by simp; omega) ?_; intro v2 w2 hown hg2)
              all_goals
                have h2 := Own3.step (c := d) HOD.out HOS hown hg2
                have H2 := Lib.hid h2
                clear h2 hown hg2
                go_wp2_with fail
                go_roundw
                case rel => exact ⟨_, _, DS', HRL', Lib.hid (LEFT.out k (by omega) _ (fun q => by exact absurd q (by omega)) (fun q => by first | exact ⟨_, _, rfl⟩ | (rw [show k - k = 0 by omega]; exact ⟨_, _, rfl⟩))), H2⟩
                case measure => simp [lenOf] <;> omega
end Go.Proofs.YtpnfifhanmpapaaGreatDoor
/- The examples of the chapter hold: what each of the statements asks besides. -/
namespace Go.Proofs.YtpnfifhanmpapaaGreatDoor
open Go.ChangeShapes Go.RowKit

theorem nat_u64 {s : Int} (h : (Lit.int .u64 s).wf = true) : ∃ S : Nat, s = S ∧ S < 2 ^ 64 := by
  rw [Lit.wf_int_iff] at h
  have h1 : 0 ≤ s ∧ s ≤ 18446744073709551615 := by simpa [IntKind.min, IntKind.max, IntKind.signed, IntKind.bits] using h
  obtain ⟨S, rfl⟩ := Int.eq_ofNat_of_zero_le h1.1
  exact ⟨S, rfl, by omega⟩
theorem nat_u8 {s : Int} (h : (Lit.int .u8 s).wf = true) : ∃ S : Nat, s = S ∧ S < 256 := by
  rw [Lit.wf_int_iff] at h
  have h1 : 0 ≤ s ∧ s ≤ 255 := by simpa [IntKind.min, IntKind.max, IntKind.signed, IntKind.bits] using h
  obtain ⟨S, rfl⟩ := Int.eq_ofNat_of_zero_le h1.1
  exact ⟨S, rfl, by omega⟩
theorem int_i64 {s : Int} (h : (Lit.int .i64 s).wf = true) : -9223372036854775808 ≤ s ∧ s ≤ 9223372036854775807 := by
  rw [Lit.wf_int_iff] at h
  simpa [IntKind.min, IntKind.max, IntKind.signed, IntKind.bits] using h
theorem ex_range : Bit.rangeS 0 59 15 = 35185445863425 := by decide +kernel
theorem ex_mem : Bit.mem 117 = [0, 2, 4, 5, 6] := by decide +kernel
theorem ex_runs : Bit.runs (Bit.mem 117) = [(0, 4, 2), (5, 6, 1)] := by
  rw [ex_mem]
  simp [Bit.runs_cons, Bit.runs_nil, Bit.take1, Bit.step1, Bit.keep]
theorem ex_count : (Bit.mem 40).length = 2 := by decide +kernel
theorem ex_next : IsNext 40 4 5 true := by
  refine .inr ⟨5, ⟨by decide, by omega, fun j hj h => ?_⟩, rfl, rfl⟩
  by_cases c : 5 ≤ j
  · exact c
  · obtain rfl : j = 4 := by omega
    exact absurd hj (by decide)
end Go.Proofs.YtpnfifhanmpapaaGreatDoor
