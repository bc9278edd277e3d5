/- Contracts of pieces, Lines and Words of package lex. -/
import Derived.Test.YtjlipkklljjdjaaDoorLexA
import Derived.RangeFuncNested
namespace Go.Proofs.YtjlipkklljjdjaaDoor
open Go.ChangeShapes Go.RowKit Go.Shelf

/-- the cells of the lines of a text, the first of which has the number n + 1 -/
def flatL (s : ByteArray) : Nat → List (Nat × Nat) → List Value
  | _, [] => []
  | n, x :: r => .int .i64 ((n + 1 : Nat) : Int) :: .int .i64 (x.1 : Nat) :: .string (s.extract x.1 x.2) :: flatL s (n + 1) r
theorem flatL_len (s : ByteArray) : ∀ (l : List (Nat × Nat)) (n : Nat), (flatL s n l).length = l.length * 3
  | [], _ => rfl
  | x :: r, n => by simp [flatL, flatL_len s r]; omega
theorem flatL_snoc (s : ByteArray) (x : Nat × Nat) : ∀ (l : List (Nat × Nat)) (n : Nat), flatL s n (l ++ [x]) = flatL s n l ++ [.int .i64 ((n + l.length + 1 : Nat) : Int), .int .i64 (x.1 : Nat), .string (s.extract x.1 x.2)]
  | [], n => by simp [flatL]
  | y :: r, n => by
    have ih := flatL_snoc s x r (n + 1)
    have e : n + 1 + r.length + 1 = n + (r.length + 1) + 1 := by omega
    simp only [List.cons_append, flatL, ih, List.length_cons, e]
theorem flatL_at (s : ByteArray) : ∀ (l : List (Nat × Nat)) (n k : Nat) (h : k < l.length), (flatL s n l)[k * 3]? = some (.int .i64 ((n + k + 1 : Nat) : Int)) ∧ (flatL s n l)[k * 3 + 1]? = some (.int .i64 (l[k].1 : Nat)) ∧ (flatL s n l)[k * 3 + 2]? = some (.string (s.extract l[k].1 l[k].2))
  | x :: r, n, 0, _ => ⟨rfl, rfl, rfl⟩
  | x :: r, n, k + 1, h => by
    have ih := flatL_at s r (n + 1) k (by simpa using h)
    have e1 : (k + 1) * 3 = k * 3 + 3 := by omega
    have e2 : (k + 1) * 3 + 1 = k * 3 + 1 + 3 := by omega
    have e3 : (k + 1) * 3 + 2 = k * 3 + 2 + 3 := by omega
    have e4 : n + 1 + k + 1 = n + (k + 1) + 1 := by omega
    rw [e4] at ih
    rw [e2, e3, e1]
    simpa [flatL] using ih
/-- the cells of the words of a text -/
def flatW (s : ByteArray) (l : List (Nat × Nat)) : List Value := l.flatMap fun x => [.int .i64 (x.1 : Nat), .string (s.extract x.1 x.2)]
theorem flatW_len (s : ByteArray) (l : List (Nat × Nat)) : (flatW s l).length = l.length * 2 := by
  induction l with
  | nil => rfl
  | cons r l ih => simp [flatW] at ih ⊢; omega
theorem flatW_snoc (s : ByteArray) (l : List (Nat × Nat)) (x : Nat × Nat) : flatW s (l ++ [x]) = flatW s l ++ [.int .i64 (x.1 : Nat), .string (s.extract x.1 x.2)] := by simp [flatW]
theorem flatW_at (s : ByteArray) : ∀ (l : List (Nat × Nat)) (k : Nat) (h : k < l.length), (flatW s l)[k * 2]? = some (.int .i64 (l[k].1 : Nat)) ∧ (flatW s l)[k * 2 + 1]? = some (.string (s.extract l[k].1 l[k].2))
  | x :: r, 0, _ => ⟨rfl, rfl⟩
  | x :: r, k + 1, h => by
    have ih := flatW_at s r k (by simpa using h)
    have e1 : (k + 1) * 2 = k * 2 + 2 := by omega
    have e2 : (k + 1) * 2 + 1 = k * 2 + 1 + 2 := by omega
    rw [e2, e1]
    simpa [flatW] using ih
theorem infoLine : (Tryd.prog.info? 31).map (fun i => (i.zero, i.size, i.bytes)) = some (some (.agg #[.int .i64 0, .int .i64 0, .string ⟨#[]⟩]), 3, 32) := by kernel_rfl
theorem infoLineR : (Tryd.prog.info? 32).map (fun i => (i.zero, i.size, i.bytes)) = some (some (.agg #[.int .i64 0, .int .i64 0, .string ⟨#[]⟩]), 3, 32) := by kernel_rfl
theorem infoWord : (Tryd.prog.info? 39).map (fun i => (i.zero, i.size, i.bytes)) = some (some (.agg #[.int .i64 0, .string ⟨#[]⟩]), 2, 24) := by kernel_rfl
theorem infoWordR : (Tryd.prog.info? 40).map (fun i => (i.zero, i.size, i.bytes)) = some (some (.agg #[.int .i64 0, .string ⟨#[]⟩]), 2, 24) := by kernel_rfl
theorem add_flat (b o n : Nat) : (⟨b, o, none⟩ : Addr).add n = ⟨b, o + n, none⟩ := by
  unfold Addr.add
  by_cases h : n = 0 <;> simp [h]
theorem cell_three_new (w : World) (x y u : Value) (t : TypeId) : ∀ j c, [x, y, u][j]? = some c → (w.alloc (.cells #[x, y, u] t)).cell? ((⟨w.heap.size, 0, none⟩ : Addr).add j) = some c := by
  intro j c hj
  rw [add_flat]
  match j, hj with
  | 0, hj => simp at hj; subst hj; simp [go_sem]
  | 1, hj => simp at hj; subst hj; simp [go_sem]
  | 2, hj => simp at hj; subst hj; simp [go_sem]
theorem cell_two_new (w : World) (x y : Value) (t : TypeId) : ∀ j c, [x, y][j]? = some c → (w.alloc (.cells #[x, y] t)).cell? ((⟨w.heap.size, 0, none⟩ : Addr).add j) = some c := by
  intro j c hj
  rw [add_flat]
  match j, hj with
  | 0, hj => simp at hj; subst hj; simp [go_sem]
  | 1, hj => simp at hj; subst hj; simp [go_sem]
theorem pcsOf_len (p : Nat → Bool) (s : ByteArray) : (pcsOf p s).length ≤ s.size := Lex.pcs_len _ _

/-- the pieces of a text that are not empty -/
def fullS (s : ByteArray) (l : List (Nat × Nat)) : List (Nat × Nat) := l.filter fun x => decide (x.1 < min x.2 s.size)
theorem fullS_len (s : ByteArray) (l : List (Nat × Nat)) : (fullS s l).length ≤ l.length := List.length_filter_le _ _
theorem fullS_yes {s : ByteArray} {x : Nat × Nat} (h : x.1 < min x.2 s.size) (l : List (Nat × Nat)) : fullS s (l ++ [x]) = fullS s l ++ [x] := by unfold fullS; rw [List.filter_append]; simp [h]
theorem fullS_no {s : ByteArray} {x : Nat × Nat} (h : ¬ x.1 < min x.2 s.size) (l : List (Nat × Nat)) : fullS s (l ++ [x]) = fullS s l := by
  unfold fullS; rw [List.filter_append, List.filter_cons_of_neg (by simpa using h)]; simp
theorem fullS_pcs (p : Nat → Bool) (s : ByteArray) : fullS s (pcsOf p s) = Lex.full (pcsOf p s) := by
  unfold fullS Lex.full
  refine List.filter_congr fun x hx => ?_
  obtain ⟨i, hi, e⟩ := List.getElem_of_mem hx
  have q : ((pcsOf p s)[i]).2 ≤ s.size := (Lex.piece (sepAt p s) s.size i hi).top
  rw [e] at q
  rw [Nat.min_eq_left q]
theorem ext_list (s : ByteArray) (a b : Nat) : (s.extract a b).toList.length = min b s.size - a := by
  rw [ByteArray.toList_eq]; simp [ByteArray.size_data]; omega
theorem ext_some {s : ByteArray} {x : Nat × Nat} (h : x.1 < min x.2 s.size) : (s.extract x.1 x.2).toList.isEmpty = false := by
  have := ext_list s x.1 x.2
  cases e : (s.extract x.1 x.2).toList with
  | nil => rw [e] at this; simp at this; omega
  | cons a r => rfl
theorem ext_some' {s : ByteArray} {x : Nat × Nat} (h : x.1 < min x.2 s.size) : ¬ (s.extract x.1 x.2).toList = [] := by
  have := ext_some h
  intro e
  rw [e] at this
  cases this
theorem ext_none' {s : ByteArray} {x : Nat × Nat} (h : ¬ x.1 < min x.2 s.size) : (s.extract x.1 x.2).toList = [] := by
  have := ext_list s x.1 x.2
  exact List.length_eq_zero_iff.1 (by omega)
theorem ext_none {s : ByteArray} {x : Nat × Nat} (h : ¬ x.1 < min x.2 s.size) : (s.extract x.1 x.2).toList.isEmpty = true := by rw [ext_none' h]; rfl

theorem pieces_nl (s : ByteArray) (w : World) :
    Calls Tryd.prog 40 #[.string s, .func (.func 41) #[] #[]] w fun e w' => e = .returned (.func (.func 70) #[] #[.pointer (some ⟨w.heap.size, 0, none⟩), .pointer (some ⟨w.heap.size + 1, 0, none⟩)]) ∧ (w.alloc (.cells #[.string s] 9)).alloc (.cells #[.func (.func 41) #[] #[]] 66) = w' := by
  go_enter Tryd.func40, Tryd.ntmps40
  go_wp2
  go_ret
  exact ⟨rfl, rfl⟩
theorem pieces_bl (s : ByteArray) (w : World) :
    Calls Tryd.prog 40 #[.string s, .func (.func 42) #[] #[]] w fun e w' => e = .returned (.func (.func 70) #[] #[.pointer (some ⟨w.heap.size, 0, none⟩), .pointer (some ⟨w.heap.size + 1, 0, none⟩)]) ∧ (w.alloc (.cells #[.string s] 9)).alloc (.cells #[.func (.func 42) #[] #[]] 66) = w' := by
  go_enter Tryd.func40, Tryd.ntmps40
  go_wp2
  go_ret
  exact ⟨rfl, rfl⟩
/-- what an iterator yields of a piece -/
def yld (s : ByteArray) (x : Nat × Nat) : Array Value := #[Value.int .i64 (x.1 : Nat), .string (s.extract x.1 x.2)]
theorem stops_nl (n : Nat) (hn : 1 ≤ n) (Bs Bf : Nat) (s : ByteArray) (hs : s.size ≤ 9223372036854775807) (w : World) (hB : Bs < w.heap.size) (hF : Bf < w.heap.size) (hc : w.cell? ⟨Bs, 0, none⟩ = some (.string s)) (hf : w.cell? ⟨Bf, 0, none⟩ = some (.func (.func 41) #[] #[])) :
    SeqStopsK Fence.wide n Tryd.prog 70 #[.pointer (some ⟨Bs, 0, none⟩), .pointer (some ⟨Bf, 0, none⟩)] (yld s) (K2 Bs Bf) (fun ys => ys = pcsOf nlB s) (fun pre => pre <+: pcsOf nlB s) (pcsOf nlB s).length w := fun l J Jx W hW hJ _ hY h0 =>
  iter_nl n hn l Bs Bf s hs _ J Jx hJ hY W ((hW.cell (p := ⟨Bs, 0, none⟩) hB).trans hc) ((hW.cell (p := ⟨Bf, 0, none⟩) hF).trans hf) h0
theorem stops_bl (n : Nat) (hn : 1 ≤ n) (Bs Bf : Nat) (s : ByteArray) (hs : s.size ≤ 9223372036854775807) (w : World) (hB : Bs < w.heap.size) (hF : Bf < w.heap.size) (hc : w.cell? ⟨Bs, 0, none⟩ = some (.string s)) (hf : w.cell? ⟨Bf, 0, none⟩ = some (.func (.func 42) #[] #[])) :
    SeqStopsK Fence.wide n Tryd.prog 70 #[.pointer (some ⟨Bs, 0, none⟩), .pointer (some ⟨Bf, 0, none⟩)] (yld s) (K2 Bs Bf) (fun ys => ys = pcsOf blB s) (fun pre => pre <+: pcsOf blB s) (pcsOf blB s).length w := fun l J Jx W hW hJ _ hY h0 =>
  iter_bl n hn l Bs Bf s hs _ J Jx hJ hY W ((hW.cell (p := ⟨Bs, 0, none⟩) hB).trans hc) ((hW.cell (p := ⟨Bf, 0, none⟩) hF).trans hf) h0

theorem k2_step {W w1 : World} {B Bs Bf n₀ : Nat} {ts tf e : TypeId} {us uf v v' : Value} {size k : Nat} {xs : List Value} {tmp : Obj}
    (hs : Boxed W Bs ts us) (hf : Boxed W Bf tf uf) (hse : ts ≠ e) (hfe : tf ≠ e) (hrow : W.ownsRow n₀ e size v k xs) (hg : (W.alloc tmp).grownBy w1 v.ownBlock) (h1 : Bs ≠ B) (h2 : Bf ≠ B) :
    K2 Bs Bf W (w1.setCell ⟨B, 0, none⟩ v') ∧ Boxed (w1.setCell ⟨B, 0, none⟩ v') Bs ts us ∧ Boxed (w1.setCell ⟨B, 0, none⟩ v') Bf tf uf := by
  have s1 : Boxed (w1.setCell ⟨B, 0, none⟩ v') Bs ts us := ((hs.alloc tmp).kept hg (hs.not_row hse hrow)).other h1 v'
  have f1 : Boxed (w1.setCell ⟨B, 0, none⟩ v') Bf tf uf := ((hf.alloc tmp).kept hg (hf.not_row hfe hrow)).other h2 v'
  refine ⟨⟨?_, s1.trans hs.symm, f1.trans hf.symm⟩, s1, f1⟩
  have a := hg.size
  have b := (grownBy_setCell' w1 B v').size
  simp at a
  omega

section
attribute [local go_sem] Oper.semAt_some
set_option maxRecDepth 100000 in
set_option maxHeartbeats 2000000 in
theorem lines_in (n : Nat) (hn : 3 ≤ n) (s : ByteArray) (hs : s.size ≤ 65536) (w : World) :
    CallsIn Fence.wide n Tryd.prog 16 #[.string s] w fun e W' =>
      ∃ v, e = .returned (.tuple #[v, .int .i64 0]) ∧ W'.ownsRow w.heap.size 31 3 v (pcsOf nlB s).length (flatL s 0 (pcsOf nlB s)) ∧ Below w.heap.size w W' := by
  have h1 : 1 ≤ n := by omega
  obtain ⟨i0, hi, hz0, hz1, hz2⟩ := info_parts infoLine
  refine callsIn_of_wp_marks Tryd.func16 rfl trivial ?_ rfl
  simp only [Tryd.ntmps16, List.size_toArray, List.length_cons, List.length_nil, Nat.reduceAdd, Nat.reduceSub, Array.replicate_succ, Array.replicate_zero, List.push_toArray, List.append_toArray, List.nil_append, List.cons_append]
  have hlen := pcsOf_len nlB s
  gi_wp2_with (refine ⟨trivial, ?_⟩; gi_at_call 40; refine (callsIn_wide.2 (pieces_nl _ _)).mono ?_; rintro e w' ⟨rfl, rfl⟩)
  have hB0 : Below w.heap.size w (((w.alloc (.cells #[.slice none 0 0] 23)).alloc (.cells #[.string s] 9)).alloc (.cells #[.func (.func 41) #[] #[]] 66)) :=
    (((Below.refl _ w).alloc (Nat.le_refl _) _).alloc (by simp) _).alloc (by simp; omega) _
  have bO : Boxed (((w.alloc (.cells #[.slice none 0 0] 23)).alloc (.cells #[.string s] 9)).alloc (.cells #[.func (.func 41) #[] #[]] 66)) w.heap.size 23 (.slice none 0 0) := ((Boxed.new w _ _).alloc _).alloc _
  have bS : Boxed (((w.alloc (.cells #[.slice none 0 0] 23)).alloc (.cells #[.string s] 9)).alloc (.cells #[.func (.func 41) #[] #[]] 66)) (w.heap.size + 1) 9 (.string s) := by
    have := (Boxed.new (w.alloc (.cells #[.slice none 0 0] 23)) 9 (.string s)).alloc (.cells #[.func (.func 41) #[] #[]] 66)
    rwa [World.size_alloc] at this
  have bF : Boxed (((w.alloc (.cells #[.slice none 0 0] 23)).alloc (.cells #[.string s] 9)).alloc (.cells #[.func (.func 41) #[] #[]] 66)) (w.heap.size + 1 + 1) 66 (.func (.func 41) #[] #[]) := by
    have := Boxed.new ((w.alloc (.cells #[.slice none 0 0] 23)).alloc (.cells #[.string s] 9)) 66 (.func (.func 41) #[] #[])
    rwa [World.size_alloc, World.size_alloc] at this
  obtain ⟨W0, hW0⟩ : ∃ W0, ((w.alloc (.cells #[.slice none 0 0] 23)).alloc (.cells #[.string s] 9)).alloc (.cells #[.func (.func 41) #[] #[]] 66) = W0 := ⟨_, rfl⟩
  have hz0' : W0.heap.size = w.heap.size + 3 := by rw [← hW0]; simp
  rw [hW0] at hB0 bO bS bF ⊢
  clear hW0
  refine wpIn_rangeFunc_ownG rfl h1 (gf := 70) (lb := #[.pointer (some ⟨w.heap.size + 1, 0, none⟩), .pointer (some ⟨w.heap.size + 1 + 1, 0, none⟩)]) rfl trivial (enters_of Tryd.func70 (by kernel_rfl) rfl)
    (stops_nl (n - 1) (by omega) (w.heap.size + 1) (w.heap.size + 1 + 1) s (by omega) W0 bS.lt bF.lt bS.cell bF.cell) K2.trans (k2_b bS.lt bF.lt) (Below.refl _ _) (fun _ => rfl)
    (fun pre W => (∃ v, Boxed W w.heap.size 23 v ∧ W.ownsRow w.heap.size 31 3 v pre.length (flatL s 0 pre) ∧ True) ∧ (Boxed W (w.heap.size + 1) 9 (.string s) ∧ Boxed W (w.heap.size + 1 + 1) 66 (.func (.func 41) #[] #[])) ∧ Below w.heap.size w W)
    (fun _ _ _ => False)
    (OwnFrom.and (Own.from (holdsRow_own w.heap.size w.heap.size 23 31 3 (fun pre : List (Nat × Nat) => pre.length) (fun pre => flatL s 0 pre) (fun _ _ => True)) _) (OwnFrom.and (OwnFrom.and (Own.from (boxed_own _ _ _) _) (Own.from (boxed_own _ _ _) _)) (ownFrom_below (Nat.le_refl _) (by omega))))
    (fun _ _ _ _ _ hs _ _ => hs)
    ⟨⟨_, bO, World.ownsRow_nil _ _ _ _, trivial⟩, ⟨bS, bF⟩, hB0⟩
    (fun x => { tmps := #[.string s, undef, .slice none 0 0, .int .i64 0, .pointer (some ⟨w.heap.size, 0, none⟩), .int .i64 (x.1 : Nat), .string (s.extract x.1 x.2), .string s, .int .i64 s.size, .bool (decide ((65536 : Int) < s.size)), .string s, .func (.func 70) #[] #[.pointer (some ⟨w.heap.size + 1, 0, none⟩), .pointer (some ⟨w.heap.size + 1 + 1, 0, none⟩)], .int .i64 (x.1 : Nat), .string (s.extract x.1 x.2), undef, undef, undef, undef, undef, undef, undef, undef, undef, undef], defers := [] }) ?assign ?body ?done ?stop
  case assign =>
    intro l x W K hK
    unfold yld
    gi_wp2
    exact hK
  case body =>
    rintro l pre x W ⟨⟨v, hv, hrow, _⟩, ⟨hs1, hf1⟩, hB⟩ hlt
    have hc := hv.cell
    obtain ⟨a, cap, rfl⟩ : ∃ a cap, v = .slice a pre.length cap := by
      rcases hrow.2 with ⟨rfl, hk⟩ | ⟨g, cap, cur, rfl, _⟩
      · exact ⟨none, 0, by simp [hk]⟩
      · exact ⟨_, _, rfl⟩
    have hb := hB.size
    gi_wp2_with (gi_at_builtin; refine wpListIn_append_own _ rfl _ _ 23 rfl w.heap.size 31 i0 (.agg #[.int .i64 0, .int .i64 0, .string ⟨#[]⟩]) 3 32 Tryd.underlying23 hi hz0 hz1 hz2 rfl (by decide) _ _ _ rfl (hrow.alloc _) ⟨W.heap.size, 0, none⟩ 1 1 [.int .i64 ((pre.length : Int) + 1), .int .i64 (x.1 : Nat), .string (s.extract x.1 x.2)] rfl rfl (cell_three_new _ _ _ _ _) (by simp [Value.oneCell']) (by simp [maxLen]; omega) (by omega) (by simp; omega) ?_; intro v' w1 hown' hgrow _; obtain ⟨g', cap', rfl⟩ := ownsRow_succ hown'; obtain ⟨hv1, hv2, hr2, hk2, hb2⟩ := hv.appended (by decide) hrow hB.size (Nat.le_refl _) hown' hgrow; obtain ⟨hq, hs2, hf2⟩ := k2_step (B := w.heap.size) (v' := .slice (some ⟨g', 0, none⟩) (pre.length + 1) cap') hs1 hf1 (by decide) (by decide) hrow hgrow (by omega) (by omega); have hc1 := hv1.cell; have hf1 := hv1.frozen)
    exact ⟨hk2.from _, hq, ⟨_, hv2, by rw [flatL_snoc]; simpa using hr2, trivial⟩, ⟨hs2, hf2⟩, hB.trans hb2⟩
  case done =>
    rintro D ys W hD rfl ⟨⟨v, hv, hrow, _⟩, _, hB⟩ hK
    have hc := hv.cell
    gi_wp2
    refine ⟨by simp, .inl ⟨_, _, rfl, run_takeDeferred hK, ?_⟩⟩
    exact ⟨_, results_tmp2 rfl _ _ _, v, rfl, ownsRow_putObj hrow _ hK rfl, hB.trans (belowK_b (w := w) (Nat.le_refl _) W D _ _ (by omega) hK rfl rfl)⟩
  case stop =>
    rintro D c pre W _ _ h _
    exact h.elim
set_option maxRecDepth 100000 in
set_option maxHeartbeats 2000000 in
theorem words_in (n : Nat) (hn : 3 ≤ n) (s : ByteArray) (hs : s.size ≤ 65536) (w : World) :
    CallsIn Fence.wide n Tryd.prog 18 #[.string s] w fun e W' =>
      ∃ v, e = .returned v ∧ W'.ownsRow w.heap.size 39 2 v (Lex.full (pcsOf blB s)).length (flatW s (Lex.full (pcsOf blB s))) ∧ Below w.heap.size w W' := by
  have h1 : 1 ≤ n := by omega
  obtain ⟨i0, hi, hz0, hz1, hz2⟩ := info_parts infoWord
  refine callsIn_of_wp_marks Tryd.func18 rfl trivial ?_ rfl
  simp only [Tryd.ntmps18, List.size_toArray, List.length_cons, List.length_nil, Nat.reduceAdd, Nat.reduceSub, Array.replicate_succ, Array.replicate_zero, List.push_toArray, List.append_toArray, List.nil_append, List.cons_append]
  have hlen := pcsOf_len blB s
  gi_wp2_with (refine ⟨trivial, ?_⟩; gi_at_call 40; refine (callsIn_wide.2 (pieces_bl _ _)).mono ?_; rintro e w' ⟨rfl, rfl⟩)
  have hB0 : Below w.heap.size w (((w.alloc (.cells #[.slice none 0 0] 34)).alloc (.cells #[.string s] 9)).alloc (.cells #[.func (.func 42) #[] #[]] 66)) :=
    (((Below.refl _ w).alloc (Nat.le_refl _) _).alloc (by simp) _).alloc (by simp; omega) _
  have bO : Boxed (((w.alloc (.cells #[.slice none 0 0] 34)).alloc (.cells #[.string s] 9)).alloc (.cells #[.func (.func 42) #[] #[]] 66)) w.heap.size 34 (.slice none 0 0) := ((Boxed.new w _ _).alloc _).alloc _
  have bS : Boxed (((w.alloc (.cells #[.slice none 0 0] 34)).alloc (.cells #[.string s] 9)).alloc (.cells #[.func (.func 42) #[] #[]] 66)) (w.heap.size + 1) 9 (.string s) := by
    have := (Boxed.new (w.alloc (.cells #[.slice none 0 0] 34)) 9 (.string s)).alloc (.cells #[.func (.func 42) #[] #[]] 66)
    rwa [World.size_alloc] at this
  have bF : Boxed (((w.alloc (.cells #[.slice none 0 0] 34)).alloc (.cells #[.string s] 9)).alloc (.cells #[.func (.func 42) #[] #[]] 66)) (w.heap.size + 1 + 1) 66 (.func (.func 42) #[] #[]) := by
    have := Boxed.new ((w.alloc (.cells #[.slice none 0 0] 34)).alloc (.cells #[.string s] 9)) 66 (.func (.func 42) #[] #[])
    rwa [World.size_alloc, World.size_alloc] at this
  obtain ⟨W0, hW0⟩ : ∃ W0, ((w.alloc (.cells #[.slice none 0 0] 34)).alloc (.cells #[.string s] 9)).alloc (.cells #[.func (.func 42) #[] #[]] 66) = W0 := ⟨_, rfl⟩
  have hz0' : W0.heap.size = w.heap.size + 3 := by rw [← hW0]; simp
  rw [hW0] at hB0 bO bS bF ⊢
  clear hW0
  refine wpIn_rangeFunc_ownG rfl h1 (gf := 70) (lb := #[.pointer (some ⟨w.heap.size + 1, 0, none⟩), .pointer (some ⟨w.heap.size + 1 + 1, 0, none⟩)]) rfl trivial (enters_of Tryd.func70 (by kernel_rfl) rfl)
    (stops_bl (n - 1) (by omega) (w.heap.size + 1) (w.heap.size + 1 + 1) s (by omega) W0 bS.lt bF.lt bS.cell bF.cell) K2.trans (k2_b bS.lt bF.lt) (Below.refl _ _) (fun _ => rfl)
    (fun pre W => (∃ v, Boxed W w.heap.size 34 v ∧ W.ownsRow w.heap.size 39 2 v (fullS s pre).length (flatW s (fullS s pre)) ∧ True) ∧ (Boxed W (w.heap.size + 1) 9 (.string s) ∧ Boxed W (w.heap.size + 1 + 1) 66 (.func (.func 42) #[] #[])) ∧ Below w.heap.size w W)
    (fun _ _ _ => False)
    (OwnFrom.and (Own.from (holdsRow_own w.heap.size w.heap.size 34 39 2 (fun pre : List (Nat × Nat) => (fullS s pre).length) (fun pre => flatW s (fullS s pre)) (fun _ _ => True)) _) (OwnFrom.and (OwnFrom.and (Own.from (boxed_own _ _ _) _) (Own.from (boxed_own _ _ _) _)) (ownFrom_below (Nat.le_refl _) (by omega))))
    (fun _ _ _ _ _ hs _ _ => hs)
    ⟨⟨_, bO, World.ownsRow_nil _ _ _ _, trivial⟩, ⟨bS, bF⟩, hB0⟩
    (fun x => { tmps := #[.string s, undef, .slice none 0 0, .pointer (some ⟨w.heap.size, 0, none⟩), .int .i64 (x.1 : Nat), .string (s.extract x.1 x.2), .string s, .func (.func 70) #[] #[.pointer (some ⟨w.heap.size + 1, 0, none⟩), .pointer (some ⟨w.heap.size + 1 + 1, 0, none⟩)], .int .i64 (x.1 : Nat), .string (s.extract x.1 x.2), undef, undef, undef, undef, undef, undef, undef, undef, undef], defers := [] }) ?assign ?body ?done ?stop
  case assign =>
    intro l x W K hK
    unfold yld
    gi_wp2
    exact hK
  case body =>
    rintro l pre x W ⟨⟨v, hv, hrow, _⟩, ⟨hs1, hf1⟩, hB⟩ hlt
    have hc := hv.cell
    have hb := hB.size
    have hfl := fullS_len s pre
    by_cases hx : x.1 < min x.2 s.size
    · have hne := ext_some hx
      have hne' := ext_some' hx
      have HF := Lib.hid (fullS_yes hx pre)
      clear hx
      gi_wp2_with (gi_at_builtin; refine wpListIn_append_own _ rfl _ _ 34 rfl w.heap.size 39 i0 (.agg #[.int .i64 0, .string ⟨#[]⟩]) 2 24 Tryd.underlying34 hi hz0 hz1 hz2 rfl (by decide) _ _ _ rfl (hrow.alloc _) ⟨W.heap.size, 0, none⟩ 1 1 [.int .i64 (x.1 : Nat), .string (s.extract x.1 x.2)] rfl rfl (cell_two_new _ _ _ _) (by simp [Value.oneCell']) (by simp [maxLen]; omega) (by omega) (by simp; omega) ?_; intro v' w1 hown' hgrow _; obtain ⟨g', cap', rfl⟩ := ownsRow_succ hown'; obtain ⟨hv1, hv2, hr2, hk2, hb2⟩ := hv.appended (by decide) hrow hB.size (Nat.le_refl _) hown' hgrow; obtain ⟨hq, hs2, hf2⟩ := k2_step (B := w.heap.size) (v' := .slice (some ⟨g', 0, none⟩) ((fullS s pre).length + 1) cap') hs1 hf1 (by decide) (by decide) hrow hgrow (by omega) (by omega); have hc1 := hv1.cell; have hf1 := hv1.frozen)
      exact ⟨hk2.from _, hq, ⟨_, hv2, by rw [HF.out, flatW_snoc]; simpa using hr2, trivial⟩, ⟨hs2, hf2⟩, hB.trans hb2⟩
    · have hne := ext_none hx
      have hne' := ext_none' hx
      have HF := Lib.hid (fullS_no hx pre)
      clear hx
      gi_wp2
      exact ⟨KeepsFrom.refl _ _, K2.refl _ _ _, ⟨_, hv, by rw [HF.out]; exact hrow, trivial⟩, ⟨hs1, hf1⟩, hB⟩
  case done =>
    rintro D ys W hD rfl ⟨⟨v, hv, hrow, _⟩, _, hB⟩ hK
    have hc := hv.cell
    gi_wp2
    refine ⟨by simp, .inl ⟨_, _, rfl, run_takeDeferred hK, ?_⟩⟩
    exact ⟨_, results_tmp rfl _ _ _, v, rfl, by rw [← fullS_pcs]; exact ownsRow_putObj hrow _ hK rfl, hB.trans (belowK_b (w := w) (Nat.le_refl _) W D _ _ (by omega) hK rfl rfl)⟩
  case stop =>
    rintro D c pre W _ _ h _
    exact h.elim
end
end Go.Proofs.YtjlipkklljjdjaaDoor
