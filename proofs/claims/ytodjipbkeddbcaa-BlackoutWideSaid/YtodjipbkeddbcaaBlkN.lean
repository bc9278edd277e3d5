/- For the statement on wide lists: lists of 64 spans and their results; two rows that grow side by side; the errors of lists, and a row beside its error. -/
import Derived.Test.YtodjipbkeddbcaaBlkM
import Derived.Maps.AppendAt
import Derived.Laws.OwnMore
namespace Go.Proofs.Ytodjipbkeddbcaa.Bk
def odd (k : Nat) : List (Int × Int) := (List.range k).map fun (i : Nat) => (4 * (i : Int), 4 * (i : Int))
def even (k : Nat) : List (Int × Int) := (List.range k).map fun (i : Nat) => (4 * (i : Int) + 2, 4 * (i : Int) + 2)
def tw (k : Nat) : List (Int × Int) := (List.range k).map fun (i : Nat) => (2 * (i : Int), 2 * (i : Int))
def gp1 (k : Nat) : List (Int × Int) := (List.range k).map fun (i : Nat) => (4 * (i : Int) + 1, 4 * (i : Int) + 3)
def gp : List (Int × Int) := gp1 63 ++ [(253, 253402300799)]
theorem odd_succ (k : Nat) : odd (k + 1) = odd k ++ [(4 * (k : Int), 4 * (k : Int))] := by simp [odd, List.range_succ]
theorem even_succ (k : Nat) : even (k + 1) = even k ++ [(4 * (k : Int) + 2, 4 * (k : Int) + 2)] := by simp [even, List.range_succ]
theorem odd_len (k : Nat) : (odd k).length = k := by simp [odd]
theorem even_len (k : Nat) : (even k).length = k := by simp [even]
theorem tw_len (k : Nat) : (tw k).length = k := by simp [tw]
theorem gp_len : gp.length = 64 := by simp [gp, gp1]
theorem gp_63 : gp.getD 63 (0, 0) = (253, 253402300799) := by
  unfold gp
  rw [List.getD_eq_getElem?_getD, List.getElem?_append_right (by simp [gp1])]
  simp [gp1]
theorem has_range (f : Nat → Int × Int) (k : Nat) (t : Int) : has ((List.range k).map f) t ↔ ∃ i, i < k ∧ (f i).1 ≤ t ∧ t ≤ (f i).2 := by
  unfold has
  constructor
  · rintro ⟨x, hx, h⟩
    obtain ⟨i, hi, rfl⟩ := List.mem_map.1 hx
    exact ⟨i, List.mem_range.1 hi, h⟩
  · rintro ⟨i, hi, h⟩
    exact ⟨f i, List.mem_map.2 ⟨i, List.mem_range.2 hi, rfl⟩, h⟩
theorem norm_range (f : Nat → Int × Int) (k : Nat) (h1 : ∀ i, i < k → (f i).1 ≤ (f i).2) (h2 : ∀ i j, i < j → j < k → (f i).2 + 2 ≤ (f j).1) : Norm ((List.range k).map f) := by
  refine ⟨fun x hx => ?_, ?_⟩
  · obtain ⟨i, hi, rfl⟩ := List.mem_map.1 hx
    exact h1 i (List.mem_range.1 hi)
  · rw [List.pairwise_iff_getElem]
    intro i j hi hj hij
    simp only [List.getElem_map, List.getElem_range]
    exact h2 i j hij (by simpa using hj)
theorem okS_range (f : Nat → Int × Int) (k : Nat) (h : ∀ i, i < k → okT (f i).1 ∧ okT (f i).2 ∧ (f i).1 ≤ (f i).2) : OkS ((List.range k).map f) := fun x hx => by
  obtain ⟨i, hi, rfl⟩ := List.mem_map.1 hx
  exact h i (List.mem_range.1 hi)
theorem err_odd : errL (odd 64) = 0 := errL_zero.2 ⟨by rw [odd_len]; omega, okS_range _ _ (fun i hi => by unfold okT; simp only; omega)⟩
theorem err_even : errL (even 64) = 0 := errL_zero.2 ⟨by rw [even_len]; omega, okS_range _ _ (fun i hi => by unfold okT; simp only; omega)⟩
theorem err_all {b : Int} (h : okT b) : errL [(0, b)] = 0 := errL_zero.2 ⟨by simp, okS_one (by unfold okT; omega) h h.1⟩
theorem wideU : ResR (odd 64) (even 64) 1 (tw 128) 0 := by
  refine ⟨(err2_zero.2 ⟨err_odd, err_even⟩).symm, .inl ⟨rfl, ⟨norm_range _ _ (fun i _ => by simp) (fun i j h _ => by simp only; omega), fun t => ?_⟩⟩⟩
  rw [want_1]
  unfold tw odd even
  rw [has_range, has_range, has_range]
  simp only
  constructor
  · rintro ⟨i, hi, h1, h2⟩
    by_cases e : i % 2 = 0
    · exact .inl ⟨i / 2, by omega, by omega, by omega⟩
    · exact .inr ⟨i / 2, by omega, by omega, by omega⟩
  · rintro (⟨i, hi, h1, h2⟩ | ⟨i, hi, h1, h2⟩)
    · exact ⟨2 * i, by omega, by omega, by omega⟩
    · exact ⟨2 * i + 1, by omega, by omega, by omega⟩
theorem wideW : ResR [(0, 253402300799)] (odd 64) 3 gp 0 := by
  refine ⟨(err2_zero.2 ⟨err_all (by unfold okT; omega), err_odd⟩).symm, .inl ⟨rfl, ⟨?_, fun t => ?_⟩⟩⟩
  · refine norm_snoc (norm_range _ _ (fun i _ => by simp only; omega) (fun i j h _ => by simp only; omega)) (by simp) (fun y hy => ?_)
    obtain ⟨i, hi, rfl⟩ := List.mem_map.1 hy
    have := List.mem_range.1 hi
    simp only
    omega
  · rw [want_3, has_one]
    unfold gp gp1 odd
    rw [has_append, has_one, has_range, has_range]
    simp only
    constructor
    · rintro (⟨i, hi, h1, h2⟩ | ⟨h1, h2⟩)
      · exact ⟨by omega, fun ⟨j, hj, k1, k2⟩ => by omega⟩
      · exact ⟨by omega, fun ⟨j, hj, k1, k2⟩ => by omega⟩
    · rintro ⟨⟨h1, h2⟩, h3⟩
      by_cases q : 253 ≤ t
      · exact .inr ⟨q, h2⟩
      · have e : t % 4 ≠ 0 := fun e => h3 ⟨(t / 4).toNat, by omega, by omega, by omega⟩
        exact .inl ⟨(t / 4).toNat, by omega, by omega, by omega⟩
theorem freeAll : FreeR [(0, 253402300799)] 0 0 false 0 := by
  refine ⟨(errI_zero.2 ⟨err_all (by unfold okT; omega), by unfold okT; omega⟩).symm, .inl ⟨rfl, .inr ⟨rfl, rfl, fun u h1 h2 => ?_⟩⟩⟩
  rw [has_one]
  exact ⟨h1, h2⟩
theorem freeMost : FreeR [(0, 253402300798)] 7 253402300799 true 0 := by
  refine ⟨(errI_zero.2 ⟨err_all (by unfold okT; omega), by unfold okT; omega⟩).symm, .inl ⟨rfl, .inl ⟨rfl, by omega, by omega, ?_, fun u h1 h2 => ?_⟩⟩⟩
  · rw [has_one]; simp only; omega
  · rw [has_one]; simp only; omega
theorem len_whole {a b : Int} (_h : a ≤ b) : len [(a, b)] a b = b - a + 1 := by
  unfold len
  rw [cnt_congr (Q := fun _ => true) (fun t h1 h2 => by rw [decide_eq_true_iff, has_one]; simp only; omega), cnt_true]
  omega
theorem lenAll : LenR [(0, 253402300799)] 0 253402300799 253402300800 0 := by
  refine ⟨(errR_zero.2 ⟨err_all (by unfold okT; omega), by unfold okT; omega, by unfold okT; omega, by omega⟩).symm, .inl ⟨rfl, ?_⟩⟩
  rw [len_whole (by omega)]
  omega
/-- 65 spans, the first one of no time -/
def many : List (Int × Int) := (-1, 0) :: List.replicate 64 (0, 0)
def LS : List (List (Int × Int)) := [[], many, many.take 64, [(5, 4), (-1, 0)], [(253402300800, 4)], [(0, 9223372036854775807)], [(-9223372036854775808, 9223372036854775807)]]
def ES : List Int := [0, 12, 14, 8, 14, 14, 14]
theorem many_len : many.length = 65 := by simp [many]
theorem err_many : errL many = 12 := by unfold errL; rw [if_pos (by rw [many_len]; omega)]
theorem err_LS {j : Nat} (_h : j < 7) : errL (LS.getD j []) = ES.getD j 0 := by
  have : j = 0 ∨ j = 1 ∨ j = 2 ∨ j = 3 ∨ j = 4 ∨ j = 5 ∨ j = 6 := by omega
  rcases this with rfl | rfl | rfl | rfl | rfl | rfl | rfl <;> decide +kernel
theorem errI_neg (l : List (Int × Int)) : errI l (-1) = if errL l = 0 then 14 else errL l := by unfold errI; rw [if_neg (c := okT (-1)) (by unfold okT; omega)]
theorem errR_neg (l : List (Int × Int)) : errR l 3 (-1) = if errL l = 0 then 14 else errL l := by unfold errR; rw [if_neg (c := okT 3 ∧ okT (-1)) (by unfold okT; omega)]
theorem errR_rev (l : List (Int × Int)) : errR l 3 2 = if errL l = 0 then 8 else errL l := by
  unfold errR
  rw [if_pos (c := okT 3 ∧ okT 2) (by unfold okT; omega), if_pos (c := (2 : Int) < 3) (by omega)]
theorem err2_many (l : List (Int × Int)) : err2 l many = if errL l = 0 then 12 else errL l := by unfold err2; rw [err_many]
theorem err2_many' (l : List (Int × Int)) : err2 many l = 12 := by unfold err2; rw [err_many]; rfl
theorem inN {l : List (Int × Int)} {r : Int} (_h : errI l (-1) = r) (z : r ≠ 0) : decide (r = 0 ∧ has l (-1)) = false := decide_eq_false fun q => z q.1
theorem freeN {l : List (Int × Int)} {t r : Int} (h : errI l t = r) (z : r ≠ 0) : FreeR l t 0 false r := ⟨h.symm, .inr ⟨z, rfl, rfl⟩⟩
theorem resN {a b : List (Int × Int)} {k r : Int} (h : err2 a b = r) (z : r ≠ 0) : ResR a b k [] r := ⟨h.symm, .inr ⟨z, rfl⟩⟩
theorem lenN {l : List (Int × Int)} {a b r : Int} (h : errR l a b = r) (z : r ≠ 0) : LenR l a b 0 r := ⟨h.symm, .inr ⟨z, rfl⟩⟩
end Go.Proofs.Ytodjipbkeddbcaa.Bk
namespace Go.Proofs.Ytodjipbkeddbcaa
open Go.ChangeShapes Go.RowKit

/-- two rows of the call's own, in blocks of their own -/
structure TwoS (w : World) (u v : Value) (a b : List (Int × Int)) (wr : World) : Prop where
  up : OwnS w u a wr
  down : OwnS w v b wr
  apart : ∀ g, u.ownBlock = some g → v.ownBlock ≠ some g
theorem TwoS.swap {w wr : World} {u v : Value} {a b : List (Int × Int)} (h : TwoS w u v a b wr) : TwoS w v u b a wr := ⟨h.down, h.up, fun g h1 h2 => h.apart g h2 h1⟩
theorem TwoS.step {w wr w1 : World} {u v u' : Value} {a b : List (Int × Int)} {o : Obj} {x : Int × Int} (h : TwoS w u v a b wr)
    (hown : w1.ownsRow w.heap.size 27 2 u' (a.length + 1) (a.flatMap encS ++ [.int .i64 x.1, .int .i64 x.2])) (hg : (wr.alloc o).grownBy w1 u.ownBlock)
    (hat : u'.ownBlock = u.ownBlock ∨ u'.ownBlock = some (wr.heap.size + 1)) : TwoS w u' v (a ++ [x]) b w1 := by
  have hs := h.up.below.size
  have st := h.up.step hown hg
  refine ⟨st, ⟨(h.down.row.alloc o).kept hg ?_, st.below⟩, ?_⟩
  · by_cases z : v.ownBlock = none
    · exact .inl z
    · refine .inr fun e => ?_
      obtain ⟨g, hgd⟩ := Option.ne_none_iff_exists'.1 z
      exact h.apart g (by rw [← e, hgd]) hgd
  · intro g hgv hgd
    rcases hat with e | e
    · exact h.apart g (by rw [← e, hgv]) hgd
    · have := (h.down.row.lt g hgd).2
      rw [e] at hgv
      simp at hgv
      omega
theorem OwnS.form {w wr : World} {v : Value} {l : List (Int × Int)} (h : OwnS w v l wr) (hl : 0 < l.length) : ∃ g cap, v = .slice (some ⟨g, 0, none⟩) l.length cap := by
  rcases h.row.2 with ⟨_, q⟩ | ⟨g, cap, cur, rfl, _⟩
  · omega
  · exact ⟨g, cap, rfl⟩
/-- a row and its error side by side, kept -/
def CtxB (w : World) (v : Value) (l : List (Int × Int)) (B : Nat) (E : Int) (W : World) : Prop := Below w.heap.size w W ∧ RowS W v l ∧ W.cell? ⟨B, 0, none⟩ = some v ∧ W.cell? ⟨B, 1, none⟩ = some (.int .i64 E)
theorem CtxB.drew {w W : World} {v : Value} {l : List (Int × Int)} {B : Nat} {E : Int} (h : CtxB w v l B E W) : CtxB w v l B E W.drew := ⟨h.1.drew, h.2⟩
theorem chk_ctx {w W : World} {v : Value} {l : List (Int × Int)} {B : Nat} {E : Int} (hr : Bk.errL l = E) (h : CtxB w v l B E W) : Calls Try.prog 18 #[v] W fun e w' => e = .returned (.int .i64 E) ∧ CtxB w v l B E w' :=
  (chk_any v l E hr W h.2.1).mono fun _ w' ⟨h1, h2⟩ => by
    obtain ⟨b, r, c0, c1⟩ := h
    exact ⟨h1, below_next b h2, r.below h2, (h2.cell (p := ⟨B, 0, none⟩) (lt_of_cell c0)).trans c0, (h2.cell (p := ⟨B, 1, none⟩) (lt_of_cell c1)).trans c1⟩
/-! the table of the errors -/
theorem madeN (n : Nat) : (madeCells (Value.agg #[.int .i64 0, .int .i64 0]).cells n).toList = List.replicate n (.int .i64 0) := by
  apply List.ext_getElem?
  intro j
  by_cases hj : j < n
  · have : j % 2 = 0 ∨ j % 2 = 1 := by omega
    rcases this with e | e <;> simp [madeCells, hj, Value.cells, e]
  · simp [madeCells, hj]
theorem madeS : (madeCells (Value.agg #[.int .i64 0, .int .i64 0]).cells (65 * 2)).toList = List.replicate 130 (.int .i64 0) := madeN 130
def tab1 (W : World) : World := W.alloc (.cells #[.int .i64 5, .int .i64 4, .int .i64 (-1), .int .i64 0] 27)
def tab2 (W : World) : World := (tab1 W).alloc (.cells #[.int .i64 253402300800, .int .i64 4] 27)
def tab3 (W : World) : World := (tab2 W).alloc (.cells #[.int .i64 0, .int .i64 9223372036854775807] 27)
def tab4 (W : World) : World := (tab3 W).alloc (.cells #[.int .i64 (-9223372036854775808), .int .i64 9223372036854775807] 27)
def tabL (p n : Nat) : List Value := [.slice none 0 0, .int .i64 0, .slice (some ⟨p, 0, none⟩) 65 65, .int .i64 12, .slice (some ⟨p, 0, none⟩) 64 65, .int .i64 14, .slice (some ⟨n, 0, none⟩) 2 2, .int .i64 8, .slice (some ⟨n + 1, 0, none⟩) 1 1, .int .i64 14, .slice (some ⟨n + 1 + 1, 0, none⟩) 1 1, .int .i64 14, .slice (some ⟨n + 1 + 1 + 1, 0, none⟩) 1 1, .int .i64 14]
def tabW (p n : Nat) (W : World) : World := (tab4 W).alloc (.cells (tabL p n).toArray 52)
theorem tabW_eq (p n : Nat) (W : World) : (((((W.alloc (.cells #[.int .i64 5, .int .i64 4, .int .i64 (-1), .int .i64 0] 27)).alloc (.cells #[.int .i64 253402300800, .int .i64 4] 27)).alloc (.cells #[.int .i64 0, .int .i64 9223372036854775807] 27)).alloc (.cells #[.int .i64 (-9223372036854775808), .int .i64 9223372036854775807] 27)).alloc (.cells #[.slice none 0 0, .int .i64 0, .slice (some ⟨p, 0, none⟩) 65 65, .int .i64 12, .slice (some ⟨p, 0, none⟩) 64 65, .int .i64 14, .slice (some ⟨n, 0, none⟩) 2 2, .int .i64 8, .slice (some ⟨n + 1, 0, none⟩) 1 1, .int .i64 14, .slice (some ⟨n + 1 + 1, 0, none⟩) 1 1, .int .i64 14, .slice (some ⟨n + 1 + 1 + 1, 0, none⟩) 1 1, .int .i64 14] 52)) = tabW p n W := rfl
theorem tab_rows {W : World} {p n : Nat} (hn : W.heap.size = n) (hm : RowS W (.slice (some ⟨p, 0, none⟩) 65 65) Bk.many) :
    RowS (tabW p n W) (.slice (some ⟨p, 0, none⟩) 65 65) Bk.many ∧ ∀ j, j < 7 → ∃ v, (tabW p n W).cell? ⟨n + 1 + 1 + 1 + 1, j * 2, none⟩ = some v ∧ (tabW p n W).cell? ⟨n + 1 + 1 + 1 + 1, j * 2 + 1, none⟩ = some (.int .i64 (Bk.ES.getD j 0)) ∧ RowS (tabW p n W) v (Bk.LS.getD j []) := by
  subst hn
  have s1 : (tab1 W).heap.size = W.heap.size + 1 := by simp [tab1]
  have s2 : (tab2 W).heap.size = W.heap.size + 1 + 1 := by simp [tab2, s1]
  have s3 : (tab3 W).heap.size = W.heap.size + 1 + 1 + 1 := by simp [tab3, s2]
  have s4 : (tab4 W).heap.size = W.heap.size + 1 + 1 + 1 + 1 := by simp [tab4, s3]
  have h1 := rowS_lit W [(5, 4), (-1, 0)] 2 rfl #[.int .i64 5, .int .i64 4, .int .i64 (-1), .int .i64 0] rfl (by decide) 2
  have h2 := rowS_lit (tab1 W) [(253402300800, 4)] 1 rfl #[.int .i64 253402300800, .int .i64 4] rfl (by decide) 1
  have h3 := rowS_lit (tab2 W) [(0, 9223372036854775807)] 1 rfl #[.int .i64 0, .int .i64 9223372036854775807] rfl (by decide) 1
  have h4 := rowS_lit (tab3 W) [(-9223372036854775808, 9223372036854775807)] 1 rfl #[.int .i64 (-9223372036854775808), .int .i64 9223372036854775807] rfl (by decide) 1
  rw [s1] at h2
  rw [s2] at h3
  rw [s3] at h4
  have ht : RowS W (.slice (some ⟨p, 0, none⟩) 64 65) (Bk.many.take 64) := (part_row (l := Bk.many) (by rw [Bk.many_len]; exact hm) (k := 64) (by rw [Bk.many_len]; omega)).1
  have up : ∀ {v : Value} {l : List (Int × Int)}, RowS W v l → RowS (tabW p W.heap.size W) v l := fun h => ((((h.alloc _).alloc _).alloc _).alloc _).alloc _
  have c : ∀ (i : Nat) (u : Value), (tabL p W.heap.size)[i]? = some u → (tabW p W.heap.size W).cell? ⟨W.heap.size + 1 + 1 + 1 + 1, i, none⟩ = some u := fun i u h => by
    have := cells_new (tab4 W) _ s4 (tabL p W.heap.size) 52 i u h
    rwa [add_flat, Nat.zero_add] at this
  refine ⟨up hm, fun j hj => ?_⟩
  have : j = 0 ∨ j = 1 ∨ j = 2 ∨ j = 3 ∨ j = 4 ∨ j = 5 ∨ j = 6 := by omega
  rcases this with rfl | rfl | rfl | rfl | rfl | rfl | rfl
  · exact ⟨_, c 0 _ rfl, c 1 _ rfl, RowS.nil _⟩
  · exact ⟨_, c 2 _ rfl, c 3 _ rfl, up hm⟩
  · exact ⟨_, c 4 _ rfl, c 5 _ rfl, up ht⟩
  · exact ⟨_, c 6 _ rfl, c 7 _ rfl, (((RowS.alloc h1 _).alloc _).alloc _).alloc _⟩
  · exact ⟨_, c 8 _ rfl, c 9 _ rfl, ((RowS.alloc h2 _).alloc _).alloc _⟩
  · exact ⟨_, c 10 _ rfl, c 11 _ rfl, (RowS.alloc h3 _).alloc _⟩
  · exact ⟨_, c 12 _ rfl, c 13 _ rfl, RowS.alloc h4 _⟩
theorem tab_ok {w W5 : World} {p : Nat} (hb : Below w.heap.size w W5) (hm : W5.ownsRow w.heap.size 27 2 (.slice (some ⟨p, 0, none⟩) 65 65) 65 (List.replicate 130 (.int .i64 0))) (W0 : World) (T : Nat)
    (h0 : tabW p W5.heap.size ((W5.setCell ⟨p, 0, none⟩ (.int .i64 (-1))).setCell ⟨p, 1, none⟩ (.int .i64 0)) = W0) (hT : W5.heap.size + 1 + 1 + 1 + 1 = T) :
    Below w.heap.size w W0 ∧ T < W0.heap.size ∧ RowS W0 (.slice (some ⟨p, 0, none⟩) 65 65) Bk.many ∧ ∀ j, j < 7 → ∃ v, W0.cell? ⟨T, j * 2, none⟩ = some v ∧ W0.cell? ⟨T, j * 2 + 1, none⟩ = some (.int .i64 (Bk.ES.getD j 0)) ∧ RowS W0 v (Bk.LS.getD j []) := by
  subst h0 hT
  have a0 := hm.stored 0 (.int .i64 (-1))
  have a1 := a0.1.stored 1 (.int .i64 0)
  have b0 := hb.grown a0.2 hb.size (fun k hk => by cases hk; exact (hm.lt _ rfl).1)
  have b1 := b0.grown a1.2 b0.size (fun k hk => by cases hk; exact (a0.1.lt _ rfl).1)
  obtain ⟨W6, h6⟩ : ∃ W6, (W5.setCell ⟨p, 0, none⟩ (.int .i64 (-1))).setCell ⟨p, 1, none⟩ (.int .i64 0) = W6 := ⟨_, rfl⟩
  have s6 : W6.heap.size = W5.heap.size := by rw [← h6]; simp
  rw [h6] at a1 b1 ⊢
  have e : ((List.replicate 130 (Value.int .i64 0)).set 0 (.int .i64 (-1))).set 1 (.int .i64 0) = Bk.many.flatMap encS := by kernel_rfl
  have hr : RowS W6 (.slice (some ⟨p, 0, none⟩) 65 65) Bk.many := rowS_own (n := w.heap.size) (by rw [Bk.many_len, ← e]; exact a1.1) (by rw [Bk.many_len]; omega)
  have r := tab_rows (p := p) s6 hr
  refine ⟨?_, ?_, r.1, r.2⟩
  · have q : ∀ {W : World} (o : Obj), Below w.heap.size w W → Below w.heap.size w (W.alloc o) := fun o h => below_new h o (Nat.le_refl _)
    exact q _ (q _ (q _ (q _ (q _ b1))))
  · simp [tabW, tab4, tab3, tab2, tab1, s6]
end Go.Proofs.Ytodjipbkeddbcaa
