/- Slices of spans and of edges of the call's own; slices.SortFunc at edges. -/
import Derived.Test.YtljackjcgfaanaaGreatDoorBlkSh
import Derived.Test.YtljackjcgfaanaaGreatDoorBlkB
namespace Go.Proofs.YtljackjcgfaanaaGreatDoor.Bo
open Go.ChangeShapes Go.RowKit

def encS (x : Int × Int) : List Value := [.int .i64 x.1, .int .i64 x.2]
def encE (x : Int × Int × Int) : List Value := [.int .i64 x.1, .int .i64 x.2.1, .int .i64 x.2.2]
theorem flatS_get : ∀ (l : List (Int × Int)) (j : Nat), j < l.length → (l.flatMap encS)[j * 2]? = some (.int .i64 (l.getD j (0, 0)).1) ∧ (l.flatMap encS)[j * 2 + 1]? = some (.int .i64 (l.getD j (0, 0)).2)
  | [], j, h => by simp at h
  | x :: r, 0, _ => by simp [encS]
  | x :: r, j + 1, h => by
    have ih := flatS_get r j (by simpa using h)
    rw [List.flatMap_cons]
    have e : ∀ i, (encS x ++ r.flatMap encS)[i + 2]? = (r.flatMap encS)[i]? := fun i => by simp [encS]
    rw [show (j + 1) * 2 = j * 2 + 2 by omega, show j * 2 + 2 + 1 = j * 2 + 1 + 2 by omega, e, e, List.getD_cons_succ]
    exact ih
theorem flatE_get : ∀ (l : List (Int × Int × Int)) (j : Nat), j < l.length * 3 → (l.flatMap encE)[j]? = some ((encE (l.getD (j / 3) default))[j % 3]!)
  | [], j, h => by simp at h
  | x :: r, j, h => by
    rw [List.flatMap_cons]
    by_cases q : j < 3
    · have : j = 0 ∨ j = 1 ∨ j = 2 := by omega
      rcases this with rfl | rfl | rfl <;> simp [encE]
    · obtain ⟨i, rfl⟩ : ∃ i, j = i + 3 := ⟨j - 3, by omega⟩
      have ih := flatE_get r i (by simp at h; omega)
      rw [show (encE x ++ r.flatMap encE)[i + 3]? = (r.flatMap encE)[i]? by simp [encE], ih, show (i + 3) / 3 = i / 3 + 1 by omega, show (i + 3) % 3 = i % 3 by omega, List.getD_cons_succ]
theorem flatS_len (l : List (Int × Int)) : (l.flatMap encS).length = l.length * 2 := by
  induction l with
  | nil => rfl
  | cons x r ih => rw [List.flatMap_cons, List.length_append, ih]; simp [encS]; omega
theorem flatS_one {l : List (Int × Int)} : ∀ u ∈ l.flatMap encS, u.oneCell' = true := by
  intro u hu
  obtain ⟨x, _, h⟩ := List.mem_flatMap.1 hu
  simp only [encS, List.mem_cons, List.not_mem_nil, or_false] at h
  rcases h with rfl | rfl <;> rfl

theorem add_flat (b off i : Nat) : (Addr.add ⟨b, off, none⟩ i) = ⟨b, off + i, none⟩ := by
  unfold Addr.add; split <;> simp_all
theorem ownsRow_base {W : World} {base base' : Nat} {e : TypeId} {size : Nat} {v : Value} {k : Nat} {xs : List Value} (h : W.ownsRow base e size v k xs) (hb : base' ≤ base) : W.ownsRow base' e size v k xs := by
  refine ⟨h.1, ?_⟩
  rcases h.2 with hn | ⟨g, cap, cur, hv, hbg, rest⟩
  · exact .inl hn
  · exact .inr ⟨g, cap, cur, hv, Nat.le_trans hb hbg, rest⟩
theorem infoS : (Tryz.prog.info? 48).map (fun i => (i.zero, i.size, i.bytes)) = some (some (.agg #[.int .i64 0, .int .i64 0]), 2, 16) := by kernel_rfl
theorem infoE : (Tryz.prog.info? 162).map (fun i => (i.zero, i.size, i.bytes)) = some (some (.agg #[.int .i64 0, .int .i64 0, .int .i64 0]), 3, 24) := by kernel_rfl

/-- a list of spans of the call's own, and what lay before the call is as it was -/
structure OwnS (w : World) (v : Value) (l : List (Int × Int)) (wr : World) : Prop where
  row : wr.ownsRow w.heap.size 48 2 v l.length (l.flatMap encS)
  below : Below w.heap.size w wr
theorem OwnS.nil {w wr : World} (h : Below w.heap.size w wr) : OwnS w (.slice none 0 0) [] wr := ⟨World.ownsRow_nil _ _ _ _, h⟩
theorem OwnS.len {w wr : World} {v : Value} {l : List (Int × Int)} (h : OwnS w v l wr) : ∃ a cap, v = .slice a l.length cap := by
  rcases h.row.2 with ⟨rfl, h0⟩ | ⟨g, cap, cur, rfl, _⟩
  · rw [h0]; exact ⟨_, _, rfl⟩
  · exact ⟨_, _, rfl⟩
theorem rowS_own {W : World} {n : Nat} {v : Value} {l : List (Int × Int)} (h : W.ownsRow n 48 2 v l.length (l.flatMap encS)) (hl : l.length ≤ 1000000) : RowS W v l := by
  refine ⟨hl, ?_⟩
  rcases h.2 with ⟨rfl, h0⟩ | ⟨g, cap, cur, rfl, _, hg, _, _, _, ht⟩
  · have : l = [] := List.length_eq_zero_iff.1 h0
    subst this
    exact ⟨(fun n c h => by cases h; rfl), _, _, rfl, fun j h => by simp at h⟩
  · refine ⟨(fun n c h => by cases h), _, _, rfl, fun j hlt => ⟨g, 0, rfl, ?_, ?_⟩⟩
    · have e : (cur.toList.take (l.length * 2))[j * 2]? = some (.int .i64 (l.getD j (0, 0)).1) := by rw [ht]; exact (flatS_get l j hlt).1
      rw [List.getElem?_take_of_lt (by omega)] at e
      simp only [World.cell?, hg]
      simpa using e
    · have e : (cur.toList.take (l.length * 2))[j * 2 + 1]? = some (.int .i64 (l.getD j (0, 0)).2) := by rw [ht]; exact (flatS_get l j hlt).2
      rw [List.getElem?_take_of_lt (by omega)] at e
      simp only [World.cell?, hg]
      simpa using e
theorem OwnS.rowS {w W : World} {v : Value} {l : List (Int × Int)} (h : OwnS w v l W) (hl : l.length ≤ 1000000) : RowS W v l := rowS_own h.row hl
theorem OwnS.next {w wr w1 : World} {v : Value} {l : List (Int × Int)} (h : OwnS w v l wr) (hb : Below wr.heap.size wr w1) : OwnS w v l w1 := by
  refine ⟨h.row.kept ⟨hb.os, hb.tape, hb.output, hb.size, fun k hk _ => hb.block k hk⟩ (row := none) ?_, h.below.trans (hb.mono h.below.size)⟩
  rcases h.row.2 with ⟨rfl, _⟩ | ⟨g, cap, cur, rfl, _⟩
  · exact .inl rfl
  · exact .inr (by simp [Value.ownBlock])
theorem OwnS.base {w V wr : World} {v : Value} {l : List (Int × Int)} (h : OwnS V v l wr) (hb : Below w.heap.size w V) : OwnS w v l wr := ⟨ownsRow_base h.row hb.size, hb.trans (h.below.mono hb.size)⟩
theorem OwnS.step {w wr w1 : World} {v v' : Value} {l : List (Int × Int)} {o : Obj} {x : Int × Int} (h : OwnS w v l wr)
    (hown : w1.ownsRow w.heap.size 48 2 v' (l.length + 1) (l.flatMap encS ++ [.int .i64 x.1, .int .i64 x.2])) (hg : (wr.alloc o).grownBy w1 v.ownBlock) : OwnS w v' (l ++ [x]) w1 := by
  have hs := h.below.size
  refine ⟨by rw [List.flatMap_append]; simpa [encS] using hown, (h.below.alloc hs o).grown hg (by simp; omega) (fun k hk => (h.row.lt k hk).1)⟩

/-- a slice of edges, in a block behind the first n -/
def RowE (n : Nat) (W : World) (v : Value) (l : List (Int × Int × Int)) : Prop := l.length ≤ 1000000 ∧ ∃ A cap, v = .slice A l.length cap ∧ ∀ j, j < l.length → ∃ b o, A = some ⟨b, o, none⟩ ∧ (n ≤ b ∧ ∃ c f, W.heap[b]? = some (.cells c 162 f)) ∧ W.cell? ⟨b, o + j * 3, none⟩ = some (.int .i64 (l.getD j (0, 0, 0)).1) ∧ W.cell? ⟨b, o + j * 3 + 1, none⟩ = some (.int .i64 (l.getD j (0, 0, 0)).2.1) ∧ W.cell? ⟨b, o + j * 3 + 2, none⟩ = some (.int .i64 (l.getD j (0, 0, 0)).2.2)
theorem RowE.len {n : Nat} {W : World} {v : Value} {l : List (Int × Int × Int)} (h : RowE n W v l) : ∃ A cap, v = .slice A l.length cap := by obtain ⟨_, A, cap, e, _⟩ := h; exact ⟨A, cap, e⟩

theorem isnan_any (x : Int) (w : World) : Calls Tryz.prog 167 #[.int .i64 x] w fun e w' => e = .returned (.bool false) ∧ w = w' := by
  go_enter Tryz.func167, Tryz.ntmps167
  go_wp2_with fail
  go_ret
  exact ⟨by simp, rfl⟩
theorem cmp_any (x y : Int) (w : World) : Calls Tryz.prog 154 #[.int .i64 x, .int .i64 y] w fun e w' => e = .returned (.int .i64 (Lib.compareInt x y)) ∧ w = w' := by
  obtain ⟨r, hr⟩ : ∃ r, Lib.compareInt x y = r := ⟨_, rfl⟩
  rw [hr]
  unfold Lib.compareInt at hr
  have NX := Lib.hid (isnan_any x)
  have NY := Lib.hid (isnan_any y)
  by_cases a : x < y
  · have a1 : decide (x < y) = true := decide_eq_true a
    have R : Hid (r = -1) := Lib.hid (by rw [← hr]; simp [a])
    clear a hr
    go_enter Tryz.func154, Tryz.ntmps154
    go_wp2_with fail
    refine (NX.out _).mono ?_
    rintro e V ⟨rfl, rfl⟩
    go_wp2_with fail
    refine (NY.out _).mono ?_
    rintro e V ⟨rfl, rfl⟩
    go_wp2_with fail
    go_ret
    exact ⟨ret_int R.out.symm, rfl⟩
  · have a1 : decide (x < y) = false := decide_eq_false a
    by_cases b : y < x
    · have b1 : decide (y < x) = true := decide_eq_true b
      have R : Hid (r = 1) := Lib.hid (by rw [← hr]; simp [a, b])
      clear a b hr
      go_enter Tryz.func154, Tryz.ntmps154
      go_wp2_with fail
      refine (NX.out _).mono ?_
      rintro e V ⟨rfl, rfl⟩
      go_wp2_with fail
      refine (NY.out _).mono ?_
      rintro e V ⟨rfl, rfl⟩
      go_wp2_with fail
      go_ret
      exact ⟨ret_int R.out.symm, rfl⟩
    · have b1 : decide (y < x) = false := decide_eq_false b
      have R : Hid (r = 0) := Lib.hid (by rw [← hr]; simp [a, b])
      clear a b hr
      go_enter Tryz.func154, Tryz.ntmps154
      go_wp2_with fail
      refine (NX.out _).mono ?_
      rintro e V ⟨rfl, rfl⟩
      go_wp2_with fail
      refine (NY.out _).mono ?_
      rintro e V ⟨rfl, rfl⟩
      go_wp2_with fail
      go_ret
      exact ⟨ret_int R.out.symm, rfl⟩
/-- the closure that compares two edges -/
theorem ecmp_any (x y : Int × Int × Int) (W : World) : Calls Tryz.prog 153 #[.agg #[.int .i64 x.1, .int .i64 x.2.1, .int .i64 x.2.2], .agg #[.int .i64 y.1, .int .i64 y.2.1, .int .i64 y.2.2]] W fun e w' => e = .returned (.int .i64 (Lib.compareInt x.1 y.1)) ∧ ∃ q os', w' = Sort.grow (W.drewN q) os' := by
  have hcon := Lib.hid (cmp_any x.1 y.1)
  generalize Lib.compareInt x.1 y.1 = r at hcon ⊢
  go_enter Tryz.func153, Tryz.ntmps153
  go_wp2_with fail
  refine (hcon.out _).mono ?_
  rintro e V ⟨rfl, rfl⟩
  go_wp2_with fail
  go_ret
  exact ⟨rfl, 0, _, by rw [Sort.alloc_eq_grow, Sort.alloc_eq_grow, Sort.grow_grow]; rfl⟩
theorem ltE (x y : Int × Int × Int) : ltOf (fun x y : Int × Int × Int => Lib.compareInt x.1 y.1) x y = decide (x.1 < y.1) := by
  unfold ltOf Lib.compareInt
  by_cases h1 : x.1 < y.1
  · simp [h1]
  · by_cases h2 : y.1 < x.1 <;> simp [h1, h2]
theorem swoE : Sort.SWO (ltOf fun x y : Int × Int × Int => Lib.compareInt x.1 y.1) where
  irrefl x := by rw [ltE]; simp
  trans x y z h1 h2 := by rw [ltE] at *; simp at *; omega
  ntrans x y z h1 h2 := by rw [ltE] at *; simp at *; omega
theorem below_put {n g : Nat} (hg : n ≤ g) (W : World) (hs : g < W.heap.size) (q : Nat) (d : Array (Int × Int × Int)) (os : Array Obj) : Below n W (sortWorldK encE 3 W g 0 q d os) := by
  unfold sortWorldK Sort.grow Sort.putRowK Sort.putRow Sort.mapBlock Sort.ahead
  refine ⟨rfl, rfl, rfl, by simp, fun k hk => ?_⟩
  simp only
  have l : k < (W.heap.modify g (Sort.onCells (Sort.putCells id 0 (Sort.flatK encE 3 d)))).size := by rw [Array.size_modify]; omega
  rw [Array.getElem?_append_left l, Array.getElem?_modify, if_neg (by omega)]

/-- slices.SortFunc at a row of edges of the call's own -/
theorem sort_any (n0 : Nat) (v : Value) (E : List (Int × Int × Int)) (W : World) (h1 : 0 < E.length) (hl : E.length ≤ 1000000) (hown : W.ownsRow n0 162 3 v E.length (E.flatMap encE)) :
    Calls Tryz.prog 152 #[v, .func (.func 153) #[] #[]] W fun e w' => e = .returned (.tuple #[]) ∧ ∃ E', E'.Perm E ∧ Bk.Srt E' ∧ RowE n0 w' v E' ∧ Below n0 W w' := by
  rcases hown.2 with ⟨_, h0⟩ | ⟨g, cap, cur, rfl, hb, hg, _, _, hcs, ht⟩
  · omega
  have gl : g < W.heap.size := (Array.getElem?_eq_some_iff.1 hg).1
  have eg : ∀ args w, (callFunc 153 args).run Tryz.prog w = .ok (.enter 153 args) w := enters_of Tryz.func153 (by kernel_rfl) rfl
  have HH : Sort.HoldsK encE 3 W g 0 E.toArray := by
    intro j hj
    rw [Sort.size_flatK, List.size_toArray] at hj
    rw [Sort.get_flatK encE 3 E.toArray j (by rw [List.size_toArray]; exact hj)]
    have e : (cur.toList.take (E.length * 3))[j]? = some ((encE (E.getD (j / 3) default))[j % 3]!) := by rw [ht]; exact flatE_get E j hj
    rw [List.getElem?_take_of_lt hj] at e
    have e2 : E.toArray[j / 3]! = E.getD (j / 3) default := by simp
    rw [e2]
    constructor
    · simp only [World.cell?, hg]
      simpa using e
    · simp [World.frozen?, hg]
  have hcon := AnyQ.slices_SortFunc Tryz.sortEdges 3 Tryz.isAgg162 Tryz.sizeOf162 encE (fun _ => rfl) (fun x v hv => by simp [encE] at hv; rcases hv with rfl | rfl | rfl <;> rfl) (fun x y => Lib.compareInt x.1 y.1) swoE 153 #[] g 0 cap E.toArray W eg
    (fun _ _ _ _ x y => ecmp_any x y _) HH gl (by rw [List.size_toArray]; omega)
  rw [List.size_toArray] at hcon
  refine hcon.mono ?_
  rintro e w' ⟨rfl, d', q, os, hp, hs, rfl⟩
  obtain ⟨p0, _, p3⟩ := hp
  have p1 : d'.size = E.length := by simpa using p0
  clear p0
  refine ⟨rfl, d'.toList, ?_, ?_, ?_, below_put hb W gl q d' os⟩
  · have a : d'.extract 0 E.length = d' := by rw [← p1]; simp
    have b : E.toArray.extract 0 E.length = E.toArray := by simp
    rw [a, b] at p3
    simpa using p3
  · unfold Bk.Srt
    rw [List.pairwise_iff_getElem]
    intro i j hi hj hij
    rw [Array.length_toList, p1] at hi hj
    have := hs i j (Nat.zero_le _) hij hj
    rw [ltE, decide_eq_false_iff_not, getElem!_pos d' j (by omega), getElem!_pos d' i (by omega)] at this
    simp only [Array.getElem_toList]
    omega
  · have HK : Sort.HoldsK encE 3 (sortWorldK encE 3 W g 0 q d' os) g 0 d' := Sort.holdsK_grow encE 3 _ os g 0 d' (by simpa [Sort.putRowK, Sort.putRow, Sort.mapBlock, Sort.ahead] using gl) (Sort.holdsK_putRowK encE 3 _ g 0 E.toArray d' (Sort.holdsK_ahead encE 3 W q g 0 _ HH) (by simpa using p1))
    have e : d'.toList.length = E.length := by rw [Array.length_toList, p1]
    have hblk : ∃ c f, (sortWorldK encE 3 W g 0 q d' os).heap[g]? = some (.cells c 162 f) := by
      unfold sortWorldK Sort.grow Sort.putRowK Sort.putRow Sort.mapBlock Sort.ahead
      simp only
      rw [Array.getElem?_append_left (by rw [Array.size_modify]; exact gl), Array.getElem?_modify, if_pos rfl, hg]
      exact ⟨_, _, rfl⟩
    refine ⟨by omega, some ⟨g, 0, none⟩, cap, by rw [e], fun j hj => ⟨g, 0, rfl, ⟨hb, hblk⟩, ?_⟩⟩
    rw [Array.length_toList] at hj
    have c0 := (HK.cell (i := j) (c := 0) hj (by omega)).1
    have c1 := (HK.cell (i := j) (c := 1) hj (by omega)).1
    have c2 := (HK.cell (i := j) (c := 2) hj (by omega)).1
    have ed : d'[j]! = d'.toList.getD j (0, 0, 0) := by rw [getElem!_pos d' j hj]; simp [hj]
    rw [ed] at c0 c1 c2
    exact ⟨c0, c1, c2⟩
end Go.Proofs.YtljackjcgfaanaaGreatDoor.Bo
