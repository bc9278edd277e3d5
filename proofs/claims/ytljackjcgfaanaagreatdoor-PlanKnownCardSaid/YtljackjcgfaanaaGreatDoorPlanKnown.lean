/- PlanKnown returns true: the examples of the chapter, and what is not valid. Condition: the program's tables start as its text lays them (tied). -/
import Derived.Test.YtljackjcgfaanaaGreatDoorPlaArg
import Derived.Test.YtljackjcgfaanaaGreatDoorPlaKn
import Derived.Test.YtljackjcgfaanaaGreatDoorPlaAny
namespace Go.Proofs.YtljackjcgfaanaaGreatDoor.planKnown
open Go.ChangeShapes Go.WideShapes Go.ChangeAt Go.RowKit Go.ChangeMaps

/-- memory that was there is kept, the tables lie -/
structure KC (w W : World) : Prop where
  below : Below w.heap.size w W
  lay : LayM W
theorem KC.next {w W W' : World} (h : KC w W) (hb : Below W.heap.size W W') : KC w W' := ⟨h.below.trans (hb.mono h.below.size), h.lay.below hb⟩
theorem KC.alloc {w W : World} (h : KC w W) (o : Obj) : KC w (W.alloc o) := h.next ((Below.refl _ _).alloc (Nat.le_refl _) o)
theorem KC.drew {w W : World} (h : KC w W) : KC w W.drew := h.next (Below.refl _ _).drew
theorem below_new (W : World) (o : Obj) : Below W.heap.size W (W.alloc o) := (Below.refl _ _).alloc (Nat.le_refl _) o
/-- a plan as a value -/
def PlS (W : World) (v : Value) (q : Pl.P) : Prop := ∃ u, v = .agg #[.int .i64 q.k, .int .u64 q.x.a0, .int .u64 q.x.a1, .int .u64 q.x.a2, .int .u64 q.x.a3, .int .u64 q.x.a4, .int .u64 q.x.a5, .bool q.x.b3, .bool q.x.b5, .int .i64 q.z, .int .i64 q.s, .int .i64 q.p, .int .i64 q.c, u] ∧ Bo.RowS W u q.l
theorem PlS.next {W W' : World} {v : Value} {q : Pl.P} (h : PlS W v q) (hb : Below W.heap.size W W') : PlS W' v q := by
  obtain ⟨u, e, r⟩ := h
  exact ⟨u, e, r.below hb⟩
/-- the eleven plans, the seventh and the eighth to be told -/
def WL (p6 p7 : Pl.P) (u0 u1 u2 u3 u4 u5 u6 u7 u8 u9 u10 : Value) : List (Pl.P × Value) := [(Pl.kn0, u0), (Pl.kn1, u1), (Pl.kn2, u2), (Pl.kn3, u3), (Pl.kn4, u4), (Pl.kn5, u5), (p6, u6), (p7, u7), (Pl.kn8, u8), (Pl.kn9, u9), (Pl.kn10, u10)]
def fl (l : List (Pl.P × Value)) : List Value := l.flatMap fun x => plL x.1 x.2
set_option maxRecDepth 100000 in
theorem fl_set (u0 u1 u2 u3 u4 u5 u6 u7 u8 u9 u10 : Value) : ((fl (WL Pl.pD Pl.pD u0 u1 u2 u3 u4 u5 u6 u7 u8 u9 u10)).set 93 (.int .i64 841)).set 108 (.int .i64 1) = fl (WL Pl.kn6 Pl.kn7 u0 u1 u2 u3 u4 u5 u6 u7 u8 u9 u10) := rfl
/-- the eleven plans in a block of the call's own -/
def WR (n : Nat) (W : World) (v : Value) : Prop := ∃ (B : Nat) (Wp : World) (u0 u1 u2 u3 u4 u5 u6 u7 u8 u9 u10 : Value), v = .slice (some ⟨B, 0, none⟩) 11 11 ∧ n ≤ B ∧ Wp.heap.size ≤ B ∧ Below Wp.heap.size Wp W ∧ Row W B 29 (fl (WL Pl.pD Pl.pD u0 u1 u2 u3 u4 u5 u6 u7 u8 u9 u10)) ∧ ∀ x ∈ WL Pl.pD Pl.pD u0 u1 u2 u3 u4 u5 u6 u7 u8 u9 u10, Bo.RowS Wp x.2 x.1.l
theorem WR.next {n : Nat} {W W' : World} {v : Value} (h : WR n W v) (hb : Below W.heap.size W W') : WR n W' v := by
  obtain ⟨B, Wp, u0, u1, u2, u3, u4, u5, u6, u7, u8, u9, u10, e, hn, hp, hpb, r, hs⟩ := h
  exact ⟨B, Wp, u0, u1, u2, u3, u4, u5, u6, u7, u8, u9, u10, e, hn, hp, hpb.trans (hb.mono hpb.size), r.below hb, hs⟩
theorem WR.made {n : Nat} {W : World} (hn : n ≤ W.heap.size) {u0 u1 u2 u3 u4 u5 u6 u7 u8 u9 u10 : Value} (s0 : Bo.RowS W u0 Pl.kn0.l) (s1 : Bo.RowS W u1 Pl.kn1.l) (s2 : Bo.RowS W u2 Pl.kn2.l) (s3 : Bo.RowS W u3 Pl.kn3.l) (s4 : Bo.RowS W u4 Pl.kn4.l) (s5 : Bo.RowS W u5 Pl.kn5.l) (s6 : Bo.RowS W u6 Pl.pD.l) (s7 : Bo.RowS W u7 Pl.pD.l) (s8 : Bo.RowS W u8 Pl.kn8.l) (s9 : Bo.RowS W u9 Pl.kn9.l) (s10 : Bo.RowS W u10 Pl.kn10.l) :
    WR n (W.alloc (.cells #[.int .i64 Pl.kn0.k, .int .u64 Pl.kn0.x.a0, .int .u64 Pl.kn0.x.a1, .int .u64 Pl.kn0.x.a2, .int .u64 Pl.kn0.x.a3, .int .u64 Pl.kn0.x.a4, .int .u64 Pl.kn0.x.a5, .bool Pl.kn0.x.b3, .bool Pl.kn0.x.b5, .int .i64 Pl.kn0.z, .int .i64 Pl.kn0.s, .int .i64 Pl.kn0.p, .int .i64 Pl.kn0.c, u0, .int .i64 Pl.kn1.k, .int .u64 Pl.kn1.x.a0, .int .u64 Pl.kn1.x.a1, .int .u64 Pl.kn1.x.a2, .int .u64 Pl.kn1.x.a3, .int .u64 Pl.kn1.x.a4, .int .u64 Pl.kn1.x.a5, .bool Pl.kn1.x.b3, .bool Pl.kn1.x.b5, .int .i64 Pl.kn1.z, .int .i64 Pl.kn1.s, .int .i64 Pl.kn1.p, .int .i64 Pl.kn1.c, u1, .int .i64 Pl.kn2.k, .int .u64 Pl.kn2.x.a0, .int .u64 Pl.kn2.x.a1, .int .u64 Pl.kn2.x.a2, .int .u64 Pl.kn2.x.a3, .int .u64 Pl.kn2.x.a4, .int .u64 Pl.kn2.x.a5, .bool Pl.kn2.x.b3, .bool Pl.kn2.x.b5, .int .i64 Pl.kn2.z, .int .i64 Pl.kn2.s, .int .i64 Pl.kn2.p, .int .i64 Pl.kn2.c, u2, .int .i64 Pl.kn3.k, .int .u64 Pl.kn3.x.a0, .int .u64 Pl.kn3.x.a1, .int .u64 Pl.kn3.x.a2, .int .u64 Pl.kn3.x.a3, .int .u64 Pl.kn3.x.a4, .int .u64 Pl.kn3.x.a5, .bool Pl.kn3.x.b3, .bool Pl.kn3.x.b5, .int .i64 Pl.kn3.z, .int .i64 Pl.kn3.s, .int .i64 Pl.kn3.p, .int .i64 Pl.kn3.c, u3, .int .i64 Pl.kn4.k, .int .u64 Pl.kn4.x.a0, .int .u64 Pl.kn4.x.a1, .int .u64 Pl.kn4.x.a2, .int .u64 Pl.kn4.x.a3, .int .u64 Pl.kn4.x.a4, .int .u64 Pl.kn4.x.a5, .bool Pl.kn4.x.b3, .bool Pl.kn4.x.b5, .int .i64 Pl.kn4.z, .int .i64 Pl.kn4.s, .int .i64 Pl.kn4.p, .int .i64 Pl.kn4.c, u4, .int .i64 Pl.kn5.k, .int .u64 Pl.kn5.x.a0, .int .u64 Pl.kn5.x.a1, .int .u64 Pl.kn5.x.a2, .int .u64 Pl.kn5.x.a3, .int .u64 Pl.kn5.x.a4, .int .u64 Pl.kn5.x.a5, .bool Pl.kn5.x.b3, .bool Pl.kn5.x.b5, .int .i64 Pl.kn5.z, .int .i64 Pl.kn5.s, .int .i64 Pl.kn5.p, .int .i64 Pl.kn5.c, u5, .int .i64 Pl.pD.k, .int .u64 Pl.pD.x.a0, .int .u64 Pl.pD.x.a1, .int .u64 Pl.pD.x.a2, .int .u64 Pl.pD.x.a3, .int .u64 Pl.pD.x.a4, .int .u64 Pl.pD.x.a5, .bool Pl.pD.x.b3, .bool Pl.pD.x.b5, .int .i64 Pl.pD.z, .int .i64 Pl.pD.s, .int .i64 Pl.pD.p, .int .i64 Pl.pD.c, u6, .int .i64 Pl.pD.k, .int .u64 Pl.pD.x.a0, .int .u64 Pl.pD.x.a1, .int .u64 Pl.pD.x.a2, .int .u64 Pl.pD.x.a3, .int .u64 Pl.pD.x.a4, .int .u64 Pl.pD.x.a5, .bool Pl.pD.x.b3, .bool Pl.pD.x.b5, .int .i64 Pl.pD.z, .int .i64 Pl.pD.s, .int .i64 Pl.pD.p, .int .i64 Pl.pD.c, u7, .int .i64 Pl.kn8.k, .int .u64 Pl.kn8.x.a0, .int .u64 Pl.kn8.x.a1, .int .u64 Pl.kn8.x.a2, .int .u64 Pl.kn8.x.a3, .int .u64 Pl.kn8.x.a4, .int .u64 Pl.kn8.x.a5, .bool Pl.kn8.x.b3, .bool Pl.kn8.x.b5, .int .i64 Pl.kn8.z, .int .i64 Pl.kn8.s, .int .i64 Pl.kn8.p, .int .i64 Pl.kn8.c, u8, .int .i64 Pl.kn9.k, .int .u64 Pl.kn9.x.a0, .int .u64 Pl.kn9.x.a1, .int .u64 Pl.kn9.x.a2, .int .u64 Pl.kn9.x.a3, .int .u64 Pl.kn9.x.a4, .int .u64 Pl.kn9.x.a5, .bool Pl.kn9.x.b3, .bool Pl.kn9.x.b5, .int .i64 Pl.kn9.z, .int .i64 Pl.kn9.s, .int .i64 Pl.kn9.p, .int .i64 Pl.kn9.c, u9, .int .i64 Pl.kn10.k, .int .u64 Pl.kn10.x.a0, .int .u64 Pl.kn10.x.a1, .int .u64 Pl.kn10.x.a2, .int .u64 Pl.kn10.x.a3, .int .u64 Pl.kn10.x.a4, .int .u64 Pl.kn10.x.a5, .bool Pl.kn10.x.b3, .bool Pl.kn10.x.b5, .int .i64 Pl.kn10.z, .int .i64 Pl.kn10.s, .int .i64 Pl.kn10.p, .int .i64 Pl.kn10.c, u10] 29)) (.slice (some ⟨W.heap.size, 0, none⟩) 11 11) := by
  refine ⟨W.heap.size, W, u0, u1, u2, u3, u4, u5, u6, u7, u8, u9, u10, rfl, hn, Nat.le_refl _, below_new _ _, Row.new W (fl (WL Pl.pD Pl.pD u0 u1 u2 u3 u4 u5 u6 u7 u8 u9 u10)) _, fun x hx => ?_⟩
  unfold WL at hx
  simp only [List.mem_cons, List.not_mem_nil, or_false] at hx
  rcases hx with rfl | rfl | rfl | rfl | rfl | rfl | rfl | rfl | rfl | rfl | rfl
  · exact s0
  · exact s1
  · exact s2
  · exact s3
  · exact s4
  · exact s5
  · exact s6
  · exact s7
  · exact s8
  · exact s9
  · exact s10
/-- a row of plans in a block that is known -/
theorem rowP_row {W : World} {B : Nat} {l : List (Pl.P × Value)} (h : Row W B 29 (fl l)) (n c : Nat) (hn : n = l.length) (hl : l.length ≤ 1000000) (hs : ∀ x ∈ l, Bo.RowS W x.2 x.1.l ∧ x.1.x.Bd) : RowP W (.slice (some ⟨B, 0, none⟩) n c) l := by
  subst hn
  refine ⟨hl, _, _, rfl, fun j hj => ⟨B, 0, rfl, fun i c hic => ?_, ?_⟩⟩
  · rw [Nat.zero_add, h.cell]
    exact flatP_get l j i c hj hic
  · have hm : l.getD j (Pl.pZ, .nilFunc) ∈ l := by rw [List.getD_eq_getElem?_getD, List.getElem?_eq_getElem hj]; exact List.getElem_mem _
    exact hs _ hm
theorem bd6 : Pl.kn6.x.Bd := bdD
theorem WL_bd {u0 u1 u2 u3 u4 u5 u6 u7 u8 u9 u10 : Value} : ∀ x ∈ WL Pl.kn6 Pl.kn7 u0 u1 u2 u3 u4 u5 u6 u7 u8 u9 u10, x.1.x.Bd := by
  intro x hx
  unfold WL at hx
  simp only [List.mem_cons, List.not_mem_nil, or_false] at hx
  rcases hx with rfl | rfl | rfl | rfl | rfl | rfl | rfl | rfl | rfl | rfl | rfl
  · exact bd0
  · exact bd0
  · exact bd0
  · exact bd0
  · exact bd0
  · exact bd0
  · exact bdD
  · exact bdD
  · exact bd0
  · exact bd0
  · exact bd0
theorem WL_no {u0 u1 u2 u3 u4 u5 u6 u7 u8 u9 u10 : Value} : ∀ k, k < 11 → ¬ ((WL Pl.kn6 Pl.kn7 u0 u1 u2 u3 u4 u5 u6 u7 u8 u9 u10).getD k (Pl.pZ, .nilFunc)).1.Ok
  | 0, _ => Pl.no0
  | 1, _ => Pl.no1
  | 2, _ => Pl.no2
  | 3, _ => Pl.no3
  | 4, _ => Pl.no4
  | 5, _ => Pl.no5
  | 6, _ => Pl.no6
  | 7, _ => Pl.no7
  | 8, _ => Pl.no8
  | 9, _ => Pl.no9
  | 10, _ => Pl.no10
  | k + 11, h => by omega
theorem WL_sp {W : World} {u0 u1 u2 u3 u4 u5 u6 u7 u8 u9 u10 : Value} (h : ∀ x ∈ WL Pl.pD Pl.pD u0 u1 u2 u3 u4 u5 u6 u7 u8 u9 u10, Bo.RowS W x.2 x.1.l) : ∀ x ∈ WL Pl.kn6 Pl.kn7 u0 u1 u2 u3 u4 u5 u6 u7 u8 u9 u10, Bo.RowS W x.2 x.1.l := by
  intro x hx
  unfold WL at hx
  simp only [List.mem_cons, List.not_mem_nil, or_false] at hx
  rcases hx with rfl | rfl | rfl | rfl | rfl | rfl | rfl | rfl | rfl | rfl | rfl
  · exact h (Pl.kn0, u0) (by simp [WL])
  · exact h (Pl.kn1, u1) (by simp [WL])
  · exact h (Pl.kn2, u2) (by simp [WL])
  · exact h (Pl.kn3, u3) (by simp [WL])
  · exact h (Pl.kn4, u4) (by simp [WL])
  · exact h (Pl.kn5, u5) (by simp [WL])
  · exact h (Pl.pD, u6) (by simp [WL])
  · exact h (Pl.pD, u7) (by simp [WL])
  · exact h (Pl.kn8, u8) (by simp [WL])
  · exact h (Pl.kn9, u9) (by simp [WL])
  · exact h (Pl.kn10, u10) (by simp [WL])
/-- the plans behind the two stores, the tables -/
structure KR (w : World) (B : Nat) (l : List (Pl.P × Value)) (W : World) : Prop where
  kc : KC w W
  rows : RowP W (.slice (some ⟨B, 0, none⟩) 11 11) l
theorem KR.next {w W W' : World} {B : Nat} {l : List (Pl.P × Value)} (h : KR w B l W) (hb : Below W.heap.size W W') : KR w B l W' := ⟨h.kc.next hb, h.rows.below hb⟩
theorem KR.drew {w W : World} {B : Nat} {l : List (Pl.P × Value)} (h : KR w B l W) : KR w B l W.drew := h.next (Below.refl _ _).drew
theorem KR.alloc {w W : World} {B : Nat} {l : List (Pl.P × Value)} (h : KR w B l W) (o : Obj) : KR w B l (W.alloc o) := h.next (below_new _ _)
theorem KR.at {w W : World} {B : Nat} {l : List (Pl.P × Value)} (h : KR w B l W) {k : Nat} (hk : k < l.length) {q : Pl.P} {v : Value} (hq : l.getD k (Pl.pZ, .nilFunc) = (q, v)) : (W.cell? ⟨B, k * 14, none⟩ = some (.int .i64 q.k) ∧ W.cell? ⟨B, k * 14 + 1, none⟩ = some (.int .u64 q.x.a0) ∧ W.cell? ⟨B, k * 14 + 2, none⟩ = some (.int .u64 q.x.a1) ∧ W.cell? ⟨B, k * 14 + 3, none⟩ = some (.int .u64 q.x.a2) ∧ W.cell? ⟨B, k * 14 + 4, none⟩ = some (.int .u64 q.x.a3) ∧ W.cell? ⟨B, k * 14 + 5, none⟩ = some (.int .u64 q.x.a4) ∧ W.cell? ⟨B, k * 14 + 6, none⟩ = some (.int .u64 q.x.a5) ∧ W.cell? ⟨B, k * 14 + 7, none⟩ = some (.bool q.x.b3) ∧ W.cell? ⟨B, k * 14 + 8, none⟩ = some (.bool q.x.b5) ∧ W.cell? ⟨B, k * 14 + 9, none⟩ = some (.int .i64 q.z) ∧ W.cell? ⟨B, k * 14 + 10, none⟩ = some (.int .i64 q.s) ∧ W.cell? ⟨B, k * 14 + 11, none⟩ = some (.int .i64 q.p) ∧ W.cell? ⟨B, k * 14 + 12, none⟩ = some (.int .i64 q.c) ∧ W.cell? ⟨B, k * 14 + 13, none⟩ = some (v)) ∧ Bo.RowS W v q.l ∧ q.x.Bd := by
  obtain ⟨b, o, e, cc, s, x⟩ := h.rows.at hk hq
  cases e
  simp only [Nat.zero_add] at cc
  exact ⟨cc, s, x⟩
theorem KR.made {w W Wp : World} {B : Nat} {u0 u1 u2 u3 u4 u5 u6 u7 u8 u9 u10 : Value} (h : KC w W) (L : LayM w) (hB : w.heap.size ≤ B) (hp : Wp.heap.size ≤ B) (hb : Below Wp.heap.size Wp W) (r : Row W B 29 (fl (WL Pl.pD Pl.pD u0 u1 u2 u3 u4 u5 u6 u7 u8 u9 u10))) (hs : ∀ x ∈ WL Pl.pD Pl.pD u0 u1 u2 u3 u4 u5 u6 u7 u8 u9 u10, Bo.RowS Wp x.2 x.1.l) :
    KR w B (WL Pl.kn6 Pl.kn7 u0 u1 u2 u3 u4 u5 u6 u7 u8 u9 u10) ((W.setCell ⟨B, 93, none⟩ (.int .i64 841)).setCell ⟨B, 108, none⟩ (.int .i64 1)) := by
  have b1 := (h.below.setCell (p := ⟨B, 93, none⟩) hB (.int .i64 841)).setCell (p := ⟨B, 108, none⟩) hB (.int .i64 1)
  have b2 := (hb.setCell (p := ⟨B, 93, none⟩) hp (.int .i64 841)).setCell (p := ⟨B, 108, none⟩) hp (.int .i64 1)
  refine ⟨⟨b1, L.below b1⟩, rowP_row ?_ 11 11 rfl (by unfold WL; simp) (fun x hx => ⟨(WL_sp hs x hx).below b2, WL_bd x hx⟩)⟩
  have := (r.set 93 (.int .i64 841)).set 108 (.int .i64 1)
  rwa [fl_set] at this
/-- 65 spans of zeros, made -/
theorem z65_row (W : World) : Bo.RowS (W.alloc (.cells (madeCells #[.int .i64 0, .int .i64 0] 130) 48)) (.slice (some ⟨W.heap.size, 0, none⟩) 65 65) Pl.z65 := by
  refine ⟨by simp [Pl.z65], (fun n c h => by cases h), some ⟨W.heap.size, 0, none⟩, 65, by simp [Pl.z65], fun j hj => ⟨W.heap.size, 0, rfl, ?_⟩⟩
  have hj' : j < 65 := by simpa [Pl.z65] using hj
  have e : Pl.z65.getD j (0, 0) = (0, 0) := by unfold Pl.z65; rw [List.getD_eq_getElem?_getD, List.getElem?_replicate]; simp [hj']
  have c : ∀ i, i < 130 → (W.alloc (.cells (madeCells #[.int .i64 0, .int .i64 0] 130) 48)).cell? ⟨W.heap.size, i, none⟩ = some (.int .i64 0) := fun i hi => by
    have hw : (W.alloc (.cells (madeCells #[.int .i64 0, .int .i64 0] 130) 48)).heap[W.heap.size]? = some (.cells (madeCells #[.int .i64 0, .int .i64 0] 130) 48) := heap_alloc_new W _
    have : i % 2 = 0 ∨ i % 2 = 1 := by omega
    simp only [World.cell?, hw]
    rcases this with k | k <;> simp [madeCells, hi, k]
  rw [e]
  exact ⟨c _ (by omega), c _ (by omega)⟩
theorem mkS65 (W : World) : (Instr.makeSlice 27 (.int .i64 65) (.int .i64 65)).run Tryz.prog W = .ok (.slice (some ⟨W.heap.size, 0, none⟩) 65 65) (W.alloc (.cells (madeCells #[.int .i64 0, .int .i64 0] 130) 48)) := by
  obtain ⟨i0, hi, hz0, hz1, hz2⟩ := info_parts Bo.infoS
  have h := run_make (P := Tryz.prog) W 27 48 i0 (.agg #[.int .i64 0, .int .i64 0]) Tryz.underlying27 hi hz0 .i64 .i64 65 65 (by omega) (by omega) (by rw [hz2]; omega) (by omega)
  rw [hz1] at h
  exact h
/-- plans of zeros, made -/
def zpA (n : Nat) : Array Value := madeCells #[.int .i64 0, .int .u64 0, .int .u64 0, .int .u64 0, .int .u64 0, .int .u64 0, .int .u64 0, .bool false, .bool false, .int .i64 0, .int .i64 0, .int .i64 0, .int .i64 0, .slice none 0 0] (n * 14)
theorem infoP : (Tryz.prog.info? 29).map (fun i => (i.zero, i.size, i.bytes)) = some (some (.agg #[.int .i64 0, .int .u64 0, .int .u64 0, .int .u64 0, .int .u64 0, .int .u64 0, .int .u64 0, .bool false, .bool false, .int .i64 0, .int .i64 0, .int .i64 0, .int .i64 0, .slice none 0 0]), 14, 120) := by kernel_rfl
theorem mkP (n : Nat) (hn : n ≤ 1000) (W : World) : (Instr.makeSlice 49 (.int .i64 (n : Int)) (.int .i64 (n : Int))).run Tryz.prog W = .ok (.slice (some ⟨W.heap.size, 0, none⟩) n n) (W.alloc (.cells (zpA n) 29)) := by
  obtain ⟨i0, hi, hz0, hz1, hz2⟩ := info_parts infoP
  have h := run_make (P := Tryz.prog) W 49 29 i0 (.agg #[.int .i64 0, .int .u64 0, .int .u64 0, .int .u64 0, .int .u64 0, .int .u64 0, .int .u64 0, .bool false, .bool false, .int .i64 0, .int .i64 0, .int .i64 0, .int .i64 0, .slice none 0 0]) Tryz.underlying49 hi hz0 .i64 .i64 n n (by omega) (by omega) (by rw [hz2]; omega) (by omega)
  rw [hz1] at h
  exact h
theorem zpA_at {n j i : Nat} (hj : j < n) (hi : i < 14) : (zpA n)[j * 14 + i]? = (plL Pl.pZ (.slice none 0 0))[i]? := by
  have h1 : j * 14 + i < n * 14 := by omega
  have h2 : (j * 14 + i) % 14 = i := by omega
  have : i = 0 ∨ i = 1 ∨ i = 2 ∨ i = 3 ∨ i = 4 ∨ i = 5 ∨ i = 6 ∨ i = 7 ∨ i = 8 ∨ i = 9 ∨ i = 10 ∨ i = 11 ∨ i = 12 ∨ i = 13 := by omega
  rcases this with rfl | rfl | rfl | rfl | rfl | rfl | rfl | rfl | rfl | rfl | rfl | rfl | rfl | rfl <;> (try simp only [Nat.add_zero] at h1 h2) <;> simp [zpA, madeCells, h1, h2, plL, Pl.pZ, Pl.x0]
theorem zp_row (n : Nat) (hn : n ≤ 1000) (W : World) : RowP (W.alloc (.cells (zpA n) 29)) (.slice (some ⟨W.heap.size, 0, none⟩) n n) (List.replicate n (Pl.pZ, .slice none 0 0)) := by
  refine ⟨by simp; omega, some ⟨W.heap.size, 0, none⟩, n, by simp, fun j hj => ⟨W.heap.size, 0, rfl, ?_⟩⟩
  have hj' : j < n := by simpa using hj
  have e : (List.replicate n (Pl.pZ, Value.slice none 0 0)).getD j (Pl.pZ, .nilFunc) = (Pl.pZ, .slice none 0 0) := by rw [List.getD_eq_getElem?_getD, List.getElem?_replicate]; simp [hj']
  rw [e]
  refine ⟨fun i c hc => ?_, Bo.RowS.nil _, bd0⟩
  have hi : i < 14 := (List.getElem?_eq_some_iff.1 hc).1
  have hw : (W.alloc (.cells (zpA n) 29)).heap[W.heap.size]? = some (.cells (zpA n) 29) := heap_alloc_new W _
  simp only [World.cell?, hw, Nat.zero_add]
  rw [zpA_at hj' hi]
  exact hc
def KI (w : World) (u0 u1 u2 u3 u4 u5 u6 u7 u8 u9 u10 u11 u12 u13 u14 u16 u17 u18 u19 u20 u21 u22 u23 u24 u25 u26 u27 u28 u29 u30 u31 u32 u33 u34 u35 u36 u37 u38 u39 u40 u41 u42 u43 u44 u45 u46 u47 u48 u49 u50 u51 u52 u53 u54 u55 u56 u57 u58 u59 u60 u61 u62 u63 u64 u65 u66 u67 u68 u69 u70 u71 u72 u73 u74 u75 u76 u77 u78 u79 u80 u81 u82 u83 u84 u85 u86 u87 u88 u89 u90 u91 u92 u93 u94 u95 u96 u97 u98 u99 u100 u101 u102 u103 u124 u125 u126 u127 u128 u129 u130 u131 u132 u133 u134 u135 u136 u137 u138 u139 u140 u141 u142 u143 u144 u145 u146 u147 u148 u149 u150 u151 u152 u153 u154 u155 u156 u157 u158 u159 u160 u161 u162 u163 u164 u165 u166 u167 u168 u169 u170 u171 u172 u173 u174 u175 u176 u177 u178 u179 u180 u181 u182 u183 u184 u185 u186 u187 u188 u189 u190 u191 u192 u193 u194 u195 u196 u197 u198 u199 u200 u201 u202 u203 u204 u205 u206 u207 u208 u209 u210 : Value) (g : Nat → Bool) (c : Act) (W : World) : Prop := ∃ v15 v104 v105 v106 v107 v108 v109 v110 v111 v112 v113 v114 v115 v116 v117 v118 v119 v120 v121 v122 v123,
  c = { tmps := #[u0, u1, u2, u3, u4, u5, u6, u7, u8, u9, u10, u11, u12, u13, u14, v15, u16, u17, u18, u19, u20, u21, u22, u23, u24, u25, u26, u27, u28, u29, u30, u31, u32, u33, u34, u35, u36, u37, u38, u39, u40, u41, u42, u43, u44, u45, u46, u47, u48, u49, u50, u51, u52, u53, u54, u55, u56, u57, u58, u59, u60, u61, u62, u63, u64, u65, u66, u67, u68, u69, u70, u71, u72, u73, u74, u75, u76, u77, u78, u79, u80, u81, u82, u83, u84, u85, u86, u87, u88, u89, u90, u91, u92, u93, u94, u95, u96, u97, u98, u99, u100, u101, u102, u103, v104, v105, v106, v107, v108, v109, v110, v111, v112, v113, v114, v115, v116, v117, v118, v119, v120, v121, v122, v123, u124, u125, u126, u127, u128, u129, u130, u131, u132, u133, u134, u135, u136, u137, u138, u139, u140, u141, u142, u143, u144, u145, u146, u147, u148, u149, u150, u151, u152, u153, u154, u155, u156, u157, u158, u159, u160, u161, u162, u163, u164, u165, u166, u167, u168, u169, u170, u171, u172, u173, u174, u175, u176, u177, u178, u179, u180, u181, u182, u183, u184, u185, u186, u187, u188, u189, u190, u191, u192, u193, u194, u195, u196, u197, u198, u199, u200, u201, u202, u203, u204, u205, u206, u207, u208, u209, u210], defers := [] } ∧ KC w W ∧ (g 0 = true → PlS W v104 Pl.kn0) ∧ (g 1 = true → PlS W v105 Pl.kn1) ∧ (g 2 = true → v106 = .agg #[.int .i64 0, .int .i64 0]) ∧ (g 3 = true → Bo.RowS W v107 [(0, 0)]) ∧ (g 4 = true → PlS W v108 Pl.kn2) ∧ (g 5 = true → v109 = .agg #[.int .i64 0, .int .i64 1, .int .i64 0]) ∧ (g 6 = true → PlS W v110 Pl.kn3) ∧ (g 7 = true → PlS W v111 Pl.kn4) ∧ (g 8 = true → PlS W v112 Pl.kn5) ∧ (g 9 = true → PlS W v113 Pl.pD) ∧ (g 10 = true → PlS W v114 Pl.pD) ∧ (g 11 = true → v115 = .agg #[.int .i64 2, .int .i64 1]) ∧ (g 12 = true → Bo.RowS W v116 [(2, 1)]) ∧ (g 13 = true → PlS W v117 Pl.kn8) ∧ (g 14 = true → Bo.RowS W v118 Pl.z65) ∧ (g 15 = true → PlS W v119 Pl.kn9) ∧ (g 16 = true → v120 = .agg #[.int .i64 (-1), .int .i64 1]) ∧ (g 17 = true → Bo.RowS W v121 [(-1, 1)]) ∧ (g 18 = true → PlS W v122 Pl.kn10) ∧ (g 19 = true → WR w.heap.size W v123) ∧ (g 20 = true → WR w.heap.size W v15)
set_option linter.unusedSimpArgs false in
set_option maxRecDepth 100000 in
set_option maxHeartbeats 16000000 in
theorem walk (w : World) (L : LayM w) :
    Calls Tryz.prog 12 #[] w fun e w' => e = .returned (.bool true) ∧ Below w.heap.size w w' := by
  have R0 := Lib.hid (Bo.rowS_one w 60 80 1)
  have B0 := Lib.hid ((Below.refl _ w).alloc (Nat.le_refl _) (.cells #[.int .i64 60, .int .i64 80] 48))
  have L0 := Lib.hid (L.alloc (.cells #[.int .i64 60, .int .i64 80] 48))
  have EV := Lib.hid (fun A k c W => ever_any' A k c W)
  have DA := Lib.hid (fun W => daily_any W)
  have WK := Lib.hid (fun W L => works_any W L)
  have NX1 := Lib.hid (fun W (L : LayM W) => (show Calls Tryz.prog 17 #[.agg #[.int .i64 2, .int .u64 0, .int .u64 0, .int .u64 0, .int .u64 0, .int .u64 0, .int .u64 0, .bool false, .bool false, .int .i64 0, .int .i64 10, .int .i64 60, .int .i64 3, .slice none 0 0], .int .i64 0] W fun e w' => e = .returned (.tuple #[.int .i64 10, .bool true, .int .i64 0]) ∧ Below W.heap.size W w' from pnext_any (Pl.pE []) bd0 (.slice none 0 0) 0 10 true 0 Pl.nextE W L (Bo.RowS.nil W)))
  have NX2 := Lib.hid (fun v W (L : LayM W) (h : Bo.RowS W v [(60, 80)]) => (show Calls Tryz.prog 17 #[.agg #[.int .i64 2, .int .u64 0, .int .u64 0, .int .u64 0, .int .u64 0, .int .u64 0, .int .u64 0, .bool false, .bool false, .int .i64 0, .int .i64 10, .int .i64 60, .int .i64 3, v], .int .i64 10] W fun e w' => e = .returned (.tuple #[.int .i64 130, .bool true, .int .i64 0]) ∧ Below W.heap.size W w' from pnext_any (Pl.pE [(60, 80)]) bd0 v 10 130 true 0 Pl.nextS W L h))
  have NX3 := Lib.hid (fun W (L : LayM W) => (show Calls Tryz.prog 17 #[.agg #[.int .i64 2, .int .u64 0, .int .u64 0, .int .u64 0, .int .u64 0, .int .u64 0, .int .u64 0, .bool false, .bool false, .int .i64 0, .int .i64 10, .int .i64 60, .int .i64 3, .slice none 0 0], .int .i64 130] W fun e w' => e = .returned (.tuple #[.int .i64 0, .bool false, .int .i64 0]) ∧ Below W.heap.size W w' from pnext_any (Pl.pE []) bd0 (.slice none 0 0) 130 0 false 0 Pl.nextE0 W L (Bo.RowS.nil W)))
  have IS1 := Lib.hid (fun v W (L : LayM W) (h : Bo.RowS W v [(60, 80)]) => (show Calls Tryz.prog 15 #[.agg #[.int .i64 2, .int .u64 0, .int .u64 0, .int .u64 0, .int .u64 0, .int .u64 0, .int .u64 0, .bool false, .bool false, .int .i64 0, .int .i64 10, .int .i64 60, .int .i64 3, v], .int .i64 70] W fun e w' => e = .returned (.tuple #[.bool false, .int .i64 0]) ∧ Below W.heap.size W w' from pis_any (Pl.pE [(60, 80)]) bd0 v 70 false 0 Pl.isS70 W L h))
  have IS2 := Lib.hid (fun W (L : LayM W) => (show Calls Tryz.prog 15 #[.agg #[.int .i64 2, .int .u64 0, .int .u64 0, .int .u64 0, .int .u64 0, .int .u64 0, .int .u64 0, .bool false, .bool false, .int .i64 0, .int .i64 10, .int .i64 60, .int .i64 3, .slice none 0 0], .int .i64 70] W fun e w' => e = .returned (.tuple #[.bool true, .int .i64 0]) ∧ Below W.heap.size W w' from pis_any (Pl.pE []) bd0 (.slice none 0 0) 70 true 0 Pl.isE70 W L (Bo.RowS.nil W)))
  have LL := Lib.hid L
  clear L
  go_enter Tryz.func12, Tryz.ntmps12
  go_wp2_with fail
  refine (EV.out _ _ _ _).mono ?_
  rintro e w1 ⟨rfl, hb1⟩
  have Q := Lib.hid (show ∃ S, Value.slice (some ⟨w.heap.size, 0, none⟩) 1 1 = S ∧ WC w w1.heap.size S (w1.alloc (.cells #[.int .i64 2, .int .u64 0, .int .u64 0, .int .u64 0, .int .u64 0, .int .u64 0, .int .u64 0, .bool false, .bool false, .int .i64 0, .int .i64 10, .int .i64 60, .int .i64 3, S] 29)) from ⟨_, rfl, (B0.out.trans (hb1.mono B0.out.size)).alloc (B0.out.trans (hb1.mono B0.out.size)).size _, (L0.out.below hb1).alloc _, (R0.out.below hb1).alloc _, Row.new w1 _ _⟩)
  clear hb1
  go_wp2_with fail
  obtain ⟨S, hS, q⟩ := Q.out
  have Q := Lib.hid q
  simp only [hS]
  clear hS q
  refine (EV.out _ _ _ _).mono ?_
  rintro e w2 ⟨rfl, hb⟩
  have Q := Lib.hid (Q.out.next hb)
  clear hb
  go_wp2_with fail
  refine (NX1.out _ Q.out.lay).mono ?_
  rintro e w3 ⟨rfl, hb⟩
  have Q := Lib.hid (Q.out.next hb)
  clear hb
  obtain ⟨c0, c1, c2, c3, c4, c5, c6, c7, c8, c9, c10, c11, c12, c13⟩ := Q.out.cells
  go_wp2_with fail
  refine (NX2.out _ _ Q.out.lay Q.out.sp).mono ?_
  rintro e w4 ⟨rfl, hb⟩
  have Q := Lib.hid (Q.out.next hb)
  clear hb
  clear c0 c1 c2 c3 c4 c5 c6 c7 c8 c9 c10 c11 c12 c13
  obtain ⟨c0, c1, c2, c3, c4, c5, c6, c7, c8, c9, c10, c11, c12, c13⟩ := Q.out.cells
  go_wp2_with fail
  refine (EV.out _ _ _ _).mono ?_
  rintro e w5 ⟨rfl, hb⟩
  have Q := Lib.hid (Q.out.next hb)
  clear hb
  clear c0 c1 c2 c3 c4 c5 c6 c7 c8 c9 c10 c11 c12 c13
  obtain ⟨c0, c1, c2, c3, c4, c5, c6, c7, c8, c9, c10, c11, c12, c13⟩ := Q.out.cells
  go_wp2_with fail
  refine (NX3.out _ Q.out.lay).mono ?_
  rintro e w6 ⟨rfl, hb⟩
  have Q := Lib.hid (Q.out.next hb)
  clear hb
  clear c0 c1 c2 c3 c4 c5 c6 c7 c8 c9 c10 c11 c12 c13
  obtain ⟨c0, c1, c2, c3, c4, c5, c6, c7, c8, c9, c10, c11, c12, c13⟩ := Q.out.cells
  go_wp2_with fail
  refine (IS1.out _ _ Q.out.lay Q.out.sp).mono ?_
  rintro e w7 ⟨rfl, hb⟩
  have Q := Lib.hid (Q.out.next hb)
  clear hb
  clear c0 c1 c2 c3 c4 c5 c6 c7 c8 c9 c10 c11 c12 c13
  obtain ⟨c0, c1, c2, c3, c4, c5, c6, c7, c8, c9, c10, c11, c12, c13⟩ := Q.out.cells
  go_wp2_with fail
  refine (EV.out _ _ _ _).mono ?_
  rintro e w8 ⟨rfl, hb⟩
  have Q := Lib.hid (Q.out.next hb)
  clear hb
  clear c0 c1 c2 c3 c4 c5 c6 c7 c8 c9 c10 c11 c12 c13
  obtain ⟨c0, c1, c2, c3, c4, c5, c6, c7, c8, c9, c10, c11, c12, c13⟩ := Q.out.cells
  go_wp2_with fail
  refine (IS2.out _ Q.out.lay).mono ?_
  rintro e w9 ⟨rfl, hb⟩
  have Q := Lib.hid (Q.out.next hb)
  clear hb
  clear c0 c1 c2 c3 c4 c5 c6 c7 c8 c9 c10 c11 c12 c13
  obtain ⟨c0, c1, c2, c3, c4, c5, c6, c7, c8, c9, c10, c11, c12, c13⟩ := Q.out.cells
  go_wp2_with fail
  have HK : Hid (KC w w9) := Lib.hid ⟨Q.out.below, Q.out.lay⟩
  clear Q c0 c1 c2 c3 c4 c5 c6 c7 c8 c9 c10 c11 c12 c13
  apply wp_region_inv (KI w _ _ _ _ _ _ _ _ _ _ _ _ _ _ _ _ _ _ _ _ _ _ _ _ _ _ _ _ _ _ _ _ _ _ _ _ _ _ _ _ _ _ _ _ _ _ _ _ _ _ _ _ _ _ _ _ _ _ _ _ _ _ _ _ _ _ _ _ _ _ _ _ _ _ _ _ _ _ _ _ _ _ _ _ _ _ _ _ _ _ _ _ _ _ _ _ _ _ _ _ _ _ _ _ _ _ _ _ _ _ _ _ _ _ _ _ _ _ _ _ _ _ _ _ _ _ _ _ _ _ _ _ _ _ _ _ _ _ _ _ _ _ _ _ _ _ _ _ _ _ _ _ _ _ _ _ _ _ _ _ _ _ _ _ _ _ _ _ _ _ _ _ _ _ _ _ _ _ _ _ _ _ _ _ _ _ _ _ _ _) (by kernel_rfl)
  case h0 => exact ⟨_, _, _, _, _, _, _, _, _, _, _, _, _, _, _, _, _, _, _, _, _, rfl, HK.out.drew, (fun h => by cases h), (fun h => by cases h), (fun h => by cases h), (fun h => by cases h), (fun h => by cases h), (fun h => by cases h), (fun h => by cases h), (fun h => by cases h), (fun h => by cases h), (fun h => by cases h), (fun h => by cases h), (fun h => by cases h), (fun h => by cases h), (fun h => by cases h), (fun h => by cases h), (fun h => by cases h), (fun h => by cases h), (fun h => by cases h), (fun h => by cases h), (fun h => by cases h), (fun h => by cases h)⟩
  case htopo => kernel_rfl
  case hstep =>
    intro i o g c W ho hI hg hdep K' hK
    obtain ⟨v15, v104, v105, v106, v107, v108, v109, v110, v111, v112, v113, v114, v115, v116, v117, v118, v119, v120, v121, v122, v123, rfl, hM, q0, q1, q2, q3, q4, q5, q6, q7, q8, q9, q10, q11, q12, q13, q14, q15, q16, q17, q18, q19, q20⟩ := hI
    have hi : i < 21 := (Array.getElem?_eq_some_iff.1 ho).1
    rcases (show i = 0 ∨ i = 1 ∨ i = 2 ∨ i = 3 ∨ i = 4 ∨ i = 5 ∨ i = 6 ∨ i = 7 ∨ i = 8 ∨ i = 9 ∨ i = 10 ∨ i = 11 ∨ i = 12 ∨ i = 13 ∨ i = 14 ∨ i = 15 ∨ i = 16 ∨ i = 17 ∨ i = 18 ∨ i = 19 ∨ i = 20 by omega) with rfl | rfl | rfl | rfl | rfl | rfl | rfl | rfl | rfl | rfl | rfl | rfl | rfl | rfl | rfl | rfl | rfl | rfl | rfl | rfl | rfl
    · simp only [List.getElem?_toArray, List.getElem?_cons_zero, Option.some.injEq] at ho
      subst ho
      clear hdep
      go_simp
      exact hK.out _ _ ⟨_, _, _, _, _, _, _, _, _, _, _, _, _, _, _, _, _, _, _, _, _, rfl, hM, fun _ => ⟨_, rfl, Bo.RowS.nil _⟩, q1, q2, q3, q4, q5, q6, q7, q8, q9, q10, q11, q12, q13, q14, q15, q16, q17, q18, q19, q20⟩
    · simp only [List.getElem?_toArray, List.getElem?_cons_zero, List.getElem?_cons_succ, Option.some.injEq] at ho
      subst ho
      clear hdep
      go_simp
      exact hK.out _ _ ⟨_, _, _, _, _, _, _, _, _, _, _, _, _, _, _, _, _, _, _, _, _, rfl, hM, q0, fun _ => ⟨_, rfl, Bo.RowS.nil _⟩, q2, q3, q4, q5, q6, q7, q8, q9, q10, q11, q12, q13, q14, q15, q16, q17, q18, q19, q20⟩
    · simp only [List.getElem?_toArray, List.getElem?_cons_zero, List.getElem?_cons_succ, Option.some.injEq] at ho
      subst ho
      clear hdep
      go_simp
      exact hK.out _ _ ⟨_, _, _, _, _, _, _, _, _, _, _, _, _, _, _, _, _, _, _, _, _, rfl, hM, q0, q1, fun _ => rfl, q3, q4, q5, q6, q7, q8, q9, q10, q11, q12, q13, q14, q15, q16, q17, q18, q19, q20⟩
    · simp only [List.getElem?_toArray, List.getElem?_cons_zero, List.getElem?_cons_succ, Option.some.injEq] at ho
      subst ho
      have r2 := q2 (hdep ⟨2, .data⟩ (by simp) rfl)
      subst r2
      clear hdep
      go_simp
      exact hK.out _ _ ⟨_, _, _, _, _, _, _, _, _, _, _, _, _, _, _, _, _, _, _, _, _, rfl, hM.alloc _, (fun h => (q0 h).next (below_new _ _)), (fun h => (q1 h).next (below_new _ _)), q2, fun _ => Bo.rowS_one W 0 0 1, (fun h => (q4 h).next (below_new _ _)), q5, (fun h => (q6 h).next (below_new _ _)), (fun h => (q7 h).next (below_new _ _)), (fun h => (q8 h).next (below_new _ _)), (fun h => (q9 h).next (below_new _ _)), (fun h => (q10 h).next (below_new _ _)), q11, (fun h => (q12 h).below (below_new _ _)), (fun h => (q13 h).next (below_new _ _)), (fun h => (q14 h).below (below_new _ _)), (fun h => (q15 h).next (below_new _ _)), q16, (fun h => (q17 h).below (below_new _ _)), (fun h => (q18 h).next (below_new _ _)), (fun h => (q19 h).next (below_new _ _)), (fun h => (q20 h).next (below_new _ _))⟩
    · simp only [List.getElem?_toArray, List.getElem?_cons_zero, List.getElem?_cons_succ, Option.some.injEq] at ho
      subst ho
      have r3 := q3 (hdep ⟨3, .data⟩ (by simp) rfl)
      obtain ⟨A3, n3, e3⟩ := r3.len
      subst e3
      clear hdep
      go_simp
      exact hK.out _ _ ⟨_, _, _, _, _, _, _, _, _, _, _, _, _, _, _, _, _, _, _, _, _, rfl, hM, q0, q1, q2, q3, fun _ => ⟨_, rfl, r3⟩, q5, q6, q7, q8, q9, q10, q11, q12, q13, q14, q15, q16, q17, q18, q19, q20⟩
    · simp only [List.getElem?_toArray, List.getElem?_cons_zero, List.getElem?_cons_succ, Option.some.injEq] at ho
      subst ho
      clear hdep
      go_simp
      exact hK.out _ _ ⟨_, _, _, _, _, _, _, _, _, _, _, _, _, _, _, _, _, _, _, _, _, rfl, hM, q0, q1, q2, q3, q4, fun _ => rfl, q6, q7, q8, q9, q10, q11, q12, q13, q14, q15, q16, q17, q18, q19, q20⟩
    · simp only [List.getElem?_toArray, List.getElem?_cons_zero, List.getElem?_cons_succ, Option.some.injEq] at ho
      subst ho
      have r5 := q5 (hdep ⟨5, .data⟩ (by simp) rfl)
      subst r5
      clear hdep
      go_simp
      exact hK.out _ _ ⟨_, _, _, _, _, _, _, _, _, _, _, _, _, _, _, _, _, _, _, _, _, rfl, hM, q0, q1, q2, q3, q4, q5, fun _ => ⟨_, rfl, Bo.RowS.nil _⟩, q7, q8, q9, q10, q11, q12, q13, q14, q15, q16, q17, q18, q19, q20⟩
    · simp only [List.getElem?_toArray, List.getElem?_cons_zero, List.getElem?_cons_succ, Option.some.injEq] at ho
      subst ho
      clear hdep
      go_simp
      exact hK.out _ _ ⟨_, _, _, _, _, _, _, _, _, _, _, _, _, _, _, _, _, _, _, _, _, rfl, hM, q0, q1, q2, q3, q4, q5, q6, fun _ => ⟨_, rfl, Bo.RowS.nil _⟩, q8, q9, q10, q11, q12, q13, q14, q15, q16, q17, q18, q19, q20⟩
    · simp only [List.getElem?_toArray, List.getElem?_cons_zero, List.getElem?_cons_succ, Option.some.injEq] at ho
      subst ho
      clear hdep
      go_simp
      exact hK.out _ _ ⟨_, _, _, _, _, _, _, _, _, _, _, _, _, _, _, _, _, _, _, _, _, rfl, hM, q0, q1, q2, q3, q4, q5, q6, q7, fun _ => ⟨_, rfl, Bo.RowS.nil _⟩, q9, q10, q11, q12, q13, q14, q15, q16, q17, q18, q19, q20⟩
    · simp only [List.getElem?_toArray, List.getElem?_cons_zero, List.getElem?_cons_succ, Option.some.injEq] at ho
      subst ho
      clear hdep
      go_simp
      refine (DA.out _).mono ?_
      rintro e W2 ⟨rfl, hb⟩
      go_simp
      exact hK.out _ _ ⟨_, _, _, _, _, _, _, _, _, _, _, _, _, _, _, _, _, _, _, _, _, rfl, hM.next hb, (fun h => (q0 h).next hb), (fun h => (q1 h).next hb), q2, (fun h => (q3 h).below hb), (fun h => (q4 h).next hb), q5, (fun h => (q6 h).next hb), (fun h => (q7 h).next hb), (fun h => (q8 h).next hb), fun _ => ⟨_, rfl, Bo.RowS.nil _⟩, (fun h => (q10 h).next hb), q11, (fun h => (q12 h).below hb), (fun h => (q13 h).next hb), (fun h => (q14 h).below hb), (fun h => (q15 h).next hb), q16, (fun h => (q17 h).below hb), (fun h => (q18 h).next hb), (fun h => (q19 h).next hb), (fun h => (q20 h).next hb)⟩
    · simp only [List.getElem?_toArray, List.getElem?_cons_zero, List.getElem?_cons_succ, Option.some.injEq] at ho
      subst ho
      clear hdep
      go_simp
      refine (DA.out _).mono ?_
      rintro e W2 ⟨rfl, hb⟩
      go_simp
      exact hK.out _ _ ⟨_, _, _, _, _, _, _, _, _, _, _, _, _, _, _, _, _, _, _, _, _, rfl, hM.next hb, (fun h => (q0 h).next hb), (fun h => (q1 h).next hb), q2, (fun h => (q3 h).below hb), (fun h => (q4 h).next hb), q5, (fun h => (q6 h).next hb), (fun h => (q7 h).next hb), (fun h => (q8 h).next hb), (fun h => (q9 h).next hb), fun _ => ⟨_, rfl, Bo.RowS.nil _⟩, q11, (fun h => (q12 h).below hb), (fun h => (q13 h).next hb), (fun h => (q14 h).below hb), (fun h => (q15 h).next hb), q16, (fun h => (q17 h).below hb), (fun h => (q18 h).next hb), (fun h => (q19 h).next hb), (fun h => (q20 h).next hb)⟩
    · simp only [List.getElem?_toArray, List.getElem?_cons_zero, List.getElem?_cons_succ, Option.some.injEq] at ho
      subst ho
      clear hdep
      go_simp
      exact hK.out _ _ ⟨_, _, _, _, _, _, _, _, _, _, _, _, _, _, _, _, _, _, _, _, _, rfl, hM, q0, q1, q2, q3, q4, q5, q6, q7, q8, q9, q10, fun _ => rfl, q12, q13, q14, q15, q16, q17, q18, q19, q20⟩
    · simp only [List.getElem?_toArray, List.getElem?_cons_zero, List.getElem?_cons_succ, Option.some.injEq] at ho
      subst ho
      have r11 := q11 (hdep ⟨11, .data⟩ (by simp) rfl)
      subst r11
      clear hdep
      go_simp
      exact hK.out _ _ ⟨_, _, _, _, _, _, _, _, _, _, _, _, _, _, _, _, _, _, _, _, _, rfl, hM.alloc _, (fun h => (q0 h).next (below_new _ _)), (fun h => (q1 h).next (below_new _ _)), q2, (fun h => (q3 h).below (below_new _ _)), (fun h => (q4 h).next (below_new _ _)), q5, (fun h => (q6 h).next (below_new _ _)), (fun h => (q7 h).next (below_new _ _)), (fun h => (q8 h).next (below_new _ _)), (fun h => (q9 h).next (below_new _ _)), (fun h => (q10 h).next (below_new _ _)), q11, fun _ => Bo.rowS_one W 2 1 1, (fun h => (q13 h).next (below_new _ _)), (fun h => (q14 h).below (below_new _ _)), (fun h => (q15 h).next (below_new _ _)), q16, (fun h => (q17 h).below (below_new _ _)), (fun h => (q18 h).next (below_new _ _)), (fun h => (q19 h).next (below_new _ _)), (fun h => (q20 h).next (below_new _ _))⟩
    · simp only [List.getElem?_toArray, List.getElem?_cons_zero, List.getElem?_cons_succ, Option.some.injEq] at ho
      subst ho
      have r12 := q12 (hdep ⟨12, .data⟩ (by simp) rfl)
      obtain ⟨A12, n12, e12⟩ := r12.len
      subst e12
      clear hdep
      go_simp
      refine (EV.out _ _ _ _).mono ?_
      rintro e W2 ⟨rfl, hb⟩
      go_simp
      exact hK.out _ _ ⟨_, _, _, _, _, _, _, _, _, _, _, _, _, _, _, _, _, _, _, _, _, rfl, hM.next hb, (fun h => (q0 h).next hb), (fun h => (q1 h).next hb), q2, (fun h => (q3 h).below hb), (fun h => (q4 h).next hb), q5, (fun h => (q6 h).next hb), (fun h => (q7 h).next hb), (fun h => (q8 h).next hb), (fun h => (q9 h).next hb), (fun h => (q10 h).next hb), q11, (fun h => (q12 h).below hb), fun _ => ⟨_, rfl, r12.below hb⟩, (fun h => (q14 h).below hb), (fun h => (q15 h).next hb), q16, (fun h => (q17 h).below hb), (fun h => (q18 h).next hb), (fun h => (q19 h).next hb), (fun h => (q20 h).next hb)⟩
    · simp only [List.getElem?_toArray, List.getElem?_cons_zero, List.getElem?_cons_succ, Option.some.injEq] at ho
      subst ho
      clear hdep
      have hmk := mkS65 W
      go_simp
      exact hK.out _ _ ⟨_, _, _, _, _, _, _, _, _, _, _, _, _, _, _, _, _, _, _, _, _, rfl, hM.alloc _, (fun h => (q0 h).next (below_new _ _)), (fun h => (q1 h).next (below_new _ _)), q2, (fun h => (q3 h).below (below_new _ _)), (fun h => (q4 h).next (below_new _ _)), q5, (fun h => (q6 h).next (below_new _ _)), (fun h => (q7 h).next (below_new _ _)), (fun h => (q8 h).next (below_new _ _)), (fun h => (q9 h).next (below_new _ _)), (fun h => (q10 h).next (below_new _ _)), q11, (fun h => (q12 h).below (below_new _ _)), (fun h => (q13 h).next (below_new _ _)), fun _ => z65_row W, (fun h => (q15 h).next (below_new _ _)), q16, (fun h => (q17 h).below (below_new _ _)), (fun h => (q18 h).next (below_new _ _)), (fun h => (q19 h).next (below_new _ _)), (fun h => (q20 h).next (below_new _ _))⟩
    · simp only [List.getElem?_toArray, List.getElem?_cons_zero, List.getElem?_cons_succ, Option.some.injEq] at ho
      subst ho
      have r14 := q14 (hdep ⟨14, .data⟩ (by simp) rfl)
      obtain ⟨A14, n14, e14⟩ := r14.len
      subst e14
      clear hdep
      go_simp
      refine (EV.out _ _ _ _).mono ?_
      rintro e W2 ⟨rfl, hb⟩
      go_simp
      exact hK.out _ _ ⟨_, _, _, _, _, _, _, _, _, _, _, _, _, _, _, _, _, _, _, _, _, rfl, hM.next hb, (fun h => (q0 h).next hb), (fun h => (q1 h).next hb), q2, (fun h => (q3 h).below hb), (fun h => (q4 h).next hb), q5, (fun h => (q6 h).next hb), (fun h => (q7 h).next hb), (fun h => (q8 h).next hb), (fun h => (q9 h).next hb), (fun h => (q10 h).next hb), q11, (fun h => (q12 h).below hb), (fun h => (q13 h).next hb), (fun h => (q14 h).below hb), fun _ => ⟨_, rfl, r14.below hb⟩, q16, (fun h => (q17 h).below hb), (fun h => (q18 h).next hb), (fun h => (q19 h).next hb), (fun h => (q20 h).next hb)⟩
    · simp only [List.getElem?_toArray, List.getElem?_cons_zero, List.getElem?_cons_succ, Option.some.injEq] at ho
      subst ho
      clear hdep
      go_simp
      exact hK.out _ _ ⟨_, _, _, _, _, _, _, _, _, _, _, _, _, _, _, _, _, _, _, _, _, rfl, hM, q0, q1, q2, q3, q4, q5, q6, q7, q8, q9, q10, q11, q12, q13, q14, q15, fun _ => rfl, q17, q18, q19, q20⟩
    · simp only [List.getElem?_toArray, List.getElem?_cons_zero, List.getElem?_cons_succ, Option.some.injEq] at ho
      subst ho
      have r16 := q16 (hdep ⟨16, .data⟩ (by simp) rfl)
      subst r16
      clear hdep
      go_simp
      exact hK.out _ _ ⟨_, _, _, _, _, _, _, _, _, _, _, _, _, _, _, _, _, _, _, _, _, rfl, hM.alloc _, (fun h => (q0 h).next (below_new _ _)), (fun h => (q1 h).next (below_new _ _)), q2, (fun h => (q3 h).below (below_new _ _)), (fun h => (q4 h).next (below_new _ _)), q5, (fun h => (q6 h).next (below_new _ _)), (fun h => (q7 h).next (below_new _ _)), (fun h => (q8 h).next (below_new _ _)), (fun h => (q9 h).next (below_new _ _)), (fun h => (q10 h).next (below_new _ _)), q11, (fun h => (q12 h).below (below_new _ _)), (fun h => (q13 h).next (below_new _ _)), (fun h => (q14 h).below (below_new _ _)), (fun h => (q15 h).next (below_new _ _)), q16, fun _ => Bo.rowS_one W (-1) 1 1, (fun h => (q18 h).next (below_new _ _)), (fun h => (q19 h).next (below_new _ _)), (fun h => (q20 h).next (below_new _ _))⟩
    · simp only [List.getElem?_toArray, List.getElem?_cons_zero, List.getElem?_cons_succ, Option.some.injEq] at ho
      subst ho
      have r17 := q17 (hdep ⟨17, .data⟩ (by simp) rfl)
      obtain ⟨A17, n17, e17⟩ := r17.len
      subst e17
      clear hdep
      go_simp
      refine (EV.out _ _ _ _).mono ?_
      rintro e W2 ⟨rfl, hb⟩
      go_simp
      exact hK.out _ _ ⟨_, _, _, _, _, _, _, _, _, _, _, _, _, _, _, _, _, _, _, _, _, rfl, hM.next hb, (fun h => (q0 h).next hb), (fun h => (q1 h).next hb), q2, (fun h => (q3 h).below hb), (fun h => (q4 h).next hb), q5, (fun h => (q6 h).next hb), (fun h => (q7 h).next hb), (fun h => (q8 h).next hb), (fun h => (q9 h).next hb), (fun h => (q10 h).next hb), q11, (fun h => (q12 h).below hb), (fun h => (q13 h).next hb), (fun h => (q14 h).below hb), (fun h => (q15 h).next hb), q16, (fun h => (q17 h).below hb), fun _ => ⟨_, rfl, r17.below hb⟩, (fun h => (q19 h).next hb), (fun h => (q20 h).next hb)⟩
    · simp only [List.getElem?_toArray, List.getElem?_cons_zero, List.getElem?_cons_succ, Option.some.injEq] at ho
      subst ho
      have r0 := q0 (hdep ⟨0, .data⟩ (by simp) rfl)
      obtain ⟨u0, rfl, s0⟩ := r0
      have r1 := q1 (hdep ⟨1, .data⟩ (by simp) rfl)
      obtain ⟨u1, rfl, s1⟩ := r1
      have r4 := q4 (hdep ⟨4, .data⟩ (by simp) rfl)
      obtain ⟨u2, rfl, s2⟩ := r4
      have r6 := q6 (hdep ⟨6, .data⟩ (by simp) rfl)
      obtain ⟨u3, rfl, s3⟩ := r6
      have r7 := q7 (hdep ⟨7, .data⟩ (by simp) rfl)
      obtain ⟨u4, rfl, s4⟩ := r7
      have r8 := q8 (hdep ⟨8, .data⟩ (by simp) rfl)
      obtain ⟨u5, rfl, s5⟩ := r8
      have r9 := q9 (hdep ⟨9, .data⟩ (by simp) rfl)
      obtain ⟨u6, rfl, s6⟩ := r9
      have r10 := q10 (hdep ⟨10, .data⟩ (by simp) rfl)
      obtain ⟨u7, rfl, s7⟩ := r10
      have r13 := q13 (hdep ⟨13, .data⟩ (by simp) rfl)
      obtain ⟨u8, rfl, s8⟩ := r13
      have r15 := q15 (hdep ⟨15, .data⟩ (by simp) rfl)
      obtain ⟨u9, rfl, s9⟩ := r15
      have r18 := q18 (hdep ⟨18, .data⟩ (by simp) rfl)
      obtain ⟨u10, rfl, s10⟩ := r18
      clear hdep
      simp (config := { maxSteps := 100000000 }) [go_sem]
      exact hK.out _ _ ⟨_, _, _, _, _, _, _, _, _, _, _, _, _, _, _, _, _, _, _, _, _, rfl, hM.alloc _, (fun h => (q0 h).next (below_new _ _)), (fun h => (q1 h).next (below_new _ _)), q2, (fun h => (q3 h).below (below_new _ _)), (fun h => (q4 h).next (below_new _ _)), q5, (fun h => (q6 h).next (below_new _ _)), (fun h => (q7 h).next (below_new _ _)), (fun h => (q8 h).next (below_new _ _)), (fun h => (q9 h).next (below_new _ _)), (fun h => (q10 h).next (below_new _ _)), q11, (fun h => (q12 h).below (below_new _ _)), (fun h => (q13 h).next (below_new _ _)), (fun h => (q14 h).below (below_new _ _)), (fun h => (q15 h).next (below_new _ _)), q16, (fun h => (q17 h).below (below_new _ _)), (fun h => (q18 h).next (below_new _ _)), fun _ => WR.made hM.below.size s0 s1 s2 s3 s4 s5 s6 s7 s8 s9 s10, (fun h => (q20 h).next (below_new _ _))⟩
    · simp only [List.getElem?_toArray, List.getElem?_cons_zero, List.getElem?_cons_succ, Option.some.injEq] at ho
      subst ho
      have r19 := q19 (hdep ⟨19, .data⟩ (by simp) rfl)
      skip
      clear hdep
      go_simp
      exact hK.out _ _ ⟨_, _, _, _, _, _, _, _, _, _, _, _, _, _, _, _, _, _, _, _, _, rfl, hM, q0, q1, q2, q3, q4, q5, q6, q7, q8, q9, q10, q11, q12, q13, q14, q15, q16, q17, q18, q19, fun _ => r19⟩
  case hend =>
    intro g c W hI hall
    obtain ⟨v15, v104, v105, v106, v107, v108, v109, v110, v111, v112, v113, v114, v115, v116, v117, v118, v119, v120, v121, v122, v123, rfl, hM, q0, q1, q2, q3, q4, q5, q6, q7, q8, q9, q10, q11, q12, q13, q14, q15, q16, q17, q18, q19, q20⟩ := hI
    have r0 := q0 (hall 0 (by decide))
    skip
    have r1 := q1 (hall 1 (by decide))
    skip
    have r2 := q2 (hall 2 (by decide))
    subst r2
    have r3 := q3 (hall 3 (by decide))
    skip
    have r4 := q4 (hall 4 (by decide))
    skip
    have r5 := q5 (hall 5 (by decide))
    subst r5
    have r6 := q6 (hall 6 (by decide))
    skip
    have r7 := q7 (hall 7 (by decide))
    skip
    have r8 := q8 (hall 8 (by decide))
    skip
    have r9 := q9 (hall 9 (by decide))
    skip
    have r10 := q10 (hall 10 (by decide))
    skip
    have r11 := q11 (hall 11 (by decide))
    subst r11
    have r12 := q12 (hall 12 (by decide))
    skip
    have r13 := q13 (hall 13 (by decide))
    skip
    have r14 := q14 (hall 14 (by decide))
    skip
    have r15 := q15 (hall 15 (by decide))
    skip
    have r16 := q16 (hall 16 (by decide))
    subst r16
    have r17 := q17 (hall 17 (by decide))
    skip
    have r18 := q18 (hall 18 (by decide))
    skip
    have r19 := q19 (hall 19 (by decide))
    skip
    have r20 := q20 (hall 20 (by decide))
    obtain ⟨B, Wp, u0, u1, u2, u3, u4, u5, u6, u7, u8, u9, u10, rfl, hB, hp, hpb, rowB, hs⟩ := r20
    clear q0 q1 q2 q3 q4 q5 q6 q7 q8 q9 q10 q11 q12 q13 q14 q15 q16 q17 q18 q19 q20
    clear hall r19 r0 r1 r3 r4 r6 r7 r8 r9 r10 r12 r13 r14 r15 r17 r18
    have c93 : W.cell? ⟨B, 93, none⟩ = some (.int .i64 0) := rowB.cell 93
    have c108 : W.cell? ⟨B, 108, none⟩ = some (.int .i64 0) := rowB.cell 108
    have f93 : W.frozen? ⟨B, 93, none⟩ = false := rowB.free 93
    have f108 : W.frozen? ⟨B, 108, none⟩ = false := rowB.free 108
    have QK : Hid (KR w B (WL Pl.kn6 Pl.kn7 u0 u1 u2 u3 u4 u5 u6 u7 u8 u9 u10) ((W.setCell ⟨B, 93, none⟩ (.int .i64 841)).setCell ⟨B, 108, none⟩ (.int .i64 1))) := Lib.hid (KR.made hM LL.out hB hp hpb rowB hs)
    clear hM hB hp hpb rowB hs
    go_wp2_with fail
    obtain ⟨Z, hZ⟩ : ∃ Z, (W.setCell ⟨B, 93, none⟩ (.int .i64 841)).setCell ⟨B, 108, none⟩ (.int .i64 1) = Z := ⟨_, rfl⟩
    have q := QK.out
    rw [hZ] at q
    simp only [hZ]
    have NO0 : ∀ k, k < 11 → ¬ ((WL Pl.kn6 Pl.kn7 u0 u1 u2 u3 u4 u5 u6 u7 u8 u9 u10).getD k (Pl.pZ, .nilFunc)).1.Ok := WL_no
    have LE0 : (WL Pl.kn6 Pl.kn7 u0 u1 u2 u3 u4 u5 u6 u7 u8 u9 u10).length = 11 := rfl
    obtain ⟨L1, hL1⟩ : ∃ L1, WL Pl.kn6 Pl.kn7 u0 u1 u2 u3 u4 u5 u6 u7 u8 u9 u10 = L1 := ⟨_, rfl⟩
    rw [hL1] at q NO0 LE0
    have QZ := Lib.hid q
    have NO := Lib.hid NO0
    have LE := Lib.hid LE0
    clear hZ q QK hL1 NO0 LE0 c93 c108 f93 f108
    go_loopw [16] (fun kv wr => ∃ k : Nat, k ≤ 11 ∧ kv = .int .i64 k ∧ Hid (KR w B L1 wr)) (fun kv _ => 11 - (intOf kv).toNat)
    case atStart => exact ⟨0, by omega, rfl, QZ⟩
    case round =>
      obtain ⟨k, hk, rfl, QK⟩ := hrel
      by_cases lt : k < 11
      · have e0 : decide ((k : Int) < 11) = true := by rw [decide_eq_true_iff]; omega
        have e0n : decide (k < 11) = true := by rw [decide_eq_true_iff]; exact lt
        have i0 : (0 : Int) ≤ (k : Int) := by omega
        have i1 : (k : Int) < 11 := by omega
        have wi : IntKind.i64.wrap ((k : Int) + 1) = (k : Int) + 1 := by rw [IntKind.wrap_i64]; omega
        obtain ⟨⟨q, vq⟩, hq⟩ : ∃ x, L1.getD k (Pl.pZ, .nilFunc) = x := ⟨_, rfl⟩
        have no : Hid (¬ q.Ok) := Lib.hid (by have := NO.out k lt; rw [hq] at this; exact this)
        have AT := Lib.hid (fun W (h : KR w B L1 W) => h.at (k := k) (by rw [LE.out]; exact lt) hq)
        obtain ⟨A, cap, rfl⟩ := (AT.out _ QK.out).2.1.len
        have hx := (AT.out _ QK.out).2.2
        have I1 := Lib.hid (fun W (h : KR w B L1 W) => pis_any q hx (.slice A q.l.length cap) (-1) false 16 (Pl.bad_is no.out (-1)) W h.kc.lay (AT.out W h).2.1)
        have C1 := Lib.hid (fun W (h : KR w B L1 W) => pchk_any q hx (.slice A q.l.length cap) 16 (Pl.P.err_no no.out) W h.kc.lay (AT.out W h).2.1)
        have D1 := Lib.hid (fun u W (h : KR w B L1 W) (hr : RowP W u [(Pl.pD, .slice none 0 0), (q, .slice A q.l.length cap)]) => pdue_any u [(Pl.pD, .slice none 0 0), (q, .slice A q.l.length cap)] (-1) [] 16 (Pl.bad_due no.out (-1)) W h.kc.lay hr)
        have DR := Lib.hid (fun W (h : KR w B L1 W) => (show RowP (W.alloc (.cells #[.int .i64 1, .int .u64 1, .int .u64 1, .int .u64 1, .int .u64 4294967294, .int .u64 8190, .int .u64 127, .bool true, .bool true, .int .i64 0, .int .i64 0, .int .i64 0, .int .i64 0, .slice none 0 0, .int .i64 q.k, .int .u64 q.x.a0, .int .u64 q.x.a1, .int .u64 q.x.a2, .int .u64 q.x.a3, .int .u64 q.x.a4, .int .u64 q.x.a5, .bool q.x.b3, .bool q.x.b5, .int .i64 q.z, .int .i64 q.s, .int .i64 q.p, .int .i64 q.c, (.slice A q.l.length cap)] 29)) (.slice (some ⟨W.heap.size, 0, none⟩) 2 2) [(Pl.pD, .slice none 0 0), (q, .slice A q.l.length cap)] from rowP_lit W [(Pl.pD, .slice none 0 0), (q, .slice A q.l.length cap)] 2 rfl _ rfl (by simp) 2 _ (by
          intro x hx'
          rcases (by simpa using hx' : x = (Pl.pD, .slice none 0 0) ∨ x = (q, .slice A q.l.length cap)) with rfl | rfl
          · exact ⟨Bo.RowS.nil W, bdD⟩
          · exact ⟨(AT.out W h).2.1, hx⟩)))
        have cc := (AT.out _ QK.out).1
        obtain ⟨c0, c1, c2, c3, c4, c5, c6, c7, c8, c9, c10, c11, c12, c13⟩ := cc
        clear hq hx lt hk
        go_wp2_with fail
        refine (I1.out _ QK.out).mono ?_
        rintro e w2 ⟨rfl, hb2⟩
        have QR := Lib.hid (QK.out.next hb2)
        clear hb2 c0 c1 c2 c3 c4 c5 c6 c7 c8 c9 c10 c11 c12 c13
        have cc := (AT.out _ QR.out).1
        obtain ⟨c0, c1, c2, c3, c4, c5, c6, c7, c8, c9, c10, c11, c12, c13⟩ := cc
        go_wp2_with fail
        go_region_held3 (fun w' => w'.cell? ⟨B, k * 14, none⟩ = some (.int .i64 q.k) ∧ w'.cell? ⟨B, k * 14 + 1, none⟩ = some (.int .u64 q.x.a0) ∧ w'.cell? ⟨B, k * 14 + 2, none⟩ = some (.int .u64 q.x.a1) ∧ w'.cell? ⟨B, k * 14 + 3, none⟩ = some (.int .u64 q.x.a2) ∧ w'.cell? ⟨B, k * 14 + 4, none⟩ = some (.int .u64 q.x.a3) ∧ w'.cell? ⟨B, k * 14 + 5, none⟩ = some (.int .u64 q.x.a4) ∧ w'.cell? ⟨B, k * 14 + 6, none⟩ = some (.int .u64 q.x.a5) ∧ w'.cell? ⟨B, k * 14 + 7, none⟩ = some (.bool q.x.b3) ∧ w'.cell? ⟨B, k * 14 + 8, none⟩ = some (.bool q.x.b5) ∧ w'.cell? ⟨B, k * 14 + 9, none⟩ = some (.int .i64 q.z) ∧ w'.cell? ⟨B, k * 14 + 10, none⟩ = some (.int .i64 q.s) ∧ w'.cell? ⟨B, k * 14 + 11, none⟩ = some (.int .i64 q.p) ∧ w'.cell? ⟨B, k * 14 + 12, none⟩ = some (.int .i64 q.c) ∧ w'.cell? ⟨B, k * 14 + 13, none⟩ = some ((.slice A q.l.length cap))) (go_keep)
          ((first
            | (go_at_call 34; refine (DA.out _).mono ?_; rintro e w3 ⟨rfl, hb3⟩; have QR := Lib.hid ((show KR w B L1 _ by first | exact QR.out | exact QR.out.drew).next hb3); clear hb3; have cc := (AT.out _ QR.out).1; obtain ⟨y0, y1, y2, y3, y4, y5, y6, y7, y8, y9, y10, y11, y12, y13⟩ := cc)
            | (go_at_call 29; refine (D1.out _ _ (QR.out.alloc _) (DR.out _ QR.out)).mono ?_; rintro e w8 ⟨mm, rfl, hm⟩; have QR := Lib.hid ((QR.out.alloc (.cells #[.int .i64 1, .int .u64 1, .int .u64 1, .int .u64 1, .int .u64 4294967294, .int .u64 8190, .int .u64 127, .bool true, .bool true, .int .i64 0, .int .i64 0, .int .i64 0, .int .i64 0, .slice none 0 0, .int .i64 q.k, .int .u64 q.x.a0, .int .u64 q.x.a1, .int .u64 q.x.a2, .int .u64 q.x.a3, .int .u64 q.x.a4, .int .u64 q.x.a5, .bool q.x.b3, .bool q.x.b5, .int .i64 q.z, .int .i64 q.s, .int .i64 q.p, .int .i64 q.c, (.slice A q.l.length cap)] 29)).next hm.below); clear hm; have cc := (AT.out _ QR.out).1; obtain ⟨x0, x1, x2, x3, x4, x5, x6, x7, x8, x9, x10, x11, x12, x13⟩ := cc)))
        go_wp2_with fail
        refine (C1.out _ QR.out).mono ?_
        rintro e w9 ⟨rfl, hb9⟩
        have Q9 := Lib.hid (QR.out.next hb9)
        clear hb9
        go_wp2_with fail
        go_roundw
        case rel => exact ⟨k + 1, by have := i1; omega, by first | rfl | go_num, Q9⟩
        case measure => simp [intOf] <;> omega
      · have e0 : decide ((k : Int) < 11) = false := by rw [decide_eq_false_iff_not]; omega
        have e0n : decide (k < 11) = false := by rw [decide_eq_false_iff_not]; exact lt
        have K0 : Hid (KC w wr) := Lib.hid QK.out.kc
        have mk65 : ∀ W, (Instr.makeSlice 49 (.int .i64 65) (.int .i64 65)).run Tryz.prog W = .ok (.slice (some ⟨W.heap.size, 0, none⟩) 65 65) (W.alloc (.cells (zpA 65) 29)) := fun W => mkP 65 (by omega) W
        have mk64 : ∀ W, (Instr.makeSlice 49 (.int .i64 64) (.int .i64 64)).run Tryz.prog W = .ok (.slice (some ⟨W.heap.size, 0, none⟩) 64 64) (W.alloc (.cells (zpA 64) 29)) := fun W => mkP 64 (by omega) W
        have D65 := Lib.hid (fun W (h : KC w W) => (show Calls Tryz.prog 29 #[.slice (some ⟨W.heap.size, 0, none⟩) 65 65, .int .i64 (-1)] (W.alloc (.cells (zpA 65) 29)) fun e w' => ∃ u, e = .returned (.tuple #[u, .int .i64 12]) ∧ OwnN (W.alloc (.cells (zpA 65) 29)) u [] w' from pdue_any _ (List.replicate 65 (Pl.pZ, .slice none 0 0)) (-1) [] 12 (by rw [List.map_replicate]; exact Pl.due_many (-1)) _ (h.alloc _).lay (zp_row 65 (by omega) W)))
        have D64 := Lib.hid (fun W (h : KC w W) => (show Calls Tryz.prog 29 #[.slice (some ⟨W.heap.size, 0, none⟩) 64 64, .int .i64 (-1)] (W.alloc (.cells (zpA 64) 29)) fun e w' => ∃ u, e = .returned (.tuple #[u, .int .i64 14]) ∧ OwnN (W.alloc (.cells (zpA 64) 29)) u [] w' from pdue_any _ (List.replicate 64 (Pl.pZ, .slice none 0 0)) (-1) [] 14 (by rw [List.map_replicate]; exact Pl.due_time) _ (h.alloc _).lay (zp_row 64 (by omega) W)))
        have CO := Lib.hid (fun W (h : KC w W) => (show Calls Tryz.prog 25 #[.agg #[.int .i64 1, .int .u64 1, .int .u64 1, .int .u64 1, .int .u64 4294967294, .int .u64 8190, .int .u64 127, .bool true, .bool true, .int .i64 0, .int .i64 0, .int .i64 0, .int .i64 0, .slice none 0 0], .int .i64 0, .int .i64 253402300800] W fun e w' => e = .returned (.tuple #[.int .i64 0, .int .i64 14]) ∧ Below W.heap.size W w' from pcount_any Pl.pD bdD (.slice none 0 0) 0 253402300800 0 14 Pl.count_late W h.lay (Bo.RowS.nil W)))
        have LI := Lib.hid (fun W (h : KC w W) => (show Calls Tryz.prog 22 #[.agg #[.int .i64 1, .int .u64 1, .int .u64 1, .int .u64 1, .int .u64 4294967294, .int .u64 8190, .int .u64 127, .bool true, .bool true, .int .i64 0, .int .i64 0, .int .i64 0, .int .i64 0, .slice none 0 0], .int .i64 86400, .int .i64 86400, .int .i64 2] W fun e w' => ∃ u, e = .returned (.tuple #[u, .int .i64 0]) ∧ OwnT W u [86400] w' from plist_any Pl.pD bdD (.slice none 0 0) 86400 86400 2 [86400] 0 Pl.listD W h.lay (Bo.RowS.nil W)))
        clear lt hk QK
        go_wp2_with fail
        refine (D65.out _ K0.out).mono ?_
        rintro e w2 ⟨x1, rfl, hu⟩
        have K1 := Lib.hid ((K0.out.alloc (.cells (zpA 65) 29)).next hu.below)
        clear hu
        go_wp2_with fail
        refine (D64.out _ K1.out).mono ?_
        rintro e w3 ⟨x2, rfl, hu⟩
        have K2 := Lib.hid ((K1.out.alloc (.cells (zpA 64) 29)).next hu.below)
        clear hu
        go_wp2_with fail
        refine (DA.out _).mono ?_
        rintro e w4 ⟨rfl, hb⟩
        have K3 := Lib.hid (K2.out.next hb)
        clear hb
        go_wp2_with fail
        refine (CO.out _ K3.out).mono ?_
        rintro e w5 ⟨rfl, hb⟩
        have K4 := Lib.hid (K3.out.next hb)
        clear hb
        go_wp2_with fail
        refine (DA.out _).mono ?_
        rintro e w6 ⟨rfl, hb⟩
        have K5 := Lib.hid (K4.out.next hb)
        clear hb
        go_wp2_with fail
        refine (LI.out _ K5.out).mono ?_
        rintro e w7 ⟨x3, rfl, hu⟩
        have K6 := Lib.hid (K5.out.next hu.below)
        obtain ⟨A3, c3, rfl⟩ := hu.len
        clear hu
        go_wp2_with fail
        refine (WK.out _ K6.out.lay).mono ?_
        rintro e w8 ⟨rfl, hb⟩
        have K7 := Lib.hid (K6.out.next hb)
        clear hb
        go_wp2_with fail
        go_ret
        exact ⟨rfl, K7.out.below⟩

set_option maxRecDepth 100000 in
theorem lifted (os : Os) (started : os.Started) (H : Type) (enc : TypeId × Value → H) :
    ReturnsInHanded {} Tryz.checked os 12 .any (fun w args => (Rows.planKnownSpec.pre enc Tryz.prog Tryz.f12 [] false w args ∧ laidMetH Tryz.prog Rows.planKnownRow.laid w) ∧ sizedMet enc Tryz.prog Tryz.f12 (OpenSpec.ofChange Rows.planKnownSpec) false w args)
      (Rows.planKnownSpec.post enc Tryz.prog Tryz.f12 false true false false) := by
  refine returnsInHanded_of_change_and (C := Tryz.checked) (X := fun w _ => laidMetH Tryz.prog Rows.planKnownRow.laid w) (fun _ _ _ hh h => h.of_heap hh) own started (by kernel_rfl) Tryz.func12
    (ChangeSpec.witness_shaped (enc := enc) (C := Tryz.checked) (os := os) (X := fun w _ => laidMetH Tryz.prog Rows.planKnownRow.laid w) false (World.laidAll Tryz.prog os Rows.planKnownRow.laid) #[] 8 (World.laidAll_os _ _ _) (World.shaped_of_ZipB (by kernel_rfl) (by kernel_rfl)) (by kernel_rfl) (by kernel_rfl) (by kernel_rfl) (by rw [MakeChecks.laidMetH_plain _ _ _ (by kernel_rfl)]; exact laidMet_laidAll _ (by kernel_rfl) (by kernel_rfl))) ?_
  intro W base args ds gs before hval0 hW _ _ hL _
  have hval : ∀ (j : Nat) t v, Tryz.f12.params[j]? = some t → args[j]? = some v → Value.okWide Tryz.prog W .any base t v := hval0
  have hW' := hW
  obtain ⟨p, q, hA0, hV, rfl, hfz, hnd⟩ := hW
  have hA : DataW.TrodAll enc Tryz.prog W 0 (fun _ => true) true Tryz.f12.params.toList args.toList ds p := hA0
  rw [Tryz.params12] at hA hval

  obtain ⟨hargs, rfl, rfl⟩ := trodAll_nil hA
  obtain rfl : args = #[] := by cases args; simp_all
  obtain ⟨rfl, rfl⟩ := trodVars_none hV
  clear hA0 hval0
  refine (walk  W (layM_of _ W (by kernel_rfl) (.head _) (.tail _ (.head _)) (by kernel_rfl) (by kernel_rfl) hL) ).mono fun e W' ⟨he, bel⟩ => ?_
  subst he
  exact ⟨_, rfl, _, _, _, [], _, [], hW', trodAll_mk1 (shut_bool Tryz.underlying4 _), trodAll_mk0, rfl, bel.frame _, fun h => by cases h⟩

theorem row_holds : Rows.PlanKnownSaid :=
  OpenClaim.holds_of_wide 12 Tryz.f12 rfl rfl rfl rfl rfl rfl rfl ⟨rfl, rfl, rfl, rfl, rfl⟩ rfl rfl rfl rfl rfl (by kernel_rfl) Tryz.func12 (by kernel_rfl)
    (of_decide_eq_true (by kernel_rfl)) (by unfold Func.isWrapper; first | (rw [if_pos (by decide +kernel)]; kernel_rfl) | (rw [if_neg (by decide +kernel)]; exact ⟨rfl, rfl⟩))
    (fun os started H enc _ => lifted os started H enc)

theorem proved : Rows.PlanKnownCardSaid :=
  Claim7.holds_tied_plain_at .later [] Rows.planKnownCard.laidKinds true Rows.planKnownCard.stood.harness Rows.planKnownCard.stood.looks
    row_holds (fun _ h => by cases h) (by kernel_rfl) (fun _ h => by cases h) planKnown_row_tie rfl ⟨rfl, rfl⟩ (by kernel_rfl) rfl
    (fun f fn hf hfn => by
      obtain rfl : f = 12 := Option.some.inj ((show Tryz.prog.funcNamed Rows.planKnownRow.func = some 12 by kernel_rfl).symm.trans hf) |>.symm
      obtain rfl : fn = Tryz.f12 := (Option.some.inj (Tryz.func12.symm.trans hfn)).symm
      exact ⟨looks0, fun j t ht => by
        rw [Tryz.params12] at ht
        have hm : t ∈ [] := by simpa using Array.mem_of_getElem? ht
        have hall : ([].all fun u => !Tryz.prog.wantsStandIn u) = true := by kernel_rfl
        exact (show Tryz.prog.wantsStandIn t = false by simpa using List.all_eq_true.1 hall t hm)⟩)
    (by kernel_rfl)

end Go.Proofs.YtljackjcgfaanaaGreatDoor.planKnown
