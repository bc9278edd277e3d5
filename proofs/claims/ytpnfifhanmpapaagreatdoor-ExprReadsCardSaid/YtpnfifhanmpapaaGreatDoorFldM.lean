/- Contract of Parse of package field. -/
import Derived.Test.YtpnfifhanmpapaaGreatDoorFldL
import Derived.Maps.AppendAt
import Derived.Shelf.RegionOpen
namespace Go.Proofs.YtpnfifhanmpapaaGreatDoor
open Go.ChangeShapes Go.WideShapes Go.RowKit Go.Shelf

theorem items_any (R : Nat) (w : World) :
    Calls Tryz.prog 70 #[.pointer (some ⟨R, 0, none⟩)] w fun e w' => e = .returned (.func (.func 108) #[] #[.pointer (some ⟨w.heap.size, 0, none⟩)]) ∧ w.alloc (.cells #[.pointer (some ⟨R, 0, none⟩)] 125) = w' := by
  go_enter Tryz.func70, Tryz.ntmps70
  go_wp2
  go_ret
  exact ⟨rfl, rfl⟩
/-- a kind in memory is this one -/
structure KdIs (lo hi : Int) (xs : List ByteArray) (wk : Bool) (K : Fld.Kd) : Prop where
  lo : lo = K.lo
  hi : hi = K.hi
  nm : K.names = bytesL xs
  wk : wk = K.week
  ok : K.Ok
theorem kdIs_ex {lo hi : Int} {xs : List ByteArray} {wk : Bool} (h : Valid lo hi xs wk) : ∃ K, KdIs lo hi xs wk K := by
  obtain ⟨h1, h2, h3, h4, h5⟩ := h
  refine ⟨⟨lo.toNat, hi.toNat, bytesL xs, wk⟩, by show lo = (lo.toNat : Int); omega, by show hi = (hi.toNat : Int); omega, rfl, rfl, ?_⟩
  have hN : ∀ i (h : i < xs.length), NameB xs[i] ∧ xs[i] ∉ xs.take i := by
    rcases h5 with rfl | ⟨_, h⟩
    · intro i h; simp at h
    · exact fun i hi => h i hi hi
  refine ⟨by show lo.toNat ≤ hi.toNat; omega, by show hi.toNat ≤ 62; omega, fun e => ?_, ?_, fun s hs => ?_, ?_⟩
  · have := h4 e
    exact ⟨by show lo.toNat = 0; omega, by show hi.toNat = 6; omega⟩
  · rcases h5 with rfl | ⟨h, _⟩
    · exact .inl rfl
    · refine .inr ?_
      show (bytesL xs).length = hi.toNat - lo.toNat + 1
      rw [bytesL_len]; omega
  · obtain ⟨x, hx, rfl⟩ := List.mem_map.1 hs
    obtain ⟨i, hi', rfl⟩ := List.getElem_of_mem hx
    exact (nameB_list _).1 (hN i hi').1
  · show (bytesL xs).Pairwise (· ≠ ·)
    rw [List.pairwise_iff_getElem]
    intro i j hi' hj hij e
    rw [bytesL_len] at hi' hj
    apply (hN j hj).2
    simp only [bytesL, List.getElem_map] at e
    rw [← ByteArray.ext (Array.toList_inj.1 e)]
    exact List.mem_take_iff_getElem.2 ⟨i, by omega, rfl⟩
theorem KdIs.valid {lo hi : Int} {xs : List ByteArray} {wk : Bool} {K : Fld.Kd} (h : KdIs lo hi xs wk K) : Valid lo hi xs wk := by
  obtain ⟨rfl, rfl, nm, rfl, ok⟩ := h
  refine ⟨by omega, by have := ok.le; omega, by have := ok.hi; omega, fun e => by have := ok.week e; omega, ?_⟩
  rcases ok.count with c | c
  · left
    rw [nm] at c
    exact List.map_eq_nil_iff.1 c
  · rw [nm, bytesL_len] at c
    refine .inr ⟨by have := ok.le; omega, fun i hi' _ => ⟨(nameB_list _).2 (ok.ups _ (by rw [nm]; exact List.mem_map_of_mem (List.getElem_mem hi'))), fun hm => ?_⟩⟩
    obtain ⟨j, hj, e⟩ := List.mem_take_iff_getElem.1 hm
    have := List.pairwise_iff_getElem.1 ok.diff j i (by rw [nm, bytesL_len]; omega) (by rw [nm, bytesL_len]; exact hi') (by omega)
    apply this
    simp only [nm, bytesL, List.getElem_map, e]

theorem results_four {fn : Func} {a b c d : Tmp} (h : fn.results = #[.tmp a, .tmp b, .tmp c, .tmp d]) (tmps : Array Value) (P : Program) (w : World) :
    (results fn tmps).run P w = .ok (.tuple #[tmps.getD a undef, tmps.getD b undef, tmps.getD c undef, tmps.getD d undef]) w := by
  simp [results, h]
theorem parse_no (lo hi : Int) (v : Value) (xs : List ByteArray) (wk : Bool) (s : ByteArray) (w : World) (hv : IsStrs w v xs) (h : ¬ Valid lo hi xs wk) (hs : ∀ x ∈ xs, x.size ≤ 9223372036854775807) :
    Calls Tryz.prog 37 #[.agg #[.int .i64 lo, .int .i64 hi, v, .bool wk], .string s] w fun e w' => e = .returned (.tuple #[.int .u64 0, .bool false, .int .i64 0, .int .i64 2]) ∧ Below w.heap.size w w' := by
  have V0 := hv.below (spec_box w lo hi v wk)
  have C := Lib.hid (check_no lo hi v xs wk _ V0 h hs)
  obtain ⟨A, cap, rfl, _, _⟩ := hv
  clear V0 h
  go_enter Tryz.func37, Tryz.ntmps37
  go_wp2_with fail
  refine C.out.mono ?_
  rintro e w1 ⟨rfl, hb⟩
  have HB := Lib.hid hb
  clear hb
  go_wp2_with fail
  refine bodyPost_ret (results_four rfl _ _ _) rfl ?_
  exact ⟨rfl, box_below (by simpa using HB.out)⟩

/-- what the variables of Parse hold behind some items -/
def PState (K : Fld.Kd) (pre : List Fld.It) (S a e : Nat) : Prop :=
  S < 2 ^ 64 ∧ ((Fld.bad K pre = none ∧ S = Fld.total K pre ∧ a = 0 ∧ e = 0) ∨ ∃ q, Fld.bad K pre = some q ∧ a = q ∧ e = 2)
theorem pstate_nil (K : Fld.Kd) : PState K [] 0 0 0 := ⟨by decide, .inl ⟨rfl, rfl, rfl, rfl⟩⟩
/-- one more item, while nothing was wrong -/
theorem PState.good {K : Fld.Kd} {pre : List Fld.It} {S a S' : Nat} (h : PState K pre S a 0) (x : Fld.It) (hn : NumIs K x S') : ∃ a' e' : Nat, wrongR (Fld.wrong K x) = ((a' : Int), (e' : Int)) ∧ PState K (pre ++ [x]) (S ||| S') a' e' := by
  obtain ⟨h1, h2⟩ := h
  rcases h2 with ⟨b, rfl, rfl, _⟩ | ⟨q, _, _, h⟩
  · cases hw : Fld.wrong K x with
    | none => exact ⟨0, 0, rfl, Nat.or_lt_two_pow h1 hn.1, .inl ⟨by rw [Fld.bad_snoc, b, hw]; rfl, by rw [Fld.total_snoc, hn.2 hw], rfl, rfl⟩⟩
    | some q => exact ⟨q, 2, rfl, Nat.or_lt_two_pow h1 hn.1, .inr ⟨q, by rw [Fld.bad_snoc, b, hw]; rfl, rfl, rfl⟩⟩
  · omega
theorem PState.more {K : Fld.Kd} {pre : List Fld.It} {S a e S' : Nat} (h : PState K pre S a e) (he : e ≠ 0) (x : Fld.It) (hn : NumIs K x S') : PState K (pre ++ [x]) (S ||| S') a e := by
  obtain ⟨h1, h2⟩ := h
  rcases h2 with ⟨_, _, _, rfl⟩ | ⟨q, b, ha, h⟩
  · exact (he rfl).elim
  · exact ⟨Nat.or_lt_two_pow h1 hn.1, .inr ⟨q, by rw [Fld.bad_snoc, b]; rfl, ha, h⟩⟩
/-- the reader at the start -/
def rd0 (K : Fld.Kd) (A : Option Addr) (n c : Nat) (s : ByteArray) : RS := ⟨K.lo, K.hi, A, n, c, K.week, s, 0, partV 0, 0, 0, 0, 0, 0, 0, false⟩
theorem mid0 (K : Fld.Kd) (A : Option Addr) (n c : Nat) (s : ByteArray) : Mid K (Fld.scan K s.data.toList 0) [] (rd0 K A n c s) := by
  have e : fut K 0 (rd0 K A n c s) = Fld.scan K s.data.toList 0 := by
    rw [Fld.scan_go]
    rfl
  exact ⟨.inl ⟨0, Nat.zero_le _, rfl, .inl rfl, by rw [e]; rfl, by rw [e]⟩⟩
theorem parse_world (w1 : World) (K : Fld.Kd) (A : Option Addr) (n c : Nat) (s : ByteArray) : ∃ W0, W0 = (((((w1.alloc (.cells #[.int .u64 0] 23)).alloc (.cells #[.int .i64 0] 3)).alloc (.cells #[.int .i64 0] 26)).alloc (.cells #[.int .i64 K.lo, .int .i64 K.hi, .slice A n c, .bool K.week, .string s, .int .i64 0, .func (.func 69) #[] #[], .int .i64 0, .int .i64 0, .int .i64 0, .int .i64 0, .int .i64 0, .int .i64 0, .bool false] 133)).alloc (.cells #[.pointer (some ⟨w1.heap.size + 1 + 1 + 1, 0, none⟩)] 125)) ∧
    Boxed W0 w1.heap.size 23 (.int .u64 0) ∧ Boxed W0 (w1.heap.size + 1) 3 (.int .i64 0) ∧ Boxed W0 (w1.heap.size + 1 + 1) 26 (.int .i64 0) ∧ Rd W0 (w1.heap.size + 1 + 1 + 1) (rd0 K A n c s) ∧
    W0.cell? ⟨w1.heap.size + 1 + 1 + 1 + 1, 0, none⟩ = some (.pointer (some ⟨w1.heap.size + 1 + 1 + 1, 0, none⟩)) ∧ W0.heap.size = w1.heap.size + 5 ∧ Below w1.heap.size w1 W0 := by
  refine ⟨_, rfl, ?_, ?_, ?_, ?_, ?_, by simp, ?_⟩
  · exact ((((Boxed.new w1 _ _).alloc _).alloc _).alloc _).alloc _
  · have := (((Boxed.new (w1.alloc (.cells #[.int .u64 0] 23)) 3 (.int .i64 0)).alloc (.cells #[.int .i64 0] 26)).alloc (.cells #[.int .i64 K.lo, .int .i64 K.hi, .slice A n c, .bool K.week, .string s, .int .i64 0, .func (.func 69) #[] #[], .int .i64 0, .int .i64 0, .int .i64 0, .int .i64 0, .int .i64 0, .int .i64 0, .bool false] 133)).alloc (.cells #[.pointer (some ⟨w1.heap.size + 1 + 1 + 1, 0, none⟩)] 125)
    rwa [World.size_alloc] at this
  · have := ((Boxed.new ((w1.alloc (.cells #[.int .u64 0] 23)).alloc (.cells #[.int .i64 0] 3)) 26 (.int .i64 0)).alloc (.cells #[.int .i64 K.lo, .int .i64 K.hi, .slice A n c, .bool K.week, .string s, .int .i64 0, .func (.func 69) #[] #[], .int .i64 0, .int .i64 0, .int .i64 0, .int .i64 0, .int .i64 0, .int .i64 0, .bool false] 133)).alloc (.cells #[.pointer (some ⟨w1.heap.size + 1 + 1 + 1, 0, none⟩)] 125)
    rwa [World.size_alloc, World.size_alloc] at this
  · have := World.alloc_heap_new (((w1.alloc (.cells #[.int .u64 0] 23)).alloc (.cells #[.int .i64 0] 3)).alloc (.cells #[.int .i64 0] 26)) (.cells #[.int .i64 K.lo, .int .i64 K.hi, .slice A n c, .bool K.week, .string s, .int .i64 0, .func (.func 69) #[] #[], .int .i64 0, .int .i64 0, .int .i64 0, .int .i64 0, .int .i64 0, .int .i64 0, .bool false] 133)
    rw [World.size_alloc, World.size_alloc, World.size_alloc] at this
    exact (Below.heap_alloc _ _ _ (by simp)).trans this
  · have := cell_one' ((((w1.alloc (.cells #[.int .u64 0] 23)).alloc (.cells #[.int .i64 0] 3)).alloc (.cells #[.int .i64 0] 26)).alloc (.cells #[.int .i64 K.lo, .int .i64 K.hi, .slice A n c, .bool K.week, .string s, .int .i64 0, .func (.func 69) #[] #[], .int .i64 0, .int .i64 0, .int .i64 0, .int .i64 0, .int .i64 0, .int .i64 0, .bool false] 133)) (.pointer (some ⟨w1.heap.size + 1 + 1 + 1, 0, none⟩)) 125
    rwa [World.size_alloc, World.size_alloc, World.size_alloc, World.size_alloc] at this
  · exact (((((Below.refl _ w1).alloc (Nat.le_refl _) _).alloc (by simp) _).alloc (by simp; omega) _).alloc (by simp; omega) _).alloc (by simp; omega) _

/-- what the loop's own variables hold -/
structure PV (K : Fld.Kd) (A : Option Addr) (n c : Nat) (w : World) (z : Nat) (S a e : Nat) (W : World) : Prop where
  below : Below w.heap.size w W
  kind : W.heap[w.heap.size]? = some (.cells #[.int .i64 K.lo, .int .i64 K.hi, .slice A n c, .bool K.week] 75 (0, 0))
  s : Boxed W z 23 (.int .u64 S)
  a : Boxed W (z + 1) 3 (.int .i64 a)
  e : Boxed W (z + 1 + 1) 26 (.int .i64 e)
theorem PV.keep {K : Fld.Kd} {A : Option Addr} {n c : Nat} {w : World} {z S a e : Nat} {W W' : World} {r : Nat} (h : PV K A n c w z S a e W) (hg : W.grownBy W' (some r)) (hr : w.heap.size < r) (h1 : r ≠ z) (h2 : r ≠ z + 1) (h3 : r ≠ z + 1 + 1) : PV K A n c w z S a e W' := by
  have key : ∀ {B t v}, Boxed W B t v → r ≠ B → Boxed W' B t v := fun hb hne => (hg.block _ hb.lt (fun q => hne (Option.some.inj q).symm)).trans hb
  exact ⟨h.below.grown hg h.below.size (fun k e => by cases e; omega), (hg.block _ (Array.getElem?_eq_some_iff.1 h.kind).1 (fun q => by have := Option.some.inj q; omega)).trans h.kind, key h.s h1, key h.a h2, key h.e h3⟩
/-- a step of the round's own: into new blocks alone -/
theorem PV.below' {K : Fld.Kd} {A : Option Addr} {n c : Nat} {w : World} {z S a e : Nat} {W W' : World} (h : PV K A n c w z S a e W) (hb : Below W.heap.size W W') : PV K A n c w z S a e W' := by
  have key : ∀ {B t v}, Boxed W B t v → Boxed W' B t v := fun hq => (hb.block _ hq.lt).trans hq
  exact ⟨h.below.trans (hb.mono h.below.size), (hb.block _ (Array.getElem?_eq_some_iff.1 h.kind).1).trans h.kind, key h.s, key h.a, key h.e⟩
theorem kind_set {W : World} {b k : Nat} {o : Obj} (h : W.heap[b]? = some o) (hk : b ≠ k) (v : Value) : (W.setCell ⟨k, 0, none⟩ v).heap[b]? = some o := (Below.heap_setCell _ _ _ _ hk).trans h
theorem boxed_set {W : World} {b k : Nat} {t : TypeId} {u : Value} (h : Boxed W b t u) (hk : b ≠ k) (v : Value) : Boxed (W.setCell ⟨k, 0, none⟩ v) b t u := kind_set h hk v
theorem PV.setS {K : Fld.Kd} {A : Option Addr} {n c : Nat} {w : World} {z S a e : Nat} {W : World} (h : PV K A n c w z S a e W) (hz : w.heap.size < z) (S' : Nat) : PV K A n c w z S' a e (W.setCell ⟨z, 0, none⟩ (.int .u64 S')) :=
  ⟨h.below.setCell (p := ⟨z, 0, none⟩) (by show w.heap.size ≤ z; omega) _, kind_set h.kind (by omega) _, h.s.set _, boxed_set h.a (by omega) _, boxed_set h.e (by omega) _⟩
theorem PV.setA {K : Fld.Kd} {A : Option Addr} {n c : Nat} {w : World} {z S a e : Nat} {W : World} (h : PV K A n c w z S a e W) (hz : w.heap.size < z) (a' : Nat) : PV K A n c w z S a' e (W.setCell ⟨z + 1, 0, none⟩ (.int .i64 a')) :=
  ⟨h.below.setCell (p := ⟨z + 1, 0, none⟩) (by show w.heap.size ≤ z + 1; omega) _, kind_set h.kind (by omega) _, boxed_set h.s (by omega) _, h.a.set _, boxed_set h.e (by omega) _⟩
theorem PV.setE {K : Fld.Kd} {A : Option Addr} {n c : Nat} {w : World} {z S a e : Nat} {W : World} (h : PV K A n c w z S a e W) (hz : w.heap.size < z) (e' : Nat) : PV K A n c w z S a e' (W.setCell ⟨z + 1 + 1, 0, none⟩ (.int .i64 e')) :=
  ⟨h.below.setCell (p := ⟨z + 1 + 1, 0, none⟩) (by show w.heap.size ≤ z + 1 + 1; omega) _, kind_set h.kind (by omega) _, boxed_set h.s (by omega) _, boxed_set h.a (by omega) _, h.e.set _⟩
def PI (K : Fld.Kd) (A : Option Addr) (n c : Nat) (w : World) (z : Nat) (pre : List Fld.It) (W : World) : Prop := ∃ S a e, PV K A n c w z S a e W ∧ PState K pre S a e
theorem PI.keep {K : Fld.Kd} {A : Option Addr} {n c : Nat} {w : World} {z : Nat} {pre : List Fld.It} {W W' : World} {r : Nat} (h : PI K A n c w z pre W) (hg : W.grownBy W' (some r)) (hr : w.heap.size < r) (h1 : r ≠ z) (h2 : r ≠ z + 1) (h3 : r ≠ z + 1 + 1) : PI K A n c w z pre W' := by
  obtain ⟨S, a, e, h, p⟩ := h
  exact ⟨S, a, e, h.keep hg hr h1 h2 h3, p⟩
theorem PI.below' {K : Fld.Kd} {A : Option Addr} {n c : Nat} {w : World} {z : Nat} {pre : List Fld.It} {W W' : World} (h : PI K A n c w z pre W) (hb : Below W.heap.size W W') : PI K A n c w z pre W' := by
  obtain ⟨S, a, e, h, p⟩ := h
  exact ⟨S, a, e, h.below' hb, p⟩
theorem four_cells {W : World} {B : Nat} {t : TypeId} {a b c d : Value} (h : W.heap[B]? = some (.cells #[a, b, c, d] t (0, 0))) : W.cell? ⟨B, 0, none⟩ = some a ∧ W.cell? ⟨B, 1, none⟩ = some b ∧ W.cell? ⟨B, 2, none⟩ = some c ∧ W.cell? ⟨B, 3, none⟩ = some d :=
  ⟨by simp [World.cell?, h], by simp [World.cell?, h], by simp [World.cell?, h], by simp [World.cell?, h]⟩
theorem seven_cells {W : World} {B : Nat} {t : TypeId} {a b c d e f g : Value} (h : W.heap[B]? = some (.cells #[a, b, c, d, e, f, g] t (0, 0))) : W.cell? ⟨B, 0, none⟩ = some a ∧ W.cell? ⟨B, 1, none⟩ = some b ∧ W.cell? ⟨B, 2, none⟩ = some c ∧ W.cell? ⟨B, 3, none⟩ = some d ∧ W.cell? ⟨B, 4, none⟩ = some e ∧ W.cell? ⟨B, 5, none⟩ = some f ∧ W.cell? ⟨B, 6, none⟩ = some g :=
  ⟨by simp [World.cell?, h], by simp [World.cell?, h], by simp [World.cell?, h], by simp [World.cell?, h], by simp [World.cell?, h], by simp [World.cell?, h], by simp [World.cell?, h]⟩
theorem putObj_grown (W : World) (l : Nat) (o : Obj) : W.grownBy (W.putObj l o) (some l) := grownBy_putObj' W l o
/-- which blocks a round writes -/
def ownP (z : Nat) (b : Nat) : Prop := b = z ∨ b = z + 1 ∨ b = z + 1 + 1
theorem KpR.below {n₁ : Nat} {own : Nat → Prop} {A B : World} (h : Below A.heap.size A B) (hn : n₁ ≤ A.heap.size) : KpR n₁ own A B := ⟨h.size, fun b hb _ => h.block b (by omega)⟩
theorem KpR.set {n₁ : Nat} {own : Nat → Prop} (A : World) (b : Nat) (v : Value) (hb : own b) : KpR n₁ own A (A.setCell ⟨b, 0, none⟩ v) :=
  ⟨by simp [World.setCell], fun k _ hk => Below.heap_setCell _ _ _ _ (fun e => hk (by rw [e]; exact hb))⟩
theorem KpR.put {n₁ : Nat} {own : Nat → Prop} (A : World) (k : Nat) (o : Obj) (hk : n₁ ≤ k) : KpR n₁ own A (A.putObj k o) := ⟨by simp, fun b hb _ => World.putObj_heap_other (by omega)⟩
theorem KeepsOthers.below {A B : World} (h : Below A.heap.size A B) : KeepsOthers A B := ⟨h.size, fun k _ hk _ => (h.block k (Array.getElem?_eq_some_iff.1 hk).1).trans hk⟩

theorem below_drewN (B : Nat) (w : World) (n : Nat) : Below B w (w.drewN n) := by
  induction n with
  | zero => exact Below.refl _ _
  | succ n ih => exact ih.drew
theorem below_put {w W : World} (h : Below w.heap.size w W) {D : Nat} (hD : w.heap.size ≤ D) (o : Obj) : Below w.heap.size w (W.putObj D o) :=
  h.grown (putObj_grown W D o) h.size (fun k e => by cases e; exact hD)
theorem is_star (s : ByteArray) (b : Bool) (h : (s.data.toList == [42]) = b) : (s.toList == [42]) = b ∧ (s.toList == (⟨#[42]⟩ : ByteArray).toList) = b := by
  have e : (⟨#[42]⟩ : ByteArray).toList = [42] := by rw [ByteArray.toList_eq]
  rw [e, ByteArray.toList_eq]
  exact ⟨h, h⟩
section
attribute [local go_sem] Oper.semAt_some
set_option maxRecDepth 100000 in
set_option maxHeartbeats 4000000 in
theorem parse_in (n : Nat) (hn : 4 ≤ n) (K : Fld.Kd) (v : Value) (xs : List ByteArray) (s : ByteArray) (w : World) (hv : IsStrs w v xs) (hk : KdIs K.lo K.hi xs K.week K) (hs : s.size ≤ 9223372036854775000) :
    CallsIn Fence.wide n Tryz.prog 37 #[.agg #[.int .i64 K.lo, .int .i64 K.hi, v, .bool K.week], .string s] w fun e w' =>
      e = .returned (.tuple #[.int .u64 ((Fld.parse K s.data.toList).1 : Nat), .bool (Fld.parse K s.data.toList).2.1, .int .i64 ((Fld.parse K s.data.toList).2.2.1 : Nat), .int .i64 ((Fld.parse K s.data.toList).2.2.2 : Nat)]) ∧ Below w.heap.size w w' := by
  have h1 : 1 ≤ n := by omega
  have V0 := hv.below (spec_box w K.lo K.hi v K.week)
  have C := Lib.hid (check_yes K.lo K.hi v xs K.week _ V0 hk.valid)
  have HV := Lib.hid hv
  obtain ⟨A, cap, rfl, _, _⟩ := hv
  have HK := Lib.hid hk
  clear V0 hk
  refine callsIn_of_wp_marks Tryz.func37 rfl trivial ?_ rfl
  simp only [Tryz.ntmps37, List.size_toArray, List.length_cons, List.length_nil, Nat.reduceAdd, Nat.reduceSub, Array.replicate_succ, Array.replicate_zero, List.push_toArray, List.append_toArray, List.nil_append, List.cons_append]
  gi_wp2_with (first | (refine ⟨trivial, ?_⟩; gi_at_call 68; refine (callsIn_wide.2 C.out).mono ?_; rintro e w1 ⟨rfl, hb⟩; obtain ⟨hc1, hf1⟩ := kept hb; have HB := Lib.hid hb; have hs1 : w.heap.size < w1.heap.size := (by have := hb.size; simp at this; omega); have hs2 : w.heap.size < w1.heap.size + 1 := (by omega); have hs3 : w.heap.size < w1.heap.size + 1 + 1 := (by omega); clear hb) | (refine ⟨trivial, ?_⟩; gi_at_call 70; refine (callsIn_wide.2 (items_any _ _)).mono ?_; rintro e w' ⟨rfl, rfl⟩))
  obtain ⟨z, hz⟩ : ∃ z, w1.heap.size = z := ⟨_, rfl⟩
  obtain ⟨W0, hW0, bS, bA, bE, hR0, hx0, hz0, hb0⟩ := parse_world w1 K A xs.length cap s
  rw [← hW0]
  have hB0 : Below w.heap.size w W0 := (box_below (by simpa using HB.out)).trans (hb0.mono (by omega))
  have hp0 : W0.heap[w.heap.size]? = some (.cells #[.int .i64 K.lo, .int .i64 K.hi, .slice A xs.length cap, .bool K.week] 75) := by
    rw [hb0.block _ hs1]
    exact (HB.out.block _ (by simp)).trans (World.alloc_heap_new w _)
  rw [hz] at bS bA bE hR0 hx0 hz0 hs1 hs2 hs3 ⊢
  clear hc1 hf1 hW0 HB hb0 hz C
  have hown : ∀ b, b < z → ¬ ownP z b := fun b hb => by unfold ownP; omega
  have hR1 : ¬ ownP z (z + 1 + 1 + 1) := by unfold ownP; omega
  have hR2 : ¬ ownP z (z + 1 + 1 + 1 + 1) := by unfold ownP; omega
  refine range_own (w := W0) rfl h1 (gf := 108) (lb := #[.pointer (some ⟨z + 1 + 1 + 1 + 1, 0, none⟩)]) rfl trivial (enters_of Tryz.func108 (by kernel_rfl) rfl)
    (fun x => itv x true) (Only (z + 1 + 1 + 1)) (KpR W0.heap.size (ownP z))
    (fun ys B => ys = (Fld.scan K s.data.toList 0).1 ∧ ∃ st, Rd B (z + 1 + 1 + 1) st ∧ ((st.wh = true ∧ (Fld.scan K s.data.toList 0).2 = none) ∨ (st.wh = false ∧ (Fld.scan K s.data.toList 0).2 = some st.at_)))
    (PI K A xs.length cap w z) ?seq ?Mk ?Kr ?IM ?Ib ?Ia ?Fb ?i0 ?round ?done
  case seq =>
    intro l J W hb hl hJ hY h0
    have st0 : IsStrs W0 (.slice A xs.length cap) xs := HV.out.below hB0
    have hlt : ∀ b o, A = some ⟨b, o, none⟩ → 0 < xs.length → b < w.heap.size := fun b o e q => by
      obtain ⟨A', c', e', _, hp⟩ := HV.out
      cases e'
      obtain ⟨b', o', e2, h4, _⟩ := hp q
      rw [e] at e2
      cases e2
      exact h4
    have hk : KR W (z + 1 + 1 + 1) (rd0 K A xs.length cap s) K xs :=
      ⟨hR0.below hb, st0.below hb, fun b o e q => by have := hlt b o e q; omega, rfl, rfl, HK.out.nm, rfl, HK.out.ok, hs, Nat.zero_le _⟩
    refine (items_in (n - 1) (by omega) l (z + 1 + 1 + 1 + 1) (z + 1 + 1 + 1) W0.heap.size (ownP z) K xs (Fld.scan K s.data.toList 0) (rd0 K A xs.length cap s) J hJ hY W hk (mid0 K A _ _ s) ((hb.cell (p := ⟨z + 1 + 1 + 1 + 1, 0, none⟩) (by show z + 1 + 1 + 1 + 1 < W0.heap.size; omega)).trans hx0) (by omega) hR2 (by omega) hb.size (by omega) hR1 (fun b o e q => ⟨by have := hlt b o e q; omega, hown b (by have := hlt b o e q; omega)⟩) h0).mono ?_
    rintro e B ⟨hv, ys, ⟨e1, st, hk, h⟩, hj⟩
    exact ⟨hv, ys, ⟨e1, st, hk.rd, h⟩, hj⟩
  case Mk =>
    intro A' B k o hk ho hc hm
    exact (hm.block k (Array.getElem?_eq_some_iff.1 ho).1 (fun q => by have := Option.some.inj q; omega)).trans ho
  case Kr => exact fun A' B k o o' hk _ _ h => h.trans (KpR.put B k o' hk)
  case IM => exact fun pre A' B h hm => h.keep hm (by omega) (by omega) (by omega) (by omega)
  case Ib => exact fun pre A' k o o' hk _ _ h => h.keep (putObj_grown A' k o') (by omega) (by omega) (by omega) (by omega)
  case Ia => exact fun pre A' o _ h => h.below' ((Below.refl _ _).alloc (Nat.le_refl _) o)
  case Fb =>
    rintro ys A' k o o' hk _ _ ⟨e1, st, hr, h⟩
    exact ⟨e1, st, (World.putObj_heap_other (by omega)).trans hr, h⟩
  case i0 => exact ⟨0, 0, 0, ⟨hB0, hp0, bS, bA, bE⟩, pstate_nil K⟩
  case round =>
    intro l pre x W hl ho hI
    have hlW : l < W.heap.size := by obtain ⟨o, h, _⟩ := ho; exact (Array.getElem?_eq_some_iff.1 h).1
    have hzW : W0.heap.size ≤ W.heap.size := by omega
    have h12 : 1 ≤ n - 1 - 1 := by omega
    have hmix : Tryz.prog.follows .mixedOrders = true := by kernel_rfl
    unfold itv
    gi_wp2
    refine ⟨KeepsOthers.alloc _ _, fun o' => (KpR.below ((Below.refl _ W).alloc (Nat.le_refl _) _) hzW).trans (KpR.put _ _ _ hl), fun o' => ?_⟩
    have hXb := (World.putObj_heap_other (w := W.alloc (.cells #[.int .i64 x.f, .int .i64 x.fa, .int .i64 x.s, .int .i64 x.sa, .int .i64 x.t, .int .i64 x.ta, .bool true] 131)) (o := o') (show W.heap.size ≠ l by omega)).trans (World.alloc_heap_new W _)
    have hVI : PI K A xs.length cap w z pre ((W.alloc (.cells #[.int .i64 x.f, .int .i64 x.fa, .int .i64 x.s, .int .i64 x.sa, .int .i64 x.t, .int .i64 x.ta, .bool true] 131)).putObj l o') := (hI.below' ((Below.refl _ _).alloc (Nat.le_refl _) _)).keep (putObj_grown _ l o') (by omega) (by omega) (by omega) (by omega)
    have hVK : KpR W0.heap.size (ownP z) W ((W.alloc (.cells #[.int .i64 x.f, .int .i64 x.fa, .int .i64 x.s, .int .i64 x.sa, .int .i64 x.t, .int .i64 x.ta, .bool true] 131)).putObj l o') := (KpR.below ((Below.refl _ W).alloc (Nat.le_refl _) _) hzW).trans (KpR.put _ _ _ hl)
    have hVs : ((W.alloc (.cells #[.int .i64 x.f, .int .i64 x.fa, .int .i64 x.s, .int .i64 x.sa, .int .i64 x.t, .int .i64 x.ta, .bool true] 131)).putObj l o').heap.size = W.heap.size + 1 := by simp
    generalize ((W.alloc (.cells #[.int .i64 x.f, .int .i64 x.fa, .int .i64 x.s, .int .i64 x.sa, .int .i64 x.t, .int .i64 x.ta, .bool true] 131)).putObj l o') = V at *
    obtain ⟨X, hX⟩ : ∃ X, W.heap.size = X := ⟨_, rfl⟩
    rw [hX] at hXb hVs hlW hzW ⊢
    have HVK := Lib.hid hVK
    clear hX hI ho hVK
    obtain ⟨x0, x1, x2, x3, x4, x5, x6⟩ := seven_cells hXb
    obtain ⟨S, a, e, hVV, hp⟩ := hVI
    obtain ⟨k0, k1, k2, k3⟩ := four_cells hVV.kind
    have cS := hVV.s.cell
    have fS := hVV.s.frozen
    have cA := hVV.a.cell
    have fA := hVV.a.frozen
    have cE := hVV.e.cell
    have fE := hVV.e.frozen
    have hS64 := hp.1
    obtain ⟨S', hn, hnum⟩ := numsOf_any K HK.out.ok x true (.slice A xs.length cap) ⟨_, _, _, rfl⟩
    have NU := Lib.hid hnum
    have HVV := Lib.hid hVV
    have HP := Lib.hid hp
    have hor : bits .or .u64 ((S : Nat) : Int) ((S' : Nat) : Int) = ((S ||| S' : Nat) : Int) := u64_or_nat S S' hS64 hn.1
    have HNU := Lib.hid hn
    obtain ⟨U, hU⟩ : ∃ U, S ||| S' = U := ⟨_, rfl⟩
    rw [hU] at hor
    have HU := Lib.hid hU
    have zw : z < V.heap.size := by omega
    have zw1 : z + 1 < V.heap.size := by omega
    have zw2 : z + 1 + 1 < V.heap.size := by omega
    have ww : w.heap.size < V.heap.size := by omega
    have wX : X < V.heap.size := by omega
    have n1 : w.heap.size ≠ z := by omega
    have n2 : w.heap.size ≠ z + 1 := by omega
    have n3 : w.heap.size ≠ z + 1 + 1 := by omega
    have m1 : X ≠ z := by omega
    have m2 : X ≠ z + 1 := by omega
    have m3 : X ≠ z + 1 + 1 := by omega
    clear hVV hp hn hnum hU hXb
    by_cases he : e = 0
    · subst he
      obtain ⟨a', e', hw, hp'⟩ := HP.out.good x HNU.out
      have WR := wrong_any K x true (.slice A xs.length cap) V ⟨_, _, _, rfl⟩
      rw [hw] at WR
      have WR := Lib.hid WR
      have HP' := Lib.hid hp'
      clear hw hp'
      gi_wp2_with (refine ⟨trivial, ?_⟩; gi_at_call 71; refine (CallsIn.inRound l (callsIn_wide.2 WR.out)).mono ?_; rintro e w2 ⟨rfl, hb⟩; have qA := (hb.cell (p := ⟨z + 1, 0, none⟩) zw1).trans cA; have yA := (hb.frozen (p := ⟨z + 1, 0, none⟩) zw1).trans fA; have qE := (hb.cell (p := ⟨z + 1 + 1, 0, none⟩) zw2).trans cE; have yE := (hb.frozen (p := ⟨z + 1 + 1, 0, none⟩) zw2).trans fE; have HB := Lib.hid hb; have hs2 := hb.size; clear hb)
      -- the round's second half
      have hV3 := ((HVV.out.below' HB.out).setA hs1 a').setE hs1 e'
      have hO3 : KeepsOthers V ((w2.setCell ⟨z + 1, 0, none⟩ (.int .i64 (a' : Nat))).setCell ⟨z + 1 + 1, 0, none⟩ (.int .i64 (e' : Nat))) := ((KeepsOthers.below HB.out).trans (KeepsOthers.setCell _ _ _)).trans (KeepsOthers.setCell _ _ _)
      have hK3 : KpR W0.heap.size (ownP z) W ((w2.setCell ⟨z + 1, 0, none⟩ (.int .i64 (a' : Nat))).setCell ⟨z + 1 + 1, 0, none⟩ (.int .i64 (e' : Nat))) := HVK.out.trans (((KpR.below HB.out (by omega)).trans (KpR.set _ _ _ (.inr (.inl rfl)))).trans (KpR.set _ _ _ (.inr (.inr rfl))))
      have hs3' : V.heap.size ≤ ((w2.setCell ⟨z + 1, 0, none⟩ (.int .i64 (a' : Nat))).setCell ⟨z + 1 + 1, 0, none⟩ (.int .i64 (e' : Nat))).heap.size := by simp [World.setCell]; exact hs2
      have xs3 : ∀ k, ((w2.setCell ⟨z + 1, 0, none⟩ (.int .i64 (a' : Nat))).setCell ⟨z + 1 + 1, 0, none⟩ (.int .i64 (e' : Nat))).cell? ⟨X, k, none⟩ = V.cell? ⟨X, k, none⟩ := fun k =>
        (World.cell?_of_block (a := ⟨X, k, none⟩) (w := w2) ((Below.heap_setCell _ _ _ X m3).trans (Below.heap_setCell _ _ _ X m2))).trans (HB.out.cell (p := ⟨X, k, none⟩) wX)
      generalize ((w2.setCell ⟨z + 1, 0, none⟩ (.int .i64 (a' : Nat))).setCell ⟨z + 1 + 1, 0, none⟩ (.int .i64 (e' : Nat))) = Y at *
      rw [← xs3 0] at x0
      rw [← xs3 1] at x1
      rw [← xs3 2] at x2
      rw [← xs3 3] at x3
      rw [← xs3 4] at x4
      rw [← xs3 5] at x5
      rw [← xs3 6] at x6
      have ySc := hV3.s.cell
      have ySf := hV3.s.frozen
      obtain ⟨j0, j1, j2, j3⟩ := four_cells hV3.kind
      have HV3 := Lib.hid hV3
      have HO3 := Lib.hid hO3
      have HK3 := Lib.hid hK3
      have zY : z < Y.heap.size := by omega
      clear xs3 hV3 hO3 hK3 qA yA qE yE cS fS cA fA cE fE k0 k1 k2 k3 HB WR
      gi_region_with_o (refine ⟨trivial, ?_⟩; gi_at_call 72; refine (CallsIn.inRound l (callsIn_wide.2 (NU.out _))).mono ?_; rintro e w' ⟨rfl, hb⟩; have q0 := (hb.cell (p := ⟨z, 0, none⟩) zY).trans ySc; have y0 := (hb.frozen (p := ⟨z, 0, none⟩) zY).trans ySf; have HB := Lib.hid hb; clear hb)
      all_goals
        have hb : Below Y.heap.size Y w' := ((Below.refl Y.heap.size Y).drew).trans HB.out
        refine ⟨rfl, (HO3.out.trans (KeepsOthers.below hb)).trans (KeepsOthers.setCell _ _ _), HK3.out.trans ((KpR.below hb (by omega)).trans (KpR.set _ _ _ (.inl rfl))), U, a', e', (HV3.out.below' hb).setS hs1 U, ?_⟩
        rw [← HU.out]
        exact HP'.out
    · have te : ((e : Int) == 0) = false := by rw [beq_eq_false_iff_ne]; omega
      have te' : (e == 0) = false := by rw [beq_eq_false_iff_ne]; omega
      gi_wp2
      gi_region_with_o (refine ⟨trivial, ?_⟩; gi_at_call 72; refine (CallsIn.inRound l (callsIn_wide.2 (NU.out _))).mono ?_; rintro e w' ⟨rfl, hb⟩; have q0 := (hb.cell (p := ⟨z, 0, none⟩) zw).trans cS; have y0 := (hb.frozen (p := ⟨z, 0, none⟩) zw).trans fS; have HB := Lib.hid hb; clear hb)
      all_goals
        have hb : Below V.heap.size V w' := ((Below.refl V.heap.size V).drew).trans HB.out
        refine ⟨rfl, (KeepsOthers.below hb).trans (KeepsOthers.setCell _ _ _), HVK.out.trans ((KpR.below hb (by omega)).trans (KpR.set _ _ _ (.inl rfl))), U, a, e, (HVV.out.below' hb).setS hs1 U, ?_⟩
        rw [← HU.out]
        exact HP.out.more he x HNU.out
  case done =>
    rintro D ys W hD ⟨rfl, st, hr, hst⟩ ⟨S, a, e, hVV, hp⟩ hKd
    have c5 := hr.cell 5
    have c13 := hr.cell 13
    simp only [RS.cells, List.getElem?_toArray, List.getElem?_cons_succ, List.getElem?_cons_zero] at c5 c13
    have cS := hVV.s.cell
    have cA := hVV.a.cell
    have fA := hVV.a.frozen
    have cE := hVV.e.cell
    have fE := hVV.e.frozen
    have HVV := Lib.hid hVV
    have HKd := Lib.hid hKd
    have hDl : D < W.heap.size := (Array.getElem?_eq_some_iff.1 hKd).1
    have r1 : z + 1 + 1 + 1 ≠ z + 1 := by omega
    have r2 : z + 1 + 1 + 1 ≠ z + 1 + 1 := by omega
    rcases hst with ⟨hw, hn⟩ | ⟨hw, hn⟩
    · rw [hw] at c13
      rcases hp.2 with ⟨hb, hS, rfl, rfl⟩ | ⟨q, hb, rfl, rfl⟩
      · have e : Fld.parse K s.data.toList = (S, s.data.toList == [42], 0, 0) := by unfold Fld.parse; rw [hn, hS]; simp only [hb]
        obtain ⟨b, hsb⟩ : ∃ b, (s.data.toList == [42]) = b := ⟨_, rfl⟩
        rw [hsb] at e
        obtain ⟨sb1, sb2⟩ := is_star s b hsb
        have E := Lib.hid e
        clear hn hw hb hp hr hVV hKd e hS hsb
        gi_wp2
        refine ⟨by simp, .inl ⟨_, _, rfl, run_takeDeferred (w := W) HKd.out, ?_⟩⟩
        exact ⟨_, results_four rfl _ _ _, by rw [E.out]; rfl, below_put HVV.out.below (by omega) _⟩
      · have e : Fld.parse K s.data.toList = (0, false, a, 2) := by unfold Fld.parse; rw [hn]; simp only [hb]
        have E := Lib.hid e
        clear hn hw hb hp hr hVV hKd e
        gi_wp2
        refine wpIn_wide.2 ?_
        go_quiet (fail)
        gi_wp2
        refine ⟨by simp, .inl ⟨_, _, rfl, run_takeDeferred (w := W.drewN nq) HKd.out, ?_⟩⟩
        exact ⟨_, results_four rfl _ _ _, by rw [E.out]; rfl, below_put (HVV.out.below.trans (below_drewN _ _ _)) (by omega) _⟩
    · have e : Fld.parse K s.data.toList = (0, false, st.at_, 10) := by unfold Fld.parse; rw [hn]
      have E := Lib.hid e
      rw [hw] at c13
      clear hn hw hp hr hVV hKd e
      gi_wp2
      have hB3 := ((HVV.out.setA hs1 st.at_).setE hs1 10).below
      have hK3 : ((W.setCell ⟨z + 1, 0, none⟩ (.int .i64 (st.at_ : Nat))).setCell ⟨z + 1 + 1, 0, none⟩ (.int .i64 ((10 : Nat) : Int))).heap[D]? = some (.deferred (some [])) := (Below.heap_setCell _ _ _ D (by show D ≠ z + 1 + 1; omega)).trans ((Below.heap_setCell _ _ _ D (by show D ≠ z + 1; omega)).trans HKd.out)
      refine wpIn_wide.2 ?_
      go_quiet (fail)
      gi_wp2
      refine ⟨by simp, .inl ⟨_, _, rfl, run_takeDeferred (w := World.drewN _ nq) hK3, ?_⟩⟩
      exact ⟨_, results_four rfl _ _ _, by rw [E.out]; rfl, below_put (hB3.trans (below_drewN _ _ _)) (by omega) _⟩
end
/-- what Parse returns, for any kind -/
theorem parse_yes (K : Fld.Kd) (v : Value) (xs : List ByteArray) (s : ByteArray) (w : World) (hv : IsStrs w v xs) (hk : KdIs K.lo K.hi xs K.week K) (hs : s.size ≤ 9223372036854775000) :
    Calls Tryz.prog 37 #[.agg #[.int .i64 K.lo, .int .i64 K.hi, v, .bool K.week], .string s] w fun e w' =>
      e = .returned (.tuple #[.int .u64 ((Fld.parse K s.data.toList).1 : Nat), .bool (Fld.parse K s.data.toList).2.1, .int .i64 ((Fld.parse K s.data.toList).2.2.1 : Nat), .int .i64 ((Fld.parse K s.data.toList).2.2.2 : Nat)]) ∧ Below w.heap.size w w' :=
  callsIn_wide.1 (parse_in 6 (by omega) K v xs s w hv hk hs)
end Go.Proofs.YtpnfifhanmpapaaGreatDoor
