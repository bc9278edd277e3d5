/- The expression that a text or a macro stands for, and its normal text, as the document finds them: contracts of Parse, Macro and Normal of wakemanref07. -/
import Derived.Test.YtpnfifhanmpapaaGreatDoorExpRd
import Derived.Test.YtpnfifhanmpapaaGreatDoorExpRe
import Derived.Test.YtpnfifhanmpapaaGreatDoorFldMM
import Derived.Laws.OwnMore
namespace Go.Proofs.YtpnfifhanmpapaaGreatDoor
open Go.ChangeShapes Go.WideShapes Go.RowKit Go.Shelf

/-- words and places that were found, in rows of the call's own; the block of the result -/
structure WF (w : World) (gu gd : Nat) (ws : List (Nat × List UInt8)) (W : World) : Prop where
  below : Below w.heap.size w W
  res : Row W w.heap.size 25 (exL Exp.zero)
  lu : gu < W.heap.size
  ld : gd < W.heap.size
  nu : w.heap.size < gu
  nd : w.heap.size < gd
  u : ∀ (j : Nat) (x : Nat × List UInt8), ws[j]? = some x → W.cell? ⟨gu, j, none⟩ = some (.string ⟨x.2.toArray⟩)
  d : ∀ (j : Nat) (x : Nat × List UInt8), ws[j]? = some x → W.cell? ⟨gd, j, none⟩ = some (.int .i64 (x.1 : Nat))
theorem WF.next {w W W' : World} {gu gd : Nat} {ws : List (Nat × List UInt8)} (h : WF w gu gd ws W) (hb : Below W.heap.size W W') : WF w gu gd ws W' :=
  ⟨h.below.trans (hb.mono h.below.size), h.res.below hb, Nat.lt_of_lt_of_le h.lu hb.size, Nat.lt_of_lt_of_le h.ld hb.size, h.nu, h.nd,
    fun j x q => (hb.cell (p := ⟨gu, j, none⟩) h.lu).trans (h.u j x q), fun j x q => (hb.cell (p := ⟨gd, j, none⟩) h.ld).trans (h.d j x q)⟩
theorem wf_of {w W : World} {ws : List (Nat × List UInt8)} {vu vd : Value} (h : WT (w.alloc (.cells (exL Exp.zero).toArray 25)) ws vu vd W) (hn : 0 < ws.length) :
    ∃ gu cu gd cd, vu = .slice (some ⟨gu, 0, none⟩) ws.length cu ∧ vd = .slice (some ⟨gd, 0, none⟩) ws.length cd ∧ WF w gu gd ws W := by
  have hu := h.up
  have hd := h.down
  rw [wsV_len] at hu
  rw [psV_len] at hd
  obtain ⟨gu, cu, eu, lu, _, hcu⟩ := own_spot hu hn
  obtain ⟨gd, cd, ed, ld, _, hcd⟩ := own_spot hd hn
  have bu := (hu.lt gu (by rw [eu]; rfl)).1
  have bd := (hd.lt gd (by rw [ed]; rfl)).1
  rw [World.size_alloc] at bu bd
  have B0 : Below w.heap.size w W := ((Below.refl _ w).alloc (Nat.le_refl _) _).trans (h.below.mono (by simp))
  refine ⟨gu, cu, gd, cd, eu, ed, B0, (Row.new w _ _).below h.below, lu, ld, by omega, by omega, fun j x q => ?_, fun j x q => ?_⟩
  · exact hcu j _ (by unfold wsV; rw [List.getElem?_map, q]; rfl)
  · exact hcd j _ (by unfold psV; rw [List.getElem?_map, q]; rfl)
theorem wt_len {w W : World} {ws : List (Nat × List UInt8)} {vu vd : Value} (h : WT w ws vu vd W) : ∃ A c B e, vu = .slice A ws.length c ∧ vd = .slice B ws.length e := by
  have hu := h.up
  have hd := h.down
  rw [wsV_len] at hu
  rw [psV_len] at hd
  have f : ∀ {v : Value} {t : TypeId} {cs : List Value}, W.ownsRow w.heap.size t 1 v ws.length cs → ∃ A c, v = .slice A ws.length c := fun q => by
    rcases q.2 with ⟨rfl, hk⟩ | ⟨g, cap, cur, rfl, _⟩
    · exact ⟨none, 0, by rw [hk]⟩
    · exact ⟨_, _, rfl⟩
  obtain ⟨A, c, e1⟩ := f hu
  obtain ⟨B, e, e2⟩ := f hd
  exact ⟨A, c, B, e, e1, e2⟩
theorem two_lit (w : World) (tu td : TypeId) (a b : Value) : TwoR w tu td (.slice (some ⟨w.heap.size, 0, none⟩) 1 1) (.slice (some ⟨w.heap.size + 1, 0, none⟩) 1 1) [a] [b] ((w.alloc (.cells #[a] tu)).alloc (.cells #[b] td)) := by
  have h1 := (World.ownsRow_lit (base := w.heap.size) (e := tu) (size := 1) w #[a] 1 (Nat.le_refl _) (by decide) rfl).alloc (.cells #[b] td)
  have h2 := World.ownsRow_lit (base := w.heap.size) (e := td) (size := 1) (w.alloc (.cells #[a] tu)) #[b] 1 (by simp) (by decide) rfl
  rw [World.size_alloc] at h2
  refine ⟨h1, h2, fun g h => ?_, ((Below.refl _ w).alloc (Nat.le_refl _) _).alloc (by simp) _⟩
  simp [Value.ownBlock] at h ⊢
  omega
def stA (ws : List (Nat × List UInt8)) (m : Nat) : List Value := (List.range m).map fun j => .int .u64 (Exp.setAt ws j : Nat)
def stB (ws : List (Nat × List UInt8)) (m : Nat) : List Value := (List.range m).map fun j => .bool (Exp.starAt ws j)
theorem stA_len (ws : List (Nat × List UInt8)) (m : Nat) : (stA ws m).length = m := by simp [stA]
theorem stB_len (ws : List (Nat × List UInt8)) (m : Nat) : (stB ws m).length = m := by simp [stB]
theorem stA_snoc (ws : List (Nat × List UInt8)) (m : Nat) : stA ws (m + 1) = stA ws m ++ [.int .u64 (Exp.setAt ws m : Nat)] := by simp [stA, List.range_succ]
theorem stB_snoc (ws : List (Nat × List UInt8)) (m : Nat) : stB ws (m + 1) = stB ws m ++ [.bool (Exp.starAt ws m)] := by simp [stB, List.range_succ]
theorem stA_at (ws : List (Nat × List UInt8)) {m j : Nat} (h : j < m) : (stA ws m)[j]? = some (.int .u64 (Exp.setAt ws j : Nat)) := by simp [stA, List.getElem?_range h]
theorem stB_at (ws : List (Nat × List UInt8)) {m j : Nat} (h : j < m) : (stB ws m)[j]? = some (.bool (Exp.starAt ws j)) := by simp [stB, List.getElem?_range h]
theorem exOf_at (ws : List (Nat × List UInt8)) (j : Nat) (h : j < 6) : (Exp.exOf ws).at j = Exp.setAt ws j := six_cases h (P := fun j => (Exp.exOf ws).at j = Exp.setAt ws j) rfl rfl rfl rfl rfl rfl
theorem infoU7 : (Tryz.prog.info? 23).map (fun i => (i.zero, i.size, i.bytes)) = some (some (.int .u64 0), 1, 8) := by kernel_rfl
theorem infoB7 : (Tryz.prog.info? 4).map (fun i => (i.zero, i.size, i.bytes)) = some (some (.bool false), 1, 1) := by kernel_rfl
/-- the world behind the loop: the sets in a row at gl, the stars at gs -/
structure FN (w : World) (gl gs : Nat) (x : Exp.Ex) (W : World) : Prop where
  below : Below w.heap.size w W
  res : Row W w.heap.size 25 (exL Exp.zero)
  ll : gl < W.heap.size
  ls : gs < W.heap.size
  ns : w.heap.size ≠ gs
  l : ∀ j, j < 6 → W.cell? ⟨gl, j, none⟩ = some (.int .u64 (x.at j))
  s3 : W.cell? ⟨gs, 3, none⟩ = some (.bool x.b3)
  s5 : W.cell? ⟨gs, 5, none⟩ = some (.bool x.b5)
theorem FN.next {w W W' : World} {gl gs : Nat} {x : Exp.Ex} (h : FN w gl gs x W) (hb : Below W.heap.size W W') : FN w gl gs x W' :=
  ⟨h.below.trans (hb.mono h.below.size), h.res.below hb, Nat.lt_of_lt_of_le h.ll hb.size, Nat.lt_of_lt_of_le h.ls hb.size, h.ns,
    fun j q => (hb.cell (p := ⟨gl, j, none⟩) h.ll).trans (h.l j q), (hb.cell (p := ⟨gs, 3, none⟩) h.ls).trans h.s3, (hb.cell (p := ⟨gs, 5, none⟩) h.ls).trans h.s5⟩
theorem FN.drew {w W : World} {gl gs : Nat} {x : Exp.Ex} (h : FN w gl gs x W) : FN w gl gs x W.drew := h.next (Below.refl _ _).drew
theorem FN.made {w W : World} {gl gs : Nat} {x : Exp.Ex} (h : FN w gl gs x W) (cap : Nat) :
    Calls Tryz.prog 46 #[.slice (some ⟨gl, 0, none⟩) 6 cap, .bool x.b3, .bool x.b5] W fun e W' => e = .returned (.agg #[.int .u64 x.a0, .int .u64 x.a1, .int .u64 x.a2, .int .u64 x.a3, .int .u64 x.a4, .int .u64 x.a5, .bool x.b3, .bool x.b5]) ∧ FN w gl gs x W' :=
  (made7_any x gl cap W h.ll h.l).mono fun _ _ ⟨a, b⟩ => ⟨a, h.next b⟩
theorem wt_at {ws : List (Nat × List UInt8)} {k : Nat} (h : k < ws.length) : ws[k]? = some (Exp.wAt ws k) := by
  unfold Exp.wAt
  rw [List.getD_eq_getElem?_getD, List.getElem?_eq_getElem h]
  rfl
theorem six_at0 {ws : List (Nat × List UInt8)} (h : ws.length = 6) (k : Nat) : Exp.wAt (Exp.six ws) k = Exp.wAt ws k := by unfold Exp.six; rw [if_neg (by omega)]
theorem six_at1 {ws : List (Nat × List UInt8)} (h : ws.length = 5) (k : Nat) : Exp.wAt (Exp.six ws) (k + 1) = Exp.wAt ws k := by unfold Exp.six; rw [if_pos h]; simp [Exp.wAt]

def QInv0 (w1 : World) (W6 : List (Nat × List UInt8)) (k gu gd cu cd S m f : Nat) (st : Bool) (t : ByteArray) (vl vs : Value) (u0 u1 u2 u3 u4 u7 u8 u17 u18 u19 u20 u21 u22 u23 u24 u25 u26 u27 u28 u29 u30 u31 u32 u33 u34 u35 u36 u37 u38 u39 u40 u41 u42 u43 u44 u45 u46 u47 u48 u49 u50 u51 u52 u53 u54 u55 u56 u57 u58 u59 u60 u61 u62 u63 u64 u65 u66 u67 u68 u69 u86 u87 u88 u89 u90 u91 u92 u93 u94 u95 u96 u97 u98 u99 u100 u101 u102 u103 u104 u105 u106 u107 u108 u109 u110 u111 : Value) (g : Nat → Bool) (c : Act) (W : World) : Prop := ∃ v13 v14 v15 v16 v70 v71 v72 v73 v74 v75 v76 v77 v78 v79 v80 v81 v82 v83 v84 v85,
  c = { tmps := #[u0, u1, u2, u3, u4, .slice (some ⟨gu, 0, none⟩) 6 cu, .slice (some ⟨gd, 0, none⟩) 6 cd, u7, u8, vl, vs, .int .i64 0, .int .i64 k, v13, v14, v15, v16, u17, u18, u19, u20, u21, u22, u23, u24, u25, u26, u27, u28, u29, u30, u31, u32, u33, u34, u35, u36, u37, u38, u39, u40, u41, u42, u43, u44, u45, u46, u47, u48, u49, u50, u51, u52, u53, u54, u55, u56, u57, u58, u59, u60, u61, u62, u63, u64, u65, u66, u67, u68, u69, v70, v71, v72, v73, v74, v75, v76, v77, v78, v79, v80, v81, v82, v83, v84, v85, u86, u87, u88, u89, u90, u91, u92, u93, u94, u95, u96, u97, u98, u99, u100, u101, u102, u103, u104, u105, u106, u107, u108, u109, u110, u111], defers := [] } ∧ TwoR w1 23 4 vl vs (stA W6 (k + 0)) (stB W6 (k + 0)) W ∧ (g 0 = true → SpS W v71) ∧ (g 1 = true → v72 = .int .i64 0) ∧ (g 2 = true → v73 = .int .i64 k) ∧ (g 3 = true → v74 = .int .i64 k) ∧ (g 4 = true → SpP W (k) v75) ∧ (g 5 = true → SpN W (k) v76) ∧ (g 6 = true → v77 = .slice (some ⟨gu, 0, none⟩) 6 cu) ∧ (g 7 = true → v78 = .int .i64 k) ∧ (g 8 = true → v79 = .pointer (some ⟨gu, k, none⟩)) ∧ (g 9 = true → v80 = .string t) ∧ (g 10 = true → v81 = .tuple #[.int .u64 S, .bool st, .int .i64 m, .int .i64 f]) ∧ (g 11 = true → v70 = .tuple #[.int .u64 S, .bool st, .int .i64 m, .int .i64 f]) ∧ (g 12 = true → v82 = .int .u64 S) ∧ (g 13 = true → v83 = .bool st) ∧ (g 14 = true → v84 = .int .i64 m) ∧ (g 15 = true → v85 = .int .i64 f) ∧ (g 16 = true → v13 = .int .u64 S) ∧ (g 17 = true → v14 = .bool st) ∧ (g 18 = true → v15 = .int .i64 m) ∧ (g 19 = true → v16 = .int .i64 f)
def QInv1 (w1 : World) (W6 : List (Nat × List UInt8)) (k gu gd cu cd S m f : Nat) (st : Bool) (t : ByteArray) (vl vs : Value) (u0 u1 u2 u3 u4 u7 u8 u17 u18 u19 u20 u21 u22 u23 u24 u25 u26 u27 u28 u29 u30 u31 u32 u33 u34 u35 u36 u37 u38 u39 u40 u41 u42 u43 u44 u45 u46 u47 u48 u49 u50 u51 u52 u53 u54 u55 u56 u57 u58 u59 u60 u61 u62 u63 u64 u65 u66 u67 u68 u69 u86 u87 u88 u89 u90 u91 u92 u93 u94 u95 u96 u97 u98 u99 u100 u101 u102 u103 u104 u105 u106 u107 u108 u109 u110 u111 : Value) (g : Nat → Bool) (c : Act) (W : World) : Prop := ∃ v13 v14 v15 v16 v70 v71 v72 v73 v74 v75 v76 v77 v78 v79 v80 v81 v82 v83 v84 v85,
  c = { tmps := #[u0, u1, u2, u3, u4, .slice (some ⟨gu, 0, none⟩) 5 cu, .slice (some ⟨gd, 0, none⟩) 5 cd, u7, u8, vl, vs, .int .i64 1, .int .i64 k, v13, v14, v15, v16, u17, u18, u19, u20, u21, u22, u23, u24, u25, u26, u27, u28, u29, u30, u31, u32, u33, u34, u35, u36, u37, u38, u39, u40, u41, u42, u43, u44, u45, u46, u47, u48, u49, u50, u51, u52, u53, u54, u55, u56, u57, u58, u59, u60, u61, u62, u63, u64, u65, u66, u67, u68, u69, v70, v71, v72, v73, v74, v75, v76, v77, v78, v79, v80, v81, v82, v83, v84, v85, u86, u87, u88, u89, u90, u91, u92, u93, u94, u95, u96, u97, u98, u99, u100, u101, u102, u103, u104, u105, u106, u107, u108, u109, u110, u111], defers := [] } ∧ TwoR w1 23 4 vl vs (stA W6 (k + 1)) (stB W6 (k + 1)) W ∧ (g 0 = true → SpS W v71) ∧ (g 1 = true → v72 = .int .i64 1) ∧ (g 2 = true → v73 = .int .i64 k) ∧ (g 3 = true → v74 = .int .i64 ((k + 1 : Nat) : Int)) ∧ (g 4 = true → SpP W ((k + 1)) v75) ∧ (g 5 = true → SpN W ((k + 1)) v76) ∧ (g 6 = true → v77 = .slice (some ⟨gu, 0, none⟩) 5 cu) ∧ (g 7 = true → v78 = .int .i64 k) ∧ (g 8 = true → v79 = .pointer (some ⟨gu, k, none⟩)) ∧ (g 9 = true → v80 = .string t) ∧ (g 10 = true → v81 = .tuple #[.int .u64 S, .bool st, .int .i64 m, .int .i64 f]) ∧ (g 11 = true → v70 = .tuple #[.int .u64 S, .bool st, .int .i64 m, .int .i64 f]) ∧ (g 12 = true → v82 = .int .u64 S) ∧ (g 13 = true → v83 = .bool st) ∧ (g 14 = true → v84 = .int .i64 m) ∧ (g 15 = true → v85 = .int .i64 f) ∧ (g 16 = true → v13 = .int .u64 S) ∧ (g 17 = true → v14 = .bool st) ∧ (g 18 = true → v15 = .int .i64 m) ∧ (g 19 = true → v16 = .int .i64 f)
theorem p7_field {W : World} (i : Nat) (hi : i < 6) (t : ByteArray) (ht : t.size ≤ 1000) (S n f : Nat) (st : Bool) (hf : Exp.fp i t.data.toList = (S, st, n, f)) (nv : Value) (hn : IsStrs W nv (xs6 i)) :
    Calls Tryz.prog 44 #[.agg #[.int .i64 (kd6 i).lo, .int .i64 (kd6 i).hi, nv, .bool (kd6 i).week], .string t] W fun e W' => e = .returned (.tuple #[.int .u64 S, .bool st, .int .i64 n, .int .i64 f]) ∧ Below W.heap.size W W' := by
  refine (parseR_yes (kd6 i) nv (xs6 i) t W hn (kd6_is i hi) ht).mono fun e W' h => ?_
  unfold ParseOut at h
  unfold Exp.fp at hf
  rw [hf] at h
  exact h

set_option linter.unusedSimpArgs false in
set_option maxRecDepth 100000 in
set_option maxHeartbeats 8000000 in
theorem parse7_plain (s : ByteArray) (hs : s.size ≤ 500) (hm : Exp.isMac (Exp.words s.data.toList) = false) (x : Exp.Ex) (a e : Nat) (hr : Exp.plain s.data.toList = (x, a, e)) (w : World) :
    Calls Tryz.prog 14 #[.string s] w fun r w' => r = .returned (.tuple #[.agg #[.int .u64 x.a0, .int .u64 x.a1, .int .u64 x.a2, .int .u64 x.a3, .int .u64 x.a4, .int .u64 x.a5, .bool x.b3, .bool x.b5], .int .i64 a, .int .i64 e]) ∧ Below w.heap.size w w' := by
  obtain ⟨u0, hu, uz0, uz1, uz2⟩ := info_parts infoU7
  obtain ⟨b0, hbo, bz0, bz1, bz2⟩ := info_parts infoB7
  have WD := Lib.hid (fun w0 : World => words7_any s (by omega) w0)
  have HM := Lib.hid hm
  have HR := Lib.hid hr
  have hsz : s.size = s.data.toList.length := Lib.size_eq s
  have HZ : Hid (s.data.toList.length = s.size ∧ s.size ≤ 500) := Lib.hid ⟨hsz.symm, hs⟩
  clear hm hr hsz
  go_enter Tryz.func14, Tryz.ntmps14
  go_wp2_with fail
  refine (WD.out _).mono ?_
  rintro e' w1 ⟨vu, vd, rfl, hT⟩
  have B1 : Below w.heap.size w w1 := ((Below.refl _ w).alloc (Nat.le_refl _) _).trans (hT.below.mono (by simp))
  have R : Row w1 w.heap.size 25 (exL Exp.zero) := (Row.new w _ _).below hT.below
  have n0 := R.cell 0; have n1 := R.cell 1; have n2 := R.cell 2; have n3 := R.cell 3; have n4 := R.cell 4; have n5 := R.cell 5; have n6 := R.cell 6; have n7 := R.cell 7
  have f0 := R.free 0; have f1 := R.free 1; have f2 := R.free 2; have f3 := R.free 3; have f4 := R.free 4; have f5 := R.free 5; have f6 := R.free 6; have f7 := R.free 7
  simp only [exL, Exp.zero, List.getElem?_cons_zero, List.getElem?_cons_succ, Int.natCast_zero] at n0 n1 n2 n3 n4 n5 n6 n7
  have BW := Lib.hid B1
  have HT := Lib.hid (show WT (w.alloc (.cells (exL Exp.zero).toArray 25)) (Exp.words s.data.toList) vu vd w1 from hT)
  clear B1 R hT WD hs
  by_cases hA : (Exp.words s.data.toList).length < 5
  · have HP : Hid ((x, a, e) = (Exp.zero, s.size, 10)) := Lib.hid (by
      rw [← HR.out]
      unfold Exp.plain
      rw [if_pos hA, HZ.out.1])
    obtain ⟨A, c, B, q, rfl, rfl⟩ := wt_len HT.out
    by_cases h1 : (Exp.words s.data.toList).length = 1
    · obtain ⟨gu, cu, gd, cd, eu, ed, F⟩ := wf_of HT.out (by omega)
      cases eu
      cases ed
      have c0 := F.u 0 _ (wt_at (by omega))
      have hin := (Exp.words_in s.data.toList _ (Exp.wAt_mem (ws := Exp.words s.data.toList) (i := 0) (by omega))).2.1
      have hm := HM.out
      unfold Exp.isMac at hm
      rw [h1] at hm ⊢
      obtain ⟨b, rest, hx⟩ : ∃ b rest, (Exp.wAt (Exp.words s.data.toList) 0).2 = b :: rest := by
        cases hq : (Exp.wAt (Exp.words s.data.toList) 0).2 with
        | nil => exact absurd hq hin
        | cons b rest => exact ⟨b, rest, rfl⟩
      rw [hx] at hm c0
      have hb64 : ¬ b = 64 := by simpa using hm
      have hb64n : b.toNat ≠ 64 := fun e => hb64 (UInt8.toNat_inj.1 e)
      have t1 : ((b.toNat : Int) == 64) = false := by rw [beq_eq_false_iff_ne]; omega
      have t1n : (b.toNat == 64) = false := by rw [beq_eq_false_iff_ne]; omega
      obtain ⟨t, ht⟩ : ∃ t : ByteArray, (⟨(b :: rest).toArray⟩ : ByteArray) = t := ⟨_, rfl⟩
      have tz : 0 < t.size := by rw [← ht]; simp [ByteArray.size]
      have tz' : ((0 : Int) < (t.size : Int)) := by omega
      have tb : t[0]'tz = b := by subst ht; rfl
      simp only [ht] at c0
      clear hm hin hx hb64 ht h1 F HT HM HR hA
      go_wp2_with fail
      have hp := HP.out
      simp only [Prod.mk.injEq] at hp
      obtain ⟨rfl, rfl, rfl⟩ := hp
      refine bodyPost_ret (v := .tuple #[.agg #[.int .u64 0, .int .u64 0, .int .u64 0, .int .u64 0, .int .u64 0, .int .u64 0, .bool false, .bool false], .int .i64 (s.size : Nat), .int .i64 (10 : Nat)]) (by simp [results, Tryz.results14, go_sem, n0, n1, n2, n3, n4, n5, n6, n7]) rfl ⟨rfl, ?_⟩
      have bl := BW.out
      repeat' refine bel_cell ?_ (by omega) _ _
      exact bl
    · obtain ⟨n, hn⟩ : ∃ n, (Exp.words s.data.toList).length = n := ⟨_, rfl⟩
      rw [hn] at hA h1 ⊢
      have t1 : ((n : Int) == 1) = false := by rw [beq_eq_false_iff_ne]; omega
      have t1n : (n == 1) = false := by rw [beq_eq_false_iff_ne]; omega
      have t2 : decide ((n : Int) < 5) = true := by rw [decide_eq_true_iff]; omega
      have t2n : decide (n < 5) = true := by rw [decide_eq_true_iff]; omega
      clear hn hA HT HM HR h1
      go_wp2_with fail
      have hp := HP.out
      simp only [Prod.mk.injEq] at hp
      obtain ⟨rfl, rfl, rfl⟩ := hp
      refine bodyPost_ret (v := .tuple #[.agg #[.int .u64 0, .int .u64 0, .int .u64 0, .int .u64 0, .int .u64 0, .int .u64 0, .bool false, .bool false], .int .i64 (s.size : Nat), .int .i64 (10 : Nat)]) (by simp [results, Tryz.results14, go_sem, n0, n1, n2, n3, n4, n5, n6, n7]) rfl ⟨rfl, ?_⟩
      have bl := BW.out
      repeat' refine bel_cell ?_ (by omega) _ _
      exact bl
  · obtain ⟨gu, cu, gd, cd, rfl, rfl, F⟩ := wf_of HT.out (by omega)
    have H1 := Lib.hid F
    by_cases h7 : 6 < (Exp.words s.data.toList).length
    · have g6 := wt_at (ws := Exp.words s.data.toList) (k := 6) h7
      have cd6 := F.d 6 _ g6
      have HP : Hid ((x, a, e) = (Exp.zero, (Exp.wAt (Exp.words s.data.toList) 6).1, 10)) := Lib.hid (by
        rw [← HR.out]
        unfold Exp.plain
        rw [if_neg (by omega), if_pos h7])
      obtain ⟨p, hp6⟩ : ∃ p, (Exp.wAt (Exp.words s.data.toList) 6).1 = p := ⟨_, rfl⟩
      rw [hp6] at cd6 HP
      obtain ⟨n, hn⟩ : ∃ n, (Exp.words s.data.toList).length = n := ⟨_, rfl⟩
      rw [hn] at h7 ⊢
      have t1 : ((n : Int) == 1) = false := by rw [beq_eq_false_iff_ne]; omega
      have t1n : (n == 1) = false := by rw [beq_eq_false_iff_ne]; omega
      have t2 : decide ((n : Int) < 5) = false := by rw [decide_eq_false_iff_not]; omega
      have t2n : decide (n < 5) = false := by rw [decide_eq_false_iff_not]; omega
      have t3 : decide (6 < (n : Int)) = true := by rw [decide_eq_true_iff]; omega
      have t3n : decide (6 < n) = true := by rw [decide_eq_true_iff]; omega
      have t4 : (6 : Int) < (n : Int) := by omega
      have nd : gd ≠ w.heap.size := by have := F.nd; omega
      have nd2 : w.heap.size ≠ gd := by omega
      have KE : Hid (∀ v0 v1 v2 v3 v4 v5 v6 v7, ((((((((w1.setCell ⟨w.heap.size, 0, none⟩ v0).setCell ⟨w.heap.size, 1, none⟩ v1).setCell ⟨w.heap.size, 2, none⟩ v2).setCell ⟨w.heap.size, 3, none⟩ v3).setCell ⟨w.heap.size, 4, none⟩ v4).setCell ⟨w.heap.size, 5, none⟩ v5).setCell ⟨w.heap.size, 6, none⟩ v6).setCell ⟨w.heap.size, 7, none⟩ v7).cell? ⟨gd, 6, none⟩ = some (.int .i64 (p : Nat))) := Lib.hid (fun v0 v1 v2 v3 v4 v5 v6 v7 => ((set8_grown w1 w.heap.size v0 v1 v2 v3 v4 v5 v6 v7).cell (a := ⟨gd, 6, none⟩) cd6 (fun e => nd (by cases e; rfl))))
      clear g6 hp6 hn HT HM HR hA F H1 hu uz0 uz1 uz2 hbo bz0 bz1 bz2 HZ
      go_wp2_with fail
      go_region_held3 (fun w' => w'.cell? ⟨gd, 6, none⟩ = some (.int .i64 (p : Nat))) (first | (go_keep; done) | exact KE.out _ _ _ _ _ _ _ _) (fail)
      go_wp2_with fail
      have hp := HP.out
      simp only [Prod.mk.injEq] at hp
      obtain ⟨rfl, rfl, rfl⟩ := hp
      refine bodyPost_ret (v := .tuple #[.agg #[.int .u64 0, .int .u64 0, .int .u64 0, .int .u64 0, .int .u64 0, .int .u64 0, .bool false, .bool false], .int .i64 (a : Nat), .int .i64 (10 : Nat)]) (by simp [results, Tryz.results14, go_sem, n0, n1, n2, n3, n4, n5, n6, n7]) rfl ⟨rfl, ?_⟩
      have bl := BW.out
      refine Below.drew ?_
      repeat' refine bel_cell ?_ (by omega) _ _
      exact bl
    · by_cases h6 : (Exp.words s.data.toList).length = 6
      · rw [h6]
        clear n0 n1 n2 n3 n4 n5 n6 n7 f0 f1 f2 f3 f4 f5 f6 f7 F HT HM hA
        have SX := Lib.hid (six_at0 h6)
        obtain ⟨W6, hW6⟩ : ∃ W6, Exp.six (Exp.words s.data.toList) = W6 := ⟨_, rfl⟩
        rw [hW6] at SX
        have hr := HR.out
        unfold Exp.plain at hr
        rw [if_neg (by omega), if_neg (by omega), hW6] at hr
        have HRD := Lib.hid hr
        have T0 : Hid (TwoR w1 23 4 (.slice none 0 0) (.slice none 0 0) (stA W6 (0 + 0)) (stB W6 (0 + 0)) ((w1.alloc (.cells #[.int .u64 1] 23)).alloc (.cells #[.bool false] 4))) := Lib.hid ((TwoR.nil w1 _ _).next (((Below.refl _ w1).alloc (Nat.le_refl _) _).alloc (by simp) _))
        have N0 : Hid (∀ j, j < 0 + 0 → Exp.errAt W6 j = 0) := Lib.hid (fun j h => by omega)
        clear hr hW6
        go_wp2_with fail
        go_loopw [9, 10, 12] (fun va vb it wr => ∃ (k : Nat) (vl vs : Value), vl = va ∧ vs = vb ∧ k ≤ 6 ∧ it = .int .i64 k ∧ Hid (TwoR w1 23 4 vl vs (stA W6 (k + 0)) (stB W6 (k + 0)) wr) ∧ Hid (∀ j, j < k + 0 → Exp.errAt W6 j = 0)) (fun _ _ i _ => 6 - (intOf i).toNat)
        case atStart => exact ⟨0, _, _, rfl, rfl, Nat.zero_le _, rfl, T0, N0⟩
        case round =>
          obtain ⟨k, vl, vs, rfl, rfl, hk, rfl, T, NE⟩ := hrel
          clear T0 N0
          by_cases hlt : k < 6
          · have q1 : decide ((k : Int) < 6) = true := by rw [decide_eq_true_iff]; omega
            have q1n : decide (k < 6) = true := by rw [decide_eq_true_iff]; omega
            have i0 : (0 : Int) ≤ (k : Int) := by omega
            have i1 : (k : Int) < 6 := by omega
            have i5 : (k : Int) < 6 := by omega
            have wk : IntKind.i64.wrap (k : Int) = (k : Int) := by rw [IntKind.wrap_i64]; omega
            have sx := SX.out k
            have wz := Exp.words_in s.data.toList _ (Exp.wAt_mem (ws := Exp.words s.data.toList) (i := k) (by omega))
            have g1 := wt_at (ws := Exp.words s.data.toList) (k := k) (by omega)
            obtain ⟨⟨p, t0⟩, hx⟩ : ∃ q, Exp.wAt (Exp.words s.data.toList) k = q := ⟨_, rfl⟩
            rw [hx] at sx wz g1
            simp only at wz
            obtain ⟨t, ht⟩ : ∃ t : ByteArray, (⟨t0.toArray⟩ : ByteArray) = t := ⟨_, rfl⟩
            have tl : t.data.toList = t0 := by rw [← ht]
            have tz : t.size ≤ 1000 := by rw [Lib.size_eq, tl]; have := wz.1; have := HZ.out; omega
            have ph : p ≤ 100000 := by have := wz.1; have := HZ.out; omega
            obtain ⟨⟨S, st, m, f⟩, hf⟩ : ∃ q, Exp.fp k t.data.toList = q := ⟨_, rfl⟩
            have mh : m ≤ 100000 := by
              by_cases z : f = 0
              · have := (Fld.parse_good (Exp.kd_ok (i := k) (by omega)) t.data.toList (by unfold Exp.fp at hf; rw [hf]; exact z)).2.2.2.1
                unfold Exp.fp at hf
                rw [hf] at this
                simp only at this
                omega
              · have := (Fld.parse_bad (K := kd6 k) t.data.toList (by unfold Exp.fp at hf; rw [hf]; exact z)).2.2.1
                unfold Exp.fp at hf
                rw [hf] at this
                simp only at this
                rw [Lib.size_eq] at tz
                omega
            have CU := Lib.hid (fun (W : World) (b : Below w1.heap.size w1 W) => show W.cell? ⟨gu, k, none⟩ = some (.string t) from by have := ((H1.out.next b).u k _ g1); rw [ht] at this; exact this)
            have CD := Lib.hid (fun (W : World) (b : Below w1.heap.size w1 W) => show W.cell? ⟨gd, k, none⟩ = some (.int .i64 (p : Nat)) from (H1.out.next b).d k _ g1)
            have PT := Lib.hid (fun (W : World) (nv : Value) (hn : IsStrs W nv (xs6 k)) => p7_field k (by omega) t tz S m f st hf nv hn)
            have ES := Lib.hid (show Exp.setAt W6 k = S ∧ Exp.starAt W6 k = st ∧ Exp.errAt W6 k = f ∧ Exp.placeAt W6 k = p + m from by
              unfold Exp.setAt Exp.starAt Exp.errAt Exp.placeAt
              rw [sx]
              simp only
              rw [← tl, hf]
              exact ⟨rfl, rfl, rfl, rfl⟩)
            clear sx wz g1 hx ht tl hf
            go_wp2_with fail
            apply wp_region_inv (QInv0 w1 W6 k gu gd cu cd S m f st t vl vs _ _ _ _ _ _ _ _ _ _ _ _ _ _ _ _ _ _ _ _ _ _ _ _ _ _ _ _ _ _ _ _ _ _ _ _ _ _ _ _ _ _ _ _ _ _ _ _ _ _ _ _ _ _ _ _ _ _ _ _ _ _ _ _ _ _ _ _ _ _ _ _ _ _ _ _ _ _ _ _ _ _ _ _ _ _) (by kernel_rfl)
            case h0 => exact ⟨_, _, _, _, _, _, _, _, _, _, _, _, _, _, _, _, _, _, _, _, rfl, (T.out.next (Below.refl _ _).drew), (fun h => by cases h), (fun h => by cases h), (fun h => by cases h), (fun h => by cases h), (fun h => by cases h), (fun h => by cases h), (fun h => by cases h), (fun h => by cases h), (fun h => by cases h), (fun h => by cases h), (fun h => by cases h), (fun h => by cases h), (fun h => by cases h), (fun h => by cases h), (fun h => by cases h), (fun h => by cases h), (fun h => by cases h), (fun h => by cases h), (fun h => by cases h), (fun h => by cases h)⟩
            case htopo => kernel_rfl
            case hstep =>
              intro i o g c W ho hI hg hdep K' hK
              obtain ⟨v13, v14, v15, v16, v70, v71, v72, v73, v74, v75, v76, v77, v78, v79, v80, v81, v82, v83, v84, v85, rfl, hM, q0, q1, q2, q3, q4, q5, q6, q7, q8, q9, q10, q11, q12, q13, q14, q15, q16, q17, q18, q19⟩ := hI
              have hi : i < 20 := (Array.getElem?_eq_some_iff.1 ho).1
              rcases (show i = 0 ∨ i = 1 ∨ i = 2 ∨ i = 3 ∨ i = 4 ∨ i = 5 ∨ i = 6 ∨ i = 7 ∨ i = 8 ∨ i = 9 ∨ i = 10 ∨ i = 11 ∨ i = 12 ∨ i = 13 ∨ i = 14 ∨ i = 15 ∨ i = 16 ∨ i = 17 ∨ i = 18 ∨ i = 19 by omega) with rfl | rfl | rfl | rfl | rfl | rfl | rfl | rfl | rfl | rfl | rfl | rfl | rfl | rfl | rfl | rfl | rfl | rfl | rfl | rfl
              · simp only [List.getElem?_toArray, List.getElem?_cons_zero, Option.some.injEq] at ho
                subst ho
                clear hdep
                go_simp
                refine (specsR_any _).mono ?_
                rintro e W2 ⟨rfl, hb, h6⟩
                go_simp
                exact hK.out _ _ ⟨_, _, _, _, _, _, _, _, _, _, _, _, _, _, _, _, _, _, _, _, rfl, hM.next hb, fun _ => ⟨_, _, rfl, h6⟩, q1, q2, q3, (fun h => (q4 h).next hb), (fun h => (q5 h).next hb), q6, q7, q8, q9, q10, q11, q12, q13, q14, q15, q16, q17, q18, q19⟩
              · simp only [List.getElem?_toArray, List.getElem?_cons_zero, List.getElem?_cons_succ, Option.some.injEq] at ho
                subst ho
                clear hdep
                go_simp
                exact hK.out _ _ ⟨_, _, _, _, _, _, _, _, _, _, _, _, _, _, _, _, _, _, _, _, rfl, hM, q0, fun _ => rfl, q2, q3, q4, q5, q6, q7, q8, q9, q10, q11, q12, q13, q14, q15, q16, q17, q18, q19⟩
              · simp only [List.getElem?_toArray, List.getElem?_cons_zero, List.getElem?_cons_succ, Option.some.injEq] at ho
                subst ho
                clear hdep
                go_simp
                exact hK.out _ _ ⟨_, _, _, _, _, _, _, _, _, _, _, _, _, _, _, _, _, _, _, _, rfl, hM, q0, q1, fun _ => rfl, q3, q4, q5, q6, q7, q8, q9, q10, q11, q12, q13, q14, q15, q16, q17, q18, q19⟩
              · simp only [List.getElem?_toArray, List.getElem?_cons_zero, List.getElem?_cons_succ, Option.some.injEq] at ho
                subst ho
                have r1 := q1 (hdep ⟨1, .data⟩ (by simp) rfl)
                subst r1
                have r2 := q2 (hdep ⟨2, .data⟩ (by simp) rfl)
                subst r2
                clear hdep
                go_simp
                exact hK.out _ _ ⟨_, _, _, _, _, _, _, _, _, _, _, _, _, _, _, _, _, _, _, _, rfl, hM, q0, q1, q2, fun _ => rfl, q4, q5, q6, q7, q8, q9, q10, q11, q12, q13, q14, q15, q16, q17, q18, q19⟩
              · simp only [List.getElem?_toArray, List.getElem?_cons_zero, List.getElem?_cons_succ, Option.some.injEq] at ho
                subst ho
                have r0 := q0 (hdep ⟨0, .data⟩ (by simp) rfl)
                obtain ⟨B, n, rfl, h6⟩ := r0
                have r3 := q3 (hdep ⟨3, .data⟩ (by simp) rfl)
                subst r3
                clear hdep
                go_simp
                exact hK.out _ _ ⟨_, _, _, _, _, _, _, _, _, _, _, _, _, _, _, _, _, _, _, _, rfl, hM, q0, q1, q2, q3, fun _ => ⟨_, _, rfl, h6⟩, q5, q6, q7, q8, q9, q10, q11, q12, q13, q14, q15, q16, q17, q18, q19⟩
              · simp only [List.getElem?_toArray, List.getElem?_cons_zero, List.getElem?_cons_succ, Option.some.injEq] at ho
                subst ho
                have r4 := q4 (hdep ⟨4, .data⟩ (by simp) rfl)
                obtain ⟨B2, n2, rfl, h62⟩ := r4
                clear hdep
                obtain ⟨c0, c1, c2, c3⟩ := h62.cells k (by omega)
                have sk := h62.strs k (by omega)
                obtain ⟨nA, nc, en, _⟩ := h62.strs k (by omega)
                rw [en] at c2 sk
                go_simp
                exact hK.out _ _ ⟨_, _, _, _, _, _, _, _, _, _, _, _, _, _, _, _, _, _, _, _, rfl, hM, q0, q1, q2, q3, q4, fun _ => ⟨_, rfl, sk⟩, q6, q7, q8, q9, q10, q11, q12, q13, q14, q15, q16, q17, q18, q19⟩
              · simp only [List.getElem?_toArray, List.getElem?_cons_zero, List.getElem?_cons_succ, Option.some.injEq] at ho
                subst ho
                clear hdep
                go_simp
                exact hK.out _ _ ⟨_, _, _, _, _, _, _, _, _, _, _, _, _, _, _, _, _, _, _, _, rfl, hM, q0, q1, q2, q3, q4, q5, fun _ => rfl, q7, q8, q9, q10, q11, q12, q13, q14, q15, q16, q17, q18, q19⟩
              · simp only [List.getElem?_toArray, List.getElem?_cons_zero, List.getElem?_cons_succ, Option.some.injEq] at ho
                subst ho
                clear hdep
                go_simp
                exact hK.out _ _ ⟨_, _, _, _, _, _, _, _, _, _, _, _, _, _, _, _, _, _, _, _, rfl, hM, q0, q1, q2, q3, q4, q5, q6, fun _ => rfl, q8, q9, q10, q11, q12, q13, q14, q15, q16, q17, q18, q19⟩
              · simp only [List.getElem?_toArray, List.getElem?_cons_zero, List.getElem?_cons_succ, Option.some.injEq] at ho
                subst ho
                have r6 := q6 (hdep ⟨6, .data⟩ (by simp) rfl)
                subst r6
                have r7 := q7 (hdep ⟨7, .data⟩ (by simp) rfl)
                subst r7
                clear hdep
                go_simp
                exact hK.out _ _ ⟨_, _, _, _, _, _, _, _, _, _, _, _, _, _, _, _, _, _, _, _, rfl, hM, q0, q1, q2, q3, q4, q5, q6, q7, fun _ => rfl, q9, q10, q11, q12, q13, q14, q15, q16, q17, q18, q19⟩
              · simp only [List.getElem?_toArray, List.getElem?_cons_zero, List.getElem?_cons_succ, Option.some.injEq] at ho
                subst ho
                have r8 := q8 (hdep ⟨8, .data⟩ (by simp) rfl)
                subst r8
                clear hdep
                have u := CU.out _ hM.below
                go_simp
                exact hK.out _ _ ⟨_, _, _, _, _, _, _, _, _, _, _, _, _, _, _, _, _, _, _, _, rfl, hM, q0, q1, q2, q3, q4, q5, q6, q7, q8, fun _ => rfl, q10, q11, q12, q13, q14, q15, q16, q17, q18, q19⟩
              · simp only [List.getElem?_toArray, List.getElem?_cons_zero, List.getElem?_cons_succ, Option.some.injEq] at ho
                subst ho
                have r5 := q5 (hdep ⟨5, .data⟩ (by simp) rfl)
                obtain ⟨nv, rfl, hn⟩ := r5
                have r9 := q9 (hdep ⟨9, .data⟩ (by simp) rfl)
                subst r9
                clear hdep
                go_simp
                refine (PT.out _ nv hn).mono ?_
                rintro e W2 ⟨rfl, hb⟩
                go_simp
                exact hK.out _ _ ⟨_, _, _, _, _, _, _, _, _, _, _, _, _, _, _, _, _, _, _, _, rfl, hM.next hb, (fun h => (q0 h).next hb), q1, q2, q3, (fun h => (q4 h).next hb), (fun h => (q5 h).next hb), q6, q7, q8, q9, fun _ => rfl, q11, q12, q13, q14, q15, q16, q17, q18, q19⟩
              · simp only [List.getElem?_toArray, List.getElem?_cons_zero, List.getElem?_cons_succ, Option.some.injEq] at ho
                subst ho
                have r10 := q10 (hdep ⟨10, .data⟩ (by simp) rfl)
                subst r10
                clear hdep
                go_simp
                exact hK.out _ _ ⟨_, _, _, _, _, _, _, _, _, _, _, _, _, _, _, _, _, _, _, _, rfl, hM, q0, q1, q2, q3, q4, q5, q6, q7, q8, q9, q10, fun _ => rfl, q12, q13, q14, q15, q16, q17, q18, q19⟩
              · simp only [List.getElem?_toArray, List.getElem?_cons_zero, List.getElem?_cons_succ, Option.some.injEq] at ho
                subst ho
                have r11 := q11 (hdep ⟨11, .data⟩ (by simp) rfl)
                subst r11
                clear hdep
                go_simp
                exact hK.out _ _ ⟨_, _, _, _, _, _, _, _, _, _, _, _, _, _, _, _, _, _, _, _, rfl, hM, q0, q1, q2, q3, q4, q5, q6, q7, q8, q9, q10, q11, fun _ => rfl, q13, q14, q15, q16, q17, q18, q19⟩
              · simp only [List.getElem?_toArray, List.getElem?_cons_zero, List.getElem?_cons_succ, Option.some.injEq] at ho
                subst ho
                have r11 := q11 (hdep ⟨11, .data⟩ (by simp) rfl)
                subst r11
                clear hdep
                go_simp
                exact hK.out _ _ ⟨_, _, _, _, _, _, _, _, _, _, _, _, _, _, _, _, _, _, _, _, rfl, hM, q0, q1, q2, q3, q4, q5, q6, q7, q8, q9, q10, q11, q12, fun _ => rfl, q14, q15, q16, q17, q18, q19⟩
              · simp only [List.getElem?_toArray, List.getElem?_cons_zero, List.getElem?_cons_succ, Option.some.injEq] at ho
                subst ho
                have r11 := q11 (hdep ⟨11, .data⟩ (by simp) rfl)
                subst r11
                clear hdep
                go_simp
                exact hK.out _ _ ⟨_, _, _, _, _, _, _, _, _, _, _, _, _, _, _, _, _, _, _, _, rfl, hM, q0, q1, q2, q3, q4, q5, q6, q7, q8, q9, q10, q11, q12, q13, fun _ => rfl, q15, q16, q17, q18, q19⟩
              · simp only [List.getElem?_toArray, List.getElem?_cons_zero, List.getElem?_cons_succ, Option.some.injEq] at ho
                subst ho
                have r11 := q11 (hdep ⟨11, .data⟩ (by simp) rfl)
                subst r11
                clear hdep
                go_simp
                exact hK.out _ _ ⟨_, _, _, _, _, _, _, _, _, _, _, _, _, _, _, _, _, _, _, _, rfl, hM, q0, q1, q2, q3, q4, q5, q6, q7, q8, q9, q10, q11, q12, q13, q14, fun _ => rfl, q16, q17, q18, q19⟩
              · simp only [List.getElem?_toArray, List.getElem?_cons_zero, List.getElem?_cons_succ, Option.some.injEq] at ho
                subst ho
                have r12 := q12 (hdep ⟨12, .data⟩ (by simp) rfl)
                subst r12
                clear hdep
                go_simp
                exact hK.out _ _ ⟨_, _, _, _, _, _, _, _, _, _, _, _, _, _, _, _, _, _, _, _, rfl, hM, q0, q1, q2, q3, q4, q5, q6, q7, q8, q9, q10, q11, q12, q13, q14, q15, fun _ => rfl, q17, q18, q19⟩
              · simp only [List.getElem?_toArray, List.getElem?_cons_zero, List.getElem?_cons_succ, Option.some.injEq] at ho
                subst ho
                have r13 := q13 (hdep ⟨13, .data⟩ (by simp) rfl)
                subst r13
                clear hdep
                go_simp
                exact hK.out _ _ ⟨_, _, _, _, _, _, _, _, _, _, _, _, _, _, _, _, _, _, _, _, rfl, hM, q0, q1, q2, q3, q4, q5, q6, q7, q8, q9, q10, q11, q12, q13, q14, q15, q16, fun _ => rfl, q18, q19⟩
              · simp only [List.getElem?_toArray, List.getElem?_cons_zero, List.getElem?_cons_succ, Option.some.injEq] at ho
                subst ho
                have r14 := q14 (hdep ⟨14, .data⟩ (by simp) rfl)
                subst r14
                clear hdep
                go_simp
                exact hK.out _ _ ⟨_, _, _, _, _, _, _, _, _, _, _, _, _, _, _, _, _, _, _, _, rfl, hM, q0, q1, q2, q3, q4, q5, q6, q7, q8, q9, q10, q11, q12, q13, q14, q15, q16, q17, fun _ => rfl, q19⟩
              · simp only [List.getElem?_toArray, List.getElem?_cons_zero, List.getElem?_cons_succ, Option.some.injEq] at ho
                subst ho
                have r15 := q15 (hdep ⟨15, .data⟩ (by simp) rfl)
                subst r15
                clear hdep
                go_simp
                exact hK.out _ _ ⟨_, _, _, _, _, _, _, _, _, _, _, _, _, _, _, _, _, _, _, _, rfl, hM, q0, q1, q2, q3, q4, q5, q6, q7, q8, q9, q10, q11, q12, q13, q14, q15, q16, q17, q18, fun _ => rfl⟩
            case hend =>
              intro g c W hI hall
              obtain ⟨v13, v14, v15, v16, v70, v71, v72, v73, v74, v75, v76, v77, v78, v79, v80, v81, v82, v83, v84, v85, rfl, hM, q0, q1, q2, q3, q4, q5, q6, q7, q8, q9, q10, q11, q12, q13, q14, q15, q16, q17, q18, q19⟩ := hI
              have r0 := q0 (hall 0 (by decide))
              obtain ⟨B, n, rfl, h6⟩ := r0
              have r1 := q1 (hall 1 (by decide))
              subst r1
              have r2 := q2 (hall 2 (by decide))
              subst r2
              have r3 := q3 (hall 3 (by decide))
              subst r3
              have r4 := q4 (hall 4 (by decide))
              obtain ⟨B2, n2, rfl, h62⟩ := r4
              have r5 := q5 (hall 5 (by decide))
              obtain ⟨nv, rfl, hn⟩ := r5
              have r6 := q6 (hall 6 (by decide))
              subst r6
              have r7 := q7 (hall 7 (by decide))
              subst r7
              have r8 := q8 (hall 8 (by decide))
              subst r8
              have r9 := q9 (hall 9 (by decide))
              subst r9
              have r10 := q10 (hall 10 (by decide))
              subst r10
              have r11 := q11 (hall 11 (by decide))
              subst r11
              have r12 := q12 (hall 12 (by decide))
              subst r12
              have r13 := q13 (hall 13 (by decide))
              subst r13
              have r14 := q14 (hall 14 (by decide))
              subst r14
              have r15 := q15 (hall 15 (by decide))
              subst r15
              have r16 := q16 (hall 16 (by decide))
              subst r16
              have r17 := q17 (hall 17 (by decide))
              subst r17
              have r18 := q18 (hall 18 (by decide))
              subst r18
              have r19 := q19 (hall 19 (by decide))
              subst r19
              clear q0 q1 q2 q3 q4 q5 q6 q7 q8 q9 q10 q11 q12 q13 q14 q15 q16 q17 q18 q19
              have T := Lib.hid hM
              clear hM hall
              by_cases z : f = 0
              · subst z
                have HE := Lib.hid (show ∀ j, j < k + 1 + 0 → Exp.errAt W6 j = 0 from fun j hj => by
                  by_cases e : j = k
                  · rw [e, ES.out.2.2.1]
                  · exact NE.out j (by omega))
                have LA : Hid ((stA W6 (k + 0)).length ≤ 6 ∧ (stB W6 (k + 0)).length ≤ 6) := Lib.hid (by rw [stA_len, stB_len]; omega)
                have XA := Lib.hid (fun (vl' : Value) (W' : World) (h : TwoR w1 23 4 vl' vs (stA W6 (k + 0) ++ [.int .u64 S]) (stB W6 (k + 0)) W') => show TwoR w1 23 4 vl' vs (stA W6 (k + 1)) (stB W6 (k + 0)) W' from by rw [stA_snoc, ES.out.1]; exact h)
                have XB := Lib.hid (fun (vl' vs' : Value) (W' : World) (h : TwoR w1 23 4 vl' vs' (stA W6 (k + 1)) (stB W6 (k + 0) ++ [.bool st]) W') => show TwoR w1 23 4 vl' vs' (stA W6 (k + 1)) (stB W6 (k + 1)) W' from by rw [stB_snoc, ES.out.2.1]; exact h)
                clear NE PT CU CD ES
                go_wp2_with (at_builtin; refine wpList_append_own_at _ rfl (.tmp 96) (.tmp 98) 92 rfl w1.heap.size 23 u0 (.int .u64 0) 1 8 Tryz.underlying92 hu uz0 uz1 uz2 rfl (by decide) _ (stA W6 (k + 0)).length _ rfl (T.out.up.alloc _) ⟨W.heap.size, 0, none⟩ 1 1 [.int .u64 S] rfl ?c1 ?c2 ?c3 ?c4 ?c5 ?c6 ?c7)
                case c1 => rfl
                case c2 => exact cell_one_new _ _ _
                case c3 => simp [Value.oneCell']
                case c4 => have := LA.out.1; unfold maxLen; omega
                case c5 => have := LA.out.1; omega
                case c6 => have := T.out.below.size; simp; omega
                case c7 =>
                  intro v1 wa hown hg _ hat
                  have h1 := Lib.hid (XA.out _ _ (TwoR.step_up T.out hown hg hat))
                  clear hown hg hat
                  go_wp2_with (at_builtin; refine wpList_append_own_at _ rfl (.tmp 100) (.tmp 102) 93 rfl w1.heap.size 4 b0 (.bool false) 1 1 Tryz.underlying93 hbo bz0 bz1 bz2 rfl (by decide) _ (stB W6 (k + 0)).length _ rfl (h1.out.down.alloc _) ⟨wa.heap.size, 0, none⟩ 1 1 [.bool st] rfl ?d1 ?d2 ?d3 ?d4 ?d5 ?d6 ?d7)
                  case d1 => rfl
                  case d2 => exact cell_one_new _ _ _
                  case d3 => simp [Value.oneCell']
                  case d4 => have := LA.out.2; unfold maxLen; omega
                  case d5 => have := LA.out.2; omega
                  case d6 => have := h1.out.below.size; simp; omega
                  case d7 =>
                    intro v2 wb hown hg _ hat
                    have h2 := Lib.hid (XB.out _ _ _ (TwoR.step_down h1.out hown hg hat))
                    clear hown hg hat
                    go_wp2_with fail
                    go_roundw
                    case rel => exact ⟨k + 1, _, _, rfl, rfl, by omega, by go_num, by have := h2.out; rw [show k + 1 + 0 = k + 1 by omega]; exact Lib.hid this, HE⟩
                    case measure => simp [intOf]; omega
              · have t1 : ((f : Int) != 0) = true := by rw [bne_iff_ne]; omega
                have t1n : (f != 0) = true := by rw [bne_iff_ne]; omega
                have hr := HRD.out
                rw [Exp.read_bad (i := k) (by omega) (by rw [ES.out.2.2.1]; exact z) (fun j hj => NE.out j (by omega)), ES.out.2.2.1, ES.out.2.2.2] at hr
                simp only [Prod.mk.injEq] at hr
                obtain ⟨rfl, rfl, rfl⟩ := hr
                have cd := CD.out _ T.out.below
                have F1 := H1.out.next T.out.below
                have R := F1.res
                have pm : IntKind.i64.wrap ((p : Int) + (m : Int)) = ((p + m : Nat) : Int) := by rw [IntKind.wrap_i64]; omega
                have nd : gd ≠ w.heap.size := by have := F1.nd; omega
                have nd2 : w.heap.size ≠ gd := by omega
                have n0 := R.cell 0; have n1 := R.cell 1; have n2 := R.cell 2; have n3 := R.cell 3; have n4 := R.cell 4; have n5 := R.cell 5; have n6 := R.cell 6; have n7 := R.cell 7
                have f0 := R.free 0; have f1 := R.free 1; have f2 := R.free 2; have f3 := R.free 3; have f4 := R.free 4; have f5 := R.free 5; have f6 := R.free 6; have f7 := R.free 7
                simp only [exL, Exp.zero, List.getElem?_cons_zero, List.getElem?_cons_succ, Int.natCast_zero] at n0 n1 n2 n3 n4 n5 n6 n7
                have BX := Lib.hid F1.below
                have KE : Hid (∀ v0 v1 v2 v3 v4 v5 v6 v7, ((((((((W.setCell ⟨w.heap.size, 0, none⟩ v0).setCell ⟨w.heap.size, 1, none⟩ v1).setCell ⟨w.heap.size, 2, none⟩ v2).setCell ⟨w.heap.size, 3, none⟩ v3).setCell ⟨w.heap.size, 4, none⟩ v4).setCell ⟨w.heap.size, 5, none⟩ v5).setCell ⟨w.heap.size, 6, none⟩ v6).setCell ⟨w.heap.size, 7, none⟩ v7).cell? ⟨gd, k, none⟩ = some (.int .i64 (p : Nat))) := Lib.hid (fun v0 v1 v2 v3 v4 v5 v6 v7 => ((set8_grown W w.heap.size v0 v1 v2 v3 v4 v5 v6 v7).cell (a := ⟨gd, k, none⟩) cd (fun e => nd (by cases e; rfl))))
                clear z HRD NE PT CU CD ES T F1 R H1 HR SX
                go_wp2_with fail
                go_region_held3 (fun w' => w'.cell? ⟨gd, k, none⟩ = some (.int .i64 (p : Nat))) (first | (go_keep; done) | exact KE.out _ _ _ _ _ _ _ _) (fail)
                go_wp2_with fail
                refine bodyPost_ret (v := .tuple #[.agg #[.int .u64 0, .int .u64 0, .int .u64 0, .int .u64 0, .int .u64 0, .int .u64 0, .bool false, .bool false], .int .i64 ((p + m : Nat) : Int), .int .i64 (f : Nat)]) (by simp [results, Tryz.results14, go_sem, n0, n1, n2, n3, n4, n5, n6, n7]) rfl ⟨rfl, ?_⟩
                have bl := BX.out
                refine Below.drew ?_
                repeat' refine bel_cell ?_ (by omega) _ _
                exact bl
          · obtain rfl : k = 6 := by omega
            obtain ⟨gl, cl, rfl, ll, _, hcl⟩ := own_spot (show wr.ownsRow w1.heap.size 23 1 _ 6 (stA W6 (6 + 0)) from by have := T.out.up; rw [stA_len] at this; exact this) (by decide)
            obtain ⟨gs, cs, rfl, ls, _, hcs⟩ := own_spot (show wr.ownsRow w1.heap.size 4 1 _ 6 (stB W6 (6 + 0)) from by have := T.out.down; rw [stB_len] at this; exact this) (by decide)
            have bs := (T.out.down.lt gs rfl).1
            have F1 := H1.out.next T.out.below
            have FF : FN w gl gs (Exp.exOf W6) wr := ⟨F1.below, F1.res, ll, ls, by have := H1.out.lu; have := H1.out.nu; omega, fun j hj => by rw [exOf_at _ j hj]; exact hcl j _ (stA_at W6 (by omega)), hcs 3 _ (stB_at W6 (by decide)), hcs 5 _ (stB_at W6 (by decide))⟩
            have hr := HRD.out
            rw [Exp.read_ok (fun i hi => NE.out i (by omega))] at hr
            simp only [Prod.mk.injEq] at hr
            obtain ⟨hx, rfl, rfl⟩ := hr
            rw [hx] at FF
            have nd : gs ≠ w.heap.size := fun e => FF.ns e.symm
            have nd2 := FF.ns
            have Q := Lib.hid FF
            clear F1 FF hcl hcs T HRD NE H1 hx bs ll ls HR SX
            obtain ⟨c3, c5⟩ := (show _ ∧ _ from ⟨Q.out.s3, Q.out.s5⟩)
            obtain ⟨b3, hb3⟩ : ∃ b, x.b3 = b := ⟨_, rfl⟩
            obtain ⟨b5, hb5⟩ : ∃ b, x.b5 = b := ⟨_, rfl⟩
            have MD := Lib.hid (fun (W : World) (q : FN w gl gs x W) => q.made cl)
            have CS := Lib.hid (fun (W : World) (q : FN w gl gs x W) => And.intro q.s3 q.s5)
            rw [hb3, hb5] at MD CS
            rw [hb3] at c3
            rw [hb5] at c5
            go_wp2_with fail
            refine wp_region_held_drew (S := fun w' => w'.cell? ⟨gs, 3, none⟩ = some (.bool b3) ∧ w'.cell? ⟨gs, 5, none⟩ = some (.bool b5)) (by kernel_rfl) ?mahS (fun hHeld => ?mahR)
            case mahS => ((try dsimp only); first | (go_keep; done) | exact KE.out _ _ _ _ _ _ _ _)
            refine wpAnyH_take (i := 0) (v := ?mamv0) rfl (by kernel_rfl) (by kernel_rfl) (by kernel_rfl) (fun _ _ _ h => h) (Or.inl ⟨by rfl, ?mamy0⟩) (by assumption) ?mamr0
            case mamy0 => (intro w hSw; (try dsimp only at hSw); (try simp only [List.getElem_toArray, List.getElem_cons_zero, List.getElem_cons_succ]); go_simp; try with_reducible rfl)
            simp only [Act.put, List.getElem_toArray, List.getElem_cons_zero, List.getElem_cons_succ, List.setIfInBounds_toArray, List.set_cons_zero, List.set_cons_succ]
            refine wpAnyH_take (i := 1) (v := ?mamv1) rfl (by kernel_rfl) (by kernel_rfl) (by kernel_rfl) (fun _ _ _ h => h) (Or.inl ⟨by rfl, ?mamy1⟩) (by assumption) ?mamr1
            case mamy1 => (intro w hSw; (try dsimp only at hSw); (try simp only [List.getElem_toArray, List.getElem_cons_zero, List.getElem_cons_succ]); go_simp; try with_reducible rfl)
            simp only [Act.put, List.getElem_toArray, List.getElem_cons_zero, List.getElem_cons_succ, List.setIfInBounds_toArray, List.set_cons_zero, List.set_cons_succ]
            refine wpAnyH_take (i := 2) (v := ?mamv2) rfl (by kernel_rfl) (by kernel_rfl) (by kernel_rfl) (fun _ _ _ h => h) (Or.inl ⟨by rfl, ?mamy2⟩) (by assumption) ?mamr2
            case mamy2 => (intro w hSw; (try dsimp only at hSw); (try simp only [List.getElem_toArray, List.getElem_cons_zero, List.getElem_cons_succ]); go_simp; try with_reducible rfl)
            simp only [Act.put, List.getElem_toArray, List.getElem_cons_zero, List.getElem_cons_succ, List.setIfInBounds_toArray, List.set_cons_zero, List.set_cons_succ]
            refine wpAnyH_take (i := 3) (v := ?mamv3) rfl (by kernel_rfl) (by kernel_rfl) (by kernel_rfl) (fun _ _ _ h => h) (Or.inl ⟨by rfl, ?mamy3⟩) (by assumption) ?mamr3
            case mamy3 => (intro w hSw; (try dsimp only at hSw); (try simp only [List.getElem_toArray, List.getElem_cons_zero, List.getElem_cons_succ]); go_simp; try with_reducible rfl)
            simp only [Act.put, List.getElem_toArray, List.getElem_cons_zero, List.getElem_cons_succ, List.setIfInBounds_toArray, List.set_cons_zero, List.set_cons_succ]
            refine wpAnyH_take (i := 4) (v := ?mamv4) rfl (by kernel_rfl) (by kernel_rfl) (by kernel_rfl) (fun _ _ _ h => h) (Or.inl ⟨by rfl, ?mamy4⟩) (by assumption) ?mamr4
            case mamy4 => (intro w hSw; (try dsimp only at hSw); (try simp only [List.getElem_toArray, List.getElem_cons_zero, List.getElem_cons_succ]); go_simp; try with_reducible rfl)
            simp only [Act.put, List.getElem_toArray, List.getElem_cons_zero, List.getElem_cons_succ, List.setIfInBounds_toArray, List.set_cons_zero, List.set_cons_succ]
            refine wpAnyH_take (i := 5) (v := ?mamv5) rfl (by kernel_rfl) (by kernel_rfl) (by kernel_rfl) (fun _ _ _ h => h) (Or.inl ⟨by rfl, ?mamy5⟩) (by assumption) ?mamr5
            case mamy5 => (intro w hSw; (try dsimp only at hSw); (try simp only [List.getElem_toArray, List.getElem_cons_zero, List.getElem_cons_succ]); go_simp; try with_reducible rfl)
            simp only [Act.put, List.getElem_toArray, List.getElem_cons_zero, List.getElem_cons_succ, List.setIfInBounds_toArray, List.set_cons_zero, List.set_cons_succ]
            refine wpAnyH_take (i := 6) (v := ?mamv6) rfl (by kernel_rfl) (by kernel_rfl) (by kernel_rfl) (fun _ _ _ h => h) (Or.inl ⟨by rfl, ?mamy6⟩) (by assumption) ?mamr6
            case mamy6 => (intro w hSw; (try dsimp only at hSw); (try simp only [List.getElem_toArray, List.getElem_cons_zero, List.getElem_cons_succ]); go_simp; try with_reducible rfl)
            simp only [Act.put, List.getElem_toArray, List.getElem_cons_zero, List.getElem_cons_succ, List.setIfInBounds_toArray, List.set_cons_zero, List.set_cons_succ]
            refine wpAnyH_ready (rs := [7]) (by kernel_rfl) (by simp) ?_
            refine AllReadyH.cons rfl (fun K hK => ?_) AllReadyH.nil
            rw [if_pos (by rfl)]
            (try simp only [List.getElem_toArray, List.getElem_cons_zero, List.getElem_cons_succ])
            go_simp
            (refine (MD.out _ (by first | exact Q.out | exact Q.out.drew)).mono ?_; rintro e' w20 ⟨rfl, q'⟩; obtain ⟨c3, c5⟩ := CS.out _ q'; have R := q'.res; have f0 := R.free 0; have f1 := R.free 1; have f2 := R.free 2; have f3 := R.free 3; have f4 := R.free 4; have f5 := R.free 5; have f6 := R.free 6; have f7 := R.free 7; have KE := Lib.hid (fun v0 v1 v2 v3 v4 v5 v6 v7 => And.intro ((set8_grown w20 w.heap.size v0 v1 v2 v3 v4 v5 v6 v7).cell (a := ⟨gs, 3, none⟩) c3 (fun e => q'.ns (by cases e; rfl))) ((set8_grown w20 w.heap.size v0 v1 v2 v3 v4 v5 v6 v7).cell (a := ⟨gs, 5, none⟩) c5 (fun e => q'.ns (by cases e; rfl)))); have Q := Lib.hid q'; have RR := set8_row R (.int .u64 x.a0) (.int .u64 x.a1) (.int .u64 x.a2) (.int .u64 x.a3) (.int .u64 x.a4) (.int .u64 x.a5) (.bool b3) (.bool b5); have M := Lib.hid RR; have n0 := R.cell 0; have n1 := R.cell 1; have n2 := R.cell 2; have n3 := R.cell 3; have n4 := R.cell 4; have n5 := R.cell 5; have n6 := R.cell 6; have n7 := R.cell 7; simp only [exL, Exp.zero, List.getElem?_cons_zero, List.getElem?_cons_succ, Int.natCast_zero] at n0 n1 n2 n3 n4 n5 n6 n7; clear R RR q')
            refine hK.out _ _ ?mahS7 (fun hHeld => ?mahR7)
            case mahS7 => ((try dsimp only); first | (go_keep; done) | exact KE.out _ _ _ _ _ _ _ _)
            clear hK K
            (try simp only [Act.put, List.setIfInBounds_toArray, List.set_cons_zero, List.set_cons_succ])
            refine wpAnyH_ready (rs := [8]) (by kernel_rfl) (by simp) ?_
            refine AllReadyH.cons rfl (fun K hK => ?_) AllReadyH.nil
            rw [if_pos (by rfl)]
            (try simp only [List.getElem_toArray, List.getElem_cons_zero, List.getElem_cons_succ])
            go_simp
            (skip)
            refine hK.out _ _ ?mahS8 (fun hHeld => ?mahR8)
            case mahS8 => ((try dsimp only); first | (go_keep; done) | exact KE.out _ _ _ _ _ _ _ _)
            clear hK K
            (try simp only [Act.put, List.setIfInBounds_toArray, List.set_cons_zero, List.set_cons_succ])
            refine wpAnyH_take (i := 9) (v := ?mamv9) rfl (by kernel_rfl) (by kernel_rfl) (by kernel_rfl) (fun _ _ _ h => h) (Or.inl ⟨by rfl, ?mamy9⟩) (by assumption) ?mamr9
            case mamy9 => (intro w hSw; (try dsimp only at hSw); (try simp only [List.getElem_toArray, List.getElem_cons_zero, List.getElem_cons_succ]); go_simp; try with_reducible rfl)
            simp only [Act.put, List.getElem_toArray, List.getElem_cons_zero, List.getElem_cons_succ, List.setIfInBounds_toArray, List.set_cons_zero, List.set_cons_succ]
            refine wpAnyH_take (i := 10) (v := ?mamv10) rfl (by kernel_rfl) (by kernel_rfl) (by kernel_rfl) (fun _ _ _ h => h) (Or.inl ⟨by rfl, ?mamy10⟩) (by assumption) ?mamr10
            case mamy10 => (intro w hSw; (try dsimp only at hSw); (try simp only [List.getElem_toArray, List.getElem_cons_zero, List.getElem_cons_succ]); go_simp; try with_reducible rfl)
            simp only [Act.put, List.getElem_toArray, List.getElem_cons_zero, List.getElem_cons_succ, List.setIfInBounds_toArray, List.set_cons_zero, List.set_cons_succ]
            refine wpAnyH_done (by kernel_rfl) ?_ _
            go_wp2_with fail
            have RR := M.out
            have m0 := RR.cell 0; have m1 := RR.cell 1; have m2 := RR.cell 2; have m3 := RR.cell 3; have m4 := RR.cell 4; have m5 := RR.cell 5; have m6 := RR.cell 6; have m7 := RR.cell 7
            simp only [List.getElem?_cons_zero, List.getElem?_cons_succ] at m0 m1 m2 m3 m4 m5 m6 m7
            rw [hb3, hb5]
            refine bodyPost_ret (v := .tuple #[.agg #[.int .u64 x.a0, .int .u64 x.a1, .int .u64 x.a2, .int .u64 x.a3, .int .u64 x.a4, .int .u64 x.a5, .bool b3, .bool b5], .int .i64 (0 : Nat), .int .i64 (0 : Nat)]) (by simp [results, Tryz.results14, go_sem, m0, m1, m2, m3, m4, m5, m6, m7]) rfl ⟨rfl, ?_⟩
            have bl := Q.out.below
            repeat' refine bel_cell ?_ (by omega) _ _
            exact bl
      · have h5 : (Exp.words s.data.toList).length = 5 := by omega
        rw [h5]
        clear n0 n1 n2 n3 n4 n5 n6 n7 f0 f1 f2 f3 f4 f5 f6 f7 F HT HM hA h6 h7
        have SX := Lib.hid (six_at1 h5)
        obtain ⟨W6, hW6⟩ : ∃ W6, Exp.six (Exp.words s.data.toList) = W6 := ⟨_, rfl⟩
        rw [hW6] at SX
        have hr := HR.out
        unfold Exp.plain at hr
        rw [if_neg (by omega), if_neg (by omega), hW6] at hr
        have HRD := Lib.hid hr
        have q0 : Exp.fp 0 (Exp.wAt W6 0).2 = (1, false, 0, 0) := by
          rw [← hW6]
          unfold Exp.six
          rw [if_pos h5]
          show Exp.fp 0 [48] = (1, false, 0, 0)
          decide +kernel
        have T0 : Hid (TwoR w1 23 4 (.slice (some ⟨w1.heap.size, 0, none⟩) 1 1) (.slice (some ⟨w1.heap.size + 1, 0, none⟩) 1 1) (stA W6 (0 + 1)) (stB W6 (0 + 1)) ((w1.alloc (.cells #[.int .u64 1] 23)).alloc (.cells #[.bool false] 4))) := Lib.hid (by
          have e1 : stA W6 (0 + 1) = [.int .u64 1] := by show [Value.int .u64 (Exp.setAt W6 0 : Nat)] = _; unfold Exp.setAt; rw [q0]; rfl
          have e2 : stB W6 (0 + 1) = [.bool false] := by show [Value.bool (Exp.starAt W6 0)] = _; unfold Exp.starAt; rw [q0]
          rw [e1, e2]
          exact two_lit w1 _ _ _ _)
        have N0 : Hid (∀ j, j < 0 + 1 → Exp.errAt W6 j = 0) := Lib.hid (fun j h => by
          obtain rfl : j = 0 := by omega
          unfold Exp.errAt
          rw [q0])
        clear q0
        clear hr hW6
        go_wp2_with fail
        go_loopw [9, 10, 12] (fun va vb it wr => ∃ (k : Nat) (vl vs : Value), vl = va ∧ vs = vb ∧ k ≤ 5 ∧ it = .int .i64 k ∧ Hid (TwoR w1 23 4 vl vs (stA W6 (k + 1)) (stB W6 (k + 1)) wr) ∧ Hid (∀ j, j < k + 1 → Exp.errAt W6 j = 0)) (fun _ _ i _ => 5 - (intOf i).toNat)
        case atStart => exact ⟨0, _, _, rfl, rfl, Nat.zero_le _, rfl, T0, N0⟩
        case round =>
          obtain ⟨k, vl, vs, rfl, rfl, hk, rfl, T, NE⟩ := hrel
          clear T0 N0
          by_cases hlt : k < 5
          · have q1 : decide ((k : Int) < 5) = true := by rw [decide_eq_true_iff]; omega
            have q1n : decide (k < 5) = true := by rw [decide_eq_true_iff]; omega
            have i0 : (0 : Int) ≤ (k : Int) := by omega
            have i1 : (k : Int) < 5 := by omega
            have i2 : (0 : Int) ≤ 1 + (k : Int) := by omega
            have i3 : 1 + (k : Int) < 6 := by omega
            have wk : IntKind.i64.wrap (1 + (k : Int)) = ((k + 1 : Nat) : Int) := by rw [IntKind.wrap_i64]; omega
            have i4 : (0 : Int) ≤ ((k + 1 : Nat) : Int) := by omega
            have i6 : (0 : Int) ≤ (k : Int) + 1 := by omega
            have i7 : (k : Int) + 1 < 6 := by omega
            have i5 : ((k + 1 : Nat) : Int) < 6 := by omega
            have sx := SX.out k
            have wz := Exp.words_in s.data.toList _ (Exp.wAt_mem (ws := Exp.words s.data.toList) (i := k) (by omega))
            have g1 := wt_at (ws := Exp.words s.data.toList) (k := k) (by omega)
            obtain ⟨⟨p, t0⟩, hx⟩ : ∃ q, Exp.wAt (Exp.words s.data.toList) k = q := ⟨_, rfl⟩
            rw [hx] at sx wz g1
            simp only at wz
            obtain ⟨t, ht⟩ : ∃ t : ByteArray, (⟨t0.toArray⟩ : ByteArray) = t := ⟨_, rfl⟩
            have tl : t.data.toList = t0 := by rw [← ht]
            have tz : t.size ≤ 1000 := by rw [Lib.size_eq, tl]; have := wz.1; have := HZ.out; omega
            have ph : p ≤ 100000 := by have := wz.1; have := HZ.out; omega
            obtain ⟨⟨S, st, m, f⟩, hf⟩ : ∃ q, Exp.fp (k + 1) t.data.toList = q := ⟨_, rfl⟩
            have mh : m ≤ 100000 := by
              by_cases z : f = 0
              · have := (Fld.parse_good (Exp.kd_ok (i := (k + 1)) (by omega)) t.data.toList (by unfold Exp.fp at hf; rw [hf]; exact z)).2.2.2.1
                unfold Exp.fp at hf
                rw [hf] at this
                simp only at this
                omega
              · have := (Fld.parse_bad (K := kd6 (k + 1)) t.data.toList (by unfold Exp.fp at hf; rw [hf]; exact z)).2.2.1
                unfold Exp.fp at hf
                rw [hf] at this
                simp only at this
                rw [Lib.size_eq] at tz
                omega
            have CU := Lib.hid (fun (W : World) (b : Below w1.heap.size w1 W) => show W.cell? ⟨gu, k, none⟩ = some (.string t) from by have := ((H1.out.next b).u k _ g1); rw [ht] at this; exact this)
            have CD := Lib.hid (fun (W : World) (b : Below w1.heap.size w1 W) => show W.cell? ⟨gd, k, none⟩ = some (.int .i64 (p : Nat)) from (H1.out.next b).d k _ g1)
            have PT := Lib.hid (fun (W : World) (nv : Value) (hn : IsStrs W nv (xs6 (k + 1))) => p7_field (k + 1) (by omega) t tz S m f st hf nv hn)
            have ES := Lib.hid (show Exp.setAt W6 (k + 1) = S ∧ Exp.starAt W6 (k + 1) = st ∧ Exp.errAt W6 (k + 1) = f ∧ Exp.placeAt W6 (k + 1) = p + m from by
              unfold Exp.setAt Exp.starAt Exp.errAt Exp.placeAt
              rw [sx]
              simp only
              rw [← tl, hf]
              exact ⟨rfl, rfl, rfl, rfl⟩)
            clear sx wz g1 hx ht tl hf
            go_wp2_with fail
            apply wp_region_inv (QInv1 w1 W6 k gu gd cu cd S m f st t vl vs _ _ _ _ _ _ _ _ _ _ _ _ _ _ _ _ _ _ _ _ _ _ _ _ _ _ _ _ _ _ _ _ _ _ _ _ _ _ _ _ _ _ _ _ _ _ _ _ _ _ _ _ _ _ _ _ _ _ _ _ _ _ _ _ _ _ _ _ _ _ _ _ _ _ _ _ _ _ _ _ _ _ _ _ _ _) (by kernel_rfl)
            case h0 => exact ⟨_, _, _, _, _, _, _, _, _, _, _, _, _, _, _, _, _, _, _, _, rfl, (T.out.next (Below.refl _ _).drew), (fun h => by cases h), (fun h => by cases h), (fun h => by cases h), (fun h => by cases h), (fun h => by cases h), (fun h => by cases h), (fun h => by cases h), (fun h => by cases h), (fun h => by cases h), (fun h => by cases h), (fun h => by cases h), (fun h => by cases h), (fun h => by cases h), (fun h => by cases h), (fun h => by cases h), (fun h => by cases h), (fun h => by cases h), (fun h => by cases h), (fun h => by cases h), (fun h => by cases h)⟩
            case htopo => kernel_rfl
            case hstep =>
              intro i o g c W ho hI hg hdep K' hK
              obtain ⟨v13, v14, v15, v16, v70, v71, v72, v73, v74, v75, v76, v77, v78, v79, v80, v81, v82, v83, v84, v85, rfl, hM, q0, q1, q2, q3, q4, q5, q6, q7, q8, q9, q10, q11, q12, q13, q14, q15, q16, q17, q18, q19⟩ := hI
              have hi : i < 20 := (Array.getElem?_eq_some_iff.1 ho).1
              rcases (show i = 0 ∨ i = 1 ∨ i = 2 ∨ i = 3 ∨ i = 4 ∨ i = 5 ∨ i = 6 ∨ i = 7 ∨ i = 8 ∨ i = 9 ∨ i = 10 ∨ i = 11 ∨ i = 12 ∨ i = 13 ∨ i = 14 ∨ i = 15 ∨ i = 16 ∨ i = 17 ∨ i = 18 ∨ i = 19 by omega) with rfl | rfl | rfl | rfl | rfl | rfl | rfl | rfl | rfl | rfl | rfl | rfl | rfl | rfl | rfl | rfl | rfl | rfl | rfl | rfl
              · simp only [List.getElem?_toArray, List.getElem?_cons_zero, Option.some.injEq] at ho
                subst ho
                clear hdep
                go_simp
                refine (specsR_any _).mono ?_
                rintro e W2 ⟨rfl, hb, h6⟩
                go_simp
                exact hK.out _ _ ⟨_, _, _, _, _, _, _, _, _, _, _, _, _, _, _, _, _, _, _, _, rfl, hM.next hb, fun _ => ⟨_, _, rfl, h6⟩, q1, q2, q3, (fun h => (q4 h).next hb), (fun h => (q5 h).next hb), q6, q7, q8, q9, q10, q11, q12, q13, q14, q15, q16, q17, q18, q19⟩
              · simp only [List.getElem?_toArray, List.getElem?_cons_zero, List.getElem?_cons_succ, Option.some.injEq] at ho
                subst ho
                clear hdep
                go_simp
                exact hK.out _ _ ⟨_, _, _, _, _, _, _, _, _, _, _, _, _, _, _, _, _, _, _, _, rfl, hM, q0, fun _ => rfl, q2, q3, q4, q5, q6, q7, q8, q9, q10, q11, q12, q13, q14, q15, q16, q17, q18, q19⟩
              · simp only [List.getElem?_toArray, List.getElem?_cons_zero, List.getElem?_cons_succ, Option.some.injEq] at ho
                subst ho
                clear hdep
                go_simp
                exact hK.out _ _ ⟨_, _, _, _, _, _, _, _, _, _, _, _, _, _, _, _, _, _, _, _, rfl, hM, q0, q1, fun _ => rfl, q3, q4, q5, q6, q7, q8, q9, q10, q11, q12, q13, q14, q15, q16, q17, q18, q19⟩
              · simp only [List.getElem?_toArray, List.getElem?_cons_zero, List.getElem?_cons_succ, Option.some.injEq] at ho
                subst ho
                have r1 := q1 (hdep ⟨1, .data⟩ (by simp) rfl)
                subst r1
                have r2 := q2 (hdep ⟨2, .data⟩ (by simp) rfl)
                subst r2
                clear hdep
                go_simp
                exact hK.out _ _ ⟨_, _, _, _, _, _, _, _, _, _, _, _, _, _, _, _, _, _, _, _, rfl, hM, q0, q1, q2, fun _ => rfl, q4, q5, q6, q7, q8, q9, q10, q11, q12, q13, q14, q15, q16, q17, q18, q19⟩
              · simp only [List.getElem?_toArray, List.getElem?_cons_zero, List.getElem?_cons_succ, Option.some.injEq] at ho
                subst ho
                have r0 := q0 (hdep ⟨0, .data⟩ (by simp) rfl)
                obtain ⟨B, n, rfl, h6⟩ := r0
                have r3 := q3 (hdep ⟨3, .data⟩ (by simp) rfl)
                subst r3
                clear hdep
                go_simp
                exact hK.out _ _ ⟨_, _, _, _, _, _, _, _, _, _, _, _, _, _, _, _, _, _, _, _, rfl, hM, q0, q1, q2, q3, fun _ => ⟨_, _, rfl, h6⟩, q5, q6, q7, q8, q9, q10, q11, q12, q13, q14, q15, q16, q17, q18, q19⟩
              · simp only [List.getElem?_toArray, List.getElem?_cons_zero, List.getElem?_cons_succ, Option.some.injEq] at ho
                subst ho
                have r4 := q4 (hdep ⟨4, .data⟩ (by simp) rfl)
                obtain ⟨B2, n2, rfl, h62⟩ := r4
                clear hdep
                obtain ⟨c0, c1, c2, c3⟩ := h62.cells (k + 1) (by omega)
                have sk := h62.strs (k + 1) (by omega)
                obtain ⟨nA, nc, en, _⟩ := h62.strs (k + 1) (by omega)
                rw [en] at c2 sk
                go_simp
                exact hK.out _ _ ⟨_, _, _, _, _, _, _, _, _, _, _, _, _, _, _, _, _, _, _, _, rfl, hM, q0, q1, q2, q3, q4, fun _ => ⟨_, rfl, sk⟩, q6, q7, q8, q9, q10, q11, q12, q13, q14, q15, q16, q17, q18, q19⟩
              · simp only [List.getElem?_toArray, List.getElem?_cons_zero, List.getElem?_cons_succ, Option.some.injEq] at ho
                subst ho
                clear hdep
                go_simp
                exact hK.out _ _ ⟨_, _, _, _, _, _, _, _, _, _, _, _, _, _, _, _, _, _, _, _, rfl, hM, q0, q1, q2, q3, q4, q5, fun _ => rfl, q7, q8, q9, q10, q11, q12, q13, q14, q15, q16, q17, q18, q19⟩
              · simp only [List.getElem?_toArray, List.getElem?_cons_zero, List.getElem?_cons_succ, Option.some.injEq] at ho
                subst ho
                clear hdep
                go_simp
                exact hK.out _ _ ⟨_, _, _, _, _, _, _, _, _, _, _, _, _, _, _, _, _, _, _, _, rfl, hM, q0, q1, q2, q3, q4, q5, q6, fun _ => rfl, q8, q9, q10, q11, q12, q13, q14, q15, q16, q17, q18, q19⟩
              · simp only [List.getElem?_toArray, List.getElem?_cons_zero, List.getElem?_cons_succ, Option.some.injEq] at ho
                subst ho
                have r6 := q6 (hdep ⟨6, .data⟩ (by simp) rfl)
                subst r6
                have r7 := q7 (hdep ⟨7, .data⟩ (by simp) rfl)
                subst r7
                clear hdep
                go_simp
                exact hK.out _ _ ⟨_, _, _, _, _, _, _, _, _, _, _, _, _, _, _, _, _, _, _, _, rfl, hM, q0, q1, q2, q3, q4, q5, q6, q7, fun _ => rfl, q9, q10, q11, q12, q13, q14, q15, q16, q17, q18, q19⟩
              · simp only [List.getElem?_toArray, List.getElem?_cons_zero, List.getElem?_cons_succ, Option.some.injEq] at ho
                subst ho
                have r8 := q8 (hdep ⟨8, .data⟩ (by simp) rfl)
                subst r8
                clear hdep
                have u := CU.out _ hM.below
                go_simp
                exact hK.out _ _ ⟨_, _, _, _, _, _, _, _, _, _, _, _, _, _, _, _, _, _, _, _, rfl, hM, q0, q1, q2, q3, q4, q5, q6, q7, q8, fun _ => rfl, q10, q11, q12, q13, q14, q15, q16, q17, q18, q19⟩
              · simp only [List.getElem?_toArray, List.getElem?_cons_zero, List.getElem?_cons_succ, Option.some.injEq] at ho
                subst ho
                have r5 := q5 (hdep ⟨5, .data⟩ (by simp) rfl)
                obtain ⟨nv, rfl, hn⟩ := r5
                have r9 := q9 (hdep ⟨9, .data⟩ (by simp) rfl)
                subst r9
                clear hdep
                go_simp
                refine (PT.out _ nv hn).mono ?_
                rintro e W2 ⟨rfl, hb⟩
                go_simp
                exact hK.out _ _ ⟨_, _, _, _, _, _, _, _, _, _, _, _, _, _, _, _, _, _, _, _, rfl, hM.next hb, (fun h => (q0 h).next hb), q1, q2, q3, (fun h => (q4 h).next hb), (fun h => (q5 h).next hb), q6, q7, q8, q9, fun _ => rfl, q11, q12, q13, q14, q15, q16, q17, q18, q19⟩
              · simp only [List.getElem?_toArray, List.getElem?_cons_zero, List.getElem?_cons_succ, Option.some.injEq] at ho
                subst ho
                have r10 := q10 (hdep ⟨10, .data⟩ (by simp) rfl)
                subst r10
                clear hdep
                go_simp
                exact hK.out _ _ ⟨_, _, _, _, _, _, _, _, _, _, _, _, _, _, _, _, _, _, _, _, rfl, hM, q0, q1, q2, q3, q4, q5, q6, q7, q8, q9, q10, fun _ => rfl, q12, q13, q14, q15, q16, q17, q18, q19⟩
              · simp only [List.getElem?_toArray, List.getElem?_cons_zero, List.getElem?_cons_succ, Option.some.injEq] at ho
                subst ho
                have r11 := q11 (hdep ⟨11, .data⟩ (by simp) rfl)
                subst r11
                clear hdep
                go_simp
                exact hK.out _ _ ⟨_, _, _, _, _, _, _, _, _, _, _, _, _, _, _, _, _, _, _, _, rfl, hM, q0, q1, q2, q3, q4, q5, q6, q7, q8, q9, q10, q11, fun _ => rfl, q13, q14, q15, q16, q17, q18, q19⟩
              · simp only [List.getElem?_toArray, List.getElem?_cons_zero, List.getElem?_cons_succ, Option.some.injEq] at ho
                subst ho
                have r11 := q11 (hdep ⟨11, .data⟩ (by simp) rfl)
                subst r11
                clear hdep
                go_simp
                exact hK.out _ _ ⟨_, _, _, _, _, _, _, _, _, _, _, _, _, _, _, _, _, _, _, _, rfl, hM, q0, q1, q2, q3, q4, q5, q6, q7, q8, q9, q10, q11, q12, fun _ => rfl, q14, q15, q16, q17, q18, q19⟩
              · simp only [List.getElem?_toArray, List.getElem?_cons_zero, List.getElem?_cons_succ, Option.some.injEq] at ho
                subst ho
                have r11 := q11 (hdep ⟨11, .data⟩ (by simp) rfl)
                subst r11
                clear hdep
                go_simp
                exact hK.out _ _ ⟨_, _, _, _, _, _, _, _, _, _, _, _, _, _, _, _, _, _, _, _, rfl, hM, q0, q1, q2, q3, q4, q5, q6, q7, q8, q9, q10, q11, q12, q13, fun _ => rfl, q15, q16, q17, q18, q19⟩
              · simp only [List.getElem?_toArray, List.getElem?_cons_zero, List.getElem?_cons_succ, Option.some.injEq] at ho
                subst ho
                have r11 := q11 (hdep ⟨11, .data⟩ (by simp) rfl)
                subst r11
                clear hdep
                go_simp
                exact hK.out _ _ ⟨_, _, _, _, _, _, _, _, _, _, _, _, _, _, _, _, _, _, _, _, rfl, hM, q0, q1, q2, q3, q4, q5, q6, q7, q8, q9, q10, q11, q12, q13, q14, fun _ => rfl, q16, q17, q18, q19⟩
              · simp only [List.getElem?_toArray, List.getElem?_cons_zero, List.getElem?_cons_succ, Option.some.injEq] at ho
                subst ho
                have r12 := q12 (hdep ⟨12, .data⟩ (by simp) rfl)
                subst r12
                clear hdep
                go_simp
                exact hK.out _ _ ⟨_, _, _, _, _, _, _, _, _, _, _, _, _, _, _, _, _, _, _, _, rfl, hM, q0, q1, q2, q3, q4, q5, q6, q7, q8, q9, q10, q11, q12, q13, q14, q15, fun _ => rfl, q17, q18, q19⟩
              · simp only [List.getElem?_toArray, List.getElem?_cons_zero, List.getElem?_cons_succ, Option.some.injEq] at ho
                subst ho
                have r13 := q13 (hdep ⟨13, .data⟩ (by simp) rfl)
                subst r13
                clear hdep
                go_simp
                exact hK.out _ _ ⟨_, _, _, _, _, _, _, _, _, _, _, _, _, _, _, _, _, _, _, _, rfl, hM, q0, q1, q2, q3, q4, q5, q6, q7, q8, q9, q10, q11, q12, q13, q14, q15, q16, fun _ => rfl, q18, q19⟩
              · simp only [List.getElem?_toArray, List.getElem?_cons_zero, List.getElem?_cons_succ, Option.some.injEq] at ho
                subst ho
                have r14 := q14 (hdep ⟨14, .data⟩ (by simp) rfl)
                subst r14
                clear hdep
                go_simp
                exact hK.out _ _ ⟨_, _, _, _, _, _, _, _, _, _, _, _, _, _, _, _, _, _, _, _, rfl, hM, q0, q1, q2, q3, q4, q5, q6, q7, q8, q9, q10, q11, q12, q13, q14, q15, q16, q17, fun _ => rfl, q19⟩
              · simp only [List.getElem?_toArray, List.getElem?_cons_zero, List.getElem?_cons_succ, Option.some.injEq] at ho
                subst ho
                have r15 := q15 (hdep ⟨15, .data⟩ (by simp) rfl)
                subst r15
                clear hdep
                go_simp
                exact hK.out _ _ ⟨_, _, _, _, _, _, _, _, _, _, _, _, _, _, _, _, _, _, _, _, rfl, hM, q0, q1, q2, q3, q4, q5, q6, q7, q8, q9, q10, q11, q12, q13, q14, q15, q16, q17, q18, fun _ => rfl⟩
            case hend =>
              intro g c W hI hall
              obtain ⟨v13, v14, v15, v16, v70, v71, v72, v73, v74, v75, v76, v77, v78, v79, v80, v81, v82, v83, v84, v85, rfl, hM, q0, q1, q2, q3, q4, q5, q6, q7, q8, q9, q10, q11, q12, q13, q14, q15, q16, q17, q18, q19⟩ := hI
              have r0 := q0 (hall 0 (by decide))
              obtain ⟨B, n, rfl, h6⟩ := r0
              have r1 := q1 (hall 1 (by decide))
              subst r1
              have r2 := q2 (hall 2 (by decide))
              subst r2
              have r3 := q3 (hall 3 (by decide))
              subst r3
              have r4 := q4 (hall 4 (by decide))
              obtain ⟨B2, n2, rfl, h62⟩ := r4
              have r5 := q5 (hall 5 (by decide))
              obtain ⟨nv, rfl, hn⟩ := r5
              have r6 := q6 (hall 6 (by decide))
              subst r6
              have r7 := q7 (hall 7 (by decide))
              subst r7
              have r8 := q8 (hall 8 (by decide))
              subst r8
              have r9 := q9 (hall 9 (by decide))
              subst r9
              have r10 := q10 (hall 10 (by decide))
              subst r10
              have r11 := q11 (hall 11 (by decide))
              subst r11
              have r12 := q12 (hall 12 (by decide))
              subst r12
              have r13 := q13 (hall 13 (by decide))
              subst r13
              have r14 := q14 (hall 14 (by decide))
              subst r14
              have r15 := q15 (hall 15 (by decide))
              subst r15
              have r16 := q16 (hall 16 (by decide))
              subst r16
              have r17 := q17 (hall 17 (by decide))
              subst r17
              have r18 := q18 (hall 18 (by decide))
              subst r18
              have r19 := q19 (hall 19 (by decide))
              subst r19
              clear q0 q1 q2 q3 q4 q5 q6 q7 q8 q9 q10 q11 q12 q13 q14 q15 q16 q17 q18 q19
              have T := Lib.hid hM
              clear hM hall
              by_cases z : f = 0
              · subst z
                have HE := Lib.hid (show ∀ j, j < k + 1 + 1 → Exp.errAt W6 j = 0 from fun j hj => by
                  by_cases e : j = (k + 1)
                  · rw [e, ES.out.2.2.1]
                  · exact NE.out j (by omega))
                have LA : Hid ((stA W6 (k + 1)).length ≤ 6 ∧ (stB W6 (k + 1)).length ≤ 6) := Lib.hid (by rw [stA_len, stB_len]; omega)
                have XA := Lib.hid (fun (vl' : Value) (W' : World) (h : TwoR w1 23 4 vl' vs (stA W6 (k + 1) ++ [.int .u64 S]) (stB W6 (k + 1)) W') => show TwoR w1 23 4 vl' vs (stA W6 (k + 1 + 1)) (stB W6 (k + 1)) W' from by rw [stA_snoc, ES.out.1]; exact h)
                have XB := Lib.hid (fun (vl' vs' : Value) (W' : World) (h : TwoR w1 23 4 vl' vs' (stA W6 (k + 1 + 1)) (stB W6 (k + 1) ++ [.bool st]) W') => show TwoR w1 23 4 vl' vs' (stA W6 (k + 1 + 1)) (stB W6 (k + 1 + 1)) W' from by rw [stB_snoc, ES.out.2.1]; exact h)
                clear NE PT CU CD ES
                go_wp2_with (at_builtin; refine wpList_append_own_at _ rfl (.tmp 96) (.tmp 98) 92 rfl w1.heap.size 23 u0 (.int .u64 0) 1 8 Tryz.underlying92 hu uz0 uz1 uz2 rfl (by decide) _ (stA W6 (k + 1)).length _ rfl (T.out.up.alloc _) ⟨W.heap.size, 0, none⟩ 1 1 [.int .u64 S] rfl ?c1 ?c2 ?c3 ?c4 ?c5 ?c6 ?c7)
                case c1 => rfl
                case c2 => exact cell_one_new _ _ _
                case c3 => simp [Value.oneCell']
                case c4 => have := LA.out.1; unfold maxLen; omega
                case c5 => have := LA.out.1; omega
                case c6 => have := T.out.below.size; simp; omega
                case c7 =>
                  intro v1 wa hown hg _ hat
                  have h1 := Lib.hid (XA.out _ _ (TwoR.step_up T.out hown hg hat))
                  clear hown hg hat
                  go_wp2_with (at_builtin; refine wpList_append_own_at _ rfl (.tmp 100) (.tmp 102) 93 rfl w1.heap.size 4 b0 (.bool false) 1 1 Tryz.underlying93 hbo bz0 bz1 bz2 rfl (by decide) _ (stB W6 (k + 1)).length _ rfl (h1.out.down.alloc _) ⟨wa.heap.size, 0, none⟩ 1 1 [.bool st] rfl ?d1 ?d2 ?d3 ?d4 ?d5 ?d6 ?d7)
                  case d1 => rfl
                  case d2 => exact cell_one_new _ _ _
                  case d3 => simp [Value.oneCell']
                  case d4 => have := LA.out.2; unfold maxLen; omega
                  case d5 => have := LA.out.2; omega
                  case d6 => have := h1.out.below.size; simp; omega
                  case d7 =>
                    intro v2 wb hown hg _ hat
                    have h2 := Lib.hid (XB.out _ _ _ (TwoR.step_down h1.out hown hg hat))
                    clear hown hg hat
                    go_wp2_with fail
                    go_roundw
                    case rel => exact ⟨k + 1, _, _, rfl, rfl, by omega, by go_num, by have := h2.out; rw [show k + 1 + 1 = k + 1 + 1 by omega]; exact Lib.hid this, HE⟩
                    case measure => simp [intOf]; omega
              · have t1 : ((f : Int) != 0) = true := by rw [bne_iff_ne]; omega
                have t1n : (f != 0) = true := by rw [bne_iff_ne]; omega
                have hr := HRD.out
                rw [Exp.read_bad (i := (k + 1)) (by omega) (by rw [ES.out.2.2.1]; exact z) (fun j hj => NE.out j (by omega)), ES.out.2.2.1, ES.out.2.2.2] at hr
                simp only [Prod.mk.injEq] at hr
                obtain ⟨rfl, rfl, rfl⟩ := hr
                have cd := CD.out _ T.out.below
                have F1 := H1.out.next T.out.below
                have R := F1.res
                have pm : IntKind.i64.wrap ((p : Int) + (m : Int)) = ((p + m : Nat) : Int) := by rw [IntKind.wrap_i64]; omega
                have nd : gd ≠ w.heap.size := by have := F1.nd; omega
                have nd2 : w.heap.size ≠ gd := by omega
                have n0 := R.cell 0; have n1 := R.cell 1; have n2 := R.cell 2; have n3 := R.cell 3; have n4 := R.cell 4; have n5 := R.cell 5; have n6 := R.cell 6; have n7 := R.cell 7
                have f0 := R.free 0; have f1 := R.free 1; have f2 := R.free 2; have f3 := R.free 3; have f4 := R.free 4; have f5 := R.free 5; have f6 := R.free 6; have f7 := R.free 7
                simp only [exL, Exp.zero, List.getElem?_cons_zero, List.getElem?_cons_succ, Int.natCast_zero] at n0 n1 n2 n3 n4 n5 n6 n7
                have BX := Lib.hid F1.below
                have KE : Hid (∀ v0 v1 v2 v3 v4 v5 v6 v7, ((((((((W.setCell ⟨w.heap.size, 0, none⟩ v0).setCell ⟨w.heap.size, 1, none⟩ v1).setCell ⟨w.heap.size, 2, none⟩ v2).setCell ⟨w.heap.size, 3, none⟩ v3).setCell ⟨w.heap.size, 4, none⟩ v4).setCell ⟨w.heap.size, 5, none⟩ v5).setCell ⟨w.heap.size, 6, none⟩ v6).setCell ⟨w.heap.size, 7, none⟩ v7).cell? ⟨gd, k, none⟩ = some (.int .i64 (p : Nat))) := Lib.hid (fun v0 v1 v2 v3 v4 v5 v6 v7 => ((set8_grown W w.heap.size v0 v1 v2 v3 v4 v5 v6 v7).cell (a := ⟨gd, k, none⟩) cd (fun e => nd (by cases e; rfl))))
                clear z HRD NE PT CU CD ES T F1 R H1 HR SX
                go_wp2_with fail
                go_region_held3 (fun w' => w'.cell? ⟨gd, k, none⟩ = some (.int .i64 (p : Nat))) (first | (go_keep; done) | exact KE.out _ _ _ _ _ _ _ _) (fail)
                go_wp2_with fail
                refine bodyPost_ret (v := .tuple #[.agg #[.int .u64 0, .int .u64 0, .int .u64 0, .int .u64 0, .int .u64 0, .int .u64 0, .bool false, .bool false], .int .i64 ((p + m : Nat) : Int), .int .i64 (f : Nat)]) (by simp [results, Tryz.results14, go_sem, n0, n1, n2, n3, n4, n5, n6, n7]) rfl ⟨rfl, ?_⟩
                have bl := BX.out
                refine Below.drew ?_
                repeat' refine bel_cell ?_ (by omega) _ _
                exact bl
          · obtain rfl : k = 5 := by omega
            obtain ⟨gl, cl, rfl, ll, _, hcl⟩ := own_spot (show wr.ownsRow w1.heap.size 23 1 _ 6 (stA W6 (5 + 1)) from by have := T.out.up; rw [stA_len] at this; exact this) (by decide)
            obtain ⟨gs, cs, rfl, ls, _, hcs⟩ := own_spot (show wr.ownsRow w1.heap.size 4 1 _ 6 (stB W6 (5 + 1)) from by have := T.out.down; rw [stB_len] at this; exact this) (by decide)
            have bs := (T.out.down.lt gs rfl).1
            have F1 := H1.out.next T.out.below
            have FF : FN w gl gs (Exp.exOf W6) wr := ⟨F1.below, F1.res, ll, ls, by have := H1.out.lu; have := H1.out.nu; omega, fun j hj => by rw [exOf_at _ j hj]; exact hcl j _ (stA_at W6 (by omega)), hcs 3 _ (stB_at W6 (by decide)), hcs 5 _ (stB_at W6 (by decide))⟩
            have hr := HRD.out
            rw [Exp.read_ok (fun i hi => NE.out i (by omega))] at hr
            simp only [Prod.mk.injEq] at hr
            obtain ⟨hx, rfl, rfl⟩ := hr
            rw [hx] at FF
            have nd : gs ≠ w.heap.size := fun e => FF.ns e.symm
            have nd2 := FF.ns
            have Q := Lib.hid FF
            clear F1 FF hcl hcs T HRD NE H1 hx bs ll ls HR SX
            obtain ⟨c3, c5⟩ := (show _ ∧ _ from ⟨Q.out.s3, Q.out.s5⟩)
            obtain ⟨b3, hb3⟩ : ∃ b, x.b3 = b := ⟨_, rfl⟩
            obtain ⟨b5, hb5⟩ : ∃ b, x.b5 = b := ⟨_, rfl⟩
            have MD := Lib.hid (fun (W : World) (q : FN w gl gs x W) => q.made cl)
            have CS := Lib.hid (fun (W : World) (q : FN w gl gs x W) => And.intro q.s3 q.s5)
            rw [hb3, hb5] at MD CS
            rw [hb3] at c3
            rw [hb5] at c5
            go_wp2_with fail
            refine wp_region_held_drew (S := fun w' => w'.cell? ⟨gs, 3, none⟩ = some (.bool b3) ∧ w'.cell? ⟨gs, 5, none⟩ = some (.bool b5)) (by kernel_rfl) ?mbhS (fun hHeld => ?mbhR)
            case mbhS => ((try dsimp only); first | (go_keep; done) | exact KE.out _ _ _ _ _ _ _ _)
            refine wpAnyH_take (i := 0) (v := ?mbmv0) rfl (by kernel_rfl) (by kernel_rfl) (by kernel_rfl) (fun _ _ _ h => h) (Or.inl ⟨by rfl, ?mbmy0⟩) (by assumption) ?mbmr0
            case mbmy0 => (intro w hSw; (try dsimp only at hSw); (try simp only [List.getElem_toArray, List.getElem_cons_zero, List.getElem_cons_succ]); go_simp; try with_reducible rfl)
            simp only [Act.put, List.getElem_toArray, List.getElem_cons_zero, List.getElem_cons_succ, List.setIfInBounds_toArray, List.set_cons_zero, List.set_cons_succ]
            refine wpAnyH_take (i := 1) (v := ?mbmv1) rfl (by kernel_rfl) (by kernel_rfl) (by kernel_rfl) (fun _ _ _ h => h) (Or.inl ⟨by rfl, ?mbmy1⟩) (by assumption) ?mbmr1
            case mbmy1 => (intro w hSw; (try dsimp only at hSw); (try simp only [List.getElem_toArray, List.getElem_cons_zero, List.getElem_cons_succ]); go_simp; try with_reducible rfl)
            simp only [Act.put, List.getElem_toArray, List.getElem_cons_zero, List.getElem_cons_succ, List.setIfInBounds_toArray, List.set_cons_zero, List.set_cons_succ]
            refine wpAnyH_take (i := 2) (v := ?mbmv2) rfl (by kernel_rfl) (by kernel_rfl) (by kernel_rfl) (fun _ _ _ h => h) (Or.inl ⟨by rfl, ?mbmy2⟩) (by assumption) ?mbmr2
            case mbmy2 => (intro w hSw; (try dsimp only at hSw); (try simp only [List.getElem_toArray, List.getElem_cons_zero, List.getElem_cons_succ]); go_simp; try with_reducible rfl)
            simp only [Act.put, List.getElem_toArray, List.getElem_cons_zero, List.getElem_cons_succ, List.setIfInBounds_toArray, List.set_cons_zero, List.set_cons_succ]
            refine wpAnyH_take (i := 3) (v := ?mbmv3) rfl (by kernel_rfl) (by kernel_rfl) (by kernel_rfl) (fun _ _ _ h => h) (Or.inl ⟨by rfl, ?mbmy3⟩) (by assumption) ?mbmr3
            case mbmy3 => (intro w hSw; (try dsimp only at hSw); (try simp only [List.getElem_toArray, List.getElem_cons_zero, List.getElem_cons_succ]); go_simp; try with_reducible rfl)
            simp only [Act.put, List.getElem_toArray, List.getElem_cons_zero, List.getElem_cons_succ, List.setIfInBounds_toArray, List.set_cons_zero, List.set_cons_succ]
            refine wpAnyH_take (i := 4) (v := ?mbmv4) rfl (by kernel_rfl) (by kernel_rfl) (by kernel_rfl) (fun _ _ _ h => h) (Or.inl ⟨by rfl, ?mbmy4⟩) (by assumption) ?mbmr4
            case mbmy4 => (intro w hSw; (try dsimp only at hSw); (try simp only [List.getElem_toArray, List.getElem_cons_zero, List.getElem_cons_succ]); go_simp; try with_reducible rfl)
            simp only [Act.put, List.getElem_toArray, List.getElem_cons_zero, List.getElem_cons_succ, List.setIfInBounds_toArray, List.set_cons_zero, List.set_cons_succ]
            refine wpAnyH_take (i := 5) (v := ?mbmv5) rfl (by kernel_rfl) (by kernel_rfl) (by kernel_rfl) (fun _ _ _ h => h) (Or.inl ⟨by rfl, ?mbmy5⟩) (by assumption) ?mbmr5
            case mbmy5 => (intro w hSw; (try dsimp only at hSw); (try simp only [List.getElem_toArray, List.getElem_cons_zero, List.getElem_cons_succ]); go_simp; try with_reducible rfl)
            simp only [Act.put, List.getElem_toArray, List.getElem_cons_zero, List.getElem_cons_succ, List.setIfInBounds_toArray, List.set_cons_zero, List.set_cons_succ]
            refine wpAnyH_take (i := 6) (v := ?mbmv6) rfl (by kernel_rfl) (by kernel_rfl) (by kernel_rfl) (fun _ _ _ h => h) (Or.inl ⟨by rfl, ?mbmy6⟩) (by assumption) ?mbmr6
            case mbmy6 => (intro w hSw; (try dsimp only at hSw); (try simp only [List.getElem_toArray, List.getElem_cons_zero, List.getElem_cons_succ]); go_simp; try with_reducible rfl)
            simp only [Act.put, List.getElem_toArray, List.getElem_cons_zero, List.getElem_cons_succ, List.setIfInBounds_toArray, List.set_cons_zero, List.set_cons_succ]
            refine wpAnyH_ready (rs := [7]) (by kernel_rfl) (by simp) ?_
            refine AllReadyH.cons rfl (fun K hK => ?_) AllReadyH.nil
            rw [if_pos (by rfl)]
            (try simp only [List.getElem_toArray, List.getElem_cons_zero, List.getElem_cons_succ])
            go_simp
            (refine (MD.out _ (by first | exact Q.out | exact Q.out.drew)).mono ?_; rintro e' w20 ⟨rfl, q'⟩; obtain ⟨c3, c5⟩ := CS.out _ q'; have R := q'.res; have f0 := R.free 0; have f1 := R.free 1; have f2 := R.free 2; have f3 := R.free 3; have f4 := R.free 4; have f5 := R.free 5; have f6 := R.free 6; have f7 := R.free 7; have KE := Lib.hid (fun v0 v1 v2 v3 v4 v5 v6 v7 => And.intro ((set8_grown w20 w.heap.size v0 v1 v2 v3 v4 v5 v6 v7).cell (a := ⟨gs, 3, none⟩) c3 (fun e => q'.ns (by cases e; rfl))) ((set8_grown w20 w.heap.size v0 v1 v2 v3 v4 v5 v6 v7).cell (a := ⟨gs, 5, none⟩) c5 (fun e => q'.ns (by cases e; rfl)))); have Q := Lib.hid q'; have RR := set8_row R (.int .u64 x.a0) (.int .u64 x.a1) (.int .u64 x.a2) (.int .u64 x.a3) (.int .u64 x.a4) (.int .u64 x.a5) (.bool b3) (.bool b5); have M := Lib.hid RR; have n0 := R.cell 0; have n1 := R.cell 1; have n2 := R.cell 2; have n3 := R.cell 3; have n4 := R.cell 4; have n5 := R.cell 5; have n6 := R.cell 6; have n7 := R.cell 7; simp only [exL, Exp.zero, List.getElem?_cons_zero, List.getElem?_cons_succ, Int.natCast_zero] at n0 n1 n2 n3 n4 n5 n6 n7; clear R RR q')
            refine hK.out _ _ ?mbhS7 (fun hHeld => ?mbhR7)
            case mbhS7 => ((try dsimp only); first | (go_keep; done) | exact KE.out _ _ _ _ _ _ _ _)
            clear hK K
            (try simp only [Act.put, List.setIfInBounds_toArray, List.set_cons_zero, List.set_cons_succ])
            refine wpAnyH_ready (rs := [8]) (by kernel_rfl) (by simp) ?_
            refine AllReadyH.cons rfl (fun K hK => ?_) AllReadyH.nil
            rw [if_pos (by rfl)]
            (try simp only [List.getElem_toArray, List.getElem_cons_zero, List.getElem_cons_succ])
            go_simp
            (skip)
            refine hK.out _ _ ?mbhS8 (fun hHeld => ?mbhR8)
            case mbhS8 => ((try dsimp only); first | (go_keep; done) | exact KE.out _ _ _ _ _ _ _ _)
            clear hK K
            (try simp only [Act.put, List.setIfInBounds_toArray, List.set_cons_zero, List.set_cons_succ])
            refine wpAnyH_take (i := 9) (v := ?mbmv9) rfl (by kernel_rfl) (by kernel_rfl) (by kernel_rfl) (fun _ _ _ h => h) (Or.inl ⟨by rfl, ?mbmy9⟩) (by assumption) ?mbmr9
            case mbmy9 => (intro w hSw; (try dsimp only at hSw); (try simp only [List.getElem_toArray, List.getElem_cons_zero, List.getElem_cons_succ]); go_simp; try with_reducible rfl)
            simp only [Act.put, List.getElem_toArray, List.getElem_cons_zero, List.getElem_cons_succ, List.setIfInBounds_toArray, List.set_cons_zero, List.set_cons_succ]
            refine wpAnyH_take (i := 10) (v := ?mbmv10) rfl (by kernel_rfl) (by kernel_rfl) (by kernel_rfl) (fun _ _ _ h => h) (Or.inl ⟨by rfl, ?mbmy10⟩) (by assumption) ?mbmr10
            case mbmy10 => (intro w hSw; (try dsimp only at hSw); (try simp only [List.getElem_toArray, List.getElem_cons_zero, List.getElem_cons_succ]); go_simp; try with_reducible rfl)
            simp only [Act.put, List.getElem_toArray, List.getElem_cons_zero, List.getElem_cons_succ, List.setIfInBounds_toArray, List.set_cons_zero, List.set_cons_succ]
            refine wpAnyH_done (by kernel_rfl) ?_ _
            go_wp2_with fail
            have RR := M.out
            have m0 := RR.cell 0; have m1 := RR.cell 1; have m2 := RR.cell 2; have m3 := RR.cell 3; have m4 := RR.cell 4; have m5 := RR.cell 5; have m6 := RR.cell 6; have m7 := RR.cell 7
            simp only [List.getElem?_cons_zero, List.getElem?_cons_succ] at m0 m1 m2 m3 m4 m5 m6 m7
            rw [hb3, hb5]
            refine bodyPost_ret (v := .tuple #[.agg #[.int .u64 x.a0, .int .u64 x.a1, .int .u64 x.a2, .int .u64 x.a3, .int .u64 x.a4, .int .u64 x.a5, .bool b3, .bool b5], .int .i64 (0 : Nat), .int .i64 (0 : Nat)]) (by simp [results, Tryz.results14, go_sem, m0, m1, m2, m3, m4, m5, m6, m7]) rfl ⟨rfl, ?_⟩
            have bl := Q.out.below
            repeat' refine bel_cell ?_ (by omega) _ _
            exact bl
end Go.Proofs.YtpnfifhanmpapaaGreatDoor
