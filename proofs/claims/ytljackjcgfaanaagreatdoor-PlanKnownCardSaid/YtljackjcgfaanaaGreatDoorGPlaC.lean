/- The context of a call of package plan: its plan in a block of the call's own; kinds, skips, which plans of a kind are valid. The functions of the three kinds of plans: whether a plan has a time, its next one, how many there are in a span. The document's behind and Check. -/
import Derived.Test.YtljackjcgfaanaaGreatDoorGPlaDef
import Derived.Test.YtljackjcgfaanaaGreatDoorGMatK
import Derived.Test.YtljackjcgfaanaaGreatDoorGMatO
import Derived.Test.YtljackjcgfaanaaGreatDoorGEveB
import Derived.Test.YtljackjcgfaanaaGreatDoorExpRb
/- The context of a call of package plan: its plan in a block of the call's own; kinds, skips, which plans of a kind are valid. -/
namespace Go.Proofs.YtljackjcgfaanaaGreatDoor
open Go.ChangeShapes Go.RowKit

/-- a plan in block B, its spans, the two tables -/
structure PB (w : World) (B : Nat) (q : Pl.P) (v : Value) (W : World) : Prop where
  below : Below w.heap.size w W
  row : Row W B 29 (plL q v)
  sp : Bo.RowS W v q.l
  lay : LayM W
theorem PB.next {w W W' : World} {B : Nat} {q : Pl.P} {v : Value} (h : PB w B q v W) (hb : Below W.heap.size W W') : PB w B q v W' := ⟨h.below.trans (hb.mono h.below.size), h.row.below hb, h.sp.below hb, h.lay.below hb⟩
theorem PB.drew {w W : World} {B : Nat} {q : Pl.P} {v : Value} (h : PB w B q v W) : PB w B q v W.drew := h.next (Below.refl _ _).drew
theorem PB.drewN {w W : World} {B : Nat} {q : Pl.P} {v : Value} (h : PB w B q v W) (n : Nat) : PB w B q v (W.drewN n) := h.next (Bo.below_drewN (Below.refl _ _) n)
theorem PB.alloc {w W : World} {B : Nat} {q : Pl.P} {v : Value} (h : PB w B q v W) (o : Obj) : PB w B q v (W.alloc o) := h.next ((Below.refl _ _).alloc (Nat.le_refl _) o)
theorem PB.start {w : World} {q : Pl.P} {v : Value} (L : LayM w) (h : Bo.RowS w v q.l) : PB w w.heap.size q v (w.alloc (.cells #[.int .i64 q.k, .int .u64 q.x.a0, .int .u64 q.x.a1, .int .u64 q.x.a2, .int .u64 q.x.a3, .int .u64 q.x.a4, .int .u64 q.x.a5, .bool q.x.b3, .bool q.x.b5, .int .i64 q.z, .int .i64 q.s, .int .i64 q.p, .int .i64 q.c, v] 29)) :=
  ⟨(Below.refl _ _).alloc (Nat.le_refl _) _, Row.new w (plL q v) _, h.alloc _, L.alloc _⟩
theorem PB.cells {w W : World} {B : Nat} {q : Pl.P} {v : Value} (h : PB w B q v W) : W.cell? ⟨B, 0, none⟩ = some (.int .i64 q.k) ∧ W.cell? ⟨B, 1, none⟩ = some (.int .u64 q.x.a0) ∧ W.cell? ⟨B, 2, none⟩ = some (.int .u64 q.x.a1) ∧ W.cell? ⟨B, 3, none⟩ = some (.int .u64 q.x.a2) ∧ W.cell? ⟨B, 4, none⟩ = some (.int .u64 q.x.a3) ∧ W.cell? ⟨B, 5, none⟩ = some (.int .u64 q.x.a4) ∧ W.cell? ⟨B, 6, none⟩ = some (.int .u64 q.x.a5) ∧ W.cell? ⟨B, 7, none⟩ = some (.bool q.x.b3) ∧ W.cell? ⟨B, 8, none⟩ = some (.bool q.x.b5) ∧ W.cell? ⟨B, 9, none⟩ = some (.int .i64 q.z) ∧ W.cell? ⟨B, 10, none⟩ = some (.int .i64 q.s) ∧ W.cell? ⟨B, 11, none⟩ = some (.int .i64 q.p) ∧ W.cell? ⟨B, 12, none⟩ = some (.int .i64 q.c) ∧ W.cell? ⟨B, 13, none⟩ = some (v) := plRow h.row
theorem PB.lt {w W : World} {B : Nat} {q : Pl.P} {v : Value} (h : PB w B q v W) : B < W.heap.size := h.row.lt

theorem skips_any (q : Pl.P) (v : Value) (r : Bool) (hr : (Bk.errL q.l == 0) = r) (w : World) (h : Bo.RowS w v q.l) :
    Calls Tryz.prog 71 #[.agg #[.int .i64 q.k, .int .u64 q.x.a0, .int .u64 q.x.a1, .int .u64 q.x.a2, .int .u64 q.x.a3, .int .u64 q.x.a4, .int .u64 q.x.a5, .bool q.x.b3, .bool q.x.b5, .int .i64 q.z, .int .i64 q.s, .int .i64 q.p, .int .i64 q.c, v]] w fun e w' => e = .returned (.bool r) ∧ Below w.heap.size w w' := by
  have HB0 := Lib.hid ((Below.refl _ w).alloc (Nat.le_refl _) (.cells #[.int .i64 q.k, .int .u64 q.x.a0, .int .u64 q.x.a1, .int .u64 q.x.a2, .int .u64 q.x.a3, .int .u64 q.x.a4, .int .u64 q.x.a5, .bool q.x.b3, .bool q.x.b5, .int .i64 q.z, .int .i64 q.s, .int .i64 q.p, .int .i64 q.c, v] 29))
  have CK := Lib.hid (Bo.chk_any v q.l _ rfl _ (h.alloc (.cells #[.int .i64 q.k, .int .u64 q.x.a0, .int .u64 q.x.a1, .int .u64 q.x.a2, .int .u64 q.x.a3, .int .u64 q.x.a4, .int .u64 q.x.a5, .bool q.x.b3, .bool q.x.b5, .int .i64 q.z, .int .i64 q.s, .int .i64 q.p, .int .i64 q.c, v] 29)))
  generalize Bk.errL q.l = e at hr CK
  clear h
  go_enter Tryz.func71, Tryz.ntmps71
  go_wp2_with fail
  refine (CK.out).mono ?_
  rintro e w1 ⟨rfl, hb1⟩
  go_wp2_with fail
  go_ret
  exact ⟨rfl, HB0.out.trans (hb1.mono HB0.out.size)⟩
/-- the functions of a kind -/
def kindL : Nat → List Value
  | 0 => [.func (.func 64) #[] #[], .func (.func 65) #[] #[], .func (.func 66) #[] #[], .func (.func 67) #[] #[]]
  | 1 => [.func (.func 68) #[] #[], .func (.func 72) #[] #[], .func (.func 74) #[] #[], .func (.func 76) #[] #[]]
  | _ => [.func (.func 78) #[] #[], .func (.func 80) #[] #[], .func (.func 82) #[] #[], .func (.func 84) #[] #[]]
set_option maxRecDepth 100000 in
set_option maxHeartbeats 4000000 in
theorem kinds_any (w : World) : Calls Tryz.prog 43 #[] w fun e w' => e = .returned (.agg #[.func (.func 64) #[] #[], .func (.func 65) #[] #[], .func (.func 66) #[] #[], .func (.func 67) #[] #[], .func (.func 68) #[] #[], .func (.func 72) #[] #[], .func (.func 74) #[] #[], .func (.func 76) #[] #[], .func (.func 78) #[] #[], .func (.func 80) #[] #[], .func (.func 82) #[] #[], .func (.func 84) #[] #[]]) ∧ Below w.heap.size w w' := by
  have HB0 := Lib.hid ((Below.refl _ w).alloc (Nat.le_refl _) (.cells #[.func (.func 64) #[] #[], .func (.func 65) #[] #[], .func (.func 66) #[] #[], .func (.func 67) #[] #[], .func (.func 68) #[] #[], .func (.func 72) #[] #[], .func (.func 74) #[] #[], .func (.func 76) #[] #[], .func (.func 78) #[] #[], .func (.func 80) #[] #[], .func (.func 82) #[] #[], .func (.func 84) #[] #[]] 75))
  go_enter Tryz.func43, Tryz.ntmps43
  go_wp2_with fail
  refine bodyPost_ret (v := .agg #[.func (.func 64) #[] #[], .func (.func 65) #[] #[], .func (.func 66) #[] #[], .func (.func 67) #[] #[], .func (.func 68) #[] #[], .func (.func 72) #[] #[], .func (.func 74) #[] #[], .func (.func 76) #[] #[], .func (.func 78) #[] #[], .func (.func 80) #[] #[], .func (.func 82) #[] #[], .func (.func 84) #[] #[]]) (by simp [results, Tryz.results43, go_sem]) rfl ⟨rfl, HB0.out⟩

/-! which plans of a kind are valid -/
def pZero : Pl.P := ⟨0, Pl.x0, 0, 0, 0, 0, []⟩
theorem valid0 (q : Pl.P) (v : Value) (r : Bool) (hr : r = true ↔ q = pZero) (w : World) (h : Bo.RowS w v q.l) :
    Calls Tryz.prog 64 #[.agg #[.int .i64 q.k, .int .u64 q.x.a0, .int .u64 q.x.a1, .int .u64 q.x.a2, .int .u64 q.x.a3, .int .u64 q.x.a4, .int .u64 q.x.a5, .bool q.x.b3, .bool q.x.b5, .int .i64 q.z, .int .i64 q.s, .int .i64 q.p, .int .i64 q.c, v]] w fun e w' => e = .returned (.bool r) ∧ Below w.heap.size w w' := by
  have HB0 := Lib.hid ((Below.refl _ w).alloc (Nat.le_refl _) (.cells #[.int .i64 q.k, .int .u64 q.x.a0, .int .u64 q.x.a1, .int .u64 q.x.a2, .int .u64 q.x.a3, .int .u64 q.x.a4, .int .u64 q.x.a5, .bool q.x.b3, .bool q.x.b5, .int .i64 q.z, .int .i64 q.s, .int .i64 q.p, .int .i64 q.c, v] 29))
  have EQ : Hid (Calls Tryz.prog 28 #[.agg #[.int .i64 q.k, .int .u64 q.x.a0, .int .u64 q.x.a1, .int .u64 q.x.a2, .int .u64 q.x.a3, .int .u64 q.x.a4, .int .u64 q.x.a5, .bool q.x.b3, .bool q.x.b5, .int .i64 q.z, .int .i64 q.s, .int .i64 q.p, .int .i64 q.c, v], .agg #[.int .i64 0, .int .u64 0, .int .u64 0, .int .u64 0, .int .u64 0, .int .u64 0, .int .u64 0, .bool false, .bool false, .int .i64 0, .int .i64 0, .int .i64 0, .int .i64 0, .slice none 0 0]] (w.alloc (.cells #[.int .i64 q.k, .int .u64 q.x.a0, .int .u64 q.x.a1, .int .u64 q.x.a2, .int .u64 q.x.a3, .int .u64 q.x.a4, .int .u64 q.x.a5, .bool q.x.b3, .bool q.x.b5, .int .i64 q.z, .int .i64 q.s, .int .i64 q.p, .int .i64 q.c, v] 29)) fun e w' => e = .returned (.bool r) ∧ Below (w.alloc (.cells #[.int .i64 q.k, .int .u64 q.x.a0, .int .u64 q.x.a1, .int .u64 q.x.a2, .int .u64 q.x.a3, .int .u64 q.x.a4, .int .u64 q.x.a5, .bool q.x.b3, .bool q.x.b5, .int .i64 q.z, .int .i64 q.s, .int .i64 q.p, .int .i64 q.c, v] 29)).heap.size (w.alloc (.cells #[.int .i64 q.k, .int .u64 q.x.a0, .int .u64 q.x.a1, .int .u64 q.x.a2, .int .u64 q.x.a3, .int .u64 q.x.a4, .int .u64 q.x.a5, .bool q.x.b3, .bool q.x.b5, .int .i64 q.z, .int .i64 q.s, .int .i64 q.p, .int .i64 q.c, v] 29)) w') := Lib.hid (peq_any q pZero v (.slice none 0 0) r hr _ (h.alloc _) (Bo.RowS.nil _))
  clear h hr
  go_enter Tryz.func64, Tryz.ntmps64
  go_wp2_with fail
  refine (EQ.out).mono ?_
  rintro e w1 ⟨rfl, hb1⟩
  go_wp2_with fail
  go_ret
  exact ⟨rfl, HB0.out.trans (hb1.mono HB0.out.size)⟩
theorem errOk_z (b : Bool) : (errOk b == 0) = b := by cases b <;> rfl
set_option maxRecDepth 100000 in
set_option maxHeartbeats 4000000 in
theorem valid1 (q : Pl.P) (hx : q.x.Bd) (v : Value) (r : Bool) (hr : r = true ↔ q.x.okB = true ∧ errZ q.z = 0 ∧ (q.s = 0 ∧ q.p = 0 ∧ q.c = 0) ∧ Bk.errL q.l = 0) (w : World) (L : LayM w) (h : Bo.RowS w v q.l) :
    Calls Tryz.prog 68 #[.agg #[.int .i64 q.k, .int .u64 q.x.a0, .int .u64 q.x.a1, .int .u64 q.x.a2, .int .u64 q.x.a3, .int .u64 q.x.a4, .int .u64 q.x.a5, .bool q.x.b3, .bool q.x.b5, .int .i64 q.z, .int .i64 q.s, .int .i64 q.p, .int .i64 q.c, v]] w fun e w' => e = .returned (.bool r) ∧ Below w.heap.size w w' := by
  have Q := Lib.hid (PB.start L h)
  have CE := Lib.hid (fun W => check_ex q.x hx W)
  have CZ := Lib.hid (fun W => zcheck_any q.z W)
  have SK := Lib.hid (fun b hb W hh => skips_any q v b hb W hh)
  have HR := Lib.hid hr
  obtain ⟨o, ho⟩ : ∃ o, q.x.okB = o := ⟨_, rfl⟩
  obtain ⟨ez, hz⟩ : ∃ ez, errZ q.z = ez := ⟨_, rfl⟩
  rw [ho, hz] at HR
  rw [ho] at CE
  rw [hz] at CZ
  clear h hr hx L ho hz
  have t0 := errOk_z o
  cases o with
  | false =>
    have NO := Lib.hid (r_no HR.out (fun z => by cases z.1))
    go_enter Tryz.func68, Tryz.ntmps68
    go_wp2_with fail
    refine (CE.out _).mono ?_
    rintro e w1 ⟨rfl, hb1⟩
    have Q1 := Lib.hid (Q.out.next hb1)
    obtain ⟨c0, c1, c2, c3, c4, c5, c6, c7, c8, c9, c10, c11, c12, c13⟩ := Q1.out.cells
    clear hb1
    go_wp2_with fail
    go_ret
    exact ⟨Bo.ret_bool NO.out.symm, Q1.out.below⟩
  | true =>
    by_cases z : ez = 0
    · have t1 : (ez == 0) = true := by simpa using z
      by_cases y : q.s = 0 ∧ q.p = 0 ∧ q.c = 0
      · have t2 : pSame3 q.s q.p q.c 0 0 0 = true := (pSame3_iff _ _ _ _ _ _).2 y
        have HS := Lib.hid (show (Bk.errL q.l == 0) = r from by
          cases r with
          | true => simpa using (HR.out.1 rfl).2.2.2
          | false => rw [Bool.eq_false_iff]; exact fun k => by cases HR.out.2 ⟨rfl, z, y, by simpa using k⟩)
        clear z y
        go_enter Tryz.func68, Tryz.ntmps68
        go_wp2_with fail
        refine (CE.out _).mono ?_
        rintro e w1 ⟨rfl, hb1⟩
        have Q1 := Lib.hid (Q.out.next hb1)
        obtain ⟨c0, c1, c2, c3, c4, c5, c6, c7, c8, c9, c10, c11, c12, c13⟩ := Q1.out.cells
        clear hb1
        go_wp2_with fail
        refine (CZ.out _).mono ?_
        rintro e w2 ⟨rfl, rfl⟩
        go_wp2_with fail
        refine (SK.out _ HS.out _ Q1.out.sp).mono ?_
        rintro e w3 ⟨rfl, hb3⟩
        have Q3 := Lib.hid (Q1.out.next hb3)
        clear hb3
        go_wp2_with fail
        go_ret
        exact ⟨rfl, Q3.out.below⟩
      · have t2 : pSame3 q.s q.p q.c 0 0 0 = false := by rw [Bool.eq_false_iff]; exact fun k => y ((pSame3_iff _ _ _ _ _ _).1 k)
        have NO := Lib.hid (r_no HR.out (fun k => y k.2.2.1))
        clear z y
        go_enter Tryz.func68, Tryz.ntmps68
        go_wp2_with fail
        refine (CE.out _).mono ?_
        rintro e w1 ⟨rfl, hb1⟩
        have Q1 := Lib.hid (Q.out.next hb1)
        obtain ⟨c0, c1, c2, c3, c4, c5, c6, c7, c8, c9, c10, c11, c12, c13⟩ := Q1.out.cells
        clear hb1
        go_wp2_with fail
        refine (CZ.out _).mono ?_
        rintro e w2 ⟨rfl, rfl⟩
        go_wp2_with fail
        go_ret
        exact ⟨Bo.ret_bool NO.out.symm, Q1.out.below⟩
    · have t1 : (ez == 0) = false := by simpa using z
      have NO := Lib.hid (r_no HR.out (fun k => z k.2.1))
      clear z
      go_enter Tryz.func68, Tryz.ntmps68
      go_wp2_with fail
      refine (CE.out _).mono ?_
      rintro e w1 ⟨rfl, hb1⟩
      have Q1 := Lib.hid (Q.out.next hb1)
      obtain ⟨c0, c1, c2, c3, c4, c5, c6, c7, c8, c9, c10, c11, c12, c13⟩ := Q1.out.cells
      clear hb1
      go_wp2_with fail
      refine (CZ.out _).mono ?_
      rintro e w2 ⟨rfl, rfl⟩
      go_wp2_with fail
      go_ret
      exact ⟨Bo.ret_bool NO.out.symm, Q1.out.below⟩
theorem same8_0 (x : Exp.Ex) : (same8 x.a0 x.a1 x.a2 x.a3 x.a4 x.a5 x.b3 x.b5 0 0 0 0 0 0 false false = true) ↔ x = Pl.x0 := same8_iff x Pl.x0
set_option maxRecDepth 100000 in
set_option maxHeartbeats 4000000 in
theorem valid2 (q : Pl.P) (v : Value) (r : Bool) (hr : r = true ↔ Ev.Ok q.s q.p q.c ∧ q.x = Pl.x0 ∧ q.z = 0 ∧ Bk.errL q.l = 0) (w : World) (L : LayM w) (h : Bo.RowS w v q.l) :
    Calls Tryz.prog 78 #[.agg #[.int .i64 q.k, .int .u64 q.x.a0, .int .u64 q.x.a1, .int .u64 q.x.a2, .int .u64 q.x.a3, .int .u64 q.x.a4, .int .u64 q.x.a5, .bool q.x.b3, .bool q.x.b5, .int .i64 q.z, .int .i64 q.s, .int .i64 q.p, .int .i64 q.c, v]] w fun e w' => e = .returned (.bool r) ∧ Below w.heap.size w w' := by
  have Q := Lib.hid (PB.start L h)
  obtain ⟨ee, hee⟩ : ∃ ee, En.errE q.s q.p q.c = ee := ⟨_, rfl⟩
  have CE := Lib.hid (fun W => En.check_any q.s q.p q.c ee W hee)
  have SK := Lib.hid (fun b hb W hh => skips_any q v b hb W hh)
  have HR := Lib.hid hr
  have HE : ee = 0 ↔ Ev.Ok q.s q.p q.c := by
    rw [← hee]; unfold En.errE
    by_cases k : Ev.Ok q.s q.p q.c
    · rw [if_pos k]; simp [k]
    · rw [if_neg k]; simp [k]
  clear h hr L hee
  by_cases e1 : ee = 0
  · have t0 : (ee == 0) = true := by simpa using e1
    have ok := HE.1 e1
    by_cases x1 : q.x = Pl.x0
    · have t1 := (same8_0 q.x).2 x1
      by_cases z1 : q.z = 0
      · have t2 : (q.z == 0) = true := by simpa using z1
        have HS := Lib.hid (show (Bk.errL q.l == 0) = r from by
          cases r with
          | true => simpa using (HR.out.1 rfl).2.2.2
          | false => rw [Bool.eq_false_iff]; exact fun k => by cases HR.out.2 ⟨ok, x1, z1, by simpa using k⟩)
        clear e1 HE x1 z1 ok
        go_enter Tryz.func78, Tryz.ntmps78
        go_wp2_with fail
        refine (CE.out _).mono ?_
        rintro e w1 ⟨rfl, hb1⟩
        have Q1 := Lib.hid (Q.out.next hb1)
        obtain ⟨c0, c1, c2, c3, c4, c5, c6, c7, c8, c9, c10, c11, c12, c13⟩ := Q1.out.cells
        clear hb1
        go_wp2_with fail
        refine (SK.out _ HS.out _ Q1.out.sp).mono ?_
        rintro e w3 ⟨rfl, hb3⟩
        have Q3 := Lib.hid (Q1.out.next hb3)
        clear hb3
        go_wp2_with fail
        go_ret
        exact ⟨rfl, Q3.out.below⟩
      · have t2 : (q.z == 0) = false := by simpa using z1
        have NO := Lib.hid (r_no HR.out (fun k => z1 k.2.2.1))
        clear e1 HE x1 z1 ok
        go_enter Tryz.func78, Tryz.ntmps78
        go_wp2_with fail
        refine (CE.out _).mono ?_
        rintro e w1 ⟨rfl, hb1⟩
        have Q1 := Lib.hid (Q.out.next hb1)
        obtain ⟨c0, c1, c2, c3, c4, c5, c6, c7, c8, c9, c10, c11, c12, c13⟩ := Q1.out.cells
        clear hb1
        go_wp2_with fail
        go_ret
        exact ⟨Bo.ret_bool NO.out.symm, Q1.out.below⟩
    · have t1 : same8 q.x.a0 q.x.a1 q.x.a2 q.x.a3 q.x.a4 q.x.a5 q.x.b3 q.x.b5 0 0 0 0 0 0 false false = false := by rw [Bool.eq_false_iff]; exact fun k => x1 ((same8_0 q.x).1 k)
      have NO := Lib.hid (r_no HR.out (fun k => x1 k.2.1))
      clear e1 HE x1 ok
      go_enter Tryz.func78, Tryz.ntmps78
      go_wp2_with fail
      refine (CE.out _).mono ?_
      rintro e w1 ⟨rfl, hb1⟩
      have Q1 := Lib.hid (Q.out.next hb1)
      obtain ⟨c0, c1, c2, c3, c4, c5, c6, c7, c8, c9, c10, c11, c12, c13⟩ := Q1.out.cells
      clear hb1
      go_wp2_with fail
      go_ret
      exact ⟨Bo.ret_bool NO.out.symm, Q1.out.below⟩
  · have t0 : (ee == 0) = false := by simpa using e1
    have NO := Lib.hid (r_no HR.out (fun k => e1 (HE.2 k.1)))
    clear e1 HE
    go_enter Tryz.func78, Tryz.ntmps78
    go_wp2_with fail
    refine (CE.out _).mono ?_
    rintro e w1 ⟨rfl, hb1⟩
    have Q1 := Lib.hid (Q.out.next hb1)
    obtain ⟨c0, c1, c2, c3, c4, c5, c6, c7, c8, c9, c10, c11, c12, c13⟩ := Q1.out.cells
    clear hb1
    go_wp2_with fail
    go_ret
    exact ⟨Bo.ret_bool NO.out.symm, Q1.out.below⟩
end Go.Proofs.YtljackjcgfaanaaGreatDoor
/- The functions of the three kinds of plans: whether a plan has a time, its next one, how many there are in a span. -/
namespace Go.Proofs.YtljackjcgfaanaaGreatDoor
open Go.ChangeShapes Go.RowKit

theorem khas0 (q : Pl.P) (v : Value) (t : Int) (w : World) :
    Calls Tryz.prog 65 #[.agg #[.int .i64 q.k, .int .u64 q.x.a0, .int .u64 q.x.a1, .int .u64 q.x.a2, .int .u64 q.x.a3, .int .u64 q.x.a4, .int .u64 q.x.a5, .bool q.x.b3, .bool q.x.b5, .int .i64 q.z, .int .i64 q.s, .int .i64 q.p, .int .i64 q.c, v], .int .i64 t] w fun e w' => e = .returned (.bool false) ∧ Below w.heap.size w w' := by
  have HB0 := Lib.hid (show Below w.heap.size w (w.alloc (.cells #[.int .i64 q.k, .int .u64 q.x.a0, .int .u64 q.x.a1, .int .u64 q.x.a2, .int .u64 q.x.a3, .int .u64 q.x.a4, .int .u64 q.x.a5, .bool q.x.b3, .bool q.x.b5, .int .i64 q.z, .int .i64 q.s, .int .i64 q.p, .int .i64 q.c, v] 29)) from (Below.refl _ w).alloc (Nat.le_refl _) _)
  go_enter Tryz.func65, Tryz.ntmps65
  go_wp2_with fail
  go_ret
  exact ⟨rfl, by first | exact HB0.out | exact Below.refl _ _⟩
set_option maxRecDepth 100000 in
theorem khas1 (q : Pl.P) (v : Value) (t : Int) (b : Bool) (e : Int) (hx : q.x.Bd) (hb : isO q.x q.z t = b) (he : errC q.x q.z [t] = e) (w : World) (L : LayM w) (h : Bo.RowS w v q.l) :
    Calls Tryz.prog 72 #[.agg #[.int .i64 q.k, .int .u64 q.x.a0, .int .u64 q.x.a1, .int .u64 q.x.a2, .int .u64 q.x.a3, .int .u64 q.x.a4, .int .u64 q.x.a5, .bool q.x.b3, .bool q.x.b5, .int .i64 q.z, .int .i64 q.s, .int .i64 q.p, .int .i64 q.c, v], .int .i64 t] w fun e w' => e = .returned (.bool b) ∧ Below w.heap.size w w' := by
  have Q := Lib.hid (PB.start L h)
  have C := Lib.hid (fun W L => (show Calls Tryz.prog 73 #[.agg #[.int .u64 q.x.a0, .int .u64 q.x.a1, .int .u64 q.x.a2, .int .u64 q.x.a3, .int .u64 q.x.a4, .int .u64 q.x.a5, .bool q.x.b3, .bool q.x.b5], .int .i64 q.z, .int .i64 t] W fun e' W' => e' = .returned (.tuple #[.bool b, .int .i64 e]) ∧ Below W.heap.size W W' from by rw [← hb, ← he]; exact mis_any q.x hx q.z t W L))
  clear h L
  clear hx hb he
  go_enter Tryz.func72, Tryz.ntmps72
  go_wp2_with fail
  refine (C.out _ Q.out.lay).mono ?_
  rintro e w1 ⟨rfl, hb1⟩
  have Q1 := Lib.hid (Q.out.next hb1)
  clear hb1
  go_wp2_with fail
  go_ret
  exact ⟨rfl, Q1.out.below⟩
set_option maxRecDepth 100000 in
theorem khas2 (q : Pl.P) (v : Value) (t : Int) (b : Bool) (e : Int) (hb : En.IsR q.s q.p q.c t b e) (w : World) (L : LayM w) (h : Bo.RowS w v q.l) :
    Calls Tryz.prog 80 #[.agg #[.int .i64 q.k, .int .u64 q.x.a0, .int .u64 q.x.a1, .int .u64 q.x.a2, .int .u64 q.x.a3, .int .u64 q.x.a4, .int .u64 q.x.a5, .bool q.x.b3, .bool q.x.b5, .int .i64 q.z, .int .i64 q.s, .int .i64 q.p, .int .i64 q.c, v], .int .i64 t] w fun e w' => e = .returned (.bool b) ∧ Below w.heap.size w w' := by
  have Q := Lib.hid (PB.start L h)
  have C := Lib.hid (fun W (_ : LayM W) => En.is_any q.s q.p q.c t b e W hb)
  clear h L
  clear hb
  go_enter Tryz.func80, Tryz.ntmps80
  go_wp2_with fail
  refine (C.out _ Q.out.lay).mono ?_
  rintro e w1 ⟨rfl, hb1⟩
  have Q1 := Lib.hid (Q.out.next hb1)
  clear hb1
  go_wp2_with fail
  go_ret
  exact ⟨rfl, Q1.out.below⟩
theorem knext0 (q : Pl.P) (v : Value) (t : Int) (w : World) :
    Calls Tryz.prog 66 #[.agg #[.int .i64 q.k, .int .u64 q.x.a0, .int .u64 q.x.a1, .int .u64 q.x.a2, .int .u64 q.x.a3, .int .u64 q.x.a4, .int .u64 q.x.a5, .bool q.x.b3, .bool q.x.b5, .int .i64 q.z, .int .i64 q.s, .int .i64 q.p, .int .i64 q.c, v], .int .i64 t] w fun e w' => e = .returned (.tuple #[.int .i64 0, .bool false]) ∧ Below w.heap.size w w' := by
  have HB0 := Lib.hid (show Below w.heap.size w (w.alloc (.cells #[.int .i64 q.k, .int .u64 q.x.a0, .int .u64 q.x.a1, .int .u64 q.x.a2, .int .u64 q.x.a3, .int .u64 q.x.a4, .int .u64 q.x.a5, .bool q.x.b3, .bool q.x.b5, .int .i64 q.z, .int .i64 q.s, .int .i64 q.p, .int .i64 q.c, v] 29)) from (Below.refl _ w).alloc (Nat.le_refl _) _)
  go_enter Tryz.func66, Tryz.ntmps66
  go_wp2_with fail
  go_ret2
  exact ⟨rfl, by first | exact HB0.out | exact Below.refl _ _⟩
set_option maxRecDepth 100000 in
theorem knext1 (q : Pl.P) (v : Value) (t : Int) (y : Int) (b : Bool) (e : Int) (hx : q.x.Bd) (hy : (nextO q.x q.z t).getD 0 = y) (hb : (nextO q.x q.z t).isSome = b) (he : errC q.x q.z [t] = e) (w : World) (L : LayM w) (h : Bo.RowS w v q.l) :
    Calls Tryz.prog 74 #[.agg #[.int .i64 q.k, .int .u64 q.x.a0, .int .u64 q.x.a1, .int .u64 q.x.a2, .int .u64 q.x.a3, .int .u64 q.x.a4, .int .u64 q.x.a5, .bool q.x.b3, .bool q.x.b5, .int .i64 q.z, .int .i64 q.s, .int .i64 q.p, .int .i64 q.c, v], .int .i64 t] w fun e w' => e = .returned (.tuple #[.int .i64 y, .bool b]) ∧ Below w.heap.size w w' := by
  have Q := Lib.hid (PB.start L h)
  have C := Lib.hid (fun W L => (show Calls Tryz.prog 75 #[.agg #[.int .u64 q.x.a0, .int .u64 q.x.a1, .int .u64 q.x.a2, .int .u64 q.x.a3, .int .u64 q.x.a4, .int .u64 q.x.a5, .bool q.x.b3, .bool q.x.b5], .int .i64 q.z, .int .i64 t] W fun e' W' => e' = .returned (.tuple #[.int .i64 y, .bool b, .int .i64 e]) ∧ Below W.heap.size W W' from by rw [← hy, ← hb, ← he]; exact mnext_any q.x hx q.z t W L))
  clear h L
  clear hx hy hb he
  go_enter Tryz.func74, Tryz.ntmps74
  go_wp2_with fail
  refine (C.out _ Q.out.lay).mono ?_
  rintro e w1 ⟨rfl, hb1⟩
  have Q1 := Lib.hid (Q.out.next hb1)
  clear hb1
  go_wp2_with fail
  go_ret2
  exact ⟨rfl, Q1.out.below⟩
set_option maxRecDepth 100000 in
theorem knext2 (q : Pl.P) (v : Value) (t : Int) (y : Int) (b : Bool) (e : Int) (hb : En.NextR q.s q.p q.c t y b e) (w : World) (L : LayM w) (h : Bo.RowS w v q.l) :
    Calls Tryz.prog 82 #[.agg #[.int .i64 q.k, .int .u64 q.x.a0, .int .u64 q.x.a1, .int .u64 q.x.a2, .int .u64 q.x.a3, .int .u64 q.x.a4, .int .u64 q.x.a5, .bool q.x.b3, .bool q.x.b5, .int .i64 q.z, .int .i64 q.s, .int .i64 q.p, .int .i64 q.c, v], .int .i64 t] w fun e w' => e = .returned (.tuple #[.int .i64 y, .bool b]) ∧ Below w.heap.size w w' := by
  have Q := Lib.hid (PB.start L h)
  have C := Lib.hid (fun W (_ : LayM W) => En.next_any q.s q.p q.c t y b e W hb)
  clear h L
  clear hb
  go_enter Tryz.func82, Tryz.ntmps82
  go_wp2_with fail
  refine (C.out _ Q.out.lay).mono ?_
  rintro e w1 ⟨rfl, hb1⟩
  have Q1 := Lib.hid (Q.out.next hb1)
  clear hb1
  go_wp2_with fail
  go_ret2
  exact ⟨rfl, Q1.out.below⟩
theorem kcnt0 (q : Pl.P) (v : Value) (a b : Int) (w : World) :
    Calls Tryz.prog 67 #[.agg #[.int .i64 q.k, .int .u64 q.x.a0, .int .u64 q.x.a1, .int .u64 q.x.a2, .int .u64 q.x.a3, .int .u64 q.x.a4, .int .u64 q.x.a5, .bool q.x.b3, .bool q.x.b5, .int .i64 q.z, .int .i64 q.s, .int .i64 q.p, .int .i64 q.c, v], .agg #[.int .i64 a, .int .i64 b]] w fun e w' => e = .returned (.int .i64 0) ∧ Below w.heap.size w w' := by
  have HB0 := Lib.hid (show Below w.heap.size w ((w.alloc (.cells #[.int .i64 q.k, .int .u64 q.x.a0, .int .u64 q.x.a1, .int .u64 q.x.a2, .int .u64 q.x.a3, .int .u64 q.x.a4, .int .u64 q.x.a5, .bool q.x.b3, .bool q.x.b5, .int .i64 q.z, .int .i64 q.s, .int .i64 q.p, .int .i64 q.c, v] 29)).alloc (.cells #[.int .i64 a, .int .i64 b] 48)) from ((Below.refl _ w).alloc (Nat.le_refl _) _).alloc (by simp) _)
  go_enter Tryz.func67, Tryz.ntmps67
  go_wp2_with fail
  go_ret
  exact ⟨rfl, by first | exact HB0.out | exact Below.refl _ _⟩
set_option maxRecDepth 100000 in
theorem kcnt1 (q : Pl.P) (v : Value) (a b : Int) (n e : Int) (hx : q.x.Bd) (hn : ((if errC q.x q.z [a, b] = 0 then countN q.x q.z a b else 0 : Nat) : Int) = n) (he : errC q.x q.z [a, b] = e) (w : World) (L : LayM w) (h : Bo.RowS w v q.l) :
    Calls Tryz.prog 76 #[.agg #[.int .i64 q.k, .int .u64 q.x.a0, .int .u64 q.x.a1, .int .u64 q.x.a2, .int .u64 q.x.a3, .int .u64 q.x.a4, .int .u64 q.x.a5, .bool q.x.b3, .bool q.x.b5, .int .i64 q.z, .int .i64 q.s, .int .i64 q.p, .int .i64 q.c, v], .agg #[.int .i64 a, .int .i64 b]] w fun e w' => e = .returned (.int .i64 n) ∧ Below w.heap.size w w' := by
  have Q := Lib.hid ((PB.start L h).alloc (.cells #[.int .i64 a, .int .i64 b] 48))
  have C := Lib.hid (fun W L => (show Calls Tryz.prog 77 #[.agg #[.int .u64 q.x.a0, .int .u64 q.x.a1, .int .u64 q.x.a2, .int .u64 q.x.a3, .int .u64 q.x.a4, .int .u64 q.x.a5, .bool q.x.b3, .bool q.x.b5], .int .i64 q.z, .int .i64 a, .int .i64 b] W fun e' W' => e' = .returned (.tuple #[.int .i64 n, .int .i64 e]) ∧ Below W.heap.size W W' from by rw [← hn, ← he]; exact mcount_any q.x hx q.z a b W L))
  clear h L
  clear hx hn he
  go_enter Tryz.func76, Tryz.ntmps76
  go_wp2_with fail
  refine (C.out _ Q.out.lay).mono ?_
  rintro e w1 ⟨rfl, hb1⟩
  have Q1 := Lib.hid (Q.out.next hb1)
  clear hb1
  go_wp2_with fail
  go_ret
  exact ⟨rfl, Q1.out.below⟩
set_option maxRecDepth 100000 in
theorem kcnt2 (q : Pl.P) (v : Value) (a b : Int) (n e : Int) (hn : En.CountR q.s q.p q.c a b n e) (w : World) (L : LayM w) (h : Bo.RowS w v q.l) :
    Calls Tryz.prog 84 #[.agg #[.int .i64 q.k, .int .u64 q.x.a0, .int .u64 q.x.a1, .int .u64 q.x.a2, .int .u64 q.x.a3, .int .u64 q.x.a4, .int .u64 q.x.a5, .bool q.x.b3, .bool q.x.b5, .int .i64 q.z, .int .i64 q.s, .int .i64 q.p, .int .i64 q.c, v], .agg #[.int .i64 a, .int .i64 b]] w fun e w' => e = .returned (.int .i64 n) ∧ Below w.heap.size w w' := by
  have Q := Lib.hid ((PB.start L h).alloc (.cells #[.int .i64 a, .int .i64 b] 48))
  have C := Lib.hid (fun W (_ : LayM W) => En.count_any q.s q.p q.c a b n e W hn)
  clear h L
  clear hn
  go_enter Tryz.func84, Tryz.ntmps84
  go_wp2_with fail
  refine (C.out _ Q.out.lay).mono ?_
  rintro e w1 ⟨rfl, hb1⟩
  have Q1 := Lib.hid (Q.out.next hb1)
  clear hb1
  go_wp2_with fail
  go_ret
  exact ⟨rfl, Q1.out.below⟩

/-! for any kind -/
def vF : Nat → Nat
  | 0 => 64
  | 1 => 68
  | _ => 78
def hasF : Nat → Nat
  | 0 => 65
  | 1 => 72
  | _ => 80
def nextF : Nat → Nat
  | 0 => 66
  | 1 => 74
  | _ => 82
def cntF : Nat → Nat
  | 0 => 67
  | 1 => 76
  | _ => 84
theorem three {P : Nat → Prop} {i : Nat} (h : i < 3) (h0 : P 0) (h1 : P 1) (h2 : P 2) : P i := by
  match i, h with
  | 0, _ => exact h0
  | 1, _ => exact h1
  | 2, _ => exact h2
theorem eg_vF {i : Nat} (h : i < 3) : ∀ args w, (callFunc (vF i) args).run Tryz.prog w = .ok (.enter (vF i) args) w :=
  three (P := fun i => ∀ args w, (callFunc (vF i) args).run Tryz.prog w = .ok (.enter (vF i) args) w) h (enters_of Tryz.func64 (by kernel_rfl) rfl) (enters_of Tryz.func68 (by kernel_rfl) rfl) (enters_of Tryz.func78 (by kernel_rfl) rfl)
theorem eg_hasF {i : Nat} (h : i < 3) : ∀ args w, (callFunc (hasF i) args).run Tryz.prog w = .ok (.enter (hasF i) args) w :=
  three (P := fun i => ∀ args w, (callFunc (hasF i) args).run Tryz.prog w = .ok (.enter (hasF i) args) w) h (enters_of Tryz.func65 (by kernel_rfl) rfl) (enters_of Tryz.func72 (by kernel_rfl) rfl) (enters_of Tryz.func80 (by kernel_rfl) rfl)
theorem eg_nextF {i : Nat} (h : i < 3) : ∀ args w, (callFunc (nextF i) args).run Tryz.prog w = .ok (.enter (nextF i) args) w :=
  three (P := fun i => ∀ args w, (callFunc (nextF i) args).run Tryz.prog w = .ok (.enter (nextF i) args) w) h (enters_of Tryz.func66 (by kernel_rfl) rfl) (enters_of Tryz.func74 (by kernel_rfl) rfl) (enters_of Tryz.func82 (by kernel_rfl) rfl)
theorem eg_cntF {i : Nat} (h : i < 3) : ∀ args w, (callFunc (cntF i) args).run Tryz.prog w = .ok (.enter (cntF i) args) w :=
  three (P := fun i => ∀ args w, (callFunc (cntF i) args).run Tryz.prog w = .ok (.enter (cntF i) args) w) h (enters_of Tryz.func67 (by kernel_rfl) rfl) (enters_of Tryz.func76 (by kernel_rfl) rfl) (enters_of Tryz.func84 (by kernel_rfl) rfl)
theorem P_kind {q : Pl.P} (h : q.Ok) : ∃ i : Nat, i < 3 ∧ q.k = i := by
  rcases h.kinds with k | k | k
  · exact ⟨0, by omega, by omega⟩
  · exact ⟨1, by omega, by omega⟩
  · exact ⟨2, by omega, by omega⟩
theorem hasF_any (i : Nat) (hi : i < 3) (q : Pl.P) (hk : q.k = i) (ok : q.Ok) (hx : q.x.Bd) (v : Value) (t : Int) (ht : Pl.vt t) (b : Bool) (hb : b = true ↔ q.T t) (w : World) (L : LayM w) (h : Bo.RowS w v q.l) :
    Calls Tryz.prog (hasF i) #[.agg #[.int .i64 q.k, .int .u64 q.x.a0, .int .u64 q.x.a1, .int .u64 q.x.a2, .int .u64 q.x.a3, .int .u64 q.x.a4, .int .u64 q.x.a5, .bool q.x.b3, .bool q.x.b5, .int .i64 q.z, .int .i64 q.s, .int .i64 q.p, .int .i64 q.c, v], .int .i64 t] w fun e w' => e = .returned (.bool b) ∧ Below w.heap.size w w' := by
  match i, hi with
  | 0, _ =>
    obtain rfl : b = false := r_no hb (by rw [Pl.P.T_0 hk]; exact fun k => k)
    exact khas0 q v t w
  | 1, _ =>
    obtain ⟨he, hv⟩ := Pl.has_cron ok hk ht
    exact khas1 q v t b 0 hx (by rw [Bool.eq_iff_iff, hv, hb]) he w L h
  | 2, _ =>
    obtain ⟨b', hr, hv⟩ := Pl.has_ever ok hk ht
    obtain rfl : b' = b := by rw [Bool.eq_iff_iff, hv, hb]
    exact khas2 q v t b' 0 hr w L h
theorem nextF_any (i : Nat) (hi : i < 3) (q : Pl.P) (hk : q.k = i) (ok : q.Ok) (hx : q.x.Bd) (v : Value) (t : Int) (ht : Pl.vt t) (r : Option Int) (hr : Mat.Least q.T (t + 1) 253402300799 r) (w : World) (L : LayM w) (h : Bo.RowS w v q.l) :
    Calls Tryz.prog (nextF i) #[.agg #[.int .i64 q.k, .int .u64 q.x.a0, .int .u64 q.x.a1, .int .u64 q.x.a2, .int .u64 q.x.a3, .int .u64 q.x.a4, .int .u64 q.x.a5, .bool q.x.b3, .bool q.x.b5, .int .i64 q.z, .int .i64 q.s, .int .i64 q.p, .int .i64 q.c, v], .int .i64 t] w fun e w' => e = .returned (.tuple #[.int .i64 (r.getD 0), .bool r.isSome]) ∧ Below w.heap.size w w' := by
  match i, hi with
  | 0, _ =>
    obtain rfl : r = none := hr.uniq (by rw [Pl.P.T_0 hk]; exact fun y _ _ k => k)
    exact knext0 q v t w
  | 1, _ =>
    obtain ⟨he, hv⟩ := Pl.next_cron ok hk ht
    obtain rfl := hr.uniq hv
    exact knext1 q v t _ _ 0 hx rfl rfl he w L h
  | 2, _ =>
    obtain ⟨y, b, r', hn, hv, rfl, rfl⟩ := Pl.next_ever ok hk ht
    obtain rfl := hr.uniq hv
    exact knext2 q v t _ _ 0 hn w L h
theorem cntF_any (i : Nat) (hi : i < 3) (q : Pl.P) (hk : q.k = i) (ok : q.Ok) (hx : q.x.Bd) (v : Value) (a b : Int) (ha : Pl.vt a) (hb : Pl.vt b) (w : World) (L : LayM w) (h : Bo.RowS w v q.l) :
    Calls Tryz.prog (cntF i) #[.agg #[.int .i64 q.k, .int .u64 q.x.a0, .int .u64 q.x.a1, .int .u64 q.x.a2, .int .u64 q.x.a3, .int .u64 q.x.a4, .int .u64 q.x.a5, .bool q.x.b3, .bool q.x.b5, .int .i64 q.z, .int .i64 q.s, .int .i64 q.p, .int .i64 q.c, v], .agg #[.int .i64 a, .int .i64 b]] w fun e w' => e = .returned (.int .i64 (cntN q.T a (b - a + 1).toNat : Nat)) ∧ Below w.heap.size w w' := by
  match i, hi with
  | 0, _ =>
    rw [cnt_zero (P := q.T) (fun k _ => by rw [Pl.P.T_0 hk]; exact fun z => z)]
    exact kcnt0 q v a b w
  | 1, _ =>
    obtain ⟨he, hv⟩ := Pl.count_cron ok hk ha hb
    exact kcnt1 q v a b _ 0 hx (by rw [if_pos he, hv]) he w L h
  | 2, _ => exact kcnt2 q v a b _ 0 (Pl.count_ever ok hk ha hb) w L h
end Go.Proofs.YtljackjcgfaanaaGreatDoor
/- The document's behind and Check. -/
namespace Go.Proofs.YtljackjcgfaanaaGreatDoor
open Go.ChangeShapes Go.RowKit

theorem behK_yes {l : List (Int × Int)} {t : Int} {k : Nat} {x : Int × Int} (e : l.getD k (0, 0) = x) (h1 : x.1 ≤ t) (h2 : t ≤ x.2) : Pl.behK l t (k + 1) = max (Pl.behK l t k) x.2 := by
  rw [Pl.behK, e, if_pos ⟨h1, h2⟩]
theorem behK_no {l : List (Int × Int)} {t : Int} {k : Nat} {x : Int × Int} (e : l.getD k (0, 0) = x) (h : ¬ (x.1 ≤ t ∧ t ≤ x.2)) : Pl.behK l t (k + 1) = Pl.behK l t k := by
  rw [Pl.behK, e, if_neg h]
set_option maxRecDepth 100000 in
set_option maxHeartbeats 4000000 in
theorem behind_any (v : Value) (l : List (Int × Int)) (t o : Int) (ho : Pl.beh l t = o) (w : World) (h : Bo.RowS w v l) :
    Calls Tryz.prog 40 #[v, .int .i64 t] w fun e w' => e = .returned (.int .i64 o) ∧ Below w.heap.size w w' := by
  have LL := h.1
  have HR := Lib.hid h
  obtain ⟨A, cap, rfl⟩ := h.len
  have HO := Lib.hid ho
  clear h ho
  go_enter Tryz.func40, Tryz.ntmps40
  go_wp2_with fail
  go_loopw [5, 6] (fun ov iv wr => ∃ (k : Nat) (u : Int), k ≤ l.length ∧ iv = .int .i64 k ∧ ov = .int .i64 u ∧ Hid (Pl.behK l t k = u) ∧ w = wr) (fun _ iv _ => l.length - (intOf iv).toNat)
  case atStart => exact ⟨0, -1, by omega, rfl, rfl, Lib.hid rfl, rfl⟩
  case round =>
    obtain ⟨k, u, hk, rfl, rfl, hu, rfl⟩ := hrel
    by_cases lt : k < l.length
    · have e0 : decide ((k : Int) < (l.length : Int)) = true := by rw [decide_eq_true_iff]; omega
      have wi : IntKind.i64.wrap ((k : Int) + 1) = (k : Int) + 1 := by rw [IntKind.wrap_i64]; omega
      obtain ⟨b, o', rfl, c1, c2⟩ := HR.out.at lt
      obtain ⟨x, hx⟩ : ∃ x, l.getD k (0, 0) = x := ⟨_, rfl⟩
      have HX := Lib.hid hx
      rw [hx] at c1 c2
      obtain ⟨x1, x2⟩ := x
      simp only at c1 c2
      clear hx
      by_cases a1 : x1 ≤ t
      · have t1 : decide (x1 ≤ t) = true := decide_eq_true a1
        by_cases a2 : t ≤ x2
        · have t2 : decide (t ≤ x2) = true := decide_eq_true a2
          have HU : Hid (Pl.behK l t (k + 1) = max u x2) := Lib.hid (by rw [behK_yes HX.out a1 a2, hu.out])
          clear a1 a2
          go_wp2_with fail
          go_roundw
          case rel => exact ⟨k + 1, max u x2, by omega, by go_num, by first | rfl | go_num, HU, by first | rfl | trivial⟩
          case measure => simp [intOf]; omega
        · have t2 : decide (t ≤ x2) = false := decide_eq_false a2
          have HU : Hid (Pl.behK l t (k + 1) = u) := Lib.hid (by rw [behK_no HX.out (fun q => a2 q.2), hu.out])
          clear a1 a2
          go_wp2_with fail
          go_roundw
          case rel => exact ⟨k + 1, u, by omega, by go_num, rfl, HU, by first | rfl | trivial⟩
          case measure => simp [intOf]; omega
      · have t1 : decide (x1 ≤ t) = false := decide_eq_false a1
        have HU : Hid (Pl.behK l t (k + 1) = u) := Lib.hid (by rw [behK_no HX.out (fun q => a1 q.1), hu.out])
        clear a1
        go_wp2_with fail
        go_roundw
        case rel => exact ⟨k + 1, u, by omega, by go_num, rfl, HU, by first | rfl | trivial⟩
        case measure => simp [intOf]; omega
    · have e0 : decide ((k : Int) < (l.length : Int)) = false := by rw [decide_eq_false_iff_not]; omega
      obtain rfl : k = l.length := by omega
      have HU : Hid (u = o) := Lib.hid (hu.out.symm.trans HO.out)
      clear lt hk
      go_wp2_with fail
      go_ret
      exact ⟨Bo.ret_int HU.out, Below.refl _ _⟩

theorem neq_t {a b : Int} (h : a ≠ b) : (a != b) = true ∧ (a == b) = false := ⟨by simpa using h, by simpa using h⟩
theorem neq_f {a b : Int} (h : a = b) : (a != b) = false ∧ (a == b) = true := ⟨by simpa using h, by simpa using h⟩
theorem x0_dec (x : Exp.Ex) : (x = Pl.x0 ∧ same8 x.a0 x.a1 x.a2 x.a3 x.a4 x.a5 x.b3 x.b5 0 0 0 0 0 0 false false = true) ∨ (x ≠ Pl.x0 ∧ same8 x.a0 x.a1 x.a2 x.a3 x.a4 x.a5 x.b3 x.b5 0 0 0 0 0 0 false false = false) := by
  by_cases h : x = Pl.x0
  · exact .inl ⟨h, (same8_0 x).2 h⟩
  · exact .inr ⟨h, by rw [Bool.eq_false_iff]; exact fun k => h ((same8_0 x).1 k)⟩
theorem ev_dec (s p c : Int) : ((s = 0 ∧ p = 0 ∧ c = 0) ∧ pSame3 s p c 0 0 0 = true) ∨ (¬ (s = 0 ∧ p = 0 ∧ c = 0) ∧ pSame3 s p c 0 0 0 = false) := by
  by_cases h : s = 0 ∧ p = 0 ∧ c = 0
  · exact .inl ⟨h, (pSame3_iff _ _ _ _ _ _).2 h⟩
  · exact .inr ⟨h, by rw [Bool.eq_false_iff]; exact fun k => h ((pSame3_iff _ _ _ _ _ _).1 k)⟩
theorem no_ok {q : Pl.P} (h0 : ¬ (q.k = 0 ∧ q.x = Pl.x0 ∧ q.z = 0 ∧ (q.s = 0 ∧ q.p = 0 ∧ q.c = 0) ∧ q.l = [])) (h1 : ¬ (q.k = 1 ∧ q.x.okB = true ∧ errZ q.z = 0 ∧ (q.s = 0 ∧ q.p = 0 ∧ q.c = 0) ∧ Bk.errL q.l = 0)) (h2 : ¬ (q.k = 2 ∧ Ev.Ok q.s q.p q.c ∧ q.x = Pl.x0 ∧ q.z = 0 ∧ Bk.errL q.l = 0)) : q.err = 16 := by
  refine Pl.P.err_no fun h => ?_
  cases h with
  | none k x z s p c l => exact h0 ⟨k, x, z, ⟨s, p, c⟩, l⟩
  | cron k x z s p c l => exact h1 ⟨k, x, z, ⟨s, p, c⟩, l⟩
  | ever k e x z l => exact h2 ⟨k, e, x, z, l⟩
theorem errL_nil0 {l : List (Int × Int)} (h : Bk.errL l ≠ 0) : l ≠ [] := by rintro rfl; exact h rfl
set_option maxRecDepth 100000 in
set_option maxHeartbeats 16000000 in
theorem rpchk_any (q : Pl.P) (hx : q.x.Bd) (v : Value) (r : Int) (hr : q.err = r) (w : World) (L : LayM w) (h : Bo.RowS w v q.l) :
    Calls Tryz.prog 20 #[.agg #[.int .i64 q.k, .int .u64 q.x.a0, .int .u64 q.x.a1, .int .u64 q.x.a2, .int .u64 q.x.a3, .int .u64 q.x.a4, .int .u64 q.x.a5, .bool q.x.b3, .bool q.x.b5, .int .i64 q.z, .int .i64 q.s, .int .i64 q.p, .int .i64 q.c, v]] w fun e w' => e = .returned (.int .i64 r) ∧ Below w.heap.size w w' := by
  have Q := Lib.hid (PB.start L h)
  have CS := Lib.hid (fun W hh => Bo.rchk_any v q.l _ rfl W hh)
  have CE := Lib.hid (fun W => check7_ex q.x hx W)
  have CZ := Lib.hid (fun W => zcheckR_any q.z W)
  obtain ⟨ee, hee⟩ : ∃ ee, En.errE q.s q.p q.c = ee := ⟨_, rfl⟩
  have CV := Lib.hid (fun W => En.rcheck_any q.s q.p q.c ee W hee)
  have HE : ee = 0 ↔ Ev.Ok q.s q.p q.c := by
    rw [← hee]; unfold En.errE
    by_cases k : Ev.Ok q.s q.p q.c
    · rw [if_pos k]; simp [k]
    · rw [if_neg k]; simp [k]
  have LN : q.l.length = 0 ↔ q.l = [] := List.length_eq_zero_iff
  obtain ⟨A, cap, rfl⟩ := h.len
  obtain ⟨el, hel⟩ : ∃ el, Bk.errL q.l = el := ⟨_, rfl⟩
  obtain ⟨ez, hz⟩ : ∃ ez, errZ q.z = ez := ⟨_, rfl⟩
  obtain ⟨eo, ho⟩ : ∃ eo, q.x.okB = eo := ⟨_, rfl⟩
  have NK := fun h0 h1 h2 => hr.symm.trans (no_ok (q := q) h0 h1 h2)
  have YS := fun (ok : q.Ok) => hr.symm.trans (Pl.P.err_ok.2 ok)
  rw [hel] at CS NK
  rw [hz] at CZ NK
  rw [ho] at CE NK
  clear L h hee hx hr
  have Q0 := Q
  obtain hk | hk := Classical.em (q.k = 0)
  · obtain ⟨k0, k0'⟩ := neq_f (show q.k = 0 from hk)
    obtain ⟨k1, k1'⟩ := neq_t (show q.k ≠ 1 by omega)
    obtain ⟨k2, k2'⟩ := neq_t (show q.k ≠ 2 by omega)
    rcases x0_dec q.x with ⟨x1, tx⟩ | ⟨x1, tx⟩
    · obtain zz | zz := Classical.em (q.z = 0)
      · obtain ⟨tz, tz'⟩ := neq_f zz
        rcases ev_dec q.s q.p q.c with ⟨v1, tv⟩ | ⟨v1, tv⟩
        · skip
          obtain s1 | s1 := Classical.em (el = 0)
          · obtain ⟨ts, ts'⟩ := neq_f s1
            obtain n1 | n1 := Classical.em (q.l.length = 0)
            · obtain ⟨tn, tn'⟩ := neq_f (show (q.l.length : Int) = 0 by omega)
              have RR := Lib.hid (YS (.none hk x1 zz v1.1 v1.2.1 v1.2.2 (LN.1 n1)))
              clear NK YS HE LN
              try clear n1
              try clear z1
              try clear e1
              try clear s1
              try clear v1
              try clear zz
              try clear x1
              try clear hk
              try clear hk2
              try clear hk1
              try clear hk
              try clear hel
              try clear hz
              try clear ho
              go_enter Tryz.func20, Tryz.ntmps20
              go_wp2_with fail
              refine (CS.out _ Q0.out.sp).mono ?_
              rintro e w1 ⟨rfl, hb⟩
              have Q1 := Lib.hid (Q0.out.next hb)
              obtain ⟨c0, c1, c2, c3, c4, c5, c6, c7, c8, c9, c10, c11, c12, c13⟩ := Q1.out.cells
              clear hb
              go_wp2_with fail
              go_ret
              exact ⟨Bo.ret_int RR.out.symm, Q1.out.below⟩
            · obtain ⟨tn, tn'⟩ := neq_t (show (q.l.length : Int) ≠ 0 by omega)
              have RR := Lib.hid (NK (fun k => n1 (LN.2 k.2.2.2.2)) (fun k => absurd k.1 (by omega)) (fun k => absurd k.1 (by omega)))
              clear NK YS HE LN
              try clear n1
              try clear z1
              try clear e1
              try clear s1
              try clear v1
              try clear zz
              try clear x1
              try clear hk
              try clear hk2
              try clear hk1
              try clear hk
              try clear hel
              try clear hz
              try clear ho
              go_enter Tryz.func20, Tryz.ntmps20
              go_wp2_with fail
              refine (CS.out _ Q0.out.sp).mono ?_
              rintro e w1 ⟨rfl, hb⟩
              have Q1 := Lib.hid (Q0.out.next hb)
              obtain ⟨c0, c1, c2, c3, c4, c5, c6, c7, c8, c9, c10, c11, c12, c13⟩ := Q1.out.cells
              clear hb
              go_wp2_with fail
              go_ret
              exact ⟨Bo.ret_int RR.out.symm, Q1.out.below⟩
          · obtain ⟨ts, ts'⟩ := neq_t s1
            have RR := Lib.hid (NK (fun k => errL_nil0 (by rw [hel]; exact s1) k.2.2.2.2) (fun k => absurd k.1 (by omega)) (fun k => absurd k.1 (by omega)))
            clear NK YS HE LN
            try clear n1
            try clear z1
            try clear e1
            try clear s1
            try clear v1
            try clear zz
            try clear x1
            try clear hk
            try clear hk2
            try clear hk1
            try clear hk
            try clear hel
            try clear hz
            try clear ho
            go_enter Tryz.func20, Tryz.ntmps20
            go_wp2_with fail
            refine (CS.out _ Q0.out.sp).mono ?_
            rintro e w1 ⟨rfl, hb⟩
            have Q1 := Lib.hid (Q0.out.next hb)
            obtain ⟨c0, c1, c2, c3, c4, c5, c6, c7, c8, c9, c10, c11, c12, c13⟩ := Q1.out.cells
            clear hb
            go_wp2_with fail
            go_ret
            exact ⟨Bo.ret_int RR.out.symm, Q1.out.below⟩
        · skip
          have RR := Lib.hid (NK (fun k => v1 k.2.2.2.1) (fun k => absurd k.1 (by omega)) (fun k => absurd k.1 (by omega)))
          clear NK YS HE LN
          try clear n1
          try clear z1
          try clear e1
          try clear s1
          try clear v1
          try clear zz
          try clear x1
          try clear hk
          try clear hk2
          try clear hk1
          try clear hk
          try clear hel
          try clear hz
          try clear ho
          go_enter Tryz.func20, Tryz.ntmps20
          go_wp2_with fail
          go_ret
          exact ⟨Bo.ret_int RR.out.symm, Q0.out.below⟩
      · obtain ⟨tz, tz'⟩ := neq_t zz
        have RR := Lib.hid (NK (fun k => zz k.2.2.1) (fun k => absurd k.1 (by omega)) (fun k => absurd k.1 (by omega)))
        clear NK YS HE LN
        try clear n1
        try clear z1
        try clear e1
        try clear s1
        try clear v1
        try clear zz
        try clear x1
        try clear hk
        try clear hk2
        try clear hk1
        try clear hk
        try clear hel
        try clear hz
        try clear ho
        go_enter Tryz.func20, Tryz.ntmps20
        go_wp2_with fail
        go_ret
        exact ⟨Bo.ret_int RR.out.symm, Q0.out.below⟩
    · skip
      have RR := Lib.hid (NK (fun k => x1 k.2.1) (fun k => absurd k.1 (by omega)) (fun k => absurd k.1 (by omega)))
      clear NK YS HE LN
      try clear n1
      try clear z1
      try clear e1
      try clear s1
      try clear v1
      try clear zz
      try clear x1
      try clear hk
      try clear hk2
      try clear hk1
      try clear hk
      try clear hel
      try clear hz
      try clear ho
      go_enter Tryz.func20, Tryz.ntmps20
      go_wp2_with fail
      go_ret
      exact ⟨Bo.ret_int RR.out.symm, Q0.out.below⟩
  · obtain hk1 | hk1 := Classical.em (q.k = 1)
    · have hk := hk1
      obtain ⟨k0, k0'⟩ := neq_t (show q.k ≠ 0 by omega)
      obtain ⟨k1, k1'⟩ := neq_f (show q.k = 1 from hk)
      obtain ⟨k2, k2'⟩ := neq_t (show q.k ≠ 2 by omega)
      rcases ev_dec q.s q.p q.c with ⟨v1, tv⟩ | ⟨v1, tv⟩
      · skip
        obtain s1 | s1 := Classical.em (el = 0)
        · obtain ⟨ts, ts'⟩ := neq_f s1
          have te := errOk_z eo
          cases eo with
          | true =>
            obtain z1 | z1 := Classical.em (ez = 0)
            · obtain ⟨tz, tz'⟩ := neq_f z1
              have RR := Lib.hid (YS (.cron hk ho (hz.trans z1) v1.1 v1.2.1 v1.2.2 (hel.trans s1)))
              clear NK YS HE LN
              try clear n1
              try clear z1
              try clear e1
              try clear s1
              try clear v1
              try clear zz
              try clear x1
              try clear hk
              try clear hk2
              try clear hk1
              try clear hk
              try clear hel
              try clear hz
              try clear ho
              go_enter Tryz.func20, Tryz.ntmps20
              go_wp2_with fail
              refine (CS.out _ Q0.out.sp).mono ?_
              rintro e w1 ⟨rfl, hb⟩
              have Q1 := Lib.hid (Q0.out.next hb)
              obtain ⟨c0, c1, c2, c3, c4, c5, c6, c7, c8, c9, c10, c11, c12, c13⟩ := Q1.out.cells
              clear hb
              go_wp2_with fail
              refine (CE.out _).mono ?_
              rintro e w2 ⟨rfl, hb⟩
              have Q2 := Lib.hid (Q1.out.next hb)
              obtain ⟨c0, c1, c2, c3, c4, c5, c6, c7, c8, c9, c10, c11, c12, c13⟩ := Q2.out.cells
              clear hb
              go_wp2_with fail
              refine (CZ.out _).mono ?_
              rintro e _ ⟨rfl, rfl⟩
              go_wp2_with fail
              go_ret
              exact ⟨Bo.ret_int RR.out.symm, Q2.out.below⟩
            · obtain ⟨tz, tz'⟩ := neq_t z1
              have RR := Lib.hid (NK (fun k => absurd k.1 (by omega)) (fun k => z1 k.2.2.1) (fun k => absurd k.1 (by omega)))
              clear NK YS HE LN
              try clear n1
              try clear z1
              try clear e1
              try clear s1
              try clear v1
              try clear zz
              try clear x1
              try clear hk
              try clear hk2
              try clear hk1
              try clear hk
              try clear hel
              try clear hz
              try clear ho
              go_enter Tryz.func20, Tryz.ntmps20
              go_wp2_with fail
              refine (CS.out _ Q0.out.sp).mono ?_
              rintro e w1 ⟨rfl, hb⟩
              have Q1 := Lib.hid (Q0.out.next hb)
              obtain ⟨c0, c1, c2, c3, c4, c5, c6, c7, c8, c9, c10, c11, c12, c13⟩ := Q1.out.cells
              clear hb
              go_wp2_with fail
              refine (CE.out _).mono ?_
              rintro e w2 ⟨rfl, hb⟩
              have Q2 := Lib.hid (Q1.out.next hb)
              obtain ⟨c0, c1, c2, c3, c4, c5, c6, c7, c8, c9, c10, c11, c12, c13⟩ := Q2.out.cells
              clear hb
              go_wp2_with fail
              refine (CZ.out _).mono ?_
              rintro e _ ⟨rfl, rfl⟩
              go_wp2_with fail
              go_ret
              exact ⟨Bo.ret_int RR.out.symm, Q2.out.below⟩
          | false =>
            have RR := Lib.hid (NK (fun k => absurd k.1 (by omega)) (fun k => by cases k.2.1) (fun k => absurd k.1 (by omega)))
            clear NK YS HE LN
            try clear n1
            try clear z1
            try clear e1
            try clear s1
            try clear v1
            try clear zz
            try clear x1
            try clear hk
            try clear hk2
            try clear hk1
            try clear hk
            try clear hel
            try clear hz
            try clear ho
            go_enter Tryz.func20, Tryz.ntmps20
            go_wp2_with fail
            refine (CS.out _ Q0.out.sp).mono ?_
            rintro e w1 ⟨rfl, hb⟩
            have Q1 := Lib.hid (Q0.out.next hb)
            obtain ⟨c0, c1, c2, c3, c4, c5, c6, c7, c8, c9, c10, c11, c12, c13⟩ := Q1.out.cells
            clear hb
            go_wp2_with fail
            refine (CE.out _).mono ?_
            rintro e w2 ⟨rfl, hb⟩
            have Q2 := Lib.hid (Q1.out.next hb)
            obtain ⟨c0, c1, c2, c3, c4, c5, c6, c7, c8, c9, c10, c11, c12, c13⟩ := Q2.out.cells
            clear hb
            go_wp2_with fail
            go_ret
            exact ⟨Bo.ret_int RR.out.symm, Q2.out.below⟩
        · obtain ⟨ts, ts'⟩ := neq_t s1
          have RR := Lib.hid (NK (fun k => absurd k.1 (by omega)) (fun k => s1 k.2.2.2.2) (fun k => absurd k.1 (by omega)))
          clear NK YS HE LN
          try clear n1
          try clear z1
          try clear e1
          try clear s1
          try clear v1
          try clear zz
          try clear x1
          try clear hk
          try clear hk2
          try clear hk1
          try clear hk
          try clear hel
          try clear hz
          try clear ho
          go_enter Tryz.func20, Tryz.ntmps20
          go_wp2_with fail
          refine (CS.out _ Q0.out.sp).mono ?_
          rintro e w1 ⟨rfl, hb⟩
          have Q1 := Lib.hid (Q0.out.next hb)
          obtain ⟨c0, c1, c2, c3, c4, c5, c6, c7, c8, c9, c10, c11, c12, c13⟩ := Q1.out.cells
          clear hb
          go_wp2_with fail
          go_ret
          exact ⟨Bo.ret_int RR.out.symm, Q1.out.below⟩
      · skip
        have RR := Lib.hid (NK (fun k => absurd k.1 (by omega)) (fun k => v1 k.2.2.2.1) (fun k => absurd k.1 (by omega)))
        clear NK YS HE LN
        try clear n1
        try clear z1
        try clear e1
        try clear s1
        try clear v1
        try clear zz
        try clear x1
        try clear hk
        try clear hk2
        try clear hk1
        try clear hk
        try clear hel
        try clear hz
        try clear ho
        go_enter Tryz.func20, Tryz.ntmps20
        go_wp2_with fail
        go_ret
        exact ⟨Bo.ret_int RR.out.symm, Q0.out.below⟩
    · obtain hk2 | hk2 := Classical.em (q.k = 2)
      · have hk := hk2
        obtain ⟨k0, k0'⟩ := neq_t (show q.k ≠ 0 by omega)
        obtain ⟨k1, k1'⟩ := neq_t (show q.k ≠ 1 by omega)
        obtain ⟨k2, k2'⟩ := neq_f (show q.k = 2 from hk)
        rcases x0_dec q.x with ⟨x1, tx⟩ | ⟨x1, tx⟩
        · obtain zz | zz := Classical.em (q.z = 0)
          · obtain ⟨tz, tz'⟩ := neq_f zz
            obtain s1 | s1 := Classical.em (el = 0)
            · obtain ⟨ts, ts'⟩ := neq_f s1
              obtain e1 | e1 := Classical.em (ee = 0)
              · obtain ⟨te, te'⟩ := neq_f e1
                have RR := Lib.hid (YS (.ever hk (HE.1 e1) x1 zz (hel.trans s1)))
                clear NK YS HE LN
                try clear n1
                try clear z1
                try clear e1
                try clear s1
                try clear v1
                try clear zz
                try clear x1
                try clear hk
                try clear hk2
                try clear hk1
                try clear hk
                try clear hel
                try clear hz
                try clear ho
                go_enter Tryz.func20, Tryz.ntmps20
                go_wp2_with fail
                refine (CS.out _ Q0.out.sp).mono ?_
                rintro e w1 ⟨rfl, hb⟩
                have Q1 := Lib.hid (Q0.out.next hb)
                obtain ⟨c0, c1, c2, c3, c4, c5, c6, c7, c8, c9, c10, c11, c12, c13⟩ := Q1.out.cells
                clear hb
                go_wp2_with fail
                refine (CV.out _).mono ?_
                rintro e w2 ⟨rfl, hb⟩
                have Q2 := Lib.hid (Q1.out.next hb)
                clear hb
                go_wp2_with fail
                go_ret
                exact ⟨Bo.ret_int RR.out.symm, Q2.out.below⟩
              · obtain ⟨te, te'⟩ := neq_t e1
                have RR := Lib.hid (NK (fun k => absurd k.1 (by omega)) (fun k => absurd k.1 (by omega)) (fun k => e1 (HE.2 k.2.1)))
                clear NK YS HE LN
                try clear n1
                try clear z1
                try clear e1
                try clear s1
                try clear v1
                try clear zz
                try clear x1
                try clear hk
                try clear hk2
                try clear hk1
                try clear hk
                try clear hel
                try clear hz
                try clear ho
                go_enter Tryz.func20, Tryz.ntmps20
                go_wp2_with fail
                refine (CS.out _ Q0.out.sp).mono ?_
                rintro e w1 ⟨rfl, hb⟩
                have Q1 := Lib.hid (Q0.out.next hb)
                obtain ⟨c0, c1, c2, c3, c4, c5, c6, c7, c8, c9, c10, c11, c12, c13⟩ := Q1.out.cells
                clear hb
                go_wp2_with fail
                refine (CV.out _).mono ?_
                rintro e w2 ⟨rfl, hb⟩
                have Q2 := Lib.hid (Q1.out.next hb)
                clear hb
                go_wp2_with fail
                go_ret
                exact ⟨Bo.ret_int RR.out.symm, Q2.out.below⟩
            · obtain ⟨ts, ts'⟩ := neq_t s1
              have RR := Lib.hid (NK (fun k => absurd k.1 (by omega)) (fun k => absurd k.1 (by omega)) (fun k => s1 k.2.2.2.2))
              clear NK YS HE LN
              try clear n1
              try clear z1
              try clear e1
              try clear s1
              try clear v1
              try clear zz
              try clear x1
              try clear hk
              try clear hk2
              try clear hk1
              try clear hk
              try clear hel
              try clear hz
              try clear ho
              go_enter Tryz.func20, Tryz.ntmps20
              go_wp2_with fail
              refine (CS.out _ Q0.out.sp).mono ?_
              rintro e w1 ⟨rfl, hb⟩
              have Q1 := Lib.hid (Q0.out.next hb)
              obtain ⟨c0, c1, c2, c3, c4, c5, c6, c7, c8, c9, c10, c11, c12, c13⟩ := Q1.out.cells
              clear hb
              go_wp2_with fail
              go_ret
              exact ⟨Bo.ret_int RR.out.symm, Q1.out.below⟩
          · obtain ⟨tz, tz'⟩ := neq_t zz
            have RR := Lib.hid (NK (fun k => absurd k.1 (by omega)) (fun k => absurd k.1 (by omega)) (fun k => zz k.2.2.2.1))
            clear NK YS HE LN
            try clear n1
            try clear z1
            try clear e1
            try clear s1
            try clear v1
            try clear zz
            try clear x1
            try clear hk
            try clear hk2
            try clear hk1
            try clear hk
            try clear hel
            try clear hz
            try clear ho
            go_enter Tryz.func20, Tryz.ntmps20
            go_wp2_with fail
            go_ret
            exact ⟨Bo.ret_int RR.out.symm, Q0.out.below⟩
        · skip
          have RR := Lib.hid (NK (fun k => absurd k.1 (by omega)) (fun k => absurd k.1 (by omega)) (fun k => x1 k.2.2.1))
          clear NK YS HE LN
          try clear n1
          try clear z1
          try clear e1
          try clear s1
          try clear v1
          try clear zz
          try clear x1
          try clear hk
          try clear hk2
          try clear hk1
          try clear hk
          try clear hel
          try clear hz
          try clear ho
          go_enter Tryz.func20, Tryz.ntmps20
          go_wp2_with fail
          go_ret
          exact ⟨Bo.ret_int RR.out.symm, Q0.out.below⟩
      · obtain ⟨k0, k0'⟩ := neq_t (show q.k ≠ 0 by omega)
        obtain ⟨k1, k1'⟩ := neq_t (show q.k ≠ 1 by omega)
        obtain ⟨k2, k2'⟩ := neq_t (show q.k ≠ 2 by omega)
        rcases x0_dec q.x with ⟨x1, tx⟩ | ⟨x1, tx⟩
        · obtain zz | zz := Classical.em (q.z = 0)
          · obtain ⟨tz, tz'⟩ := neq_f zz
            rcases ev_dec q.s q.p q.c with ⟨v1, tv⟩ | ⟨v1, tv⟩
            · skip
              obtain s1 | s1 := Classical.em (el = 0)
              · obtain ⟨ts, ts'⟩ := neq_f s1
                have RR := Lib.hid (NK (fun k => absurd k.1 (by omega)) (fun k => absurd k.1 (by omega)) (fun k => absurd k.1 (by omega)))
                clear NK YS HE LN
                try clear n1
                try clear z1
                try clear e1
                try clear s1
                try clear v1
                try clear zz
                try clear x1
                try clear hk
                try clear hk2
                try clear hk1
                try clear hk
                try clear hel
                try clear hz
                try clear ho
                go_enter Tryz.func20, Tryz.ntmps20
                go_wp2_with fail
                refine (CS.out _ Q0.out.sp).mono ?_
                rintro e w1 ⟨rfl, hb⟩
                have Q1 := Lib.hid (Q0.out.next hb)
                obtain ⟨c0, c1, c2, c3, c4, c5, c6, c7, c8, c9, c10, c11, c12, c13⟩ := Q1.out.cells
                clear hb
                go_wp2_with fail
                go_ret
                exact ⟨Bo.ret_int RR.out.symm, Q1.out.below⟩
              · obtain ⟨ts, ts'⟩ := neq_t s1
                have RR := Lib.hid (NK (fun k => absurd k.1 (by omega)) (fun k => absurd k.1 (by omega)) (fun k => absurd k.1 (by omega)))
                clear NK YS HE LN
                try clear n1
                try clear z1
                try clear e1
                try clear s1
                try clear v1
                try clear zz
                try clear x1
                try clear hk
                try clear hk2
                try clear hk1
                try clear hk
                try clear hel
                try clear hz
                try clear ho
                go_enter Tryz.func20, Tryz.ntmps20
                go_wp2_with fail
                refine (CS.out _ Q0.out.sp).mono ?_
                rintro e w1 ⟨rfl, hb⟩
                have Q1 := Lib.hid (Q0.out.next hb)
                obtain ⟨c0, c1, c2, c3, c4, c5, c6, c7, c8, c9, c10, c11, c12, c13⟩ := Q1.out.cells
                clear hb
                go_wp2_with fail
                go_ret
                exact ⟨Bo.ret_int RR.out.symm, Q1.out.below⟩
            · skip
              have RR := Lib.hid (NK (fun k => absurd k.1 (by omega)) (fun k => absurd k.1 (by omega)) (fun k => absurd k.1 (by omega)))
              clear NK YS HE LN
              try clear n1
              try clear z1
              try clear e1
              try clear s1
              try clear v1
              try clear zz
              try clear x1
              try clear hk
              try clear hk2
              try clear hk1
              try clear hk
              try clear hel
              try clear hz
              try clear ho
              go_enter Tryz.func20, Tryz.ntmps20
              go_wp2_with fail
              go_ret
              exact ⟨Bo.ret_int RR.out.symm, Q0.out.below⟩
          · obtain ⟨tz, tz'⟩ := neq_t zz
            have RR := Lib.hid (NK (fun k => absurd k.1 (by omega)) (fun k => absurd k.1 (by omega)) (fun k => absurd k.1 (by omega)))
            clear NK YS HE LN
            try clear n1
            try clear z1
            try clear e1
            try clear s1
            try clear v1
            try clear zz
            try clear x1
            try clear hk
            try clear hk2
            try clear hk1
            try clear hk
            try clear hel
            try clear hz
            try clear ho
            go_enter Tryz.func20, Tryz.ntmps20
            go_wp2_with fail
            go_ret
            exact ⟨Bo.ret_int RR.out.symm, Q0.out.below⟩
        · skip
          have RR := Lib.hid (NK (fun k => absurd k.1 (by omega)) (fun k => absurd k.1 (by omega)) (fun k => absurd k.1 (by omega)))
          clear NK YS HE LN
          try clear n1
          try clear z1
          try clear e1
          try clear s1
          try clear v1
          try clear zz
          try clear x1
          try clear hk
          try clear hk2
          try clear hk1
          try clear hk
          try clear hel
          try clear hz
          try clear ho
          go_enter Tryz.func20, Tryz.ntmps20
          go_wp2_with fail
          go_ret
          exact ⟨Bo.ret_int RR.out.symm, Q0.out.below⟩
end Go.Proofs.YtljackjcgfaanaaGreatDoor
