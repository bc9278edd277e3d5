/- Contracts of macros and Macro of package expr; Parse at every text. Contract of Parse of package expr at every text. -/
import Derived.Test.YtpnfifhanmpapaaGreatDoorMExpC
import Derived.Maps.OwnSet
import Derived.Maps.StringElems
import Derived.StringKeys
/- Contracts of macros and Macro of package expr; Parse at every text. -/
namespace Go.Proofs.YtpnfifhanmpapaaGreatDoor
open Go.ChangeShapes Go.WideShapes Go.RowKit Go.Shelf
open Go.Maps (Keyed)

/-- texts by texts, put one by one -/
def putsD (ps : List (List UInt8 × List UInt8)) (D : DataW Unit) : DataW Unit := ps.foldl (fun D p => D.put (.string p.1) (.lit (.string p.2))) D
theorem putsD_look (l : List UInt8) : ∀ (ps : List (List UInt8 × List UInt8)) (D : DataW Unit), Maps.IsMap D → (ps.map (·.1)).Nodup →
    Maps.has (putsD ps D) (.string l) = (match ps.find? (fun p => p.1 == l) with | some _ => true | none => Maps.has D (.string l)) ∧
    ∀ z, (putsD ps D).atKey (.string l) z = (match ps.find? (fun p => p.1 == l) with | some p => .lit (.string p.2) | none => D.atKey (.string l) z)
  | [], D, _, _ => ⟨rfl, fun _ => rfl⟩
  | p :: r, D, hD, hn => by
    have hn' := List.nodup_cons.1 (by simpa using hn : (p.1 :: r.map (·.1)).Nodup)
    have ih := putsD_look l r (D.put (.string p.1) (.lit (.string p.2))) ((hD.put _ _)) hn'.2
    by_cases hp : p.1 = l
    · have hf : r.find? (fun q => q.1 == l) = none := by
        rw [List.find?_eq_none]
        intro q hq e
        exact hn'.1 (by rw [hp]; exact List.mem_map.2 ⟨q, hq, by simpa using e⟩)
      have hf2 : (p :: r).find? (fun q => q.1 == l) = some p := by rw [List.find?_cons_of_pos]; simpa using hp
      rw [hf] at ih
      rw [hf2]
      subst hp
      exact ⟨ih.1.trans (Maps.has_put_same hD (show WideAt.IsKeyLit (.string p.1) from trivial) _), fun z => (ih.2 z).trans (Maps.atKey_put_same hD (show WideAt.IsKeyLit (.string p.1) from trivial) _ _)⟩
    · have hf2 : (p :: r).find? (fun q => q.1 == l) = r.find? (fun q => q.1 == l) := by rw [List.find?_cons_of_neg]; simpa using hp
      rw [hf2]
      have hne : (Lit.string l) ≠ .string p.1 := by simpa using fun e => hp e.symm
      refine ⟨ih.1.trans ?_, fun z => (ih.2 z).trans ?_⟩
      · cases r.find? (fun q => q.1 == l) with
        | some q => rfl
        | none => exact Maps.has_put_other hne _
      · cases r.find? (fun q => q.1 == l) with
        | some q => rfl
        | none => exact Maps.atKey_put_other hne _ _
/-- the macros' map -/
def macD : DataW Unit := putsD Exp.macs (.map [])
theorem macD_look (l : List UInt8) : Maps.has macD (.string l) = (Exp.macro_ l).isSome ∧ ∀ z, macD.atKey (.string l) z = (match Exp.macro_ l with | some t => .lit (.string t) | none => z) := by
  obtain ⟨a, b⟩ := putsD_look l Exp.macs (.map []) Maps.isMap_empty (by decide +kernel)
  refine ⟨a.trans ?_, fun z => (b z).trans ?_⟩
  · unfold Exp.macro_
    cases Exp.macs.find? (fun p => p.1 == l) <;> rfl
  · unfold Exp.macro_
    cases Exp.macs.find? (fun p => p.1 == l) <;> rfl
theorem keyedS : Keyed Tryz.prog 9 := Maps.string_keyed Tryz.underlying9
theorem bel_grown {B b : Nat} {w W W' : World} (h : Below B w W) (g : W.grownBy W' (some b)) (hb : B ≤ b) (hz : B ≤ W.heap.size) : Below B w W' :=
  h.trans ⟨g.os, g.tape, g.output, g.size, fun k hk => g.block k (by omega) (by simp; omega)⟩

set_option maxRecDepth 100000 in
set_option maxHeartbeats 4000000 in
theorem macros_any (w : World) :
    Calls Tryz.prog 47 #[] w fun e w' => e = .returned (.map (some w.heap.size)) ∧ w'.ownsMap Tryz.prog 9 (plainElem Tryz.prog 9) w.heap.size 9 macD ∧ Below w.heap.size w w' := by
  have hown0 := World.ownsMap_made w Tryz.prog 9 (plainElem (H := Unit) Tryz.prog 9)
  have HB0 := (Below.refl w.heap.size w).alloc (Nat.le_refl _) (.map #[] 0)
  obtain ⟨w1, hr1, hown1, hg1⟩ := hown0.update keyedS Tryz.underlying100 (by decide) (Go.WideMaps.keyOf_string_mk Tryz.underlying9 (s := ⟨#[64, 121, 101, 97, 114, 108, 121]⟩) (by decide)) (plainElem_string Tryz.underlying9 (s := ⟨#[48, 32, 48, 32, 49, 32, 49, 32, 42]⟩) (by decide))
  have HB1 := bel_grown HB0 hg1 (Nat.le_refl _) HB0.size
  obtain ⟨w2, hr2, hown2, hg2⟩ := hown1.update keyedS Tryz.underlying100 (by decide) (Go.WideMaps.keyOf_string_mk Tryz.underlying9 (s := ⟨#[64, 97, 110, 110, 117, 97, 108, 108, 121]⟩) (by decide)) (plainElem_string Tryz.underlying9 (s := ⟨#[48, 32, 48, 32, 49, 32, 49, 32, 42]⟩) (by decide))
  have HB2 := bel_grown HB1 hg2 (Nat.le_refl _) HB1.size
  obtain ⟨w3, hr3, hown3, hg3⟩ := hown2.update keyedS Tryz.underlying100 (by decide) (Go.WideMaps.keyOf_string_mk Tryz.underlying9 (s := ⟨#[64, 109, 111, 110, 116, 104, 108, 121]⟩) (by decide)) (plainElem_string Tryz.underlying9 (s := ⟨#[48, 32, 48, 32, 49, 32, 42, 32, 42]⟩) (by decide))
  have HB3 := bel_grown HB2 hg3 (Nat.le_refl _) HB2.size
  obtain ⟨w4, hr4, hown4, hg4⟩ := hown3.update keyedS Tryz.underlying100 (by decide) (Go.WideMaps.keyOf_string_mk Tryz.underlying9 (s := ⟨#[64, 119, 101, 101, 107, 108, 121]⟩) (by decide)) (plainElem_string Tryz.underlying9 (s := ⟨#[48, 32, 48, 32, 42, 32, 42, 32, 48]⟩) (by decide))
  have HB4 := bel_grown HB3 hg4 (Nat.le_refl _) HB3.size
  obtain ⟨w5, hr5, hown5, hg5⟩ := hown4.update keyedS Tryz.underlying100 (by decide) (Go.WideMaps.keyOf_string_mk Tryz.underlying9 (s := ⟨#[64, 100, 97, 105, 108, 121]⟩) (by decide)) (plainElem_string Tryz.underlying9 (s := ⟨#[48, 32, 48, 32, 42, 32, 42, 32, 42]⟩) (by decide))
  have HB5 := bel_grown HB4 hg5 (Nat.le_refl _) HB4.size
  obtain ⟨w6, hr6, hown6, hg6⟩ := hown5.update keyedS Tryz.underlying100 (by decide) (Go.WideMaps.keyOf_string_mk Tryz.underlying9 (s := ⟨#[64, 109, 105, 100, 110, 105, 103, 104, 116]⟩) (by decide)) (plainElem_string Tryz.underlying9 (s := ⟨#[48, 32, 48, 32, 42, 32, 42, 32, 42]⟩) (by decide))
  have HB6 := bel_grown HB5 hg6 (Nat.le_refl _) HB5.size
  obtain ⟨w7, hr7, hown7, hg7⟩ := hown6.update keyedS Tryz.underlying100 (by decide) (Go.WideMaps.keyOf_string_mk Tryz.underlying9 (s := ⟨#[64, 104, 111, 117, 114, 108, 121]⟩) (by decide)) (plainElem_string Tryz.underlying9 (s := ⟨#[48, 32, 42, 32, 42, 32, 42, 32, 42]⟩) (by decide))
  have HB7 := bel_grown HB6 hg7 (Nat.le_refl _) HB6.size
  obtain ⟨w8, hr8, hown8, hg8⟩ := hown7.update keyedS Tryz.underlying100 (by decide) (Go.WideMaps.keyOf_string_mk Tryz.underlying9 (s := ⟨#[64, 109, 105, 110, 117, 116, 101, 108, 121]⟩) (by decide)) (plainElem_string Tryz.underlying9 (s := ⟨#[42, 32, 42, 32, 42, 32, 42, 32, 42]⟩) (by decide))
  have HB8 := bel_grown HB7 hg8 (Nat.le_refl _) HB7.size
  obtain ⟨w9, hr9, hown9, hg9⟩ := hown8.update keyedS Tryz.underlying100 (by decide) (Go.WideMaps.keyOf_string_mk Tryz.underlying9 (s := ⟨#[64, 115, 101, 99, 111, 110, 100, 108, 121]⟩) (by decide)) (plainElem_string Tryz.underlying9 (s := ⟨#[42, 32, 42, 32, 42, 32, 42, 32, 42, 32, 42]⟩) (by decide))
  have HB9 := bel_grown HB8 hg9 (Nat.le_refl _) HB8.size
  have HO := Lib.hid hown9
  have HB := Lib.hid HB9
  clear hown9 hg9 HB9 hown8 hg8 HB8 hown7 hg7 HB7 hown6 hg6 HB6 hown5 hg5 HB5 hown4 hg4 HB4 hown3 hg3 HB3 hown2 hg2 HB2 hown1 hg1 HB1 hown0 HB0
  have hmm := @run_makeMap Tryz.prog
  go_enter Tryz.func47, Tryz.ntmps47
  go_wp2
  go_ret
  exact ⟨rfl, HO.out, HB.out⟩

theorem mac_plain : ∀ p ∈ Exp.macs, Exp.isMac (Exp.words p.2) = false ∧ p.2.length ≤ 100 := by decide +kernel
theorem zeroS (w : World) : (zeroValue 9).run Tryz.prog w = .ok (.string ⟨#[]⟩) w := by kernel_rfl
set_option maxRecDepth 100000 in
set_option maxHeartbeats 4000000 in
theorem macro_any (s : ByteArray) (hs : s.size ≤ 1000000) (w : World) (x : Exp.Ex) (is : Bool) (hr : Exp.macR s.data.toList = (x, is)) :
    Calls Tryz.prog 17 #[.string s] w fun r w' => r = .returned (.tuple #[.agg #[.int .u64 x.a0, .int .u64 x.a1, .int .u64 x.a2, .int .u64 x.a3, .int .u64 x.a4, .int .u64 x.a5, .bool x.b3, .bool x.b5], .bool is]) ∧ Below w.heap.size w w' := by
  have R0 : ∀ w1 : World, Below (w.alloc (.cells (exL Exp.zero).toArray 25)).heap.size (w.alloc (.cells (exL Exp.zero).toArray 25)) w1 → Below w.heap.size w w1 ∧ Row w1 w.heap.size 25 (exL Exp.zero) := fun w1 hb =>
    ⟨((Below.refl _ w).alloc (Nat.le_refl _) _).trans (hb.mono (by simp)), (Row.new w _ _).below hb⟩
  have HR0 := Lib.hid R0
  have HR := Lib.hid hr
  have hkey := WideMaps.keyOf_string_mk Tryz.underlying9 (s := s) (Nat.le_trans hs (by decide))
  have HK := Lib.hid hkey
  clear R0 hr hkey
  go_enter Tryz.func17, Tryz.ntmps17
  go_wp2_with fail
  refine (macros_any _).mono ?_
  rintro e' w1 ⟨rfl, hown, hb⟩
  obtain ⟨bw, R⟩ := HR0.out w1 hb
  obtain ⟨v, ps, hrun, hv⟩ := hown.look_ok keyedS Tryz.underlying100 (zeroS _) (plainElem_string Tryz.underlying9 (s := ⟨#[]⟩) (by decide)) HK.out
  obtain ⟨c, rfl, hc, _⟩ := plainElem_string_inv Tryz.underlying9 hv
  obtain ⟨l1, l2⟩ := macD_look s.data.toList
  have BW := Lib.hid bw
  have HRR := Lib.hid R
  have hmr := HR.out
  unfold Exp.macR at hmr
  rw [l1] at hrun
  rw [l2] at hc
  simp only [World.size_alloc] at hrun
  clear hv hown hb HR0 l1 l2 bw HK
  cases hm : Exp.macro_ s.data.toList with
  | none =>
    rw [hm] at hmr hrun
    simp only [Option.isSome_none] at hrun
    have n0 := R.cell 0; have n1 := R.cell 1; have n2 := R.cell 2; have n3 := R.cell 3; have n4 := R.cell 4; have n5 := R.cell 5; have n6 := R.cell 6; have n7 := R.cell 7
    have f0 := R.free 0; have f1 := R.free 1; have f2 := R.free 2; have f3 := R.free 3; have f4 := R.free 4; have f5 := R.free 5; have f6 := R.free 6; have f7 := R.free 7
    simp only [exL, Exp.zero, List.getElem?_cons_zero, List.getElem?_cons_succ, Int.natCast_zero] at n0 n1 n2 n3 n4 n5 n6 n7
    have HM := Lib.hid hmr
    clear hm hmr hc R HR
    go_wp2_with fail
    have hp := HM.out
    simp only [Prod.mk.injEq] at hp
    obtain ⟨rfl, rfl⟩ := hp
    refine bodyPost_ret (v := .tuple #[.agg #[.int .u64 0, .int .u64 0, .int .u64 0, .int .u64 0, .int .u64 0, .int .u64 0, .bool false, .bool false], .bool false]) (by simp [results, Tryz.results17, go_sem, n0, n1, n2, n3, n4, n5, n6, n7]) rfl ⟨rfl, ?_⟩
    have b := BW.out
    repeat' refine bel_cell ?_ (by omega) _ _
    exact b
  | some t =>
    rw [hm] at hmr hrun hc
    simp only [Option.isSome_some] at hrun
    simp only [Prod.mk.injEq, DataW.lit.injEq, Lit.string.injEq] at hc
    obtain ⟨p, hp1, hp2, _⟩ := Exp.macro_mem hm
    obtain ⟨m1, m2⟩ := mac_plain p hp1
    rw [hp2] at m1 m2
    have hc' := hc.1
    simp only [Prod.mk.injEq] at hmr
    obtain ⟨hx, rfl⟩ := hmr
    rw [hc'] at m1 m2 hx
    obtain ⟨⟨x', a', e'⟩, hpl⟩ : ∃ r, Exp.plain c.data.toList = r := ⟨_, rfl⟩
    rw [hpl] at hx
    subst hx
    have PP := Lib.hid (fun w0 : World => parse_plain c (by rw [Lib.size_eq]; omega) m1 x' a' e' hpl w0)
    clear hm hc hp1 hp2 m1 m2 hc' hpl HR R
    go_wp2_with fail
    refine (PP.out _).mono ?_
    rintro e'' w2 ⟨rfl, hb⟩
    have R := HRR.out.below hb
    have n0 := R.cell 0; have n1 := R.cell 1; have n2 := R.cell 2; have n3 := R.cell 3; have n4 := R.cell 4; have n5 := R.cell 5; have n6 := R.cell 6; have n7 := R.cell 7
    have f0 := R.free 0; have f1 := R.free 1; have f2 := R.free 2; have f3 := R.free 3; have f4 := R.free 4; have f5 := R.free 5; have f6 := R.free 6; have f7 := R.free 7
    simp only [exL, Exp.zero, List.getElem?_cons_zero, List.getElem?_cons_succ, Int.natCast_zero] at n0 n1 n2 n3 n4 n5 n6 n7
    have bz := BW.out.trans (hb.mono BW.out.size)
    have lz := R.lt
    have ne : w.heap.size ≠ w2.heap.size := by omega
    have BZ := Lib.hid bz
    have HRR2 := Lib.hid R
    clear hb R bz PP
    go_wp2_with fail
    have RR := (set8_row HRR2.out (.int .u64 x'.a0) (.int .u64 x'.a1) (.int .u64 x'.a2) (.int .u64 x'.a3) (.int .u64 x'.a4) (.int .u64 x'.a5) (.bool x'.b3) (.bool x'.b5)).alloc (.cells #[.int .u64 x'.a0, .int .u64 x'.a1, .int .u64 x'.a2, .int .u64 x'.a3, .int .u64 x'.a4, .int .u64 x'.a5, .bool x'.b3, .bool x'.b5] 25)
    have m0 := RR.cell 0; have m1 := RR.cell 1; have m2 := RR.cell 2; have m3 := RR.cell 3; have m4 := RR.cell 4; have m5 := RR.cell 5; have m6 := RR.cell 6; have m7 := RR.cell 7
    simp only [List.getElem?_cons_zero, List.getElem?_cons_succ] at m0 m1 m2 m3 m4 m5 m6 m7
    refine bodyPost_ret (v := .tuple #[.agg #[.int .u64 x'.a0, .int .u64 x'.a1, .int .u64 x'.a2, .int .u64 x'.a3, .int .u64 x'.a4, .int .u64 x'.a5, .bool x'.b3, .bool x'.b5], .bool true]) (by simp [results, Tryz.results17, go_sem, m0, m1, m2, m3, m4, m5, m6, m7]) rfl ⟨rfl, ?_⟩
    have b := BZ.out
    have bz := b.size
    refine Below.alloc ?_ (by simpa using bz) _
    repeat' refine bel_cell ?_ (by omega) _ _
    exact b
end Go.Proofs.YtpnfifhanmpapaaGreatDoor
/- Contract of Parse of package expr at every text. -/
namespace Go.Proofs.YtpnfifhanmpapaaGreatDoor
open Go.ChangeShapes Go.WideShapes Go.RowKit Go.Shelf

set_option maxRecDepth 100000 in
set_option maxHeartbeats 4000000 in
theorem parse_mac (s : ByteArray) (hs : s.size ≤ 100000) (hm : Exp.isMac (Exp.words s.data.toList) = true) (x : Exp.Ex) (a e : Nat) (hr : Exp.parse s.data.toList = (x, a, e)) (w : World) :
    Calls Tryz.prog 13 #[.string s] w fun r w' => r = .returned (.tuple #[.agg #[.int .u64 x.a0, .int .u64 x.a1, .int .u64 x.a2, .int .u64 x.a3, .int .u64 x.a4, .int .u64 x.a5, .bool x.b3, .bool x.b5], .int .i64 a, .int .i64 e]) ∧ Below w.heap.size w w' := by
  have R0 : ∀ w1 : World, Below (w.alloc (.cells (exL Exp.zero).toArray 25)).heap.size (w.alloc (.cells (exL Exp.zero).toArray 25)) w1 → Below w.heap.size w w1 ∧ Row w1 w.heap.size 25 (exL Exp.zero) := fun w1 hb =>
    ⟨((Below.refl _ w).alloc (Nat.le_refl _) _).trans (hb.mono (by simp)), (Row.new w _ _).below hb⟩
  have HR0 := Lib.hid R0
  have FW := Lib.hid (fun w0 : World => callsIn_wide.1 (first_words 3 (by decide) s hs w0))
  have hsz : s.size = s.data.toList.length := Lib.size_eq s
  -- the word
  have hm' := hm
  unfold Exp.isMac at hm'
  rw [Bool.and_eq_true, decide_eq_true_iff, decide_eq_true_iff] at hm'
  obtain ⟨hl1, hh⟩ := hm'
  have hin := Exp.words_in s.data.toList _ (Exp.wAt_mem (ws := Exp.words s.data.toList) (i := 0) (by omega))
  obtain ⟨p, rest, hx⟩ : ∃ p rest, Exp.wAt (Exp.words s.data.toList) 0 = (p, 64 :: rest) := by
    cases hq : (Exp.wAt (Exp.words s.data.toList) 0).2 with
    | nil => rw [hq] at hh; cases hh
    | cons b r => rw [hq] at hh; cases hh; exact ⟨(Exp.wAt (Exp.words s.data.toList) 0).1, r, by rw [← hq]⟩
  rw [hx] at hin
  have hps : p ≤ 100000 := by have := hin.1; omega
  unfold Exp.parse at hr
  rw [if_pos hm, hx] at hr
  obtain ⟨t, ht⟩ : ∃ t : ByteArray, (⟨(64 :: rest).toArray⟩ : ByteArray) = t := ⟨_, rfl⟩
  have htl : t.data.toList = 64 :: rest := by rw [← ht]
  have tsz : t.size ≤ 1000000 := by rw [Lib.size_eq, htl]; have := hin.1; simp only at this; omega
  have tz : 0 < t.size := by rw [← ht]; simp [ByteArray.size]
  have tz' : ((0 : Int) < (t.size : Int)) := by omega
  have tb : t[0]'tz = 64 := by subst ht; rfl
  rw [← htl] at hr
  have CE : ∀ (w1 : World) (v : Value), w1.ownsRow (w.heap.size + 1) 86 2 v ((Exp.words s.data.toList).take 7).length (flatX ((Exp.words s.data.toList).take 7)) → ∃ g cap, v = .slice (some ⟨g, 0, none⟩) 1 cap ∧ w1.cell? ⟨g, 0, none⟩ = some (.int .i64 p) ∧ w1.cell? ⟨g, 1, none⟩ = some (.string t) ∧ w.heap.size + 1 ≤ g ∧ g < w1.heap.size := by
    intro w1 v hrow
    have eT : (Exp.words s.data.toList).take 7 = Exp.words s.data.toList := List.take_of_length_le (by omega)
    rw [eT] at hrow
    obtain ⟨g, cap, rfl, hc, hg, hcell⟩ := isWds_own (by intro e; rw [e] at hl1; cases hl1) hrow
    obtain ⟨c0, c1⟩ := hcell 0 (by omega)
    rw [hx] at c0 c1
    exact ⟨g, cap, by rw [hl1], c0, by rw [← ht]; exact c1, (hrow.lt g rfl).1, hg⟩
  have HCE := Lib.hid CE
  obtain ⟨⟨y, is⟩, hmr⟩ : ∃ r, Exp.macR t.data.toList = r := ⟨_, rfl⟩
  rw [hmr] at hr
  have MA := Lib.hid (fun w0 : World => macro_any t tsz w0 y is hmr)
  have HR := Lib.hid hr
  clear R0 hm hl1 hh hin hx hr ht htl CE hmr hsz
  go_enter Tryz.func13, Tryz.ntmps13
  go_wp2_with fail
  refine (FW.out _).mono ?_
  rintro e' w1 ⟨v, rfl, hrow, hb⟩
  obtain ⟨bw, R⟩ := HR0.out w1 hb
  simp only [World.size_alloc] at hrow
  obtain ⟨g, cap, rfl, c0, c1, g1, g2⟩ := HCE.out w1 v hrow
  have BW := Lib.hid bw
  have HRR := Lib.hid R
  have C0 := Lib.hid c0
  clear hb HR0 FW bw R hrow HCE
  go_wp2_with fail
  refine (MA.out _).mono ?_
  rintro e' w2 ⟨rfl, hb⟩
  have R := HRR.out.below hb
  have n0 := R.cell 0; have n1 := R.cell 1; have n2 := R.cell 2; have n3 := R.cell 3; have n4 := R.cell 4; have n5 := R.cell 5; have n6 := R.cell 6; have n7 := R.cell 7
  have f0 := R.free 0; have f1 := R.free 1; have f2 := R.free 2; have f3 := R.free 3; have f4 := R.free 4; have f5 := R.free 5; have f6 := R.free 6; have f7 := R.free 7
  simp only [exL, Exp.zero, List.getElem?_cons_zero, List.getElem?_cons_succ, Int.natCast_zero] at n0 n1 n2 n3 n4 n5 n6 n7
  have bz := BW.out.trans (hb.mono BW.out.size)
  have lz := R.lt
  have ne : w.heap.size ≠ w2.heap.size := by omega
  have k0 := (hb.cell (p := ⟨g, 0, none⟩) g2).trans C0.out
  have g3 : g < w2.heap.size := Nat.lt_of_lt_of_le g2 hb.size
  have BZ := Lib.hid bz
  have HRR2 := Lib.hid R
  clear hb R bz MA c0 c1
  cases is with
  | true =>
    have hp := HR.out
    rw [if_pos rfl] at hp
    simp only [Prod.mk.injEq] at hp
    obtain ⟨rfl, rfl, rfl⟩ := hp
    go_wp2_with fail
    have RR := (set8_row HRR2.out (.int .u64 y.a0) (.int .u64 y.a1) (.int .u64 y.a2) (.int .u64 y.a3) (.int .u64 y.a4) (.int .u64 y.a5) (.bool y.b3) (.bool y.b5)).alloc (.cells #[.int .u64 y.a0, .int .u64 y.a1, .int .u64 y.a2, .int .u64 y.a3, .int .u64 y.a4, .int .u64 y.a5, .bool y.b3, .bool y.b5] 25)
    have m0 := RR.cell 0; have m1 := RR.cell 1; have m2 := RR.cell 2; have m3 := RR.cell 3; have m4 := RR.cell 4; have m5 := RR.cell 5; have m6 := RR.cell 6; have m7 := RR.cell 7
    simp only [List.getElem?_cons_zero, List.getElem?_cons_succ] at m0 m1 m2 m3 m4 m5 m6 m7
    refine bodyPost_ret (v := .tuple #[.agg #[.int .u64 y.a0, .int .u64 y.a1, .int .u64 y.a2, .int .u64 y.a3, .int .u64 y.a4, .int .u64 y.a5, .bool y.b3, .bool y.b5], .int .i64 0, .int .i64 0]) (by simp [results, Tryz.results13, go_sem, m0, m1, m2, m3, m4, m5, m6, m7]) rfl ⟨rfl, ?_⟩
    have b := BZ.out
    have bz := b.size
    refine Below.alloc ?_ (by simpa using bz) _
    repeat' refine bel_cell ?_ (by omega) _ _
    exact b
  | false =>
    have hp := HR.out
    rw [if_neg (by simp)] at hp
    simp only [Prod.mk.injEq] at hp
    obtain ⟨rfl, rfl, rfl⟩ := hp
    have gn : g ≠ w.heap.size := by omega
    have gn2 : w.heap.size ≠ g := by omega
    go_wp2_with fail
    obtain ⟨W3, hW3⟩ : ∃ W3, w2.alloc (.cells #[.int .u64 y.a0, .int .u64 y.a1, .int .u64 y.a2, .int .u64 y.a3, .int .u64 y.a4, .int .u64 y.a5, .bool y.b3, .bool y.b5] 25) = W3 := ⟨_, rfl⟩
    have R3 := HRR2.out.alloc (.cells #[.int .u64 y.a0, .int .u64 y.a1, .int .u64 y.a2, .int .u64 y.a3, .int .u64 y.a4, .int .u64 y.a5, .bool y.b3, .bool y.b5] 25)
    have B3 := BZ.out.alloc BZ.out.size (.cells #[.int .u64 y.a0, .int .u64 y.a1, .int .u64 y.a2, .int .u64 y.a3, .int .u64 y.a4, .int .u64 y.a5, .bool y.b3, .bool y.b5] 25)
    have k3 := (((Below.refl w2.heap.size w2).alloc (Nat.le_refl _) (.cells #[.int .u64 y.a0, .int .u64 y.a1, .int .u64 y.a2, .int .u64 y.a3, .int .u64 y.a4, .int .u64 y.a5, .bool y.b3, .bool y.b5] 25)).cell (p := ⟨g, 0, none⟩) g3).trans k0
    rw [hW3] at R3 B3 k3 ⊢
    have n0 := R3.cell 0; have n1 := R3.cell 1; have n2 := R3.cell 2; have n3 := R3.cell 3; have n4 := R3.cell 4; have n5 := R3.cell 5; have n6 := R3.cell 6; have n7 := R3.cell 7
    have f0 := R3.free 0; have f1 := R3.free 1; have f2 := R3.free 2; have f3 := R3.free 3; have f4 := R3.free 4; have f5 := R3.free 5; have f6 := R3.free 6; have f7 := R3.free 7
    simp only [exL, Exp.zero, List.getElem?_cons_zero, List.getElem?_cons_succ, Int.natCast_zero] at n0 n1 n2 n3 n4 n5 n6 n7
    have BX := Lib.hid B3
    have KE : Hid (∀ v0 v1 v2 v3 v4 v5 v6 v7, ((((((((W3.setCell ⟨w.heap.size, 0, none⟩ v0).setCell ⟨w.heap.size, 1, none⟩ v1).setCell ⟨w.heap.size, 2, none⟩ v2).setCell ⟨w.heap.size, 3, none⟩ v3).setCell ⟨w.heap.size, 4, none⟩ v4).setCell ⟨w.heap.size, 5, none⟩ v5).setCell ⟨w.heap.size, 6, none⟩ v6).setCell ⟨w.heap.size, 7, none⟩ v7).cell? ⟨g, 0, none⟩ = some (.int .i64 p)) := Lib.hid (fun v0 v1 v2 v3 v4 v5 v6 v7 => ((set8_grown W3 w.heap.size v0 v1 v2 v3 v4 v5 v6 v7).cell (a := ⟨g, 0, none⟩) k3 (fun e => gn (by cases e; rfl))))
    clear hW3 R3 B3 k0 HRR2 BZ HRR BW lz
    go_region_held3 (fun w' => w'.cell? ⟨g, 0, none⟩ = some (.int .i64 p)) (first | (go_keep; done) | exact KE.out _ _ _ _ _ _ _ _) (fail)
    go_wp2_with fail
    refine bodyPost_ret (v := .tuple #[.agg #[.int .u64 0, .int .u64 0, .int .u64 0, .int .u64 0, .int .u64 0, .int .u64 0, .bool false, .bool false], .int .i64 (p : Nat), .int .i64 (10 : Nat)]) (by simp [results, Tryz.results13, go_sem, n0, n1, n2, n3, n4, n5, n6, n7]) rfl ⟨rfl, ?_⟩
    have b := BX.out
    refine Below.drew ?_
    repeat' refine bel_cell ?_ (by omega) _ _
    exact b

theorem parse_any (s : ByteArray) (hs : s.size ≤ 100000) (x : Exp.Ex) (a e : Nat) (hr : Exp.parse s.data.toList = (x, a, e)) (w : World) :
    Calls Tryz.prog 13 #[.string s] w fun r w' => r = .returned (.tuple #[.agg #[.int .u64 x.a0, .int .u64 x.a1, .int .u64 x.a2, .int .u64 x.a3, .int .u64 x.a4, .int .u64 x.a5, .bool x.b3, .bool x.b5], .int .i64 a, .int .i64 e]) ∧ Below w.heap.size w w' := by
  cases hm : Exp.isMac (Exp.words s.data.toList) with
  | true => exact parse_mac s hs hm x a e hr w
  | false =>
    refine parse_plain s hs hm x a e ?_ w
    rw [← hr]
    unfold Exp.parse
    rw [if_neg (by simp [hm])]
end Go.Proofs.YtpnfifhanmpapaaGreatDoor
