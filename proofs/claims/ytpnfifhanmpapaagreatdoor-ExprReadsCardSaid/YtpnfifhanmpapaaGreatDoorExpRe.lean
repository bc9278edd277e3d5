/- The text of an expression, as the document says: contract of Print of wakemanref07. -/
import Derived.Test.YtpnfifhanmpapaaGreatDoorExpRb
import Derived.Test.YtpnfifhanmpapaaGreatDoorFldHH
import Derived.Test.YtpnfifhanmpapaaGreatDoorMRefA
import Derived.Test.YtpnfifhanmpapaaGreatDoorMExpE
namespace Go.Proofs.YtpnfifhanmpapaaGreatDoor
open Go.ChangeShapes Go.WideShapes Go.RowKit Go.Shelf

/-- the texts of the first k fields that are written -/
def ptx (x : Exp.Ex) : Nat → List (List UInt8)
  | 0 => []
  | k + 1 => if k = 0 ∧ x.a0 = 1 then [] else ptx x k ++ [x.ft k]
theorem ptx_all (x : Exp.Ex) : ptx x 6 = x.ws := by
  unfold Exp.Ex.ws
  by_cases h : x.a0 = 1
  · rw [if_pos h]
    simp [ptx, h, Exp.Ex.fts]
  · rw [if_neg h]
    simp [ptx, h, Exp.Ex.fts]
theorem joinL_snoc (sep : List UInt8) : ∀ (ws : List (List UInt8)) (t : List UInt8), Lex.joinL sep (ws ++ [t]) = if ws = [] then t else Lex.joinL sep ws ++ (sep ++ t)
  | [], t => by simp [Lex.joinL]
  | [w], t => by simp [Lex.joinL]
  | w :: v :: r, t => by
    have ih := joinL_snoc sep (v :: r) t
    rw [if_neg (by simp)] at ih ⊢
    show w ++ (sep ++ Lex.joinL sep ((v :: r) ++ [t])) = _
    rw [ih]
    simp [Lex.joinL]
theorem joinL_nil {sep : List UInt8} {ws : List (List UInt8)} (h : ∀ t ∈ ws, t ≠ []) : Lex.joinL sep ws = [] ↔ ws = [] := by
  constructor
  · intro e
    match ws, h with
    | [], _ => rfl
    | [w], h => exact absurd e (h w (by simp))
    | w :: v :: r, h =>
      exact absurd (List.append_eq_nil_iff.1 (show w ++ (sep ++ Lex.joinL sep (v :: r)) = [] from e)).1 (h w (by simp))
  · rintro rfl
    rfl
theorem ptx_ne {x : Exp.Ex} (h : x.Ok) : ∀ k, k ≤ 6 → ∀ t ∈ ptx x k, t ≠ []
  | 0, _ => by simp [ptx]
  | k + 1, hk => by
    intro t ht
    unfold ptx at ht
    split at ht
    · cases ht
    · rcases List.mem_append.1 ht with ht | ht
      · exact ptx_ne h k (by omega) t ht
      · rw [List.mem_singleton.1 ht]
        exact (Exp.ft_word h (by omega)).1
theorem ptx_len (x : Exp.Ex) : ∀ k, (Lex.joinL [32] (ptx x k)).length ≤ 601 * k
  | 0 => by simp [ptx, Lex.joinL]
  | k + 1 => by
    have ih := ptx_len x k
    have f := Exp.ft_len x k
    unfold ptx
    split
    · simp [Lex.joinL]
    · rw [joinL_snoc]
      split
      · omega
      · simp only [List.length_append, List.length_cons, List.length_nil]; omega
/-- the world in the document's Print: the expression's block, that of its fields -/
theorem CX.print {w W : World} {x : Exp.Ex} {A : Nat} (h : CX w x A W) (k : Nat) (hk : k < 6) (hx : x.Ok) (nv : Value) (hn : IsStrs W nv (xs6 k)) (S : Nat) (hS : x.at k = S) (st : Bool) (hst : x.star k = st) (T : ByteArray) (hT : T.data.toList = x.ft k) :
    Calls Tryz.prog 54 #[.agg #[.int .i64 (kd6 k).lo, .int .i64 (kd6 k).hi, nv, .bool (kd6 k).week], .int .u64 S, .bool st] W fun e W' => e = .returned (.tuple #[.string T, .int .i64 0]) ∧ CX w x A W' ∧ Below W.heap.size W W' := by
  have c := printR_yes (kd6 k) nv (xs6 k) S st W hn (kd6_is k hk) (by rw [← hS]; exact Exp.at_lt hx hk)
  have e := Exp.ft_is hx hk
  rw [hS, hst] at e
  rw [e] at c
  have eT : T = ⟨(x.ft k).toArray⟩ := by
    rw [← hT]
  rw [← eT] at c
  exact c.mono fun _ _ ⟨h1, h2⟩ => ⟨h1, h.next h2, h2⟩

/-- six kinds that were made, one of them, what it holds -/
def SpS (W : World) (v : Value) : Prop := ∃ B n, v = .slice (some ⟨B, 0, none⟩) 6 6 ∧ SixC W B n
theorem SpS.next {W W' : World} {v : Value} (h : SpS W v) (hb : Below W.heap.size W W') : SpS W' v := by
  obtain ⟨B, n, e, q⟩ := h
  exact ⟨B, n, e, q.next hb⟩
def SpP (W : World) (k : Nat) (v : Value) : Prop := ∃ B n, v = .pointer (some ⟨B, k * 4, none⟩) ∧ SixC W B n
theorem SpP.next {W W' : World} {k : Nat} {v : Value} (h : SpP W k v) (hb : Below W.heap.size W W') : SpP W' k v := by
  obtain ⟨B, n, e, q⟩ := h
  exact ⟨B, n, e, q.next hb⟩
def SpN (W : World) (k : Nat) (v : Value) : Prop := ∃ nv, v = .agg #[.int .i64 (kd6 k).lo, .int .i64 (kd6 k).hi, nv, .bool (kd6 k).week] ∧ IsStrs W nv (xs6 k)
theorem SpN.next {W W' : World} {k : Nat} {v : Value} (h : SpN W k v) (hb : Below W.heap.size W W') : SpN W' k v := by
  obtain ⟨nv, e, q⟩ := h
  exact ⟨nv, e, q.below hb⟩
def PInv (w : World) (x : Exp.Ex) (A k S : Nat) (st : Bool) (s T1 : ByteArray) (u0 u1 u2 u3 u10 u11 u12 u13 u14 u15 u16 u17 u18 u19 u20 u21 u22 u23 u24 u25 u26 u27 u28 u29 u30 u31 u32 u33 u34 u35 u36 u37 u38 u39 u40 u41 u55 u56 u57 u58 u59 u60 u61 u62 : Value) (g : Nat → Bool) (c : Act) (W : World) : Prop := ∃ v8 v9 v42 v43 v44 v45 v46 v47 v48 v49 v50 v51 v52 v53 v54,
  c = { tmps := #[u0, u1, u2, u3, .slice (some ⟨A, 0, none⟩) 6 6, .string s, .int .i64 k, .bool st, v8, v9, u10, u11, u12, u13, u14, u15, u16, u17, u18, u19, u20, u21, u22, u23, u24, u25, u26, u27, u28, u29, u30, u31, u32, u33, u34, u35, u36, u37, u38, u39, u40, u41, v42, v43, v44, v45, v46, v47, v48, v49, v50, v51, v52, v53, v54, u55, u56, u57, u58, u59, u60, u61, u62], defers := [] } ∧ CX w x A W ∧ (g 0 = true → SpS W v43) ∧ (g 1 = true → v44 = .int .i64 k) ∧ (g 2 = true → SpP W k v45) ∧ (g 3 = true → SpN W k v46) ∧ (g 4 = true → v47 = .slice (some ⟨A, 0, none⟩) 6 6) ∧ (g 5 = true → v48 = .int .i64 k) ∧ (g 6 = true → v49 = .pointer (some ⟨A, k, none⟩)) ∧ (g 7 = true → v50 = .int .u64 S) ∧ (g 8 = true → v51 = .bool st) ∧ (g 9 = true → v52 = .tuple #[.string T1, .int .i64 0]) ∧ (g 10 = true → v42 = .tuple #[.string T1, .int .i64 0]) ∧ (g 11 = true → v53 = .string T1) ∧ (g 12 = true → v54 = .int .i64 0) ∧ (g 13 = true → v8 = .string T1) ∧ (g 14 = true → v9 = .int .i64 0)
set_option linter.unusedSimpArgs false in
set_option maxRecDepth 100000 in
set_option maxHeartbeats 8000000 in
theorem print7_yes (x : Exp.Ex) (hx : x.Ok) (w : World) :
    Calls Tryz.prog 20 #[.agg #[.int .u64 x.a0, .int .u64 x.a1, .int .u64 x.a2, .int .u64 x.a3, .int .u64 x.a4, .int .u64 x.a5, .bool x.b3, .bool x.b5]] w fun e w' => e = .returned (.tuple #[.string ⟨x.text.toArray⟩, .int .i64 0]) ∧ Below w.heap.size w w' := by
  have CK := Lib.hid (fun w0 : World => check7_ex x hx.bd w0)
  rw [okB_ok hx] at CK
  have E0 : Row (w.alloc (.cells (exL x).toArray 25)) w.heap.size 25 (exL x) := Row.new w _ _
  have B0 : Below w.heap.size w (w.alloc (.cells (exL x).toArray 25)) := (Below.refl _ w).alloc (Nat.le_refl _) _
  have HE0 := Lib.hid E0
  have HB0 := Lib.hid B0
  have HX := Lib.hid hx
  have e0 : errOk true = 0 := rfl
  obtain ⟨T, hT⟩ : ∃ T : ByteArray, (⟨x.text.toArray⟩ : ByteArray) = T := ⟨_, rfl⟩
  have HT : Hid (x.text = T.data.toList) := Lib.hid (by rw [← hT])
  rw [hT]
  clear E0 B0 hx hT
  go_enter Tryz.func20, Tryz.ntmps20
  go_wp2_with fail
  refine (CK.out _).mono ?_
  rintro e w1 ⟨rfl, hb⟩
  have HE0 := Lib.hid (HE0.out.below hb)
  have HB0 := Lib.hid (HB0.out.trans (hb.mono (by simp)))
  have c0 := HE0.out.cell 0; have c1 := HE0.out.cell 1; have c2 := HE0.out.cell 2; have c3 := HE0.out.cell 3; have c4 := HE0.out.cell 4; have c5 := HE0.out.cell 5; have c6 := HE0.out.cell 6; have c7 := HE0.out.cell 7
  simp only [exL, List.getElem?_cons_zero, List.getElem?_cons_succ] at c0 c1 c2 c3 c4 c5 c6 c7
  clear hb CK
  go_wp2_with fail
  refine (fields7_any x _).mono ?_
  rintro e w2 ⟨A, rfl, r, lA, hb⟩
  have HC : Hid (CX w x A w2) := Lib.hid ⟨HB0.out.trans (hb.mono HB0.out.size), HE0.out.below hb, r⟩
  clear hb HE0 HB0 r lA c0 c1 c2 c3 c4 c5 c6 c7
  go_wp2_with fail
  go_loopw [5, 6] (fun o i wr => ∃ (k : Nat) (s : ByteArray), k ≤ 6 ∧ i = .int .i64 k ∧ o = .string s ∧ Hid (s.data.toList = Lex.joinL [32] (ptx x k)) ∧ Hid (CX w x A wr)) (fun _ i _ => 6 - (intOf i).toNat)
  case atStart => exact ⟨0, ⟨#[]⟩, Nat.zero_le _, rfl, rfl, Lib.hid rfl, HC⟩
  case round =>
    obtain ⟨k, s, hk, rfl, rfl, hs, Q⟩ := hrel
    by_cases hlt : k < 6
    · have q1 : decide ((k : Int) < 6) = true := by rw [decide_eq_true_iff]; omega
      have q1n : decide (k < 6) = true := by rw [decide_eq_true_iff]; omega
      have i0 : (0 : Int) ≤ (k : Int) := by omega
      have i1 : (k : Int) < 6 := by omega
      have dd0 := (Q.out.row.cell 0).trans (sixL_at x 0 (by decide))
      have dd := (Q.out.row.cell k).trans (sixL_at x k hlt)
      simp only [Exp.Ex.at] at dd0
      by_cases z0 : k = 0 ∧ x.a0 = 1
      · obtain ⟨rfl, z⟩ := z0
        have t0 : ((x.a0 : Int) == 1) = true := by rw [z]; rfl
        have t0n : (x.a0 == 1) = true := by rw [z]; rfl
        have hs' : Hid (s.data.toList = Lex.joinL [32] (ptx x (0 + 1))) := Lib.hid (by rw [hs.out]; unfold ptx; rw [if_pos ⟨rfl, z⟩])
        clear z dd hs
        go_wp2_with fail
        go_roundw
        case rel => exact ⟨0 + 1, s, by omega, by go_num, rfl, hs', Q⟩
        case measure => simp [intOf]
      · have hpt : ptx x (k + 1) = ptx x k ++ [x.ft k] := by
          show (if k = 0 ∧ x.a0 = 1 then [] else ptx x k ++ [x.ft k]) = _
          rw [if_neg z0]
        have sn := joinL_snoc [32] (ptx x k) (x.ft k)
        rw [← hpt] at sn
        have jn := joinL_nil (sep := [32]) (ptx_ne HX.out k hk)
        have ln := ptx_len x (k + 1)
        have fw := Exp.ft_word HX.out hlt
        obtain ⟨T1, hT1⟩ : ∃ T1 : ByteArray, T1.data.toList = x.ft k := ⟨⟨(x.ft k).toArray⟩, rfl⟩
        -- the first test
        have z1 : (k = 0 → ((x.a0 : Int) == 1) = false ∧ (x.a0 == 1) = false) := fun e => by
          have n : x.a0 ≠ 1 := fun q => z0 ⟨e, q⟩
          exact ⟨by rw [beq_eq_false_iff_ne]; omega, by rw [beq_eq_false_iff_ne]; exact n⟩
        -- the star
        obtain ⟨S, hS⟩ : ∃ S, x.at k = S := ⟨_, rfl⟩
        obtain ⟨F, hF⟩ : ∃ F, Exp.fl k = F := ⟨_, rfl⟩
        obtain ⟨st, hst⟩ : ∃ b, x.star k = b := ⟨_, rfl⟩
        have DS := Lib.hid (fun (W : World) (q : CX w x A W) => show W.cell? ⟨A, k, none⟩ = some (.int .u64 (S : Nat)) from by rw [← hS]; exact (q.row.cell k).trans (sixL_at x k hlt))
        have FU := Lib.hid (fun (W : World) (q : CX w x A W) => q.full k F hlt hF)
        have PT := Lib.hid (fun (W : World) (q : CX w x A W) (nv : Value) (hn : IsStrs W nv (xs6 k)) => q.print k hlt HX.out nv hn S hS st hst T1 hT1)
        rw [hS] at dd
        obtain ⟨fe, hfe⟩ : ∃ b, (S == F) = b := ⟨_, rfl⟩
        have tf : ((S : Int) == (F : Int)) = fe := by rw [← hfe, Bool.eq_iff_iff, beq_iff_eq, beq_iff_eq]; omega
        have st0 : k ≠ 3 → k ≠ 5 → st = fe := fun a b => by
          rw [← hst, ← hfe, ← hS, ← hF]
          unfold Exp.Ex.star
          split
          · exact absurd rfl a
          · exact absurd rfl b
          · rw [Bool.eq_iff_iff, decide_eq_true_iff, beq_iff_eq]
        have st3 : k = 3 → st = x.b3 := fun a => by rw [← hst, a]; rfl
        have st5 : k = 5 → st = x.b5 := fun a => by rw [← hst, a]; rfl
        -- what is behind the round
        have hsz : s.size = (Lex.joinL [32] (ptx x k)).length := by rw [Lib.size_eq, hs.out]
        have NX : Hid (∃ s' : ByteArray, s'.data.toList = Lex.joinL [32] (ptx x (k + 1)) ∧ s'.size ≤ 5000 ∧ (s.toList = [] → s ++ T1 = s') ∧ (s.toList ≠ [] → s ++ (⟨#[32]⟩ : ByteArray) ++ T1 = s')) := Lib.hid (by
          refine ⟨⟨(Lex.joinL [32] (ptx x (k + 1))).toArray⟩, rfl, ?_, fun e => ?_, fun e => ?_⟩
          · rw [Lib.size_eq]; show (Lex.joinL [32] (ptx x (k + 1))).length ≤ 5000; omega
          · rw [ByteArray.toList_eq, hs.out] at e
            apply ByteArray.ext
            apply Array.toList_inj.1
            rw [sn, if_pos (jn.1 e)]
            simp [hs.out, e, hT1]
          · rw [ByteArray.toList_eq, hs.out] at e
            apply ByteArray.ext
            apply Array.toList_inj.1
            rw [sn, if_neg (fun q => e (jn.2 q))]
            simp [hs.out, hT1])
        have s5 : s.size ≤ 4000 := by have := ptx_len x k; omega
        have t5 : T1.size ≤ 600 := by rw [Lib.size_eq, hT1]; exact Exp.ft_len x k
        obtain ⟨s', hs1, hs2, hs3, hs4⟩ := NX.out
        have HS1 := Lib.hid hs1
        have HS0 := Lib.hid hS
        clear hs sn jn ln fw hT1 hS hF hst hfe hsz NX hpt hs1
        by_cases k0 : k = 0
        · have y0 : ((k : Int) == 0) = true := by rw [beq_iff_eq]; omega
          have y0n : (k == 0) = true := by rw [beq_iff_eq]; omega
          have y3 : ((k : Int) == 3) = false := by rw [beq_eq_false_iff_ne]; omega
          have y3n : (k == 3) = false := by rw [beq_eq_false_iff_ne]; omega
          have y5 : ((k : Int) == 5) = false := by rw [beq_eq_false_iff_ne]; omega
          have y5n : (k == 5) = false := by rw [beq_eq_false_iff_ne]; omega
          obtain ⟨z2, z3⟩ := z1 k0
          have hS0 : x.a0 = S := by rw [← HS0.out, k0]; rfl
          rw [hS0] at z2 z3 dd0
          have e9 := st0 (by omega) (by omega)
          subst e9
          clear z1 z0 st0 st3 st5 k0 hS0
          go_wp2_with fail
          refine wp_region_held_drew (S := fun w' => w'.cell? ⟨A, k, none⟩ = some (.int .u64 (S : Nat))) (by kernel_rfl) ?ahS (fun hHeld => ?ahR)
          case ahS => ((try dsimp only); go_keep)
          refine wpAnyH_take (i := 0) (v := ?amv0) rfl (by kernel_rfl) (by kernel_rfl) (by kernel_rfl) (fun _ _ _ h => h) (Or.inl ⟨by rfl, ?amy0⟩) (by assumption) ?amr0
          case amy0 => (intro w hSw; (try dsimp only at hSw); (try simp only [List.getElem_toArray, List.getElem_cons_zero, List.getElem_cons_succ]); go_simp; try with_reducible rfl)
          simp only [Act.put, List.getElem_toArray, List.getElem_cons_zero, List.getElem_cons_succ, List.setIfInBounds_toArray, List.set_cons_zero, List.set_cons_succ]
          refine wpAnyH_take (i := 1) (v := ?amv1) rfl (by kernel_rfl) (by kernel_rfl) (by kernel_rfl) (fun _ _ _ h => h) (Or.inl ⟨by rfl, ?amy1⟩) (by assumption) ?amr1
          case amy1 => (intro w hSw; (try dsimp only at hSw); (try simp only [List.getElem_toArray, List.getElem_cons_zero, List.getElem_cons_succ]); go_simp; try with_reducible rfl)
          simp only [Act.put, List.getElem_toArray, List.getElem_cons_zero, List.getElem_cons_succ, List.setIfInBounds_toArray, List.set_cons_zero, List.set_cons_succ]
          refine wpAnyH_take (i := 2) (v := ?amv2) rfl (by kernel_rfl) (by kernel_rfl) (by kernel_rfl) (fun _ _ _ h => h) (Or.inl ⟨by rfl, ?amy2⟩) (by assumption) ?amr2
          case amy2 => (intro w hSw; (try dsimp only at hSw); (try simp only [List.getElem_toArray, List.getElem_cons_zero, List.getElem_cons_succ]); go_simp; try with_reducible rfl)
          simp only [Act.put, List.getElem_toArray, List.getElem_cons_zero, List.getElem_cons_succ, List.setIfInBounds_toArray, List.set_cons_zero, List.set_cons_succ]
          refine wpAnyH_take (i := 3) (v := ?amv3) rfl (by kernel_rfl) (by kernel_rfl) (by kernel_rfl) (fun _ _ _ h => h) (Or.inl ⟨by rfl, ?amy3⟩) (by assumption) ?amr3
          case amy3 => (intro w hSw; (try dsimp only at hSw); (try simp only [List.getElem_toArray, List.getElem_cons_zero, List.getElem_cons_succ]); go_simp; try with_reducible rfl)
          simp only [Act.put, List.getElem_toArray, List.getElem_cons_zero, List.getElem_cons_succ, List.setIfInBounds_toArray, List.set_cons_zero, List.set_cons_succ]
          refine wpAnyH_take (i := 4) (v := ?amv4) rfl (by kernel_rfl) (by kernel_rfl) (by kernel_rfl) (fun _ _ _ h => h) (Or.inl ⟨by rfl, ?amy4⟩) (by assumption) ?amr4
          case amy4 => (intro w hSw; (try dsimp only at hSw); (try simp only [List.getElem_toArray, List.getElem_cons_zero, List.getElem_cons_succ]); go_simp; try with_reducible rfl)
          simp only [Act.put, List.getElem_toArray, List.getElem_cons_zero, List.getElem_cons_succ, List.setIfInBounds_toArray, List.set_cons_zero, List.set_cons_succ]
          refine wpAnyH_ready (rs := [5]) (by kernel_rfl) (by simp) ?_
          refine AllReadyH.cons rfl (fun K hK => ?_) AllReadyH.nil
          rw [if_pos (by rfl)]
          (try simp only [List.getElem_toArray, List.getElem_cons_zero, List.getElem_cons_succ])
          go_simp
          (refine (FU.out _ (by first | exact Q.out | exact Q.out.drew)).mono ?_; rintro e w20 ⟨rfl, q'⟩; have dd := DS.out _ q'; have Q := Lib.hid q'; clear q')
          refine hK.out _ _ ?ahS5 (fun hHeld => ?ahR5)
          case ahS5 => ((try dsimp only); go_keep)
          clear hK K
          (try simp only [Act.put, List.setIfInBounds_toArray, List.set_cons_zero, List.set_cons_succ])
          refine wpAnyH_take (i := 6) (v := ?amv6) rfl (by kernel_rfl) (by kernel_rfl) (by kernel_rfl) (fun _ _ _ h => h) (Or.inl ⟨by rfl, ?amy6⟩) (by assumption) ?amr6
          case amy6 => (intro w hSw; (try dsimp only at hSw); (try simp only [List.getElem_toArray, List.getElem_cons_zero, List.getElem_cons_succ]); go_simp; try with_reducible rfl)
          simp only [Act.put, List.getElem_toArray, List.getElem_cons_zero, List.getElem_cons_succ, List.setIfInBounds_toArray, List.set_cons_zero, List.set_cons_succ]
          refine wpAnyH_take (i := 7) (v := ?amv7) rfl (by kernel_rfl) (by kernel_rfl) (by kernel_rfl) (fun _ _ _ h => h) (Or.inl ⟨by rfl, ?amy7⟩) (by assumption) ?amr7
          case amy7 => (intro w hSw; (try dsimp only at hSw); (try simp only [List.getElem_toArray, List.getElem_cons_zero, List.getElem_cons_succ]); go_simp; try with_reducible rfl)
          simp only [Act.put, List.getElem_toArray, List.getElem_cons_zero, List.getElem_cons_succ, List.setIfInBounds_toArray, List.set_cons_zero, List.set_cons_succ]
          refine wpAnyH_done (by kernel_rfl) ?_ _
          go_wp2_with fail
          apply wp_region_inv (PInv w x A (k) S st s T1 _ _ _ _ _ _ _ _ _ _ _ _ _ _ _ _ _ _ _ _ _ _ _ _ _ _ _ _ _ _ _ _ _ _ _ _ _ _ _ _ _ _ _ _) (by kernel_rfl)
          case h0 => exact ⟨_, _, _, _, _, _, _, _, _, _, _, _, _, _, _, rfl, Q.out.drew, (fun h => by cases h), (fun h => by cases h), (fun h => by cases h), (fun h => by cases h), (fun h => by cases h), (fun h => by cases h), (fun h => by cases h), (fun h => by cases h), (fun h => by cases h), (fun h => by cases h), (fun h => by cases h), (fun h => by cases h), (fun h => by cases h), (fun h => by cases h), (fun h => by cases h)⟩
          case htopo => kernel_rfl
          case hstep =>
            intro i o g c W ho hI hg hdep K' hK
            obtain ⟨v8, v9, v42, v43, v44, v45, v46, v47, v48, v49, v50, v51, v52, v53, v54, rfl, hM, q0, q1, q2, q3, q4, q5, q6, q7, q8, q9, q10, q11, q12, q13, q14⟩ := hI
            have hi : i < 15 := (Array.getElem?_eq_some_iff.1 ho).1
            rcases (show i = 0 ∨ i = 1 ∨ i = 2 ∨ i = 3 ∨ i = 4 ∨ i = 5 ∨ i = 6 ∨ i = 7 ∨ i = 8 ∨ i = 9 ∨ i = 10 ∨ i = 11 ∨ i = 12 ∨ i = 13 ∨ i = 14 by omega) with rfl | rfl | rfl | rfl | rfl | rfl | rfl | rfl | rfl | rfl | rfl | rfl | rfl | rfl | rfl
            · simp only [List.getElem?_toArray, List.getElem?_cons_zero, Option.some.injEq] at ho
              subst ho
              clear hdep
              go_simp
              refine (specsR_any _).mono ?_
              rintro e W2 ⟨rfl, hb, h6⟩
              go_simp
              exact hK.out _ _ ⟨_, _, _, _, _, _, _, _, _, _, _, _, _, _, _, rfl, hM.next hb, fun _ => ⟨_, _, rfl, h6⟩, q1, (fun h => (q2 h).next hb), (fun h => (q3 h).next hb), q4, q5, q6, q7, q8, q9, q10, q11, q12, q13, q14⟩
            · simp only [List.getElem?_toArray, List.getElem?_cons_zero, List.getElem?_cons_succ, Option.some.injEq] at ho
              subst ho
              clear hdep
              go_simp
              exact hK.out _ _ ⟨_, _, _, _, _, _, _, _, _, _, _, _, _, _, _, rfl, hM, q0, fun _ => rfl, q2, q3, q4, q5, q6, q7, q8, q9, q10, q11, q12, q13, q14⟩
            · simp only [List.getElem?_toArray, List.getElem?_cons_zero, List.getElem?_cons_succ, Option.some.injEq] at ho
              subst ho
              have r0 := q0 (hdep ⟨0, .data⟩ (by simp) rfl)
              obtain ⟨B, n, rfl, h6⟩ := r0
              have r1 := q1 (hdep ⟨1, .data⟩ (by simp) rfl)
              subst r1
              clear hdep
              go_simp
              exact hK.out _ _ ⟨_, _, _, _, _, _, _, _, _, _, _, _, _, _, _, rfl, hM, q0, q1, fun _ => ⟨_, _, rfl, h6⟩, q3, q4, q5, q6, q7, q8, q9, q10, q11, q12, q13, q14⟩
            · simp only [List.getElem?_toArray, List.getElem?_cons_zero, List.getElem?_cons_succ, Option.some.injEq] at ho
              subst ho
              have r2 := q2 (hdep ⟨2, .data⟩ (by simp) rfl)
              obtain ⟨B2, n2, rfl, h62⟩ := r2
              clear hdep
              obtain ⟨c0, c1, c2, c3⟩ := h62.cells k hlt
              have sk := h62.strs k hlt
              obtain ⟨nA, nc, en, _⟩ := h62.strs k hlt
              rw [en] at c2 sk
              go_simp
              exact hK.out _ _ ⟨_, _, _, _, _, _, _, _, _, _, _, _, _, _, _, rfl, hM, q0, q1, q2, fun _ => ⟨_, rfl, sk⟩, q4, q5, q6, q7, q8, q9, q10, q11, q12, q13, q14⟩
            · simp only [List.getElem?_toArray, List.getElem?_cons_zero, List.getElem?_cons_succ, Option.some.injEq] at ho
              subst ho
              clear hdep
              go_simp
              exact hK.out _ _ ⟨_, _, _, _, _, _, _, _, _, _, _, _, _, _, _, rfl, hM, q0, q1, q2, q3, fun _ => rfl, q5, q6, q7, q8, q9, q10, q11, q12, q13, q14⟩
            · simp only [List.getElem?_toArray, List.getElem?_cons_zero, List.getElem?_cons_succ, Option.some.injEq] at ho
              subst ho
              clear hdep
              go_simp
              exact hK.out _ _ ⟨_, _, _, _, _, _, _, _, _, _, _, _, _, _, _, rfl, hM, q0, q1, q2, q3, q4, fun _ => rfl, q6, q7, q8, q9, q10, q11, q12, q13, q14⟩
            · simp only [List.getElem?_toArray, List.getElem?_cons_zero, List.getElem?_cons_succ, Option.some.injEq] at ho
              subst ho
              have r4 := q4 (hdep ⟨4, .data⟩ (by simp) rfl)
              subst r4
              have r5 := q5 (hdep ⟨5, .data⟩ (by simp) rfl)
              subst r5
              clear hdep
              go_simp
              exact hK.out _ _ ⟨_, _, _, _, _, _, _, _, _, _, _, _, _, _, _, rfl, hM, q0, q1, q2, q3, q4, q5, fun _ => rfl, q7, q8, q9, q10, q11, q12, q13, q14⟩
            · simp only [List.getElem?_toArray, List.getElem?_cons_zero, List.getElem?_cons_succ, Option.some.injEq] at ho
              subst ho
              have r6 := q6 (hdep ⟨6, .data⟩ (by simp) rfl)
              subst r6
              clear hdep
              have u := DS.out _ hM
              go_simp
              exact hK.out _ _ ⟨_, _, _, _, _, _, _, _, _, _, _, _, _, _, _, rfl, hM, q0, q1, q2, q3, q4, q5, q6, fun _ => rfl, q8, q9, q10, q11, q12, q13, q14⟩
            · simp only [List.getElem?_toArray, List.getElem?_cons_zero, List.getElem?_cons_succ, Option.some.injEq] at ho
              subst ho
              clear hdep
              go_simp
              exact hK.out _ _ ⟨_, _, _, _, _, _, _, _, _, _, _, _, _, _, _, rfl, hM, q0, q1, q2, q3, q4, q5, q6, q7, fun _ => rfl, q9, q10, q11, q12, q13, q14⟩
            · simp only [List.getElem?_toArray, List.getElem?_cons_zero, List.getElem?_cons_succ, Option.some.injEq] at ho
              subst ho
              have r3 := q3 (hdep ⟨3, .data⟩ (by simp) rfl)
              obtain ⟨nv, rfl, hn⟩ := r3
              have r7 := q7 (hdep ⟨7, .data⟩ (by simp) rfl)
              subst r7
              have r8 := q8 (hdep ⟨8, .data⟩ (by simp) rfl)
              subst r8
              clear hdep
              go_simp
              refine (PT.out _ hM nv hn).mono ?_
              rintro e W2 ⟨rfl, hM2, hb⟩
              go_simp
              exact hK.out _ _ ⟨_, _, _, _, _, _, _, _, _, _, _, _, _, _, _, rfl, hM2, (fun h => (q0 h).next hb), q1, (fun h => (q2 h).next hb), (fun h => (q3 h).next hb), q4, q5, q6, q7, q8, fun _ => rfl, q10, q11, q12, q13, q14⟩
            · simp only [List.getElem?_toArray, List.getElem?_cons_zero, List.getElem?_cons_succ, Option.some.injEq] at ho
              subst ho
              have r9 := q9 (hdep ⟨9, .data⟩ (by simp) rfl)
              subst r9
              clear hdep
              go_simp
              exact hK.out _ _ ⟨_, _, _, _, _, _, _, _, _, _, _, _, _, _, _, rfl, hM, q0, q1, q2, q3, q4, q5, q6, q7, q8, q9, fun _ => rfl, q11, q12, q13, q14⟩
            · simp only [List.getElem?_toArray, List.getElem?_cons_zero, List.getElem?_cons_succ, Option.some.injEq] at ho
              subst ho
              have r10 := q10 (hdep ⟨10, .data⟩ (by simp) rfl)
              subst r10
              clear hdep
              go_simp
              exact hK.out _ _ ⟨_, _, _, _, _, _, _, _, _, _, _, _, _, _, _, rfl, hM, q0, q1, q2, q3, q4, q5, q6, q7, q8, q9, q10, fun _ => rfl, q12, q13, q14⟩
            · simp only [List.getElem?_toArray, List.getElem?_cons_zero, List.getElem?_cons_succ, Option.some.injEq] at ho
              subst ho
              have r10 := q10 (hdep ⟨10, .data⟩ (by simp) rfl)
              subst r10
              clear hdep
              go_simp
              exact hK.out _ _ ⟨_, _, _, _, _, _, _, _, _, _, _, _, _, _, _, rfl, hM, q0, q1, q2, q3, q4, q5, q6, q7, q8, q9, q10, q11, fun _ => rfl, q13, q14⟩
            · simp only [List.getElem?_toArray, List.getElem?_cons_zero, List.getElem?_cons_succ, Option.some.injEq] at ho
              subst ho
              have r11 := q11 (hdep ⟨11, .data⟩ (by simp) rfl)
              subst r11
              clear hdep
              go_simp
              exact hK.out _ _ ⟨_, _, _, _, _, _, _, _, _, _, _, _, _, _, _, rfl, hM, q0, q1, q2, q3, q4, q5, q6, q7, q8, q9, q10, q11, q12, fun _ => rfl, q14⟩
            · simp only [List.getElem?_toArray, List.getElem?_cons_zero, List.getElem?_cons_succ, Option.some.injEq] at ho
              subst ho
              have r12 := q12 (hdep ⟨12, .data⟩ (by simp) rfl)
              subst r12
              clear hdep
              go_simp
              exact hK.out _ _ ⟨_, _, _, _, _, _, _, _, _, _, _, _, _, _, _, rfl, hM, q0, q1, q2, q3, q4, q5, q6, q7, q8, q9, q10, q11, q12, q13, fun _ => rfl⟩
          case hend =>
            intro g c W hI hall
            obtain ⟨v8, v9, v42, v43, v44, v45, v46, v47, v48, v49, v50, v51, v52, v53, v54, rfl, hM, q0, q1, q2, q3, q4, q5, q6, q7, q8, q9, q10, q11, q12, q13, q14⟩ := hI
            have r0 := q0 (hall 0 (by decide))
            obtain ⟨B, n, rfl, h6⟩ := r0
            have r1 := q1 (hall 1 (by decide))
            subst r1
            have r2 := q2 (hall 2 (by decide))
            obtain ⟨B2, n2, rfl, h62⟩ := r2
            have r3 := q3 (hall 3 (by decide))
            obtain ⟨nv, rfl, hn⟩ := r3
            have r4 := q4 (hall 4 (by decide))
            subst r4
            have r5 := q5 (hall 5 (by decide))
            subst r5
            have r6 := q6 (hall 6 (by decide))
            subst r6
            have r7 := q7 (hall 7 (by decide))
            subst r7
            have r8 := q8 (hall 8 (by decide))
            subst r8
            have r9 := q9 (hall 9 (by decide))
            subst r9
            have r10 := q10 (hall 10 (by decide))
            subst r10
            have r11 := q11 (hall 11 (by decide))
            subst r11
            have r12 := q12 (hall 12 (by decide))
            subst r12
            have r13 := q13 (hall 13 (by decide))
            subst r13
            have r14 := q14 (hall 14 (by decide))
            subst r14
            clear q0 q1 q2 q3 q4 q5 q6 q7 q8 q9 q10 q11 q12 q13 q14
            have Q := Lib.hid hM
            clear hM hall
            by_cases se : s.toList = []
            · have e1 : (s.toList == []) = true := by rw [se]; rfl
              have hc := hs3 se
              clear hs3 hs4 se
              go_wp2_with fail
              try rw [hc]
              go_roundw
              case rel => exact ⟨k + 1, s', by omega, by go_num, rfl, HS1, Q⟩
              case measure => simp [intOf]; try omega
            · have e1 : (s.toList == []) = false := by rw [beq_eq_false_iff_ne]; exact se
              have hc := hs4 se
              clear hs3 hs4 se
              go_wp2_with fail
              try rw [hc]
              go_roundw
              case rel => exact ⟨k + 1, s', by omega, by go_num, rfl, HS1, Q⟩
              case measure => simp [intOf]; try omega
        · clear dd0
          have y0 : ((k : Int) == 0) = false := by rw [beq_eq_false_iff_ne]; omega
          have y0n : (k == 0) = false := by rw [beq_eq_false_iff_ne]; omega
          by_cases k3 : k = 3
          · subst k3
            have e9 := st3 rfl
            subst e9
            clear z1 z0 st0 st3 st5 k0
            go_wp2_with fail
            refine wp_region_held_drew (S := fun w' => w'.cell? ⟨A, 3, none⟩ = some (.int .u64 (S : Nat))) (by kernel_rfl) ?bhS (fun hHeld => ?bhR)
            case bhS => ((try dsimp only); go_keep)
            refine wpAnyH_take (i := 0) (v := ?bmv0) rfl (by kernel_rfl) (by kernel_rfl) (by kernel_rfl) (fun _ _ _ h => h) (Or.inl ⟨by rfl, ?bmy0⟩) (by assumption) ?bmr0
            case bmy0 => (intro w hSw; (try dsimp only at hSw); (try simp only [List.getElem_toArray, List.getElem_cons_zero, List.getElem_cons_succ]); go_simp; try with_reducible rfl)
            simp only [Act.put, List.getElem_toArray, List.getElem_cons_zero, List.getElem_cons_succ, List.setIfInBounds_toArray, List.set_cons_zero, List.set_cons_succ]
            refine wpAnyH_take (i := 1) (v := ?bmv1) rfl (by kernel_rfl) (by kernel_rfl) (by kernel_rfl) (fun _ _ _ h => h) (Or.inl ⟨by rfl, ?bmy1⟩) (by assumption) ?bmr1
            case bmy1 => (intro w hSw; (try dsimp only at hSw); (try simp only [List.getElem_toArray, List.getElem_cons_zero, List.getElem_cons_succ]); go_simp; try with_reducible rfl)
            simp only [Act.put, List.getElem_toArray, List.getElem_cons_zero, List.getElem_cons_succ, List.setIfInBounds_toArray, List.set_cons_zero, List.set_cons_succ]
            refine wpAnyH_take (i := 2) (v := ?bmv2) rfl (by kernel_rfl) (by kernel_rfl) (by kernel_rfl) (fun _ _ _ h => h) (Or.inl ⟨by rfl, ?bmy2⟩) (by assumption) ?bmr2
            case bmy2 => (intro w hSw; (try dsimp only at hSw); (try simp only [List.getElem_toArray, List.getElem_cons_zero, List.getElem_cons_succ]); go_simp; try with_reducible rfl)
            simp only [Act.put, List.getElem_toArray, List.getElem_cons_zero, List.getElem_cons_succ, List.setIfInBounds_toArray, List.set_cons_zero, List.set_cons_succ]
            refine wpAnyH_take (i := 3) (v := ?bmv3) rfl (by kernel_rfl) (by kernel_rfl) (by kernel_rfl) (fun _ _ _ h => h) (Or.inl ⟨by rfl, ?bmy3⟩) (by assumption) ?bmr3
            case bmy3 => (intro w hSw; (try dsimp only at hSw); (try simp only [List.getElem_toArray, List.getElem_cons_zero, List.getElem_cons_succ]); go_simp; try with_reducible rfl)
            simp only [Act.put, List.getElem_toArray, List.getElem_cons_zero, List.getElem_cons_succ, List.setIfInBounds_toArray, List.set_cons_zero, List.set_cons_succ]
            refine wpAnyH_take (i := 4) (v := ?bmv4) rfl (by kernel_rfl) (by kernel_rfl) (by kernel_rfl) (fun _ _ _ h => h) (Or.inl ⟨by rfl, ?bmy4⟩) (by assumption) ?bmr4
            case bmy4 => (intro w hSw; (try dsimp only at hSw); (try simp only [List.getElem_toArray, List.getElem_cons_zero, List.getElem_cons_succ]); go_simp; try with_reducible rfl)
            simp only [Act.put, List.getElem_toArray, List.getElem_cons_zero, List.getElem_cons_succ, List.setIfInBounds_toArray, List.set_cons_zero, List.set_cons_succ]
            refine wpAnyH_ready (rs := [5]) (by kernel_rfl) (by simp) ?_
            refine AllReadyH.cons rfl (fun K hK => ?_) AllReadyH.nil
            rw [if_pos (by rfl)]
            (try simp only [List.getElem_toArray, List.getElem_cons_zero, List.getElem_cons_succ])
            go_simp
            (refine (FU.out _ (by first | exact Q.out | exact Q.out.drew)).mono ?_; rintro e w20 ⟨rfl, q'⟩; have dd := DS.out _ q'; have Q := Lib.hid q'; clear q')
            refine hK.out _ _ ?bhS5 (fun hHeld => ?bhR5)
            case bhS5 => ((try dsimp only); go_keep)
            clear hK K
            (try simp only [Act.put, List.setIfInBounds_toArray, List.set_cons_zero, List.set_cons_succ])
            refine wpAnyH_take (i := 6) (v := ?bmv6) rfl (by kernel_rfl) (by kernel_rfl) (by kernel_rfl) (fun _ _ _ h => h) (Or.inl ⟨by rfl, ?bmy6⟩) (by assumption) ?bmr6
            case bmy6 => (intro w hSw; (try dsimp only at hSw); (try simp only [List.getElem_toArray, List.getElem_cons_zero, List.getElem_cons_succ]); go_simp; try with_reducible rfl)
            simp only [Act.put, List.getElem_toArray, List.getElem_cons_zero, List.getElem_cons_succ, List.setIfInBounds_toArray, List.set_cons_zero, List.set_cons_succ]
            refine wpAnyH_take (i := 7) (v := ?bmv7) rfl (by kernel_rfl) (by kernel_rfl) (by kernel_rfl) (fun _ _ _ h => h) (Or.inl ⟨by rfl, ?bmy7⟩) (by assumption) ?bmr7
            case bmy7 => (intro w hSw; (try dsimp only at hSw); (try simp only [List.getElem_toArray, List.getElem_cons_zero, List.getElem_cons_succ]); go_simp; try with_reducible rfl)
            simp only [Act.put, List.getElem_toArray, List.getElem_cons_zero, List.getElem_cons_succ, List.setIfInBounds_toArray, List.set_cons_zero, List.set_cons_succ]
            refine wpAnyH_done (by kernel_rfl) ?_ _
            obtain ⟨b6, b7⟩ := (show _ ∧ _ from ⟨Q.out.box.cell 6, Q.out.box.cell 7⟩)
            simp only [exL, List.getElem?_cons_zero, List.getElem?_cons_succ] at b6 b7
            go_wp2_with fail
            apply wp_region_inv (PInv w x A (3) S x.b3 s T1 _ _ _ _ _ _ _ _ _ _ _ _ _ _ _ _ _ _ _ _ _ _ _ _ _ _ _ _ _ _ _ _ _ _ _ _ _ _ _ _ _ _ _ _) (by kernel_rfl)
            case h0 => exact ⟨_, _, _, _, _, _, _, _, _, _, _, _, _, _, _, rfl, Q.out.drew, (fun h => by cases h), (fun h => by cases h), (fun h => by cases h), (fun h => by cases h), (fun h => by cases h), (fun h => by cases h), (fun h => by cases h), (fun h => by cases h), (fun h => by cases h), (fun h => by cases h), (fun h => by cases h), (fun h => by cases h), (fun h => by cases h), (fun h => by cases h), (fun h => by cases h)⟩
            case htopo => kernel_rfl
            case hstep =>
              intro i o g c W ho hI hg hdep K' hK
              obtain ⟨v8, v9, v42, v43, v44, v45, v46, v47, v48, v49, v50, v51, v52, v53, v54, rfl, hM, q0, q1, q2, q3, q4, q5, q6, q7, q8, q9, q10, q11, q12, q13, q14⟩ := hI
              have hi : i < 15 := (Array.getElem?_eq_some_iff.1 ho).1
              rcases (show i = 0 ∨ i = 1 ∨ i = 2 ∨ i = 3 ∨ i = 4 ∨ i = 5 ∨ i = 6 ∨ i = 7 ∨ i = 8 ∨ i = 9 ∨ i = 10 ∨ i = 11 ∨ i = 12 ∨ i = 13 ∨ i = 14 by omega) with rfl | rfl | rfl | rfl | rfl | rfl | rfl | rfl | rfl | rfl | rfl | rfl | rfl | rfl | rfl
              · simp only [List.getElem?_toArray, List.getElem?_cons_zero, Option.some.injEq] at ho
                subst ho
                clear hdep
                go_simp
                refine (specsR_any _).mono ?_
                rintro e W2 ⟨rfl, hb, h6⟩
                go_simp
                exact hK.out _ _ ⟨_, _, _, _, _, _, _, _, _, _, _, _, _, _, _, rfl, hM.next hb, fun _ => ⟨_, _, rfl, h6⟩, q1, (fun h => (q2 h).next hb), (fun h => (q3 h).next hb), q4, q5, q6, q7, q8, q9, q10, q11, q12, q13, q14⟩
              · simp only [List.getElem?_toArray, List.getElem?_cons_zero, List.getElem?_cons_succ, Option.some.injEq] at ho
                subst ho
                clear hdep
                go_simp
                exact hK.out _ _ ⟨_, _, _, _, _, _, _, _, _, _, _, _, _, _, _, rfl, hM, q0, fun _ => rfl, q2, q3, q4, q5, q6, q7, q8, q9, q10, q11, q12, q13, q14⟩
              · simp only [List.getElem?_toArray, List.getElem?_cons_zero, List.getElem?_cons_succ, Option.some.injEq] at ho
                subst ho
                have r0 := q0 (hdep ⟨0, .data⟩ (by simp) rfl)
                obtain ⟨B, n, rfl, h6⟩ := r0
                have r1 := q1 (hdep ⟨1, .data⟩ (by simp) rfl)
                subst r1
                clear hdep
                go_simp
                exact hK.out _ _ ⟨_, _, _, _, _, _, _, _, _, _, _, _, _, _, _, rfl, hM, q0, q1, fun _ => ⟨_, _, rfl, h6⟩, q3, q4, q5, q6, q7, q8, q9, q10, q11, q12, q13, q14⟩
              · simp only [List.getElem?_toArray, List.getElem?_cons_zero, List.getElem?_cons_succ, Option.some.injEq] at ho
                subst ho
                have r2 := q2 (hdep ⟨2, .data⟩ (by simp) rfl)
                obtain ⟨B2, n2, rfl, h62⟩ := r2
                clear hdep
                obtain ⟨c0, c1, c2, c3⟩ := h62.cells 3 hlt
                have sk := h62.strs 3 hlt
                obtain ⟨nA, nc, en, _⟩ := h62.strs 3 hlt
                rw [en] at c2 sk
                go_simp
                exact hK.out _ _ ⟨_, _, _, _, _, _, _, _, _, _, _, _, _, _, _, rfl, hM, q0, q1, q2, fun _ => ⟨_, rfl, sk⟩, q4, q5, q6, q7, q8, q9, q10, q11, q12, q13, q14⟩
              · simp only [List.getElem?_toArray, List.getElem?_cons_zero, List.getElem?_cons_succ, Option.some.injEq] at ho
                subst ho
                clear hdep
                go_simp
                exact hK.out _ _ ⟨_, _, _, _, _, _, _, _, _, _, _, _, _, _, _, rfl, hM, q0, q1, q2, q3, fun _ => rfl, q5, q6, q7, q8, q9, q10, q11, q12, q13, q14⟩
              · simp only [List.getElem?_toArray, List.getElem?_cons_zero, List.getElem?_cons_succ, Option.some.injEq] at ho
                subst ho
                clear hdep
                go_simp
                exact hK.out _ _ ⟨_, _, _, _, _, _, _, _, _, _, _, _, _, _, _, rfl, hM, q0, q1, q2, q3, q4, fun _ => rfl, q6, q7, q8, q9, q10, q11, q12, q13, q14⟩
              · simp only [List.getElem?_toArray, List.getElem?_cons_zero, List.getElem?_cons_succ, Option.some.injEq] at ho
                subst ho
                have r4 := q4 (hdep ⟨4, .data⟩ (by simp) rfl)
                subst r4
                have r5 := q5 (hdep ⟨5, .data⟩ (by simp) rfl)
                subst r5
                clear hdep
                go_simp
                exact hK.out _ _ ⟨_, _, _, _, _, _, _, _, _, _, _, _, _, _, _, rfl, hM, q0, q1, q2, q3, q4, q5, fun _ => rfl, q7, q8, q9, q10, q11, q12, q13, q14⟩
              · simp only [List.getElem?_toArray, List.getElem?_cons_zero, List.getElem?_cons_succ, Option.some.injEq] at ho
                subst ho
                have r6 := q6 (hdep ⟨6, .data⟩ (by simp) rfl)
                subst r6
                clear hdep
                have u := DS.out _ hM
                go_simp
                exact hK.out _ _ ⟨_, _, _, _, _, _, _, _, _, _, _, _, _, _, _, rfl, hM, q0, q1, q2, q3, q4, q5, q6, fun _ => rfl, q8, q9, q10, q11, q12, q13, q14⟩
              · simp only [List.getElem?_toArray, List.getElem?_cons_zero, List.getElem?_cons_succ, Option.some.injEq] at ho
                subst ho
                clear hdep
                go_simp
                exact hK.out _ _ ⟨_, _, _, _, _, _, _, _, _, _, _, _, _, _, _, rfl, hM, q0, q1, q2, q3, q4, q5, q6, q7, fun _ => rfl, q9, q10, q11, q12, q13, q14⟩
              · simp only [List.getElem?_toArray, List.getElem?_cons_zero, List.getElem?_cons_succ, Option.some.injEq] at ho
                subst ho
                have r3 := q3 (hdep ⟨3, .data⟩ (by simp) rfl)
                obtain ⟨nv, rfl, hn⟩ := r3
                have r7 := q7 (hdep ⟨7, .data⟩ (by simp) rfl)
                subst r7
                have r8 := q8 (hdep ⟨8, .data⟩ (by simp) rfl)
                subst r8
                clear hdep
                go_simp
                refine (PT.out _ hM nv hn).mono ?_
                rintro e W2 ⟨rfl, hM2, hb⟩
                go_simp
                exact hK.out _ _ ⟨_, _, _, _, _, _, _, _, _, _, _, _, _, _, _, rfl, hM2, (fun h => (q0 h).next hb), q1, (fun h => (q2 h).next hb), (fun h => (q3 h).next hb), q4, q5, q6, q7, q8, fun _ => rfl, q10, q11, q12, q13, q14⟩
              · simp only [List.getElem?_toArray, List.getElem?_cons_zero, List.getElem?_cons_succ, Option.some.injEq] at ho
                subst ho
                have r9 := q9 (hdep ⟨9, .data⟩ (by simp) rfl)
                subst r9
                clear hdep
                go_simp
                exact hK.out _ _ ⟨_, _, _, _, _, _, _, _, _, _, _, _, _, _, _, rfl, hM, q0, q1, q2, q3, q4, q5, q6, q7, q8, q9, fun _ => rfl, q11, q12, q13, q14⟩
              · simp only [List.getElem?_toArray, List.getElem?_cons_zero, List.getElem?_cons_succ, Option.some.injEq] at ho
                subst ho
                have r10 := q10 (hdep ⟨10, .data⟩ (by simp) rfl)
                subst r10
                clear hdep
                go_simp
                exact hK.out _ _ ⟨_, _, _, _, _, _, _, _, _, _, _, _, _, _, _, rfl, hM, q0, q1, q2, q3, q4, q5, q6, q7, q8, q9, q10, fun _ => rfl, q12, q13, q14⟩
              · simp only [List.getElem?_toArray, List.getElem?_cons_zero, List.getElem?_cons_succ, Option.some.injEq] at ho
                subst ho
                have r10 := q10 (hdep ⟨10, .data⟩ (by simp) rfl)
                subst r10
                clear hdep
                go_simp
                exact hK.out _ _ ⟨_, _, _, _, _, _, _, _, _, _, _, _, _, _, _, rfl, hM, q0, q1, q2, q3, q4, q5, q6, q7, q8, q9, q10, q11, fun _ => rfl, q13, q14⟩
              · simp only [List.getElem?_toArray, List.getElem?_cons_zero, List.getElem?_cons_succ, Option.some.injEq] at ho
                subst ho
                have r11 := q11 (hdep ⟨11, .data⟩ (by simp) rfl)
                subst r11
                clear hdep
                go_simp
                exact hK.out _ _ ⟨_, _, _, _, _, _, _, _, _, _, _, _, _, _, _, rfl, hM, q0, q1, q2, q3, q4, q5, q6, q7, q8, q9, q10, q11, q12, fun _ => rfl, q14⟩
              · simp only [List.getElem?_toArray, List.getElem?_cons_zero, List.getElem?_cons_succ, Option.some.injEq] at ho
                subst ho
                have r12 := q12 (hdep ⟨12, .data⟩ (by simp) rfl)
                subst r12
                clear hdep
                go_simp
                exact hK.out _ _ ⟨_, _, _, _, _, _, _, _, _, _, _, _, _, _, _, rfl, hM, q0, q1, q2, q3, q4, q5, q6, q7, q8, q9, q10, q11, q12, q13, fun _ => rfl⟩
            case hend =>
              intro g c W hI hall
              obtain ⟨v8, v9, v42, v43, v44, v45, v46, v47, v48, v49, v50, v51, v52, v53, v54, rfl, hM, q0, q1, q2, q3, q4, q5, q6, q7, q8, q9, q10, q11, q12, q13, q14⟩ := hI
              have r0 := q0 (hall 0 (by decide))
              obtain ⟨B, n, rfl, h6⟩ := r0
              have r1 := q1 (hall 1 (by decide))
              subst r1
              have r2 := q2 (hall 2 (by decide))
              obtain ⟨B2, n2, rfl, h62⟩ := r2
              have r3 := q3 (hall 3 (by decide))
              obtain ⟨nv, rfl, hn⟩ := r3
              have r4 := q4 (hall 4 (by decide))
              subst r4
              have r5 := q5 (hall 5 (by decide))
              subst r5
              have r6 := q6 (hall 6 (by decide))
              subst r6
              have r7 := q7 (hall 7 (by decide))
              subst r7
              have r8 := q8 (hall 8 (by decide))
              subst r8
              have r9 := q9 (hall 9 (by decide))
              subst r9
              have r10 := q10 (hall 10 (by decide))
              subst r10
              have r11 := q11 (hall 11 (by decide))
              subst r11
              have r12 := q12 (hall 12 (by decide))
              subst r12
              have r13 := q13 (hall 13 (by decide))
              subst r13
              have r14 := q14 (hall 14 (by decide))
              subst r14
              clear q0 q1 q2 q3 q4 q5 q6 q7 q8 q9 q10 q11 q12 q13 q14
              have Q := Lib.hid hM
              clear hM hall
              by_cases se : s.toList = []
              · have e1 : (s.toList == []) = true := by rw [se]; rfl
                have hc := hs3 se
                clear hs3 hs4 se
                go_wp2_with fail
                try rw [hc]
                go_roundw
                case rel => exact ⟨3 + 1, s', by omega, by go_num, rfl, HS1, Q⟩
                case measure => simp [intOf]; try omega
              · have e1 : (s.toList == []) = false := by rw [beq_eq_false_iff_ne]; exact se
                have hc := hs4 se
                clear hs3 hs4 se
                go_wp2_with fail
                try rw [hc]
                go_roundw
                case rel => exact ⟨3 + 1, s', by omega, by go_num, rfl, HS1, Q⟩
                case measure => simp [intOf]; try omega
          · have y3 : ((k : Int) == 3) = false := by rw [beq_eq_false_iff_ne]; omega
            have y3n : (k == 3) = false := by rw [beq_eq_false_iff_ne]; omega
            by_cases k5 : k = 5
            · subst k5
              have e9 := st5 rfl
              subst e9
              clear z1 z0 st0 st3 st5 k0 k3
              go_wp2_with fail
              refine wp_region_held_drew (S := fun w' => w'.cell? ⟨A, 5, none⟩ = some (.int .u64 (S : Nat))) (by kernel_rfl) ?chS (fun hHeld => ?chR)
              case chS => ((try dsimp only); go_keep)
              refine wpAnyH_take (i := 0) (v := ?cmv0) rfl (by kernel_rfl) (by kernel_rfl) (by kernel_rfl) (fun _ _ _ h => h) (Or.inl ⟨by rfl, ?cmy0⟩) (by assumption) ?cmr0
              case cmy0 => (intro w hSw; (try dsimp only at hSw); (try simp only [List.getElem_toArray, List.getElem_cons_zero, List.getElem_cons_succ]); go_simp; try with_reducible rfl)
              simp only [Act.put, List.getElem_toArray, List.getElem_cons_zero, List.getElem_cons_succ, List.setIfInBounds_toArray, List.set_cons_zero, List.set_cons_succ]
              refine wpAnyH_take (i := 1) (v := ?cmv1) rfl (by kernel_rfl) (by kernel_rfl) (by kernel_rfl) (fun _ _ _ h => h) (Or.inl ⟨by rfl, ?cmy1⟩) (by assumption) ?cmr1
              case cmy1 => (intro w hSw; (try dsimp only at hSw); (try simp only [List.getElem_toArray, List.getElem_cons_zero, List.getElem_cons_succ]); go_simp; try with_reducible rfl)
              simp only [Act.put, List.getElem_toArray, List.getElem_cons_zero, List.getElem_cons_succ, List.setIfInBounds_toArray, List.set_cons_zero, List.set_cons_succ]
              refine wpAnyH_take (i := 2) (v := ?cmv2) rfl (by kernel_rfl) (by kernel_rfl) (by kernel_rfl) (fun _ _ _ h => h) (Or.inl ⟨by rfl, ?cmy2⟩) (by assumption) ?cmr2
              case cmy2 => (intro w hSw; (try dsimp only at hSw); (try simp only [List.getElem_toArray, List.getElem_cons_zero, List.getElem_cons_succ]); go_simp; try with_reducible rfl)
              simp only [Act.put, List.getElem_toArray, List.getElem_cons_zero, List.getElem_cons_succ, List.setIfInBounds_toArray, List.set_cons_zero, List.set_cons_succ]
              refine wpAnyH_take (i := 3) (v := ?cmv3) rfl (by kernel_rfl) (by kernel_rfl) (by kernel_rfl) (fun _ _ _ h => h) (Or.inl ⟨by rfl, ?cmy3⟩) (by assumption) ?cmr3
              case cmy3 => (intro w hSw; (try dsimp only at hSw); (try simp only [List.getElem_toArray, List.getElem_cons_zero, List.getElem_cons_succ]); go_simp; try with_reducible rfl)
              simp only [Act.put, List.getElem_toArray, List.getElem_cons_zero, List.getElem_cons_succ, List.setIfInBounds_toArray, List.set_cons_zero, List.set_cons_succ]
              refine wpAnyH_take (i := 4) (v := ?cmv4) rfl (by kernel_rfl) (by kernel_rfl) (by kernel_rfl) (fun _ _ _ h => h) (Or.inl ⟨by rfl, ?cmy4⟩) (by assumption) ?cmr4
              case cmy4 => (intro w hSw; (try dsimp only at hSw); (try simp only [List.getElem_toArray, List.getElem_cons_zero, List.getElem_cons_succ]); go_simp; try with_reducible rfl)
              simp only [Act.put, List.getElem_toArray, List.getElem_cons_zero, List.getElem_cons_succ, List.setIfInBounds_toArray, List.set_cons_zero, List.set_cons_succ]
              refine wpAnyH_ready (rs := [5]) (by kernel_rfl) (by simp) ?_
              refine AllReadyH.cons rfl (fun K hK => ?_) AllReadyH.nil
              rw [if_pos (by rfl)]
              (try simp only [List.getElem_toArray, List.getElem_cons_zero, List.getElem_cons_succ])
              go_simp
              (refine (FU.out _ (by first | exact Q.out | exact Q.out.drew)).mono ?_; rintro e w20 ⟨rfl, q'⟩; have dd := DS.out _ q'; have Q := Lib.hid q'; clear q')
              refine hK.out _ _ ?chS5 (fun hHeld => ?chR5)
              case chS5 => ((try dsimp only); go_keep)
              clear hK K
              (try simp only [Act.put, List.setIfInBounds_toArray, List.set_cons_zero, List.set_cons_succ])
              refine wpAnyH_take (i := 6) (v := ?cmv6) rfl (by kernel_rfl) (by kernel_rfl) (by kernel_rfl) (fun _ _ _ h => h) (Or.inl ⟨by rfl, ?cmy6⟩) (by assumption) ?cmr6
              case cmy6 => (intro w hSw; (try dsimp only at hSw); (try simp only [List.getElem_toArray, List.getElem_cons_zero, List.getElem_cons_succ]); go_simp; try with_reducible rfl)
              simp only [Act.put, List.getElem_toArray, List.getElem_cons_zero, List.getElem_cons_succ, List.setIfInBounds_toArray, List.set_cons_zero, List.set_cons_succ]
              refine wpAnyH_take (i := 7) (v := ?cmv7) rfl (by kernel_rfl) (by kernel_rfl) (by kernel_rfl) (fun _ _ _ h => h) (Or.inl ⟨by rfl, ?cmy7⟩) (by assumption) ?cmr7
              case cmy7 => (intro w hSw; (try dsimp only at hSw); (try simp only [List.getElem_toArray, List.getElem_cons_zero, List.getElem_cons_succ]); go_simp; try with_reducible rfl)
              simp only [Act.put, List.getElem_toArray, List.getElem_cons_zero, List.getElem_cons_succ, List.setIfInBounds_toArray, List.set_cons_zero, List.set_cons_succ]
              refine wpAnyH_done (by kernel_rfl) ?_ _
              obtain ⟨b6, b7⟩ := (show _ ∧ _ from ⟨Q.out.box.cell 6, Q.out.box.cell 7⟩)
              simp only [exL, List.getElem?_cons_zero, List.getElem?_cons_succ] at b6 b7
              go_wp2_with fail
              apply wp_region_inv (PInv w x A (5) S x.b5 s T1 _ _ _ _ _ _ _ _ _ _ _ _ _ _ _ _ _ _ _ _ _ _ _ _ _ _ _ _ _ _ _ _ _ _ _ _ _ _ _ _ _ _ _ _) (by kernel_rfl)
              case h0 => exact ⟨_, _, _, _, _, _, _, _, _, _, _, _, _, _, _, rfl, Q.out.drew, (fun h => by cases h), (fun h => by cases h), (fun h => by cases h), (fun h => by cases h), (fun h => by cases h), (fun h => by cases h), (fun h => by cases h), (fun h => by cases h), (fun h => by cases h), (fun h => by cases h), (fun h => by cases h), (fun h => by cases h), (fun h => by cases h), (fun h => by cases h), (fun h => by cases h)⟩
              case htopo => kernel_rfl
              case hstep =>
                intro i o g c W ho hI hg hdep K' hK
                obtain ⟨v8, v9, v42, v43, v44, v45, v46, v47, v48, v49, v50, v51, v52, v53, v54, rfl, hM, q0, q1, q2, q3, q4, q5, q6, q7, q8, q9, q10, q11, q12, q13, q14⟩ := hI
                have hi : i < 15 := (Array.getElem?_eq_some_iff.1 ho).1
                rcases (show i = 0 ∨ i = 1 ∨ i = 2 ∨ i = 3 ∨ i = 4 ∨ i = 5 ∨ i = 6 ∨ i = 7 ∨ i = 8 ∨ i = 9 ∨ i = 10 ∨ i = 11 ∨ i = 12 ∨ i = 13 ∨ i = 14 by omega) with rfl | rfl | rfl | rfl | rfl | rfl | rfl | rfl | rfl | rfl | rfl | rfl | rfl | rfl | rfl
                · simp only [List.getElem?_toArray, List.getElem?_cons_zero, Option.some.injEq] at ho
                  subst ho
                  clear hdep
                  go_simp
                  refine (specsR_any _).mono ?_
                  rintro e W2 ⟨rfl, hb, h6⟩
                  go_simp
                  exact hK.out _ _ ⟨_, _, _, _, _, _, _, _, _, _, _, _, _, _, _, rfl, hM.next hb, fun _ => ⟨_, _, rfl, h6⟩, q1, (fun h => (q2 h).next hb), (fun h => (q3 h).next hb), q4, q5, q6, q7, q8, q9, q10, q11, q12, q13, q14⟩
                · simp only [List.getElem?_toArray, List.getElem?_cons_zero, List.getElem?_cons_succ, Option.some.injEq] at ho
                  subst ho
                  clear hdep
                  go_simp
                  exact hK.out _ _ ⟨_, _, _, _, _, _, _, _, _, _, _, _, _, _, _, rfl, hM, q0, fun _ => rfl, q2, q3, q4, q5, q6, q7, q8, q9, q10, q11, q12, q13, q14⟩
                · simp only [List.getElem?_toArray, List.getElem?_cons_zero, List.getElem?_cons_succ, Option.some.injEq] at ho
                  subst ho
                  have r0 := q0 (hdep ⟨0, .data⟩ (by simp) rfl)
                  obtain ⟨B, n, rfl, h6⟩ := r0
                  have r1 := q1 (hdep ⟨1, .data⟩ (by simp) rfl)
                  subst r1
                  clear hdep
                  go_simp
                  exact hK.out _ _ ⟨_, _, _, _, _, _, _, _, _, _, _, _, _, _, _, rfl, hM, q0, q1, fun _ => ⟨_, _, rfl, h6⟩, q3, q4, q5, q6, q7, q8, q9, q10, q11, q12, q13, q14⟩
                · simp only [List.getElem?_toArray, List.getElem?_cons_zero, List.getElem?_cons_succ, Option.some.injEq] at ho
                  subst ho
                  have r2 := q2 (hdep ⟨2, .data⟩ (by simp) rfl)
                  obtain ⟨B2, n2, rfl, h62⟩ := r2
                  clear hdep
                  obtain ⟨c0, c1, c2, c3⟩ := h62.cells 5 hlt
                  have sk := h62.strs 5 hlt
                  obtain ⟨nA, nc, en, _⟩ := h62.strs 5 hlt
                  rw [en] at c2 sk
                  go_simp
                  exact hK.out _ _ ⟨_, _, _, _, _, _, _, _, _, _, _, _, _, _, _, rfl, hM, q0, q1, q2, fun _ => ⟨_, rfl, sk⟩, q4, q5, q6, q7, q8, q9, q10, q11, q12, q13, q14⟩
                · simp only [List.getElem?_toArray, List.getElem?_cons_zero, List.getElem?_cons_succ, Option.some.injEq] at ho
                  subst ho
                  clear hdep
                  go_simp
                  exact hK.out _ _ ⟨_, _, _, _, _, _, _, _, _, _, _, _, _, _, _, rfl, hM, q0, q1, q2, q3, fun _ => rfl, q5, q6, q7, q8, q9, q10, q11, q12, q13, q14⟩
                · simp only [List.getElem?_toArray, List.getElem?_cons_zero, List.getElem?_cons_succ, Option.some.injEq] at ho
                  subst ho
                  clear hdep
                  go_simp
                  exact hK.out _ _ ⟨_, _, _, _, _, _, _, _, _, _, _, _, _, _, _, rfl, hM, q0, q1, q2, q3, q4, fun _ => rfl, q6, q7, q8, q9, q10, q11, q12, q13, q14⟩
                · simp only [List.getElem?_toArray, List.getElem?_cons_zero, List.getElem?_cons_succ, Option.some.injEq] at ho
                  subst ho
                  have r4 := q4 (hdep ⟨4, .data⟩ (by simp) rfl)
                  subst r4
                  have r5 := q5 (hdep ⟨5, .data⟩ (by simp) rfl)
                  subst r5
                  clear hdep
                  go_simp
                  exact hK.out _ _ ⟨_, _, _, _, _, _, _, _, _, _, _, _, _, _, _, rfl, hM, q0, q1, q2, q3, q4, q5, fun _ => rfl, q7, q8, q9, q10, q11, q12, q13, q14⟩
                · simp only [List.getElem?_toArray, List.getElem?_cons_zero, List.getElem?_cons_succ, Option.some.injEq] at ho
                  subst ho
                  have r6 := q6 (hdep ⟨6, .data⟩ (by simp) rfl)
                  subst r6
                  clear hdep
                  have u := DS.out _ hM
                  go_simp
                  exact hK.out _ _ ⟨_, _, _, _, _, _, _, _, _, _, _, _, _, _, _, rfl, hM, q0, q1, q2, q3, q4, q5, q6, fun _ => rfl, q8, q9, q10, q11, q12, q13, q14⟩
                · simp only [List.getElem?_toArray, List.getElem?_cons_zero, List.getElem?_cons_succ, Option.some.injEq] at ho
                  subst ho
                  clear hdep
                  go_simp
                  exact hK.out _ _ ⟨_, _, _, _, _, _, _, _, _, _, _, _, _, _, _, rfl, hM, q0, q1, q2, q3, q4, q5, q6, q7, fun _ => rfl, q9, q10, q11, q12, q13, q14⟩
                · simp only [List.getElem?_toArray, List.getElem?_cons_zero, List.getElem?_cons_succ, Option.some.injEq] at ho
                  subst ho
                  have r3 := q3 (hdep ⟨3, .data⟩ (by simp) rfl)
                  obtain ⟨nv, rfl, hn⟩ := r3
                  have r7 := q7 (hdep ⟨7, .data⟩ (by simp) rfl)
                  subst r7
                  have r8 := q8 (hdep ⟨8, .data⟩ (by simp) rfl)
                  subst r8
                  clear hdep
                  go_simp
                  refine (PT.out _ hM nv hn).mono ?_
                  rintro e W2 ⟨rfl, hM2, hb⟩
                  go_simp
                  exact hK.out _ _ ⟨_, _, _, _, _, _, _, _, _, _, _, _, _, _, _, rfl, hM2, (fun h => (q0 h).next hb), q1, (fun h => (q2 h).next hb), (fun h => (q3 h).next hb), q4, q5, q6, q7, q8, fun _ => rfl, q10, q11, q12, q13, q14⟩
                · simp only [List.getElem?_toArray, List.getElem?_cons_zero, List.getElem?_cons_succ, Option.some.injEq] at ho
                  subst ho
                  have r9 := q9 (hdep ⟨9, .data⟩ (by simp) rfl)
                  subst r9
                  clear hdep
                  go_simp
                  exact hK.out _ _ ⟨_, _, _, _, _, _, _, _, _, _, _, _, _, _, _, rfl, hM, q0, q1, q2, q3, q4, q5, q6, q7, q8, q9, fun _ => rfl, q11, q12, q13, q14⟩
                · simp only [List.getElem?_toArray, List.getElem?_cons_zero, List.getElem?_cons_succ, Option.some.injEq] at ho
                  subst ho
                  have r10 := q10 (hdep ⟨10, .data⟩ (by simp) rfl)
                  subst r10
                  clear hdep
                  go_simp
                  exact hK.out _ _ ⟨_, _, _, _, _, _, _, _, _, _, _, _, _, _, _, rfl, hM, q0, q1, q2, q3, q4, q5, q6, q7, q8, q9, q10, fun _ => rfl, q12, q13, q14⟩
                · simp only [List.getElem?_toArray, List.getElem?_cons_zero, List.getElem?_cons_succ, Option.some.injEq] at ho
                  subst ho
                  have r10 := q10 (hdep ⟨10, .data⟩ (by simp) rfl)
                  subst r10
                  clear hdep
                  go_simp
                  exact hK.out _ _ ⟨_, _, _, _, _, _, _, _, _, _, _, _, _, _, _, rfl, hM, q0, q1, q2, q3, q4, q5, q6, q7, q8, q9, q10, q11, fun _ => rfl, q13, q14⟩
                · simp only [List.getElem?_toArray, List.getElem?_cons_zero, List.getElem?_cons_succ, Option.some.injEq] at ho
                  subst ho
                  have r11 := q11 (hdep ⟨11, .data⟩ (by simp) rfl)
                  subst r11
                  clear hdep
                  go_simp
                  exact hK.out _ _ ⟨_, _, _, _, _, _, _, _, _, _, _, _, _, _, _, rfl, hM, q0, q1, q2, q3, q4, q5, q6, q7, q8, q9, q10, q11, q12, fun _ => rfl, q14⟩
                · simp only [List.getElem?_toArray, List.getElem?_cons_zero, List.getElem?_cons_succ, Option.some.injEq] at ho
                  subst ho
                  have r12 := q12 (hdep ⟨12, .data⟩ (by simp) rfl)
                  subst r12
                  clear hdep
                  go_simp
                  exact hK.out _ _ ⟨_, _, _, _, _, _, _, _, _, _, _, _, _, _, _, rfl, hM, q0, q1, q2, q3, q4, q5, q6, q7, q8, q9, q10, q11, q12, q13, fun _ => rfl⟩
              case hend =>
                intro g c W hI hall
                obtain ⟨v8, v9, v42, v43, v44, v45, v46, v47, v48, v49, v50, v51, v52, v53, v54, rfl, hM, q0, q1, q2, q3, q4, q5, q6, q7, q8, q9, q10, q11, q12, q13, q14⟩ := hI
                have r0 := q0 (hall 0 (by decide))
                obtain ⟨B, n, rfl, h6⟩ := r0
                have r1 := q1 (hall 1 (by decide))
                subst r1
                have r2 := q2 (hall 2 (by decide))
                obtain ⟨B2, n2, rfl, h62⟩ := r2
                have r3 := q3 (hall 3 (by decide))
                obtain ⟨nv, rfl, hn⟩ := r3
                have r4 := q4 (hall 4 (by decide))
                subst r4
                have r5 := q5 (hall 5 (by decide))
                subst r5
                have r6 := q6 (hall 6 (by decide))
                subst r6
                have r7 := q7 (hall 7 (by decide))
                subst r7
                have r8 := q8 (hall 8 (by decide))
                subst r8
                have r9 := q9 (hall 9 (by decide))
                subst r9
                have r10 := q10 (hall 10 (by decide))
                subst r10
                have r11 := q11 (hall 11 (by decide))
                subst r11
                have r12 := q12 (hall 12 (by decide))
                subst r12
                have r13 := q13 (hall 13 (by decide))
                subst r13
                have r14 := q14 (hall 14 (by decide))
                subst r14
                clear q0 q1 q2 q3 q4 q5 q6 q7 q8 q9 q10 q11 q12 q13 q14
                have Q := Lib.hid hM
                clear hM hall
                by_cases se : s.toList = []
                · have e1 : (s.toList == []) = true := by rw [se]; rfl
                  have hc := hs3 se
                  clear hs3 hs4 se
                  go_wp2_with fail
                  try rw [hc]
                  go_roundw
                  case rel => exact ⟨5 + 1, s', by omega, by go_num, rfl, HS1, Q⟩
                  case measure => simp [intOf]; try omega
                · have e1 : (s.toList == []) = false := by rw [beq_eq_false_iff_ne]; exact se
                  have hc := hs4 se
                  clear hs3 hs4 se
                  go_wp2_with fail
                  try rw [hc]
                  go_roundw
                  case rel => exact ⟨5 + 1, s', by omega, by go_num, rfl, HS1, Q⟩
                  case measure => simp [intOf]; try omega
            · have y5 : ((k : Int) == 5) = false := by rw [beq_eq_false_iff_ne]; omega
              have y5n : (k == 5) = false := by rw [beq_eq_false_iff_ne]; omega
              have e9 := st0 k3 k5
              subst e9
              clear z1 z0 st0 st3 st5 k0 k3 k5
              go_wp2_with fail
              refine wp_region_held_drew (S := fun w' => w'.cell? ⟨A, k, none⟩ = some (.int .u64 (S : Nat))) (by kernel_rfl) ?dhS (fun hHeld => ?dhR)
              case dhS => ((try dsimp only); go_keep)
              refine wpAnyH_take (i := 0) (v := ?dmv0) rfl (by kernel_rfl) (by kernel_rfl) (by kernel_rfl) (fun _ _ _ h => h) (Or.inl ⟨by rfl, ?dmy0⟩) (by assumption) ?dmr0
              case dmy0 => (intro w hSw; (try dsimp only at hSw); (try simp only [List.getElem_toArray, List.getElem_cons_zero, List.getElem_cons_succ]); go_simp; try with_reducible rfl)
              simp only [Act.put, List.getElem_toArray, List.getElem_cons_zero, List.getElem_cons_succ, List.setIfInBounds_toArray, List.set_cons_zero, List.set_cons_succ]
              refine wpAnyH_take (i := 1) (v := ?dmv1) rfl (by kernel_rfl) (by kernel_rfl) (by kernel_rfl) (fun _ _ _ h => h) (Or.inl ⟨by rfl, ?dmy1⟩) (by assumption) ?dmr1
              case dmy1 => (intro w hSw; (try dsimp only at hSw); (try simp only [List.getElem_toArray, List.getElem_cons_zero, List.getElem_cons_succ]); go_simp; try with_reducible rfl)
              simp only [Act.put, List.getElem_toArray, List.getElem_cons_zero, List.getElem_cons_succ, List.setIfInBounds_toArray, List.set_cons_zero, List.set_cons_succ]
              refine wpAnyH_take (i := 2) (v := ?dmv2) rfl (by kernel_rfl) (by kernel_rfl) (by kernel_rfl) (fun _ _ _ h => h) (Or.inl ⟨by rfl, ?dmy2⟩) (by assumption) ?dmr2
              case dmy2 => (intro w hSw; (try dsimp only at hSw); (try simp only [List.getElem_toArray, List.getElem_cons_zero, List.getElem_cons_succ]); go_simp; try with_reducible rfl)
              simp only [Act.put, List.getElem_toArray, List.getElem_cons_zero, List.getElem_cons_succ, List.setIfInBounds_toArray, List.set_cons_zero, List.set_cons_succ]
              refine wpAnyH_take (i := 3) (v := ?dmv3) rfl (by kernel_rfl) (by kernel_rfl) (by kernel_rfl) (fun _ _ _ h => h) (Or.inl ⟨by rfl, ?dmy3⟩) (by assumption) ?dmr3
              case dmy3 => (intro w hSw; (try dsimp only at hSw); (try simp only [List.getElem_toArray, List.getElem_cons_zero, List.getElem_cons_succ]); go_simp; try with_reducible rfl)
              simp only [Act.put, List.getElem_toArray, List.getElem_cons_zero, List.getElem_cons_succ, List.setIfInBounds_toArray, List.set_cons_zero, List.set_cons_succ]
              refine wpAnyH_take (i := 4) (v := ?dmv4) rfl (by kernel_rfl) (by kernel_rfl) (by kernel_rfl) (fun _ _ _ h => h) (Or.inl ⟨by rfl, ?dmy4⟩) (by assumption) ?dmr4
              case dmy4 => (intro w hSw; (try dsimp only at hSw); (try simp only [List.getElem_toArray, List.getElem_cons_zero, List.getElem_cons_succ]); go_simp; try with_reducible rfl)
              simp only [Act.put, List.getElem_toArray, List.getElem_cons_zero, List.getElem_cons_succ, List.setIfInBounds_toArray, List.set_cons_zero, List.set_cons_succ]
              refine wpAnyH_ready (rs := [5]) (by kernel_rfl) (by simp) ?_
              refine AllReadyH.cons rfl (fun K hK => ?_) AllReadyH.nil
              rw [if_pos (by rfl)]
              (try simp only [List.getElem_toArray, List.getElem_cons_zero, List.getElem_cons_succ])
              go_simp
              (refine (FU.out _ (by first | exact Q.out | exact Q.out.drew)).mono ?_; rintro e w20 ⟨rfl, q'⟩; have dd := DS.out _ q'; have Q := Lib.hid q'; clear q')
              refine hK.out _ _ ?dhS5 (fun hHeld => ?dhR5)
              case dhS5 => ((try dsimp only); go_keep)
              clear hK K
              (try simp only [Act.put, List.setIfInBounds_toArray, List.set_cons_zero, List.set_cons_succ])
              refine wpAnyH_take (i := 6) (v := ?dmv6) rfl (by kernel_rfl) (by kernel_rfl) (by kernel_rfl) (fun _ _ _ h => h) (Or.inl ⟨by rfl, ?dmy6⟩) (by assumption) ?dmr6
              case dmy6 => (intro w hSw; (try dsimp only at hSw); (try simp only [List.getElem_toArray, List.getElem_cons_zero, List.getElem_cons_succ]); go_simp; try with_reducible rfl)
              simp only [Act.put, List.getElem_toArray, List.getElem_cons_zero, List.getElem_cons_succ, List.setIfInBounds_toArray, List.set_cons_zero, List.set_cons_succ]
              refine wpAnyH_take (i := 7) (v := ?dmv7) rfl (by kernel_rfl) (by kernel_rfl) (by kernel_rfl) (fun _ _ _ h => h) (Or.inl ⟨by rfl, ?dmy7⟩) (by assumption) ?dmr7
              case dmy7 => (intro w hSw; (try dsimp only at hSw); (try simp only [List.getElem_toArray, List.getElem_cons_zero, List.getElem_cons_succ]); go_simp; try with_reducible rfl)
              simp only [Act.put, List.getElem_toArray, List.getElem_cons_zero, List.getElem_cons_succ, List.setIfInBounds_toArray, List.set_cons_zero, List.set_cons_succ]
              refine wpAnyH_done (by kernel_rfl) ?_ _
              go_wp2_with fail
              apply wp_region_inv (PInv w x A (k) S st s T1 _ _ _ _ _ _ _ _ _ _ _ _ _ _ _ _ _ _ _ _ _ _ _ _ _ _ _ _ _ _ _ _ _ _ _ _ _ _ _ _ _ _ _ _) (by kernel_rfl)
              case h0 => exact ⟨_, _, _, _, _, _, _, _, _, _, _, _, _, _, _, rfl, Q.out.drew, (fun h => by cases h), (fun h => by cases h), (fun h => by cases h), (fun h => by cases h), (fun h => by cases h), (fun h => by cases h), (fun h => by cases h), (fun h => by cases h), (fun h => by cases h), (fun h => by cases h), (fun h => by cases h), (fun h => by cases h), (fun h => by cases h), (fun h => by cases h), (fun h => by cases h)⟩
              case htopo => kernel_rfl
              case hstep =>
                intro i o g c W ho hI hg hdep K' hK
                obtain ⟨v8, v9, v42, v43, v44, v45, v46, v47, v48, v49, v50, v51, v52, v53, v54, rfl, hM, q0, q1, q2, q3, q4, q5, q6, q7, q8, q9, q10, q11, q12, q13, q14⟩ := hI
                have hi : i < 15 := (Array.getElem?_eq_some_iff.1 ho).1
                rcases (show i = 0 ∨ i = 1 ∨ i = 2 ∨ i = 3 ∨ i = 4 ∨ i = 5 ∨ i = 6 ∨ i = 7 ∨ i = 8 ∨ i = 9 ∨ i = 10 ∨ i = 11 ∨ i = 12 ∨ i = 13 ∨ i = 14 by omega) with rfl | rfl | rfl | rfl | rfl | rfl | rfl | rfl | rfl | rfl | rfl | rfl | rfl | rfl | rfl
                · simp only [List.getElem?_toArray, List.getElem?_cons_zero, Option.some.injEq] at ho
                  subst ho
                  clear hdep
                  go_simp
                  refine (specsR_any _).mono ?_
                  rintro e W2 ⟨rfl, hb, h6⟩
                  go_simp
                  exact hK.out _ _ ⟨_, _, _, _, _, _, _, _, _, _, _, _, _, _, _, rfl, hM.next hb, fun _ => ⟨_, _, rfl, h6⟩, q1, (fun h => (q2 h).next hb), (fun h => (q3 h).next hb), q4, q5, q6, q7, q8, q9, q10, q11, q12, q13, q14⟩
                · simp only [List.getElem?_toArray, List.getElem?_cons_zero, List.getElem?_cons_succ, Option.some.injEq] at ho
                  subst ho
                  clear hdep
                  go_simp
                  exact hK.out _ _ ⟨_, _, _, _, _, _, _, _, _, _, _, _, _, _, _, rfl, hM, q0, fun _ => rfl, q2, q3, q4, q5, q6, q7, q8, q9, q10, q11, q12, q13, q14⟩
                · simp only [List.getElem?_toArray, List.getElem?_cons_zero, List.getElem?_cons_succ, Option.some.injEq] at ho
                  subst ho
                  have r0 := q0 (hdep ⟨0, .data⟩ (by simp) rfl)
                  obtain ⟨B, n, rfl, h6⟩ := r0
                  have r1 := q1 (hdep ⟨1, .data⟩ (by simp) rfl)
                  subst r1
                  clear hdep
                  go_simp
                  exact hK.out _ _ ⟨_, _, _, _, _, _, _, _, _, _, _, _, _, _, _, rfl, hM, q0, q1, fun _ => ⟨_, _, rfl, h6⟩, q3, q4, q5, q6, q7, q8, q9, q10, q11, q12, q13, q14⟩
                · simp only [List.getElem?_toArray, List.getElem?_cons_zero, List.getElem?_cons_succ, Option.some.injEq] at ho
                  subst ho
                  have r2 := q2 (hdep ⟨2, .data⟩ (by simp) rfl)
                  obtain ⟨B2, n2, rfl, h62⟩ := r2
                  clear hdep
                  obtain ⟨c0, c1, c2, c3⟩ := h62.cells k hlt
                  have sk := h62.strs k hlt
                  obtain ⟨nA, nc, en, _⟩ := h62.strs k hlt
                  rw [en] at c2 sk
                  go_simp
                  exact hK.out _ _ ⟨_, _, _, _, _, _, _, _, _, _, _, _, _, _, _, rfl, hM, q0, q1, q2, fun _ => ⟨_, rfl, sk⟩, q4, q5, q6, q7, q8, q9, q10, q11, q12, q13, q14⟩
                · simp only [List.getElem?_toArray, List.getElem?_cons_zero, List.getElem?_cons_succ, Option.some.injEq] at ho
                  subst ho
                  clear hdep
                  go_simp
                  exact hK.out _ _ ⟨_, _, _, _, _, _, _, _, _, _, _, _, _, _, _, rfl, hM, q0, q1, q2, q3, fun _ => rfl, q5, q6, q7, q8, q9, q10, q11, q12, q13, q14⟩
                · simp only [List.getElem?_toArray, List.getElem?_cons_zero, List.getElem?_cons_succ, Option.some.injEq] at ho
                  subst ho
                  clear hdep
                  go_simp
                  exact hK.out _ _ ⟨_, _, _, _, _, _, _, _, _, _, _, _, _, _, _, rfl, hM, q0, q1, q2, q3, q4, fun _ => rfl, q6, q7, q8, q9, q10, q11, q12, q13, q14⟩
                · simp only [List.getElem?_toArray, List.getElem?_cons_zero, List.getElem?_cons_succ, Option.some.injEq] at ho
                  subst ho
                  have r4 := q4 (hdep ⟨4, .data⟩ (by simp) rfl)
                  subst r4
                  have r5 := q5 (hdep ⟨5, .data⟩ (by simp) rfl)
                  subst r5
                  clear hdep
                  go_simp
                  exact hK.out _ _ ⟨_, _, _, _, _, _, _, _, _, _, _, _, _, _, _, rfl, hM, q0, q1, q2, q3, q4, q5, fun _ => rfl, q7, q8, q9, q10, q11, q12, q13, q14⟩
                · simp only [List.getElem?_toArray, List.getElem?_cons_zero, List.getElem?_cons_succ, Option.some.injEq] at ho
                  subst ho
                  have r6 := q6 (hdep ⟨6, .data⟩ (by simp) rfl)
                  subst r6
                  clear hdep
                  have u := DS.out _ hM
                  go_simp
                  exact hK.out _ _ ⟨_, _, _, _, _, _, _, _, _, _, _, _, _, _, _, rfl, hM, q0, q1, q2, q3, q4, q5, q6, fun _ => rfl, q8, q9, q10, q11, q12, q13, q14⟩
                · simp only [List.getElem?_toArray, List.getElem?_cons_zero, List.getElem?_cons_succ, Option.some.injEq] at ho
                  subst ho
                  clear hdep
                  go_simp
                  exact hK.out _ _ ⟨_, _, _, _, _, _, _, _, _, _, _, _, _, _, _, rfl, hM, q0, q1, q2, q3, q4, q5, q6, q7, fun _ => rfl, q9, q10, q11, q12, q13, q14⟩
                · simp only [List.getElem?_toArray, List.getElem?_cons_zero, List.getElem?_cons_succ, Option.some.injEq] at ho
                  subst ho
                  have r3 := q3 (hdep ⟨3, .data⟩ (by simp) rfl)
                  obtain ⟨nv, rfl, hn⟩ := r3
                  have r7 := q7 (hdep ⟨7, .data⟩ (by simp) rfl)
                  subst r7
                  have r8 := q8 (hdep ⟨8, .data⟩ (by simp) rfl)
                  subst r8
                  clear hdep
                  go_simp
                  refine (PT.out _ hM nv hn).mono ?_
                  rintro e W2 ⟨rfl, hM2, hb⟩
                  go_simp
                  exact hK.out _ _ ⟨_, _, _, _, _, _, _, _, _, _, _, _, _, _, _, rfl, hM2, (fun h => (q0 h).next hb), q1, (fun h => (q2 h).next hb), (fun h => (q3 h).next hb), q4, q5, q6, q7, q8, fun _ => rfl, q10, q11, q12, q13, q14⟩
                · simp only [List.getElem?_toArray, List.getElem?_cons_zero, List.getElem?_cons_succ, Option.some.injEq] at ho
                  subst ho
                  have r9 := q9 (hdep ⟨9, .data⟩ (by simp) rfl)
                  subst r9
                  clear hdep
                  go_simp
                  exact hK.out _ _ ⟨_, _, _, _, _, _, _, _, _, _, _, _, _, _, _, rfl, hM, q0, q1, q2, q3, q4, q5, q6, q7, q8, q9, fun _ => rfl, q11, q12, q13, q14⟩
                · simp only [List.getElem?_toArray, List.getElem?_cons_zero, List.getElem?_cons_succ, Option.some.injEq] at ho
                  subst ho
                  have r10 := q10 (hdep ⟨10, .data⟩ (by simp) rfl)
                  subst r10
                  clear hdep
                  go_simp
                  exact hK.out _ _ ⟨_, _, _, _, _, _, _, _, _, _, _, _, _, _, _, rfl, hM, q0, q1, q2, q3, q4, q5, q6, q7, q8, q9, q10, fun _ => rfl, q12, q13, q14⟩
                · simp only [List.getElem?_toArray, List.getElem?_cons_zero, List.getElem?_cons_succ, Option.some.injEq] at ho
                  subst ho
                  have r10 := q10 (hdep ⟨10, .data⟩ (by simp) rfl)
                  subst r10
                  clear hdep
                  go_simp
                  exact hK.out _ _ ⟨_, _, _, _, _, _, _, _, _, _, _, _, _, _, _, rfl, hM, q0, q1, q2, q3, q4, q5, q6, q7, q8, q9, q10, q11, fun _ => rfl, q13, q14⟩
                · simp only [List.getElem?_toArray, List.getElem?_cons_zero, List.getElem?_cons_succ, Option.some.injEq] at ho
                  subst ho
                  have r11 := q11 (hdep ⟨11, .data⟩ (by simp) rfl)
                  subst r11
                  clear hdep
                  go_simp
                  exact hK.out _ _ ⟨_, _, _, _, _, _, _, _, _, _, _, _, _, _, _, rfl, hM, q0, q1, q2, q3, q4, q5, q6, q7, q8, q9, q10, q11, q12, fun _ => rfl, q14⟩
                · simp only [List.getElem?_toArray, List.getElem?_cons_zero, List.getElem?_cons_succ, Option.some.injEq] at ho
                  subst ho
                  have r12 := q12 (hdep ⟨12, .data⟩ (by simp) rfl)
                  subst r12
                  clear hdep
                  go_simp
                  exact hK.out _ _ ⟨_, _, _, _, _, _, _, _, _, _, _, _, _, _, _, rfl, hM, q0, q1, q2, q3, q4, q5, q6, q7, q8, q9, q10, q11, q12, q13, fun _ => rfl⟩
              case hend =>
                intro g c W hI hall
                obtain ⟨v8, v9, v42, v43, v44, v45, v46, v47, v48, v49, v50, v51, v52, v53, v54, rfl, hM, q0, q1, q2, q3, q4, q5, q6, q7, q8, q9, q10, q11, q12, q13, q14⟩ := hI
                have r0 := q0 (hall 0 (by decide))
                obtain ⟨B, n, rfl, h6⟩ := r0
                have r1 := q1 (hall 1 (by decide))
                subst r1
                have r2 := q2 (hall 2 (by decide))
                obtain ⟨B2, n2, rfl, h62⟩ := r2
                have r3 := q3 (hall 3 (by decide))
                obtain ⟨nv, rfl, hn⟩ := r3
                have r4 := q4 (hall 4 (by decide))
                subst r4
                have r5 := q5 (hall 5 (by decide))
                subst r5
                have r6 := q6 (hall 6 (by decide))
                subst r6
                have r7 := q7 (hall 7 (by decide))
                subst r7
                have r8 := q8 (hall 8 (by decide))
                subst r8
                have r9 := q9 (hall 9 (by decide))
                subst r9
                have r10 := q10 (hall 10 (by decide))
                subst r10
                have r11 := q11 (hall 11 (by decide))
                subst r11
                have r12 := q12 (hall 12 (by decide))
                subst r12
                have r13 := q13 (hall 13 (by decide))
                subst r13
                have r14 := q14 (hall 14 (by decide))
                subst r14
                clear q0 q1 q2 q3 q4 q5 q6 q7 q8 q9 q10 q11 q12 q13 q14
                have Q := Lib.hid hM
                clear hM hall
                by_cases se : s.toList = []
                · have e1 : (s.toList == []) = true := by rw [se]; rfl
                  have hc := hs3 se
                  clear hs3 hs4 se
                  go_wp2_with fail
                  try rw [hc]
                  go_roundw
                  case rel => exact ⟨k + 1, s', by omega, by go_num, rfl, HS1, Q⟩
                  case measure => simp [intOf]; try omega
                · have e1 : (s.toList == []) = false := by rw [beq_eq_false_iff_ne]; exact se
                  have hc := hs4 se
                  clear hs3 hs4 se
                  go_wp2_with fail
                  try rw [hc]
                  go_roundw
                  case rel => exact ⟨k + 1, s', by omega, by go_num, rfl, HS1, Q⟩
                  case measure => simp [intOf]; try omega
    · obtain rfl : k = 6 := by omega
      have e : s = T := by
        apply ByteArray.ext
        apply Array.toList_inj.1
        rw [hs.out, ptx_all, ← HT.out]
        rfl
      subst e
      clear hs
      go_wp2_with fail
      go_ret2
      exact ⟨rfl, Q.out.below⟩
end Go.Proofs.YtpnfifhanmpapaaGreatDoor
