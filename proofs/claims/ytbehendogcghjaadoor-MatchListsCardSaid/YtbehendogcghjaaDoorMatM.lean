/- Contract of List of package match: the first times of a span that are matched. -/
import Derived.Test.YtbehendogcghjaaDoorMatL
namespace Go.Proofs.YtbehendogcghjaaDoor
open Go.ChangeShapes Go.RowKit Go.Shelf

/-- the first times, so many at most, of a span -/
def Tms (P : Int → Prop) (b : Int) : Nat → Int → List Int → Prop
  | 0, _, l => l = []
  | n + 1, a, l => ∃ r, Mat.Least P a b r ∧ match r with
    | none => l = []
    | some t => ∃ l', l = t :: l' ∧ Tms P b n (t + 1) l'
theorem Tms.uniq {P : Int → Prop} {b : Int} : ∀ {n : Nat} {a : Int} {l m : List Int}, Tms P b n a l → Tms P b n a m → l = m
  | 0, _, l, m, h, k => by
    have h : l = [] := h
    have k : m = [] := k
    rw [h, k]
  | n + 1, a, l, m, h, k => by
    obtain ⟨r, h1, h2⟩ := h
    obtain ⟨r', k1, k2⟩ := k
    obtain rfl := h1.uniq k1
    cases r with
    | none =>
      have h2 : l = [] := h2
      have k2 : m = [] := k2
      rw [h2, k2]
    | some t =>
      obtain ⟨l', rfl, g⟩ := h2
      obtain ⟨m', rfl, g'⟩ := k2
      rw [Tms.uniq g g']
/-- what the loop collects: local times from f on, up to T -/
noncomputable def lstF (x : Exp.Ex) (z T : Int) : Nat → Int → List Int
  | 0, _ => []
  | n + 1, f => match Mat.Dir.up.seek x f T with
    | none => []
    | some u => (u - 60 * z) :: lstF x z T n (u + 1)
theorem lstF_len (x : Exp.Ex) (z T : Int) : ∀ (n : Nat) (f : Int), (lstF x z T n f).length ≤ n
  | 0, _ => Nat.le_refl _
  | n + 1, f => by
    rw [lstF]
    cases Mat.Dir.up.seek x f T with
    | none => simp
    | some u => have := lstF_len x z T n (u + 1); simp only [List.length_cons]; omega
theorem lstF_is {x : Exp.Ex} (hok : x.Ok) (z b : Int) : ∀ (n : Nat) (a : Int), 0 ≤ a + 60 * z → Tms (fun s => x.Lm (s + 60 * z)) b n a (lstF x z (loc1 z b) n (a + 60 * z))
  | 0, _, _ => rfl
  | n + 1, a, ha => by
    have h := seek_span hok z a b
    have e : loc0 z a = a + 60 * z := by unfold loc0; omega
    rw [e] at h
    refine ⟨_, h, ?_⟩
    rw [lstF]
    cases hs : Mat.Dir.up.seek x (a + 60 * z) (loc1 z b) with
    | none => rfl
    | some u =>
      rw [hs] at h
      have h : a ≤ u - 60 * z ∧ u - 60 * z ≤ b ∧ x.Lm (u - 60 * z + 60 * z) ∧ ∀ y, a ≤ y → y < u - 60 * z → ¬ x.Lm (y + 60 * z) := h
      have ih := lstF_is hok z b n (u - 60 * z + 1) (by omega)
      rw [show u - 60 * z + 1 + 60 * z = u + 1 by omega] at ih
      exact ⟨_, rfl, ih⟩
/-- a span that begins ahead of local time -/
theorem tms_from {P : Int → Prop} {b a c : Int} (hac : a ≤ c) (no : ∀ y, a ≤ y → y < c → ¬ P y) : ∀ {n : Nat} {l : List Int}, Tms P b n c l → Tms P b n a l
  | 0, _, h => h
  | n + 1, l, h => by
    obtain ⟨r, h1, h2⟩ := h
    exact ⟨r, h1.from hac no, h2⟩
/-- what List returns -/
noncomputable def listO (x : Exp.Ex) (z a b most : Int) : List Int := if errC x z [a, b] = 0 then lstF x z (loc1 z b) (min most 100000).toNat (loc0 z a) else []
theorem listO_is {x : Exp.Ex} {z a b : Int} (most : Int) (h : errC x z [a, b] = 0) : Tms (fun s => x.Lm (s + 60 * z)) b (min most 100000).toNat a (listO x z a b most) := by
  unfold listO
  rw [if_pos h]
  have hok := ok_of h
  by_cases c : 0 ≤ a + 60 * z
  · have e : loc0 z a = a + 60 * z := by unfold loc0; omega
    rw [e]
    exact lstF_is hok z b _ a c
  · have e : loc0 z a = -(60 * z) + 60 * z := by unfold loc0; omega
    rw [e]
    refine tms_from (c := -(60 * z)) (by omega) (fun y y1 y2 y3 => ?_) (lstF_is hok z b _ (-(60 * z)) (by omega))
    have := lm_in y3
    omega

theorem infoT : (Tryd.prog.info? 2).map (fun i => (i.zero, i.size, i.bytes)) = some (some (.int .i64 0), 1, 8) := by kernel_rfl
/-- a list of times of the call's own, and what lay before the call is as it was -/
structure OwnT (w : World) (v : Value) (l : List Int) (wr : World) : Prop where
  row : wr.ownsRow w.heap.size 2 1 v l.length (l.map (.int .i64 ·))
  below : Below w.heap.size w wr
theorem OwnT.nil (w : World) : OwnT w (.slice none 0 0) [] w := ⟨World.ownsRow_nil _ _ _ _, Below.refl _ _⟩
theorem OwnT.step {w wr w1 : World} {v v' : Value} {l : List Int} {o : Obj} {x : Int} (h : OwnT w v l wr)
    (hown : w1.ownsRow w.heap.size 2 1 v' (l.length + 1) (l.map (.int .i64 ·) ++ [.int .i64 x])) (hg : (wr.alloc o).grownBy w1 v.ownBlock) : OwnT w v' (l ++ [x]) w1 := by
  have hs := h.below.size
  refine ⟨by rw [List.map_append]; simpa using hown, (h.below.alloc hs o).grown hg (by simp; omega) (fun k hk => (h.row.lt k hk).1)⟩
theorem OwnT.next {w wr w1 : World} {v : Value} {l : List Int} (h : OwnT w v l wr) (hb : Below wr.heap.size wr w1) : OwnT w v l w1 := by
  refine ⟨h.row.kept ⟨hb.os, hb.tape, hb.output, hb.size, fun k hk _ => hb.block k hk⟩ (row := none) ?_, h.below.trans (hb.mono h.below.size)⟩
  rcases h.row.2 with ⟨rfl, _⟩ | ⟨g, cap, cur, rfl, _⟩
  · exact .inl rfl
  · exact .inr (by simp [Value.ownBlock])
theorem OwnT.len {w wr : World} {v : Value} {l : List Int} (h : OwnT w v l wr) : ∃ a cap, v = .slice a l.length cap := by
  rcases h.row.2 with ⟨rfl, h0⟩ | ⟨g, cap, cur, rfl, _⟩
  · rw [h0]; exact ⟨_, _, rfl⟩
  · exact ⟨_, _, rfl⟩
theorem OwnT.base {w V wr : World} {v : Value} {l : List Int} (h : OwnT V v l wr) (hb : Below w.heap.size w V) : OwnT w v l wr := ⟨ownsRow_base h.row hb.size, hb.trans (h.below.mono hb.size)⟩
def lenV : Value → Nat
  | .slice _ n _ => n
  | _ => 0
set_option maxRecDepth 100000 in
set_option maxHeartbeats 4000000 in
theorem mlist_any (x : Exp.Ex) (hx : x.Bd) (z a b most : Int) (w : World) (L : LayM w) :
    Calls Tryd.prog 26 #[.agg #[.int .u64 x.a0, .int .u64 x.a1, .int .u64 x.a2, .int .u64 x.a3, .int .u64 x.a4, .int .u64 x.a5, .bool x.b3, .bool x.b5], .int .i64 z, .int .i64 a, .int .i64 b, .int .i64 most] w fun e W' => ∃ v, e = .returned (.tuple #[v, .int .i64 (errC x z [a, b])]) ∧ OwnT w v (listO x z a b most) W' := by
  obtain ⟨i0, hi, hz0, hz1, hz2⟩ := info_parts infoT
  have CK := Lib.hid (fun w0 R => mcheck_any x hx z (w.heap.size + 1) [a, b] (by simp) w0 R)
  have RW := Lib.hid (two_row x a b w)
  have LL := Lib.hid L
  by_cases h : errC x z [a, b] = 0
  · obtain ⟨hk, hz, ha, hb⟩ := errC_two h
    have hok := Exp.okB_iff.1 hk
    have LA := Lib.hid (fun w0 : World => local_any z a b (loc0 z a) (loc1 z b) w0 hz.1 hz.2 (by omega) (by omega) (by omega) (by omega) rfl rfl)
    have AH := Lib.hid (fun w0 : World => ahead_any z w0 hz.1 hz.2)
    obtain ⟨M, hM⟩ : ∃ M, min most 100000 = M := ⟨_, rfl⟩
    have DO : Hid (listO x z a b most = lstF x z (loc1 z b) M.toNat (loc0 z a)) := Lib.hid (by unfold listO; rw [if_pos h, hM])
    have MB := Lib.hid (show M ≤ 100000 by omega)
    have bd := loc_bd (z := z) (a := a) (b := b) hz.1 hz.2 (by omega) (by omega) (by omega) (by omega)
    have l0 : Hid (0 ≤ loc0 z a) := Lib.hid (by unfold loc0; omega)
    obtain ⟨f, hf⟩ : ∃ f, loc0 z a = f := ⟨_, rfl⟩
    have t1 : Hid (loc1 z b ≤ 253402300799) := Lib.hid (by unfold loc1; omega)
    obtain ⟨T, hT⟩ : ∃ T, loc1 z b = T := ⟨_, rfl⟩
    rw [hf, hT] at LA DO bd
    rw [hf] at l0
    rw [hT] at t1
    have SK := Lib.hid (fun f' r (bf : 0 ≤ f' ∧ f' ≤ 1000000000000) (hr : Mat.Dir.up.seek x f' T = r) w0 L0 => seek_up x hok f' T (r.getD 0) r.isSome hr rfl rfl (by have := bd; omega) (fun hp => by
      have hp := of_decide_eq_false hp
      simp only [Mat.Dir.val] at hp
      have := t1.out
      omega) w0 L0)
    have SB := Lib.hid (fun f' u (hr : Mat.Dir.up.seek x f' T = some u) => show 0 ≤ u ∧ u ≤ 253402300799 by
      have q := seek_is (d := .up) hok f' T
      rw [hr] at q
      exact lm_in q.2.2.1)
    have ZB := Lib.hid hz
    have BD := Lib.hid bd
    rw [h] at CK ⊢
    clear h hk hz ha hb hok hf hT bd L
    go_enter Tryd.func26, Tryd.ntmps26
    go_wp2_with (first
      | (go_at_call 33; refine (CK.out _ RW.out).mono ?_; rintro e V ⟨rfl, hb⟩; have Q := Lib.hid (BC.one LL.out hb); clear hb)
      | (go_at_call 34; refine (LA.out _).mono ?_; rintro e V' ⟨rfl, rfl⟩))
    go_loopw [13, 14] (fun v c wr => ∃ (pre : List Int) (f' : Int), c = .int .i64 f' ∧ Hid (OwnT V v pre wr) ∧ Hid (BC w x wr) ∧ Hid (lstF x z T M.toNat f = pre ++ lstF x z T (M.toNat - pre.length) f' ∧ pre.length ≤ M.toNat ∧ 0 ≤ f' ∧ f' ≤ 1000000000000)) (fun v _ _ => M.toNat - lenV v)
    case atStart => exact ⟨[], f, rfl, Lib.hid (OwnT.nil V), Q, Lib.hid ⟨by simp, by simp, l0.out, BD.out.2.1⟩⟩
    case round =>
      obtain ⟨pre, f', rfl, ho, hq, hl⟩ := hrel
      obtain ⟨va, vc, rfl⟩ := ho.out.len
      by_cases c : (pre.length : Int) < M
      · have tl : decide ((pre.length : Int) < M) = true := by rw [decide_eq_true_iff]; exact c
        have HC := Lib.hid c
        obtain ⟨y0, y1, y2, y3, y4, y5, y6, y7⟩ := hq.out.cells
        obtain ⟨r, hr⟩ : ∃ r, Mat.Dir.up.seek x f' T = r := ⟨_, rfl⟩
        have SK1 := Lib.hid (fun w0 L0 => SK.out f' r ⟨hl.out.2.2.1, hl.out.2.2.2⟩ hr w0 L0)
        clear c
        cases r with
        | none =>
          simp only [Option.getD_none, Option.isSome_none] at SK1
          have HE : Hid (lstF x z T M.toNat f = pre) := Lib.hid (by
            have := hl.out.1
            have := HC.out
            obtain ⟨k, hk⟩ : ∃ k, M.toNat - pre.length = k + 1 := ⟨M.toNat - pre.length - 1, by omega⟩
            rw [hl.out.1, hk, lstF, hr]
            simp)
          clear hr
          go_wp2_with (go_at_call 39; refine (SK1.out _ hq.out.lay).mono ?_; rintro e V' ⟨rfl, hb⟩; have HO := Lib.hid (ho.out.next hb); clear hb)
          go_ret2
          exact ⟨_, rfl, by rw [DO.out, HE.out]; exact HO.out.base Q.out.be⟩
        | some u =>
          simp only [Option.getD_some, Option.isSome_some] at SK1
          have ub := SB.out f' u hr
          have HU := Lib.hid hr
          have wu : IntKind.i64.wrap (u - 60 * z) = u - 60 * z := by have := ZB.out; rw [IntKind.wrap_i64]; omega
          have wv : IntKind.i64.wrap (u + 1) = u + 1 := by rw [IntKind.wrap_i64]; omega
          have UB := Lib.hid ub
          clear hr ub
          obtain ⟨g, hg⟩ : ∃ g, 60 * z = g := ⟨_, rfl⟩
          have HG := Lib.hid hg
          rw [hg] at wu AH
          clear hg
          have hpl := hl.out.2.1
          have mb := MB.out
          go_wp2_with (go_at_call 39; refine (SK1.out _ hq.out.lay).mono ?_; rintro e V' ⟨rfl, hb⟩; have HO := Lib.hid (ho.out.next hb); have HQ := Lib.hid (hq.out.next hb); clear hb)
          have hsz := HO.out.below.size
          go_wp2_with (first
            | (go_at_call 45; refine (AH.out _).mono ?_; rintro e V2 ⟨rfl, rfl⟩)
            | (at_builtin; refine wpList_append_own_at _ rfl (.tmp 48) (.tmp 53) 33 rfl V.heap.size 2 i0 (.int .i64 0) 1 8 Tryd.underlying33 hi hz0 hz1 hz2 rfl (by decide) _ pre.length _ rfl (HO.out.row.alloc _) ⟨V'.heap.size, 0, none⟩ 1 1 [.int .i64 (u - g)] rfl ?c1 ?c2 ?c3 ?c4 ?c5 ?c6 ?c7))
          case c1 => rfl
          case c2 => exact cell_one_new _ _ _
          case c3 => simp [Value.oneCell']
          case c4 => simp [maxLen]; omega
          case c5 => omega
          case c6 => simp; omega
          case c7 =>
            intro v1 w1 hown hgr _ _
            have h1 := HO.out.step hown hgr
            have hbc : BC w x w1 := by
              have b1 : Below V.heap.size V w1 := h1.below
              exact Q.out.next b1
            have H1 := Lib.hid h1
            have HBC := Lib.hid hbc
            clear h1 hbc hown hgr
            go_wp2_with fail
            go_roundw
            case rel =>
              refine ⟨pre ++ [u - g], u + 1, rfl, H1, HBC, Lib.hid ⟨?_, ?_, ?_, ?_⟩⟩
              · have hc := HC.out
                obtain ⟨k, hk⟩ : ∃ k, M.toNat - pre.length = k + 1 := ⟨M.toNat - pre.length - 1, by omega⟩
                rw [hl.out.1, hk, lstF, HU.out, HG.out]
                have e : M.toNat - (pre ++ [u - g]).length = k := by simp; omega
                rw [e]
                simp
              · have hc := HC.out; simp; omega
              · have := UB.out; omega
              · have := UB.out; omega
            case measure =>
              obtain ⟨a1, c1, e1⟩ := H1.out.len
              have hc := HC.out
              rw [e1]
              simp [lenV]
              omega
      · have tl : decide ((pre.length : Int) < M) = false := by rw [decide_eq_false_iff_not]; exact c
        have HE : Hid (lstF x z T M.toNat f = pre) := Lib.hid (by
          have := hl.out.2.1
          have e : M.toNat - pre.length = 0 := by omega
          rw [hl.out.1, e, lstF]
          simp)
        clear c
        go_wp2_with fail
        go_ret2
        exact ⟨_, rfl, by rw [DO.out, HE.out]; exact ho.out.base Q.out.be⟩
  · have DO : Hid (listO x z a b most = []) := Lib.hid (by unfold listO; rw [if_neg h])
    obtain ⟨E, hE⟩ : ∃ E, errC x z [a, b] = E := ⟨_, rfl⟩
    rw [hE] at h CK ⊢
    have t1 : (E != 0) = true := by rw [bne_iff_ne]; exact h
    clear h hE L
    go_enter Tryd.func26, Tryd.ntmps26
    go_wp2_with (first
      | (go_at_call 33; refine (CK.out _ RW.out).mono ?_; rintro e V ⟨rfl, hb⟩; have Q := Lib.hid (BC.one LL.out hb); clear hb))
    go_ret2
    exact ⟨_, rfl, by rw [DO.out]; exact ⟨World.ownsRow_nil _ _ _ _, Q.out.be⟩⟩
end Go.Proofs.YtbehendogcghjaaDoor
