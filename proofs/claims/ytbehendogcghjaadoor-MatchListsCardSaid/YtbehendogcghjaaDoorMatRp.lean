/- Contract of the document's program of chapter match: List. -/
import Derived.Test.YtbehendogcghjaaDoorMatRl
namespace Go.Proofs.YtbehendogcghjaaDoor
open Go.ChangeShapes Go.RowKit Go.Shelf

/-- what is still to come: the next time is r -/
def RestOk (P : Int → Prop) (b : Int) (all pre : List Int) (M : Nat) (r : Option Int) : Prop := ∃ a' rest, 0 ≤ a' ∧ Mat.Least P a' 253402300799 r ∧ all = pre ++ rest ∧ Tms P b (M - pre.length) a' rest ∧ pre.length ≤ M
theorem tms_none {P : Int → Prop} {b : Int} : ∀ {n : Nat} {a : Int} {l : List Int}, Tms P b n a l → (∀ y, a ≤ y → y ≤ b → ¬ P y) → l = []
  | 0, _, _, h, _ => h
  | n + 1, a, l, h, no => by
    obtain ⟨r, h1, h2⟩ := h
    have e : r = none := h1.uniq no
    subst e
    exact h2
theorem rest_none {P : Int → Prop} {b : Int} {all pre : List Int} {M : Nat} (h : RestOk P b all pre M none) (hb : b ≤ 253402300799) : all = pre := by
  obtain ⟨a', rest, _, h1, h2, h3, _⟩ := h
  rw [h2, tms_none h3 (fun y y1 y2 => h1 y y1 (by omega)), List.append_nil]
theorem rest_far {P : Int → Prop} {b t : Int} {all pre : List Int} {M : Nat} (h : RestOk P b all pre M (some t)) (hb : b < t) : all = pre := by
  obtain ⟨a', rest, _, h1, h2, h3, _⟩ := h
  rw [h2, tms_none h3 (fun y y1 y2 => h1.2.2.2 y y1 (by omega)), List.append_nil]
theorem rest_full {P : Int → Prop} {b : Int} {all pre : List Int} {M : Nat} {r : Option Int} (h : RestOk P b all pre M r) (hb : M ≤ pre.length) : all = pre := by
  obtain ⟨a', rest, _, h1, h2, h3, _⟩ := h
  rw [show M - pre.length = 0 by omega] at h3
  have h3 : rest = [] := h3
  rw [h2, h3, List.append_nil]
theorem rest_in {P : Int → Prop} {b t : Int} {all pre : List Int} {M : Nat} (h : RestOk P b all pre M (some t)) : 0 ≤ t ∧ t ≤ 253402300799 := by
  obtain ⟨a', rest, a0, h1, _⟩ := h
  have := h1.1
  have := h1.2.1
  omega
theorem rest_some {P : Int → Prop} {b t : Int} {all pre : List Int} {M : Nat} (h : RestOk P b all pre M (some t)) (hb : t ≤ b) (hM : pre.length < M) {r' : Option Int} (hr : Mat.Least P (t + 1) 253402300799 r') : RestOk P b all (pre ++ [t]) M r' := by
  have b0 := rest_in h
  obtain ⟨a', rest, a0, h1, h2, h3, _⟩ := h
  obtain ⟨k, hk⟩ : ∃ k, M - pre.length = k + 1 := ⟨M - pre.length - 1, by omega⟩
  rw [hk] at h3
  obtain ⟨r2, g1, g2⟩ := h3
  have e : r2 = some t := g1.uniq ⟨h1.1, hb, h1.2.2.1, h1.2.2.2⟩
  subst e
  obtain ⟨l', rfl, g3⟩ := g2
  refine ⟨t + 1, l', by omega, hr, by rw [h2]; simp, ?_, by simp; omega⟩
  have e2 : M - (pre ++ [t]).length = k := by simp; omega
  rw [e2]
  exact g3
set_option maxRecDepth 100000 in
set_option maxHeartbeats 4000000 in
theorem rlist_any (x : Exp.Ex) (hx : x.Bd) (z a b most : Int) (w : World) (L : LayM w) :
    Calls Tryd.prog 27 #[.agg #[.int .u64 x.a0, .int .u64 x.a1, .int .u64 x.a2, .int .u64 x.a3, .int .u64 x.a4, .int .u64 x.a5, .bool x.b3, .bool x.b5], .int .i64 z, .int .i64 a, .int .i64 b, .int .i64 most] w fun e W' => ∃ v, e = .returned (.tuple #[v, .int .i64 (errC x z [a, b])]) ∧ OwnT w v (listO x z a b most) W' := by
  obtain ⟨i0, hi, hz0, hz1, hz2⟩ := info_parts infoT
  have CK := Lib.hid (fun w0 R => rcheck_any x hx z (w.heap.size + 1) [a, b] (by simp) w0 R)
  have RW := Lib.hid (two_row x a b w)
  have LL := Lib.hid L
  by_cases h : errC x z [a, b] = 0
  · obtain ⟨hk, hz, ha, hb⟩ := errC_two h
    obtain ⟨M, hM⟩ : ∃ M, min most 100000 = M := ⟨_, rfl⟩
    have LO := listO_is most h
    obtain ⟨all, hall⟩ : ∃ all, listO x z a b most = all := ⟨_, rfl⟩
    rw [hall, hM] at LO
    rw [hall]
    have MB := Lib.hid (show M ≤ 100000 by omega)
    have FR := Lib.hid (fun (t : Int) (t0 : 0 ≤ t) (t1 : t ≤ 253402300800) (r : Option Int) (hr : Mat.Least (fun s => x.Lm (s + 60 * z)) t 253402300799 r) (w0 : World) => rfrom_any x hx z t hz.1 hz.2 t0 t1 r hr w0)
    obtain ⟨P, hP⟩ : ∃ P : Int → Prop, P = (fun s => x.Lm (s + 60 * z)) := ⟨_, rfl⟩
    rw [← hP] at LO FR
    obtain ⟨r0, hr0⟩ := Mat.least_ex P a 253402300799
    have F0 := Lib.hid (fun w0 => FR.out a (by omega) (by omega) r0 hr0 w0)
    have S0 : Hid (RestOk P b all [] M.toNat r0) := Lib.hid ⟨a, all, by omega, hr0, rfl, by simpa using LO, by simp⟩
    have BB := Lib.hid hb
    rw [h] at CK ⊢
    clear h hk hz ha hb hP LO hr0 hall L hx
    go_enter Tryd.func27, Tryd.ntmps27
    go_wp2_with fail
    refine (CK.out _ RW.out).mono ?_
    rintro e V ⟨rfl, hb⟩
    have Q := Lib.hid (BC.one LL.out hb)
    obtain ⟨y0, y1, y2, y3, y4, y5, y6, y7⟩ := Q.out.cells
    clear hb
    go_wp2_with fail
    refine (F0.out _).mono ?_
    rintro e V2 ⟨rfl, hb⟩
    have O0 := Lib.hid (show OwnT V (.slice none 0 0) [] V2 from (OwnT.nil V).next hb)
    have Q2 := Lib.hid (Q.out.next hb)
    clear hb
    go_wp2_with fail
    go_loopw [13, 14] (fun v c wr => ∃ (pre : List Int) (r : Option Int), c = .int .i64 (r.getD (-1)) ∧ Hid (OwnT V v pre wr) ∧ Hid (BC w x wr) ∧ Hid (RestOk P b all pre M.toNat r)) (fun v _ _ => M.toNat - lenV v)
    case atStart => exact ⟨[], r0, rfl, O0, Q2, S0⟩
    case round =>
      obtain ⟨pre, r, rfl, ho, hq, hs⟩ := hrel
      obtain ⟨va, vc, rfl⟩ := ho.out.len
      cases r with
      | none =>
        simp only [Option.getD_none]
        have HE : Hid (all = pre) := Lib.hid (rest_none hs.out BB.out.2)
        go_wp2_with fail
        go_ret2
        exact ⟨_, rfl, by rw [HE.out]; exact ho.out.base Q.out.be⟩
      | some t =>
        simp only [Option.getD_some]
        have tb := rest_in hs.out
        have q0 : decide (0 ≤ t) = true := decide_eq_true tb.1
        by_cases c1 : t ≤ b
        · have q1 : decide (t ≤ b) = true := decide_eq_true c1
          by_cases c2 : (pre.length : Int) < M
          · have q2 : decide ((pre.length : Int) < M) = true := by rw [decide_eq_true_iff]; exact c2
            obtain ⟨r', hr'⟩ := Mat.least_ex P (t + 1) 253402300799
            have F1 := Lib.hid (fun w0 => FR.out (t + 1) (by omega) (by omega) r' hr' w0)
            have S1 := Lib.hid (rest_some hs.out c1 (by omega) hr')
            have wt : IntKind.i64.wrap (t + 1) = t + 1 := by rw [IntKind.wrap_i64]; omega
            have HC := Lib.hid c2
            have mb := MB.out
            have hpl : pre.length ≤ M.toNat := by omega
            have hsz := ho.out.below.size
            clear c1 c2 tb hr'
            go_wp2_with (first
              | (at_builtin; refine wpList_append_own_at _ rfl (.tmp 47) (.tmp 49) 33 rfl V.heap.size 2 i0 (.int .i64 0) 1 8 Tryd.underlying33 hi hz0 hz1 hz2 rfl (by decide) _ pre.length _ rfl (ho.out.row.alloc _) ⟨wr.heap.size, 0, none⟩ 1 1 [.int .i64 t] rfl ?c1 ?c2 ?c3 ?c4 ?c5 ?c6 ?c7))
            case c1 => rfl
            case c2 => exact cell_one_new _ _ _
            case c3 => simp [Value.oneCell']
            case c4 => simp [maxLen]; omega
            case c5 => omega
            case c6 => simp; omega
            case c7 =>
              intro v1 w1 hown hgr _ _
              have h1 := ho.out.step hown hgr
              have H1 := Lib.hid h1
              have HBC := Lib.hid (show BC w x w1 from Q.out.next h1.below)
              obtain ⟨y0, y1, y2, y3, y4, y5, y6, y7⟩ := HBC.out.cells
              clear h1 hown hgr
              go_wp2_with fail
              refine (F1.out _).mono ?_
              rintro e V3 ⟨rfl, hb⟩
              have H2 := Lib.hid (H1.out.next hb)
              have HB2 := Lib.hid (HBC.out.next hb)
              clear hb
              go_wp2_with fail
              go_roundw
              case rel => exact ⟨pre ++ [t], r', rfl, H2, HB2, S1⟩
              case measure =>
                obtain ⟨a1, c1, e1⟩ := H1.out.len
                have hc := HC.out
                rw [e1]
                simp [lenV]
                omega
          · have q2 : decide ((pre.length : Int) < M) = false := by rw [decide_eq_false_iff_not]; exact c2
            have HE : Hid (all = pre) := Lib.hid (rest_full hs.out (by omega))
            clear c1 c2 tb
            go_wp2_with fail
            go_ret2
            exact ⟨_, rfl, by rw [HE.out]; exact ho.out.base Q.out.be⟩
        · have q1 : decide (t ≤ b) = false := decide_eq_false c1
          have HE : Hid (all = pre) := Lib.hid (rest_far hs.out (by omega))
          clear c1 tb
          go_wp2_with fail
          go_ret2
          exact ⟨_, rfl, by rw [HE.out]; exact ho.out.base Q.out.be⟩
  · have DO : Hid (listO x z a b most = []) := Lib.hid (by unfold listO; rw [if_neg h])
    obtain ⟨E, hE⟩ : ∃ E, errC x z [a, b] = E := ⟨_, rfl⟩
    rw [hE] at h CK ⊢
    have t1 : (E != 0) = true := by rw [bne_iff_ne]; exact h
    clear h hE L hx
    go_enter Tryd.func27, Tryd.ntmps27
    go_wp2_with fail
    refine (CK.out _ RW.out).mono ?_
    rintro e V ⟨rfl, hb⟩
    have Q := Lib.hid (BC.one LL.out hb)
    clear hb
    go_wp2_with fail
    go_ret2
    exact ⟨_, rfl, by rw [DO.out]; exact ⟨World.ownsRow_nil _ _ _ _, Q.out.be⟩⟩
end Go.Proofs.YtbehendogcghjaaDoor
