/- Contract of the document's Merge: the times that only the second list has are put into the first, one after the other. -/
import Derived.Test.YtihbpbdcpnpiaaaGapL
namespace Go.Proofs.Ytihbpbdcpnpiaaa
open Go.ChangeShapes Go.RowKit

/-- what lies in the row as far as some of the times are put in -/
structure Put (a y L : List Int) (k : Nat) : Prop where
  inc : Gp.Inc L
  mem : ∀ t, t ∈ L ↔ t ∈ a ∨ t ∈ y.take k
  len : L.length = a.length + k
theorem Put.new {a y L : List Int} {k : Nat} (h : Put a y L k) (hy : Gp.Inc y) (dis : ∀ t ∈ y, t ∉ a) (hk : k < y.length) : y.getD k 0 ∉ L := by
  intro m
  rcases (h.mem _).1 m with m | m
  · exact dis _ (Gp.getD_mem hk) m
  · obtain ⟨i, hi, e⟩ := Gp.mem_getD m
    have hi' : i < k := by simp at hi; omega
    have := hy.lt hi' hk
    have e2 : (y.take k).getD i 0 = y.getD i 0 := by simp [List.getD_eq_getElem?_getD, hi']
    omega
theorem take_snoc (l : List Int) (k : Nat) (h : k < l.length) : l.take (k + 1) = l.take k ++ [l.getD k 0] := by
  rw [List.take_succ_eq_append_getElem h]; simp [h]
theorem Put.step {a y L p q : List Int} {k : Nat} (h : Put a y L k) (hk : k < y.length) (e : p ++ q = L) (h1 : ∀ u ∈ p, u < y.getD k 0) (h2 : ∀ u ∈ q, y.getD k 0 < u) : Put a y (p ++ y.getD k 0 :: q) (k + 1) := by
  subst e
  refine ⟨Gp.inc_ins h.inc h1 h2, fun t => ?_, ?_⟩
  · rw [take_snoc y k hk]
    have := h.mem t
    simp only [List.mem_append, List.mem_cons, List.not_mem_nil, or_false] at this ⊢
    constructor
    · rintro (m | m | m)
      · rcases this.1 (.inl m) with m | m
        · exact .inl m
        · exact .inr (.inl m)
      · exact .inr (.inr m)
      · rcases this.1 (.inr m) with m | m
        · exact .inl m
        · exact .inr (.inl m)
    · rintro (m | m | m)
      · rcases this.2 (.inl m) with m | m
        · exact .inl m
        · exact .inr (.inr m)
      · rcases this.2 (.inr m) with m | m
        · exact .inl m
        · exact .inr (.inr m)
      · exact .inr (.inl m)
  · have := h.len
    simp at this ⊢
    omega
theorem Put.start (a y : List Int) (h : Gp.Inc a) : Put a y a 0 := ⟨h, fun t => by simp, by simp⟩
theorem Put.stop {a b L : List Int} {k : Nat} (ha : Gp.Inc a) (hb : Gp.Inc b) (h : Put a (Gp.minus b a) L k) (hk : (Gp.minus b a).length ≤ k) : L = Gp.ms a b := by
  refine h.inc.uniq (Gp.inc_ms ha hb) fun t => ?_
  rw [h.mem, Gp.mem_ms ha hb, List.take_of_length_le hk]
  unfold Gp.minus
  simp
  constructor
  · rintro (m | m)
    · exact .inl m
    · exact .inr m.1
  · intro m
    by_cases c : t ∈ a
    · exact .inl c
    · rcases m with m | m
      · exact absurd m c
      · exact .inr ⟨m, c⟩
open Classical in
/-- the merged list, or none -/
noncomputable def rmergeO (a b : List Int) : List Int := if Gp.errL [a, b] = 0 then Gp.ms a b else []
theorem set_swap (p q : List Int) (z t : Int) : (((p ++ z :: t :: q).map (Value.int .i64 ·)).set p.length (.int .i64 t)).set (p.length + 1) (.int .i64 z) = (p ++ t :: z :: q).map (Value.int .i64 ·) := by
  simp
theorem TwoT.swapped {w W : World} {g n cap : Nat} {v : Value} {p q lv : List Int} {z t : Int} (h : TwoT w (.slice (some ⟨g, 0, none⟩) n cap) v (p ++ z :: t :: q) lv W) :
    TwoT w (.slice (some ⟨g, 0, none⟩) n cap) v (p ++ t :: z :: q) lv ((W.setCell ⟨g, p.length, none⟩ (.int .i64 t)).setCell ⟨g, p.length + 1, none⟩ (.int .i64 z)) := by
  have hn : n = (p ++ z :: t :: q).length := by
    rcases h.up.2 with ⟨e, _⟩ | ⟨_, _, _, e, _⟩
    · simp at e
    · simp at e ⊢; omega
  subst hn
  have s1 := h.up.stored p.length (.int .i64 t)
  have s2 := s1.1.stored (p.length + 1) (.int .i64 z)
  have nb : v.ownBlock = none ∨ v.ownBlock ≠ some g := .inr (h.apart g rfl)
  have hg : w.heap.size ≤ g := (h.up.lt g rfl).1
  refine ⟨?_, (h.down.kept s1.2 nb).kept s2.2 nb, h.apart, (h.below.setCell (p := ⟨g, p.length, none⟩) hg _).setCell (p := ⟨g, p.length + 1, none⟩) hg _⟩
  have e : (p ++ t :: z :: q).length = (p ++ z :: t :: q).length := by simp
  rw [e, ← set_swap]
  exact s2.1
theorem TwoT.drewN {w W : World} {u v : Value} {lu lv : List Int} (h : TwoT w u v lu lv W) (n : Nat) : TwoT w u v lu lv (W.drewN n) := ⟨h.up, h.down, h.apart, below_drewN h.below n⟩
theorem TwoT.drew {w W : World} {u v : Value} {lu lv : List Int} (h : TwoT w u v lu lv W) : TwoT w u v lu lv W.drew := ⟨h.up, h.down, h.apart, h.below.drew⟩
theorem TwoT.row {w W : World} {u v : Value} {lu lv : List Int} (h : TwoT w u v lu lv W) (h0 : 0 < lu.length) : ∃ g cap, u = .slice (some ⟨g, 0, none⟩) lu.length cap := by
  rcases h.up.2 with ⟨_, e⟩ | ⟨g, cap, cur, e, _⟩
  · omega
  · exact ⟨g, cap, e⟩
theorem TwoT.frozen {w W : World} {g n cap : Nat} {v : Value} {lu lv : List Int} (h : TwoT w (.slice (some ⟨g, 0, none⟩) n cap) v lu lv W) (hn : n = lu.length) (j : Nat) : W.frozen? ⟨g, j, none⟩ = false := by
  subst hn
  exact h.up.frozenAt j
theorem TwoT.cell {w W : World} {g n cap : Nat} {v : Value} {lu lv : List Int} (h : TwoT w (.slice (some ⟨g, 0, none⟩) n cap) v lu lv W) (hn : n = lu.length) (j : Nat) (hj : j < n) : W.cell? ⟨g, j, none⟩ = some (.int .i64 (lu.getD j 0)) := by
  subst hn
  rw [h.up.cellAt j (by omega)]
  simp [hj]

set_option maxRecDepth 100000 in
set_option maxHeartbeats 8000000 in
theorem rmerge_any (va vb : Value) (a b : List Int) (w : World) (ha : RowT w va a) (hb : RowT w vb b) :
    Calls Try.prog 29 #[va, vb] w fun e w' => ∃ u, e = .returned (.tuple #[u, .int .i64 (Gp.errL [a, b])]) ∧ OwnT w u (rmergeO a b) w' := by
  obtain ⟨i0, hi, hz0, hz1, hz2⟩ := info_parts infoT
  have ON := Lib.hid (ronly_any va vb a b w ha hb)
  have RA := Lib.hid ha
  have LA := ha.1
  have LB := hb.1
  obtain ⟨_, A2, cap2, rfl, _⟩ := hb
  unfold onlyO onlyO2 at ON
  unfold rmergeO
  obtain ⟨r, hr⟩ : ∃ r, Gp.errL [a, b] = r := ⟨_, rfl⟩
  by_cases z : r = 0
  · subst z
    have TA := Lib.hid (Gp.errL_tl hr a (by simp))
    have TB := Lib.hid (Gp.errL_tl hr b (by simp))
    rw [hr, if_pos rfl, if_pos rfl] at ON
    rw [hr, if_pos rfl]
    have YI := Lib.hid (show Gp.Inc (Gp.minus b a) from TB.out.inc.filter _)
    have YD := Lib.hid (show ∀ t ∈ Gp.minus b a, t ∉ a from fun t m => by unfold Gp.minus at m; simpa using (List.mem_filter.1 m).2)
    have YL := minus_len b a
    have STOP := Lib.hid (fun L k (h : Put a (Gp.minus b a) L k) hk => h.stop TA.out.inc TB.out.inc hk)
    have ST := Lib.hid (Put.start a (Gp.minus b a) TA.out.inc)
    obtain ⟨y, hy⟩ : ∃ y, Gp.minus b a = y := ⟨_, rfl⟩
    rw [hy] at ON YI YD YL STOP ST
    clear hy hr
    obtain ⟨_, A1, cap1, rfl, cells⟩ := ha
    cases A1 with
    | none =>
      have e : a = [] := by
        cases a with
        | nil => rfl
        | cons x l => obtain ⟨b, o, q, _⟩ := cells 0 (by simp); simp at q
      clear cells
      subst e
      go_enter Try.func29, Try.ntmps29
      go_wp2_with fail
      refine ON.out.mono ?_
      rintro e V ⟨u, v, rfl, ho⟩
      have HT := Lib.hid ho
      obtain ⟨cu, pu, rfl⟩ := ho.ownU.len
      obtain ⟨cv, pv, rfl⟩ := ho.ownV.len
      have VS := ho.below.size
      clear ho
      go_wp2_with fail
      have H0 : Hid (TwoT w (.slice (some ⟨V.heap.size, 0, none⟩) 0 0) (.slice cv y.length pv) [] y (V.alloc (.cells #[] 2))) := Lib.hid (by
        refine ⟨ownsRow_base (World.ownsRow_made V #[] 0 (Nat.le_refl _) (by decide) rfl) VS, HT.out.down.alloc _, fun g e1 e2 => ?_, HT.out.below.alloc VS _⟩
        have := (HT.out.down.lt g e2).2
        simp [Value.ownBlock] at e1
        omega)
      go_loopw [9, 10] (fun ov iv wr => ∃ (k : Nat) (L : List Int), k ≤ y.length ∧ iv = .int .i64 k ∧ Hid (TwoT w ov (.slice cv y.length pv) L y wr) ∧ Hid (Put ([] : List Int) y L k)) (fun _ iv _ => y.length - (intOf iv).toNat)
      case atStart => exact ⟨0, ([] : List Int), by omega, rfl, H0, ST⟩
      case round =>
        obtain ⟨k, L, hk, rfl, ho, hp⟩ := hrel
        have LL : L.length ≤ 2000000 := by have := hp.out.len; have : ([] : List Int).length ≤ 1000000 := LA; omega
        by_cases lt : k < y.length
        · have e0 : decide ((k : Int) < (y.length : Int)) = true := by rw [decide_eq_true_iff]; omega
          have wi : IntKind.i64.wrap ((k : Int) + 1) = (k : Int) + 1 := by rw [IntKind.wrap_i64]; omega
          obtain ⟨_, A', cap', e1, cells⟩ := ho.out.ownV.rowT (by have := YL; omega)
          obtain ⟨b1, o1, e2, c2⟩ := cells k lt
          cases e1
          subst e2
          have NEW := Lib.hid (hp.out.new YI.out YD.out lt)
          have STEP := Lib.hid (fun p q e h1 h2 => hp.out.step (p := p) (q := q) lt e h1 h2)
          obtain ⟨t, ht⟩ : ∃ t, y.getD k 0 = t := ⟨_, rfl⟩
          rw [ht] at c2 NEW STEP
          have LI := Lib.hid hp.out.inc
          clear ht cells hp
          obtain ⟨ca, pa, rfl⟩ := ho.out.ownU.len
          have hs := ho.out.below.size
          go_wp2_with (at_builtin; refine wpList_append_own_at _ rfl (.tmp 31) (.tmp 36) 22 rfl w.heap.size 2 i0 (.int .i64 0) 1 8 Try.underlying22 hi hz0 hz1 hz2 rfl (by decide) _ L.length _ rfl (ho.out.up.alloc _) ⟨wr.heap.size, 0, none⟩ 1 1 [.int .i64 t] rfl ?d1 ?d2 ?d3 ?d4 ?d5 ?d6 ?d7)
          case d1 => rfl
          case d2 => exact cell_one_new _ _ _
          case d3 => simp [Value.oneCell']
          case d4 => simp [maxLen]; omega
          case d5 => omega
          case d6 => simp; omega
          case d7 =>
            intro v1 w1 hown hg _ hat
            have H1 := Lib.hid (ho.out.stepU hown hg hat)
            obtain ⟨g, pg, rfl⟩ := H1.out.row (by simp)
            have NL : (L ++ [t]).length = L.length + 1 := by simp
            rw [NL] at H1 ⊢
            have wl : IntKind.i64.wrap (((L.length + 1 : Nat) : Int) - 1) = (L.length : Int) := by rw [IntKind.wrap_i64]; omega
            have wl2 : IntKind.i64.wrap (L.length : Int) = (L.length : Int) := by rw [IntKind.wrap_i64]; omega
            clear hown hg hat ho
            go_wp2_with fail
            go_loopw [11] (fun kv wr => ∃ (p q : List Int), kv = .int .i64 p.length ∧ Hid (p ++ q = L ∧ ∀ u ∈ q, t < u) ∧ Hid (TwoT w (.slice (some ⟨g, 0, none⟩) (L.length + 1) pg) (.slice (some ⟨b1, o1, none⟩) y.length pv) (p ++ t :: q) y wr)) (fun kv _ => (intOf kv).toNat)
            case atStart => exact ⟨L, [], rfl, Lib.hid ⟨by simp, by simp⟩, H1⟩
            case round =>
              obtain ⟨p, q, rfl, hpq, ho⟩ := hrel
              rcases List.eq_nil_or_concat p with rfl | ⟨p', z, rfl⟩
              · have N := Lib.hid (STEP.out [] q hpq.out.1 (by simp) hpq.out.2)
                have H9 := Lib.hid (fun nq => (ho.out.drewN nq))
                have f0 : (([] : List Int).length : Int) = 0 := rfl
                clear ho hpq
                go_wp2_with fail
                go_quiet (fail)
                go_wp2_with fail
                go_roundw
                case rel => exact ⟨k + 1, _, by omega, by go_num, H9.out _, N⟩
                case measure => simp [intOf]; omega
              · obtain ⟨m, hm⟩ : ∃ m, p'.length = m := ⟨_, rfl⟩
                have PL : (p'.concat z).length = m + 1 := by simp [hm]
                have TL : (p'.concat z ++ t :: q) = p' ++ z :: t :: q := by simp
                have hl : m + 1 ≤ L.length := by
                  have := congrArg List.length hpq.out.1
                  simp at this
                  omega
                have HM := Lib.hid hm
                rw [TL] at ho
                have hn1 : L.length + 1 = (p' ++ z :: t :: q).length := by
                  have := congrArg List.length hpq.out.1
                  simp at this ⊢
                  omega
                have c3 := ho.out.cell hn1 m (by omega)
                have c4 := ho.out.cell hn1 (m + 1) (by omega)
                rw [show (p' ++ z :: t :: q).getD m 0 = z by rw [← hm]; simp] at c3
                rw [show (p' ++ z :: t :: q).getD (m + 1) 0 = t by rw [← hm]; simp [List.getD_eq_getElem?_getD]] at c4
                have f3 := ho.out.frozen hn1 m
                have f4 := ho.out.frozen hn1 (m + 1)
                rw [PL]
                have wm : IntKind.i64.wrap (m : Int) = (m : Int) := by rw [IntKind.wrap_i64]; omega
                have q0 : (0 : Int) < (m : Int) + 1 := by omega
                have q1 : (0 : Int) ≤ (m : Int) + 1 := by omega
                have q2 : m < L.length + 1 := by omega
                have q3 : m + 1 < L.length + 1 := by omega
                have q4 : (m : Int) + 1 < (L.length : Int) + 1 := by omega
                have q5 : (m : Int) < (L.length : Int) + 1 := by omega
                have HQ := Lib.hid hpq.out
                clear hm PL TL hpq hn1
                by_cases c : t < z
                · have d1 : decide (t < z) = true := decide_eq_true c
                  have C9 := Lib.hid c
                  have H9 := Lib.hid (fun W2 (e : W2 = wr) => e ▸ ho.out)
                  clear c
                  go_wp2_with fail
                  go_quiet (fail)
                  obtain ⟨W2, hW2⟩ : ∃ W2, wr.drewN nq = W2 := ⟨_, rfl⟩
                  have H2 : Hid (TwoT w (.slice (some ⟨g, 0, none⟩) (L.length + 1) pg) (.slice (some ⟨b1, o1, none⟩) y.length pv) (p' ++ z :: t :: q) y W2) := Lib.hid (by rw [← hW2]; exact ho.out.drewN nq)
                  replace c3 : W2.cell? ⟨g, m, none⟩ = some (.int .i64 z) := by rw [← hW2]; exact c3
                  replace c4 : W2.cell? ⟨g, m + 1, none⟩ = some (.int .i64 t) := by rw [← hW2]; exact c4
                  replace f3 : W2.frozen? ⟨g, m, none⟩ = false := by rw [← hW2]; exact f3
                  replace f4 : W2.frozen? ⟨g, m + 1, none⟩ = false := by rw [← hW2]; exact f4
                  rw [hW2]
                  clear ho H9 hW2
                  go_wp2_with fail
                  go_region
                  all_goals
                    go_wp2_with fail
                    go_roundw
                    case rel => exact ⟨p', z :: q, by rw [HM.out], Lib.hid ⟨by rw [← HQ.out.1]; simp, fun u m => by
                      rcases List.mem_cons.1 m with e | m
                      · rw [e]; exact C9.out
                      · exact HQ.out.2 u m⟩, Lib.hid (by have := H2.out.drew.swapped; rw [HM.out] at this; exact this)⟩
                    case measure => simp [intOf] <;> omega
                · have d1 : decide (t < z) = false := decide_eq_false c
                  have N := Lib.hid (STEP.out (p'.concat z) q HQ.out.1 (fun u hu => by
                    have i2 := LI.out
                    rw [← HQ.out.1] at i2
                    have zL : z ∈ L := by rw [← HQ.out.1]; simp
                    have nz : z ≠ t := fun e => NEW.out (by rw [← e]; exact zL)
                    rw [List.concat_eq_append] at hu i2
                    rcases List.mem_append.1 hu with m | m
                    · have := (List.pairwise_append.1 (List.pairwise_append.1 i2).1).2.2 u m z (by simp)
                      omega
                    · obtain rfl : u = z := by simpa using m
                      omega) HQ.out.2)
                  have H9 := Lib.hid (fun nq => (ho.out.drewN nq))
                  clear c ho
                  go_wp2_with fail
                  go_quiet (fail)
                  go_wp2_with fail
                  go_roundw
                  case rel => exact ⟨k + 1, _, by omega, by go_num, H9.out _, by have := N.out; rw [List.concat_eq_append, List.append_assoc] at this; exact Lib.hid this⟩
                  case measure => simp [intOf]; omega
        · have e0 : decide ((k : Int) < (y.length : Int)) = false := by rw [decide_eq_false_iff_not]; omega
          have E := Lib.hid (STOP.out L k hp.out (by omega))
          go_wp2_with fail
          go_ret2
          exact ⟨_, rfl, by rw [← E.out]; exact ho.out.ownU⟩
    | some ad =>
      have CC := Lib.hid cells
      clear cells
      go_enter Try.func29, Try.ntmps29
      go_wp2_with fail
      refine ON.out.mono ?_
      rintro e V ⟨u, v, rfl, ho⟩
      have HT := Lib.hid ho
      obtain ⟨cu, pu, rfl⟩ := ho.ownU.len
      obtain ⟨cv, pv, rfl⟩ := ho.ownV.len
      have VS := ho.below.size
      clear ho
      go_wp2_with (at_builtin; refine wpList_append_own_at _ rfl (.tmp 22) (.tmp 23) 22 rfl V.heap.size 2 i0 (.int .i64 0) 1 8 Try.underlying22 hi hz0 hz1 hz2 rfl (by decide) _ 0 [] rfl (World.ownsRow_made V #[] 0 (Nat.le_refl _) (Nat.zero_le _) rfl) ad a.length cap1 (a.map (.int .i64 ·)) rfl ?c1 ?c2 ?c3 ?c4 ?c5 ?c6 ?c7)
      case c1 => simp
      case c2 =>
        intro j u hj
        have hjn : j < a.length := by
          have := (List.getElem?_eq_some_iff.1 hj).1
          simpa using this
        obtain ⟨b, o, e, c2⟩ := CC.out j hjn
        cases e
        rw [add_flat, ((Below.refl V.heap.size V).alloc (Nat.le_refl _) _).cell (p := ⟨b, o + j, none⟩) (Nat.lt_of_lt_of_le (lt_of_cell c2) VS), HT.out.below.cell (p := ⟨b, o + j, none⟩) (lt_of_cell c2), c2]
        rw [← hj]
        simp [hjn]
      case c3 => intro u hu; obtain ⟨x, _, rfl⟩ := List.mem_map.1 hu; rfl
      case c4 => unfold maxLen; omega
      case c5 => omega
      case c6 => simp
      case c7 =>
        intro v' W1 hown hg _ hat
        have H0 : Hid (TwoT w v' (.slice cv y.length pv) a y W1) := Lib.hid (by
          refine ⟨ownsRow_base (by simpa using hown) VS, (HT.out.down.alloc _).kept hg ?_, fun g e1 e2 => ?_, (HT.out.below.alloc VS _).grown hg (by simp; omega) (by intro k hk; simp [Value.ownBlock] at hk; omega)⟩
          · refine .inr fun e => ?_
            have := (HT.out.down.lt V.heap.size (by rw [e]; rfl)).2
            omega
          · have := (HT.out.down.lt g e2).2
            rcases hat with e | e
            · rw [e] at e1; simp [Value.ownBlock] at e1; omega
            · rw [e] at e1; simp at e1; omega)
        clear hown hg hat
        go_wp2_with fail
        go_loopw [9, 10] (fun ov iv wr => ∃ (k : Nat) (L : List Int), k ≤ y.length ∧ iv = .int .i64 k ∧ Hid (TwoT w ov (.slice cv y.length pv) L y wr) ∧ Hid (Put a y L k)) (fun _ iv _ => y.length - (intOf iv).toNat)
        case atStart => exact ⟨0, a, by omega, rfl, H0, ST⟩
        case round =>
          obtain ⟨k, L, hk, rfl, ho, hp⟩ := hrel
          have LL : L.length ≤ 2000000 := by have := hp.out.len; have : a.length ≤ 1000000 := LA; omega
          by_cases lt : k < y.length
          · have e0 : decide ((k : Int) < (y.length : Int)) = true := by rw [decide_eq_true_iff]; omega
            have wi : IntKind.i64.wrap ((k : Int) + 1) = (k : Int) + 1 := by rw [IntKind.wrap_i64]; omega
            obtain ⟨_, A', cap', e1, cells⟩ := ho.out.ownV.rowT (by have := YL; omega)
            obtain ⟨b1, o1, e2, c2⟩ := cells k lt
            cases e1
            subst e2
            have NEW := Lib.hid (hp.out.new YI.out YD.out lt)
            have STEP := Lib.hid (fun p q e h1 h2 => hp.out.step (p := p) (q := q) lt e h1 h2)
            obtain ⟨t, ht⟩ : ∃ t, y.getD k 0 = t := ⟨_, rfl⟩
            rw [ht] at c2 NEW STEP
            have LI := Lib.hid hp.out.inc
            clear ht cells hp
            obtain ⟨ca, pa, rfl⟩ := ho.out.ownU.len
            have hs := ho.out.below.size
            go_wp2_with (at_builtin; refine wpList_append_own_at _ rfl (.tmp 31) (.tmp 36) 22 rfl w.heap.size 2 i0 (.int .i64 0) 1 8 Try.underlying22 hi hz0 hz1 hz2 rfl (by decide) _ L.length _ rfl (ho.out.up.alloc _) ⟨wr.heap.size, 0, none⟩ 1 1 [.int .i64 t] rfl ?d1 ?d2 ?d3 ?d4 ?d5 ?d6 ?d7)
            case d1 => rfl
            case d2 => exact cell_one_new _ _ _
            case d3 => simp [Value.oneCell']
            case d4 => simp [maxLen]; omega
            case d5 => omega
            case d6 => simp; omega
            case d7 =>
              intro v1 w1 hown hg _ hat
              have H1 := Lib.hid (ho.out.stepU hown hg hat)
              obtain ⟨g, pg, rfl⟩ := H1.out.row (by simp)
              have NL : (L ++ [t]).length = L.length + 1 := by simp
              rw [NL] at H1 ⊢
              have wl : IntKind.i64.wrap (((L.length + 1 : Nat) : Int) - 1) = (L.length : Int) := by rw [IntKind.wrap_i64]; omega
              have wl2 : IntKind.i64.wrap (L.length : Int) = (L.length : Int) := by rw [IntKind.wrap_i64]; omega
              clear hown hg hat ho
              go_wp2_with fail
              go_loopw [11] (fun kv wr => ∃ (p q : List Int), kv = .int .i64 p.length ∧ Hid (p ++ q = L ∧ ∀ u ∈ q, t < u) ∧ Hid (TwoT w (.slice (some ⟨g, 0, none⟩) (L.length + 1) pg) (.slice (some ⟨b1, o1, none⟩) y.length pv) (p ++ t :: q) y wr)) (fun kv _ => (intOf kv).toNat)
              case atStart => exact ⟨L, [], rfl, Lib.hid ⟨by simp, by simp⟩, H1⟩
              case round =>
                obtain ⟨p, q, rfl, hpq, ho⟩ := hrel
                rcases List.eq_nil_or_concat p with rfl | ⟨p', z, rfl⟩
                · have N := Lib.hid (STEP.out [] q hpq.out.1 (by simp) hpq.out.2)
                  have H9 := Lib.hid (fun nq => (ho.out.drewN nq))
                  have f0 : (([] : List Int).length : Int) = 0 := rfl
                  clear ho hpq
                  go_wp2_with fail
                  go_quiet (fail)
                  go_wp2_with fail
                  go_roundw
                  case rel => exact ⟨k + 1, _, by omega, by go_num, H9.out _, N⟩
                  case measure => simp [intOf]; omega
                · obtain ⟨m, hm⟩ : ∃ m, p'.length = m := ⟨_, rfl⟩
                  have PL : (p'.concat z).length = m + 1 := by simp [hm]
                  have TL : (p'.concat z ++ t :: q) = p' ++ z :: t :: q := by simp
                  have hl : m + 1 ≤ L.length := by
                    have := congrArg List.length hpq.out.1
                    simp at this
                    omega
                  have HM := Lib.hid hm
                  rw [TL] at ho
                  have hn1 : L.length + 1 = (p' ++ z :: t :: q).length := by
                    have := congrArg List.length hpq.out.1
                    simp at this ⊢
                    omega
                  have c3 := ho.out.cell hn1 m (by omega)
                  have c4 := ho.out.cell hn1 (m + 1) (by omega)
                  rw [show (p' ++ z :: t :: q).getD m 0 = z by rw [← hm]; simp] at c3
                  rw [show (p' ++ z :: t :: q).getD (m + 1) 0 = t by rw [← hm]; simp [List.getD_eq_getElem?_getD]] at c4
                  have f3 := ho.out.frozen hn1 m
                  have f4 := ho.out.frozen hn1 (m + 1)
                  rw [PL]
                  have wm : IntKind.i64.wrap (m : Int) = (m : Int) := by rw [IntKind.wrap_i64]; omega
                  have q0 : (0 : Int) < (m : Int) + 1 := by omega
                  have q1 : (0 : Int) ≤ (m : Int) + 1 := by omega
                  have q2 : m < L.length + 1 := by omega
                  have q3 : m + 1 < L.length + 1 := by omega
                  have q4 : (m : Int) + 1 < (L.length : Int) + 1 := by omega
                  have q5 : (m : Int) < (L.length : Int) + 1 := by omega
                  have HQ := Lib.hid hpq.out
                  clear hm PL TL hpq hn1
                  by_cases c : t < z
                  · have d1 : decide (t < z) = true := decide_eq_true c
                    have C9 := Lib.hid c
                    have H9 := Lib.hid (fun W2 (e : W2 = wr) => e ▸ ho.out)
                    clear c
                    go_wp2_with fail
                    go_quiet (fail)
                    obtain ⟨W2, hW2⟩ : ∃ W2, wr.drewN nq = W2 := ⟨_, rfl⟩
                    have H2 : Hid (TwoT w (.slice (some ⟨g, 0, none⟩) (L.length + 1) pg) (.slice (some ⟨b1, o1, none⟩) y.length pv) (p' ++ z :: t :: q) y W2) := Lib.hid (by rw [← hW2]; exact ho.out.drewN nq)
                    replace c3 : W2.cell? ⟨g, m, none⟩ = some (.int .i64 z) := by rw [← hW2]; exact c3
                    replace c4 : W2.cell? ⟨g, m + 1, none⟩ = some (.int .i64 t) := by rw [← hW2]; exact c4
                    replace f3 : W2.frozen? ⟨g, m, none⟩ = false := by rw [← hW2]; exact f3
                    replace f4 : W2.frozen? ⟨g, m + 1, none⟩ = false := by rw [← hW2]; exact f4
                    rw [hW2]
                    clear ho H9 hW2
                    go_wp2_with fail
                    go_region
                    all_goals
                      go_wp2_with fail
                      go_roundw
                      case rel => exact ⟨p', z :: q, by rw [HM.out], Lib.hid ⟨by rw [← HQ.out.1]; simp, fun u m => by
                        rcases List.mem_cons.1 m with e | m
                        · rw [e]; exact C9.out
                        · exact HQ.out.2 u m⟩, Lib.hid (by have := H2.out.drew.swapped; rw [HM.out] at this; exact this)⟩
                      case measure => simp [intOf] <;> omega
                  · have d1 : decide (t < z) = false := decide_eq_false c
                    have N := Lib.hid (STEP.out (p'.concat z) q HQ.out.1 (fun u hu => by
                      have i2 := LI.out
                      rw [← HQ.out.1] at i2
                      have zL : z ∈ L := by rw [← HQ.out.1]; simp
                      have nz : z ≠ t := fun e => NEW.out (by rw [← e]; exact zL)
                      rw [List.concat_eq_append] at hu i2
                      rcases List.mem_append.1 hu with m | m
                      · have := (List.pairwise_append.1 (List.pairwise_append.1 i2).1).2.2 u m z (by simp)
                        omega
                      · obtain rfl : u = z := by simpa using m
                        omega) HQ.out.2)
                    have H9 := Lib.hid (fun nq => (ho.out.drewN nq))
                    clear c ho
                    go_wp2_with fail
                    go_quiet (fail)
                    go_wp2_with fail
                    go_roundw
                    case rel => exact ⟨k + 1, _, by omega, by go_num, H9.out _, by have := N.out; rw [List.concat_eq_append, List.append_assoc] at this; exact Lib.hid this⟩
                    case measure => simp [intOf]; omega
          · have e0 : decide ((k : Int) < (y.length : Int)) = false := by rw [decide_eq_false_iff_not]; omega
            have E := Lib.hid (STOP.out L k hp.out (by omega))
            go_wp2_with fail
            go_ret2
            exact ⟨_, rfl, by rw [← E.out]; exact ho.out.ownU⟩
  · have d1 : (r != 0) = true := by rw [bne_iff_ne]; exact z
    rw [hr, if_neg z, if_neg z] at ON
    rw [hr, if_neg z]
    clear hr z RA
    obtain ⟨_, A1, cap1, rfl, _⟩ := ha
    go_enter Try.func29, Try.ntmps29
    go_wp2_with fail
    refine ON.out.mono ?_
    rintro e V ⟨u, v, rfl, ho⟩
    have HT := Lib.hid ho
    obtain ⟨cu, pu, rfl⟩ := ho.ownU.len
    obtain ⟨cv, pv, rfl⟩ := ho.ownV.len
    clear ho
    go_wp2_with fail
    go_ret2
    exact ⟨_, rfl, .nil HT.out.below⟩
end Go.Proofs.Ytihbpbdcpnpiaaa
