/- The document's program of blackout: borders, wanted, result. -/
import Derived.Test.YtodjipbkeddbcaaBlkF
import Derived.Deep.RegionLaw
import Derived.WalkSmall
namespace Go.Proofs.Ytodjipbkeddbcaa
open Go.ChangeShapes Go.RowKit

theorem bords_take {l : List (Int × Int)} {k : Nat} (h : k < l.length) : Bk.bords (l.take (k + 1)) [] = Bk.ins (Bk.ins (Bk.bords (l.take k) []) (l.getD k (0, 0)).1) ((l.getD k (0, 0)).2 + 1) := by
  rw [← Bk.bords_snoc, List.take_add_one]
  simp [h]
set_option maxRecDepth 100000 in
set_option maxHeartbeats 4000000 in
theorem rborders_any (v : Value) (l : List (Int × Int)) (hl : l.length ≤ 200) (ok : Bk.OkS l) (w : World) (h : RowS w v l) :
    Calls Try.prog 55 #[v] w fun e w' => ∃ u, e = .returned u ∧ RowI w' u (Bk.bords l []) ∧ Below w.heap.size w w' := by
  have HR := Lib.hid h
  have OK := Lib.hid ok
  obtain ⟨A, cap, rfl⟩ := h.len
  clear h ok
  go_enter Try.func55, Try.ntmps55
  go_wp2_with fail
  go_loopw [3, 4] (fun ov iv wr => ∃ (k : Nat) (v : Value), k ≤ l.length ∧ iv = .int .i64 k ∧ v = ov ∧ Hid (RowI wr v (Bk.bords (l.take k) [])) ∧ Hid (Below w.heap.size w wr)) (fun _ iv _ => l.length - (intOf iv).toNat)
  case atStart => exact ⟨0, _, by omega, rfl, rfl, Lib.hid (RowI.nil w), Lib.hid (Below.refl _ _)⟩
  case round =>
    obtain ⟨k, v, hk, rfl, rfl, hr, hb⟩ := hrel
    by_cases lt : k < l.length
    · have e0 : decide ((k : Int) < (l.length : Int)) = true := by rw [decide_eq_true_iff]; omega
      have wk : IntKind.i64.wrap ((k : Int) + 1) = (k : Int) + 1 := by rw [IntKind.wrap_i64]; omega
      have NX := Lib.hid (fun W (q : Below w.heap.size w W) => (HR.out.below q).at lt)
      obtain ⟨b, o, e1, c1, c2⟩ := NX.out wr hb.out
      subst e1
      have OX := okS_at OK.out lt
      have BT := Lib.hid (bords_take lt)
      have BL := Bk.bords_len (l.take k) []
      simp only [List.length_nil, List.length_take, Nat.zero_add] at BL
      obtain ⟨x, hx⟩ : ∃ x, l.getD k (0, 0) = x := ⟨_, rfl⟩
      rw [hx] at c1 c2 OX BT NX
      obtain ⟨x1, x2⟩ := x
      simp only at c1 c2 OX
      have wx : IntKind.i64.wrap (x2 + 1) = x2 + 1 := by rw [IntKind.wrap_i64]; omega
      obtain ⟨G, hG⟩ : ∃ G, Bk.bords (l.take k) [] = G := ⟨_, rfl⟩
      rw [hG] at hr BT BL
      have IL := Bk.ins_len G x1
      have C1 := Lib.hid (radd_any v G x1 (by omega) wr hr.out)
      clear hx hG OX
      go_wp2_with fail
      refine C1.out.mono ?_
      rintro e V ⟨u1, rfl, h1, h2⟩
      have H1 := Lib.hid h1
      have B1 := Lib.hid (below_next hb.out h2)
      have C2 := Lib.hid (radd_any u1 _ (x2 + 1) (by omega) V h1)
      obtain ⟨b', o', e1, d1, d2⟩ := NX.out V B1.out
      cases e1
      clear h1 h2 c1 c2
      go_wp2_with fail
      refine C2.out.mono ?_
      rintro e V2 ⟨u2, rfl, h1, h2⟩
      have H2 : Hid (RowI V2 u2 (Bk.bords (l.take (k + 1)) [])) := Lib.hid (by rw [BT.out]; exact h1)
      have B2 := Lib.hid (below_next B1.out h2)
      clear h1 h2 d1 d2
      go_wp2_with fail
      go_roundw
      case rel => exact ⟨k + 1, _, by omega, by go_num, rfl, H2, B2⟩
      case measure => simp [intOf]; omega
    · have e0 : decide ((k : Int) < (l.length : Int)) = false := by rw [decide_eq_false_iff_not]; omega
      obtain rfl : k = l.length := by omega
      have HH : Hid (RowI wr v (Bk.bords l [])) := Lib.hid (by have := hr.out; rwa [List.take_length] at this)
      clear lt hk hr
      go_wp2_with fail
      go_ret
      exact ⟨_, rfl, HH.out, hb.out⟩
theorem rwanted_any (va vb : Value) (a b : List (Int × Int)) (t k : Int) (hk : k = 1 ∨ k = 2 ∨ k = 3) (r : Bool) (hr : Bk.want a b k t = r) (w : World) (ha : RowS w va a) (hb : RowS w vb b) :
    Calls Try.prog 56 #[va, vb, .int .i64 t, .int .i64 k] w fun e w' => e = .returned (.bool r) ∧ w = w' := by
  obtain ⟨p, hp⟩ : ∃ p, decide (Bk.has a t) = p := ⟨_, rfl⟩
  obtain ⟨q, hq⟩ : ∃ q, decide (Bk.has b t) = q := ⟨_, rfl⟩
  have HA := Lib.hid (rhas_any va a t p hp w ha)
  have HB := Lib.hid (rhas_any vb b t q hq w hb)
  have HR : Hid (Bk.bel k p q = r) := Lib.hid (by rw [← hp, ← hq, Bk.bel_want]; exact hr)
  obtain ⟨A1, c1, rfl⟩ := ha.len
  obtain ⟨A2, c2, rfl⟩ := hb.len
  clear hp hq ha hb hr
  rcases hk with rfl | rfl | rfl
  · have R : Hid (r = (p || q)) := Lib.hid HR.out.symm
    cases p with
    | true =>
      go_enter Try.func56, Try.ntmps56
      go_wp2_with fail
      refine HA.out.mono ?_
      rintro e V ⟨rfl, rfl⟩
      go_wp2_with fail
      refine HB.out.mono ?_
      rintro e V ⟨rfl, rfl⟩
      go_wp2_with fail
      go_ret
      exact ⟨ret_bool (by rw [R.out]; rfl), rfl⟩
    | false =>
      go_enter Try.func56, Try.ntmps56
      go_wp2_with fail
      refine HA.out.mono ?_
      rintro e V ⟨rfl, rfl⟩
      go_wp2_with fail
      refine HB.out.mono ?_
      rintro e V ⟨rfl, rfl⟩
      go_wp2_with fail
      go_ret
      exact ⟨ret_bool (by rw [R.out]; simp), rfl⟩
  · have R : Hid (r = (p && q)) := Lib.hid HR.out.symm
    cases p with
    | true =>
      go_enter Try.func56, Try.ntmps56
      go_wp2_with fail
      refine HA.out.mono ?_
      rintro e V ⟨rfl, rfl⟩
      go_wp2_with fail
      refine HB.out.mono ?_
      rintro e V ⟨rfl, rfl⟩
      go_wp2_with fail
      go_ret
      exact ⟨ret_bool (by rw [R.out]; simp), rfl⟩
    | false =>
      go_enter Try.func56, Try.ntmps56
      go_wp2_with fail
      refine HA.out.mono ?_
      rintro e V ⟨rfl, rfl⟩
      go_wp2_with fail
      refine HB.out.mono ?_
      rintro e V ⟨rfl, rfl⟩
      go_wp2_with fail
      go_ret
      exact ⟨ret_bool (by rw [R.out]; rfl), rfl⟩
  · have R : Hid (r = (p && !q)) := Lib.hid HR.out.symm
    cases p with
    | true =>
      go_enter Try.func56, Try.ntmps56
      go_wp2_with fail
      refine HA.out.mono ?_
      rintro e V ⟨rfl, rfl⟩
      go_wp2_with fail
      refine HB.out.mono ?_
      rintro e V ⟨rfl, rfl⟩
      go_wp2_with fail
      go_ret
      exact ⟨ret_bool (by rw [R.out]; simp), rfl⟩
    | false =>
      go_enter Try.func56, Try.ntmps56
      go_wp2_with fail
      refine HA.out.mono ?_
      rintro e V ⟨rfl, rfl⟩
      go_wp2_with fail
      refine HB.out.mono ?_
      rintro e V ⟨rfl, rfl⟩
      go_wp2_with fail
      go_ret
      exact ⟨ret_bool (by rw [R.out]; rfl), rfl⟩

/-- append to a slice of the call's own, as one step of a region that draws -/
theorem step_append_own {P : Program} {ops : Array Oper} {o : Oper} {a : Act} {w : World} {K : Act → World → Prop} {Q : Exit → Act → World → Prop} {E : Prop}
    (hgd : o.guard = none) (s x : Operand) (t : TypeId) (ho : o.op = .call { callee := .builtin .append, args := #[s, x], argTypes := #[t, t] })
    (base : Nat) (e : TypeId) (i : TypeInfo) (z : Value) (size bytes : Nat) (ht : P.underlying t = some (.slice e)) (hi : P.info? e = some i) (hz : i.zero = some z)
    (hsize : i.size = size) (hby : i.bytes = bytes) (hzs : z.cells.size = size) (hsz : 0 < size)
    (v : Value) (n : Nat) (xs : List Value) (hs : a.eval s = v) (hown : w.ownsRow base e size v n xs)
    (ad : Addr) (m c : Nat) (news : List Value) (hx : a.eval x = .slice (some ad) m c) (hl : news.length = m * size) (hnews : ∀ j u, news[j]? = some u → w.cell? (ad.add j) = some u) (h1 : ∀ u ∈ news, u.oneCell' = true)
    (h63 : n + m ≤ maxLen) (hbytes : (n + m) * bytes ≤ 140737488355328) (hbase : base ≤ w.heap.size)
    (h : ∀ v' w', w'.ownsRow base e size v' (n + m) (xs ++ news) → w.grownBy w' v.ownBlock → K (a.put o.dst v') w') :
    if Region.wanted o (yielded ops a.tmps) = true then Oper.wp P o a w K Q else E := by
  have hw : Region.wanted o (yielded ops a.tmps) = true := by simp [Region.wanted, hgd]
  rw [if_pos hw]
  obtain ⟨v', w', hr, h2, h3, h4, h5⟩ := run_append_own_at (P := P) w base t o.type e i z size bytes ht hi hz hsize hby hzs hsz v n xs hown ad m c news hl hnews h1 h63 hbytes hbase
  unfold Oper.wp execOp
  simp only [ho, resolve, invoke, builtin, Sem.run_bind, Sem.run_pure, Result.andThen_ok, List.map_toArray, List.map_cons, List.map_nil, hs, hx, hr]
  exact h _ _ h2 h3
theorem OwnS.alloc {w wr : World} {v : Value} {l : List (Int × Int)} (h : OwnS w v l wr) (o : Obj) : OwnS w v l (wr.alloc o) := ⟨h.row.alloc o, h.below.alloc h.below.size o⟩
theorem OwnS.drewN {w wr : World} {v : Value} {l : List (Int × Int)} (h : OwnS w v l wr) (m : Nat) : OwnS w v l (wr.drewN m) := ⟨h.row, below_drewN h.below m⟩
theorem OwnS.drew {w wr : World} {v : Value} {l : List (Int × Int)} (h : OwnS w v l wr) : OwnS w v l wr.drew := ⟨h.row, h.below.drew⟩
theorem OwnS.grow {w wr w1 : World} {v v' : Value} {l m : List (Int × Int)} (h : OwnS w v l wr)
    (hown : w1.ownsRow w.heap.size 27 2 v' (l.length + m.length) (l.flatMap encS ++ m.flatMap encS)) (hg : wr.grownBy w1 v.ownBlock) : OwnS w v' (l ++ m) w1 := by
  refine ⟨by rw [List.flatMap_append, List.length_append]; exact hown, h.below.grown hg h.below.size (fun k hk => (h.row.lt k hk).1)⟩
/-- the last span's end, stored anew -/
theorem OwnS.last {w wr : World} {g cap : Nat} {l : List (Int × Int)} {y : Int × Int} (h : OwnS w (.slice (some ⟨g, 0, none⟩) (l.length + 1) cap) (l ++ [y]) wr) (b : Int) :
    OwnS w (.slice (some ⟨g, 0, none⟩) (l.length + 1) cap) (l ++ [(y.1, b)]) (wr.setCell ⟨g, l.length * 2 + 1, none⟩ (.int .i64 b)) := by
  have hr := h.row
  have e : (l ++ [y]).length = l.length + 1 := by simp
  rw [e] at hr
  have q := hr.stored (l.length * 2 + 1) (.int .i64 b)
  refine ⟨?_, h.below.grown q.2 h.below.size (fun k hk => by cases hk; exact (hr.lt g rfl).1)⟩
  have e2 : (l ++ [(y.1, b)]).length = l.length + 1 := by simp
  rw [e2]
  have e3 : ((l ++ [y]).flatMap encS).set (l.length * 2 + 1) (.int .i64 b) = (l ++ [(y.1, b)]).flatMap encS := by
    rw [List.flatMap_append, List.flatMap_append, List.set_append_right _ _ (by rw [flatS_len]; omega), flatS_len, show l.length * 2 + 1 - l.length * 2 = 1 by omega]
    rfl
  rw [← e3]
  exact q.1
theorem bords_ok {a b : List (Int × Int)} (ha : Bk.OkS a) (hb : Bk.OkS b) {i : Nat} (hi : i < (Bk.bords (a ++ b) []).length) : 0 ≤ (Bk.bords (a ++ b) []).getD i 0 ∧ (Bk.bords (a ++ b) []).getD i 0 ≤ 253402300800 := by
  have m : (Bk.bords (a ++ b) []).getD i 0 ∈ Bk.bords (a ++ b) [] := by simp [hi]
  generalize (Bk.bords (a ++ b) []).getD i 0 = t at m
  rw [Bk.bords_mem] at m
  rcases m with h | ⟨y, hy, h⟩
  · simp at h
  · have o := (ha.append hb) y hy
    unfold Bk.okT at o
    omega
theorem ext_nil (a b : Int) : Bk.ext [] a b = [] ++ [(a, b - 1)] := rfl
theorem ext_join {l : List (Int × Int)} {y : Int × Int} {a : Int} (b : Int) (h : y.2 = a - 1) : Bk.ext (l ++ [y]) a b = l ++ [(y.1, b - 1)] := by
  unfold Bk.ext
  rw [List.getLast?_concat]
  simp only [if_pos h, List.dropLast_concat]
theorem ext_new {l : List (Int × Int)} {y : Int × Int} {a : Int} (b : Int) (h : ¬ y.2 = a - 1) : Bk.ext (l ++ [y]) a b = (l ++ [y]) ++ [(a, b - 1)] := by
  unfold Bk.ext
  rw [List.getLast?_concat]
  simp only [if_neg h]
set_option maxRecDepth 100000 in
set_option maxHeartbeats 4000000 in
theorem rresult_any (va vb : Value) (a b : List (Int × Int)) (k : Int) (hk : k = 1 ∨ k = 2 ∨ k = 3) (la : a.length ≤ 100) (lb : b.length ≤ 100) (oa : Bk.OkS a) (ob : Bk.OkS b) (w : World) (ha : RowS w va a) (hb : RowS w vb b) :
    Calls Try.prog 39 #[va, vb, .int .i64 k] w fun e w' => ∃ u l, e = .returned u ∧ OwnS w u l w' ∧ l.length ≤ 400 ∧ Bk.IsRes a b k l := by
  obtain ⟨i0, hi, hz0, hz1, hz2⟩ := info_parts infoS
  have RA := Lib.hid ha
  have RB := Lib.hid hb
  have IR := Lib.hid (Bk.want_res k oa ob)
  have OB := Lib.hid (fun i hi => bords_ok oa ob (i := i) hi)
  have OO := Lib.hid (oa.append ob)
  have WA := Lib.hid (fun t r hr W h1 h2 => rwanted_any va vb a b t k hk r hr W h1 h2)
  have LL : (a ++ b).length ≤ 200 := by rw [List.length_append]; omega
  have BL := Bk.bords_len (a ++ b) []
  simp only [List.length_nil, Nat.zero_add] at BL
  have E0 : Hid (OwnS w (.slice none 0 0) [] w) := Lib.hid (OwnS.nil (Below.refl _ _))
  obtain ⟨A1, c1, rfl⟩ := ha.len
  obtain ⟨A2, c2, rfl⟩ := hb.len
  clear ha hb oa ob hk
  go_enter Try.func39, Try.ntmps39
  go_wp2_with (at_builtin; first
    | (refine wpList_append_rowS rfl _ _ rfl w.heap.size _ 0 [] rfl (World.ownsRow_nil _ _ _ _) _ a rfl RA.out (by omega) (Nat.le_refl _) ?_; intro v1 w1 hown hg; have O1 := Lib.hid (E0.out.grow (m := a) (by simpa using hown) hg); have S1 := O1.out.below.size; have RB1 := Lib.hid (RB.out.below O1.out.below); clear hown hg)
    | (refine wpList_append_rowS rfl _ _ rfl w.heap.size _ _ _ rfl O1.out.row _ b rfl RB1.out (by simp; omega) S1 ?_; intro v2 w2 hown hg; have O2 := Lib.hid (O1.out.grow hown hg); clear hown hg))
  have OR := Lib.hid (O2.out.rowS (by simp; omega))
  have CB := Lib.hid (rborders_any _ _ (by simpa using LL) OO.out w2 OR.out)
  refine CB.out.mono ?_
  rintro e W1 ⟨u, rfl, h1, h2⟩
  have B2 := Lib.hid O2.out.below
  have BW : Hid (Below w.heap.size w W1) := Lib.hid (below_next B2.out h2)
  have LI := Lib.hid h1
  obtain ⟨A3, c3, rfl⟩ := h1.len
  obtain ⟨L, hL⟩ : ∃ L, Bk.bords (a ++ b) [] = L := ⟨_, rfl⟩
  rw [hL] at LI IR OB BL ⊢
  obtain ⟨P, hP⟩ : ∃ P, Bk.want a b k = P := ⟨_, rfl⟩
  have WA1 := Lib.hid (fun t W (q : Below W1.heap.size W1 W) => WA.out t (P t) (by rw [hP]) W (RA.out.below (BW.out.trans (q.mono BW.out.size))) (RB.out.below (BW.out.trans (q.mono BW.out.size))))
  rw [hP] at IR
  clear h1 h2 hL hP WA CB OR O1 O2 E0 OO
  go_wp2_with fail
  go_loopw [9, 10] (fun ov iv wr => ∃ (i : Nat) (v : Value), (i + 1 ≤ L.length ∨ i = 0) ∧ iv = .int .i64 i ∧ v = ov ∧ Hid (OwnS W1 v (Bk.resTo P L i) wr)) (fun _ iv _ => L.length + 1 - (intOf iv).toNat)
  case atStart => exact ⟨0, _, .inr rfl, rfl, rfl, Lib.hid (OwnS.nil (Below.refl _ _))⟩
  case round =>
    obtain ⟨i, v, hi', rfl, rfl, ho⟩ := hrel
    have wi : IntKind.i64.wrap ((i : Int) + 1) = (i : Int) + 1 := by rw [IntKind.wrap_i64]; omega
    by_cases lt : i + 1 < L.length
    · have e0 : decide ((i : Int) + 1 < (L.length : Int)) = true := by rw [decide_eq_true_iff]; omega
      have hlt : i < L.length := by omega
      have hlt1 : (0 : Int) ≤ (i : Int) + 1 := by omega
      have hlt2 : (i : Int) + 1 < (L.length : Int) := by omega
      have LW := Lib.hid (LI.out.below ho.out.below)
      obtain ⟨b1, o1, e1, d1⟩ := LW.out.at (j := i) (by omega)
      subst e1
      obtain ⟨b2, o2, e1, d2⟩ := LW.out.at lt
      cases e1
      have T0 := OB.out i (by omega)
      have T1 := OB.out (i + 1) lt
      have RS : Bk.resTo P L (i + 1) = if P (L.getD i 0) = true then Bk.ext (Bk.resTo P L i) (L.getD i 0) (L.getD (i + 1) 0) else Bk.resTo P L i := rfl
      have RLEN := Bk.resTo_len P L i
      obtain ⟨t0, ht0⟩ : ∃ t, L.getD i 0 = t := ⟨_, rfl⟩
      obtain ⟨t1, ht1⟩ : ∃ t, L.getD (i + 1) 0 = t := ⟨_, rfl⟩
      rw [ht0] at d1 T0 RS
      rw [ht1] at d2 T1 RS
      have HS := Lib.hid RS
      have W0 := Lib.hid (WA1.out t0 wr ho.out.below)
      have w0 : IntKind.i64.wrap (t0 - 1) = t0 - 1 := by rw [IntKind.wrap_i64]; omega
      have w1' : IntKind.i64.wrap (t1 - 1) = t1 - 1 := by rw [IntKind.wrap_i64]; omega
      obtain ⟨p, hp⟩ : ∃ p, P t0 = p := ⟨_, rfl⟩
      rw [hp] at W0
      have HP := Lib.hid hp
      obtain ⟨R, hR⟩ : ∃ R, Bk.resTo P L i = R := ⟨_, rfl⟩
      rw [hR] at ho HS RLEN
      clear ht0 ht1 RS hp hR
      go_wp2_with fail
      refine W0.out.mono ?_
      rintro e V ⟨rfl, rfl⟩
      cases p with
      | false =>
        have H2 : Hid (OwnS W1 v (Bk.resTo P L (i + 1)) wr) := Lib.hid (by rw [HS.out, HP.out]; exact ho.out)
        clear HS HP
        go_wp2_with fail
        go_roundw
        case rel => exact ⟨i + 1, v, .inl (by omega), by go_num, rfl, H2⟩
        case measure => simp [intOf]; omega
      | true =>
        have HE : Hid (Bk.resTo P L (i + 1) = Bk.ext R t0 t1) := Lib.hid (by rw [HS.out, HP.out]; rfl)
        clear HS HP
        obtain ⟨A4, c4, rfl⟩ := ho.out.len
        have hs := ho.out.below.size
        by_cases emp : R = []
        · subst emp
          go_wp2_with fail
          go_quiet (fail)
          go_wp2_with fail
          have HQ := Lib.hid (ho.out.drewN (nq + 1))
          go_region_law (refine step_append_own rfl _ _ 22 rfl W1.heap.size 27 i0 (.agg #[.int .i64 0, .int .i64 0]) 2 16 Try.underlying22 hi hz0 hz1 hz2 rfl (by decide) _ 0 (List.flatMap encS []) rfl (HQ.out.row.alloc _) ⟨wr.heap.size, 0, none⟩ 1 1 [.int .i64 t0, .int .i64 (t1 - 1)] rfl rfl (cells_new _ _ rfl [.int .i64 t0, .int .i64 (t1 - 1)] _) (by simp [Value.oneCell']) (by simp [maxLen] <;> omega) (by omega) (by simp; omega) ?_; intro v2 w2 hown hg2)
          all_goals
            have h2 := HQ.out.step (x := (t0, t1 - 1)) hown hg2
            rw [← ext_nil, ← HE.out] at h2
            have H2 := Lib.hid h2
            clear h2 hown hg2
            go_wp2_with fail
            go_roundw
            case rel => exact ⟨i + 1, _, .inl (by omega), by go_num, rfl, H2⟩
            case measure => simp [intOf]; omega
        · obtain ⟨R0, y, rfl⟩ : ∃ R0 y, R = R0 ++ [y] := ⟨R.dropLast, R.getLast emp, (List.dropLast_concat_getLast emp).symm⟩
          have RL1 : (R0 ++ [y]).length = R0.length + 1 := by simp
          rw [RL1] at ho RLEN ⊢
          have RV := Lib.hid (ho.out.rowS (by omega))
          obtain ⟨bq, oq, e1, q1, q2⟩ := RV.out.at (j := R0.length) (by omega)
          have ey : (R0 ++ [y]).getD R0.length (0, 0) = y := by simp [List.getD_eq_getElem?_getD]
          rw [ey] at q1 q2
          have BO : ∃ g, bq = g ∧ oq = 0 ∧ A4 = some ⟨g, 0, none⟩ := by
            rcases ho.out.row.2 with ⟨e, _⟩ | ⟨g, cap, cur, e, _⟩
            · simp at e
            · simp only [Value.slice.injEq] at e
              rw [e1] at e
              obtain ⟨e, _⟩ := e
              cases e
              exact ⟨_, rfl, rfl, e1⟩
          obtain ⟨g, rfl, rfl, rfl⟩ := BO
          have fz : wr.frozen? ⟨bq, 0 + R0.length * 2 + 1, none⟩ = false := by
            rcases ho.out.row.2 with ⟨e, _⟩ | ⟨g, cap, cur, e, _, hg, _⟩
            · simp at e
            · simp only [Value.slice.injEq] at e
              obtain ⟨e, _⟩ := e
              cases e
              simp [World.frozen?, hg]
          obtain ⟨m, hm⟩ : ∃ m, R0.length = m := ⟨_, rfl⟩
          have HM := Lib.hid hm
          rw [hm] at ho RLEN RV q1 q2 fz ⊢
          rw [Nat.zero_add] at q1 q2 fz
          have hm1 : IntKind.i64.wrap (((m + 1 : Nat) : Int) - 1) = (m : Int) := by rw [IntKind.wrap_i64]; omega
          have hm2 : IntKind.i64.wrap ((m : Int) + 1 - 1) = (m : Int) := by rw [IntKind.wrap_i64]; omega
          have hm3 : IntKind.i64.wrap (m : Int) = (m : Int) := by rw [IntKind.wrap_i64]; omega
          have g0 : decide ((0 : Int) < ((m + 1 : Nat) : Int)) = true := by rw [decide_eq_true_iff]; omega
          have g1 : decide ((0 : Int) < (m : Int) + 1) = true := by rw [decide_eq_true_iff]; omega
          have hml1 : (m : Int) < ((m + 1 : Nat) : Int) := by omega
          have hml2 : (m : Int) < (m : Int) + 1 := by omega
          have hml3 : m < m + 1 := by omega
          have RL2 : Hid ((R0 ++ [y]).length = m + 1) := Lib.hid (by rw [RL1, HM.out])
          clear e1 ey RL1 emp hm
          by_cases c : y.2 = t0 - 1
          · have t1' : (y.2 == t0 - 1) = true := by rw [beq_iff_eq]; exact c
            have HJ := Lib.hid (HE.out.trans (ext_join t1 c))
            clear c HE
            go_wp2_with fail
            go_quiet (fail)
            go_wp2_with fail
            have H2 : Hid (OwnS W1 (.slice (some ⟨bq, 0, none⟩) (m + 1) c4) (Bk.resTo P L (i + 1)) ((wr.drewN nq).setCell ⟨bq, m * 2 + 1, none⟩ (.int .i64 (t1 - 1)))) := Lib.hid (by
              rw [HJ.out]
              have q := ho.out.drewN nq
              rw [← HM.out] at q ⊢
              exact q.last (t1 - 1))
            go_roundw
            case rel => exact ⟨i + 1, _, .inl (by omega), by go_num, rfl, H2⟩
            case measure => simp [intOf]; omega
          · have t1' : (y.2 == t0 - 1) = false := by rw [beq_eq_false_iff_ne]; exact c
            have HJ := Lib.hid (HE.out.trans (ext_new t1 c))
            clear c HE
            go_wp2_with fail
            go_quiet (fail)
            go_wp2_with fail
            have HQ := Lib.hid (ho.out.drewN (nq + 1))
            go_region_law (refine step_append_own rfl _ _ 22 rfl W1.heap.size 27 i0 (.agg #[.int .i64 0, .int .i64 0]) 2 16 Try.underlying22 hi hz0 hz1 hz2 rfl (by decide) _ (R0 ++ [y]).length (List.flatMap encS (R0 ++ [y])) rfl (HQ.out.row.alloc _) ⟨wr.heap.size, 0, none⟩ 1 1 [.int .i64 t0, .int .i64 (t1 - 1)] rfl rfl (cells_new _ _ rfl [.int .i64 t0, .int .i64 (t1 - 1)] _) (by simp [Value.oneCell']) (by rw [RL2.out]; simp [maxLen]; omega) (by rw [RL2.out]; omega) (by simp; omega) ?_; intro v2 w2 hown hg2)
            all_goals
              have h2 := HQ.out.step (x := (t0, t1 - 1)) hown hg2
              rw [← HJ.out] at h2
              have H2 := Lib.hid h2
              clear h2 hown hg2
              go_wp2_with fail
              go_roundw
              case rel => exact ⟨i + 1, _, .inl (by omega), by go_num, rfl, H2⟩
              case measure => simp [intOf]; omega
    · have e0 : decide ((i : Int) + 1 < (L.length : Int)) = false := by rw [decide_eq_false_iff_not]; omega
      have HF : Hid (OwnS W1 v (Bk.res P L) wr) := Lib.hid (by unfold Bk.res; rw [show L.length - 1 = i by omega]; exact ho.out)
      have RL := Lib.hid (Bk.resTo_len P L (L.length - 1))
      clear ho
      go_wp2_with fail
      go_ret
      exact ⟨_, _, rfl, HF.out.base BW.out, by have := RL.out; unfold Bk.res; omega, IR.out⟩
end Go.Proofs.Ytodjipbkeddbcaa
