/- The document's List. -/
import Derived.Test.YtljackjcgfaanaaGreatDoorPlaS
import Derived.Test.YtljackjcgfaanaaGreatDoorGPlaH
namespace Go.Proofs.YtljackjcgfaanaaGreatDoor
open Go.ChangeShapes Go.RowKit Go.Shelf

theorem list_two (q : Pl.P) (v : Value) (a b : Int) (w : World) (L : LayM w) (h : Bo.RowS w v q.l) : PB w w.heap.size q v ((w.alloc (.cells #[.int .i64 q.k, .int .u64 q.x.a0, .int .u64 q.x.a1, .int .u64 q.x.a2, .int .u64 q.x.a3, .int .u64 q.x.a4, .int .u64 q.x.a5, .bool q.x.b3, .bool q.x.b5, .int .i64 q.z, .int .i64 q.s, .int .i64 q.p, .int .i64 q.c, v] 29)).alloc (.cells #[.int .i64 a, .int .i64 b] 2)) ∧ Row ((w.alloc (.cells #[.int .i64 q.k, .int .u64 q.x.a0, .int .u64 q.x.a1, .int .u64 q.x.a2, .int .u64 q.x.a3, .int .u64 q.x.a4, .int .u64 q.x.a5, .bool q.x.b3, .bool q.x.b5, .int .i64 q.z, .int .i64 q.s, .int .i64 q.p, .int .i64 q.c, v] 29)).alloc (.cells #[.int .i64 a, .int .i64 b] 2)) (w.heap.size + 1) 2 ([a, b].map (.int .i64 ·)) := by
  refine ⟨(PB.start L h).alloc _, ?_⟩
  have := Row.new (w.alloc (.cells #[.int .i64 q.k, .int .u64 q.x.a0, .int .u64 q.x.a1, .int .u64 q.x.a2, .int .u64 q.x.a3, .int .u64 q.x.a4, .int .u64 q.x.a5, .bool q.x.b3, .bool q.x.b5, .int .i64 q.z, .int .i64 q.s, .int .i64 q.p, .int .i64 q.c, v] 29)) ([a, b].map (.int .i64 ·)) 2
  rwa [World.size_alloc] at this
/-- what the rounds of the document's List keep -/
structure LS (q : Pl.P) (b : Int) (N : Nat) (l pre : List Int) (o : Option Int) : Prop where
  len : pre.length ≤ N
  go : ∃ fr rest, 0 ≤ fr ∧ Mat.Least q.K fr 253402300799 o ∧ Tms q.K b (N - pre.length) fr rest ∧ l = pre ++ rest
theorem LS.stop {q : Pl.P} {b : Int} {N : Nat} {l pre : List Int} {o : Option Int} (hb : b ≤ 253402300799) (h : LS q b N l pre o) (s : o = none ∨ (∃ t, o = some t ∧ b < t) ∨ N ≤ pre.length) : l = pre := by
  obtain ⟨h1, fr, rest, _, ho, ht, rfl⟩ := h
  rcases s with rfl | ⟨t, rfl, k⟩ | k
  · rw [tms_none ht (fun y y1 y2 => ho y y1 (by omega)), List.append_nil]
  · rw [tms_none ht (fun y y1 y2 => ho.2.2.2 y y1 (by omega)), List.append_nil]
  · rw [show N - pre.length = 0 by omega] at ht
    rw [show rest = [] from ht, List.append_nil]
theorem LS.take {q : Pl.P} {b : Int} {N : Nat} {l pre : List Int} {t : Int} (h : LS q b N l pre (some t)) (tb : t ≤ b) (n : pre.length < N) : (0 ≤ t ∧ t ≤ 253402300799) ∧ ∀ o', Mat.Least q.K (t + 1) 253402300799 o' → LS q b N l (pre ++ [t]) o' := by
  obtain ⟨h1, fr, rest, f0, ho, ht, rfl⟩ := h
  have a1 := ho.1
  refine ⟨⟨by omega, ho.2.1⟩, fun o' h' => ⟨by simp; omega, t + 1, ?_⟩⟩
  rw [show N - pre.length = (N - (pre ++ [t]).length) + 1 by simp; omega] at ht
  obtain ⟨r, hr, hm⟩ := ht
  obtain rfl : r = some t := hr.uniq ⟨a1, tb, ho.2.2.1, ho.2.2.2⟩
  obtain ⟨l', rfl, h2⟩ := hm
  exact ⟨l', by omega, h', h2, by simp⟩
set_option maxRecDepth 100000 in
set_option maxHeartbeats 8000000 in
theorem rplist_any (q : Pl.P) (hx : q.x.Bd) (v : Value) (a b mo : Int) (l : List Int) (r : Int) (hr : Pl.ListR q a b mo l r) (w : World) (L : LayM w) (h : Bo.RowS w v q.l) :
    Calls Tryz.prog 23 #[.agg #[.int .i64 q.k, .int .u64 q.x.a0, .int .u64 q.x.a1, .int .u64 q.x.a2, .int .u64 q.x.a3, .int .u64 q.x.a4, .int .u64 q.x.a5, .bool q.x.b3, .bool q.x.b5, .int .i64 q.z, .int .i64 q.s, .int .i64 q.p, .int .i64 q.c, v], .int .i64 a, .int .i64 b, .int .i64 mo] w fun e w' => ∃ u, e = .returned (.tuple #[u, .int .i64 r]) ∧ OwnT w u l w' := by
  obtain ⟨q1, q2⟩ := list_two q v a b w L h
  have Q := Lib.hid q1
  have RW := Lib.hid q2
  obtain ⟨h1, h2⟩ := hr
  have CK := Lib.hid (fun W L h R => rpcheck_any q hx v (w.heap.size + 1) [a, b] (by simp) r h1.symm W L h R)
  rcases h2 with ⟨z, rfl⟩ | ⟨rfl, hl⟩
  · have d1 : (r != 0) = true := by simpa using z
    clear hx L h h1 z q1 q2
    go_enter Tryz.func23, Tryz.ntmps23
    go_wp2_with fail
    refine (CK.out _ Q.out.lay Q.out.sp RW.out).mono ?_
    rintro e w1 ⟨rfl, hb1⟩
    have Q1 := Lib.hid (Q.out.next hb1)
    clear hb1
    go_wp2_with fail
    go_ret2
    exact ⟨_, rfl, World.ownsRow_nil _ _ _ _, Q1.out.below⟩
  · obtain ⟨ok, hv⟩ := Pl.P.errT_zero.1 h1.symm
    have va := hv a (by simp)
    have vb := hv b (by simp)
    obtain ⟨z0, hi, hz0, hz1, hz2⟩ := info_parts infoT
    have NX := Lib.hid (fun t0 (h0 : -1 ≤ t0) (h1 : t0 ≤ 253402300799) o ho W L h => rpnext_any q ok hx v t0 h0 h1 o ho W L h)
    have wa : IntKind.i64.wrap (a - 1) = a - 1 := by have := va.1; have := va.2; rw [IntKind.wrap_i64]; omega
    obtain ⟨o0, ho0⟩ := Mat.least_ex q.K (a - 1 + 1) 253402300799
    have N0 := Lib.hid (fun W L h => NX.out (a - 1) (by have := va.1; omega) (by have := va.2; omega) o0 ho0 W L h)
    obtain ⟨N, hN⟩ : ∃ N, (min mo 100000).toNat = N := ⟨_, rfl⟩
    have NL : Hid (N ≤ 100000 ∧ ∀ k : Nat, ((k : Int) < min mo 100000) ↔ k < N) := Lib.hid ⟨by omega, fun k => by omega⟩
    have S0 : Hid (LS q b N l [] o0) := Lib.hid ⟨by simp, a, l, va.1, by rw [show a - 1 + 1 = a by omega] at ho0; exact ho0, by rw [hN] at hl; simpa using hl, by simp⟩
    have VB := Lib.hid vb.2
    clear hx L h h1 q1 q2 ok hv va vb ho0 hN hl
    go_enter Tryz.func23, Tryz.ntmps23
    go_wp2_with fail
    refine (CK.out _ Q.out.lay Q.out.sp RW.out).mono ?_
    rintro e w1 ⟨rfl, hb1⟩
    have Q1 := Lib.hid (Q.out.next hb1)
    obtain ⟨c0, c1, c2, c3, c4, c5, c6, c7, c8, c9, c10, c11, c12, c13⟩ := Q1.out.cells
    clear hb1
    go_wp2_with fail
    refine (N0.out _ Q1.out.lay Q1.out.sp).mono ?_
    rintro e w2 ⟨rfl, hb2⟩
    have Q2 := Lib.hid (Q1.out.next hb2)
    clear hb2 c0 c1 c2 c3 c4 c5 c6 c7 c8 c9 c10 c11 c12 c13
    have SZ2 := Lib.hid Q2.out.below.size
    go_wp2_with fail
    go_loopw [11, 12, 13] (fun uv tv kv wr => ∃ (pre : List Int) (o : Option Int), tv = .int .i64 (o.getD 0) ∧ kv = .bool o.isSome ∧ Hid (LS q b N l pre o) ∧ Hid (OwnT w2 uv pre wr)) (fun uv _ _ _ => N - (match uv with | .slice _ n _ => n | _ => 0))
    case atStart => exact ⟨[], o0, rfl, rfl, S0, Lib.hid ⟨World.ownsRow_nil _ _ _ _, Below.refl _ _⟩⟩
    case round =>
      obtain ⟨pre, o, rfl, rfl, st, ho⟩ := hrel
      obtain ⟨ua, uc, rfl⟩ := ho.out.len
      have QK := Lib.hid (Q2.out.next ho.out.below)
      have nl := NL.out.2 pre.length
      have plen := st.out.len
      have nn := NL.out.1
      cases o with
      | none =>
        have E := Lib.hid (st.out.stop VB.out (.inl rfl))
        clear nl plen nn
        go_wp2_with fail
        go_ret2
        exact ⟨_, rfl, by rw [E.out]; exact ownsRow_base ho.out.row SZ2.out, QK.out.below⟩
      | some t =>
        by_cases tb : t ≤ b
        · have e1 : decide (t ≤ b) = true := decide_eq_true tb
          by_cases full : pre.length < N
          · have e2 : decide ((pre.length : Int) < min mo 100000) = true := decide_eq_true (nl.2 full)
            obtain ⟨vt, tk⟩ := st.out.take tb full
            obtain ⟨o', ho'⟩ := Mat.least_ex q.K (t + 1) 253402300799
            have ST := Lib.hid (tk o' ho')
            have N1 := Lib.hid (fun W L h => NX.out t (by omega) vt.2 o' ho' W L h)
            have FL := Lib.hid full
            have PL := Lib.hid (show pre.length ≤ 100000 by omega)
            have SZK := Lib.hid ho.out.below.size
            clear nl plen vt tk ho' tb full st
            go_wp2_with (at_builtin; refine wpList_append_own _ rfl _ _ 40 rfl w2.heap.size 2 z0 (.int .i64 0) 1 8 Tryz.underlying40 hi hz0 hz1 hz2 rfl (by decide) _ pre.length (pre.map (.int .i64 ·)) rfl (ho.out.row.alloc _) ⟨wr.heap.size, 0, none⟩ 1 1 [.int .i64 t] rfl rfl (Bo.cells_new _ _ rfl [.int .i64 t] _) (by simp [Value.oneCell']) (by simp [maxLen]; have := PL.out; omega) (by have := PL.out; omega) (by have := SZK.out; simp; omega) ?_)
            intro v2 w3 hown hg2 _
            have H3 := Lib.hid (ho.out.step hown hg2)
            obtain ⟨xa, xc, rfl⟩ := H3.out.len
            have Q3 := Lib.hid (Q2.out.next H3.out.below)
            clear hown hg2
            obtain ⟨c0, c1, c2, c3, c4, c5, c6, c7, c8, c9, c10, c11, c12, c13⟩ := Q3.out.cells
            go_wp2_with fail
            refine (N1.out _ Q3.out.lay Q3.out.sp).mono ?_
            rintro e w4 ⟨rfl, hb4⟩
            have H4 := Lib.hid (H3.out.next hb4)
            have H5 : Hid (OwnT w2 (.slice xa (pre.length + 1) xc) (pre ++ [t]) w4) := Lib.hid (by have := H4.out; rwa [show (pre ++ [t]).length = pre.length + 1 by simp] at this)
            clear hb4
            go_wp2_with fail
            go_roundw
            case rel => exact ⟨pre ++ [t], o', by first | rfl | trivial, by first | rfl | trivial, ST, by first | exact H5 | exact H4⟩
            case measure => have := FL.out; simp; omega
          · have e2 : decide ((pre.length : Int) < min mo 100000) = false := decide_eq_false (fun z => full (nl.1 z))
            have E := Lib.hid (st.out.stop VB.out (.inr (.inr (by omega))))
            clear nl plen nn tb full
            go_wp2_with fail
            go_ret2
            exact ⟨_, rfl, by rw [E.out]; exact ownsRow_base ho.out.row SZ2.out, QK.out.below⟩
        · have e1 : decide (t ≤ b) = false := decide_eq_false tb
          have E := Lib.hid (st.out.stop VB.out (.inr (.inl ⟨t, rfl, by omega⟩)))
          clear nl plen nn tb
          go_wp2_with fail
          go_ret2
          exact ⟨_, rfl, by rw [E.out]; exact ownsRow_base ho.out.row SZ2.out, QK.out.below⟩
end Go.Proofs.YtljackjcgfaanaaGreatDoor
