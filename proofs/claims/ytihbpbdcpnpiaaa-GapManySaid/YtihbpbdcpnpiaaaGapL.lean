/- Contracts of the document's Has, Only and Merge. -/
import Derived.Test.YtihbpbdcpnpiaaaGapC
import Derived.Test.YtihbpbdcpnpiaaaGapMb
import Derived.Laws.OwnMore
import Derived.RegionTactic
namespace Go.Proofs.Ytihbpbdcpnpiaaa
open Go.ChangeShapes Go.RowKit

theorem rhas_any (v : Value) (l : List Int) (t : Int) (r : Bool) (hr : r = true ↔ t ∈ l) (w : World) (h : RowT w v l) :
    Calls Try.prog 47 #[v, .int .i64 t] w fun e w' => e = .returned (.bool r) ∧ w = w' := by
  obtain ⟨h0, A, cap, rfl, c⟩ := h
  have C1 := Lib.hid c
  have HR := Lib.hid hr
  clear c hr
  go_enter Try.func47, Try.ntmps47
  go_wp2_with fail
  go_loop [5] (fun iv => ∃ k : Nat, k ≤ l.length ∧ iv = .int .i64 k ∧ Hid (∀ j, j < k → l.getD j 0 ≠ t)) (fun iv => l.length - (intOf iv).toNat)
  case atStart => exact ⟨0, by omega, rfl, Lib.hid (fun j hj => by omega)⟩
  case round =>
    obtain ⟨k, hk, rfl, no⟩ := hrel
    by_cases lt : k < l.length
    · have e0 : decide ((k : Int) < (l.length : Int)) = true := by rw [decide_eq_true_iff]; omega
      have wi : IntKind.i64.wrap ((k : Int) + 1) = (k : Int) + 1 := by rw [IntKind.wrap_i64]; omega
      obtain ⟨b, o, rfl, c2⟩ := C1.out k lt
      have MEM := Lib.hid (Gp.getD_mem lt)
      obtain ⟨x, hx⟩ : ∃ x, l.getD k 0 = x := ⟨_, rfl⟩
      have HX := Lib.hid hx
      rw [hx] at c2 MEM
      clear hx
      by_cases q : x = t
      · have q0 : (x == t) = true := by rw [beq_iff_eq]; exact q
        obtain rfl : r = true := HR.out.2 (by rw [← q]; exact MEM.out)
        clear q
        go_wp2_with fail
        go_ret
        exact ⟨rfl, rfl⟩
      · have q0 : (x == t) = false := by rw [beq_eq_false_iff_ne]; exact q
        have Q := Lib.hid q
        clear q
        go_wp2_with fail
        go_round
        case rel => exact ⟨k + 1, by omega, by go_num, Lib.hid (fun j hj => by
          by_cases e : j = k
          · subst e; rw [HX.out]; exact Q.out
          · exact no.out j (by omega))⟩
        case measure => simp [intOf]; omega
    · have e0 : decide ((k : Int) < (l.length : Int)) = false := by rw [decide_eq_false_iff_not]; omega
      have E : Hid (r = false) := Lib.hid (by
        cases r with
        | false => rfl
        | true =>
          obtain ⟨i, hi, e⟩ := Gp.mem_getD (HR.out.1 rfl)
          exact absurd e (no.out i (by omega)))
      go_wp2_with fail
      go_ret
      exact ⟨by rw [E.out]; rfl, rfl⟩

/-- two slices of the call's own, side by side -/
structure TwoT (w : World) (u v : Value) (lu lv : List Int) (wr : World) : Prop where
  up : wr.ownsRow w.heap.size 2 1 u lu.length (lu.map (.int .i64 ·))
  down : wr.ownsRow w.heap.size 2 1 v lv.length (lv.map (.int .i64 ·))
  apart : ∀ g, u.ownBlock = some g → v.ownBlock ≠ some g
  below : Below w.heap.size w wr
theorem TwoT.nil {w wr : World} (h : Below w.heap.size w wr) : TwoT w (.slice none 0 0) (.slice none 0 0) [] [] wr := ⟨World.ownsRow_nil _ _ _ _, World.ownsRow_nil _ _ _ _, fun _ h => (by cases h), h⟩
theorem TwoT.swap {w wr : World} {u v : Value} {lu lv : List Int} (h : TwoT w u v lu lv wr) : TwoT w v u lv lu wr := ⟨h.down, h.up, fun g e1 e2 => h.apart g e2 e1, h.below⟩
theorem TwoT.ownU {w wr : World} {u v : Value} {lu lv : List Int} (h : TwoT w u v lu lv wr) : OwnT w u lu wr := ⟨h.up, h.below⟩
theorem TwoT.ownV {w wr : World} {u v : Value} {lu lv : List Int} (h : TwoT w u v lu lv wr) : OwnT w v lv wr := ⟨h.down, h.below⟩
theorem TwoT.stepU {w wr w1 : World} {u v v' : Value} {lu lv : List Int} {o : Obj} {x : Int} (h : TwoT w u v lu lv wr)
    (hown : w1.ownsRow w.heap.size 2 1 v' (lu.length + 1) (lu.map (.int .i64 ·) ++ [.int .i64 x])) (hg : (wr.alloc o).grownBy w1 u.ownBlock)
    (hat : v'.ownBlock = u.ownBlock ∨ v'.ownBlock = some (wr.heap.size + 1)) : TwoT w v' v (lu ++ [x]) lv w1 := by
  have hs := h.below.size
  refine ⟨by rw [List.map_append]; simpa using hown, (h.down.alloc o).kept hg ?_, ?_, (h.below.alloc hs o).grown hg (by simp; omega) (fun k hk => (h.up.lt k hk).1)⟩
  · by_cases z : v.ownBlock = none
    · exact .inl z
    · refine .inr fun e => ?_
      obtain ⟨g, hgd⟩ := Option.ne_none_iff_exists'.1 z
      exact h.apart g (by rw [← e, hgd]) hgd
  · intro g hgv hgd
    rcases hat with e | e
    · exact h.apart g (by rw [← e, hgv]) hgd
    · have := (h.down.lt g hgd).2
      rw [e] at hgv
      simp at hgv
      omega
open Classical in
/-- what each list has alone, or nothing -/
noncomputable def onlyO (a b : List Int) : List Int := if Gp.errL [a, b] = 0 then Gp.minus a b else []
open Classical in
noncomputable def onlyO2 (a b : List Int) : List Int := if Gp.errL [a, b] = 0 then Gp.minus b a else []
theorem minus_len (a b : List Int) : (Gp.minus a b).length ≤ a.length := by unfold Gp.minus; exact List.length_filter_le _ _

set_option maxRecDepth 100000 in
set_option maxHeartbeats 4000000 in
theorem ronly_any (va vb : Value) (a b : List Int) (w : World) (ha : RowT w va a) (hb : RowT w vb b) :
    Calls Try.prog 31 #[va, vb] w fun e w' => ∃ u v, e = .returned (.tuple #[u, v, .int .i64 (Gp.errL [a, b])]) ∧ TwoT w u v (onlyO a b) (onlyO2 a b) w' := by
  obtain ⟨i0, hi, hz0, hz1, hz2⟩ := info_parts infoT
  unfold onlyO onlyO2
  obtain ⟨r, hr⟩ : ∃ r, Gp.errL [a, b] = r := ⟨_, rfl⟩
  have CK := Lib.hid (fun g W hc hd h1 h2 => rcheck_two g va vb a b r hr W hc hd h1 h2)
  rw [hr]
  clear hr
  have HB := Lib.hid ((Below.refl _ w).alloc (Nat.le_refl _) (.cells #[va, vb] 22))
  have RA := Lib.hid ha
  have RB := Lib.hid hb
  have HA := Lib.hid (fun t r hr W h => rhas_any va a t r hr W h)
  have HH := Lib.hid (fun t r hr W h => rhas_any vb b t r hr W h)
  have LA := ha.1
  have LB := hb.1
  obtain ⟨_, A1, cap1, rfl, _⟩ := ha
  obtain ⟨_, A2, cap2, rfl, _⟩ := hb
  by_cases z : r = 0
  · subst z
    rw [if_pos rfl, if_pos rfl]
    go_enter Try.func31, Try.ntmps31
    go_wp2_with fail
    refine (CK.out _ _ (by simp [go_sem]) (by simp [go_sem]) (RA.out.alloc _) (RB.out.alloc _)).mono ?_
    rintro e V ⟨rfl, hb⟩
    have H0 : Hid (TwoT w (.slice none 0 0) (.slice none 0 0) [] [] V) := Lib.hid (.nil (HB.out.trans (hb.mono (by simp))))
    clear hb
    go_wp2_with fail
    go_loopw [8, 10] (fun xv iv wr => ∃ k : Nat, k ≤ a.length ∧ iv = .int .i64 k ∧ Hid (TwoT w xv (.slice none 0 0) (Gp.minus (a.take k) b) [] wr)) (fun _ iv _ => a.length - (intOf iv).toNat)
    case atStart => exact ⟨0, by omega, rfl, H0⟩
    case round =>
      obtain ⟨k, hk, rfl, ho⟩ := hrel
      by_cases lt : k < a.length
      · have e0 : decide ((k : Int) < (a.length : Int)) = true := by rw [decide_eq_true_iff]; omega
        have wi : IntKind.i64.wrap ((k : Int) + 1) = (k : Int) + 1 := by rw [IntKind.wrap_i64]; omega
        have RW := Lib.hid (RA.out.below ho.out.below)
        have RV := Lib.hid (RB.out.below ho.out.below)
        obtain ⟨_, A', cap', e1, cells⟩ := RW.out
        obtain ⟨b1, o1, e2, c2⟩ := cells k lt
        cases e1
        subst e2
        have MT := Lib.hid (Gp.minus_take a b k lt)
        have ML := minus_len (a.take k) b
        have TL : (a.take k).length ≤ k := by simp; omega
        obtain ⟨x, hx⟩ : ∃ x, a.getD k 0 = x := ⟨_, rfl⟩
        rw [hx] at c2 MT
        have HX := Lib.hid (fun r hr => HH.out x r hr _ RV.out)
        clear hx cells
        obtain ⟨G, hG⟩ : ∃ G, Gp.minus (a.take k) b = G := ⟨_, rfl⟩
        rw [hG] at ho ML MT
        clear hG
        have hs := ho.out.below.size
        by_cases q : x ∈ b
        · rw [if_pos q, List.append_nil] at MT
          have HQ := Lib.hid (HX.out true ⟨fun _ => q, fun _ => rfl⟩)
          clear q
          go_wp2_with fail
          refine HQ.out.mono ?_
          rintro e V1 ⟨rfl, rfl⟩
          go_wp2_with fail
          go_roundw
          case rel => exact ⟨k + 1, by omega, by go_num, by rw [MT.out]; exact ho⟩
          case measure => simp [intOf]; omega
        · rw [if_neg q] at MT
          have HQ := Lib.hid (HX.out false ⟨fun e => by simp at e, fun e => absurd e q⟩)
          clear q
          go_wp2_with fail
          refine HQ.out.mono ?_
          rintro e V1 ⟨rfl, rfl⟩
          go_wp2_with (at_builtin; refine wpList_append_own_at _ rfl (.tmp 32) (.tmp 37) 22 rfl w.heap.size 2 i0 (.int .i64 0) 1 8 Try.underlying22 hi hz0 hz1 hz2 rfl (by decide) _ G.length _ rfl (ho.out.up.alloc _) ⟨wr.heap.size, 0, none⟩ 1 1 [.int .i64 x] rfl ?c1 ?c2 ?c3 ?c4 ?c5 ?c6 ?c7)
          case c1 => rfl
          case c2 => exact cell_one_new _ _ _
          case c3 => simp [Value.oneCell']
          case c4 => simp [maxLen]; omega
          case c5 => omega
          case c6 => simp; omega
          case c7 =>
            intro v1 w1 hown hg _ hat
            have h2 := ho.out.stepU hown hg hat
            rw [← MT.out] at h2
            have H2 := Lib.hid h2
            clear h2 hown hg hat
            go_wp2_with fail
            go_roundw
            case rel => exact ⟨k + 1, by omega, by go_num, H2⟩
            case measure => simp [intOf]; omega
      · have e0 : decide ((k : Int) < (a.length : Int)) = false := by rw [decide_eq_false_iff_not]; omega
        have H1 : Hid (TwoT w (.slice none 0 0) u8 [] (Gp.minus a b) wr) := Lib.hid (by have := ho.out.swap; rwa [List.take_of_length_le (by omega)] at this)
        clear ho
        go_wp2_with fail
        go_loopw [9, 11] (fun xv iv wr => ∃ k : Nat, k ≤ b.length ∧ iv = .int .i64 k ∧ Hid (TwoT w xv u8 (Gp.minus (b.take k) a) (Gp.minus a b) wr)) (fun _ iv _ => b.length - (intOf iv).toNat)
        case atStart => exact ⟨0, by omega, rfl, H1⟩
        case round =>
          obtain ⟨k, hk, rfl, ho⟩ := hrel
          by_cases lt : k < b.length
          · have e0 : decide ((k : Int) < (b.length : Int)) = true := by rw [decide_eq_true_iff]; omega
            have wi : IntKind.i64.wrap ((k : Int) + 1) = (k : Int) + 1 := by rw [IntKind.wrap_i64]; omega
            have RW := Lib.hid (RB.out.below ho.out.below)
            have RV := Lib.hid (RA.out.below ho.out.below)
            obtain ⟨_, A', cap', e1, cells⟩ := RW.out
            obtain ⟨b1, o1, e2, c2⟩ := cells k lt
            cases e1
            subst e2
            have MT := Lib.hid (Gp.minus_take b a k lt)
            have ML := minus_len (b.take k) a
            have TL : (b.take k).length ≤ k := by simp; omega
            obtain ⟨x, hx⟩ : ∃ x, b.getD k 0 = x := ⟨_, rfl⟩
            rw [hx] at c2 MT
            have HX := Lib.hid (fun r hr => HA.out x r hr _ RV.out)
            clear hx cells
            obtain ⟨G, hG⟩ : ∃ G, Gp.minus (b.take k) a = G := ⟨_, rfl⟩
            rw [hG] at ho ML MT
            clear hG
            have hs := ho.out.below.size
            by_cases q : x ∈ a
            · rw [if_pos q, List.append_nil] at MT
              have HQ := Lib.hid (HX.out true ⟨fun _ => q, fun _ => rfl⟩)
              clear q
              go_wp2_with fail
              refine HQ.out.mono ?_
              rintro e V1 ⟨rfl, rfl⟩
              go_wp2_with fail
              go_roundw
              case rel => exact ⟨k + 1, by omega, by go_num, by rw [MT.out]; exact ho⟩
              case measure => simp [intOf]; omega
            · rw [if_neg q] at MT
              have HQ := Lib.hid (HX.out false ⟨fun e => by simp at e, fun e => absurd e q⟩)
              clear q
              go_wp2_with fail
              refine HQ.out.mono ?_
              rintro e V1 ⟨rfl, rfl⟩
              go_wp2_with (at_builtin; refine wpList_append_own_at _ rfl (.tmp 52) (.tmp 57) 22 rfl w.heap.size 2 i0 (.int .i64 0) 1 8 Try.underlying22 hi hz0 hz1 hz2 rfl (by decide) _ G.length _ rfl (ho.out.up.alloc _) ⟨wr.heap.size, 0, none⟩ 1 1 [.int .i64 x] rfl ?c1 ?c2 ?c3 ?c4 ?c5 ?c6 ?c7)
              case c1 => rfl
              case c2 => exact cell_one_new _ _ _
              case c3 => simp [Value.oneCell']
              case c4 => simp [maxLen]; omega
              case c5 => omega
              case c6 => simp; omega
              case c7 =>
                intro v1 w1 hown hg _ hat
                have h2 := ho.out.stepU hown hg hat
                rw [← MT.out] at h2
                have H2 := Lib.hid h2
                clear h2 hown hg hat
                go_wp2_with fail
                go_roundw
                case rel => exact ⟨k + 1, by omega, by go_num, H2⟩
                case measure => simp [intOf]; omega
          · have e0 : decide ((k : Int) < (b.length : Int)) = false := by rw [decide_eq_false_iff_not]; omega
            have H2 : Hid (TwoT w u8 u9 (Gp.minus a b) (Gp.minus b a) wr) := Lib.hid (by have := ho.out.swap; rwa [List.take_of_length_le (by omega)] at this)
            clear ho
            go_wp2_with fail
            go_ret3
            exact ⟨_, _, rfl, H2.out⟩
  · rw [if_neg z, if_neg z]
    have d1 : (r != 0) = true := by rw [bne_iff_ne]; exact z
    clear z
    go_enter Try.func31, Try.ntmps31
    go_wp2_with fail
    refine (CK.out _ _ (by simp [go_sem]) (by simp [go_sem]) (RA.out.alloc _) (RB.out.alloc _)).mono ?_
    rintro e V ⟨rfl, hb⟩
    have H0 : Hid (TwoT w (.slice none 0 0) (.slice none 0 0) [] [] V) := Lib.hid (.nil (HB.out.trans (hb.mono (by simp))))
    clear hb
    go_wp2_with fail
    go_ret3
    exact ⟨_, _, rfl, H0.out⟩
end Go.Proofs.Ytihbpbdcpnpiaaa
