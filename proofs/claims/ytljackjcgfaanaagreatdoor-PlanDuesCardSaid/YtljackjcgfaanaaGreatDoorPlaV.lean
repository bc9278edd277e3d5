/- The document's Due. -/
import Derived.Test.YtljackjcgfaanaaGreatDoorPlaS
import Derived.Test.YtljackjcgfaanaaGreatDoorGPlaH
import Derived.Test.YtljackjcgfaanaaGreatDoorGPlaDef
namespace Go.Proofs.YtljackjcgfaanaaGreatDoor
open Go.ChangeShapes Go.RowKit Go.Shelf

set_option maxRecDepth 100000 in
set_option maxHeartbeats 8000000 in
theorem rpdue_any (v : Value) (ps : List (Pl.P × Value)) (t : Int) (l : List Int) (r : Int) (hr : Pl.DueR (ps.map (·.1)) t l r) (w : World) (L : LayM w) (h : RowP w v ps) :
    Calls Tryz.prog 30 #[v, .int .i64 t] w fun e w' => ∃ u, e = .returned (.tuple #[u, .int .i64 r]) ∧ OwnN w u l w' := by
  have LL := Lib.hid L
  have HR := Lib.hid h
  have PN := h.1
  obtain ⟨z0, hi, hz0, hz1, hz2⟩ := info_parts infoN
  obtain ⟨A, cap, rfl⟩ := h.len
  have DR := Lib.hid hr
  have ln : (ps.map (·.1)).length = ps.length := by simp
  have LNM := Lib.hid ln
  clear h L hr
  by_cases big : 64 < ps.length
  · have d0 : decide ((64 : Int) < (ps.length : Int)) = true := by rw [decide_eq_true_iff]; omega
    have E : Hid (r = 12 ∧ l = []) := Lib.hid (by
      have e : r = 12 := by rw [DR.out.1]; unfold Pl.dueE; rw [if_pos (by omega)]
      rcases DR.out.2 with ⟨_, k⟩ | ⟨k, _⟩
      · exact ⟨e, k⟩
      · omega)
    clear ln LNM big
    go_enter Tryz.func30, Tryz.ntmps30
    go_wp2_with fail
    go_ret2
    obtain ⟨rfl, rfl⟩ := E.out
    exact ⟨_, rfl, .nil (Below.refl _ _)⟩
  · have d0 : decide ((64 : Int) < (ps.length : Int)) = false := by rw [decide_eq_false_iff_not]; omega
    have BG := Lib.hid big
    clear ln big
    go_enter Tryz.func30, Tryz.ntmps30
    go_wp2_with fail
    go_loopw [6] (fun iv wr => ∃ k : Nat, k ≤ ps.length ∧ iv = .int .i64 k ∧ Hid (∀ p ∈ (ps.map (·.1)).take k, p.Ok) ∧ Hid (Below w.heap.size w wr)) (fun iv _ => ps.length - (intOf iv).toNat)
    case atStart => exact ⟨0, by omega, rfl, Lib.hid (by simp), Lib.hid (Below.refl _ _)⟩
    case round =>
      obtain ⟨k, hk, rfl, hok, hb⟩ := hrel
      by_cases lt : k < ps.length
      · have e0 : decide ((k : Int) < (ps.length : Int)) = true := by rw [decide_eq_true_iff]; omega
        have wi : IntKind.i64.wrap ((k : Int) + 1) = (k : Int) + 1 := by rw [IntKind.wrap_i64]; omega
        obtain ⟨⟨q, vq⟩, hq⟩ : ∃ x, ps.getD k (Pl.pZ, .nilFunc) = x := ⟨_, rfl⟩
        obtain ⟨b, o, rfl, ⟨c0, c1, c2, c3, c4, c5, c6, c7, c8, c9, c10, c11, c12, c13⟩, hs, hx⟩ := (HR.out.below hb.out).at lt hq
        have GM := Lib.hid (getD_map1 lt hq)
        obtain ⟨A2, cap2, rfl⟩ := hs.len
        have HB1 := hb
        obtain ⟨ep, hep⟩ : ∃ ep, q.err = ep := ⟨_, rfl⟩
        have CK := Lib.hid (rpchk_any q hx (.slice A2 q.l.length cap2) ep hep wr (LL.out.below hb.out) hs)
        rcases q.err_or with e2 | e2
        · obtain rfl : ep = 0 := hep.symm.trans e2
          have OK := Lib.hid (all_take hok.out (by have := LNM.out; omega) (by rw [GM.out]; exact Pl.P.err_ok.1 e2))
          clear hs hx hep e2 hq
          go_wp2_with fail
          refine (CK.out).mono ?_
          rintro e w2 ⟨rfl, hb2⟩
          have HB2 := Lib.hid (HB1.out.trans (hb2.mono HB1.out.size))
          clear hb2
          go_wp2_with fail
          go_roundw
          case rel => exact ⟨k + 1, by omega, by first | rfl | go_num, OK, HB2⟩
          case measure => simp [intOf] <;> omega
        · obtain rfl : ep = 16 := hep.symm.trans e2
          have E : Hid (r = 16 ∧ l = []) := Lib.hid (by
            have no : ¬ ∀ p ∈ ps.map (·.1), p.Ok := fun z => by
              have := z q (getD_in lt GM.out)
              have := Pl.P.err_ok.2 this
              omega
            have e : r = 16 := by rw [DR.out.1]; unfold Pl.dueE; rw [if_neg (by have := BG.out; have := LNM.out; omega), if_neg no]
            rcases DR.out.2 with ⟨_, k⟩ | ⟨k, _⟩
            · exact ⟨e, k⟩
            · omega)
          clear hs hx hep e2 hq
          go_wp2_with fail
          refine (CK.out).mono ?_
          rintro e w2 ⟨rfl, hb2⟩
          have HB2 := Lib.hid (HB1.out.trans (hb2.mono HB1.out.size))
          clear hb2
          go_wp2_with fail
          go_ret2
          obtain ⟨rfl, rfl⟩ := E.out
          exact ⟨_, rfl, .nil HB2.out⟩
      · have e0 : decide ((k : Int) < (ps.length : Int)) = false := by rw [decide_eq_false_iff_not]; omega
        have ALL : Hid (∀ p ∈ ps.map (·.1), p.Ok) := Lib.hid (by
          have := hok.out
          rwa [List.take_of_length_le (by have := LNM.out; omega)] at this)
        obtain rfl : k = ps.length := by omega
        clear lt hk hok
        by_cases tv : Pl.vt t
        · have t1 : decide (t < 0) = false := decide_eq_false (by have := tv.1; omega)
          have t2 : decide (253402300799 < t) = false := decide_eq_false (by have := tv.2; omega)
          have E : Hid (r = 0 ∧ l = Pl.dueK (ps.map (·.1)) t ps.length) := Lib.hid (by
            have e : r = 0 := by rw [DR.out.1]; exact Pl.dueE_zero.2 ⟨by have := BG.out; have := LNM.out; omega, ALL.out, tv⟩
            rcases DR.out.2 with ⟨k, _⟩ | ⟨_, k⟩
            · exact absurd e k
            · rw [LNM.out] at k; exact ⟨e, k⟩)
          have TV := Lib.hid tv
          clear tv
          go_wp2_with fail
          go_loopw [7, 8] (fun dv iv wr => ∃ k : Nat, k ≤ ps.length ∧ iv = .int .i64 k ∧ Hid (OwnN w dv (Pl.dueK (ps.map (·.1)) t k) wr)) (fun _ iv _ => ps.length - (intOf iv).toNat)
          case atStart => exact ⟨0, by omega, rfl, Lib.hid (.nil hb.out)⟩
          case round =>
            obtain ⟨k, hk, rfl, ho⟩ := hrel
            obtain ⟨a9, c9, rfl⟩ := ho.out.len
            by_cases lt : k < ps.length
            · have e0 : decide ((k : Int) < (ps.length : Int)) = true := by rw [decide_eq_true_iff]; omega
              have wi : IntKind.i64.wrap ((k : Int) + 1) = (k : Int) + 1 := by rw [IntKind.wrap_i64]; omega
              obtain ⟨⟨q, vq⟩, hq⟩ : ∃ x, ps.getD k (Pl.pZ, .nilFunc) = x := ⟨_, rfl⟩
              obtain ⟨b, o, rfl, ⟨c0, c1, c2, c3, c4, c5, c6, c7, c8, c9', c10, c11, c12, c13⟩, hs, hx⟩ := (HR.out.below ho.out.below).at lt hq
              have GM := getD_map1 lt hq
              obtain ⟨A2, cap2, rfl⟩ := hs.len
              have H1 := ho
              have okq := ALL.out q (getD_in lt GM)
              obtain ⟨p, hp⟩ : ∃ p : Bool, p = true ↔ q.K t := by
                by_cases z : q.K t
                · exact ⟨true, by simp [z]⟩
                · exact ⟨false, by simp [z]⟩
              have PH := Lib.hid (rpis_any q hx (.slice A2 q.l.length cap2) t p 0 ⟨(Pl.errT_one okq TV.out).symm, hp.trans (by simp)⟩ wr (LL.out.below ho.out.below) hs)
              have DL := Pl.dueK_len (ps.map (·.1)) t k
              cases p with
              | false =>
                have E2 := Lib.hid (Pl.dueK_no (ps := ps.map (·.1)) (t := t) (k := k) (by rw [GM]; exact fun z => by cases hp.2 z))
                clear hs hx hp hq okq GM
                go_wp2_with fail
                refine (PH.out).mono ?_
                rintro e w3 ⟨rfl, hb3⟩
                have H3 := Lib.hid (H1.out.next hb3)
                clear hb3
                go_wp2_with fail
                go_roundw
                case rel => exact ⟨k + 1, by omega, by first | rfl | go_num, Lib.hid (by rw [E2.out]; exact H3.out)⟩
                case measure => simp [intOf] <;> omega
              | true =>
                have E2 := Lib.hid (Pl.dueK_yes (ps := ps.map (·.1)) (t := t) (k := k) (by rw [GM]; exact hp.1 rfl))
                clear hs hx hp hq okq GM
                go_wp2_with fail
                refine (PH.out).mono ?_
                rintro e w3 ⟨rfl, hb3⟩
                have H3 := Lib.hid (H1.out.next hb3)
                clear hb3
                go_wp2_with (at_builtin; refine wpList_append_own _ rfl _ _ 50 rfl w.heap.size 3 z0 (.int .i64 0) 1 8 Tryz.underlying50 hi hz0 hz1 hz2 rfl (by decide) _ (Pl.dueK (ps.map (·.1)) t k).length ((Pl.dueK (ps.map (·.1)) t k).map (.int .i64 ·)) rfl (H3.out.row.alloc _) ⟨w3.heap.size, 0, none⟩ 1 1 [.int .i64 (k : Int)] rfl rfl ?x1 ?x2 ?x3 ?x4 ?x5 ?_)
                case x1 => exact Bo.cells_new _ _ rfl [.int .i64 (k : Int)] _
                case x2 => simp [Value.oneCell']
                case x3 => simp [maxLen]; omega
                case x4 => omega
                case x5 => have := H3.out.below.size; simp; omega
                intro v' W1 hown' hgrow _
                have H4 := Lib.hid (H3.out.step hown' hgrow)
                obtain ⟨a8, c8', rfl⟩ := H4.out.len
                clear hown' hgrow
                go_wp2_with fail
                go_roundw
                case rel => exact ⟨k + 1, by omega, by first | rfl | go_num, Lib.hid (by rw [E2.out]; exact H4.out)⟩
                case measure => simp [intOf] <;> omega
            · have e0 : decide ((k : Int) < (ps.length : Int)) = false := by rw [decide_eq_false_iff_not]; omega
              obtain rfl : k = ps.length := by omega
              clear lt hk
              go_wp2_with fail
              go_ret2
              obtain ⟨rfl, rfl⟩ := E.out
              exact ⟨_, rfl, ho.out⟩
        · have E : Hid (r = 14 ∧ l = []) := Lib.hid (by
            have e : r = 14 := by rw [DR.out.1]; unfold Pl.dueE; rw [if_neg (by have := BG.out; have := LNM.out; omega), if_pos ALL.out, if_neg tv]
            rcases DR.out.2 with ⟨_, k⟩ | ⟨k, _⟩
            · exact ⟨e, k⟩
            · omega)
          by_cases neg : t < 0
          · have t1 : decide (t < 0) = true := decide_eq_true neg
            clear tv neg
            go_wp2_with fail
            go_ret2
            obtain ⟨rfl, rfl⟩ := E.out
            exact ⟨_, rfl, .nil hb.out⟩
          · have t1 : decide (t < 0) = false := decide_eq_false neg
            have t2 : decide (253402300799 < t) = true := decide_eq_true (by
              have : ¬ (0 ≤ t ∧ t ≤ 253402300799) := tv
              omega)
            clear tv neg
            go_wp2_with fail
            go_ret2
            obtain ⟨rfl, rfl⟩ := E.out
            exact ⟨_, rfl, .nil hb.out⟩
end Go.Proofs.YtljackjcgfaanaaGreatDoor
