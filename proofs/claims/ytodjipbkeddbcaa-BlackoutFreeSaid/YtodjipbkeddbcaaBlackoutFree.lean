/- For all slices of pairs of bytes and all bytes, BlackoutFree returns true: the time that Free returns is not in the list, and all before it, from the given one on, are. No conditions. -/
import Derived.Test.YtodjipbkeddbcaaBlkK
namespace Go.Proofs.Ytodjipbkeddbcaa.blackoutFree
open Go.ChangeShapes Go.WideShapes Go.ChangeAt Go.RowKit

set_option maxRecDepth 100000 in
set_option maxHeartbeats 4000000 in
theorem walk (a : Option Addr) (len cap : Nat) (z : List (Nat × Nat)) (n : Int) (w : World) (h : InP w a len cap z) (hn : (Lit.int .u8 n).wf = true) :
    Calls Try.prog 9 #[.slice a len cap, .int .u8 n] w fun e w' => e = .returned (.bool true) ∧ Below w.heap.size w w' := by
  obtain ⟨n0, n1⟩ := bd8 hn
  have B0 : Hid (Below w.heap.size w w) := Lib.hid (Below.refl _ _)
  have SP := Lib.hid (spans_any a len cap z w h)
  have SL := Bk.spansL_len z
  have SI := Lib.hid (fun x hx => Bk.spansL_in (l := z) (x := x) hx)
  have SE := Lib.hid (Bk.spansL_err z)
  obtain ⟨l, hl⟩ : ∃ l, Bk.spansL z = l := ⟨_, rfl⟩
  rw [hl] at SP SL SI SE
  obtain ⟨x, q, g, hx⟩ := Bk.freeR_ex l n
  have eg : g = 0 := by rw [hx.1]; exact Bk.errI_zero.2 ⟨SE.out, by unfold Bk.okT; omega⟩
  subst eg
  have NO : ∀ u, 200 ≤ u → ¬ Bk.has l u := fun u hu ⟨y, hy, h1, h2⟩ => by have := SI.out y hy; omega
  have HF : q = true ∧ n ≤ x ∧ x ≤ 300 ∧ ¬ Bk.has l x ∧ ∀ u, n ≤ u → u < x → Bk.has l u := by
    rcases hx.2 with ⟨_, k | k⟩ | k
    · refine ⟨k.1, k.2.1, ?_, k.2.2.2.1, k.2.2.2.2⟩
      apply Classical.byContradiction
      intro c
      exact NO 300 (by omega) (k.2.2.2.2 300 (by omega) (by omega))
    · exact absurd (k.2.2 300 (by omega) (by omega)) (NO 300 (by omega))
    · exact absurd rfl k.1
  obtain ⟨rfl, x0, x1, x2, x3⟩ := HF
  have HX := Lib.hid hx
  have NX := Lib.hid x2
  have YX := Lib.hid x3
  have wn : IntKind.i64.wrap n = n := by rw [IntKind.wrap_i64]; omega
  have t1 : decide (x < n) = false := by rw [decide_eq_false_iff_not]; omega
  clear h hl hx NO x2 x3 hn
  go_enter Try.func9, Try.ntmps9
  go_wp2_with fail
  refine (SP.out).mono ?_
  rintro e V1 ⟨c, rfl, h_c⟩
  have B1 := Lib.hid (below_next B0.out h_c.below)
  have R1 := Lib.hid (h_c.rowS (by omega))
  obtain ⟨a_c, c_c, rfl⟩ := h_c.len
  clear h_c
  clear B0
  go_wp2_with fail
  refine (free_any _ l n x true 0 HX.out _ R1.out).mono ?_
  rintro e V2 ⟨rfl, b⟩
  have B2 := Lib.hid (below_next B1.out b)
  have R2 := Lib.hid (R1.out.below b)
  clear b
  clear R1 B1
  go_wp2_with fail
  refine (lhas_any _ l x false (decide_eq_false NX.out) _ R2.out).mono ?_
  rintro e V3 ⟨rfl, b⟩
  have B3 := Lib.hid (below_next B2.out b)
  have R3 := Lib.hid (R2.out.below b)
  clear b
  clear R2 B2
  go_wp2_with fail
  go_loopw [9] (fun yv wr => ∃ y : Int, n ≤ y ∧ y ≤ x ∧ yv = .int .i64 y ∧ Hid (Below V3.heap.size V3 wr)) (fun yv _ => (x + 1 - intOf yv).toNat)
  case atStart => exact ⟨n, Int.le_refl _, x0, rfl, Lib.hid (Below.refl _ _)⟩
  case round =>
    obtain ⟨y, y0, y1, rfl, hb⟩ := hrel
    by_cases lt : y < x
    · have e0 : decide (y < x) = true := decide_eq_true lt
      have wy : IntKind.i64.wrap (y + 1) = y + 1 := by rw [IntKind.wrap_i64]; omega
      have HY := Lib.hid (YX.out y y0 lt)
      go_wp2_with fail
      refine (lhas_any _ l y true (decide_eq_true HY.out) _ (R3.out.below hb.out)).mono ?_
      rintro e W2 ⟨rfl, b⟩
      have HB := Lib.hid (below_next hb.out b)
      clear b
      go_wp2_with fail
      go_roundw
      case rel => exact ⟨y + 1, by omega, by omega, rfl, HB⟩
      case measure => simp [intOf]; omega
    · have e0 : decide (y < x) = false := decide_eq_false lt
      clear lt
      go_wp2_with fail
      refine (works_any _).mono ?_
      rintro e W2 ⟨rfl, b⟩
      have HB := Lib.hid (below_next (below_next B3.out hb.out) b)
      clear b
      go_wp2_with fail
      go_ret
      exact ⟨rfl, HB.out⟩

set_option maxRecDepth 100000 in
theorem lifted (os : Os) (started : os.Started) (H : Type) (enc : TypeId × Value → H) :
    ReturnsInHanded {} Try.checked os 9 .any (Rows.blackoutFreeSpec.pre6 enc Try.prog Try.f9 Rows.blackoutFreeRow.domain false) (Rows.blackoutFreeSpec.post enc Try.prog Try.f9 false true false false) := by
  refine returnsInHanded_of_change (C := Try.checked) own started (by kernel_rfl) Try.func9
    (ChangeSpec.witness6 (enc := enc) (C := Try.checked) false ⟨#[], #[.slice none 0 0, .int .u8 0], []⟩ 8 (by kernel_rfl) (by kernel_rfl) (by kernel_rfl) (by kernel_rfl)) ?_
  intro W base args ds gs before hval0 hW hcnd _
  have hval : ∀ (j : Nat) t v, Try.f9.params[j]? = some t → args[j]? = some v → Value.okWide Try.prog W .any base t v := hval0
  have hW' := hW
  obtain ⟨p, q, hA0, hV, rfl, hfz, hnd⟩ := hW
  have hA : DataW.TrodAll enc Try.prog W 0 (fun _ => true) true Try.f9.params.toList args.toList ds p := hA0
  rw [Try.params9] at hA hval
  obtain ⟨v0, vs0, d0, ds0, p0, q0, hargs, rfl, rfl, h0, r0⟩ := trodAll_cons hA
  obtain ⟨v1, vs1, d1, ds1, p1, q1, rfl, rfl, rfl, h1, r1⟩ := trodAll_cons r0
  obtain ⟨rfl, rfl, rfl⟩ := trodAll_nil r1
  obtain rfl : args = #[v0, v1] := by cases args; simp_all
  obtain ⟨rfl, rfl⟩ := trodVars_none hV
  obtain ⟨a0, len0, cap0, rfl⟩ := okWide_slice Try.underlying43 (hval 0 43 v0 rfl rfl)
  have k0 := h0
  have lt0 : ∀ x ∈ p0, x.block < W.heap.size := by obtain ⟨m, hm⟩ := k0; exact DataW.trod_lt m _ _ _ hm
  obtain ⟨z0, w0⟩ : ∃ l, InP W a0 len0 cap0 l := by obtain ⟨fuel, hf⟩ := h0; exact open_pairs2 (by simpa [Value.cells] using hf)
  obtain ⟨a1, rfl, rfl, rfl, w1⟩ := open_int Try.underlying5 (hval 1 5 v1 rfl rfl) h1
  clear hA0 hval0
  refine (walk a0 len0 cap0 z0 a1 W w0 w1).mono fun e W' ⟨he, bel⟩ => ?_
  subst he
  exact ⟨_, rfl, _, _, _, [], _, [], hW', trodAll_mk1 (shut_bool Try.underlying4 _), (trodAll_cons_mk (Below.trod laidOut (by kernel_rfl) (of_decide_eq_true (by kernel_rfl)) k0 bel lt0) (trodAll_cons_mk (shut_int Try.underlying5 w1) trodAll_mk0)), rfl, bel.frame _, fun h => by cases h⟩

theorem proved : Rows.BlackoutFreeSaid :=
  OpenClaim.holds_of_wide 9 Try.f9 rfl rfl rfl rfl rfl rfl rfl ⟨rfl, rfl, rfl, rfl, rfl⟩ rfl rfl rfl rfl rfl (by kernel_rfl) Try.func9 (by kernel_rfl)
    (of_decide_eq_true (by kernel_rfl)) (by unfold Func.isWrapper; first | (rw [if_pos (by decide +kernel)]; kernel_rfl) | (rw [if_neg (by decide +kernel)]; exact ⟨rfl, rfl⟩))
    (fun os started H enc _ => lifted os started H enc)

end Go.Proofs.Ytodjipbkeddbcaa.blackoutFree
