/- Parse, of package zone and of the document's: the zone whose text a text is, and the error for each other text. -/
import Derived.Test.YtbnhbfemoaokkaaDoorZonE
namespace Go.Proofs.YtbnhbfemoaokkaaDoor
open Go.ChangeShapes Go.RowKit

/-- the text of a zone -/
def zstr (z : Int) : ByteArray := strOfNums (Zon.zl z)
theorem ZT.str {z s a b c d : Int} (h : ZT z s a b c d) : strOfNums [s, a, b, 58, c, d] = zstr z := by
  obtain ⟨rfl, rfl, rfl, rfl, rfl⟩ := h
  rfl
theorem byte_of {n : Int} (h0 : 0 ≤ n) (h1 : n < 256) : bt (UInt8.ofNat n.toNat) = n := by
  unfold bt
  rw [UInt8.toNat_ofNat_of_lt' (show n.toNat < UInt8.size by rw [show UInt8.size = 256 from rfl]; omega)]
  omega
theorem of_byte {b : UInt8} {n : Int} (h : n = bt b) : UInt8.ofNat n.toNat = b := by
  subst h
  simp [bt]
theorem str_six (s a b x c d : Int) : strOfNums [s, a, b, x, c, d] = six (UInt8.ofNat s.toNat) (UInt8.ofNat a.toNat) (UInt8.ofNat b.toNat) (UInt8.ofNat x.toNat) (UInt8.ofNat c.toNat) (UInt8.ofNat d.toNat) := rfl
theorem ztext_yes (z : Int) (w : World) (z0 : -840 ≤ z) (z1 : z ≤ 840) :
    Calls Tryd.prog 14 #[.int .i64 z] w fun e w' => e = .returned (.tuple #[.string (zstr z), .int .i64 0]) ∧ Below w.heap.size w w' := by
  obtain ⟨s, a, b, c, d, h⟩ := zt_ex z
  rw [← h.str]
  exact text_yes z s a b c d w z0 z1 h
theorem ztextR_yes (z : Int) (w : World) (z0 : -840 ≤ z) (z1 : z ≤ 840) :
    Calls Tryd.prog 15 #[.int .i64 z] w fun e w' => e = .returned (.tuple #[.string (zstr z), .int .i64 0]) ∧ Below w.heap.size w w' := by
  obtain ⟨s, a, b, c, d, h⟩ := zt_ex z
  rw [← h.str]
  exact textR_yes z s a b c d w z0 z1 h
theorem zstr_size (z : Int) : (zstr z).size = 6 := rfl

theorem parse_yes (z : Int) (w : World) (z0 : -840 ≤ z) (z1 : z ≤ 840) :
    Calls Tryd.prog 16 #[.string (zstr z)] w fun e w' => e = .returned (.tuple #[.int .i64 z, .int .i64 0]) ∧ Below w.heap.size w w' := by
  obtain ⟨s, a, b, c, d, h⟩ := zt_ex z
  rw [← h.str, str_six]
  obtain ⟨hs, ha, hb, hc, hd⟩ := h.bd z0 z1
  have e0 := byte_of (n := s) (by omega) (by omega)
  have e1 := byte_of (n := a) (by omega) (by omega)
  have e2 := byte_of (n := b) (by omega) (by omega)
  have e3 := byte_of (n := 58) (by omega) (by omega)
  have e4 := byte_of (n := c) (by omega) (by omega)
  have e5 := byte_of (n := d) (by omega) (by omega)
  refine parse_near _ _ _ _ _ _ z s a b c d z 0 w ?_ z0 z1 h (.inl ⟨?_, rfl, rfl⟩)
  · rw [e0, e1, e2, e4, e5, ← h.hs, ← h.ha, ← h.hb, ← h.hc, ← h.hd]
    exact Zon.rd_zl z0 z1
  · rw [e0, e1, e2, e3, e4, e5]
    exact same6_t ..
theorem parse_no (T : ByteArray) (w : World) (h : ∀ z, -840 ≤ z → z ≤ 840 → zstr z ≠ T) :
    Calls Tryd.prog 16 #[.string T] w fun e w' => e = .returned (.tuple #[.int .i64 0, .int .i64 10]) ∧ Below w.heap.size w w' := by
  by_cases hz : T.size = 6
  · obtain ⟨x0, x1, x2, x3, x4, x5, rfl⟩ := six_ex T hz
    obtain ⟨n, hn⟩ : ∃ n, Zon.rd (bt x0) (bt x1) (bt x2) (bt x4) (bt x5) = n := ⟨_, rfl⟩
    by_cases c : n < -840 ∨ 840 < n
    · exact parse_far x0 x1 x2 x3 x4 x5 w (by rw [hn]; exact c)
    · obtain ⟨s, a, b, c', d, hT⟩ := zt_ex n
      refine parse_near _ _ _ _ _ _ n s a b c' d 0 10 w hn (by omega) (by omega) hT (.inr ⟨?_, rfl, rfl⟩)
      refine same6_f ?_
      rintro ⟨e0, e1, e2, e3, e4, e5⟩
      apply h n (by omega) (by omega)
      rw [← hT.str, str_six, of_byte e0, of_byte e1, of_byte e2, of_byte e3, of_byte e4, of_byte e5]
  · exact parse_len T w hz

theorem zstr_inj {z z' : Int} (a : -840 ≤ z) (b : z ≤ 840) (a' : -840 ≤ z') (b' : z' ≤ 840) (h : zstr z = zstr z') : z = z' := by
  obtain ⟨s, x, y, c, d, hT⟩ := zt_ex z
  obtain ⟨s', x', y', c', d', hT'⟩ := zt_ex z'
  rw [← hT.str, ← hT'.str, str_six, str_six] at h
  obtain ⟨hs, hx, hy, hc, hd⟩ := hT.bd a b
  obtain ⟨hs', hx', hy', hc', hd'⟩ := hT'.bd a' b'
  simp only [six, ByteArray.mk.injEq, Array.mk.injEq, List.cons.injEq, and_true] at h
  obtain ⟨h0, h1, h2, _, h4, h5⟩ := h
  have k : ∀ {n m : Int}, 0 ≤ n → n < 256 → 0 ≤ m → m < 256 → UInt8.ofNat n.toNat = UInt8.ofNat m.toNat → n = m := fun p q r t e => by
    rw [← byte_of p q, ← byte_of r t, e]
  have e0 := k (by omega) (by omega) (by omega) (by omega) h0
  have e1 := k (by omega) (by omega) (by omega) (by omega) h1
  have e2 := k (by omega) (by omega) (by omega) (by omega) h2
  have e4 := k (by omega) (by omega) (by omega) (by omega) h4
  have e5 := k (by omega) (by omega) (by omega) (by omega) h5
  apply Zon.zl_inj a b a' b'
  unfold Zon.zl
  rw [hT.hs, hT.ha, hT.hb, hT.hc, hT.hd, hT'.hs, hT'.ha, hT'.hb, hT'.hc, hT'.hd, e0, e1, e2, e4, e5]

/-- the test that the walk makes of two texts -/
theorem str_ne {a b : ByteArray} (h : a ≠ b) : (a.toList == b.toList) = false := by
  rw [beq_eq_false_iff_ne]
  intro e
  rw [ByteArray.toList_eq, ByteArray.toList_eq] at e
  exact h (ByteArray.ext (Array.toList_inj.1 e))
set_option maxRecDepth 100000 in
theorem parseR_any (T : ByteArray) (v r : Int) (w : World) (h : (-840 ≤ v ∧ v ≤ 840 ∧ zstr v = T ∧ r = 0) ∨ (v = 0 ∧ r = 10 ∧ ∀ z, -840 ≤ z → z ≤ 840 → zstr z ≠ T)) :
    Calls Tryd.prog 17 #[.string T] w fun e w' => e = .returned (.tuple #[.int .i64 v, .int .i64 r]) ∧ Below w.heap.size w w' := by
  have HH := Lib.hid h
  clear h
  go_enter Tryd.func17, Tryd.ntmps17
  go_wp2_with fail
  go_loopw [4, 5, 6] (fun i _ _ wr => Below w.heap.size w wr ∧ ∃ k : Int, -840 ≤ k ∧ k ≤ 841 ∧ i = .int .i64 k ∧ Hid (∀ z, -840 ≤ z → z < k → zstr z ≠ T)) (fun i _ _ _ => (841 - intOf i).toNat)
  case atStart => exact ⟨Below.refl _ _, -840, by omega, by omega, rfl, Lib.hid (fun z a b => by omega)⟩
  case round =>
    obtain ⟨bel, k, k0, k1, rfl, hno⟩ := hrel
    by_cases c : k ≤ 840
    · obtain ⟨K, hK⟩ : ∃ K, zstr k = K := ⟨_, rfl⟩
      have A := Lib.hid (fun w => ztextR_yes k w k0 c)
      rw [hK] at A
      have HK := Lib.hid hK
      clear hK
      by_cases q : K = T
      · subst q
        go_wp2_with fail
        refine (A.out _).mono ?_
        rintro e w1 ⟨rfl, b1⟩
        go_wp2_with fail
        go_ret2
        rcases HH.out with ⟨v0, v1, hv, rfl⟩ | ⟨_, _, hn⟩
        · obtain rfl := zstr_inj v0 v1 k0 c (hv.trans HK.out.symm)
          exact ⟨rfl, bel.trans (b1.mono bel.size)⟩
        · exact absurd HK.out (hn k k0 c)
      · have q1 := str_ne q
        have Q := Lib.hid q
        clear q
        go_wp2_with fail
        refine (A.out _).mono ?_
        rintro e w1 ⟨rfl, b1⟩
        go_wp2_with fail
        go_roundw
        case rel => exact ⟨bel.trans (b1.mono bel.size), k + 1, by omega, by omega, by go_num, Lib.hid (fun z a b => by
          by_cases e : z = k
          · subst e; rw [HK.out]; exact Q.out
          · exact hno.out z a (by omega))⟩
        case measure => simp [intOf]; omega
    · obtain rfl : k = 841 := by omega
      clear c
      go_wp2_with fail
      go_ret2
      rcases HH.out with ⟨v0, v1, hv, rfl⟩ | ⟨rfl, rfl, _⟩
      · exact absurd hv (hno.out v v0 (by omega))
      · exact ⟨rfl, bel⟩

theorem parse_both (T : ByteArray) : ∃ v r : Int, ((-840 ≤ v ∧ v ≤ 840 ∧ zstr v = T ∧ r = 0) ∨ (v = 0 ∧ r = 10 ∧ ∀ z, -840 ≤ z → z ≤ 840 → zstr z ≠ T)) ∧
    (∀ w, Calls Tryd.prog 16 #[.string T] w fun e w' => e = .returned (.tuple #[.int .i64 v, .int .i64 r]) ∧ Below w.heap.size w w') ∧
    (∀ w, Calls Tryd.prog 17 #[.string T] w fun e w' => e = .returned (.tuple #[.int .i64 v, .int .i64 r]) ∧ Below w.heap.size w w') := by
  by_cases h : ∃ z, -840 ≤ z ∧ z ≤ 840 ∧ zstr z = T
  · obtain ⟨z, z0, z1, rfl⟩ := h
    exact ⟨z, 0, .inl ⟨z0, z1, rfl, rfl⟩, fun w => parse_yes z w z0 z1, fun w => parseR_any _ _ _ w (.inl ⟨z0, z1, rfl, rfl⟩)⟩
  · have hn : ∀ z, -840 ≤ z → z ≤ 840 → zstr z ≠ T := fun z a b e => h ⟨z, a, b, e⟩
    exact ⟨0, 10, .inr ⟨rfl, rfl, hn⟩, fun w => parse_no T w hn, fun w => parseR_any _ _ _ w (.inr ⟨rfl, rfl, hn⟩)⟩
theorem text_both (z : Int) : ∃ (S : ByteArray) (r : Int), ((-840 ≤ z ∧ z ≤ 840 ∧ S = zstr z ∧ r = 0) ∨ ((z < -840 ∨ 840 < z) ∧ S = ⟨#[]⟩ ∧ r = 2)) ∧
    (∀ w, Calls Tryd.prog 14 #[.int .i64 z] w fun e w' => e = .returned (.tuple #[.string S, .int .i64 r]) ∧ Below w.heap.size w w') ∧
    (∀ w, Calls Tryd.prog 15 #[.int .i64 z] w fun e w' => e = .returned (.tuple #[.string S, .int .i64 r]) ∧ Below w.heap.size w w') := by
  by_cases c : z < -840 ∨ 840 < z
  · exact ⟨_, _, .inr ⟨c, rfl, rfl⟩, fun w => (text_no z w c).mono fun _ _ ⟨h1, h2⟩ => ⟨h1, by subst h2; exact Below.refl _ _⟩, fun w => (textR_no z w c).mono fun _ _ ⟨h1, h2⟩ => ⟨h1, by subst h2; exact Below.refl _ _⟩⟩
  · exact ⟨_, _, .inl ⟨by omega, by omega, rfl, rfl⟩, fun w => ztext_yes z w (by omega) (by omega), fun w => ztextR_yes z w (by omega) (by omega)⟩
theorem check_both (z : Int) : ∃ r : Int,
    (∀ w, Calls Tryd.prog 18 #[.int .i64 z] w fun e w' => e = .returned (.int .i64 r) ∧ w = w') ∧
    (∀ w, Calls Tryd.prog 19 #[.int .i64 z] w fun e w' => e = .returned (.int .i64 r) ∧ w = w') := by
  by_cases c : z < -840 ∨ 840 < z
  · exact ⟨_, fun w => check_no z w c, fun w => checkR_no z w c⟩
  · exact ⟨_, fun w => check_yes z w (by omega) (by omega), fun w => checkR_yes z w (by omega) (by omega)⟩
end Go.Proofs.YtbnhbfemoaokkaaDoor
