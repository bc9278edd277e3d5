/- Contracts of six and digits, of the statements. -/
import Derived.Test.YtlmbfhbfejjpdaaDoorFldQ
import Derived.Lib.ConvBytes
namespace Go.Proofs.YtlmbfhbfejjpdaaDoor
open Go.ChangeShapes Go.WideShapes Go.RowKit Go.Shelf

theorem six_full (i : Nat) (h : i < 6) : fullK (kd6 i) ≠ 0 ∧ fullK (kd6 i) < 2 ^ 64 :=
  six_cases h (P := fun i => fullK (kd6 i) ≠ 0 ∧ fullK (kd6 i) < 2 ^ 64) (by decide) (by decide) (by decide) (by decide) (by decide) (by decide)
/-- the kind i in memory -/
theorem Six.at_ {W : World} {a : Nat} (h : Six W a) (i : Nat) (hi : i < 6) :
    W.cell? ⟨a + 1 + 1, i * 4, none⟩ = some (.int .i64 (kd6 i).lo) ∧ W.cell? ⟨a + 1 + 1, i * 4 + 1, none⟩ = some (.int .i64 (kd6 i).hi) ∧ W.cell? ⟨a + 1 + 1, i * 4 + 2, none⟩ = some (na6 a i) ∧ W.cell? ⟨a + 1 + 1, i * 4 + 3, none⟩ = some (.bool (kd6 i).week) := by
  simp only [h.cell]
  match i, hi with
  | 0, _ => exact ⟨rfl, rfl, rfl, rfl⟩
  | 1, _ => exact ⟨rfl, rfl, rfl, rfl⟩
  | 2, _ => exact ⟨rfl, rfl, rfl, rfl⟩
  | 3, _ => exact ⟨rfl, rfl, rfl, rfl⟩
  | 4, _ => exact ⟨rfl, rfl, rfl, rfl⟩
  | 5, _ => exact ⟨rfl, rfl, rfl, rfl⟩
theorem na6_slice (a i : Nat) (hi : i < 6) : ∃ A L C, na6 a i = .slice A L C ∧ ∀ b o, A = some ⟨b, o, none⟩ → a ≤ b := by
  match i, hi with
  | 0, _ => exact ⟨_, _, _, rfl, fun _ _ h => by cases h⟩
  | 1, _ => exact ⟨_, _, _, rfl, fun _ _ h => by cases h⟩
  | 2, _ => exact ⟨_, _, _, rfl, fun _ _ h => by cases h⟩
  | 3, _ => exact ⟨_, _, _, rfl, fun _ _ h => by cases h⟩
  | 4, _ => exact ⟨_, _, _, rfl, fun _ _ h => by cases h; omega⟩
  | 5, _ => exact ⟨_, _, _, rfl, fun _ _ h => by cases h; omega⟩
set_option maxRecDepth 100000 in
set_option maxHeartbeats 2000000 in
theorem six_any (u : Nat) (hu : u < 256) (i : Nat) (hi : i = u % 6) (w : World) :
    Calls Tryd.prog 20 #[.int .u8 u] w fun e w' => ∃ v, e = .returned (.tuple #[.agg #[.int .i64 (kd6 i).lo, .int .i64 (kd6 i).hi, v, .bool (kd6 i).week], .int .u64 (fullK (kd6 i) : Nat), .bool true]) ∧ Below w.heap.size w w' ∧ IsStrs w' v (xs6 i) := by
  have i6 : i < 6 := by omega
  have tm : (u : Int).tmod 6 = (i : Int) := by rw [Int.tmod_eq_emod_of_nonneg (by omega)]; omega
  have F := Lib.hid (six_full i i6)
  have B0 : Below w.heap.size w (w.alloc (.cells #[.int .i64 0, .int .i64 0, .slice none 0 0, .bool false] 29)) := (Below.refl _ _).alloc (Nat.le_refl _) _
  clear hi
  go_enter Tryd.func20, Tryd.ntmps20
  go_wp2_with fail
  refine (specs_any _).mono ?_
  rintro e w1 ⟨rfl, hb, h6⟩
  have HB := Lib.hid (box_below (by simpa using hb))
  have h6 : Six w1 (w.heap.size + 1) := by simpa using h6
  obtain ⟨c0, c1, c2, c3⟩ := h6.at_ i i6
  have S6 := h6.strs i i6
  obtain ⟨A, L, C, e, hA⟩ := na6_slice (w.heap.size + 1) i i6
  rw [e] at c2 S6
  have lt := h6.lt
  have hs0 : w.heap.size < w1.heap.size := by omega
  have H6 := Lib.hid S6
  obtain ⟨kc, kf⟩ := kept hb
  have m0 : w1.cell? ⟨w.heap.size, 0, none⟩ = some (.int .i64 0) := (kc _ _ (by simp)).trans (by simp [go_sem])
  have m1 : w1.cell? ⟨w.heap.size, 1, none⟩ = some (.int .i64 0) := (kc _ _ (by simp)).trans (by simp [go_sem])
  have m2 : w1.cell? ⟨w.heap.size, 2, none⟩ = some (.slice none 0 0) := (kc _ _ (by simp)).trans (by simp [go_sem])
  have m3 : w1.cell? ⟨w.heap.size, 3, none⟩ = some (.bool false) := (kc _ _ (by simp)).trans (by simp [go_sem])
  have g0 : w1.frozen? ⟨w.heap.size, 0, none⟩ = false := (kf _ _ (by simp)).trans (by simp [go_sem])
  have g1 : w1.frozen? ⟨w.heap.size, 1, none⟩ = false := (kf _ _ (by simp)).trans (by simp [go_sem])
  have g2 : w1.frozen? ⟨w.heap.size, 2, none⟩ = false := (kf _ _ (by simp)).trans (by simp [go_sem])
  have g3 : w1.frozen? ⟨w.heap.size, 3, none⟩ = false := (kf _ _ (by simp)).trans (by simp [go_sem])
  have HA := Lib.hid hA
  clear hb h6 kc kf S6 e hA
  have CF := Lib.hid fun W (h : IsStrs W (.slice A L C) (xs6 i)) => full_yes (kd6 i).lo (kd6 i).hi (.slice A L C) (xs6 i) (kd6 i).week W h (kd6_is i i6).valid
  have N1 : decide ((fullK (kd6 i) : Int) = 0) = false := by have := F.out.1; simp; omega
  have N2 : (((fullK (kd6 i) : Nat) : Int) != 0) = true := by have := F.out.1; simp; omega
  have N3 : decide (fullK (kd6 i) = 0) = false := by have := F.out.1; simp; omega
  have N4 : (fullK (kd6 i) = 0) = False := by have := F.out.1; simp; omega
  go_wp2_with fail
  have B1 : Below w1.heap.size w1 (w1.alloc (.cells #[.int .i64 (kd6 i).lo, .int .i64 (kd6 i).hi, .slice A L C, .bool (kd6 i).week] 29)) := (Below.refl _ _).alloc (Nat.le_refl _) _
  refine (CF.out _ (H6.out.below B1)).mono ?_
  rintro e w2 ⟨rfl, hb⟩
  rw [fullK_is]
  obtain ⟨kc, kf⟩ := kept hb
  have n0 : w2.cell? ⟨w.heap.size, 0, none⟩ = some (.int .i64 0) := (kc _ _ (by simp; omega)).trans (by simp [*, go_sem])
  have n1 : w2.cell? ⟨w.heap.size, 1, none⟩ = some (.int .i64 0) := (kc _ _ (by simp; omega)).trans (by simp [*, go_sem])
  have n2 : w2.cell? ⟨w.heap.size, 2, none⟩ = some (.slice none 0 0) := (kc _ _ (by simp; omega)).trans (by simp [*, go_sem])
  have n3 : w2.cell? ⟨w.heap.size, 3, none⟩ = some (.bool false) := (kc _ _ (by simp; omega)).trans (by simp [*, go_sem])
  have p0 : w2.cell? ⟨w1.heap.size, 0, none⟩ = some (.int .i64 (kd6 i).lo) := (kc _ _ (by simp)).trans (by simp [go_sem])
  have p1 : w2.cell? ⟨w1.heap.size, 1, none⟩ = some (.int .i64 (kd6 i).hi) := (kc _ _ (by simp)).trans (by simp [go_sem])
  have p2 : w2.cell? ⟨w1.heap.size, 2, none⟩ = some (.slice A L C) := (kc _ _ (by simp)).trans (by simp [go_sem])
  have p3 : w2.cell? ⟨w1.heap.size, 3, none⟩ = some (.bool (kd6 i).week) := (kc _ _ (by simp)).trans (by simp [go_sem])
  have f0 : w2.frozen? ⟨w.heap.size, 0, none⟩ = false := (kf _ _ (by simp; omega)).trans (by simp [*, go_sem])
  have f1 : w2.frozen? ⟨w.heap.size, 1, none⟩ = false := (kf _ _ (by simp; omega)).trans (by simp [*, go_sem])
  have f2 : w2.frozen? ⟨w.heap.size, 2, none⟩ = false := (kf _ _ (by simp; omega)).trans (by simp [*, go_sem])
  have f3 : w2.frozen? ⟨w.heap.size, 3, none⟩ = false := (kf _ _ (by simp; omega)).trans (by simp [*, go_sem])
  have HB2 := Lib.hid (HB.out.trans (((B1.trans (hb.mono (by simp))).mono (by omega : w.heap.size ≤ w1.heap.size))))
  have S2 := Lib.hid ((H6.out.below B1).below hb)
  have s2 : w.heap.size < w2.heap.size := by have := hb.size; simp at this; omega
  clear kc kf hb m0 m1 m2 m3 g0 g1 g2 g3 c0 c1 c2 c3
  go_wp2_with fail
  have O : Only w.heap.size w2 ((((w2.setCell ⟨w.heap.size, 0, none⟩ (.int .i64 (kd6 i).lo)).setCell ⟨w.heap.size, 1, none⟩ (.int .i64 (kd6 i).hi)).setCell ⟨w.heap.size, 2, none⟩ (.slice A L C)).setCell ⟨w.heap.size, 3, none⟩ (.bool (kd6 i).week)) :=
    (((Only.set _ _ _ _).trans (Only.set _ _ _ _)).trans (Only.set _ _ _ _)).trans (Only.set _ _ _ _)
  refine bodyPost_ret (v := .tuple #[.agg #[.int .i64 (kd6 i).lo, .int .i64 (kd6 i).hi, .slice A L C, .bool (kd6 i).week], .int .u64 (fullK (kd6 i) : Nat), .bool true]) (by simp [results, Tryd.results20, go_sem, n0, n1, n2, n3]) rfl ⟨_, rfl, ?_, ?_⟩
  · exact (((HB2.out.setCell (Nat.le_refl _) _).setCell (Nat.le_refl _) _).setCell (Nat.le_refl _) _).setCell (Nat.le_refl _) _
  · exact O.lay S2.out (fun b o n c h _ => by cases h; have := HA.out _ _ rfl; omega)

theorem conv_one (W : World) (k : Nat) (x : Int) (hk : W.heap.size = k) :
    (convert 55 9 (.slice (some ⟨k, 0, none⟩) 1 1)).run Tryd.prog (W.alloc (.cells #[.int .u8 x] 5)) = .ok (.string (strOfNums [x])) (W.alloc (.cells #[.int .u8 x] 5)) := by
  subst hk
  exact run_convert_bytes_arg _ 55 5 Tryd.underlying55 Tryd.underlying5 _ 0 1 1 [x] rfl (fun i hi => by
    obtain rfl : i = 0 := by omega
    simp [go_sem]) _ Tryd.underlying9
theorem conv_two (W : World) (k : Nat) (x y : Int) (hk : W.heap.size = k) :
    (convert 55 9 (.slice (some ⟨k, 0, none⟩) 2 2)).run Tryd.prog (W.alloc (.cells #[.int .u8 x, .int .u8 y] 5)) = .ok (.string (strOfNums [x, y])) (W.alloc (.cells #[.int .u8 x, .int .u8 y] 5)) := by
  subst hk
  exact run_convert_bytes_arg _ 55 5 Tryd.underlying55 Tryd.underlying5 _ 0 2 2 [x, y] rfl (fun i hi => by
    have : i = 0 ∨ i = 1 := by omega
    rcases this with rfl | rfl <;> simp [go_sem]) _ Tryd.underlying9
attribute [local go_sem] conv_one conv_two
theorem nums_one (x : Int) (a : Nat) (h : x = a) : strOfNums [x] = ⟨#[UInt8.ofNat a]⟩ := by subst h; rfl
theorem nums_two (x y : Int) (a b : Nat) (h : x = a) (k : y = b) : strOfNums [x, y] = ⟨#[UInt8.ofNat a, UInt8.ofNat b]⟩ := by subst h; subst k; rfl
theorem ret_str {a b : ByteArray} (h : a = b) : Ending.returned (.string a) = .returned (.string b) := by rw [h]
theorem digits_any (n : Nat) (hn : n < 100) (w : World) :
    Calls Tryd.prog 24 #[.int .i64 n] w fun e w' => e = .returned (.string ⟨(dec n).toArray⟩) ∧ Below w.heap.size w w' := by
  by_cases h : n < 10
  · have h1 : decide ((n : Int) < 10) = true := by simp; omega
    have h2 : decide (n < 10) = true := by simp; omega
    have e : dec n = [UInt8.ofNat (48 + n)] := by simp [dec, h]
    rw [e]
    have E := Lib.hid (ret_str (nums_one (48 + n) (48 + n) (by omega)))
    clear e
    go_enter Tryd.func24, Tryd.ntmps24
    go_wp2
    go_ret
    exact ⟨E.out, (Below.refl _ _).alloc (Nat.le_refl _) _⟩
  · have h1 : decide ((n : Int) < 10) = false := by simp; omega
    have h2 : decide (n < 10) = false := by simp; omega
    have e : dec n = [UInt8.ofNat (48 + n / 10), UInt8.ofNat (48 + n % 10)] := by simp [dec, h]
    rw [e]
    have E := Lib.hid (ret_str (nums_two (48 + (n : Int) / 10) (48 + (n : Int) % 10) (48 + n / 10) (48 + n % 10) (by omega) (by omega)))
    clear e
    go_enter Tryd.func24, Tryd.ntmps24
    go_wp2
    go_ret
    exact ⟨E.out, (Below.refl _ _).alloc (Nat.le_refl _) _⟩
end Go.Proofs.YtlmbfhbfejjpdaaDoor
