/- Contracts of six and digits, of the statements. The examples of the chapter hold: what each of the statements asks besides. Kinds as the statements have them, and the document's: short, spec, ref, texts; the document's upper and Check. -/
import Derived.Test.YtpnfifhanmpapaaGreatDoorMFldO
import Derived.Lib.ConvBytes
/- Contracts of six and digits, of the statements. -/
namespace Go.Proofs.YtpnfifhanmpapaaGreatDoor
open Go.ChangeShapes Go.WideShapes Go.RowKit Go.Shelf

theorem six_full (i : Nat) (h : i < 6) : fullK (kd6 i) ≠ 0 ∧ fullK (kd6 i) < 2 ^ 64 :=
  six_cases h (P := fun i => fullK (kd6 i) ≠ 0 ∧ fullK (kd6 i) < 2 ^ 64) (by decide) (by decide) (by decide) (by decide) (by decide) (by decide)
/-- the kind i in memory -/
theorem Six.at_ {W : World} {a : Nat} (h : Six W a) (i : Nat) (hi : i < 6) :
    W.cell? ⟨a + 1 + 1, i * 4, none⟩ = some (.int .i64 (kd6 i).lo) ∧ W.cell? ⟨a + 1 + 1, i * 4 + 1, none⟩ = some (.int .i64 (kd6 i).hi) ∧ W.cell? ⟨a + 1 + 1, i * 4 + 2, none⟩ = some (na6 a i) ∧ W.cell? ⟨a + 1 + 1, i * 4 + 3, none⟩ = some (.bool (kd6 i).week) := by
  simp only [h.cell]
  match i, hi with
  | 0, _ => exact ⟨rfl, rfl, rfl, rfl⟩
  | 1, _ => exact ⟨rfl, rfl, rfl, rfl⟩
  | 2, _ => exact ⟨rfl, rfl, rfl, rfl⟩
  | 3, _ => exact ⟨rfl, rfl, rfl, rfl⟩
  | 4, _ => exact ⟨rfl, rfl, rfl, rfl⟩
  | 5, _ => exact ⟨rfl, rfl, rfl, rfl⟩
theorem na6_slice (a i : Nat) (hi : i < 6) : ∃ A L C, na6 a i = .slice A L C ∧ ∀ b o, A = some ⟨b, o, none⟩ → a ≤ b := by
  match i, hi with
  | 0, _ => exact ⟨_, _, _, rfl, fun _ _ h => by cases h⟩
  | 1, _ => exact ⟨_, _, _, rfl, fun _ _ h => by cases h⟩
  | 2, _ => exact ⟨_, _, _, rfl, fun _ _ h => by cases h⟩
  | 3, _ => exact ⟨_, _, _, rfl, fun _ _ h => by cases h⟩
  | 4, _ => exact ⟨_, _, _, rfl, fun _ _ h => by cases h; omega⟩
  | 5, _ => exact ⟨_, _, _, rfl, fun _ _ h => by cases h; omega⟩
theorem conv_one (W : World) (k : Nat) (x : Int) (hk : W.heap.size = k) :
    (convert 47 9 (.slice (some ⟨k, 0, none⟩) 1 1)).run Tryz.prog (W.alloc (.cells #[.int .u8 x] 5)) = .ok (.string (strOfNums [x])) (W.alloc (.cells #[.int .u8 x] 5)) := by
  subst hk
  exact run_convert_bytes_arg _ 47 5 Tryz.underlying47 Tryz.underlying5 _ 0 1 1 [x] rfl (fun i hi => by
    obtain rfl : i = 0 := by omega
    simp [go_sem]) _ Tryz.underlying9
theorem conv_two (W : World) (k : Nat) (x y : Int) (hk : W.heap.size = k) :
    (convert 47 9 (.slice (some ⟨k, 0, none⟩) 2 2)).run Tryz.prog (W.alloc (.cells #[.int .u8 x, .int .u8 y] 5)) = .ok (.string (strOfNums [x, y])) (W.alloc (.cells #[.int .u8 x, .int .u8 y] 5)) := by
  subst hk
  exact run_convert_bytes_arg _ 47 5 Tryz.underlying47 Tryz.underlying5 _ 0 2 2 [x, y] rfl (fun i hi => by
    have : i = 0 ∨ i = 1 := by omega
    rcases this with rfl | rfl <;> simp [go_sem]) _ Tryz.underlying9
attribute [local go_sem] conv_one conv_two
theorem nums_one (x : Int) (a : Nat) (h : x = a) : strOfNums [x] = ⟨#[UInt8.ofNat a]⟩ := by subst h; rfl
theorem nums_two (x y : Int) (a b : Nat) (h : x = a) (k : y = b) : strOfNums [x, y] = ⟨#[UInt8.ofNat a, UInt8.ofNat b]⟩ := by subst h; subst k; rfl
theorem ret_str {a b : ByteArray} (h : a = b) : Ending.returned (.string a) = .returned (.string b) := by rw [h]
end Go.Proofs.YtpnfifhanmpapaaGreatDoor
/- The examples of the chapter hold: what each of the statements asks besides. -/
namespace Go.Proofs.YtpnfifhanmpapaaGreatDoor
open Go.ChangeShapes Go.WideShapes Go.RowKit Go.Shelf

theorem ex_p1 : Fld.parse (kd6 1) [48, 44, 53, 45, 55] = (225, false, 0, 0) := by decide +kernel
theorem ex_p2 : Fld.parse (kd6 5) [53, 45, 55] = (97, false, 0, 0) := by decide +kernel
theorem ex_p3 : Fld.parse (kd6 1) [57, 57, 44, 120] = (0, false, 3, 10) := by decide +kernel
theorem ex_p4 : Fld.parse (kd6 1) [49, 44, 55, 45, 53] = (0, false, 2, 2) := by decide +kernel
theorem ex_p5 : Fld.parse (kd6 5) [102, 114, 105, 45, 55, 44, 77, 79, 78] = (99, false, 0, 0) := by decide +kernel
theorem ex_m1 : Bit.mem 99 = [0, 1, 5, 6] := by decide +kernel
theorem ex_m2 : Bit.mem 35185445863425 = [0, 15, 30, 45] := by decide +kernel
theorem ex_r1 : Bit.runs (Bit.mem 99) = [(0, 1, 1), (5, 6, 1)] := by
  rw [ex_m1]
  simp [Bit.runs_cons, Bit.runs_nil, Bit.take1, Bit.step1, Bit.keep]
theorem ex_r2 : Bit.runs (Bit.mem 35185445863425) = [(0, 45, 15)] := by
  rw [ex_m2]
  simp [Bit.runs_cons, Bit.runs_nil, Bit.take1, Bit.step1, Bit.keep]
theorem ex_t1 : txt 99 = [48, 45, 49, 44, 53, 45, 54] := by
  unfold txt
  rw [ex_r1]
  decide +kernel
theorem ex_t2 : txt 35185445863425 = [48, 45, 52, 53, 47, 49, 53] := by
  unfold txt
  rw [ex_r2]
  decide +kernel
theorem ex_b1 : subB 99 (fullK (kd6 5)) = true := by decide +kernel
theorem ex_b2 : subB 35185445863425 (fullK (kd6 1)) = true := by decide +kernel
theorem ex_n1 : normR (kd6 5) [102, 114, 105, 45, 55, 44, 77, 79, 78] = ([48, 45, 49, 44, 53, 45, 54], 0, 0) := by
  unfold normR
  rw [ex_p5]
  simp [printR, ex_b1, ex_t1]
theorem ex_n2 : printR (kd6 1) 35185445863425 false = ([48, 45, 52, 53, 47, 49, 53], 0) := by
  simp [printR, ex_b2, ex_t2]
theorem ex_v4 : Valid 1 12 xsM false := (kd6_is 4 (by omega)).valid
theorem w_p1 (w : World) (hv : IsStrs w (.slice none 0 0) []) :
    Calls Tryz.prog 37 #[.agg #[.int .i64 0, .int .i64 59, .slice none 0 0, .bool false], .string ⟨#[48, 44, 53, 45, 55]⟩] w fun e w' => e = .returned (.tuple #[.int .u64 225, .bool false, .int .i64 0, .int .i64 0]) ∧ Below w.heap.size w w' := by
  have h := parse_yes (kd6 1) (.slice none 0 0) [] ⟨#[48, 44, 53, 45, 55]⟩ w hv (kd6_is 1 (by decide)) (by decide)
  rw [show (⟨#[48, 44, 53, 45, 55]⟩ : ByteArray).data.toList = [48, 44, 53, 45, 55] from rfl, ex_p1] at h
  exact h
theorem w_p2 (v : Value) (w : World) (hv : IsStrs w (v) xsW) :
    Calls Tryz.prog 37 #[.agg #[.int .i64 0, .int .i64 6, v, .bool true], .string ⟨#[53, 45, 55]⟩] w fun e w' => e = .returned (.tuple #[.int .u64 97, .bool false, .int .i64 0, .int .i64 0]) ∧ Below w.heap.size w w' := by
  have h := parse_yes (kd6 5) (v) xsW ⟨#[53, 45, 55]⟩ w hv (kd6_is 5 (by decide)) (by decide)
  rw [show (⟨#[53, 45, 55]⟩ : ByteArray).data.toList = [53, 45, 55] from rfl, ex_p2] at h
  exact h
theorem w_p3 (w : World) (hv : IsStrs w (.slice none 0 0) []) :
    Calls Tryz.prog 37 #[.agg #[.int .i64 0, .int .i64 59, .slice none 0 0, .bool false], .string ⟨#[57, 57, 44, 120]⟩] w fun e w' => e = .returned (.tuple #[.int .u64 0, .bool false, .int .i64 3, .int .i64 10]) ∧ Below w.heap.size w w' := by
  have h := parse_yes (kd6 1) (.slice none 0 0) [] ⟨#[57, 57, 44, 120]⟩ w hv (kd6_is 1 (by decide)) (by decide)
  rw [show (⟨#[57, 57, 44, 120]⟩ : ByteArray).data.toList = [57, 57, 44, 120] from rfl, ex_p3] at h
  exact h
theorem w_p4 (w : World) (hv : IsStrs w (.slice none 0 0) []) :
    Calls Tryz.prog 37 #[.agg #[.int .i64 0, .int .i64 59, .slice none 0 0, .bool false], .string ⟨#[49, 44, 55, 45, 53]⟩] w fun e w' => e = .returned (.tuple #[.int .u64 0, .bool false, .int .i64 2, .int .i64 2]) ∧ Below w.heap.size w w' := by
  have h := parse_yes (kd6 1) (.slice none 0 0) [] ⟨#[49, 44, 55, 45, 53]⟩ w hv (kd6_is 1 (by decide)) (by decide)
  rw [show (⟨#[49, 44, 55, 45, 53]⟩ : ByteArray).data.toList = [49, 44, 55, 45, 53] from rfl, ex_p4] at h
  exact h
theorem w_n2 (w : World) (L : Lay w) (hv : IsStrs w (.slice none 0 0) []) :
    Calls Tryz.prog 51 #[.agg #[.int .i64 0, .int .i64 59, .slice none 0 0, .bool false], .int .u64 35185445863425, .bool false] w fun e w' => e = .returned (.tuple #[.string ⟨#[48, 45, 52, 53, 47, 49, 53]⟩, .int .i64 0]) ∧ Below w.heap.size w w' := by
  have h := print_yes (kd6 1) (.slice none 0 0) [] 35185445863425 false w L hv (kd6_is 1 (by decide)) (by decide)
  rw [ex_n2] at h
  exact h
theorem six_cells {W : World} {a : Nat} (h : Six W a) :
    W.cell? ⟨a + 1 + 1, 4, none⟩ = some (.int .i64 0) ∧ W.cell? ⟨a + 1 + 1, 5, none⟩ = some (.int .i64 59) ∧ W.cell? ⟨a + 1 + 1, 6, none⟩ = some (.slice none 0 0) ∧ W.cell? ⟨a + 1 + 1, 7, none⟩ = some (.bool false) ∧
    W.cell? ⟨a + 1 + 1, 16, none⟩ = some (.int .i64 1) ∧ W.cell? ⟨a + 1 + 1, 17, none⟩ = some (.int .i64 12) ∧ W.cell? ⟨a + 1 + 1, 18, none⟩ = some (.slice (some ⟨a, 0, none⟩) 12 12) ∧ W.cell? ⟨a + 1 + 1, 19, none⟩ = some (.bool false) ∧
    W.cell? ⟨a + 1 + 1, 20, none⟩ = some (.int .i64 0) ∧ W.cell? ⟨a + 1 + 1, 21, none⟩ = some (.int .i64 6) ∧ W.cell? ⟨a + 1 + 1, 22, none⟩ = some (.slice (some ⟨a + 1, 0, none⟩) 7 7) ∧ W.cell? ⟨a + 1 + 1, 23, none⟩ = some (.bool true) := by
  simp only [h.cell]
  exact ⟨rfl, rfl, rfl, rfl, rfl, rfl, rfl, rfl, rfl, rfl, rfl, rfl⟩
end Go.Proofs.YtpnfifhanmpapaaGreatDoor
/- Kinds as the statements have them, and the document's: short, spec, ref, texts; the document's upper and Check. -/
namespace Go.Proofs.YtpnfifhanmpapaaGreatDoor
open Go.ChangeShapes Go.WideShapes Go.RowKit Go.Shelf

/-- a kind in block B, in a world since w -/
structure KBox (w W : World) (B : Nat) (lo hi : Int) (v : Value) (xs : List ByteArray) (wk : Bool) : Prop where
  below : Below w.heap.size w W
  lt : B < W.heap.size
  strs : IsStrs W v xs
  c0 : W.cell? ⟨B, 0, none⟩ = some (.int .i64 lo)
  c1 : W.cell? ⟨B, 1, none⟩ = some (.int .i64 hi)
  c2 : W.cell? ⟨B, 2, none⟩ = some v
  c3 : W.cell? ⟨B, 3, none⟩ = some (.bool wk)
theorem KBox.new (w : World) (lo hi : Int) (v : Value) (xs : List ByteArray) (wk : Bool) (t : TypeId) (hv : IsStrs w v xs) : KBox w (w.alloc (.cells #[.int .i64 lo, .int .i64 hi, v, .bool wk] t)) w.heap.size lo hi v xs wk := by
  have B1 : Below w.heap.size w (w.alloc (.cells #[.int .i64 lo, .int .i64 hi, v, .bool wk] t)) := (Below.refl _ _).alloc (Nat.le_refl _) _
  have hh := World.alloc_heap_new w (.cells #[.int .i64 lo, .int .i64 hi, v, .bool wk] t)
  exact ⟨B1, by simp, hv.below B1, by simp only [World.cell?, hh]; rfl, by simp only [World.cell?, hh]; rfl, by simp only [World.cell?, hh]; rfl, by simp only [World.cell?, hh]; rfl⟩
theorem KBox.next {w W W' : World} {B : Nat} {lo hi : Int} {v : Value} {xs : List ByteArray} {wk : Bool} (h : KBox w W B lo hi v xs wk) (hb : Below W.heap.size W W') : KBox w W' B lo hi v xs wk :=
  ⟨h.below.trans (hb.mono h.below.size), Nat.lt_of_lt_of_le h.lt hb.size, h.strs.below hb, (hb.cell (p := ⟨B, 0, none⟩) h.lt).trans h.c0, (hb.cell (p := ⟨B, 1, none⟩) h.lt).trans h.c1, (hb.cell (p := ⟨B, 2, none⟩) h.lt).trans h.c2, (hb.cell (p := ⟨B, 3, none⟩) h.lt).trans h.c3⟩
theorem KBox.drewN {w W : World} {B : Nat} {lo hi : Int} {v : Value} {xs : List ByteArray} {wk : Bool} (h : KBox w W B lo hi v xs wk) (n : Nat) : KBox w (W.drewN n) B lo hi v xs wk := h.next (below_drewN _ W n)
/-- which kinds are looked at -/
theorem short_first (xs : List ByteArray) : (∀ k (h : k < xs.length), k < 70 → xs[k].size ≤ 20) ∨ ∃ k, ∃ h : k < xs.length, k < 70 ∧ 20 < xs[k].size ∧ ∀ j (hj : j < k), (xs[j]'(by omega)).size ≤ 20 := by
  have key : ∀ n, n ≤ xs.length → (∀ k (h : k < xs.length), k < n → k < 70 → xs[k].size ≤ 20) ∨ ∃ k, ∃ h : k < xs.length, k < 70 ∧ 20 < xs[k].size ∧ ∀ j (hj : j < k), (xs[j]'(by omega)).size ≤ 20 := by
    intro n
    induction n with
    | zero => exact fun _ => .inl fun k _ h => by omega
    | succ n ih =>
      intro hn
      rcases ih (by omega) with h | h
      · by_cases c : n < 70 ∧ 20 < (xs[n]'(by omega)).size
        · exact .inr ⟨n, by omega, c.1, c.2, fun j hj => h j (by omega) hj (by omega)⟩
        · refine .inl fun k hk hkn h70 => ?_
          rcases Nat.lt_or_ge k n with a | a
          · exact h k hk a h70
          · obtain rfl : k = n := by omega
            have : ¬ 20 < xs[k].size := fun q => c ⟨h70, q⟩
            omega
      · exact .inr h
  rcases key xs.length (Nat.le_refl _) with h | h
  · exact .inl fun k hk h70 => h k hk hk h70
  · exact .inr h
theorem two_new (w : World) (o1 o2 : Obj) : Below w.heap.size w ((w.alloc o1).alloc o2) := ((Below.refl _ w).alloc (Nat.le_refl _) o1).alloc (by simp) o2
theorem upN_dec {c : Nat} (h : Fld.upN c = true) : decide ((c : Int) < 65) = false ∧ decide ((90 : Int) < (c : Int)) = false := by
  unfold Fld.upN at h
  have h := of_decide_eq_true h
  exact ⟨by rw [decide_eq_false_iff_not]; omega, by rw [decide_eq_false_iff_not]; omega⟩
set_option maxHeartbeats 1000000 in
theorem upperR_any (s : ByteArray) (hs : s.size ≤ 9223372036854775807) (r : Bool) (h : (r = true) ↔ NameB s) (w : World) :
    Calls Tryz.prog 114 #[.string s] w fun e w' => e = .returned (.bool r) ∧ w = w' := by
  rcases up_first s with hup | ⟨k0, hk0, hbad, hgood⟩
  · have hr : r = (decide (1 ≤ s.size) && decide (s.size ≤ 9)) := by
      rw [Bool.eq_iff_iff, h, Bool.and_eq_true, decide_eq_true_iff, decide_eq_true_iff]
      exact ⟨fun q => ⟨q.1, q.2.1⟩, fun q => ⟨q.1, q.2, hup⟩⟩
    have H := Lib.hid hup
    clear hup h
    have key : (r = false ∧ decide ((1 : Int) ≤ (s.size : Int)) = false ∧ decide (1 ≤ s.size) = false ∧ s.size = 0) ∨ (decide ((1 : Int) ≤ (s.size : Int)) = true ∧ decide (1 ≤ s.size) = true ∧ decide ((s.size : Int) ≤ 9) = r ∧ decide (s.size ≤ 9) = r ∧ 1 ≤ s.size) := by
      by_cases c : 1 ≤ s.size
      · right
        rw [decide_eq_true c, Bool.true_and] at hr
        refine ⟨by rw [decide_eq_true_iff]; omega, decide_eq_true c, ?_, hr.symm, c⟩
        rw [hr, decide_eq_decide]; omega
      · left
        rw [decide_eq_false c, Bool.false_and] at hr
        exact ⟨hr, by rw [decide_eq_false_iff_not]; omega, decide_eq_false c, by omega⟩
    clear hr
    rcases key with ⟨rfl, y1, y2, hz⟩ | ⟨y1, y2, y3, y4, hz⟩
    · obtain rfl := str_empty hz
      clear hz y1 y2
      go_enter Tryz.func114, Tryz.ntmps114
      go_wp2_with fail
      go_loop [3] (fun i => i = .int .i64 0) (fun _ => 0)
      case atStart => rfl
      case round =>
        subst hrel
        go_wp2_with fail
        go_ret
        exact ⟨rfl, rfl⟩
    · clear hz
      go_enter Tryz.func114, Tryz.ntmps114
      go_wp2_with fail
      go_loop [3] (fun i => ∃ k : Nat, k ≤ s.size ∧ i = .int .i64 k) (fun i => s.size - (intOf i).toNat)
      case atStart => exact ⟨0, Nat.zero_le _, rfl⟩
      case round =>
        obtain ⟨k, hk, rfl⟩ := hrel
        by_cases hlt : k < s.size
        · obtain ⟨u1, u2⟩ := upN_dec (H.out k hlt)
          go_wp2_with fail
          go_round
          case rel => exact ⟨k + 1, by omega, by go_num⟩
          case measure => simp [intOf]; omega
        · go_wp2_with fail
          go_ret
          exact ⟨rfl, rfl⟩
  · have hr : r = false := by
      rw [Bool.eq_false_iff, Ne, h]
      intro q
      rw [q.2.2 k0 hk0] at hbad
      cases hbad
    subst hr
    have H := Lib.hid hgood
    have hb2 : decide ((s[k0].toNat : Int) < 65) = true ∨ (decide ((s[k0].toNat : Int) < 65) = false ∧ decide ((90 : Int) < (s[k0].toNat : Int)) = true) := by
      unfold Fld.upN at hbad
      have hbad := of_decide_eq_false hbad
      rw [decide_eq_true_iff, decide_eq_false_iff_not, decide_eq_true_iff]
      omega
    have HB := Lib.hid hb2
    clear hgood hbad h hb2
    go_enter Tryz.func114, Tryz.ntmps114
    go_wp2_with fail
    go_loop [3] (fun i => ∃ k : Nat, k ≤ k0 ∧ i = .int .i64 k) (fun i => s.size - (intOf i).toNat)
    case atStart => exact ⟨0, Nat.zero_le _, rfl⟩
    case round =>
      obtain ⟨k, hk, rfl⟩ := hrel
      by_cases hlt : k < k0
      · have hk1 : k < s.size := by omega
        obtain ⟨u1, u2⟩ := upN_dec (H.out k hlt)
        go_wp2_with fail
        go_round
        case rel => exact ⟨k + 1, by omega, by go_num⟩
        case measure => simp [intOf]; omega
      · obtain rfl : k = k0 := by omega
        rcases HB.out with u1 | ⟨u1, u2⟩
        all_goals
          go_wp2_with fail
          go_ret
          exact ⟨rfl, rfl⟩
end Go.Proofs.YtpnfifhanmpapaaGreatDoor
