/- Contracts of Of, of package bits and of the document's: the set of a slice's numbers, or the error; the world stays. -/
import Derived.Test.YteabmnaepmkkaaaDoorBitE
import Derived.OwnWalk
import Derived.Maps.AppendAt
namespace Go.Proofs.YteabmnaepmkkaaaDoor
open Go.ChangeShapes Go.RowKit

/-- what is known of a slice of integers: nil, or a row of cap cells, whose numbers are zs -/
def IsRow (k : IntKind) (w : World) (a : Option Addr) (len cap : Nat) (zs : List Int) : Prop :=
  (a = none ∧ len = 0 ∧ cap = 0 ∧ zs = []) ∨
  ∃ x, a = some x ∧ len ≤ cap ∧ cap ≤ maxLen ∧ zs.length = cap ∧ (∀ i, i < zs.length → w.cell? (x.add i) = some (.int k (zs.getD i 0))) ∧ ∀ n ∈ zs, (Lit.int k n).wf = true
theorem add_flat (b off i : Nat) : (Addr.add ⟨b, off, none⟩ i) = ⟨b, off + i, none⟩ := by
  unfold Addr.add; split <;> simp_all
/-- a row that is not empty lies at a plain address -/
theorem IsRow.spot {w : World} {a : Option Addr} {len cap : Nat} {zs : List Int} (h : IsRow .i64 w a len cap zs) (h0 : 0 < len) :
    ∃ b off, a = some ⟨b, off, none⟩ ∧ len ≤ zs.length ∧ len ≤ 9223372036854775807 ∧ (∀ i, i < len → w.cell? ⟨b, off + i, none⟩ = some (.int .i64 (zs.getD i 0))) := by
  rcases h with ⟨_, h, _, _⟩ | ⟨x, rfl, h1, h2, h3, h4, h5⟩
  · omega
  · obtain ⟨b, off, s⟩ := x
    have hs : s = none := by simpa [Addr.add] using World.cell?_spot (h4 0 (by omega))
    subst hs
    exact ⟨b, off, rfl, by omega, by unfold maxLen at h2; omega, fun i hi => by rw [← add_flat]; exact h4 i (by omega)⟩
theorem take_succ_getD (zs : List Int) (k : Nat) (h : k < zs.length) : zs.take (k + 1) = zs.take k ++ [zs.getD k 0] := by
  rw [List.take_succ_eq_append_getElem h]; simp [h]

/-- is this a number that a set can have? -/
def okN (z : Int) : Prop := 0 ≤ z ∧ z < 64
/-- the set of a list of numbers -/
def setOf (zs : List Int) : Nat := Bit.ofL 0 (zs.map Int.toNat)
theorem setOf_snoc (zs : List Int) (z : Int) : setOf (zs ++ [z]) = setOf zs ||| 2 ^ z.toNat := by
  unfold setOf Bit.ofL
  rw [List.map_append, List.foldl_append]
  rfl
theorem setOf_lt {zs : List Int} (h : ∀ z ∈ zs, okN z) : setOf zs < 2 ^ 64 := by
  apply Bit.ofL_lt _ _ (by decide)
  intro v hv
  obtain ⟨z, hz, rfl⟩ := List.mem_map.1 hv
  have := h z hz
  unfold okN at this
  omega
/-- what Of returns -/
def IsOf (zs : List Int) (s : Nat) (r : Int) : Prop := ((∀ z ∈ zs, okN z) ∧ s = setOf zs ∧ r = 0) ∨ (¬ (∀ z ∈ zs, okN z) ∧ s = 0 ∧ r = 3)
theorem isOf_ex (zs : List Int) : ∃ s r, IsOf zs s r := by
  by_cases h : ∀ z ∈ zs, okN z
  · exact ⟨_, _, .inl ⟨h, rfl, rfl⟩⟩
  · exact ⟨_, _, .inr ⟨h, rfl, rfl⟩⟩

theorem of_nil (a : Option Addr) (cap : Nat) (w : World) : Calls Tryd.prog 15 #[.slice a 0 cap] w fun e w' => e = .returned (.tuple #[.int .u64 0, .int .i64 0]) ∧ w = w' := by
  go_enter Tryd.func15, Tryd.ntmps15
  go_wp2
  go_loop [4, 9] (fun t i => i = .int .i64 0 ∧ t = .int .u64 0) (fun _ _ => 0)
  case atStart => exact ⟨rfl, rfl⟩
  case round =>
    obtain ⟨rfl, rfl⟩ := hrel
    go_wp2
    go_ret2
    exact ⟨rfl, rfl⟩
theorem ofR_nil (a : Option Addr) (cap : Nat) (w : World) : Calls Tryd.prog 16 #[.slice a 0 cap] w fun e w' => e = .returned (.tuple #[.int .u64 0, .int .i64 0]) ∧ w = w' := by
  go_enter Tryd.func16, Tryd.ntmps16
  go_wp2
  go_loop [4, 5] (fun t i => i = .int .i64 0 ∧ t = .int .u64 0) (fun _ _ => 0)
  case atStart => exact ⟨rfl, rfl⟩
  case round =>
    obtain ⟨rfl, rfl⟩ := hrel
    go_wp2
    go_ret2
    exact ⟨rfl, rfl⟩
theorem of_row (b off len cap : Nat) (zs : List Int) (s : Nat) (r : Int) (w : World) (hz : len = zs.length) (hm : len ≤ 9223372036854775807) (hc : ∀ i, i < len → w.cell? ⟨b, off + i, none⟩ = some (.int .i64 (zs.getD i 0))) (h : IsOf zs s r) :
    Calls Tryd.prog 15 #[.slice (some ⟨b, off, none⟩) len cap] w fun e w' => e = .returned (.tuple #[.int .u64 s, .int .i64 r]) ∧ w = w' := by
  have HC := Lib.hid hc
  have HH := Lib.hid h
  have HZ := Lib.hid hz
  have XT := Lib.hid (fun v w h0 h1 => exists_t v w h0 h1)
  have XF := Lib.hid (fun v w h => exists_f v w h)
  clear hc h hz
  go_enter Tryd.func15, Tryd.ntmps15
  go_wp2_with fail
  go_loop [4, 9] (fun s i => ∃ k : Nat, k ≤ len ∧ i = .int .i64 k ∧ s = .int .u64 (setOf (zs.take k) : Nat) ∧ Hid (∀ z ∈ zs.take k, okN z)) (fun _ i => len - (intOf i).toNat)
  case atStart => exact ⟨0, Nat.zero_le _, rfl, rfl, Lib.hid (fun z h => by simp at h)⟩
  case round =>
    obtain ⟨k, hk, rfl, rfl, ok⟩ := hrel
    by_cases hlt : k < len
    · have hcell : w.cell? ⟨b, off + k, none⟩ = some (.int .i64 (zs.getD k 0)) := HC.out k hlt
      have kz : k < zs.length := by rw [← HZ.out]; exact hlt
      have ST := Lib.hid (setOf_snoc (zs.take k) (zs.getD k 0))
      have TK := Lib.hid (take_succ_getD zs k kz)
      have MEM := Lib.hid (show zs.getD k 0 ∈ zs by simp [kz])
      have sl := setOf_lt ok.out
      obtain ⟨z, hzz⟩ : ∃ z, zs.getD k 0 = z := ⟨_, rfl⟩
      rw [hzz] at hcell ST TK MEM
      obtain ⟨x, hx⟩ : ∃ x, setOf (zs.take k) = x := ⟨_, rfl⟩
      rw [hx] at sl ST ⊢
      clear hzz kz hx
      by_cases c : 0 ≤ z ∧ z < 64
      · obtain ⟨n, rfl⟩ := Int.eq_ofNat_of_zero_le c.1
        have n64 : n < 64 := by omega
        have or_ : bits .or .u64 (x : Nat) ((2 ^ n : Nat) : Int) = (x ||| 2 ^ n : Nat) := u64_or_nat _ _ sl (Bit.one_lt n64)
        have A := Lib.hid (fun w => XT.out (n : Int) w c.1 c.2)
        have O := Lib.hid (fun w => only_any n w n64)
        obtain ⟨m, hm⟩ : ∃ m : Nat, 2 ^ n = m := ⟨_, rfl⟩
        obtain ⟨y, hy⟩ : ∃ y : Nat, x ||| 2 ^ n = y := ⟨_, rfl⟩
        have HY := Lib.hid hy
        rw [hy, hm] at or_
        rw [hm] at O
        have c64 := Lib.hid c
        clear hm hy c
        go_wp2_with fail
        refine (A.out _).mono ?_
        rintro e w1 ⟨rfl, rfl⟩
        go_wp2_with fail
        refine (O.out _).mono ?_
        rintro e w1 ⟨rfl, rfl⟩
        go_wp2_with fail
        go_round
        case rel => exact ⟨k + 1, by omega, by go_num, by rw [TK.out, ST.out, ← HY.out]; rfl, Lib.hid (fun q hq => by
          rw [TK.out] at hq
          rcases List.mem_append.1 hq with hq | hq
          · exact ok.out q hq
          · obtain rfl : q = n := by simpa using hq
            exact c64.out)⟩
        case measure => simp [intOf]; omega
      · have A := Lib.hid (fun w => XF.out z w (by omega))
        have c64 := Lib.hid c
        clear c
        go_wp2_with fail
        refine (A.out _).mono ?_
        rintro e w1 ⟨rfl, rfl⟩
        go_wp2_with fail
        go_ret2
        rcases HH.out with ⟨h, _, _⟩ | ⟨_, rfl, rfl⟩
        · exact absurd (h z MEM.out) c64.out
        · exact ⟨rfl, rfl⟩
    · obtain rfl : k = len := by omega
      have e : zs.take k = zs := by rw [HZ.out]; simp
      rw [e] at ok ⊢
      have OK := ok
      go_wp2_with fail
      go_ret2
      rcases HH.out with ⟨_, rfl, rfl⟩ | ⟨h, _, _⟩
      · exact ⟨rfl, rfl⟩
      · exact absurd OK.out h
theorem ofR_row (b off len cap : Nat) (zs : List Int) (s : Nat) (r : Int) (w : World) (hz : len = zs.length) (hm : len ≤ 9223372036854775807) (hc : ∀ i, i < len → w.cell? ⟨b, off + i, none⟩ = some (.int .i64 (zs.getD i 0))) (h : IsOf zs s r) :
    Calls Tryd.prog 16 #[.slice (some ⟨b, off, none⟩) len cap] w fun e w' => e = .returned (.tuple #[.int .u64 s, .int .i64 r]) ∧ w = w' := by
  have HC := Lib.hid hc
  have HH := Lib.hid h
  have HZ := Lib.hid hz
  clear hc h hz
  go_enter Tryd.func16, Tryd.ntmps16
  go_wp2_with fail
  go_loop [4, 5] (fun s i => ∃ k : Nat, k ≤ len ∧ i = .int .i64 k ∧ s = .int .u64 (setOf (zs.take k) : Nat) ∧ Hid (∀ z ∈ zs.take k, okN z)) (fun _ i => len - (intOf i).toNat)
  case atStart => exact ⟨0, Nat.zero_le _, rfl, rfl, Lib.hid (fun z h => by simp at h)⟩
  case round =>
    obtain ⟨k, hk, rfl, rfl, ok⟩ := hrel
    by_cases hlt : k < len
    · have hcell : w.cell? ⟨b, off + k, none⟩ = some (.int .i64 (zs.getD k 0)) := HC.out k hlt
      have kz : k < zs.length := by rw [← HZ.out]; exact hlt
      have ST := Lib.hid (setOf_snoc (zs.take k) (zs.getD k 0))
      have TK := Lib.hid (take_succ_getD zs k kz)
      have MEM := Lib.hid (show zs.getD k 0 ∈ zs by simp [kz])
      have sl := setOf_lt ok.out
      obtain ⟨z, hzz⟩ : ∃ z, zs.getD k 0 = z := ⟨_, rfl⟩
      rw [hzz] at hcell ST TK MEM
      obtain ⟨x, hx⟩ : ∃ x, setOf (zs.take k) = x := ⟨_, rfl⟩
      rw [hx] at sl ST ⊢
      clear hzz kz hx
      by_cases c : 0 ≤ z ∧ z < 64
      · obtain ⟨n, rfl⟩ := Int.eq_ofNat_of_zero_le c.1
        have n64 : n < 64 := by omega
        have or_ : bits .or .u64 (x : Nat) ((2 ^ n : Nat) : Int) = (x ||| 2 ^ n : Nat) := u64_or_nat _ _ sl (Bit.one_lt n64)
        have w1 : IntKind.u64.wrap ((2 : Int) ^ n) = ((2 ^ n : Nat) : Int) := wrap_pow n64
        have d0 : decide ((n : Int) < 0) = false := by simp
        have d1 : decide (63 < (n : Int)) = false := by simp; omega
        obtain ⟨m, hm⟩ : ∃ m : Nat, 2 ^ n = m := ⟨_, rfl⟩
        obtain ⟨y, hy⟩ : ∃ y : Nat, x ||| 2 ^ n = y := ⟨_, rfl⟩
        have HY := Lib.hid hy
        rw [hy, hm] at or_
        rw [hm] at w1
        have c64 := Lib.hid c
        clear hm hy c
        go_wp2_with fail
        go_round
        case rel => exact ⟨k + 1, by omega, by go_num, by rw [TK.out, ST.out, ← HY.out]; rfl, Lib.hid (fun q hq => by
          rw [TK.out] at hq
          rcases List.mem_append.1 hq with hq | hq
          · exact ok.out q hq
          · obtain rfl : q = n := by simpa using hq
            exact c64.out)⟩
        case measure => simp [intOf]; omega
      · have c64 := Lib.hid c
        by_cases c0 : z < 0
        · have d0 : decide (z < 0) = true := by simpa using c0
          clear c c0
          go_wp2_with fail
          go_ret2
          rcases HH.out with ⟨h, _, _⟩ | ⟨_, rfl, rfl⟩
          · exact absurd (h z MEM.out) c64.out
          · exact ⟨rfl, rfl⟩
        · have d0 : decide (z < 0) = false := by simpa using c0
          have d1 : decide (63 < z) = true := by simp; omega
          clear c c0
          go_wp2_with fail
          go_ret2
          rcases HH.out with ⟨h, _, _⟩ | ⟨_, rfl, rfl⟩
          · exact absurd (h z MEM.out) c64.out
          · exact ⟨rfl, rfl⟩
    · obtain rfl : k = len := by omega
      have e : zs.take k = zs := by rw [HZ.out]; simp
      rw [e] at ok ⊢
      have OK := ok
      go_wp2_with fail
      go_ret2
      rcases HH.out with ⟨_, rfl, rfl⟩ | ⟨h, _, _⟩
      · exact ⟨rfl, rfl⟩
      · exact absurd OK.out h
theorem isOf_nil {s : Nat} {r : Int} (h : IsOf [] s r) : s = 0 ∧ r = 0 := by
  rcases h with ⟨_, rfl, rfl⟩ | ⟨h, _, _⟩
  · exact ⟨rfl, rfl⟩
  · exact absurd (fun z hz => by simp at hz) h
/-- of a slice that came in -/
theorem of_came (a : Option Addr) (len cap : Nat) (zs : List Int) (s : Nat) (r : Int) (w : World) (hr : IsRow .i64 w a len cap zs) (h : IsOf (zs.take len) s r) :
    (Calls Tryd.prog 15 #[.slice a len cap] w fun e w' => e = .returned (.tuple #[.int .u64 s, .int .i64 r]) ∧ w = w') ∧
    (Calls Tryd.prog 16 #[.slice a len cap] w fun e w' => e = .returned (.tuple #[.int .u64 s, .int .i64 r]) ∧ w = w') := by
  by_cases h0 : len = 0
  · subst h0
    obtain ⟨rfl, rfl⟩ := isOf_nil (by simpa using h)
    exact ⟨of_nil a cap w, ofR_nil a cap w⟩
  · obtain ⟨b, off, rfl, hz, hm, hc⟩ := hr.spot (by omega)
    have hl : len = (zs.take len).length := by simp; omega
    have hc' : ∀ i, i < len → w.cell? ⟨b, off + i, none⟩ = some (.int .i64 ((zs.take len).getD i 0)) := fun i hi => by
      rw [hc i hi]
      congr 2
      simp [List.getD_eq_getElem?_getD, hi]
    exact ⟨of_row b off len cap _ s r w hl hm hc' h, ofR_row b off len cap _ s r w hl hm hc' h⟩
/-- of a slice of the call's own -/
theorem of_own (base : Nat) (v : Value) (n : Nat) (zs : List Int) (s : Nat) (r : Int) (w : World) (ho : w.ownsRow base 3 1 v n (zs.map (Value.int .i64))) (hn : n ≤ 9223372036854775807) (h : IsOf zs s r) :
    Calls Tryd.prog 15 #[v] w fun e w' => e = .returned (.tuple #[.int .u64 s, .int .i64 r]) ∧ w = w' := by
  obtain ⟨hl, hh⟩ := ho
  simp at hl
  subst hl
  rcases hh with ⟨rfl, h0⟩ | ⟨g, cap, cur, rfl, hg, hb, h1, h2, h3, h4⟩
  · have : zs = [] := by cases zs with | nil => rfl | cons _ _ => simp at h0
    subst this
    obtain ⟨rfl, rfl⟩ := isOf_nil h
    exact of_nil none 0 w
  · refine of_row g 0 zs.length cap zs s r w rfl hn ?_ h
    intro i hi
    have ho : w.ownsRow base 3 1 (.slice (some ⟨g, 0, none⟩) zs.length cap) zs.length (zs.map (Value.int .i64)) := ⟨by simp, .inr ⟨g, cap, cur, rfl, hg, hb, h1, h2, h3, h4⟩⟩
    rw [Nat.zero_add, ho.cellAt i (by omega)]
    simp [hi]
end Go.Proofs.YteabmnaepmkkaaaDoor
