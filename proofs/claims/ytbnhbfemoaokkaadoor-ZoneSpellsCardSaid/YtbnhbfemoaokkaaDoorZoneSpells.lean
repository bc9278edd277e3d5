/- For all int numbers z and all texts s, ZoneSpells returns true: a zone is read from its text, which has six bytes, sign, hours, a colon, minutes; a text that is read is that of the zone (texts of at most 1,000 bytes). Condition: the package-level tables start as the program's text lays them (tied). -/
import Derived.Test.YtbnhbfemoaokkaaDoorZonDoor
import Derived.Test.YtbnhbfemoaokkaaDoorZonK
import Derived.Deep.QuietTactic
import Derived.BigQuiet
import Derived.ChangeMaps5
namespace Go.Proofs.YtbnhbfemoaokkaaDoor.zoneSpells
open Go.ChangeShapes Go.WideShapes Go.ChangeAt Go.RowKit Go.ChangeMaps

theorem wrap_u8 {n : Int} (a : 0 ≤ n) (b : n ≤ 255) : IntKind.u8.wrap n = n := by simp [IntKind.wrap, IntKind.signed, IntKind.bits]; omega

set_option maxRecDepth 100000 in
set_option maxHeartbeats 1000000 in
theorem way_lo_no (z : Int) (S : ByteArray) (w : World) (L : Lay w) (hS : S.size ≤ 1000) (hz : z < -840)
    (C : ∀ w, Calls Tryd.prog 16 #[.string S] w fun e w' => e = .returned (.tuple #[.int .i64 (0), .int .i64 10]) ∧ Below w.heap.size w w') :
    Calls Tryd.prog 11 #[.int .i64 (z), .string S] w fun e w' => e = .returned (.bool true) ∧ Below w.heap.size w w' := by
  have A := Lib.hid (fun w => text_no z w (by omega))
  have C := Lib.hid C
  have q' : decide (1000 < (S.size : Int)) = false := by simp; omega
  have q0 : decide (-840 ≤ z) = false := by simp; omega
  clear hz
  go_enter Tryd.func11, Tryd.ntmps11
  go_wp2_with fail
  refine (A.out _).mono ?_
  rintro e w1 ⟨rfl, rfl⟩
  have bb := Below.refl w.heap.size w
  go_wp2_with fail
  refine (C.out _).mono ?_
  rintro e w3 ⟨rfl, e3⟩
  have e3 := bb.trans (e3.mono bb.size)
  clear bb
  go_wp2_with fail
  refine (works_any _ (L.below e3)).mono ?_
  rintro e w5 ⟨rfl, e5⟩
  go_wp2_with fail
  go_ret
  exact ⟨rfl, e3.trans (e5.mono e3.size)⟩

set_option maxRecDepth 100000 in
set_option maxHeartbeats 1000000 in
theorem way_lo_yes (z v : Int) (S : ByteArray) (w : World) (L : Lay w) (hS : S.size ≤ 1000) (hz : z < -840)
    (C : ∀ w, Calls Tryd.prog 16 #[.string S] w fun e w' => e = .returned (.tuple #[.int .i64 (v), .int .i64 0]) ∧ Below w.heap.size w w')
    (D : ∀ w, Calls Tryd.prog 14 #[.int .i64 (v)] w fun e w' => e = .returned (.tuple #[.string S, .int .i64 0]) ∧ Below w.heap.size w w') :
    Calls Tryd.prog 11 #[.int .i64 (z), .string S] w fun e w' => e = .returned (.bool true) ∧ Below w.heap.size w w' := by
  have A := Lib.hid (fun w => text_no z w (by omega))
  have C := Lib.hid C
  have D := Lib.hid D
  have q' : decide (1000 < (S.size : Int)) = false := by simp; omega
  have q0 : decide (-840 ≤ z) = false := by simp; omega
  clear hz
  go_enter Tryd.func11, Tryd.ntmps11
  go_wp2_with fail
  refine (A.out _).mono ?_
  rintro e w1 ⟨rfl, rfl⟩
  have bb := Below.refl w.heap.size w
  go_wp2_with fail
  refine (C.out _).mono ?_
  rintro e w3 ⟨rfl, e3⟩
  have e3 := bb.trans (e3.mono bb.size)
  clear bb
  go_wp2_with fail
  refine (D.out _).mono ?_
  rintro e w4 ⟨rfl, e4⟩
  have e3 := e3.trans (e4.mono e3.size)
  clear e4
  go_wp2_with fail
  refine (works_any _ (L.below e3)).mono ?_
  rintro e w5 ⟨rfl, e5⟩
  go_wp2_with fail
  go_ret
  exact ⟨rfl, e3.trans (e5.mono e3.size)⟩

set_option maxRecDepth 100000 in
set_option maxHeartbeats 1000000 in
theorem way_hi_no (z : Int) (S : ByteArray) (w : World) (L : Lay w) (hS : S.size ≤ 1000) (hz : 840 < z)
    (C : ∀ w, Calls Tryd.prog 16 #[.string S] w fun e w' => e = .returned (.tuple #[.int .i64 (0), .int .i64 10]) ∧ Below w.heap.size w w') :
    Calls Tryd.prog 11 #[.int .i64 (z), .string S] w fun e w' => e = .returned (.bool true) ∧ Below w.heap.size w w' := by
  have A := Lib.hid (fun w => text_no z w (by omega))
  have C := Lib.hid C
  have q' : decide (1000 < (S.size : Int)) = false := by simp; omega
  have q0 : decide (-840 ≤ z) = true := by simp; omega
  have q1 : decide (z ≤ 840) = false := by simp; omega
  clear hz
  go_enter Tryd.func11, Tryd.ntmps11
  go_wp2_with fail
  refine (A.out _).mono ?_
  rintro e w1 ⟨rfl, rfl⟩
  have bb := Below.refl w.heap.size w
  go_wp2_with fail
  refine (C.out _).mono ?_
  rintro e w3 ⟨rfl, e3⟩
  have e3 := bb.trans (e3.mono bb.size)
  clear bb
  go_wp2_with fail
  refine (works_any _ (L.below e3)).mono ?_
  rintro e w5 ⟨rfl, e5⟩
  go_wp2_with fail
  go_ret
  exact ⟨rfl, e3.trans (e5.mono e3.size)⟩

set_option maxRecDepth 100000 in
set_option maxHeartbeats 1000000 in
theorem way_hi_yes (z v : Int) (S : ByteArray) (w : World) (L : Lay w) (hS : S.size ≤ 1000) (hz : 840 < z)
    (C : ∀ w, Calls Tryd.prog 16 #[.string S] w fun e w' => e = .returned (.tuple #[.int .i64 (v), .int .i64 0]) ∧ Below w.heap.size w w')
    (D : ∀ w, Calls Tryd.prog 14 #[.int .i64 (v)] w fun e w' => e = .returned (.tuple #[.string S, .int .i64 0]) ∧ Below w.heap.size w w') :
    Calls Tryd.prog 11 #[.int .i64 (z), .string S] w fun e w' => e = .returned (.bool true) ∧ Below w.heap.size w w' := by
  have A := Lib.hid (fun w => text_no z w (by omega))
  have C := Lib.hid C
  have D := Lib.hid D
  have q' : decide (1000 < (S.size : Int)) = false := by simp; omega
  have q0 : decide (-840 ≤ z) = true := by simp; omega
  have q1 : decide (z ≤ 840) = false := by simp; omega
  clear hz
  go_enter Tryd.func11, Tryd.ntmps11
  go_wp2_with fail
  refine (A.out _).mono ?_
  rintro e w1 ⟨rfl, rfl⟩
  have bb := Below.refl w.heap.size w
  go_wp2_with fail
  refine (C.out _).mono ?_
  rintro e w3 ⟨rfl, e3⟩
  have e3 := bb.trans (e3.mono bb.size)
  clear bb
  go_wp2_with fail
  refine (D.out _).mono ?_
  rintro e w4 ⟨rfl, e4⟩
  have e3 := e3.trans (e4.mono e3.size)
  clear e4
  go_wp2_with fail
  refine (works_any _ (L.below e3)).mono ?_
  rintro e w5 ⟨rfl, e5⟩
  go_wp2_with fail
  go_ret
  exact ⟨rfl, e3.trans (e5.mono e3.size)⟩

set_option maxRecDepth 100000 in
set_option maxHeartbeats 1000000 in
theorem way_pos_no (z : Int) (S : ByteArray) (w : World) (L : Lay w) (hS : S.size ≤ 1000) (T : ByteArray) (a b c d : Nat) (z0 : 0 ≤ z) (z1 : z ≤ 840)
    (hT : (T.size : Int) = 6)
    (g0 : ∀ h, (T[0]'h).toNat = 43) (g1 : ∀ h, (T[1]'h).toNat = a) (g2 : ∀ h, (T[2]'h).toNat = b) (g3 : ∀ h, (T[3]'h).toNat = 58) (g4 : ∀ h, (T[4]'h).toNat = c) (g5 : ∀ h, (T[5]'h).toNat = d)
    (a0 : 48 ≤ a) (a1 : a ≤ 57) (b0 : 48 ≤ b) (b1 : b ≤ 57) (c0 : 48 ≤ c) (c1 : c ≤ 53) (d0 : 48 ≤ d) (d1 : d ≤ 57)
    (e : 600 * ((a : Int) - 48) + 60 * ((b : Int) - 48) + 10 * ((c : Int) - 48) + ((d : Int) - 48) = z)
    (A : ∀ w, Calls Tryd.prog 14 #[.int .i64 (z)] w fun e w' => e = .returned (.tuple #[.string T, .int .i64 0]) ∧ Below w.heap.size w w')
    (B : ∀ w, Calls Tryd.prog 16 #[.string T] w fun e w' => e = .returned (.tuple #[.int .i64 (z), .int .i64 0]) ∧ Below w.heap.size w w')
    (C : ∀ w, Calls Tryd.prog 16 #[.string S] w fun e w' => e = .returned (.tuple #[.int .i64 (0), .int .i64 10]) ∧ Below w.heap.size w w') :
    Calls Tryd.prog 11 #[.int .i64 (z), .string S] w fun e w' => e = .returned (.bool true) ∧ Below w.heap.size w w' := by
  have A := Lib.hid A
  have B := Lib.hid B
  have C := Lib.hid C
  have q' : decide (1000 < (S.size : Int)) = false := by simp; omega
  have q0 : decide (z < 0) = false := by simp; omega
  obtain ⟨x1, y1⟩ : ∃ x, (a : Int) - 48 = x := ⟨_, rfl⟩
  obtain ⟨x2, y2⟩ : ∃ x, (b : Int) - 48 = x := ⟨_, rfl⟩
  obtain ⟨x4, y4⟩ : ∃ x, (c : Int) - 48 = x := ⟨_, rfl⟩
  obtain ⟨x5, y5⟩ : ∃ x, (d : Int) - 48 = x := ⟨_, rfl⟩
  have u1 : IntKind.u8.wrap ((a : Int) - 48) = x1 := by rw [wrap_u8 (by omega) (by omega)]; exact y1
  have u2 : IntKind.u8.wrap ((b : Int) - 48) = x2 := by rw [wrap_u8 (by omega) (by omega)]; exact y2
  have u4 : IntKind.u8.wrap ((c : Int) - 48) = x4 := by rw [wrap_u8 (by omega) (by omega)]; exact y4
  have u5 : IntKind.u8.wrap ((d : Int) - 48) = x5 := by rw [wrap_u8 (by omega) (by omega)]; exact y5
  have v1 : IntKind.i64.wrap x1 = x1 := wrap_small (by omega) (by omega)
  have v2 : IntKind.i64.wrap x2 = x2 := wrap_small (by omega) (by omega)
  have v4 : IntKind.i64.wrap x4 = x4 := wrap_small (by omega) (by omega)
  have v5 : IntKind.i64.wrap x5 = x5 := wrap_small (by omega) (by omega)
  have t1 : IntKind.i64.wrap (x1 * 600) = x1 * 600 := wrap_small (by omega) (by omega)
  have t2 : IntKind.i64.wrap (x2 * 60) = x2 * 60 := wrap_small (by omega) (by omega)
  have t4 : IntKind.i64.wrap (x4 * 10) = x4 * 10 := wrap_small (by omega) (by omega)
  have s2 : IntKind.i64.wrap (x1 * 600 + x2 * 60) = x1 * 600 + x2 * 60 := wrap_small (by omega) (by omega)
  have s4 : IntKind.i64.wrap (x1 * 600 + x2 * 60 + x4 * 10) = x1 * 600 + x2 * 60 + x4 * 10 := wrap_small (by omega) (by omega)
  have s5 : IntKind.i64.wrap (x1 * 600 + x2 * 60 + x4 * 10 + x5) = x1 * 600 + x2 * 60 + x4 * 10 + x5 := wrap_small (by omega) (by omega)
  have s6 : (x1 * 600 + x2 * 60 + x4 * 10 + x5 != z) = false := by rw [bne_eq_false_iff_eq]; omega
  have s7 : decide ((53 : Int) < c) = false := by simp; omega
  clear y1 y2 y4 y5 e
  go_enter Tryd.func11, Tryd.ntmps11
  go_wp2_with fail
  refine (A.out _).mono ?_
  rintro e w1 ⟨rfl, e1⟩
  go_wp2_with fail
  refine (B.out _).mono ?_
  rintro e w2 ⟨rfl, e2⟩
  have e2 := e1.trans (e2.mono e1.size)
  clear e1
  go_wp2_with fail
  go_quiet (fail)
  have bb := fun n => below_drewN e2 n
  clear e2
  go_wp2_with fail
  refine (C.out _).mono ?_
  rintro e w3 ⟨rfl, e3⟩
  have e3 := (bb _).trans (e3.mono (bb _).size)
  clear bb
  go_wp2_with fail
  refine (works_any _ (L.below e3)).mono ?_
  rintro e w5 ⟨rfl, e5⟩
  go_wp2_with fail
  go_ret
  exact ⟨rfl, e3.trans (e5.mono e3.size)⟩

set_option maxRecDepth 100000 in
set_option maxHeartbeats 1000000 in
theorem way_pos_yes (z v : Int) (S : ByteArray) (w : World) (L : Lay w) (hS : S.size ≤ 1000) (T : ByteArray) (a b c d : Nat) (z0 : 0 ≤ z) (z1 : z ≤ 840)
    (hT : (T.size : Int) = 6)
    (g0 : ∀ h, (T[0]'h).toNat = 43) (g1 : ∀ h, (T[1]'h).toNat = a) (g2 : ∀ h, (T[2]'h).toNat = b) (g3 : ∀ h, (T[3]'h).toNat = 58) (g4 : ∀ h, (T[4]'h).toNat = c) (g5 : ∀ h, (T[5]'h).toNat = d)
    (a0 : 48 ≤ a) (a1 : a ≤ 57) (b0 : 48 ≤ b) (b1 : b ≤ 57) (c0 : 48 ≤ c) (c1 : c ≤ 53) (d0 : 48 ≤ d) (d1 : d ≤ 57)
    (e : 600 * ((a : Int) - 48) + 60 * ((b : Int) - 48) + 10 * ((c : Int) - 48) + ((d : Int) - 48) = z)
    (A : ∀ w, Calls Tryd.prog 14 #[.int .i64 (z)] w fun e w' => e = .returned (.tuple #[.string T, .int .i64 0]) ∧ Below w.heap.size w w')
    (B : ∀ w, Calls Tryd.prog 16 #[.string T] w fun e w' => e = .returned (.tuple #[.int .i64 (z), .int .i64 0]) ∧ Below w.heap.size w w')
    (C : ∀ w, Calls Tryd.prog 16 #[.string S] w fun e w' => e = .returned (.tuple #[.int .i64 (v), .int .i64 0]) ∧ Below w.heap.size w w')
    (D : ∀ w, Calls Tryd.prog 14 #[.int .i64 (v)] w fun e w' => e = .returned (.tuple #[.string S, .int .i64 0]) ∧ Below w.heap.size w w') :
    Calls Tryd.prog 11 #[.int .i64 (z), .string S] w fun e w' => e = .returned (.bool true) ∧ Below w.heap.size w w' := by
  have A := Lib.hid A
  have B := Lib.hid B
  have C := Lib.hid C
  have D := Lib.hid D
  have q' : decide (1000 < (S.size : Int)) = false := by simp; omega
  have q0 : decide (z < 0) = false := by simp; omega
  obtain ⟨x1, y1⟩ : ∃ x, (a : Int) - 48 = x := ⟨_, rfl⟩
  obtain ⟨x2, y2⟩ : ∃ x, (b : Int) - 48 = x := ⟨_, rfl⟩
  obtain ⟨x4, y4⟩ : ∃ x, (c : Int) - 48 = x := ⟨_, rfl⟩
  obtain ⟨x5, y5⟩ : ∃ x, (d : Int) - 48 = x := ⟨_, rfl⟩
  have u1 : IntKind.u8.wrap ((a : Int) - 48) = x1 := by rw [wrap_u8 (by omega) (by omega)]; exact y1
  have u2 : IntKind.u8.wrap ((b : Int) - 48) = x2 := by rw [wrap_u8 (by omega) (by omega)]; exact y2
  have u4 : IntKind.u8.wrap ((c : Int) - 48) = x4 := by rw [wrap_u8 (by omega) (by omega)]; exact y4
  have u5 : IntKind.u8.wrap ((d : Int) - 48) = x5 := by rw [wrap_u8 (by omega) (by omega)]; exact y5
  have v1 : IntKind.i64.wrap x1 = x1 := wrap_small (by omega) (by omega)
  have v2 : IntKind.i64.wrap x2 = x2 := wrap_small (by omega) (by omega)
  have v4 : IntKind.i64.wrap x4 = x4 := wrap_small (by omega) (by omega)
  have v5 : IntKind.i64.wrap x5 = x5 := wrap_small (by omega) (by omega)
  have t1 : IntKind.i64.wrap (x1 * 600) = x1 * 600 := wrap_small (by omega) (by omega)
  have t2 : IntKind.i64.wrap (x2 * 60) = x2 * 60 := wrap_small (by omega) (by omega)
  have t4 : IntKind.i64.wrap (x4 * 10) = x4 * 10 := wrap_small (by omega) (by omega)
  have s2 : IntKind.i64.wrap (x1 * 600 + x2 * 60) = x1 * 600 + x2 * 60 := wrap_small (by omega) (by omega)
  have s4 : IntKind.i64.wrap (x1 * 600 + x2 * 60 + x4 * 10) = x1 * 600 + x2 * 60 + x4 * 10 := wrap_small (by omega) (by omega)
  have s5 : IntKind.i64.wrap (x1 * 600 + x2 * 60 + x4 * 10 + x5) = x1 * 600 + x2 * 60 + x4 * 10 + x5 := wrap_small (by omega) (by omega)
  have s6 : (x1 * 600 + x2 * 60 + x4 * 10 + x5 != z) = false := by rw [bne_eq_false_iff_eq]; omega
  have s7 : decide ((53 : Int) < c) = false := by simp; omega
  clear y1 y2 y4 y5 e
  go_enter Tryd.func11, Tryd.ntmps11
  go_wp2_with fail
  refine (A.out _).mono ?_
  rintro e w1 ⟨rfl, e1⟩
  go_wp2_with fail
  refine (B.out _).mono ?_
  rintro e w2 ⟨rfl, e2⟩
  have e2 := e1.trans (e2.mono e1.size)
  clear e1
  go_wp2_with fail
  go_quiet (fail)
  have bb := fun n => below_drewN e2 n
  clear e2
  go_wp2_with fail
  refine (C.out _).mono ?_
  rintro e w3 ⟨rfl, e3⟩
  have e3 := (bb _).trans (e3.mono (bb _).size)
  clear bb
  go_wp2_with fail
  refine (D.out _).mono ?_
  rintro e w4 ⟨rfl, e4⟩
  have e3 := e3.trans (e4.mono e3.size)
  clear e4
  go_wp2_with fail
  refine (works_any _ (L.below e3)).mono ?_
  rintro e w5 ⟨rfl, e5⟩
  go_wp2_with fail
  go_ret
  exact ⟨rfl, e3.trans (e5.mono e3.size)⟩

set_option maxRecDepth 100000 in
set_option maxHeartbeats 1000000 in
theorem way_neg_no (p : Int) (S : ByteArray) (w : World) (L : Lay w) (hS : S.size ≤ 1000) (T : ByteArray) (a b c d : Nat) (z0 : 0 < p) (z1 : p ≤ 840)
    (hT : (T.size : Int) = 6)
    (g0 : ∀ h, (T[0]'h).toNat = 45) (g1 : ∀ h, (T[1]'h).toNat = a) (g2 : ∀ h, (T[2]'h).toNat = b) (g3 : ∀ h, (T[3]'h).toNat = 58) (g4 : ∀ h, (T[4]'h).toNat = c) (g5 : ∀ h, (T[5]'h).toNat = d)
    (a0 : 48 ≤ a) (a1 : a ≤ 57) (b0 : 48 ≤ b) (b1 : b ≤ 57) (c0 : 48 ≤ c) (c1 : c ≤ 53) (d0 : 48 ≤ d) (d1 : d ≤ 57)
    (e : 600 * ((a : Int) - 48) + 60 * ((b : Int) - 48) + 10 * ((c : Int) - 48) + ((d : Int) - 48) = p)
    (A : ∀ w, Calls Tryd.prog 14 #[.int .i64 (-p)] w fun e w' => e = .returned (.tuple #[.string T, .int .i64 0]) ∧ Below w.heap.size w w')
    (B : ∀ w, Calls Tryd.prog 16 #[.string T] w fun e w' => e = .returned (.tuple #[.int .i64 (-p), .int .i64 0]) ∧ Below w.heap.size w w')
    (C : ∀ w, Calls Tryd.prog 16 #[.string S] w fun e w' => e = .returned (.tuple #[.int .i64 (0), .int .i64 10]) ∧ Below w.heap.size w w') :
    Calls Tryd.prog 11 #[.int .i64 (-p), .string S] w fun e w' => e = .returned (.bool true) ∧ Below w.heap.size w w' := by
  have A := Lib.hid A
  have B := Lib.hid B
  have C := Lib.hid C
  have q' : decide (1000 < (S.size : Int)) = false := by simp; omega
  have q0 : decide (-p < 0) = true := by simp; omega
  obtain ⟨x1, y1⟩ : ∃ x, (a : Int) - 48 = x := ⟨_, rfl⟩
  obtain ⟨x2, y2⟩ : ∃ x, (b : Int) - 48 = x := ⟨_, rfl⟩
  obtain ⟨x4, y4⟩ : ∃ x, (c : Int) - 48 = x := ⟨_, rfl⟩
  obtain ⟨x5, y5⟩ : ∃ x, (d : Int) - 48 = x := ⟨_, rfl⟩
  have u1 : IntKind.u8.wrap ((a : Int) - 48) = x1 := by rw [wrap_u8 (by omega) (by omega)]; exact y1
  have u2 : IntKind.u8.wrap ((b : Int) - 48) = x2 := by rw [wrap_u8 (by omega) (by omega)]; exact y2
  have u4 : IntKind.u8.wrap ((c : Int) - 48) = x4 := by rw [wrap_u8 (by omega) (by omega)]; exact y4
  have u5 : IntKind.u8.wrap ((d : Int) - 48) = x5 := by rw [wrap_u8 (by omega) (by omega)]; exact y5
  have v1 : IntKind.i64.wrap x1 = x1 := wrap_small (by omega) (by omega)
  have v2 : IntKind.i64.wrap x2 = x2 := wrap_small (by omega) (by omega)
  have v4 : IntKind.i64.wrap x4 = x4 := wrap_small (by omega) (by omega)
  have v5 : IntKind.i64.wrap x5 = x5 := wrap_small (by omega) (by omega)
  have t1 : IntKind.i64.wrap (x1 * 600) = x1 * 600 := wrap_small (by omega) (by omega)
  have t2 : IntKind.i64.wrap (x2 * 60) = x2 * 60 := wrap_small (by omega) (by omega)
  have t4 : IntKind.i64.wrap (x4 * 10) = x4 * 10 := wrap_small (by omega) (by omega)
  have s2 : IntKind.i64.wrap (x1 * 600 + x2 * 60) = x1 * 600 + x2 * 60 := wrap_small (by omega) (by omega)
  have s4 : IntKind.i64.wrap (x1 * 600 + x2 * 60 + x4 * 10) = x1 * 600 + x2 * 60 + x4 * 10 := wrap_small (by omega) (by omega)
  have s5 : IntKind.i64.wrap (x1 * 600 + x2 * 60 + x4 * 10 + x5) = x1 * 600 + x2 * 60 + x4 * 10 + x5 := wrap_small (by omega) (by omega)
  have s6 : (x1 * 600 + x2 * 60 + x4 * 10 + x5 != p) = false := by rw [bne_eq_false_iff_eq]; omega
  have s7 : decide ((53 : Int) < c) = false := by simp; omega
  clear y1 y2 y4 y5 e
  go_enter Tryd.func11, Tryd.ntmps11
  go_wp2_with fail
  refine (A.out _).mono ?_
  rintro e w1 ⟨rfl, e1⟩
  go_wp2_with fail
  refine (B.out _).mono ?_
  rintro e w2 ⟨rfl, e2⟩
  have e2 := e1.trans (e2.mono e1.size)
  clear e1
  go_wp2_with fail
  go_quiet (fail)
  have bb := fun n => below_drewN e2 n
  clear e2
  go_wp2_with fail
  refine (C.out _).mono ?_
  rintro e w3 ⟨rfl, e3⟩
  have e3 := (bb _).trans (e3.mono (bb _).size)
  clear bb
  go_wp2_with fail
  refine (works_any _ (L.below e3)).mono ?_
  rintro e w5 ⟨rfl, e5⟩
  go_wp2_with fail
  go_ret
  exact ⟨rfl, e3.trans (e5.mono e3.size)⟩

set_option maxRecDepth 100000 in
set_option maxHeartbeats 1000000 in
theorem way_neg_yes (p v : Int) (S : ByteArray) (w : World) (L : Lay w) (hS : S.size ≤ 1000) (T : ByteArray) (a b c d : Nat) (z0 : 0 < p) (z1 : p ≤ 840)
    (hT : (T.size : Int) = 6)
    (g0 : ∀ h, (T[0]'h).toNat = 45) (g1 : ∀ h, (T[1]'h).toNat = a) (g2 : ∀ h, (T[2]'h).toNat = b) (g3 : ∀ h, (T[3]'h).toNat = 58) (g4 : ∀ h, (T[4]'h).toNat = c) (g5 : ∀ h, (T[5]'h).toNat = d)
    (a0 : 48 ≤ a) (a1 : a ≤ 57) (b0 : 48 ≤ b) (b1 : b ≤ 57) (c0 : 48 ≤ c) (c1 : c ≤ 53) (d0 : 48 ≤ d) (d1 : d ≤ 57)
    (e : 600 * ((a : Int) - 48) + 60 * ((b : Int) - 48) + 10 * ((c : Int) - 48) + ((d : Int) - 48) = p)
    (A : ∀ w, Calls Tryd.prog 14 #[.int .i64 (-p)] w fun e w' => e = .returned (.tuple #[.string T, .int .i64 0]) ∧ Below w.heap.size w w')
    (B : ∀ w, Calls Tryd.prog 16 #[.string T] w fun e w' => e = .returned (.tuple #[.int .i64 (-p), .int .i64 0]) ∧ Below w.heap.size w w')
    (C : ∀ w, Calls Tryd.prog 16 #[.string S] w fun e w' => e = .returned (.tuple #[.int .i64 (v), .int .i64 0]) ∧ Below w.heap.size w w')
    (D : ∀ w, Calls Tryd.prog 14 #[.int .i64 (v)] w fun e w' => e = .returned (.tuple #[.string S, .int .i64 0]) ∧ Below w.heap.size w w') :
    Calls Tryd.prog 11 #[.int .i64 (-p), .string S] w fun e w' => e = .returned (.bool true) ∧ Below w.heap.size w w' := by
  have A := Lib.hid A
  have B := Lib.hid B
  have C := Lib.hid C
  have D := Lib.hid D
  have q' : decide (1000 < (S.size : Int)) = false := by simp; omega
  have q0 : decide (-p < 0) = true := by simp; omega
  obtain ⟨x1, y1⟩ : ∃ x, (a : Int) - 48 = x := ⟨_, rfl⟩
  obtain ⟨x2, y2⟩ : ∃ x, (b : Int) - 48 = x := ⟨_, rfl⟩
  obtain ⟨x4, y4⟩ : ∃ x, (c : Int) - 48 = x := ⟨_, rfl⟩
  obtain ⟨x5, y5⟩ : ∃ x, (d : Int) - 48 = x := ⟨_, rfl⟩
  have u1 : IntKind.u8.wrap ((a : Int) - 48) = x1 := by rw [wrap_u8 (by omega) (by omega)]; exact y1
  have u2 : IntKind.u8.wrap ((b : Int) - 48) = x2 := by rw [wrap_u8 (by omega) (by omega)]; exact y2
  have u4 : IntKind.u8.wrap ((c : Int) - 48) = x4 := by rw [wrap_u8 (by omega) (by omega)]; exact y4
  have u5 : IntKind.u8.wrap ((d : Int) - 48) = x5 := by rw [wrap_u8 (by omega) (by omega)]; exact y5
  have v1 : IntKind.i64.wrap x1 = x1 := wrap_small (by omega) (by omega)
  have v2 : IntKind.i64.wrap x2 = x2 := wrap_small (by omega) (by omega)
  have v4 : IntKind.i64.wrap x4 = x4 := wrap_small (by omega) (by omega)
  have v5 : IntKind.i64.wrap x5 = x5 := wrap_small (by omega) (by omega)
  have t1 : IntKind.i64.wrap (x1 * 600) = x1 * 600 := wrap_small (by omega) (by omega)
  have t2 : IntKind.i64.wrap (x2 * 60) = x2 * 60 := wrap_small (by omega) (by omega)
  have t4 : IntKind.i64.wrap (x4 * 10) = x4 * 10 := wrap_small (by omega) (by omega)
  have s2 : IntKind.i64.wrap (x1 * 600 + x2 * 60) = x1 * 600 + x2 * 60 := wrap_small (by omega) (by omega)
  have s4 : IntKind.i64.wrap (x1 * 600 + x2 * 60 + x4 * 10) = x1 * 600 + x2 * 60 + x4 * 10 := wrap_small (by omega) (by omega)
  have s5 : IntKind.i64.wrap (x1 * 600 + x2 * 60 + x4 * 10 + x5) = x1 * 600 + x2 * 60 + x4 * 10 + x5 := wrap_small (by omega) (by omega)
  have s6 : (x1 * 600 + x2 * 60 + x4 * 10 + x5 != p) = false := by rw [bne_eq_false_iff_eq]; omega
  have s7 : decide ((53 : Int) < c) = false := by simp; omega
  clear y1 y2 y4 y5 e
  go_enter Tryd.func11, Tryd.ntmps11
  go_wp2_with fail
  refine (A.out _).mono ?_
  rintro e w1 ⟨rfl, e1⟩
  go_wp2_with fail
  refine (B.out _).mono ?_
  rintro e w2 ⟨rfl, e2⟩
  have e2 := e1.trans (e2.mono e1.size)
  clear e1
  go_wp2_with fail
  go_quiet (fail)
  have bb := fun n => below_drewN e2 n
  clear e2
  go_wp2_with fail
  refine (C.out _).mono ?_
  rintro e w3 ⟨rfl, e3⟩
  have e3 := (bb _).trans (e3.mono (bb _).size)
  clear bb
  go_wp2_with fail
  refine (D.out _).mono ?_
  rintro e w4 ⟨rfl, e4⟩
  have e3 := e3.trans (e4.mono e3.size)
  clear e4
  go_wp2_with fail
  refine (works_any _ (L.below e3)).mono ?_
  rintro e w5 ⟨rfl, e5⟩
  go_wp2_with fail
  go_ret
  exact ⟨rfl, e3.trans (e5.mono e3.size)⟩

theorem nat_of {n : Int} (h0 : 0 ≤ n) (h1 : n < 256) : (UInt8.ofNat n.toNat).toNat = n.toNat := by
  rw [UInt8.toNat_ofNat_of_lt' (show n.toNat < UInt8.size by rw [show UInt8.size = 256 from rfl]; omega)]
theorem bytes_of {z s a b c d : Int} (h : ZT z s a b c d) (z0 : -840 ≤ z) (z1 : z ≤ 840) :
    (∀ h, ((zstr z)[0]'h).toNat = s.toNat) ∧ (∀ h, ((zstr z)[1]'h).toNat = a.toNat) ∧ (∀ h, ((zstr z)[2]'h).toNat = b.toNat) ∧ (∀ h, ((zstr z)[3]'h).toNat = 58) ∧ (∀ h, ((zstr z)[4]'h).toNat = c.toNat) ∧ (∀ h, ((zstr z)[5]'h).toNat = d.toNat) := by
  obtain ⟨hs, ha, hb, hc, hd⟩ := h.bd z0 z1
  rw [← h.str, str_six]
  exact ⟨fun _ => nat_of (n := s) (by omega) (by omega), fun _ => nat_of (n := a) (by omega) (by omega), fun _ => nat_of (n := b) (by omega) (by omega), fun _ => nat_of (n := 58) (by omega) (by omega), fun _ => nat_of (n := c) (by omega) (by omega), fun _ => nat_of (n := d) (by omega) (by omega)⟩

theorem walk (z : Int) (S : ByteArray) (w : World) (L : Lay w) (_ : (Lit.int .i64 z).wf = true) (_ : S.size ≤ maxLen) :
    Calls Tryd.prog 11 #[.int .i64 z, .string S] w fun e w' => e = .returned (.bool true) ∧ Below w.heap.size w w' := by
  by_cases hS : 1000 < (S.size : Int)
  · have q' : decide (1000 < (S.size : Int)) = true := by simpa using hS
    go_enter Tryd.func11, Tryd.ntmps11
    go_wp2_with fail
    refine (works_any _ L).mono ?_
    rintro e w3 ⟨rfl, b3⟩
    go_wp2_with fail
    go_ret
    exact ⟨rfl, b3⟩
  · have hS' : S.size ≤ 1000 := by omega
    clear hS
    obtain ⟨v, r, o, C, _⟩ := parse_both S
    by_cases lo : z < -840
    · rcases o with ⟨v0, v1, rfl, rfl⟩ | ⟨rfl, rfl, _⟩
      · exact way_lo_yes z v _ w L hS' lo C (fun w => ztext_yes v w v0 v1)
      · exact way_lo_no z _ w L hS' lo C
    · by_cases hi : 840 < z
      · rcases o with ⟨v0, v1, rfl, rfl⟩ | ⟨rfl, rfl, _⟩
        · exact way_hi_yes z v _ w L hS' hi C (fun w => ztext_yes v w v0 v1)
        · exact way_hi_no z _ w L hS' hi C
      · have z0 : -840 ≤ z := by omega
        have z1 : z ≤ 840 := by omega
        obtain ⟨s, a, b, c, d, h⟩ := zt_ex z
        obtain ⟨g0, g1, g2, g3, g4, g5⟩ := bytes_of h z0 z1
        obtain ⟨hs, ha, hb, hc, hd⟩ := h.bd z0 z1
        have A := fun w => ztext_yes z w z0 z1
        have B := fun w => parse_yes z w z0 z1
        by_cases q : z < 0
        · obtain ⟨p, rfl⟩ : ∃ p, z = -p := ⟨-z, by omega⟩
          have k := zt_neg (p := p) (by omega)
          obtain ⟨k0, k1, k2, k4, k5⟩ := k
          obtain ⟨l0, l1, l2, l4, l5⟩ := h
          have e0 : s.toNat = 45 := by omega
          rw [e0] at g0
          rcases o with ⟨v0, v1, rfl, rfl⟩ | ⟨rfl, rfl, _⟩
          · exact way_neg_yes p v _ w L hS' _ _ _ _ _ (by omega) (by omega) (by rw [zstr_size]; rfl) g0 g1 g2 g3 g4 g5 (by omega) (by omega) (by omega) (by omega) (by omega) (by omega) (by omega) (by omega) (by omega) A B C (fun w => ztext_yes v w v0 v1)
          · exact way_neg_no p _ w L hS' _ _ _ _ _ (by omega) (by omega) (by rw [zstr_size]; rfl) g0 g1 g2 g3 g4 g5 (by omega) (by omega) (by omega) (by omega) (by omega) (by omega) (by omega) (by omega) (by omega) A B C
        · have k := zt_pos (p := z) (by omega)
          obtain ⟨k0, k1, k2, k4, k5⟩ := k
          obtain ⟨l0, l1, l2, l4, l5⟩ := h
          have e0 : s.toNat = 43 := by omega
          rw [e0] at g0
          rcases o with ⟨v0, v1, rfl, rfl⟩ | ⟨rfl, rfl, _⟩
          · exact way_pos_yes z v _ w L hS' _ _ _ _ _ (by omega) (by omega) (by rw [zstr_size]; rfl) g0 g1 g2 g3 g4 g5 (by omega) (by omega) (by omega) (by omega) (by omega) (by omega) (by omega) (by omega) (by omega) A B C (fun w => ztext_yes v w v0 v1)
          · exact way_pos_no z _ w L hS' _ _ _ _ _ (by omega) (by omega) (by rw [zstr_size]; rfl) g0 g1 g2 g3 g4 g5 (by omega) (by omega) (by omega) (by omega) (by omega) (by omega) (by omega) (by omega) (by omega) A B C

theorem listed : Rows.zoneSpellsRow.laid.find? isLengths = some (((Rows.zoneSpellsRow.laid.find? isLengths).map (·.1)).getD "", Rows.laid_wakeman_civil_lengths) := by kernel_rfl

set_option maxRecDepth 100000 in
theorem lifted (os : Os) (started : os.Started) (H : Type) (enc : TypeId × Value → H) :
    ReturnsInHanded {} Tryd.checked os 11 .any (fun w args => (Rows.zoneSpellsSpec.pre enc Tryd.prog Tryd.f11 [] false w args ∧ laidMetH Tryd.prog Rows.zoneSpellsRow.laid w) ∧ sizedMet enc Tryd.prog Tryd.f11 (OpenSpec.ofChange Rows.zoneSpellsSpec) false w args)
      (Rows.zoneSpellsSpec.post enc Tryd.prog Tryd.f11 false true false false) := by
  refine returnsInHanded_of_change_and (C := Tryd.checked) (X := fun w _ => laidMetH Tryd.prog Rows.zoneSpellsRow.laid w) (fun _ _ _ hh h => h.of_heap hh) own started (by kernel_rfl) Tryd.func11
    (ChangeSpec.witness_shaped (enc := enc) (C := Tryd.checked) (os := os) (X := fun w _ => laidMetH Tryd.prog Rows.zoneSpellsRow.laid w) false (World.doorLaid Tryd.prog 400 os) #[.int .i64 0, .string ⟨#[]⟩] 8 rfl (shaped0 os _) (by kernel_rfl) (by kernel_rfl) (by kernel_rfl) (door_met os _)) ?_
  intro W base args ds gs before hval0 hW _ _ hL _
  have hval : ∀ (j : Nat) t v, Tryd.f11.params[j]? = some t → args[j]? = some v → Value.okWide Tryd.prog W .any base t v := hval0
  have hW' := hW
  obtain ⟨p, q, hA0, hV, rfl, hfz, hnd⟩ := hW
  have hA : DataW.TrodAll enc Tryd.prog W 0 (fun _ => true) true Tryd.f11.params.toList args.toList ds p := hA0
  rw [Tryd.params11] at hA hval
  obtain ⟨v0, vs0, d0, ds0, p0, q0, hargs, rfl, rfl, h0, r0⟩ := trodAll_cons hA
  obtain ⟨v1, vs1, d1, ds1, p1, q1, rfl, rfl, rfl, h1, r1⟩ := trodAll_cons r0
  obtain ⟨rfl, rfl, rfl⟩ := trodAll_nil r1
  obtain rfl : args = #[v0, v1] := by cases args; simp_all
  obtain ⟨rfl, rfl⟩ := trodVars_none hV
  obtain ⟨a0, rfl, rfl, rfl, w0⟩ := open_int Tryd.underlying3 (hval 0 3 v0 rfl rfl) h0
  obtain ⟨a1, rfl, rfl, rfl, w1⟩ := open_string Tryd.underlying9 (hval 1 9 v1 rfl rfl) h1
  clear hA0 hval0
  refine (walk a0 a1 W (lay_of _ W (by kernel_rfl) _ listed hL) w0 w1).mono fun e W' ⟨he, bel⟩ => ?_
  subst he
  exact ⟨_, rfl, _, _, _, [], _, [], hW', trodAll_mk1 (shut_bool Tryd.underlying4 _), (trodAll_cons_mk (shut_int Tryd.underlying3 w0) (trodAll_cons_mk (shut_string Tryd.underlying9 w1) trodAll_mk0)), rfl, bel.frame _, fun h => by cases h⟩

theorem row_holds : Rows.ZoneSpellsSaid :=
  OpenClaim.holds_of_wide 11 Tryd.f11 rfl rfl rfl rfl rfl rfl rfl ⟨rfl, rfl, rfl, rfl, rfl⟩ rfl rfl rfl rfl rfl (by kernel_rfl) Tryd.func11 (by kernel_rfl)
    (of_decide_eq_true (by kernel_rfl)) (by unfold Func.isWrapper; first | (rw [if_pos (by decide +kernel)]; kernel_rfl) | (rw [if_neg (by decide +kernel)]; exact ⟨rfl, rfl⟩))
    (fun os started H enc _ => lifted os started H enc)

theorem proved : Rows.ZoneSpellsCardSaid :=
  Claim7.holds_tied_plain_at .later [] Rows.zoneSpellsCard.laidKinds true Rows.zoneSpellsCard.stood.harness Rows.zoneSpellsCard.stood.looks
    row_holds (fun _ h => by cases h) (by kernel_rfl) (fun _ h => by cases h) zoneSpells_row_tie rfl ⟨rfl, rfl⟩ (by kernel_rfl) rfl
    (fun f fn hf hfn => by
      obtain rfl : f = 11 := Option.some.inj ((show Tryd.prog.funcNamed Rows.zoneSpellsRow.func = some 11 by kernel_rfl).symm.trans hf) |>.symm
      obtain rfl : fn = Tryd.f11 := (Option.some.inj (Tryd.func11.symm.trans hfn)).symm
      exact ⟨looks0, fun j t ht => by
        rw [Tryd.params11] at ht
        have hm : t ∈ [3, 9] := by simpa using Array.mem_of_getElem? ht
        have hall : ([3, 9].all fun u => !Tryd.prog.wantsStandIn u) = true := by kernel_rfl
        exact (show Tryd.prog.wantsStandIn t = false by simpa using List.all_eq_true.1 hall t hm)⟩)
    (by kernel_rfl)
end Go.Proofs.YtbnhbfemoaokkaaDoor.zoneSpells
