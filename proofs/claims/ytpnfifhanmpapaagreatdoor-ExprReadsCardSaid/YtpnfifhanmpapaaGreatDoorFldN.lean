/- Contracts of written and Print of package field. -/
import Derived.Test.YtpnfifhanmpapaaGreatDoorFldM
import Derived.Lib.ItoaNum
import Derived.Laws.StructEq
namespace Go.Proofs.YtpnfifhanmpapaaGreatDoor
open Go.ChangeShapes Go.WideShapes Go.RowKit Go.Shelf

/-- the digits of a number below 100 -/
def dec (n : Nat) : List UInt8 := if n < 10 then [(48 + n).toUInt8] else [(48 + n / 10).toUInt8, (48 + n % 10).toUInt8]
theorem dec_lib {n : Nat} (h : n < 100) : Lib.decDigits n = dec n := by
  unfold dec
  by_cases c : n < 10
  · rw [Lib.decDigits, dif_pos c, if_pos c]
  · rw [Lib.decDigits, dif_neg c, Lib.decDigits, dif_pos (by omega), if_neg c]; rfl
theorem dec_len (n : Nat) : 1 ≤ (dec n).length ∧ (dec n).length ≤ 2 := by unfold dec; split <;> simp
/-- the text of a run -/
def runT (r : Nat × Nat × Nat) : List UInt8 := dec r.1 ++ (if r.1 = r.2.1 then [] else 45 :: dec r.2.1) ++ (if r.2.2 = 1 then [] else 47 :: dec r.2.2)
theorem runT_len (r : Nat × Nat × Nat) : (runT r).length ≤ 8 := by
  have a := dec_len r.1
  have b := dec_len r.2.1
  have c := dec_len r.2.2
  unfold runT
  split <;> split <;> simp <;> omega
theorem list_str (x : ByteArray) (l : List UInt8) (h : x.data.toList = l) : x = ⟨l.toArray⟩ := ByteArray.ext (by rw [← h])
theorem app_list (x y : ByteArray) : (x ++ y).data.toList = x.data.toList ++ y.data.toList := by simp
theorem itoa_any (i : Nat) (hi : i < 100) : ∃ x : ByteArray, x.data.toList = dec i ∧ x.size ≤ 2 ∧ 1 ≤ x.size ∧ ∀ w, Calls Tryz.prog 119 #[.int .i64 i] w fun e w' => e = .returned (.string x) ∧ w = w' := by
  have hl := dec_len i
  refine ⟨⟨(dec i).toArray⟩, by simp, by rw [Lib.size_eq]; simpa using hl.2, by rw [Lib.size_eq]; simpa using hl.1, fun w => ?_⟩
  refine (Tryz.strconv_Itoa_small i hi w).mono ?_
  rintro e w' ⟨rfl, rfl⟩
  exact ⟨by rw [dec_lib hi], rfl⟩
set_option maxHeartbeats 1000000 in
theorem written_any (a b c : Nat) (ha : a < 100) (hb : b < 100) (hc : c < 100) (w : World) :
    Calls Tryz.prog 82 #[.agg #[.int .i64 a, .int .i64 b, .int .i64 c]] w fun e w' => e = .returned (.string ⟨(runT (a, b, c)).toArray⟩) ∧ Below w.heap.size w w' := by
  obtain ⟨xa, la, sa, _, ca⟩ := itoa_any a ha
  obtain ⟨xb, lb, sb, _, cb⟩ := itoa_any b hb
  obtain ⟨xc, lc, sc, _, cc⟩ := itoa_any c hc
  have CA := Lib.hid ca
  have CB := Lib.hid cb
  have CC := Lib.hid cc
  have B0 : Below w.heap.size w (w.alloc (.cells #[.int .i64 a, .int .i64 b, .int .i64 c] 156)) := (Below.refl _ w).alloc (Nat.le_refl _) _
  have s45 : (⟨#[45]⟩ : ByteArray).size = 1 := rfl
  have s47 : (⟨#[47]⟩ : ByteArray).size = 1 := rfl
  have LA := Lib.hid la
  have LB := Lib.hid lb
  have LC := Lib.hid lc
  clear la lb lc ca cb cc
  have fin : ∀ (x : ByteArray) nq, x.data.toList = runT (a, b, c) → (Ending.returned (.string x) = .returned (.string ⟨(runT (a, b, c)).toArray⟩)) ∧ Below w.heap.size w ((w.alloc (.cells #[.int .i64 a, .int .i64 b, .int .i64 c] 156)).drewN nq) := fun x nq hx => ⟨by rw [list_str x _ hx], B0.trans (below_drewN _ _ _)⟩
  have FIN := Lib.hid fin
  clear fin
  by_cases h1 : a = b
  · have t1 : ((b : Int) != a) = false := by rw [bne_eq_false_iff_eq]; omega
    have t1' : (b != a) = false := by rw [bne_eq_false_iff_eq]; omega
    by_cases h2 : c = 1
    · have t2 : ((c : Int) != 1) = false := by rw [bne_eq_false_iff_eq]; omega
      have t2' : (c != 1) = false := by rw [bne_eq_false_iff_eq]; omega
      have e : xa.data.toList = runT (a, b, c) := by unfold runT; rw [if_pos h1, if_pos h2, LA.out]; simp
      have F := Lib.hid (fun nq => FIN.out xa nq e)
      clear h1 h2 e
      go_enter Tryz.func82, Tryz.ntmps82
      go_wp2_with fail
      go_quiet (fail)
      go_wp2_with fail
      refine (CA.out _).mono ?_
      rintro e w1 ⟨rfl, rfl⟩
      go_wp2_with fail
      go_ret
      exact F.out _
    · have t2 : ((c : Int) != 1) = true := by rw [bne_iff_ne]; omega
      have t2' : (c != 1) = true := by rw [bne_iff_ne]; omega
      have e : (xa ++ (⟨#[47]⟩ ++ xc)).data.toList = runT (a, b, c) := by unfold runT; rw [if_pos h1, if_neg h2, app_list, app_list, LA.out, LC.out]; simp
      have F := Lib.hid (fun nq => FIN.out _ nq e)
      clear h1 h2 e
      go_enter Tryz.func82, Tryz.ntmps82
      go_wp2_with fail
      go_quiet (fail)
      go_wp2_with fail
      refine (CA.out _).mono ?_
      rintro e w1 ⟨rfl, rfl⟩
      go_wp2_with fail
      refine (CC.out _).mono ?_
      rintro e w1 ⟨rfl, rfl⟩
      go_wp2_with fail
      go_ret
      exact F.out _
  · have t1 : ((b : Int) != a) = true := by rw [bne_iff_ne]; omega
    have t1' : (b != a) = true := by rw [bne_iff_ne]; omega
    by_cases h2 : c = 1
    · have t2 : ((c : Int) != 1) = false := by rw [bne_eq_false_iff_eq]; omega
      have t2' : (c != 1) = false := by rw [bne_eq_false_iff_eq]; omega
      have e : (xa ++ (⟨#[45]⟩ ++ xb)).data.toList = runT (a, b, c) := by unfold runT; rw [if_neg h1, if_pos h2, app_list, app_list, LA.out, LB.out]; simp
      have F := Lib.hid (fun nq => FIN.out _ nq e)
      clear h1 h2 e
      go_enter Tryz.func82, Tryz.ntmps82
      go_wp2_with fail
      go_quiet (fail)
      go_wp2_with fail
      refine (CA.out _).mono ?_
      rintro e w1 ⟨rfl, rfl⟩
      go_wp2_with fail
      refine (CB.out _).mono ?_
      rintro e w1 ⟨rfl, rfl⟩
      go_wp2_with fail
      go_ret
      exact F.out _
    · have t2 : ((c : Int) != 1) = true := by rw [bne_iff_ne]; omega
      have t2' : (c != 1) = true := by rw [bne_iff_ne]; omega
      have e : (xa ++ (⟨#[45]⟩ ++ xb) ++ (⟨#[47]⟩ ++ xc)).data.toList = runT (a, b, c) := by unfold runT; rw [if_neg h1, if_neg h2, app_list, app_list, app_list, app_list, LA.out, LB.out, LC.out]; simp
      have F := Lib.hid (fun nq => FIN.out _ nq e)
      clear h1 h2 e
      go_enter Tryz.func82, Tryz.ntmps82
      go_wp2_with fail
      go_quiet (fail)
      go_wp2_with fail
      refine (CA.out _).mono ?_
      rintro e w1 ⟨rfl, rfl⟩
      go_wp2_with fail
      refine (CB.out _).mono ?_
      rintro e w1 ⟨rfl, rfl⟩
      go_wp2_with fail
      refine (CC.out _).mono ?_
      rintro e w1 ⟨rfl, rfl⟩
      go_wp2_with fail
      go_ret
      exact F.out _
end Go.Proofs.YtpnfifhanmpapaaGreatDoor
