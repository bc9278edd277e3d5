/- Contract of the reader's method value of package field: a number, or a name of the kind. -/
import Derived.Test.YtpnfifhanmpapaaGreatDoorFldE
import Derived.Lib.Fold
import Derived.Laws.EntriesVeiled
namespace Go.Proofs.YtpnfifhanmpapaaGreatDoor
open Go.ChangeShapes Go.WideShapes Go.RowKit Go.Shelf

/-! names, in either case -/
theorem fold_up (x y : UInt8) (hx : Fld.isUp x = true) (hy : Fld.isLet y = true) : Lib.foldEq x y = (x == Fld.up y) := by
  unfold Fld.isUp Fld.upN at hx
  unfold Fld.isLet Fld.letN Fld.upN Fld.loN at hy
  have hx := of_decide_eq_true hx
  simp only [Bool.or_eq_true, decide_eq_true_iff] at hy
  unfold Lib.foldEq Fld.up Fld.loN
  rw [Bool.eq_iff_iff, decide_eq_true_iff, beq_iff_eq]
  by_cases c : 97 ≤ y.toNat ∧ y.toNat ≤ 122
  · rw [if_pos (by simpa using c)]
    constructor
    · rintro (h | ⟨_, _, h⟩ | ⟨h1, h2, h⟩)
      · omega
      · apply UInt8.toNat_inj.1
        rw [h]
        simp
      · omega
    · rintro rfl
      refine .inr (.inl ⟨?_, ?_, ?_⟩) <;> (simp; omega)
  · rw [if_neg (by simpa using c)]
    constructor
    · rintro (h | ⟨_, _, h⟩ | ⟨h1, h2, h⟩)
      · exact UInt8.toNat_inj.1 h
      · omega
      · omega
    · rintro rfl; exact .inl rfl
theorem fold_list : ∀ (l u : List UInt8), (∀ c ∈ l, Fld.isUp c = true) → (∀ c ∈ u, Fld.isLet c = true) → Lib.equalFold l u = (l == u.map Fld.up)
  | [], [], _, _ => rfl
  | [], _ :: _, _, _ => rfl
  | _ :: _, [], _, _ => rfl
  | x :: l, y :: u, h1, h2 => by
    have ih := fold_list l u (fun c hc => h1 c (by simp [hc])) (fun c hc => h2 c (by simp [hc]))
    have e := fold_up x y (h1 x (by simp)) (h2 y (by simp))
    simp only [Lib.equalFold, ih, e, List.map_cons]
    rfl
/-- letters of a text -/
def LetS (D : ByteArray) : Prop := ∀ c ∈ D.data.toList, Fld.isLet c = true
theorem let_ascii {D : ByteArray} (h : LetS D) : ∀ (j : Nat) b, D.data.toList[j]? = some b → b.toNat < 128 := fun j b hb => by
  have := h b (List.mem_of_getElem? hb)
  unfold Fld.isLet Fld.letN Fld.upN Fld.loN at this
  simp only [Bool.or_eq_true, decide_eq_true_iff] at this
  omega
theorem name_ascii {x : ByteArray} (h : NameB x) : ∀ (j : Nat) b, x.data.toList[j]? = some b → b.toNat < 128 := fun j b hb => by
  have := ((nameB_list x).1 h).2.2 b (List.mem_of_getElem? hb)
  unfold Fld.isUp Fld.upN at this
  have := of_decide_eq_true this
  omega
theorem fold_any (x D : ByteArray) (b : Bool) (B : Nat) (w : World) (hx : NameB x) (hD : LetS D) (hb : (x.data.toList == D.data.toList.map Fld.up) = b) (hc : w.cell? ⟨B, 0, none⟩ = some (.string D)) :
    Calls Tryz.prog 139 #[.string x, .pointer (some ⟨B, 0, none⟩)] w fun e w' => e = .returned (.bool b) ∧ w = w' := by
  have F := Tryz.strings_EqualFold x D w (by have := hx.2.1; omega) (name_ascii hx) (let_ascii hD)
  rw [fold_list _ _ ((nameB_list x).1 hx).2.2 hD, hb] at F
  have F := Lib.hid F
  clear hb hx hD
  go_enter Tryz.func139, Tryz.ntmps139
  go_wp2_with fail
  refine F.out.mono ?_
  rintro e w1 ⟨rfl, rfl⟩
  go_wp2_with fail
  go_ret
  exact ⟨rfl, rfl⟩
/-- which name: its number, or -1 -/
def LookIs (xs : List ByteArray) (D : ByteArray) (i : Int) : Prop :=
  (i = -1 ∧ ∀ j (h : j < xs.length), (xs[j].data.toList == D.data.toList.map Fld.up) = false) ∨
  ∃ k : Nat, i = k ∧ ∃ h : k < xs.length, (xs[k].data.toList == D.data.toList.map Fld.up) = true ∧ ∀ j (hj : j < k), (xs[j].data.toList == D.data.toList.map Fld.up) = false
theorem look_none {xs : List ByteArray} {D : ByteArray} (h : Fld.look (bytesL xs) D.data.toList = none) : LookIs xs D (-1) := by
  unfold Fld.look at h
  rw [List.findIdx?_eq_none_iff] at h
  exact .inl ⟨rfl, fun j hj => h _ (List.mem_map_of_mem (List.getElem_mem hj))⟩
theorem look_some {xs : List ByteArray} {D : ByteArray} {k : Nat} (h : Fld.look (bytesL xs) D.data.toList = some k) : k < xs.length ∧ LookIs xs D k := by
  unfold Fld.look at h
  rw [List.findIdx?_eq_some_iff_getElem] at h
  obtain ⟨h1, h2, h3⟩ := h
  rw [bytesL_len] at h1
  refine ⟨h1, .inr ⟨k, rfl, h1, ?_, fun j hj => ?_⟩⟩
  · simpa [bytesL] using h2
  · simpa [bytesL] using h3 j hj
theorem index_any (a : Option Addr) (n c : Nat) (xs : List ByteArray) (D : ByteArray) (i : Int) (B : Nat) (w : World) (hv : IsStrs w (.slice a n c) xs) (hn : ∀ x ∈ xs, NameB x) (hl : xs.length ≤ 70) (hD : LetS D) (h : LookIs xs D i) (hc : w.cell? ⟨B, 0, none⟩ = some (.string D)) :
    Calls Tryz.prog 138 #[.slice a n c, .func (.func 139) #[] #[.pointer (some ⟨B, 0, none⟩)]] w fun e w' => e = .returned (.int .i64 i) ∧ w = w' := by
  have V := Lib.hid hv
  obtain ⟨A, cap, e, _, _⟩ := hv
  cases e
  have HN := Lib.hid hn
  have HD := Lib.hid hD
  have HC := Lib.hid hc
  have HH := Lib.hid h
  clear hn hD hc h
  go_enter Tryz.func138, Tryz.ntmps138
  go_wp2_with fail
  go_loop [8] (fun q => ∃ k : Nat, k ≤ xs.length ∧ q = .int .i64 k ∧ Hid (∀ j (h : j < xs.length), j < k → (xs[j].data.toList == D.data.toList.map Fld.up) = false)) (fun q => xs.length - (intOf q).toNat)
  case atStart => exact ⟨0, Nat.zero_le _, rfl, Lib.hid (fun j _ h => by omega)⟩
  case round =>
    obtain ⟨k, hk, rfl, hno⟩ := hrel
    by_cases hlt : k < xs.length
    · obtain ⟨b, o, e, _, g⟩ := V.out.at_ k hlt
      cases e
      cases hq : (xs[k].data.toList == D.data.toList.map Fld.up) with
      | true =>
        have F := Lib.hid (fold_any xs[k] D true B w (HN.out _ (List.getElem_mem hlt)) HD.out hq HC.out)
        have HQ := Lib.hid hq
        obtain ⟨x, hx⟩ : ∃ x, xs[k] = x := ⟨_, rfl⟩
        rw [hx] at g F
        clear hq hx
        go_wp2_with fail
        refine F.out.mono ?_
        rintro e w1 ⟨rfl, rfl⟩
        go_wp2_with fail
        go_ret
        refine ⟨ret_int ?_, rfl⟩
        rcases HH.out with ⟨_, h⟩ | ⟨k', rfl, h1, h2, h3⟩
        · have := h k hlt; rw [HQ.out] at this; cases this
        · have a1 : ¬ k < k' := fun q => by have := h3 k q; rw [HQ.out] at this; cases this
          have a2 : ¬ k' < k := fun q => by have := hno.out k' h1 q; rw [h2] at this; cases this
          omega
      | false =>
        have F := Lib.hid (fold_any xs[k] D false B w (HN.out _ (List.getElem_mem hlt)) HD.out hq HC.out)
        have HQ := Lib.hid hq
        obtain ⟨x, hx⟩ : ∃ x, xs[k] = x := ⟨_, rfl⟩
        rw [hx] at g F
        clear hq hx
        go_wp2_with fail
        refine F.out.mono ?_
        rintro e w1 ⟨rfl, rfl⟩
        go_wp2_with fail
        go_round
        case rel => exact ⟨k + 1, by omega, by go_num, Lib.hid (fun j hj hjk => by
          rcases Nat.lt_or_ge j k with a | a
          · exact hno.out j hj a
          · obtain rfl : j = k := by omega
            exact HQ.out)⟩
        case measure => simp [intOf]; omega
    · go_wp2_with fail
      go_ret
      refine ⟨ret_int ?_, rfl⟩
      rcases HH.out with ⟨h, _⟩ | ⟨k', rfl, h1, h2, h3⟩
      · exact h.symm
      · have := hno.out k' h1 (by omega); rw [h2] at this; cases this
end Go.Proofs.YtpnfifhanmpapaaGreatDoor
