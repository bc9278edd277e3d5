/- For all bools 'week', bytes a and b and 16 bits 'small', FieldCases returns true: a name stands for its number, in upper and lower case, alone and in ranges. Conditions: the variables of Go's library that the row lists start as the program's text lays them (tied). -/
import Derived.Test.YtlmbfhbfejjpdaaDoorFldLaid
import Derived.Test.YtlmbfhbfejjpdaaDoorFldX
import Derived.Test.YtlmbfhbfejjpdaaDoorFldZ
import Derived.Deep.RegionHeld3
namespace Go.Proofs.YtlmbfhbfejjpdaaDoor.fieldCases
open Go.ChangeShapes Go.WideShapes Go.ChangeAt Go.RowKit Go.ChangeMaps

/-- the kind by its number, once the bool is known -/
theorem road (wk : Bool) (i : Nat) (hwk : (wk = false ∧ i = 4) ∨ (wk = true ∧ i = 5)) : i < 6 ∧ i = i % 6 ∧ (kd6 i).names.length = (kd6 i).hi - (kd6 i).lo + 1 ∧ 1 ≤ (kd6 i).hi - (kd6 i).lo ∧ (xs6 i).length = (kd6 i).hi - (kd6 i).lo + 1 := by
  rcases hwk with ⟨_, rfl⟩ | ⟨_, rfl⟩
  · exact ⟨by decide, by decide, by decide, by decide, by decide⟩
  · exact ⟨by decide, by decide, by decide, by decide, by decide⟩
theorem nm_list (i : Nat) (h6 : i < 6) (j : Nat) (h1 : j < (xs6 i).length) (h2 : j < (kd6 i).names.length) : (xs6 i)[j].data.toList = (kd6 i).names[j] := by
  have e := (kd6_is i h6).nm
  have : (kd6 i).names[j] = (bytesL (xs6 i))[j]'(by rw [bytesL_len]; exact h1) := by simp only [e]
  rw [this]
  simp [bytesL]
set_option maxRecDepth 100000 in
set_option maxHeartbeats 4000000 in
theorem walk (wk : Bool) (a0 b0 c0 : Int) (w : World) (L : Lay w) (ha : (Lit.int .u8 a0).wf = true) (hb : (Lit.int .u8 b0).wf = true) (hc : (Lit.int .u16 c0).wf = true) :
    Calls Tryd.prog 9 #[.bool wk, .int .u8 a0, .int .u8 b0, .int .u16 c0] w fun e w' => e = .returned (.bool true) ∧ Below w.heap.size w w' := by
  obtain ⟨A0, rfl, hA0⟩ := nat_u8 ha
  obtain ⟨B0, rfl, hB0⟩ := nat_u8 hb
  obtain ⟨C0, rfl, hC0⟩ := nat_u16 hc
  obtain ⟨i, hi⟩ : ∃ i, (wk = false ∧ i = 4) ∨ (wk = true ∧ i = 5) := by
    cases wk
    · exact ⟨4, .inl ⟨rfl, rfl⟩⟩
    · exact ⟨5, .inr ⟨rfl, rfl⟩⟩
  obtain ⟨i6, i66, hnl, hD1, hxl⟩ := road wk i hi
  have O := kd6_ok i i6
  have hle := O.le
  have h62 := O.hi
  have SX := Lib.hid (fun w => six_any i (by omega) i i66 w)
  have LL := Lib.hid L
  obtain ⟨D0, hD0⟩ : ∃ D, D = (kd6 i).hi - (kd6 i).lo := ⟨_, rfl⟩
  rw [← hD0] at hnl hD1 hxl
  obtain ⟨r, hr⟩ : ∃ r, r = A0 % (D0 + 1) := ⟨_, rfl⟩
  have rl : r < D0 + 1 := by rw [hr]; exact Nat.mod_lt _ (by omega)
  obtain ⟨s, hs⟩ : ∃ s, s = B0 % (D0 + 1) := ⟨_, rfl⟩
  have sl : s < D0 + 1 := by rw [hs]; exact Nat.mod_lt _ (by omega)
  obtain ⟨n, hn⟩ : ∃ n, n = (kd6 i).lo + r := ⟨_, rfl⟩
  obtain ⟨m, hm⟩ : ∃ m, m = (kd6 i).lo + s := ⟨_, rfl⟩
  obtain ⟨j1, hj1⟩ : ∃ j, j = min r s := ⟨_, rfl⟩
  obtain ⟨j2, hj2⟩ : ∃ j, j = max r s := ⟨_, rfl⟩
  obtain ⟨x, hx⟩ : ∃ x, x = (kd6 i).lo + j1 := ⟨_, rfl⟩
  obtain ⟨y, hy⟩ : ∃ y, y = (kd6 i).lo + j2 := ⟨_, rfl⟩
  have l1 : j1 < (xs6 i).length := by omega
  have l2 : j2 < (xs6 i).length := by omega
  have k1 : j1 < (kd6 i).names.length := by omega
  have k2 : j2 < (kd6 i).names.length := by omega
  have x1 : x ≤ (kd6 i).hi := by omega
  have y1 : y ≤ (kd6 i).hi := by omega
  have m1 : min (n : Int) (m : Int) = (x : Int) := by omega
  have m2 : max (n : Int) (m : Int) = (y : Int) := by omega
  -- the regions that reckon n and m
  have b0 : ((kd6 i).hi : Int) - ((kd6 i).lo : Int) = (D0 : Int) := by omega
  have b0' : decide ((D0 : Int) < 1) = false := by rw [decide_eq_false_iff_not]; omega
  have b0n : decide (D0 < 1) = false := by rw [decide_eq_false_iff_not]; omega
  have b0z : decide (D0 = 0) = false := by rw [decide_eq_false_iff_not]; omega
  have b1 : IntKind.i64.wrap (D0 : Int) = (D0 : Int) := IntWalk.i64_in _ (by omega)
  have b2 : IntKind.i64.wrap ((D0 : Int) + 1) = (D0 : Int) + 1 := IntWalk.i64_in _ (by omega)
  have b3 : (A0 : Int).tmod ((D0 : Int) + 1) = (r : Int) := by
    rw [Int.tmod_eq_emod_of_nonneg (by omega), hr]
    exact (Int.natCast_emod A0 (D0 + 1)).symm
  have b4 : (A0 : Int) % ((D0 : Int) + 1) = (r : Int) := by
    rw [hr]
    exact (Int.natCast_emod A0 (D0 + 1)).symm
  have b5 : ((kd6 i).lo : Int) + (r : Int) = (n : Int) := by omega
  have b6 : IntKind.i64.wrap (n : Int) = (n : Int) := IntWalk.i64_in _ (by omega)
  have b7 : (((D0 : Int) + 1) == 0) = false := by rw [beq_eq_false_iff_ne]; omega
  have b8 : IntKind.i64.wrap (r : Int) = (r : Int) := IntWalk.i64_in _ (by omega)
  have d3 : (B0 : Int).tmod ((D0 : Int) + 1) = (s : Int) := by
    rw [Int.tmod_eq_emod_of_nonneg (by omega), hs]
    exact (Int.natCast_emod B0 (D0 + 1)).symm
  have d4 : (B0 : Int) % ((D0 : Int) + 1) = (s : Int) := by
    rw [hs]
    exact (Int.natCast_emod B0 (D0 + 1)).symm
  have d5 : ((kd6 i).lo : Int) + (s : Int) = (m : Int) := by omega
  have d6 : IntKind.i64.wrap (m : Int) = (m : Int) := IntWalk.i64_in _ (by omega)
  have d8 : IntKind.i64.wrap (s : Int) = (s : Int) := IntWalk.i64_in _ (by omega)
  -- what Parse returns
  have PT := Lib.hid (fun T hT => Fld.parse_names O k1 k2 (by omega) (by omega) (T := T) hT)
  have PD := Fld.parse_dash (K := kd6 i) (a := x) (b := y) (by omega) (by omega) y1 h62
  have PN := Fld.parse_nm O k1 (by omega)
  rw [← nm_list i i6 j1 l1 k1, ← nm_list i i6 j2 l2 k2, ← hx, ← hy] at PT
  rw [← nm_list i i6 j1 l1 k1, ← hx] at PN
  rw [← dash_text] at PD
  have zD := dash_size x y
  have N1 := Lib.hid (fun (w W : World) (B : Nat) (v : Value) (X : Ctx w W B i v) => name_ctx X i6 j1 x l1 hx x1)
  have N2 := Lib.hid (fun (w W : World) (B : Nat) (v : Value) (X : Ctx w W B i v) => name_ctx X i6 j2 y l2 hy y1)
  obtain ⟨u1, u2⟩ := xs6_size i i6 _ (List.getElem_mem l1)
  obtain ⟨v1, v2⟩ := xs6_size i i6 _ (List.getElem_mem l2)
  obtain ⟨p, hp⟩ : ∃ p, (xs6 i)[j1] = p := ⟨_, rfl⟩
  obtain ⟨q, hq⟩ : ∃ q, (xs6 i)[j2] = q := ⟨_, rfl⟩
  rw [hp] at PT PN N1 u1 u2
  rw [hq] at PT N2 v1 v2
  obtain ⟨N, hN⟩ : ∃ N, p.size + 1 + q.size = N := ⟨_, rfl⟩
  have hN2 : N ≤ 19 := by omega
  have hTX : (p ++ (⟨#[45]⟩ : ByteArray) ++ q).data.toList = p.data.toList ++ 45 :: q.data.toList := by
    rw [app_list, app_list, List.append_assoc]; rfl
  have hXN : (p ++ (⟨#[45]⟩ : ByteArray) ++ q).size = N := by
    rw [Lib.size_eq, hTX, List.length_append, List.length_cons, ← Lib.size_eq, ← Lib.size_eq]; omega
  have UP : (p ++ (⟨#[45]⟩ : ByteArray) ++ q).data.toList.map Fld.up = p.data.toList ++ 45 :: q.data.toList := by
    have hup : ∀ l : List UInt8, (∀ c ∈ l, Fld.isUp c = true) → l.map Fld.up = l := by
      intro l
      induction l with
      | nil => intro _; rfl
      | cons c l ih => intro hl; rw [List.map_cons, Fld.up_up (hl c (by simp)), ih (fun d hd => hl d (by simp [hd]))]
    rw [hTX, List.map_append, List.map_cons, hup _ (by rw [← hp, nm_list i i6 j1 l1 k1]; exact (O.ups _ (List.getElem_mem k1)).2.2), hup _ (by rw [← hq, nm_list i i6 j2 l2 k2]; exact (O.ups _ (List.getElem_mem k2)).2.2)]
    rfl
  obtain ⟨TX, hTX2⟩ : ∃ TX, p.data.toList ++ 45 :: q.data.toList = TX := ⟨_, rfl⟩
  rw [hTX2] at PT UP hTX
  obtain ⟨S0, hS0⟩ : ∃ S, Fld.setOf (kd6 i) ⟨x, 0, y, 0, 1, 0⟩ = S := ⟨_, rfl⟩
  rw [hS0] at PT PD
  have pw : IntKind.u64.wrap ((2 : Int) ^ x) = ((2 ^ x : Nat) : Int) := wrap_pow (by omega)
  obtain ⟨M, hM⟩ : ∃ M : Nat, 2 ^ x = M := ⟨_, rfl⟩
  rw [hM] at pw PN
  have x0 : (0 : Int) ≤ (x : Int) := by omega
  obtain ⟨z1, z2⟩ := dstr_size x
  obtain ⟨z3, z4⟩ := dstr_size y
  have x100 : x < 100 := by omega
  have y100 : y < 100 := by omega
  have HPD := Lib.hid PD
  have HPN := Lib.hid PN
  have HZD := Lib.hid zD
  have HUP := Lib.hid UP
  have HTX := Lib.hid hTX
  have HXN := Lib.hid hXN
  have HPZ := Lib.hid (show p.size ≤ 9223372036854775000 by omega)
  have g0 : ¬ (9223372036854775807 : Int) < (p.size : Int) + 1 := by omega
  have g0' : ¬ 9223372036854775807 < p.size + 1 := by omega
  have g1 : ¬ (9223372036854775807 : Int) < ((dstr x).size : Int) + 1 := by omega
  have g1' : ¬ 9223372036854775807 < (dstr x).size + 1 := by omega
  have g2 : ¬ (9223372036854775807 : Int) < ((dstr x).size : Int) + 1 + ((dstr y).size : Int) := by omega
  have g2' : ¬ 9223372036854775807 < (dstr x).size + 1 + (dstr y).size := by omega
  have h19 : ¬ (9223372036854775807 : Int) < (p.size : Int) + 1 + (q.size : Int) := by omega
  have h19' : ¬ 9223372036854775807 < p.size + 1 + q.size := by omega
  clear L O PD PN zD hTX hXN UP hTX2 hS0 hM hp hq hx hy hj1 hj2 hn hm hr hs hD0 hnl hxl l1 l2 k1 k2 i66 rl sl
  have XY : True := trivial
  have HI := Lib.hid hi
  clear hi
  rcases HI.out with ⟨rfl, hi4⟩ | ⟨rfl, hi4⟩
  · have SX := Lib.hid (show ∀ w, Calls Tryd.prog 20 #[.int .u8 (4 : Int)] w fun e w' => ∃ v, e = .returned (.tuple #[.agg #[.int .i64 (kd6 i).lo, .int .i64 (kd6 i).hi, v, .bool (kd6 i).week], .int .u64 (fullK (kd6 i) : Nat), .bool true]) ∧ Below w.heap.size w w' ∧ IsStrs w' v (xs6 i) from fun w => by
      have h := SX.out w
      have e : ((i : Nat) : Int) = 4 := by omega
      rw [e] at h
      exact h)
    clear hi4 HI
    go_enter Tryd.func9, Tryd.ntmps9
    go_wp2_with fail
    refine (SX.out _).mono ?_
    rintro e w1 ⟨v, rfl, hb, hv⟩
    have X := Lib.hid (Ctx.first LL.out hb hv)
    obtain ⟨A, cap, rfl, _, _⟩ := hv
    clear hb
    go_wp2_with fail
    have X0 := X
    go_quiet (fail)
    have X := Lib.hid (X.out.drewN nq)
    have c0 := X.out.c0
    have c1 := X.out.c1
    have c2 := X.out.c2
    have c3 := X.out.c3
    go_wp2_with fail
    go_quiet (fail)
    have X := Lib.hid (X.out.drewN nq)
    have c0 := X.out.c0
    have c1 := X.out.c1
    have c2 := X.out.c2
    have c3 := X.out.c3
    go_wp2_with fail
    refine (N1.out _ _ _ _ (by first | exact X.out | exact X0.out.drewN _)).mono ?_
    clear X0
    rintro e w2 ⟨rfl, x2⟩
    have X := Lib.hid x2
    have c0 := x2.c0
    have c1 := x2.c1
    have c2 := x2.c2
    have c3 := x2.c3
    clear x2
    go_wp2_with fail
    refine (N2.out _ _ _ _ X.out).mono ?_
    rintro e w3 ⟨rfl, x2⟩
    have X3 := Lib.hid x2
    have hB3 := x2.lt
    clear x2
    obtain ⟨W1, cap1, kc, hb2, hz2, hcl, hfr⟩ := bytes_of (p ++ (⟨#[45]⟩ : ByteArray) ++ q) w3
    rw [HXN.out] at kc hcl hfr
    have TB0 : TB W1 w3.heap.size N TX (p ++ (⟨#[45]⟩ : ByteArray) ++ q).data.toList := ⟨by rw [← Lib.size_eq]; exact HXN.out, HUP.out, fun j hj => by
      rw [hcl j (by rw [← HXN.out, Lib.size_eq]; exact hj), List.getD_eq_getElem?_getD, List.getElem?_eq_getElem hj]
      rfl, hfr⟩
    have TB1 := Lib.hid TB0
    have HB2 := Lib.hid hb2
    clear hcl hfr TB0 hb2 c0 c1 c2 c3 b0 b0' b0n b0z b1 b2 b3 b4 b5 b6 b7 b8 d3 d4 d5 d6 d8 m1 m2
    go_wp2_with fail
    go_loopw [22] (fun x wr => ∃ k : Nat, ∃ T, k ≤ N ∧ x = .int .i64 k ∧ Hid (TB wr w3.heap.size N TX T) ∧ Hid (Below w3.heap.size w3 wr)) (fun x _ => N - (intOf x).toNat)
    case atStart => exact ⟨0, _, Nat.zero_le _, rfl, TB1, HB2⟩
    case round =>
      obtain ⟨k, T, hk, rfl, ht, hbw⟩ := hrel
      by_cases hlt : k < N
      · have q1 : decide ((k : Int) < (N : Int)) = true := by rw [decide_eq_true_iff]; omega
        have q1n : decide (k < N) = true := by rw [decide_eq_true_iff]; omega
        have hT : k < T.length := by rw [ht.out.len]; exact hlt
        have ck := ht.out.cell k hT
        have fk := ht.out.hot k hlt
        obtain ⟨c, hc⟩ : ∃ c, T[k].toNat = c := ⟨_, rfl⟩
        rw [hc] at ck
        have HCC := Lib.hid hc
        have i0 : (0 : Int) ≤ (k : Int) := by omega
        have i1 : (k : Int) < (N : Int) := by omega
        obtain ⟨r16, hr16⟩ : ∃ r, r = k % 16 := ⟨_, rfl⟩
        have e1 : (k : Int).tmod 16 = (r16 : Int) := by rw [Int.tmod_eq_emod_of_nonneg (by omega)]; omega
        have e2 : (k : Int) % 16 = (r16 : Int) := by omega
        have e3 : (0 : Int) ≤ (r16 : Int) := by omega
        have c255 : c < 256 := by rw [← hc]; exact T[k].toNat_lt
        clear hc hr16
        obtain ⟨b, hb⟩ : ∃ b, (bits .and .u16 ((C0 : Int) / 2 ^ r16) 1 == 1) = b := ⟨_, rfl⟩
        cases b with
        | false =>
          go_wp2_with fail
          go_roundw
          case rel => exact ⟨k + 1, T, by omega, by go_num, ht, hbw⟩
          case measure => simp [intOf]; omega
        | true =>
          by_cases p1 : 65 ≤ c
          · have y1 : decide ((65 : Int) ≤ (c : Int)) = true := by rw [decide_eq_true_iff]; omega
            have y1n : decide (65 ≤ c) = true := by rw [decide_eq_true_iff]; omega
            by_cases p2 : c ≤ 90
            · have y2 : decide ((c : Int) ≤ 90) = true := by rw [decide_eq_true_iff]; omega
              have y2n : decide (c ≤ 90) = true := by rw [decide_eq_true_iff]; omega
              have yw : IntKind.u8.wrap ((c : Int) + 32) = (c : Int) + 32 := by simp [IntKind.wrap, IntKind.bits, IntKind.signed]; omega
              have HU := Lib.hid (show Fld.upN T[k].toNat = true by rw [HCC.out]; unfold Fld.upN; rw [decide_eq_true_iff]; omega)
              clear p1 p2 c255
              go_wp2_with fail
              go_roundw
              case rel => exact ⟨k + 1, _, by omega, by go_num, Lib.hid (by
                have z := ht.out.set k hT HU.out
                rw [HCC.out, show ((c + 32 : Nat) : Int) = (c : Int) + 32 by omega] at z
                exact z), Lib.hid (hbw.out.setCell (p := ⟨w3.heap.size, k, none⟩) (Nat.le_refl _) _)⟩
              case measure => simp [intOf]; omega
            · have y2 : decide ((c : Int) ≤ 90) = false := by rw [decide_eq_false_iff_not]; omega
              have y2n : decide (c ≤ 90) = false := by rw [decide_eq_false_iff_not]; omega
              clear p1 p2 c255
              go_wp2_with fail
              go_roundw
              case rel => exact ⟨k + 1, T, by omega, by go_num, ht, hbw⟩
              case measure => simp [intOf]; omega
          · have y1 : decide ((65 : Int) ≤ (c : Int)) = false := by rw [decide_eq_false_iff_not]; omega
            have y1n : decide (65 ≤ c) = false := by rw [decide_eq_false_iff_not]; omega
            clear p1 c255
            go_wp2_with fail
            go_roundw
            case rel => exact ⟨k + 1, T, by omega, by go_num, ht, hbw⟩
            case measure => simp [intOf]; omega
      · have q1 : decide ((k : Int) < (N : Int)) = false := by rw [decide_eq_false_iff_not]; omega
        have q1n : decide (k < N) = false := by rw [decide_eq_false_iff_not]; omega
        have X := Lib.hid (X3.out.next hbw.out)
        have kd := string_of ht.out cap1
        have hTs : (⟨T.toArray⟩ : ByteArray).size ≤ 9223372036854775000 := by
          have := ht.out.len
          rw [Lib.size_eq]
          show T.length ≤ _
          omega
        have HPT := Lib.hid (show Fld.parse (kd6 i) (⟨T.toArray⟩ : ByteArray).data.toList = _ from PT.out T ht.out.map)
        have HTS := Lib.hid hTs
        obtain ⟨TA, hTA⟩ : ∃ TA : ByteArray, (⟨T.toArray⟩ : ByteArray) = TA := ⟨_, rfl⟩
        rw [hTA] at kd HPT HTS
        clear hlt hk hTs hTA
        have c0 := X.out.c0
        have c1 := X.out.c1
        have c2 := X.out.c2
        have c3 := X.out.c3
        go_wp2_with fail
        refine (parse_ctx X.out i6 TA HTS.out HPT.out).mono ?_
        rintro e w5 ⟨rfl, x2⟩
        have X := Lib.hid x2
        have c0 := x2.c0
        have c1 := x2.c1
        have c2 := x2.c2
        have c3 := x2.c3
        clear x2 kd
        go_wp2_with fail
        go_region_held3 (fun w' => w'.cell? ⟨w1.heap.size, 0, none⟩ = some (.int .i64 (kd6 i).lo) ∧ w'.cell? ⟨w1.heap.size, 1, none⟩ = some (.int .i64 (kd6 i).hi) ∧ w'.cell? ⟨w1.heap.size, 2, none⟩ = some (.slice A (xs6 i).length cap) ∧ w'.cell? ⟨w1.heap.size, 3, none⟩ = some (.bool (kd6 i).week)) (go_keep)
          (first
            | (go_at_call 24; refine (digits_ctx (by first | exact X.out | exact X.out.drew) _ (by omega)).mono ?_; rintro e w8 ⟨rfl, x2⟩; have X := Lib.hid x2; have c0 := x2.c0; have c1 := x2.c1; have c2 := x2.c2; have c3 := x2.c3; clear x2)
            | (go_at_call 22; refine (parse_ctx (by first | exact X.out | exact X.out.drew) i6 _ HZD.out HPD.out).mono ?_; rintro e w9 ⟨rfl, x2⟩; have X := Lib.hid x2; have c0 := x2.c0; have c1 := x2.c1; have c2 := x2.c2; have c3 := x2.c3; clear x2))
        go_wp2_with fail
        refine (parse_ctx X.out i6 p HPZ.out HPN.out).mono ?_
        rintro e w8 ⟨rfl, x2⟩
        have X := Lib.hid x2
        clear x2
        go_wp2_with fail
        refine (works_any _ X.out.lay).mono ?_
        rintro e w9 ⟨rfl, hb⟩
        have X := Lib.hid (X.out.next hb)
        clear hb
        go_wp2_with fail
        go_ret
        exact ⟨rfl, X.out.below⟩

  · have SX := Lib.hid (show ∀ w, Calls Tryd.prog 20 #[.int .u8 (5 : Int)] w fun e w' => ∃ v, e = .returned (.tuple #[.agg #[.int .i64 (kd6 i).lo, .int .i64 (kd6 i).hi, v, .bool (kd6 i).week], .int .u64 (fullK (kd6 i) : Nat), .bool true]) ∧ Below w.heap.size w w' ∧ IsStrs w' v (xs6 i) from fun w => by
      have h := SX.out w
      have e : ((i : Nat) : Int) = 5 := by omega
      rw [e] at h
      exact h)
    clear hi4 HI
    go_enter Tryd.func9, Tryd.ntmps9
    go_wp2_with fail
    refine (SX.out _).mono ?_
    rintro e w1 ⟨v, rfl, hb, hv⟩
    have X := Lib.hid (Ctx.first LL.out hb hv)
    obtain ⟨A, cap, rfl, _, _⟩ := hv
    clear hb
    go_wp2_with fail
    have X0 := X
    go_quiet (fail)
    have X := Lib.hid (X.out.drewN nq)
    have c0 := X.out.c0
    have c1 := X.out.c1
    have c2 := X.out.c2
    have c3 := X.out.c3
    go_wp2_with fail
    go_quiet (fail)
    have X := Lib.hid (X.out.drewN nq)
    have c0 := X.out.c0
    have c1 := X.out.c1
    have c2 := X.out.c2
    have c3 := X.out.c3
    go_wp2_with fail
    refine (N1.out _ _ _ _ (by first | exact X.out | exact X0.out.drewN _)).mono ?_
    clear X0
    rintro e w2 ⟨rfl, x2⟩
    have X := Lib.hid x2
    have c0 := x2.c0
    have c1 := x2.c1
    have c2 := x2.c2
    have c3 := x2.c3
    clear x2
    go_wp2_with fail
    refine (N2.out _ _ _ _ X.out).mono ?_
    rintro e w3 ⟨rfl, x2⟩
    have X3 := Lib.hid x2
    have hB3 := x2.lt
    clear x2
    obtain ⟨W1, cap1, kc, hb2, hz2, hcl, hfr⟩ := bytes_of (p ++ (⟨#[45]⟩ : ByteArray) ++ q) w3
    rw [HXN.out] at kc hcl hfr
    have TB0 : TB W1 w3.heap.size N TX (p ++ (⟨#[45]⟩ : ByteArray) ++ q).data.toList := ⟨by rw [← Lib.size_eq]; exact HXN.out, HUP.out, fun j hj => by
      rw [hcl j (by rw [← HXN.out, Lib.size_eq]; exact hj), List.getD_eq_getElem?_getD, List.getElem?_eq_getElem hj]
      rfl, hfr⟩
    have TB1 := Lib.hid TB0
    have HB2 := Lib.hid hb2
    clear hcl hfr TB0 hb2 c0 c1 c2 c3 b0 b0' b0n b0z b1 b2 b3 b4 b5 b6 b7 b8 d3 d4 d5 d6 d8 m1 m2
    go_wp2_with fail
    go_loopw [22] (fun x wr => ∃ k : Nat, ∃ T, k ≤ N ∧ x = .int .i64 k ∧ Hid (TB wr w3.heap.size N TX T) ∧ Hid (Below w3.heap.size w3 wr)) (fun x _ => N - (intOf x).toNat)
    case atStart => exact ⟨0, _, Nat.zero_le _, rfl, TB1, HB2⟩
    case round =>
      obtain ⟨k, T, hk, rfl, ht, hbw⟩ := hrel
      by_cases hlt : k < N
      · have q1 : decide ((k : Int) < (N : Int)) = true := by rw [decide_eq_true_iff]; omega
        have q1n : decide (k < N) = true := by rw [decide_eq_true_iff]; omega
        have hT : k < T.length := by rw [ht.out.len]; exact hlt
        have ck := ht.out.cell k hT
        have fk := ht.out.hot k hlt
        obtain ⟨c, hc⟩ : ∃ c, T[k].toNat = c := ⟨_, rfl⟩
        rw [hc] at ck
        have HCC := Lib.hid hc
        have i0 : (0 : Int) ≤ (k : Int) := by omega
        have i1 : (k : Int) < (N : Int) := by omega
        obtain ⟨r16, hr16⟩ : ∃ r, r = k % 16 := ⟨_, rfl⟩
        have e1 : (k : Int).tmod 16 = (r16 : Int) := by rw [Int.tmod_eq_emod_of_nonneg (by omega)]; omega
        have e2 : (k : Int) % 16 = (r16 : Int) := by omega
        have e3 : (0 : Int) ≤ (r16 : Int) := by omega
        have c255 : c < 256 := by rw [← hc]; exact T[k].toNat_lt
        clear hc hr16
        obtain ⟨b, hb⟩ : ∃ b, (bits .and .u16 ((C0 : Int) / 2 ^ r16) 1 == 1) = b := ⟨_, rfl⟩
        cases b with
        | false =>
          go_wp2_with fail
          go_roundw
          case rel => exact ⟨k + 1, T, by omega, by go_num, ht, hbw⟩
          case measure => simp [intOf]; omega
        | true =>
          by_cases p1 : 65 ≤ c
          · have y1 : decide ((65 : Int) ≤ (c : Int)) = true := by rw [decide_eq_true_iff]; omega
            have y1n : decide (65 ≤ c) = true := by rw [decide_eq_true_iff]; omega
            by_cases p2 : c ≤ 90
            · have y2 : decide ((c : Int) ≤ 90) = true := by rw [decide_eq_true_iff]; omega
              have y2n : decide (c ≤ 90) = true := by rw [decide_eq_true_iff]; omega
              have yw : IntKind.u8.wrap ((c : Int) + 32) = (c : Int) + 32 := by simp [IntKind.wrap, IntKind.bits, IntKind.signed]; omega
              have HU := Lib.hid (show Fld.upN T[k].toNat = true by rw [HCC.out]; unfold Fld.upN; rw [decide_eq_true_iff]; omega)
              clear p1 p2 c255
              go_wp2_with fail
              go_roundw
              case rel => exact ⟨k + 1, _, by omega, by go_num, Lib.hid (by
                have z := ht.out.set k hT HU.out
                rw [HCC.out, show ((c + 32 : Nat) : Int) = (c : Int) + 32 by omega] at z
                exact z), Lib.hid (hbw.out.setCell (p := ⟨w3.heap.size, k, none⟩) (Nat.le_refl _) _)⟩
              case measure => simp [intOf]; omega
            · have y2 : decide ((c : Int) ≤ 90) = false := by rw [decide_eq_false_iff_not]; omega
              have y2n : decide (c ≤ 90) = false := by rw [decide_eq_false_iff_not]; omega
              clear p1 p2 c255
              go_wp2_with fail
              go_roundw
              case rel => exact ⟨k + 1, T, by omega, by go_num, ht, hbw⟩
              case measure => simp [intOf]; omega
          · have y1 : decide ((65 : Int) ≤ (c : Int)) = false := by rw [decide_eq_false_iff_not]; omega
            have y1n : decide (65 ≤ c) = false := by rw [decide_eq_false_iff_not]; omega
            clear p1 c255
            go_wp2_with fail
            go_roundw
            case rel => exact ⟨k + 1, T, by omega, by go_num, ht, hbw⟩
            case measure => simp [intOf]; omega
      · have q1 : decide ((k : Int) < (N : Int)) = false := by rw [decide_eq_false_iff_not]; omega
        have q1n : decide (k < N) = false := by rw [decide_eq_false_iff_not]; omega
        have X := Lib.hid (X3.out.next hbw.out)
        have kd := string_of ht.out cap1
        have hTs : (⟨T.toArray⟩ : ByteArray).size ≤ 9223372036854775000 := by
          have := ht.out.len
          rw [Lib.size_eq]
          show T.length ≤ _
          omega
        have HPT := Lib.hid (show Fld.parse (kd6 i) (⟨T.toArray⟩ : ByteArray).data.toList = _ from PT.out T ht.out.map)
        have HTS := Lib.hid hTs
        obtain ⟨TA, hTA⟩ : ∃ TA : ByteArray, (⟨T.toArray⟩ : ByteArray) = TA := ⟨_, rfl⟩
        rw [hTA] at kd HPT HTS
        clear hlt hk hTs hTA
        have c0 := X.out.c0
        have c1 := X.out.c1
        have c2 := X.out.c2
        have c3 := X.out.c3
        go_wp2_with fail
        refine (parse_ctx X.out i6 TA HTS.out HPT.out).mono ?_
        rintro e w5 ⟨rfl, x2⟩
        have X := Lib.hid x2
        have c0 := x2.c0
        have c1 := x2.c1
        have c2 := x2.c2
        have c3 := x2.c3
        clear x2 kd
        go_wp2_with fail
        go_region_held3 (fun w' => w'.cell? ⟨w1.heap.size, 0, none⟩ = some (.int .i64 (kd6 i).lo) ∧ w'.cell? ⟨w1.heap.size, 1, none⟩ = some (.int .i64 (kd6 i).hi) ∧ w'.cell? ⟨w1.heap.size, 2, none⟩ = some (.slice A (xs6 i).length cap) ∧ w'.cell? ⟨w1.heap.size, 3, none⟩ = some (.bool (kd6 i).week)) (go_keep)
          (first
            | (go_at_call 24; refine (digits_ctx (by first | exact X.out | exact X.out.drew) _ (by omega)).mono ?_; rintro e w8 ⟨rfl, x2⟩; have X := Lib.hid x2; have c0 := x2.c0; have c1 := x2.c1; have c2 := x2.c2; have c3 := x2.c3; clear x2)
            | (go_at_call 22; refine (parse_ctx (by first | exact X.out | exact X.out.drew) i6 _ HZD.out HPD.out).mono ?_; rintro e w9 ⟨rfl, x2⟩; have X := Lib.hid x2; have c0 := x2.c0; have c1 := x2.c1; have c2 := x2.c2; have c3 := x2.c3; clear x2))
        go_wp2_with fail
        refine (parse_ctx X.out i6 p HPZ.out HPN.out).mono ?_
        rintro e w8 ⟨rfl, x2⟩
        have X := Lib.hid x2
        clear x2
        go_wp2_with fail
        refine (works_any _ X.out.lay).mono ?_
        rintro e w9 ⟨rfl, hb⟩
        have X := Lib.hid (X.out.next hb)
        clear hb
        go_wp2_with fail
        go_ret
        exact ⟨rfl, X.out.below⟩


set_option maxRecDepth 100000 in
theorem lifted (os : Os) (started : os.Started) (H : Type) (enc : TypeId × Value → H) :
    ReturnsInHanded {} Tryd.checked os 9 .any (fun w args => (Rows.fieldCasesSpec.pre enc Tryd.prog Tryd.f9 [] false w args ∧ laidMetH Tryd.prog Rows.fieldCasesRow.laid w) ∧ sizedMet enc Tryd.prog Tryd.f9 (OpenSpec.ofChange Rows.fieldCasesSpec) false w args)
      (Rows.fieldCasesSpec.post enc Tryd.prog Tryd.f9 false true false false) := by
  refine returnsInHanded_of_change_and (C := Tryd.checked) (X := fun w _ => laidMetH Tryd.prog Rows.fieldCasesRow.laid w) (fun _ _ _ hh h => h.of_heap hh) own started (by kernel_rfl) Tryd.func9
    (ChangeSpec.witness_shaped (enc := enc) (C := Tryd.checked) (os := os) (X := fun w _ => laidMetH Tryd.prog Rows.fieldCasesRow.laid w) false (World.laidAll Tryd.prog os Rows.fieldCasesRow.laid) #[.bool false, .int .u8 0, .int .u8 0, .int .u16 0] 8 (World.laidAll_os _ _ _) (World.shaped_of_ZipB (by kernel_rfl) (by kernel_rfl)) (by kernel_rfl) (by kernel_rfl) (by kernel_rfl) (by rw [MakeChecks.laidMetH_plain _ _ _ (by kernel_rfl)]; exact laidMet_laidAll _ (by kernel_rfl) (by kernel_rfl))) ?_
  intro W base args ds gs before hval0 hW _ _ hL _
  have hval : ∀ (j : Nat) t v, Tryd.f9.params[j]? = some t → args[j]? = some v → Value.okWide Tryd.prog W .any base t v := hval0
  have hW' := hW
  obtain ⟨p, q, hA0, hV, rfl, hfz, hnd⟩ := hW
  have hA : DataW.TrodAll enc Tryd.prog W 0 (fun _ => true) true Tryd.f9.params.toList args.toList ds p := hA0
  rw [Tryd.params9] at hA hval
  obtain ⟨v0, vs0, d0, ds0, p0, q0, hargs, rfl, rfl, h0, r0⟩ := trodAll_cons hA
  obtain ⟨v1, vs1, d1, ds1, p1, q1, rfl, rfl, rfl, h1, r1⟩ := trodAll_cons r0
  obtain ⟨v2, vs2, d2, ds2, p2, q2, rfl, rfl, rfl, h2, r2⟩ := trodAll_cons r1
  obtain ⟨v3, vs3, d3, ds3, p3, q3, rfl, rfl, rfl, h3, r3⟩ := trodAll_cons r2
  obtain ⟨rfl, rfl, rfl⟩ := trodAll_nil r3
  obtain rfl : args = #[v0, v1, v2, v3] := by cases args; simp_all
  obtain ⟨rfl, rfl⟩ := trodVars_none hV
  obtain ⟨a0, rfl, rfl, rfl⟩ := open_bool Tryd.underlying4 (hval 0 4 v0 rfl rfl) h0
  obtain ⟨a1, rfl, rfl, rfl, w1⟩ := open_int Tryd.underlying5 (hval 1 5 v1 rfl rfl) h1
  obtain ⟨a2, rfl, rfl, rfl, w2⟩ := open_int Tryd.underlying5 (hval 2 5 v2 rfl rfl) h2
  obtain ⟨a3, rfl, rfl, rfl, w3⟩ := open_int Tryd.underlying54 (hval 3 54 v3 rfl rfl) h3
  clear hA0 hval0
  refine (walk a0 a1 a2 a3 W (lay_of _ W (by kernel_rfl) (.tail _ (.head _)) (by kernel_rfl) hL) w1 w2 w3).mono fun e W' ⟨he, bel⟩ => ?_
  subst he
  exact ⟨_, rfl, _, _, _, [], _, [], hW', trodAll_mk1 (shut_bool Tryd.underlying4 _), (trodAll_cons_mk (shut_bool Tryd.underlying4 _) (trodAll_cons_mk (shut_int Tryd.underlying5 w1) (trodAll_cons_mk (shut_int Tryd.underlying5 w2) (trodAll_cons_mk (shut_int Tryd.underlying54 w3) trodAll_mk0)))), rfl, bel.frame _, fun h => by cases h⟩

theorem row_holds : Rows.FieldCasesSaid :=
  OpenClaim.holds_of_wide 9 Tryd.f9 rfl rfl rfl rfl rfl rfl rfl ⟨rfl, rfl, rfl, rfl, rfl⟩ rfl rfl rfl rfl rfl (by kernel_rfl) Tryd.func9 (by kernel_rfl)
    (of_decide_eq_true (by kernel_rfl)) (by unfold Func.isWrapper; first | (rw [if_pos (by decide +kernel)]; kernel_rfl) | (rw [if_neg (by decide +kernel)]; exact ⟨rfl, rfl⟩))
    (fun os started H enc _ => lifted os started H enc)

theorem proved : Rows.FieldCasesCardSaid :=
  Claim7.holds_tied_plain_at .later [] Rows.fieldCasesCard.laidKinds true Rows.fieldCasesCard.stood.harness Rows.fieldCasesCard.stood.looks
    row_holds (fun _ h => by cases h) (by kernel_rfl) (fun _ h => by cases h) fieldCases_row_tie rfl ⟨rfl, rfl⟩ (by kernel_rfl) rfl
    (fun f fn hf hfn => by
      obtain rfl : f = 9 := Option.some.inj ((show Tryd.prog.funcNamed Rows.fieldCasesRow.func = some 9 by kernel_rfl).symm.trans hf) |>.symm
      obtain rfl : fn = Tryd.f9 := (Option.some.inj (Tryd.func9.symm.trans hfn)).symm
      exact ⟨looks0, fun j t ht => by
        rw [Tryd.params9] at ht
        have hm : t ∈ [4, 5, 54] := by simpa using Array.mem_of_getElem? ht
        have hall : ([4, 5, 54].all fun u => !Tryd.prog.wantsStandIn u) = true := by kernel_rfl
        exact (show Tryd.prog.wantsStandIn t = false by simpa using List.all_eq_true.1 hall t hm)⟩)
    (by kernel_rfl)
end Go.Proofs.YtlmbfhbfejjpdaaDoor.fieldCases
