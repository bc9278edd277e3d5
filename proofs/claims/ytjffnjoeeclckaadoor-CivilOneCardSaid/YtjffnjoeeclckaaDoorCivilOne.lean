/- For all int64 numbers t and all bytes at and by, CivilOne returns true: the text of a time with one byte changed is the text of another time, or is not read. Condition: the package-level tables start as the program's text lays them (tied). -/
import Derived.Test.YtjffnjoeeclckaaDoorCivDoor
import Derived.Test.YtjffnjoeeclckaaDoorCivBoth
import Derived.Lib.ConvBytes
import Derived.Laws.BitsAllLaws
import Derived.Test.YtjffnjoeeclckaaDoorCivGr
namespace Go.Proofs.YtjffnjoeeclckaaDoor.civilOne
open Go.ChangeShapes Go.WideShapes Go.ChangeAt Go.RowKit

theorem parse_kind (s : ByteArray) (hs : s.size = 19) :
    (∃ r : Int, (r = 10 ∨ r = 2) ∧ ∀ w, Lay w → Calls Tryd.prog 34 #[.string s] w fun e w' => e = .returned (.tuple #[.int .i64 0, .int .i64 r]) ∧ Below w.heap.size w w') ∨
    (∃ y m d h i q u : Int, Civ.CVld y m d h i q ∧ Civ.secs y m d h i q = u ∧ strOfNums (txt y m d h i q) = s ∧ ∀ w, Lay w → Calls Tryd.prog 34 #[.string s] w fun e w' => e = .returned (.tuple #[.int .i64 u, .int .i64 0]) ∧ Below w.heap.size w w') := by
  by_cases hg : ∀ k, k < 19 → Good s k
  · by_cases v : Civ.CVld (fld s 0 4) (fld s 5 7) (fld s 8 10) (fld s 11 13) (fld s 14 16) (fld s 17 19)
    · exact .inr ⟨_, _, _, _, _, _, _, v, rfl, text_back s hs hg, fun w L => parse_six s w L hs hg _ 0 fun w1 L1 => time_yes _ _ _ _ _ _ _ w1 L1 v rfl⟩
    · exact .inl ⟨2, .inr rfl, fun w L => parse_six s w L hs hg 0 2 fun w1 L1 => time_no _ _ _ _ _ _ w1 L1 v⟩
  · have hb : ∃ k, k < 19 ∧ ¬ Good s k := Classical.byContradiction fun c => hg fun k hk => Classical.byContradiction fun g => c ⟨k, hk, g⟩
    exact .inl ⟨10, .inl rfl, fun w _ => parse_form s w (.inr hb)⟩

/-- the numbers xs lie in block B, from its head on -/
structure RowAt (w W : World) (B : Nat) (xs : List Int) : Prop where
  bel : Below w.heap.size w W
  lo : w.heap.size ≤ B
  hi : B < W.heap.size
  len : xs.length = 19
  c : ∀ j, j < 19 → W.cell? ⟨B, j, none⟩ = some (.int .u8 (xs.getD j 0))
  f : ∀ j, j < 19 → W.frozen? ⟨B, j, none⟩ = false
theorem RowAt.below {w W W' : World} {B : Nat} {xs : List Int} (A : RowAt w W B xs) (b : Below W.heap.size W W') : RowAt w W' B xs where
  bel := A.bel.trans (b.mono A.bel.size)
  lo := A.lo
  hi := Nat.lt_of_lt_of_le A.hi b.size
  len := A.len
  c := fun j hj => (b.cell (p := ⟨B, j, none⟩) A.hi).trans (A.c j hj)
  f := fun j hj => (b.frozen (p := ⟨B, j, none⟩) A.hi).trans (A.f j hj)
theorem RowAt.set {w W : World} {B : Nat} {xs : List Int} (A : RowAt w W B xs) (k : Nat) (v : Int) : RowAt w (W.setCell ⟨B, k, none⟩ (.int .u8 v)) B (xs.set k v) where
  bel := A.bel.setCell A.lo _
  lo := A.lo
  hi := by simpa using A.hi
  len := by simp [A.len]
  c := fun j hj => by
    by_cases e : j = k
    · subst e
      rw [World.cell?_setCell_same _ _ _ (A.c j hj)]
      simp [List.getD, A.len, hj]
    · rw [World.cell?_setCell_other _ _ _ _ (by simp <;> omega), A.c j hj]
      simp [List.getD, List.getElem?_set_ne (Ne.symm e)]
  f := fun j hj => by rw [World.frozen?_setCell]; exact A.f j hj
theorem RowAt.conv {w W : World} {B : Nat} {xs : List Int} (A : RowAt w W B xs) (c : Nat) :
    (convert 49 9 (.slice (some ⟨B, 0, none⟩) 19 c)).run Tryd.prog W = .ok (.string (strOfNums xs)) W :=
  run_convert_bytes_arg W 49 5 Tryd.underlying49 Tryd.underlying5 B 0 19 c xs A.len (fun k hk => by rw [Nat.zero_add]; exact A.c k hk) 9 Tryd.underlying9
/-- the bytes of a text in a new block -/
theorem row_start (w w1 : World) (hb : Below w.heap.size w w1) (xs : List Int) (hl : xs.length = 19) (hx : ∀ a ∈ xs, 0 ≤ a ∧ a < 256) :
    ∃ W c, RowAt w W w1.heap.size xs ∧ (convert 9 49 (.string (strOfNums xs))).run Tryd.prog w1 = .ok (.slice (some ⟨w1.heap.size, 0, none⟩) 19 c) W := by
  have hz : (strOfNums xs).size = 19 := by rw [strOfNums_size, hl]
  have cv := Lib.run_convert_string_bytes (P := Tryd.prog) w1 9 49 5 (strOfNums xs) Tryd.underlying9 Tryd.underlying49 Tryd.underlying5
  rw [hz] at cv
  refine ⟨_, _, ⟨hb.trans ((Lib.bytesWorld_below w1 5 _).mono hb.size), hb.size, by rw [Lib.bytesWorld_size]; omega, hl, fun j hj => ?_, fun j hj => ?_⟩, cv⟩
  · rw [Lib.bytesWorld_cell _ _ _ _ (by rw [hz]; exact hj)]
    have hj' : j < xs.length := by omega
    have := byte_of (hx (xs.getD j 0) (by simp [List.getD, hj'])).1 (hx (xs.getD j 0) (by simp [List.getD, hj'])).2
    rw [strOfNums_data]
    simp only [List.getD, List.getElem?_map] at this ⊢
    simp [hj'] at this ⊢
    exact this
  · unfold World.frozen?
    rw [Lib.bytesWorld_at_new]
    have : j < (Lib.bytesCells w1 5 (strOfNums xs)).size := by
      unfold Lib.bytesCells
      simp only [Array.size_append, Array.size_map]
      have : (strOfNums xs).data.size = 19 := hz
      omega
    simp; omega

theorem xor_ne (a b : Int) (a0 : 0 ≤ a) (a1 : a < 256) (b0 : 0 < b) (b1 : b < 256) : 0 ≤ bits .xor .u8 a b ∧ bits .xor .u8 a b < 256 ∧ bits .xor .u8 a b ≠ a := by
  rw [u8_xor a b a0 a1 (by omega) b1]
  have h : a.toNat ^^^ b.toNat < 2 ^ 8 := Nat.xor_lt_two_pow (by omega) (by omega)
  refine ⟨by omega, by omega, fun e => ?_⟩
  have e' : a.toNat ^^^ b.toNat = a.toNat := by omega
  have z : b.toNat = 0 := by
    have := congrArg (a.toNat ^^^ ·) e'
    simpa [← Nat.xor_assoc] using this
  omega
/-- one byte changed: another text -/
theorem set_ne (xs : List Int) (k : Nat) (v : Int) (hl : xs.length = 19) (hx : ∀ a ∈ xs, 0 ≤ a ∧ a < 256) (hk : k < 19) (v0 : 0 ≤ v) (v1 : v < 256) (hne : v ≠ xs.getD k 0) : strOfNums (xs.set k v) ≠ strOfNums xs := by
  intro e
  have e2 := congrArg (fun s : ByteArray => s.data.toList[k]?) e
  simp only [strOfNums_data, List.getElem?_map] at e2
  have hk' : k < xs.length := by omega
  simp [hk'] at e2
  have b1 := byte_of v0 v1
  have b2 := byte_of (hx xs[k] (List.getElem_mem _)).1 (hx xs[k] (List.getElem_mem _)).2
  rw [e2] at b1
  apply hne
  simp [List.getD, hk']
  omega

theorem no (t a b : Int) (w : World) (L : Lay w) (S : ByteArray) (r : Int) (hb : r = 14 ∨ (r = 0 ∧ b = 0))
    (A : Hid (∀ w, Lay w → Calls Tryd.prog 28 #[.int .i64 t] w fun e w' => e = .returned (.tuple #[.string S, .int .i64 r]) ∧ Below w.heap.size w w')) :
    Calls Tryd.prog 14 #[.int .i64 t, .int .u8 a, .int .u8 b] w fun e w' => e = .returned (.bool true) ∧ Below w.heap.size w w' := by
  rcases hb with rfl | ⟨rfl, rfl⟩
  all_goals
    go_enter Tryd.func14, Tryd.ntmps14
    go_wp2_with fail
    refine (A.out _ L).mono ?_
    rintro e w1 ⟨rfl, b1⟩
    go_wp2_with fail
    refine (works_any _ (L.below b1)).mono ?_
    rintro e w2 ⟨rfl, b2⟩
    go_wp2_with fail
    go_ret
    exact ⟨rfl, b1.trans (b2.mono b1.size)⟩

set_option maxRecDepth 100000 in
theorem bad (t b : Int) (n k : Nat) (xs : List Int) (w : World) (L : Lay w) (hl : xs.length = 19) (hx : ∀ a ∈ xs, 0 ≤ a ∧ a < 256) (hn : n < 256) (hk : ((n : Int) % 19) = k) (k1 : k < 19) (b0 : 0 < b) (b1 : b < 256)
    (x v : Int) (ex : xs.getD k 0 = x) (ev : bits .xor .u8 x b = v) (_ : 0 ≤ x) (_ : x < 256) (r : Int) (hr : r = 10 ∨ r = 2)
    (A : Hid (∀ w, Lay w → Calls Tryd.prog 28 #[.int .i64 t] w fun e w' => e = .returned (.tuple #[.string (strOfNums xs), .int .i64 0]) ∧ Below w.heap.size w w'))
    (B : Hid (∀ w, Lay w → Calls Tryd.prog 34 #[.string (strOfNums (xs.set k v))] w fun e w' => e = .returned (.tuple #[.int .i64 0, .int .i64 r]) ∧ Below w.heap.size w w')) :
    Calls Tryd.prog 14 #[.int .i64 t, .int .u8 n, .int .u8 b] w fun e w' => e = .returned (.bool true) ∧ Below w.heap.size w w' := by
  have HX := Lib.hid hx
  have HL := Lib.hid hl
  have EX := Lib.hid ex
  have nb : (b == 0) = false := by rw [beq_eq_false_iff_ne]; omega
  have kz : (k : Int) < 19 := by omega
  have kz0 : (0 : Int) ≤ (k : Int) := by omega
  obtain ⟨S, hS⟩ : ∃ S, strOfNums (xs.set k v) = S := ⟨_, rfl⟩
  obtain ⟨S0, hS0⟩ : ∃ S, strOfNums xs = S := ⟨_, rfl⟩
  rw [hS] at B
  rw [hS0] at A
  have HS := Lib.hid hS
  have HS0 := Lib.hid hS0
  clear hx hl ex hS hS0
  rcases hr with rfl | rfl
  all_goals
    go_enter Tryd.func14, Tryd.ntmps14
    go_wp2_with fail
    refine (A.out _ L).mono ?_
    rintro e w1 ⟨rfl, b1⟩
    obtain ⟨W, c, R, cv⟩ := row_start w w1 b1 xs HL.out HX.out
    have ck := R.c k k1
    have cf := R.f k k1
    rw [EX.out] at ck
    have R2 := R.set k v
    have cv2 := R2.conv c
    rw [HS.out] at cv2
    rw [HS0.out] at cv
    have RR := Lib.hid R2
    clear R R2 b1
    go_wp2_with fail
    refine (B.out _ (L.below RR.out.bel)).mono ?_
    rintro e w2 ⟨rfl, b2⟩
    have R3 := Lib.hid (RR.out.below b2)
    clear b2
    go_wp2_with fail
    refine (works_any _ (L.below R3.out.bel)).mono ?_
    rintro e w3 ⟨rfl, b3⟩
    go_wp2_with fail
    go_ret
    exact ⟨rfl, R3.out.bel.trans (b3.mono R3.out.bel.size)⟩

set_option maxRecDepth 100000 in
theorem good (t b u : Int) (n k : Nat) (xs : List Int) (w : World) (L : Lay w) (hl : xs.length = 19) (hx : ∀ a ∈ xs, 0 ≤ a ∧ a < 256) (hn : n < 256) (hk : ((n : Int) % 19) = k) (k1 : k < 19) (b0 : 0 < b) (b1 : b < 256)
    (x v : Int) (ex : xs.getD k 0 = x) (ev : bits .xor .u8 x b = v) (_ : 0 ≤ x) (_ : x < 256) (hu : u ≠ t)
    (A : Hid (∀ w, Lay w → Calls Tryd.prog 28 #[.int .i64 t] w fun e w' => e = .returned (.tuple #[.string (strOfNums xs), .int .i64 0]) ∧ Below w.heap.size w w'))
    (B : Hid (∀ w, Lay w → Calls Tryd.prog 34 #[.string (strOfNums (xs.set k v))] w fun e w' => e = .returned (.tuple #[.int .i64 u, .int .i64 0]) ∧ Below w.heap.size w w'))
    (C : Hid (∀ w, Lay w → Calls Tryd.prog 28 #[.int .i64 u] w fun e w' => e = .returned (.tuple #[.string (strOfNums (xs.set k v)), .int .i64 0]) ∧ Below w.heap.size w w')) :
    Calls Tryd.prog 14 #[.int .i64 t, .int .u8 n, .int .u8 b] w fun e w' => e = .returned (.bool true) ∧ Below w.heap.size w w' := by
  have HX := Lib.hid hx
  have HL := Lib.hid hl
  have EX := Lib.hid ex
  have nb : (b == 0) = false := by rw [beq_eq_false_iff_ne]; omega
  have kz : (k : Int) < 19 := by omega
  have kz0 : (0 : Int) ≤ (k : Int) := by omega
  obtain ⟨S, hS⟩ : ∃ S, strOfNums (xs.set k v) = S := ⟨_, rfl⟩
  obtain ⟨S0, hS0⟩ : ∃ S, strOfNums xs = S := ⟨_, rfl⟩
  rw [hS] at B C
  have un : (u != t) = true := by rw [bne_iff_ne]; exact hu
  rw [hS0] at A
  have HS := Lib.hid hS
  have HS0 := Lib.hid hS0
  clear hx hl ex hS hS0 hu
  go_enter Tryd.func14, Tryd.ntmps14
  go_wp2_with fail
  refine (A.out _ L).mono ?_
  rintro e w1 ⟨rfl, b1⟩
  obtain ⟨W, c, R, cv⟩ := row_start w w1 b1 xs HL.out HX.out
  have ck := R.c k k1
  have cf := R.f k k1
  rw [EX.out] at ck
  have R2 := R.set k v
  have cv2 := R2.conv c
  rw [HS.out] at cv2
  rw [HS0.out] at cv
  have RR := Lib.hid R2
  clear R R2 b1
  go_wp2_with fail
  refine (B.out _ (L.below RR.out.bel)).mono ?_
  rintro e w2 ⟨rfl, b2⟩
  have R3 := Lib.hid (RR.out.below b2)
  clear b2
  go_wp2_with fail
  refine (C.out _ (L.below R3.out.bel)).mono ?_
  rintro e w3 ⟨rfl, b3⟩
  have R4 := Lib.hid (R3.out.below b3)
  have cv3 := R4.out.conv c
  rw [HS.out] at cv3
  clear b3
  go_wp2_with fail
  refine (works_any _ (L.below R4.out.bel)).mono ?_
  rintro e w4 ⟨rfl, b4⟩
  go_wp2_with fail
  go_ret
  exact ⟨rfl, R4.out.bel.trans (b4.mono R4.out.bel.size)⟩

theorem walk (t a b : Int) (w : World) (L : Lay w) (_ : (Lit.int .i64 t).wf = true) (wa : (Lit.int .u8 a).wf = true) (wb : (Lit.int .u8 b).wf = true) :
    Calls Tryd.prog 14 #[.int .i64 t, .int .u8 a, .int .u8 b] w fun e w' => e = .returned (.bool true) ∧ Below w.heap.size w w' := by
  obtain ⟨a0, a1⟩ := bounds_u8 wa
  obtain ⟨b0, b1⟩ := bounds_u8 wb
  by_cases c : t < 0 ∨ 253402300799 < t
  · exact no t a b w L _ 14 (.inl rfl) (Lib.hid (fun w _ => text_no t w c))
  · obtain ⟨y, m, d, h, i, s, v, ht⟩ := Civ.civil_ex t (by omega) (by omega)
    have A := Lib.hid (fun w L => text_yes y m d h i s t w L v ht)
    by_cases z : b = 0
    · exact no t a b w L _ 0 (.inr ⟨rfl, z⟩) A
    · obtain ⟨n, rfl⟩ := Int.eq_ofNat_of_zero_le a0
      have hk : n % 19 < 19 := Nat.mod_lt _ (by decide)
      have hl : (txt y m d h i s).length = 19 := rfl
      have hx : ∀ a ∈ txt y m d h i s, 0 ≤ a ∧ a < 256 := txt_bd
      have gx := hx ((txt y m d h i s).getD (n % 19) 0) (by simp [List.getD, hl, hk])
      obtain ⟨v0, v1, vne⟩ := xor_ne _ b gx.1 gx.2 (by omega) (by omega)
      have hne := set_ne (txt y m d h i s) (n % 19) _ hl hx hk v0 v1 vne
      rcases parse_kind (strOfNums ((txt y m d h i s).set (n % 19) (bits .xor .u8 ((txt y m d h i s).getD (n % 19) 0) b))) (by rw [strOfNums_size]; simp [hl]) with ⟨r, hr, B⟩ | ⟨y', m', d', h', i', s', u, v', hu, e, B⟩
      · exact bad t b n (n % 19) _ w L hl hx (by omega) (by omega) hk (by omega) (by omega) _ _ rfl rfl gx.1 gx.2 r hr A (Lib.hid B)
      · have C := Lib.hid (fun w L => text_yes y' m' d' h' i' s' u w L v' hu)
        rw [e] at C
        refine good t b u n (n % 19) _ w L hl hx (by omega) (by omega) hk (by omega) (by omega) _ _ rfl rfl gx.1 gx.2 ?_ A (Lib.hid B) C
        intro hut
        obtain ⟨rfl, rfl, rfl, rfl, rfl, rfl⟩ := Civ.civil_uniq v' v (by omega)
        exact hne e.symm

theorem listed : Rows.civilOneRow.laid.find? isLengths = some (((Rows.civilOneRow.laid.find? isLengths).map (·.1)).getD "", Rows.laid_wakeman_civil_lengths) := by kernel_rfl

set_option maxRecDepth 100000 in
theorem lifted (os : Os) (started : os.Started) (H : Type) (enc : TypeId × Value → H) :
    ReturnsInHanded {} Tryd.checked os 14 .any (fun w args => (Rows.civilOneSpec.pre enc Tryd.prog Tryd.f14 [] false w args ∧ laidMetH Tryd.prog Rows.civilOneRow.laid w) ∧ sizedMet enc Tryd.prog Tryd.f14 (OpenSpec.ofChange Rows.civilOneSpec) false w args)
      (Rows.civilOneSpec.post enc Tryd.prog Tryd.f14 false true false false) := by
  refine returnsInHanded_of_change_and (C := Tryd.checked) (X := fun w _ => laidMetH Tryd.prog Rows.civilOneRow.laid w) (fun _ _ _ hh h => h.of_heap hh) own started (by kernel_rfl) Tryd.func14
    (ChangeSpec.witness_shaped (enc := enc) (C := Tryd.checked) (os := os) (X := fun w _ => laidMetH Tryd.prog Rows.civilOneRow.laid w) false (World.doorLaid Tryd.prog 400 os) #[.int .i64 0, .int .u8 0, .int .u8 0] 8 rfl (shaped0 os _) (by kernel_rfl) (by kernel_rfl) (by kernel_rfl) (door_met os _)) ?_
  intro W base args ds gs before hval0 hW _ _ hL _
  have hval : ∀ (j : Nat) t v, Tryd.f14.params[j]? = some t → args[j]? = some v → Value.okWide Tryd.prog W .any base t v := hval0
  have hW' := hW
  obtain ⟨p, q, hA0, hV, rfl, hfz, hnd⟩ := hW
  have hA : DataW.TrodAll enc Tryd.prog W 0 (fun _ => true) true Tryd.f14.params.toList args.toList ds p := hA0
  rw [Tryd.params14] at hA hval
  obtain ⟨v0, vs0, d0, ds0, p0, q0, hargs, rfl, rfl, h0, r0⟩ := trodAll_cons hA
  obtain ⟨v1, vs1, d1, ds1, p1, q1, rfl, rfl, rfl, h1, r1⟩ := trodAll_cons r0
  obtain ⟨v2, vs2, d2, ds2, p2, q2, rfl, rfl, rfl, h2, r2⟩ := trodAll_cons r1
  obtain ⟨rfl, rfl, rfl⟩ := trodAll_nil r2
  obtain rfl : args = #[v0, v1, v2] := by cases args; simp_all
  obtain ⟨rfl, rfl⟩ := trodVars_none hV
  obtain ⟨a0, rfl, rfl, rfl, w0⟩ := open_int Tryd.underlying2 (hval 0 2 v0 rfl rfl) h0
  obtain ⟨a1, rfl, rfl, rfl, w1⟩ := open_int Tryd.underlying5 (hval 1 5 v1 rfl rfl) h1
  obtain ⟨a2, rfl, rfl, rfl, w2⟩ := open_int Tryd.underlying5 (hval 2 5 v2 rfl rfl) h2
  clear hA0 hval0
  refine (walk a0 a1 a2 W (lay_of _ W (by kernel_rfl) _ listed hL) w0 w1 w2).mono fun e W' ⟨he, bel⟩ => ?_
  subst he
  exact ⟨_, rfl, _, _, _, [], _, [], hW', trodAll_mk1 (shut_bool Tryd.underlying4 _), (trodAll_cons_mk (shut_int Tryd.underlying2 w0) (trodAll_cons_mk (shut_int Tryd.underlying5 w1) (trodAll_cons_mk (shut_int Tryd.underlying5 w2) trodAll_mk0))), rfl, bel.frame _, fun h => by cases h⟩

theorem row_holds : Rows.CivilOneSaid :=
  OpenClaim.holds_of_wide 14 Tryd.f14 rfl rfl rfl rfl rfl rfl rfl ⟨rfl, rfl, rfl, rfl, rfl⟩ rfl rfl rfl rfl rfl (by kernel_rfl) Tryd.func14 (by kernel_rfl)
    (of_decide_eq_true (by kernel_rfl)) (by unfold Func.isWrapper; first | (rw [if_pos (by decide +kernel)]; kernel_rfl) | (rw [if_neg (by decide +kernel)]; exact ⟨rfl, rfl⟩))
    (fun os started H enc _ => lifted os started H enc)

theorem proved : Rows.CivilOneCardSaid :=
  Claim7.holds_tied_plain_at .later [] Rows.civilOneCard.laidKinds true Rows.civilOneCard.stood.harness Rows.civilOneCard.stood.looks
    row_holds (fun _ h => by cases h) (by kernel_rfl) (fun _ h => by cases h) civilOne_row_tie rfl ⟨rfl, rfl⟩ (by kernel_rfl) rfl
    (fun f fn hf hfn => by
      obtain rfl : f = 14 := Option.some.inj ((show Tryd.prog.funcNamed Rows.civilOneRow.func = some 14 by kernel_rfl).symm.trans hf) |>.symm
      obtain rfl : fn = Tryd.f14 := (Option.some.inj (Tryd.func14.symm.trans hfn)).symm
      exact ⟨looks0, fun j t ht => by
        rw [Tryd.params14] at ht
        have hm : t ∈ [2, 5] := by simpa using Array.mem_of_getElem? ht
        have hall : ([2, 5].all fun u => !Tryd.prog.wantsStandIn u) = true := by kernel_rfl
        exact (show Tryd.prog.wantsStandIn t = false by simpa using List.all_eq_true.1 hall t hm)⟩)
    (by kernel_rfl)
end Go.Proofs.YtjffnjoeeclckaaDoor.civilOne
