/- For all numbers of which a valid expression is made, and all numbers of blanks, ExprBlanks returns true: more blanks between words, ahead of them and behind them change nothing but places; with three words more there are too many. Condition: the program's tables start as its text lays them (tied). -/
import Derived.Test.YtpnfifhanmpapaaGreatDoorMExpG
import Derived.Test.YtpnfifhanmpapaaGreatDoorExpSp
import Derived.Test.YtpnfifhanmpapaaGreatDoorExpPl
import Derived.Test.YtpnfifhanmpapaaGreatDoorExpBl
namespace Go.Proofs.YtpnfifhanmpapaaGreatDoor.exprBlanks
open Go.ChangeShapes Go.WideShapes Go.ChangeAt Go.RowKit Go.ChangeMaps

/-! the blanks, in plain words -/
def nb (zs : List Int) (len i : Nat) : Nat := if i < len then (if i = 0 then (zs.getD i 0).toNat % 4 else 1 + (zs.getD i 0).toNat % 4) else (if i = 0 then 0 else 1)
def bl (i n : Nat) : List UInt8 := (List.range n).map fun k => if (i + k) % 2 = 0 then 32 else 9
def pr (zs : List Int) (len : Nat) (ws : List (List UInt8)) : List (List UInt8 × List UInt8) := (List.range ws.length).map fun i => (bl i (nb zs len i), ws.getD i [])
theorem bl_snoc (i n : Nat) : bl i (n + 1) = bl i n ++ [if (i + n) % 2 = 0 then 32 else 9] := by simp [bl, List.range_succ]
theorem bl_len (i n : Nat) : (bl i n).length = n := by simp [bl]
theorem bl_blank (i n : Nat) : ∀ c ∈ bl i n, Exp.isBl c = true := by
  intro c hc
  simp only [bl, List.mem_map] at hc
  obtain ⟨k, _, rfl⟩ := hc
  split <;> decide
theorem nb_le (zs : List Int) (len i : Nat) : nb zs len i ≤ 4 := by unfold nb; split <;> split <;> omega
theorem pr_len (zs : List Int) (len : Nat) (ws : List (List UInt8)) : (pr zs len ws).length = ws.length := by simp [pr]
theorem pr_at (zs : List Int) (len : Nat) (ws : List (List UInt8)) (k : Nat) (h : k < ws.length) : (pr zs len ws)[k]? = some (bl k (nb zs len k), ws.getD k []) := by simp [pr, h]
theorem pr_take (zs : List Int) (len : Nat) (ws : List (List UInt8)) (k : Nat) (h : k < ws.length) : (pr zs len ws).take (k + 1) = (pr zs len ws).take k ++ [(bl k (nb zs len k), ws.getD k [])] := by
  rw [List.take_add_one, pr_at zs len ws k h]
  rfl
theorem pr_map (zs : List Int) (len : Nat) (ws : List (List UInt8)) : (pr zs len ws).map (·.2) = ws := by
  apply List.ext_getElem?
  intro k
  by_cases h : k < ws.length
  · rw [List.getElem?_map, pr_at zs len ws k h, List.getElem?_eq_getElem h]
    simp [List.getD, h]
  · rw [List.getElem?_eq_none (by simp [pr_len]; omega), List.getElem?_eq_none (by omega)]
theorem pr_bl (zs : List Int) (len : Nat) (ws : List (List UInt8)) : ∀ p ∈ pr zs len ws, ∀ c ∈ p.1, Exp.isBl c = true := by
  intro p hp
  simp only [pr, List.mem_map] at hp
  obtain ⟨i, _, rfl⟩ := hp
  exact bl_blank _ _
theorem pr_tail (zs : List Int) (len : Nat) (ws : List (List UInt8)) : ∀ p ∈ (pr zs len ws).tail, p.1 ≠ [] := by
  intro p hp
  obtain ⟨j, hj⟩ := List.getElem?_of_mem hp
  rw [List.getElem?_tail] at hj
  have hl : j + 1 < ws.length := by
    have := (List.getElem?_eq_some_iff.1 hj).1
    rwa [pr_len] at this
  rw [pr_at zs len ws _ hl] at hj
  cases hj
  intro e
  have q := congrArg List.length e
  rw [bl_len] at q
  have : 1 ≤ nb zs len (j + 1) := by unfold nb; split <;> split <;> omega
  simp at q
  omega
def pre (zs : List Int) (len : Nat) (ws : List (List UInt8)) (k : Nat) : List UInt8 := Lex.laid ((pr zs len ws).take k)
theorem pre_snoc (zs : List Int) (len : Nat) (ws : List (List UInt8)) (k : Nat) (h : k < ws.length) : pre zs len ws (k + 1) = pre zs len ws k ++ bl k (nb zs len k) ++ ws.getD k [] := by
  unfold pre
  rw [pr_take zs len ws k h]
  simp [Lex.laid, List.flatMap_append]
theorem pre_len (zs : List Int) (len : Nat) (ws : List (List UInt8)) (hw : ∀ t ∈ ws, t.length ≤ 600) : ∀ k, k ≤ ws.length → (pre zs len ws k).length ≤ 604 * k
  | 0, _ => by simp [pre, Lex.laid]
  | k + 1, h => by
    have ih := pre_len zs len ws hw k (by omega)
    rw [pre_snoc zs len ws k (by omega)]
    have n4 := nb_le zs len k
    have l6 : (ws.getD k []).length ≤ 600 := by
      rw [List.getD_eq_getElem?_getD, List.getElem?_eq_getElem (show k < ws.length by omega)]
      exact hw _ (List.getElem_mem _)
    simp only [List.length_append, bl_len]
    omega
theorem pre_all (zs : List Int) (len : Nat) (ws : List (List UInt8)) : pre zs len ws ws.length = Lex.laid (pr zs len ws) := by
  unfold pre
  rw [List.take_of_length_le (by rw [pr_len]; exact Nat.le_refl _)]

/-! the world while the text is written -/
theorem bl_below {b : Nat} {bs : List Value} {w w' : World} (h : SbAt b bs w) (hb : Below w.heap.size w w') : SbAt b bs w' := by
  have one : ∀ p, Lib.BuilderAtF 50 5 b b p bs w → Lib.BuilderAtF 50 5 b b p bs w' := fun p q => by
    obtain ⟨h1, v, hv, ho, hn⟩ := q
    refine ⟨h1, v, (hb.block b (Array.getElem?_eq_some_iff.1 hv).1).trans hv, ?_, hn⟩
    refine ⟨ho.1, ?_⟩
    rcases ho.2 with e | ⟨g, cap, cur, fz, e, hg, hc, rest⟩
    · exact .inl e
    · exact .inr ⟨g, cap, cur, fz, e, hg, (hb.block g (Array.getElem?_eq_some_iff.1 hc).1).trans hc, rest⟩
  rcases h with h | h
  · exact .inl (one _ h)
  · exact .inr (one _ h)
/-- the sets in a block of the call's own, the builder behind it, the words behind that -/
structure BX (w : World) (zl : List Value) (B : Nat) (wl : List Value) (bs : List UInt8) (W : World) : Prop where
  below : Below w.heap.size w W
  lay : Lay W
  sets : Row W w.heap.size 42 zl
  lt : w.heap.size < B
  bl : SbAt B (Lib.byteCells bs) W
  words : Row W (B + 1) 9 wl
theorem BX.next {w W W' : World} {zl wl : List Value} {B : Nat} {bs : List UInt8} (h : BX w zl B wl bs W) (hb : Below W.heap.size W W') : BX w zl B wl bs W' :=
  ⟨h.below.trans (hb.mono h.below.size), h.lay.below hb, h.sets.below hb, h.lt, bl_below h.bl hb, h.words.below hb⟩
theorem BX.drew {w W : World} {zl wl : List Value} {B : Nat} {bs : List UInt8} (h : BX w zl B wl bs W) : BX w zl B wl bs W.drew := h.next (Below.refl _ _).drew
theorem BX.wrote {w W W' : World} {zl wl : List Value} {B : Nat} {bs bs' : List UInt8} (L : Lay w) (h : BX w zl B wl bs W) (hb : SbAt B (Lib.byteCells bs') W') (hk : SbKept B W W') : BX w zl B wl bs' W' := by
  have b := h.below.trans (hk.below.mono (Nat.le_of_lt h.lt))
  exact ⟨b, L.below b, (hk.below.block _ h.lt).trans h.sets, h.lt, hb, hk.row h.words (by omega) (by decide)⟩
theorem BX.byte {w W : World} {zl wl : List Value} {B : Nat} {bs : List UInt8} (L : Lay w) (h : BX w zl B wl bs W) (c : UInt8) (hl : bs.length ≤ 1000000) :
    Calls Tryz.prog 27 #[.pointer (some ⟨B, 0, none⟩), .int .u8 c.toNat] W fun e W' => e = .returned .nilIface ∧ BX w zl B wl (bs ++ [c]) W' :=
  (sb_byte_w B _ _ W h.bl (by rw [Lib.byteCells_length]; omega)).mono fun _ _ ⟨a, b, k⟩ => ⟨a, h.wrote L (by simpa [Lib.byteCells] using b) k⟩
theorem BX.text {w W : World} {zl wl : List Value} {B : Nat} {bs : List UInt8} (L : Lay w) (h : BX w zl B wl bs W) (s : ByteArray) (hs : s.size ≤ 1000000) (hl : bs.length ≤ 1000000) :
    Calls Tryz.prog 28 #[.pointer (some ⟨B, 0, none⟩), .string s] W fun e W' => e = .returned (.tuple #[.int .i64 s.size, .nilIface]) ∧ BX w zl B wl (bs ++ s.data.toList) W' :=
  (sb_text_w B _ s W h.bl (by rw [Lib.byteCells_length]; omega)).mono fun _ _ ⟨a, b, k⟩ => ⟨a, h.wrote L (by rw [Lib.strCells_eq] at b; simpa [Lib.byteCells] using b) k⟩
theorem BX.string {w W : World} {zl wl : List Value} {B : Nat} {bs : List UInt8} (L : Lay w) (h : BX w zl B wl bs W) :
    Calls Tryz.prog 30 #[.pointer (some ⟨B, 0, none⟩)] W fun e W' => e = .returned (.string ⟨bs.toArray⟩) ∧ BX w zl B wl bs W' ∧ SbKept B W W' := by
  have hlt : B < W.heap.size := by rcases h.bl with q | q <;> exact q.lt
  refine (Tryz.Builder_String_any_k B B bs W h.bl (by omega)).mono fun e W' q => ?_
  exact ⟨q.1, h.wrote L q.2.1 ⟨q.2.2.1, q.2.2.2⟩, ⟨q.2.2.1, q.2.2.2⟩⟩
theorem BX.count {w W : World} {zl wl : List Value} {B : Nat} {bs : List UInt8} (h : BX w zl B wl bs W) :
    Calls Tryz.prog 31 #[.pointer (some ⟨B, 0, none⟩)] W fun e W' => e = .returned (.int .i64 (bs.length : Nat)) ∧ W' = W :=
  (Tryz.Builder_Len_f B B _ W h.bl).mono fun _ _ ⟨a, b⟩ => ⟨by rw [a, Lib.byteCells_length], b⟩
theorem rem_nat (n d : Nat) : Int.tmod (n : Int) (d : Int) = ((n % d : Nat) : Int) := by
  rw [Int.tmod_eq_emod_of_nonneg (by omega)]
  omega
/-- where a number of blanks stands -/
theorem spot8 {w : World} {a : Option Addr} {len cap : Nat} {zs : List Int} (h : IsRow .u8 w a len cap zs) (k : Nat) (hk : k < len) :
    ∃ b o v, a = some ⟨b, o, none⟩ ∧ b < w.heap.size ∧ v < 256 ∧ zs.getD k 0 = ((v : Nat) : Int) ∧ w.cell? ⟨b, o + k, none⟩ = some (.int .u8 v) := by
  rcases h with ⟨_, h, _, _⟩ | ⟨x, rfl, h1, h2, h3, h4, h5⟩
  · omega
  · obtain ⟨b, off, s⟩ := x
    have hs : s = none := by simpa [Addr.add] using World.cell?_spot (h4 0 (by omega))
    subst hs
    have q := h4 k (by omega)
    rw [add_flat] at q
    have hm : zs.getD k 0 ∈ zs := by
      rw [List.getD_eq_getElem?_getD, List.getElem?_eq_getElem (by omega)]
      exact List.getElem_mem _
    obtain ⟨v, e, hv⟩ := nat_u8 (h5 _ hm)
    rw [e] at q
    exact ⟨b, off, v, rfl, Lib.lt_of_cell q, hv, e, q⟩
theorem two_at0 (W : World) : (Instr.index 54 (.agg #[.int .u8 32, .int .u8 9]) (.int .i64 0)).run Tryz.prog W = .ok (.int .u8 32) W := by kernel_rfl
theorem two_at1 (W : World) : (Instr.index 54 (.agg #[.int .u8 32, .int .u8 9]) (.int .i64 1)).run Tryz.prog W = .ok (.int .u8 9) W := by kernel_rfl
/-- .. and an expression in a block of the call's own -/
structure EX (w : World) (zl : List Value) (B : Nat) (wl : List Value) (bs : List UInt8) (X : Nat) (xl : List Value) (W : World) : Prop where
  b : BX w zl B wl bs W
  x : Row W X 25 xl
theorem EX.next {w W W' : World} {zl wl xl : List Value} {B X : Nat} {bs : List UInt8} (h : EX w zl B wl bs X xl W) (hb : Below W.heap.size W W') : EX w zl B wl bs X xl W' := ⟨h.b.next hb, h.x.below hb⟩
theorem EX.drew {w W : World} {zl wl xl : List Value} {B X : Nat} {bs : List UInt8} (h : EX w zl B wl bs X xl W) : EX w zl B wl bs X xl W.drew := h.next (Below.refl _ _).drew

set_option linter.unusedSimpArgs false in
set_option maxRecDepth 100000 in
set_option maxHeartbeats 16000000 in
theorem walk (z : Exp.Ex) (c : Nat) (sa : Option Addr) (len cap : Nat) (zs : List Int) (w : World) (L : Lay w) (hz : z.Bd) (hc : c < 256) (hs : IsRow .u8 w sa len cap zs) :
    Calls Tryz.prog 7 #[.agg #[.int .u64 z.a0, .int .u64 z.a1, .int .u64 z.a2, .int .u64 z.a3, .int .u64 z.a4, .int .u64 z.a5, .int .u8 c], .slice sa len cap] w fun e w' => e = .returned (.bool true) ∧ Below w.heap.size w w' := by
  obtain ⟨x, hx⟩ : ∃ x, Exp.made z c = x := ⟨_, rfl⟩
  have hok : x.Ok := by rw [← hx]; exact Exp.made_ok z c
  have MA := Lib.hid (fun w0 : World => made_any z hz c hc w0 x hx)
  obtain ⟨T, hT⟩ : ∃ T : ByteArray, T.data.toList = x.text := ⟨⟨x.text.toArray⟩, rfl⟩
  have PR := Lib.hid (fun (W : World) (h : XC w [] W) => show Calls Tryz.prog 19 #[.agg #[.int .u64 x.a0, .int .u64 x.a1, .int .u64 x.a2, .int .u64 x.a3, .int .u64 x.a4, .int .u64 x.a5, .bool x.b3, .bool x.b5]] W fun r W' => r = .returned (.tuple #[.string T, .int .i64 0]) ∧ XC w [] W' ∧ Below W.heap.size W W' from
    (print_exyes x hok W h.lay).mono fun _ _ ⟨h1, h2⟩ => ⟨by rw [h1, ← hT], h.next h2, h2⟩)
  have hl6 : ∀ t ∈ x.ws, t.length ≤ 600 := by
    have g : ∀ t ∈ x.fts, t.length ≤ 600 := by
      intro t ht
      simp only [Exp.Ex.fts, List.mem_cons, List.not_mem_nil, or_false] at ht
      rcases ht with rfl | rfl | rfl | rfl | rfl | rfl <;> exact Exp.ft_len x _
    unfold Exp.Ex.ws
    split
    · exact fun t ht => g t (List.mem_of_mem_tail ht)
    · exact g
  have wl := Exp.ws_len x
  have hne : x.ws ≠ [] := by
    intro e
    rw [e] at wl
    split at wl <;> cases wl
  have hz6 : T.size ≤ 1000000 := by
    have := Exp.text_len x
    rw [Lib.size_eq, hT]; omega
  have SP := Lib.hid (fun W : World => split_words T hz6 x.ws hne (fun t ht => not_bl (Exp.ws_words hok t ht).2) hT W)
  obtain ⟨n, hn⟩ : ∃ n, x.ws.length = n := ⟨_, rfl⟩
  have n6 : n ≤ 6 := by rw [← hn, wl]; split <;> omega
  rw [hn] at SP
  have SPOT := Lib.hid (fun (k : Nat) (hk : k < len) => spot8 hs k hk)
  have RD := Lib.hid (fun (t : List UInt8) (ht : ∀ c ∈ t, Exp.isBl c = true) => Exp.blanks_read hok (pr_map zs len x.ws) (pr_bl zs len x.ws) (pr_tail zs len x.ws) ht)
  obtain ⟨ws, hws⟩ : ∃ ws, x.ws = ws := ⟨_, rfl⟩
  rw [hws] at hn hl6 SP RD
  have PL := Lib.hid (fun (k : Nat) (hk : k ≤ n) => show (pre zs len ws k).length ≤ 3700 from by have := pre_len zs len ws hl6 k (by omega); omega)
  have W6 := Lib.hid (fun (k : Nat) (hk : k < n) => show (ws.getD k []).length ≤ 600 from by
    rw [List.getD_eq_getElem?_getD, List.getElem?_eq_getElem (show k < ws.length by omega)]
    exact hl6 _ (List.getElem_mem _))
  have PS := Lib.hid (fun (k : Nat) (hk : k < n) => pre_snoc zs len ws k (by omega))
  have PA : Hid (pre zs len ws n = Lex.laid (pr zs len ws)) := Lib.hid (by rw [← hn]; exact pre_all zs len ws)
  have HL := Lib.hid L
  have eqx := same8_t x
  have lenM : len ≤ 9223372036854775807 := by
    rcases hs with ⟨_, h, _, _⟩ | ⟨_, _, h1, h2, _⟩
    · omega
    · unfold maxLen at h2; omega
  have B0 : XC w [] (w.alloc (.cells #[.int .u64 z.a0, .int .u64 z.a1, .int .u64 z.a2, .int .u64 z.a3, .int .u64 z.a4, .int .u64 z.a5, .int .u8 c] 42)) := (XC.start L).alloc _
  have S0 : Row (w.alloc (.cells #[.int .u64 z.a0, .int .u64 z.a1, .int .u64 z.a2, .int .u64 z.a3, .int .u64 z.a4, .int .u64 z.a5, .int .u8 c] 42)) w.heap.size 42 [.int .u64 z.a0, .int .u64 z.a1, .int .u64 z.a2, .int .u64 z.a3, .int .u64 z.a4, .int .u64 z.a5, .int .u8 c] := Row.new w [.int .u64 z.a0, .int .u64 z.a1, .int .u64 z.a2, .int .u64 z.a3, .int .u64 z.a4, .int .u64 z.a5, .int .u8 c] _
  have WC := Lib.hid (fun (k : Nat) (hk : k < n) => show ((ws.map fun l => Value.string ⟨l.toArray⟩))[k]? = some (.string ⟨(ws.getD k []).toArray⟩) from by
    rw [List.getElem?_map, List.getD_eq_getElem?_getD, List.getElem?_eq_getElem (show k < ws.length by omega)]
    rfl)
  have XX := Lib.hid B0
  have SS := Lib.hid S0
  obtain ⟨WL, hWL⟩ : ∃ WL, (ws.map fun l => Value.string ⟨l.toArray⟩) = WL := ⟨_, rfl⟩
  have eWL : strV ws = WL.toArray := by unfold strV; rw [hWL]
  rw [eWL] at SP
  rw [hWL] at WC
  clear hx hok hT hl6 wl hne hz6 hn L hs B0 S0 hz hc hws eWL hWL
  go_enter Tryz.func7, Tryz.ntmps7
  go_wp2_with fail
  refine (MA.out _).mono ?_
  rintro e' w1 ⟨rfl, hb⟩
  have XX := Lib.hid (XX.out.next hb)
  have SS := Lib.hid (SS.out.below hb)
  clear hb
  go_wp2_with fail
  refine (PR.out _ XX.out).mono ?_
  rintro e' w2 ⟨rfl, q, hb⟩
  have SS := Lib.hid (SS.out.below hb)
  have XX := Lib.hid q
  clear q hb PR
  obtain ⟨B, hB⟩ : ∃ B, w2.heap.size = B := ⟨_, rfl⟩
  have X0 : BX w [.int .u64 z.a0, .int .u64 z.a1, .int .u64 z.a2, .int .u64 z.a3, .int .u64 z.a4, .int .u64 z.a5, .int .u8 c] B WL [] ((w2.alloc (.cells #[.pointer none, .slice none 0 0] 50)).alloc (.cells WL.toArray 9)) := by
    have b1 : Below w.heap.size w ((w2.alloc (.cells #[.pointer none, .slice none 0 0] 50)).alloc (.cells WL.toArray 9)) := (XX.out.below.alloc XX.out.below.size _).alloc (by rw [World.size_alloc]; have := XX.out.below.size; omega) _
    have wr : Row ((w2.alloc (.cells #[.pointer none, .slice none 0 0] 50)).alloc (.cells WL.toArray 9)) (w2.alloc (.cells #[.pointer none, .slice none 0 0] 50)).heap.size 9 WL := Row.new _ _ _
    rw [World.size_alloc, hB] at wr
    refine ⟨b1, HL.out.below b1, (SS.out.alloc _).alloc _, by have := SS.out.lt; omega, ?_, wr⟩
    have bb : SbAt B [] (w2.alloc (.cells #[.pointer none, .slice none 0 0] 50)) := by
      rw [← hB]
      exact Lib.IsBuilderF.of (.inl ⟨Nat.le_refl _, .slice none 0 0, World.alloc_heap_new w2 _, World.ownsRow_nil _ _ _ _, by simp [Value.ownBlock]⟩)
    exact bb.alloc _
  have Q := Lib.hid X0
  clear X0 SS XX
  go_wp2_with fail
  refine (SP.out _).mono ?_
  rintro e' w3 ⟨rfl, rfl⟩
  obtain ⟨W0, hW0⟩ : ∃ W0, (w2.alloc (.cells #[.pointer none, .slice none 0 0] 50)).alloc (.cells WL.toArray 9) = W0 := ⟨_, rfl⟩
  rw [hW0] at Q
  try rw [hW0]
  try rw [World.size_alloc]
  try rw [hB]
  clear hW0 hB SP
  go_wp2_with fail
  go_loopw [29] (fun it wr => ∃ k : Nat, k ≤ n ∧ it = .int .i64 k ∧ Hid (BX w [.int .u64 z.a0, .int .u64 z.a1, .int .u64 z.a2, .int .u64 z.a3, .int .u64 z.a4, .int .u64 z.a5, .int .u8 c] B WL (pre zs len ws k) wr)) (fun i _ => 10 - (intOf i).toNat)
  case atStart => exact ⟨0, Nat.zero_le _, rfl, Q⟩
  case round =>
    obtain ⟨k, hk, rfl, Q⟩ := hrel
    by_cases hlt : k < n
    · have q1 : decide ((k : Int) < (n : Int)) = true := by rw [decide_eq_true_iff]; omega
      have q1n : decide (k < n) = true := by rw [decide_eq_true_iff]; omega
      have i0 : (0 : Int) ≤ (k : Int) := by omega
      have i1 : (k : Int) < (n : Int) := by omega
      have c1 := (Q.out.words.cell k).trans (WC.out k hlt)
      have ps := PS.out k hlt
      have l6 := W6.out k hlt
      have lp := PL.out k hk
      obtain ⟨t0, ht0⟩ : ∃ t, ws.getD k [] = t := ⟨_, rfl⟩
      obtain ⟨P, hP⟩ : ∃ p, pre zs len ws k = p := ⟨_, rfl⟩
      obtain ⟨P', hP'⟩ : ∃ p, pre zs len ws (k + 1) = p := ⟨_, rfl⟩
      rw [ht0] at c1 ps l6
      rw [hP, hP'] at ps
      rw [hP] at Q lp
      have NX := Lib.hid (fun (wr : World) (h : BX w [.int .u64 z.a0, .int .u64 z.a1, .int .u64 z.a2, .int .u64 z.a3, .int .u64 z.a4, .int .u64 z.a5, .int .u8 c] B WL P' wr) => show BX w [.int .u64 z.a0, .int .u64 z.a1, .int .u64 z.a2, .int .u64 z.a3, .int .u64 z.a4, .int .u64 z.a5, .int .u8 c] B WL (pre zs len ws (k + 1)) wr from by rw [hP']; exact h)
      obtain ⟨TT, hTT⟩ : ∃ TT : ByteArray, (⟨t0.toArray⟩ : ByteArray) = TT := ⟨_, rfl⟩
      have tl : TT.data.toList = t0 := by rw [← hTT]
      rw [hTT] at c1
      have tz : TT.size ≤ 600 := by rw [Lib.size_eq, tl]; exact l6
      have C1 := Lib.hid (fun (W : World) (bs : List UInt8) (h : BX w [.int .u64 z.a0, .int .u64 z.a1, .int .u64 z.a2, .int .u64 z.a3, .int .u64 z.a4, .int .u64 z.a5, .int .u8 c] B WL bs W) => show W.cell? ⟨B + 1, k, none⟩ = some (.string TT) from by
        have := (h.words.cell k).trans (WC.out k hlt)
        rw [ht0, hTT] at this
        exact this)
      have TX := Lib.hid (fun (W : World) (bs : List UInt8) (hb : bs.length ≤ 10000) (h : BX w [.int .u64 z.a0, .int .u64 z.a1, .int .u64 z.a2, .int .u64 z.a3, .int .u64 z.a4, .int .u64 z.a5, .int .u8 c] B WL bs W) => h.text HL.out TT (by omega) (by omega))
      rw [tl] at TX
      clear ht0 hP hP' hTT tl tz l6
      by_cases kl : k < len
      · have e1 : decide ((k : Int) < (len : Int)) = true := by rw [decide_eq_true_iff]; omega
        have e1n : decide (k < len) = true := by rw [decide_eq_true_iff]; omega
        have i2 : (k : Int) < (len : Int) := by omega
        obtain ⟨b', o, v, rfl, hb', hv, hg, hcv⟩ := SPOT.out k kl
        have cv := (Q.out.below.cell (p := ⟨b', o + k, none⟩) hb').trans hcv
        have rm : Int.tmod (v : Int) 4 = ((v % 4 : Nat) : Int) := rem_nat v 4
        have wv : IntKind.i64.wrap (v : Int) = (v : Int) := by rw [IntKind.wrap_i64]; omega
        have r4 : v % 4 < 4 := Nat.mod_lt _ (by decide)
        have hnb : nb zs len k = if k = 0 then v % 4 else 1 + v % 4 := by unfold nb; rw [if_pos kl, hg]; simp
        obtain ⟨r, hr⟩ : ∃ r, v % 4 = r := ⟨_, rfl⟩
        rw [hr] at rm r4 hnb
        have w1 : IntKind.i64.wrap (1 + (r : Int)) = ((1 + r : Nat) : Int) := by rw [IntKind.wrap_i64]; omega
        obtain ⟨s, hs⟩ : ∃ s, 1 + r = s := ⟨_, rfl⟩
        rw [hs] at w1 hnb
        have w2' : IntKind.i64.wrap ((s : Int) - 1) = (r : Int) := by rw [IntKind.wrap_i64]; omega
        clear hr hcv hg
        by_cases k0 : k = 0
        · have y0 : ((k : Int) == 0) = true := by rw [beq_iff_eq]; omega
          have y0n : (k == 0) = true := by rw [beq_iff_eq]; omega
          rw [if_pos k0] at hnb
          rw [hnb] at ps
          have HP := Lib.hid ps
          clear ps hnb k0 hs
          go_wp2_with fail
          go_loopw [50] (fun it wr => ∃ j : Nat, j ≤ r ∧ it = .int .i64 j ∧ Hid (BX w [.int .u64 z.a0, .int .u64 z.a1, .int .u64 z.a2, .int .u64 z.a3, .int .u64 z.a4, .int .u64 z.a5, .int .u8 c] B WL (P ++ bl k j) wr)) (fun i _ => 10 - (intOf i).toNat)
          case atStart => exact ⟨0, Nat.zero_le _, rfl, Lib.hid (by have := Q.out; simpa [bl] using this)⟩
          case round =>
            obtain ⟨j, hj, rfl, Q⟩ := hrel
            by_cases jl : j < r
            · have d1 : decide ((j : Int) < (r : Int)) = true := by rw [decide_eq_true_iff]; omega
              have d1n : decide (j < r) = true := by rw [decide_eq_true_iff]; omega
              have wj : IntKind.i64.wrap ((k : Int) + (j : Int)) = ((k + j : Nat) : Int) := by rw [IntKind.wrap_i64]; omega
              have tj : Int.tmod ((k + j : Nat) : Int) 2 = (((k + j) % 2 : Nat) : Int) := rem_nat (k + j) 2
              have bn := bl_snoc k j
              have bj : (P ++ bl k j).length ≤ 1000000 := by rw [List.length_append, bl_len]; omega
              obtain ⟨kj, hkj⟩ : ∃ kj, k + j = kj := ⟨_, rfl⟩
              rw [hkj] at wj tj bn
              by_cases par : kj % 2 = 0
              · rw [if_pos par] at bn
                rw [par] at tj
                have tj' : Int.tmod (kj : Int) 2 = 0 := tj
                have ia := two_at0
                have WB := Lib.hid (show Calls Tryz.prog 27 #[.pointer (some ⟨B, 0, none⟩), .int .u8 32] wr fun e W' => e = .returned .nilIface ∧ BX w [.int .u64 z.a0, .int .u64 z.a1, .int .u64 z.a2, .int .u64 z.a3, .int .u64 z.a4, .int .u64 z.a5, .int .u8 c] B WL (P ++ bl k (j + 1)) W' from by
                  rw [bn, ← List.append_assoc]
                  exact Q.out.byte HL.out 32 bj)
                clear bn bj tj par hkj
                go_wp2_with fail
                refine WB.out.mono ?_
                rintro e' wb ⟨rfl, q⟩
                have Q := Lib.hid q
                clear q WB
                go_wp2_with fail
                go_roundw
                case rel => exact ⟨j + 1, by omega, by go_num, Q⟩
                case measure => simp [intOf]; omega
              · rw [if_neg par] at bn
                rw [show kj % 2 = 1 by omega] at tj
                have tj' : Int.tmod (kj : Int) 2 = 1 := tj
                have ia := two_at1
                have WB := Lib.hid (show Calls Tryz.prog 27 #[.pointer (some ⟨B, 0, none⟩), .int .u8 9] wr fun e W' => e = .returned .nilIface ∧ BX w [.int .u64 z.a0, .int .u64 z.a1, .int .u64 z.a2, .int .u64 z.a3, .int .u64 z.a4, .int .u64 z.a5, .int .u8 c] B WL (P ++ bl k (j + 1)) W' from by
                  rw [bn, ← List.append_assoc]
                  exact Q.out.byte HL.out 9 bj)
                clear bn bj tj par hkj
                go_wp2_with fail
                refine WB.out.mono ?_
                rintro e' wb ⟨rfl, q⟩
                have Q := Lib.hid q
                clear q WB
                go_wp2_with fail
                go_roundw
                case rel => exact ⟨j + 1, by omega, by go_num, Q⟩
                case measure => simp [intOf]; omega
            · obtain rfl : r = j := by omega
              have d1 : decide ((r : Int) < (r : Int)) = false := by rw [decide_eq_false_iff_not]; omega
              have TW := Lib.hid (TX.out wr _ (by rw [List.length_append, bl_len]; omega) Q.out)
              rw [← HP.out] at TW
              go_wp2_with fail
              refine TW.out.mono ?_
              rintro e' wt ⟨rfl, q⟩
              have Q := Lib.hid (NX.out _ q)
              clear q TW
              go_wp2_with fail
              go_roundw
              case rel => exact ⟨k + 1, by omega, by go_num, Q⟩
              case measure => simp [intOf]; omega
        · have y0 : ((k : Int) == 0) = false := by rw [beq_eq_false_iff_ne]; omega
          have y0n : (k == 0) = false := by rw [beq_eq_false_iff_ne]; omega
          rw [if_neg k0] at hnb
          rw [hnb] at ps
          have HP := Lib.hid ps
          have r4' : s < 5 := by omega
          clear ps hnb k0 hs r4
          go_wp2_with fail
          go_loopw [50] (fun it wr => ∃ j : Nat, j ≤ s ∧ it = .int .i64 j ∧ Hid (BX w [.int .u64 z.a0, .int .u64 z.a1, .int .u64 z.a2, .int .u64 z.a3, .int .u64 z.a4, .int .u64 z.a5, .int .u8 c] B WL (P ++ bl k j) wr)) (fun i _ => 10 - (intOf i).toNat)
          case atStart => exact ⟨0, Nat.zero_le _, rfl, Lib.hid (by have := Q.out; simpa [bl] using this)⟩
          case round =>
            obtain ⟨j, hj, rfl, Q⟩ := hrel
            by_cases jl : j < s
            · have d1 : decide ((j : Int) < (s : Int)) = true := by rw [decide_eq_true_iff]; omega
              have d1n : decide (j < s) = true := by rw [decide_eq_true_iff]; omega
              have wj : IntKind.i64.wrap ((k : Int) + (j : Int)) = ((k + j : Nat) : Int) := by rw [IntKind.wrap_i64]; omega
              have tj : Int.tmod ((k + j : Nat) : Int) 2 = (((k + j) % 2 : Nat) : Int) := rem_nat (k + j) 2
              have bn := bl_snoc k j
              have bj : (P ++ bl k j).length ≤ 1000000 := by rw [List.length_append, bl_len]; omega
              obtain ⟨kj, hkj⟩ : ∃ kj, k + j = kj := ⟨_, rfl⟩
              rw [hkj] at wj tj bn
              by_cases par : kj % 2 = 0
              · rw [if_pos par] at bn
                rw [par] at tj
                have tj' : Int.tmod (kj : Int) 2 = 0 := tj
                have ia := two_at0
                have WB := Lib.hid (show Calls Tryz.prog 27 #[.pointer (some ⟨B, 0, none⟩), .int .u8 32] wr fun e W' => e = .returned .nilIface ∧ BX w [.int .u64 z.a0, .int .u64 z.a1, .int .u64 z.a2, .int .u64 z.a3, .int .u64 z.a4, .int .u64 z.a5, .int .u8 c] B WL (P ++ bl k (j + 1)) W' from by
                  rw [bn, ← List.append_assoc]
                  exact Q.out.byte HL.out 32 bj)
                clear bn bj tj par hkj
                go_wp2_with fail
                refine WB.out.mono ?_
                rintro e' wb ⟨rfl, q⟩
                have Q := Lib.hid q
                clear q WB
                go_wp2_with fail
                go_roundw
                case rel => exact ⟨j + 1, by omega, by go_num, Q⟩
                case measure => simp [intOf]; omega
              · rw [if_neg par] at bn
                rw [show kj % 2 = 1 by omega] at tj
                have tj' : Int.tmod (kj : Int) 2 = 1 := tj
                have ia := two_at1
                have WB := Lib.hid (show Calls Tryz.prog 27 #[.pointer (some ⟨B, 0, none⟩), .int .u8 9] wr fun e W' => e = .returned .nilIface ∧ BX w [.int .u64 z.a0, .int .u64 z.a1, .int .u64 z.a2, .int .u64 z.a3, .int .u64 z.a4, .int .u64 z.a5, .int .u8 c] B WL (P ++ bl k (j + 1)) W' from by
                  rw [bn, ← List.append_assoc]
                  exact Q.out.byte HL.out 9 bj)
                clear bn bj tj par hkj
                go_wp2_with fail
                refine WB.out.mono ?_
                rintro e' wb ⟨rfl, q⟩
                have Q := Lib.hid q
                clear q WB
                go_wp2_with fail
                go_roundw
                case rel => exact ⟨j + 1, by omega, by go_num, Q⟩
                case measure => simp [intOf]; omega
            · obtain rfl : s = j := by omega
              have d1 : decide ((s : Int) < (s : Int)) = false := by rw [decide_eq_false_iff_not]; omega
              have TW := Lib.hid (TX.out wr _ (by rw [List.length_append, bl_len]; omega) Q.out)
              rw [← HP.out] at TW
              go_wp2_with fail
              refine TW.out.mono ?_
              rintro e' wt ⟨rfl, q⟩
              have Q := Lib.hid (NX.out _ q)
              clear q TW
              go_wp2_with fail
              go_roundw
              case rel => exact ⟨k + 1, by omega, by go_num, Q⟩
              case measure => simp [intOf]; omega
      · have e1 : decide ((k : Int) < (len : Int)) = false := by rw [decide_eq_false_iff_not]; omega
        have e1n : decide (k < len) = false := by rw [decide_eq_false_iff_not]; omega
        have hnb : nb zs len k = if k = 0 then 0 else 1 := by unfold nb; rw [if_neg kl]
        by_cases k0 : k = 0
        · have y0 : ((k : Int) == 0) = true := by rw [beq_iff_eq]; omega
          have y0n : (k == 0) = true := by rw [beq_iff_eq]; omega
          rw [if_pos k0] at hnb
          rw [hnb] at ps
          have HP := Lib.hid ps
          clear ps hnb k0
          go_wp2_with fail
          go_loopw [50] (fun it wr => ∃ j : Nat, j ≤ 0 ∧ it = .int .i64 j ∧ Hid (BX w [.int .u64 z.a0, .int .u64 z.a1, .int .u64 z.a2, .int .u64 z.a3, .int .u64 z.a4, .int .u64 z.a5, .int .u8 c] B WL (P ++ bl k j) wr)) (fun i _ => 10 - (intOf i).toNat)
          case atStart => exact ⟨0, Nat.zero_le _, rfl, Lib.hid (by have := Q.out; simpa [bl] using this)⟩
          case round =>
            obtain ⟨j, hj, rfl, Q⟩ := hrel
            by_cases jl : j < 0
            · exact absurd jl (Nat.not_lt_zero j)
            · obtain rfl : 0 = j := by omega
              have d1 : decide ((0 : Int) < 0) = false := by rw [decide_eq_false_iff_not]; omega
              have TW := Lib.hid (TX.out wr _ (by rw [List.length_append, bl_len]; omega) Q.out)
              rw [← HP.out] at TW
              go_wp2_with fail
              refine TW.out.mono ?_
              rintro e' wt ⟨rfl, q⟩
              have Q := Lib.hid (NX.out _ q)
              clear q TW
              go_wp2_with fail
              go_roundw
              case rel => exact ⟨k + 1, by omega, by go_num, Q⟩
              case measure => simp [intOf]; omega
        · have y0 : ((k : Int) == 0) = false := by rw [beq_eq_false_iff_ne]; omega
          have y0n : (k == 0) = false := by rw [beq_eq_false_iff_ne]; omega
          rw [if_neg k0] at hnb
          rw [hnb] at ps
          have HP := Lib.hid ps
          clear ps hnb k0
          go_wp2_with fail
          go_loopw [50] (fun it wr => ∃ j : Nat, j ≤ 1 ∧ it = .int .i64 j ∧ Hid (BX w [.int .u64 z.a0, .int .u64 z.a1, .int .u64 z.a2, .int .u64 z.a3, .int .u64 z.a4, .int .u64 z.a5, .int .u8 c] B WL (P ++ bl k j) wr)) (fun i _ => 10 - (intOf i).toNat)
          case atStart => exact ⟨0, Nat.zero_le _, rfl, Lib.hid (by have := Q.out; simpa [bl] using this)⟩
          case round =>
            obtain ⟨j, hj, rfl, Q⟩ := hrel
            by_cases jl : j < 1
            · have d1 : decide ((j : Int) < 1) = true := by rw [decide_eq_true_iff]; omega
              have d1n : decide (j < 1) = true := by rw [decide_eq_true_iff]; omega
              have wj : IntKind.i64.wrap ((k : Int) + (j : Int)) = ((k + j : Nat) : Int) := by rw [IntKind.wrap_i64]; omega
              have tj : Int.tmod ((k + j : Nat) : Int) 2 = (((k + j) % 2 : Nat) : Int) := rem_nat (k + j) 2
              have bn := bl_snoc k j
              have bj : (P ++ bl k j).length ≤ 1000000 := by rw [List.length_append, bl_len]; omega
              obtain ⟨kj, hkj⟩ : ∃ kj, k + j = kj := ⟨_, rfl⟩
              rw [hkj] at wj tj bn
              by_cases par : kj % 2 = 0
              · rw [if_pos par] at bn
                rw [par] at tj
                have tj' : Int.tmod (kj : Int) 2 = 0 := tj
                have ia := two_at0
                have WB := Lib.hid (show Calls Tryz.prog 27 #[.pointer (some ⟨B, 0, none⟩), .int .u8 32] wr fun e W' => e = .returned .nilIface ∧ BX w [.int .u64 z.a0, .int .u64 z.a1, .int .u64 z.a2, .int .u64 z.a3, .int .u64 z.a4, .int .u64 z.a5, .int .u8 c] B WL (P ++ bl k (j + 1)) W' from by
                  rw [bn, ← List.append_assoc]
                  exact Q.out.byte HL.out 32 bj)
                clear bn bj tj par hkj
                go_wp2_with fail
                refine WB.out.mono ?_
                rintro e' wb ⟨rfl, q⟩
                have Q := Lib.hid q
                clear q WB
                go_wp2_with fail
                go_roundw
                case rel => exact ⟨j + 1, by omega, by go_num, Q⟩
                case measure => simp [intOf]; omega
              · rw [if_neg par] at bn
                rw [show kj % 2 = 1 by omega] at tj
                have tj' : Int.tmod (kj : Int) 2 = 1 := tj
                have ia := two_at1
                have WB := Lib.hid (show Calls Tryz.prog 27 #[.pointer (some ⟨B, 0, none⟩), .int .u8 9] wr fun e W' => e = .returned .nilIface ∧ BX w [.int .u64 z.a0, .int .u64 z.a1, .int .u64 z.a2, .int .u64 z.a3, .int .u64 z.a4, .int .u64 z.a5, .int .u8 c] B WL (P ++ bl k (j + 1)) W' from by
                  rw [bn, ← List.append_assoc]
                  exact Q.out.byte HL.out 9 bj)
                clear bn bj tj par hkj
                go_wp2_with fail
                refine WB.out.mono ?_
                rintro e' wb ⟨rfl, q⟩
                have Q := Lib.hid q
                clear q WB
                go_wp2_with fail
                go_roundw
                case rel => exact ⟨j + 1, by omega, by go_num, Q⟩
                case measure => simp [intOf]; omega
            · obtain rfl : 1 = j := by omega
              have d1 : decide ((1 : Int) < 1) = false := by rw [decide_eq_false_iff_not]; omega
              have TW := Lib.hid (TX.out wr _ (by rw [List.length_append, bl_len]; omega) Q.out)
              rw [← HP.out] at TW
              go_wp2_with fail
              refine TW.out.mono ?_
              rintro e' wt ⟨rfl, q⟩
              have Q := Lib.hid (NX.out _ q)
              clear q TW
              go_wp2_with fail
              go_roundw
              case rel => exact ⟨k + 1, by omega, by go_num, Q⟩
              case measure => simp [intOf]; omega
    · obtain rfl : k = n := by omega
      have q1 : decide ((k : Int) < (k : Int)) = false := by rw [decide_eq_false_iff_not]; omega
      have q1n : decide (k < k) = false := by rw [decide_eq_false_iff_not]; omega
      have rm : Int.tmod (len : Int) 3 = ((len % 3 : Nat) : Int) := rem_nat len 3
      have r3 : len % 3 < 3 := Nat.mod_lt _ (by decide)
      obtain ⟨r, hr⟩ : ∃ r, len % 3 = r := ⟨_, rfl⟩
      rw [hr] at rm r3
      have RP := Lib.hid (fun W : World => Tryz.strings_Repeat ⟨#[32]⟩ r W (by omega) (by show 1 * r ≤ _; omega))
      have lp := PL.out k (Nat.le_refl _)
      have hR : (∀ c ∈ Lib.repeatL [32] r, Exp.isBl c = true) ∧ (Lib.repeatL [32] r).length ≤ 2 := by
        rcases (show r = 0 ∨ r = 1 ∨ r = 2 by omega) with rfl | rfl | rfl <;> decide
      obtain ⟨t, ht⟩ : ∃ t, Lib.repeatL [32] r = t := ⟨_, rfl⟩
      rw [show (⟨#[32]⟩ : ByteArray).data.toList = [32] from rfl, ht] at RP
      rw [ht] at hR
      obtain ⟨p1, y, a, p2, a0, a1⟩ := RD.out t hR.1
      rw [← PA.out] at p1 p2 a1
      obtain ⟨P, hP⟩ : ∃ p, pre zs len ws k = p := ⟨_, rfl⟩
      rw [hP] at p1 p2 a1 Q lp
      obtain ⟨F, hF⟩ : ∃ F, P ++ t = F := ⟨_, rfl⟩
      rw [hF] at p1 p2 a1
      obtain ⟨TR, hTR⟩ : ∃ TR : ByteArray, (⟨t.toArray⟩ : ByteArray) = TR := ⟨_, rfl⟩
      rw [hTR] at RP
      have tl : TR.data.toList = t := by rw [← hTR]
      have fl : F.length ≤ 4000 := by rw [← hF, List.length_append]; omega
      have TX := Lib.hid (fun (W : World) (h : BX w [.int .u64 z.a0, .int .u64 z.a1, .int .u64 z.a2, .int .u64 z.a3, .int .u64 z.a4, .int .u64 z.a5, .int .u8 c] B WL P W) => show Calls Tryz.prog 28 #[.pointer (some ⟨B, 0, none⟩), .string TR] W fun e W' => e = .returned (.tuple #[.int .i64 TR.size, .nilIface]) ∧ BX w [.int .u64 z.a0, .int .u64 z.a1, .int .u64 z.a2, .int .u64 z.a3, .int .u64 z.a4, .int .u64 z.a5, .int .u8 c] B WL F W' from by
        have := h.text HL.out TR (by rw [Lib.size_eq, tl]; omega) (by omega)
        rw [tl, hF] at this
        exact this)
      obtain ⟨FS, hFS⟩ : ∃ FS : ByteArray, (⟨F.toArray⟩ : ByteArray) = FS := ⟨_, rfl⟩
      have fsl : FS.data.toList = F := by rw [← hFS]
      have GT := Lib.hid (fun (W : World) (h : BX w [.int .u64 z.a0, .int .u64 z.a1, .int .u64 z.a2, .int .u64 z.a3, .int .u64 z.a4, .int .u64 z.a5, .int .u8 c] B WL F W) => h.string HL.out)
      rw [hFS] at GT
      obtain ⟨GS, hGS⟩ : ∃ GS : ByteArray, FS ++ (⟨#[32, 42, 32, 42, 9, 42]⟩ : ByteArray) = GS := ⟨_, rfl⟩
      have gsl : GS.data.toList = F ++ [32, 42, 32, 42, 9, 42] := by rw [← hGS, ← fsl]; simp
      have fz : FS.size = F.length := by rw [Lib.size_eq, fsl]
      have gz : GS.size = F.length + 6 := by rw [Lib.size_eq, gsl]; simp
      rw [← fsl] at p1
      rw [← gsl] at p2
      have P1 := Lib.hid (fun (W : World) => parse_any FS (by omega) x 0 0 p1 W)
      have P2 := Lib.hid (fun (W : World) => parse_any GS (by omega) y a 10 p2 W)
      have CT := Lib.hid (fun (W : World) (h : BX w [.int .u64 z.a0, .int .u64 z.a1, .int .u64 z.a2, .int .u64 z.a3, .int .u64 z.a4, .int .u64 z.a5, .int .u8 c] B WL F W) => h.count)
      obtain ⟨m, hm⟩ : ∃ m, F.length = m := ⟨_, rfl⟩
      rw [hm] at CT fz gz a1 fl
      have t1 : decide (0 < (a : Int)) = true := by rw [decide_eq_true_iff]; omega
      have t1n : decide (0 < a) = true := by rw [decide_eq_true_iff]; omega
      have t2 : decide ((a : Int) < (m : Int) + 6) = true := by rw [decide_eq_true_iff]; omega
      have w6 : IntKind.i64.wrap ((m : Int) + 6) = (m : Int) + 6 := by rw [IntKind.wrap_i64]; omega
      have s1 : (FS.size : Int) + 6 ≤ 9223372036854775807 := by omega
      clear hr hR ht p1 p2 a0 a1 hP hF hTR tl hFS fsl gsl lp PL W6 PS PA WC RD SPOT fz gz hm
      go_wp2_with fail
      refine (RP.out _).mono ?_
      rintro e' v1 ⟨rfl, hb⟩
      have Q := Lib.hid (Q.out.next hb)
      clear hb
      go_wp2_with fail
      refine (TX.out _ Q.out).mono ?_
      rintro e' v2 ⟨rfl, q⟩
      have Q := Lib.hid q
      clear q
      go_wp2_with fail
      refine (GT.out _ Q.out).mono ?_
      rintro e' v3 ⟨rfl, q, _⟩
      have Q := Lib.hid q
      clear q
      go_wp2_with fail
      refine (P1.out _).mono ?_
      rintro e' v4 ⟨rfl, hb⟩
      have lz := (Q.out.next hb).words.lt
      have E4 : EX w [.int .u64 z.a0, .int .u64 z.a1, .int .u64 z.a2, .int .u64 z.a3, .int .u64 z.a4, .int .u64 z.a5, .int .u8 c] B WL F v4.heap.size (exL x) (v4.alloc (.cells (exL x).toArray 25)) := ⟨(Q.out.next hb).next ((Below.refl v4.heap.size v4).alloc (Nat.le_refl _) _), Row.new v4 (exL x) 25⟩
      obtain ⟨XB, hXB⟩ : ∃ b, v4.heap.size = b := ⟨_, rfl⟩
      rw [hXB] at E4 lz
      have xn : XB ≠ B := by omega
      have E := Lib.hid E4
      clear hb E4 Q lz
      go_wp2_with fail
      try rw [hXB]
      refine (GT.out _ E.out.b).mono ?_
      rintro e' v5 ⟨rfl, q, hk⟩
      have E := Lib.hid (EX.mk q (hk.row E.out.x xn (by decide)))
      clear q hk hXB
      go_wp2_with fail
      try rw [hGS]
      refine (P2.out _).mono ?_
      rintro e' v6 ⟨rfl, hb⟩
      have E7 := (E.out.next hb).next ((Below.refl v6.heap.size v6).alloc (Nat.le_refl _) (.cells #[.int .u64 y.a0, .int .u64 y.a1, .int .u64 y.a2, .int .u64 y.a3, .int .u64 y.a4, .int .u64 y.a5, .bool y.b3, .bool y.b5] 25))
      have CE := Lib.hid (fun (W : World) (h : EX w [.int .u64 z.a0, .int .u64 z.a1, .int .u64 z.a2, .int .u64 z.a3, .int .u64 z.a4, .int .u64 z.a5, .int .u8 c] B WL F XB (exL x) W) => show (W.cell? ⟨XB, 0, none⟩ = some (.int .u64 x.a0) ∧ W.cell? ⟨XB, 1, none⟩ = some (.int .u64 x.a1) ∧ W.cell? ⟨XB, 2, none⟩ = some (.int .u64 x.a2) ∧ W.cell? ⟨XB, 3, none⟩ = some (.int .u64 x.a3) ∧ W.cell? ⟨XB, 4, none⟩ = some (.int .u64 x.a4) ∧ W.cell? ⟨XB, 5, none⟩ = some (.int .u64 x.a5) ∧ W.cell? ⟨XB, 6, none⟩ = some (.bool x.b3) ∧ W.cell? ⟨XB, 7, none⟩ = some (.bool x.b5)) ∧ (W.cell? ⟨w.heap.size, 0, none⟩ = some (.int .u64 z.a0) ∧ W.cell? ⟨w.heap.size, 1, none⟩ = some (.int .u64 z.a1) ∧ W.cell? ⟨w.heap.size, 2, none⟩ = some (.int .u64 z.a2) ∧ W.cell? ⟨w.heap.size, 3, none⟩ = some (.int .u64 z.a3) ∧ W.cell? ⟨w.heap.size, 4, none⟩ = some (.int .u64 z.a4) ∧ W.cell? ⟨w.heap.size, 5, none⟩ = some (.int .u64 z.a5) ∧ W.cell? ⟨w.heap.size, 6, none⟩ = some (.int .u8 c)) from
        ⟨⟨h.x.cell 0, h.x.cell 1, h.x.cell 2, h.x.cell 3, h.x.cell 4, h.x.cell 5, h.x.cell 6, h.x.cell 7⟩, h.b.sets.cell 0, h.b.sets.cell 1, h.b.sets.cell 2, h.b.sets.cell 3, h.b.sets.cell 4, h.b.sets.cell 5, h.b.sets.cell 6⟩)
      have M2 := Lib.hid (fun (W : World) (h : EX w [.int .u64 z.a0, .int .u64 z.a1, .int .u64 z.a2, .int .u64 z.a3, .int .u64 z.a4, .int .u64 z.a5, .int .u8 c] B WL F XB (exL x) W) => (MA.out W).mono fun _ _ ⟨i, j⟩ => And.intro i (h.next j))
      have K2 := Lib.hid (fun (W : World) (h : EX w [.int .u64 z.a0, .int .u64 z.a1, .int .u64 z.a2, .int .u64 z.a3, .int .u64 z.a4, .int .u64 z.a5, .int .u8 c] B WL F XB (exL x) W) => (CT.out W h.b).mono fun _ W' ⟨i, j⟩ => show _ ∧ EX w [.int .u64 z.a0, .int .u64 z.a1, .int .u64 z.a2, .int .u64 z.a3, .int .u64 z.a4, .int .u64 z.a5, .int .u8 c] B WL F XB (exL x) W' from ⟨i, by rw [j]; exact h⟩)
      have W2 := Lib.hid (fun (W : World) (h : EX w [.int .u64 z.a0, .int .u64 z.a1, .int .u64 z.a2, .int .u64 z.a3, .int .u64 z.a4, .int .u64 z.a5, .int .u8 c] B WL F XB (exL x) W) => (works_any W h.b.lay).mono fun _ _ ⟨i, j⟩ => And.intro i (h.next j))
      obtain ⟨⟨c0, c1, c2, c3, c4, c5, c6, c7⟩, d0, d1, d2, d3, d4, d5, d6⟩ := CE.out _ E7
      have E := Lib.hid E7
      clear hb E7 MA CT P1 P2 TX GT RP
      go_wp2_with fail
      go_region_held3 (fun w' => (w'.cell? ⟨XB, 0, none⟩ = some (.int .u64 x.a0) ∧ w'.cell? ⟨XB, 1, none⟩ = some (.int .u64 x.a1) ∧ w'.cell? ⟨XB, 2, none⟩ = some (.int .u64 x.a2) ∧ w'.cell? ⟨XB, 3, none⟩ = some (.int .u64 x.a3) ∧ w'.cell? ⟨XB, 4, none⟩ = some (.int .u64 x.a4) ∧ w'.cell? ⟨XB, 5, none⟩ = some (.int .u64 x.a5) ∧ w'.cell? ⟨XB, 6, none⟩ = some (.bool x.b3) ∧ w'.cell? ⟨XB, 7, none⟩ = some (.bool x.b5)) ∧ (w'.cell? ⟨w.heap.size, 0, none⟩ = some (.int .u64 z.a0) ∧ w'.cell? ⟨w.heap.size, 1, none⟩ = some (.int .u64 z.a1) ∧ w'.cell? ⟨w.heap.size, 2, none⟩ = some (.int .u64 z.a2) ∧ w'.cell? ⟨w.heap.size, 3, none⟩ = some (.int .u64 z.a3) ∧ w'.cell? ⟨w.heap.size, 4, none⟩ = some (.int .u64 z.a4) ∧ w'.cell? ⟨w.heap.size, 5, none⟩ = some (.int .u64 z.a5) ∧ w'.cell? ⟨w.heap.size, 6, none⟩ = some (.int .u8 c))) (go_keep)
        (first | (go_at_call 25; refine (M2.out _ (by first | exact E.out | exact E.out.drew)).mono ?_; rintro e' w20 ⟨rfl, q'⟩; obtain ⟨⟨c0, c1, c2, c3, c4, c5, c6, c7⟩, d0, d1, d2, d3, d4, d5, d6⟩ := CE.out _ q'; have E := Lib.hid q'; clear q') | (go_at_call 31; refine (K2.out _ (by first | exact E.out | exact E.out.drew)).mono ?_; rintro e' w20 ⟨rfl, q'⟩; obtain ⟨⟨c0, c1, c2, c3, c4, c5, c6, c7⟩, d0, d1, d2, d3, d4, d5, d6⟩ := CE.out _ q'; have E := Lib.hid q'; clear q') | (go_at_call 12; refine (W2.out _ (by first | exact E.out | exact E.out.drew)).mono ?_; rintro e' w20 ⟨rfl, q'⟩; obtain ⟨⟨c0, c1, c2, c3, c4, c5, c6, c7⟩, d0, d1, d2, d3, d4, d5, d6⟩ := CE.out _ q'; have E := Lib.hid q'; clear q'))
      go_wp2_with fail
      go_ret
      exact ⟨rfl, E.out.b.below⟩

set_option maxRecDepth 100000 in
theorem lifted (os : Os) (started : os.Started) (H : Type) (enc : TypeId × Value → H) :
    ReturnsInHanded {} Tryz.checked os 7 .any (fun w args => (Rows.exprBlanksSpec.pre enc Tryz.prog Tryz.f7 [] false w args ∧ laidMetH Tryz.prog Rows.exprBlanksRow.laid w) ∧ sizedMet enc Tryz.prog Tryz.f7 (OpenSpec.ofChange Rows.exprBlanksSpec) false w args)
      (Rows.exprBlanksSpec.post enc Tryz.prog Tryz.f7 false true false false) := by
  refine returnsInHanded_of_change_and (C := Tryz.checked) (X := fun w _ => laidMetH Tryz.prog Rows.exprBlanksRow.laid w) (fun _ _ _ hh h => h.of_heap hh) own started (by kernel_rfl) Tryz.func7
    (ChangeSpec.witness_shaped (enc := enc) (C := Tryz.checked) (os := os) (X := fun w _ => laidMetH Tryz.prog Rows.exprBlanksRow.laid w) false (World.laidAll Tryz.prog os Rows.exprBlanksRow.laid) #[.agg #[.int .u64 0, .int .u64 0, .int .u64 0, .int .u64 0, .int .u64 0, .int .u64 0, .int .u8 0], .slice none 0 0] 8 (World.laidAll_os _ _ _) (World.shaped_of_ZipB (by kernel_rfl) (by kernel_rfl)) (by kernel_rfl) (by kernel_rfl) (by kernel_rfl) (by rw [MakeChecks.laidMetH_plain _ _ _ (by kernel_rfl)]; exact laidMet_laidAll _ (by kernel_rfl) (by kernel_rfl))) ?_
  intro W base args ds gs before hval0 hW _ _ hL _
  have hval : ∀ (j : Nat) t v, Tryz.f7.params[j]? = some t → args[j]? = some v → Value.okWide Tryz.prog W .any base t v := hval0
  have hW' := hW
  obtain ⟨p, q, hA0, hV, rfl, hfz, hnd⟩ := hW
  have hA : DataW.TrodAll enc Tryz.prog W 0 (fun _ => true) true Tryz.f7.params.toList args.toList ds p := hA0
  rw [Tryz.params7] at hA hval
  obtain ⟨v0, vs0, d0, ds0, p0, q0, hargs, rfl, rfl, h0, r0⟩ := trodAll_cons hA
  obtain ⟨v1, vs1, d1, ds1, p1, q1, rfl, rfl, rfl, h1, r1⟩ := trodAll_cons r0
  obtain ⟨rfl, rfl, rfl⟩ := trodAll_nil r1
  obtain rfl : args = #[v0, v1] := by cases args; simp_all
  obtain ⟨rfl, rfl⟩ := trodVars_none hV
  obtain ⟨z0, c0, rfl, w0, u0⟩ := open_sets (hval 0 42 v0 rfl rfl) h0
  have k0 := h0
  have lt0 : ∀ x ∈ p0, x.block < W.heap.size := by obtain ⟨m, hm⟩ := k0; exact DataW.trod_lt m _ _ _ hm
  obtain ⟨a1, len1, cap1, rfl⟩ := okWide_slice Tryz.underlying47 (hval 1 47 v1 rfl rfl)
  have k1 := h1
  have lt1 : ∀ x ∈ p1, x.block < W.heap.size := by obtain ⟨m, hm⟩ := k1; exact DataW.trod_lt m _ _ _ hm
  obtain ⟨z1, w1⟩ : ∃ zs, IsRow .u8 W a1 len1 cap1 zs := by
    obtain ⟨fuel, hf⟩ := h1
    rcases open_ints Tryz.underlying47 Tryz.underlying5 (by kernel_rfl) hf with ⟨hcs, _⟩ | ⟨x, l, c, zs, hcs, _, hl, hm, hz, _, hcell, hwz⟩
    · simp [Value.cells] at hcs
      obtain ⟨rfl, rfl, rfl⟩ := hcs
      exact ⟨[], .inl ⟨rfl, rfl, rfl, rfl⟩⟩
    · simp [Value.cells] at hcs
      obtain ⟨rfl, rfl, rfl⟩ := hcs
      exact ⟨zs, .inr ⟨_, rfl, hl, hm, by simpa using hz, hcell, hwz⟩⟩
  clear hA0 hval0
  refine (walk z0 c0 a1 len1 cap1 z1 W (lay_of _ W (by kernel_rfl) (.tail _ (.head _)) (by kernel_rfl) hL) w0 u0 w1).mono fun e W' ⟨he, bel⟩ => ?_
  subst he
  exact ⟨_, rfl, _, _, _, [], _, [], hW', trodAll_mk1 (shut_bool Tryz.underlying4 _), (trodAll_cons_mk (Below.trod laidOut (by kernel_rfl) (of_decide_eq_true (by kernel_rfl)) k0 bel lt0) (trodAll_cons_mk (Below.trod laidOut (by kernel_rfl) (of_decide_eq_true (by kernel_rfl)) k1 bel lt1) trodAll_mk0)), rfl, bel.frame _, fun h => by cases h⟩

theorem row_holds : Rows.ExprBlanksSaid :=
  OpenClaim.holds_of_wide 7 Tryz.f7 rfl rfl rfl rfl rfl rfl rfl ⟨rfl, rfl, rfl, rfl, rfl⟩ rfl rfl rfl rfl rfl (by kernel_rfl) Tryz.func7 (by kernel_rfl)
    (of_decide_eq_true (by kernel_rfl)) (by unfold Func.isWrapper; first | (rw [if_pos (by decide +kernel)]; kernel_rfl) | (rw [if_neg (by decide +kernel)]; exact ⟨rfl, rfl⟩))
    (fun os started H enc _ => lifted os started H enc)

theorem proved : Rows.ExprBlanksCardSaid :=
  Claim7.holds_tied_plain_at .later [] Rows.exprBlanksCard.laidKinds true Rows.exprBlanksCard.stood.harness Rows.exprBlanksCard.stood.looks
    row_holds (fun _ h => by cases h) (by kernel_rfl) (fun _ h => by cases h) exprBlanks_row_tie rfl ⟨rfl, rfl⟩ (by kernel_rfl) rfl
    (fun f fn hf hfn => by
      obtain rfl : f = 7 := Option.some.inj ((show Tryz.prog.funcNamed Rows.exprBlanksRow.func = some 7 by kernel_rfl).symm.trans hf) |>.symm
      obtain rfl : fn = Tryz.f7 := (Option.some.inj (Tryz.func7.symm.trans hfn)).symm
      exact ⟨looks0, fun j t ht => by
        rw [Tryz.params7] at ht
        have hm : t ∈ [42, 47] := by simpa using Array.mem_of_getElem? ht
        have hall : ([42, 47].all fun u => !Tryz.prog.wantsStandIn u) = true := by kernel_rfl
        exact (show Tryz.prog.wantsStandIn t = false by simpa using List.all_eq_true.1 hall t hm)⟩)
    (by kernel_rfl)
end Go.Proofs.YtpnfifhanmpapaaGreatDoor.exprBlanks
