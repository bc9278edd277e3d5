/- Plain mathematics of crontab expressions: which are valid, their texts, how texts are read. No program stands here. Blocks of a call's own, told cell by cell; an expression in a block; where its fields lie. -/
import Derived.Test.YtpnfifhanmpapaaGreatDoorMFldO
import Derived.Test.YtpnfifhanmpapaaGreatDoorMPlain
import Derived.Test.YtpnfifhanmpapaaGreatDoorMFldR
import Derived.Laws.Rows
import Derived.Deep.RegionHeld3
import Derived.WalkSmall
/- Plain mathematics of crontab expressions: which are valid, their texts, how texts are read. No program stands here. -/
namespace Go.Proofs.YtpnfifhanmpapaaGreatDoor.Exp

/-- an expression -/
structure Ex where
  a0 : Nat
  a1 : Nat
  a2 : Nat
  a3 : Nat
  a4 : Nat
  a5 : Nat
  b3 : Bool
  b5 : Bool
def Ex.at (x : Ex) : Nat → Nat
  | 0 => x.a0
  | 1 => x.a1
  | 2 => x.a2
  | 3 => x.a3
  | 4 => x.a4
  | _ => x.a5
def zero : Ex := ⟨0, 0, 0, 0, 0, 0, false, false⟩
/-- all numbers of a field -/
def fl (i : Nat) : Nat := fullK (kd6 i)
/-- an expression that is valid -/
structure Ex.Ok (x : Ex) : Prop where
  ne : ∀ i, i < 6 → x.at i ≠ 0
  inn : ∀ i, i < 6 → Fld.In (kd6 i) (x.at i)
  d : x.b3 = true → x.a3 = fl 3
  w : x.b5 = true → x.a5 = fl 5
/-- is a field written as a star? -/
def Ex.star (x : Ex) (i : Nat) : Bool := match i with
  | 3 => x.b3
  | 5 => x.b5
  | i => decide (x.at i = fl i)
/-- the text of a field -/
def Ex.ft (x : Ex) (i : Nat) : List UInt8 := if x.star i = true then [42] else txt (x.at i)
def Ex.fts (x : Ex) : List (List UInt8) := [x.ft 0, x.ft 1, x.ft 2, x.ft 3, x.ft 4, x.ft 5]
/-- the texts that are written -/
def Ex.ws (x : Ex) : List (List UInt8) := if x.a0 = 1 then x.fts.tail else x.fts
/-- the text of an expression -/
def Ex.text (x : Ex) : List UInt8 := Lex.joinL [32] x.ws

theorem join_L (sep : List UInt8) : ∀ ws : List (List UInt8), Lib.join ws sep = Lex.joinL sep ws
  | [] => rfl
  | [w] => by simp [Lib.join, Lex.joinL, List.intercalate]
  | w :: v :: r => by
    have ih := join_L sep (v :: r)
    unfold Lib.join at ih
    unfold Lib.join Lex.joinL
    rw [← ih]
    simp [List.intercalate, List.intersperse]

/-! reading -/
/-- what a word is as the field i -/
def fp (i : Nat) (t : List UInt8) : Nat × Bool × Nat × Nat := Fld.parse (kd6 i) t
def wAt (ws : List (Nat × List UInt8)) (i : Nat) : Nat × List UInt8 := ws.getD i (0, [])
def errAt (ws : List (Nat × List UInt8)) (i : Nat) : Nat := (fp i (wAt ws i).2).2.2.2
def setAt (ws : List (Nat × List UInt8)) (i : Nat) : Nat := (fp i (wAt ws i).2).1
def starAt (ws : List (Nat × List UInt8)) (i : Nat) : Bool := (fp i (wAt ws i).2).2.1
def placeAt (ws : List (Nat × List UInt8)) (i : Nat) : Nat := (wAt ws i).1 + (fp i (wAt ws i).2).2.2.1
/-- the expression of six words that are right -/
def exOf (ws : List (Nat × List UInt8)) : Ex := ⟨setAt ws 0, setAt ws 1, setAt ws 2, setAt ws 3, setAt ws 4, setAt ws 5, starAt ws 3, starAt ws 5⟩
/-- the first of six words that is wrong -/
def bad6 (ws : List (Nat × List UInt8)) : Option Nat := (List.range 6).find? fun i => decide (errAt ws i ≠ 0)
def read (ws : List (Nat × List UInt8)) : Ex × Nat × Nat :=
  match bad6 ws with
  | some i => (zero, placeAt ws i, errAt ws i)
  | none => (exOf ws, 0, 0)
/-- the words of six fields: five words stand for those from Minute on -/
def six (ws : List (Nat × List UInt8)) : List (Nat × List UInt8) := if ws.length = 5 then (0, [48]) :: ws else ws
/-- a text that is no macro -/
def plain (l : List UInt8) : Ex × Nat × Nat :=
  if (words l).length < 5 then (zero, l.length, 10)
  else if 6 < (words l).length then (zero, (wAt (words l) 6).1, 10)
  else read (six (words l))
/-- the macros and their texts -/
def macs : List (List UInt8 × List UInt8) := [
  ([64, 121, 101, 97, 114, 108, 121], [48, 32, 48, 32, 49, 32, 49, 32, 42]),
  ([64, 97, 110, 110, 117, 97, 108, 108, 121], [48, 32, 48, 32, 49, 32, 49, 32, 42]),
  ([64, 109, 111, 110, 116, 104, 108, 121], [48, 32, 48, 32, 49, 32, 42, 32, 42]),
  ([64, 119, 101, 101, 107, 108, 121], [48, 32, 48, 32, 42, 32, 42, 32, 48]),
  ([64, 100, 97, 105, 108, 121], [48, 32, 48, 32, 42, 32, 42, 32, 42]),
  ([64, 109, 105, 100, 110, 105, 103, 104, 116], [48, 32, 48, 32, 42, 32, 42, 32, 42]),
  ([64, 104, 111, 117, 114, 108, 121], [48, 32, 42, 32, 42, 32, 42, 32, 42]),
  ([64, 109, 105, 110, 117, 116, 101, 108, 121], [42, 32, 42, 32, 42, 32, 42, 32, 42]),
  ([64, 115, 101, 99, 111, 110, 100, 108, 121], [42, 32, 42, 32, 42, 32, 42, 32, 42, 32, 42])]
def macro_ (l : List UInt8) : Option (List UInt8) := (macs.find? fun p => p.1 == l).map (·.2)
/-- what Macro returns -/
def macR (l : List UInt8) : Ex × Bool :=
  match macro_ l with
  | some t => ((plain t).1, true)
  | none => (zero, false)
/-- is a text one word that begins with @? -/
def isMac (ws : List (Nat × List UInt8)) : Bool := decide (ws.length = 1) && decide ((wAt ws 0).2.head? = some 64)
/-- what Parse returns -/
def parse (l : List UInt8) : Ex × Nat × Nat :=
  if isMac (words l) = true then (if (macR (wAt (words l) 0).2).2 = true then ((macR (wAt (words l) 0).2).1, 0, 0) else (zero, (wAt (words l) 0).1, 10)) else plain l
/-- what Normal returns -/
def norm (l : List UInt8) : List UInt8 × Nat × Nat :=
  if (parse l).2.2 = 0 then ((parse l).1.text, 0, 0) else ([], (parse l).2.1, (parse l).2.2)

/-! facts -/
theorem kd_ok {i : Nat} (h : i < 6) : (kd6 i).Ok := kd6_ok i h
theorem bad6_none {ws : List (Nat × List UInt8)} : bad6 ws = none ↔ ∀ i, i < 6 → errAt ws i = 0 := by
  unfold bad6
  rw [List.find?_eq_none]
  simp
theorem bad6_some {ws : List (Nat × List UInt8)} {i : Nat} (h : i < 6) (he : errAt ws i ≠ 0) (hn : ∀ j, j < i → errAt ws j = 0) : bad6 ws = some i := by
  unfold bad6
  rw [List.find?_range_eq_some]
  exact ⟨by simpa using he, by simpa using h, fun j hj => by simpa using hn j hj⟩
theorem bad6_is {ws : List (Nat × List UInt8)} {i : Nat} (h : bad6 ws = some i) : i < 6 ∧ errAt ws i ≠ 0 ∧ ∀ j, j < i → errAt ws j = 0 := by
  unfold bad6 at h
  rw [List.find?_range_eq_some] at h
  obtain ⟨a, b, c⟩ := h
  exact ⟨by simpa using b, by simpa using a, fun j hj => by simpa using c j hj⟩
theorem read_ok {ws : List (Nat × List UInt8)} (h : ∀ i, i < 6 → errAt ws i = 0) : read ws = (exOf ws, 0, 0) := by
  unfold read; rw [bad6_none.2 h]
theorem read_bad {ws : List (Nat × List UInt8)} {i : Nat} (h : i < 6) (he : errAt ws i ≠ 0) (hn : ∀ j, j < i → errAt ws j = 0) : read ws = (zero, placeAt ws i, errAt ws i) := by
  unfold read; rw [bad6_some h he hn]
theorem exOf_ok {ws : List (Nat × List UInt8)} (h : ∀ i, i < 6 → errAt ws i = 0) : (exOf ws).Ok := by
  have g := fun i hi => Fld.parse_good (kd_ok (i := i) hi) (wAt ws i).2 (h i hi)
  refine ⟨fun i hi => ?_, fun i hi => ?_, fun e => ?_, fun e => ?_⟩
  · exact six_cases hi (P := fun i => (exOf ws).at i ≠ 0) (g 0 (by decide)).1 (g 1 (by decide)).1 (g 2 (by decide)).1 (g 3 (by decide)).1 (g 4 (by decide)).1 (g 5 (by decide)).1
  · exact six_cases hi (P := fun i => Fld.In (kd6 i) ((exOf ws).at i)) (g 0 (by decide)).2.1 (g 1 (by decide)).2.1 (g 2 (by decide)).2.1 (g 3 (by decide)).2.1 (g 4 (by decide)).2.1 (g 5 (by decide)).2.1
  · exact (g 3 (by decide)).2.2.2.2 e
  · exact (g 5 (by decide)).2.2.2.2 e
/-- what is read: a valid expression, or an error and a place -/
theorem read_res (ws : List (Nat × List UInt8)) (n : Nat) (hn : ∀ i, i < 6 → (wAt ws i).1 + (wAt ws i).2.length ≤ n) : ((read ws).2.2 = 0 ∧ (read ws).2.1 = 0 ∧ (read ws).1.Ok) ∨ ((read ws).1 = zero ∧ (read ws).2.1 ≤ n ∧ ((read ws).2.2 = 10 ∨ (read ws).2.2 = 2)) := by
  cases h : bad6 ws with
  | none =>
    have h := bad6_none.1 h
    rw [read_ok h]
    exact .inl ⟨rfl, rfl, exOf_ok h⟩
  | some i =>
    obtain ⟨a, b, c⟩ := bad6_is h
    rw [read_bad a b c]
    have q := Fld.parse_bad (K := kd6 i) (wAt ws i).2 b
    have := hn i a
    refine .inr ⟨rfl, ?_, ?_⟩
    · have := q.2.2.1
      show (wAt ws i).1 + (Fld.parse (kd6 i) (wAt ws i).2).2.2.1 ≤ n
      omega
    · rcases q.2.2.2 with e | e
      · exact .inl e
      · exact .inr e.1
theorem words_in (l : List UInt8) : ∀ x ∈ words l, x.1 + x.2.length ≤ l.length ∧ x.2 ≠ [] ∧ ∀ c ∈ x.2, isBl c = false := fun x hx => by
  have := Lex.wq_in isBl l [] 0 (by simp) (by simp) x hx
  rw [Nat.zero_add] at this
  exact this
theorem wAt_mem {ws : List (Nat × List UInt8)} {i : Nat} (h : i < ws.length) : wAt ws i ∈ ws := by
  unfold wAt
  rw [List.getD_eq_getElem?_getD, List.getElem?_eq_getElem h]
  exact List.getElem_mem h
theorem six_len {ws : List (Nat × List UInt8)} (h : ws.length = 5 ∨ ws.length = 6) : (six ws).length = 6 := by
  unfold six
  rcases h with h | h
  · rw [if_pos h, List.length_cons, h]
  · rw [if_neg (by omega), h]
theorem six_bd {l : List UInt8} (h : (words l).length = 5 ∨ (words l).length = 6) : ∀ i, i < 6 → (wAt (six (words l)) i).1 + (wAt (six (words l)) i).2.length ≤ l.length := by
  have hw := words_in l
  have ne : 1 ≤ l.length := by
    have q := hw _ (wAt_mem (ws := words l) (i := 0) (by omega))
    have : 1 ≤ (wAt (words l) 0).2.length := List.length_pos_iff.2 q.2.1
    omega
  intro i hi
  unfold six
  split
  · rename_i h5
    cases i with
    | zero => show 0 + 1 ≤ l.length; omega
    | succ i =>
      have : wAt ((0, [48]) :: words l) (i + 1) = wAt (words l) i := by simp [wAt]
      rw [this]
      exact (hw _ (wAt_mem (by omega))).1
  · exact (hw _ (wAt_mem (by omega))).1
theorem plain_res (l : List UInt8) : ((plain l).2.2 = 0 ∧ (plain l).2.1 = 0 ∧ (plain l).1.Ok) ∨ ((plain l).1 = zero ∧ (plain l).2.1 ≤ l.length ∧ ((plain l).2.2 = 10 ∨ (plain l).2.2 = 2)) := by
  unfold plain
  split
  · exact .inr ⟨rfl, Nat.le_refl _, .inl rfl⟩
  · split
    · rename_i h
      have := (words_in l _ (wAt_mem h)).1
      exact .inr ⟨rfl, by show (wAt (words l) 6).1 ≤ l.length; omega, .inl rfl⟩
    · exact read_res _ _ (six_bd (by omega))
/-- six fields that are read -/
theorem mac_ok : ∀ p ∈ macs, (plain p.2).2.2 = 0 := by decide +kernel
theorem macro_mem {l t : List UInt8} (h : macro_ l = some t) : ∃ p ∈ macs, p.2 = t ∧ p.1 = l := by
  unfold macro_ at h
  cases e : macs.find? (fun p => p.1 == l) with
  | none => rw [e] at h; cases h
  | some p =>
    rw [e] at h
    have a := List.find?_some e
    exact ⟨p, List.mem_of_find?_eq_some e, by simpa using h, by simpa using a⟩
theorem macR_ok {l : List UInt8} (h : (macR l).2 = true) : (macR l).1.Ok := by
  unfold macR at h ⊢
  cases e : macro_ l with
  | none => rw [e] at h; cases h
  | some t =>
    obtain ⟨p, hp, rfl, _⟩ := macro_mem e
    have q := mac_ok p hp
    rcases plain_res p.2 with r | r
    · exact r.2.2
    · rw [q] at r; omega
theorem parse_res (l : List UInt8) : ((parse l).2.2 = 0 ∧ (parse l).2.1 = 0 ∧ (parse l).1.Ok) ∨ ((parse l).1 = zero ∧ (parse l).2.1 ≤ l.length ∧ ((parse l).2.2 = 10 ∨ (parse l).2.2 = 2)) := by
  unfold parse
  split
  · rename_i h
    split
    · rename_i e
      exact .inl ⟨rfl, rfl, macR_ok e⟩
    · unfold isMac at h
      simp only [Bool.and_eq_true, decide_eq_true_iff] at h
      have := (words_in l _ (wAt_mem (i := 0) (by omega))).1
      exact .inr ⟨rfl, by show (wAt (words l) 0).1 ≤ l.length; omega, .inl rfl⟩
  · exact plain_res l

/-! what is written is read -/
theorem dig_not_bl {c : UInt8} (h : Fld.isDig c = true) : isBl c = false := by
  unfold Fld.isDig Fld.digN at h
  have h := of_decide_eq_true h
  unfold isBl
  rw [Bool.or_eq_false_iff, beq_eq_false_iff_ne, beq_eq_false_iff_ne]
  constructor
  · rintro rfl; simp at h
  · rintro rfl; simp at h
theorem runT_bl {r : Nat × Nat × Nat} (h : Fld.RunOk r) : ∀ c ∈ runT r, isBl c = false := by
  obtain ⟨h1, h2, h3, _⟩ := h
  intro c hc
  unfold runT at hc
  simp only [List.mem_append] at hc
  rcases hc with (hc | hc) | hc
  · exact dig_not_bl (Fld.dec_dig _ h1 c hc)
  · split at hc
    · cases hc
    · rcases List.mem_cons.1 hc with rfl | hc
      · decide
      · exact dig_not_bl (Fld.dec_dig _ h2 c hc)
  · split at hc
    · cases hc
    · rcases List.mem_cons.1 hc with rfl | hc
      · decide
      · exact dig_not_bl (Fld.dec_dig _ h3 c hc)
theorem tailT_bl : ∀ rs : List (Nat × Nat × Nat), (∀ r ∈ rs, Fld.RunOk r) → ∀ c ∈ Fld.tailT rs, isBl c = false
  | [], _ => by simp [Fld.tailT_nil]
  | r :: rs, h => by
    intro c hc
    rw [Fld.tailT_cons] at hc
    rcases List.mem_cons.1 hc with rfl | hc
    · decide
    · rcases List.mem_append.1 hc with hc | hc
      · exact runT_bl (h r (by simp)) c hc
      · exact tailT_bl rs (fun r hr => h r (by simp [hr])) c hc
theorem txt_bl (S : Nat) : ∀ c ∈ txt S, isBl c = false := by
  intro c hc
  have h := Fld.runs_ok S
  unfold txt at hc
  cases e : Bit.runs (Bit.mem S) with
  | nil => rw [e] at hc; simp [txtR, Lib.join, List.intercalate] at hc
  | cons r rs =>
    rw [e] at hc h
    rw [Fld.txtR_cons] at hc
    rcases List.mem_append.1 hc with hc | hc
    · exact runT_bl (h r (by simp)) c hc
    · exact tailT_bl rs (fun r hr => h r (by simp [hr])) c hc
theorem at_lt {x : Ex} (h : x.Ok) {i : Nat} (hi : i < 6) : x.at i < 2 ^ 64 := by
  apply Nat.lt_pow_two_of_testBit
  intro v hv
  cases e : (x.at i).testBit v with
  | false => rfl
  | true =>
    have a := h.inn i hi v e
    have b := (kd_ok hi).hi
    omega
theorem txt_ne {i S : Nat} (hi : i < 6) (h0 : S ≠ 0) (hS : S < 2 ^ 64) (hI : Fld.In (kd6 i) S) : txt S ≠ [] := by
  intro e
  have := Fld.parse_txt (kd_ok hi) h0 hS hI
  rw [e] at this
  have q : Fld.parse (kd6 i) [] = (0, false, 0, 10) := by
    refine six_cases hi (P := fun i => Fld.parse (kd6 i) [] = (0, false, 0, 10)) ?_ ?_ ?_ ?_ ?_ ?_ <;> rfl
  rw [q] at this
  cases this
theorem star_full {x : Ex} (h : x.Ok) {i : Nat} (hs : x.star i = true) : x.at i = fl i := by
  unfold Ex.star at hs
  split at hs
  · exact h.d hs
  · exact h.w hs
  · exact of_decide_eq_true hs
theorem ft_word {x : Ex} (h : x.Ok) {i : Nat} (hi : i < 6) : x.ft i ≠ [] ∧ ∀ c ∈ x.ft i, isBl c = false := by
  unfold Ex.ft
  split
  · exact ⟨by simp, by decide⟩
  · exact ⟨txt_ne hi (h.ne i hi) (at_lt h hi) (h.inn i hi), txt_bl _⟩
theorem ft_read {x : Ex} (h : x.Ok) {i : Nat} (hi : i < 6) : fp i (x.ft i) = (x.at i, x.star i, 0, 0) := by
  unfold Ex.ft fp
  cases e : x.star i with
  | true => rw [if_pos rfl, Fld.parse_star (kd_ok hi), star_full h e]; rfl
  | false => rw [if_neg (by simp), Fld.parse_txt (kd_ok hi) (h.ne i hi) (at_lt h hi) (h.inn i hi)]
theorem ft_is {x : Ex} (h : x.Ok) {i : Nat} (hi : i < 6) : printR (kd6 i) (x.at i) (x.star i) = (x.ft i, 0) := by
  rw [Fld.print_norm (kd_ok hi) (h.ne i hi) (h.inn i hi) (fun e => star_full h e)]
  rfl
theorem ft_zero {x : Ex} (h : x.Ok) : x.ft 0 = [48] ↔ x.a0 = 1 := by
  have q : fp 0 [48] = (1, false, 0, 0) := by decide +kernel
  constructor
  · intro e
    have := ft_read h (i := 0) (by decide)
    rw [e, q] at this
    exact (congrArg Prod.fst this).symm
  · intro e
    have s : x.star 0 = false := by
      show decide (x.a0 = fl 0) = false
      rw [e]
      decide +kernel
    unfold Ex.ft
    rw [s, if_neg (by simp)]
    show txt x.a0 = [48]
    rw [e]
    decide +kernel
theorem fts_words {x : Ex} (h : x.Ok) : ∀ t ∈ x.fts, t ≠ [] ∧ ∀ c ∈ t, isBl c = false := by
  intro t ht
  simp only [Ex.fts, List.mem_cons, List.not_mem_nil, or_false] at ht
  rcases ht with rfl | rfl | rfl | rfl | rfl | rfl
  · exact ft_word h (by decide)
  · exact ft_word h (by decide)
  · exact ft_word h (by decide)
  · exact ft_word h (by decide)
  · exact ft_word h (by decide)
  · exact ft_word h (by decide)
theorem ws_words {x : Ex} (h : x.Ok) : ∀ t ∈ x.ws, t ≠ [] ∧ ∀ c ∈ t, isBl c = false := by
  unfold Ex.ws
  split
  · exact fun t ht => fts_words h t (List.mem_of_mem_tail ht)
  · exact fts_words h
theorem ws_len (x : Ex) : x.ws.length = if x.a0 = 1 then 5 else 6 := by
  unfold Ex.ws
  split <;> rfl
/-- words with blanks between them -/
theorem words_laid {xs : List (List UInt8 × List UInt8)} {t : List UInt8} (h1 : ∀ x ∈ xs, (∀ c ∈ x.1, isBl c = true) ∧ x.2 ≠ [] ∧ ∀ c ∈ x.2, isBl c = false) (h2 : ∀ x ∈ xs.tail, x.1 ≠ []) (h3 : t = [] ∨ ∃ c r, t = c :: r ∧ isBl c = true) :
    words (Lex.laid xs ++ t) = Lex.placed 0 xs ++ Lex.wq isBl (Lex.laid xs).length [] t := by
  unfold words
  rw [Lex.wq_laid isBl xs t 0 h1 h2 h3, Nat.zero_add]
theorem sepd_fit {ws : List (List UInt8)} (h : ∀ t ∈ ws, t ≠ [] ∧ ∀ c ∈ t, isBl c = false) : (∀ x ∈ Lex.sepd [32] ws, (∀ c ∈ x.1, isBl c = true) ∧ x.2 ≠ [] ∧ ∀ c ∈ x.2, isBl c = false) ∧ ∀ x ∈ (Lex.sepd [32] ws).tail, x.1 ≠ [] := by
  cases ws with
  | nil => exact ⟨by simp [Lex.sepd], by simp [Lex.sepd]⟩
  | cons w r =>
    refine ⟨fun x hx => ?_, fun x hx => ?_⟩
    · simp only [Lex.sepd, List.mem_cons, List.mem_map] at hx
      rcases hx with rfl | ⟨v, hv, rfl⟩
      · exact ⟨by simp, h w (by simp)⟩
      · exact ⟨fun c hc => by (rcases List.mem_singleton.1 hc with rfl; decide), h v (by simp [hv])⟩
    · simp only [Lex.sepd, List.tail_cons, List.mem_map] at hx
      obtain ⟨v, _, rfl⟩ := hx
      simp
theorem words_join {ws : List (List UInt8)} (h : ∀ t ∈ ws, t ≠ [] ∧ ∀ c ∈ t, isBl c = false) : words (Lex.joinL [32] ws) = Lex.placed 0 (Lex.sepd [32] ws) := by
  have q := words_laid (sepd_fit h).1 (sepd_fit h).2 (t := []) (.inl rfl)
  rw [List.append_nil] at q
  rw [Lex.joinL_laid, q]
  simp [Lex.wq]
/-- reading depends on the texts of the words alone, while they are right -/
theorem exOf_map {ws vs : List (Nat × List UInt8)} (h : ws.map (·.2) = vs.map (·.2)) : exOf ws = exOf vs ∧ ∀ i, errAt ws i = errAt vs i := by
  have e : ∀ i, (wAt ws i).2 = (wAt vs i).2 := fun i => by
    have := congrArg (fun l => l.getD i []) h
    simp only [List.getD_eq_getElem?_getD, List.getElem?_map] at this
    unfold wAt
    rw [List.getD_eq_getElem?_getD, List.getD_eq_getElem?_getD]
    cases a : ws[i]? <;> cases b : vs[i]? <;> simp_all
  constructor
  · unfold exOf setAt starAt; simp only [e]
  · intro i; unfold errAt; rw [e]
theorem fts_read {x : Ex} (h : x.Ok) {ws : List (Nat × List UInt8)} (hw : ws.map (·.2) = x.fts) : read ws = (x, 0, 0) := by
  have e : ∀ i, i < 6 → (wAt ws i).2 = x.ft i := fun i hi => by
    have := congrArg (fun l => l.getD i []) hw
    simp only [List.getD_eq_getElem?_getD, List.getElem?_map] at this
    have l6 : ws.length = 6 := by
      have := congrArg List.length hw
      simpa [Ex.fts] using this
    unfold wAt
    rw [List.getD_eq_getElem?_getD, List.getElem?_eq_getElem (by omega)]
    rw [List.getElem?_eq_getElem (by omega)] at this
    simp only [Option.map_some, Option.getD_some] at this ⊢
    rw [this]
    exact six_cases hi (P := fun i => x.fts[i]?.getD [] = x.ft i) rfl rfl rfl rfl rfl rfl
  have f : ∀ i, i < 6 → fp i (wAt ws i).2 = (x.at i, x.star i, 0, 0) := fun i hi => by rw [e i hi, ft_read h hi]
  rw [read_ok fun i hi => by unfold errAt; rw [f i hi]]
  unfold exOf setAt starAt
  rw [f 0 (by decide), f 1 (by decide), f 2 (by decide), f 3 (by decide), f 4 (by decide), f 5 (by decide)]
  rfl
theorem six_map {x : Ex} (h : x.Ok) {ws : List (Nat × List UInt8)} (hw : ws.map (·.2) = x.ws) : (six ws).map (·.2) = x.fts := by
  have l := congrArg List.length hw
  rw [List.length_map, ws_len] at l
  unfold six
  by_cases c : x.a0 = 1
  · rw [if_pos c] at l
    rw [if_pos l, List.map_cons, hw]
    unfold Ex.ws
    rw [if_pos c]
    have := (ft_zero h).2 c
    rw [← this]
    rfl
  · rw [if_neg c] at l
    rw [if_neg (by omega), hw]
    unfold Ex.ws
    rw [if_neg c]
/-- a text whose words are those of a valid expression is read as this expression -/
theorem parse_ws {x : Ex} (h : x.Ok) {l : List UInt8} (hw : (words l).map (·.2) = x.ws) : parse l = (x, 0, 0) := by
  have n := congrArg List.length hw
  rw [List.length_map, ws_len] at n
  have n5 : (words l).length = 5 ∨ (words l).length = 6 := by split at n <;> omega
  unfold parse
  rw [if_neg (by unfold isMac; rw [decide_eq_false (by omega)]; simp)]
  unfold plain
  rw [if_neg (by omega), if_neg (by omega)]
  exact fts_read h (six_map h hw)
theorem parse_text {x : Ex} (h : x.Ok) : parse x.text = (x, 0, 0) := by
  apply parse_ws h
  unfold Ex.text
  rw [words_join (ws_words h), Lex.placed_map, Lex.sepd_map]
theorem norm_text {x : Ex} (h : x.Ok) : norm x.text = (x.text, 0, 0) := by
  unfold norm
  rw [parse_text h, if_pos rfl]
theorem norm_ok {l : List UInt8} (h : (parse l).2.2 = 0) : norm l = ((parse l).1.text, 0, 0) := by unfold norm; rw [if_pos h]
theorem norm_bad {l : List UInt8} (h : (parse l).2.2 ≠ 0) : norm l = ([], (parse l).2.1, (parse l).2.2) := by unfold norm; rw [if_neg h]
theorem ft_len (x : Ex) (i : Nat) : (x.ft i).length ≤ 600 := by
  unfold Ex.ft
  split
  · simp
  · exact txt_len _
theorem text_len (x : Ex) : x.text.length ≤ 4000 := by
  have h : ∀ t ∈ x.ws, t.length ≤ 600 := by
    have g : ∀ t ∈ x.fts, t.length ≤ 600 := by
      intro t ht
      simp only [Ex.fts, List.mem_cons, List.not_mem_nil, or_false] at ht
      rcases ht with rfl | rfl | rfl | rfl | rfl | rfl <;> exact ft_len _ _
    unfold Ex.ws
    split
    · exact fun t ht => g t (List.mem_of_mem_tail ht)
    · exact g
  have a := Lex.joinL_len [32] x.ws
  have b : x.ws.length ≤ 6 := by rw [ws_len]; split <;> omega
  have c : (x.ws.map List.length).sum ≤ x.ws.length * 600 := by
    have : ∀ l : List (List UInt8), (∀ t ∈ l, t.length ≤ 600) → (l.map List.length).sum ≤ l.length * 600 := by
      intro l
      induction l with
      | nil => simp
      | cons t r ih =>
        intro h
        have := ih fun t ht => h t (by simp [ht])
        have := h t (by simp)
        simp only [List.map_cons, List.sum_cons, List.length_cons]
        omega
    exact this _ h
  unfold Ex.text
  simp only [List.length_cons, List.length_nil] at a
  omega
end Go.Proofs.YtpnfifhanmpapaaGreatDoor.Exp
/- Blocks of a call's own, told cell by cell; an expression in a block; where its fields lie. -/
namespace Go.Proofs.YtpnfifhanmpapaaGreatDoor
open Go.ChangeShapes Go.WideShapes Go.RowKit Go.Shelf

theorem bel_cell {B b : Nat} {w W : World} (h : Below B w W) (hb : B ≤ b) (k : Nat) (v : Value) : Below B w (W.setCell ⟨b, k, none⟩ v) := h.setCell (p := ⟨b, k, none⟩) hb v
/-- what a block holds -/
def Row (W : World) (b : Nat) (t : TypeId) (cs : List Value) : Prop := W.heap[b]? = some (.cells cs.toArray t (0, 0))
theorem Row.lt {W : World} {b : Nat} {t : TypeId} {cs : List Value} (h : Row W b t cs) : b < W.heap.size := (Array.getElem?_eq_some_iff.1 h).1
theorem Row.cell {W : World} {b : Nat} {t : TypeId} {cs : List Value} (h : Row W b t cs) (k : Nat) : W.cell? ⟨b, k, none⟩ = cs[k]? := by
  have h' : W.heap[b]? = some (.cells cs.toArray t (0, 0)) := h
  simp only [World.cell?, h']
  simp
theorem Row.free {W : World} {b : Nat} {t : TypeId} {cs : List Value} (h : Row W b t cs) (k : Nat) : W.frozen? ⟨b, k, none⟩ = false := by
  have h' : W.heap[b]? = some (.cells cs.toArray t (0, 0)) := h
  simp [World.frozen?, h']
theorem Row.new (W : World) (cs : List Value) (t : TypeId) : Row (W.alloc (.cells cs.toArray t)) W.heap.size t cs := World.alloc_heap_new W _
theorem Row.below {W W' : World} {b : Nat} {t : TypeId} {cs : List Value} (h : Row W b t cs) (hb : Below W.heap.size W W') : Row W' b t cs := (hb.block _ h.lt).trans h
theorem Row.alloc {W : World} {b : Nat} {t : TypeId} {cs : List Value} (h : Row W b t cs) (o : Obj) : Row (W.alloc o) b t cs := h.below ((Below.refl _ _).alloc (Nat.le_refl _) _)
theorem Row.drew {W : World} {b : Nat} {t : TypeId} {cs : List Value} (h : Row W b t cs) : Row W.drew b t cs := h
theorem Row.drewN {W : World} {b : Nat} {t : TypeId} {cs : List Value} (h : Row W b t cs) (n : Nat) : Row (W.drewN n) b t cs := h.below (below_drewN _ W n)
theorem Row.other {W : World} {b : Nat} {t : TypeId} {cs : List Value} (h : Row W b t cs) (a : Addr) (v : Value) (hb : b ≠ a.block) : Row (W.setCell a v) b t cs := (Below.heap_setCell _ _ _ _ hb).trans h
theorem Row.set {W : World} {b : Nat} {t : TypeId} {cs : List Value} (h : Row W b t cs) (k : Nat) (v : Value) : Row (W.setCell ⟨b, k, none⟩ v) b t (cs.set k v) := by
  unfold Row
  rw [heap_setCell_same W b k cs.toArray t v h]
  simp
theorem set6_row {W : World} {b : Nat} {t : TypeId} {a0 a1 a2 a3 a4 a5 : Value} (h : Row W b t [a0, a1, a2, a3, a4, a5]) (v0 v1 v2 v3 v4 v5 : Value) :
    Row ((((((W.setCell ⟨b, 0, none⟩ v0).setCell ⟨b, 1, none⟩ v1).setCell ⟨b, 2, none⟩ v2).setCell ⟨b, 3, none⟩ v3).setCell ⟨b, 4, none⟩ v4).setCell ⟨b, 5, none⟩ v5) b t [v0, v1, v2, v3, v4, v5] :=
  (((((h.set 0 v0).set 1 v1).set 2 v2).set 3 v3).set 4 v4).set 5 v5
theorem grown_two {A B C : World} {r : Option Nat} (h : A.grownBy B r) (k : B.grownBy C r) : A.grownBy C r :=
  ⟨k.os.trans h.os, k.tape.trans h.tape, k.output.trans h.output, Nat.le_trans h.size k.size, fun j hj hr => (k.block j (Nat.lt_of_lt_of_le hj h.size) hr).trans (h.block j hj hr)⟩
theorem grown_set (W : World) (b k : Nat) (v : Value) : W.grownBy (W.setCell ⟨b, k, none⟩ v) (some b) := ⟨rfl, rfl, rfl, by simp, fun j _ hj => Below.heap_setCell _ _ _ _ (fun e => hj (by rw [e]))⟩
theorem set6_grown (W : World) (b : Nat) (v0 v1 v2 v3 v4 v5 : Value) : W.grownBy ((((((W.setCell ⟨b, 0, none⟩ v0).setCell ⟨b, 1, none⟩ v1).setCell ⟨b, 2, none⟩ v2).setCell ⟨b, 3, none⟩ v3).setCell ⟨b, 4, none⟩ v4).setCell ⟨b, 5, none⟩ v5) (some b) :=
  grown_two (grown_two (grown_two (grown_two (grown_two (grown_set _ _ _ _) (grown_set _ _ _ _)) (grown_set _ _ _ _)) (grown_set _ _ _ _)) (grown_set _ _ _ _)) (grown_set _ _ _ _)
theorem Row.grown {W W' : World} {b c : Nat} {t : TypeId} {cs : List Value} (h : Row W c t cs) (hg : W.grownBy W' (some b)) (hn : c ≠ b) : Row W' c t cs := (hg.block c h.lt (fun e => hn (by cases e; rfl))).trans h
theorem set8_row {W : World} {b : Nat} {t : TypeId} {a0 a1 a2 a3 a4 a5 a6 a7 : Value} (h : Row W b t [a0, a1, a2, a3, a4, a5, a6, a7]) (v0 v1 v2 v3 v4 v5 v6 v7 : Value) :
    Row ((((((((W.setCell ⟨b, 0, none⟩ v0).setCell ⟨b, 1, none⟩ v1).setCell ⟨b, 2, none⟩ v2).setCell ⟨b, 3, none⟩ v3).setCell ⟨b, 4, none⟩ v4).setCell ⟨b, 5, none⟩ v5).setCell ⟨b, 6, none⟩ v6).setCell ⟨b, 7, none⟩ v7) b t [v0, v1, v2, v3, v4, v5, v6, v7] :=
  (((((((h.set 0 v0).set 1 v1).set 2 v2).set 3 v3).set 4 v4).set 5 v5).set 6 v6).set 7 v7
theorem set8_grown (W : World) (b : Nat) (v0 v1 v2 v3 v4 v5 v6 v7 : Value) : W.grownBy ((((((((W.setCell ⟨b, 0, none⟩ v0).setCell ⟨b, 1, none⟩ v1).setCell ⟨b, 2, none⟩ v2).setCell ⟨b, 3, none⟩ v3).setCell ⟨b, 4, none⟩ v4).setCell ⟨b, 5, none⟩ v5).setCell ⟨b, 6, none⟩ v6).setCell ⟨b, 7, none⟩ v7) (some b) :=
  grown_two (grown_two (set6_grown W b v0 v1 v2 v3 v4 v5) (grown_set _ _ _ _)) (grown_set _ _ _ _)
/-- an expression in memory -/
def exL (x : Exp.Ex) : List Value := [.int .u64 x.a0, .int .u64 x.a1, .int .u64 x.a2, .int .u64 x.a3, .int .u64 x.a4, .int .u64 x.a5, .bool x.b3, .bool x.b5]
def exV (x : Exp.Ex) : Value := .agg (exL x).toArray
/-- each of the six sets fits -/
def Exp.Ex.Bd (x : Exp.Ex) : Prop := ∀ i, i < 6 → x.at i < 2 ^ 64
theorem exL_at (x : Exp.Ex) (i : Nat) (h : i < 6) : (exL x)[i]? = some (.int .u64 (x.at i)) :=
  six_cases h (P := fun i => (exL x)[i]? = some (.int .u64 (x.at i))) rfl rfl rfl rfl rfl rfl
/-- where the six fields of a block lie -/
def ptrL (B : Nat) : List Value := [.pointer (some ⟨B, 0, none⟩), .pointer (some ⟨B, 1, none⟩), .pointer (some ⟨B, 2, none⟩), .pointer (some ⟨B, 3, none⟩), .pointer (some ⟨B, 4, none⟩), .pointer (some ⟨B, 5, none⟩)]
theorem ptrL_at (B i : Nat) (h : i < 6) : (ptrL B)[i]? = some (.pointer (some ⟨B, i, none⟩)) :=
  six_cases h (P := fun i => (ptrL B)[i]? = some (.pointer (some ⟨B, i, none⟩))) rfl rfl rfl rfl rfl rfl

theorem ptr_index (B k : Nat) (h : k < 6) (W : World) : (Instr.index 104 (.agg #[.pointer (some ⟨B, 0, none⟩), .pointer (some ⟨B, 1, none⟩), .pointer (some ⟨B, 2, none⟩), .pointer (some ⟨B, 3, none⟩), .pointer (some ⟨B, 4, none⟩), .pointer (some ⟨B, 5, none⟩)]) (.int .i64 (k : Int))).run Tryz.prog W = .ok (.pointer (some ⟨B, k, none⟩)) W :=
  six_cases h (P := fun k => (Instr.index 104 (.agg #[.pointer (some ⟨B, 0, none⟩), .pointer (some ⟨B, 1, none⟩), .pointer (some ⟨B, 2, none⟩), .pointer (some ⟨B, 3, none⟩), .pointer (some ⟨B, 4, none⟩), .pointer (some ⟨B, 5, none⟩)]) (.int .i64 (k : Int))).run Tryz.prog W = .ok (.pointer (some ⟨B, k, none⟩)) W)
    (by kernel_rfl) (by kernel_rfl) (by kernel_rfl) (by kernel_rfl) (by kernel_rfl) (by kernel_rfl)

set_option maxRecDepth 100000 in
set_option maxHeartbeats 2000000 in
theorem fields_any (B : Nat) (w : World) :
    Calls Tryz.prog 49 #[.pointer (some ⟨B, 0, none⟩)] w fun e w' => e = .returned (.agg #[.pointer (some ⟨B, 0, none⟩), .pointer (some ⟨B, 1, none⟩), .pointer (some ⟨B, 2, none⟩), .pointer (some ⟨B, 3, none⟩), .pointer (some ⟨B, 4, none⟩), .pointer (some ⟨B, 5, none⟩)]) ∧ Below w.heap.size w w' := by
  go_enter Tryz.func49, Tryz.ntmps49
  go_wp2_with fail
  go_region_held3 (fun _ => True) (trivial) (fail)
  go_wp2_with fail
  refine bodyPost_ret (v := .agg #[.pointer (some ⟨B, 0, none⟩), .pointer (some ⟨B, 1, none⟩), .pointer (some ⟨B, 2, none⟩), .pointer (some ⟨B, 3, none⟩), .pointer (some ⟨B, 4, none⟩), .pointer (some ⟨B, 5, none⟩)]) (by simp [results, Tryz.results49, go_sem]) rfl ⟨rfl, ?_⟩
  exact ((Below.refl _ w).alloc (Nat.le_refl _) _).drew

/-! all numbers of the six kinds -/
theorem full_at {i : Nat} (h6 : i < 6) (v : Value) (w : World) (hv : IsStrs w v (xs6 i)) :
    Calls Tryz.prog 80 #[.agg #[.int .i64 (kd6 i).lo, .int .i64 (kd6 i).hi, v, .bool (kd6 i).week]] w fun e w' => e = .returned (.tuple #[.int .u64 (Exp.fl i : Nat), .int .i64 0]) ∧ Below w.heap.size w w' := by
  have c := full_yes (kd6 i).lo (kd6 i).hi v (xs6 i) (kd6 i).week w hv (kd6_is i h6).valid
  rw [fullK_is] at c
  exact c
/-- the first k of the six full sets -/
def fulls (k : Nat) : List Value := (List.range 6).map fun j => if j < k then .int .u64 (Exp.fl j : Nat) else .int .u64 0
theorem fulls_step (k : Nat) (h : k < 6) : (fulls k).set k (.int .u64 (Exp.fl k : Nat)) = fulls (k + 1) :=
  six_cases h (P := fun k => (fulls k).set k (.int .u64 (Exp.fl k : Nat)) = fulls (k + 1)) rfl rfl rfl rfl rfl rfl
theorem fulls_at (k : Nat) (h : k < 6) : (fulls k)[k]? = some (.int .u64 0) :=
  six_cases h (P := fun k => (fulls k)[k]? = some (.int .u64 0)) rfl rfl rfl rfl rfl rfl
theorem fulls_at0 (k : Nat) (h : k < 6) : (fulls 0)[k]? = some (.int .u64 0) :=
  six_cases h (P := fun k => (fulls 0)[k]? = some (.int .u64 0)) rfl rfl rfl rfl rfl rfl
theorem fulls_all : fulls 6 = [.int .u64 (Exp.fl 0 : Nat), .int .u64 (Exp.fl 1 : Nat), .int .u64 (Exp.fl 2 : Nat), .int .u64 (Exp.fl 3 : Nat), .int .u64 (Exp.fl 4 : Nat), .int .u64 (Exp.fl 5 : Nat)] := rfl
/-- the world in fullFields: the result's block, the array's, the six kinds -/
structure FF (w : World) (k : Nat) (W : World) : Prop where
  below : Below w.heap.size w W
  r0 : Row W w.heap.size 40 (fulls 0)
  r1 : Row W (w.heap.size + 1) 40 (fulls k)
  six : Six W (w.heap.size + 1 + 1)
theorem FF.next {w W W' : World} {k : Nat} (h : FF w k W) (hb : Below W.heap.size W W') : FF w k W' := ⟨h.below.trans (hb.mono h.below.size), h.r0.below hb, h.r1.below hb, h.six.below hb⟩
theorem FF.set {w W : World} {k : Nat} (h : FF w k W) (hk : k < 6) : FF w (k + 1) (W.setCell ⟨w.heap.size + 1, k, none⟩ (.int .u64 (Exp.fl k : Nat))) := by
  have hz := h.six.lt
  refine ⟨h.below.setCell (by show w.heap.size ≤ w.heap.size + 1; omega) _, h.r0.other _ _ (by show w.heap.size ≠ w.heap.size + 1; omega), by rw [← fulls_step k hk]; exact h.r1.set k _, ?_⟩
  exact ⟨(Below.heap_setCell _ _ _ _ (by show w.heap.size + 1 + 1 ≠ w.heap.size + 1; omega)).trans h.six.months, (Below.heap_setCell _ _ _ _ (by show w.heap.size + 1 + 1 + 1 ≠ w.heap.size + 1; omega)).trans h.six.days, (Below.heap_setCell _ _ _ _ (by show w.heap.size + 1 + 1 + 1 + 1 ≠ w.heap.size + 1; omega)).trans h.six.kinds⟩
set_option maxRecDepth 100000 in
set_option maxHeartbeats 2000000 in
theorem fullFields_any (w : World) :
    Calls Tryz.prog 56 #[] w fun e w' => e = .returned (.agg #[.int .u64 (Exp.fl 0 : Nat), .int .u64 (Exp.fl 1 : Nat), .int .u64 (Exp.fl 2 : Nat), .int .u64 (Exp.fl 3 : Nat), .int .u64 (Exp.fl 4 : Nat), .int .u64 (Exp.fl 5 : Nat)]) ∧ Below w.heap.size w w' := by
  have A0 : Row ((w.alloc (.cells (fulls 0).toArray 40)).alloc (.cells (fulls 0).toArray 40)) w.heap.size 40 (fulls 0) := (Row.new w _ _).alloc _
  have A1 : Row ((w.alloc (.cells (fulls 0).toArray 40)).alloc (.cells (fulls 0).toArray 40)) (w.heap.size + 1) 40 (fulls 0) := by
    have := Row.new (w.alloc (.cells (fulls 0).toArray 40)) (fulls 0) 40
    rwa [World.size_alloc] at this
  have B0 := two_new w (.cells (fulls 0).toArray 40) (.cells (fulls 0).toArray 40)
  have HA0 := Lib.hid A0
  have HA1 := Lib.hid A1
  have HB0 := Lib.hid B0
  clear A0 A1 B0
  go_enter Tryz.func56, Tryz.ntmps56
  go_wp2_with fail
  refine (specs_any _).mono ?_
  rintro e w1 ⟨rfl, hb, h6⟩
  have F0 : FF w 0 w1 := ⟨HB0.out.trans (hb.mono (by simp; omega)), HA0.out.below hb, HA1.out.below hb, by simpa using h6⟩
  have HF := Lib.hid F0
  obtain ⟨a, ha⟩ : ∃ a, w.heap.size + 1 + 1 = a := ⟨_, rfl⟩
  simp only [World.size_alloc, ha]
  clear hb h6 HA0 HA1 HB0 F0
  go_wp2_with fail
  go_loopw [6] (fun i wr => ∃ k : Nat, k ≤ 6 ∧ i = .int .i64 k ∧ Hid (FF w k wr)) (fun i _ => 6 - (intOf i).toNat)
  case atStart => exact ⟨0, Nat.zero_le _, rfl, HF⟩
  case round =>
    obtain ⟨k, hk, rfl, hf⟩ := hrel
    by_cases hlt : k < 6
    · have six := hf.out.six
      rw [ha] at six
      obtain ⟨c0, c1, c2, c3⟩ := six.at_ k hlt
      have SK := Lib.hid (six.strs k hlt)
      obtain ⟨A, L, C, e, _⟩ := na6_slice a k hlt
      rw [e] at c2 SK
      have q1 : decide ((k : Int) < 6) = true := by rw [decide_eq_true_iff]; omega
      have q1n : decide (k < 6) = true := by rw [decide_eq_true_iff]; omega
      have i0 : (0 : Int) ≤ (k : Int) := by omega
      have i1 : (k : Int) < 6 := by omega
      have FU := Lib.hid (fun w hv => full_at hlt (.slice A L C) w hv)
      clear six e
      go_wp2_with fail
      have bp : Below wr.heap.size wr (wr.alloc (.cells #[.int .i64 (kd6 k).lo, .int .i64 (kd6 k).hi, .slice A L C, .bool (kd6 k).week] 75)) := (Below.refl _ _).alloc (Nat.le_refl _) _
      refine (FU.out _ (SK.out.below bp)).mono ?_
      rintro e w2 ⟨rfl, hb⟩
      have hf2 := (hf.out.next bp).next hb
      have d := (hf2.r1.cell k).trans (fulls_at k hlt)
      have dz := hf2.r1.free k
      have HN := Lib.hid (hf2.set hlt)
      clear hb hf2 bp SK FU c0 c1 c2 c3
      go_wp2_with fail
      go_roundw
      case rel => exact ⟨k + 1, by omega, by go_num, HN⟩
      case measure => simp [intOf]; omega
    · obtain rfl : k = 6 := by omega
      have r1 := hf.out.r1
      have r0 := hf.out.r0
      have c0 := r1.cell 0; have c1 := r1.cell 1; have c2 := r1.cell 2; have c3 := r1.cell 3; have c4 := r1.cell 4; have c5 := r1.cell 5
      have n0 := r0.cell 0; have n1 := r0.cell 1; have n2 := r0.cell 2; have n3 := r0.cell 3; have n4 := r0.cell 4; have n5 := r0.cell 5
      have f0 := r0.free 0; have f1 := r0.free 1; have f2 := r0.free 2; have f3 := r0.free 3; have f4 := r0.free 4; have f5 := r0.free 5
      rw [fulls_all] at c0 c1 c2 c3 c4 c5
      simp only [List.getElem?_cons_zero, List.getElem?_cons_succ] at c0 c1 c2 c3 c4 c5
      replace n0 := n0.trans (fulls_at0 0 (by decide)); replace n1 := n1.trans (fulls_at0 1 (by decide)); replace n2 := n2.trans (fulls_at0 2 (by decide)); replace n3 := n3.trans (fulls_at0 3 (by decide)); replace n4 := n4.trans (fulls_at0 4 (by decide)); replace n5 := n5.trans (fulls_at0 5 (by decide))
      clear r1 r0
      go_wp2_with fail
      refine bodyPost_ret (v := .agg #[.int .u64 (Exp.fl 0 : Nat), .int .u64 (Exp.fl 1 : Nat), .int .u64 (Exp.fl 2 : Nat), .int .u64 (Exp.fl 3 : Nat), .int .u64 (Exp.fl 4 : Nat), .int .u64 (Exp.fl 5 : Nat)]) (by simp [results, Tryz.results56, go_sem, n0, n1, n2, n3, n4, n5]) rfl ⟨rfl, ?_⟩
      have b := hf.out.below
      repeat' refine bel_cell ?_ (by omega) _ _
      exact b
end Go.Proofs.YtpnfifhanmpapaaGreatDoor
