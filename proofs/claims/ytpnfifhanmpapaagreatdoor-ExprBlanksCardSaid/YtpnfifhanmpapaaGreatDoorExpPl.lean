/- Plain mathematics of texts of expressions: one word that is changed; blanks between words, and words behind. No program stands here. -/
import Derived.Test.YtpnfifhanmpapaaGreatDoorMExpA
namespace Go.Proofs.YtpnfifhanmpapaaGreatDoor.Exp

/-! where words stand -/
theorem placed_seps (i : Nat) : ∀ (r : List (List UInt8)) (k : Nat) (w : List UInt8), r[k]? = some w → (Lex.placed i (r.map fun v => ([32], v)))[k]? = some (i + (k + 1) + ((r.take k).map List.length).sum, w)
  | [], k, w, h => by simp at h
  | v :: r, 0, w, h => by
    simp at h
    subst h
    simp [Lex.placed]
  | v :: r, k + 1, w, h => by
    have ih := placed_seps (i + 1 + v.length) r k w (by simpa using h)
    rw [List.map_cons, Lex.placed, List.getElem?_cons_succ]
    have e : i + ([32] : List UInt8).length + v.length = i + 1 + v.length := rfl
    rw [e, ih]
    simp only [List.take_succ_cons, List.map_cons, List.sum_cons]
    congr 2
    omega
theorem placed_sepd (ws : List (List UInt8)) (k : Nat) (w : List UInt8) (h : ws[k]? = some w) : (Lex.placed 0 (Lex.sepd [32] ws))[k]? = some (k + ((ws.take k).map List.length).sum, w) := by
  cases ws with
  | nil => simp at h
  | cons v r =>
    cases k with
    | zero =>
      simp at h
      subst h
      simp [Lex.sepd, Lex.placed]
    | succ k =>
      have q := placed_seps (0 + 0 + v.length) r k w (by simpa using h)
      have e : Lex.placed 0 (Lex.sepd [32] (v :: r)) = (0 + 0, v) :: Lex.placed (0 + 0 + v.length) (r.map fun u => ([32], u)) := rfl
      rw [e, List.getElem?_cons_succ, q]
      simp only [List.take_succ_cons, List.map_cons, List.sum_cons]
      congr 2
      omega
theorem wAt_get {ws : List (Nat × List UInt8)} {k : Nat} {p : Nat × List UInt8} (h : ws[k]? = some p) : wAt ws k = p := by
  unfold wAt
  rw [List.getD_eq_getElem?_getD, h]
  rfl

/-! one word that is changed -/
theorem set_words {x : Ex} (h : x.Ok) {k : Nat} {t : List UInt8} (ht : t ≠ []) (hb : ∀ c ∈ t, isBl c = false) : ∀ w ∈ x.ws.set k t, w ≠ [] ∧ ∀ c ∈ w, isBl c = false := by
  intro w hw
  rcases List.mem_or_eq_of_mem_set hw with hw | rfl
  · exact ws_words h w hw
  · exact ⟨ht, hb⟩
theorem six_texts {x : Ex} (h : x.Ok) {k : Nat} {t : List UInt8} {W : List (Nat × List UInt8)} (hW : W.map (·.2) = x.ws.set k t) : (six W).map (·.2) = x.fts.set (6 - x.ws.length + k) t := by
  have l := congrArg List.length hW
  rw [List.length_map, List.length_set] at l
  have wl := ws_len x
  unfold six
  by_cases c : x.a0 = 1
  · rw [if_pos c] at wl
    rw [wl] at l
    rw [if_pos l, List.map_cons, hW, wl]
    have e : x.ws = x.fts.tail := by unfold Ex.ws; rw [if_pos c]
    rw [e]
    have f := (ft_zero h).2 c
    rw [show 6 - 5 + k = k + 1 by omega, ← f]
    rfl
  · rw [if_neg c] at wl
    rw [wl] at l
    rw [if_neg (by omega), hW, wl]
    have e : x.ws = x.fts := by unfold Ex.ws; rw [if_neg c]
    rw [e, show 6 - 6 + k = k by omega]
theorem fts_at (x : Ex) (i : Nat) (h : i < 6) : x.fts[i]? = some (x.ft i) := six_cases h (P := fun i => x.fts[i]? = some (x.ft i)) rfl rfl rfl rfl rfl rfl
theorem six_word {x : Ex} (h : x.Ok) {k : Nat} {t : List UInt8} {W : List (Nat × List UInt8)} (hW : W.map (·.2) = x.ws.set k t) (i : Nat) (hi : i < 6) :
    (wAt (six W) i).2 = if i = 6 - x.ws.length + k then t else x.ft i := by
  have e := congrArg (fun l => l[i]?) (six_texts h hW)
  simp only [List.getElem?_map] at e
  have l6 : x.fts.length = 6 := rfl
  by_cases c : i = 6 - x.ws.length + k
  · rw [if_pos c]
    rw [← c, List.getElem?_set_self (by omega)] at e
    cases q : (six W)[i]? with
    | none => rw [q] at e; cases e
    | some p => rw [wAt_get q]; rw [q] at e; simpa using e
  · rw [if_neg c]
    rw [List.getElem?_set_ne (by omega), fts_at x i hi] at e
    cases q : (six W)[i]? with
    | none => rw [q] at e; cases e
    | some p => rw [wAt_get q]; rw [q] at e; simpa using e
theorem spoilt {x : Ex} (h : x.Ok) {k : Nat} (hk : k < x.ws.length) {t : List UInt8} (ht : t ≠ []) (hb : ∀ c ∈ t, isBl c = false) {S n f : Nat} {b : Bool} (hf : fp (6 - x.ws.length + k) t = (S, b, n, f)) :
    ∃ y a e, parse (Lex.joinL [32] (x.ws.set k t)) = (y, a, e) ∧ (f = 0 → a = 0 ∧ e = 0) ∧ (f ≠ 0 → e = f ∧ a = k + ((x.ws.take k).map List.length).sum + n) := by
  have hw := words_join (set_words h ht hb (k := k))
  obtain ⟨W, eW⟩ : ∃ W, words (Lex.joinL [32] (x.ws.set k t)) = W := ⟨_, rfl⟩
  rw [eW] at hw
  have hm : W.map (·.2) = x.ws.set k t := by rw [hw, Lex.placed_map, Lex.sepd_map]
  have hl : W.length = x.ws.length := by
    have := congrArg List.length hm
    rwa [List.length_map, List.length_set] at this
  have wl := ws_len x
  have n5 : W.length = 5 ∨ W.length = 6 := by rw [hl, wl]; split <;> omega
  have tx := six_word h hm
  have m6 : 6 - x.ws.length + k < 6 := by omega
  have er : ∀ i, i < 6 → errAt (six W) i = if i = 6 - x.ws.length + k then f else 0 := by
    intro i hi
    unfold errAt
    rw [tx i hi]
    split
    · rename_i c
      rw [c, hf]
    · rw [ft_read h hi]
  have hp : parse (Lex.joinL [32] (x.ws.set k t)) = read (six W) := by
    unfold parse
    rw [eW, if_neg (by unfold isMac; rw [decide_eq_false (by omega)]; simp)]
    unfold plain
    rw [eW, if_neg (by omega), if_neg (by omega)]
  rw [hp]
  by_cases f0 : f = 0
  · rw [read_ok fun i hi => by rw [er i hi]; split <;> omega]
    exact ⟨_, _, _, rfl, fun _ => ⟨rfl, rfl⟩, fun q => absurd f0 q⟩
  · rw [read_bad m6 (by rw [er _ m6, if_pos rfl]; exact f0) (fun j hj => by rw [er j (by omega), if_neg (by omega)])]
    refine ⟨_, _, _, rfl, fun q => absurd q f0, fun _ => ⟨by rw [er _ m6, if_pos rfl], ?_⟩⟩
    unfold placeAt
    rw [tx _ m6, if_pos rfl, hf]
    have at_ : (wAt (six W) (6 - x.ws.length + k)).1 = (wAt W k).1 := by
      unfold six
      by_cases c : W.length = 5
      · rw [if_pos c, ← hl, c, show 6 - 5 + k = k + 1 by omega]
        simp [wAt]
      · rw [if_neg c, ← hl, show 6 - W.length + k = k by omega]
    rw [at_]
    have g : (x.ws.set k t)[k]? = some t := List.getElem?_set_self hk
    have p := placed_sepd _ k t g
    rw [← hw] at p
    rw [wAt_get p, List.take_set_of_le (Nat.le_refl k)]

/-! blanks between words -/
/-- words with blanks ahead of each, and behind the last one -/
theorem blanks_read {x : Ex} (h : x.Ok) {xs : List (List UInt8 × List UInt8)} (hx : xs.map (·.2) = x.ws) (hb : ∀ p ∈ xs, ∀ c ∈ p.1, isBl c = true) (hn : ∀ p ∈ xs.tail, p.1 ≠ []) {t : List UInt8} (ht : ∀ c ∈ t, isBl c = true) :
    parse (Lex.laid xs ++ t) = (x, 0, 0) ∧ ∃ y a, parse (Lex.laid xs ++ t ++ [32, 42, 32, 42, 9, 42]) = (y, a, 10) ∧ 0 < a ∧ a < (Lex.laid xs ++ t).length + 6 := by
  have fit : ∀ p ∈ xs, (∀ c ∈ p.1, isBl c = true) ∧ p.2 ≠ [] ∧ ∀ c ∈ p.2, isBl c = false := fun p hp =>
    ⟨hb p hp, ws_words h p.2 (by rw [← hx]; exact List.mem_map_of_mem hp)⟩
  have wl := ws_len x
  have xl : xs.length = x.ws.length := by rw [← hx, List.length_map]
  have t3 : ∀ u : List UInt8, (∀ c ∈ u, isBl c = true) → u = [] ∨ ∃ c r, u = c :: r ∧ isBl c = true := fun u hu => by
    cases u with
    | nil => exact .inl rfl
    | cons c r => exact .inr ⟨c, r, rfl, hu c (by simp)⟩
  constructor
  · apply parse_ws h
    rw [words_laid fit hn (t3 t ht), Lex.wq_all isBl t ht, List.append_nil, Lex.placed_map, hx]
  · have w := words_laid fit hn (t := t ++ [32, 42, 32, 42, 9, 42]) (by
      cases t with
      | nil => exact .inr ⟨32, _, rfl, rfl⟩
      | cons c r => exact .inr ⟨c, _, rfl, ht c (by simp)⟩)
    rw [Lex.wq_blanks isBl t _ ht] at w
    have tail : ∀ i, Lex.wq isBl i [] [32, 42, 32, 42, 9, 42] = [(i + 1, [42]), (i + 3, [42]), (i + 5, [42])] := fun i => by
      simp [Lex.wq, isBl]
    rw [tail, ← List.append_assoc] at w
    obtain ⟨N, hN⟩ : ∃ N, (Lex.laid xs).length = N := ⟨_, rfl⟩
    obtain ⟨m, hm⟩ : ∃ m, t.length = m := ⟨_, rfl⟩
    have hlen : (Lex.laid xs ++ t).length = N + m := by rw [List.length_append, hN, hm]
    rw [hN, hm] at w
    have pl := Lex.placed_len 0 xs
    have n5 : xs.length = 5 ∨ xs.length = 6 := by rw [xl, wl]; split <;> omega
    have at6 : ∃ a, wAt (Lex.placed 0 xs ++ [(N + m + 1, [42]), (N + m + 3, [42]), (N + m + 5, [42])]) 6 = (a, [42]) ∧ 0 < a ∧ a < N + m + 6 := by
      rcases n5 with q | q
      · refine ⟨N + m + 3, ?_, by omega, by omega⟩
        apply wAt_get
        rw [List.getElem?_append_right (by omega), pl, q]
        rfl
      · refine ⟨N + m + 1, ?_, by omega, by omega⟩
        apply wAt_get
        rw [List.getElem?_append_right (by omega), pl, q]
        rfl
    obtain ⟨a, ea, a0, a1⟩ := at6
    refine ⟨zero, a, ?_, a0, by omega⟩
    have L : (words (Lex.laid xs ++ t ++ [32, 42, 32, 42, 9, 42])).length = xs.length + 3 := by rw [w]; simp [pl]
    unfold parse
    rw [if_neg (by unfold isMac; rw [decide_eq_false (by omega)]; simp)]
    unfold plain
    rw [if_neg (by omega), if_pos (by omega), w, ea]
end Go.Proofs.YtpnfifhanmpapaaGreatDoor.Exp
