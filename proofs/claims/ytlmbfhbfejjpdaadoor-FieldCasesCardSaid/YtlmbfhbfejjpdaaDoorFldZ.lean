/- What the law of names shares: names in either case are read as their numbers; bytes of a text that are changed. -/
import Derived.Test.YtlmbfhbfejjpdaaDoorFldY
import Derived.Lib.ConvBytes
import Derived.Lib.LazyBuf
namespace Go.Proofs.YtlmbfhbfejjpdaaDoor
open Go.ChangeShapes Go.WideShapes Go.RowKit Go.Shelf

namespace Fld
theorem up_let {c : UInt8} (h : isUp (up c) = true) : isLet c = true := by
  unfold up at h
  unfold isLet letN
  split at h
  · rename_i h1; rw [h1]; simp
  · unfold isUp at h; rw [h]; rfl
theorem up_dash {c : UInt8} (h : up c = 45) : c = 45 := by
  unfold up at h
  split at h
  · rename_i h1
    unfold loN at h1
    have h1 := of_decide_eq_true h1
    have e := congrArg UInt8.toNat h
    simp at e
    omega
  · exact h
theorem up_up {c : UInt8} (h : isUp c = true) : up c = c := by
  unfold isUp upN at h
  have h := of_decide_eq_true h
  unfold up loN
  rw [if_neg]
  simp only [decide_eq_true_iff]
  omega
/-- a small letter is that letter -/
theorem up_small {c : UInt8} (h : upN c.toNat = true) : up (UInt8.ofNat (c.toNat + 32)) = up c := by
  unfold upN at h
  have h := of_decide_eq_true h
  have e : (UInt8.ofNat (c.toNat + 32)).toNat = c.toNat + 32 := by simp; omega
  unfold up
  rw [e, if_pos (by unfold loN; simp only [decide_eq_true_iff]; omega), if_neg (by unfold loN; simp only [decide_eq_true_iff]; omega)]
  apply UInt8.toNat_inj.1
  simp
/-- a name, in either case, is read as its number -/
theorem value_nm {K : Kd} (O : K.Ok) {j : Nat} (hj : j < K.names.length) {u r : List UInt8} (hu : u.map up = K.names[j]) (hr : ∀ c, r.head? = some c → isLet c = false) : value K (u ++ r) = some (K.lo + j, u.length) := by
  obtain ⟨n1, n2, n3⟩ := O.ups _ (List.getElem_mem hj)
  have hlet : ∀ c ∈ u, isLet c = true := fun c hc => up_let (n3 _ (by rw [← hu]; exact List.mem_map_of_mem hc))
  have hl : lets (u ++ r) = u := by
    unfold lets
    rw [List.takeWhile_append_of_pos hlet]
    have e : r.takeWhile isLet = [] := by
      cases r with
      | nil => rfl
      | cons c r => rw [List.takeWhile_cons, hr c rfl]; rfl
    rw [e, List.append_nil]
  have hne : u ≠ [] := by
    rintro rfl
    rw [← hu] at n1
    simp at n1
  have hk : look K.names u = some j := by
    unfold look
    rw [List.findIdx?_eq_some_iff_getElem]
    refine ⟨hj, by rw [hu]; simp, fun m hm => ?_⟩
    rw [hu]
    have := (List.pairwise_iff_getElem.1 O.diff) m j (by omega) hj hm
    simpa using this
  unfold value
  rw [hl, if_neg hne, hk]
  rfl
theorem names_head {K : Kd} (O : K.Ok) {j : Nat} (hj : j < K.names.length) {u : List UInt8} (hu : u.map up = K.names[j]) (r : List UInt8) : ¬ (u ++ r).head? = some 42 := by
  obtain ⟨n1, n2, n3⟩ := O.ups _ (List.getElem_mem hj)
  cases u with
  | nil => rw [← hu] at n1; simp at n1
  | cons c u =>
    intro e
    obtain rfl : c = 42 := by simpa using e
    have := n3 (up 42) (by rw [← hu]; simp)
    exact absurd this (by decide)
theorem drop_app (u r : List UInt8) : (u ++ r).drop u.length = r := List.drop_left
theorem names_range {K : Kd} (O : K.Ok) {j1 j2 : Nat} (h1 : j1 < K.names.length) (h2 : j2 < K.names.length) {T : List UInt8} (hT : T.map up = K.names[j1] ++ 45 :: K.names[j2]) :
    ∃ a q, item K T 0 = .inl (⟨K.lo + j1, 0, K.lo + j2, a, 1, 0⟩, q, []) ∧ T ≠ [42] := by
  obtain ⟨u, t, rfl, hu, ht⟩ := List.map_eq_append_iff.1 hT
  obtain ⟨c, v, rfl, hc, hv⟩ := List.map_eq_cons_iff.1 ht
  obtain rfl := up_dash hc
  have hh := names_head O h1 hu (45 :: v)
  refine ⟨0 + u.length + 1, 0 + u.length + 1 + v.length, ?_, fun e => hh (by rw [e]; rfl)⟩
  unfold item
  rw [if_neg hh, value_nm O h1 hu (fun d hd => by obtain rfl : (45 : UInt8) = d := by simpa using hd
                                                  decide)]
  show rVal K _ ((u ++ 45 :: v).drop u.length) _ = _
  rw [drop_app]
  unfold rVal
  rw [if_pos (by rfl)]
  unfold rSec
  have hv2 := value_nm O h2 hv (r := []) (fun d hd => by cases hd)
  rw [List.append_nil] at hv2
  show (match value K v with | none => _ | some (v', k) => _) = _
  rw [hv2]
  show rNums _ (v.drop v.length) _ = _
  rw [List.drop_length]
  rfl
theorem names_one {K : Kd} (O : K.Ok) {j : Nat} (h : j < K.names.length) : ∃ q, item K K.names[j] 0 = .inl (⟨K.lo + j, 0, K.lo + j, 0, 1, 0⟩, q, []) ∧ K.names[j] ≠ [42] := by
  obtain ⟨n1, n2, n3⟩ := O.ups _ (List.getElem_mem h)
  have hu : K.names[j].map up = K.names[j] := by
    have : ∀ l : List UInt8, (∀ c ∈ l, isUp c = true) → l.map up = l := by
      intro l
      induction l with
      | nil => intro _; rfl
      | cons c l ih => intro hl; rw [List.map_cons, up_up (hl c (by simp)), ih (fun d hd => hl d (by simp [hd]))]
    exact this _ n3
  have hh := names_head O h hu []
  rw [List.append_nil] at hh
  have hv := value_nm O h hu (r := []) (fun d hd => by cases hd)
  rw [List.append_nil] at hv
  refine ⟨0 + K.names[j].length, ?_, fun e => hh (by rw [e]; rfl)⟩
  unfold item
  rw [if_neg hh, hv]
  show rVal K _ (K.names[j].drop K.names[j].length) _ = _
  rw [List.drop_length]
  rfl
/-- what Parse returns for names and for their numbers -/
theorem parse_names {K : Kd} (O : K.Ok) {j1 j2 : Nat} (h1 : j1 < K.names.length) (h2 : j2 < K.names.length) (hle : j1 ≤ j2) (hn : K.names.length = K.hi - K.lo + 1) {T : List UInt8} (hT : T.map up = K.names[j1] ++ 45 :: K.names[j2]) :
    parse K T = (setOf K ⟨K.lo + j1, 0, K.lo + j2, 0, 1, 0⟩, false, 0, 0) := by
  obtain ⟨a, q, i, hne⟩ := names_range O h1 h2 hT
  have p := parse_item i hne
  have hKl := O.le
  have hw : wrong K ⟨K.lo + j1, 0, K.lo + j2, a, 1, 0⟩ = none := wrong_none.2 ⟨.inl ⟨by show K.lo ≤ K.lo + j1; omega, by show K.lo + j1 ≤ K.hi; omega⟩, .inl ⟨by show K.lo ≤ K.lo + j2; omega, by show K.lo + j2 ≤ K.hi; omega⟩, by show K.lo + j1 ≤ K.lo + j2; omega, Nat.le_refl _⟩
  rw [hw] at p
  exact p
theorem parse_dash {K : Kd} {a b : Nat} (h1 : K.lo ≤ a) (h2 : a ≤ b) (h3 : b ≤ K.hi) (h62 : K.hi ≤ 62) : parse K (dec a ++ 45 :: dec b) = (setOf K ⟨a, 0, b, 0, 1, 0⟩, false, 0, 0) := by
  have i := item_range K (a := a) (b := b) (by omega) (by omega) (r := []) (.inl rfl) 0
  rw [List.append_nil] at i
  have p := parse_item i (by
    intro e
    have := congrArg List.length e
    simp only [List.length_append, List.length_cons, List.length_nil] at this
    have := dec_len a
    have := dec_len b
    omega)
  have hw : wrong K ⟨a, 0, b, 0 + (dec a).length + 1, 1, 0⟩ = none := wrong_none.2 ⟨.inl ⟨h1, by show a ≤ K.hi; omega⟩, .inl ⟨by show K.lo ≤ b; omega, h3⟩, h2, Nat.le_refl _⟩
  rw [hw] at p
  exact p
theorem parse_nm {K : Kd} (O : K.Ok) {j : Nat} (h : j < K.names.length) (hn : K.names.length = K.hi - K.lo + 1) : parse K K.names[j] = (2 ^ (K.lo + j), false, 0, 0) := by
  obtain ⟨q, i, hne⟩ := names_one O h
  have p := parse_item i hne
  have hKl := O.le
  have hw : wrong K ⟨K.lo + j, 0, K.lo + j, 0, 1, 0⟩ = none := wrong_none.2 ⟨.inl ⟨by show K.lo ≤ K.lo + j; omega, by show K.lo + j ≤ K.hi; omega⟩, .inl ⟨by show K.lo ≤ K.lo + j; omega, by show K.lo + j ≤ K.hi; omega⟩, Nat.le_refl _, Nat.le_refl _⟩
  rw [hw] at p
  have e := setOf_one O (n := K.lo + j) (by omega) (by omega)
  rw [← e]
  exact p
end Fld

/-! the names of the months and of the days -/
theorem xs6_size (i : Nat) (h6 : i < 6) : ∀ x ∈ xs6 i, 1 ≤ x.size ∧ x.size ≤ 9 :=
  six_cases h6 (P := fun i => ∀ x ∈ xs6 i, 1 ≤ x.size ∧ x.size ≤ 9) (by intro x h; cases h) (by intro x h; cases h) (by intro x h; cases h) (by intro x h; cases h) (by decide) (by decide)
theorem name_ctx {w W : World} {B i : Nat} {v : Value} (X : Ctx w W B i v) (h6 : i < 6) (j k : Nat) (hj : j < (xs6 i).length) (hk : k = (kd6 i).lo + j) (hh : k ≤ (kd6 i).hi) :
    Calls Tryd.prog 13 #[.agg #[.int .i64 (kd6 i).lo, .int .i64 (kd6 i).hi, v, .bool (kd6 i).week], .int .i64 k] W fun e W' => e = .returned (.tuple #[.string (xs6 i)[j], .int .i64 0]) ∧ Ctx w W' B i v := by
  subst hk
  exact (name_any _ _ v (xs6 i) _ _ (xs6 i)[j] 0 W X.strs (fun x hx => by have := xs6_size i h6 x hx; omega) (.inr (.inr (.inr ⟨(kd6_is i h6).valid, by omega, by omega, j, hj, by omega, rfl, rfl⟩)))).mono fun _ _ ⟨h1, h2⟩ => ⟨h1, X.next h2⟩

/-! '[]byte(s)' and back -/
theorem bytes_of (X : ByteArray) (w : World) : ∃ W cap, (convert 9 55 (.string X)).run Tryd.prog w = .ok (.slice (some ⟨w.heap.size, 0, none⟩) X.size cap) W ∧ Below w.heap.size w W ∧ W.heap.size = w.heap.size + 1 ∧
    (∀ j, j < X.size → W.cell? ⟨w.heap.size, j, none⟩ = some (.int .u8 (X.data.toList.getD j 0).toNat)) ∧ (∀ j, j < X.size → W.frozen? ⟨w.heap.size, j, none⟩ = false) := by
  refine ⟨_, _, Lib.run_convert_string_bytes w 9 55 5 X Tryd.underlying9 Tryd.underlying55 Tryd.underlying5, Lib.bytesWorld_below _ _ _, Lib.bytesWorld_size _ _ _, fun j hj => Lib.bytesWorld_cell w _ X j hj, fun j hj => ?_⟩
  have hz : X.size ≤ (Lib.bytesCells w 5 X).size := by
    unfold Lib.bytesCells
    simp
  simp [World.frozen?, Lib.bytesWorld_at_new]
  omega
theorem nums_back (T : ByteArray) : strOfNums (T.data.toList.map fun b => (b.toNat : Int)) = T := by
  apply ByteArray.ext
  apply Array.toList_inj.1
  rw [strOfNums_data, List.map_map]
  have : ((fun n : Int => UInt8.ofNat n.toNat) ∘ fun b : UInt8 => (b.toNat : Int)) = id := by funext b; simp
  rw [this, List.map_id]
/-- the bytes of a text in block g: T, which in upper case is TX -/
structure TB (W : World) (g N : Nat) (TX T : List UInt8) : Prop where
  len : T.length = N
  map : T.map Fld.up = TX
  cell : ∀ j (h : j < T.length), W.cell? ⟨g, j, none⟩ = some (.int .u8 (T[j].toNat : Nat))
  hot : ∀ j, j < N → W.frozen? ⟨g, j, none⟩ = false
theorem TB.set {W : World} {g N : Nat} {TX T : List UInt8} (h : TB W g N TX T) (k : Nat) (hk : k < T.length) (hu : Fld.upN T[k].toNat = true) : TB (W.setCell ⟨g, k, none⟩ (.int .u8 ((T[k].toNat + 32 : Nat) : Int))) g N TX (T.set k (UInt8.ofNat (T[k].toNat + 32))) := by
  have hb : T[k].toNat + 32 < 256 := by unfold Fld.upN at hu; have := of_decide_eq_true hu; omega
  refine ⟨by rw [List.length_set]; exact h.len, ?_, fun j hj => ?_, fun j hj => ?_⟩
  · rw [List.map_set, Fld.up_small hu, ← h.map]
    apply List.ext_getElem
    · simp
    · intro m h1 h2
      rw [List.getElem_set]
      split
      · rename_i e; subst e; simp
      · rfl
  · rw [List.length_set] at hj
    rw [List.getElem_set]
    by_cases q : k = j
    · subst q
      rw [World.cell?_setCell_same' _ _ _ (by rw [h.cell k hj]; rfl), if_pos rfl]
      have e : (UInt8.ofNat (T[k].toNat + 32)).toNat = T[k].toNat + 32 := by simp; omega
      rw [e]
    · rw [World.cell?_setCell_other _ _ _ _ (by intro e; cases e; exact q rfl), if_neg q]
      exact h.cell j hj
  · rw [World.frozen?_setCell]
    exact h.hot j hj
theorem string_of {W : World} {g N : Nat} {TX T : List UInt8} (h : TB W g N TX T) (cap : Nat) :
    (convert 55 9 (.slice (some ⟨g, 0, none⟩) N cap)).run Tryd.prog W = .ok (.string ⟨T.toArray⟩) W := by
  have r := run_convert_bytes_arg W 55 5 Tryd.underlying55 Tryd.underlying5 g 0 N cap (T.map fun b => (b.toNat : Int)) (by rw [List.length_map, h.len]) (fun i hi => by
    have hl : i < T.length := by rw [h.len]; exact hi
    rw [Nat.zero_add, h.cell i hl]
    congr 2
    simp [List.getElem?_eq_getElem hl]) 9 Tryd.underlying9
  have e : strOfNums (T.map fun b => (b.toNat : Int)) = ⟨T.toArray⟩ := nums_back ⟨T.toArray⟩
  rw [e] at r
  exact r
end Go.Proofs.YtlmbfhbfejjpdaaDoor
