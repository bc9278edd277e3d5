/- The document's Normal; Parse and Normal of both, for any kind; lists of strings that are copied. -/
import Derived.Test.YtlmbfhbfejjpdaaGreatDoorFldMM
import Derived.Test.YtlmbfhbfejjpdaaGreatDoorFldHH
namespace Go.Proofs.YtlmbfhbfejjpdaaGreatDoor
open Go.ChangeShapes Go.WideShapes Go.RowKit Go.Shelf

set_option maxHeartbeats 1000000 in
theorem normalR_yes (K : Fld.Kd) (v : Value) (xs : List ByteArray) (s : ByteArray) (w : World) (hv : IsStrs w v xs) (hk : KdIs K.lo K.hi xs K.week K) (hs : s.size ≤ 300) :
    Calls Tryz.prog 12 #[.agg #[.int .i64 K.lo, .int .i64 K.hi, v, .bool K.week], .string s] w fun e w' =>
      e = .returned (.tuple #[.string ⟨(normR K s.data.toList).1.toArray⟩, .int .i64 ((normR K s.data.toList).2.1 : Nat), .int .i64 ((normR K s.data.toList).2.2 : Nat)]) ∧ Below w.heap.size w w' := by
  have X := Lib.hid (KBox.new w K.lo K.hi v xs K.week 33 hv)
  have C := Lib.hid (parseR_yes K v xs s _ X.out.strs hk hs)
  have hlt := parse_lt hk.ok s.data.toList
  have PR := Lib.hid (fun w hv => printR_yes K v xs (Fld.parse K s.data.toList).1 (Fld.parse K s.data.toList).2.1 w hv hk hlt)
  have NR := Lib.hid (show normR K s.data.toList = (if (Fld.parse K s.data.toList).2.2.2 = 0 then ((printR K (Fld.parse K s.data.toList).1 (Fld.parse K s.data.toList).2.1).1, 0, (printR K (Fld.parse K s.data.toList).1 (Fld.parse K s.data.toList).2.1).2) else ([], (Fld.parse K s.data.toList).2.2.1, (Fld.parse K s.data.toList).2.2.2)) from rfl)
  have he := parse_err (K := K) s.data.toList
  obtain ⟨A, cap, rfl, _, _⟩ := hv
  generalize Fld.parse K s.data.toList = P at *
  generalize normR K s.data.toList = Q at *
  obtain ⟨S, star, at_, er⟩ := P
  simp only at C PR NR he
  clear hk hlt
  by_cases h : er = 0
  · subst h
    have hQ := NR.out
    rw [if_pos rfl] at hQ
    subst hQ
    simp only at PR ⊢
    generalize printR K S star = p at *
    obtain ⟨t, pe⟩ := p
    simp only at PR ⊢
    clear NR he
    go_enter Tryz.func12, Tryz.ntmps12
    go_wp2_with fail
    refine C.out.mono ?_
    rintro e w1 ⟨rfl, hb⟩
    have X := Lib.hid (X.out.next hb)
    obtain ⟨_, _, _, c0, c1, c2, c3⟩ := X.out
    clear hb C
    go_wp2_with fail
    refine (PR.out _ X.out.strs).mono ?_
    rintro e w2 ⟨rfl, hb⟩
    have X := Lib.hid (X.out.next hb)
    clear hb c0 c1 c2 c3
    go_wp2_with fail
    go_ret3
    exact ⟨rfl, X.out.below⟩
  · have hQ := NR.out
    rw [if_neg h] at hQ
    subst hQ
    have te : ((er : Int) != 0) = true := by rw [bne_iff_ne]; omega
    have te' : (er != 0) = true := by rw [bne_iff_ne]; omega
    clear NR PR h
    go_enter Tryz.func12, Tryz.ntmps12
    go_wp2_with fail
    refine C.out.mono ?_
    rintro e w1 ⟨rfl, hb⟩
    have X := Lib.hid (X.out.next hb)
    clear hb
    go_wp2_with fail
    go_ret3
    exact ⟨rfl, X.out.below⟩
theorem normalR_no (lo hi : Int) (v : Value) (xs : List ByteArray) (wk : Bool) (s : ByteArray) (w : World) (hv : IsStrs w v xs) (h : ¬ Valid lo hi xs wk) (hs : ∀ x ∈ xs, x.size ≤ 9223372036854775807) :
    Calls Tryz.prog 12 #[.agg #[.int .i64 lo, .int .i64 hi, v, .bool wk], .string s] w fun e w' => e = .returned (.tuple #[.string ⟨#[]⟩, .int .i64 0, .int .i64 2]) ∧ Below w.heap.size w w' := by
  have X := Lib.hid (KBox.new w lo hi v xs wk 33 hv)
  have C := Lib.hid (parseR_no lo hi v xs wk s _ X.out.strs h hs)
  obtain ⟨A, cap, rfl, _, _⟩ := hv
  clear h
  go_enter Tryz.func12, Tryz.ntmps12
  go_wp2_with fail
  refine C.out.mono ?_
  rintro e w1 ⟨rfl, hb⟩
  have X := Lib.hid (X.out.next hb)
  clear hb
  go_wp2_with fail
  go_ret3
  exact ⟨rfl, X.out.below⟩
/-! Parse and Normal of both -/
/-- what Parse returns -/
def ParseIs (lo hi : Int) (xs : List ByteArray) (wk : Bool) (s : ByteArray) (S : Nat) (star : Bool) (a e : Nat) : Prop :=
  (¬ Valid lo hi xs wk ∧ S = 0 ∧ star = false ∧ a = 0 ∧ e = 2) ∨ ∃ K : Fld.Kd, KdIs K.lo K.hi xs K.week K ∧ lo = K.lo ∧ hi = K.hi ∧ wk = K.week ∧ Fld.parse K s.data.toList = (S, star, a, e)
theorem parseIs_ex (lo hi : Int) (xs : List ByteArray) (wk : Bool) (s : ByteArray) : ∃ S star a e, ParseIs lo hi xs wk s S star a e := by
  by_cases h : Valid lo hi xs wk
  · obtain ⟨K, h1, h2, h3, h4⟩ := kdIs_self h
    exact ⟨_, _, _, _, .inr ⟨K, h1, h2, h3, h4, rfl⟩⟩
  · exact ⟨_, _, _, _, .inl ⟨h, rfl, rfl, rfl, rfl⟩⟩
theorem parse_any (lo hi : Int) (v : Value) (xs : List ByteArray) (wk : Bool) (s : ByteArray) (S : Nat) (star : Bool) (a er : Nat) (w : World) (hv : IsStrs w v xs) (hs : s.size ≤ 300) (hx : ∀ x ∈ xs, x.size ≤ 9223372036854775807) (h : ParseIs lo hi xs wk s S star a er) :
    Calls Tryz.prog 7 #[.agg #[.int .i64 lo, .int .i64 hi, v, .bool wk], .string s] w fun e w' => e = .returned (.tuple #[.int .u64 S, .bool star, .int .i64 a, .int .i64 er]) ∧ Below w.heap.size w w' := by
  rcases h with ⟨h, rfl, rfl, rfl, rfl⟩ | ⟨K, hk, rfl, rfl, rfl, hp⟩
  · exact parse_no lo hi v xs wk s w hv h hx
  · have c := parse_yes K v xs s w hv hk (by omega)
    rw [hp] at c
    exact c
theorem parseR_any (lo hi : Int) (v : Value) (xs : List ByteArray) (wk : Bool) (s : ByteArray) (S : Nat) (star : Bool) (a er : Nat) (w : World) (hv : IsStrs w v xs) (hs : s.size ≤ 300) (hx : ∀ x ∈ xs, x.size ≤ 9223372036854775807) (h : ParseIs lo hi xs wk s S star a er) :
    Calls Tryz.prog 9 #[.agg #[.int .i64 lo, .int .i64 hi, v, .bool wk], .string s] w fun e w' => e = .returned (.tuple #[.int .u64 S, .bool star, .int .i64 a, .int .i64 er]) ∧ Below w.heap.size w w' := by
  rcases h with ⟨h, rfl, rfl, rfl, rfl⟩ | ⟨K, hk, rfl, rfl, rfl, hp⟩
  · exact parseR_no lo hi v xs wk s w hv h hx
  · have c := parseR_yes K v xs s w hv hk hs
    rw [hp] at c
    exact c
/-- what Normal returns -/
def NormIs (lo hi : Int) (xs : List ByteArray) (wk : Bool) (s t : ByteArray) (a e : Nat) : Prop :=
  (¬ Valid lo hi xs wk ∧ t = ⟨#[]⟩ ∧ a = 0 ∧ e = 2) ∨ ∃ K : Fld.Kd, KdIs K.lo K.hi xs K.week K ∧ lo = K.lo ∧ hi = K.hi ∧ wk = K.week ∧ t = ⟨(normR K s.data.toList).1.toArray⟩ ∧ a = (normR K s.data.toList).2.1 ∧ e = (normR K s.data.toList).2.2
theorem normIs_ex (lo hi : Int) (xs : List ByteArray) (wk : Bool) (s : ByteArray) : ∃ t a e, NormIs lo hi xs wk s t a e := by
  by_cases h : Valid lo hi xs wk
  · obtain ⟨K, h1, h2, h3, h4⟩ := kdIs_self h
    exact ⟨_, _, _, .inr ⟨K, h1, h2, h3, h4, rfl, rfl, rfl⟩⟩
  · exact ⟨_, _, _, .inl ⟨h, rfl, rfl, rfl⟩⟩
theorem normal_any (lo hi : Int) (v : Value) (xs : List ByteArray) (wk : Bool) (s t : ByteArray) (a er : Nat) (w : World) (L : Lay w) (hv : IsStrs w v xs) (hs : s.size ≤ 300) (hx : ∀ x ∈ xs, x.size ≤ 9223372036854775807) (h : NormIs lo hi xs wk s t a er) :
    Calls Tryz.prog 11 #[.agg #[.int .i64 lo, .int .i64 hi, v, .bool wk], .string s] w fun e w' => e = .returned (.tuple #[.string t, .int .i64 a, .int .i64 er]) ∧ Below w.heap.size w w' := by
  rcases h with ⟨h, rfl, rfl, rfl⟩ | ⟨K, hk, rfl, rfl, rfl, rfl, rfl, rfl⟩
  · exact normal_no lo hi v xs wk s w hv h hx
  · exact normal_yes K v xs s w L hv hk (by omega)
theorem normalR_any (lo hi : Int) (v : Value) (xs : List ByteArray) (wk : Bool) (s t : ByteArray) (a er : Nat) (w : World) (hv : IsStrs w v xs) (hs : s.size ≤ 300) (hx : ∀ x ∈ xs, x.size ≤ 9223372036854775807) (h : NormIs lo hi xs wk s t a er) :
    Calls Tryz.prog 12 #[.agg #[.int .i64 lo, .int .i64 hi, v, .bool wk], .string s] w fun e w' => e = .returned (.tuple #[.string t, .int .i64 a, .int .i64 er]) ∧ Below w.heap.size w w' := by
  rcases h with ⟨h, rfl, rfl, rfl⟩ | ⟨K, hk, rfl, rfl, rfl, rfl, rfl, rfl⟩
  · exact normalR_no lo hi v xs wk s w hv h hx
  · exact normalR_yes K v xs s w hv hk hs
/-! lists of strings of the call's own -/
theorem strs_own {W : World} {base : Nat} {e : TypeId} {v : Value} {xs : List ByteArray} (h : W.ownsRow base e 1 v xs.length (xs.map Value.string)) : IsStrs W v xs := by
  rcases Nat.eq_zero_or_pos xs.length with h0 | h0
  · rcases h.2 with ⟨rfl, hk⟩ | ⟨g, cap, cur, rfl, _, _, hc, _⟩
    · exact ⟨none, 0, by rw [h0], by omega, fun q => by omega⟩
    · exact ⟨_, _, rfl, hc, fun q => by omega⟩
  · obtain ⟨g, cap, rfl, hg, hc, hcell⟩ := own_spot h h0
    refine ⟨_, cap, rfl, hc, fun _ => ⟨g, 0, rfl, hg, fun j x hx => ?_⟩⟩
    rw [Nat.zero_add]
    exact hcell j _ (by rw [List.getElem?_map, hx]; rfl)
theorem strs_news {W : World} {x : Addr} {len cap : Nat} {xs : List ByteArray} (h : IsStrs W (.slice (some x) len cap) xs) : ∀ (j : Nat) u, (xs.map Value.string)[j]? = some u → W.cell? (x.add j) = some u := by
  intro j u hu
  rw [List.getElem?_map] at hu
  have hj : j < xs.length := by
    rcases Nat.lt_or_ge j xs.length with a | a
    · exact a
    · rw [List.getElem?_eq_none a] at hu; simp at hu
  rw [List.getElem?_eq_getElem hj] at hu
  obtain rfl : Value.string xs[j] = u := by simpa using hu
  obtain ⟨b, o, e, _, hc⟩ := h.at_ j hj
  cases e
  rw [add_flat]
  exact hc
theorem own_empty (w : World) (t : TypeId) (n : Nat) (hn : w.heap.size = n) : (w.alloc (.cells #[] t)).ownsRow n t 1 (.slice (some ⟨n, 0, none⟩) 0 0) 0 [] := by
  subst hn
  exact ⟨rfl, .inr ⟨w.heap.size, 0, #[], rfl, Nat.le_refl _, World.alloc_heap_new w _, Nat.le_refl _, by unfold maxLen; omega, rfl, rfl⟩⟩
/-- a list of strings that came in is nil, or lies somewhere -/
def NilOr (v : Value) : Prop := v = .slice none 0 0 ∨ ∃ x n c, v = .slice (some x) n c
end Go.Proofs.YtlmbfhbfejjpdaaGreatDoor
