/- For all numbers of which a valid expression is made, all bytes 'which' and all texts 'wrong', ExprPlaces returns true: if one word of a text is wrong, the error is that of its field, at the place of the word (words of more than 20 bytes, empty ones, and texts with blanks are not asked). Condition: the program's tables start as its text lays them (tied). -/
import Derived.Test.YtpnfifhanmpapaaGreatDoorMExpG
import Derived.Test.YtpnfifhanmpapaaGreatDoorExpSp
import Derived.Test.YtpnfifhanmpapaaGreatDoorExpPl
namespace Go.Proofs.YtpnfifhanmpapaaGreatDoor.exprPlaces
open Go.ChangeShapes Go.WideShapes Go.ChangeAt Go.RowKit Go.ChangeMaps

set_option maxRecDepth 1000000 in
theorem contains_blank (s : ByteArray) (hs : s.size ≤ 100000) (f : Nat) (H : BlAt s f) (w : World) :
    Calls Tryz.prog 35 #[.string s, .string ⟨#[32, 9]⟩] w fun e w' => e = .returned (.bool true) ∧ Below w.heap.size w w' := by
  have A := Lib.hid (any_at s hs f H)
  have t : decide ((0 : Int) ≤ (f : Int)) = true := by rw [decide_eq_true_iff]; omega
  clear H
  go_enter Tryz.func35, Tryz.ntmps35
  go_wp2_with fail
  refine (A.out _).mono ?_
  rintro e w1 ⟨rfl, hb⟩
  have HB := Lib.hid hb
  clear hb
  go_wp2_with fail
  go_ret
  exact ⟨rfl, HB.out⟩
/-- words in a block -/
def wsL (ws : List (List UInt8)) : List Value := ws.map fun l => .string ⟨l.toArray⟩
theorem wsL_at (ws : List (List UInt8)) (i : Nat) (l : List UInt8) (h : ws[i]? = some l) : (wsL ws)[i]? = some (.string ⟨l.toArray⟩) := by
  unfold wsL
  rw [List.getElem?_map, h]
  rfl
theorem wsL_set (ws : List (List UInt8)) (i : Nat) (l : List UInt8) : (wsL ws).set i (.string ⟨l.toArray⟩) = wsL (ws.set i l) := by
  unfold wsL
  rw [List.map_set]
/-- the context: words in block B, later the kinds behind A -/
structure PC (w : World) (ws : List (List UInt8)) (B : Nat) (W : World) : Prop where
  below : Below w.heap.size w W
  lay : Lay W
  row : Row W B 9 (wsL ws)
theorem PC.next {w W W' : World} {ws : List (List UInt8)} {B : Nat} (h : PC w ws B W) (hb : Below W.heap.size W W') : PC w ws B W' := ⟨h.below.trans (hb.mono h.below.size), h.lay.below hb, h.row.below hb⟩
theorem PC.join {w W : World} {ws : List (List UInt8)} {B : Nat} (h : PC w ws B W) (T : ByteArray) (hT : T.data.toList = Lex.joinL [32] ws) (hl : T.size ≤ 100000) (n : Nat) (hn : ws.length = n) (hn6 : n ≤ 6) :
    Calls Tryz.prog 38 #[.slice (some ⟨B, 0, none⟩) n n, .string ⟨#[32]⟩] W fun e W' => e = .returned (.string T) ∧ PC w ws B W' := by
  have hm : ((ws.map fun l => (⟨l.toArray⟩ : ByteArray)).map (·.data.toList)) = ws := by
    rw [List.map_map]
    exact List.map_id'' (fun _ => rfl) ws
  have hj : Lib.join ((ws.map fun l => (⟨l.toArray⟩ : ByteArray)).map (·.data.toList)) (⟨#[32]⟩ : ByteArray).data.toList = T.data.toList := by
    rw [hm, Exp.join_L, hT]
  have J := Tryz.strings_Join B 0 n (ws.map fun l => (⟨l.toArray⟩ : ByteArray)) ⟨#[32]⟩ W (fun j x hx => by
    rw [List.getElem?_map] at hx
    cases e : ws[j]? with
    | none => rw [e] at hx; cases hx
    | some l =>
      rw [e] at hx
      cases hx
      rw [Nat.zero_add]
      exact (h.row.cell j).trans (wsL_at ws j l e)) h.row.lt (by simp; omega) (by simp; omega) (by rw [hj, ← Lib.size_eq]; omega)
  rw [hj, List.length_map, hn] at J
  exact J.mono fun _ _ ⟨h1, h2⟩ => ⟨h1, h.next h2⟩
def sumT (ws : List (List UInt8)) (i : Nat) : Nat := ((ws.take i).map List.length).sum
theorem sumT_succ (ws : List (List UInt8)) (i : Nat) (l : List UInt8) (h : ws[i]? = some l) : sumT ws (i + 1) = sumT ws i + l.length := by
  unfold sumT
  rw [List.take_add_one, h]
  simp
theorem sumT_le {x : Exp.Ex} : ∀ i, i ≤ 6 → sumT x.ws i ≤ 600 * i
  | 0, _ => by simp [sumT]
  | i + 1, h => by
    have ih := sumT_le (x := x) i (by omega)
    cases e : x.ws[i]? with
    | none =>
      have : sumT x.ws (i + 1) = sumT x.ws i := by
        unfold sumT
        rw [List.take_add_one, e]
        simp
      omega
    | some l =>
      have m : l ∈ x.ws := List.mem_of_getElem? e
      have hl : l.length ≤ 600 := by
        have g : ∀ t ∈ x.fts, t.length ≤ 600 := by
          intro t ht
          simp only [Exp.Ex.fts, List.mem_cons, List.not_mem_nil, or_false] at ht
          rcases ht with rfl | rfl | rfl | rfl | rfl | rfl <;> exact Exp.ft_len _ _
        unfold Exp.Ex.ws at m
        split at m
        · exact g l (List.mem_of_mem_tail m)
        · exact g l m
      rw [sumT_succ _ _ _ e]
      omega

set_option linter.unusedSimpArgs false in
set_option maxRecDepth 100000 in
set_option maxHeartbeats 16000000 in
theorem walk_fit (z : Exp.Ex) (k m n j : Nat) (s : ByteArray) (w : World) (L : Lay w) (hz : z.Bd) (hk : k < 256) (hm : m < 256) (x : Exp.Ex) (hx : Exp.made z k = x) (h1 : 1 ≤ s.size) (h20 : s.size ≤ 20) (hno : ∀ (j : Nat) b, s.data.toList[j]? = some b → b ≠ 32 ∧ b ≠ 9)
    (hn : x.ws.length = n) (hn5 : n = 5 ∨ n = 6) (hj : m % n = j) :
    Calls Tryz.prog 10 #[.agg #[.int .u64 z.a0, .int .u64 z.a1, .int .u64 z.a2, .int .u64 z.a3, .int .u64 z.a4, .int .u64 z.a5, .int .u8 k], .int .u8 m, .string s] w fun e w' => e = .returned (.bool true) ∧ Below w.heap.size w w' := by
  have hok : x.Ok := by rw [← hx]; exact Exp.made_ok z k
  have jn : j < n := by rw [← hj]; exact Nat.mod_lt _ (by omega)
  have MA := Lib.hid (fun w0 : World => made_any z hz k hk w0 x hx)
  obtain ⟨T, hT⟩ : ∃ T : ByteArray, T.data.toList = x.text := ⟨⟨x.text.toArray⟩, rfl⟩
  have PR := Lib.hid (fun (W : World) (h : XC w [] W) => h.print x hok T hT.symm)
  have CN := Lib.hid (fun W : World => contains_none s (by omega) hno W)
  have wne : x.ws ≠ [] := by intro e; rw [e] at hn; simp at hn; omega
  have SP := Lib.hid (fun W : World => split_words T (by have := Exp.text_len x; rw [Lib.size_eq, hT]; omega) x.ws wne (fun t ht => not_bl (Exp.ws_words hok t ht).2) hT W)
  rw [hn] at SP
  have LL := Lib.hid ((XC.start L).alloc (.cells #[.int .u64 z.a0, .int .u64 z.a1, .int .u64 z.a2, .int .u64 z.a3, .int .u64 z.a4, .int .u64 z.a5, .int .u8 k] 42))
  -- the word that is put in
  have tne : s.data.toList ≠ [] := by intro e; rw [Lib.size_eq, e] at h1; simp at h1
  have tbl : ∀ c ∈ s.data.toList, Exp.isBl c = false := bl_none hno
  obtain ⟨q, hq⟩ : ∃ q, 6 - n + j = q := ⟨_, rfl⟩
  obtain ⟨⟨S, b, pn, f⟩, hf⟩ : ∃ r, Exp.fp q s.data.toList = r := ⟨_, rfl⟩
  have q6 : q < 6 := by omega
  have pnl : pn ≤ s.size := by
    by_cases f0 : f = 0
    · have g := Fld.parse_good (kd6_ok q q6) s.data.toList (by have := congrArg (fun r => r.2.2.2) hf; simpa [Exp.fp, f0] using this)
      have e := congrArg (fun r => r.2.2.1) hf
      simp only [Exp.fp] at e
      have g2 := g.2.2.2.1
      omega
    · have g := Fld.parse_bad (K := kd6 q) s.data.toList (by have := congrArg (fun r => r.2.2.2) hf; simp only [Exp.fp] at this; rw [this]; exact f0)
      have e := congrArg (fun r => r.2.2.1) hf
      simp only [Exp.fp] at e
      have g2 := g.2.2.1
      rw [Lib.size_eq]; omega
  have FP := Lib.hid (fun (W : World) (u : Value) (hu : IsStrs W u (xs6 q)) => parse_yes (kd6 q) u (xs6 q) s W hu (kd6_is q q6) (by omega))
  have hfk : Fld.parse (kd6 q) s.data.toList = (S, b, pn, f) := hf
  rw [hfk] at FP
  obtain ⟨y, a, e, hp, hp0, hp1⟩ := Exp.spoilt hok (k := j) (by omega) tne tbl (S := S) (n := pn) (f := f) (b := b) (by rw [hn, hq]; exact hf)
  obtain ⟨J, hJ⟩ : ∃ J : ByteArray, J.data.toList = Lex.joinL [32] (x.ws.set j s.data.toList) := ⟨⟨(Lex.joinL [32] (x.ws.set j s.data.toList)).toArray⟩, rfl⟩
  have JZ : J.size ≤ 100000 := by
    have l := Lex.joinL_len [32] (x.ws.set j s.data.toList)
    have g : ∀ t ∈ x.ws.set j s.data.toList, t.length ≤ 600 := by
      intro t ht
      rcases List.mem_or_eq_of_mem_set ht with ht | rfl
      · have g : ∀ t ∈ x.fts, t.length ≤ 600 := by
          intro t ht
          simp only [Exp.Ex.fts, List.mem_cons, List.not_mem_nil, or_false] at ht
          rcases ht with rfl | rfl | rfl | rfl | rfl | rfl <;> exact Exp.ft_len _ _
        unfold Exp.Ex.ws at ht
        split at ht
        · exact g t (List.mem_of_mem_tail ht)
        · exact g t ht
      · rw [← Lib.size_eq]; omega
    have c : ∀ l : List (List UInt8), (∀ t ∈ l, t.length ≤ 600) → (l.map List.length).sum ≤ l.length * 600 := by
      intro l
      induction l with
      | nil => simp
      | cons t r ih =>
        intro h
        have := ih fun t ht => h t (by simp [ht])
        have := h t (by simp)
        simp only [List.map_cons, List.sum_cons, List.length_cons]
        omega
    have c := c _ g
    rw [List.length_set, hn] at c
    rw [List.length_set, hn] at l
    rw [Lib.size_eq, hJ]
    simp only [List.length_cons, List.length_nil] at l
    omega
  have JO := Lib.hid (fun (W : World) (B : Nat) (h : PC w (x.ws.set j s.data.toList) B W) => h.join J hJ JZ n (by rw [List.length_set, hn]) (by omega))
  have JP := Lib.hid (fun W : World => parse_any J JZ y a e (by rw [hJ]; exact hp) W)
  have WSET := Lib.hid (wsL_set x.ws j s.data.toList)
  have sid : (⟨s.data.toList.toArray⟩ : ByteArray) = s := rfl
  rw [sid] at WSET
  have ST := Lib.hid (fun i => sumT_succ x.ws i)
  have SL := Lib.hid (fun i h => sumT_le (x := x) i h)
  have WA := Lib.hid (fun i (h : i < n) => (⟨x.ws[i]'(by omega), List.getElem?_eq_getElem (by omega)⟩ : ∃ l, x.ws[i]? = some l))
  have HP0 := Lib.hid hp0
  have HP1 : Hid (f ≠ 0 → e = f ∧ a = j + sumT x.ws j + pn) := Lib.hid hp1
  have ZA : Hid (sumT x.ws 0 = 0) := Lib.hid rfl
  have Q6 := Lib.hid q6
  have e1 : decide ((s.size : Int) < 1) = false := by rw [decide_eq_false_iff_not]; omega
  have e1n : decide (s.size < 1) = false := by rw [decide_eq_false_iff_not]; omega
  have e1z : (s.size == 0) = false := by rw [beq_eq_false_iff_ne]; omega
  have e2 : decide ((20 : Int) < (s.size : Int)) = false := by rw [decide_eq_false_iff_not]; omega
  have e2n : decide (20 < s.size) = false := by rw [decide_eq_false_iff_not]; omega
  have jn0 : (0 : Int) ≤ (j : Int) := by omega
  have md : (m : Int) % (n : Int) = (j : Int) := by rw [← hj]; exact (Int.natCast_emod m n).symm
  have mt : (m : Int).tmod (n : Int) = (j : Int) := by rw [Int.tmod_eq_emod_of_nonneg (by omega)]; exact md
  have LY := Lib.hid L
  have pnl' : pn ≤ 20 := by omega
  clear pnl h20
  clear hp hp0 hp1 hfk hf hJ hT hx hz hk hok wne tne tbl hno L sid hj JZ hn q6 h1
  have PNL := Lib.hid pnl'
  clear pnl'
  rcases hn5 with rfl | rfl
  · have jn1 : (j : Int) < 5 := by omega
    have jn2 : (j : Int) ≤ 5 := by omega
    have md' : (m : Int) % 5 = (j : Int) := md
    have mt' : (m : Int).tmod 5 = (j : Int) := mt
    have eq : (1 : Int) + (j : Int) = (q : Int) := by omega
    have q0 : (0 : Int) ≤ (q : Int) := by omega
    have q7 : (q : Int) < 6 := by have := Q6.out; omega
    clear hq
    clear md mt
    go_enter Tryz.func10, Tryz.ntmps10
    go_wp2_with fail
    refine (MA.out _).mono ?_
    rintro e' w1 ⟨rfl, hb⟩
    have Q := Lib.hid (LL.out.next hb)
    clear hb
    go_wp2_with fail
    refine (PR.out _ Q.out).mono ?_
    rintro e' w2 ⟨rfl, hq⟩
    have Q := Lib.hid hq
    clear hq
    go_wp2_with fail
    refine (CN.out _).mono ?_
    rintro e' w3 ⟨rfl, hb⟩
    have Q := Lib.hid (Q.out.next hb)
    clear hb
    go_wp2_with fail
    refine (SP.out _).mono ?_
    rintro e' w4 ⟨rfl, hw4⟩
    have P0 : PC w x.ws w3.heap.size w4 := by rw [hw4]; exact ⟨(Q.out.alloc _).below, (Q.out.alloc _).lay, Row.new w3 (wsL x.ws) _⟩
    have HBw : w.heap.size ≤ w3.heap.size := Q.out.below.size
    have P := Lib.hid P0
    obtain ⟨B, hB⟩ : ∃ B, w3.heap.size = B := ⟨_, rfl⟩
    rw [hB] at P HBw
    clear P0 Q MA PR CN SP LL hw4
    go_wp2_with fail
    refine (specs_any _).mono ?_
    rintro e' w5 ⟨rfl, hb, h6⟩
    have P := Lib.hid (P.out.next hb)
    obtain ⟨A, hA⟩ : ∃ A, w4.heap.size = A := ⟨_, rfl⟩
    rw [hA] at h6
    obtain ⟨c0, c1, c2, c3⟩ := h6.at_ q Q6.out
    have SK := Lib.hid (h6.strs q Q6.out)
    obtain ⟨nA, nL, nC, en, _⟩ := na6_slice A q Q6.out
    rw [en] at c2 SK
    clear hb h6 en
    go_wp2_with fail
    refine (FP.out _ _ SK.out).mono ?_
    rintro e' w6 ⟨rfl, hb⟩
    have P := Lib.hid (P.out.next hb)
    clear hb SK c0 c1 c2 c3 FP
    go_wp2_with fail
    go_loopw [16, 90] (fun pl it wr => ∃ i p : Nat, i ≤ j ∧ p ≤ 5000 ∧ it = .int .i64 i ∧ pl = .int .i64 p ∧ Hid (p = j + sumT x.ws i) ∧ Hid (PC w x.ws B wr)) (fun _ i _ => 10 - (intOf i).toNat)
    case atStart => exact ⟨0, j, Nat.zero_le _, by omega, rfl, rfl, Lib.hid (by rw [ZA.out]; rfl), P⟩
    case round =>
      obtain ⟨i, p, ij, p5, rfl, rfl, hp, P⟩ := hrel
      by_cases hlt : i < j
      · have q1 : decide ((i : Int) < (j : Int)) = true := by rw [decide_eq_true_iff]; omega
        have q1n : decide (i < j) = true := by rw [decide_eq_true_iff]; omega
        have i0 : (0 : Int) ≤ (i : Int) := by omega
        have i1 : (i : Int) < (j : Int) := by omega
        obtain ⟨l, hl⟩ := WA.out i (by omega)
        have cc := (P.out.row.cell i).trans (wsL_at _ i l hl)
        have ss := ST.out i l hl
        have sl := SL.out (i + 1) (by omega)
        have zz : (⟨l.toArray⟩ : ByteArray).size = l.length := by rw [Lib.size_eq]
        obtain ⟨X, hX⟩ : ∃ X : ByteArray, (⟨l.toArray⟩ : ByteArray) = X := ⟨_, rfl⟩
        rw [hX] at cc zz
        obtain ⟨p', hp'⟩ : ∃ p', p + X.size = p' := ⟨_, rfl⟩
        have pp := hp.out
        have wr1 : IntKind.i64.wrap ((p : Int) + (X.size : Int)) = (p' : Int) := by rw [IntKind.wrap_i64]; omega
        have p6 : p' ≤ 5000 := by omega
        have HN := Lib.hid (show p' = j + sumT x.ws (i + 1) by omega)
        clear hX zz ss sl hl pp hp' hp
        go_wp2_with fail
        go_roundw
        case rel => exact ⟨i + 1, p', by omega, p6, by go_num, rfl, HN, P⟩
        case measure => simp [intOf]; omega
      · obtain rfl : i = j := by omega
        have q1 : decide ((i : Int) < (i : Int)) = false := by rw [decide_eq_false_iff_not]; omega
        have q1n : decide (i < i) = false := by rw [decide_eq_false_iff_not]; omega
        obtain ⟨l, hl⟩ := WA.out i (by omega)
        have cc := (P.out.row.cell i).trans (wsL_at _ i l hl)
        have ff := P.out.row.free i
        have B1 := bel_cell P.out.below HBw i (.string s)
        have R1 := P.out.row.set i (.string s)
        rw [WSET.out] at R1
        have P1 : Hid (PC w (x.ws.set i s.data.toList) B (wr.setCell ⟨B, i, none⟩ (.string s))) := Lib.hid ⟨B1, LY.out.below B1, R1⟩
        clear B1 R1 hl P
        go_wp2_with fail
        refine (JO.out _ _ P1.out).mono ?_
        rintro e' w7 ⟨rfl, P⟩
        have P := Lib.hid P
        clear P1 cc ff
        go_wp2_with fail
        refine (JP.out _).mono ?_
        rintro e' w8 ⟨rfl, hb⟩
        have P := Lib.hid ((P.out.next hb).next ((Below.refl _ _).alloc (Nat.le_refl _) (.cells #[.int .u64 y.a0, .int .u64 y.a1, .int .u64 y.a2, .int .u64 y.a3, .int .u64 y.a4, .int .u64 y.a5, .bool y.b3, .bool y.b5] 25)))
        clear hb
        by_cases f0 : f = 0
        · obtain ⟨rfl, rfl⟩ := HP0.out f0
          have s1 : ((f : Int) == 0) = true := by rw [beq_iff_eq]; omega
          have s1n : (f == 0) = true := by rw [beq_iff_eq]; omega
          clear f0
          go_wp2_with fail
          refine (works_any _ P.out.lay).mono ?_
          rintro e' w9 ⟨rfl, hb⟩
          have HB := Lib.hid (P.out.below.trans (hb.mono P.out.below.size))
          clear hb
          go_wp2_with fail
          go_ret
          exact ⟨rfl, HB.out⟩
        · have ea := HP1.out f0
          obtain ⟨rfl, ha⟩ := ea
          have s1 : ((e : Int) == 0) = false := by rw [beq_eq_false_iff_ne]; omega
          have s1n : (e == 0) = false := by rw [beq_eq_false_iff_ne]; omega
          have pp := hp.out
          have wr2 : IntKind.i64.wrap ((p : Int) + (pn : Int)) = (a : Int) := by rw [IntKind.wrap_i64]; have := PNL.out; omega
          have s2 : ((a : Int) == IntKind.i64.wrap ((p : Int) + (pn : Int))) = true := by rw [wr2]; simp
          have s3 : ((a : Int) == (p : Int) + (pn : Int)) = true := by rw [beq_iff_eq]; omega
          have s4 : (a == p + pn) = true := by rw [beq_iff_eq]; omega
          clear f0 ha pp
          go_wp2_with fail
          refine (works_any _ P.out.lay).mono ?_
          rintro e' w9 ⟨rfl, hb⟩
          have HB := Lib.hid (P.out.below.trans (hb.mono P.out.below.size))
          clear hb
          go_wp2_with fail
          go_ret
          exact ⟨rfl, HB.out⟩
  · have jn1 : (j : Int) < 6 := by omega
    have jn2 : (j : Int) ≤ 6 := by omega
    have md' : (m : Int) % 6 = (j : Int) := md
    have mt' : (m : Int).tmod 6 = (j : Int) := mt
    obtain rfl : j = q := by omega
    clear hq
    clear md mt
    go_enter Tryz.func10, Tryz.ntmps10
    go_wp2_with fail
    refine (MA.out _).mono ?_
    rintro e' w1 ⟨rfl, hb⟩
    have Q := Lib.hid (LL.out.next hb)
    clear hb
    go_wp2_with fail
    refine (PR.out _ Q.out).mono ?_
    rintro e' w2 ⟨rfl, hq⟩
    have Q := Lib.hid hq
    clear hq
    go_wp2_with fail
    refine (CN.out _).mono ?_
    rintro e' w3 ⟨rfl, hb⟩
    have Q := Lib.hid (Q.out.next hb)
    clear hb
    go_wp2_with fail
    refine (SP.out _).mono ?_
    rintro e' w4 ⟨rfl, hw4⟩
    have P0 : PC w x.ws w3.heap.size w4 := by rw [hw4]; exact ⟨(Q.out.alloc _).below, (Q.out.alloc _).lay, Row.new w3 (wsL x.ws) _⟩
    have HBw : w.heap.size ≤ w3.heap.size := Q.out.below.size
    have P := Lib.hid P0
    obtain ⟨B, hB⟩ : ∃ B, w3.heap.size = B := ⟨_, rfl⟩
    rw [hB] at P HBw
    clear P0 Q MA PR CN SP LL hw4
    go_wp2_with fail
    refine (specs_any _).mono ?_
    rintro e' w5 ⟨rfl, hb, h6⟩
    have P := Lib.hid (P.out.next hb)
    obtain ⟨A, hA⟩ : ∃ A, w4.heap.size = A := ⟨_, rfl⟩
    rw [hA] at h6
    obtain ⟨c0, c1, c2, c3⟩ := h6.at_ j Q6.out
    have SK := Lib.hid (h6.strs j Q6.out)
    obtain ⟨nA, nL, nC, en, _⟩ := na6_slice A j Q6.out
    rw [en] at c2 SK
    clear hb h6 en
    go_wp2_with fail
    refine (FP.out _ _ SK.out).mono ?_
    rintro e' w6 ⟨rfl, hb⟩
    have P := Lib.hid (P.out.next hb)
    clear hb SK c0 c1 c2 c3 FP
    go_wp2_with fail
    go_loopw [16, 90] (fun pl it wr => ∃ i p : Nat, i ≤ j ∧ p ≤ 5000 ∧ it = .int .i64 i ∧ pl = .int .i64 p ∧ Hid (p = j + sumT x.ws i) ∧ Hid (PC w x.ws B wr)) (fun _ i _ => 10 - (intOf i).toNat)
    case atStart => exact ⟨0, j, Nat.zero_le _, by omega, rfl, rfl, Lib.hid (by rw [ZA.out]; rfl), P⟩
    case round =>
      obtain ⟨i, p, ij, p5, rfl, rfl, hp, P⟩ := hrel
      by_cases hlt : i < j
      · have q1 : decide ((i : Int) < (j : Int)) = true := by rw [decide_eq_true_iff]; omega
        have q1n : decide (i < j) = true := by rw [decide_eq_true_iff]; omega
        have i0 : (0 : Int) ≤ (i : Int) := by omega
        have i1 : (i : Int) < (j : Int) := by omega
        obtain ⟨l, hl⟩ := WA.out i (by omega)
        have cc := (P.out.row.cell i).trans (wsL_at _ i l hl)
        have ss := ST.out i l hl
        have sl := SL.out (i + 1) (by omega)
        have zz : (⟨l.toArray⟩ : ByteArray).size = l.length := by rw [Lib.size_eq]
        obtain ⟨X, hX⟩ : ∃ X : ByteArray, (⟨l.toArray⟩ : ByteArray) = X := ⟨_, rfl⟩
        rw [hX] at cc zz
        obtain ⟨p', hp'⟩ : ∃ p', p + X.size = p' := ⟨_, rfl⟩
        have pp := hp.out
        have wr1 : IntKind.i64.wrap ((p : Int) + (X.size : Int)) = (p' : Int) := by rw [IntKind.wrap_i64]; omega
        have p6 : p' ≤ 5000 := by omega
        have HN := Lib.hid (show p' = j + sumT x.ws (i + 1) by omega)
        clear hX zz ss sl hl pp hp' hp
        go_wp2_with fail
        go_roundw
        case rel => exact ⟨i + 1, p', by omega, p6, by go_num, rfl, HN, P⟩
        case measure => simp [intOf]; omega
      · obtain rfl : i = j := by omega
        have q1 : decide ((i : Int) < (i : Int)) = false := by rw [decide_eq_false_iff_not]; omega
        have q1n : decide (i < i) = false := by rw [decide_eq_false_iff_not]; omega
        obtain ⟨l, hl⟩ := WA.out i (by omega)
        have cc := (P.out.row.cell i).trans (wsL_at _ i l hl)
        have ff := P.out.row.free i
        have B1 := bel_cell P.out.below HBw i (.string s)
        have R1 := P.out.row.set i (.string s)
        rw [WSET.out] at R1
        have P1 : Hid (PC w (x.ws.set i s.data.toList) B (wr.setCell ⟨B, i, none⟩ (.string s))) := Lib.hid ⟨B1, LY.out.below B1, R1⟩
        clear B1 R1 hl P
        go_wp2_with fail
        refine (JO.out _ _ P1.out).mono ?_
        rintro e' w7 ⟨rfl, P⟩
        have P := Lib.hid P
        clear P1 cc ff
        go_wp2_with fail
        refine (JP.out _).mono ?_
        rintro e' w8 ⟨rfl, hb⟩
        have P := Lib.hid ((P.out.next hb).next ((Below.refl _ _).alloc (Nat.le_refl _) (.cells #[.int .u64 y.a0, .int .u64 y.a1, .int .u64 y.a2, .int .u64 y.a3, .int .u64 y.a4, .int .u64 y.a5, .bool y.b3, .bool y.b5] 25)))
        clear hb
        by_cases f0 : f = 0
        · obtain ⟨rfl, rfl⟩ := HP0.out f0
          have s1 : ((f : Int) == 0) = true := by rw [beq_iff_eq]; omega
          have s1n : (f == 0) = true := by rw [beq_iff_eq]; omega
          clear f0
          go_wp2_with fail
          refine (works_any _ P.out.lay).mono ?_
          rintro e' w9 ⟨rfl, hb⟩
          have HB := Lib.hid (P.out.below.trans (hb.mono P.out.below.size))
          clear hb
          go_wp2_with fail
          go_ret
          exact ⟨rfl, HB.out⟩
        · have ea := HP1.out f0
          obtain ⟨rfl, ha⟩ := ea
          have s1 : ((e : Int) == 0) = false := by rw [beq_eq_false_iff_ne]; omega
          have s1n : (e == 0) = false := by rw [beq_eq_false_iff_ne]; omega
          have pp := hp.out
          have wr2 : IntKind.i64.wrap ((p : Int) + (pn : Int)) = (a : Int) := by rw [IntKind.wrap_i64]; have := PNL.out; omega
          have s2 : ((a : Int) == IntKind.i64.wrap ((p : Int) + (pn : Int))) = true := by rw [wr2]; simp
          have s3 : ((a : Int) == (p : Int) + (pn : Int)) = true := by rw [beq_iff_eq]; omega
          have s4 : (a == p + pn) = true := by rw [beq_iff_eq]; omega
          clear f0 ha pp
          go_wp2_with fail
          refine (works_any _ P.out.lay).mono ?_
          rintro e' w9 ⟨rfl, hb⟩
          have HB := Lib.hid (P.out.below.trans (hb.mono P.out.below.size))
          clear hb
          go_wp2_with fail
          go_ret
          exact ⟨rfl, HB.out⟩

set_option maxRecDepth 100000 in
set_option maxHeartbeats 4000000 in
theorem walk (z : Exp.Ex) (k : Nat) (wi : Int) (s : ByteArray) (w : World) (L : Lay w) (hz : z.Bd) (hk : k < 256) (hw : (Lit.int .u8 wi).wf = true) (hs : s.size ≤ maxLen) :
    Calls Tryz.prog 10 #[.agg #[.int .u64 z.a0, .int .u64 z.a1, .int .u64 z.a2, .int .u64 z.a3, .int .u64 z.a4, .int .u64 z.a5, .int .u8 k], .int .u8 wi, .string s] w fun e w' => e = .returned (.bool true) ∧ Below w.heap.size w w' := by
  obtain ⟨m, rfl, hm⟩ := nat_u8 hw
  obtain ⟨x, hx⟩ : ∃ x, Exp.made z k = x := ⟨_, rfl⟩
  have hok : x.Ok := by rw [← hx]; exact Exp.made_ok z k
  have wl := Exp.ws_len x
  unfold maxLen at hs
  by_cases fit : 1 ≤ s.size ∧ s.size ≤ 20 ∧ ∀ (j : Nat) b, s.data.toList[j]? = some b → b ≠ 32 ∧ b ≠ 9
  · exact walk_fit z k m _ _ s w L hz hk hm x hx fit.1 fit.2.1 fit.2.2 rfl (by rw [wl]; split <;> omega) rfl
  · have MA := Lib.hid (fun w0 : World => made_any z hz k hk w0 x hx)
    obtain ⟨T, hT⟩ : ∃ T : ByteArray, T.data.toList = x.text := ⟨⟨x.text.toArray⟩, rfl⟩
    have PR := Lib.hid (fun (W : World) (h : XC w [] W) => h.print x hok T hT.symm)
    have LL := Lib.hid ((XC.start L).alloc (.cells #[.int .u64 z.a0, .int .u64 z.a1, .int .u64 z.a2, .int .u64 z.a3, .int .u64 z.a4, .int .u64 z.a5, .int .u8 k] 42))
    have road : s.size < 1 ∨ 20 < s.size ∨ (1 ≤ s.size ∧ s.size ≤ 20 ∧ ∃ f, BlAt s f) := by
      by_cases h1 : s.size < 1
      · exact .inl h1
      · by_cases h2 : 20 < s.size
        · exact .inr (.inl h2)
        · refine .inr (.inr ⟨by omega, by omega, ?_⟩)
          rcases bl_or s with h | h
          · exact absurd ⟨by omega, by omega, h⟩ fit
          · exact h
    clear hx hok wl hT hz hk hw hm L fit
    rcases road with h1 | h2 | ⟨h1, h2, f, hf⟩
    · have e1 : decide ((s.size : Int) < 1) = true := by rw [decide_eq_true_iff]; omega
      have e1n : decide (s.size < 1) = true := by rw [decide_eq_true_iff]; omega
      have e1z : (s.size == 0) = true := by rw [beq_iff_eq]; omega
      clear h1 hs
      go_enter Tryz.func10, Tryz.ntmps10
      go_wp2_with fail
      refine (MA.out _).mono ?_
      rintro e' w1 ⟨rfl, hb⟩
      have Q := Lib.hid (LL.out.next hb)
      clear hb
      go_wp2_with fail
      refine (PR.out _ Q.out).mono ?_
      rintro e' w2 ⟨rfl, hq⟩
      have Q := Lib.hid hq
      clear hq
      go_wp2_with fail
      refine (XC.works Q.out).mono ?_
      rintro e' w4 ⟨rfl, hq⟩
      have Q := Lib.hid hq
      clear hq
      go_wp2_with fail
      go_ret
      exact ⟨rfl, Q.out.below⟩
    · have e1 : decide ((s.size : Int) < 1) = false := by rw [decide_eq_false_iff_not]; omega
      have e1n : decide (s.size < 1) = false := by rw [decide_eq_false_iff_not]; omega
      have e1z : (s.size == 0) = false := by rw [beq_eq_false_iff_ne]; omega
      have e2 : decide ((20 : Int) < (s.size : Int)) = true := by rw [decide_eq_true_iff]; omega
      have e2n : decide (20 < s.size) = true := by rw [decide_eq_true_iff]; omega
      clear h2 hs
      go_enter Tryz.func10, Tryz.ntmps10
      go_wp2_with fail
      refine (MA.out _).mono ?_
      rintro e' w1 ⟨rfl, hb⟩
      have Q := Lib.hid (LL.out.next hb)
      clear hb
      go_wp2_with fail
      refine (PR.out _ Q.out).mono ?_
      rintro e' w2 ⟨rfl, hq⟩
      have Q := Lib.hid hq
      clear hq
      go_wp2_with fail
      refine (XC.works Q.out).mono ?_
      rintro e' w4 ⟨rfl, hq⟩
      have Q := Lib.hid hq
      clear hq
      go_wp2_with fail
      go_ret
      exact ⟨rfl, Q.out.below⟩
    · have CN := Lib.hid (fun W : World => contains_blank s (by omega) f hf W)
      have e1 : decide ((s.size : Int) < 1) = false := by rw [decide_eq_false_iff_not]; omega
      have e1n : decide (s.size < 1) = false := by rw [decide_eq_false_iff_not]; omega
      have e1z : (s.size == 0) = false := by rw [beq_eq_false_iff_ne]; omega
      have e2 : decide ((20 : Int) < (s.size : Int)) = false := by rw [decide_eq_false_iff_not]; omega
      have e2n : decide (20 < s.size) = false := by rw [decide_eq_false_iff_not]; omega
      clear hf
      clear h1 h2 hs
      go_enter Tryz.func10, Tryz.ntmps10
      go_wp2_with fail
      refine (MA.out _).mono ?_
      rintro e' w1 ⟨rfl, hb⟩
      have Q := Lib.hid (LL.out.next hb)
      clear hb
      go_wp2_with fail
      refine (PR.out _ Q.out).mono ?_
      rintro e' w2 ⟨rfl, hq⟩
      have Q := Lib.hid hq
      clear hq
      go_wp2_with fail
      refine (CN.out _).mono ?_
      rintro e' w3 ⟨rfl, hb⟩
      have Q := Lib.hid (Q.out.next hb)
      clear hb
      go_wp2_with fail
      refine (XC.works Q.out).mono ?_
      rintro e' w4 ⟨rfl, hq⟩
      have Q := Lib.hid hq
      clear hq
      go_wp2_with fail
      go_ret
      exact ⟨rfl, Q.out.below⟩

set_option maxRecDepth 100000 in
theorem lifted (os : Os) (started : os.Started) (H : Type) (enc : TypeId × Value → H) :
    ReturnsInHanded {} Tryz.checked os 10 .any (fun w args => (Rows.exprPlacesSpec.pre enc Tryz.prog Tryz.f10 [] false w args ∧ laidMetH Tryz.prog Rows.exprPlacesRow.laid w) ∧ sizedMet enc Tryz.prog Tryz.f10 (OpenSpec.ofChange Rows.exprPlacesSpec) false w args)
      (Rows.exprPlacesSpec.post enc Tryz.prog Tryz.f10 false true false false) := by
  refine returnsInHanded_of_change_and (C := Tryz.checked) (X := fun w _ => laidMetH Tryz.prog Rows.exprPlacesRow.laid w) (fun _ _ _ hh h => h.of_heap hh) own started (by kernel_rfl) Tryz.func10
    (ChangeSpec.witness_shaped (enc := enc) (C := Tryz.checked) (os := os) (X := fun w _ => laidMetH Tryz.prog Rows.exprPlacesRow.laid w) false (World.laidAll Tryz.prog os Rows.exprPlacesRow.laid) #[.agg #[.int .u64 0, .int .u64 0, .int .u64 0, .int .u64 0, .int .u64 0, .int .u64 0, .int .u8 0], .int .u8 0, .string ⟨#[]⟩] 8 (World.laidAll_os _ _ _) (World.shaped_of_ZipB (by kernel_rfl) (by kernel_rfl)) (by kernel_rfl) (by kernel_rfl) (by kernel_rfl) (by rw [MakeChecks.laidMetH_plain _ _ _ (by kernel_rfl)]; exact laidMet_laidAll _ (by kernel_rfl) (by kernel_rfl))) ?_
  intro W base args ds gs before hval0 hW _ _ hL _
  have hval : ∀ (j : Nat) t v, Tryz.f10.params[j]? = some t → args[j]? = some v → Value.okWide Tryz.prog W .any base t v := hval0
  have hW' := hW
  obtain ⟨p, q, hA0, hV, rfl, hfz, hnd⟩ := hW
  have hA : DataW.TrodAll enc Tryz.prog W 0 (fun _ => true) true Tryz.f10.params.toList args.toList ds p := hA0
  rw [Tryz.params10] at hA hval
  obtain ⟨v0, vs0, d0, ds0, p0, q0, hargs, rfl, rfl, h0, r0⟩ := trodAll_cons hA
  obtain ⟨v1, vs1, d1, ds1, p1, q1, rfl, rfl, rfl, h1, r1⟩ := trodAll_cons r0
  obtain ⟨v2, vs2, d2, ds2, p2, q2, rfl, rfl, rfl, h2, r2⟩ := trodAll_cons r1
  obtain ⟨rfl, rfl, rfl⟩ := trodAll_nil r2
  obtain rfl : args = #[v0, v1, v2] := by cases args; simp_all
  obtain ⟨rfl, rfl⟩ := trodVars_none hV
  obtain ⟨z0, c0, rfl, w0, u0⟩ := open_sets (hval 0 42 v0 rfl rfl) h0
  have k0 := h0
  have lt0 : ∀ x ∈ p0, x.block < W.heap.size := by obtain ⟨m, hm⟩ := k0; exact DataW.trod_lt m _ _ _ hm
  obtain ⟨a1, rfl, rfl, rfl, w1⟩ := open_int Tryz.underlying5 (hval 1 5 v1 rfl rfl) h1
  obtain ⟨a2, rfl, rfl, rfl, w2⟩ := open_string Tryz.underlying9 (hval 2 9 v2 rfl rfl) h2
  clear hA0 hval0
  refine (walk z0 c0 a1 a2 W (lay_of _ W (by kernel_rfl) (.tail _ (.head _)) (by kernel_rfl) hL) w0 u0 w1 w2).mono fun e W' ⟨he, bel⟩ => ?_
  subst he
  exact ⟨_, rfl, _, _, _, [], _, [], hW', trodAll_mk1 (shut_bool Tryz.underlying4 _), (trodAll_cons_mk (Below.trod laidOut (by kernel_rfl) (of_decide_eq_true (by kernel_rfl)) k0 bel lt0) (trodAll_cons_mk (shut_int Tryz.underlying5 w1) (trodAll_cons_mk (shut_string Tryz.underlying9 w2) trodAll_mk0))), rfl, bel.frame _, fun h => by cases h⟩

theorem row_holds : Rows.ExprPlacesSaid :=
  OpenClaim.holds_of_wide 10 Tryz.f10 rfl rfl rfl rfl rfl rfl rfl ⟨rfl, rfl, rfl, rfl, rfl⟩ rfl rfl rfl rfl rfl (by kernel_rfl) Tryz.func10 (by kernel_rfl)
    (of_decide_eq_true (by kernel_rfl)) (by unfold Func.isWrapper; first | (rw [if_pos (by decide +kernel)]; kernel_rfl) | (rw [if_neg (by decide +kernel)]; exact ⟨rfl, rfl⟩))
    (fun os started H enc _ => lifted os started H enc)

theorem proved : Rows.ExprPlacesCardSaid :=
  Claim7.holds_tied_plain_at .later [] Rows.exprPlacesCard.laidKinds true Rows.exprPlacesCard.stood.harness Rows.exprPlacesCard.stood.looks
    row_holds (fun _ h => by cases h) (by kernel_rfl) (fun _ h => by cases h) exprPlaces_row_tie rfl ⟨rfl, rfl⟩ (by kernel_rfl) rfl
    (fun f fn hf hfn => by
      obtain rfl : f = 10 := Option.some.inj ((show Tryz.prog.funcNamed Rows.exprPlacesRow.func = some 10 by kernel_rfl).symm.trans hf) |>.symm
      obtain rfl : fn = Tryz.f10 := (Option.some.inj (Tryz.func10.symm.trans hfn)).symm
      exact ⟨looks0, fun j t ht => by
        rw [Tryz.params10] at ht
        have hm : t ∈ [42, 5, 9] := by simpa using Array.mem_of_getElem? ht
        have hall : ([42, 5, 9].all fun u => !Tryz.prog.wantsStandIn u) = true := by kernel_rfl
        exact (show Tryz.prog.wantsStandIn t = false by simpa using List.all_eq_true.1 hall t hm)⟩)
    (by kernel_rfl)
end Go.Proofs.YtpnfifhanmpapaaGreatDoor.exprPlaces
