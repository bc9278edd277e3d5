/- What a plan is: its kind, expression, zone, schedule and spans; which are valid, what times they have; what the functions of both programs answer, as relations. Plain. Plain facts of the examples of the chapter: the daily plan, the plan of three times, and with spans. Plain: what the iterator over the times of a plan has still to give; the loops of Count of both programs. Plans in memory; == of expressions, schedules and spans; slices.Equal; plan's Equal and the document's. plan's Equal and the document's: whether two plans in memory are the same. -/
import Derived.Test.YtljackjcgfaanaaGreatDoorPlaMath
import Derived.Test.YtljackjcgfaanaaGreatDoorGMatCx
import Derived.Test.YtljackjcgfaanaaGreatDoorEveW
import Derived.Test.YtljackjcgfaanaaGreatDoorGBlkD
import Derived.Test.YtljackjcgfaanaaGreatDoorGMatO
import Derived.Test.YtljackjcgfaanaaGreatDoorGMatRZ
import Derived.Test.YtljackjcgfaanaaGreatDoorBlkB
import Derived.Test.YtljackjcgfaanaaGreatDoorExpArg
import Derived.Deep.RegionHeld3
import Derived.Laws.StructEq
import Derived.Laws.EntriesVeiled
import Derived.Lib.Hide
/- What a plan is: its kind, expression, zone, schedule and spans; which are valid, what times they have; what the functions of both programs answer, as relations. Plain. -/
namespace Go.Proofs.YtljackjcgfaanaaGreatDoor.Pl
structure P where
  k : Int
  x : Exp.Ex
  z : Int
  s : Int
  p : Int
  c : Int
  l : List (Int × Int)
def x0 : Exp.Ex := ⟨0, 0, 0, 0, 0, 0, false, false⟩
inductive P.Ok (q : P) : Prop
  | none (k : q.k = 0) (x : q.x = x0) (z : q.z = 0) (s : q.s = 0) (p : q.p = 0) (c : q.c = 0) (l : q.l = [])
  | cron (k : q.k = 1) (x : q.x.okB = true) (z : errZ q.z = 0) (s : q.s = 0) (p : q.p = 0) (c : q.c = 0) (l : Bk.errL q.l = 0)
  | ever (k : q.k = 2) (e : Ev.Ok q.s q.p q.c) (x : q.x = x0) (z : q.z = 0) (l : Bk.errL q.l = 0)
noncomputable def P.err (q : P) : Int := @ite _ q.Ok (Classical.propDecidable _) 0 16
theorem P.err_ok {q : P} : q.err = 0 ↔ q.Ok := by
  unfold P.err
  split <;> simp_all
theorem P.err_no {q : P} (h : ¬ q.Ok) : q.err = 16 := by unfold P.err; rw [if_neg h]
theorem P.err_or (q : P) : q.err = 0 ∨ q.err = 16 := by unfold P.err; split <;> simp
/-- its times, without those that spans have -/
def P.T (q : P) (t : Int) : Prop := if q.k = 1 then q.x.Lm (t + 60 * q.z) else if q.k = 2 then Ev.On q.s q.p q.c t else False
theorem P.T_1 {q : P} (h : q.k = 1) : q.T = fun t => q.x.Lm (t + 60 * q.z) := by funext t; unfold P.T; rw [if_pos h]
theorem P.T_2 {q : P} (h : q.k = 2) : q.T = fun t => Ev.On q.s q.p q.c t := by funext t; unfold P.T; rw [if_neg (by omega), if_pos h]
theorem P.T_0 {q : P} (h : q.k = 0) : q.T = fun _ => False := by funext t; unfold P.T; rw [if_neg (by omega), if_neg (by omega)]
theorem P.Ok.kinds {q : P} (h : q.Ok) : q.k = 0 ∨ q.k = 1 ∨ q.k = 2 := by cases h <;> simp_all
theorem P.Ok.spans {q : P} (h : q.Ok) : Bk.errL q.l = 0 := by
  cases h with
  | none k x z s p c l => rw [l]; rfl
  | cron k x z s p c l => exact l
  | ever k e x z l => exact l
theorem P.Ok.few {q : P} (h : q.Ok) : Bk.OkL q.l := Bk.errL_zero.1 h.spans
theorem P.Ok.is1 {q : P} (h : q.Ok) (k : q.k = 1) : q.x.okB = true ∧ errZ q.z = 0 := by
  cases h <;> first | omega | exact ⟨by assumption, by assumption⟩
theorem P.Ok.is2 {q : P} (h : q.Ok) (k : q.k = 2) : Ev.Ok q.s q.p q.c := by
  cases h <;> first | omega | assumption
def vt (t : Int) : Prop := 0 ≤ t ∧ t ≤ 253402300799
instance (t : Int) : Decidable (vt t) := by unfold vt; exact inferInstance
/-- the plan's error, and then that of times -/
noncomputable def P.errT (q : P) (ts : List Int) : Int := if q.err = 0 then (if ts.all (fun t => decide (vt t)) = true then 0 else 14) else 16
theorem P.errT_zero {q : P} {ts : List Int} : q.errT ts = 0 ↔ q.Ok ∧ ∀ t ∈ ts, vt t := by
  unfold P.errT
  rw [← P.err_ok]
  by_cases h : q.err = 0
  · rw [if_pos h]
    by_cases k : ts.all (fun t => decide (vt t)) = true
    · rw [if_pos k]; simpa [h] using k
    · rw [if_neg k]; simpa [h] using k
  · rw [if_neg h]; simp [h]
theorem P.errT_cases (q : P) (ts : List Int) : (q.errT ts = 16 ∧ q.err = 16) ∨ (q.err = 0 ∧ q.errT ts = 14 ∧ ¬ ∀ t ∈ ts, vt t) ∨ (q.err = 0 ∧ q.errT ts = 0 ∧ ∀ t ∈ ts, vt t) := by
  unfold P.errT
  rcases q.err_or with h | h
  · rw [if_pos h]
    by_cases k : ts.all (fun t => decide (vt t)) = true
    · rw [if_pos k]; exact .inr (.inr ⟨h, rfl, by simpa using k⟩)
    · rw [if_neg k]; exact .inr (.inl ⟨h, rfl, by simpa using k⟩)
  · rw [if_neg (by omega)]; exact .inl ⟨rfl, h⟩
/-- the times of a plan -/
def P.K (q : P) : Int → Prop := Kept q.T q.l
def IsR (q : P) (t : Int) (b : Bool) (r : Int) : Prop := r = q.errT [t] ∧ (b = true ↔ r = 0 ∧ q.K t)
def NextR (q : P) (t v : Int) (b : Bool) (r : Int) : Prop := r = q.errT [t] ∧ ((r ≠ 0 ∧ v = 0 ∧ b = false) ∨ (r = 0 ∧ ∃ o, Mat.Least q.K (t + 1) 253402300799 o ∧ v = o.getD 0 ∧ b = o.isSome))
def ListR (q : P) (a b most : Int) (l : List Int) (r : Int) : Prop := r = q.errT [a, b] ∧ ((r ≠ 0 ∧ l = []) ∨ (r = 0 ∧ Tms q.K b (min most 100000).toNat a l))
noncomputable def P.cnt (q : P) (a b : Int) : Nat := cntN q.K a (b - a + 1).toNat
def CountR (q : P) (a b n r : Int) : Prop := r = q.errT [a, b] ∧ ((r ≠ 0 ∧ n = 0) ∨ (r = 0 ∧ n = (q.cnt a b : Nat)))
theorem isR_ex (q : P) (t : Int) : ∃ b r, IsR q t b r := by
  classical
  exact ⟨decide (q.errT [t] = 0 ∧ q.K t), _, rfl, by simp⟩
theorem nextR_ex (q : P) (t : Int) : ∃ v b r, NextR q t v b r := by
  by_cases h : q.errT [t] = 0
  · obtain ⟨o, ho⟩ := Mat.least_ex q.K (t + 1) 253402300799
    exact ⟨_, _, _, rfl, .inr ⟨h, o, ho, rfl, rfl⟩⟩
  · exact ⟨_, _, _, rfl, .inl ⟨h, rfl, rfl⟩⟩
theorem countR_ex (q : P) (a b : Int) : ∃ n r, CountR q a b n r := by
  by_cases h : q.errT [a, b] = 0
  · exact ⟨_, _, rfl, .inr ⟨h, rfl⟩⟩
  · exact ⟨_, _, rfl, .inl ⟨h, rfl⟩⟩
theorem tms_ex (P : Int → Prop) (b : Int) : ∀ (n : Nat) (a : Int), ∃ l, Tms P b n a l
  | 0, _ => ⟨[], rfl⟩
  | n + 1, a => by
    obtain ⟨r, hr⟩ := Mat.least_ex P a b
    cases r with
    | none => exact ⟨[], none, hr, rfl⟩
    | some t =>
      obtain ⟨l, hl⟩ := tms_ex P b n (t + 1)
      exact ⟨t :: l, some t, hr, l, rfl, hl⟩
theorem listR_ex (q : P) (a b most : Int) : ∃ l r, ListR q a b most l r := by
  by_cases h : q.errT [a, b] = 0
  · obtain ⟨l, hl⟩ := tms_ex q.K b (min most 100000).toNat a
    exact ⟨l, _, rfl, .inr ⟨h, hl⟩⟩
  · exact ⟨_, _, rfl, .inl ⟨h, rfl⟩⟩

/-! what its kind's functions give -/
theorem has_cron {q : P} (h : q.Ok) (k : q.k = 1) {t : Int} (ht : vt t) : errC q.x q.z [t] = 0 ∧ (isO q.x q.z t = true ↔ q.T t) := by
  obtain ⟨h1, h2⟩ := h.is1 k
  have hz : -840 ≤ q.z ∧ q.z ≤ 840 := by
    unfold errZ at h2
    split at h2 <;> omega
  have e : errC q.x q.z [t] = 0 := errC_mk h1 hz (fun u hu => by obtain rfl : u = t := (by simpa using hu); exact ht)
  exact ⟨e, by rw [isO_iff e, P.T_1 k]⟩
theorem next_cron {q : P} (h : q.Ok) (k : q.k = 1) {t : Int} (ht : vt t) : errC q.x q.z [t] = 0 ∧ Mat.Least q.T (t + 1) 253402300799 (nextO q.x q.z t) := by
  have e := (has_cron h k ht).1
  exact ⟨e, by rw [P.T_1 k]; exact nextO_is e⟩
theorem count_cron {q : P} (h : q.Ok) (k : q.k = 1) {a b : Int} (ha : vt a) (hb : vt b) : errC q.x q.z [a, b] = 0 ∧ countN q.x q.z a b = cntN q.T a (b - a + 1).toNat := by
  obtain ⟨h1, h2⟩ := h.is1 k
  have hz : -840 ≤ q.z ∧ q.z ≤ 840 := by
    unfold errZ at h2
    split at h2 <;> omega
  refine ⟨errC_mk h1 hz (fun u hu => ?_), by rw [P.T_1 k]; rfl⟩
  rcases (by simpa using hu : u = a ∨ u = b) with rfl | rfl
  · exact ha
  · exact hb
theorem has_ever {q : P} (h : q.Ok) (k : q.k = 2) {t : Int} (ht : vt t) : ∃ b, En.IsR q.s q.p q.c t b 0 ∧ (b = true ↔ q.T t) := by
  classical
  refine ⟨decide (Ev.On q.s q.p q.c t), .inr (.inr ⟨h.is2 k, ht, rfl, by simp⟩), by rw [P.T_2 k]; simp⟩
theorem next_ever {q : P} (h : q.Ok) (k : q.k = 2) {t : Int} (ht : vt t) : ∃ v b o, En.NextR q.s q.p q.c t v b 0 ∧ Mat.Least q.T (t + 1) 253402300799 o ∧ v = o.getD 0 ∧ b = o.isSome := by
  obtain ⟨v, b, hv⟩ := En.next_ex t (h.is2 k)
  refine ⟨v, b, if b = true then some v else none, .inr (.inr ⟨h.is2 k, ht, rfl, hv⟩), by rw [P.T_2 k]; exact every_next (h.is2 k) hv, ?_, ?_⟩
  · rcases hv with ⟨rfl, _⟩ | ⟨rfl, rfl, _⟩ <;> rfl
  · cases b <;> rfl
theorem count_ever {q : P} (h : q.Ok) (k : q.k = 2) {a b : Int} (ha : vt a) (hb : vt b) : En.CountR q.s q.p q.c a b (cntN q.T a (b - a + 1).toNat : Nat) 0 := by
  refine .inr (.inr ⟨h.is2 k, ha, hb, ?_, rfl⟩)
  rw [P.T_2 k, ← every_cnt (h.is2 k) a]
  by_cases c : a ≤ b
  · congr 1; omega
  · have e : (b - a + 1).toNat = 0 := by omega
    rw [e]
    unfold Ev.cnt
    rw [if_pos (by omega), if_pos (by omega)]
theorem K_nil {q : P} (h : q.l = []) : q.K = q.T := by
  funext t
  unfold P.K
  rw [h]
  exact propext kept_nil
end Go.Proofs.YtljackjcgfaanaaGreatDoor.Pl
/- Plain facts of the examples of the chapter: the daily plan, the plan of three times, and with spans. -/
namespace Go.Proofs.YtljackjcgfaanaaGreatDoor.Pl
def eD : Exp.Ex := ⟨1, 1, 1, 4294967294, 8190, 127, true, true⟩
def pD : P := ⟨1, eD, 0, 0, 0, 0, []⟩
def pE (l : List (Int × Int)) : P := ⟨2, x0, 0, 10, 60, 3, l⟩
theorem eD_ok : eD.okB = true := by decide +kernel
theorem okD : pD.Ok := .cron rfl eD_ok rfl rfl rfl rfl rfl
theorem evE : Ev.Ok 10 60 3 := ⟨by omega, by omega, by omega, by omega, by omega, by omega⟩
theorem okE {l : List (Int × Int)} (h : Bk.errL l = 0) : (pE l).Ok := .ever rfl evE rfl rfl h
theorem eD_lm {y : Int} (h : eD.Lm y) : ∃ n : Int, y = 86400 * n := by
  obtain ⟨n, hh, i, s, g1, g2, g3, g4, g5, g6, g7, g8⟩ := lm_at h
  have a := bit_one0 g5
  have b := bit_one0 g6
  have c := bit_one0 g7
  exact ⟨n, by omega⟩
theorem eD_at (n : Nat) (h : n < 31) (hm : Mat.mt 8190 4294967294 127 true true 1 (n + 1) ((n + 4) % 7) = true) : eD.Lm (86400 * (n : Int)) := by
  have := lm_mk (x := eD) (n := (n : Int)) (hh := 0) (i := 0) (s := 0) ((on_jan eD n h).2 hm) (by omega) (by omega) (by omega) (by decide +kernel) (by decide +kernel) (by decide +kernel)
  simpa using this
theorem vt_of {t : Int} (h : 0 ≤ t ∧ t ≤ 253402300799) : vt t := h
theorem errT_one {q : P} (h : q.Ok) {t : Int} (ht : 0 ≤ t ∧ t ≤ 253402300799) : q.errT [t] = 0 := P.errT_zero.2 ⟨h, fun u hu => by obtain rfl : u = t := (by simpa using hu); exact ht⟩
theorem errT_two {q : P} (h : q.Ok) {a b : Int} (ha : 0 ≤ a ∧ a ≤ 253402300799) (hb : 0 ≤ b ∧ b ≤ 253402300799) : q.errT [a, b] = 0 := P.errT_zero.2 ⟨h, fun u hu => by rcases (by simpa using hu : u = a ∨ u = b) with rfl | rfl <;> assumption⟩
theorem kD {t : Int} : pD.K t ↔ eD.Lm t := by
  show Kept pD.T [] t ↔ _
  rw [kept_nil, P.T_1 rfl]
  show eD.Lm (t + 60 * 0) ↔ _
  rw [show t + 60 * 0 = t by omega]
theorem tE {l : List (Int × Int)} {t : Int} : (pE l).T t ↔ t = 10 ∨ t = 70 ∨ t = 130 := by
  rw [P.T_2 rfl]
  show Ev.On 10 60 3 t ↔ _
  have n3 : Ev.num 10 60 3 = 3 := by decide
  rw [Ev.on_iff evE, n3]
  constructor
  · rintro ⟨n, h1, h2, rfl⟩; omega
  · rintro (rfl | rfl | rfl)
    · exact ⟨0, by omega, by omega, by omega⟩
    · exact ⟨1, by omega, by omega, by omega⟩
    · exact ⟨2, by omega, by omega, by omega⟩
theorem kE {t : Int} : (pE []).K t ↔ t = 10 ∨ t = 70 ∨ t = 130 := by
  show Kept (pE []).T [] t ↔ _
  rw [kept_nil, tE]
theorem kS {t : Int} : (pE [(60, 80)]).K t ↔ t = 10 ∨ t = 130 := by
  show Kept (pE [(60, 80)]).T ([] ++ [(60, 80)]) t ↔ _
  rw [kept_snoc, kept_nil, tE]
  simp only
  omega
theorem errS : Bk.errL [(60, 80)] = 0 := by decide
theorem next_of {q : P} {t v : Int} (e : q.errT [t] = 0) (h : Mat.Least q.K (t + 1) 253402300799 (some v)) : NextR q t v true 0 := ⟨e.symm, .inr ⟨rfl, _, h, rfl, rfl⟩⟩
theorem next_no {q : P} {t : Int} (e : q.errT [t] = 0) (h : Mat.Least q.K (t + 1) 253402300799 none) : NextR q t 0 false 0 := ⟨e.symm, .inr ⟨rfl, _, h, rfl, rfl⟩⟩
theorem nextD : NextR pD 0 86400 true 0 := by
  refine next_of (errT_one okD (by omega)) ⟨by omega, by omega, kD.2 ?_, fun y y1 y2 y3 => ?_⟩
  · exact eD_at 1 (by omega) (by decide +kernel)
  · obtain ⟨n, rfl⟩ := eD_lm (kD.1 y3)
    omega
theorem listS : ListR (pE [(60, 80)]) 0 1000 9 [10, 130] 0 := by
  refine ⟨(errT_two (okE errS) (by omega) (by omega)).symm, .inr ⟨rfl, ?_⟩⟩
  show Tms _ _ 9 0 [10, 130]
  refine ⟨some 10, ⟨by omega, by omega, kS.2 (by omega), fun y y1 y2 y3 => ?_⟩, _, rfl, some 130, ⟨by omega, by omega, kS.2 (by omega), fun y y1 y2 y3 => ?_⟩, _, rfl, none, fun y y1 y2 y3 => ?_, rfl⟩
  all_goals (have := kS.1 y3; omega)
theorem countS : CountR (pE [(60, 80)]) 0 1000 2 0 := by
  refine ⟨(errT_two (okE errS) (by omega) (by omega)).symm, .inr ⟨rfl, ?_⟩⟩
  unfold P.cnt
  rw [cnt_split _ (t := 10) (by omega) (by omega) (kS.2 (by omega)) (fun y y1 y2 y3 => by have := kS.1 y3; omega), cnt_split _ (t := 130) (by omega) (by omega) (kS.2 (by omega)) (fun y y1 y2 y3 => by have := kS.1 y3; omega), cnt_none _ (fun y y1 y2 y3 => by have := kS.1 y3; omega)]
  rfl
theorem isD : IsR pD 130 false 0 := ⟨(errT_one okD (by omega)).symm, ⟨fun h => (by cases h), fun ⟨_, k⟩ => by obtain ⟨n, hn⟩ := eD_lm (kD.1 k); omega⟩⟩
theorem isE : IsR (pE []) 130 true 0 := ⟨(errT_one (okE rfl) (by omega)).symm, ⟨fun _ => ⟨rfl, kE.2 (by omega)⟩, fun _ => rfl⟩⟩
theorem isS : IsR (pE [(60, 80)]) 130 true 0 := ⟨(errT_one (okE errS) (by omega)).symm, ⟨fun _ => ⟨rfl, kS.2 (by omega)⟩, fun _ => rfl⟩⟩
/-! for PlanKnown -/
theorem nextE : NextR (pE []) 0 10 true 0 := next_of (errT_one (okE rfl) (by omega)) ⟨by omega, by omega, kE.2 (by omega), fun y y1 y2 y3 => by have := kE.1 y3; omega⟩
theorem nextS : NextR (pE [(60, 80)]) 10 130 true 0 := next_of (errT_one (okE errS) (by omega)) ⟨by omega, by omega, kS.2 (by omega), fun y y1 y2 y3 => by have := kS.1 y3; omega⟩
theorem nextE0 : NextR (pE []) 130 0 false 0 := next_no (errT_one (okE rfl) (by omega)) (fun y y1 y2 y3 => by have := kE.1 y3; omega)
theorem isS70 : IsR (pE [(60, 80)]) 70 false 0 := ⟨(errT_one (okE errS) (by omega)).symm, ⟨fun h => (by cases h), fun ⟨_, k⟩ => by have := kS.1 k; omega⟩⟩
theorem isE70 : IsR (pE []) 70 true 0 := ⟨(errT_one (okE rfl) (by omega)).symm, ⟨fun _ => ⟨rfl, kE.2 (by omega)⟩, fun _ => rfl⟩⟩
theorem listD : ListR pD 86400 86400 2 [86400] 0 := by
  refine ⟨(errT_two okD (by omega) (by omega)).symm, .inr ⟨rfl, ?_⟩⟩
  show Tms _ _ 2 86400 [86400]
  exact ⟨some 86400, ⟨by omega, by omega, kD.2 (eD_at 1 (by omega) (by decide +kernel)), fun y y1 y2 y3 => by omega⟩, _, rfl, none, fun y y1 y2 y3 => by omega, rfl⟩
end Go.Proofs.YtljackjcgfaanaaGreatDoor.Pl
/- Plain: what the iterator over the times of a plan has still to give; the loops of Count of both programs. -/
namespace Go.Proofs.YtljackjcgfaanaaGreatDoor.Pl
theorem least_later {P : Int → Prop} {a c b : Int} {r : Option Int} (h : Mat.Least P a b r) (ac : a ≤ c) (no : ∀ y, a ≤ y → y < c → ¬ P y) : Mat.Least P c b r := by
  cases r with
  | none => exact fun y h1 h2 => h y (by omega) h2
  | some v =>
    obtain ⟨h1, h2, h3, h4⟩ := h
    refine ⟨?_, h2, h3, fun y k1 k2 => h4 y (by omega) k2⟩
    apply Classical.byContradiction
    intro k
    exact no v h1 (by omega) h3
theorem tms_later {P : Int → Prop} {a c b : Int} (ac : a ≤ c) (no : ∀ y, a ≤ y → y < c → ¬ P y) : ∀ {n : Nat} {l : List Int}, Tms P b n a l → Tms P b n c l
  | 0, _, h => h
  | _ + 1, _, ⟨r, hr, h⟩ => ⟨r, least_later hr ac no, h⟩
theorem tms_take {P : Int → Prop} {b : Int} : ∀ {n : Nat} {a : Int} {l : List Int} (m : Nat), m ≤ n → Tms P b n a l → Tms P b m a (l.take m)
  | _, _, _, 0, _, _ => by simp [Tms]
  | 0, _, _, m + 1, h, _ => by omega
  | n + 1, a, l, m + 1, hm, ⟨r, hr, h⟩ => by
    cases r with
    | none =>
      obtain rfl : l = [] := h
      exact ⟨none, hr, by simp⟩
    | some t =>
      obtain ⟨l', rfl, h'⟩ := h
      exact ⟨some t, hr, l'.take m, by simp, tms_take m (by omega) h'⟩
/-- what is still to come -/
def Rem (K : Int → Prop) (b : Int) (F pre : List Int) (fr : Int) : Prop := ∃ n rest, F = pre ++ rest ∧ Tms K b n fr rest ∧ b - fr + 1 ≤ n
theorem rem_start {K : Int → Prop} {a b : Int} {n : Nat} {F : List Int} (h : Tms K b n a F) (hn : b - a + 1 ≤ n) : Rem K b F [] a := ⟨n, F, rfl, h, hn⟩
theorem rem_done {K : Int → Prop} {b fr : Int} {F pre : List Int} (h : Rem K b F pre fr) (no : ∀ y, fr ≤ y → y ≤ b → ¬ K y) : F = pre := by
  obtain ⟨n, rest, rfl, h, _⟩ := h
  rw [tms_none h no, List.append_nil]
theorem rem_skip {K : Int → Prop} {b fr fr' : Int} {F pre : List Int} (h : Rem K b F pre fr) (le : fr ≤ fr') (no : ∀ y, fr ≤ y → y < fr' → ¬ K y) : Rem K b F pre fr' := by
  obtain ⟨n, rest, rfl, h, hn⟩ := h
  exact ⟨n, rest, rfl, tms_later le no h, by omega⟩
theorem rem_hit {K : Int → Prop} {b fr t : Int} {F pre : List Int} (h : Rem K b F pre fr) (hl : Mat.Least K fr b (some t)) : Rem K b F (pre ++ [t]) (t + 1) ∧ pre.length < F.length ∧ (pre ++ [t]) <+: F := by
  obtain ⟨n, rest, rfl, h, hn⟩ := h
  have hl1 := hl.1
  have hl2 := hl.2.1
  cases n with
  | zero => omega
  | succ n =>
    obtain ⟨r, hr, h⟩ := h
    obtain rfl := hr.uniq hl
    obtain ⟨l', rfl, h'⟩ := h
    exact ⟨⟨n, l', by simp, h', by omega⟩, by simp, ⟨l', by simp⟩⟩
/-- no time from here on -/
theorem no_none {T : Int → Prop} {l : List (Int × Int)} {fr b : Int} (h : Mat.Least T fr 253402300799 none) (hb : b ≤ 253402300799) : ∀ y, fr ≤ y → y ≤ b → ¬ Kept T l y := fun y h1 h2 k => h y h1 (by omega) k.1
theorem no_far {T : Int → Prop} {l : List (Int × Int)} {fr b t : Int} (h : Mat.Least T fr 253402300799 (some t)) (hb : b < t) : ∀ y, fr ≤ y → y ≤ b → ¬ Kept T l y := fun y h1 h2 k => h.2.2.2 y h1 (by omega) k.1
theorem no_free {T : Int → Prop} {l : List (Int × Int)} {fr b t : Int} (h : Mat.Least T fr 253402300799 (some t)) (hb : b ≤ 253402300799) (f : ∀ u, t ≤ u → u ≤ 253402300799 → Bk.has l u) : ∀ y, fr ≤ y → y ≤ b → ¬ Kept T l y := fun y h1 h2 k => by
  by_cases q : y < t
  · exact h.2.2.2 y h1 q k.1
  · exact k.2 (f y (by omega) (by omega))
theorem no_until {T : Int → Prop} {l : List (Int × Int)} {fr t g : Int} (h : Mat.Least T fr 253402300799 (some t)) (f : ∀ u, t ≤ u → u < g → Bk.has l u) : ∀ y, fr ≤ y → y < g → ¬ Kept T l y := fun y h1 h2 k => by
  by_cases q : y < t
  · exact h.2.2.2 y h1 q k.1
  · exact k.2 (f y (by omega) h2)
theorem hit_at {T : Int → Prop} {l : List (Int × Int)} {fr b t : Int} (h : Mat.Least T fr 253402300799 (some t)) (hb : t ≤ b) (f : ¬ Bk.has l t) : Mat.Least (Kept T l) fr b (some t) := ⟨h.1, hb, ⟨h.2.2.1, f⟩, fun y h1 h2 k => h.2.2.2 y h1 h2 k.1⟩
/-- the first of all that come -/
theorem first_of {K : Int → Prop} {b : Int} {n : Nat} {a : Int} {F : List Int} (h : Tms K b n a F) (hn : b - a + 1 ≤ n) : Mat.Least K a b F.head? := by
  cases n with
  | zero =>
    obtain rfl : F = [] := h
    exact fun y h1 h2 => by omega
  | succ n =>
    obtain ⟨r, hr, h⟩ := h
    cases r with
    | none => obtain rfl : F = [] := h; exact hr
    | some t => obtain ⟨l', rfl, _⟩ := h; exact hr
/-- the first time from here on: this one, or the next -/
theorem least_here {T : Int → Prop} {t M : Int} (ht : t ≤ M) (h : T t) : Mat.Least T t M (some t) := ⟨Int.le_refl _, ht, h, fun y h1 h2 => by omega⟩
theorem least_next {T : Int → Prop} {t M : Int} {o : Option Int} (h : ¬ T t) (k : Mat.Least T (t + 1) M o) : Mat.Least T t M o := k.from (by omega) (fun y h1 h2 => by obtain rfl : y = t := (by omega); exact h)
theorem cnt_le (P : Int → Prop) (a : Int) : ∀ n : Nat, cntN P a n ≤ n
  | 0 => Nat.le_refl _
  | n + 1 => by
    have ih := cnt_le P a n
    by_cases h : P (a + n)
    · rw [cnt_yes h]; omega
    · rw [cnt_no h]; omega
theorem sumN_small {B : Int → Prop} {l : List (Int × Int)} (h : Bk.OkS l) (hl : l.length ≤ 400) (i : Nat) : sumN B (l.take i) ≤ 101360920320000 := by
  have key : ∀ m : List (Int × Int), Bk.OkS m → sumN B m ≤ m.length * 253402300800 := by
    intro m
    induction m with
    | nil => intro _; simp [sumN]
    | cons x r ih =>
      intro hm
      have hx := hm x List.mem_cons_self
      unfold Bk.okT at hx
      have ih' := ih (fun y hy => hm y (List.mem_cons_of_mem _ hy))
      have c := cnt_le B x.1 (x.2 - x.1 + 1).toNat
      simp only [sumN, List.length_cons]
      omega
  have k := key (l.take i) (fun y hy => h y (List.mem_of_mem_take hy))
  have : (l.take i).length ≤ 400 := by simp; omega
  have : (l.take i).length * 253402300800 ≤ 400 * 253402300800 := Nat.mul_le_mul_right _ this
  omega
end Go.Proofs.YtljackjcgfaanaaGreatDoor.Pl
/- Plans in memory; == of expressions, schedules and spans; slices.Equal; plan's Equal and the document's. -/
namespace Go.Proofs.YtljackjcgfaanaaGreatDoor
open Go.ChangeShapes Go.RowKit

def same8 (a0 a1 a2 a3 a4 a5 : Int) (b3 b5 : Bool) (c0 c1 c2 c3 c4 c5 : Int) (d3 d5 : Bool) : Bool :=
  a0 == c0 && (a1 == c1 && (a2 == c2 && (a3 == c3 && (a4 == c4 && (a5 == c5 && (b3 == d3 && b5 == d5))))))
theorem same8_iff (x y : Exp.Ex) : same8 x.a0 x.a1 x.a2 x.a3 x.a4 x.a5 x.b3 x.b5 y.a0 y.a1 y.a2 y.a3 y.a4 y.a5 y.b3 y.b5 = true ↔ x = y := by
  cases x; cases y; simp [same8, Int.natCast_inj]
set_option maxHeartbeats 2000000 in
@[go_sem high] theorem eqExpr (a0 a1 a2 a3 a4 a5 : Int) (b3 b5 : Bool) (c0 c1 c2 c3 c4 c5 : Int) (d3 d5 : Bool) (w : World) : (Op.equalIn 10000 24 (.agg #[.int .u64 a0, .int .u64 a1, .int .u64 a2, .int .u64 a3, .int .u64 a4, .int .u64 a5, .bool b3, .bool b5]) (.agg #[.int .u64 c0, .int .u64 c1, .int .u64 c2, .int .u64 c3, .int .u64 c4, .int .u64 c5, .bool d3, .bool d5])).run Tryz.prog w = .ok (same8 a0 a1 a2 a3 a4 a5 b3 b5 c0 c1 c2 c3 c4 c5 d3 d5) w := by
  have u1 := Tryz.underlying22
  have u2 := Tryz.underlying4
  have g1 := Tryz.isAgg22
  have g2 := Tryz.isAgg4
  have z1 := Tryz.sizeOf22
  have z2 := Tryz.sizeOf4
  have hS : Tryz.prog.underlying 24 = some (.struct (Tryz.prog.fieldsOf 24)) := by kernel_rfl
  have hp : Tryz.prog.stoodInHeld 24 = false := by kernel_rfl
  rw [show (10000 : Nat) = 9999 + 1 from rfl, run_equalIn_agg w 9999 24 _ _ hS hp]
  simp only [Program.fieldsOf, Tryz.underlying24]
  go_simp
  by_cases h0 : a0 = c0 <;> by_cases h1 : a1 = c1 <;> by_cases h2 : a2 = c2 <;> by_cases h3 : a3 = c3 <;> by_cases h4 : a4 = c4 <;> by_cases h5 : a5 = c5 <;> cases b3 <;> cases d3 <;> cases b5 <;> cases d5 <;> simp [h0, h1, h2, h3, h4, h5, same8]
def pSame3 (s p c s' p' c' : Int) : Bool := s == s' && (p == p' && c == c')
theorem pSame3_iff (s p c s' p' c' : Int) : pSame3 s p c s' p' c' = true ↔ s = s' ∧ p = p' ∧ c = c' := by simp [pSame3]
@[go_sem high] theorem eqEvery (s p c s' p' c' : Int) (w : World) : (Op.equalIn 10000 26 (.agg #[.int .i64 s, .int .i64 p, .int .i64 c]) (.agg #[.int .i64 s', .int .i64 p', .int .i64 c'])).run Tryz.prog w = .ok (pSame3 s p c s' p' c') w := by
  have u1 := Tryz.underlying2
  have u2 := Tryz.underlying3
  have g1 := Tryz.isAgg2
  have g2 := Tryz.isAgg3
  have z1 := Tryz.sizeOf2
  have z2 := Tryz.sizeOf3
  have hS : Tryz.prog.underlying 26 = some (.struct (Tryz.prog.fieldsOf 26)) := by kernel_rfl
  have hp : Tryz.prog.stoodInHeld 26 = false := by kernel_rfl
  rw [show (10000 : Nat) = 9999 + 1 from rfl, run_equalIn_agg w 9999 26 _ _ hS hp]
  simp only [Program.fieldsOf, Tryz.underlying26]
  go_simp
  by_cases h0 : s = s' <;> by_cases h1 : p = p' <;> by_cases h2 : c = c' <;> simp [h0, h1, h2, pSame3]
def pSame2 (s p s' p' : Int) : Bool := s == s' && p == p'
theorem pSame2_iff (x y : Int × Int) : pSame2 x.1 x.2 y.1 y.2 = true ↔ x = y := by
  obtain ⟨a, b⟩ := x
  obtain ⟨c, d⟩ := y
  simp [pSame2]
@[go_sem high] theorem eqSpan (s p s' p' : Int) (w : World) : (Op.equalIn 10000 48 (.agg #[.int .i64 s, .int .i64 p]) (.agg #[.int .i64 s', .int .i64 p'])).run Tryz.prog w = .ok (pSame2 s p s' p') w := by
  have u1 := Tryz.underlying2
  have g1 := Tryz.isAgg2
  have z1 := Tryz.sizeOf2
  have hS : Tryz.prog.underlying 48 = some (.struct (Tryz.prog.fieldsOf 48)) := by kernel_rfl
  have hp : Tryz.prog.stoodInHeld 48 = false := by kernel_rfl
  rw [show (10000 : Nat) = 9999 + 1 from rfl, run_equalIn_agg w 9999 48 _ _ hS hp]
  simp only [Program.fieldsOf, Tryz.underlying48]
  go_simp
  by_cases h0 : s = s' <;> by_cases h1 : p = p' <;> simp [h0, h1, pSame2]

theorem take_snoc2 {l : List (Int × Int)} {k : Nat} (h : k < l.length) : l.take (k + 1) = l.take k ++ [l.getD k (0, 0)] := by
  rw [List.take_add_one]
  simp [h]
set_option maxRecDepth 100000 in
set_option maxHeartbeats 4000000 in
theorem eqS_any (v u : Value) (l m : List (Int × Int)) (r : Bool) (hr : decide (l = m) = r) (w : World) (h : Bo.RowS w v l) (h' : Bo.RowS w u m) :
    Calls Tryz.prog 50 #[v, u] w fun e w' => e = .returned (.bool r) ∧ Below w.heap.size w w' := by
  have LL := h.1
  have C1 := Lib.hid h
  have C2 := Lib.hid h'
  obtain ⟨A, cap, rfl⟩ := h.len
  obtain ⟨B, cap', rfl⟩ := h'.len
  clear h h'
  by_cases he : l.length = m.length
  · have t1 : ((l.length : Int) != (m.length : Int)) = false := by simp [he]
    have HE := Lib.hid he
    have HR := Lib.hid hr
    rw [← he] at t1 C2 ⊢
    clear hr he
    go_enter Tryz.func50, Tryz.ntmps50
    go_wp2_with fail
    go_loopw [13] (fun iv wr => ∃ k : Nat, k ≤ l.length ∧ iv = .int .i64 k ∧ Hid (l.take k = m.take k) ∧ ∃ n, wr = w.drewN n) (fun iv _ => l.length - (intOf iv).toNat)
    case atStart => exact ⟨0, by omega, rfl, Lib.hid rfl, 0, rfl⟩
    case round =>
      obtain ⟨k, hk, rfl, hs, n, rfl⟩ := hrel
      by_cases lt : k < l.length
      · have e0 : decide ((k : Int) < (l.length : Int)) = true := by rw [decide_eq_true_iff]; omega
        have wi : IntKind.i64.wrap ((k : Int) + 1) = (k : Int) + 1 := by rw [IntKind.wrap_i64]; omega
        obtain ⟨b, o, rfl, c1, c2⟩ := C1.out.at lt
        obtain ⟨b', o', rfl, c3, c4⟩ := C2.out.at (j := k) (l := m) (by have := HE.out; omega)
        have S1 := Lib.hid (take_snoc2 lt)
        have S2 := Lib.hid (take_snoc2 (l := m) (k := k) (by have := HE.out; omega))
        obtain ⟨x, hx⟩ : ∃ x, l.getD k (0, 0) = x := ⟨_, rfl⟩
        obtain ⟨y, hy⟩ : ∃ y, m.getD k (0, 0) = y := ⟨_, rfl⟩
        rw [hx] at c1 c2 S1
        rw [hy] at c3 c4 S2
        by_cases eq : x = y
        · subst eq
          have q := (pSame2_iff x x).2 rfl
          have HT : Hid (l.take (k + 1) = m.take (k + 1)) := Lib.hid (by rw [S1.out, S2.out, hs.out])
          obtain ⟨x1, x2⟩ := x
          simp only at c1 c2 c3 c4 q
          clear hx hy
          go_wp2_with fail
          go_quiet (fail)
          go_wp2_with fail
          go_roundw
          case rel => exact ⟨k + 1, by omega, by go_num, HT, _, rfl⟩
          case measure => simp [intOf]; omega
        · have q : pSame2 x.1 x.2 y.1 y.2 = false := by rw [Bool.eq_false_iff]; exact fun z => eq ((pSame2_iff x y).1 z)
          have NO : Hid (r = false) := Lib.hid (by
            rw [← HR.out, decide_eq_false_iff_not]
            rintro rfl
            exact eq (hx.symm.trans hy))
          obtain ⟨x1, x2⟩ := x
          obtain ⟨y1, y2⟩ := y
          simp only at c1 c2 c3 c4 q
          clear hx hy eq
          go_wp2_with fail
          go_quiet (fail)
          go_wp2_with fail
          go_ret
          exact ⟨Bo.ret_bool NO.out.symm, Bo.below_drewN (Bo.below_drewN (Below.refl _ _) _) _⟩
      · have e0 : decide ((k : Int) < (l.length : Int)) = false := by rw [decide_eq_false_iff_not]; omega
        obtain rfl : k = l.length := by omega
        have YES : Hid (r = true) := Lib.hid (by
          have e := hs.out
          have q := HE.out
          rw [List.take_length, q, List.take_length] at e
          rw [← HR.out, decide_eq_true_iff]
          exact e)
        clear lt hk
        go_wp2_with fail
        go_ret
        exact ⟨Bo.ret_bool YES.out.symm, Bo.below_drewN (Below.refl _ _) _⟩
  · have t1 : ((l.length : Int) != (m.length : Int)) = true := by rw [bne_iff_ne]; omega
    have NO : Hid (r = false) := Lib.hid (by
      rw [← hr, decide_eq_false_iff_not]
      rintro rfl
      exact he rfl)
    generalize l.length = n1 at t1 LL
    generalize m.length = n2 at t1
    clear he hr
    go_enter Tryz.func50, Tryz.ntmps50
    go_wp2_with fail
    go_ret
    exact ⟨Bo.ret_bool NO.out.symm, Below.refl _ _⟩

/-! plans in memory -/
/-- the plan whose slice is v -/
def plL (q : Pl.P) (v : Value) : List Value := [.int .i64 q.k, .int .u64 q.x.a0, .int .u64 q.x.a1, .int .u64 q.x.a2, .int .u64 q.x.a3, .int .u64 q.x.a4, .int .u64 q.x.a5, .bool q.x.b3, .bool q.x.b5, .int .i64 q.z, .int .i64 q.s, .int .i64 q.p, .int .i64 q.c, v]
theorem plRow {W : World} {B : Nat} {q : Pl.P} {v : Value} (h : Row W B 29 (plL q v)) : W.cell? ⟨B, 0, none⟩ = some (.int .i64 q.k) ∧ W.cell? ⟨B, 1, none⟩ = some (.int .u64 q.x.a0) ∧ W.cell? ⟨B, 2, none⟩ = some (.int .u64 q.x.a1) ∧ W.cell? ⟨B, 3, none⟩ = some (.int .u64 q.x.a2) ∧ W.cell? ⟨B, 4, none⟩ = some (.int .u64 q.x.a3) ∧ W.cell? ⟨B, 5, none⟩ = some (.int .u64 q.x.a4) ∧ W.cell? ⟨B, 6, none⟩ = some (.int .u64 q.x.a5) ∧ W.cell? ⟨B, 7, none⟩ = some (.bool q.x.b3) ∧ W.cell? ⟨B, 8, none⟩ = some (.bool q.x.b5) ∧ W.cell? ⟨B, 9, none⟩ = some (.int .i64 q.z) ∧ W.cell? ⟨B, 10, none⟩ = some (.int .i64 q.s) ∧ W.cell? ⟨B, 11, none⟩ = some (.int .i64 q.p) ∧ W.cell? ⟨B, 12, none⟩ = some (.int .i64 q.c) ∧ W.cell? ⟨B, 13, none⟩ = some (v) :=
  ⟨h.cell 0, h.cell 1, h.cell 2, h.cell 3, h.cell 4, h.cell 5, h.cell 6, h.cell 7, h.cell 8, h.cell 9, h.cell 10, h.cell 11, h.cell 12, h.cell 13⟩
theorem P_eq {a b : Pl.P} : a = b ↔ a.k = b.k ∧ a.x = b.x ∧ a.z = b.z ∧ (a.s = b.s ∧ a.p = b.p ∧ a.c = b.c) ∧ a.l = b.l := by
  exact ⟨by rintro rfl; simp, fun ⟨h1, h2, h3, ⟨h4, h5, h6⟩, h7⟩ => by cases a; cases b; simp_all⟩
end Go.Proofs.YtljackjcgfaanaaGreatDoor
/- plan's Equal and the document's: whether two plans in memory are the same. -/
namespace Go.Proofs.YtljackjcgfaanaaGreatDoor
open Go.ChangeShapes Go.RowKit

theorem new2 (w : World) (a b : List Value) (ta tb : TypeId) : Below w.heap.size w ((w.alloc (.cells a.toArray ta)).alloc (.cells b.toArray tb)) ∧ Row ((w.alloc (.cells a.toArray ta)).alloc (.cells b.toArray tb)) w.heap.size ta a ∧ Row ((w.alloc (.cells a.toArray ta)).alloc (.cells b.toArray tb)) (w.heap.size + 1) tb b := by
  refine ⟨((Below.refl _ w).alloc (Nat.le_refl _) _).alloc (by simp) _, (Row.new w a ta).alloc _, ?_⟩
  have := Row.new (w.alloc (.cells a.toArray ta)) b tb
  rwa [World.size_alloc] at this
/-- which parts of two plans are the same -/
theorem parts (a b : Pl.P) : ((a.k == b.k) = false ∧ a ≠ b) ∨ ((a.k == b.k) = true ∧ same8 a.x.a0 a.x.a1 a.x.a2 a.x.a3 a.x.a4 a.x.a5 a.x.b3 a.x.b5 b.x.a0 b.x.a1 b.x.a2 b.x.a3 b.x.a4 b.x.a5 b.x.b3 b.x.b5 = false ∧ a ≠ b) ∨ ((a.k == b.k) = true ∧ same8 a.x.a0 a.x.a1 a.x.a2 a.x.a3 a.x.a4 a.x.a5 a.x.b3 a.x.b5 b.x.a0 b.x.a1 b.x.a2 b.x.a3 b.x.a4 b.x.a5 b.x.b3 b.x.b5 = true ∧ (a.z == b.z) = false ∧ a ≠ b) ∨ ((a.k == b.k) = true ∧ same8 a.x.a0 a.x.a1 a.x.a2 a.x.a3 a.x.a4 a.x.a5 a.x.b3 a.x.b5 b.x.a0 b.x.a1 b.x.a2 b.x.a3 b.x.a4 b.x.a5 b.x.b3 b.x.b5 = true ∧ (a.z == b.z) = true ∧ pSame3 a.s a.p a.c b.s b.p b.c = false ∧ a ≠ b) ∨ ((a.k == b.k) = true ∧ same8 a.x.a0 a.x.a1 a.x.a2 a.x.a3 a.x.a4 a.x.a5 a.x.b3 a.x.b5 b.x.a0 b.x.a1 b.x.a2 b.x.a3 b.x.a4 b.x.a5 b.x.b3 b.x.b5 = true ∧ (a.z == b.z) = true ∧ pSame3 a.s a.p a.c b.s b.p b.c = true ∧ (a = b ↔ a.l = b.l)) := by
  by_cases h1 : a.k = b.k
  · by_cases h2 : a.x = b.x
    · by_cases h3 : a.z = b.z
      · by_cases h4 : a.s = b.s ∧ a.p = b.p ∧ a.c = b.c
        · exact .inr (.inr (.inr (.inr ⟨by simpa using h1, (same8_iff _ _).2 h2, by simpa using h3, (pSame3_iff _ _ _ _ _ _).2 h4, by rw [P_eq]; exact ⟨fun h => h.2.2.2.2, fun h => ⟨h1, h2, h3, h4, h⟩⟩⟩)))
        · exact .inr (.inr (.inr (.inl ⟨by simpa using h1, (same8_iff _ _).2 h2, by simpa using h3, by rw [Bool.eq_false_iff]; exact fun q => h4 ((pSame3_iff _ _ _ _ _ _).1 q), fun e => h4 (P_eq.1 e).2.2.2.1⟩)))
      · exact .inr (.inr (.inl ⟨by simpa using h1, (same8_iff _ _).2 h2, by simpa using h3, fun e => h3 (P_eq.1 e).2.2.1⟩))
    · exact .inr (.inl ⟨by simpa using h1, by rw [Bool.eq_false_iff]; exact fun q => h2 ((same8_iff _ _).1 q), fun e => h2 (P_eq.1 e).2.1⟩)
  · exact .inl ⟨by simpa using h1, fun e => h1 (P_eq.1 e).1⟩
theorem r_no {P : Prop} {r : Bool} (h : r = true ↔ P) (n : ¬ P) : r = false := by cases r; rfl; exact absurd (h.1 rfl) n
set_option maxRecDepth 100000 in
set_option maxHeartbeats 8000000 in
theorem peq_any (a b : Pl.P) (va vb : Value) (r : Bool) (hr : r = true ↔ a = b) (w : World) (ha : Bo.RowS w va a.l) (hb : Bo.RowS w vb b.l) :
    Calls Tryz.prog 28 #[.agg #[.int .i64 a.k, .int .u64 a.x.a0, .int .u64 a.x.a1, .int .u64 a.x.a2, .int .u64 a.x.a3, .int .u64 a.x.a4, .int .u64 a.x.a5, .bool a.x.b3, .bool a.x.b5, .int .i64 a.z, .int .i64 a.s, .int .i64 a.p, .int .i64 a.c, va], .agg #[.int .i64 b.k, .int .u64 b.x.a0, .int .u64 b.x.a1, .int .u64 b.x.a2, .int .u64 b.x.a3, .int .u64 b.x.a4, .int .u64 b.x.a5, .bool b.x.b3, .bool b.x.b5, .int .i64 b.z, .int .i64 b.s, .int .i64 b.p, .int .i64 b.c, vb]] w fun e w' => e = .returned (.bool r) ∧ Below w.heap.size w w' := by
  obtain ⟨B0, R1, R2⟩ := new2 w (plL a va) (plL b vb) 29 29
  have HA := Lib.hid (ha.below (B0.trans (Below.refl _ _)))
  have HB := Lib.hid (hb.below (B0.trans (Below.refl _ _)))
  have HB0 := Lib.hid B0
  simp only [plL] at HA HB HB0
  clear ha hb B0 R1 R2
  rcases parts a b with ⟨t1, n⟩ | ⟨t1, t2, n⟩ | ⟨t1, t2, t3, n⟩ | ⟨t1, t2, t3, t4, n⟩ | ⟨t1, t2, t3, t4, n⟩
  · have NO := Lib.hid (r_no hr n)
    clear hr n HA HB
    go_enter Tryz.func28, Tryz.ntmps28
    go_wp2_with fail
    go_ret
    exact ⟨Bo.ret_bool NO.out.symm, HB0.out⟩
  · have NO := Lib.hid (r_no hr n)
    clear hr n HA HB
    go_enter Tryz.func28, Tryz.ntmps28
    go_wp2_with fail
    go_ret
    exact ⟨Bo.ret_bool NO.out.symm, HB0.out⟩
  · have NO := Lib.hid (r_no hr n)
    clear hr n HA HB
    go_enter Tryz.func28, Tryz.ntmps28
    go_wp2_with fail
    go_ret
    exact ⟨Bo.ret_bool NO.out.symm, HB0.out⟩
  · have NO := Lib.hid (r_no hr n)
    clear hr n HA HB
    go_enter Tryz.func28, Tryz.ntmps28
    go_wp2_with fail
    go_ret
    exact ⟨Bo.ret_bool NO.out.symm, HB0.out⟩
  · have HR := Lib.hid (show decide (a.l = b.l) = r from by cases r with | true => exact decide_eq_true (n.1 (hr.1 rfl)) | false => exact decide_eq_false fun h => by cases hr.2 (n.2 h))
    have EQ := Lib.hid (eqS_any va vb a.l b.l r HR.out _ HA.out HB.out)
    clear hr n HA HB HR
    go_enter Tryz.func28, Tryz.ntmps28
    go_wp2_with fail
    refine (EQ.out).mono ?_
    rintro e w1 ⟨rfl, hb1⟩
    go_wp2_with fail
    go_ret
    exact ⟨rfl, HB0.out.trans (hb1.mono HB0.out.size)⟩
theorem beq_neq {a b : Int} (h : (a == b) = true) : (a != b) = false := by simp only [bne, h, Bool.not_true]
theorem beq_neq' {a b : Int} (h : (a == b) = false) : (a != b) = true := by simp only [bne, h, Bool.not_false]
set_option maxRecDepth 100000 in
set_option maxHeartbeats 8000000 in
theorem rpeq_any (a b : Pl.P) (va vb : Value) (r : Bool) (hr : r = true ↔ a = b) (w : World) (ha : Bo.RowS w va a.l) (hb : Bo.RowS w vb b.l) :
    Calls Tryz.prog 21 #[.agg #[.int .i64 a.k, .int .u64 a.x.a0, .int .u64 a.x.a1, .int .u64 a.x.a2, .int .u64 a.x.a3, .int .u64 a.x.a4, .int .u64 a.x.a5, .bool a.x.b3, .bool a.x.b5, .int .i64 a.z, .int .i64 a.s, .int .i64 a.p, .int .i64 a.c, va], .agg #[.int .i64 b.k, .int .u64 b.x.a0, .int .u64 b.x.a1, .int .u64 b.x.a2, .int .u64 b.x.a3, .int .u64 b.x.a4, .int .u64 b.x.a5, .bool b.x.b3, .bool b.x.b5, .int .i64 b.z, .int .i64 b.s, .int .i64 b.p, .int .i64 b.c, vb]] w fun e w' => e = .returned (.bool r) ∧ Below w.heap.size w w' := by
  obtain ⟨B0, R1, R2⟩ := new2 w (plL a va) (plL b vb) 29 29
  have HA := Lib.hid (ha.below (B0.trans (Below.refl _ _)))
  have HB := Lib.hid (hb.below (B0.trans (Below.refl _ _)))
  have HB0 := Lib.hid B0
  have LL := ha.1
  have C1 := Lib.hid (R1.cell 13)
  have C2 := Lib.hid (R2.cell 13)
  simp only [plL] at HA HB HB0 C1 C2
  obtain ⟨A1, c1, rfl⟩ := ha.len
  obtain ⟨A2, c2, rfl⟩ := hb.len
  clear ha hb B0 R1 R2
  rcases parts a b with ⟨t1, n⟩ | ⟨t1, t2, n⟩ | ⟨t1, t2, t3, n⟩ | ⟨t1, t2, t3, t4, n⟩ | ⟨t1, t2, t3, t4, n⟩
  · have NO := Lib.hid (r_no hr n)
    have t1' := beq_neq' t1
    clear hr n HA HB C1 C2
    go_enter Tryz.func21, Tryz.ntmps21
    go_wp2_with fail
    go_ret
    exact ⟨Bo.ret_bool NO.out.symm, HB0.out⟩
  · have NO := Lib.hid (r_no hr n)
    have t1' := beq_neq t1
    clear hr n HA HB C1 C2
    go_enter Tryz.func21, Tryz.ntmps21
    go_wp2_with fail
    go_ret
    exact ⟨Bo.ret_bool NO.out.symm, HB0.out⟩
  · have NO := Lib.hid (r_no hr n)
    have t1' := beq_neq t1
    have t3' := beq_neq' t3
    clear hr n HA HB C1 C2
    go_enter Tryz.func21, Tryz.ntmps21
    go_wp2_with fail
    go_ret
    exact ⟨Bo.ret_bool NO.out.symm, HB0.out⟩
  · have NO := Lib.hid (r_no hr n)
    have t1' := beq_neq t1
    have t3' := beq_neq t3
    clear hr n HA HB C1 C2
    go_enter Tryz.func21, Tryz.ntmps21
    go_wp2_with fail
    go_ret
    exact ⟨Bo.ret_bool NO.out.symm, HB0.out⟩
  · have t1' := beq_neq t1
    have t3' := beq_neq t3
    have HR := Lib.hid (show r = true ↔ a.l = b.l from hr.trans n)
    clear hr n
    obtain ⟨W0, hW0⟩ : ∃ W0, ((w.alloc (.cells #[.int .i64 a.k, .int .u64 a.x.a0, .int .u64 a.x.a1, .int .u64 a.x.a2, .int .u64 a.x.a3, .int .u64 a.x.a4, .int .u64 a.x.a5, .bool a.x.b3, .bool a.x.b5, .int .i64 a.z, .int .i64 a.s, .int .i64 a.p, .int .i64 a.c, (.slice A1 a.l.length c1)] 29)).alloc (.cells #[.int .i64 b.k, .int .u64 b.x.a0, .int .u64 b.x.a1, .int .u64 b.x.a2, .int .u64 b.x.a3, .int .u64 b.x.a4, .int .u64 b.x.a5, .bool b.x.b3, .bool b.x.b5, .int .i64 b.z, .int .i64 b.s, .int .i64 b.p, .int .i64 b.c, (.slice A2 b.l.length c2)] 29)) = W0 := ⟨_, rfl⟩
    by_cases he : a.l.length = b.l.length
    · have t5 : ((a.l.length : Int) != (b.l.length : Int)) = false := by simp [he]
      have HE := Lib.hid he
      rw [hW0] at HA HB HB0 C1 C2
      rw [← he] at t5 HB C2 hW0 ⊢
      have HW0 := Lib.hid hW0
      clear he hW0
      go_enter Tryz.func21, Tryz.ntmps21
      go_wp2_with fail
      simp only [HW0.out]
      have c13 := C1.out
      have d13 := C2.out
      go_loopw [5] (fun iv wr => ∃ k : Nat, k ≤ a.l.length ∧ iv = .int .i64 k ∧ Hid (a.l.take k = b.l.take k) ∧ ∃ n, wr = W0.drewN n) (fun iv _ => a.l.length - (intOf iv).toNat)
      case atStart => exact ⟨0, by omega, rfl, Lib.hid rfl, 0, rfl⟩
      case round =>
        obtain ⟨k, hk, rfl, hs, n, rfl⟩ := hrel
        by_cases lt : k < a.l.length
        · have e0 : decide ((k : Int) < (a.l.length : Int)) = true := by rw [decide_eq_true_iff]; omega
          have wi : IntKind.i64.wrap ((k : Int) + 1) = (k : Int) + 1 := by rw [IntKind.wrap_i64]; omega
          obtain ⟨b0, o, rfl, c1, c2⟩ := HA.out.at lt
          obtain ⟨b1, o', rfl, c3, c4⟩ := HB.out.at (j := k) (l := b.l) (by have := HE.out; omega)
          have S1 := Lib.hid (take_snoc2 lt)
          have S2 := Lib.hid (take_snoc2 (l := b.l) (k := k) (by have := HE.out; omega))
          obtain ⟨x, hx⟩ : ∃ x, a.l.getD k (0, 0) = x := ⟨_, rfl⟩
          obtain ⟨y, hy⟩ : ∃ y, b.l.getD k (0, 0) = y := ⟨_, rfl⟩
          rw [hx] at c1 c2 S1
          rw [hy] at c3 c4 S2
          by_cases eq : x = y
          · subst eq
            have q := (pSame2_iff x x).2 rfl
            have HT : Hid (a.l.take (k + 1) = b.l.take (k + 1)) := Lib.hid (by rw [S1.out, S2.out, hs.out])
            obtain ⟨x1, x2⟩ := x
            simp only at c1 c2 c3 c4 q
            clear hx hy
            go_wp2_with fail
            go_quiet (fail)
            go_wp2_with fail
            go_roundw
            case rel => exact ⟨k + 1, by omega, by go_num, HT, _, rfl⟩
            case measure => simp [intOf]; omega
          · have q : pSame2 x.1 x.2 y.1 y.2 = false := by rw [Bool.eq_false_iff]; exact fun z => eq ((pSame2_iff x y).1 z)
            have NO : Hid (r = false) := Lib.hid (r_no HR.out (fun e => eq (by rw [← hx, ← hy, e])))
            obtain ⟨x1, x2⟩ := x
            obtain ⟨y1, y2⟩ := y
            simp only at c1 c2 c3 c4 q
            clear hx hy eq
            go_wp2_with fail
            go_quiet (fail)
            go_wp2_with fail
            go_ret
            exact ⟨Bo.ret_bool NO.out.symm, Bo.below_drewN (Bo.below_drewN HB0.out _) _⟩
        · have e0 : decide ((k : Int) < (a.l.length : Int)) = false := by rw [decide_eq_false_iff_not]; omega
          obtain rfl : k = a.l.length := by omega
          have YES : Hid (r = true) := Lib.hid (HR.out.2 (by
            have e := hs.out
            have q := HE.out
            rwa [List.take_length, q, List.take_length] at e))
          clear lt hk
          go_wp2_with fail
          go_ret
          exact ⟨Bo.ret_bool YES.out.symm, Bo.below_drewN HB0.out _⟩
    · have t5 : ((a.l.length : Int) != (b.l.length : Int)) = true := by rw [bne_iff_ne]; omega
      have NO : Hid (r = false) := Lib.hid (r_no HR.out (fun e => he (by rw [e])))
      clear he hW0 HA HB HR C1 C2
      go_enter Tryz.func21, Tryz.ntmps21
      go_wp2_with fail
      go_ret
      exact ⟨Bo.ret_bool NO.out.symm, HB0.out⟩
end Go.Proofs.YtljackjcgfaanaaGreatDoor
