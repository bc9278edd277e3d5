/- Plain facts on the count of a span, day by day. -/
import Derived.Test.YtbehendogcghjaaDoorMatRl
namespace Go.Proofs.YtbehendogcghjaaDoor
open Go.ChangeShapes Go.RowKit Go.Shelf

theorem cnt_head_yes {P : Int → Prop} {a b : Int} {n : Nat} (h : P a) (e : a + 1 = b) : cntN P a (n + 1) = cntN P b n + 1 := by
  have q := cnt_add P a 1 n
  rw [show (1 : Nat) + n = n + 1 by omega] at q
  have o : cntN P a 1 = 1 := by
    have := cnt_yes (P := P) (a := a) (n := 0) (by simpa using h)
    simpa [cntN] using this
  rw [q, o, show a + ((1 : Nat) : Int) = b by omega]
  omega
theorem cnt_head_no {P : Int → Prop} {a b : Int} {n : Nat} (h : ¬ P a) (e : a + 1 = b) : cntN P a (n + 1) = cntN P b n := by
  have q := cnt_add P a 1 n
  rw [show (1 : Nat) + n = n + 1 by omega] at q
  have o : cntN P a 1 = 0 := by
    have := cnt_no (P := P) (a := a) (n := 0) (by simpa using h)
    simpa [cntN] using this
  rw [q, o, show a + ((1 : Nat) : Int) = b by omega]
  omega
/-- how many of a span lie ahead of a day -/
noncomputable def upTo (x : Exp.Ex) (lo hi n : Int) : Nat := cntN x.Lm lo (min (86400 * n) (hi + 1) - lo).toNat
theorem upTo_first (x : Exp.Ex) {lo hi n : Int} (h : lo / 86400 = n) : upTo x lo hi n = 0 := by
  unfold upTo
  rw [show (min (86400 * n) (hi + 1) - lo).toNat = 0 by omega]
  rfl
theorem upTo_last (x : Exp.Ex) {lo hi n : Int} (h : hi < 86400 * n) : upTo x lo hi n = cntN x.Lm lo (hi - lo + 1).toNat := by
  unfold upTo
  rw [show (min (86400 * n) (hi + 1) - lo).toNat = (hi - lo + 1).toNat by omega]
theorem upTo_le (x : Exp.Ex) {lo hi n : Int} (h0 : 0 ≤ lo) (h1 : hi ≤ 253402300799) : upTo x lo hi n ≤ 253402300800 := by
  have := cnt_le x.Lm lo (min (86400 * n) (hi + 1) - lo).toNat
  unfold upTo
  omega
theorem upTo_no {x : Exp.Ex} {lo hi n : Int} (hl : lo ≤ hi) (hn : lo / 86400 ≤ n) (h1 : 86400 * n ≤ hi) (on : ¬ x.On n) : upTo x lo hi (n + 1) = upTo x lo hi n := by
  unfold upTo
  obtain ⟨P, hP⟩ : ∃ P, (min (86400 * n) (hi + 1) - lo).toNat = P := ⟨_, rfl⟩
  obtain ⟨R, hR⟩ : ∃ R, (min (86400 * (n + 1)) (hi + 1) - lo).toNat = P + R := ⟨(min (86400 * (n + 1)) (hi + 1) - lo).toNat - P, by omega⟩
  rw [hP, hR, cnt_add, cnt_zero (a := lo + (P : Int)), Nat.add_zero]
  intro k hk q
  have e : (lo + (P : Int) + (k : Nat)) / 86400 = n := by omega
  have := (lm_iff.1 q).1
  rw [e] at this
  exact on this
theorem upTo_yes {x : Exp.Ex} {lo hi n : Int} {p q : Nat} (hl : lo ≤ hi) (hn : lo / 86400 ≤ n) (h1 : 86400 * n ≤ hi) (hp : (p : Int) = max 0 (lo - 86400 * n)) (hq : (q : Int) = min 86400 (hi + 1 - 86400 * n)) (on : x.On n) :
    upTo x lo hi (n + 1) + cntN x.ck 0 p + cntN x.ck (q : Int) (86400 - q) = upTo x lo hi n + cntN x.ck 0 86400 := by
  have a := cnt_add x.ck 0 p (q - p)
  have b := cnt_add x.ck 0 q (86400 - q)
  rw [show p + (q - p) = q by omega, Int.zero_add] at a
  rw [show q + (86400 - q) = 86400 by omega, Int.zero_add] at b
  obtain ⟨P, hP⟩ : ∃ P, (min (86400 * n) (hi + 1) - lo).toNat = P := ⟨_, rfl⟩
  have hR : (min (86400 * (n + 1)) (hi + 1) - lo).toNat = P + (q - p) := by omega
  have d := cnt_add x.Lm lo P (q - p)
  have c : cntN x.Lm (lo + (P : Nat)) (q - p) = cntN x.ck (p : Int) (q - p) := cnt_congr fun k hk => by
    have e1 : (lo + (P : Nat) + (k : Nat)) / 86400 = n := by omega
    have e2 : (lo + (P : Nat) + (k : Nat)) % 86400 = (p : Int) + (k : Nat) := by omega
    rw [lm_iff, e1, e2]
    exact ⟨fun h => h.2, fun h => ⟨on, h⟩⟩
  unfold upTo
  rw [hP, hR]
  omega
end Go.Proofs.YtbehendogcghjaaDoor
