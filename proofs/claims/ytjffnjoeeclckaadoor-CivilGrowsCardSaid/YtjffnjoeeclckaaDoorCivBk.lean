/- Texts and civil times: the text of a valid civil time is read as its numbers; a text that is read as a valid civil time is its text. -/
import Derived.Test.YtjffnjoeeclckaaDoorCivText
import Derived.Test.YtjffnjoeeclckaaDoorCivParse
namespace Go.Proofs.YtjffnjoeeclckaaDoor
open Go.RowKit

theorem bytes19 (s : ByteArray) (h : s.size = 19) : ∃ b0 b1 b2 b3 b4 b5 b6 b7 b8 b9 b10 b11 b12 b13 b14 b15 b16 b17 b18 : UInt8, s = ⟨#[b0, b1, b2, b3, b4, b5, b6, b7, b8, b9, b10, b11, b12, b13, b14, b15, b16, b17, b18]⟩ := by
  obtain ⟨⟨l⟩⟩ := s
  have h' : l.length = 19 := h
  match l, h' with
  | [b0, b1, b2, b3, b4, b5, b6, b7, b8, b9, b10, b11, b12, b13, b14, b15, b16, b17, b18], _ => exact ⟨b0, b1, b2, b3, b4, b5, b6, b7, b8, b9, b10, b11, b12, b13, b14, b15, b16, b17, b18, rfl⟩
theorem good_sign {s : ByteArray} {k : Nat} (h : Good s k) (hp : pt k ≠ 48) (hk : k < s.size) : (s[k]'hk).toNat = pt k := by
  obtain ⟨_, g⟩ := h
  rw [if_neg hp] at g
  exact g
theorem numS_2 (s : ByteArray) (a b : UInt8) (h : s.data.toList = [a, b]) : numS s = 10 * ((a.toNat : Int) - 48) + ((b.toNat : Int) - 48) := by
  unfold numS numL; rw [h]; simp
theorem numS_4 (s : ByteArray) (a b c d : UInt8) (h : s.data.toList = [a, b, c, d]) : numS s = 10 * (10 * (10 * ((a.toNat : Int) - 48) + ((b.toNat : Int) - 48)) + ((c.toNat : Int) - 48)) + ((d.toNat : Int) - 48) := by
  unfold numS numL; rw [h]; simp

theorem byte_of {n : Int} (h0 : 0 ≤ n) (h1 : n < 256) : ((UInt8.ofNat n.toNat).toNat : Int) = n := by
  rw [UInt8.toNat_ofNat_of_lt' (show n.toNat < UInt8.size by rw [show UInt8.size = 256 from rfl]; omega)]
  omega
theorem of_byte {b : UInt8} {n : Int} (h : (b.toNat : Int) = n) : UInt8.ofNat n.toNat = b := by
  have : n.toNat = b.toNat := by omega
  rw [this]; simp

/-- a text that says a valid civil time is the text of this civil time -/
theorem text_back (s : ByteArray) (hs : s.size = 19) (hg : ∀ k, k < 19 → Good s k) :
    strOfNums (txt (fld s 0 4) (fld s 5 7) (fld s 8 10) (fld s 11 13) (fld s 14 16) (fld s 17 19)) = s := by
  obtain ⟨b0, b1, b2, b3, b4, b5, b6, b7, b8, b9, b10, b11, b12, b13, b14, b15, b16, b17, b18, rfl⟩ := bytes19 s hs
  have g0 : 48 ≤ b0.toNat ∧ b0.toNat ≤ 57 := good_dig (hg 0 (by decide)) rfl (show 0 < 19 by decide)
  have g1 : 48 ≤ b1.toNat ∧ b1.toNat ≤ 57 := good_dig (hg 1 (by decide)) rfl (show 1 < 19 by decide)
  have g2 : 48 ≤ b2.toNat ∧ b2.toNat ≤ 57 := good_dig (hg 2 (by decide)) rfl (show 2 < 19 by decide)
  have g3 : 48 ≤ b3.toNat ∧ b3.toNat ≤ 57 := good_dig (hg 3 (by decide)) rfl (show 3 < 19 by decide)
  have g4 : b4.toNat = 45 := good_sign (hg 4 (by decide)) (by decide) (show 4 < 19 by decide)
  have g5 : 48 ≤ b5.toNat ∧ b5.toNat ≤ 57 := good_dig (hg 5 (by decide)) rfl (show 5 < 19 by decide)
  have g6 : 48 ≤ b6.toNat ∧ b6.toNat ≤ 57 := good_dig (hg 6 (by decide)) rfl (show 6 < 19 by decide)
  have g7 : b7.toNat = 45 := good_sign (hg 7 (by decide)) (by decide) (show 7 < 19 by decide)
  have g8 : 48 ≤ b8.toNat ∧ b8.toNat ≤ 57 := good_dig (hg 8 (by decide)) rfl (show 8 < 19 by decide)
  have g9 : 48 ≤ b9.toNat ∧ b9.toNat ≤ 57 := good_dig (hg 9 (by decide)) rfl (show 9 < 19 by decide)
  have g10 : b10.toNat = 32 := good_sign (hg 10 (by decide)) (by decide) (show 10 < 19 by decide)
  have g11 : 48 ≤ b11.toNat ∧ b11.toNat ≤ 57 := good_dig (hg 11 (by decide)) rfl (show 11 < 19 by decide)
  have g12 : 48 ≤ b12.toNat ∧ b12.toNat ≤ 57 := good_dig (hg 12 (by decide)) rfl (show 12 < 19 by decide)
  have g13 : b13.toNat = 58 := good_sign (hg 13 (by decide)) (by decide) (show 13 < 19 by decide)
  have g14 : 48 ≤ b14.toNat ∧ b14.toNat ≤ 57 := good_dig (hg 14 (by decide)) rfl (show 14 < 19 by decide)
  have g15 : 48 ≤ b15.toNat ∧ b15.toNat ≤ 57 := good_dig (hg 15 (by decide)) rfl (show 15 < 19 by decide)
  have g16 : b16.toNat = 58 := good_sign (hg 16 (by decide)) (by decide) (show 16 < 19 by decide)
  have g17 : 48 ≤ b17.toNat ∧ b17.toNat ≤ 57 := good_dig (hg 17 (by decide)) rfl (show 17 < 19 by decide)
  have g18 : 48 ≤ b18.toNat ∧ b18.toNat ≤ 57 := good_dig (hg 18 (by decide)) rfl (show 18 < 19 by decide)
  clear hg hs
  have y := numS_4 ((⟨#[b0, b1, b2, b3, b4, b5, b6, b7, b8, b9, b10, b11, b12, b13, b14, b15, b16, b17, b18]⟩ : ByteArray).extract 0 4) b0 b1 b2 b3 (by rw [extract_list]; rfl)
  have m := numS_2 ((⟨#[b0, b1, b2, b3, b4, b5, b6, b7, b8, b9, b10, b11, b12, b13, b14, b15, b16, b17, b18]⟩ : ByteArray).extract 5 7) b5 b6 (by rw [extract_list]; rfl)
  have d := numS_2 ((⟨#[b0, b1, b2, b3, b4, b5, b6, b7, b8, b9, b10, b11, b12, b13, b14, b15, b16, b17, b18]⟩ : ByteArray).extract 8 10) b8 b9 (by rw [extract_list]; rfl)
  have h := numS_2 ((⟨#[b0, b1, b2, b3, b4, b5, b6, b7, b8, b9, b10, b11, b12, b13, b14, b15, b16, b17, b18]⟩ : ByteArray).extract 11 13) b11 b12 (by rw [extract_list]; rfl)
  have i := numS_2 ((⟨#[b0, b1, b2, b3, b4, b5, b6, b7, b8, b9, b10, b11, b12, b13, b14, b15, b16, b17, b18]⟩ : ByteArray).extract 14 16) b14 b15 (by rw [extract_list]; rfl)
  have q := numS_2 ((⟨#[b0, b1, b2, b3, b4, b5, b6, b7, b8, b9, b10, b11, b12, b13, b14, b15, b16, b17, b18]⟩ : ByteArray).extract 17 19) b17 b18 (by rw [extract_list]; rfl)
  unfold fld
  rw [y, m, d, h, i, q]
  clear y m d h i q
  unfold strOfNums txt
  simp only [List.map_cons, List.map_nil]
  refine congrArg (fun l : List UInt8 => (⟨⟨l⟩⟩ : ByteArray)) ?_
  simp only [List.cons.injEq, and_true]
  exact ⟨of_byte (by omega), of_byte (by omega), of_byte (by omega), of_byte (by omega), of_byte (by omega), of_byte (by omega), of_byte (by omega), of_byte (by omega), of_byte (by omega), of_byte (by omega), of_byte (by omega), of_byte (by omega), of_byte (by omega), of_byte (by omega), of_byte (by omega), of_byte (by omega), of_byte (by omega), of_byte (by omega), of_byte (by omega)⟩

def bt (n : Int) : UInt8 := UInt8.ofNat n.toNat
theorem bt_of {n : Int} (h0 : 0 ≤ n) (h1 : n < 256) : ((bt n).toNat : Int) = n := byte_of h0 h1
theorem txt_bytes (y m d h i s : Int) : strOfNums (txt y m d h i s) = ⟨#[bt (48 + y / 10 / 10 / 10 % 10), bt (48 + y / 10 / 10 % 10), bt (48 + y / 10 % 10), bt (48 + y % 10), 45, bt (48 + m / 10 % 10), bt (48 + m % 10), 45, bt (48 + d / 10 % 10), bt (48 + d % 10), 32,
   bt (48 + h / 10 % 10), bt (48 + h % 10), 58, bt (48 + i / 10 % 10), bt (48 + i % 10), 58, bt (48 + s / 10 % 10), bt (48 + s % 10)]⟩ := rfl
theorem two_back (s : ByteArray) {n : Int} (h : s.data.toList = [bt (48 + n / 10 % 10), bt (48 + n % 10)]) (h0 : 0 ≤ n) (h1 : n ≤ 99) : numS s = n := by
  rw [numS_2 s _ _ h, bt_of (by omega) (by omega), bt_of (by omega) (by omega)]; omega
theorem four_back (s : ByteArray) {n : Int} (h : s.data.toList = [bt (48 + n / 10 / 10 / 10 % 10), bt (48 + n / 10 / 10 % 10), bt (48 + n / 10 % 10), bt (48 + n % 10)]) (h0 : 0 ≤ n) (h1 : n ≤ 9999) : numS s = n := by
  rw [numS_4 s _ _ _ _ h, bt_of (by omega) (by omega), bt_of (by omega) (by omega), bt_of (by omega) (by omega), bt_of (by omega) (by omega)]; omega
theorem dig_bt (n : Int) : 48 ≤ (bt (48 + n % 10)).toNat ∧ (bt (48 + n % 10)).toNat ≤ 57 := by
  have := bt_of (n := 48 + n % 10) (by omega) (by omega); omega
theorem txt_flds {y m d h i s : Int} (v : Civ.CVld y m d h i s) :
    fld (strOfNums (txt y m d h i s)) 0 4 = y ∧ fld (strOfNums (txt y m d h i s)) 5 7 = m ∧ fld (strOfNums (txt y m d h i s)) 8 10 = d ∧ fld (strOfNums (txt y m d h i s)) 11 13 = h ∧ fld (strOfNums (txt y m d h i s)) 14 16 = i ∧ fld (strOfNums (txt y m d h i s)) 17 19 = s := by
  obtain ⟨⟨y0, y1, m0, m1, d0, d1⟩, h0, h1, i0, i1, s0, s1⟩ := v
  have d2 := (Civ.dim_bd y m).2
  rw [txt_bytes]
  refine ⟨four_back _ (by rw [extract_list]; rfl) (by omega) (by omega), two_back _ (by rw [extract_list]; rfl) (by omega) (by omega), two_back _ (by rw [extract_list]; rfl) (by omega) (by omega), two_back _ (by rw [extract_list]; rfl) (by omega) (by omega), two_back _ (by rw [extract_list]; rfl) (by omega) (by omega), two_back _ (by rw [extract_list]; rfl) (by omega) (by omega)⟩
theorem txt_size (y m d h i s : Int) : (strOfNums (txt y m d h i s)).size = 19 := rfl
theorem txt_good (y m d h i s : Int) : ∀ k, k < 19 → Good (strOfNums (txt y m d h i s)) k := by
  intro k hk
  rw [txt_bytes]
  rcases nineteen hk with rfl | rfl | rfl | rfl | rfl | rfl | rfl | rfl | rfl | rfl | rfl | rfl | rfl | rfl | rfl | rfl | rfl | rfl | rfl
  all_goals refine ⟨show _ < 19 by decide, ?_⟩
  all_goals first
    | (rw [if_pos (by rfl)]; exact dig_bt _)
    | (rw [if_neg (by decide)]; rfl)
end Go.Proofs.YtjffnjoeeclckaaDoor
