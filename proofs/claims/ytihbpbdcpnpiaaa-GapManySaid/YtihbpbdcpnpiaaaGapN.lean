/- Contract of the statements' made: a list of times of these gaps. -/
import Derived.Test.YtihbpbdcpnpiaaaGapX
import Derived.Test.YtihbpbdcpnpiaaaGapMc
namespace Go.Proofs.Ytihbpbdcpnpiaaa
open Go.ChangeShapes Go.RowKit

theorem IsRow.g16 {w : World} {a : Option Addr} {len cap : Nat} {zs : List Int} (h : IsRow .u16 w a len cap zs) (n : Nat) (hn : n ≤ len) : Gp.G16 zs n := by
  intro k hk
  rcases h with ⟨_, h, _, _⟩ | ⟨x, rfl, h1, h2, h3, h4, h5⟩
  · omega
  · have := h5 _ (Gp.getD_mem (l := zs) (i := k) (by omega))
    simpa [Lit.wf, show IntKind.u16.min = 0 from rfl, show IntKind.u16.max = 65535 from rfl] using this

theorem OwnT.single (w : World) (f : Int) : OwnT w (.slice (some ⟨w.heap.size, 0, none⟩) 1 1) [f] (w.alloc (.cells #[.int .i64 f] 2)) :=
  ⟨⟨rfl, .inr ⟨w.heap.size, 1, #[.int .i64 f], rfl, Nat.le_refl _, World.alloc_heap_new w _, Nat.le_refl _, by decide, rfl, rfl⟩⟩, below_new (Below.refl _ w) _⟩
set_option maxRecDepth 100000 in
set_option maxHeartbeats 4000000 in
theorem made_any (f : Int) (a : Option Addr) (len cap : Nat) (zs : List Int) (w : World) (h0 : 0 ≤ f) (h1 : f ≤ 4294967295) (hr : IsRow .u16 w a len cap zs) :
    Calls Try.prog 34 #[.int .u32 f, .slice a len cap] w fun e w' => ∃ u, e = .returned u ∧ OwnT w u (Gp.md f zs (min len 300)) w' := by
  obtain ⟨i0, hi, hz0, hz1, hz2⟩ := info_parts infoT
  obtain ⟨N, hN⟩ : ∃ N, min len 300 = N := ⟨_, rfl⟩
  have G := Lib.hid (hr.g16 N (by omega))
  have BD := Lib.hid (fun k (hk : k ≤ N) => Gp.tAt_bd (f := f) G.out k hk)
  have CC := Lib.hid (fun j (hj : j < N) => hr.spot j (by omega))
  have N3 : N ≤ 300 := by omega
  have wf : IntKind.i64.wrap f = f := by rw [IntKind.wrap_i64]; omega
  have H0 : Hid (OwnT w (.slice (some ⟨w.heap.size, 0, none⟩) 1 1) (Gp.md f zs 0) (w.alloc (.cells #[.int .i64 f] 2))) := Lib.hid (OwnT.single w f)
  rw [hN]
  have HH := Lib.hid (And.intro h0 h1)
  rcases hr with ⟨rfl, rfl, rfl, rfl⟩ | ⟨x, rfl, g1, g2, g3, g4, g5⟩
  · obtain rfl : N = 0 := by omega
    clear hN
    go_enter Try.func34, Try.ntmps34
    go_wp2_with fail
    go_loopw [5, 6, 19] (fun tv lv iv wr => iv = .int .i64 0 ∧ tv = .int .i64 f ∧ Hid (OwnT w lv (Gp.md f [] 0) wr)) (fun _ _ iv _ => 0)
    case atStart => exact ⟨rfl, rfl, H0⟩
    case round =>
      obtain ⟨rfl, rfl, ho⟩ := hrel
      go_wp2_with fail
      go_ret
      exact ⟨_, rfl, ho.out⟩
  · unfold maxLen at g2
    clear g3 g4 g5
    by_cases c : len ≤ 300
    · obtain rfl : N = len := by omega
      have m1 : ¬ (300 : Int) < (N : Int) := by omega
      have m2 : (N : Int) ≤ 300 := by omega
      clear hN
      go_enter Try.func34, Try.ntmps34
      go_wp2_with fail
      go_loopw [5, 6, 19] (fun tv lv iv wr => ∃ (k : Nat) (t : Int), k ≤ N ∧ iv = .int .i64 k ∧ tv = .int .i64 t ∧ Hid (t = Gp.tAt f zs k) ∧ Hid (OwnT w lv (Gp.md f zs k) wr)) (fun _ _ iv _ => N - (intOf iv).toNat)
      case atStart => exact ⟨0, f, by omega, rfl, rfl, Lib.hid rfl, H0⟩
      case round =>
        obtain ⟨k, t, hk, rfl, rfl, ht, ho⟩ := hrel
        by_cases lt : k < N
        · have e0 : decide ((k : Int) < (N : Int)) = true := by rw [decide_eq_true_iff]; omega
          have wi : IntKind.i64.wrap ((k : Int) + 1) = (k : Int) + 1 := by rw [IntKind.wrap_i64]; omega
          obtain ⟨b1, o1, e1, c1⟩ := CC.out k lt
          cases e1
          have c2 := (ho.out.below.cell (p := ⟨b1, o1 + k, none⟩) (lt_of_cell c1)).trans c1
          have g1 := G.out k lt
          have bd := BD.out k (by omega)
          rw [← ht.out] at bd
          have ST := Lib.hid (show Gp.tAt f zs (k + 1) = t + (zs.getD k 0 + 1) by rw [ht.out]; rfl)
          have MS := Lib.hid (Gp.md_succ f zs k)
          have ML := Lib.hid (Gp.md_len f zs k)
          obtain ⟨g, hg⟩ : ∃ g, zs.getD k 0 = g := ⟨_, rfl⟩
          rw [hg] at c2 g1 ST
          have hh := HH.out
          have w1 : IntKind.i64.wrap g = g := by rw [IntKind.wrap_i64]; omega
          have w2 : IntKind.i64.wrap (g + 1) = g + 1 := by rw [IntKind.wrap_i64]; omega
          have w3 : IntKind.i64.wrap (t + (g + 1)) = t + (g + 1) := by rw [IntKind.wrap_i64]; omega
          obtain ⟨M, hM⟩ : ∃ M, Gp.md f zs k = M := ⟨_, rfl⟩
          rw [hM] at ho MS ML
          rw [ST.out] at MS
          have HST := ST
          have hs := ho.out.below.size
          have kN : k ≤ 300 := by omega
          have MLL : M.length ≤ 301 := by have := ML.out; omega
          clear hg hM c1 bd g1 hh ht
          go_wp2_with (at_builtin; refine wpList_append_own_at _ rfl (.tmp 28) (.tmp 30) 22 rfl w.heap.size 2 i0 (.int .i64 0) 1 8 Try.underlying22 hi hz0 hz1 hz2 rfl (by decide) _ M.length _ rfl (ho.out.row.alloc _) ⟨wr.heap.size, 0, none⟩ 1 1 [.int .i64 (t + (g + 1))] rfl ?c1 ?c2 ?c3 ?c4 ?c5 ?c6 ?c7)
          case c1 => rfl
          case c2 => exact cell_one_new _ _ _
          case c3 => simp [Value.oneCell']
          case c4 => simp [maxLen]; omega
          case c5 => omega
          case c6 => simp; omega
          case c7 =>
            intro v1 w1' hown hg _ _
            have h2 := ho.out.step hown hg
            rw [← MS.out] at h2
            have H2 := Lib.hid h2
            clear h2 hown hg
            go_wp2_with fail
            go_roundw
            case rel => exact ⟨k + 1, t + (g + 1), by omega, by go_num, rfl, Lib.hid HST.out.symm, H2⟩
            case measure => simp [intOf]; omega
        · have e0 : decide ((k : Int) < (N : Int)) = false := by rw [decide_eq_false_iff_not]; omega
          obtain rfl : k = N := by omega
          go_wp2_with fail
          go_ret
          exact ⟨_, rfl, ho.out⟩
    · obtain rfl : N = 300 := by omega
      have m1 : (300 : Int) < (len : Int) := by omega
      clear hN
      go_enter Try.func34, Try.ntmps34
      go_wp2_with fail
      go_loopw [5, 6, 19] (fun tv lv iv wr => ∃ (k : Nat) (t : Int), k ≤ 300 ∧ iv = .int .i64 k ∧ tv = .int .i64 t ∧ Hid (t = Gp.tAt f zs k) ∧ Hid (OwnT w lv (Gp.md f zs k) wr)) (fun _ _ iv _ => 300 - (intOf iv).toNat)
      case atStart => exact ⟨0, f, by omega, rfl, rfl, Lib.hid rfl, H0⟩
      case round =>
        obtain ⟨k, t, hk, rfl, rfl, ht, ho⟩ := hrel
        by_cases lt : k < 300
        · have e0 : decide ((k : Int) < 300) = true := by rw [decide_eq_true_iff]; omega
          have wi : IntKind.i64.wrap ((k : Int) + 1) = (k : Int) + 1 := by rw [IntKind.wrap_i64]; omega
          obtain ⟨b1, o1, e1, c1⟩ := CC.out k lt
          cases e1
          have c2 := (ho.out.below.cell (p := ⟨b1, o1 + k, none⟩) (lt_of_cell c1)).trans c1
          have g1 := G.out k lt
          have bd := BD.out k (by omega)
          rw [← ht.out] at bd
          have ST := Lib.hid (show Gp.tAt f zs (k + 1) = t + (zs.getD k 0 + 1) by rw [ht.out]; rfl)
          have MS := Lib.hid (Gp.md_succ f zs k)
          have ML := Lib.hid (Gp.md_len f zs k)
          obtain ⟨g, hg⟩ : ∃ g, zs.getD k 0 = g := ⟨_, rfl⟩
          rw [hg] at c2 g1 ST
          have hh := HH.out
          have w1 : IntKind.i64.wrap g = g := by rw [IntKind.wrap_i64]; omega
          have w2 : IntKind.i64.wrap (g + 1) = g + 1 := by rw [IntKind.wrap_i64]; omega
          have w3 : IntKind.i64.wrap (t + (g + 1)) = t + (g + 1) := by rw [IntKind.wrap_i64]; omega
          obtain ⟨M, hM⟩ : ∃ M, Gp.md f zs k = M := ⟨_, rfl⟩
          rw [hM] at ho MS ML
          rw [ST.out] at MS
          have HST := ST
          have hs := ho.out.below.size
          have kN : k ≤ 300 := by omega
          have MLL : M.length ≤ 301 := by have := ML.out; omega
          clear hg hM c1 bd g1 hh ht
          go_wp2_with (at_builtin; refine wpList_append_own_at _ rfl (.tmp 28) (.tmp 30) 22 rfl w.heap.size 2 i0 (.int .i64 0) 1 8 Try.underlying22 hi hz0 hz1 hz2 rfl (by decide) _ M.length _ rfl (ho.out.row.alloc _) ⟨wr.heap.size, 0, none⟩ 1 1 [.int .i64 (t + (g + 1))] rfl ?c1 ?c2 ?c3 ?c4 ?c5 ?c6 ?c7)
          case c1 => rfl
          case c2 => exact cell_one_new _ _ _
          case c3 => simp [Value.oneCell']
          case c4 => simp [maxLen]; omega
          case c5 => omega
          case c6 => simp; omega
          case c7 =>
            intro v1 w1' hown hg _ _
            have h2 := ho.out.step hown hg
            rw [← MS.out] at h2
            have H2 := Lib.hid h2
            clear h2 hown hg
            go_wp2_with fail
            go_roundw
            case rel => exact ⟨k + 1, t + (g + 1), by omega, by go_num, rfl, Lib.hid HST.out.symm, H2⟩
            case measure => simp [intOf]; omega
        · have e0 : decide ((k : Int) < 300) = false := by rw [decide_eq_false_iff_not]; omega
          obtain rfl : k = 300 := by omega
          go_wp2_with fail
          go_ret
          exact ⟨_, rfl, ho.out⟩
end Go.Proofs.Ytihbpbdcpnpiaaa
