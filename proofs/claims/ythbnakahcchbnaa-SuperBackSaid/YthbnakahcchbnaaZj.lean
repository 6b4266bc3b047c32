/- SuperTakes, SuperChooses. -/
import Derived.Test.YthbnakahcchbnaaZi
namespace Go.Proofs.Ythbnakahcchbnaa
open Go.RowKit
set_option linter.unusedVariables false
set_option linter.unusedSimpArgs false
attribute [local go_sem ↓] Go.wp_at_zero Go.wp_at_succ

set_option maxRecDepth 20000 in
set_option maxHeartbeats 4000000 in
theorem takes_core (U : Sup) (a0 : Option Addr) (n c : Nat) (L : List UInt8) (w : World) (g0 : Reads w a0 (bts L)) (gn : L.length = n) (gc : n ≤ c) (gr : c * 1 ≤ 140737488351232) :
    Calls Try.prog 4 #[.slice a0 n c] w fun e w' => e = .returned (.bool true) ∧ Chg [] w w' := by
  have hml : n ≤ maxLen := by unfold maxLen; omega
  have g2 := g0.keep (Chg.alloc [] w (.cells #[] 5))
  have HN := mkHid gn
  have HNB := mkHid (show (bts L).length = n by rw [bts_length]; exact gn)
  go_enter Try.func4, Try.ntmps4
  clear gn
  go_wp2_with (at_builtin; refine wpList_append_k _ rfl (.tmp 8) (.tmp 9) 25 rfl 5 1 eltB w.heap.size _ 0 0 [] rfl (Room.nil _ _ _) (by simp) a0 n c (bts L) rfl g2 HNB.out (bts_one _) (by omega) (by omega) ?_; intro wa wc w1 hr1 hg1 hf1; simp only [Nat.zero_add, List.nil_append] at hr1)
  have q1 : Chg [] w w1 := (Chg.alloc [] w _).trans hg1 (by simp) (by rw [fp_zero]; simp)
  refine (U.take wa n wc L w1 hr1.reads HN.out hr1.le hr1.max).mono ?_
  rintro e w2 ⟨he, gA⟩
  subst he
  obtain ⟨⟨er, ⟨G, B, D, X⟩⟩, hT⟩ : ∃ r, takeS L = r := ⟨_, rfl⟩
  rw [hT]
  unfold SB.v
  dsimp only
  obtain ⟨c0, c1, c2, c3⟩ := sup_laid w2 ⟨G, B, D, X⟩
  have g3 := Chg.alloc [] w2 (supObj ⟨G, B, D, X⟩)
  unfold supObj at *
  dsimp only at c0 c1 c2 c3 g3
  have ho := hr1.reads.keep (gA.then g3)
  have q3 := q1.then (gA.then g3)
  clear hr1 hg1 hf1 gA g3 q1 g2
  go_wp2_with fail
  generalize w2.alloc _ = w3 at *
  generalize w2.heap.size = xb at *
  refine (rtake_any a0 n c L w3 (g0.keep q3) HN.out).mono ?_
  rintro e w4 ⟨he, g4⟩
  subst he
  rw [hT]
  unfold SB.v
  dsimp only
  obtain ⟨d0, d1, d2, d3⟩ := sup_laid w4 ⟨G, B, D, X⟩
  have g5 := Chg.alloc [] w4 (supObj ⟨G, B, D, X⟩)
  unfold supObj at *
  dsimp only at d0 d1 d2 d3 g5
  replace c0 := (g4.then g5).cellv c0 (by simp)
  replace c1 := (g4.then g5).cellv c1 (by simp)
  replace c2 := (g4.then g5).cellv c2 (by simp)
  replace c3 := (g4.then g5).cellv c3 (by simp)
  replace ho := ho.keep (g4.then g5)
  replace q3 := q3.then (g4.then g5)
  clear g4 g5
  go_wp2_with fail
  generalize w4.alloc _ = w5 at *
  generalize w4.heap.size = yb at *
  refine (awake_any U w5).mono ?_
  rintro e w6 ⟨rfl, g6⟩
  replace c0 := g6.cellv c0 (by simp)
  replace c1 := g6.cellv c1 (by simp)
  replace c2 := g6.cellv c2 (by simp)
  replace c3 := g6.cellv c3 (by simp)
  replace d0 := g6.cellv d0 (by simp)
  replace d1 := g6.cellv d1 (by simp)
  replace d2 := g6.cellv d2 (by simp)
  replace d3 := g6.cellv d3 (by simp)
  have cB := beq_any wa n wc L a0 n c L w6 (ho.keep g6) HN.out (g0.keep (q3.then g6)) HN.out
  rw [decide_eq_true rfl] at cB
  replace q3 := q3.then g6
  clear g6 hT
  go_wp2_with (go_at_call 12; refine cB.mono ?_; rintro e w' ⟨rfl, rfl⟩)
  go_ret
  exact ⟨rfl, q3⟩
set_option maxRecDepth 20000 in
set_option maxHeartbeats 4000000 in
theorem chooses_core (U : Sup) (a0 : Option Addr) (n c : Nat) (L : List UInt8) (b0 : Option Addr) (m d : Nat) (K : List UInt8) (w : World) (g0 : Reads w a0 (bts L)) (gn : L.length = n) (gc : n ≤ c) (gr : c * 1 ≤ 140737488351232) (h0 : Reads w b0 (bts K)) (hm : K.length = m) (hc : m ≤ d) (hr : d * 1 ≤ 140737488351232) :
    Calls Try.prog 5 #[.slice a0 n c, .slice b0 m d] w fun e w' => e = .returned (.bool true) ∧ Chg [] w w' := by
  go_enter Try.func5, Try.ntmps5
  go_wp2_with fail
  refine (U.choose a0 n c L b0 m d K w g0 gn gc (by unfold maxLen; omega) h0 hm hc (by unfold maxLen; omega)).mono ?_
  rintro e w2 ⟨he, gA⟩
  subst he
  obtain ⟨⟨⟨G, B, D, X⟩, sl, er⟩, hT⟩ : ∃ r, chooseS L K = r := ⟨_, rfl⟩
  rw [hT]
  unfold SB.v
  dsimp only
  obtain ⟨c0, c1, c2, c3⟩ := sup_laid w2 ⟨G, B, D, X⟩
  have g3 := Chg.alloc [] w2 (supObj ⟨G, B, D, X⟩)
  unfold supObj at *
  dsimp only at c0 c1 c2 c3 g3
  have q3 := gA.then g3
  clear gA g3
  go_wp2_with fail
  generalize w2.alloc _ = w3 at *
  generalize w2.heap.size = xb at *
  refine (rchoose_any a0 n c L b0 m d K w3 (g0.keep q3) gn (h0.keep q3) hm).mono ?_
  rintro e w4 ⟨he, g4⟩
  subst he
  rw [hT]
  unfold SB.v
  dsimp only
  obtain ⟨d0, d1, d2, d3⟩ := sup_laid w4 ⟨G, B, D, X⟩
  have g5 := Chg.alloc [] w4 (supObj ⟨G, B, D, X⟩)
  unfold supObj at *
  dsimp only at d0 d1 d2 d3 g5
  replace c0 := (g4.then g5).cellv c0 (by simp)
  replace c1 := (g4.then g5).cellv c1 (by simp)
  replace c2 := (g4.then g5).cellv c2 (by simp)
  replace c3 := (g4.then g5).cellv c3 (by simp)
  replace q3 := q3.then (g4.then g5)
  clear g4 g5
  go_wp2_with fail
  generalize w4.alloc _ = w5 at *
  generalize w4.heap.size = yb at *
  refine (awake_any U w5).mono ?_
  rintro e w6 ⟨rfl, g6⟩
  replace c0 := g6.cellv c0 (by simp)
  replace c1 := g6.cellv c1 (by simp)
  replace c2 := g6.cellv c2 (by simp)
  replace c3 := g6.cellv c3 (by simp)
  replace d0 := g6.cellv d0 (by simp)
  replace d1 := g6.cellv d1 (by simp)
  replace d2 := g6.cellv d2 (by simp)
  replace d3 := g6.cellv d3 (by simp)
  replace q3 := q3.then g6
  clear g6 hT
  go_wp2_with fail
  go_ret
  exact ⟨rfl, q3⟩
end Go.Proofs.Ythbnakahcchbnaa
