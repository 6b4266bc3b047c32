/- SuperTorn. -/
import Derived.Test.YthbnakahcchbnaaZl
namespace Go.Proofs.Ythbnakahcchbnaa
open Go.RowKit
set_option linter.unusedVariables false
set_option linter.unusedSimpArgs false
attribute [local go_sem ↓] Go.wp_at_zero Go.wp_at_succ

set_option maxRecDepth 20000 in
set_option maxHeartbeats 4000000 in
theorem torn_core (U : Sup) (s t : SB) (hs : s.Fits) (ht : t.Fits) (z : Nat) (hz : z < 256) (w : World) :
    Calls Try.prog 7 #[s.v, t.v, .int .u8 (z : Int)] w fun e w' => e = .returned (.bool true) ∧ Chg [] w w' := by
  obtain ⟨G, B, D, X⟩ := s
  obtain ⟨G2, B2, D2, X2⟩ := t
  obtain ⟨G3, hG3⟩ : ∃ q : Nat, IntKind.u64.wrap ((G : Int) + 2) = (q : Int) := ⟨((G + 2) % 18446744073709551616), by rw [IntKind.wrap_u64]; omega⟩
  have hG3' := hG3
  rw [IntKind.wrap_u64] at hG3'
  unfold SB.v
  dsimp only
  have HG := mkHid hG3'
  clear hG3'
  have HS := sup_laid w ⟨G, B, D, X⟩
  have g1 := Chg.alloc [] w (supObj ⟨G, B, D, X⟩)
  have HT := sup_laid (w.alloc (supObj ⟨G, B, D, X⟩)) ⟨G3, B2, D2, X2⟩
  have g2 := Chg.alloc [] (w.alloc (supObj ⟨G, B, D, X⟩)) (supObj ⟨G3, B2, D2, X2⟩)
  have hz1 : (w.alloc (supObj ⟨G, B, D, X⟩)).heap.size = w.heap.size + 1 := by simp
  rw [hz1] at HT
  replace HS := HS.keep g2 (by simp)
  obtain ⟨c0, c1, c2, c3⟩ := HS
  obtain ⟨d0, d1, d2, d3⟩ := HT
  have q0 := g1.then g2
  clear g1 g2 hz1
  unfold supObj at *
  dsimp only at c0 c1 c2 c3 d0 d1 d2 d3 q0
  go_enter Try.func7, Try.ntmps7
  go_wp2_with fail
  generalize World.alloc (w.alloc _) _ = w1 at *
  generalize w.heap.size + 1 = tb at *
  generalize w.heap.size = sb at *
  have ht3 : SB.Fits ⟨G3, B2, D2, X2⟩ := ⟨by dsimp only; have := HG.out; omega, ht.2.1, ht.2.2.1, ht.2.2.2.1, ht.2.2.2.2⟩
  have mS := fun (u : World) => U.may ⟨G, B, D, X⟩ u hs
  have mT := fun (u : World) => U.may ⟨G3, B2, D2, X2⟩ u ht3
  have MS := mkHid mS
  have MT := mkHid mT
  clear mS mT
  refine (U.put ⟨G, B, D, X⟩ w1 hs).mono ?_
  rintro e w2 ⟨g2, hcase⟩
  replace c0 := (g2).cellv c0 (by simp)
  replace c1 := (g2).cellv c1 (by simp)
  replace c2 := (g2).cellv c2 (by simp)
  replace c3 := (g2).cellv c3 (by simp)
  replace d0 := (g2).cellv d0 (by simp)
  replace d1 := (g2).cellv d1 (by simp)
  replace d2 := (g2).cellv d2 (by simp)
  replace d3 := (g2).cellv d3 (by simp)
  replace q0 := q0.then g2
  clear g2 ht
  rcases hcase with ⟨hm, b, o, x, rfl, hr⟩ | ⟨hm, rfl⟩
  · have HM := mkHid hm
    clear hm
    go_wp2_with fail
    refine (U.put ⟨G3, B2, D2, X2⟩ w2 ht3).mono ?_
    rintro e w3 ⟨g3, hcase⟩
    replace c0 := (g3).cellv c0 (by simp)
    replace c1 := (g3).cellv c1 (by simp)
    replace c2 := (g3).cellv c2 (by simp)
    replace c3 := (g3).cellv c3 (by simp)
    replace d0 := (g3).cellv d0 (by simp)
    replace d1 := (g3).cellv d1 (by simp)
    replace d2 := (g3).cellv d2 (by simp)
    replace d3 := (g3).cellv d3 (by simp)
    replace q0 := q0.then g3
    rcases hcase with ⟨hm3, b3, o3, x3, rfl, hr3⟩ | ⟨hm3, rfl⟩
    · have lF := SB.form_length ⟨G, B, D, X⟩
      have lF3 := SB.form_length ⟨G3, B2, D2, X2⟩
      have hgg : G3 = G + 2 := by
        have h1 := (SB.may_iff ⟨G, B, D, X⟩).1 HM.out
        have h2 := HG.out
        dsimp only at h1
        omega
      obtain ⟨q, hq⟩ : ∃ q : Nat, z % 65 = q := ⟨_, rfl⟩
      have hq64 : q ≤ 64 := by omega
      have hqi : (z : Int) % 65 = (q : Int) := by omega
      have TT := torn_take ⟨G, B, D, X⟩ ⟨G3, B2, D2, X2⟩ HM.out hm3 hgg q hq64
      have TL : (List.take q (SB.form ⟨G3, B2, D2, X2⟩) ++ List.drop q (SB.form ⟨G, B, D, X⟩)).length = 64 := by
        rw [List.length_append, List.length_take, List.length_drop, lF, lF3]
        omega
      have TN : ∀ y, takeS (List.take q (SB.form ⟨G3, B2, D2, X2⟩) ++ List.drop q (SB.form ⟨G, B, D, X⟩)) = y → y.1 = 23 → y.2 = SB.none := fun y hy h => by
        rcases take_cases (List.take q (SB.form ⟨G3, B2, D2, X2⟩) ++ List.drop q (SB.form ⟨G, B, D, X⟩)) with ⟨h0, _⟩ | ⟨_, h1, _⟩
        · rw [hy] at h0; omega
        · rw [← hy]; exact h1
      replace hr := hr.chg g3 (by simp)
      have e1 : ((G3 : Int) == (G : Int)) = false := by simp; omega
      have e2 : (G3 == G) = false := by simp; omega
      have HX := mkHid (And.intro TT (And.intro TN (And.intro TL (And.intro hr hr3))))
      clear TT TN TL hr hr3 hgg hq hm3 ht3 g3 lF lF3 hs
      go_wp2_with fail
      obtain ⟨TT, TN, TL, hr, hr3⟩ := HX.out
      refine (torn_any (some ⟨b3, o3, none⟩) x3 (SB.form ⟨G3, B2, D2, X2⟩) (some ⟨b, o, none⟩) x (SB.form ⟨G, B, D, X⟩) q w3 hr3.reads (SB.form_length _) hr3.le hr.reads (SB.form_length _) hr.le hq64).mono ?_
      rintro e w4 ⟨a4, x4, rfl, hr4, g4⟩
      replace c0 := (g4).cellv c0 (by simp)
      replace c1 := (g4).cellv c1 (by simp)
      replace c2 := (g4).cellv c2 (by simp)
      replace c3 := (g4).cellv c3 (by simp)
      replace d0 := (g4).cellv d0 (by simp)
      replace d1 := (g4).cellv d1 (by simp)
      replace d2 := (g4).cellv d2 (by simp)
      replace d3 := (g4).cellv d3 (by simp)
      replace q0 := q0.then g4
      generalize hf : List.take q (SB.form ⟨G3, B2, D2, X2⟩) ++ List.drop q (SB.form ⟨G, B, D, X⟩) = f at *
      clear hr hr3 HX g4
      go_wp2_with fail
      refine (U.take a4 64 x4 f w4 hr4.reads TL hr4.le hr4.max).mono ?_
      rintro e w5 ⟨he, g5⟩
      subst he
      replace c0 := (g5).cellv c0 (by simp)
      replace c1 := (g5).cellv c1 (by simp)
      replace c2 := (g5).cellv c2 (by simp)
      replace c3 := (g5).cellv c3 (by simp)
      replace d0 := (g5).cellv d0 (by simp)
      replace d1 := (g5).cellv d1 (by simp)
      replace d2 := (g5).cellv d2 (by simp)
      replace d3 := (g5).cellv d3 (by simp)
      replace q0 := q0.then g5
      obtain ⟨⟨er, ⟨G5, B5, D5, X5⟩⟩, hT⟩ : ∃ r, takeS f = r := ⟨_, rfl⟩
      rw [hT] at TT ⊢
      unfold SB.v
      dsimp only at TT ⊢
      obtain ⟨y0, y1, y2, y3⟩ := sup_laid w5 ⟨G5, B5, D5, X5⟩
      have g6 := Chg.alloc [] w5 (supObj ⟨G5, B5, D5, X5⟩)
      unfold supObj at *
      dsimp only at y0 y1 y2 y3 g6
      replace c0 := (g6).cellv c0 (by simp)
      replace c1 := (g6).cellv c1 (by simp)
      replace c2 := (g6).cellv c2 (by simp)
      replace c3 := (g6).cellv c3 (by simp)
      replace d0 := (g6).cellv d0 (by simp)
      replace d1 := (g6).cellv d1 (by simp)
      replace d2 := (g6).cellv d2 (by simp)
      replace d3 := (g6).cellv d3 (by simp)
      replace q0 := q0.then g6
      have HT := mkHid TT
      clear g5 g6 hr4 TT TN TL hf hT
      go_wp2_with fail
      generalize w5.alloc _ = w6 at *
      generalize w5.heap.size = yb at *
      refine (awake_any U w6).mono ?_
      rintro e w7 ⟨rfl, g7⟩
      replace c0 := (g7).cellv c0 (by simp)
      replace c1 := (g7).cellv c1 (by simp)
      replace c2 := (g7).cellv c2 (by simp)
      replace c3 := (g7).cellv c3 (by simp)
      replace d0 := (g7).cellv d0 (by simp)
      replace d1 := (g7).cellv d1 (by simp)
      replace d2 := (g7).cellv d2 (by simp)
      replace d3 := (g7).cellv d3 (by simp)
      replace y0 := (g7).cellv y0 (by simp)
      replace y1 := (g7).cellv y1 (by simp)
      replace y2 := (g7).cellv y2 (by simp)
      replace y3 := (g7).cellv y3 (by simp)
      replace q0 := q0.then g7
      clear g7
      rcases HT.out with h | h | h
      · cases h
        go_wp2_with fail
        go_ret
        exact ⟨rfl, q0⟩
      · cases h
        go_wp2_with fail
        go_ret
        exact ⟨rfl, q0⟩
      · subst h
        go_wp2_with fail
        go_ret
        exact ⟨rfl, q0⟩
    · have HM3 := mkHid hm3
      clear hm3 g3 hr
      go_wp2_with fail
      refine (awake_any U w3).mono ?_
      rintro e w4 ⟨rfl, g4⟩
      replace c0 := (g4).cellv c0 (by simp)
      replace c1 := (g4).cellv c1 (by simp)
      replace c2 := (g4).cellv c2 (by simp)
      replace c3 := (g4).cellv c3 (by simp)
      replace d0 := (g4).cellv d0 (by simp)
      replace d1 := (g4).cellv d1 (by simp)
      replace d2 := (g4).cellv d2 (by simp)
      replace d3 := (g4).cellv d3 (by simp)
      replace q0 := q0.then g4
      go_wp2_with fail
      refine (MS.out w4).mono ?_
      rw [HM.out]
      rintro e w5 ⟨rfl, g5⟩
      replace c0 := (g5).cellv c0 (by simp)
      replace c1 := (g5).cellv c1 (by simp)
      replace c2 := (g5).cellv c2 (by simp)
      replace c3 := (g5).cellv c3 (by simp)
      replace d0 := (g5).cellv d0 (by simp)
      replace d1 := (g5).cellv d1 (by simp)
      replace d2 := (g5).cellv d2 (by simp)
      replace d3 := (g5).cellv d3 (by simp)
      replace q0 := q0.then g5
      go_wp2_with fail
      refine (MT.out w5).mono ?_
      rw [HM3.out]
      rintro e w6 ⟨rfl, g6⟩
      replace q0 := q0.then g6
      go_wp2_with fail
      go_ret
      exact ⟨rfl, q0⟩
  · have HM := mkHid hm
    clear hm
    go_wp2_with fail
    refine (U.put ⟨G3, B2, D2, X2⟩ w2 ht3).mono ?_
    rintro e w3 ⟨g3, hcase⟩
    replace c0 := (g3).cellv c0 (by simp)
    replace c1 := (g3).cellv c1 (by simp)
    replace c2 := (g3).cellv c2 (by simp)
    replace c3 := (g3).cellv c3 (by simp)
    replace d0 := (g3).cellv d0 (by simp)
    replace d1 := (g3).cellv d1 (by simp)
    replace d2 := (g3).cellv d2 (by simp)
    replace d3 := (g3).cellv d3 (by simp)
    replace q0 := q0.then g3
    clear g3
    rcases hcase with ⟨hm3, b3, o3, x3, rfl, hr3⟩ | ⟨hm3, rfl⟩
    · clear hm3
      go_wp2_with fail
      refine (awake_any U w3).mono ?_
      rintro e w4 ⟨rfl, g4⟩
      replace c0 := (g4).cellv c0 (by simp)
      replace c1 := (g4).cellv c1 (by simp)
      replace c2 := (g4).cellv c2 (by simp)
      replace c3 := (g4).cellv c3 (by simp)
      replace d0 := (g4).cellv d0 (by simp)
      replace d1 := (g4).cellv d1 (by simp)
      replace d2 := (g4).cellv d2 (by simp)
      replace d3 := (g4).cellv d3 (by simp)
      replace q0 := q0.then g4
      go_wp2_with fail
      refine (MS.out w4).mono ?_
      rw [HM.out]
      rintro e w5 ⟨rfl, g5⟩
      replace c0 := (g5).cellv c0 (by simp)
      replace c1 := (g5).cellv c1 (by simp)
      replace c2 := (g5).cellv c2 (by simp)
      replace c3 := (g5).cellv c3 (by simp)
      replace d0 := (g5).cellv d0 (by simp)
      replace d1 := (g5).cellv d1 (by simp)
      replace d2 := (g5).cellv d2 (by simp)
      replace d3 := (g5).cellv d3 (by simp)
      replace q0 := q0.then g5
      go_wp2_with fail
      go_ret
      exact ⟨rfl, q0⟩
    · clear hm3
      go_wp2_with fail
      refine (awake_any U w3).mono ?_
      rintro e w4 ⟨rfl, g4⟩
      replace c0 := (g4).cellv c0 (by simp)
      replace c1 := (g4).cellv c1 (by simp)
      replace c2 := (g4).cellv c2 (by simp)
      replace c3 := (g4).cellv c3 (by simp)
      replace d0 := (g4).cellv d0 (by simp)
      replace d1 := (g4).cellv d1 (by simp)
      replace d2 := (g4).cellv d2 (by simp)
      replace d3 := (g4).cellv d3 (by simp)
      replace q0 := q0.then g4
      go_wp2_with fail
      refine (MS.out w4).mono ?_
      rw [HM.out]
      rintro e w5 ⟨rfl, g5⟩
      replace c0 := (g5).cellv c0 (by simp)
      replace c1 := (g5).cellv c1 (by simp)
      replace c2 := (g5).cellv c2 (by simp)
      replace c3 := (g5).cellv c3 (by simp)
      replace d0 := (g5).cellv d0 (by simp)
      replace d1 := (g5).cellv d1 (by simp)
      replace d2 := (g5).cellv d2 (by simp)
      replace d3 := (g5).cellv d3 (by simp)
      replace q0 := q0.then g5
      go_wp2_with fail
      go_ret
      exact ⟨rfl, q0⟩
end Go.Proofs.Ythbnakahcchbnaa
