/- SuperBack. -/
import Derived.Test.YthbnakahcchbnaaZj
namespace Go.Proofs.Ythbnakahcchbnaa
open Go.RowKit
set_option linter.unusedVariables false
set_option linter.unusedSimpArgs false
attribute [local go_sem ↓] Go.wp_at_zero Go.wp_at_succ

set_option maxRecDepth 20000 in
set_option maxHeartbeats 4000000 in
theorem back_core (U : Sup) (s : SB) (hs : s.Fits) (a0 : Option Addr) (n c : Nat) (L : List UInt8) (w : World) (g0 : Reads w a0 (bts L)) (gn : L.length = n) (gc : n ≤ c) (gr : c * 1 ≤ 140737488351232) :
    Calls Try.prog 6 #[s.v, .slice a0 n c] w fun e w' => e = .returned (.bool true) ∧ Chg [] w w' := by
  obtain ⟨c0, c1, c2, c3⟩ := sup_laid w s
  have q0 := Chg.alloc [] w (supObj s)
  have ht := take_form s
  obtain ⟨G, B, D, X⟩ := s
  unfold SB.v supObj at *
  dsimp only at c0 c1 c2 c3 q0 ⊢
  go_enter Try.func6, Try.ntmps6
  go_wp2_with fail
  generalize w.alloc _ = w1 at *
  generalize w.heap.size = nb at *
  refine (U.put ⟨G, B, D, X⟩ w1 hs).mono ?_
  rintro e w2 ⟨g2, ⟨hm, b, o, x, rfl, hr⟩ | ⟨hm, rfl⟩⟩
  · have ht := ht hm
    have cM := fun (u : World) => U.may ⟨G, B, D, X⟩ u hs
    unfold SB.v at cM
    rw [hm] at cM
    have HM := mkHid cM
    replace c0 := g2.cellv c0 (by simp)
    replace c1 := g2.cellv c1 (by simp)
    replace c2 := g2.cellv c2 (by simp)
    replace c3 := g2.cellv c3 (by simp)
    replace q0 := q0.then g2
    have hF := SB.form_length ⟨G, B, D, X⟩
    clear cM g2 hm
    go_wp2_with fail
    refine (U.take (some ⟨b, o, none⟩) 64 x _ w2 hr.reads hF hr.le hr.max).mono ?_
    rintro e w3 ⟨he, g3⟩
    rw [ht] at he
    subst he
    obtain ⟨y0, y1, y2, y3⟩ := sup_laid w3 ⟨G, B, D, X⟩
    have g4 := Chg.alloc [] w3 (supObj ⟨G, B, D, X⟩)
    unfold SB.v supObj at *
    dsimp only at y0 y1 y2 y3 g4 ⊢
    replace c0 := (g3.then g4).cellv c0 (by simp)
    replace c1 := (g3.then g4).cellv c1 (by simp)
    replace c2 := (g3.then g4).cellv c2 (by simp)
    replace c3 := (g3.then g4).cellv c3 (by simp)
    replace q0 := q0.then (g3.then g4)
    clear g3 g4 hr ht hF
    go_wp2_with fail
    generalize w3.alloc _ = w4 at *
    generalize w3.heap.size = tb at *
    refine (HM.out w4).mono ?_
    rintro e w5 ⟨rfl, g5⟩
    replace q0 := q0.then g5
    clear c0 c1 c2 c3 y0 y1 y2 y3 g5
    go_wp2_with fail
    refine (U.take a0 n c L w5 (g0.keep q0) gn gc (by unfold maxLen; omega)).mono ?_
    rintro e v2 ⟨he, gA⟩
    subst he
    rcases take_cases L with ⟨h0, hm2, hf2⟩ | ⟨h0, hn2, -⟩
    · obtain ⟨⟨er, ⟨G2, B2, D2, X2⟩⟩, hT⟩ : ∃ r, takeS L = r := ⟨_, rfl⟩
      rw [hT] at h0 hm2 hf2 ⊢
      dsimp only at h0 hm2 hf2
      subst h0
      unfold SB.v
      dsimp only
      obtain ⟨d0, d1, d2, d3⟩ := sup_laid v2 ⟨G2, B2, D2, X2⟩
      have g3 := Chg.alloc [] v2 (supObj ⟨G2, B2, D2, X2⟩)
      unfold supObj at *
      dsimp only at d0 d1 d2 d3 g3
      have q3 := q0.then (gA.then g3)
      have HK := mkHid (And.intro hm2 hf2)
      clear hm2 hf2 hT gA g3
      go_wp2_with fail
      generalize v2.alloc _ = v3 at *
      generalize v2.heap.size = yb at *
      refine (U.put ⟨G2, B2, D2, X2⟩ v3 (SB.fits_of_may HK.out.1)).mono ?_
      rintro e v4 ⟨g4, ⟨-, b, o, x, rfl, hr⟩ | ⟨hm, -⟩⟩
      case inr => exact absurd (hm.symm.trans HK.out.1) (by simp)
      rw [HK.out.2] at hr
      have hl64 : L.length = 64 := by rw [← HK.out.2]; exact SB.form_length _
      replace q3 := q3.then g4
      have hrr := hr.reads
      have gL := g0.keep q3
      clear hr g4 d0 d1 d2 d3
      go_wp2_with fail
      refine (awake_any U v4).mono ?_
      rintro e v5 ⟨rfl, g6⟩
      have cB := beq_any (some ⟨b, o, none⟩) 64 x L a0 n c L v5 (hrr.keep g6) hl64 (gL.keep g6) gn
      rw [decide_eq_true rfl] at cB
      go_wp2_with (go_at_call 12; refine cB.mono ?_; rintro e w' ⟨rfl, rfl⟩)
      go_ret
      exact ⟨rfl, q3.then g6⟩
    · rw [hn2]
      obtain ⟨er, hT⟩ : ∃ r, (takeS L).1 = r := ⟨_, rfl⟩
      rw [hT] at h0 ⊢
      unfold SB.v SB.none
      dsimp only
      have d1 : ((er : Int) != 0) = true := by simp; omega
      obtain ⟨y0, y1, y2, y3⟩ := sup_laid v2 ⟨0, 0, 0, 0⟩
      have g3 := Chg.alloc [] v2 (supObj ⟨0, 0, 0, 0⟩)
      unfold supObj at *
      dsimp only at y0 y1 y2 y3 g3
      have q3 := q0.then (gA.then g3)
      clear hn2 hT gA g3 h0
      go_wp2_with fail
      generalize v2.alloc _ = v3 at *
      generalize v2.heap.size = yb at *
      refine (awake_any U v3).mono ?_
      rintro e v5 ⟨rfl, g6⟩
      replace y0 := g6.cellv y0 (by simp)
      replace y1 := g6.cellv y1 (by simp)
      replace y2 := g6.cellv y2 (by simp)
      replace y3 := g6.cellv y3 (by simp)
      go_wp2_with fail
      go_ret
      exact ⟨rfl, q3.then g6⟩
  · have cM := fun (u : World) => U.may ⟨G, B, D, X⟩ u hs
    unfold SB.v at cM
    rw [hm] at cM
    have HM := mkHid cM
    replace c0 := g2.cellv c0 (by simp)
    replace c1 := g2.cellv c1 (by simp)
    replace c2 := g2.cellv c2 (by simp)
    replace c3 := g2.cellv c3 (by simp)
    replace q0 := q0.then g2
    clear cM g2 hm ht
    go_wp2_with fail
    refine (HM.out w2).mono ?_
    rintro e w5 ⟨rfl, g5⟩
    replace q0 := q0.then g5
    clear c0 c1 c2 c3 g5
    go_wp2_with fail
    refine (U.take a0 n c L w5 (g0.keep q0) gn gc (by unfold maxLen; omega)).mono ?_
    rintro e v2 ⟨he, gA⟩
    subst he
    rcases take_cases L with ⟨h0, hm2, hf2⟩ | ⟨h0, hn2, -⟩
    · obtain ⟨⟨er, ⟨G2, B2, D2, X2⟩⟩, hT⟩ : ∃ r, takeS L = r := ⟨_, rfl⟩
      rw [hT] at h0 hm2 hf2 ⊢
      dsimp only at h0 hm2 hf2
      subst h0
      unfold SB.v
      dsimp only
      obtain ⟨d0, d1, d2, d3⟩ := sup_laid v2 ⟨G2, B2, D2, X2⟩
      have g3 := Chg.alloc [] v2 (supObj ⟨G2, B2, D2, X2⟩)
      unfold supObj at *
      dsimp only at d0 d1 d2 d3 g3
      have q3 := q0.then (gA.then g3)
      have HK := mkHid (And.intro hm2 hf2)
      clear hm2 hf2 hT gA g3
      go_wp2_with fail
      generalize v2.alloc _ = v3 at *
      generalize v2.heap.size = yb at *
      refine (U.put ⟨G2, B2, D2, X2⟩ v3 (SB.fits_of_may HK.out.1)).mono ?_
      rintro e v4 ⟨g4, ⟨-, b, o, x, rfl, hr⟩ | ⟨hm, -⟩⟩
      case inr => exact absurd (hm.symm.trans HK.out.1) (by simp)
      rw [HK.out.2] at hr
      have hl64 : L.length = 64 := by rw [← HK.out.2]; exact SB.form_length _
      replace q3 := q3.then g4
      have hrr := hr.reads
      have gL := g0.keep q3
      clear hr g4 d0 d1 d2 d3
      go_wp2_with fail
      refine (awake_any U v4).mono ?_
      rintro e v5 ⟨rfl, g6⟩
      have cB := beq_any (some ⟨b, o, none⟩) 64 x L a0 n c L v5 (hrr.keep g6) hl64 (gL.keep g6) gn
      rw [decide_eq_true rfl] at cB
      go_wp2_with (go_at_call 12; refine cB.mono ?_; rintro e w' ⟨rfl, rfl⟩)
      go_ret
      exact ⟨rfl, q3.then g6⟩
    · rw [hn2]
      obtain ⟨er, hT⟩ : ∃ r, (takeS L).1 = r := ⟨_, rfl⟩
      rw [hT] at h0 ⊢
      unfold SB.v SB.none
      dsimp only
      have d1 : ((er : Int) != 0) = true := by simp; omega
      obtain ⟨y0, y1, y2, y3⟩ := sup_laid v2 ⟨0, 0, 0, 0⟩
      have g3 := Chg.alloc [] v2 (supObj ⟨0, 0, 0, 0⟩)
      unfold supObj at *
      dsimp only at y0 y1 y2 y3 g3
      have q3 := q0.then (gA.then g3)
      clear hn2 hT gA g3 h0
      go_wp2_with fail
      generalize v2.alloc _ = v3 at *
      generalize v2.heap.size = yb at *
      refine (awake_any U v3).mono ?_
      rintro e v5 ⟨rfl, g6⟩
      replace y0 := g6.cellv y0 (by simp)
      replace y1 := g6.cellv y1 (by simp)
      replace y2 := g6.cellv y2 (by simp)
      replace y3 := g6.cellv y3 (by simp)
      go_wp2_with fail
      go_ret
      exact ⟨rfl, q3.then g6⟩
end Go.Proofs.Ythbnakahcchbnaa
