/- The reference: Same, Own. -/
import Derived.Test.YtlaeonemlodhmaaIa
namespace Go.Proofs.Ytlaeonemlodhmaa
open Go.RowKit
set_option linter.unusedVariables false
set_option linter.unusedSimpArgs false
attribute [local go_sem ↓] Go.wp_at_zero Go.wp_at_succ

set_option maxRecDepth 20000 in
set_option maxHeartbeats 1000000 in
theorem rsame_any (lf : Bool) (ka : Option Addr) (kl kc : Nat) (va : Option Addr) (vl vc : Nat) (K V : List Nat) (lf' : Bool) (ka' : Option Addr) (kl' kc' : Nat) (va' : Option Addr) (vl' vc' : Nat) (K' V' : List Nat) (w : World) (h : RdN w ka kc va vc K V) (hk : K.length = kl) (hv : V.length = vl) (g : RdN w ka' kc' va' vc' K' V') (hk' : K'.length = kl') (hv' : V'.length = vl') :
    Calls Try.prog 19 #[.agg #[.bool lf, .slice ka kl kc, .slice va vl vc], .agg #[.bool lf', .slice ka' kl' kc', .slice va' vl' vc']] w fun e w' => e = .returned (.bool (sameB lf lf' K V K' V')) ∧ Chg [] w w' := by
  have hkb : kl ≤ 140737488351232 := by have := h.ck; have := h.bk; omega
  have hvb : vl ≤ 140737488351232 := by have := h.cv; have := h.bv; omega
  have g0 : Chg [] w ((w.alloc (.cells #[.bool lf, .slice ka kl kc, .slice va vl vc] 24)).alloc (.cells #[.bool lf', .slice ka' kl' kc', .slice va' vl' vc'] 24)) := (Chg.alloc [] w _).then (Chg.alloc [] _ _)
  by_cases e0 : lf = lf'
  · subst e0
    have b0 : (lf != lf) = false := by simp
    by_cases e1 : kl = kl'
    · subst e1
      have b1 : ((kl : Int) != (kl : Int)) = false := by simp
      by_cases e2 : vl = vl'
      · subst e2
        have b2 : ((vl : Int) != (vl : Int)) = false := by simp
        have hs : sameB lf lf K V K' V' = (decide (K = K') && decide (V = V')) := by unfold sameB; rw [decide_eq_true rfl, Bool.true_and]
        rw [hs]
        have HK := mkHid hk
        have HV := mkHid hv
        have HK' := mkHid hk'
        have HV' := mkHid hv'
        clear hs hk hv hk' hv'
        have hcells := two_boxes w (.bool lf) (.slice ka kl kc) (.slice va vl vc) (.bool lf) (.slice ka' kl kc') (.slice va' vl vc') 24
        have HCL := mkHid hcells
        clear hcells
        go_enter Try.func19, Try.ntmps19
        go_wp2_with fail
        generalize (w.alloc (.cells #[.bool lf, .slice ka kl kc, .slice va vl vc] 24)).alloc (.cells #[.bool lf, .slice ka' kl kc', .slice va' vl vc'] 24) = w1 at *
        generalize w.heap.size = b at *
        obtain ⟨c1, c2, c3, c4⟩ := HCL.out
        go_loopw [5] (fun iv wr => ∃ k : Nat, iv = .int .i64 k ∧ k ≤ kl ∧ K.take k = K'.take k ∧ Chg [] w1 wr) (fun iv _ => kl - (intOf iv).toNat)
        case atStart => exact ⟨0, rfl, Nat.zero_le _, by simp, Chg.refl _ _⟩
        case round =>
          obtain ⟨k, rfl, hkn, he, hg⟩ := hrel
          have y1 := hg.cellv c1 (by simp)
          have y2 := hg.cellv c2 (by simp)
          have y3 := hg.cellv c3 (by simp)
          have y4 := hg.cellv c4 (by simp)
          by_cases hlt : k < kl
          · have hd : decide (k < kl) = true := decide_eq_true hlt
            have hd2 : decide ((k : Int) < (kl : Int)) = true := decide_eq_true (by omega)
            have kL : k < K.length := by rw [HK.out]; exact hlt
            have kM : k < K'.length := by rw [HK'.out]; exact hlt
            obtain ⟨x, hx⟩ : ∃ x, K[k]? = some x := ⟨_, List.getElem?_eq_getElem kL⟩
            obtain ⟨y, hy⟩ : ∃ y, K'[k]? = some y := ⟨_, List.getElem?_eq_getElem kM⟩
            obtain ⟨xb, xo, rfl, cx, _⟩ := reads_lt (((h.keep g0).keep hg).rk) k _ (uvs_get hx)
            obtain ⟨yb, yo, rfl, cy, _⟩ := reads_lt (((g.keep g0).keep hg).rk) k _ (uvs_get hy)
            have hti := take_iff kL kM he hx hy
            have HT := mkHid hti
            clear hti he hx hy kL kM
            by_cases hxy : x = y
            · have q1 : ((x : Int) != (y : Int)) = false := by simp [hxy]
              have q2 : (x != y) = false := by simp [hxy]
              have HX := mkHid hxy
              clear hxy
              go_wp2_with fail
              go_quiet (fail)
              go_wp2_with fail
              exact ⟨⟨k + 1, by first | rfl | go_num, by omega, HT.out.2 HX.out, hg.then (Chg.drewN _ _)⟩, by simp [intOf]; omega⟩
            · have q1 : ((x : Int) != (y : Int)) = true := by simp; omega
              have q2 : (x != y) = true := by simp [hxy]
              have HX := mkHid hxy
              clear hxy
              go_wp2_with fail
              go_quiet (fail)
              go_wp2_with fail
              go_ret
              have hne : K ≠ K' := fun e => HX.out (HT.out.1 (by rw [e]))
              rw [decide_eq_false hne]
              exact ⟨by simp, (g0.then hg).then (Chg.drewN _ _)⟩
          · have hkk : k = kl := by omega
            have hd : decide (k < kl) = false := decide_eq_false hlt
            have hd2 : decide ((k : Int) < (kl : Int)) = false := decide_eq_false (by omega)
            have hLM : K = K' := by rwa [List.take_of_length_le (by rw [HK.out]; omega), List.take_of_length_le (by rw [HK'.out]; omega)] at he
            have HKK := mkHid hLM
            have hg1 := hg
            clear he hkk hLM
            go_wp2_with fail
            clear y1 y2 y3 y4 hg hlt hd hd2
            go_loopw [6] (fun iv wr => ∃ k : Nat, iv = .int .i64 k ∧ k ≤ vl ∧ V.take k = V'.take k ∧ Chg [] w1 wr) (fun iv _ => vl - (intOf iv).toNat)
            case atStart => exact ⟨0, rfl, Nat.zero_le _, by simp, hg1⟩
            case round =>
              obtain ⟨k, rfl, hkn, he, hg⟩ := hrel
              have y1 := hg.cellv c1 (by simp)
              have y2 := hg.cellv c2 (by simp)
              have y3 := hg.cellv c3 (by simp)
              have y4 := hg.cellv c4 (by simp)
              by_cases hlt : k < vl
              · have hd : decide (k < vl) = true := decide_eq_true hlt
                have hd2 : decide ((k : Int) < (vl : Int)) = true := decide_eq_true (by omega)
                have kL : k < V.length := by rw [HV.out]; exact hlt
                have kM : k < V'.length := by rw [HV'.out]; exact hlt
                obtain ⟨x, hx⟩ : ∃ x, V[k]? = some x := ⟨_, List.getElem?_eq_getElem kL⟩
                obtain ⟨y, hy⟩ : ∃ y, V'[k]? = some y := ⟨_, List.getElem?_eq_getElem kM⟩
                obtain ⟨xb, xo, rfl, cx, _⟩ := reads_lt (((h.keep g0).keep hg).rv) k _ (uvs_get hx)
                obtain ⟨yb, yo, rfl, cy, _⟩ := reads_lt (((g.keep g0).keep hg).rv) k _ (uvs_get hy)
                have hti := take_iff kL kM he hx hy
                have HT := mkHid hti
                clear hti he hx hy kL kM
                by_cases hxy : x = y
                · have q1 : ((x : Int) != (y : Int)) = false := by simp [hxy]
                  have q2 : (x != y) = false := by simp [hxy]
                  have HX := mkHid hxy
                  clear hxy
                  go_wp2_with fail
                  go_quiet (fail)
                  go_wp2_with fail
                  exact ⟨⟨k + 1, by first | rfl | go_num, by omega, HT.out.2 HX.out, hg.then (Chg.drewN _ _)⟩, by simp [intOf]; omega⟩
                · have q1 : ((x : Int) != (y : Int)) = true := by simp; omega
                  have q2 : (x != y) = true := by simp [hxy]
                  have HX := mkHid hxy
                  clear hxy
                  go_wp2_with fail
                  go_quiet (fail)
                  go_wp2_with fail
                  go_ret
                  have hne : V ≠ V' := fun e => HX.out (HT.out.1 (by rw [e]))
                  rw [decide_eq_false hne]
                  exact ⟨by simp, (g0.then hg).then (Chg.drewN _ _)⟩
              · have hkk : k = vl := by omega
                have hd : decide (k < vl) = false := decide_eq_false hlt
                have hd2 : decide ((k : Int) < (vl : Int)) = false := decide_eq_false (by omega)
                have hLM : V = V' := by rwa [List.take_of_length_le (by rw [HV.out]; omega), List.take_of_length_le (by rw [HV'.out]; omega)] at he
                have HLM := mkHid hLM
                clear he hLM hkk
                go_wp2_with fail
                go_ret
                rw [decide_eq_true HKK.out, decide_eq_true HLM.out]
                exact ⟨by simp, g0.then hg⟩
      · have b2 : ((vl : Int) != (vl' : Int)) = true := by simp; omega
        have b2' : (vl != vl') = true := by simp; omega
        have hs : sameB lf lf K V K' V' = false := by unfold sameB; rw [decide_eq_false (fun e => e2 (by rw [← hv, ← hv', e]) : ¬ V = V')]; simp
        rw [hs]
        clear hs hk hv hk' hv'
        go_enter Try.func19, Try.ntmps19
        go_wp2_with fail
        go_ret
        exact ⟨rfl, g0⟩
    · have b1 : ((kl : Int) != (kl' : Int)) = true := by simp; omega
      have b1' : (kl != kl') = true := by simp; omega
      have hs : sameB lf lf K V K' V' = false := by unfold sameB; rw [decide_eq_false (fun e => e1 (by rw [← hk, ← hk', e]) : ¬ K = K')]; simp
      rw [hs]
      clear hs hk hv hk' hv'
      go_enter Try.func19, Try.ntmps19
      go_wp2_with fail
      go_ret
      exact ⟨rfl, g0⟩
  · have b0 : (lf != lf') = true := by simp [e0]
    have hs : sameB lf lf' K V K' V' = false := by unfold sameB; rw [decide_eq_false e0]; rfl
    rw [hs]
    clear hs hk hv hk' hv'
    go_enter Try.func19, Try.ntmps19
    go_wp2_with fail
    go_ret
    exact ⟨rfl, g0⟩
set_option maxRecDepth 20000 in
set_option maxHeartbeats 1000000 in
theorem own_any (lf : Bool) (ka : Option Addr) (kl kc : Nat) (va : Option Addr) (vl vc : Nat) (K V : List Nat) (w : World) (h : RdN w ka kc va vc K V) (hk : K.length = kl) (hv : V.length = vl) :
    Calls Try.prog 15 #[.agg #[.bool lf, .slice ka kl kc, .slice va vl vc]] w fun e w' => OwnRes w.heap.size lf K V e w' ∧ Chg [] w w' := by
  have hk1 : kl ≤ maxLen ∧ kl * 8 ≤ 140737488355328 := by have := h.bk; unfold maxLen; omega
  have hv1 : vl ≤ maxLen ∧ vl * 8 ≤ 140737488355328 := by have := h.bv; unfold maxLen; omega
  have hbk := h.bk
  have hbv := h.bv
  have g0 := Chg.alloc [] w (.cells #[.bool lf, .slice ka kl kc, .slice va vl vc] 24)
  have hl := heap_alloc_last w (.cells #[.bool lf, .slice ka kl kc, .slice va vl vc] 24)
  have g1 := Chg.alloc [] (w.alloc (.cells #[.bool lf, .slice ka kl kc, .slice va vl vc] 24)) (.cells #[.bool false, .slice none 0 0, .slice none 0 0] 24)
  have t1 := start_there (w.alloc (.cells #[.bool lf, .slice ka kl kc, .slice va vl vc] 24))
  have hz : (w.alloc (.cells #[.bool lf, .slice ka kl kc, .slice va vl vc] 24)).heap.size = w.heap.size + 1 := by simp
  rw [hz] at t1
  have c0 := cell_of_row _ w.heap.size 0 _ _ _ hl
  have c1 := cell_of_row _ w.heap.size 1 _ _ _ hl
  have c2 := cell_of_row _ w.heap.size 2 _ _ _ hl
  have f1 := frozen_of_row _ w.heap.size 1 _ _ hl
  have f2 := frozen_of_row _ w.heap.size 2 _ _ hl
  simp only [List.getElem?_toArray, List.getElem?_cons_succ, List.getElem?_cons_zero] at c0 c1 c2
  have d0 := g1.cellv c0 (by simp)
  have d1 := g1.cellv c1 (by simp)
  have d2 := g1.cellv c2 (by simp)
  have e1 := (g1.frozen (p := ⟨w.heap.size, 1, none⟩) (block_lt_of_cell c1) (by simp)).trans f1
  have e2 := (g1.frozen (p := ⟨w.heap.size, 2, none⟩) (block_lt_of_cell c2) (by simp)).trans f2
  have hG := g0.then g1
  have hzz : w.heap.size + 2 ≤ ((w.alloc (.cells #[.bool lf, .slice ka kl kc, .slice va vl vc] 24)).alloc (.cells #[.bool false, .slice none 0 0, .slice none 0 0] 24)).heap.size := by simp
  have HH := mkHid h
  have HU := mkHid (show (uvs K).length = kl ∧ (uvs V).length = vl by rw [uvs_len, uvs_len]; exact ⟨hk, hv⟩)
  have HKV := mkHid (And.intro hk hv)
  have hsz : ((w.alloc (.cells #[.bool lf, .slice ka kl kc, .slice va vl vc] 24)).alloc (.cells #[.bool false, .slice none 0 0, .slice none 0 0] 24)).heap.size = w.heap.size + 2 := by simp
  have HSZ := mkHid hsz
  have hk2 : 0 + kl ≤ maxLen ∧ (0 + kl) * 8 ≤ 140737488355328 := by rw [Nat.zero_add]; exact hk1
  have hv2 : 0 + vl ≤ maxLen ∧ (0 + vl) * 8 ≤ 140737488355328 := by rw [Nat.zero_add]; exact hv1
  clear hl hz c0 c1 c2 f1 f2 g0 g1 hk hv h hsz hk1 hv1 hbk hbv
  have hs : w.heap.size ≤ ((w.alloc (.cells #[.bool lf, .slice ka kl kc, .slice va vl vc] 24)).alloc (.cells #[.bool false, .slice none 0 0, .slice none 0 0] 24)).heap.size := by have := HSZ.out; omega
  have HS := mkHid hs
  clear hs hzz
  go_enter Try.func15, Try.ntmps15
  go_wp2_with (first
    | (at_builtin
       refine wpList_append_k _ rfl (.tmp 5) (.tmp 7) 22 rfl 25 8 eltU w.heap.size none 0 0 [] rfl (Room.nil _ _ _) HS.out ka kl kc (uvs K) rfl (HH.out.keep hG).rk HU.out.1 (uvs_one _) hk2.1 hk2.2 ?_
       intro a2 k2 w2 r2 g2 f2
       rw [fp_none] at g2
       have x0 := g2.cellv d0 (by simp)
       have x1 := g2.cellv d1 (by simp)
       have x2 := g2.cellv d2 (by simp)
       have y1 := (g2.frozen (p := ⟨w.heap.size, 1, none⟩) (block_lt_of_cell d1) (by simp)).trans e1
       have y2 := (g2.frozen (p := ⟨w.heap.size, 2, none⟩) (block_lt_of_cell d2) (by simp)).trans e2
       have t2 := there_chg t1 g2 (by simp)
       have G2 := hG.then g2
       have q3 := fun v => G2.trans (Chg.setCell w2 ⟨w.heap.size, 1, none⟩ v) (U := []) (by simp) (fun q hq hlt => by simp at hq; omega)
       rw [Nat.zero_add, List.nil_append] at r2
       have HX := mkHid (And.intro r2 (And.intro f2 (And.intro t2 (And.intro q3 (And.intro g2.size x0)))))
       clear d0 d1 d2 e1 e2 t1 hG r2 f2 t2 q3 g2 G2 x0)
    | (at_builtin
       refine wpList_append_k _ rfl (.tmp 10) (.tmp 12) 22 rfl 25 8 eltU w.heap.size none 0 0 [] rfl (Room.nil _ _ _) (HX.out.2.2.2.1 _).size va vl vc (uvs V) rfl (HH.out.keep (HX.out.2.2.2.1 _)).rv HU.out.2 (uvs_one _) hv2.1 hv2.2 ?_
       intro a4 k4 w4 r4 g4 f4
       rw [fp_none] at g4
       obtain ⟨z0, z1, z2, u2, t4⟩ := own_second (by omega) HX.out.2.2.2.2.2 x1 x2 y2 HX.out.2.2.1 g4
       obtain ⟨v0, v1, v2, r0, r1, r2, q0, q1, q2⟩ := there3 t4
       rw [Nat.zero_add, List.nil_append] at r4
       have HY := mkHid (And.intro r4 (And.intro f4 g4))
       clear x1 x2 y1 y2 t4 r4 f4 g4))
  obtain ⟨p2, pf2, -, pq3, psz, -⟩ := HX.out
  obtain ⟨p4, pf4, pg4⟩ := HY.out
  have hs2 := HSZ.out
  have gA := Chg.setCell w2 ⟨w.heap.size, 1, none⟩ (.slice a2 kl k2)
  have gB := Chg.setCell w4 ⟨w.heap.size, 2, none⟩ (.slice a4 vl k4)
  have gC := three_chg (w4.setCell ⟨w.heap.size, 2, none⟩ (.slice a4 vl k4)) (w.heap.size + 1) (.bool lf) (.slice a2 kl k2) (.slice a4 vl k4)
  have szA : (w2.setCell ⟨w.heap.size, 1, none⟩ (.slice a2 kl k2)).heap.size = w2.heap.size := by simp
  have m2 : ∀ q, q ∈ fp a2 k2 → w.heap.size + 2 ≤ q := fun q hq => by
    rcases pf2 with e | e
    · rw [e, fp_none] at hq; simp at hq
    · rw [e] at hq; simp at hq; omega
  have m4 : ∀ q, q ∈ fp a4 k4 → w.heap.size + 2 ≤ q := fun q hq => by
    rcases pf4 with e | e
    · rw [e, fp_none] at hq; simp at hq
    · rw [e, szA] at hq; simp only [List.mem_singleton] at hq; omega
  have R2 := (((p2.chg gA (fun q hq hm => by have := m2 q hq; simp at hm; omega)).chg pg4 (by simp)).chg gB (fun q hq hm => by have := m2 q hq; simp at hm; omega)).chg gC (fun q hq hm => by have := m2 q hq; simp at hm; omega)
  have R4 := (p4.chg gB (fun q hq hm => by have := m4 q hq; simp at hm; omega)).chg gC (fun q hq hm => by have := m4 q hq; simp at hm; omega)
  have gD := (((pq3 (.slice a2 kl k2)).then pg4).trans gB (U := []) (by simp) (fun q hq hlt => by simp at hq; omega)).trans gC (U := []) (by simp) (fun q hq hlt => by simp at hq; omega)
  refine bodyPost_ret (v := .agg #[.bool lf, .slice a2 kl k2, .slice a4 vl k4]) (by simp [results, Try.results15, go_sem, r0, r1, r2]) rfl ⟨?_, gD⟩
  obtain ⟨hk, hv⟩ := HKV.out
  refine ⟨a2, k2, a4, k4, by rw [hk, hv], ⟨R2.reads, R4.reads, by rw [hk]; exact R2.le, by rw [hv]; exact R4.le, HH.out.bk, HH.out.bv, R2.max, R4.max⟩, fun q hq => by have := m2 q hq; omega, fun q hq => by have := m4 q hq; omega⟩
end Go.Proofs.Ytlaeonemlodhmaa
