/- The reference: Same. -/
import Derived.Test.YtbopfpdgoalfoaaDoorNc
namespace Go.Proofs.YtbopfpdgoalfoaaDoor
open Go.RowKit
set_option linter.unusedVariables false
set_option linter.unusedSimpArgs false
attribute [local go_sem ↓] Go.wp_at_zero Go.wp_at_succ

def sameB (lf lf' : Bool) (K V K' V' : List Nat) : Bool := decide (lf = lf') && (decide (K = K') && decide (V = V'))
theorem take_iff {L M : List Nat} {k : Nat} (hl : k < L.length) (hm : k < M.length) (he : L.take k = M.take k) {x y : Nat} (hx : L[k]? = some x) (hy : M[k]? = some y) : L.take (k + 1) = M.take (k + 1) ↔ x = y := by
  rw [List.getElem?_eq_getElem hl] at hx
  rw [List.getElem?_eq_getElem hm] at hy
  cases hx; cases hy
  rw [List.take_succ_eq_append_getElem hl, List.take_succ_eq_append_getElem hm, he]
  exact ⟨fun h => by simpa using List.append_cancel_left h, fun h => by rw [h]⟩
theorem two_boxes (w : World) (x0 x1 x2 y0 y1 y2 : Value) (t : TypeId) : ((w.alloc (.cells #[x0, x1, x2] t)).alloc (.cells #[y0, y1, y2] t)).cell? ⟨w.heap.size, 1, none⟩ = some x1 ∧ ((w.alloc (.cells #[x0, x1, x2] t)).alloc (.cells #[y0, y1, y2] t)).cell? ⟨w.heap.size, 2, none⟩ = some x2 ∧
    ((w.alloc (.cells #[x0, x1, x2] t)).alloc (.cells #[y0, y1, y2] t)).cell? ⟨w.heap.size + 1, 1, none⟩ = some y1 ∧ ((w.alloc (.cells #[x0, x1, x2] t)).alloc (.cells #[y0, y1, y2] t)).cell? ⟨w.heap.size + 1, 2, none⟩ = some y2 := by
  have g := Chg.alloc [] (w.alloc (.cells #[x0, x1, x2] t)) (.cells #[y0, y1, y2] t)
  have hz : (w.alloc (.cells #[x0, x1, x2] t)).heap.size = w.heap.size + 1 := by simp
  have h2 := fun j => cell_of_row ((w.alloc (.cells #[x0, x1, x2] t)).alloc (.cells #[y0, y1, y2] t)) _ j _ _ _ (heap_alloc_last (w.alloc (.cells #[x0, x1, x2] t)) (.cells #[y0, y1, y2] t))
  rw [hz] at h2
  have h1 := fun j => cell_of_row (w.alloc (.cells #[x0, x1, x2] t)) _ j _ _ _ (heap_alloc_last w (.cells #[x0, x1, x2] t))
  exact ⟨g.cellv (h1 1) (by simp), g.cellv (h1 2) (by simp), h2 1, h2 2⟩
set_option maxRecDepth 20000 in
set_option maxHeartbeats 1000000 in
theorem rsame_any (lf : Bool) (ka : Option Addr) (kl kc : Nat) (va : Option Addr) (vl vc : Nat) (K V : List Nat) (lf' : Bool) (ka' : Option Addr) (kl' kc' : Nat) (va' : Option Addr) (vl' vc' : Nat) (K' V' : List Nat) (w : World) (h : RdN w ka kc va vc K V) (hk : K.length = kl) (hv : V.length = vl) (g : RdN w ka' kc' va' vc' K' V') (hk' : K'.length = kl') (hv' : V'.length = vl') :
    Calls Tryd.prog 6 #[.agg #[.bool lf, .slice ka kl kc, .slice va vl vc], .agg #[.bool lf', .slice ka' kl' kc', .slice va' vl' vc']] w fun e w' => e = .returned (.bool (sameB lf lf' K V K' V')) ∧ Chg [] w w' := by
  have hkb : kl ≤ 140737488351232 := by have := h.ck; have := h.bk; omega
  have hvb : vl ≤ 140737488351232 := by have := h.cv; have := h.bv; omega
  have g0 : Chg [] w ((w.alloc (.cells #[.bool lf, .slice ka kl kc, .slice va vl vc] 24)).alloc (.cells #[.bool lf', .slice ka' kl' kc', .slice va' vl' vc'] 24)) := (Chg.alloc [] w _).then (Chg.alloc [] _ _)
  by_cases e0 : lf = lf'
  · subst e0
    have b0 : (lf != lf) = false := by simp
    by_cases e1 : kl = kl'
    · subst e1
      have b1 : ((kl : Int) != (kl : Int)) = false := by simp
      by_cases e2 : vl = vl'
      · subst e2
        have b2 : ((vl : Int) != (vl : Int)) = false := by simp
        have hs : sameB lf lf K V K' V' = (decide (K = K') && decide (V = V')) := by unfold sameB; rw [decide_eq_true rfl, Bool.true_and]
        rw [hs]
        have HK := mkHid hk
        have HV := mkHid hv
        have HK' := mkHid hk'
        have HV' := mkHid hv'
        clear hs hk hv hk' hv'
        have hcells := two_boxes w (.bool lf) (.slice ka kl kc) (.slice va vl vc) (.bool lf) (.slice ka' kl kc') (.slice va' vl vc') 24
        have HCL := mkHid hcells
        clear hcells
        go_enter Tryd.func6, Tryd.ntmps6
        go_wp2_with fail
        generalize (w.alloc (.cells #[.bool lf, .slice ka kl kc, .slice va vl vc] 24)).alloc (.cells #[.bool lf, .slice ka' kl kc', .slice va' vl vc'] 24) = w1 at *
        generalize w.heap.size = b at *
        obtain ⟨c1, c2, c3, c4⟩ := HCL.out
        go_loopw [5] (fun iv wr => ∃ k : Nat, iv = .int .i64 k ∧ k ≤ kl ∧ K.take k = K'.take k ∧ Chg [] w1 wr) (fun iv _ => kl - (intOf iv).toNat)
        case atStart => exact ⟨0, rfl, Nat.zero_le _, by simp, Chg.refl _ _⟩
        case round =>
          obtain ⟨k, rfl, hkn, he, hg⟩ := hrel
          have y1 := hg.cellv c1 (by simp)
          have y2 := hg.cellv c2 (by simp)
          have y3 := hg.cellv c3 (by simp)
          have y4 := hg.cellv c4 (by simp)
          by_cases hlt : k < kl
          · have hd : decide (k < kl) = true := decide_eq_true hlt
            have hd2 : decide ((k : Int) < (kl : Int)) = true := decide_eq_true (by omega)
            have kL : k < K.length := by rw [HK.out]; exact hlt
            have kM : k < K'.length := by rw [HK'.out]; exact hlt
            obtain ⟨x, hx⟩ : ∃ x, K[k]? = some x := ⟨_, List.getElem?_eq_getElem kL⟩
            obtain ⟨y, hy⟩ : ∃ y, K'[k]? = some y := ⟨_, List.getElem?_eq_getElem kM⟩
            obtain ⟨xb, xo, rfl, cx, _⟩ := reads_lt (((h.keep g0).keep hg).rk) k _ (uvs_get hx)
            obtain ⟨yb, yo, rfl, cy, _⟩ := reads_lt (((g.keep g0).keep hg).rk) k _ (uvs_get hy)
            have hti := take_iff kL kM he hx hy
            have HT := mkHid hti
            clear hti he hx hy kL kM
            by_cases hxy : x = y
            · have q1 : ((x : Int) != (y : Int)) = false := by simp [hxy]
              have q2 : (x != y) = false := by simp [hxy]
              have HX := mkHid hxy
              clear hxy
              go_wp2_with fail
              go_quiet (fail)
              go_wp2_with fail
              exact ⟨⟨k + 1, by first | rfl | go_num, by omega, HT.out.2 HX.out, hg.then (Chg.drewN _ _)⟩, by simp [intOf]; omega⟩
            · have q1 : ((x : Int) != (y : Int)) = true := by simp; omega
              have q2 : (x != y) = true := by simp [hxy]
              have HX := mkHid hxy
              clear hxy
              go_wp2_with fail
              go_quiet (fail)
              go_wp2_with fail
              go_ret
              have hne : K ≠ K' := fun e => HX.out (HT.out.1 (by rw [e]))
              rw [decide_eq_false hne]
              exact ⟨by simp, (g0.then hg).then (Chg.drewN _ _)⟩
          · have hkk : k = kl := by omega
            have hd : decide (k < kl) = false := decide_eq_false hlt
            have hd2 : decide ((k : Int) < (kl : Int)) = false := decide_eq_false (by omega)
            have hLM : K = K' := by rwa [List.take_of_length_le (by rw [HK.out]; omega), List.take_of_length_le (by rw [HK'.out]; omega)] at he
            have HKK := mkHid hLM
            have hg1 := hg
            clear he hkk hLM
            go_wp2_with fail
            clear y1 y2 y3 y4 hg hlt hd hd2
            go_loopw [6] (fun iv wr => ∃ k : Nat, iv = .int .i64 k ∧ k ≤ vl ∧ V.take k = V'.take k ∧ Chg [] w1 wr) (fun iv _ => vl - (intOf iv).toNat)
            case atStart => exact ⟨0, rfl, Nat.zero_le _, by simp, hg1⟩
            case round =>
              obtain ⟨k, rfl, hkn, he, hg⟩ := hrel
              have y1 := hg.cellv c1 (by simp)
              have y2 := hg.cellv c2 (by simp)
              have y3 := hg.cellv c3 (by simp)
              have y4 := hg.cellv c4 (by simp)
              by_cases hlt : k < vl
              · have hd : decide (k < vl) = true := decide_eq_true hlt
                have hd2 : decide ((k : Int) < (vl : Int)) = true := decide_eq_true (by omega)
                have kL : k < V.length := by rw [HV.out]; exact hlt
                have kM : k < V'.length := by rw [HV'.out]; exact hlt
                obtain ⟨x, hx⟩ : ∃ x, V[k]? = some x := ⟨_, List.getElem?_eq_getElem kL⟩
                obtain ⟨y, hy⟩ : ∃ y, V'[k]? = some y := ⟨_, List.getElem?_eq_getElem kM⟩
                obtain ⟨xb, xo, rfl, cx, _⟩ := reads_lt (((h.keep g0).keep hg).rv) k _ (uvs_get hx)
                obtain ⟨yb, yo, rfl, cy, _⟩ := reads_lt (((g.keep g0).keep hg).rv) k _ (uvs_get hy)
                have hti := take_iff kL kM he hx hy
                have HT := mkHid hti
                clear hti he hx hy kL kM
                by_cases hxy : x = y
                · have q1 : ((x : Int) != (y : Int)) = false := by simp [hxy]
                  have q2 : (x != y) = false := by simp [hxy]
                  have HX := mkHid hxy
                  clear hxy
                  go_wp2_with fail
                  go_quiet (fail)
                  go_wp2_with fail
                  exact ⟨⟨k + 1, by first | rfl | go_num, by omega, HT.out.2 HX.out, hg.then (Chg.drewN _ _)⟩, by simp [intOf]; omega⟩
                · have q1 : ((x : Int) != (y : Int)) = true := by simp; omega
                  have q2 : (x != y) = true := by simp [hxy]
                  have HX := mkHid hxy
                  clear hxy
                  go_wp2_with fail
                  go_quiet (fail)
                  go_wp2_with fail
                  go_ret
                  have hne : V ≠ V' := fun e => HX.out (HT.out.1 (by rw [e]))
                  rw [decide_eq_false hne]
                  exact ⟨by simp, (g0.then hg).then (Chg.drewN _ _)⟩
              · have hkk : k = vl := by omega
                have hd : decide (k < vl) = false := decide_eq_false hlt
                have hd2 : decide ((k : Int) < (vl : Int)) = false := decide_eq_false (by omega)
                have hLM : V = V' := by rwa [List.take_of_length_le (by rw [HV.out]; omega), List.take_of_length_le (by rw [HV'.out]; omega)] at he
                have HLM := mkHid hLM
                clear he hLM hkk
                go_wp2_with fail
                go_ret
                rw [decide_eq_true HKK.out, decide_eq_true HLM.out]
                exact ⟨by simp, g0.then hg⟩
      · have b2 : ((vl : Int) != (vl' : Int)) = true := by simp; omega
        have b2' : (vl != vl') = true := by simp; omega
        have hs : sameB lf lf K V K' V' = false := by unfold sameB; rw [decide_eq_false (fun e => e2 (by rw [← hv, ← hv', e]) : ¬ V = V')]; simp
        rw [hs]
        clear hs hk hv hk' hv'
        go_enter Tryd.func6, Tryd.ntmps6
        go_wp2_with fail
        go_ret
        exact ⟨rfl, g0⟩
    · have b1 : ((kl : Int) != (kl' : Int)) = true := by simp; omega
      have b1' : (kl != kl') = true := by simp; omega
      have hs : sameB lf lf K V K' V' = false := by unfold sameB; rw [decide_eq_false (fun e => e1 (by rw [← hk, ← hk', e]) : ¬ K = K')]; simp
      rw [hs]
      clear hs hk hv hk' hv'
      go_enter Tryd.func6, Tryd.ntmps6
      go_wp2_with fail
      go_ret
      exact ⟨rfl, g0⟩
  · have b0 : (lf != lf') = true := by simp [e0]
    have hs : sameB lf lf' K V K' V' = false := by unfold sameB; rw [decide_eq_false e0]; rfl
    rw [hs]
    clear hs hk hv hk' hv'
    go_enter Tryd.func6, Tryd.ntmps6
    go_wp2_with fail
    go_ret
    exact ⟨rfl, g0⟩
end Go.Proofs.YtbopfpdgoalfoaaDoor
