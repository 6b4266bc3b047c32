/- Package node: equal, Same. -/
import Derived.Test.YtbopfpdgoalfoaaDoorNk
namespace Go.Proofs.YtbopfpdgoalfoaaDoor
open Go.RowKit
set_option linter.unusedVariables false
set_option linter.unusedSimpArgs false
attribute [local go_sem ↓] Go.wp_at_zero Go.wp_at_succ

set_option maxRecDepth 20000 in
theorem equal_any (ka : Option Addr) (kl kc : Nat) (K : List Nat) (ka' : Option Addr) (kl' kc' : Nat) (K' : List Nat) (w : World) (h : Reads w ka (uvs K)) (hk : K.length = kl) (hkl : kl ≤ 140737488351232) (g : Reads w ka' (uvs K')) (hk' : K'.length = kl') (hkl' : kl' ≤ 140737488351232) :
    Calls Tryd.prog 32 #[.slice ka kl kc, .slice ka' kl' kc'] w fun e w' => e = .returned (.bool (decide (K = K'))) ∧ w = w' := by
  by_cases e1 : kl = kl'
  · subst e1
    have b1 : ((kl : Int) != (kl : Int)) = false := by simp
    have HK := mkHid hk
    have HK' := mkHid hk'
    clear hk hk'
    go_enter Tryd.func32, Tryd.ntmps32
    go_wp2_with fail
    go_loop [14] (fun iv => ∃ k : Nat, iv = .int .i64 k ∧ k ≤ kl ∧ K.take k = K'.take k) (fun iv => kl - (intOf iv).toNat)
    case atStart => exact ⟨0, rfl, Nat.zero_le _, by simp⟩
    case round =>
      obtain ⟨k, rfl, hkn, he⟩ := hrel
      by_cases hlt : k < kl
      · have hd : decide (k < kl) = true := decide_eq_true hlt
        have hd2 : decide ((k : Int) < (kl : Int)) = true := decide_eq_true (by omega)
        have kL : k < K.length := by rw [HK.out]; exact hlt
        have kM : k < K'.length := by rw [HK'.out]; exact hlt
        obtain ⟨x, hx⟩ : ∃ x, K[k]? = some x := ⟨_, List.getElem?_eq_getElem kL⟩
        obtain ⟨y, hy⟩ : ∃ y, K'[k]? = some y := ⟨_, List.getElem?_eq_getElem kM⟩
        obtain ⟨xb, xo, rfl, cx, _⟩ := reads_lt h k _ (uvs_get hx)
        obtain ⟨yb, yo, rfl, cy, _⟩ := reads_lt g k _ (uvs_get hy)
        have hti := take_iff kL kM he hx hy
        have HT := mkHid hti
        clear hti he hx hy kL kM h g
        by_cases hxy : x = y
        · have q1 : ((x : Int) != (y : Int)) = false := by simp [hxy]
          have q2 : (x != y) = false := by simp [hxy]
          have HX := mkHid hxy
          clear hxy
          go_wp2_with fail
          go_round
          case rel => exact ⟨k + 1, by first | rfl | go_num, by omega, HT.out.2 HX.out⟩
          case measure => simp [intOf]; omega
        · have q1 : ((x : Int) != (y : Int)) = true := by simp; omega
          have q2 : (x != y) = true := by simp [hxy]
          have HX := mkHid hxy
          clear hxy
          go_wp2_with fail
          go_ret
          have hne : K ≠ K' := fun e => HX.out (HT.out.1 (by rw [e]))
          rw [decide_eq_false hne]
          exact ⟨rfl, rfl⟩
      · have hkk : k = kl := by omega
        have hd : decide (k < kl) = false := decide_eq_false hlt
        have hd2 : decide ((k : Int) < (kl : Int)) = false := decide_eq_false (by omega)
        have hLM : K = K' := by rwa [List.take_of_length_le (by rw [HK.out]; omega), List.take_of_length_le (by rw [HK'.out]; omega)] at he
        have HKK := mkHid hLM
        clear he hkk hLM
        go_wp2_with fail
        go_ret
        rw [decide_eq_true HKK.out]
        exact ⟨rfl, rfl⟩
  · have b1 : ((kl : Int) != (kl' : Int)) = true := by simp; omega
    have b2 : (kl != kl') = true := by simp; omega
    have hne : K ≠ K' := fun e => e1 (by rw [← hk, ← hk', e])
    rw [decide_eq_false hne]
    clear hne hk hk'
    go_enter Tryd.func32, Tryd.ntmps32
    go_wp2_with fail
    go_ret
    exact ⟨rfl, rfl⟩
theorem two_boxes0 (w : World) (x0 x1 x2 y0 y1 y2 : Value) (t : TypeId) : ((w.alloc (.cells #[x0, x1, x2] t)).alloc (.cells #[y0, y1, y2] t)).cell? ⟨w.heap.size, 0, none⟩ = some x0 ∧ ((w.alloc (.cells #[x0, x1, x2] t)).alloc (.cells #[y0, y1, y2] t)).cell? ⟨w.heap.size + 1, 0, none⟩ = some y0 := by
  have g := Chg.alloc [] (w.alloc (.cells #[x0, x1, x2] t)) (.cells #[y0, y1, y2] t)
  have hz : (w.alloc (.cells #[x0, x1, x2] t)).heap.size = w.heap.size + 1 := by simp
  have h2 := cell_of_row ((w.alloc (.cells #[x0, x1, x2] t)).alloc (.cells #[y0, y1, y2] t)) _ 0 _ _ _ (heap_alloc_last (w.alloc (.cells #[x0, x1, x2] t)) (.cells #[y0, y1, y2] t))
  rw [hz] at h2
  have h1 := cell_of_row (w.alloc (.cells #[x0, x1, x2] t)) _ 0 _ _ _ (heap_alloc_last w (.cells #[x0, x1, x2] t))
  exact ⟨g.cellv h1 (by simp), h2⟩
set_option maxRecDepth 20000 in
theorem same_any (lf : Bool) (ka : Option Addr) (kl kc : Nat) (va : Option Addr) (vl vc : Nat) (K V : List Nat) (lf' : Bool) (ka' : Option Addr) (kl' kc' : Nat) (va' : Option Addr) (vl' vc' : Nat) (K' V' : List Nat) (w : World) (h : RdN w ka kc va vc K V) (hk : K.length = kl) (hv : V.length = vl) (g : RdN w ka' kc' va' vc' K' V') (hk' : K'.length = kl') (hv' : V'.length = vl') :
    Calls Tryd.prog 20 #[.agg #[.bool lf, .slice ka kl kc, .slice va vl vc], .agg #[.bool lf', .slice ka' kl' kc', .slice va' vl' vc']] w fun e w' => e = .returned (.bool (sameB lf lf' K V K' V')) ∧ Chg [] w w' := by
  have hkb : kl ≤ 140737488351232 := by have := h.ck; have := h.bk; omega
  have hvb : vl ≤ 140737488351232 := by have := h.cv; have := h.bv; omega
  have hkb' : kl' ≤ 140737488351232 := by have := g.ck; have := g.bk; omega
  have hvb' : vl' ≤ 140737488351232 := by have := g.cv; have := g.bv; omega
  have g0 : Chg [] w ((w.alloc (.cells #[.bool lf, .slice ka kl kc, .slice va vl vc] 24)).alloc (.cells #[.bool lf', .slice ka' kl' kc', .slice va' vl' vc'] 24)) := (Chg.alloc [] w _).then (Chg.alloc [] _ _)
  have cK := fun (u : World) (gu : Chg [] w u) => equal_any ka kl kc K ka' kl' kc' K' u (h.keep gu).rk hk hkb (g.keep gu).rk hk' hkb'
  have cV := fun (u : World) (gu : Chg [] w u) => equal_any va vl vc V va' vl' vc' V' u (h.keep gu).rv hv hvb (g.keep gu).rv hv' hvb'
  obtain ⟨c1, c2, c3, c4⟩ := two_boxes w (.bool lf) (.slice ka kl kc) (.slice va vl vc) (.bool lf') (.slice ka' kl' kc') (.slice va' vl' vc') 24
  obtain ⟨c0, c5⟩ := two_boxes0 w (.bool lf) (.slice ka kl kc) (.slice va vl vc) (.bool lf') (.slice ka' kl' kc') (.slice va' vl' vc') 24
  have G0 := mkHid g0
  have CK := mkHid (cK _ g0)
  have CV := mkHid (cV _ g0)
  have HK := mkHid hk
  have HV := mkHid hv
  have HK' := mkHid hk'
  have HV' := mkHid hv'
  clear cK cV hk hv hk' hv' g0
  unfold sameB
  by_cases e0 : lf = lf'
  · subst e0
    have b0 : (lf == lf) = true := by simp
    rw [decide_eq_true rfl, Bool.true_and]
    by_cases e1 : K = K'
    · rw [decide_eq_true e1, Bool.true_and]
      rw [decide_eq_true e1] at CK
      generalize hq : decide (V = V') = q at *
      have HQ := mkHid hq
      clear e1 hq
      go_enter Tryd.func20, Tryd.ntmps20
      go_wp2_with (first | (go_at_call_of 32 (Value.slice ka kl kc); refine CK.out.mono ?_; rintro e w' ⟨rfl, rfl⟩) | (go_at_call_of 32 (Value.slice va vl vc); refine CV.out.mono ?_; rintro e w' ⟨rfl, rfl⟩))
      go_ret
      exact ⟨rfl, G0.out⟩
    · rw [decide_eq_false e1, Bool.false_and]
      rw [decide_eq_false e1] at CK
      clear e1
      go_enter Tryd.func20, Tryd.ntmps20
      go_wp2_with (first | (go_at_call_of 32 (Value.slice ka kl kc); refine CK.out.mono ?_; rintro e w' ⟨rfl, rfl⟩))
      go_ret
      exact ⟨rfl, G0.out⟩
  · have b0 : (lf == lf') = false := by simp [e0]
    rw [decide_eq_false e0, Bool.false_and]
    clear e0
    go_enter Tryd.func20, Tryd.ntmps20
    go_wp2_with fail
    go_ret
    exact ⟨rfl, G0.out⟩
end Go.Proofs.YtbopfpdgoalfoaaDoor
