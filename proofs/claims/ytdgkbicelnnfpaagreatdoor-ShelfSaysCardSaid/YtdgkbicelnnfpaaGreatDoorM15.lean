/- Texts Nc, Nd, Ne, Nf, Nk, Nl of the library, joined. -/
import Derived.Test.YtdgkbicelnnfpaaGreatDoorM14
/- The reference: May, Same, Own. -/
namespace Go.Proofs.YtdgkbicelnnfpaaGreatDoor
open Go.RowKit
set_option linter.unusedVariables false
set_option linter.unusedSimpArgs false
attribute [local go_sem ↓] Go.wp_at_zero Go.wp_at_succ

/-- A node, as a value: its keys and values read as rows of numbers. -/
structure RdN (w : World) (ka : Option Addr) (kc : Nat) (va : Option Addr) (vc : Nat) (K V : List Nat) : Prop where
  rk : Reads w ka (uvs K)
  rv : Reads w va (uvs V)
  ck : K.length ≤ kc
  cv : V.length ≤ vc
  bk : K.length * 8 ≤ 140737488351232
  bv : V.length * 8 ≤ 140737488351232
  xk : kc ≤ maxLen
  xv : vc ≤ maxLen
theorem RdN.keep {w w' : World} {ka : Option Addr} {kc : Nat} {va : Option Addr} {vc : Nat} {K V : List Nat} (h : RdN w ka kc va vc K V) (g : Chg [] w w') : RdN w' ka kc va vc K V := ⟨h.rk.keep g, h.rv.keep g, h.ck, h.cv, h.bk, h.bv, h.xk, h.xv⟩
theorem getD_of {L : List Nat} {i x : Nat} (h : L[i]? = some x) : L.getD i 0 = x := by rw [List.getD_eq_getElem?_getD, h]; rfl
theorem all_mono (f : Nat → Bool) {a b : Nat} (h : a ≤ b) (hb : (List.range b).all f = true) : (List.range a).all f = true := by
  rw [List.all_eq_true] at hb ⊢
  exact fun x hx => hb x (by simp at hx ⊢; omega)
theorem okAt_zero {K V : List Nat} {v : Nat} (hv : V[0]? = some v) : okAt K V 0 = decide (0 < v) := by unfold okAt; rw [getD_of hv]; simp
theorem okAt_succ {K V : List Nat} {h v y z : Nat} (hv : V[h + 1]? = some v) (hy : K[h + 1]? = some y) (hz : K[h]? = some z) : okAt K V (h + 1) = (decide (0 < v) && decide (z < y)) := by
  unfold okAt
  rw [getD_of hv, getD_of hy, show h + 1 - 1 = h by omega, getD_of hz]
  simp
set_option maxRecDepth 20000 in
set_option maxHeartbeats 1000000 in
theorem rmay_any (lf : Bool) (ka : Option Addr) (kl kc : Nat) (va : Option Addr) (vl vc : Nat) (K V : List Nat) (w : World) (h : RdN w ka kc va vc K V) (hk : K.length = kl) (hv : V.length = vl) : Calls Tryz.prog 15 #[.agg #[.bool lf, .slice ka kl kc, .slice va vl vc]] w fun e w' => e = .returned (.bool (mayB K V)) ∧ Chg [] w w' := by
  have hkc := h.ck
  have hbk := h.bk
  have g0 := Chg.alloc [] w (.cells #[.bool lf, .slice ka kl kc, .slice va vl vc] 53)
  have c1 := cell_of_row (w.alloc (.cells #[.bool lf, .slice ka kl kc, .slice va vl vc] 53)) w.heap.size 1 _ _ _ (heap_alloc_last w _)
  have c2 := cell_of_row (w.alloc (.cells #[.bool lf, .slice ka kl kc, .slice va vl vc] 53)) w.heap.size 2 _ _ _ (heap_alloc_last w _)
  have HC := mkHid (And.intro c1 c2)
  clear c1 c2
  by_cases h1 : 1 ≤ kl
  · by_cases h2 : kl ≤ 8
    · by_cases h3 : vl = kl
      · subst h3
        have d1 : decide ((vl : Int) ≥ 1) = true := decide_eq_true (by omega)
        have d1' : decide ((1 : Int) ≤ (vl : Int)) = true := decide_eq_true (by omega)
        have d1'' : decide (1 ≤ vl) = true := decide_eq_true h1
        have d2 : decide ((vl : Int) ≤ 8) = true := decide_eq_true (by omega)
        have d2' : decide (vl ≤ 8) = true := decide_eq_true h2
        have d3 : ((vl : Int) == (vl : Int)) = true := by simp
        have hm : mayB K V = (List.range vl).all (okAt K V) := by
          unfold mayB
          rw [hk, hv, decide_eq_true h1, decide_eq_true h2, decide_eq_true rfl]; rfl
        rw [hm]
        have HM := mkHid hm
        have HK := mkHid hk
        have HV := mkHid hv
        clear hm hk hv
        go_enter Tryz.func15, Tryz.ntmps15
        go_wp2_with fail
        generalize w.alloc (.cells #[.bool lf, .slice ka vl kc, .slice va vl vc] 53) = w1 at *
        generalize w.heap.size = b at *
        obtain ⟨c1, c2⟩ := HC.out
        simp only [List.getElem?_toArray, List.getElem?_cons_succ, List.getElem?_cons_zero] at c1 c2
        go_loopw [3, 4] (fun ov iv wr => ∃ k : Nat, iv = .int .i64 k ∧ ov = .bool ((List.range k).all (okAt K V)) ∧ k ≤ vl ∧ Chg [] w1 wr) (fun _ iv _ => vl - (Go.RowKit.intOf iv).toNat)
        case atStart => exact ⟨0, rfl, rfl, Nat.zero_le _, Chg.refl _ _⟩
        case round =>
          obtain ⟨k, rfl, rfl, hkl, hg⟩ := hrel
          have x1 := hg.cellv c1 (by simp)
          have x2 := hg.cellv c2 (by simp)
          have hr := (h.keep g0).keep hg
          cases hb : (List.range k).all (okAt K V) with
          | false =>
            have hf : (List.range vl).all (okAt K V) = false := by
              cases h9 : (List.range vl).all (okAt K V) with
              | false => rfl
              | true => rw [all_mono _ hkl h9] at hb; cases hb
            have HF := mkHid hf
            clear hb hf hr
            go_wp2_with fail
            go_ret
            rw [HF.out]
            exact ⟨rfl, g0.then hg⟩
          | true =>
            by_cases hlt : k < vl
            · have hd : decide (k < vl) = true := decide_eq_true hlt
              have hd2 : decide ((k : Int) < (vl : Int)) = true := decide_eq_true (by omega)
              have hkK : k < K.length := by rw [HK.out]; exact hlt
              have hkV : k < V.length := by rw [HV.out]; exact hlt
              obtain ⟨y, hy⟩ : ∃ y, K[k]? = some y := ⟨_, List.getElem?_eq_getElem hkK⟩
              obtain ⟨v, hv⟩ : ∃ v, V[k]? = some v := ⟨_, List.getElem?_eq_getElem hkV⟩
              have hsucc := all_range_succ (okAt K V) k
              rw [hb, Bool.true_and] at hsucc
              obtain ⟨kb, ko, rfl, ck, _⟩ := reads_lt hr.rk k _ (uvs_get hy)
              obtain ⟨vb, vo, rfl, cv, _⟩ := reads_lt hr.rv k _ (uvs_get hv)
              by_cases hk0 : k = 0
              · have k1 : decide ((k : Int) > 0) = false := decide_eq_false (by omega)
                have k2 : decide (0 < k) = false := decide_eq_false (by omega)
                have k3 : decide ((0 : Int) < (k : Int)) = false := decide_eq_false (by omega)
                rw [show okAt K V k = decide (0 < v) by rw [hk0] at hv ⊢; exact okAt_zero hv] at hsucc
                by_cases hv0 : 0 < v
                · rw [decide_eq_true hv0] at hsucc
                  have v1 : decide ((v : Int) > 0) = true := decide_eq_true (by omega)
                  have v2 : decide (0 < v) = true := decide_eq_true hv0
                  have v3 : decide ((0 : Int) < (v : Int)) = true := decide_eq_true (by omega)
                  have HE := mkHid hsucc
                  clear hsucc hv hy hk0 hb hr
                  go_wp2_with fail
                  go_quiet (fail)
                  go_wp2_with fail
                  exact ⟨⟨k + 1, by first | rfl | go_num, by rw [HE.out], by omega, hg.then (Chg.drewN _ _)⟩, by simp [Go.RowKit.intOf]; omega⟩
                · rw [decide_eq_false hv0] at hsucc
                  have v1 : decide ((v : Int) > 0) = false := decide_eq_false (by omega)
                  have v2 : decide (0 < v) = false := decide_eq_false hv0
                  have v3 : decide ((0 : Int) < (v : Int)) = false := decide_eq_false (by omega)
                  have HE := mkHid hsucc
                  clear hsucc hv hy hk0 hb hr
                  go_wp2_with fail
                  go_quiet (fail)
                  go_wp2_with fail
                  exact ⟨⟨k + 1, by first | rfl | go_num, by rw [HE.out], by omega, hg.then (Chg.drewN _ _)⟩, by simp [Go.RowKit.intOf]; omega⟩
              · obtain ⟨h', hh'⟩ : ∃ h', k = h' + 1 := ⟨k - 1, by omega⟩
                have hkh : (k : Int) - 1 = (h' : Int) := by omega
                have hlt' : h' < vl := by omega
                obtain ⟨z, hz⟩ : ∃ z, K[h']? = some z := ⟨_, List.getElem?_eq_getElem (by omega)⟩
                obtain ⟨kb', ko', e9, cz, _⟩ := reads_lt hr.rk h' _ (uvs_get hz)
                cases e9
                have k1 : decide ((k : Int) > 0) = true := decide_eq_true (by omega)
                have k2 : decide (0 < k) = true := decide_eq_true (by omega)
                have k3 : decide ((0 : Int) < (k : Int)) = true := decide_eq_true (by omega)
                rw [show okAt K V k = (decide (0 < v) && decide (z < y)) by rw [hh'] at hv hy ⊢; exact okAt_succ hv hy hz] at hsucc
                have hzy : decide ((z : Int) ≥ (y : Int)) = !decide (z < y) := by
                  by_cases e : z < y
                  · rw [decide_eq_true e, decide_eq_false (by omega)]; rfl
                  · rw [decide_eq_false e, decide_eq_true (by omega)]; rfl
                have hzy2 : decide (y ≤ z) = !decide (z < y) := by
                  by_cases e : z < y
                  · rw [decide_eq_true e, decide_eq_false (by omega)]; rfl
                  · rw [decide_eq_false e, decide_eq_true (by omega)]; rfl
                by_cases hv0 : 0 < v
                · rw [decide_eq_true hv0, Bool.true_and] at hsucc
                  have v1 : decide ((v : Int) > 0) = true := decide_eq_true (by omega)
                  have v2 : decide (0 < v) = true := decide_eq_true hv0
                  have v3 : decide ((0 : Int) < (v : Int)) = true := decide_eq_true (by omega)
                  by_cases hzl : z < y
                  · rw [decide_eq_true hzl] at hsucc hzy hzy2
                    have HE := mkHid hsucc
                    clear hsucc hv hy hk0 hb hr hh' hz
                    go_wp2_with fail
                    go_quiet (fail)
                    go_wp2_with fail
                    exact ⟨⟨k + 1, by first | rfl | go_num, by rw [HE.out], by omega, hg.then (Chg.drewN _ _)⟩, by simp [Go.RowKit.intOf]; omega⟩
                  · rw [decide_eq_false hzl] at hsucc hzy hzy2
                    have HE := mkHid hsucc
                    clear hsucc hv hy hk0 hb hr hh' hz
                    go_wp2_with fail
                    go_quiet (fail)
                    go_wp2_with fail
                    exact ⟨⟨k + 1, by first | rfl | go_num, by rw [HE.out], by omega, hg.then (Chg.drewN _ _)⟩, by simp [Go.RowKit.intOf]; omega⟩
                · rw [decide_eq_false hv0, Bool.false_and] at hsucc
                  have v1 : decide ((v : Int) > 0) = false := decide_eq_false (by omega)
                  have v2 : decide (0 < v) = false := decide_eq_false hv0
                  have v3 : decide ((0 : Int) < (v : Int)) = false := decide_eq_false (by omega)
                  by_cases hzl : z < y
                  · rw [decide_eq_true hzl] at hzy hzy2
                    have HE := mkHid hsucc
                    clear hsucc hv hy hk0 hb hr hh' hz
                    go_wp2_with fail
                    go_quiet (fail)
                    go_wp2_with fail
                    exact ⟨⟨k + 1, by first | rfl | go_num, by rw [HE.out], by omega, hg.then (Chg.drewN _ _)⟩, by simp [Go.RowKit.intOf]; omega⟩
                  · rw [decide_eq_false hzl] at hzy hzy2
                    have HE := mkHid hsucc
                    clear hsucc hv hy hk0 hb hr hh' hz
                    go_wp2_with fail
                    go_quiet (fail)
                    go_wp2_with fail
                    exact ⟨⟨k + 1, by first | rfl | go_num, by rw [HE.out], by omega, hg.then (Chg.drewN _ _)⟩, by simp [Go.RowKit.intOf]; omega⟩
            · have hkn : k = vl := by omega
              have hd : decide (k < vl) = false := decide_eq_false hlt
              have hd2 : decide ((k : Int) < (vl : Int)) = false := decide_eq_false (by omega)
              have hf : (List.range vl).all (okAt K V) = true := by rw [← hkn]; exact hb
              have HF := mkHid hf
              clear hb hf hr hkn
              go_wp2_with fail
              go_ret
              rw [HF.out]
              exact ⟨rfl, g0.then hg⟩
      · have hm : mayB K V = false := by unfold mayB; rw [hk, hv, decide_eq_false h3]; simp
        rw [hm]
        have d1 : decide ((kl : Int) ≥ 1) = true := decide_eq_true (by omega)
        have d1' : decide ((1 : Int) ≤ (kl : Int)) = true := decide_eq_true (by omega)
        have d1'' : decide (1 ≤ kl) = true := decide_eq_true h1
        have d2 : decide ((kl : Int) ≤ 8) = true := decide_eq_true (by omega)
        have d2' : decide (kl ≤ 8) = true := decide_eq_true h2
        have d3 : ((vl : Int) == (kl : Int)) = false := beq_eq_false_iff_ne.2 (by omega)
        have d3' : (vl == kl) = false := beq_eq_false_iff_ne.2 h3
        clear hm hk hv
        go_enter Tryz.func15, Tryz.ntmps15
        go_wp2_with fail
        go_loopw [3] (fun ov wr => ov = .bool false ∧ Chg [] w wr) (fun _ _ => 0)
        case atStart => exact ⟨rfl, g0⟩
        case round =>
          obtain ⟨rfl, hg⟩ := hrel
          go_wp2_with fail
          go_ret
          exact ⟨rfl, hg⟩
    · have hm : mayB K V = false := by unfold mayB; rw [hk, decide_eq_false h2]; simp
      rw [hm]
      have d1 : decide ((kl : Int) ≥ 1) = true := decide_eq_true (by omega)
      have d1' : decide ((1 : Int) ≤ (kl : Int)) = true := decide_eq_true (by omega)
      have d1'' : decide (1 ≤ kl) = true := decide_eq_true h1
      have d2 : decide ((kl : Int) ≤ 8) = false := decide_eq_false (by omega)
      have d2' : decide (kl ≤ 8) = false := decide_eq_false h2
      clear hm hk hv
      go_enter Tryz.func15, Tryz.ntmps15
      go_wp2_with fail
      go_loopw [3] (fun ov wr => ov = .bool false ∧ Chg [] w wr) (fun _ _ => 0)
      case atStart => exact ⟨rfl, g0⟩
      case round =>
        obtain ⟨rfl, hg⟩ := hrel
        go_wp2_with fail
        go_ret
        exact ⟨rfl, hg⟩
  · have hm : mayB K V = false := by unfold mayB; rw [hk, decide_eq_false h1]; simp
    rw [hm]
    have d1 : decide ((kl : Int) ≥ 1) = false := decide_eq_false (by omega)
    have d1' : decide ((1 : Int) ≤ (kl : Int)) = false := decide_eq_false (by omega)
    have d1'' : decide (1 ≤ kl) = false := decide_eq_false h1
    clear hm hk hv
    go_enter Tryz.func15, Tryz.ntmps15
    go_wp2_with fail
    go_loopw [3] (fun ov wr => ov = .bool false ∧ Chg [] w wr) (fun _ _ => 0)
    case atStart => exact ⟨rfl, g0⟩
    case round =>
      obtain ⟨rfl, hg⟩ := hrel
      go_wp2_with fail
      go_ret
      exact ⟨rfl, hg⟩
end Go.Proofs.YtdgkbicelnnfpaaGreatDoor

/- The reference: Same. -/
namespace Go.Proofs.YtdgkbicelnnfpaaGreatDoor
open Go.RowKit
set_option linter.unusedVariables false
set_option linter.unusedSimpArgs false
attribute [local go_sem ↓] Go.wp_at_zero Go.wp_at_succ

def sameB (lf lf' : Bool) (K V K' V' : List Nat) : Bool := decide (lf = lf') && (decide (K = K') && decide (V = V'))
theorem take_iff {L M : List Nat} {k : Nat} (hl : k < L.length) (hm : k < M.length) (he : L.take k = M.take k) {x y : Nat} (hx : L[k]? = some x) (hy : M[k]? = some y) : L.take (k + 1) = M.take (k + 1) ↔ x = y := by
  rw [List.getElem?_eq_getElem hl] at hx
  rw [List.getElem?_eq_getElem hm] at hy
  cases hx; cases hy
  rw [List.take_succ_eq_append_getElem hl, List.take_succ_eq_append_getElem hm, he]
  exact ⟨fun h => by simpa using List.append_cancel_left h, fun h => by rw [h]⟩
theorem two_boxes (w : World) (x0 x1 x2 y0 y1 y2 : Value) (t : TypeId) : ((w.alloc (.cells #[x0, x1, x2] t)).alloc (.cells #[y0, y1, y2] t)).cell? ⟨w.heap.size, 1, none⟩ = some x1 ∧ ((w.alloc (.cells #[x0, x1, x2] t)).alloc (.cells #[y0, y1, y2] t)).cell? ⟨w.heap.size, 2, none⟩ = some x2 ∧
    ((w.alloc (.cells #[x0, x1, x2] t)).alloc (.cells #[y0, y1, y2] t)).cell? ⟨w.heap.size + 1, 1, none⟩ = some y1 ∧ ((w.alloc (.cells #[x0, x1, x2] t)).alloc (.cells #[y0, y1, y2] t)).cell? ⟨w.heap.size + 1, 2, none⟩ = some y2 := by
  have g := Chg.alloc [] (w.alloc (.cells #[x0, x1, x2] t)) (.cells #[y0, y1, y2] t)
  have hz : (w.alloc (.cells #[x0, x1, x2] t)).heap.size = w.heap.size + 1 := by simp
  have h2 := fun j => cell_of_row ((w.alloc (.cells #[x0, x1, x2] t)).alloc (.cells #[y0, y1, y2] t)) _ j _ _ _ (heap_alloc_last (w.alloc (.cells #[x0, x1, x2] t)) (.cells #[y0, y1, y2] t))
  rw [hz] at h2
  have h1 := fun j => cell_of_row (w.alloc (.cells #[x0, x1, x2] t)) _ j _ _ _ (heap_alloc_last w (.cells #[x0, x1, x2] t))
  exact ⟨g.cellv (h1 1) (by simp), g.cellv (h1 2) (by simp), h2 1, h2 2⟩
set_option maxRecDepth 20000 in
set_option maxHeartbeats 1000000 in
theorem rsame_any (lf : Bool) (ka : Option Addr) (kl kc : Nat) (va : Option Addr) (vl vc : Nat) (K V : List Nat) (lf' : Bool) (ka' : Option Addr) (kl' kc' : Nat) (va' : Option Addr) (vl' vc' : Nat) (K' V' : List Nat) (w : World) (h : RdN w ka kc va vc K V) (hk : K.length = kl) (hv : V.length = vl) (g : RdN w ka' kc' va' vc' K' V') (hk' : K'.length = kl') (hv' : V'.length = vl') :
    Calls Tryz.prog 19 #[.agg #[.bool lf, .slice ka kl kc, .slice va vl vc], .agg #[.bool lf', .slice ka' kl' kc', .slice va' vl' vc']] w fun e w' => e = .returned (.bool (sameB lf lf' K V K' V')) ∧ Chg [] w w' := by
  have hkb : kl ≤ 140737488351232 := by have := h.ck; have := h.bk; omega
  have hvb : vl ≤ 140737488351232 := by have := h.cv; have := h.bv; omega
  have g0 : Chg [] w ((w.alloc (.cells #[.bool lf, .slice ka kl kc, .slice va vl vc] 53)).alloc (.cells #[.bool lf', .slice ka' kl' kc', .slice va' vl' vc'] 53)) := (Chg.alloc [] w _).then (Chg.alloc [] _ _)
  by_cases e0 : lf = lf'
  · subst e0
    have b0 : (lf != lf) = false := by simp
    by_cases e1 : kl = kl'
    · subst e1
      have b1 : ((kl : Int) != (kl : Int)) = false := by simp
      by_cases e2 : vl = vl'
      · subst e2
        have b2 : ((vl : Int) != (vl : Int)) = false := by simp
        have hs : sameB lf lf K V K' V' = (decide (K = K') && decide (V = V')) := by unfold sameB; rw [decide_eq_true rfl, Bool.true_and]
        rw [hs]
        have HK := mkHid hk
        have HV := mkHid hv
        have HK' := mkHid hk'
        have HV' := mkHid hv'
        clear hs hk hv hk' hv'
        have hcells := two_boxes w (.bool lf) (.slice ka kl kc) (.slice va vl vc) (.bool lf) (.slice ka' kl kc') (.slice va' vl vc') 53
        have HCL := mkHid hcells
        clear hcells
        go_enter Tryz.func19, Tryz.ntmps19
        go_wp2_with fail
        generalize (w.alloc (.cells #[.bool lf, .slice ka kl kc, .slice va vl vc] 53)).alloc (.cells #[.bool lf, .slice ka' kl kc', .slice va' vl vc'] 53) = w1 at *
        generalize w.heap.size = b at *
        obtain ⟨c1, c2, c3, c4⟩ := HCL.out
        go_loopw [5] (fun iv wr => ∃ k : Nat, iv = .int .i64 k ∧ k ≤ kl ∧ K.take k = K'.take k ∧ Chg [] w1 wr) (fun iv _ => kl - (Go.RowKit.intOf iv).toNat)
        case atStart => exact ⟨0, rfl, Nat.zero_le _, by simp, Chg.refl _ _⟩
        case round =>
          obtain ⟨k, rfl, hkn, he, hg⟩ := hrel
          have y1 := hg.cellv c1 (by simp)
          have y2 := hg.cellv c2 (by simp)
          have y3 := hg.cellv c3 (by simp)
          have y4 := hg.cellv c4 (by simp)
          by_cases hlt : k < kl
          · have hd : decide (k < kl) = true := decide_eq_true hlt
            have hd2 : decide ((k : Int) < (kl : Int)) = true := decide_eq_true (by omega)
            have kL : k < K.length := by rw [HK.out]; exact hlt
            have kM : k < K'.length := by rw [HK'.out]; exact hlt
            obtain ⟨x, hx⟩ : ∃ x, K[k]? = some x := ⟨_, List.getElem?_eq_getElem kL⟩
            obtain ⟨y, hy⟩ : ∃ y, K'[k]? = some y := ⟨_, List.getElem?_eq_getElem kM⟩
            obtain ⟨xb, xo, rfl, cx, _⟩ := reads_lt (((h.keep g0).keep hg).rk) k _ (uvs_get hx)
            obtain ⟨yb, yo, rfl, cy, _⟩ := reads_lt (((g.keep g0).keep hg).rk) k _ (uvs_get hy)
            have hti := take_iff kL kM he hx hy
            have HT := mkHid hti
            clear hti he hx hy kL kM
            by_cases hxy : x = y
            · have q1 : ((x : Int) != (y : Int)) = false := by simp [hxy]
              have q2 : (x != y) = false := by simp [hxy]
              have HX := mkHid hxy
              clear hxy
              go_wp2_with fail
              go_quiet (fail)
              go_wp2_with fail
              exact ⟨⟨k + 1, by first | rfl | go_num, by omega, HT.out.2 HX.out, hg.then (Chg.drewN _ _)⟩, by simp [Go.RowKit.intOf]; omega⟩
            · have q1 : ((x : Int) != (y : Int)) = true := by simp; omega
              have q2 : (x != y) = true := by simp [hxy]
              have HX := mkHid hxy
              clear hxy
              go_wp2_with fail
              go_quiet (fail)
              go_wp2_with fail
              go_ret
              have hne : K ≠ K' := fun e => HX.out (HT.out.1 (by rw [e]))
              rw [decide_eq_false hne]
              exact ⟨by simp, (g0.then hg).then (Chg.drewN _ _)⟩
          · have hkk : k = kl := by omega
            have hd : decide (k < kl) = false := decide_eq_false hlt
            have hd2 : decide ((k : Int) < (kl : Int)) = false := decide_eq_false (by omega)
            have hLM : K = K' := by rwa [List.take_of_length_le (by rw [HK.out]; omega), List.take_of_length_le (by rw [HK'.out]; omega)] at he
            have HKK := mkHid hLM
            have hg1 := hg
            clear he hkk hLM
            go_wp2_with fail
            clear y1 y2 y3 y4 hg hlt hd hd2
            go_loopw [6] (fun iv wr => ∃ k : Nat, iv = .int .i64 k ∧ k ≤ vl ∧ V.take k = V'.take k ∧ Chg [] w1 wr) (fun iv _ => vl - (Go.RowKit.intOf iv).toNat)
            case atStart => exact ⟨0, rfl, Nat.zero_le _, by simp, hg1⟩
            case round =>
              obtain ⟨k, rfl, hkn, he, hg⟩ := hrel
              have y1 := hg.cellv c1 (by simp)
              have y2 := hg.cellv c2 (by simp)
              have y3 := hg.cellv c3 (by simp)
              have y4 := hg.cellv c4 (by simp)
              by_cases hlt : k < vl
              · have hd : decide (k < vl) = true := decide_eq_true hlt
                have hd2 : decide ((k : Int) < (vl : Int)) = true := decide_eq_true (by omega)
                have kL : k < V.length := by rw [HV.out]; exact hlt
                have kM : k < V'.length := by rw [HV'.out]; exact hlt
                obtain ⟨x, hx⟩ : ∃ x, V[k]? = some x := ⟨_, List.getElem?_eq_getElem kL⟩
                obtain ⟨y, hy⟩ : ∃ y, V'[k]? = some y := ⟨_, List.getElem?_eq_getElem kM⟩
                obtain ⟨xb, xo, rfl, cx, _⟩ := reads_lt (((h.keep g0).keep hg).rv) k _ (uvs_get hx)
                obtain ⟨yb, yo, rfl, cy, _⟩ := reads_lt (((g.keep g0).keep hg).rv) k _ (uvs_get hy)
                have hti := take_iff kL kM he hx hy
                have HT := mkHid hti
                clear hti he hx hy kL kM
                by_cases hxy : x = y
                · have q1 : ((x : Int) != (y : Int)) = false := by simp [hxy]
                  have q2 : (x != y) = false := by simp [hxy]
                  have HX := mkHid hxy
                  clear hxy
                  go_wp2_with fail
                  go_quiet (fail)
                  go_wp2_with fail
                  exact ⟨⟨k + 1, by first | rfl | go_num, by omega, HT.out.2 HX.out, hg.then (Chg.drewN _ _)⟩, by simp [Go.RowKit.intOf]; omega⟩
                · have q1 : ((x : Int) != (y : Int)) = true := by simp; omega
                  have q2 : (x != y) = true := by simp [hxy]
                  have HX := mkHid hxy
                  clear hxy
                  go_wp2_with fail
                  go_quiet (fail)
                  go_wp2_with fail
                  go_ret
                  have hne : V ≠ V' := fun e => HX.out (HT.out.1 (by rw [e]))
                  rw [decide_eq_false hne]
                  exact ⟨by simp, (g0.then hg).then (Chg.drewN _ _)⟩
              · have hkk : k = vl := by omega
                have hd : decide (k < vl) = false := decide_eq_false hlt
                have hd2 : decide ((k : Int) < (vl : Int)) = false := decide_eq_false (by omega)
                have hLM : V = V' := by rwa [List.take_of_length_le (by rw [HV.out]; omega), List.take_of_length_le (by rw [HV'.out]; omega)] at he
                have HLM := mkHid hLM
                clear he hLM hkk
                go_wp2_with fail
                go_ret
                rw [decide_eq_true HKK.out, decide_eq_true HLM.out]
                exact ⟨by simp, g0.then hg⟩
      · have b2 : ((vl : Int) != (vl' : Int)) = true := by simp; omega
        have b2' : (vl != vl') = true := by simp; omega
        have hs : sameB lf lf K V K' V' = false := by unfold sameB; rw [decide_eq_false (fun e => e2 (by rw [← hv, ← hv', e]) : ¬ V = V')]; simp
        rw [hs]
        clear hs hk hv hk' hv'
        go_enter Tryz.func19, Tryz.ntmps19
        go_wp2_with fail
        go_ret
        exact ⟨rfl, g0⟩
    · have b1 : ((kl : Int) != (kl' : Int)) = true := by simp; omega
      have b1' : (kl != kl') = true := by simp; omega
      have hs : sameB lf lf K V K' V' = false := by unfold sameB; rw [decide_eq_false (fun e => e1 (by rw [← hk, ← hk', e]) : ¬ K = K')]; simp
      rw [hs]
      clear hs hk hv hk' hv'
      go_enter Tryz.func19, Tryz.ntmps19
      go_wp2_with fail
      go_ret
      exact ⟨rfl, g0⟩
  · have b0 : (lf != lf') = true := by simp [e0]
    have hs : sameB lf lf' K V K' V' = false := by unfold sameB; rw [decide_eq_false e0]; rfl
    rw [hs]
    clear hs hk hv hk' hv'
    go_enter Tryz.func19, Tryz.ntmps19
    go_wp2_with fail
    go_ret
    exact ⟨rfl, g0⟩
end Go.Proofs.YtdgkbicelnnfpaaGreatDoor

/- The reference: Put. -/
namespace Go.Proofs.YtdgkbicelnnfpaaGreatDoor
open Go.RowKit
set_option linter.unusedVariables false
set_option linter.unusedSimpArgs false
attribute [local go_sem ↓] Go.wp_at_zero Go.wp_at_succ

theorem pairs_len : ∀ {K V : List Nat}, V.length = K.length → (pairsN K V).length = 16 * K.length
  | [], [], _ => rfl
  | k :: K, v :: V, h => by
    have h2 : V.length = K.length := by simpa using h
    rw [pairsN, List.length_append, List.length_append, be_length, be_length, pairs_len h2, List.length_cons]
    omega
theorem pairs_take : ∀ {K V : List Nat} {i k v : Nat}, V.length = K.length → K[i]? = some k → V[i]? = some v → pairsN (K.take (i + 1)) (V.take (i + 1)) = pairsN (K.take i) (V.take i) ++ (be k 8 ++ be v 8)
  | [], V, i, k, v, _, hk, _ => by simp at hk
  | a :: K, [], i, k, v, h, _, _ => by simp at h
  | a :: K, b :: V, 0, k, v, h, hk, hv => by
    simp at hk hv
    subst hk hv
    simp [pairsN]
  | a :: K, b :: V, i + 1, k, v, h, hk, hv => by
    have h2 : V.length = K.length := by simpa using h
    simp only [List.getElem?_cons_succ] at hk hv
    simp only [List.take_succ_cons, pairsN]
    rw [pairs_take h2 hk hv]
    simp [List.append_assoc]
theorem may_len {K V : List Nat} (h : mayB K V = true) : 1 ≤ K.length ∧ K.length ≤ 8 ∧ V.length = K.length := by
  unfold mayB at h
  simp only [Bool.and_eq_true, decide_eq_true_eq] at h
  exact ⟨h.1.1.1, h.1.1.2, h.1.2⟩
end Go.Proofs.YtdgkbicelnnfpaaGreatDoor

/- What bytes say of a node; the reference: Take. -/
namespace Go.Proofs.YtdgkbicelnnfpaaGreatDoor
open Go.RowKit
set_option linter.unusedVariables false
set_option linter.unusedSimpArgs false
attribute [local go_sem ↓] Go.wp_at_zero Go.wp_at_succ

/-- A key that is not above the last one. -/
def lowK (K : List Nat) (x : Nat) : Bool := match K.getLast? with
  | none => false
  | some z => decide (x ≤ z)
mutual
/-- c pairs more are to come, behind K and V. -/
def takeK : Nat → List Nat → List Nat → List UInt8 → Int × List Nat × List Nat
  | 0, K, V, l => if l.all (· == 0) then (0, K, V) else (5, [], [])
  | c + 1, K, V, l => if l.length < 8 then (4, [], []) else if lowK K (val (l.take 8)) then (5, [], []) else takeV c (K ++ [val (l.take 8)]) V (l.drop 8)
/-- A value is to come, and c pairs behind it. -/
def takeV : Nat → List Nat → List Nat → List UInt8 → Int × List Nat × List Nat
  | c, K, V, l => if l.length < 8 then (4, [], []) else if val (l.take 8) = 0 then (5, [], []) else takeK c K (V ++ [val (l.take 8)]) (l.drop 8)
end
/-- What bytes say: an error, or a leaf or not, keys, values. -/
def takeN (l : List UInt8) : Int × Bool × List Nat × List Nat := match l with
  | [] => (4, false, [], [])
  | a :: r => if a ≠ 0 ∧ a ≠ 1 then (5, false, [], []) else match r with
    | [] => (4, false, [], [])
    | b :: s => if b.toNat = 0 ∨ 8 < b.toNat then (5, false, [], []) else if (takeK b.toNat [] [] s).1 = 0 then (0, decide (a = 1), (takeK b.toNat [] [] s).2) else ((takeK b.toNat [] [] s).1, false, [], [])
end Go.Proofs.YtdgkbicelnnfpaaGreatDoor

/- Package node: kind, known, few, rises, points, noughts. -/
namespace Go.Proofs.YtdgkbicelnnfpaaGreatDoor
open Go.RowKit
set_option linter.unusedVariables false
set_option linter.unusedSimpArgs false
attribute [local go_sem ↓] Go.wp_at_zero Go.wp_at_succ

theorem kind_any (lf : Bool) (w : World) : Calls Tryz.prog 87 #[.bool lf] w fun e w' => e = .returned (.int .u64 ((if lf = true then 1 else 0 : Nat) : Int)) ∧ w = w' := by
  cases lf
  · go_enter Tryz.func87, Tryz.ntmps87
    go_wp2
    go_ret
    exact ⟨rfl, rfl⟩
  · go_enter Tryz.func87, Tryz.ntmps87
    go_wp2
    go_ret
    exact ⟨rfl, rfl⟩
theorem kind_true (w : World) : Calls Tryz.prog 87 #[.bool true] w fun e w' => e = .returned (.int .u64 1) ∧ w = w' := kind_any true w
theorem kind_false (w : World) : Calls Tryz.prog 87 #[.bool false] w fun e w' => e = .returned (.int .u64 0) ∧ w = w' := kind_any false w
def fewB (n : Nat) : Bool := decide (1 ≤ n) && decide (n ≤ 8)
def pointsB (x : Nat) : Bool := !decide (x = 0)
def knownB (n : Nat) : Bool := decide (n = 1) || decide (n = 0)
theorem few_any (n : Nat) (w : World) : Calls Tryz.prog 100 #[.int .u64 (n : Int)] w fun e w' => e = .returned (.bool (fewB n)) ∧ w = w' := by
  by_cases h1 : 1 ≤ n
  · by_cases h2 : n ≤ 8
    · have e : fewB n = true := by simp [fewB, h1, h2]
      rw [e]
      clear e
      have d1 : decide ((n : Int) ≥ 1) = true := decide_eq_true (by omega)
      have d2 : decide ((n : Int) ≤ 8) = true := decide_eq_true (by omega)
      go_enter Tryz.func100, Tryz.ntmps100
      go_wp2
      go_ret
      exact ⟨rfl, rfl⟩
    · have e : fewB n = false := by simp [fewB, h2]
      rw [e]
      clear e
      have d1 : decide ((n : Int) ≥ 1) = true := decide_eq_true (by omega)
      have d2 : decide ((n : Int) ≤ 8) = false := decide_eq_false (by omega)
      have d3 : decide (n ≤ 8) = false := decide_eq_false (by omega)
      go_enter Tryz.func100, Tryz.ntmps100
      go_wp2
      go_ret
      exact ⟨rfl, rfl⟩
  · have e : fewB n = false := by simp [fewB, h1]
    rw [e]
    clear e
    have d1 : decide ((n : Int) ≥ 1) = false := decide_eq_false (by omega)
    have d2 : decide (1 ≤ (n : Int)) = false := decide_eq_false (by omega)
    have d3 : decide (1 ≤ n) = false := decide_eq_false (by omega)
    go_enter Tryz.func100, Tryz.ntmps100
    go_wp2
    go_ret
    exact ⟨rfl, rfl⟩
theorem points_any (n : Nat) (w : World) : Calls Tryz.prog 102 #[.int .u64 (n : Int)] w fun e w' => e = .returned (.bool (pointsB n)) ∧ w = w' := by
  by_cases h1 : n = 0
  · subst h1
    go_enter Tryz.func102, Tryz.ntmps102
    go_wp2
    go_ret
    exact ⟨rfl, rfl⟩
  · have e : pointsB n = true := by simp [pointsB, h1]
    rw [e]
    clear e
    have d1 : ((n : Int) != 0) = true := by simp; omega
    have d2 : (n != 0) = true := by simp; omega
    go_enter Tryz.func102, Tryz.ntmps102
    go_wp2
    go_ret
    exact ⟨rfl, rfl⟩
theorem known_any (n : Nat) (w : World) : Calls Tryz.prog 145 #[.int .u64 (n : Int)] w fun e w' => e = .returned (.bool (knownB n)) ∧ w = w' := by
  by_cases h1 : n = 1
  · subst h1
    go_enter Tryz.func145, Tryz.ntmps145
    go_wp2_with (first | (go_at_call_of 87 (Value.bool true); refine (kind_true _).mono ?_; rintro e w' ⟨rfl, rfl⟩) | (go_at_call_of 87 (Value.bool false); refine (kind_false _).mono ?_; rintro e w' ⟨rfl, rfl⟩))
    go_ret
    exact ⟨rfl, rfl⟩
  · have d1 : ((n : Int) == 1) = false := by simp; omega
    have d2 : (n == 1) = false := by simp; omega
    by_cases h2 : n = 0
    · subst h2
      go_enter Tryz.func145, Tryz.ntmps145
      go_wp2_with (first | (go_at_call_of 87 (Value.bool true); refine (kind_true _).mono ?_; rintro e w' ⟨rfl, rfl⟩) | (go_at_call_of 87 (Value.bool false); refine (kind_false _).mono ?_; rintro e w' ⟨rfl, rfl⟩))
      go_ret
      exact ⟨rfl, rfl⟩
    · have e : knownB n = false := by simp [knownB, h1, h2]
      rw [e]
      clear e
      have d3 : ((n : Int) == 0) = false := by simp; omega
      have d4 : (n == 0) = false := by simp; omega
      go_enter Tryz.func145, Tryz.ntmps145
      go_wp2_with (first | (go_at_call_of 87 (Value.bool true); refine (kind_true _).mono ?_; rintro e w' ⟨rfl, rfl⟩) | (go_at_call_of 87 (Value.bool false); refine (kind_false _).mono ?_; rintro e w' ⟨rfl, rfl⟩))
      go_ret
      exact ⟨rfl, rfl⟩
theorem low_nil (x : Nat) : lowK [] x = false := rfl
theorem low_at {K : List Nat} {j z : Nat} (hl : K.length = j + 1) (hz : K[j]? = some z) (x : Nat) : lowK K x = decide (x ≤ z) := by
  unfold lowK
  rw [List.getLast?_eq_getElem?, hl, Nat.add_sub_cancel, hz]
theorem rises_any (ao : Option Addr) (n c : Nat) (K : List Nat) (x : Nat) (w : World) (hr : Reads w ao (uvs K)) (hl : K.length = n) (hc : n ≤ c) (hm : c ≤ maxLen) : Calls Tryz.prog 101 #[.slice ao n c, .int .u64 (x : Int)] w fun e w' => e = .returned (.bool (!lowK K x)) ∧ w = w' := by
  unfold maxLen at hm
  cases n with
  | zero =>
    have : K = [] := List.eq_nil_of_length_eq_zero hl
    subst this
    go_enter Tryz.func101, Tryz.ntmps101
    go_wp2
    go_ret
    exact ⟨rfl, rfl⟩
  | succ j =>
    obtain ⟨z, hz⟩ : ∃ z, K[j]? = some z := ⟨_, List.getElem?_eq_getElem (by omega)⟩
    rw [low_at hl hz]
    obtain ⟨kb, ko, rfl, cz, _⟩ := reads_lt hr j _ (uvs_get hz)
    have e1 : ((j + 1 : Nat) : Int) = (j : Int) + 1 := by omega
    have d1 : (((j + 1 : Nat) : Int) == 0) = false := by simp; omega
    have d0 : ((j : Int) + 1 == 0) = false := by simp; omega
    clear hz hl hr
    by_cases hx : x ≤ z
    · have d2 : decide (x > z) = false := decide_eq_false (by omega)
      have d3 : decide ((x : Int) > (z : Int)) = false := decide_eq_false (by omega)
      have d4 : decide (z < x) = false := decide_eq_false (by omega)
      rw [decide_eq_true hx]
      clear hx
      go_enter Tryz.func101, Tryz.ntmps101
      go_wp2
      go_ret
      exact ⟨rfl, rfl⟩
    · have d2 : decide (x > z) = true := decide_eq_true (by omega)
      have d3 : decide ((x : Int) > (z : Int)) = true := decide_eq_true (by omega)
      have d4 : decide (z < x) = true := decide_eq_true (by omega)
      rw [decide_eq_false hx]
      clear hx
      go_enter Tryz.func101, Tryz.ntmps101
      go_wp2
      go_ret
      exact ⟨rfl, rfl⟩
theorem all_take_snoc (l : List UInt8) (k : Nat) (h : k < l.length) : (l.take (k + 1)).all (· == 0) = ((l.take k).all (· == 0) && (l[k] == 0)) := by
  rw [List.take_succ_eq_append_getElem h, List.all_append]; simp
theorem noughts_any (ao : Option Addr) (n c : Nat) (l : List UInt8) (w : World) (hx : Reads w ao (bts l)) (hn : l.length = n) (hc : n ≤ c) (hle : c ≤ maxLen) : Calls Tryz.prog 99 #[.slice ao n c] w fun e w' => e = .returned (.bool (l.all (· == 0))) ∧ w = w' := by
  unfold maxLen at hle
  go_enter Tryz.func99, Tryz.ntmps99
  go_wp2_with fail
  go_loop [7] (fun i => ∃ k : Nat, k ≤ n ∧ i = .int .i64 k ∧ (l.take k).all (· == 0) = true) (fun i => n - (Go.RowKit.intOf i).toNat)
  case atStart => exact ⟨0, Nat.zero_le _, rfl, rfl⟩
  case round =>
    obtain ⟨k, hk, rfl, ha⟩ := hrel
    by_cases hlt : k < n
    · have hd : decide ((k : Int) < (n : Int)) = true := decide_eq_true (by omega)
      have hd2 : decide (k < n) = true := decide_eq_true hlt
      obtain ⟨y, hy⟩ : ∃ y : UInt8, l[k]? = some y := ⟨_, List.getElem?_eq_getElem (by omega)⟩
      obtain ⟨m, hm⟩ : ∃ m : Nat, y.toNat = m := ⟨_, rfl⟩
      have hcell0 : (bts l)[k]? = some (.int .u8 (m : Int)) := by rw [← hm, bts, List.getElem?_map, hy]; rfl
      obtain ⟨b, o, rfl, hcell, _⟩ := reads_lt hx k _ hcell0
      have hsn : (l.take (k + 1)).all (· == 0) = (y == 0) := by
        rw [all_take_snoc l k (by omega), ha, Bool.true_and]
        rw [List.getElem?_eq_getElem (by omega)] at hy
        rw [Option.some.inj hy]
      have hb : (k : Int) < (n : Int) := by omega
      have hyz : y = 0 ↔ m = 0 := by rw [← hm]; exact ⟨fun h => by rw [h]; rfl, fun h => UInt8.toNat_inj.1 h⟩
      have hym : y ∈ l := List.mem_of_getElem? hy
      have HS := mkHid hsn
      have HY := mkHid (And.intro hyz hym)
      clear hsn hyz hy hm hcell0 ha hn hx hym
      by_cases h0 : m = 0
      · subst h0
        go_wp2_with fail
        go_round
        case rel => exact ⟨k + 1, by omega, by go_num, by rw [HS.out, HY.out.1.2 rfl]; rfl⟩
        case measure => simp [Go.RowKit.intOf]; omega
      · have d1 : ((m : Int) != 0) = true := by simp; omega
        have d2 : (m != 0) = true := by simp; omega
        have H0 := mkHid h0
        clear h0
        go_wp2_with fail
        go_ret
        have hy0 : (y == 0) = false := by simp; exact fun e => H0.out (HY.out.1.1 e)
        have hf : l.all (· == 0) = false := by
          rw [List.all_eq_false]
          exact ⟨y, HY.out.2, by simp at hy0; simp [hy0]⟩
        rw [hf]
        exact ⟨rfl, rfl⟩
    · have : k = n := by omega
      subst this
      rw [List.take_of_length_le (by omega)] at ha
      have hd : decide (k < k) = false := by simp
      have HA := mkHid ha
      clear ha hn
      go_wp2_with fail
      go_ret
      rw [HA.out]
      exact ⟨rfl, rfl⟩
end Go.Proofs.YtdgkbicelnnfpaaGreatDoor

/- Package node: equal, Same. -/
namespace Go.Proofs.YtdgkbicelnnfpaaGreatDoor
open Go.RowKit
set_option linter.unusedVariables false
set_option linter.unusedSimpArgs false
attribute [local go_sem ↓] Go.wp_at_zero Go.wp_at_succ

set_option maxRecDepth 20000 in
theorem equal_any (ka : Option Addr) (kl kc : Nat) (K : List Nat) (ka' : Option Addr) (kl' kc' : Nat) (K' : List Nat) (w : World) (h : Reads w ka (uvs K)) (hk : K.length = kl) (hkl : kl ≤ 140737488351232) (g : Reads w ka' (uvs K')) (hk' : K'.length = kl') (hkl' : kl' ≤ 140737488351232) :
    Calls Tryz.prog 189 #[.slice ka kl kc, .slice ka' kl' kc'] w fun e w' => e = .returned (.bool (decide (K = K'))) ∧ w = w' := by
  by_cases e1 : kl = kl'
  · subst e1
    have b1 : ((kl : Int) != (kl : Int)) = false := by simp
    have HK := mkHid hk
    have HK' := mkHid hk'
    clear hk hk'
    go_enter Tryz.func189, Tryz.ntmps189
    go_wp2_with fail
    go_loop [14] (fun iv => ∃ k : Nat, iv = .int .i64 k ∧ k ≤ kl ∧ K.take k = K'.take k) (fun iv => kl - (Go.RowKit.intOf iv).toNat)
    case atStart => exact ⟨0, rfl, Nat.zero_le _, by simp⟩
    case round =>
      obtain ⟨k, rfl, hkn, he⟩ := hrel
      by_cases hlt : k < kl
      · have hd : decide (k < kl) = true := decide_eq_true hlt
        have hd2 : decide ((k : Int) < (kl : Int)) = true := decide_eq_true (by omega)
        have kL : k < K.length := by rw [HK.out]; exact hlt
        have kM : k < K'.length := by rw [HK'.out]; exact hlt
        obtain ⟨x, hx⟩ : ∃ x, K[k]? = some x := ⟨_, List.getElem?_eq_getElem kL⟩
        obtain ⟨y, hy⟩ : ∃ y, K'[k]? = some y := ⟨_, List.getElem?_eq_getElem kM⟩
        obtain ⟨xb, xo, rfl, cx, _⟩ := reads_lt h k _ (uvs_get hx)
        obtain ⟨yb, yo, rfl, cy, _⟩ := reads_lt g k _ (uvs_get hy)
        have hti := take_iff kL kM he hx hy
        have HT := mkHid hti
        clear hti he hx hy kL kM h g
        by_cases hxy : x = y
        · have q1 : ((x : Int) != (y : Int)) = false := by simp [hxy]
          have q2 : (x != y) = false := by simp [hxy]
          have HX := mkHid hxy
          clear hxy
          go_wp2_with fail
          go_round
          case rel => exact ⟨k + 1, by first | rfl | go_num, by omega, HT.out.2 HX.out⟩
          case measure => simp [Go.RowKit.intOf]; omega
        · have q1 : ((x : Int) != (y : Int)) = true := by simp; omega
          have q2 : (x != y) = true := by simp [hxy]
          have HX := mkHid hxy
          clear hxy
          go_wp2_with fail
          go_ret
          have hne : K ≠ K' := fun e => HX.out (HT.out.1 (by rw [e]))
          rw [decide_eq_false hne]
          exact ⟨rfl, rfl⟩
      · have hkk : k = kl := by omega
        have hd : decide (k < kl) = false := decide_eq_false hlt
        have hd2 : decide ((k : Int) < (kl : Int)) = false := decide_eq_false (by omega)
        have hLM : K = K' := by rwa [List.take_of_length_le (by rw [HK.out]; omega), List.take_of_length_le (by rw [HK'.out]; omega)] at he
        have HKK := mkHid hLM
        clear he hkk hLM
        go_wp2_with fail
        go_ret
        rw [decide_eq_true HKK.out]
        exact ⟨rfl, rfl⟩
  · have b1 : ((kl : Int) != (kl' : Int)) = true := by simp; omega
    have b2 : (kl != kl') = true := by simp; omega
    have hne : K ≠ K' := fun e => e1 (by rw [← hk, ← hk', e])
    rw [decide_eq_false hne]
    clear hne hk hk'
    go_enter Tryz.func189, Tryz.ntmps189
    go_wp2_with fail
    go_ret
    exact ⟨rfl, rfl⟩
theorem two_boxes0 (w : World) (x0 x1 x2 y0 y1 y2 : Value) (t : TypeId) : ((w.alloc (.cells #[x0, x1, x2] t)).alloc (.cells #[y0, y1, y2] t)).cell? ⟨w.heap.size, 0, none⟩ = some x0 ∧ ((w.alloc (.cells #[x0, x1, x2] t)).alloc (.cells #[y0, y1, y2] t)).cell? ⟨w.heap.size + 1, 0, none⟩ = some y0 := by
  have g := Chg.alloc [] (w.alloc (.cells #[x0, x1, x2] t)) (.cells #[y0, y1, y2] t)
  have hz : (w.alloc (.cells #[x0, x1, x2] t)).heap.size = w.heap.size + 1 := by simp
  have h2 := cell_of_row ((w.alloc (.cells #[x0, x1, x2] t)).alloc (.cells #[y0, y1, y2] t)) _ 0 _ _ _ (heap_alloc_last (w.alloc (.cells #[x0, x1, x2] t)) (.cells #[y0, y1, y2] t))
  rw [hz] at h2
  have h1 := cell_of_row (w.alloc (.cells #[x0, x1, x2] t)) _ 0 _ _ _ (heap_alloc_last w (.cells #[x0, x1, x2] t))
  exact ⟨g.cellv h1 (by simp), h2⟩
set_option maxRecDepth 20000 in
theorem same_any (lf : Bool) (ka : Option Addr) (kl kc : Nat) (va : Option Addr) (vl vc : Nat) (K V : List Nat) (lf' : Bool) (ka' : Option Addr) (kl' kc' : Nat) (va' : Option Addr) (vl' vc' : Nat) (K' V' : List Nat) (w : World) (h : RdN w ka kc va vc K V) (hk : K.length = kl) (hv : V.length = vl) (g : RdN w ka' kc' va' vc' K' V') (hk' : K'.length = kl') (hv' : V'.length = vl') :
    Calls Tryz.prog 179 #[.agg #[.bool lf, .slice ka kl kc, .slice va vl vc], .agg #[.bool lf', .slice ka' kl' kc', .slice va' vl' vc']] w fun e w' => e = .returned (.bool (sameB lf lf' K V K' V')) ∧ Chg [] w w' := by
  have hkb : kl ≤ 140737488351232 := by have := h.ck; have := h.bk; omega
  have hvb : vl ≤ 140737488351232 := by have := h.cv; have := h.bv; omega
  have hkb' : kl' ≤ 140737488351232 := by have := g.ck; have := g.bk; omega
  have hvb' : vl' ≤ 140737488351232 := by have := g.cv; have := g.bv; omega
  have g0 : Chg [] w ((w.alloc (.cells #[.bool lf, .slice ka kl kc, .slice va vl vc] 53)).alloc (.cells #[.bool lf', .slice ka' kl' kc', .slice va' vl' vc'] 53)) := (Chg.alloc [] w _).then (Chg.alloc [] _ _)
  have cK := fun (u : World) (gu : Chg [] w u) => equal_any ka kl kc K ka' kl' kc' K' u (h.keep gu).rk hk hkb (g.keep gu).rk hk' hkb'
  have cV := fun (u : World) (gu : Chg [] w u) => equal_any va vl vc V va' vl' vc' V' u (h.keep gu).rv hv hvb (g.keep gu).rv hv' hvb'
  obtain ⟨c1, c2, c3, c4⟩ := two_boxes w (.bool lf) (.slice ka kl kc) (.slice va vl vc) (.bool lf') (.slice ka' kl' kc') (.slice va' vl' vc') 53
  obtain ⟨c0, c5⟩ := two_boxes0 w (.bool lf) (.slice ka kl kc) (.slice va vl vc) (.bool lf') (.slice ka' kl' kc') (.slice va' vl' vc') 53
  have G0 := mkHid g0
  have CK := mkHid (cK _ g0)
  have CV := mkHid (cV _ g0)
  have HK := mkHid hk
  have HV := mkHid hv
  have HK' := mkHid hk'
  have HV' := mkHid hv'
  clear cK cV hk hv hk' hv' g0
  unfold sameB
  by_cases e0 : lf = lf'
  · subst e0
    have b0 : (lf == lf) = true := by simp
    rw [decide_eq_true rfl, Bool.true_and]
    by_cases e1 : K = K'
    · rw [decide_eq_true e1, Bool.true_and]
      rw [decide_eq_true e1] at CK
      generalize hq : decide (V = V') = q at *
      have HQ := mkHid hq
      clear e1 hq
      go_enter Tryz.func179, Tryz.ntmps179
      go_wp2_with (first | (go_at_call_of 189 (Value.slice ka kl kc); refine CK.out.mono ?_; rintro e w' ⟨rfl, rfl⟩) | (go_at_call_of 189 (Value.slice va vl vc); refine CV.out.mono ?_; rintro e w' ⟨rfl, rfl⟩))
      go_ret
      exact ⟨rfl, G0.out⟩
    · rw [decide_eq_false e1, Bool.false_and]
      rw [decide_eq_false e1] at CK
      clear e1
      go_enter Tryz.func179, Tryz.ntmps179
      go_wp2_with (first | (go_at_call_of 189 (Value.slice ka kl kc); refine CK.out.mono ?_; rintro e w' ⟨rfl, rfl⟩))
      go_ret
      exact ⟨rfl, G0.out⟩
  · have b0 : (lf == lf') = false := by simp [e0]
    rw [decide_eq_false e0, Bool.false_and]
    clear e0
    go_enter Tryz.func179, Tryz.ntmps179
    go_wp2_with fail
    go_ret
    exact ⟨rfl, G0.out⟩
end Go.Proofs.YtdgkbicelnnfpaaGreatDoor
