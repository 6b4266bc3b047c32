/- The reference: May, Same, Own. -/
import Derived.Test.YtbopfpdgoalfoaaNb
namespace Go.Proofs.Ytbopfpdgoalfoaa
open Go.RowKit
set_option linter.unusedVariables false
set_option linter.unusedSimpArgs false
attribute [local go_sem ↓] Go.wp_at_zero Go.wp_at_succ

/-- A node, as a value: its keys and values read as rows of numbers. -/
structure RdN (w : World) (ka : Option Addr) (kc : Nat) (va : Option Addr) (vc : Nat) (K V : List Nat) : Prop where
  rk : Reads w ka (uvs K)
  rv : Reads w va (uvs V)
  ck : K.length ≤ kc
  cv : V.length ≤ vc
  bk : K.length * 8 ≤ 140737488351232
  bv : V.length * 8 ≤ 140737488351232
  xk : kc ≤ maxLen
  xv : vc ≤ maxLen
theorem RdN.keep {w w' : World} {ka : Option Addr} {kc : Nat} {va : Option Addr} {vc : Nat} {K V : List Nat} (h : RdN w ka kc va vc K V) (g : Chg [] w w') : RdN w' ka kc va vc K V := ⟨h.rk.keep g, h.rv.keep g, h.ck, h.cv, h.bk, h.bv, h.xk, h.xv⟩
def nv (lf : Bool) (ka : Option Addr) (kl kc : Nat) (va : Option Addr) (vl vc : Nat) : Value := .agg #[.bool lf, .slice ka kl kc, .slice va vl vc]
theorem getD_of {L : List Nat} {i x : Nat} (h : L[i]? = some x) : L.getD i 0 = x := by rw [List.getD_eq_getElem?_getD, h]; rfl
theorem all_mono (f : Nat → Bool) {a b : Nat} (h : a ≤ b) (hb : (List.range b).all f = true) : (List.range a).all f = true := by
  rw [List.all_eq_true] at hb ⊢
  exact fun x hx => hb x (by simp at hx ⊢; omega)
theorem okAt_zero {K V : List Nat} {v : Nat} (hv : V[0]? = some v) : okAt K V 0 = decide (0 < v) := by unfold okAt; rw [getD_of hv]; simp
theorem okAt_succ {K V : List Nat} {h v y z : Nat} (hv : V[h + 1]? = some v) (hy : K[h + 1]? = some y) (hz : K[h]? = some z) : okAt K V (h + 1) = (decide (0 < v) && decide (z < y)) := by
  unfold okAt
  rw [getD_of hv, getD_of hy, show h + 1 - 1 = h by omega, getD_of hz]
  simp
set_option maxRecDepth 20000 in
set_option maxHeartbeats 1000000 in
theorem rmay_any (lf : Bool) (ka : Option Addr) (kl kc : Nat) (va : Option Addr) (vl vc : Nat) (K V : List Nat) (w : World) (h : RdN w ka kc va vc K V) (hk : K.length = kl) (hv : V.length = vl) : Calls Try.prog 14 #[.agg #[.bool lf, .slice ka kl kc, .slice va vl vc]] w fun e w' => e = .returned (.bool (mayB K V)) ∧ Chg [] w w' := by
  have hkc := h.ck
  have hbk := h.bk
  have g0 := Chg.alloc [] w (.cells #[.bool lf, .slice ka kl kc, .slice va vl vc] 24)
  have c1 := cell_of_row (w.alloc (.cells #[.bool lf, .slice ka kl kc, .slice va vl vc] 24)) w.heap.size 1 _ _ _ (heap_alloc_last w _)
  have c2 := cell_of_row (w.alloc (.cells #[.bool lf, .slice ka kl kc, .slice va vl vc] 24)) w.heap.size 2 _ _ _ (heap_alloc_last w _)
  have HC := mkHid (And.intro c1 c2)
  clear c1 c2
  by_cases h1 : 1 ≤ kl
  · by_cases h2 : kl ≤ 8
    · by_cases h3 : vl = kl
      · subst h3
        have d1 : decide ((vl : Int) ≥ 1) = true := decide_eq_true (by omega)
        have d1' : decide ((1 : Int) ≤ (vl : Int)) = true := decide_eq_true (by omega)
        have d1'' : decide (1 ≤ vl) = true := decide_eq_true h1
        have d2 : decide ((vl : Int) ≤ 8) = true := decide_eq_true (by omega)
        have d2' : decide (vl ≤ 8) = true := decide_eq_true h2
        have d3 : ((vl : Int) == (vl : Int)) = true := by simp
        have hm : mayB K V = (List.range vl).all (okAt K V) := by
          unfold mayB
          rw [hk, hv, decide_eq_true h1, decide_eq_true h2, decide_eq_true rfl]; rfl
        rw [hm]
        have HM := mkHid hm
        have HK := mkHid hk
        have HV := mkHid hv
        clear hm hk hv
        go_enter Try.func14, Try.ntmps14
        go_wp2_with fail
        generalize w.alloc (.cells #[.bool lf, .slice ka vl kc, .slice va vl vc] 24) = w1 at *
        generalize w.heap.size = b at *
        obtain ⟨c1, c2⟩ := HC.out
        simp only [List.getElem?_toArray, List.getElem?_cons_succ, List.getElem?_cons_zero] at c1 c2
        go_loopw [3, 4] (fun ov iv wr => ∃ k : Nat, iv = .int .i64 k ∧ ov = .bool ((List.range k).all (okAt K V)) ∧ k ≤ vl ∧ Chg [] w1 wr) (fun _ iv _ => vl - (intOf iv).toNat)
        case atStart => exact ⟨0, rfl, rfl, Nat.zero_le _, Chg.refl _ _⟩
        case round =>
          obtain ⟨k, rfl, rfl, hkl, hg⟩ := hrel
          have x1 := hg.cellv c1 (by simp)
          have x2 := hg.cellv c2 (by simp)
          have hr := (h.keep g0).keep hg
          cases hb : (List.range k).all (okAt K V) with
          | false =>
            have hf : (List.range vl).all (okAt K V) = false := by
              cases h9 : (List.range vl).all (okAt K V) with
              | false => rfl
              | true => rw [all_mono _ hkl h9] at hb; cases hb
            have HF := mkHid hf
            clear hb hf hr
            go_wp2_with fail
            go_ret
            rw [HF.out]
            exact ⟨rfl, g0.then hg⟩
          | true =>
            by_cases hlt : k < vl
            · have hd : decide (k < vl) = true := decide_eq_true hlt
              have hd2 : decide ((k : Int) < (vl : Int)) = true := decide_eq_true (by omega)
              have hkK : k < K.length := by rw [HK.out]; exact hlt
              have hkV : k < V.length := by rw [HV.out]; exact hlt
              obtain ⟨y, hy⟩ : ∃ y, K[k]? = some y := ⟨_, List.getElem?_eq_getElem hkK⟩
              obtain ⟨v, hv⟩ : ∃ v, V[k]? = some v := ⟨_, List.getElem?_eq_getElem hkV⟩
              have hsucc := all_range_succ (okAt K V) k
              rw [hb, Bool.true_and] at hsucc
              obtain ⟨kb, ko, rfl, ck, _⟩ := reads_lt hr.rk k _ (uvs_get hy)
              obtain ⟨vb, vo, rfl, cv, _⟩ := reads_lt hr.rv k _ (uvs_get hv)
              by_cases hk0 : k = 0
              · have k1 : decide ((k : Int) > 0) = false := decide_eq_false (by omega)
                have k2 : decide (0 < k) = false := decide_eq_false (by omega)
                have k3 : decide ((0 : Int) < (k : Int)) = false := decide_eq_false (by omega)
                rw [show okAt K V k = decide (0 < v) by rw [hk0] at hv ⊢; exact okAt_zero hv] at hsucc
                by_cases hv0 : 0 < v
                · rw [decide_eq_true hv0] at hsucc
                  have v1 : decide ((v : Int) > 0) = true := decide_eq_true (by omega)
                  have v2 : decide (0 < v) = true := decide_eq_true hv0
                  have v3 : decide ((0 : Int) < (v : Int)) = true := decide_eq_true (by omega)
                  have HE := mkHid hsucc
                  clear hsucc hv hy hk0 hb hr
                  go_wp2_with fail
                  go_quiet (fail)
                  go_wp2_with fail
                  exact ⟨⟨k + 1, by first | rfl | go_num, by rw [HE.out], by omega, hg.then (Chg.drewN _ _)⟩, by simp [intOf]; omega⟩
                · rw [decide_eq_false hv0] at hsucc
                  have v1 : decide ((v : Int) > 0) = false := decide_eq_false (by omega)
                  have v2 : decide (0 < v) = false := decide_eq_false hv0
                  have v3 : decide ((0 : Int) < (v : Int)) = false := decide_eq_false (by omega)
                  have HE := mkHid hsucc
                  clear hsucc hv hy hk0 hb hr
                  go_wp2_with fail
                  go_quiet (fail)
                  go_wp2_with fail
                  exact ⟨⟨k + 1, by first | rfl | go_num, by rw [HE.out], by omega, hg.then (Chg.drewN _ _)⟩, by simp [intOf]; omega⟩
              · obtain ⟨h', hh'⟩ : ∃ h', k = h' + 1 := ⟨k - 1, by omega⟩
                have hkh : (k : Int) - 1 = (h' : Int) := by omega
                have hlt' : h' < vl := by omega
                obtain ⟨z, hz⟩ : ∃ z, K[h']? = some z := ⟨_, List.getElem?_eq_getElem (by omega)⟩
                obtain ⟨kb', ko', e9, cz, _⟩ := reads_lt hr.rk h' _ (uvs_get hz)
                cases e9
                have k1 : decide ((k : Int) > 0) = true := decide_eq_true (by omega)
                have k2 : decide (0 < k) = true := decide_eq_true (by omega)
                have k3 : decide ((0 : Int) < (k : Int)) = true := decide_eq_true (by omega)
                rw [show okAt K V k = (decide (0 < v) && decide (z < y)) by rw [hh'] at hv hy ⊢; exact okAt_succ hv hy hz] at hsucc
                have hzy : decide ((z : Int) ≥ (y : Int)) = !decide (z < y) := by
                  by_cases e : z < y
                  · rw [decide_eq_true e, decide_eq_false (by omega)]; rfl
                  · rw [decide_eq_false e, decide_eq_true (by omega)]; rfl
                have hzy2 : decide (y ≤ z) = !decide (z < y) := by
                  by_cases e : z < y
                  · rw [decide_eq_true e, decide_eq_false (by omega)]; rfl
                  · rw [decide_eq_false e, decide_eq_true (by omega)]; rfl
                by_cases hv0 : 0 < v
                · rw [decide_eq_true hv0, Bool.true_and] at hsucc
                  have v1 : decide ((v : Int) > 0) = true := decide_eq_true (by omega)
                  have v2 : decide (0 < v) = true := decide_eq_true hv0
                  have v3 : decide ((0 : Int) < (v : Int)) = true := decide_eq_true (by omega)
                  by_cases hzl : z < y
                  · rw [decide_eq_true hzl] at hsucc hzy hzy2
                    have HE := mkHid hsucc
                    clear hsucc hv hy hk0 hb hr hh' hz
                    go_wp2_with fail
                    go_quiet (fail)
                    go_wp2_with fail
                    exact ⟨⟨k + 1, by first | rfl | go_num, by rw [HE.out], by omega, hg.then (Chg.drewN _ _)⟩, by simp [intOf]; omega⟩
                  · rw [decide_eq_false hzl] at hsucc hzy hzy2
                    have HE := mkHid hsucc
                    clear hsucc hv hy hk0 hb hr hh' hz
                    go_wp2_with fail
                    go_quiet (fail)
                    go_wp2_with fail
                    exact ⟨⟨k + 1, by first | rfl | go_num, by rw [HE.out], by omega, hg.then (Chg.drewN _ _)⟩, by simp [intOf]; omega⟩
                · rw [decide_eq_false hv0, Bool.false_and] at hsucc
                  have v1 : decide ((v : Int) > 0) = false := decide_eq_false (by omega)
                  have v2 : decide (0 < v) = false := decide_eq_false hv0
                  have v3 : decide ((0 : Int) < (v : Int)) = false := decide_eq_false (by omega)
                  by_cases hzl : z < y
                  · rw [decide_eq_true hzl] at hzy hzy2
                    have HE := mkHid hsucc
                    clear hsucc hv hy hk0 hb hr hh' hz
                    go_wp2_with fail
                    go_quiet (fail)
                    go_wp2_with fail
                    exact ⟨⟨k + 1, by first | rfl | go_num, by rw [HE.out], by omega, hg.then (Chg.drewN _ _)⟩, by simp [intOf]; omega⟩
                  · rw [decide_eq_false hzl] at hzy hzy2
                    have HE := mkHid hsucc
                    clear hsucc hv hy hk0 hb hr hh' hz
                    go_wp2_with fail
                    go_quiet (fail)
                    go_wp2_with fail
                    exact ⟨⟨k + 1, by first | rfl | go_num, by rw [HE.out], by omega, hg.then (Chg.drewN _ _)⟩, by simp [intOf]; omega⟩
            · have hkn : k = vl := by omega
              have hd : decide (k < vl) = false := decide_eq_false hlt
              have hd2 : decide ((k : Int) < (vl : Int)) = false := decide_eq_false (by omega)
              have hf : (List.range vl).all (okAt K V) = true := by rw [← hkn]; exact hb
              have HF := mkHid hf
              clear hb hf hr hkn
              go_wp2_with fail
              go_ret
              rw [HF.out]
              exact ⟨rfl, g0.then hg⟩
      · have hm : mayB K V = false := by unfold mayB; rw [hk, hv, decide_eq_false h3]; simp
        rw [hm]
        have d1 : decide ((kl : Int) ≥ 1) = true := decide_eq_true (by omega)
        have d1' : decide ((1 : Int) ≤ (kl : Int)) = true := decide_eq_true (by omega)
        have d1'' : decide (1 ≤ kl) = true := decide_eq_true h1
        have d2 : decide ((kl : Int) ≤ 8) = true := decide_eq_true (by omega)
        have d2' : decide (kl ≤ 8) = true := decide_eq_true h2
        have d3 : ((vl : Int) == (kl : Int)) = false := beq_eq_false_iff_ne.2 (by omega)
        have d3' : (vl == kl) = false := beq_eq_false_iff_ne.2 h3
        clear hm hk hv
        go_enter Try.func14, Try.ntmps14
        go_wp2_with fail
        go_loopw [3] (fun ov wr => ov = .bool false ∧ Chg [] w wr) (fun _ _ => 0)
        case atStart => exact ⟨rfl, g0⟩
        case round =>
          obtain ⟨rfl, hg⟩ := hrel
          go_wp2_with fail
          go_ret
          exact ⟨rfl, hg⟩
    · have hm : mayB K V = false := by unfold mayB; rw [hk, decide_eq_false h2]; simp
      rw [hm]
      have d1 : decide ((kl : Int) ≥ 1) = true := decide_eq_true (by omega)
      have d1' : decide ((1 : Int) ≤ (kl : Int)) = true := decide_eq_true (by omega)
      have d1'' : decide (1 ≤ kl) = true := decide_eq_true h1
      have d2 : decide ((kl : Int) ≤ 8) = false := decide_eq_false (by omega)
      have d2' : decide (kl ≤ 8) = false := decide_eq_false h2
      clear hm hk hv
      go_enter Try.func14, Try.ntmps14
      go_wp2_with fail
      go_loopw [3] (fun ov wr => ov = .bool false ∧ Chg [] w wr) (fun _ _ => 0)
      case atStart => exact ⟨rfl, g0⟩
      case round =>
        obtain ⟨rfl, hg⟩ := hrel
        go_wp2_with fail
        go_ret
        exact ⟨rfl, hg⟩
  · have hm : mayB K V = false := by unfold mayB; rw [hk, decide_eq_false h1]; simp
    rw [hm]
    have d1 : decide ((kl : Int) ≥ 1) = false := decide_eq_false (by omega)
    have d1' : decide ((1 : Int) ≤ (kl : Int)) = false := decide_eq_false (by omega)
    have d1'' : decide (1 ≤ kl) = false := decide_eq_false h1
    clear hm hk hv
    go_enter Try.func14, Try.ntmps14
    go_wp2_with fail
    go_loopw [3] (fun ov wr => ov = .bool false ∧ Chg [] w wr) (fun _ _ => 0)
    case atStart => exact ⟨rfl, g0⟩
    case round =>
      obtain ⟨rfl, hg⟩ := hrel
      go_wp2_with fail
      go_ret
      exact ⟨rfl, hg⟩
end Go.Proofs.Ytbopfpdgoalfoaa
