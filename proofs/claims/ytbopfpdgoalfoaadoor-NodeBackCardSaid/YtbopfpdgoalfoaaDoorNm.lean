/- Package node: May. -/
import Derived.Test.YtbopfpdgoalfoaaDoorNl
namespace Go.Proofs.YtbopfpdgoalfoaaDoor
open Go.RowKit
set_option linter.unusedVariables false
set_option linter.unusedSimpArgs false
attribute [local go_sem ↓] Go.wp_at_zero Go.wp_at_succ

theorem low_take {K : List Nat} {j z : Nat} (hz : K[j]? = some z) (x : Nat) : lowK (K.take (j + 1)) x = decide (x ≤ z) := by
  have hl := (List.getElem?_eq_some_iff.1 hz).1
  exact low_at (j := j) (by rw [List.length_take]; omega) (by rw [List.getElem?_take]; simp [hz]) x
theorem ok_at {K V : List Nat} {i x v : Nat} (hx : K[i]? = some x) (hv : V[i]? = some v) : okAt K V i = (!lowK (K.take i) x && pointsB v) := by
  cases i with
  | zero =>
    rw [okAt_zero hv]
    unfold pointsB
    rw [List.take_zero, low_nil]
    rw [Bool.eq_iff_iff]; simp; omega
  | succ j =>
    have hl := (List.getElem?_eq_some_iff.1 hx).1
    obtain ⟨z, hz⟩ : ∃ z, K[j]? = some z := ⟨_, List.getElem?_eq_getElem (by omega)⟩
    rw [okAt_succ hv hx hz, low_take hz]
    unfold pointsB
    rw [Bool.eq_iff_iff]; simp; omega
set_option maxRecDepth 20000 in
set_option maxHeartbeats 1000000 in
theorem may_any (lf : Bool) (ka : Option Addr) (kl kc : Nat) (va : Option Addr) (vl vc : Nat) (K V : List Nat) (w : World) (h : RdN w ka kc va vc K V) (hk : K.length = kl) (hv : V.length = vl) : Calls Tryd.prog 7 #[.agg #[.bool lf, .slice ka kl kc, .slice va vl vc]] w fun e w' => e = .returned (.bool (mayB K V)) ∧ Chg [] w w' := by
  have hkc : kl ≤ kc := by have := h.ck; omega
  have hvc : vl ≤ vc := by have := h.cv; omega
  have hbk : kc ≤ 9223372036854775807 := h.xk
  have hbv : vc ≤ 9223372036854775807 := h.xv
  have g0 := Chg.alloc [] w (.cells #[.bool lf, .slice ka kl kc, .slice va vl vc] 24)
  have c1 := cell_of_row (w.alloc (.cells #[.bool lf, .slice ka kl kc, .slice va vl vc] 24)) w.heap.size 1 _ _ _ (heap_alloc_last w _)
  have c2 := cell_of_row (w.alloc (.cells #[.bool lf, .slice ka kl kc, .slice va vl vc] 24)) w.heap.size 2 _ _ _ (heap_alloc_last w _)
  have HC := mkHid (And.intro c1 c2)
  have G0 := mkHid g0
  clear c1 c2 g0
  have cF := fun u => few_any kl u
  have hF : fewB kl = true → kl ≤ 8 ∧ 1 ≤ kl := by unfold fewB; simp; omega
  by_cases h1 : fewB kl = true
  · obtain ⟨h2, h2'⟩ := hF h1
    rw [h1] at cF
    by_cases h3 : vl = kl
    · subst h3
      have hm : mayB K V = (List.range vl).all (okAt K V) := by
        unfold mayB; rw [hk, hv, decide_eq_true h2', decide_eq_true h2]; simp
      rw [hm]
      have d3 : ((vl : Int) != (vl : Int)) = false := by simp
      have HK := mkHid hk
      have HV := mkHid hv
      clear hm hk hv hF h1
      go_enter Tryd.func7, Tryd.ntmps7
      go_wp2_with (first | (go_at_call 16; refine (cF _).mono ?_; rintro e w' ⟨rfl, rfl⟩))
      generalize w.alloc (.cells #[.bool lf, .slice ka vl kc, .slice va vl vc] 24) = w1 at *
      generalize w.heap.size = b at *
      obtain ⟨c1, c2⟩ := HC.out
      have r1 := h.keep G0.out
      go_loop [23] (fun iv => ∃ k : Nat, iv = .int .i64 k ∧ k ≤ vl ∧ (List.range k).all (okAt K V) = true) (fun iv => vl - (intOf iv).toNat)
      case atStart => exact ⟨0, rfl, Nat.zero_le _, rfl⟩
      case round =>
        obtain ⟨k, rfl, hkn, ha⟩ := hrel
        by_cases hlt : k < vl
        · have hd : decide (k < vl) = true := decide_eq_true hlt
          have hd2 : decide ((k : Int) < (vl : Int)) = true := decide_eq_true (by omega)
          have kL : k < K.length := by rw [HK.out]; exact hlt
          have kM : k < V.length := by rw [HV.out]; exact hlt
          obtain ⟨x, hx⟩ : ∃ x, K[k]? = some x := ⟨_, List.getElem?_eq_getElem kL⟩
          obtain ⟨y, hy⟩ : ∃ y, V[k]? = some y := ⟨_, List.getElem?_eq_getElem kM⟩
          obtain ⟨xb, xo, rfl, cx, _⟩ := reads_lt r1.rk k _ (uvs_get hx)
          obtain ⟨yb, yo, rfl, cy, _⟩ := reads_lt r1.rv k _ (uvs_get hy)
          have hok := ok_at hx hy
          have hsn := all_range_succ (okAt K V) k
          rw [ha, Bool.true_and, hok] at hsn
          have hrs : (Instr.slice 22 (.slice (some ⟨xb, xo, none⟩) vl kc) none (some (.int .i64 (k : Int))) none).run Tryd.prog w1 = .ok (.slice (some ⟨xb, xo, none⟩) k kc) w1 := run_take_k (e := 38) (some ⟨xb, xo, none⟩) vl kc k Tryd.underlying22 (by kernel_rfl) (by omega) w1
          have cR := rises_any (some ⟨xb, xo, none⟩) k kc (K.take k) x w1 (by rw [show uvs (K.take k) = (uvs K).take k from List.map_take ..]; exact r1.rk.take k) (by rw [List.length_take]; omega) (by omega) (by unfold maxLen; omega)
          have cP := points_any y w1
          have hall : (List.range (k + 1)).all (okAt K V) = false → (List.range vl).all (okAt K V) = false := by
            intro hf
            cases hq : (List.range vl).all (okAt K V) with
            | false => rfl
            | true => exact absurd (all_mono _ (a := k + 1) (b := vl) (by omega) hq) (by rw [hf]; simp)
          have HA := mkHid (And.intro hsn hall)
          have HX := mkHid (And.intro hx hy)
          clear hsn hall hok ha kL kM hx hy
          generalize lowK (K.take k) x = q at *
          generalize pointsB y = p at *
          cases q with
          | true =>
            go_wp2_with (first | (go_at_call 17; refine cR.mono ?_; rintro e w' ⟨rfl, rfl⟩))
            go_ret
            rw [HA.out.2 HA.out.1]
            exact ⟨rfl, G0.out⟩
          | false =>
            cases p with
            | false =>
              go_wp2_with (first | (go_at_call 17; refine cR.mono ?_; rintro e w' ⟨rfl, rfl⟩) | (go_at_call 18; refine cP.mono ?_; rintro e w' ⟨rfl, rfl⟩))
              go_ret
              rw [HA.out.2 HA.out.1]
              exact ⟨rfl, G0.out⟩
            | true =>
              go_wp2_with (first | (go_at_call 17; refine cR.mono ?_; rintro e w' ⟨rfl, rfl⟩) | (go_at_call 18; refine cP.mono ?_; rintro e w' ⟨rfl, rfl⟩))
              go_round
              case rel => exact ⟨k + 1, by first | rfl | go_num, by omega, HA.out.1⟩
              case measure => simp [intOf]; omega
        · have hkk : k = vl := by omega
          subst hkk
          have hd : decide (k < k) = false := by simp
          have HA := mkHid ha
          clear ha
          go_wp2_with fail
          go_ret
          rw [HA.out]
          exact ⟨rfl, G0.out⟩
    · have hm : mayB K V = false := by unfold mayB; rw [hk, hv, decide_eq_false h3]; simp
      rw [hm]
      have d3 : ((vl : Int) != (kl : Int)) = true := by simp; omega
      have d4 : (vl != kl) = true := by simp; omega
      clear hm hk hv hF h1
      go_enter Tryd.func7, Tryd.ntmps7
      go_wp2_with (first | (go_at_call 16; refine (cF _).mono ?_; rintro e w' ⟨rfl, rfl⟩))
      go_ret
      exact ⟨rfl, G0.out⟩
  · have h1' : fewB kl = false := by simpa using h1
    have hm : mayB K V = false := by
      have h9 : (decide (1 ≤ K.length) && decide (K.length ≤ 8)) = false := by rw [hk]; exact h1'
      unfold mayB; rw [h9]; rfl
    rw [hm]
    rw [h1'] at cF
    clear hm hk hv hF h1 h1'
    go_enter Tryd.func7, Tryd.ntmps7
    go_wp2_with (first | (go_at_call 16; refine (cF _).mono ?_; rintro e w' ⟨rfl, rfl⟩))
    go_ret
    exact ⟨rfl, G0.out⟩
end Go.Proofs.YtbopfpdgoalfoaaDoor
