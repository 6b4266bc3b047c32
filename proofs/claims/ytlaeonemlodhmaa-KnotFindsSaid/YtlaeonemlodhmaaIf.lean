/- The reference's Child. -/
import Derived.Test.YtlaeonemlodhmaaIc
namespace Go.Proofs.Ytlaeonemlodhmaa
open Go.RowKit
set_option linter.unusedVariables false
set_option linter.unusedSimpArgs false
attribute [local go_sem ↓] Go.wp_at_zero Go.wp_at_succ

set_option maxRecDepth 20000 in
set_option maxHeartbeats 1000000 in
theorem rchild_any (lf : Bool) (ka : Option Addr) (kl kc : Nat) (va : Option Addr) (vl vc : Nat) (K V : List Nat) (w : World) (h : RdN w ka kc va vc K V) (hk : K.length = kl) (hv : V.length = vl) (x : Nat) :
    Calls Try.prog 13 #[.agg #[.bool lf, .slice ka kl kc, .slice va vl vc], .int .u64 (x : Int)] w fun e w' => e = .returned (.int .i64 (childN x K V : Nat)) ∧ Chg [] w w' := by
  have hkc := h.ck
  have hbk := h.bk
  have g0 := Chg.alloc [] w (.cells #[.bool lf, .slice ka kl kc, .slice va vl vc] 24)
  obtain ⟨c0, c1, c2⟩ := laid3 w (.bool lf) (.slice ka kl kc) (.slice va vl vc) 24
  have h1 := h.keep g0
  obtain ⟨P, hP⟩ : ∃ P, np K V = P := ⟨_, rfl⟩
  have cP := rpairs_any lf ka kl kc va vl vc P (by rw [min_np hk hv, hP])
  have hPk : P ≤ kl := by rw [← hP, ← hk]; exact np_le.1
  have hklb : kl ≤ 140737488351232 := by omega
  have HC := mkHid (And.intro c0 (And.intro c1 c2))
  have HP := mkHid hP
  have HK := mkHid hk
  clear c0 c1 c2 hk hv h hP
  go_enter Try.func13, Try.ntmps13
  go_wp2_with fail
  generalize w.alloc (.cells #[.bool lf, .slice ka kl kc, .slice va vl vc] 24) = w1 at *
  generalize w.heap.size = b at *
  obtain ⟨c0, c1, c2⟩ := HC.out
  go_loopw [5] (fun iv wr => ∃ k : Nat, iv = .int .i64 k ∧ k ≤ runN (fun k => decide (k ≤ x)) K V ∧ k ≤ P ∧ Chg [] w1 wr) (fun iv _ => P - (intOf iv).toNat)
  case atStart => exact ⟨0, rfl, Nat.zero_le _, Nat.zero_le _, Chg.refl _ _⟩
  case round =>
    obtain ⟨k, rfl, hkr, hkP, hg⟩ := hrel
    have x0 := hg.cellv c0 (by simp)
    have x1 := hg.cellv c1 (by simp)
    have x2 := hg.cellv c2 (by simp)
    have hr := h1.keep hg
    by_cases hlt : k < P
    · have d1 : decide (k < P) = true := decide_eq_true hlt
      have d2 : decide ((k : Int) < (P : Int)) = true := decide_eq_true (by omega)
      have hkl : k < kl := by omega
      obtain ⟨y, hy⟩ : ∃ y, K[k]? = some y := ⟨_, List.getElem?_eq_getElem (by rw [HK.out]; exact hkl)⟩
      obtain ⟨kb, ko, rfl, ck, _⟩ := reads_lt hr.rk k _ (uvs_get hy)
      by_cases hyx : y ≤ x
      · have e1 : decide (y ≤ x) = true := decide_eq_true hyx
        have e2 : decide ((y : Int) ≤ (x : Int)) = true := decide_eq_true (by omega)
        have hs : k + 1 ≤ runN (fun k => decide (k ≤ x)) K V := run_step hkr (by rw [HP.out]; exact hlt) hy e1
        clear hr hy
        go_wp2_with fail
        refine (cP wr).mono ?_
        rintro e w2 ⟨rfl, g2⟩
        have y1 := g2.cellv x1 (by simp)
        have ck2 := g2.cellv ck (by simp)
        have hg2 := hg.then g2
        clear x0 x1 x2 ck
        go_wp2_with fail
        exact ⟨⟨k + 1, by first | rfl | go_num, hs, by omega, hg2⟩, by simp [intOf]; omega⟩
      · have e1 : decide (y ≤ x) = false := decide_eq_false hyx
        have e2 : decide ((y : Int) ≤ (x : Int)) = false := decide_eq_false (by omega)
        have hs : runN (fun k => decide (k ≤ x)) K V = k := run_stop hkr (by rw [HP.out]; exact hlt) hy e1
        have HS := mkHid hs
        have hch : childN x K V = k - 1 := by unfold childN; rw [HS.out]
        have HCH := mkHid hch
        clear hr hy hs hch
        by_cases h0 : k = 0
        · have z1 : ((k : Int) == 0) = true := by simp; omega
          have z2 : (k == 0) = true := by simp; omega
          have HZ := mkHid h0
          clear h0
          go_wp2_with fail
          refine (cP wr).mono ?_
          rintro e w2 ⟨rfl, g2⟩
          have y1 := g2.cellv x1 (by simp)
          have ck2 := g2.cellv ck (by simp)
          have hg2 := hg.then g2
          clear x0 x1 x2 ck
          go_wp2_with fail
          go_ret
          exact ⟨ret_int (by rw [HCH.out]; have := HZ.out; omega), g0.then hg2⟩
        · have z1 : ((k : Int) == 0) = false := by simp; omega
          have z2 : (k == 0) = false := by simp; omega
          have HZ := mkHid h0
          have hk1 : 1 ≤ k := by omega
          clear h0
          go_wp2_with fail
          refine (cP wr).mono ?_
          rintro e w2 ⟨rfl, g2⟩
          have y1 := g2.cellv x1 (by simp)
          have ck2 := g2.cellv ck (by simp)
          have hg2 := hg.then g2
          clear x0 x1 x2 ck
          go_wp2_with fail
          go_ret
          exact ⟨ret_int (by rw [HCH.out]; omega), g0.then hg2⟩
    · have hke : k = P := by omega
      have d1 : decide (k < P) = false := decide_eq_false hlt
      have d2 : decide ((k : Int) < (P : Int)) = false := decide_eq_false (by omega)
      have hs : runN (fun k => decide (k ≤ x)) K V = k := run_end hkr (by rw [HP.out]; exact hlt)
      have HS := mkHid hs
      clear hke
      have hch : childN x K V = k - 1 := by unfold childN; rw [HS.out]
      have HCH := mkHid hch
      clear hr hs hch
      by_cases h0 : k = 0
      · have z1 : ((k : Int) == 0) = true := by simp; omega
        have z2 : (k == 0) = true := by simp; omega
        have HZ := mkHid h0
        clear h0
        go_wp2_with fail
        refine (cP wr).mono ?_
        rintro e w2 ⟨rfl, g2⟩
        have y1 := g2.cellv x1 (by simp)
        skip
        have hg2 := hg.then g2
        clear x0 x1 x2
        go_wp2_with fail
        go_ret
        exact ⟨ret_int (by rw [HCH.out]; have := HZ.out; omega), g0.then hg2⟩
      · have z1 : ((k : Int) == 0) = false := by simp; omega
        have z2 : (k == 0) = false := by simp; omega
        have HZ := mkHid h0
        have hk1 : 1 ≤ k := by omega
        clear h0
        go_wp2_with fail
        refine (cP wr).mono ?_
        rintro e w2 ⟨rfl, g2⟩
        have y1 := g2.cellv x1 (by simp)
        skip
        have hg2 := hg.then g2
        clear x0 x1 x2
        go_wp2_with fail
        go_ret
        exact ⟨ret_int (by rw [HCH.out]; omega), g0.then hg2⟩
end Go.Proofs.Ytlaeonemlodhmaa
