/- KnotFinds. -/
import Derived.Test.YtlaeonemlodhmaaIv
import Derived.Test.YtlaeonemlodhmaaIf
namespace Go.Proofs.Ytlaeonemlodhmaa
open Go.RowKit
set_option linter.unusedVariables false
set_option linter.unusedSimpArgs false
attribute [local go_sem ↓] Go.wp_at_zero Go.wp_at_succ

set_option maxRecDepth 20000 in
set_option maxHeartbeats 4000000 in
theorem finds_core (lf : Bool) (ka : Option Addr) (kl kc : Nat) (va : Option Addr) (vl vc : Nat) (K V : List Nat) (x : Nat) (w : World) (h : RdN w ka kc va vc K V) (hk : K.length = kl) (hv : V.length = vl) :
    Calls Try.prog 3 #[.agg #[.bool lf, .slice ka kl kc, .slice va vl vc], .int .u64 (x : Int)] w fun e w' => e = .returned (.bool true) ∧ Chg [] w w' := by
  have g0 := Chg.alloc [] w (.cells #[.bool lf, .slice ka kl kc, .slice va vl vc] 24)
  obtain ⟨c0, c1, c2⟩ := laid3 w (.bool lf) (.slice ka kl kc) (.slice va vl vc) 24
  have cF := fun (u : World) (g : Chg [] w u) => find_any lf ka kl kc va vl vc K V u (h.keep g) hk hv x
  have cG := fun (u : World) (g : Chg [] w u) => rfind_any lf ka kl kc va vl vc K V u (h.keep g) hk hv x
  have cC := fun (u : World) (g : Chg [] w u) => child_any lf ka kl kc va vl vc K V u (h.keep g) hk hv x
  have cD := fun (u : World) (g : Chg [] w u) => rchild_any lf ka kl kc va vl vc K V u (h.keep g) hk hv x
  generalize findN x K V = p at *
  generalize isN x K V = q at *
  generalize childN x K V = r at *
  have CF := mkHid cF
  have CG := mkHid cG
  have CC := mkHid cC
  have CD := mkHid cD
  have HC := mkHid (And.intro c0 (And.intro c1 (And.intro c2 g0)))
  clear cF cG cC cD c0 c1 c2 g0 h hk hv
  go_enter Try.func3, Try.ntmps3
  go_wp2_with fail
  obtain ⟨c0, c1, c2, g0⟩ := HC.out
  clear HC
  generalize w.alloc (.cells #[.bool lf, .slice ka kl kc, .slice va vl vc] 24) = w1 at *
  generalize w.heap.size = b at *
  refine (CF.out w1 g0).mono ?_
  rintro e w2 ⟨rfl, g2⟩
  have x0 := g2.cellv c0 (by simp)
  have x1 := g2.cellv c1 (by simp)
  have x2 := g2.cellv c2 (by simp)
  have gA := g0.then g2
  clear c0 c1 c2 g2 g0
  go_wp2_with fail
  refine (CG.out w2 gA).mono ?_
  rintro e w3 ⟨rfl, g3⟩
  have y0 := g3.cellv x0 (by simp)
  have y1 := g3.cellv x1 (by simp)
  have y2 := g3.cellv x2 (by simp)
  have gB := gA.then g3
  have b1 : ((p : Int) == (p : Int)) = true := by simp
  have b2 : ((r : Int) == (r : Int)) = true := by simp
  clear x0 x1 x2 g3 gA
  go_wp2_with fail
  go_region_held3 (fun u => u.cell? ⟨b, 0, none⟩ = some (.bool lf) ∧ u.cell? ⟨b, 1, none⟩ = some (.slice ka kl kc) ∧ u.cell? ⟨b, 2, none⟩ = some (.slice va vl vc) ∧ Chg [] w u)
    (first | exact ⟨(Chg.drew [] _).cellv y0 (by simp), (Chg.drew [] _).cellv y1 (by simp), (Chg.drew [] _).cellv y2 (by simp), gB.then (Chg.drew [] _)⟩ | exact step3 (by assumption) (by assumption) | assumption)
    (first
    | (go_at_call 11; refine (awake_any _).mono ?_; rintro e w6 ⟨rfl, g6⟩)
    | (go_at_call 12; refine (CC.out _ (pick3 (by assumption))).mono ?_; rintro e w7 ⟨rfl, g7⟩)
    | (go_at_call 13; refine (CD.out _ (pick3 (by assumption))).mono ?_; rintro e w8 ⟨rfl, g8⟩))
  have hk8 : Chg [] w w8 := pick3 (by assumption)
  go_wp2_with fail
  go_ret
  exact ⟨rfl, hk8⟩
end Go.Proofs.Ytlaeonemlodhmaa
