/- NodeSame. -/
import Derived.Test.YtbopfpdgoalfoaaNw
namespace Go.Proofs.Ytbopfpdgoalfoaa
open Go.RowKit
set_option linter.unusedVariables false
set_option linter.unusedSimpArgs false
attribute [local go_sem ↓] Go.wp_at_zero Go.wp_at_succ

set_option maxRecDepth 20000 in
set_option maxHeartbeats 4000000 in
theorem same_core (lf : Bool) (ka : Option Addr) (kl kc : Nat) (va : Option Addr) (vl vc : Nat) (K V : List Nat) (lf' : Bool) (ka' : Option Addr) (kl' kc' : Nat) (va' : Option Addr) (vl' vc' : Nat) (K' V' : List Nat) (w : World) (h : RdN w ka kc va vc K V) (hk : K.length = kl) (hv : V.length = vl) (h' : RdN w ka' kc' va' vc' K' V') (hk' : K'.length = kl') (hv' : V'.length = vl') :
    Calls Try.prog 5 #[.agg #[.bool lf, .slice ka kl kc, .slice va vl vc], .agg #[.bool lf', .slice ka' kl' kc', .slice va' vl' vc']] w fun e w' => e = .returned (.bool true) ∧ Chg [] w w' := by
  have G0 : Chg [] w ((w.alloc (.cells #[.bool lf, .slice ka kl kc, .slice va vl vc] 24)).alloc (.cells #[.bool lf', .slice ka' kl' kc', .slice va' vl' vc'] 24)) := (Chg.alloc [] w _).then (Chg.alloc [] _ _)
  obtain ⟨e1, e2, f1, f2⟩ := two_boxes w (.bool lf) (.slice ka kl kc) (.slice va vl vc) (.bool lf') (.slice ka' kl' kc') (.slice va' vl' vc') 24
  obtain ⟨e0, f0⟩ := two_boxes0 w (.bool lf) (.slice ka kl kc) (.slice va vl vc) (.bool lf') (.slice ka' kl' kc') (.slice va' vl' vc') 24
  have HK := mkHid hk
  have HV := mkHid hv
  have HK' := mkHid hk'
  have HV' := mkHid hv'
  have HE := mkHid (And.intro e0 (And.intro e1 (And.intro e2 (And.intro f0 (And.intro f1 f2)))))
  clear hk hv hk' hv' e0 e1 e2 f0 f1 f2
  go_enter Try.func5, Try.ntmps5
  go_wp2_with fail
  obtain ⟨e0, e1, e2, f0, f1, f2⟩ := HE.out
  clear HE
  generalize (w.alloc (.cells #[.bool lf, .slice ka kl kc, .slice va vl vc] 24)).alloc (.cells #[.bool lf', .slice ka' kl' kc', .slice va' vl' vc'] 24) = w5 at *
  generalize w.heap.size + 1 = ob3 at *
  generalize w.heap.size = nb at *
  have hA := h.keep G0
  have hB := h'.keep G0
  have c1 := fun (u : World) (g : Chg [] w5 u) => same_any lf ka kl kc va vl vc K V lf' ka' kl' kc' va' vl' vc' K' V' u (hA.keep g) HK.out HV.out (hB.keep g) HK'.out HV'.out
  have c2 := fun (u : World) (g : Chg [] w5 u) => rsame_any lf ka kl kc va vl vc K V lf' ka' kl' kc' va' vl' vc' K' V' u (hA.keep g) HK.out HV.out (hB.keep g) HK'.out HV'.out
  have c3 := fun (u : World) (g : Chg [] w5 u) => own_any lf ka kl kc va vl vc K V u (hA.keep g) HK.out HV.out
  have c4 := fun (u : World) (g : Chg [] w5 u) (oa : Option Addr) (oac : Nat) (ob : Option Addr) (obc : Nat) (r : RdN u oa oac ob obc K V) => same_any lf ka kl kc va vl vc K V lf oa kl oac ob vl obc K V u (hA.keep g) HK.out HV.out r HK.out HV.out
  rw [same_self] at c4
  generalize sameB lf lf' K V K' V' = q at *
  have C1 := mkHid c1
  have C2 := mkHid c2
  have C3 := mkHid c3
  have C4 := mkHid c4
  clear c1 c2 c3 c4 hA hB
  go_region_held3 (fun u => u.cell? ⟨nb, 0, none⟩ = some (.bool lf) ∧ u.cell? ⟨nb, 1, none⟩ = some (.slice ka kl kc) ∧ u.cell? ⟨nb, 2, none⟩ = some (.slice va vl vc) ∧ u.cell? ⟨ob3, 0, none⟩ = some (.bool lf') ∧ u.cell? ⟨ob3, 1, none⟩ = some (.slice ka' kl' kc') ∧ u.cell? ⟨ob3, 2, none⟩ = some (.slice va' vl' vc') ∧ Chg [] w5 u)
    (first | exact ⟨e0, e1, e2, f0, f1, f2, Chg.drew [] w5⟩ | exact step6 (by assumption) (by assumption) | assumption)
    (first
    | (go_at_call 11; refine (awake_any _).mono ?_; rintro e w6 ⟨rfl, g6⟩)
    | (go_at_call_of 18 ka'; refine (C1.out _ (pick6 (by assumption))).mono ?_; rintro e w7 ⟨rfl, g7⟩)
    | (go_at_call 15; refine (C2.out _ (pick6 (by assumption))).mono ?_; rintro e w8 ⟨rfl, g8⟩)
    | (go_at_call 8; refine (C3.out _ (pick6 (by assumption))).mono ?_; rintro e w9 ⟨⟨oa, oac, ob, obc, rfl, hO, -, -⟩, g9⟩; rw [HK.out, HV.out])
    | (go_at_call_of 18 oa; refine (C4.out _ (pick6 (by assumption)) _ _ _ _ hO).mono ?_; rintro e w10 ⟨rfl, g10⟩))
  have hk10 : Chg [] w5 w10 := pick6 (by assumption)
  go_wp2_with fail
  go_ret
  exact ⟨rfl, G0.then hk10⟩
end Go.Proofs.Ytbopfpdgoalfoaa
