/- NodePuts, NodeSame. -/
import Derived.Test.YtbopfpdgoalfoaaNv
import Derived.Deep.RegionHeld3
namespace Go.Proofs.Ytbopfpdgoalfoaa
open Go.RowKit
set_option linter.unusedVariables false
set_option linter.unusedSimpArgs false
attribute [local go_sem ↓] Go.wp_at_zero Go.wp_at_succ

/-- What a Put answers: bytes, an error. -/
def putN (lf : Bool) (K V : List Nat) : List UInt8 × Int := if mayB K V = true then (formN lf K V, 0) else ([], 1)
def PutRes (B : Nat) (e : Ending) (w' : World) (r : List UInt8 × Int) : Prop := ∃ a n c, e = .returned (.tuple #[.slice a n c, .int .i64 r.2]) ∧ Room w' B a n c (bts r.1) ∧ r.1.length = n
section
variable (lf : Bool) (ka : Option Addr) (kl kc : Nat) (va : Option Addr) (vl vc : Nat) (K V : List Nat) (w : World) (h : RdN w ka kc va vc K V) (hk : K.length = kl) (hv : V.length = vl) (hbK : ∀ x ∈ K, x < 2 ^ 64) (hbV : ∀ x ∈ V, x < 2 ^ 64)
include h hk hv hbK hbV
theorem put_res : Calls Try.prog 9 #[.agg #[.bool lf, .slice ka kl kc, .slice va vl vc]] w fun e w' => PutRes w.heap.size e w' (putN lf K V) ∧ Chg [] w w' := by
  unfold putN
  cases hm : mayB K V with
  | true =>
    refine (put_node lf ka kl kc va vl vc K V w h hk hv hbK hbV hm).mono ?_
    rintro e w' ⟨a, c, rfl, hr, hg⟩
    exact ⟨⟨a, _, c, rfl, hr, rfl⟩, hg⟩
  | false =>
    refine (put_node_no lf ka kl kc va vl vc K V w h hk hv hm).mono ?_
    rintro e w' ⟨rfl, hg⟩
    exact ⟨⟨none, 0, 0, rfl, Room.nil _ _ _, rfl⟩, hg⟩
theorem rput_res : Calls Try.prog 10 #[.agg #[.bool lf, .slice ka kl kc, .slice va vl vc]] w fun e w' => PutRes w.heap.size e w' (putN lf K V) ∧ Chg [] w w' := by
  unfold putN
  cases hm : mayB K V with
  | true =>
    refine (rput_any lf ka kl kc va vl vc K V w h hk hv hbK hbV hm).mono ?_
    rintro e w' ⟨a, c, rfl, hr, hg⟩
    exact ⟨⟨a, _, c, rfl, hr, rfl⟩, hg⟩
  | false =>
    refine (rput_no lf ka kl kc va vl vc K V w h hk hv hm).mono ?_
    rintro e w' ⟨rfl, hg⟩
    exact ⟨⟨none, 0, 0, rfl, Room.nil _ _ _, rfl⟩, hg⟩
end
theorem pick6 {p0 p1 p2 p3 p4 p5 q : Prop} (h : p0 ∧ p1 ∧ p2 ∧ p3 ∧ p4 ∧ p5 ∧ q) : q := h.2.2.2.2.2.2
theorem step6 {a0 a1 a2 a3 a4 a5 : Addr} {v0 v1 v2 v3 v4 v5 : Value} {W u u' : World} (h : u.cell? a0 = some v0 ∧ u.cell? a1 = some v1 ∧ u.cell? a2 = some v2 ∧ u.cell? a3 = some v3 ∧ u.cell? a4 = some v4 ∧ u.cell? a5 = some v5 ∧ Chg [] W u) (g : Chg [] u u') :
    u'.cell? a0 = some v0 ∧ u'.cell? a1 = some v1 ∧ u'.cell? a2 = some v2 ∧ u'.cell? a3 = some v3 ∧ u'.cell? a4 = some v4 ∧ u'.cell? a5 = some v5 ∧ Chg [] W u' :=
  ⟨g.cellv h.1 (by simp), g.cellv h.2.1 (by simp), g.cellv h.2.2.1 (by simp), g.cellv h.2.2.2.1 (by simp), g.cellv h.2.2.2.2.1 (by simp), g.cellv h.2.2.2.2.2.1 (by simp), h.2.2.2.2.2.2.then g⟩
/-- A node's cells, in the block that it was laid in. -/
theorem laid3 (w : World) (x y z : Value) (t : TypeId) : (w.alloc (.cells #[x, y, z] t)).cell? ⟨w.heap.size, 0, none⟩ = some x ∧ (w.alloc (.cells #[x, y, z] t)).cell? ⟨w.heap.size, 1, none⟩ = some y ∧ (w.alloc (.cells #[x, y, z] t)).cell? ⟨w.heap.size, 2, none⟩ = some z := by
  have hl := heap_alloc_last w (.cells #[x, y, z] t)
  have hc := fun j => cell_of_row _ w.heap.size j _ _ _ hl
  exact ⟨by rw [hc]; rfl, by rw [hc]; rfl, by rw [hc]; rfl⟩
set_option maxRecDepth 20000 in
set_option maxHeartbeats 4000000 in
theorem puts_core (lf : Bool) (ka : Option Addr) (kl kc : Nat) (va : Option Addr) (vl vc : Nat) (K V : List Nat) (w : World) (h : RdN w ka kc va vc K V) (hk : K.length = kl) (hv : V.length = vl) (hbK : ∀ x ∈ K, x < 2 ^ 64) (hbV : ∀ x ∈ V, x < 2 ^ 64) :
    Calls Try.prog 3 #[.agg #[.bool lf, .slice ka kl kc, .slice va vl vc]] w fun e w' => e = .returned (.bool true) ∧ Chg [] w w' := by
  have g0 := Chg.alloc [] w (.cells #[.bool lf, .slice ka kl kc, .slice va vl vc] 24)
  obtain ⟨c0, c1, c2⟩ := laid3 w (.bool lf) (.slice ka kl kc) (.slice va vl vc) 24
  have HK := mkHid hk
  have HV := mkHid hv
  go_enter Try.func3, Try.ntmps3
  clear hk hv
  go_wp2_with fail
  generalize w.alloc (.cells #[.bool lf, .slice ka kl kc, .slice va vl vc] 24) = w1 at *
  generalize w.heap.size = nb at *
  refine (own_any lf ka kl kc va vl vc K V w1 (h.keep g0) HK.out HV.out).mono ?_
  rintro e w2 ⟨⟨oa, oac, ob, obc, rfl, hO, -, -⟩, g2⟩
  rw [HK.out, HV.out]
  have gN := Chg.alloc [] w2 (.cells #[.bool lf, .slice oa kl oac, .slice ob vl obc] 24)
  obtain ⟨d0, d1, d2⟩ := laid3 w2 (.bool lf) (.slice oa kl oac) (.slice ob vl obc) 24
  have G3 := (g0.then g2).then gN
  have k0 := (g2.then gN).cellv c0 (by simp)
  have k1 := (g2.then gN).cellv c1 (by simp)
  have k2 := (g2.then gN).cellv c2 (by simp)
  have hO3 := hO.keep gN
  clear c0 c1 c2 hO g0 g2 gN
  go_wp2_with fail
  generalize w2.alloc (.cells #[.bool lf, .slice oa kl oac, .slice ob vl obc] 24) = w3 at *
  generalize w2.heap.size = ob3 at *
  refine (put_res lf oa kl oac ob vl obc K V w3 hO3 HK.out HV.out hbK hbV).mono ?_
  rintro e w4 ⟨⟨a4, n4, c4, rfl, r4, l4⟩, g4⟩
  have G4 := G3.then g4
  have k0' := g4.cellv k0 (by simp)
  have k1' := g4.cellv k1 (by simp)
  have k2' := g4.cellv k2 (by simp)
  have d0' := g4.cellv d0 (by simp)
  have d1' := g4.cellv d1 (by simp)
  have d2' := g4.cellv d2 (by simp)
  have hO4 := hO3.keep g4
  have r4' := r4.reads
  clear k0 k1 k2 d0 d1 d2 hO3 g4 G3 r4
  generalize hr : putN lf K V = r at *
  obtain ⟨F, er⟩ := r
  have HR := mkHid hr
  dsimp only at l4 r4' ⊢
  have L4 := mkHid l4
  clear hr l4
  go_wp2_with fail
  refine (rput_res lf ka kl kc va vl vc K V w4 (h.keep G4) HK.out HV.out hbK hbV).mono ?_
  rw [HR.out]
  rintro e w5 ⟨⟨a5, n5, c5, rfl, r5, l5⟩, g5⟩
  have G5 := G4.then g5
  have e0 := g5.cellv k0' (by simp)
  have e1 := g5.cellv k1' (by simp)
  have e2 := g5.cellv k2' (by simp)
  have f0 := g5.cellv d0' (by simp)
  have f1 := g5.cellv d1' (by simp)
  have f2 := g5.cellv d2' (by simp)
  have hO5 := hO4.keep g5
  have ra4 := r4'.keep g5
  have ra5 := r5.reads
  dsimp only at l5 ra5 ⊢
  have L5 := mkHid l5
  clear k0' k1' k2' d0' d1' d2' hO4 g5 G4 r4' r5 l5
  have hN5 := h.keep G5
  have cM := fun (u : World) (g : Chg [] w5 u) => may_any lf oa kl oac ob vl obc K V u (hO5.keep g) HK.out HV.out
  have cR := fun (u : World) (g : Chg [] w5 u) => rmay_any lf ka kl kc va vl vc K V u (hN5.keep g) HK.out HV.out
  have cS := fun (u : World) (g : Chg [] w5 u) => rsame_any lf oa kl oac ob vl obc K V lf ka kl kc va vl vc K V u (hO5.keep g) HK.out HV.out (hN5.keep g) HK.out HV.out
  have cB := fun (u : World) (g : Chg [] w5 u) => beq_any a4 n4 c4 F a5 n5 c5 F u (ra4.keep g) L4.out (ra5.keep g) L5.out
  rw [decide_eq_true rfl] at cB
  rw [same_self] at cS
  generalize mayB K V = q at *
  have CM := mkHid cM
  have CR := mkHid cR
  have CS := mkHid cS
  have CB := mkHid cB
  clear cM cR cS cB hO5 hN5 ra4 ra5
  go_wp2_with fail
  go_region_held3 (fun u => u.cell? ⟨nb, 0, none⟩ = some (.bool lf) ∧ u.cell? ⟨nb, 1, none⟩ = some (.slice ka kl kc) ∧ u.cell? ⟨nb, 2, none⟩ = some (.slice va vl vc) ∧ u.cell? ⟨ob3, 0, none⟩ = some (.bool lf) ∧ u.cell? ⟨ob3, 1, none⟩ = some (.slice oa kl oac) ∧ u.cell? ⟨ob3, 2, none⟩ = some (.slice ob vl obc) ∧ Chg [] w5 u)
    (first | exact ⟨e0, e1, e2, f0, f1, f2, Chg.drew [] w5⟩ | exact step6 (by assumption) (by assumption) | assumption)
    (first
    | (go_at_call 11; refine (awake_any _).mono ?_; rintro e w6 ⟨rfl, g6⟩)
    | (go_at_call 12; refine (CB.out _ (pick6 (by assumption))).mono ?_; rintro e w7 ⟨rfl, rfl⟩)
    | (go_at_call 13; refine (CM.out _ (pick6 (by assumption))).mono ?_; rintro e w8 ⟨rfl, g8⟩)
    | (go_at_call 14; refine (CR.out _ (pick6 (by assumption))).mono ?_; rintro e w9 ⟨rfl, g9⟩)
    | (go_at_call 15; refine (CS.out _ (pick6 (by assumption))).mono ?_; rintro e w10 ⟨rfl, g10⟩))
  have hk10 : Chg [] w5 w10 := pick6 (by assumption)
  go_wp2_with fail
  go_ret
  exact ⟨rfl, G5.then hk10⟩
end Go.Proofs.Ytbopfpdgoalfoaa
