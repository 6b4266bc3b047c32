/- SuperPuts, SuperTakes, SuperChooses. -/
import Derived.Test.YthbnakahcchbnaaZh
namespace Go.Proofs.Ythbnakahcchbnaa
open Go.RowKit
set_option linter.unusedVariables false
set_option linter.unusedSimpArgs false
attribute [local go_sem ↓] Go.wp_at_zero Go.wp_at_succ

def putS (s : SB) : List UInt8 × Int := if s.may = true then (s.form, 0) else ([], 1)
def PutRes (B : Nat) (e : Ending) (w' : World) (r : List UInt8 × Int) : Prop := ∃ a n c, e = .returned (.tuple #[.slice a n c, .int .i64 r.2]) ∧ Room w' B a n c (bts r.1) ∧ r.1.length = n
theorem put_res (U : Sup) (s : SB) (w : World) (h : s.Fits) : Calls Try.prog 9 #[s.v] w fun e w' => PutRes w.heap.size e w' (putS s) ∧ Chg [] w w' := by
  refine (U.put s w h).mono ?_
  rintro e w' ⟨g, ⟨hm, b, o, c, rfl, hr⟩ | ⟨hm, rfl⟩⟩
  · exact ⟨⟨_, _, _, by unfold putS; rw [if_pos hm], by unfold putS; rw [if_pos hm]; exact hr, by unfold putS; rw [if_pos hm]; exact SB.form_length s⟩, g⟩
  · have e : putS s = ([], 1) := by unfold putS; rw [if_neg (by rw [hm]; simp)]
    rw [e]
    exact ⟨⟨none, 0, 0, rfl, Room.nil _ _ _, rfl⟩, g⟩
theorem rput_res (s : SB) (w : World) (h : s.Fits) : Calls Try.prog 10 #[s.v] w fun e w' => PutRes w.heap.size e w' (putS s) ∧ Chg [] w w' := by
  refine (rput_any s h.wide w).mono ?_
  rintro e w' ⟨g, ⟨hm, b, c, rfl, _, hr⟩ | ⟨hm, rfl⟩⟩
  · exact ⟨⟨_, _, _, by unfold putS; rw [if_pos hm], by unfold putS; rw [if_pos hm]; exact hr, by unfold putS; rw [if_pos hm]; exact SB.form_length s⟩, g⟩
  · have e : putS s = ([], 1) := by unfold putS; rw [if_neg (by rw [hm]; simp)]
    rw [e]
    exact ⟨⟨none, 0, 0, rfl, Room.nil _ _ _, rfl⟩, g⟩
theorem last4 {p0 p1 p2 p3 q : Prop} (h : p0 ∧ p1 ∧ p2 ∧ p3 ∧ q) : q := h.2.2.2.2
theorem step4 {a0 a1 a2 a3 : Addr} {v0 v1 v2 v3 : Value} {W u u' : World} (h : u.cell? a0 = some v0 ∧ u.cell? a1 = some v1 ∧ u.cell? a2 = some v2 ∧ u.cell? a3 = some v3 ∧ Chg [] W u) (g : Chg [] u u') :
    u'.cell? a0 = some v0 ∧ u'.cell? a1 = some v1 ∧ u'.cell? a2 = some v2 ∧ u'.cell? a3 = some v3 ∧ Chg [] W u' :=
  ⟨g.cellv h.1 (by simp), g.cellv h.2.1 (by simp), g.cellv h.2.2.1 (by simp), g.cellv h.2.2.2.1 (by simp), h.2.2.2.2.then g⟩
set_option maxRecDepth 20000 in
set_option maxHeartbeats 4000000 in
theorem puts_core (U : Sup) (s : SB) (w : World) (hs : s.Fits) : Calls Try.prog 3 #[s.v] w fun e w' => e = .returned (.bool true) ∧ Chg [] w w' := by
  obtain ⟨c0, c1, c2, c3⟩ := sup_laid w s
  have g0 := Chg.alloc [] w (supObj s)
  obtain ⟨G, B, D, X⟩ := s
  unfold SB.v supObj at *
  dsimp only at *
  go_enter Try.func3, Try.ntmps3
  go_wp2_with fail
  generalize w.alloc _ = w1 at *
  generalize w.heap.size = nb at *
  refine (put_res U ⟨G, B, D, X⟩ w1 hs).mono ?_
  obtain ⟨⟨F, er⟩, hr⟩ : ∃ r, putS ⟨G, B, D, X⟩ = r := ⟨_, rfl⟩
  rw [hr]
  rintro e w2 ⟨⟨a2, n2, x2, rfl, r2, l2⟩, g2⟩
  dsimp only at r2 l2 ⊢
  replace c0 := g2.cellv c0 (by simp)
  replace c1 := g2.cellv c1 (by simp)
  replace c2 := g2.cellv c2 (by simp)
  replace c3 := g2.cellv c3 (by simp)
  replace g0 := g0.then g2
  replace r2 := r2.reads
  have HR := mkHid hr
  have L2 := mkHid l2
  clear hr l2 g2
  go_wp2_with fail
  refine (rput_res ⟨G, B, D, X⟩ w2 hs).mono ?_
  rw [HR.out]
  rintro e w3 ⟨⟨a3, n3, x3, rfl, r3, l3⟩, g3⟩
  dsimp only at r3 l3 ⊢
  replace c0 := g3.cellv c0 (by simp)
  replace c1 := g3.cellv c1 (by simp)
  replace c2 := g3.cellv c2 (by simp)
  replace c3 := g3.cellv c3 (by simp)
  replace g0 := g0.then g3
  replace r2 := r2.keep g3
  replace r3 := r3.reads
  have cB := fun (u : World) (g : Chg [] w3 u) => beq_any a2 n2 x2 F a3 n3 x3 F u (r2.keep g) L2.out (r3.keep g) l3
  rw [decide_eq_true rfl] at cB
  have cM := fun (u : World) => U.may ⟨G, B, D, X⟩ u hs
  have cR := fun (u : World) => rmay_any ⟨G, B, D, X⟩ u
  unfold SB.v at cM cR
  dsimp only at cM cR
  generalize SB.may ⟨G, B, D, X⟩ = q at *
  have CB := mkHid cB
  have CM := mkHid cM
  have CR := mkHid cR
  clear cB cM cR r2 r3 l3 g3 L2 HR
  go_wp2_with fail
  go_region_held3 (fun u => u.cell? ⟨nb, 0, none⟩ = some (.int .u64 (G : Int)) ∧ u.cell? ⟨nb, 1, none⟩ = some (.int .i64 B) ∧ u.cell? ⟨nb, 2, none⟩ = some (.int .u64 (D : Int)) ∧ u.cell? ⟨nb, 3, none⟩ = some (.int .u64 (X : Int)) ∧ Chg [] w3 u)
    (first | exact ⟨c0, c1, c2, c3, Chg.drew [] w3⟩ | exact step4 (by assumption) (by assumption) | assumption)
    (first
    | (go_at_call 11; refine (awake_any U _).mono ?_; rintro e w6 ⟨rfl, g6⟩)
    | (go_at_call 12; refine (CB.out _ (last4 (by assumption))).mono ?_; rintro e w7 ⟨rfl, rfl⟩)
    | (go_at_call 13; refine (CM.out _).mono ?_; rintro e w8 ⟨rfl, g8⟩)
    | (go_at_call 14; refine (CR.out _).mono ?_; rintro e w9 ⟨rfl, g9⟩))
  have hk10 : Chg [] w3 w9 := last4 (by assumption)
  go_wp2_with fail
  go_ret
  exact ⟨rfl, g0.then hk10⟩
end Go.Proofs.Ythbnakahcchbnaa
