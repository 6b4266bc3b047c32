/- The program's disk: Copy. -/
import Derived.Test.YtinmhaffefgloaaGa
namespace Go.Proofs.Ytinmhaffefgloaa
open Go.RowKit
set_option linter.unusedVariables false
set_option linter.unusedSimpArgs false
attribute [local go_sem ↓] Go.wp_at_zero Go.wp_at_succ

def set3 (w : World) (tb : Nat) (s1 s2 s3 : Value) : World := ((w.setCell ⟨tb, 0, none⟩ s1).setCell ⟨tb, 1, none⟩ s2).setCell ⟨tb, 2, none⟩ s3
theorem set3_chg (w : World) (tb : Nat) (s1 s2 s3 : Value) : Chg [tb] w (set3 w tb s1 s2 s3) :=
  ((Chg.setCell w ⟨tb, 0, none⟩ s1).trans (Chg.setCell _ ⟨tb, 1, none⟩ s2) (fun _ h _ => h) (fun _ h _ => h)).trans (Chg.setCell _ ⟨tb, 2, none⟩ s3) (fun _ h _ => h) (fun _ h _ => h)
theorem twin_close {w wT wa wb wc : World} {B db : Nat} {g : DG} {fa : Option Addr} {cf : Nat} {st : RS} (h : DevAt w B db g fa cf st) (tb : Nat) (htb : w.heap.size ≤ tb) (gT : Chg [] w wT) {u0 u1 u2 : Value}
    (c0 : wT.cell? ⟨tb, 0, none⟩ = some u0) (c1 : wT.cell? ⟨tb, 1, none⟩ = some u1) (c2 : wT.cell? ⟨tb, 2, none⟩ = some u2) (c3 : wT.cell? ⟨tb, 3, none⟩ = some (.int .i64 st.left)) (c4 : wT.cell? ⟨tb, 4, none⟩ = some (.bool st.gone))
    (fz : ∀ j, j < 5 → wT.frozen? ⟨tb, j, none⟩ = false) {a1 a2 a3 : Option Addr} {k1 k2 k3 : Nat}
    (ga : Chg [] wT wa) (ra : Room wa wT.heap.size a1 (64 * st.S.length) k1 (bts st.S.flatten)) (gb : Chg [] wa wb) (rb : RoomZ 65 wb wa.heap.size a2 st.L.length k2 (flyC st.L)) (gc : Chg [] wb wc) (rc : Room wc wb.heap.size a3 st.S.length k3 (newC st.S.length st.L)) :
    ∃ g2, DevAt (set3 wc tb (.slice a1 (64 * st.S.length) k1) (.slice a2 st.L.length k2) (.slice a3 st.S.length k3)) w.heap.size tb g2 a2 k2 st ∧ Chg [] w (set3 wc tb (.slice a1 (64 * st.S.length) k1) (.slice a2 st.L.length k2) (.slice a3 st.S.length k3)) := by
  have hp := h.pos
  have l1 := ra.le
  have l3 := rc.le
  have tlt : tb < wT.heap.size := block_lt_of_cell c0
  have z1 := gT.size
  have z2 := ga.size
  have z3 := gb.size
  have z4 := gc.size
  obtain ⟨b1, o1, rfl, hb1, _, _⟩ := ra.at_ (by omega)
  obtain ⟨b3, o3, rfl, hb3, _, _⟩ := rc.at_ (by omega)
  have b1lt : b1 < wa.heap.size := (ra.lt b1 (by rw [fp_some _ _ _ (by omega)]; simp)).2
  have b3lt : b3 < wc.heap.size := (rc.lt b3 (by rw [fp_some _ _ _ (by omega)]; simp)).2
  have gTc : Chg [] wT wc := (ga.then gb).then gc
  have x0 := gTc.cellv c0 (by simp)
  have x1 := gTc.cellv c1 (by simp)
  have x2 := gTc.cellv c2 (by simp)
  have x3 := gTc.cellv c3 (by simp)
  have x4 := gTc.cellv c4 (by simp)
  have xf : ∀ j, j < 5 → wc.frozen? ⟨tb, j, none⟩ = false := fun j hj => (gTc.frozen (p := ⟨tb, j, none⟩) tlt (by simp)).trans (fz j hj)
  have gs := set3_chg wc tb (.slice (some ⟨b1, o1, none⟩) (64 * st.S.length) k1) (.slice a2 st.L.length k2) (.slice (some ⟨b3, o3, none⟩) st.S.length k3)
  refine ⟨⟨b1, o1, k1, b3, o3, k3⟩, ⟨?_, ?_, ?_, ?_, ?_, fun j hj => ?_, ?_, ?_, ?_, ?_, ?_, ?_, ?_, ?_, ?_, htb, h.lS, h.lL, h.lft, h.pos⟩, ?_⟩
  · exact set_other' (set_other' (World.cell?_setCell_same _ _ _ x0) (by decide)) (by decide)
  · exact set_other' (World.cell?_setCell_same _ _ _ (set_other' x1 (by decide))) (by decide)
  · exact World.cell?_setCell_same _ _ _ (set_other' (set_other' x2 (by decide)) (by decide))
  · exact set_other' (set_other' (set_other' x3 (by decide)) (by decide)) (by decide)
  · exact set_other' (set_other' (set_other' x4 (by decide)) (by decide)) (by decide)
  · show ((((wc.setCell _ _).setCell _ _).setCell _ _).frozen? _) = _
    rw [World.frozen?_setCell, World.frozen?_setCell, World.frozen?_setCell]
    exact xf j hj
  · refine ((ra.mono (B' := w.heap.size) (by omega)).chg (gb.then gc) (by simp)).chg gs (fun k hk => ?_)
    have := (ra.lt k hk).1
    simp; omega
  · have r0 : RoomZ 65 wb w.heap.size a2 st.L.length k2 (flyC st.L) := ⟨rb.len, rb.le, rb.max, fun hc => let ⟨b, o, e, q1, q2, q3⟩ := rb.at_ hc; ⟨b, o, e, by omega, q2, q3⟩⟩
    refine (r0.chg gc (by simp)).chg gs (fun k hk => ?_)
    have := (rb.lt k hk).1
    simp; omega
  · refine (rc.mono (B' := w.heap.size) (by omega)).chg gs (fun k hk => ?_)
    have := (rc.lt k hk).1
    simp; omega
  · show tb ≠ b1; omega
  · show tb ≠ b3; omega
  · show b1 ≠ b3; omega
  · intro hm; have := (rb.lt _ hm).1; omega
  · intro hm; have := (rb.lt _ hm).1; show False; have e : b1 < wa.heap.size := b1lt; simp at this; omega
  · intro hm; have := (rb.lt _ hm).2; simp at this; omega
  · exact ((gT.then gTc).trans gs (fun _ h _ => h) (fun k hk hlt => by simp at hk; omega))
set_option maxHeartbeats 4000000 in
theorem devcopy_any (B db : Nat) (g : DG) (fa : Option Addr) (cf : Nat) (st : RS) (w : World) (h : DevAt w B db g fa cf st) (hSb : st.S.length ≤ 1000000) (hLb : st.L.length ≤ 1000000000) :
    Calls Try.prog 23 #[.pointer (some ⟨db, 0, none⟩)] w fun e w' => ∃ (db2 : Nat) (g2 : DG) (fa2 : Option Addr) (cf2 : Nat), e = .returned (.pointer (some ⟨db2, 0, none⟩)) ∧ DevAt w' w.heap.size db2 g2 fa2 cf2 st ∧ Chg [] w w' := by
  have c0 := h.c0
  have c1 := h.c1
  have c2 := h.c2
  have c3 := h.c3
  have c4 := h.c4
  go_enter Try.func23, Try.ntmps23
  go_wp2_with (first | (go_at_call 31; refine (made_yes db _ _ _ _ w c0).mono ?_; rintro e w' ⟨rfl, rfl⟩))
  have tb0 : w.heap.size ≤ w.heap.size := Nat.le_refl _
  generalize hW : w.alloc _ = wT
  have gT : Chg [] w wT.drew := by subst hW; exact (Chg.alloc [] w _).then (Chg.drew [] _)
  have t0 : wT.drew.cell? ⟨w.heap.size, 0, none⟩ = some (.slice (some ⟨g.lb, g.lo, none⟩) (64 * st.S.length) g.cl) := (Chg.drew [] wT).cellv (by subst hW; simp) (by simp)
  have t1 : wT.drew.cell? ⟨w.heap.size, 1, none⟩ = some (.slice fa st.L.length cf) := (Chg.drew [] wT).cellv (by subst hW; simp) (by simp)
  have t2 : wT.drew.cell? ⟨w.heap.size, 2, none⟩ = some (.slice (some ⟨g.nb, g.no, none⟩) st.S.length g.cn) := (Chg.drew [] wT).cellv (by subst hW; simp) (by simp)
  have t3 : wT.drew.cell? ⟨w.heap.size, 3, none⟩ = some (.int .i64 st.left) := (Chg.drew [] wT).cellv (by subst hW; simp) (by simp)
  have t4 : wT.drew.cell? ⟨w.heap.size, 4, none⟩ = some (.bool st.gone) := (Chg.drew [] wT).cellv (by subst hW; simp) (by simp)
  have tf : ∀ j, j < 5 → wT.drew.frozen? ⟨w.heap.size, j, none⟩ = false := fun j hj => by
    subst hW
    exact frozen_of_row _ _ j _ _ (heap_alloc_last w _)
  have d0 := gT.cellv c0 (by simp)
  have d1 := gT.cellv c1 (by simp)
  have d2 := gT.cellv c2 (by simp)
  have r0 := h.rS.reads.keep gT
  have r1 := h.rL.reads.keep gT
  have r2 := h.rN.reads.keep gT
  have n0 := h.rS.len
  have n1 := h.rL.len
  have n2 := h.rN.len
  have hfa : fa = none → st.L.length = 0 ∧ cf = 0 := fun e => by
    rcases Nat.eq_zero_or_pos cf with h0 | h0
    · have := h.rL.le
      exact ⟨by omega, h0⟩
    · obtain ⟨b, o, e2, _⟩ := h.rL.at_ h0
      rw [e] at e2
      cases e2
  have hS64 : 64 * st.S.length ≤ 1000000000 := by omega
  have hS10 : st.S.length ≤ 1000000000 := by omega
  have tlt : w.heap.size < wT.drew.heap.size := block_lt_of_cell t0
  clear hW c0 c1 c2 c3 c4
  generalize htb : w.heap.size = tb at *
  go_region_law (first
    | (go_simp; go_at_call 46; refine (clone_bytes ⟨g.lb, g.lo, none⟩ (64 * st.S.length) g.cl (bts st.S.flatten) _ r0 n0 (bts_one _) hS64).mono ?_; rintro e wa ⟨a1, k1, rfl, ra, ga⟩; have d1a := ga.cellv d1 (by simp); have d2a := ga.cellv d2 (by simp); have r1a := r1.keep ga; have r2a := r2.keep ga)
    | (go_simp; go_at_call 47; refine (clone_flies fa st.L.length cf (flyC st.L) _ r1a n1 hfa (flyC_one _) hLb).mono ?_; rintro e wb ⟨a2, k2, rfl, rb, gb⟩; have d2b := gb.cellv d2a (by simp); have r2b := r2a.keep gb)
    | (go_simp; go_at_call 48; refine (clone_ints ⟨g.nb, g.no, none⟩ st.S.length g.cn (newC st.S.length st.L) _ r2b n2 (newC_one _ _) hS10).mono ?_; rintro e wc ⟨a3, k3, rfl, rc, gc⟩; have x0 := gc.cellv (gb.cellv (ga.cellv t0 (by simp)) (by simp)) (by simp); have x1 := gc.cellv (gb.cellv (ga.cellv t1 (by simp)) (by simp)) (by simp); have x2 := gc.cellv (gb.cellv (ga.cellv t2 (by simp)) (by simp)) (by simp); have y0 := (((ga.then gb).then gc).frozen (p := ⟨tb, 0, none⟩) tlt (by simp)).trans (tf 0 (by decide)); have y1 := (((ga.then gb).then gc).frozen (p := ⟨tb, 1, none⟩) tlt (by simp)).trans (tf 1 (by decide)); have y2 := (((ga.then gb).then gc).frozen (p := ⟨tb, 2, none⟩) tlt (by simp)).trans (tf 2 (by decide))))
  all_goals
    obtain ⟨g2, z1, z2⟩ := twin_close h tb (Nat.le_of_eq htb) gT t0 t1 t2 t3 t4 tf ga ra gb rb gc rc
    unfold set3 at z1 z2
    go_wp2_with fail
    go_ret
    first
    | exact ⟨tb, g2, a2, k2, rfl, z1, z2⟩
    | (rw [htb] at z1; exact ⟨tb, g2, a2, k2, rfl, z1, z2⟩)
end Go.Proofs.Ytinmhaffefgloaa
