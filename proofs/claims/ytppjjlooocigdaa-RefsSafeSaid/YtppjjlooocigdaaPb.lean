/- The places of a space: Swap. -/
import Derived.Test.YtppjjlooocigdaaPa
import Derived.BigRegion
namespace Go.Proofs.Ytppjjlooocigdaa
open Go.RowKit
set_option linter.unusedVariables false
set_option linter.unusedSimpArgs false
attribute [local go_sem ↓] Go.wp_at_zero Go.wp_at_succ

section
variable (pb lb lo n cl sb so m cs i j x y : Nat) (vx vy : Value) (w : World) (hi : i < n) (hj : j < n) (hx : x < m) (hy : y < m)
  (c0 : w.cell? ⟨pb, 0, none⟩ = some (.slice (some ⟨lb, lo, none⟩) n cl))
  (c1 : w.cell? ⟨pb, 1, none⟩ = some (.slice (some ⟨sb, so, none⟩) m cs))
  (ci : w.cell? ⟨lb, lo + i, none⟩ = some (.int .i64 x)) (cj : w.cell? ⟨lb, lo + j, none⟩ = some (.int .i64 y))
  (fi : w.frozen? ⟨lb, lo + i, none⟩ = false) (fj : w.frozen? ⟨lb, lo + j, none⟩ = false)
  (ux : w.cell? ⟨sb, so + x, none⟩ = some vx) (uy : w.cell? ⟨sb, so + y, none⟩ = some vy)
  (gx : w.frozen? ⟨sb, so + x, none⟩ = false) (gy : w.frozen? ⟨sb, so + y, none⟩ = false)
  (hpl : pb ≠ lb) (hls : lb ≠ sb) (hij : i = j ↔ x = y)
include hi hj hx hy c0 c1 ci cj fi fj ux uy gx gy hpl hls hij
set_option maxRecDepth 20000 in
theorem swap_raw :
    Calls Try.prog 80 #[.pointer (some ⟨pb, 0, none⟩), .int .i64 i, .int .i64 j] w fun e w' => e = .returned (.tuple #[]) ∧
      w' = ((((w.setCell ⟨lb, lo + i, none⟩ (.int .i64 y)).setCell ⟨lb, lo + j, none⟩ (.int .i64 x)).drew.setCell ⟨sb, so + y, none⟩ (.int .i64 i)).setCell ⟨sb, so + x, none⟩ (.int .i64 j)).drew := by
  obtain ⟨v', hy'⟩ := cell?_setCell_some (w := w) (p := ⟨lb, lo + i, none⟩) (x := .int .i64 y) (q := ⟨lb, lo + j, none⟩) cj
  go_enter Try.func80, Try.ntmps80
  go_wp2
  go_region
  have h1 : Chg [lb] w ((w.setCell ⟨lb, lo + i, none⟩ (.int .i64 y)).setCell ⟨lb, lo + j, none⟩ (.int .i64 x)).drew :=
    (((Chg.setCell w ⟨lb, lo + i, none⟩ _).trans (Chg.setCell _ ⟨lb, lo + j, none⟩ _) (fun _ h _ => h) (fun _ h _ => h)).then (Chg.drew [] _))
  have k1 : (((w.setCell ⟨lb, lo + i, none⟩ (.int .i64 y)).setCell ⟨lb, lo + j, none⟩ (.int .i64 x)).drew).cell? ⟨lb, lo + i, none⟩ = some (.int .i64 y) := by
    show ((w.setCell ⟨lb, lo + i, none⟩ (.int .i64 y)).setCell ⟨lb, lo + j, none⟩ (.int .i64 x)).cell? _ = _
    by_cases hb : i = j
    · have e := hij.1 hb
      subst hb e
      exact World.cell?_setCell_same _ _ _ hy'
    · rw [World.cell?_setCell_other _ _ _ _ (by simp [hb])]
      exact World.cell?_setCell_same _ _ _ ci
  have k2 : (((w.setCell ⟨lb, lo + i, none⟩ (.int .i64 y)).setCell ⟨lb, lo + j, none⟩ (.int .i64 x)).drew).cell? ⟨lb, lo + j, none⟩ = some (.int .i64 x) := by
    show ((w.setCell ⟨lb, lo + i, none⟩ (.int .i64 y)).setCell ⟨lb, lo + j, none⟩ (.int .i64 x)).cell? _ = _
    exact World.cell?_setCell_same _ _ _ hy'
  have c0' := h1.cellv c0 (by simpa using hpl)
  have c1' := h1.cellv c1 (by simpa using hpl)
  have ux1 := h1.cellv ux (by simpa using fun e => hls e.symm)
  have uy1 := h1.cellv uy (by simpa using fun e => hls e.symm)
  have gx1 := (h1.frozen (p := ⟨sb, so + x, none⟩) (block_lt_of_cell ux) (by simpa using fun e => hls e.symm)).trans gx
  have gy1 := (h1.frozen (p := ⟨sb, so + y, none⟩) (block_lt_of_cell uy) (by simpa using fun e => hls e.symm)).trans gy
  clear h1 hy' ux uy gx gy ci cj fi fj c0 c1
  generalize hw1 : ((w.setCell ⟨lb, lo + i, none⟩ (.int .i64 y)).setCell ⟨lb, lo + j, none⟩ (.int .i64 x)).drew = w1 at *
  have HW := mkHid hw1
  clear hw1
  obtain ⟨y2, hy2⟩ := cell?_setCell_some (w := w1) (p := ⟨sb, so + y, none⟩) (x := .int .i64 i) (q := ⟨sb, so + x, none⟩) ux1
  go_wp2
  go_region
  go_end0
  exact ⟨rfl, by rw [← HW.out]⟩
end
theorem swap_any (i j : Nat) (B pb : Nat) (la : Option Addr) (cl : Nat) (sa : Option Addr) (cs n : Nat) (L : List Nat) (w : World) (h : PlAt w B pb la cl sa cs n L) (hi : i < L.length) (hj : j < L.length) :
    Calls Try.prog 80 #[.pointer (some ⟨pb, 0, none⟩), .int .i64 i, .int .i64 j] w fun e w' => e = .returned (.tuple #[]) ∧ PlAt w' B pb la cl sa cs n (swp L i j hi hj) ∧ Chg (fp la cl ++ fp sa cs) w w' := by
  have hle := h.le
  have hnn := h.nn
  have hrl := h.r.le
  obtain ⟨S, hS, hok⟩ := h.s
  have hsl := hS.le
  have hlx := hok.lt _ (List.getElem_mem hi)
  have hly := hok.lt _ (List.getElem_mem hj)
  have hSl := hok.len
  have hr := h.r
  have c0 := h.c0
  have c1 := h.c1
  obtain ⟨lb, lo, rfl, _, hs1, hv1⟩ := h.r.at_ (by omega)
  obtain ⟨sb, so, rfl, _, hs2, hv2⟩ := hS.at_ (by omega)
  have hfl : fp (some ⟨lb, lo, none⟩) cl = [lb] := fp_some _ _ _ (by omega)
  have hfs : fp (some ⟨sb, so, none⟩) cs = [sb] := fp_some _ _ _ (by omega)
  have d1 := h.d1
  have d2 := h.d2
  have d3 := h.d3
  rw [hfl] at d1 d3
  rw [hfs] at d2 d3
  simp only [List.mem_singleton] at d1 d2 d3
  have d3' : lb ≠ sb := d3 lb rfl
  refine (swap_raw pb lb lo L.length cl sb so n cs i j L[i] L[j] _ _ w hi hj hlx hly c0 c1 (hv1 i _ (ivs_get hi)) (hv1 j _ (ivs_get hj)) (hs1 i (by omega)).2 (hs1 j (by omega)).2 (hv2 _ _ (zvs_get (hok.at_ i hi))) (hv2 _ _ (zvs_get (hok.at_ j hj))) (hs2 _ (by omega)).2 (hs2 _ (by omega)).2 d1 d3' (hok.inj hi hj)).mono ?_
  rintro e w' ⟨he, rfl⟩
  have g1 : Chg [lb] w ((w.setCell ⟨lb, lo + i, none⟩ (.int .i64 L[j])).setCell ⟨lb, lo + j, none⟩ (.int .i64 L[i])).drew :=
    (((Chg.setCell w ⟨lb, lo + i, none⟩ _).trans (Chg.setCell _ ⟨lb, lo + j, none⟩ _) (fun _ h _ => h) (fun _ h _ => h)).then (Chg.drew [] _))
  have r1 := ((hr.set i hi (.int .i64 (L[j] : Int))).set j hj (.int .i64 (L[i] : Int))).chg (Chg.drew [] _) (by simp)
  rw [ivs_set, ivs_set] at r1
  have c01 := g1.cellv c0 (by simpa using d1)
  have c11 := g1.cellv c1 (by simpa using d1)
  have f01 := (g1.frozen (p := ⟨pb, 0, none⟩) (block_lt_of_cell c0) (by simpa using d1)).trans h.f0
  have s1 := hS.chg g1 (by rw [hfs]; simpa using fun e => d3' e.symm)
  generalize ((w.setCell ⟨lb, lo + i, none⟩ (.int .i64 L[j])).setCell ⟨lb, lo + j, none⟩ (.int .i64 L[i])).drew = w1 at *
  have g2 : Chg [sb] w1 ((w1.setCell ⟨sb, so + L[j], none⟩ (.int .i64 i)).setCell ⟨sb, so + L[i], none⟩ (.int .i64 j)).drew :=
    ((Chg.setCell w1 ⟨sb, so + L[j], none⟩ _).trans (Chg.setCell _ ⟨sb, so + L[i], none⟩ _) (fun _ h _ => h) (fun _ h _ => h)).then (Chg.drew [] _)
  have s2 := ((s1.set L[j] hly (.int .i64 (i : Int))).set L[i] hlx (.int .i64 (j : Int))).chg (Chg.drew [] _) (by simp)
  rw [zvs_set, zvs_set] at s2
  refine ⟨he, ⟨?_, ?_, g2.cellv c11 (by simpa using d2), ?_, ⟨_, s2, hok.swap hi hj⟩, hnn, h.pB, h.d1, h.d2, h.d3⟩, ?_⟩
  · rw [swp_len]; exact g2.cellv c01 (by simpa using d2)
  · exact (g2.frozen (p := ⟨pb, 0, none⟩) (block_lt_of_cell c01) (by simpa using d2)).trans f01
  · rw [swp_len]; exact r1.chg g2 (by rw [hfl]; simpa using d3')
  · exact g1.trans g2 (fun k hk _ => by rw [hfl]; simp at hk; simp [hk]) (fun k hk _ => by rw [hfs]; simp at hk; simp [hk])
end Go.Proofs.Ytppjjlooocigdaa
