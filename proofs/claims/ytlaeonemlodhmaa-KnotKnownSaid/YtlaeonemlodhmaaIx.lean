/- KnotKnown. -/
import Derived.Test.YtlaeonemlodhmaaIv
import Derived.Test.YtlaeonemlodhmaaIr
namespace Go.Proofs.Ytlaeonemlodhmaa
open Go.RowKit
set_option linter.unusedVariables false
set_option linter.unusedSimpArgs false
attribute [local go_sem ↓] Go.wp_at_zero Go.wp_at_succ

theorem out_as {B : Nat} {lf : Bool} {K V : List Nat} {e : Ending} {w' : World} (h : NOut B lf K V e w') (n m : Nat) (hn : K.length = n) (hm : V.length = m) : ∃ ka kc va vc, e = .returned (.agg #[.bool lf, .slice ka n kc, .slice va m vc]) ∧ RmN w' B ka kc va vc K V := by
  obtain ⟨ka, kc, va, vc, rfl, r⟩ := h
  exact ⟨ka, kc, va, vc, by rw [hn, hm], r⟩
/-- The leaf of the examples. -/
def leafN (b c : Nat) : Value := .agg #[.bool true, .slice (some ⟨b, 0, none⟩) 2 2, .slice (some ⟨c, 0, none⟩) 1 1]
theorem leaf_rd (w : World) : RdN ((w.alloc (.cells #[.int .u64 1, .int .u64 2] 25)).alloc (.cells #[.int .u64 4] 25)) (some ⟨w.heap.size, 0, none⟩) 2 (some ⟨w.heap.size + 1, 0, none⟩) 1 [1, 2] [4] := by
  have h1 := (Reads.new w #[.int .u64 1, .int .u64 2] 25).keep (Chg.alloc [] _ (.cells #[.int .u64 4] 25))
  have h2 := Reads.new (w.alloc (.cells #[.int .u64 1, .int .u64 2] 25)) #[.int .u64 4] 25
  rw [show (w.alloc (.cells #[.int .u64 1, .int .u64 2] 25)).heap.size = w.heap.size + 1 by simp] at h2
  exact ⟨h1, h2, by decide, by decide, by decide, by decide, by decide, by decide⟩
set_option maxRecDepth 100000 in
set_option maxHeartbeats 8000000 in
theorem knotknown_any (w : World) : Calls Try.prog 8 #[] w fun e w' => e = .returned (.bool true) ∧ Chg [] w w' := by
  go_enter Try.func8, Try.ntmps8
  go_wp2_with fail
  refine (list_as 3 [3, 5, 9] #[.int .u64 3, .int .u64 5, .int .u64 9] w rfl rfl (by decide)).mono ?_
  rintro e w1 ⟨ka, kc, va, vc, rfl, r1, g1⟩
  obtain ⟨w2, hw2⟩ : ∃ u, u = w1.alloc (.cells #[.bool false, .slice ka 3 kc, .slice va 3 vc] 24) := ⟨_, rfl⟩
  have a0 : w2.cell? ⟨w1.heap.size, 0, none⟩ = some (.bool false) := by rw [hw2]; simp [go_sem]
  have a1 : w2.cell? ⟨w1.heap.size, 1, none⟩ = some (.slice ka 3 kc) := by rw [hw2]; simp [go_sem]
  have a2 : w2.cell? ⟨w1.heap.size, 2, none⟩ = some (.slice va 3 vc) := by rw [hw2]; simp [go_sem]
  have g2 : Chg [] w1 w2 := by rw [hw2]; exact Chg.alloc [] _ _
  have rd := r1.keep g2
  have G2 := g1.then g2
  have HA := mkHid (And.intro a0 (And.intro a1 (And.intro a2 (And.intro rd G2))))
  clear a0 a1 a2 g2 rd G2 r1 g1
  have hw2' := hw2.symm
  clear hw2
  have HW2 := mkHid hw2'
  clear hw2'
  go_wp2_with fail
  rw [HW2.out]
  generalize w1.heap.size = b1 at *
  obtain ⟨a0, a1, a2, rd, G2⟩ := HA.out
  clear HA HW2
  refine (find_as 3 10 3 false [3, 5, 9] ka kc va vc w2 rd rfl (by decide) (by decide)).mono ?_
  rintro e w3 ⟨rfl, g3⟩
  have c0 := g3.cellv a0 (by simp)
  have c1 := g3.cellv a1 (by simp)
  have c2 := g3.cellv a2 (by simp)
  have HT := mkHid (rd.keep g3)
  have G3 := G2.then g3
  clear a0 a1 a2 rd G2 g3
  go_wp2_with fail
  have cE := find_any false none 0 0 none 0 0 [] [] w3 (nil_rd w3) rfl rfl 1
  rw [show findN 1 [] [] = 0 by decide, show isN 1 [] [] = false by decide] at cE
  refine cE.mono ?_
  rintro e w4 ⟨rfl, g4⟩
  have a0 := g4.cellv c0 (by simp)
  have a1 := g4.cellv c1 (by simp)
  have a2 := g4.cellv c2 (by simp)
  have HT4 := mkHid (HT.out.keep g4)
  have G4 := G3.then g4
  clear c0 c1 c2 G3 g4 HT cE
  have lr := leaf_rd w4
  obtain ⟨w5, hw5⟩ : ∃ u, u = ((w4.alloc (.cells #[.int .u64 1, .int .u64 2] 25)).alloc (.cells #[.int .u64 4] 25)).alloc (.cells #[.bool true, .slice (some ⟨w4.heap.size, 0, none⟩) 2 2, .slice (some ⟨w4.heap.size + 1, 0, none⟩) 1 1] 24) := ⟨_, rfl⟩
  have l0 : w5.cell? ⟨w4.heap.size + 1 + 1, 0, none⟩ = some (.bool true) := by rw [hw5]; simp [go_sem]
  have l1 : w5.cell? ⟨w4.heap.size + 1 + 1, 1, none⟩ = some (.slice (some ⟨w4.heap.size, 0, none⟩) 2 2) := by rw [hw5]; simp [go_sem]
  have l2 : w5.cell? ⟨w4.heap.size + 1 + 1, 2, none⟩ = some (.slice (some ⟨w4.heap.size + 1, 0, none⟩) 1 1) := by rw [hw5]; simp [go_sem]
  have g5 : Chg [] w4 w5 := by rw [hw5]; exact ((Chg.alloc [] _ _).then (Chg.alloc [] _ _)).then (Chg.alloc [] _ _)
  have lr5 : RdN w5 (some ⟨w4.heap.size, 0, none⟩) 2 (some ⟨w4.heap.size + 1, 0, none⟩) 1 [1, 2] [4] := by rw [hw5]; exact lr.keep (Chg.alloc [] _ _)
  have HA := mkHid (And.intro (g5.cellv a0 (by simp)) (And.intro (g5.cellv a1 (by simp)) (And.intro (g5.cellv a2 (by simp)) (And.intro l0 (And.intro l1 (And.intro l2 (And.intro lr5 (And.intro (HT4.out.keep g5) (G4.then g5)))))))))
  have HW5 := mkHid hw5.symm
  clear a0 a1 a2 l0 l1 l2 lr lr5 g5 G4 HT4 hw5
  go_wp2_with fail
  rw [HW5.out]
  generalize w4.heap.size + 1 + 1 = b6 at *
  generalize w4.heap.size + 1 = lc at *
  generalize w4.heap.size = lb at *
  obtain ⟨a0, a1, a2, l0, l1, l2, lr, HT, G5⟩ := HA.out
  clear HA HW5
  have cI := insert_any true (some ⟨lb, 0, none⟩) 2 2 (some ⟨lc, 0, none⟩) 1 1 [1, 2] [4] w5 lr rfl rfl 9 7 8 (by decide)
  refine cI.mono ?_
  rintro e w6 ⟨hN, g6⟩
  obtain ⟨xa, xc, xb, xd, rfl, rx⟩ := out_as hN 2 2 (by decide) (by decide)
  clear cI hN
  obtain ⟨kb, ko, ek, ck, _⟩ := reads_lt rx.rk.reads 1 (.int .u64 7) (uvs_get (x := 7) (by decide))
  obtain ⟨vb, vo, ev, cv, _⟩ := reads_lt rx.rv.reads 1 (.int .u64 8) (uvs_get (x := 8) (by decide))
  subst ek ev
  obtain ⟨w7, hw7⟩ : ∃ u, u = w6.alloc (.cells #[.bool true, .slice (some ⟨kb, ko, none⟩) 2 xc, .slice (some ⟨vb, vo, none⟩) 2 xd] 24) := ⟨_, rfl⟩
  have x0 : w7.cell? ⟨w6.heap.size, 0, none⟩ = some (.bool true) := by rw [hw7]; simp [go_sem]
  have x1 : w7.cell? ⟨w6.heap.size, 1, none⟩ = some (.slice (some ⟨kb, ko, none⟩) 2 xc) := by rw [hw7]; simp [go_sem]
  have x2 : w7.cell? ⟨w6.heap.size, 2, none⟩ = some (.slice (some ⟨vb, vo, none⟩) 2 xd) := by rw [hw7]; simp [go_sem]
  have g7 : Chg [] w5 w7 := by rw [hw7]; exact g6.then (Chg.alloc [] _ _)
  have g67 : Chg [] w6 w7 := by rw [hw7]; exact Chg.alloc [] _ _
  have HA := mkHid (And.intro (g7.cellv a0 (by simp)) (And.intro (g7.cellv a1 (by simp)) (And.intro (g7.cellv a2 (by simp)) (And.intro (g7.cellv l0 (by simp)) (And.intro (g7.cellv l1 (by simp)) (And.intro (g7.cellv l2 (by simp)) (And.intro (lr.keep g7) (And.intro (HT.keep g7) (And.intro (G5.then g7) (And.intro x0 (And.intro x1 (And.intro x2 (And.intro (g67.cellv ck (by simp)) (g67.cellv cv (by simp)))))))))))))))
  have hw7' := hw7.symm
  clear a0 a1 a2 l0 l1 l2 lr HT G5 x0 x1 x2 ck cv g7 g67 g6 rx hw7
  obtain ⟨a0, a1, a2, l0, l1, l2, lr, HT, G7, x0, x1, x2, ck, cv⟩ := HA.out
  clear HA
  go_wp2_with fail
  clear hw7'
  generalize w6.heap.size = b7 at *
  have cR := remove_any true (some ⟨lb, 0, none⟩) 2 2 (some ⟨lc, 0, none⟩) 1 1 [1, 2] [4] w7 lr rfl rfl 1 (by decide)
  refine cR.mono ?_
  rintro e w8 ⟨hN, g8⟩
  obtain ⟨ya, yc, yb, yd, rfl, -⟩ := out_as hN 1 1 (by decide) (by decide)
  clear cR hN
  obtain ⟨w9, hw9⟩ : ∃ u, u = w8.alloc (.cells #[.bool true, .slice ya 1 yc, .slice yb 1 yd] 24) := ⟨_, rfl⟩
  have y1 : w9.cell? ⟨w8.heap.size, 1, none⟩ = some (.slice ya 1 yc) := by rw [hw9]; simp [go_sem]
  have g9 : Chg [] w7 w9 := by rw [hw9]; exact g8.then (Chg.alloc [] _ _)
  have HA := mkHid (And.intro (g9.cellv a0 (by simp)) (And.intro (g9.cellv a1 (by simp)) (And.intro (g9.cellv a2 (by simp)) (And.intro (g9.cellv l0 (by simp)) (And.intro (g9.cellv l1 (by simp)) (And.intro (g9.cellv l2 (by simp)) (And.intro (lr.keep g9) (And.intro (HT.keep g9) (And.intro (G7.then g9) (And.intro (g9.cellv x0 (by simp)) (And.intro (g9.cellv x1 (by simp)) (And.intro (g9.cellv x2 (by simp)) (And.intro (g9.cellv ck (by simp)) (And.intro (g9.cellv cv (by simp)) y1))))))))))))))
  have hw9' := hw9.symm
  clear a0 a1 a2 l0 l1 l2 lr HT G7 x0 x1 x2 ck cv y1 g9 g8 hw9
  obtain ⟨a0, a1, a2, l0, l1, l2, lr, HT, G9, x0, x1, x2, ck, cv, y1⟩ := HA.out
  clear HA
  go_wp2_with fail
  clear hw9'
  generalize w8.heap.size = b8 at *
  have cJ := join_any false none 0 0 none 0 0 [] [] true (some ⟨lb, 0, none⟩) 2 2 (some ⟨lc, 0, none⟩) 1 1 [1, 2] [4] w9 (nil_rd w9) rfl rfl lr rfl rfl (by decide)
  refine cJ.mono ?_
  rintro e wa ⟨hN, ga⟩
  obtain ⟨za, zc, zb, zd, rfl, -⟩ := out_as hN 1 1 (by decide) (by decide)
  clear cJ hN
  obtain ⟨wb, hwb⟩ : ∃ u, u = wa.alloc (.cells #[.bool false, .slice za 1 zc, .slice zb 1 zd] 24) := ⟨_, rfl⟩
  have z0 : wb.cell? ⟨wa.heap.size, 0, none⟩ = some (.bool false) := by rw [hwb]; simp [go_sem]
  have z1 : wb.cell? ⟨wa.heap.size, 1, none⟩ = some (.slice za 1 zc) := by rw [hwb]; simp [go_sem]
  have gb : Chg [] w9 wb := by rw [hwb]; exact ga.then (Chg.alloc [] _ _)
  have HA := mkHid (And.intro (gb.cellv a0 (by simp)) (And.intro (gb.cellv a1 (by simp)) (And.intro (gb.cellv a2 (by simp)) (And.intro (gb.cellv l0 (by simp)) (And.intro (gb.cellv l1 (by simp)) (And.intro (gb.cellv l2 (by simp)) (And.intro (lr.keep gb) (And.intro (HT.keep gb) (And.intro (G9.then gb) (And.intro (gb.cellv x0 (by simp)) (And.intro (gb.cellv x1 (by simp)) (And.intro (gb.cellv x2 (by simp)) (And.intro (gb.cellv ck (by simp)) (And.intro (gb.cellv cv (by simp)) (And.intro (gb.cellv y1 (by simp)) (And.intro z0 z1))))))))))))))))
  have hwb' := hwb.symm
  clear a0 a1 a2 l0 l1 l2 lr HT G9 x0 x1 x2 ck cv y1 z0 z1 gb ga hwb
  obtain ⟨a0, a1, a2, l0, l1, l2, lr, HT, GB, x0, x1, x2, ck, cv, y1, z0, z1⟩ := HA.out
  clear HA
  go_wp2_with fail
  clear hwb'
  generalize wa.heap.size = b9 at *
  have cS := set_any true (some ⟨lb, 0, none⟩) 2 2 (some ⟨lc, 0, none⟩) 1 1 [1, 2] [4] wb lr rfl rfl 0 3 9223372036854775808 (by decide)
  refine cS.mono ?_
  rintro e wc ⟨hN, gc⟩
  obtain ⟨sa, sc, sb, sd, rfl, rs⟩ := out_as hN 1 1 (by decide) (by decide)
  clear cS hN
  obtain ⟨pb, po, ep, cp, _⟩ := reads_lt rs.rk.reads 0 (.int .u64 3) (uvs_get (x := 3) (by decide))
  obtain ⟨qb, qo, eq, cq, _⟩ := reads_lt rs.rv.reads 0 (.int .u64 9223372036854775808) (uvs_get (x := 9223372036854775808) (by decide))
  subst ep eq
  rw [Nat.add_zero] at cp cq
  obtain ⟨wd, hwd⟩ : ∃ u, u = wc.alloc (.cells #[.bool true, .slice (some ⟨pb, po, none⟩) 1 sc, .slice (some ⟨qb, qo, none⟩) 1 sd] 24) := ⟨_, rfl⟩
  have s1 : wd.cell? ⟨wc.heap.size, 1, none⟩ = some (.slice (some ⟨pb, po, none⟩) 1 sc) := by rw [hwd]; simp [go_sem]
  have s2 : wd.cell? ⟨wc.heap.size, 2, none⟩ = some (.slice (some ⟨qb, qo, none⟩) 1 sd) := by rw [hwd]; simp [go_sem]
  have gcd : Chg [] wc wd := by rw [hwd]; exact Chg.alloc [] _ _
  have gd := gc.then gcd
  have HA := mkHid (And.intro (gd.cellv a0 (by simp)) (And.intro (gd.cellv a1 (by simp)) (And.intro (gd.cellv a2 (by simp)) (And.intro (HT.keep gd) (And.intro (GB.then gd) (And.intro (gd.cellv x0 (by simp)) (And.intro (gd.cellv x1 (by simp)) (And.intro (gd.cellv x2 (by simp)) (And.intro (gd.cellv ck (by simp)) (And.intro (gd.cellv cv (by simp)) (And.intro (gd.cellv y1 (by simp)) (And.intro (gd.cellv z0 (by simp)) (And.intro (gd.cellv z1 (by simp)) (And.intro s1 (And.intro s2 (And.intro (gcd.cellv cp (by simp)) (gcd.cellv cq (by simp))))))))))))))))))
  have hwd' := hwd.symm
  clear a0 a1 a2 l0 l1 l2 lr HT GB x0 x1 x2 ck cv y1 z0 z1 s1 s2 cp cq gd gcd gc rs hwd
  obtain ⟨a0, a1, a2, HT, GD, x0, x1, x2, ck, cv, y1, z0, z1, s1, s2, cp, cq⟩ := HA.out
  clear HA
  go_wp2_with fail
  clear hwd' s1 s2 cp cq
  refine (awake_any wd).mono ?_
  rintro e we ⟨rfl, ge⟩
  have HA := mkHid (And.intro (ge.cellv a0 (by simp)) (And.intro (ge.cellv a1 (by simp)) (And.intro (ge.cellv a2 (by simp)) (And.intro (HT.keep ge) (And.intro (GD.then ge) (And.intro (ge.cellv x0 (by simp)) (And.intro (ge.cellv x1 (by simp)) (And.intro (ge.cellv x2 (by simp)) (And.intro (ge.cellv ck (by simp)) (And.intro (ge.cellv cv (by simp)) (And.intro (ge.cellv y1 (by simp)) (And.intro (ge.cellv z0 (by simp)) (ge.cellv z1 (by simp))))))))))))))
  clear a0 a1 a2 HT GD x0 x1 x2 ck cv y1 z0 z1 ge
  obtain ⟨a0, a1, a2, HT, GE, x0, x1, x2, ck, cv, y1, z0, z1⟩ := HA.out
  clear HA
  go_wp2_with fail
  refine (child_as 3 3 0 [3, 5, 9] ka kc va vc we HT rfl (by decide)).mono ?_
  rintro e wf ⟨rfl, gf⟩
  have HA := mkHid (And.intro (gf.cellv a0 (by simp)) (And.intro (gf.cellv a1 (by simp)) (And.intro (gf.cellv a2 (by simp)) (And.intro (HT.keep gf) (And.intro (GE.then gf) (And.intro (gf.cellv x0 (by simp)) (And.intro (gf.cellv x1 (by simp)) (And.intro (gf.cellv x2 (by simp)) (And.intro (gf.cellv ck (by simp)) (And.intro (gf.cellv cv (by simp)) (And.intro (gf.cellv y1 (by simp)) (And.intro (gf.cellv z0 (by simp)) (gf.cellv z1 (by simp))))))))))))))
  clear a0 a1 a2 HT GE x0 x1 x2 ck cv y1 z0 z1 gf
  obtain ⟨a0, a1, a2, HT, GF, x0, x1, x2, ck, cv, y1, z0, z1⟩ := HA.out
  clear HA
  go_wp2_with fail
  refine (child_as 3 9 2 [3, 5, 9] ka kc va vc wf HT rfl (by decide)).mono ?_
  rintro e wg ⟨rfl, gg⟩
  have HA := mkHid (And.intro (GF.then gg) (And.intro (gg.cellv x0 (by simp)) (And.intro (gg.cellv x1 (by simp)) (And.intro (gg.cellv x2 (by simp)) (And.intro (gg.cellv ck (by simp)) (And.intro (gg.cellv cv (by simp)) (And.intro (gg.cellv y1 (by simp)) (And.intro (gg.cellv z0 (by simp)) (gg.cellv z1 (by simp))))))))))
  clear a0 a1 a2 HT GF x0 x1 x2 ck cv y1 z0 z1 gg
  obtain ⟨GG, x0, x1, x2, ck, cv, y1, z0, z1⟩ := HA.out
  clear HA
  go_wp2_with fail
  have cC := child_any false none 0 0 none 0 0 [] [] wg (nil_rd wg) rfl rfl 3
  rw [show childN 3 [] [] = 0 by decide] at cC
  refine cC.mono ?_
  rintro e wh ⟨rfl, gh⟩
  have HA := mkHid (And.intro (GG.then gh) (And.intro (gh.cellv x0 (by simp)) (And.intro (gh.cellv x1 (by simp)) (And.intro (gh.cellv x2 (by simp)) (And.intro (gh.cellv ck (by simp)) (And.intro (gh.cellv cv (by simp)) (And.intro (gh.cellv y1 (by simp)) (And.intro (gh.cellv z0 (by simp)) (gh.cellv z1 (by simp))))))))))
  clear GG x0 x1 x2 ck cv y1 z0 z1 gh cC
  obtain ⟨GH, x0, x1, x2, ck, cv, y1, z0, z1⟩ := HA.out
  clear HA
  go_wp2_with fail
  go_ret
  exact ⟨rfl, GH⟩
end Go.Proofs.Ytlaeonemlodhmaa
