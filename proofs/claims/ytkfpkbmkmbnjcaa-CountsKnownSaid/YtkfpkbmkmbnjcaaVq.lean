/- The law's examples: wakes. -/
import Derived.Test.YtkfpkbmkmbnjcaaVp
namespace Go.Proofs.Ytkfpkbmkmbnjcaa
open Go.RowKit
set_option linter.unusedVariables false
set_option linter.unusedSimpArgs false
attribute [local go_sem ↓] Go.wp_at_zero Go.wp_at_succ

theorem lit_reads (w : World) (cs : Array Value) (l : List UInt8) (h : cs.toList = bts l) : Reads (w.alloc (.cells cs 5)) (some ⟨w.heap.size, 0, none⟩) (bts l) := reads_new w cs 5 (0, 0) l h
theorem isput_all {L : List UInt8} {n : Nat} {ps : List (List UInt8)} (h : IsPut L n ps) : all240 ps = true := all240_iff.2 fun i p hp => (h.2 i p hp).1
theorem put_flat {L : List UInt8} {n : Nat} {ps : List (List UInt8)} (h : IsPut L n ps) {i : Nat} (hi : i < 240 * npg n) : ps.flatten[i]? = some (if i < n then (L[i]?).getD 0 else 0) := by
  have hq : i / 240 < ps.length := by rw [h.1]; omega
  have hp := List.getElem?_eq_getElem hq
  have h1 := flat_get (i / 240) (i % 240) _ (isput_all h) hp (by omega)
  rw [(h.2 _ _ hp).2 _ (by omega), show 240 * (i / 240) + i % 240 = i by omega] at h1
  exact h1
set_option maxRecDepth 20000 in
set_option maxHeartbeats 1000000 in
theorem wakes_any (w : World) : Calls Try.prog 14 #[] w fun e w' => e = .returned (.bool true) ∧ Chg [] w w' := by
  have g0 := Chg.alloc [] w (.cells #[.int .u8 1, .int .u8 2, .int .u8 3] 5)
  have hr := lit_reads w #[.int .u8 1, .int .u8 2, .int .u8 3] [1, 2, 3] rfl
  have cP := put_any _ 3 3 [1, 2, 3] _ hr rfl (by decide) (by decide)
  clear hr
  go_enter Try.func14, Try.ntmps14
  go_wp2_with fail
  refine cP.mono ?_
  rintro e w1 ⟨ao, cc, bs, ps, rfl, hP, hO, hg⟩
  have q1 := g0.then hg
  have hpl : ps.length = 1 := hP.1
  obtain ⟨p0, hp0⟩ : ∃ p0, ps[0]? = some p0 := ⟨_, List.getElem?_eq_getElem (by omega)⟩
  obtain ⟨b0, hb0⟩ : ∃ b0, bs[0]? = some b0 := ⟨_, List.getElem?_eq_getElem (by rw [hO.ln]; omega)⟩
  have hp2 : p0[2]? = some 3 := by rw [(hP.2 0 p0 hp0).2 2 (by decide)]; rfl
  have e3 : takeN ps ((3 : Nat) : Int) = (0, [1, 2, 3]) := put_take rfl (by decide) hP
  have e2 : takeN ps ((2 : Nat) : Int) = (5, []) := take_rest (n := 2) (i := 2) (a := 3) (by decide) (by rw [hpl]; rfl) (isput_all hP) (by decide) (put_flat hP (by decide)) (by decide)
  obtain ⟨lb, lo, e, hcell, _⟩ := reads_lt hO.r.reads 0 (pv b0) (by rw [List.getElem?_map, hb0]; rfl)
  subst e
  have hcell' : w1.cell? ⟨lb, lo, none⟩ = some (.slice (some ⟨b0, 0, none⟩) 240 240) := hcell
  have hc2 : w1.cell? ⟨b0, 2, none⟩ = some (.int .u8 3) := by
    have := (hO.p 0 b0 p0 hb0 hp0).reads.cell 2 (.int .u8 3) (by rw [bts_get p0 2 (List.getElem?_eq_some_iff.1 hp2).1]; have := (List.getElem?_eq_some_iff.1 hp2).2; rw [this]; rfl)
    simpa using this
  have hRd := hO.read
  have E3 := mkHid e3
  have E2 := mkHid e2
  rw [hpl]
  clear cP g0 hg hP hO hp0 hb0 hp2 e3 e2 hcell
  have HN := mkHid hpl
  clear hpl
  go_wp2_with fail
  have c2 := take_any (some ⟨lb, lo, none⟩) 1 cc ps 3 w1 hRd HN.out (by decide)
  rw [show takeN ps 3 = (0, [1, 2, 3]) from E3.out] at c2
  refine c2.mono ?_
  rintro e w2 ⟨⟨a, ca, rfl, hra⟩, g2⟩
  have q2 := q1.then g2
  have k1 := g2.cellv hcell' (by simp)
  have k2 := g2.cellv hc2 (by simp)
  have hRd2 := hRd.keep g2
  clear c2 q1 hcell' hc2 hRd
  go_wp2_with fail
  have c3 := take_any (some ⟨lb, lo, none⟩) 1 cc ps 2 w2 hRd2 HN.out (by decide)
  rw [show takeN ps 2 = (5, []) from E2.out] at c3
  refine c3.mono ?_
  rintro e w3 ⟨⟨a', ca', rfl, -⟩, g3⟩
  have q3 := q2.then g3
  have m1 := g3.cellv k1 (by simp)
  have m2 := g3.cellv k2 (by simp)
  have hra3 := hra.chg g3 (by simp)
  clear c3 q2 k1 k2 hRd2 hra
  go_wp2_with fail
  refine (pages_any 241 w3 (by decide)).mono ?_
  rintro e w4 ⟨rfl, rfl⟩
  have e41 : npgZ 241 = 2 := by decide +kernel
  have r1 := run_convert_k (P := Try.prog) w3 22 5 9 Try.underlying22 Try.underlying5 Try.underlying9 a 3 ca [1, 2, 3] hra3.reads rfl
  rw [e41]
  clear e41
  go_wp2_with fail
  go_ret
  exact ⟨ret_bool' (by first | rfl | decide +kernel), q3⟩
end Go.Proofs.Ytkfpkbmkmbnjcaa
