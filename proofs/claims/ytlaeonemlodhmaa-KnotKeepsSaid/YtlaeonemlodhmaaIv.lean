/- The law's examples: awake. -/
import Derived.Test.YtlaeonemlodhmaaIt
import Derived.Test.YtlaeonemlodhmaaIs
import Derived.Test.YtlaeonemlodhmaaIe
namespace Go.Proofs.Ytlaeonemlodhmaa
open Go.RowKit
set_option linter.unusedVariables false
set_option linter.unusedSimpArgs false
attribute [local go_sem ↓] Go.wp_at_zero Go.wp_at_succ

theorem list_as (n : Nat) (L : List Nat) (cs : Array Value) (w : World) (hn : L.length = n) (hc : cs.toList = uvs L) (hb : n ≤ 100000) : Calls Try.prog 30 #[.slice (some ⟨w.heap.size, 0, none⟩) n n] (w.alloc (.cells cs 25)) fun e w' => ∃ ka kc va vc, e = .returned (.agg #[.bool false, .slice ka n kc, .slice va n vc]) ∧ RdN w' ka kc va vc L (ones n) ∧ Chg [] w w' := by
  have hr : Reads (w.alloc (.cells cs 25)) (some ⟨w.heap.size, 0, none⟩) (uvs L) := by
    have := Reads.new w cs 25
    rwa [hc] at this
  refine (list_any (some ⟨w.heap.size, 0, none⟩) n n L _ hr hn hb).mono ?_
  rintro e w' ⟨⟨ka, kc, va, vc, rfl, r⟩, g⟩
  have hl := ones_len n
  refine ⟨ka, kc, va, vc, by rw [hn, hl], r.rd (by omega) (by omega), (Chg.alloc [] w _).then g⟩
/-- Find, Child over a list whose keys are its own. -/
theorem find_as (n x at_ : Nat) (is : Bool) (L : List Nat) (ka : Option Addr) (kc : Nat) (va : Option Addr) (vc : Nat) (w : World) (h : RdN w ka kc va vc L (ones n)) (hn : L.length = n) (h1 : findN x L (ones n) = at_) (h2 : isN x L (ones n) = is) : Calls Try.prog 9 #[.agg #[.bool false, .slice ka n kc, .slice va n vc], .int .u64 (x : Int)] w fun e w' => e = .returned (.tuple #[.int .i64 (at_ : Int), .bool is]) ∧ Chg [] w w' := by
  have := find_any false ka n kc va n vc L (ones n) w h hn (ones_len n) x
  rw [h1, h2] at this
  exact this
theorem child_as (n x at_ : Nat) (L : List Nat) (ka : Option Addr) (kc : Nat) (va : Option Addr) (vc : Nat) (w : World) (h : RdN w ka kc va vc L (ones n)) (hn : L.length = n) (h1 : childN x L (ones n) = at_) : Calls Try.prog 12 #[.agg #[.bool false, .slice ka n kc, .slice va n vc], .int .u64 (x : Int)] w fun e w' => e = .returned (.int .i64 (at_ : Int)) ∧ Chg [] w w' := by
  have := child_any false ka n kc va n vc L (ones n) w h hn (ones_len n) x
  rw [h1] at this
  exact this
/-- What the second half's first key is. -/
theorem half_first {w : World} {B : Nat} {ka : Option Addr} {kc : Nat} {va : Option Addr} {vc : Nat} {K V : List Nat} (h : RmN w B ka kc va vc K V) {m P x : Nat} (hx : K[m]? = some x) (hP : m < P) : ∃ b o, cut ka P m = some ⟨b, o, none⟩ ∧ w.cell? ⟨b, o, none⟩ = some (.int .u64 (x : Int)) := by
  obtain ⟨b, o, rfl, hc, _⟩ := reads_lt h.rk.reads m _ (uvs_get hx)
  refine ⟨b, o + m, ?_, hc⟩
  unfold cut
  rw [if_neg (by omega), Option.map_some, Addr.add_lit]
set_option maxRecDepth 100000 in
set_option maxHeartbeats 4000000 in
theorem awake_any (w : World) : Calls Try.prog 11 #[] w fun e w' => e = .returned (.bool true) ∧ Chg [] w w' := by
  go_enter Try.func11, Try.ntmps11
  go_wp2_with fail
  refine (list_as 3 [1, 5, 9] #[.int .u64 1, .int .u64 5, .int .u64 9] w rfl rfl (by decide)).mono ?_
  rintro e w1 ⟨ka1, kc1, va1, vc1, rfl, r1, g1⟩
  go_wp2_with fail
  refine (find_as 3 5 1 true [1, 5, 9] ka1 kc1 va1 vc1 w1 r1 rfl (by decide) (by decide)).mono ?_
  rintro e w2 ⟨rfl, h1⟩
  have G2 := g1.then h1
  clear r1 g1 h1
  go_wp2_with fail
  refine (list_as 3 [1, 5, 9] #[.int .u64 1, .int .u64 5, .int .u64 9] w2 rfl rfl (by decide)).mono ?_
  rintro e w3 ⟨ka2, kc2, va2, vc2, rfl, r2, g2⟩
  go_wp2_with fail
  refine (find_as 3 6 2 false [1, 5, 9] ka2 kc2 va2 vc2 w3 r2 rfl (by decide) (by decide)).mono ?_
  rintro e w4 ⟨rfl, h2⟩
  have G4 := (G2.then g2).then h2
  clear r2 g2 h2 G2
  go_wp2_with fail
  refine (list_as 3 [1, 2, 3] #[.int .u64 1, .int .u64 2, .int .u64 3] w4 rfl rfl (by decide)).mono ?_
  rintro e w5 ⟨ka3, kc3, va3, vc3, rfl, r3, g3⟩
  go_wp2_with fail
  refine (split_any false ka3 3 kc3 va3 3 vc3 [1, 2, 3] (ones 3) w5 r3 rfl rfl (by decide)).mono ?_
  rintro e w6 ⟨⟨pa, pc, qa, qc, rfl, -⟩, h3⟩
  simp only [show (tkK [1, 2, 3] (ones 3)).length = 3 by decide, show half 3 = 2 by decide]
  have G6 := (G4.then g3).then h3
  clear r3 g3 h3 G4
  obtain ⟨w7, hw7⟩ : ∃ u, u = ((w6.alloc (.cells #[.bool false, .slice (cut pa 2 0) 2 2, .slice (cut qa 2 0) 2 2] 24)).alloc (.cells #[.bool false, .slice (cut pa 3 2) 1 1, .slice (cut qa 3 2) 1 1] 24)) := ⟨_, rfl⟩
  have c1 : w7.cell? ⟨w6.heap.size, 1, none⟩ = some (.slice (cut pa 2 0) 2 2) := by rw [hw7]; simp [go_sem]
  have d1 : w7.cell? ⟨w6.heap.size + 1, 1, none⟩ = some (.slice (cut pa 3 2) 1 1) := by rw [hw7]; simp [go_sem]
  have gw7 : Chg [] w6 w7 := by rw [hw7]; exact (Chg.alloc [] _ _).then (Chg.alloc [] _ _)
  have hz7 : w7.heap.size = w6.heap.size + 1 + 1 := by rw [hw7]; simp
  have G7 := G6.then gw7
  have HZ := mkHid hz7
  have HA := mkHid (And.intro c1 d1)
  clear c1 d1 gw7 G6 hz7
  go_wp2_with fail
  rw [← hw7, ← HZ.out]
  clear hw7 HZ
  generalize w6.heap.size + 1 = b6 at *
  generalize w6.heap.size = b5 at *
  refine (list_as 1 [1] #[.int .u64 1] w7 rfl rfl (by decide)).mono ?_
  rintro e w8 ⟨ka4, kc4, va4, vc4, rfl, r4, g4⟩
  go_wp2_with fail
  refine (list_as 3 [2, 3, 4] #[.int .u64 2, .int .u64 3, .int .u64 4] w8 rfl rfl (by decide)).mono ?_
  rintro e w9 ⟨ka5, kc5, va5, vc5, rfl, r5, g5⟩
  have r6 := r4.keep g5
  have HR := mkHid (And.intro r6 r5)
  clear r4 r5 r6
  go_wp2_with fail
  refine (even_any false ka4 1 kc4 va4 1 vc4 [1] (ones 1) false ka5 3 kc5 va5 3 vc5 [2, 3, 4] (ones 3) w9 HR.out.1 rfl rfl HR.out.2 rfl rfl (by decide)).mono ?_
  rintro e wa ⟨⟨ja, jc, jb, jd, rfl, hN⟩, h5⟩
  simp only [show (tkK [1] (ones 1) ++ tkK [2, 3, 4] (ones 3)).length = 4 by decide, show half 4 = 2 by decide]
  have hf := half_first hN (m := 2) (P := 4) (x := 3) (by decide) (by decide)
  obtain ⟨fb, fo, ef, cf⟩ := hf
  rw [ef]
  have GA := ((G7.then g4).then g5).then h5
  have GB := (g4.then g5).then h5
  have c1 := GB.cellv HA.out.1 (by simp)
  have d1 := GB.cellv HA.out.2 (by simp)
  clear HR hN g4 g5 h5 G7 HA ef
  obtain ⟨wb, hwb⟩ : ∃ u, u = ((wa.alloc (.cells #[.bool false, .slice (cut ja 2 0) 2 2, .slice (cut jb 2 0) 2 2] 24)).alloc (.cells #[.bool false, .slice (some ⟨fb, fo, none⟩) 2 2, .slice (cut jb 4 2) 2 2] 24)) := ⟨_, rfl⟩
  have e1 : wb.cell? ⟨wa.heap.size, 1, none⟩ = some (.slice (cut ja 2 0) 2 2) := by rw [hwb]; simp [go_sem]
  have f1 : wb.cell? ⟨wa.heap.size + 1, 1, none⟩ = some (.slice (some ⟨fb, fo, none⟩) 2 2) := by rw [hwb]; simp [go_sem]
  have gwb : Chg [] wa wb := by rw [hwb]; exact (Chg.alloc [] _ _).then (Chg.alloc [] _ _)
  have c2 := gwb.cellv c1 (by simp)
  have d2 := gwb.cellv d1 (by simp)
  have cf2 := gwb.cellv cf (by simp)
  have GC := GA.then gwb
  have HB := mkHid (And.intro c2 (And.intro d2 (And.intro cf2 (And.intro e1 f1))))
  have hzb : wb.heap.size = wa.heap.size + 1 + 1 := by rw [hwb]; simp
  have HZb := mkHid hzb
  clear c1 d1 c2 d2 cf cf2 gwb GA e1 f1 GB hzb
  go_wp2_with fail
  rw [← hwb, ← HZb.out]
  clear hwb HZb
  generalize wa.heap.size + 1 = b8 at *
  generalize wa.heap.size = b7 at *
  refine (list_as 3 [3, 5, 9] #[.int .u64 3, .int .u64 5, .int .u64 9] wb rfl rfl (by decide)).mono ?_
  rintro e wc ⟨ka6, kc6, va6, vc6, rfl, r6, g6⟩
  go_wp2_with fail
  refine (child_as 3 1 0 [3, 5, 9] ka6 kc6 va6 vc6 wc r6 rfl (by decide)).mono ?_
  rintro e wd ⟨rfl, h6⟩
  have GD := (GC.then g6).then h6
  have GDb := g6.then h6
  clear r6 g6 h6 GC
  go_wp2_with fail
  refine (list_as 3 [3, 5, 9] #[.int .u64 3, .int .u64 5, .int .u64 9] wd rfl rfl (by decide)).mono ?_
  rintro e we ⟨ka7, kc7, va7, vc7, rfl, r7, g7⟩
  go_wp2_with fail
  refine (child_as 3 8 1 [3, 5, 9] ka7 kc7 va7 vc7 we r7 rfl (by decide)).mono ?_
  rintro e wf ⟨rfl, h7⟩
  have GE := (GD.then g7).then h7
  have GEb := (GDb.then g7).then h7
  obtain ⟨c2, d2, cf2, e1, f1⟩ := HB.out
  have c3 := GEb.cellv c2 (by simp)
  have d3 := GEb.cellv d2 (by simp)
  have e3 := GEb.cellv e1 (by simp)
  have f3 := GEb.cellv f1 (by simp)
  have cf3 := GEb.cellv cf2 (by simp)
  clear c2 d2 cf2 e1 f1 HB GDb GEb GD r7 g7 h7
  go_wp2_with fail
  go_ret
  exact ⟨rfl, GE⟩
end Go.Proofs.Ytlaeonemlodhmaa
