/- The statements' own helper: the chapter's rows. -/
import Derived.Test.YtaknbgiahlgpiaaDoorD
import Derived.Lib.SlBytesConst
namespace Go.Proofs.YtaknbgiahlgpiaaDoor
open Go.RowKit
set_option linter.unusedVariables false
set_option linter.unusedSimpArgs false

theorem eltB : Elt Tryd.prog 23 5 1 := Elt.mk (z := .int .u8 0) Tryd.underlying23 (by kernel_rfl) (by kernel_rfl)
theorem e1 : (v32 (csum []) == 0) = true := by decide +kernel
theorem e2 : (v32 (csum [49, 50, 51, 52, 53, 54, 55, 56, 57]) == 3808858755) = true := by decide +kernel
theorem e3 : (v32 (csum (List.replicate 32 0)) == 2324772522) = true := by decide +kernel
theorem e4 : (v32 (more (csum [49, 50, 51, 52]) [53, 54, 55, 56, 57]) == 3808858755) = true := by decide +kernel
theorem e5 : (v32 (it (8 * (-3 : Int).toNat) 7#32 ^^^ 5#32) == 2) = true := by decide +kernel
theorem hmk (n : Nat) (hn : n < 1000) (u : World) : (Instr.makeSlice 23 (.int .i64 n) (.int .i64 n)).run Tryd.prog u = .ok (.slice (some ⟨u.heap.size, 0, none⟩) n n) (u.alloc (.cells (madeCells #[.int .u8 0] n) 5)) := by
  obtain ⟨h1, i, z, h2, h3, h4, h5, h6⟩ := eltB
  have hz : z = .int .u8 0 := by
    have e : (Tryd.prog.info? 5).map (·.zero) = some (some (.int .u8 0)) := by kernel_rfl
    rw [h2] at e
    simp [h3] at e
    exact e
  have h := run_make (P := Tryd.prog) u 23 5 i z h1 h2 h3 .i64 .i64 n n (by omega) (by omega) (by rw [h5]; omega) (by omega)
  rw [hz] at h
  simpa [h4, Value.cells] using h
theorem reads_new (w : World) (cs : Array Value) (e : TypeId) (fr : Nat × Nat) (l : List UInt8) (h : cs.toList = bts l) : Reads (w.alloc (.cells cs e fr)) (some ⟨w.heap.size, 0, none⟩) (bts l) := fun _ =>
  ⟨w.heap.size, 0, rfl, fun j u hu => by
    rw [← h] at hu
    rw [cell_of_row _ _ _ _ _ _ (heap_alloc_last w _)]
    simpa using hu⟩
theorem Chg.behind {w w' : World} {o : Obj} (h : Chg [] (w.alloc o) w') : Chg [] w w' := (Chg.alloc [] w o).then h
set_option maxRecDepth 100000 in
set_option maxHeartbeats 1000000 in
theorem wakes_any (w : World) (hT : Tab w) : Calls Tryd.prog 14 #[] w fun e w' => e = .returned (.bool true) ∧ Chg [] w w' := by
  have hm : ∀ u : World, (Instr.makeSlice 23 (.int .i64 32) (.int .i64 32)).run Tryd.prog u = .ok (.slice (some ⟨u.heap.size, 0, none⟩) 32 32) (u.alloc (.cells (madeCells #[.int .u8 0] 32) 5)) := hmk 32 (by decide)
  have hcv := fun (u : World) (C : Array Value) (n c : Nat) => Lib.run_convert_bytes_const (P := Tryd.prog) u 23 5 C n c Tryd.underlying23 Tryd.underlying5
  have E1 := e1
  have E2 := e2
  have E3 := e3
  have E4 := e4
  have E5 := e5
  go_enter Tryd.func14, Tryd.ntmps14
  go_wp2_with fail
  refine (sum_any none 0 0 [] w hT (Reads.nil _ _) rfl (by decide)).mono ?_
  rintro e w1 ⟨rfl, hg1⟩
  have hT1 := hT.then hg1
  go_wp2_with fail
  refine (sum_any _ 9 9 [49, 50, 51, 52, 53, 54, 55, 56, 57] _ (hT1.then (Chg.alloc [] _ _)) (reads_new w1 _ _ _ _ rfl) rfl (by decide)).mono ?_
  rintro e w2 ⟨rfl, hg2⟩
  have hT2 := hT1.then hg2.behind
  have hc2 := hg1.then hg2.behind
  clear hT1 hg2 hg1
  go_wp2_with fail
  refine (sum_any _ 32 32 (List.replicate 32 0) _ (hT2.then (Chg.alloc [] _ _)) (reads_new w2 (madeCells #[.int .u8 0] 32) 5 (0, 0) _ (by kernel_rfl)) rfl (by decide)).mono ?_
  rintro e w3 ⟨rfl, hg3⟩
  have hT3 := hT2.then hg3.behind
  have hc3 := hc2.then hg3.behind
  clear hT2 hc2 hg3
  go_wp2_with fail
  refine (sum_any _ 4 4 [49, 50, 51, 52] _ (hT3.then (Chg.alloc [] _ _)) (reads_new w3 _ _ _ _ rfl) rfl (by decide)).mono ?_
  rintro e w4 ⟨rfl, hg4⟩
  have hT4 := hT3.then hg4.behind
  have hc4 := hc3.then hg4.behind
  clear hT3 hc3 hg4
  go_wp2_with fail
  refine (more_any (csum [49, 50, 51, 52]) _ rfl _ 5 5 [53, 54, 55, 56, 57] _ (hT4.then (Chg.alloc [] _ _)) (reads_new w4 _ _ _ _ rfl) rfl (by decide)).mono ?_
  rintro e w5 ⟨rfl, hg5⟩
  have hT5 := hT4.then hg5.behind
  have hc5 := hc4.then hg5.behind
  clear hT4 hc4 hg5
  go_wp2_with fail
  refine (joined_any 7#32 5#32 7 5 rfl rfl (-3) (by decide) w5 hT5).mono ?_
  rintro e w6 ⟨rfl, hg6⟩
  go_wp2_with fail
  go_ret
  exact ⟨rfl, hc5.then hg6⟩
end Go.Proofs.YtaknbgiahlgpiaaDoor
