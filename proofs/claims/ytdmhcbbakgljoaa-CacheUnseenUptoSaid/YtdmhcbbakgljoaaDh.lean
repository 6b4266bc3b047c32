/- The program's disk: New, Copy, none. -/
import Derived.Test.YtdmhcbbakgljoaaDg
namespace Go.Proofs.Ytdmhcbbakgljoaa
open Go.RowKit
set_option linter.unusedVariables false
set_option linter.unusedSimpArgs false
attribute [local go_sem ↓] Go.wp_at_zero Go.wp_at_succ

theorem dnew_no (n : Int) (hn : n < 1 ∨ 1024 < n) (w : World) : Calls Try.prog 8 #[.int .i64 n] w fun e w' => e = .returned (.tuple #[.pointer none, .int .i64 1]) ∧ w = w' := by
  by_cases h1 : n < 1
  · have hd : decide (n < 1) = true := decide_eq_true h1
    go_enter Try.func8, Try.ntmps8
    go_wp2
    go_ret2
    exact ⟨rfl, rfl⟩
  · have hd : decide (n < 1) = false := decide_eq_false h1
    have hd2 : decide ((1024 : Int) < n) = true := decide_eq_true (by omega)
    go_enter Try.func8, Try.ntmps8
    go_wp2
    go_ret2
    exact ⟨rfl, rfl⟩
/-- A new disk. -/
def RS.new (n : Nat) : RS := ⟨List.replicate (4 * n) zero64, [], 0, false, n⟩
theorem new_whole (n : Nat) (h : n ≤ 1024) : Whole (RS.new n) := ⟨by simp [RS.new], h⟩
theorem flat_new (n : Nat) : (RS.new n).S.flatten = List.replicate (256 * n) 0 := by
  show (List.replicate (4 * n) zero64).flatten = _
  unfold zero64
  rw [List.flatten_replicate_replicate]
  congr 1
  omega
theorem dnew_close {w w' : World} {n lb nb db : Nat} (h1 : 1 ≤ n) (c0 : w'.cell? ⟨db, 0, none⟩ = some (.slice (some ⟨lb, 0, none⟩) (256 * n) (256 * n))) (c1 : w'.cell? ⟨db, 1, none⟩ = some (.slice none 0 0)) (c2 : w'.cell? ⟨db, 2, none⟩ = some (.slice (some ⟨nb, 0, none⟩) (4 * n) (4 * n)))
    (c3 : w'.cell? ⟨db, 3, none⟩ = some (.int .i64 0)) (c4 : w'.cell? ⟨db, 4, none⟩ = some (.bool false)) (fz : ∀ j, j < 5 → w'.frozen? ⟨db, j, none⟩ = false)
    (rS : Room w' w.heap.size (some ⟨lb, 0, none⟩) (256 * n) (256 * n) (List.replicate (256 * n) (.int .u8 0))) (rN : Room w' w.heap.size (some ⟨nb, 0, none⟩) (4 * n) (4 * n) (List.replicate (4 * n) (.int .i64 0)))
    (d1 : db ≠ lb) (d2 : db ≠ nb) (d3 : lb ≠ nb) (dB : w.heap.size ≤ db) : DevAt w' w.heap.size db ⟨lb, 0, 256 * n, nb, 0, 4 * n⟩ none 0 (RS.new n) := by
  have e1 : 64 * (RS.new n).S.length = 256 * n := by simp [RS.new]; omega
  have e2 : (RS.new n).S.length = 4 * n := by simp [RS.new]
  refine ⟨by rw [e1]; exact c0, c1, by rw [e2]; exact c2, c3, c4, fz, by rw [e1, flat_new, bts_rep]; exact rS, RoomZ.nil _ _ _ _, by rw [e2]; show Room w' _ _ _ _ (newC (4 * n) []); rw [newC_nil]; exact rN, d1, d2, d3, by simp [fp_zero], by simp [fp_zero], by simp [fp_zero], dB, ?_, fun f hf => by simp [RS.new] at hf, by show 0 < _; decide, by rw [e2]; omega⟩
  intro l hl
  have : l = zero64 := List.eq_of_mem_replicate hl
  rw [this]
  rfl
theorem dnew_one (n : Nat) (h1 : 1 ≤ n) (h2 : n ≤ 1024) (w : World) : DevAt (((w.alloc (.cells (madeCells #[.int .u8 0] (256 * n)) 5)).alloc (.cells (madeCells #[.int .i64 0] (4 * n)) 3)).alloc (.cells #[.slice (some ⟨w.heap.size, 0, none⟩) (256 * n) (256 * n), .slice none 0 0, .slice (some ⟨w.heap.size + 1, 0, none⟩) (4 * n) (4 * n), .int .i64 0, .bool false] 52)).drew w.heap.size (w.heap.size + 1 + 1) ⟨w.heap.size, 0, 256 * n, w.heap.size + 1, 0, 4 * n⟩ none 0 (RS.new n) := by
  have ra := made_room w 5 (.int .u8 0) (256 * n) (by unfold maxLen; omega)
  have rb := made_room (w.alloc (.cells (madeCells #[.int .u8 0] (256 * n)) 5)) 3 (.int .i64 0) (4 * n) (by unfold maxLen; omega)
  have z1 : (w.alloc (.cells (madeCells #[.int .u8 0] (256 * n)) 5)).heap.size = w.heap.size + 1 := by simp
  generalize w.alloc (.cells (madeCells #[.int .u8 0] (256 * n)) 5) = w1 at *
  have ra2 := ra.chg (Chg.alloc [] w1 (.cells (madeCells #[.int .i64 0] (4 * n)) 3)) (by simp)
  have z2 : (w1.alloc (.cells (madeCells #[.int .i64 0] (4 * n)) 3)).heap.size = w.heap.size + 1 + 1 := by simp; omega
  generalize w1.alloc (.cells (madeCells #[.int .i64 0] (4 * n)) 3) = w2 at *
  rw [z1] at rb
  have hg := (Chg.alloc [] w2 (.cells #[.slice (some ⟨w.heap.size, 0, none⟩) (256 * n) (256 * n), .slice none 0 0, .slice (some ⟨w.heap.size + 1, 0, none⟩) (4 * n) (4 * n), .int .i64 0, .bool false] 52)).then (Chg.drew [] _)
  have hcl := fun j => cell_of_row (w2.alloc (.cells #[.slice (some ⟨w.heap.size, 0, none⟩) (256 * n) (256 * n), .slice none 0 0, .slice (some ⟨w.heap.size + 1, 0, none⟩) (4 * n) (4 * n), .int .i64 0, .bool false] 52)).drew w2.heap.size j _ _ _ (heap_alloc_last w2 _)
  have hfz := fun j => frozen_of_row (w2.alloc (.cells #[.slice (some ⟨w.heap.size, 0, none⟩) (256 * n) (256 * n), .slice none 0 0, .slice (some ⟨w.heap.size + 1, 0, none⟩) (4 * n) (4 * n), .int .i64 0, .bool false] 52)).drew w2.heap.size j _ _ (heap_alloc_last w2 _)
  rw [z2] at hcl hfz
  exact dnew_close h1 (hcl 0) (hcl 1) (hcl 2) (hcl 3) (hcl 4) (fun j _ => hfz j) (ra2.chg hg (by simp)) ((rb.mono (by omega)).chg hg (by simp)) (by omega) (by omega) (by omega) (by omega)
theorem dnew_two (n : Nat) (h1 : 1 ≤ n) (h2 : n ≤ 1024) (w : World) : DevAt (((w.alloc (.cells (madeCells #[.int .i64 0] (4 * n)) 3)).alloc (.cells (madeCells #[.int .u8 0] (256 * n)) 5)).alloc (.cells #[.slice (some ⟨w.heap.size + 1, 0, none⟩) (256 * n) (256 * n), .slice none 0 0, .slice (some ⟨w.heap.size, 0, none⟩) (4 * n) (4 * n), .int .i64 0, .bool false] 52)).drew w.heap.size (w.heap.size + 1 + 1) ⟨w.heap.size + 1, 0, 256 * n, w.heap.size, 0, 4 * n⟩ none 0 (RS.new n) := by
  have ra := made_room w 3 (.int .i64 0) (4 * n) (by unfold maxLen; omega)
  have rb := made_room (w.alloc (.cells (madeCells #[.int .i64 0] (4 * n)) 3)) 5 (.int .u8 0) (256 * n) (by unfold maxLen; omega)
  have z1 : (w.alloc (.cells (madeCells #[.int .i64 0] (4 * n)) 3)).heap.size = w.heap.size + 1 := by simp
  generalize w.alloc (.cells (madeCells #[.int .i64 0] (4 * n)) 3) = w1 at *
  have ra2 := ra.chg (Chg.alloc [] w1 (.cells (madeCells #[.int .u8 0] (256 * n)) 5)) (by simp)
  have z2 : (w1.alloc (.cells (madeCells #[.int .u8 0] (256 * n)) 5)).heap.size = w.heap.size + 1 + 1 := by simp; omega
  generalize w1.alloc (.cells (madeCells #[.int .u8 0] (256 * n)) 5) = w2 at *
  rw [z1] at rb
  have hg := (Chg.alloc [] w2 (.cells #[.slice (some ⟨w.heap.size + 1, 0, none⟩) (256 * n) (256 * n), .slice none 0 0, .slice (some ⟨w.heap.size, 0, none⟩) (4 * n) (4 * n), .int .i64 0, .bool false] 52)).then (Chg.drew [] _)
  have hcl := fun j => cell_of_row (w2.alloc (.cells #[.slice (some ⟨w.heap.size + 1, 0, none⟩) (256 * n) (256 * n), .slice none 0 0, .slice (some ⟨w.heap.size, 0, none⟩) (4 * n) (4 * n), .int .i64 0, .bool false] 52)).drew w2.heap.size j _ _ _ (heap_alloc_last w2 _)
  have hfz := fun j => frozen_of_row (w2.alloc (.cells #[.slice (some ⟨w.heap.size + 1, 0, none⟩) (256 * n) (256 * n), .slice none 0 0, .slice (some ⟨w.heap.size, 0, none⟩) (4 * n) (4 * n), .int .i64 0, .bool false] 52)).drew w2.heap.size j _ _ (heap_alloc_last w2 _)
  rw [z2] at hcl hfz
  exact dnew_close h1 (hcl 0) (hcl 1) (hcl 2) (hcl 3) (hcl 4) (fun j _ => hfz j) ((rb.mono (by omega)).chg hg (by simp)) (ra2.chg hg (by simp)) (by omega) (by omega) (by omega) (by omega)
set_option maxHeartbeats 1000000 in
theorem dnew_yes (n : Nat) (h1 : 1 ≤ n) (h2 : n ≤ 1024) (w : World) : Calls Try.prog 8 #[.int .i64 n] w fun e w' => ∃ db g, e = .returned (.tuple #[.pointer (some ⟨db, 0, none⟩), .int .i64 0]) ∧ DevAt w' w.heap.size db g none 0 (RS.new n) ∧ Chg [] w w' := by
  have hd : decide ((n : Int) < 1) = false := decide_eq_false (by omega)
  have hd2 : decide ((1024 : Int) < (n : Int)) = false := decide_eq_false (by omega)
  have hm1 : ∀ u : World, (Instr.makeSlice 31 (.int .i64 ((n : Int) * 256)) (.int .i64 ((n : Int) * 256))).run Try.prog u = .ok (.slice (some ⟨u.heap.size, 0, none⟩) (256 * n) (256 * n)) (u.alloc (.cells (madeCells #[.int .u8 0] (256 * n)) 5)) := fun u => by
    have := run_make_k eltB (.int .u8 0) (by kernel_rfl) rfl (256 * n) (by omega) (by unfold maxLen; omega) u
    rwa [show ((256 * n : Nat) : Int) = (n : Int) * 256 by omega] at this
  have hm2 : ∀ u : World, (Instr.makeSlice 40 (.int .i64 ((n : Int) * 4)) (.int .i64 ((n : Int) * 4))).run Try.prog u = .ok (.slice (some ⟨u.heap.size, 0, none⟩) (4 * n) (4 * n)) (u.alloc (.cells (madeCells #[.int .i64 0] (4 * n)) 3)) := fun u => by
    have := run_make_k eltN (.int .i64 0) (by kernel_rfl) rfl (4 * n) (by omega) (by unfold maxLen; omega) u
    rwa [show ((4 * n : Nat) : Int) = (n : Int) * 4 by omega] at this
  go_enter Try.func8, Try.ntmps8
  go_wp2_with fail
  go_region
  · have hD := dnew_one n h1 h2 w
    have hC : Chg [] w (((w.alloc (.cells (madeCells #[.int .u8 0] (256 * n)) 5)).alloc (.cells (madeCells #[.int .i64 0] (4 * n)) 3)).alloc (.cells #[.slice (some ⟨w.heap.size, 0, none⟩) (256 * n) (256 * n), .slice none 0 0, .slice (some ⟨w.heap.size + 1, 0, none⟩) (4 * n) (4 * n), .int .i64 0, .bool false] 52)).drew := (((Chg.alloc [] w _).then (Chg.alloc [] _ _)).then (Chg.alloc [] _ _)).then (Chg.drew [] _)
    go_wp2_with fail
    go_ret2
    exact ⟨_, _, rfl, hD, hC⟩
  · have hD := dnew_two n h1 h2 w
    have hC : Chg [] w (((w.alloc (.cells (madeCells #[.int .i64 0] (4 * n)) 3)).alloc (.cells (madeCells #[.int .u8 0] (256 * n)) 5)).alloc (.cells #[.slice (some ⟨w.heap.size + 1, 0, none⟩) (256 * n) (256 * n), .slice none 0 0, .slice (some ⟨w.heap.size, 0, none⟩) (4 * n) (4 * n), .int .i64 0, .bool false] 52)).drew := (((Chg.alloc [] w _).then (Chg.alloc [] _ _)).then (Chg.alloc [] _ _)).then (Chg.drew [] _)
    go_wp2_with fail
    go_ret2
    exact ⟨_, _, rfl, hD, hC⟩
end Go.Proofs.Ytdmhcbbakgljoaa
