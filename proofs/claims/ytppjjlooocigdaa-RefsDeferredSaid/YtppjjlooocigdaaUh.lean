/- The reference: New. -/
import Derived.Test.YtppjjlooocigdaaUg
namespace Go.Proofs.Ytppjjlooocigdaa
open Go.RowKit
set_option linter.unusedVariables false
set_option linter.unusedSimpArgs false
attribute [local go_sem ↓] Go.wp_at_zero Go.wp_at_succ

theorem dnew_out (ao : Option Addr) (n c : Nat) (w : World) (hn : n < 1 ∨ 1024 < n) (hb : n ≤ 9223372036854775807) : Calls Try.prog 8 #[.slice ao n c] w fun e w' => e = .returned (.tuple #[.pointer none, .int .i64 1]) ∧ w = w' := by
  by_cases h1 : n < 1
  · have h0 : n = 0 := by omega
    subst h0
    go_enter Try.func8, Try.ntmps8
    go_wp2
    go_ret2
    exact ⟨rfl, rfl⟩
  · have d1 : decide ((n : Int) < 1) = false := decide_eq_false (by omega)
    have d1' : decide (n < 1) = false := decide_eq_false (by omega)
    have d2 : decide ((n : Int) > 1024) = true := decide_eq_true (by omega)
    have d3 : decide ((1024 : Int) < (n : Int)) = true := decide_eq_true (by omega)
    have d4 : decide (1024 < n) = true := decide_eq_true (by omega)
    go_enter Try.func8, Try.ntmps8
    go_wp2
    go_ret2
    exact ⟨rfl, rfl⟩
/-- The reference around what was made. -/
theorem dat_close {w : World} {B db b0 o0 k0 b1 o1 k1 b2 o2 k2 n : Nat} {N C : List UInt8} {t : TypeId} (hdb : db = w.heap.size) (hB : B ≤ w.heap.size) (r0 : Room w B (some ⟨b0, o0, none⟩) n k0 (bts N)) (r1 : Room w B (some ⟨b1, o1, none⟩) n k1 (bts C)) (r2 : Room w B (some ⟨b2, o2, none⟩) n k2 (bvs (newL N C))) (n0 : 0 < n) (nn : n ≤ 1024) (e1 : b0 ≠ b1) (e2 : b0 ≠ b2) (e3 : b1 ≠ b2) :
    DO (w.alloc (.cells #[.slice (some ⟨b0, o0, none⟩) n k0, .slice (some ⟨b1, o1, none⟩) n k1, .slice (some ⟨b2, o2, none⟩) n k2] t)) B db [db, b0, b1, b2] n N C ∧ Chg [] w (w.alloc (.cells #[.slice (some ⟨b0, o0, none⟩) n k0, .slice (some ⟨b1, o1, none⟩) n k1, .slice (some ⟨b2, o2, none⟩) n k2] t)) := by
  subst hdb
  have g := Chg.alloc [] w (.cells #[.slice (some ⟨b0, o0, none⟩) n k0, .slice (some ⟨b1, o1, none⟩) n k1, .slice (some ⟨b2, o2, none⟩) n k2] t)
  have hcl := fun j => cell_of_row (w.alloc (.cells #[.slice (some ⟨b0, o0, none⟩) n k0, .slice (some ⟨b1, o1, none⟩) n k1, .slice (some ⟨b2, o2, none⟩) n k2] t)) w.heap.size j _ _ _ (heap_alloc_last w _)
  have hfz := fun j => frozen_of_row (w.alloc (.cells #[.slice (some ⟨b0, o0, none⟩) n k0, .slice (some ⟨b1, o1, none⟩) n k1, .slice (some ⟨b2, o2, none⟩) n k2] t)) w.heap.size j _ _ (heap_alloc_last w _)
  have l0 := (room_lt r0 n0).2
  have l1 := (room_lt r1 n0).2
  have l2 := (room_lt r2 n0).2
  exact ⟨⟨b0, o0, k0, b1, o1, k1, b2, o2, k2, ⟨hcl 0, hcl 1, hcl 2, hfz, r0.chg g (by simp), r1.chg g (by simp), r2.chg g (by simp), n0, nn, hB, by omega, by omega, by omega, e1, e2, e3⟩, rfl⟩, g⟩
theorem bvs_none (n : Nat) : bvs (List.replicate n false) = List.replicate n (.bool false) := by simp [bvs]
theorem mkO (n : Nat) (nn : n ≤ 1024) (u : World) : (Instr.makeSlice 63 (.int .i64 (n : Int)) (.int .i64 (n : Int))).run Try.prog u = .ok (.slice (some ⟨u.heap.size, 0, none⟩) n n) (u.alloc (.cells (madeCells #[.bool false] n) 4)) :=
  run_make_k eltO (.bool false) (by kernel_rfl) rfl n (by omega) (by unfold maxLen; omega) u
set_option maxRecDepth 20000 in
theorem dnew_in (ao : Option Addr) (n c : Nat) (L : List UInt8) (w : World) (g : Reads w ao (bts L)) (gn : L.length = n) (n0 : 0 < n) (nn : n ≤ 1024) : Calls Try.prog 8 #[.slice ao n c] w fun e w' => ∃ db G, e = .returned (.tuple #[.pointer (some ⟨db, 0, none⟩), .int .i64 0]) ∧ DO w' w.heap.size db G n L L ∧ Chg [] w w' := by
  have d1 : decide ((n : Int) < 1) = false := decide_eq_false (by omega)
  have d1' : decide (n < 1) = false := decide_eq_false (by omega)
  have d2 : decide ((n : Int) > 1024) = false := decide_eq_false (by omega)
  have d3 : decide ((1024 : Int) < (n : Int)) = false := decide_eq_false (by omega)
  have d4 : decide (1024 < n) = false := decide_eq_false (by omega)
  have hO : ∀ w1, Chg [] w w1 → Calls Try.prog 33 #[.slice ao n c] w1 fun e w' => ∃ b o k, e = .returned (.slice (some ⟨b, o, none⟩) n k) ∧ w1.heap.size ≤ b ∧ Room w' w.heap.size (some ⟨b, o, none⟩) n k (bts L) ∧ Chg [] w1 w' ∧ Chg [] w w' := fun w1 g1 => by
    refine (own_any ao n c L w1 (g.keep g1) gn n0 nn).mono ?_
    rintro e w' ⟨b, o, k, he, hb, hr, hg⟩
    exact ⟨b, o, k, he, hb, hr.mono g1.size, hg, g1.then hg⟩
  have hm2 := mkO n nn
  have hmk : ∀ u : World, Chg [] w u → Room (u.alloc (.cells (madeCells #[.bool false] n) 4)) w.heap.size (some ⟨u.heap.size, 0, none⟩) n n (bvs (newL L L)) := fun u gu => by
    have rm := (made_room u 4 (.bool false) n (by unfold maxLen; omega)).mono gu.size
    rwa [← bvs_none, ← newL_self L gn] at rm
  have HO := mkHid hO
  have HK := mkHid hmk
  clear hO hmk gn
  go_enter Try.func8, Try.ntmps8
  go_wp2_with fail
  go_region_law (first
    | (go_simp; go_at_call_of 33 ao; refine (HO.out _ (by first | exact Chg.refl _ _ | exact Chg.drew _ _ | exact Chg.alloc _ _ _ | exact (Chg.drew [] _).then (Chg.alloc _ _ _) | exact (Chg.alloc [] _ _).then (Chg.drew _ _))).mono ?_; rintro e wa ⟨b0, o0, k0, rfl, hb0, ra, ga, gaa⟩)
    | (go_simp; go_at_call_of 33 ao; refine (HO.out _ (by first | exact gaa | exact gaa.then (Chg.alloc _ _ _))).mono ?_; rintro e wb ⟨b1, o1, k1, rfl, hb1, rb, gb, gbb⟩))
  all_goals
    go_wp2_with fail
    go_ret2
    have la := (room_lt ra n0).2
    have lb := (room_lt rb n0).2
    have zz := gaa.size
    have zy := gbb.size
    have hza := fun (u : World) (o : Obj) => (show (u.alloc o).heap.size = u.heap.size + 1 by simp)
    first
    | (obtain ⟨q1, q2⟩ := dat_close (db := wb.heap.size + 1) (t := 65) (by simp) (Nat.le_trans gbb.size (Chg.alloc [] wb (.cells (madeCells #[.bool false] n) 4)).size) (room_chg (room_chg ra n0 gb (by simp)) n0 (Chg.alloc [] wb (.cells (madeCells #[.bool false] n) 4)) (by simp)) (room_chg rb n0 (Chg.alloc [] wb (.cells (madeCells #[.bool false] n) 4)) (by simp)) (HK.out wb gbb) n0 nn (by omega) (by omega) (by omega)
       exact ⟨_, _, rfl, q1, (gbb.then (Chg.alloc [] wb _)).then q2⟩)
    | (simp at hb1
       obtain ⟨q1, q2⟩ := dat_close (db := wb.heap.size) (t := 65) rfl gbb.size (room_chg (room_chg ra n0 (Chg.alloc [] wa (.cells (madeCells #[.bool false] n) 4)) (by simp)) n0 gb (by simp)) rb (room_chg (HK.out wa gaa) n0 gb (by simp)) n0 nn (by omega) (by omega) (by omega)
       exact ⟨_, _, rfl, q1, gbb.then q2⟩)
    | (simp at hb0
       obtain ⟨q1, q2⟩ := dat_close (db := wb.heap.size) (t := 65) rfl gbb.size (room_chg ra n0 gb (by simp)) rb (room_chg (room_chg (room_chg (HK.out w (Chg.refl [] w)) n0 (Chg.drew [] _) (by simp)) n0 ga (by simp)) n0 gb (by simp)) n0 nn (by omega) (by omega) (by omega)
       exact ⟨_, _, rfl, q1, gbb.then q2⟩)
end Go.Proofs.Ytppjjlooocigdaa
