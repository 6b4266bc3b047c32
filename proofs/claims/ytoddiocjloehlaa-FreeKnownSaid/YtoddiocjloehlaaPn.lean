/- FreeKnown. -/
import Derived.Test.YtoddiocjloehlaaPm
namespace Go.Proofs.Ytoddiocjloehlaa
open Go.RowKit
set_option linter.unusedVariables false
set_option linter.unusedSimpArgs false
attribute [local go_sem ↓] Go.wp_at_zero Go.wp_at_succ

theorem SpAt.off {w w' : World} {B sb : Nat} {F : List Nat} {Is : List Bool} (h : SpAt w B sb F Is) (o : Off F w w') : SpAt w' B sb F Is := by
  obtain ⟨S, hS, h1⟩ := o
  exact h.chg hS (fun k hk hm => h1 k hm hk)
theorem freeL_all (n : Nat) : (freeL (List.replicate n true)).length = n := by
  have : freeL (List.replicate n true) = List.range n := by
    unfold freeL
    rw [List.length_replicate]
    refine List.filter_eq_self.2 fun x hx => ?_
    have := List.mem_range.1 hx
    simp [this]
  rw [this, List.length_range]
set_option maxRecDepth 20000 in
set_option maxHeartbeats 2000000 in
theorem known_any (w : World) : Calls Try.prog 6 #[] w fun e w' => e = .returned (.bool true) ∧ Chg [] w w' := by
  have r3 : List.replicate 3 true = [true, true, true] := rfl
  have r0 : List.replicate 0 true = [] := rfl
  have R3 := mkHid r3
  have R0 := mkHid r0
  have T1 := mkHid (show claimN [true, true, true] 1 = (0, [true, false, true]) by decide +kernel)
  have T2 := mkHid (show claimN [true, false, true] 1 = (6, [true, false, true]) by decide +kernel)
  have T3 := mkHid (show giveN [true, false, true] 2 = (7, [true, false, true]) by decide +kernel)
  have T4 := mkHid (show takeN [] = (0, 8, []) by decide +kernel)
  have T5 := mkHid (show giveN [] 0 = (1, []) by decide +kernel)
  have T6 := mkHid (show freeL [true, false, true] = [0, 2] by decide +kernel)
  have T7 := mkHid (freeL_all 1024)
  clear r3 r0
  have cN := new_solo 3 (by decide) w w (Chg.refl _ _) [] (by simp)
  rw [R3.out] at cN
  go_enter Try.func6, Try.ntmps6
  go_wp2_with fail
  refine cN.mono ?_
  rintro e w1 ⟨sb, rfl, h1, -⟩
  have c1 := solo_claim h1 1
  rw [T1.out] at c1
  go_wp2_with fail
  refine c1.mono ?_
  rintro e w2 ⟨rfl, h2, -⟩
  have c2 := solo_claim h2 1
  rw [T2.out] at c2
  go_wp2_with fail
  refine c2.mono ?_
  rintro e w3 ⟨rfl, h3, -⟩
  have c3 := solo_give h3 2
  rw [T3.out] at c3
  go_wp2_with fail
  refine c3.mono ?_
  rintro e w4 ⟨rfl, h4, -⟩
  have hc4 := h4.c
  obtain ⟨F, hS4, -⟩ := h4.s
  have cZ := new_solo 0 (by decide) w w4 hc4 F (fun k hk => (hS4.lt k hk).2)
  rw [R0.out] at cZ
  clear cN c1 c2 c3 h1 h2 h3 h4
  go_wp2_with fail
  refine cZ.mono ?_
  rintro e w5 ⟨zb, rfl, h5, g5⟩
  have hS5 := hS4.keep g5
  have c5 := solo_take h5
  rw [T4.out] at c5
  go_wp2_with fail
  refine c5.mono ?_
  rintro e w6 ⟨rfl, h6, o6⟩
  have hS6 := hS5.off o6
  have c6 := solo_give h6 0
  rw [T5.out] at c6
  go_wp2_with fail
  refine c6.mono ?_
  rintro e w7 ⟨rfl, h7, o7⟩
  have hS7 := hS6.off o7
  have hc7 := h7.c
  clear hS4 hS5 hS6 cZ c5 c6 h5 h6 h7 o6 o7 g5
  go_wp2_with fail
  refine (take_none _ _ (made_nil _)).mono ?_
  rintro e w8 ⟨rfl, rfl⟩
  go_wp2_with fail
  have g9 := Chg.alloc [] w7 (.cells #[.pointer none] 52)
  have z9 : (w7.alloc (.cells #[.pointer none] 52)).cell? ⟨w7.heap.size, 0, none⟩ = some (.pointer none) := cell_of_row _ _ 0 _ _ _ (heap_alloc_last w7 _)
  have hS9 := hS7.keep g9
  have hc9 := hc7.then g9
  generalize w7.heap.size = b9 at *
  generalize w7.alloc (.cells #[.pointer none] 52) = w9 at *
  clear hS7 hc7 g9
  refine (take_none _ _ (made_zero _ _ z9)).mono ?_
  rintro e w8 ⟨rfl, rfl⟩
  go_wp2_with fail
  refine (new_no (-1) w9 (by omega)).mono ?_
  rintro e w8 ⟨rfl, rfl⟩
  go_wp2_with fail
  refine (new_no 1025 w9 (by omega)).mono ?_
  rintro e w8 ⟨rfl, rfl⟩
  have cM := new_solo 1024 (by decide) w w9 hc9 F (fun k hk => (hS9.lt k hk).2)
  go_wp2_with fail
  refine cM.mono ?_
  rintro e w10 ⟨mb, rfl, hM, g10⟩
  have hS10 := hS9.keep g10
  have z10 := g10.cellv z9 (by simp)
  clear cM hS9 z9
  go_wp2_with fail
  refine (awake_any w10).mono ?_
  rintro e w11 ⟨rfl, g11⟩
  have hS11 := hS10.keep g11
  have z11 := g11.cellv z10 (by simp)
  have hM11 := hM.keep g11
  clear hS10 z10 hM g10 g11
  have cL := list_any _ sb F _ w11 hS11
  rw [T6.out] at cL
  go_wp2_with fail
  refine cL.mono ?_
  rintro e w12 ⟨a, c, rfl, hr, g12⟩
  have z12 := g12.cellv z11 (by simp)
  have hM12 := hM11.keep g12
  clear cL hS11 z11 hM11
  have z13 : ([0, 2] : List Nat).length = 2 := rfl
  rw [z13] at hr
  have hr' := hr.reads.keep (Chg.alloc [] w12 (.cells #[.int .i64 0, .int .i64 2] 3))
  have g13 := Chg.alloc [] w12 (.cells #[.int .i64 0, .int .i64 2] 3)
  have hq := Reads.new w12 #[.int .i64 0, .int .i64 2] 3
  go_wp2_with fail
  have hM13 := hM12.keep g13
  have z14 := g13.cellv z12 (by simp)
  have hq' : Reads (w12.alloc (.cells #[.int .i64 0, .int .i64 2] 3)) (some ⟨w12.heap.size, 0, none⟩) (zvs [0, 2]) := hq
  have hr2 : Reads (w12.alloc (.cells #[.int .i64 0, .int .i64 2] 3)) a (zvs [0, 2]) := hr'
  clear hq hr' hr hM12 z12 g12
  have cS := same_any a 2 c (some ⟨w12.heap.size, 0, none⟩) 2 2 [0, 2] [0, 2] _ hr2 rfl hq' rfl (by omega)
  rw [decide_eq_true (rfl : ([0, 2] : List Int) = [0, 2])] at cS
  generalize w12.alloc (.cells #[.int .i64 0, .int .i64 2] 3) = w13 at *
  refine cS.mono ?_
  rintro e w14 ⟨rfl, g14⟩
  have hM14 := hM13.keep g14
  have z15 := g14.cellv z14 (by simp)
  clear cS hr2 hq' hM13 z14 g13 g14
  go_wp2_with fail
  refine (claim_none _ _ (made_nil _) 0).mono ?_
  rintro e w8 ⟨rfl, rfl⟩
  go_wp2_with fail
  refine (give_none _ _ (made_zero _ _ z15) 0).mono ?_
  rintro e w8 ⟨rfl, rfl⟩
  go_wp2_with fail
  refine (free_none _ _ (made_nil _)).mono ?_
  rintro e w8 ⟨rfl, rfl⟩
  go_wp2_with fail
  refine (list_none _ _ (made_nil _)).mono ?_
  rintro e w8 ⟨rfl, rfl⟩
  go_wp2_with fail
  refine (copy_none _ _ (made_nil _)).mono ?_
  rintro e w8 ⟨rfl, rfl⟩
  have cF := solo_free hM14
  rw [T7.out] at cF
  go_wp2_with fail
  refine cF.mono ?_
  rintro e w8 ⟨rfl, rfl⟩
  go_wp2_with fail
  go_ret
  exact ⟨rfl, hM14.c⟩
end Go.Proofs.Ytoddiocjloehlaa
