/- The law's examples: awake; FreeKnown. -/
import Derived.Test.YtoddiocjloehlaaPl
namespace Go.Proofs.Ytoddiocjloehlaa
open Go.RowKit
set_option linter.unusedVariables false
set_option linter.unusedSimpArgs false
attribute [local go_sem ↓] Go.wp_at_zero Go.wp_at_succ

set_option maxRecDepth 20000 in
theorem awake_any (w : World) : Calls Try.prog 9 #[] w fun e w' => e = .returned (.bool true) ∧ Chg [] w w' := by
  have cN := new_solo 3 (by decide) w w (Chg.refl _ _) [] (by simp)
  have r3 : List.replicate 3 true = [true, true, true] := rfl
  rw [r3] at cN
  have t1 : takeN [true, true, true] = (0, 0, [false, true, true]) := by decide +kernel
  have t2 : takeN [false, true, true] = (1, 0, [false, false, true]) := by decide +kernel
  have t3 : giveN [false, false, true] 0 = (0, [true, false, true]) := by decide +kernel
  have t4 : takeN [true, false, true] = (0, 0, [false, false, true]) := by decide +kernel
  have t5 : takeN [false, false, true] = (2, 0, [false, false, false]) := by decide +kernel
  have t6 : takeN [false, false, false] = (0, 8, [false, false, false]) := by decide +kernel
  have T1 := mkHid t1
  have T2 := mkHid t2
  have T3 := mkHid t3
  have T4 := mkHid t4
  have T5 := mkHid t5
  have T6 := mkHid t6
  clear t1 t2 t3 t4 t5 t6 r3
  go_enter Try.func9, Try.ntmps9
  go_wp2_with fail
  refine cN.mono ?_
  rintro e w1 ⟨sb, rfl, h1, -⟩
  have c1 := solo_take h1
  rw [T1.out] at c1
  go_wp2_with fail
  refine c1.mono ?_
  rintro e w2 ⟨rfl, h2, -⟩
  have c2 := solo_take h2
  rw [T2.out] at c2
  go_wp2_with fail
  refine c2.mono ?_
  rintro e w3 ⟨rfl, h3, -⟩
  have c3 := solo_give h3 0
  rw [T3.out] at c3
  go_wp2_with fail
  refine c3.mono ?_
  rintro e w4 ⟨rfl, h4, -⟩
  have c4 := solo_take h4
  rw [T4.out] at c4
  go_wp2_with fail
  refine c4.mono ?_
  rintro e w5 ⟨rfl, h5, -⟩
  have c5 := solo_take h5
  rw [T5.out] at c5
  go_wp2_with fail
  refine c5.mono ?_
  rintro e w6 ⟨rfl, h6, -⟩
  have c6 := solo_take h6
  rw [T6.out] at c6
  go_wp2_with fail
  refine c6.mono ?_
  rintro e w7 ⟨rfl, h7, -⟩
  go_wp2_with fail
  go_ret
  exact ⟨rfl, h7.c⟩
end Go.Proofs.Ytoddiocjloehlaa
