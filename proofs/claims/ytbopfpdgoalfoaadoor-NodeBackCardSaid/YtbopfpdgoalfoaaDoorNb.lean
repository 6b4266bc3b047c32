/- The reference: number, eight, May, Same, Own. -/
import Derived.Test.YtbopfpdgoalfoaaDoorNa
namespace Go.Proofs.YtbopfpdgoalfoaaDoor
open Go.RowKit
set_option linter.unusedVariables false
set_option linter.unusedSimpArgs false
attribute [local go_sem ↓] Go.wp_at_zero Go.wp_at_succ

theorem List.drop_set_of_lt' (h : Nat) (xs : List UInt8) (x : UInt8) (hl : h < xs.length) : (xs.set h x).drop h = x :: xs.drop (h + 1) := by
  rw [List.drop_eq_getElem_cons (by rw [List.length_set]; exact hl)]
  congr 1
  · simp
  · rw [List.drop_set_of_lt (by omega)]
def prev (k : Nat) : Int := (k : Int) - 1
theorem prev_zero : prev 0 = -1 := rfl
theorem prev_succ (j : Nat) : prev (j + 1) = j := by simp [prev]
end Go.Proofs.YtbopfpdgoalfoaaDoor
