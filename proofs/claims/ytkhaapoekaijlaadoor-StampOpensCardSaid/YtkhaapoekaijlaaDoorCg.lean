/- From the row's list to the table; arrays of integers opened; what is new at the end. -/
import Derived.Test.YtkhaapoekaijlaaDoorCs
import Derived.ProofKit
import Derived.OpenShut
import Derived.Lib.LaidTab
namespace Go.Proofs.YtkhaapoekaijlaaDoor
open Go.ChangeShapes Go.WideShapes Go.ChangeAt Go.RowKit
set_option linter.unusedVariables false
set_option linter.unusedSimpArgs false

theorem gTabType : (Tryd.prog.globals[0]?).map (·.type) = some 49 := by kernel_rfl
def tabInts : List Int := [0, 1, 28, 2, 29, 14, 24, 3, 30, 22, 20, 15, 25, 17, 4, 8, 31, 27, 13, 23, 21, 19, 16, 7, 26, 12, 18, 6, 11, 5, 10, 9]
theorem tab_ints : ∀ k : Nat, k < 32 → 2 ^ k * 125613361 % 4294967296 / 134217728 < 32 ∧ tabInts.getD (2 ^ k * 125613361 % 4294967296 / 134217728) 0 = (k : Int) := by decide +kernel
theorem tab_of {name : String} {W : World} (gTab : Tryd.prog.globalNamed name = some 0) (h : laidMetH Tryd.prog [(name, Rows.laid_math_bits_deBruijn32tab)] W) : Tab W := by
  have h2 : laidMet Tryd.prog [(name, Lib.tabData .u8 tabInts)] W := h
  have hT := Lib.tabIs_of_head (rest := []) gTab gTabType Tryd.underlying49 Tryd.underlying5 (by kernel_rfl) (by kernel_rfl) h2
  intro k hk
  obtain ⟨h1, h2⟩ := tab_ints k hk
  have := hT.cell gTab _ h1
  rw [h2] at this
  exact this
end Go.Proofs.YtkhaapoekaijlaaDoor
