/- What the program's table says of slices of bytes; make of bytes. -/
import Derived.Test.YthbnakahcchbnaaRows
import Derived.Test.YthbnakahcchbnaaK
namespace Go.Proofs.Ythbnakahcchbnaa
open Go.RowKit
set_option linter.unusedVariables false

theorem eltB : Elt Try.prog 25 5 1 := Elt.mk (z := .int .u8 0) Try.underlying25 (by kernel_rfl) (by kernel_rfl)
theorem hmk (n : Nat) (hn : n < 1000) (u : World) : (Instr.makeSlice 25 (.int .i64 n) (.int .i64 n)).run Try.prog u = .ok (.slice (some ⟨u.heap.size, 0, none⟩) n n) (u.alloc (.cells (madeCells #[.int .u8 0] n) 5)) := by
  obtain ⟨h1, i, z, h2, h3, h4, h5, h6⟩ := eltB
  have hz : z = .int .u8 0 := by
    have e : (Try.prog.info? 5).map (·.zero) = some (some (.int .u8 0)) := by kernel_rfl
    rw [h2] at e
    simp [h3] at e
    exact e
  have h := run_make (P := Try.prog) u 25 5 i z h1 h2 h3 .i64 .i64 n n (by omega) (by omega) (by rw [h5]; omega) (by omega)
  rw [hz] at h
  simpa [h4, Value.cells] using h
end Go.Proofs.Ythbnakahcchbnaa
