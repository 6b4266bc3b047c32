/- The calls of a cache that is none, and of one that no New made. -/
import Derived.Test.YtdmhcbbakgljoaaKa
namespace Go.Proofs.Ytdmhcbbakgljoaa
open Go.RowKit Go.Maps
set_option linter.unusedVariables false
set_option linter.unusedSimpArgs false
attribute [local go_sem ↓] Go.wp_at_zero Go.wp_at_succ

section
variable (v : Value) (w : World) (hm : Calls Try.prog 31 #[v] w fun e w' => e = .returned (.bool false) ∧ w = w')
include hm
theorem npowered : Calls Try.prog 29 #[v] w fun e w' => e = .returned (.int .i64 2) ∧ w = w' := by
  go_enter Try.func29, Try.ntmps29
  go_wp2_with (first | (go_at_call 31; refine hm.mono ?_; rintro e w' ⟨rfl, rfl⟩))
  go_ret
  exact ⟨rfl, rfl⟩
theorem nasked (z : Int) : Calls Try.prog 26 #[v, .int .i64 z] w fun e w' => e = .returned (.int .i64 2) ∧ w = w' := by
  have c := npowered v w hm
  go_enter Try.func26, Try.ntmps26
  go_wp2_with (first | (go_at_call 29; refine c.mono ?_; rintro e w' ⟨rfl, rfl⟩))
  go_ret
  exact ⟨rfl, rfl⟩
theorem nget (z : Int) : Calls Try.prog 12 #[v, .int .i64 z] w fun e w' => e = .returned (.tuple #[.slice none 0 0, .int .i64 2]) ∧ w = w' := by
  have c := nasked v w hm z
  go_enter Try.func12, Try.ntmps12
  go_wp2_with (first | (go_at_call 26; refine c.mono ?_; rintro e w' ⟨rfl, rfl⟩))
  go_ret2
  exact ⟨rfl, rfl⟩
theorem nput (z : Int) (b : Value) : Calls Try.prog 11 #[v, .int .i64 z, b] w fun e w' => e = .returned (.int .i64 2) ∧ w = w' := by
  have c := nasked v w hm z
  go_enter Try.func11, Try.ntmps11
  go_wp2_with (first | (go_at_call 26; refine c.mono ?_; rintro e w' ⟨rfl, rfl⟩))
  go_ret
  exact ⟨rfl, rfl⟩
theorem nflush : Calls Try.prog 13 #[v] w fun e w' => e = .returned (.int .i64 2) ∧ w = w' := by
  have c := npowered v w hm
  go_enter Try.func13, Try.ntmps13
  go_wp2_with (first | (go_at_call 29; refine c.mono ?_; rintro e w' ⟨rfl, rfl⟩))
  go_ret
  exact ⟨rfl, rfl⟩
theorem ndrop : Calls Try.prog 15 #[v] w fun e w' => e = .returned (.tuple #[]) ∧ w = w' := by
  go_enter Try.func15, Try.ntmps15
  go_wp2_with (first | (go_at_call 31; refine hm.mono ?_; rintro e w' ⟨rfl, rfl⟩))
  go_end0
  exact ⟨rfl, rfl⟩
theorem nheld : Calls Try.prog 17 #[v] w fun e w' => e = .returned (.int .i64 0) ∧ w = w' := by
  go_enter Try.func17, Try.ntmps17
  go_wp2_with (first | (go_at_call 31; refine hm.mono ?_; rintro e w' ⟨rfl, rfl⟩))
  go_ret
  exact ⟨rfl, rfl⟩
end
theorem ndirty (w : World) : Calls Try.prog 14 #[.pointer none] w fun e w' => e = .returned (.slice none 0 0) ∧ Chg [] w w' := by
  go_enter Try.func14, Try.ntmps14
  go_wp2_with fail
  have g1 : Chg [] w (w.alloc (.cells #[.pointer none] 28)) := Chg.alloc [] w _
  have b1 : (w.alloc (.cells #[.pointer none] 28)).cell? ⟨w.heap.size, 0, none⟩ = some (.pointer none) := by rw [cell_of_row _ _ _ _ _ _ (heap_alloc_last w _)]; rfl
  generalize w.alloc (.cells #[.pointer none] 28) = w1 at *
  go_wp2_with (first | (go_at_call 31; refine (cmade_nil _).mono ?_; rintro e w' ⟨rfl, rfl⟩))
  go_ret
  exact ⟨rfl, g1⟩
end Go.Proofs.Ytdmhcbbakgljoaa
