/- (238: how many types the program's table has, and a hundred more.) The waiting line as a value of heap.Interface: how its methods are reached. -/
import Derived.Test.YtdmhcbbakgljoaaDa
import Derived.Deep.QuietTactic
namespace Go.Proofs.Ytdmhcbbakgljoaa
open Go.RowKit
set_option linter.unusedVariables false
set_option linter.unusedSimpArgs false

theorem wrap_some (ts : Array TypeId) (t : TypeId) (p : Addr) (a b : String) : Builtin.ssaWrapNilChk_ ts t #[.pointer (some p), strVal a, strVal b] = pure (.pointer (some p)) := rfl
theorem meth_one (name : String) (f : Nat) (sig : TypeId) (cb k : Nat) (la : Option Addr) (n c : Nat) (w : World) (h : w.cell? ⟨cb, k, none⟩ = some (.slice la n c))
    (hi : (Try.prog.info? 88).map (fun i => i.methods.find? (·.name == name)) = some (some ⟨name, sig, #[], some (f, false)⟩)) :
    (method 238 88 (.pointer (some ⟨cb, k, none⟩)) name).run Try.prog w = .ok (f, .slice la n c) w := by
  obtain ⟨i, h1, h2⟩ := Option.map_eq_some_iff.1 hi
  have hu : Try.prog.underlying 88 = some (.pointer 56) := Try.underlying88
  have hu2 := Try.underlying56
  unfold method
  simp [typeInfo, h1, h2, follow, receiverAt, hu, run_underlying hu, Place.get, wrap_some, Sem.run_bind, asAddr, loadVar, isAgg, run_underlying hu2, run_load, h]
theorem meth_ptr (name : String) (f : Nat) (sig : TypeId) (p : Addr) (w : World)
    (hi : (Try.prog.info? 88).map (fun i => i.methods.find? (·.name == name)) = some (some ⟨name, sig, #[], some (f, true)⟩)) :
    (method 238 88 (.pointer (some p)) name).run Try.prog w = .ok (f, .pointer (some p)) w := by
  obtain ⟨i, h1, h2⟩ := Option.map_eq_some_iff.1 hi
  have hu : Try.prog.underlying 88 = some (.pointer 56) := Try.underlying88
  unfold method
  simp [typeInfo, h1, h2, follow, receiverAt, hu, run_underlying hu, Place.get]
section
variable (cb k : Nat) (la : Option Addr) (n c : Nat) (w : World)
theorem meth_len (h : w.cell? ⟨cb, k, none⟩ = some (.slice la n c)) : (method 238 88 (.pointer (some ⟨cb, k, none⟩)) "Len").run Try.prog w = .ok (95, .slice la n c) w :=
  meth_one "Len" _ 42 cb k la n c w h (by kernel_rfl)
theorem meth_less (h : w.cell? ⟨cb, k, none⟩ = some (.slice la n c)) : (method 238 88 (.pointer (some ⟨cb, k, none⟩)) "Less").run Try.prog w = .ok (96, .slice la n c) w :=
  meth_one "Less" _ 102 cb k la n c w h (by kernel_rfl)
theorem meth_swap (h : w.cell? ⟨cb, k, none⟩ = some (.slice la n c)) : (method 238 88 (.pointer (some ⟨cb, k, none⟩)) "Swap").run Try.prog w = .ok (97, .slice la n c) w :=
  meth_one "Swap" _ 100 cb k la n c w h (by kernel_rfl)
theorem meth_push (p : Addr) : (method 238 88 (.pointer (some p)) "Push").run Try.prog w = .ok (99, .pointer (some p)) w :=
  meth_ptr "Push" _ 95 p w (by kernel_rfl)
theorem meth_pop (p : Addr) : (method 238 88 (.pointer (some p)) "Pop").run Try.prog w = .ok (98, .pointer (some p)) w :=
  meth_ptr "Pop" _ 101 p w (by kernel_rfl)
end
theorem len_any (la : Option Addr) (n c : Nat) (w : World) : Calls Try.prog 95 #[.slice la n c] w fun e w' => e = .returned (.int .i64 n) ∧ w = w' := by
  go_enter Try.func95, Try.ntmps95
  go_wp2
  go_ret
  exact ⟨rfl, rfl⟩
end Go.Proofs.Ytdmhcbbakgljoaa
