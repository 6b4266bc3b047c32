/- The program's reader, taken. -/
import Derived.Test.YthbnakahcchbnaaYd
namespace Go.Proofs.Ythbnakahcchbnaa
open Go.RowKit
set_option linter.unusedVariables false
set_option linter.unusedSimpArgs false
attribute [local go_sem ↓] Go.wp_at_zero Go.wp_at_succ

/-- A reader in block rb: its bytes from place p on. -/
structure Rd (w : World) (rb : Nat) (ao : Option Addr) (n c : Nat) (l : List UInt8) : Prop where
  c0 : w.cell? ⟨rb, 0, none⟩ = some (.slice ao n c)
  z0 : w.frozen? ⟨rb, 0, none⟩ = false
  rd : Reads w ao (bts l)
  len : l.length = n
  le : n ≤ c
  max : c ≤ maxLen
  off : 0 < n → ∀ k, k ∈ blk ao → k ≠ rb
set_option maxRecDepth 20000 in
theorem number_any (rb : Nat) (ao : Option Addr) (n c : Nat) (l : List UInt8) (w : World) (h : Rd w rb ao n c l) (h8 : 8 ≤ n) :
    Calls Try.prog 24 #[.pointer (some ⟨rb, 0, none⟩)] w fun e w' => e = .returned (.int .u64 (num l 0)) ∧ Rd w' rb (cut ao c 8) (n - 8) (c - 8) (l.drop 8) ∧ Chg [rb] w w' := by
  have fr : ∀ u : World, (Instr.slice 25 (.slice ao n c) (some (.int .i64 8)) none none).run Try.prog u = .ok (.slice (cut ao c 8) (n - 8) (c - 8)) u := fun u => run_from_k ao n c 8 Try.underlying25 oneB h8 u
  have hget := get_yes ao n c l 8 w h.rd h.len h.le h.max (by decide) (by decide) h8
  have c0 := h.c0
  have z0 := h.z0
  have H := mkHid h
  clear h
  go_enter Try.func24, Try.ntmps24
  go_wp2_with (first | (go_at_call 28; refine hget.mono ?_; rintro e w' ⟨rfl, rfl⟩))
  have hs := World.cell?_setCell_same w ⟨rb, 0, none⟩ (.slice (cut ao c 8) (n - 8) (c - 8)) c0
  have g := Chg.setCell w ⟨rb, 0, none⟩ (.slice (cut ao c 8) (n - 8) (c - 8))
  go_ret
  have hle := H.out.le
  have hmx := H.out.max
  have hln := H.out.len
  refine ⟨by simp [num], ⟨hs, by rw [World.frozen?_setCell]; exact z0, ?_, by simp [hln], by omega, by omega, fun hp k hk => by rw [blk_cut] at hk; exact H.out.off (by omega) k hk⟩, g⟩
  have := ((H.out.rd.cut c 8 (by rw [bts_length]; omega))).chg0 g (fun hp k hk => by
    rw [blk_cut] at hk
    have := H.out.off (by omega) k hk
    simpa using this)
  rwa [bts_drop] at this
end Go.Proofs.Ythbnakahcchbnaa
