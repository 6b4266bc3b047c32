/- The reference's disk: New. -/
import Derived.Test.YtinmhaffefgloaaRi
import Derived.Test.YtinmhaffefgloaaW
import Derived.Test.YtinmhaffefgloaaRg
import Derived.Deep.RegionLaw
namespace Go.Proofs.Ytinmhaffefgloaa
open Go.RowKit
set_option linter.unusedVariables false
set_option linter.unusedSimpArgs false

theorem step_append_at {P : Program} {ops : Array Oper} {o : Oper} {a : Act} {w : World} {K : Act → World → Prop} {Q : Exit → Act → World → Prop} {E : Prop}
    (hg : o.guard = none) (s x : Operand) (t : TypeId) (ho : o.op = .call { callee := .builtin .append, args := #[s, x], argTypes := #[t, t] })
    (e : TypeId) (z bytes : Nat) (hz0 : 0 < z) (helt : EltZ P t e z bytes)
    (B : Nat) (ao : Option Addr) (n c : Nat) (xs : List Value) (hs : a.eval s = .slice ao n c) (h : RoomZ z w B ao n c xs) (hB : B ≤ w.heap.size)
    (us : Array Value) (cx : Nat) (b : Nat) (hb : b = w.heap.size) (hxe : a.eval x = .slice (some ⟨b, 0, none⟩) 1 cx) (hlen : us.size = z) (hone : ∀ u ∈ us.toList, u.oneCell' = true)
    (h63 : n + 1 ≤ maxLen) (hbytes : (n + 1) * bytes ≤ 140737488355328)
    (hK : ∀ ao' c' w', RoomZ z w' B ao' (n + 1) c' (xs ++ us.toList) → Chg (fp ao c) w w' → (fp ao' c' = fp ao c ∨ ∃ k, w.heap.size ≤ k ∧ fp ao' c' = [k]) → K (a.put o.dst (.slice ao' (n + 1) c')) w') :
    if Region.wanted o (yielded ops a.tmps) = true then Oper.wp P o a (w.alloc (.cells us e)) K Q else E := by
  subst hb
  exact step_append_zz hg s x t ho e z bytes hz0 helt B ao n c xs hs h hB us cx hxe hlen hone h63 hbytes hK
theorem refEltS : EltZ Try.prog 51 32 1 24 := EltZ.mk (v := .slice none 0 0) Try.underlying51 (by kernel_rfl) (by kernel_rfl)
def refZero : List UInt8 := List.replicate 64 0
theorem new_no (n : Int) (hn : n < 1 ∨ 1024 < n) (w : World) : Calls Try.prog 8 #[.int .i64 n] w fun e w' => e = .returned (.tuple #[.pointer none, .int .i64 1]) ∧ w = w' := by
  by_cases h1 : n < 1
  · have hd : decide (n < 1) = true := by simp; omega
    go_enter Try.func8, Try.ntmps8
    go_wp2
    go_ret2
    exact ⟨rfl, rfl⟩
  · have hd : decide (n < 1) = false := by simp; omega
    have hd2 : decide ((1024 : Int) < n) = true := by simp; omega
    go_enter Try.func8, Try.ntmps8
    go_wp2
    go_ret2
    exact ⟨rfl, rfl⟩
theorem refZero_room (w : World) : Room (w.alloc (.cells (madeCells #[.int .u8 0] 64) 5)) w.heap.size (some ⟨w.heap.size, 0, none⟩) 64 64 (bts refZero) := by
  have ht : (madeCells #[.int .u8 0] 64).toList = bts refZero := by kernel_rfl
  have hsz : (madeCells #[.int .u8 0] 64).size = 64 := by kernel_rfl
  refine ⟨by rw [bts_length]; rfl, Nat.le_refl _, by decide, fun _ => ⟨w.heap.size, 0, rfl, Nat.le_refl _, fun j hj => ⟨?_, frozen_of_row _ _ _ _ _ (heap_alloc_last w _)⟩, fun j u hu => ?_⟩⟩
  · rw [cell_of_row _ _ _ _ _ _ (heap_alloc_last w _)]
    simp
    rw [hsz]
    omega
  · rw [cell_of_row _ _ _ _ _ _ (heap_alloc_last w _), Nat.zero_add]
    rw [← ht] at hu
    simpa using hu
set_option maxHeartbeats 1000000 in
theorem new_yes (n : Nat) (h1 : 1 ≤ n) (h2 : n ≤ 1024) (w : World) : Calls Try.prog 8 #[.int .i64 n] w fun e w' => e = .returned (.tuple #[.pointer (some ⟨w.heap.size, 0, none⟩), .int .i64 0]) ∧ ∃ F sa cs vs, RefAt w' w.heap.size F w.heap.size sa cs none 0 vs [] ⟨List.replicate (4 * n) refZero, [], 0, false, n⟩ ∧ Chg [] w w' := by
  have hd : decide ((n : Int) < 1) = false := by simp; omega
  have hd2 : decide ((1024 : Int) < (n : Int)) = false := by simp; omega
  have hml : maxLen = 9223372036854775807 := rfl
  go_enter Try.func8, Try.ntmps8
  go_wp2_with fail
  generalize hrb : w.heap.size = rb at *
  generalize hW : w.alloc _ = W
  have hgW : Chg [] w W := by subst hW; exact Chg.alloc [] _ _
  have hr0 : RefAt W rb [rb] rb none 0 none 0 [] [] ⟨[], [], 0, false, n⟩ := by
    subst hW hrb
    refine ⟨by simp, by simp, by simp, by simp, by simp, fun j hj => ?_, RoomZ.nil _ _ _ _, RoomZ.nil _ _ _ _, by simp [fp_zero], by simp [fp_zero], fun k hk => by simp [fp_zero] at hk, fun j l hj => by simp at hj, fun j s l hj => by simp at hj, fun k hk => by simpa [fp_zero] using hk, fun k hk => by simp at hk; subst hk; simp, by show 0 < _; decide⟩
    exact frozen_of_row _ _ j _ _ (heap_alloc_last w _)
  clear hW
  go_loopw [5] (fun i wr => ∃ (k : Nat) (F : List Nat) (sa : Option Addr) (cs : Nat) (vs : List Value), i = .int .i64 k ∧ k ≤ 4 * n ∧ RefAt wr rb F rb sa cs none 0 vs [] ⟨List.replicate k refZero, [], 0, false, n⟩ ∧ Chg [] w wr) (fun i _ => 4 * n - (intOf i).toNat)
  case atStart => exact ⟨0, [rb], none, 0, [], rfl, by omega, hr0, hgW⟩
  case round =>
    obtain ⟨k, F, sa, cs, vs, rfl, hk, hr, hc⟩ := hrel
    by_cases hlt : k < 4 * n
    · have c0 := hr.c0
      have f0 := hr.fz 0 (by decide)
      have hm : ∀ u : World, (Instr.makeSlice 32 (.int .i64 64) (.int .i64 64)).run Try.prog u = .ok (.slice (some ⟨u.heap.size, 0, none⟩) 64 64) (u.alloc (.cells (madeCells #[.int .u8 0] 64) 5)) := hmk 64 (by decide)
      have hlen : (List.replicate k refZero).length = k := by simp
      have c0d := (Chg.drew [] wr).cellv c0 (by simp)
      have c0a := fun o => (Chg.alloc [] wr.drew o).cellv c0d (by simp)
      have c0b := fun o o' => (Chg.alloc [] (wr.drew.alloc o) o').cellv (c0a o) (by simp)
      have hrbw : rb < wr.heap.size := block_lt_of_cell c0
      have hap := hr.ap1
      have Hap := mkHid hap
      have hrs : RoomZ 1 wr rb sa k cs vs := by have := hr.rS; simpa using this
      have Hlen := mkHid hlen
      simp only [hlen] at c0 c0d c0a c0b
      clear hap hlen
      go_wp2_with fail
      go_region_law (first | (refine step_append_at rfl (.tmp 25) (.tmp 27) 51 rfl 32 1 24 (by decide) refEltS rb sa k cs vs rfl ((hrs.chg (Chg.drew [] _) (by simp)).chg (Chg.alloc [] _ _) (by simp)) (by simp; omega) #[.slice (some ⟨wr.heap.size, 0, none⟩) 64 64] 1 (wr.heap.size + 1) (by simp) rfl rfl (by intro u hu; simp at hu; rw [hu]; rfl) (by omega) (by omega) ?_; intro a6 c6 w6 hr6 hg6 hf6; have k1 := hg6.cellv (c0a _) Hap.out; have k2 : w6.frozen? ⟨rb, 0, none⟩ = false := (hg6.frozen (p := ⟨rb, 0, none⟩) (by simp; omega) Hap.out).trans (((Chg.alloc [] wr.drew _).frozen (p := ⟨rb, 0, none⟩) (by simpa using hrbw) (by simp)).trans (by simpa using f0)); have Hr6 := mkHid hr6; have Hg6 := mkHid hg6; have Hf6 := mkHid hf6; clear hr6 hg6 hf6))
      all_goals
        have hzr := refZero_room wr.drew
        have g5 : Chg [] wr (wr.drew.alloc (.cells (madeCells #[.int .u8 0] 64) 5)) := (Chg.drew [] wr).then (Chg.alloc [] wr.drew _)
        have hz := sec_close (l := refZero) (a5 := some ⟨wr.heap.size, 0, none⟩) (c5 := 64) (ao := a6) (c' := c6) hr rfl g5 hzr Hg6.out (by show RoomZ 1 w6 rb a6 ((List.replicate k refZero).length + 1) c6 _; rw [Hlen.out]; exact Hr6.out) Hf6.out
        simp only [Hlen.out] at hz
        obtain ⟨F', z1, z2, z3⟩ := hz
        have hrs2 : List.replicate k refZero ++ [refZero] = List.replicate (k + 1) refZero := List.replicate_succ'.symm
        rw [hrs2] at z1
        have hc7 := hc.trans z2 (fun _ h _ => h) (fun k hk hlt => by have := (hr.F1 k hk).1; omega)
        clear z2 z3 g5 hr hc hrs
        generalize w6.setCell ⟨rb, 0, none⟩ (.slice a6 (k + 1) c6) = w7 at *
        go_wp2_with fail
        exact ⟨⟨k + 1, F', a6, c6, _, by go_num, by omega, z1, hc7⟩, by simp [intOf]; omega⟩
    · have : k = 4 * n := by omega
      subst this
      go_wp2_with fail
      go_ret2
      subst hrb
      exact ⟨rfl, F, sa, cs, vs, hr, hc⟩
end Go.Proofs.Ytinmhaffefgloaa
