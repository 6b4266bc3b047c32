/- The landed code: Pages, one page, the pages' parts as a sequence. -/
import Derived.Test.YtkfpkbmkmbnjcaaVh
import Derived.Test.YtkfpkbmkmbnjcaaF
namespace Go.Proofs.Ytkfpkbmkmbnjcaa
open Go.RowKit
set_option linter.unusedVariables false
set_option linter.unusedSimpArgs false
attribute [local go_sem ↓] Go.wp_at_zero Go.wp_at_succ

theorem pages_any (z : Int) (w : World) (hz : z ≤ 9223372036854775807) : Calls Try.prog 12 #[.int .i64 z] w fun e w' => e = .returned (.int .i64 (npgZ z)) ∧ w = w' := by
  unfold npgZ
  by_cases h1 : z < 1
  · rw [if_pos h1]
    have d1 : decide (z ≤ 0) = true := decide_eq_true (by omega)
    go_enter Try.func12, Try.ntmps12
    go_wp2
    go_ret
    exact ⟨rfl, rfl⟩
  · rw [if_neg h1]
    obtain ⟨n, rfl⟩ : ∃ n : Nat, z = ((n + 1 : Nat) : Int) := ⟨(z - 1).toNat, by omega⟩
    rw [Int.toNat_natCast]
    obtain ⟨q, hq⟩ : ∃ q : Nat, n / 240 = q := ⟨_, rfl⟩
    obtain ⟨y, hy⟩ : ∃ y : Int, ((n + 1 : Nat) : Int) = y := ⟨_, rfl⟩
    have e : npg (n + 1) = q + 1 := by unfold npg; omega
    have hw : y - 1 = (n : Int) := by omega
    have hnq : (n : Int) / 240 = (q : Int) := by omega
    have hqb : q ≤ 92233720368547758 := by omega
    have hnb : n ≤ 9223372036854775807 := by omega
    have d1 : decide (y ≤ 0) = false := decide_eq_false (by omega)
    rw [e, hy]
    clear e hq h1 hy hz
    go_enter Try.func12, Try.ntmps12
    go_wp2
    go_ret
    exact ⟨by simp, rfl⟩

/-- A page: its counts, noughts behind. -/
def pageOf (l : List UInt8) : List UInt8 := l ++ List.replicate (240 - l.length) 0
theorem pageOf_len {l : List UInt8} (h : l.length ≤ 240) : (pageOf l).length = 240 := by unfold pageOf; rw [List.length_append, List.length_replicate]; omega
theorem page_1 (ao : Option Addr) (n c : Nat) (l : List UInt8) (w : World) (g : Reads w ao (bts l)) (gn : l.length = n) (hn : n ≤ 240) : Calls Try.prog 19 #[.slice ao n c] w fun e w' =>
    ∃ b, e = .returned (.slice (some ⟨b, 0, none⟩) 240 240) ∧ w.heap.size ≤ b ∧ Room w' w.heap.size (some ⟨b, 0, none⟩) 240 240 (bts (pageOf l)) ∧ Chg [] w w' := by
  have hm2 : ∀ u : World, (Instr.makeSlice 22 (.int .i64 240) (.int .i64 240)).run Try.prog u = .ok (.slice (some ⟨u.heap.size, 0, none⟩) 240 240) (u.alloc (.cells (madeCells #[.int .u8 0] 240) 5)) := hmk 240 (by decide)
  have hR := made_room w 5 (.int .u8 0) 240 (by decide)
  have g2 := g.keep (Chg.alloc [] w (.cells (madeCells #[.int .u8 0] 240) 5))
  have hl : (bts l).length = n := by rw [bts_length]; exact gn
  have hth := hR.there 0 n (by omega)
  have hs := hR.sets (bts l) 0 (by omega)
  have hc1 := Chg.alloc [] w (.cells (madeCells #[.int .u8 0] 240) 5)
  have hz : w.heap.size < (w.alloc (.cells (madeCells #[.int .u8 0] 240) 5)).heap.size := by simp
  have e1 : (List.replicate 240 (Value.int .u8 0)).take 0 ++ (bts l ++ (List.replicate 240 (Value.int .u8 0)).drop (0 + (bts l).length)) = bts (pageOf l) := by
    unfold pageOf
    rw [hl, bts_append, List.take_zero, List.nil_append, List.drop_replicate, Nat.zero_add, gn]
    congr 1
    unfold bts
    rw [List.map_replicate]
    rfl
  rw [e1] at hs
  have hc2 := Chg.setCells w.heap.size (bts l) 0 (w.alloc (.cells (madeCells #[.int .u8 0] 240) 5))
  have HL := mkHid hl
  have HE := mkHid e1
  clear hl e1 hR gn
  go_enter Try.func19, Try.ntmps19
  go_wp2_with (refine wpList_copy_k rfl (.tmp 5) (.tmp 6) 22 22 5 rfl Try.underlying22 oneB w.heap.size 0 240 240 ao n c (bts l) rfl rfl g2 (by rw [HL.out]; exact (Nat.min_eq_left hn).symm) (by rw [HL.out]; exact hth) (bts_one _) ?_)
  go_ret
  exact ⟨w.heap.size, rfl, Nat.le_refl _, hs, hc1.trans hc2 (by simp) (fun k hk hlt => by simp at hk; omega)⟩

theorem parts_any (ao : Option Addr) (n c : Nat) (w : World) : Calls Try.prog 18 #[.slice ao n c] w fun e w' =>
    e = .returned (.func (.func 21) #[] #[.pointer (some ⟨w.heap.size, 0, none⟩)]) ∧ w.alloc (.cells #[.slice ao n c] 22) = w' := by
  go_enter Try.func18, Try.ntmps18
  go_wp2
  go_ret
  exact ⟨rfl, rfl⟩
end Go.Proofs.Ytkfpkbmkmbnjcaa
