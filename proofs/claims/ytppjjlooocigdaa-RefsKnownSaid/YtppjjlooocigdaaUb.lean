/- Refs: made, has, Count, Fresh, Free, Counts. -/
import Derived.Test.YtppjjlooocigdaaUa
namespace Go.Proofs.Ytppjjlooocigdaa
open Go.RowKit
set_option linter.unusedVariables false
set_option linter.unusedSimpArgs false
attribute [local go_sem ↓] Go.wp_at_zero Go.wp_at_succ

theorem rmade_nil (w : World) : Calls Try.prog 34 #[.pointer none] w fun e w' => e = .returned (.bool false) ∧ w = w' := by
  go_enter Try.func34, Try.ntmps34
  go_wp2
  go_ret
  exact ⟨rfl, rfl⟩
theorem rmade_yes (rb sb : Nat) (w : World) (c2 : w.cell? ⟨rb, 2, none⟩ = some (.pointer (some ⟨sb, 0, none⟩))) : Calls Try.prog 34 #[.pointer (some ⟨rb, 0, none⟩)] w fun e w' => e = .returned (.bool true) ∧ w = w' := by
  go_enter Try.func34, Try.ntmps34
  go_wp2
  go_ret
  exact ⟨rfl, rfl⟩
theorem rhas_nil (z : Int) (w : World) : Calls Try.prog 45 #[.pointer none, .int .i64 z] w fun e w' => e = .returned (.bool false) ∧ w = w' := by
  go_enter Try.func45, Try.ntmps45
  go_wp2_with (first | (go_at_call 34; refine (rmade_nil w).mono ?_; rintro e w' ⟨rfl, rfl⟩))
  go_ret
  exact ⟨rfl, rfl⟩
/-- A byte of a row, as a number. -/
theorem byte_at {l : List UInt8} {x n : Nat} (hl : l.length = n) (hx : x < n) : ∃ a : UInt8, ∃ m : Nat, l[x]? = some a ∧ a.toNat = m ∧ m ≤ 255 := by
  have h : x < l.length := by omega
  exact ⟨l[x], _, List.getElem?_eq_getElem h, rfl, by have := l[x].toNat_lt; omega⟩
theorem bts_at {l : List UInt8} {x : Nat} {a : UInt8} {m : Nat} (h : l[x]? = some a) (hm : a.toNat = m) : (bts l)[x]? = some (.int .u8 (m : Int)) := by
  have hx := (List.getElem?_eq_some_iff.1 h).1
  rw [bts_get l x hx]
  have : l[x] = a := by rw [List.getElem?_eq_getElem hx] at h; simpa using h
  rw [this, hm]
theorem Room.read {w : World} {B b o n c : Nat} {l : List UInt8} (h : Room w B (some ⟨b, o, none⟩) n c (bts l)) {x : Nat} {a : UInt8} {m : Nat} (hx : l[x]? = some a) (hm : a.toNat = m) : w.cell? ⟨b, o + x, none⟩ = some (.int .u8 (m : Int)) :=
  h.reads.cell x _ (bts_at hx hm)
section
variable (B rb nb cb sb : Nat) (Fs : List Nat) (n : Nat) (N C : List UInt8) (w : World) (h : RfsAt w B rb nb cb sb Fs n N C)
include h
theorem rhas_any (z : Int) : Calls Try.prog 45 #[.pointer (some ⟨rb, 0, none⟩), .int .i64 z] w fun e w' => e = .returned (.bool (decide (0 ≤ z ∧ z < (n : Int)))) ∧ w = w' := by
  have c0 := h.c0
  have cM := rmade_yes rb sb w h.c2
  by_cases h0 : z ≥ 0
  · by_cases h1 : z < (n : Int)
    · rw [decide_eq_true (show 0 ≤ z ∧ z < (n : Int) from ⟨h0, h1⟩)]
      have d0 : decide (z ≥ 0) = true := decide_eq_true h0
      have d0' : decide (0 ≤ z) = true := decide_eq_true h0
      have d1 : decide (z < (n : Int)) = true := decide_eq_true h1
      go_enter Try.func45, Try.ntmps45
      go_wp2_with (first | (go_at_call 34; refine cM.mono ?_; rintro e w' ⟨rfl, rfl⟩))
      go_ret
      exact ⟨rfl, rfl⟩
    · rw [decide_eq_false (show ¬ (0 ≤ z ∧ z < (n : Int)) by omega)]
      have d0 : decide (z ≥ 0) = true := decide_eq_true h0
      have d0' : decide (0 ≤ z) = true := decide_eq_true h0
      have d1 : decide (z < (n : Int)) = false := decide_eq_false h1
      go_enter Try.func45, Try.ntmps45
      go_wp2_with (first | (go_at_call 34; refine cM.mono ?_; rintro e w' ⟨rfl, rfl⟩))
      go_ret
      exact ⟨rfl, rfl⟩
  · rw [decide_eq_false (show ¬ (0 ≤ z ∧ z < (n : Int)) by omega)]
    have d0 : decide (z ≥ 0) = false := decide_eq_false h0
    have d0' : decide (0 ≤ z) = false := decide_eq_false h0
    go_enter Try.func45, Try.ntmps45
    go_wp2_with (first | (go_at_call 34; refine cM.mono ?_; rintro e w' ⟨rfl, rfl⟩))
    go_ret
    exact ⟨rfl, rfl⟩
theorem rcount_any (z : Int) : Calls Try.prog 29 #[.pointer (some ⟨rb, 0, none⟩), .int .i64 z] w fun e w' => e = .returned (.int .i64 (cntN N z)) ∧ w = w' := by
  have c0 := h.c0
  have cH := rhas_any B rb nb cb sb Fs n N C w h z
  by_cases hz : 0 ≤ z ∧ z < (n : Int)
  · obtain ⟨x, rfl⟩ : ∃ x : Nat, z = (x : Int) := ⟨z.toNat, by omega⟩
    have hx : x < n := by omega
    rw [decide_eq_true hz] at cH
    obtain ⟨a, m, ha, hm, hm2⟩ := byte_at h.lN hx
    have ci := h.rn.read ha hm
    rw [Nat.zero_add] at ci
    have e : cntN N (x : Int) = (m : Int) := by unfold cntN; rw [if_pos (isIn_yes h.lN hx), at0_of ha, hm]
    rw [e]
    clear ha hm e hz
    go_enter Try.func29, Try.ntmps29
    go_wp2_with (first | (go_at_call 45; refine cH.mono ?_; rintro e w' ⟨rfl, rfl⟩))
    go_ret
    exact ⟨rfl, rfl⟩
  · rw [decide_eq_false hz] at cH
    have e : cntN N z = 0 := by unfold cntN; rw [if_neg (by rw [isIn_no h.lN hz]; decide)]
    rw [e]
    clear e
    go_enter Try.func29, Try.ntmps29
    go_wp2_with (first | (go_at_call 45; refine cH.mono ?_; rintro e w' ⟨rfl, rfl⟩))
    go_ret
    exact ⟨rfl, rfl⟩
theorem rfresh_any (z : Int) : Calls Try.prog 27 #[.pointer (some ⟨rb, 0, none⟩), .int .i64 z] w fun e w' => e = .returned (.bool (newN N C z)) ∧ w = w' := by
  have c0 := h.c0
  have c1 := h.c1
  have cH := rhas_any B rb nb cb sb Fs n N C w h z
  by_cases hz : 0 ≤ z ∧ z < (n : Int)
  · obtain ⟨x, rfl⟩ : ∃ x : Nat, z = (x : Int) := ⟨z.toNat, by omega⟩
    have hx : x < n := by omega
    rw [decide_eq_true hz] at cH
    obtain ⟨a, m, ha, hm, hm2⟩ := byte_at h.lN hx
    obtain ⟨b, k, hb, hk, hk2⟩ := byte_at h.lC hx
    have ci := h.rn.read ha hm
    have cj := h.rc.read hb hk
    rw [Nat.zero_add] at ci cj
    by_cases hm0 : m = 0
    · have e : newN N C (x : Int) = false := by
        unfold newN; rw [isIn_yes h.lN hx, at0_of ha, at0_of hb, (u8_nat hm 0).2 hm0]; rfl
      rw [e]
      have d1 : decide ((m : Int) > 0) = false := decide_eq_false (by omega)
      have d2 : decide (0 < m) = false := decide_eq_false (by omega)
      have d3 : decide ((0 : Int) < (m : Int)) = false := decide_eq_false (by omega)
      clear ha hm hb hk e hz hm0
      go_enter Try.func27, Try.ntmps27
      go_wp2_with (first | (go_at_call 45; refine cH.mono ?_; rintro e w' ⟨rfl, rfl⟩))
      go_ret
      exact ⟨rfl, rfl⟩
    · have e : newN N C (x : Int) = ((k : Int) == 0) := by
        unfold newN
        rw [isIn_yes h.lN hx, at0_of ha, at0_of hb]
        have h1 : (a != 0) = true := by simpa using fun e => hm0 ((u8_nat hm 0).1 e)
        rw [h1, Bool.eq_iff_iff]
        simp [u8_nat hk 0]
      rw [e]
      have d1 : decide ((m : Int) > 0) = true := decide_eq_true (by omega)
      have d2 : decide (0 < m) = true := decide_eq_true (by omega)
      have d3 : decide ((0 : Int) < (m : Int)) = true := decide_eq_true (by omega)
      clear ha hm hb hk e hz hm0
      go_enter Try.func27, Try.ntmps27
      go_wp2_with (first | (go_at_call 45; refine cH.mono ?_; rintro e w' ⟨rfl, rfl⟩))
      go_ret
      exact ⟨by simp, rfl⟩
  · rw [decide_eq_false hz] at cH
    have e : newN N C z = false := by unfold newN; rw [isIn_no h.lN hz]; rfl
    rw [e]
    clear e
    go_enter Try.func27, Try.ntmps27
    go_wp2_with (first | (go_at_call 45; refine cH.mono ?_; rintro e w' ⟨rfl, rfl⟩))
    go_ret
    exact ⟨rfl, rfl⟩
theorem rfree_any : Calls Try.prog 25 #[.pointer (some ⟨rb, 0, none⟩)] w fun e w' => e = .returned (.int .i64 (freeL (freeI N C)).length) ∧ w = w' := by
  have c2 := h.c2
  have cM := rmade_yes rb sb w h.c2
  have cF := free_any B sb Fs _ w h.sp
  generalize (freeL (freeI N C)).length = q at *
  go_enter Try.func25, Try.ntmps25
  go_wp2_with (first | (go_at_call 34; refine cM.mono ?_; rintro e w' ⟨rfl, rfl⟩) | (go_at_call 44; refine cF.mono ?_; rintro e w' ⟨rfl, rfl⟩))
  go_ret
  exact ⟨rfl, rfl⟩
theorem rcounts_any : Calls Try.prog 24 #[.pointer (some ⟨rb, 0, none⟩)] w fun e w' => ∃ b, e = .returned (.slice (some ⟨b, 0, none⟩) n n) ∧ w.heap.size ≤ b ∧ Room w' w.heap.size (some ⟨b, 0, none⟩) n n (bts N) ∧ Chg [] w w' := by
  have c0 := h.c0
  have cM := rmade_yes rb sb w h.c2
  have cK := kept_any (some ⟨nb, 0, none⟩) n n N w h.rn.reads h.lN h.n0 h.nn
  go_enter Try.func24, Try.ntmps24
  go_wp2_with (first | (go_at_call 34; refine cM.mono ?_; rintro e w' ⟨rfl, rfl⟩) | (go_at_call 32; refine cK.mono ?_; rintro e w' ⟨b, rfl, hb, hr, hg⟩))
  go_ret
  exact ⟨b, rfl, hb, hr, hg⟩
end

/-! ### none -/
section
variable (w : World)
theorem rcount_nil (z : Int) : Calls Try.prog 29 #[.pointer none, .int .i64 z] w fun e w' => e = .returned (.int .i64 0) ∧ w = w' := by
  go_enter Try.func29, Try.ntmps29
  go_wp2_with (first | (go_at_call 45; refine (rhas_nil z w).mono ?_; rintro e w' ⟨rfl, rfl⟩))
  go_ret
  exact ⟨rfl, rfl⟩
theorem rfresh_nil (z : Int) : Calls Try.prog 27 #[.pointer none, .int .i64 z] w fun e w' => e = .returned (.bool false) ∧ w = w' := by
  go_enter Try.func27, Try.ntmps27
  go_wp2_with (first | (go_at_call 45; refine (rhas_nil z w).mono ?_; rintro e w' ⟨rfl, rfl⟩))
  go_ret
  exact ⟨rfl, rfl⟩
theorem rfree_nil : Calls Try.prog 25 #[.pointer none] w fun e w' => e = .returned (.int .i64 0) ∧ w = w' := by
  go_enter Try.func25, Try.ntmps25
  go_wp2_with (first | (go_at_call 34; refine (rmade_nil w).mono ?_; rintro e w' ⟨rfl, rfl⟩))
  go_ret
  exact ⟨rfl, rfl⟩
theorem rcounts_nil : Calls Try.prog 24 #[.pointer none] w fun e w' => e = .returned (.slice none 0 0) ∧ w = w' := by
  go_enter Try.func24, Try.ntmps24
  go_wp2_with (first | (go_at_call 34; refine (rmade_nil w).mono ?_; rintro e w' ⟨rfl, rfl⟩))
  go_ret
  exact ⟨rfl, rfl⟩
theorem ralloc_nil : Calls Try.prog 10 #[.pointer none] w fun e w' => e = .returned (.tuple #[.int .i64 0, .int .i64 2]) ∧ w = w' := by
  go_enter Try.func10, Try.ntmps10
  go_wp2_with (first | (go_at_call 34; refine (rmade_nil w).mono ?_; rintro e w' ⟨rfl, rfl⟩))
  go_ret2
  exact ⟨rfl, rfl⟩
theorem rchange_nil (z : Int) (f : Value) : Calls Try.prog 37 #[.pointer none, .int .i64 z, f] w fun e w' => e = .returned (.int .i64 2) ∧ w = w' := by
  go_enter Try.func37, Try.ntmps37
  go_wp2_with (first | (go_at_call 34; refine (rmade_nil w).mono ?_; rintro e w' ⟨rfl, rfl⟩))
  go_ret
  exact ⟨rfl, rfl⟩
theorem rinc_nil (z : Int) : Calls Try.prog 12 #[.pointer none, .int .i64 z] w fun e w' => e = .returned (.int .i64 2) ∧ w = w' := by
  go_enter Try.func12, Try.ntmps12
  go_wp2_with (first | (go_at_call 37; refine (rchange_nil w z _).mono ?_; rintro e w' ⟨rfl, rfl⟩))
  go_ret
  exact ⟨rfl, rfl⟩
theorem rdec_nil (z : Int) : Calls Try.prog 14 #[.pointer none, .int .i64 z] w fun e w' => e = .returned (.tuple #[.bool false, .int .i64 2]) ∧ w = w' := by
  go_enter Try.func14, Try.ntmps14
  go_wp2_with (first | (go_at_call 37; refine (rchange_nil w z _).mono ?_; rintro e w' ⟨rfl, rfl⟩))
  go_ret2
  exact ⟨rfl, rfl⟩
theorem rcommit_nil : Calls Try.prog 16 #[.pointer none] w fun e w' => e = .returned (.int .i64 2) ∧ w = w' := by
  go_enter Try.func16, Try.ntmps16
  go_wp2_with (first | (go_at_call 34; refine (rmade_nil w).mono ?_; rintro e w' ⟨rfl, rfl⟩))
  go_ret
  exact ⟨rfl, rfl⟩
theorem rabort_nil : Calls Try.prog 18 #[.pointer none] w fun e w' => e = .returned (.int .i64 2) ∧ w = w' := by
  go_enter Try.func18, Try.ntmps18
  go_wp2_with (first | (go_at_call 34; refine (rmade_nil w).mono ?_; rintro e w' ⟨rfl, rfl⟩))
  go_ret
  exact ⟨rfl, rfl⟩
theorem rcopy_nil : Calls Try.prog 20 #[.pointer none] w fun e w' => e = .returned (.pointer none) ∧ w = w' := by
  go_enter Try.func20, Try.ntmps20
  go_wp2_with (first | (go_at_call 34; refine (rmade_nil w).mono ?_; rintro e w' ⟨rfl, rfl⟩))
  go_ret
  exact ⟨rfl, rfl⟩
theorem rbecome_nil (v : Value) : Calls Try.prog 22 #[.pointer none, v] w fun e w' => e = .returned (.int .i64 2) ∧ w = w' := by
  go_enter Try.func22, Try.ntmps22
  go_wp2_with (first | (go_at_call 34; refine (rmade_nil w).mono ?_; rintro e w' ⟨rfl, rfl⟩))
  go_ret
  exact ⟨rfl, rfl⟩
end
end Go.Proofs.Ytppjjlooocigdaa
