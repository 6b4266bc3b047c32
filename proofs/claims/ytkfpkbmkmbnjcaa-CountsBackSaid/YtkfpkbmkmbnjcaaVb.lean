/- The reference: Pages, Put, Page. -/
import Derived.Test.YtkfpkbmkmbnjcaaVa
namespace Go.Proofs.Ytkfpkbmkmbnjcaa
open Go.RowKit
set_option linter.unusedVariables false
set_option linter.unusedSimpArgs false
attribute [local go_sem ↓] Go.wp_at_zero Go.wp_at_succ

/-- Pages of any number. -/
def npgZ (z : Int) : Int := if z < 1 then 0 else ((npg z.toNat : Nat) : Int)
theorem npgZ_nat (n : Nat) : npgZ (n : Int) = (npg n : Int) := by
  unfold npgZ
  split
  · have : n = 0 := by omega
    subst this; rfl
  · rw [Int.toNat_natCast]
theorem rpages_any (z : Int) (w : World) (hz : z ≤ 9223372036854775807) : Calls Try.prog 13 #[.int .i64 z] w fun e w' => e = .returned (.int .i64 (npgZ z)) ∧ w = w' := by
  unfold npgZ
  by_cases h1 : z < 1
  · rw [if_pos h1]
    have d1 : decide (z < 1) = true := decide_eq_true h1
    go_enter Try.func13, Try.ntmps13
    go_wp2
    go_ret
    exact ⟨rfl, rfl⟩
  · rw [if_neg h1]
    obtain ⟨n, rfl⟩ : ∃ n : Nat, z = (n : Int) := ⟨z.toNat, by omega⟩
    rw [Int.toNat_natCast]
    obtain ⟨q, hq⟩ : ∃ q : Nat, n / 240 = q := ⟨_, rfl⟩
    obtain ⟨r, hr⟩ : ∃ r : Nat, n % 240 = r := ⟨_, rfl⟩
    have hnq : (n : Int) / 240 = (q : Int) := by omega
    have hnr : (n : Int) % 240 = (r : Int) := by omega
    have d1 : decide ((n : Int) < 1) = false := decide_eq_false h1
    have hqb : q ≤ 92233720368547758 := by omega
    by_cases h0 : 0 < r
    · have e : npg n = q + 1 := by unfold npg; omega
      rw [e]
      have d2 : decide ((r : Int) > 0) = true := decide_eq_true (by omega)
      have d3 : decide (0 < r) = true := decide_eq_true h0
      have d4 : decide ((0 : Int) < (r : Int)) = true := decide_eq_true (by omega)
      clear e hq hr h1
      go_enter Try.func13, Try.ntmps13
      go_wp2
      go_ret
      exact ⟨by simp, rfl⟩
    · have e : npg n = q := by unfold npg; omega
      rw [e]
      have d2 : decide ((r : Int) > 0) = false := decide_eq_false (by omega)
      have d3 : decide (0 < r) = false := decide_eq_false h0
      have d4 : decide ((0 : Int) < (r : Int)) = false := decide_eq_false (by omega)
      clear e hq hr h1
      go_enter Try.func13, Try.ntmps13
      go_wp2
      go_ret
      exact ⟨by simp, rfl⟩
end Go.Proofs.Ytkfpkbmkmbnjcaa
