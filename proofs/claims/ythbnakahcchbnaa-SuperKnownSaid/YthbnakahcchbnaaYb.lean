/- The program's rises, May, slotOf. -/
import Derived.Test.YthbnakahcchbnaaZg
namespace Go.Proofs.Ythbnakahcchbnaa
open Go.RowKit
set_option linter.unusedVariables false
set_option linter.unusedSimpArgs false
attribute [local go_sem ↓] Go.wp_at_zero Go.wp_at_succ

def rs (n : Nat) : Bool := decide (1 ≤ n ∧ n < 4611686018427387904)
theorem rs_true {n : Nat} (h : rs n = true) : 1 ≤ n ∧ n < 4611686018427387904 := by simpa [rs] using h
theorem rs_false {n : Nat} (h : rs n = false) : ¬ (1 ≤ n ∧ n < 4611686018427387904) := by simpa [rs] using h
theorem ret_bool {a b : Bool} (h : a = b) : Ending.returned (.bool a) = .returned (.bool b) := by rw [h]
theorem rises_any (n : Nat) (w : World) : Calls Try.prog 22 #[.int .u64 n] w fun e w' => e = .returned (.bool (rs n)) ∧ w = w' := by
  by_cases h1 : 1 ≤ n
  · have d1 : decide ((1 : Int) ≤ (n : Int)) = true := decide_eq_true (by omega)
    have d1n : decide (1 ≤ n) = true := decide_eq_true (by omega)
    by_cases h2 : n < 4611686018427387904
    · have d2 : decide ((n : Int) ≤ 4611686018427387903) = true := decide_eq_true (by omega)
      have d2n : decide (n ≤ 4611686018427387903) = true := decide_eq_true (by omega)
      have : rs n = true := by simp [rs, h1, h2]
      rw [this]; clear this
      go_enter Try.func22, Try.ntmps22
      go_wp2
      go_ret
      exact ⟨rfl, rfl⟩
    · have d2 : decide ((n : Int) ≤ 4611686018427387903) = false := decide_eq_false (by omega)
      have d2n : decide (n ≤ 4611686018427387903) = false := decide_eq_false (by omega)
      have : rs n = false := by simp [rs]; omega
      rw [this]; clear this
      go_enter Try.func22, Try.ntmps22
      go_wp2
      go_ret
      exact ⟨rfl, rfl⟩
  · have d1 : decide ((1 : Int) ≤ (n : Int)) = false := decide_eq_false (by omega)
    have d1n : decide (1 ≤ n) = false := decide_eq_false (by omega)
    have : rs n = false := by simp [rs]; omega
    rw [this]; clear this
    go_enter Try.func22, Try.ntmps22
    go_wp2
    go_ret
    exact ⟨rfl, rfl⟩
theorem slotOf_any (s : SB) (w : World) : Calls Try.prog 26 #[s.v] w fun e w' => e = .returned (.int .i64 ((s.G % 2 : Nat) : Int)) ∧ Chg [] w w' := by
  obtain ⟨c0, c1, c2, c3⟩ := sup_laid w s
  have g0 := Chg.alloc [] w (supObj s)
  obtain ⟨G, B, D, X⟩ := s
  unfold SB.v supObj at *
  dsimp only at *
  go_enter Try.func26, Try.ntmps26
  go_wp2_with fail
  go_ret
  exact ⟨by simp, g0⟩

set_option maxHeartbeats 4000000 in
theorem may_any (s : SB) (w : World) : Calls Try.prog 13 #[s.v] w fun e w' => e = .returned (.bool s.may) ∧ Chg [] w w' := by
  obtain ⟨G, B, D, X⟩ := s
  have g0 := Chg.alloc [] w (supObj ⟨G, B, D, X⟩)
  have HS := sup_laid w ⟨G, B, D, X⟩
  obtain ⟨c0, c1, c2, c3⟩ := HS
  have no : ∀ r : Bool, SB.may ⟨G, B, D, X⟩ = r → ∀ w', Chg [] w w' → (Ending.returned (Value.bool r) = .returned (.bool (SB.may ⟨G, B, D, X⟩)) ∧ Chg [] w w') := fun r hr w' g => ⟨by rw [hr], g⟩
  have NO := mkHid no
  have hm := SB.may_iff ⟨G, B, D, X⟩
  unfold supObj at *
  unfold SB.v
  dsimp only at *
  have kg := rises_any G
  have kx := rises_any X
  cases r1 : rs G with
  | true =>
    rw [r1] at kg
    by_cases h5 : 16 ≤ B
    · have dh5 : decide ((16 : Int) ≤ B) = true := decide_eq_true (by omega)
      by_cases h6 : B ≤ 1024
      · have dh6 : decide (B ≤ (1024 : Int)) = true := decide_eq_true (by omega)
        by_cases h7 : (D : Int) < B
        · have dh7 : decide ((D : Int) < B) = true := decide_eq_true (by omega)
          cases r7 : rs X with
          | true =>
            rw [r7] at kx
            have hf : SB.may ⟨G, B, D, X⟩ = true := by rw [hm]; have := rs_true r1; have := rs_true r7; omega
            have HF := mkHid hf
            have KG := mkHid kg
            have KX := mkHid kx
            clear hf hm no kg kx
            go_enter Try.func13, Try.ntmps13
            go_wp2_with (first | (go_at_call 22; first | (refine (KG.out _).mono ?_; rintro e w2 ⟨rfl, rfl⟩) | (refine (KX.out _).mono ?_; rintro e w2 ⟨rfl, rfl⟩)))
            go_ret
            exact NO.out _ HF.out _ g0
          | false =>
            rw [r7] at kx
            have hf : SB.may ⟨G, B, D, X⟩ = false := by rw [← Bool.not_eq_true, hm]; have := rs_false r7; omega
            have HF := mkHid hf
            have KG := mkHid kg
            have KX := mkHid kx
            clear hf hm no kg kx
            go_enter Try.func13, Try.ntmps13
            go_wp2_with (first | (go_at_call 22; first | (refine (KG.out _).mono ?_; rintro e w2 ⟨rfl, rfl⟩) | (refine (KX.out _).mono ?_; rintro e w2 ⟨rfl, rfl⟩)))
            go_ret
            exact NO.out _ HF.out _ g0
        · have dh7 : decide ((D : Int) < B) = false := decide_eq_false (by omega)
          have hf : SB.may ⟨G, B, D, X⟩ = false := by rw [← Bool.not_eq_true, hm]; omega
          have HF := mkHid hf
          have KG := mkHid kg
          have KX := mkHid kx
          clear hf hm no kg kx
          go_enter Try.func13, Try.ntmps13
          go_wp2_with (first | (go_at_call 22; first | (refine (KG.out _).mono ?_; rintro e w2 ⟨rfl, rfl⟩) | (refine (KX.out _).mono ?_; rintro e w2 ⟨rfl, rfl⟩)))
          go_ret
          exact NO.out _ HF.out _ g0
      · have dh6 : decide (B ≤ (1024 : Int)) = false := decide_eq_false (by omega)
        have hf : SB.may ⟨G, B, D, X⟩ = false := by rw [← Bool.not_eq_true, hm]; omega
        have HF := mkHid hf
        have KG := mkHid kg
        have KX := mkHid kx
        clear hf hm no kg kx
        go_enter Try.func13, Try.ntmps13
        go_wp2_with (first | (go_at_call 22; first | (refine (KG.out _).mono ?_; rintro e w2 ⟨rfl, rfl⟩) | (refine (KX.out _).mono ?_; rintro e w2 ⟨rfl, rfl⟩)))
        go_ret
        exact NO.out _ HF.out _ g0
    · have dh5 : decide ((16 : Int) ≤ B) = false := decide_eq_false (by omega)
      have hf : SB.may ⟨G, B, D, X⟩ = false := by rw [← Bool.not_eq_true, hm]; omega
      have HF := mkHid hf
      have KG := mkHid kg
      have KX := mkHid kx
      clear hf hm no kg kx
      go_enter Try.func13, Try.ntmps13
      go_wp2_with (first | (go_at_call 22; first | (refine (KG.out _).mono ?_; rintro e w2 ⟨rfl, rfl⟩) | (refine (KX.out _).mono ?_; rintro e w2 ⟨rfl, rfl⟩)))
      go_ret
      exact NO.out _ HF.out _ g0
  | false =>
    rw [r1] at kg
    have hf : SB.may ⟨G, B, D, X⟩ = false := by rw [← Bool.not_eq_true, hm]; have := rs_false r1; omega
    have HF := mkHid hf
    have KG := mkHid kg
    have KX := mkHid kx
    clear hf hm no kg kx
    go_enter Try.func13, Try.ntmps13
    go_wp2_with (first | (go_at_call 22; first | (refine (KG.out _).mono ?_; rintro e w2 ⟨rfl, rfl⟩) | (refine (KX.out _).mono ?_; rintro e w2 ⟨rfl, rfl⟩)))
    go_ret
    exact NO.out _ HF.out _ g0
end Go.Proofs.Ythbnakahcchbnaa
