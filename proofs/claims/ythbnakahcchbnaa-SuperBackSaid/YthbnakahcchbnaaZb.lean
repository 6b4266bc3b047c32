/- The reference: May, lay, number. -/
import Derived.Test.YthbnakahcchbnaaZa
namespace Go.Proofs.Ythbnakahcchbnaa
open Go.RowKit
set_option linter.unusedVariables false
set_option linter.unusedSimpArgs false
attribute [local go_sem ↓] Go.wp_at_zero Go.wp_at_succ

/-- A superblock's cells in a block. -/
structure SupAt (w : World) (b : Nat) (s : SB) : Prop where
  c0 : w.cell? ⟨b, 0, none⟩ = some (.int .u64 s.G)
  c1 : w.cell? ⟨b, 1, none⟩ = some (.int .i64 s.B)
  c2 : w.cell? ⟨b, 2, none⟩ = some (.int .u64 s.D)
  c3 : w.cell? ⟨b, 3, none⟩ = some (.int .u64 s.X)
theorem SupAt.keep {w w' : World} {b : Nat} {s : SB} {S : List Nat} (h : SupAt w b s) (g : Chg S w w') (hb : b ∉ S) : SupAt w' b s :=
  ⟨g.cellv h.c0 hb, g.cellv h.c1 hb, g.cellv h.c2 hb, g.cellv h.c3 hb⟩
def supObj (s : SB) : Obj := .cells #[.int .u64 s.G, .int .i64 s.B, .int .u64 s.D, .int .u64 s.X] 24
theorem sup_laid (w : World) (s : SB) : SupAt (w.alloc (supObj s)) w.heap.size s := by
  have hl := heap_alloc_last w (supObj s)
  have hc := fun j => cell_of_row _ w.heap.size j _ _ _ hl
  exact ⟨by rw [hc]; rfl, by rw [hc]; rfl, by rw [hc]; rfl, by rw [hc]; rfl⟩
set_option maxHeartbeats 4000000 in
theorem rmay_any (s : SB) (w : World) : Calls Try.prog 14 #[s.v] w fun e w' => e = .returned (.bool s.may) ∧ Chg [] w w' := by
  obtain ⟨G, B, D, X⟩ := s
  have g0 := Chg.alloc [] w (supObj ⟨G, B, D, X⟩)
  have HS := sup_laid w ⟨G, B, D, X⟩
  obtain ⟨c0, c1, c2, c3⟩ := HS
  have no : ∀ r : Bool, SB.may ⟨G, B, D, X⟩ = r → ∀ w', Chg [] w w' → (Ending.returned (Value.bool r) = .returned (.bool (SB.may ⟨G, B, D, X⟩)) ∧ Chg [] w w') := fun r hr w' g => ⟨by rw [hr], g⟩
  have NO := mkHid no
  have hm := SB.may_iff ⟨G, B, D, X⟩
  unfold supObj at *
  unfold SB.v
  dsimp only at *
  have HS := mkHid hm
  by_cases h1 : G = 0
  · have dh1i : ((G : Int) == 0) = true := by simp; omega
    have dh1n : (G == 0) = true := by simp; omega
    have hf : SB.may ⟨G, B, D, X⟩ = false := by rw [← Bool.not_eq_true, hm]; omega
    have HF := mkHid hf
    clear hf hm no HS h1
    go_enter Try.func14, Try.ntmps14
    go_wp2_with fail
    go_ret
    exact NO.out _ HF.out _ g0
  · have dh1i : ((G : Int) == 0) = false := by simp; omega
    have dh1n : (G == 0) = false := by simp; omega
    by_cases h2 : 4611686018427387904 ≤ G
    · have dh2i : decide ((4611686018427387904 : Int) ≤ (G : Int)) = true := decide_eq_true (by omega)
      have dh2n : decide (4611686018427387904 ≤ G) = true := decide_eq_true (by omega)
      have hf : SB.may ⟨G, B, D, X⟩ = false := by rw [← Bool.not_eq_true, hm]; omega
      have HF := mkHid hf
      clear hf hm no HS h2
      go_enter Try.func14, Try.ntmps14
      go_wp2_with fail
      go_ret
      exact NO.out _ HF.out _ g0
    · have dh2i : decide ((4611686018427387904 : Int) ≤ (G : Int)) = false := decide_eq_false (by omega)
      have dh2n : decide (4611686018427387904 ≤ G) = false := decide_eq_false (by omega)
      by_cases h3 : X = 0
      · have dh3i : ((X : Int) == 0) = true := by simp; omega
        have dh3n : (X == 0) = true := by simp; omega
        have hf : SB.may ⟨G, B, D, X⟩ = false := by rw [← Bool.not_eq_true, hm]; omega
        have HF := mkHid hf
        clear hf hm no HS h3
        go_enter Try.func14, Try.ntmps14
        go_wp2_with fail
        go_ret
        exact NO.out _ HF.out _ g0
      · have dh3i : ((X : Int) == 0) = false := by simp; omega
        have dh3n : (X == 0) = false := by simp; omega
        by_cases h4 : 4611686018427387904 ≤ X
        · have dh4i : decide ((4611686018427387904 : Int) ≤ (X : Int)) = true := decide_eq_true (by omega)
          have dh4n : decide (4611686018427387904 ≤ X) = true := decide_eq_true (by omega)
          have hf : SB.may ⟨G, B, D, X⟩ = false := by rw [← Bool.not_eq_true, hm]; omega
          have HF := mkHid hf
          clear hf hm no HS h4
          go_enter Try.func14, Try.ntmps14
          go_wp2_with fail
          go_ret
          exact NO.out _ HF.out _ g0
        · have dh4i : decide ((4611686018427387904 : Int) ≤ (X : Int)) = false := decide_eq_false (by omega)
          have dh4n : decide (4611686018427387904 ≤ X) = false := decide_eq_false (by omega)
          by_cases h5 : 16 ≤ B
          · have dh5i : decide ((16 : Int) ≤ B) = true := decide_eq_true (by omega)
            by_cases h6 : B ≤ 1024
            · have dh6i : decide (B ≤ (1024 : Int)) = true := decide_eq_true (by omega)
              by_cases h7 : (D : Int) < B
              · have dh7i : decide ((D : Int) < B) = true := decide_eq_true (by omega)
                have hf : SB.may ⟨G, B, D, X⟩ = true := by rw [hm]; omega
                have HF := mkHid hf
                clear hf hm no HS
                go_enter Try.func14, Try.ntmps14
                go_wp2_with fail
                go_ret
                exact NO.out _ HF.out _ g0
              · have dh7i : decide ((D : Int) < B) = false := decide_eq_false (by omega)
                have hf : SB.may ⟨G, B, D, X⟩ = false := by rw [← Bool.not_eq_true, hm]; omega
                have HF := mkHid hf
                clear hf hm no HS h7
                go_enter Try.func14, Try.ntmps14
                go_wp2_with fail
                go_ret
                exact NO.out _ HF.out _ g0
            · have dh6i : decide (B ≤ (1024 : Int)) = false := decide_eq_false (by omega)
              have hf : SB.may ⟨G, B, D, X⟩ = false := by rw [← Bool.not_eq_true, hm]; omega
              have HF := mkHid hf
              clear hf hm no HS h6
              go_enter Try.func14, Try.ntmps14
              go_wp2_with fail
              go_ret
              exact NO.out _ HF.out _ g0
          · have dh5i : decide ((16 : Int) ≤ B) = false := decide_eq_false (by omega)
            have hf : SB.may ⟨G, B, D, X⟩ = false := by rw [← Bool.not_eq_true, hm]; omega
            have HF := mkHid hf
            clear hf hm no HS h5
            go_enter Try.func14, Try.ntmps14
            go_wp2_with fail
            go_ret
            exact NO.out _ HF.out _ g0
end Go.Proofs.Ythbnakahcchbnaa
