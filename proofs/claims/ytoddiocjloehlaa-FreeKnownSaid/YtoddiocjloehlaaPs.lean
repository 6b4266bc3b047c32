/- The document's own space (the reference): Claim, Give. -/
import Derived.Test.YtoddiocjloehlaaPr
namespace Go.Proofs.Ytoddiocjloehlaa
open Go.RowKit
set_option linter.unusedVariables false
set_option linter.unusedSimpArgs false
attribute [local go_sem ↓] Go.wp_at_zero Go.wp_at_succ

set_option maxRecDepth 20000 in
theorem rclaim_any (z : Int) (B rb : Nat) (G : List Nat) (Is : List Bool) (w : World) (h : RfAt w B rb G Is) :
    Calls Try.prog 13 #[.pointer (some ⟨rb, 0, none⟩), .int .i64 z] w fun e w' => e = .returned (.int .i64 (claimN Is z).1) ∧ RStep w w' B rb G (claimN Is z).2 := by
  have h0 := h
  have nn := h.nn
  obtain ⟨ia, ci, c0, f0, hB, hR, hx, rfl⟩ := h.ex
  by_cases h1 : z < 0
  · have hE : claimN Is z = (1, Is) := by unfold claimN; rw [if_pos (Or.inl h1)]
    have HE := mkHid hE
    have d1 : decide (z < 0) = true := decide_eq_true h1
    clear hE hR
    go_enter Try.func13, Try.ntmps13
    go_wp2_with fail
    go_ret
    rw [HE.out]
    exact ⟨rfl, h0, Chg.refl _ _⟩
  · by_cases h2 : (Is.length : Int) ≤ z
    · have hE : claimN Is z = (1, Is) := by unfold claimN; rw [if_pos (Or.inr h2)]
      have HE := mkHid hE
      have d1 : decide (z < 0) = false := decide_eq_false h1
      have d2 : decide (z ≥ (Is.length : Int)) = true := decide_eq_true h2
      have d3 : decide ((Is.length : Int) ≤ z) = true := decide_eq_true h2
      clear hE hR
      go_enter Try.func13, Try.ntmps13
      go_wp2_with fail
      go_ret
      rw [HE.out]
      exact ⟨rfl, h0, Chg.refl _ _⟩
    · obtain ⟨x, rfl⟩ : ∃ x : Nat, z = (x : Int) := ⟨z.toNat, by omega⟩
      have hlt : x < Is.length := by omega
      have d1 : decide ((x : Int) < 0) = false := decide_eq_false h1
      have d2 : decide ((x : Int) ≥ (Is.length : Int)) = false := decide_eq_false h2
      have d3 : decide ((Is.length : Int) ≤ (x : Int)) = false := decide_eq_false h2
      have d4 : decide (Is.length ≤ x) = false := decide_eq_false (by omega)
      have d5 : decide (x < Is.length) = true := decide_eq_true hlt
      obtain ⟨b, o, rfl, _, hs, hv⟩ := hR.at_ (by have := hR.le; omega)
      obtain ⟨cs1, cs2⟩ := hs x (by have := hR.le; omega)
      cases hb : Is[x] with
      | true =>
        have hI : Is[x]? = some true := by rw [List.getElem?_eq_getElem hlt, hb]
        have ck := hv x _ (bvs_get hI)
        have hE : claimN Is (x : Int) = (0, Is.set x false) := by unfold claimN; rw [if_neg (by omega), Int.toNat_natCast, if_pos hI]
        have hset := RfAt.set c0 f0 hB hR hx nn x hlt false
        have HS := mkHid hset
        have HE := mkHid hE
        clear hset hE hs hv hb hI cs1 hR
        go_enter Try.func13, Try.ntmps13
        go_wp2_with fail
        go_ret
        rw [HE.out]
        exact ⟨rfl, HS.out⟩
      | false =>
        have hI : Is[x]? = some false := by rw [List.getElem?_eq_getElem hlt, hb]
        have ck := hv x _ (bvs_get hI)
        have hE : claimN Is (x : Int) = (6, Is) := by unfold claimN; rw [if_neg (by omega), Int.toNat_natCast, if_neg (by rw [hI]; simp)]
        have HE := mkHid hE
        clear hE hs hv hb hI cs1 hR
        go_enter Try.func13, Try.ntmps13
        go_wp2_with fail
        go_ret
        rw [HE.out]
        exact ⟨rfl, h0, Chg.refl _ _⟩
set_option maxRecDepth 20000 in
theorem rgive_any (z : Int) (B rb : Nat) (G : List Nat) (Is : List Bool) (w : World) (h : RfAt w B rb G Is) :
    Calls Try.prog 15 #[.pointer (some ⟨rb, 0, none⟩), .int .i64 z] w fun e w' => e = .returned (.int .i64 (giveN Is z).1) ∧ RStep w w' B rb G (giveN Is z).2 := by
  have h0 := h
  have nn := h.nn
  obtain ⟨ia, ci, c0, f0, hB, hR, hx, rfl⟩ := h.ex
  by_cases h1 : z < 0
  · have hE : giveN Is z = (1, Is) := by unfold giveN; rw [if_pos (Or.inl h1)]
    have HE := mkHid hE
    have d1 : decide (z < 0) = true := decide_eq_true h1
    clear hE hR
    go_enter Try.func15, Try.ntmps15
    go_wp2_with fail
    go_ret
    rw [HE.out]
    exact ⟨rfl, h0, Chg.refl _ _⟩
  · by_cases h2 : (Is.length : Int) ≤ z
    · have hE : giveN Is z = (1, Is) := by unfold giveN; rw [if_pos (Or.inr h2)]
      have HE := mkHid hE
      have d1 : decide (z < 0) = false := decide_eq_false h1
      have d2 : decide (z ≥ (Is.length : Int)) = true := decide_eq_true h2
      have d3 : decide ((Is.length : Int) ≤ z) = true := decide_eq_true h2
      clear hE hR
      go_enter Try.func15, Try.ntmps15
      go_wp2_with fail
      go_ret
      rw [HE.out]
      exact ⟨rfl, h0, Chg.refl _ _⟩
    · obtain ⟨x, rfl⟩ : ∃ x : Nat, z = (x : Int) := ⟨z.toNat, by omega⟩
      have hlt : x < Is.length := by omega
      have d1 : decide ((x : Int) < 0) = false := decide_eq_false h1
      have d2 : decide ((x : Int) ≥ (Is.length : Int)) = false := decide_eq_false h2
      have d3 : decide ((Is.length : Int) ≤ (x : Int)) = false := decide_eq_false h2
      have d4 : decide (Is.length ≤ x) = false := decide_eq_false (by omega)
      have d5 : decide (x < Is.length) = true := decide_eq_true hlt
      obtain ⟨b, o, rfl, _, hs, hv⟩ := hR.at_ (by have := hR.le; omega)
      obtain ⟨cs1, cs2⟩ := hs x (by have := hR.le; omega)
      cases hb : Is[x] with
      | true =>
        have hI : Is[x]? = some true := by rw [List.getElem?_eq_getElem hlt, hb]
        have ck := hv x _ (bvs_get hI)
        have hE : giveN Is (x : Int) = (7, Is) := by unfold giveN; rw [if_neg (by omega), Int.toNat_natCast, if_pos hI]
        have HE := mkHid hE
        clear hE hs hv hb hI cs1 hR
        go_enter Try.func15, Try.ntmps15
        go_wp2_with fail
        go_ret
        rw [HE.out]
        exact ⟨rfl, h0, Chg.refl _ _⟩
      | false =>
        have hI : Is[x]? = some false := by rw [List.getElem?_eq_getElem hlt, hb]
        have ck := hv x _ (bvs_get hI)
        have hE : giveN Is (x : Int) = (0, Is.set x true) := by unfold giveN; rw [if_neg (by omega), Int.toNat_natCast, if_neg (by rw [hI]; simp)]
        have hset := RfAt.set c0 f0 hB hR hx nn x hlt true
        have HS := mkHid hset
        have HE := mkHid hE
        clear hset hE hs hv hb hI cs1 hR
        go_enter Try.func15, Try.ntmps15
        go_wp2_with fail
        go_ret
        rw [HE.out]
        exact ⟨rfl, HS.out⟩
end Go.Proofs.Ytoddiocjloehlaa
