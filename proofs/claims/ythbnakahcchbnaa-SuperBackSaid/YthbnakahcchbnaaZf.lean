/- The reference: Choose. -/
import Derived.Test.YthbnakahcchbnaaZe
namespace Go.Proofs.Ythbnakahcchbnaa
open Go.RowKit
set_option linter.unusedVariables false
set_option linter.unusedSimpArgs false
attribute [local go_sem ↓] Go.wp_at_zero Go.wp_at_succ

/-- What a Choose answers. -/
def SChoose (w : World) (l k : List UInt8) (e : Ending) (w' : World) : Prop :=
  e = .returned (.tuple #[(chooseS l k).1.v, .int .i64 (chooseS l k).2.1, .int .i64 (chooseS l k).2.2]) ∧ Chg [] w w'
theorem schoose_of {w w' : World} {l k : List UInt8} {s : SB} {i e : Nat} (h : chooseS l k = (s, i, e)) (g : Chg [] w w') : SChoose w l k (.returned (.tuple #[s.v, .int .i64 (i : Int), .int .i64 (e : Int)])) w' := by
  unfold SChoose
  rw [h]
  exact ⟨rfl, g⟩
set_option maxRecDepth 20000 in
set_option maxHeartbeats 4000000 in
theorem rchoose_any (ao : Option Addr) (n c : Nat) (l : List UInt8) (bo : Option Addr) (m d : Nat) (k : List UInt8) (w : World) (h : Reads w ao (bts l)) (hl : l.length = n) (h2 : Reads w bo (bts k)) (hk : k.length = m) :
    Calls Try.prog 18 #[.slice ao n c, .slice bo m d] w (SChoose w l k) := by
  have g0 := Chg.alloc [] w (.cells #[.int .u64 0, .int .i64 0, .int .u64 0, .int .u64 0] 24)
  have hres := res4_made w w (Chg.refl [] w) (.int .u64 0) (.int .i64 0) (.int .u64 0) (.int .u64 0)
  go_enter Try.func18, Try.ntmps18
  go_wp2_with fail
  generalize w.alloc _ = w1 at *
  generalize w.heap.size = nb at hres ⊢
  refine (rtake_any ao n c l w1 (h.keep g0) hl).mono ?_
  rintro e w2 ⟨he, g2⟩
  subst he
  obtain ⟨⟨E1, ⟨G1, B1, D1, X1⟩⟩, hx⟩ : ∃ x, takeS l = x := ⟨_, rfl⟩
  rw [hx]
  unfold SB.v
  dsimp only
  obtain ⟨c0, c1, c2, c3⟩ := sup_laid w2 ⟨G1, B1, D1, X1⟩
  have g3 := Chg.alloc [] w2 (supObj ⟨G1, B1, D1, X1⟩)
  unfold supObj at *
  dsimp only at c0 c1 c2 c3 g3
  have hr2 := (h2.keep g0).keep (g2.then g3)
  replace hres := hres.keep (g2.then g3)
  clear h h2 g0
  go_wp2_with fail
  generalize w2.alloc _ = w3 at *
  generalize w2.heap.size = xb at *
  refine (rtake_any bo m d k w3 hr2 hk).mono ?_
  rintro e w4 ⟨he, g4⟩
  subst he
  obtain ⟨⟨E2, ⟨G2, B2, D2, X2⟩⟩, hy⟩ : ∃ x, takeS k = x := ⟨_, rfl⟩
  rw [hy]
  unfold SB.v
  dsimp only
  obtain ⟨d0, d1, d2, d3⟩ := sup_laid w4 ⟨G2, B2, D2, X2⟩
  have g5 := Chg.alloc [] w4 (supObj ⟨G2, B2, D2, X2⟩)
  unfold supObj at *
  dsimp only at d0 d1 d2 d3 g5
  replace hres := hres.keep (g4.then g5)
  replace c0 := (g4.then g5).cellv c0 (by simp)
  replace c1 := (g4.then g5).cellv c1 (by simp)
  replace c2 := (g4.then g5).cellv c2 (by simp)
  replace c3 := (g4.then g5).cellv c3 (by simp)
  obtain ⟨v0, k0⟩ := Option.isSome_iff_exists.1 hres.k0
  obtain ⟨v1, k1⟩ := Option.isSome_iff_exists.1 hres.k1
  obtain ⟨v2, k2⟩ := Option.isSome_iff_exists.1 hres.k2
  obtain ⟨v3, k3⟩ := Option.isSome_iff_exists.1 hres.k3
  have z0 := hres.z0
  have z1 := hres.z1
  have z2 := hres.z2
  have z3 := hres.z3
  have HRES := mkHid hres
  clear hres
  clear g2 g3 hr2 g4
  by_cases a1 : E1 = 0
  · have q1 : ((E1 : Int) == 0) = true := by simp; omega
    by_cases p1 : G1 % 2 = 0
    · have r1 : ((G1 : Int) % 2 == 0) = true := by simp; omega
      by_cases a2 : E2 = 0
      · have q2 : ((E2 : Int) == 0) = true := by simp; omega
        by_cases p2 : G2 % 2 = 1
        · have r2 : ((G2 : Int) % 2 == 1) = true := by simp; omega
          by_cases lt : G2 < G1
          · have l1 : decide ((G2 : Int) < (G1 : Int)) = true := decide_eq_true (by omega)
            have l2 : decide (G2 < G1) = true := decide_eq_true lt
            have hc : chooseS l k = (⟨G1, B1, D1, X1⟩, 0, 0) := by simp [chooseS, inSlot, hx, hy, a1, p1, a2, p2, lt]
            have HC := mkHid hc
            clear hc hx hy a1 p1 a2 p2 lt
            go_wp2_with fail
            exact bodyPost_ret (v := .tuple #[.agg #[.int .u64 (G1 : Int), .int .i64 B1, .int .u64 (D1 : Int), .int .u64 (X1 : Int)], .int .i64 0, .int .i64 0]) (by simp [results, Try.results18, go_sem, k0, k1, k2, k3]) rfl (schoose_of HC.out (HRES.out.done _ _ _ _))
          · have l1 : decide ((G2 : Int) < (G1 : Int)) = false := decide_eq_false (by omega)
            have l2 : decide (G2 < G1) = false := decide_eq_false lt
            have hc : chooseS l k = (⟨G2, B2, D2, X2⟩, 1, 0) := by simp [chooseS, inSlot, hx, hy, a1, p1, a2, p2, lt]
            have HC := mkHid hc
            clear hc hx hy a1 p1 a2 p2 lt
            go_wp2_with fail
            exact bodyPost_ret (v := .tuple #[.agg #[.int .u64 (G2 : Int), .int .i64 B2, .int .u64 (D2 : Int), .int .u64 (X2 : Int)], .int .i64 1, .int .i64 0]) (by simp [results, Try.results18, go_sem, k0, k1, k2, k3]) rfl (schoose_of HC.out (HRES.out.done _ _ _ _))
        · have r2 : ((G2 : Int) % 2 == 1) = false := by simp; omega
          have hc : chooseS l k = (⟨G1, B1, D1, X1⟩, 0, 0) := by simp [chooseS, inSlot, hx, hy, a1, p1, a2, p2]
          have HC := mkHid hc
          clear hc hx hy a1 p1 a2 p2
          go_wp2_with fail
          exact bodyPost_ret (v := .tuple #[.agg #[.int .u64 (G1 : Int), .int .i64 B1, .int .u64 (D1 : Int), .int .u64 (X1 : Int)], .int .i64 0, .int .i64 0]) (by simp [results, Try.results18, go_sem, k0, k1, k2, k3]) rfl (schoose_of HC.out (HRES.out.done _ _ _ _))
      · have q2 : ((E2 : Int) == 0) = false := by simp; omega
        have hc : chooseS l k = (⟨G1, B1, D1, X1⟩, 0, 0) := by simp [chooseS, inSlot, hx, hy, a1, p1, a2]
        have HC := mkHid hc
        clear hc hx hy a1 p1 a2
        go_wp2_with fail
        exact bodyPost_ret (v := .tuple #[.agg #[.int .u64 (G1 : Int), .int .i64 B1, .int .u64 (D1 : Int), .int .u64 (X1 : Int)], .int .i64 0, .int .i64 0]) (by simp [results, Try.results18, go_sem, k0, k1, k2, k3]) rfl (schoose_of HC.out (HRES.out.done _ _ _ _))
    · have r1 : ((G1 : Int) % 2 == 0) = false := by simp; omega
      by_cases a2 : E2 = 0
      · have q2 : ((E2 : Int) == 0) = true := by simp; omega
        by_cases p2 : G2 % 2 = 1
        · have r2 : ((G2 : Int) % 2 == 1) = true := by simp; omega
          have hc : chooseS l k = (⟨G2, B2, D2, X2⟩, 1, 0) := by simp [chooseS, inSlot, hx, hy, a1, p1, a2, p2]
          have HC := mkHid hc
          clear hc hx hy a1 p1 a2 p2
          go_wp2_with fail
          exact bodyPost_ret (v := .tuple #[.agg #[.int .u64 (G2 : Int), .int .i64 B2, .int .u64 (D2 : Int), .int .u64 (X2 : Int)], .int .i64 1, .int .i64 0]) (by simp [results, Try.results18, go_sem, k0, k1, k2, k3]) rfl (schoose_of HC.out (HRES.out.done _ _ _ _))
        · have r2 : ((G2 : Int) % 2 == 1) = false := by simp; omega
          have hc : chooseS l k = (SB.none, 0, 23) := by simp [chooseS, inSlot, hx, hy, a1, p1, a2, p2]
          have HC := mkHid hc
          clear hc hx hy a1 p1 a2 p2
          go_wp2_with fail
          exact bodyPost_ret (v := .tuple #[.agg #[.int .u64 0, .int .i64 0, .int .u64 0, .int .u64 0], .int .i64 0, .int .i64 23]) (by simp [results, Try.results18, go_sem, k0, k1, k2, k3]) rfl (schoose_of HC.out (HRES.out.done _ _ _ _))
      · have q2 : ((E2 : Int) == 0) = false := by simp; omega
        have hc : chooseS l k = (SB.none, 0, 23) := by simp [chooseS, inSlot, hx, hy, a1, p1, a2]
        have HC := mkHid hc
        clear hc hx hy a1 p1 a2
        go_wp2_with fail
        exact bodyPost_ret (v := .tuple #[.agg #[.int .u64 0, .int .i64 0, .int .u64 0, .int .u64 0], .int .i64 0, .int .i64 23]) (by simp [results, Try.results18, go_sem, k0, k1, k2, k3]) rfl (schoose_of HC.out (HRES.out.done _ _ _ _))
  · have q1 : ((E1 : Int) == 0) = false := by simp; omega
    by_cases a2 : E2 = 0
    · have q2 : ((E2 : Int) == 0) = true := by simp; omega
      by_cases p2 : G2 % 2 = 1
      · have r2 : ((G2 : Int) % 2 == 1) = true := by simp; omega
        have hc : chooseS l k = (⟨G2, B2, D2, X2⟩, 1, 0) := by simp [chooseS, inSlot, hx, hy, a1, a2, p2]
        have HC := mkHid hc
        clear hc hx hy a1 a2 p2
        go_wp2_with fail
        exact bodyPost_ret (v := .tuple #[.agg #[.int .u64 (G2 : Int), .int .i64 B2, .int .u64 (D2 : Int), .int .u64 (X2 : Int)], .int .i64 1, .int .i64 0]) (by simp [results, Try.results18, go_sem, k0, k1, k2, k3]) rfl (schoose_of HC.out (HRES.out.done _ _ _ _))
      · have r2 : ((G2 : Int) % 2 == 1) = false := by simp; omega
        have hc : chooseS l k = (SB.none, 0, 23) := by simp [chooseS, inSlot, hx, hy, a1, a2, p2]
        have HC := mkHid hc
        clear hc hx hy a1 a2 p2
        go_wp2_with fail
        exact bodyPost_ret (v := .tuple #[.agg #[.int .u64 0, .int .i64 0, .int .u64 0, .int .u64 0], .int .i64 0, .int .i64 23]) (by simp [results, Try.results18, go_sem, k0, k1, k2, k3]) rfl (schoose_of HC.out (HRES.out.done _ _ _ _))
    · have q2 : ((E2 : Int) == 0) = false := by simp; omega
      have hc : chooseS l k = (SB.none, 0, 23) := by simp [chooseS, inSlot, hx, hy, a1, a2]
      have HC := mkHid hc
      clear hc hx hy a1 a2
      go_wp2_with fail
      exact bodyPost_ret (v := .tuple #[.agg #[.int .u64 0, .int .i64 0, .int .u64 0, .int .u64 0], .int .i64 0, .int .i64 23]) (by simp [results, Try.results18, go_sem, k0, k1, k2, k3]) rfl (schoose_of HC.out (HRES.out.done _ _ _ _))
end Go.Proofs.Ythbnakahcchbnaa
