/- The program's told. -/
import Derived.Test.YthbnakahcchbnaaYe
namespace Go.Proofs.Ythbnakahcchbnaa
open Go.RowKit
set_option linter.unusedVariables false
set_option linter.unusedSimpArgs false
attribute [local go_sem ↓] Go.wp_at_zero Go.wp_at_succ

theorem num_drop0 (l : List UInt8) (k : Nat) : num (l.drop k) 0 = num l k := by simp [num]
/-- The superblock that the program takes: Blocks is wrapped. -/
def readI (l : List UInt8) : SB := ⟨num l 4, IntKind.i64.wrap (num l 12 : Int), num l 20, num l 28⟩
theorem readI_fits (l : List UInt8) : (readI l).Fits := by
  have h := IntKind.wrap_i64 (num l 12 : Int)
  refine ⟨num_lt l 4, num_lt l 20, num_lt l 28, ?_, ?_⟩
  · show _ ≤ IntKind.i64.wrap (num l 12 : Int)
    rw [h]; omega
  · show IntKind.i64.wrap (num l 12 : Int) < _
    rw [h]; omega
theorem wrap64_eq (x : Int) : wrap64 x = IntKind.i64.wrap x := by rw [IntKind.wrap_i64]; simp only [wrap64]
theorem may_blocks (G D X q : Nat) (hq : q < 2 ^ 64) (W : Int) (hW : W = ((q : Int) + 9223372036854775808) % 18446744073709551616 - 9223372036854775808) : SB.may ⟨G, W, D, X⟩ = SB.may ⟨G, q, D, X⟩ ∧ (SB.may ⟨G, q, D, X⟩ = true → W = q) := by
  by_cases hb : q < 9223372036854775808
  · have e : W = q := by omega
    rw [e]
    exact ⟨rfl, fun _ => rfl⟩
  · have f1 : SB.may ⟨G, W, D, X⟩ = false := by
      rw [← Bool.not_eq_true, SB.may_iff]
      dsimp only
      omega
    have f2 : SB.may ⟨G, q, D, X⟩ = false := by
      rw [← Bool.not_eq_true, SB.may_iff]
      dsimp only
      omega
    rw [f1, f2]
    exact ⟨rfl, fun h => by cases h⟩
theorem readI_may (l : List UInt8) : (readI l).may = (readS l).may ∧ ((readS l).may = true → readI l = readS l) := by
  have hl := num_lt l 12
  have h := may_blocks (num l 4) (num l 20) (num l 28) (num l 12) hl _ (IntKind.wrap_i64 (num l 12 : Int))
  refine ⟨h.1, fun hm => ?_⟩
  have := h.2 hm
  unfold readI readS
  rw [this]
theorem Rd.keep {w w' : World} {rb : Nat} {ao : Option Addr} {n c : Nat} {l : List UInt8} (h : Rd w rb ao n c l) (g : Chg [] w w') : Rd w' rb ao n c l :=
  ⟨g.cellv h.c0 (by simp), by rw [g.frozen (block_lt_of_cell h.c0) (by simp)]; exact h.z0, h.rd.keep g, h.len, h.le, h.max, h.off⟩
/-- A superblock's box in new memory, where S may have turned. -/
structure Res4S (S : List Nat) (w0 w : World) (b : Nat) : Prop where
  k0 : (w.cell? ⟨b, 0, none⟩).isSome = true
  k1 : (w.cell? ⟨b, 1, none⟩).isSome = true
  k2 : (w.cell? ⟨b, 2, none⟩).isSome = true
  k3 : (w.cell? ⟨b, 3, none⟩).isSome = true
  z0 : w.frozen? ⟨b, 0, none⟩ = false
  z1 : w.frozen? ⟨b, 1, none⟩ = false
  z2 : w.frozen? ⟨b, 2, none⟩ = false
  z3 : w.frozen? ⟨b, 3, none⟩ = false
  g : Chg S w0 w
  nb : w0.heap.size ≤ b
  off : b ∉ S
theorem Res4S.keep {S : List Nat} {w0 w w' : World} {b : Nat} (h : Res4S S w0 w b) (g : Chg S w w') : Res4S S w0 w' b :=
  ⟨isSome_chg h.k0 g h.off, isSome_chg h.k1 g h.off, isSome_chg h.k2 g h.off, isSome_chg h.k3 g h.off, frozen_chg h.k0 h.z0 g h.off, frozen_chg h.k1 h.z1 g h.off, frozen_chg h.k2 h.z2 g h.off, frozen_chg h.k3 h.z3 g h.off, h.g.trans g (fun _ h _ => h) (fun _ h _ => h), h.nb, h.off⟩
theorem Res4S.of {w0 w : World} {b : Nat} (h : Res4 w0 w b) (S : List Nat) (hb : b ∉ S) : Res4S S w0 w b :=
  ⟨h.k0, h.k1, h.k2, h.k3, h.z0, h.z1, h.z2, h.z3, h.g.trans (Chg.refl [] w) (fun _ h _ => by simp at h) (fun _ h _ => by simp at h), h.nb, hb⟩
theorem Res4S.done {S : List Nat} {w0 w : World} {b : Nat} (h : Res4S S w0 w b) (x y z u : Value) : Chg S w0 ((((w.setCell ⟨b, 0, none⟩ x).setCell ⟨b, 1, none⟩ y).setCell ⟨b, 2, none⟩ z).setCell ⟨b, 3, none⟩ u) :=
  h.g.trans (four_chg w b x y z u) (fun _ h _ => h) (fun q hq hlt => by simp at hq; have := h.nb; omega)
set_option maxRecDepth 20000 in
set_option maxHeartbeats 2000000 in
theorem told_any (rb : Nat) (ao : Option Addr) (c : Nat) (l : List UInt8) (w : World) (h : Rd w rb ao 60 c (l.drop 4)) :
    Calls Try.prog 23 #[.pointer (some ⟨rb, 0, none⟩), .func (.func 24) #[] #[]] w fun e w' => e = .returned (readI l).v ∧ Chg [rb] w w' := by
  have g0 := Chg.alloc [] w (.cells #[.int .u64 0, .int .i64 0, .int .u64 0, .int .u64 0] 24)
  have hlt := block_lt_of_cell h.c0
  have hres := Res4S.of (res4_made w w (Chg.refl [] w) (.int .u64 0) (.int .i64 0) (.int .u64 0) (.int .u64 0)) [rb] (by simp only [List.mem_singleton]; exact fun e => by rw [← e] at hlt; exact absurd hlt (Nat.lt_irrefl _))
  have hR := h.keep g0
  go_enter Try.func23, Try.ntmps23
  go_wp2_with fail
  clear h hlt g0
  generalize w.alloc _ = w1 at *
  generalize hnb : w.heap.size = nb at *
  clear hnb
  refine (number_any rb _ _ _ _ w1 hR (by decide)).mono ?_
  rintro e w2 ⟨rfl, r2, g2⟩
  replace hres := hres.keep g2
  clear hR g2
  go_wp2_with fail
  refine (number_any rb _ _ _ _ w2 r2 (by decide)).mono ?_
  rintro e w3 ⟨rfl, r3, g3⟩
  replace hres := hres.keep g3
  clear r2 g3
  go_wp2_with fail
  refine (number_any rb _ _ _ _ w3 r3 (by decide)).mono ?_
  rintro e w4 ⟨rfl, r4, g4⟩
  replace hres := hres.keep g4
  clear r3 g4
  go_wp2_with fail
  refine (number_any rb _ _ _ _ w4 r4 (by decide)).mono ?_
  rintro e w5 ⟨rfl, r5, g5⟩
  replace hres := hres.keep g5
  clear r4 g5 r5
  simp only [List.drop_drop, num_drop0, Nat.reduceAdd]
  generalize hW : IntKind.i64.wrap (num l 12 : Int) = W at *
  have hI : readI l = ⟨num l 4, W, num l 20, num l 28⟩ := by unfold readI; rw [hW]
  have HI := mkHid hI
  clear hI
  obtain ⟨v0, k0⟩ := Option.isSome_iff_exists.1 hres.k0
  obtain ⟨v1, k1⟩ := Option.isSome_iff_exists.1 hres.k1
  obtain ⟨v2, k2⟩ := Option.isSome_iff_exists.1 hres.k2
  obtain ⟨v3, k3⟩ := Option.isSome_iff_exists.1 hres.k3
  have z0 := hres.z0
  have z1 := hres.z1
  have z2 := hres.z2
  have z3 := hres.z3
  have HRES := mkHid hres
  clear hres
  go_wp2_with fail
  refine bodyPost_ret (v := .agg #[.int .u64 (num l 4 : Int), .int .i64 W, .int .u64 (num l 20 : Int), .int .u64 (num l 28 : Int)]) (by simp [results, Try.results23, go_sem, k0, k1, k2, k3]; try rw [wrap64_eq]; try exact hW) rfl ⟨by rw [HI.out]; rfl, HRES.out.done _ _ _ _⟩
end Go.Proofs.Ythbnakahcchbnaa
