/- long; spoil: what it may turn. -/
import Derived.Test.YtlaeonemlodhmaaIh
namespace Go.Proofs.Ytlaeonemlodhmaa
open Go.RowKit
set_option linter.unusedVariables false
set_option linter.unusedSimpArgs false
attribute [local go_sem ↓] Go.wp_at_zero Go.wp_at_succ

set_option maxRecDepth 20000 in
theorem long_any (lf : Bool) (ka : Option Addr) (kl kc : Nat) (va : Option Addr) (vl vc : Nat) (w : World) : Calls Try.prog 14 #[.agg #[.bool lf, .slice ka kl kc, .slice va vl vc]] w fun e w' => e = .returned (.bool (decide (3000 < kl) || decide (3000 < vl))) ∧ Chg [] w w' := by
  by_cases h1 : 3000 < kl
  · have d1 : decide ((kl : Int) > 3000) = true := decide_eq_true (by omega)
    have d2 : decide (3000 < kl) = true := decide_eq_true h1
    have d3 : decide ((3000 : Int) < (kl : Int)) = true := decide_eq_true (by omega)
    rw [d2]
    go_enter Try.func14, Try.ntmps14
    go_wp2_with fail
    go_ret
    exact ⟨rfl, Chg.alloc [] _ _⟩
  · have d1 : decide ((kl : Int) > 3000) = false := decide_eq_false (by omega)
    have d2 : decide (3000 < kl) = false := decide_eq_false h1
    have d3 : decide ((3000 : Int) < (kl : Int)) = false := decide_eq_false (by omega)
    rw [d2, Bool.false_or]
    by_cases h2 : 3000 < vl
    · have d4 : decide ((vl : Int) > 3000) = true := decide_eq_true (by omega)
      have d5 : decide (3000 < vl) = true := decide_eq_true h2
      have d6 : decide ((3000 : Int) < (vl : Int)) = true := decide_eq_true (by omega)
      rw [d5]
      go_enter Try.func14, Try.ntmps14
      go_wp2_with fail
      go_ret
      exact ⟨rfl, Chg.alloc [] _ _⟩
    · have d4 : decide ((vl : Int) > 3000) = false := decide_eq_false (by omega)
      have d5 : decide (3000 < vl) = false := decide_eq_false h2
      have d6 : decide ((3000 : Int) < (vl : Int)) = false := decide_eq_false (by omega)
      rw [d5]
      go_enter Try.func14, Try.ntmps14
      go_wp2_with fail
      go_ret
      exact ⟨rfl, Chg.alloc [] _ _⟩
/-- Numbers may have turned to other numbers; all else is as it was. -/
def Turn64 (w w' : World) : Prop := ∀ p v, w.cell? p = some v → (w'.cell? p = some v ∨ ∃ z z', v = .int .u64 z ∧ w'.cell? p = some (.int .u64 z')) ∧ w'.frozen? p = w.frozen? p
theorem Turn64.of_chg {w w' : World} (g : Chg [] w w') : Turn64 w w' := fun p v h => ⟨Or.inl (g.cellv h (by simp)), g.frozen (block_lt_of_cell h) (by simp)⟩
theorem Turn64.trans {a b c : World} (h : Turn64 a b) (g : Turn64 b c) : Turn64 a c := fun p v hv => by
  obtain ⟨h1, h2⟩ := h p v hv
  rcases h1 with h1 | ⟨z, z', rfl, h1⟩
  · obtain ⟨g1, g2⟩ := g p v h1
    exact ⟨g1, g2.trans h2⟩
  · obtain ⟨g1, g2⟩ := g p _ h1
    rcases g1 with g1 | ⟨y, y', e, g1⟩
    · exact ⟨Or.inr ⟨z, z', rfl, g1⟩, g2.trans h2⟩
    · exact ⟨Or.inr ⟨z, y', rfl, g1⟩, g2.trans h2⟩
theorem Turn64.set (w : World) (a : Addr) (z z' : Int) (h : w.cell? a = some (.int .u64 z)) : Turn64 w (w.setCell a (.int .u64 z')) := fun p v hv => by
  refine ⟨?_, World.frozen?_setCell ..⟩
  by_cases hp : p = a
  · subst hp
    rw [h] at hv
    cases hv
    exact Or.inr ⟨z, z', rfl, World.cell?_setCell_same _ _ _ h⟩
  · rw [World.cell?_setCell_other _ _ _ _ (fun e => hp e.symm)]
    exact Or.inl hv
theorem Turn64.slice {w w' : World} (h : Turn64 w w') {p : Addr} {a : Option Addr} {n c : Nat} (hv : w.cell? p = some (.slice a n c)) : w'.cell? p = some (.slice a n c) := by
  rcases (h p _ hv).1 with h1 | ⟨z, z', e, _⟩
  · exact h1
  · cases e
theorem Turn64.bool {w w' : World} (h : Turn64 w w') {p : Addr} {b : Bool} (hv : w.cell? p = some (.bool b)) : w'.cell? p = some (.bool b) := by
  rcases (h p _ hv).1 with h1 | ⟨z, z', e, _⟩
  · exact h1
  · cases e
/-- A row of numbers that may be written. -/
def Wr (w : World) (a : Option Addr) (n : Nat) : Prop := 0 < n → ∃ b o, a = some ⟨b, o, none⟩ ∧ ∀ j, j < n → (∃ z : Int, w.cell? ⟨b, o + j, none⟩ = some (.int .u64 z)) ∧ w.frozen? ⟨b, o + j, none⟩ = false
theorem Wr.turn {w w' : World} {a : Option Addr} {n : Nat} (h : Wr w a n) (t : Turn64 w w') : Wr w' a n := fun hn => by
  obtain ⟨b, o, e, hc⟩ := h hn
  refine ⟨b, o, e, fun j hj => ?_⟩
  obtain ⟨⟨z, hz⟩, hf⟩ := hc j hj
  obtain ⟨t1, t2⟩ := t _ _ hz
  rcases t1 with t1 | ⟨y, y', _, t1⟩
  · exact ⟨⟨z, t1⟩, t2.trans hf⟩
  · exact ⟨⟨y', t1⟩, t2.trans hf⟩
/-- The block of a row that has anything. -/
def wb (a : Option Addr) (n : Nat) : List Nat := if n = 0 then [] else blk a
theorem wb_some {b o n : Nat} (h : 0 < n) : wb (some ⟨b, o, none⟩) n = [b] := by unfold wb; rw [if_neg (by omega)]; rfl
set_option maxRecDepth 20000 in
set_option maxHeartbeats 1000000 in
theorem spoil_any (lf : Bool) (ka : Option Addr) (kl kc : Nat) (va : Option Addr) (vl vc : Nat) (w : World) (hK : Wr w ka kl) (hV : Wr w va vl) (hkl : kl ≤ 1000000000) (hvl : vl ≤ 1000000000) :
    Calls Try.prog 23 #[.agg #[.bool lf, .slice ka kl kc, .slice va vl vc]] w fun e w' => e = .returned (.tuple #[]) ∧ Chg (wb ka kl ++ wb va vl) w w' ∧ Turn64 w w' := by
  have g0 := Chg.alloc [] w (.cells #[.bool lf, .slice ka kl kc, .slice va vl vc] 24)
  obtain ⟨c0, c1, c2⟩ := laid3 w (.bool lf) (.slice ka kl kc) (.slice va vl vc) 24
  have HC := mkHid (And.intro c0 (And.intro c1 (And.intro c2 g0)))
  have HW := mkHid (And.intro (hK.turn (Turn64.of_chg g0)) (hV.turn (Turn64.of_chg g0)))
  clear c0 c1 c2 g0 hK hV
  go_enter Try.func23, Try.ntmps23
  go_wp2_with fail
  obtain ⟨c0, c1, c2, g0⟩ := HC.out
  obtain ⟨hK, hV⟩ := HW.out
  clear HC HW
  generalize w.alloc (.cells #[.bool lf, .slice ka kl kc, .slice va vl vc] 24) = w1 at *
  generalize w.heap.size = b at *
  have HV := mkHid hV
  have HG := mkHid (And.intro g0 c2)
  clear hV g0 c2
  go_loopw [7] (fun iv wr => ∃ k : Nat, iv = .int .i64 k ∧ k ≤ kl ∧ Chg (wb ka kl) w1 wr ∧ Turn64 w1 wr) (fun iv _ => kl - (intOf iv).toNat)
  case atStart => exact ⟨0, rfl, Nat.zero_le _, Chg.refl _ _, Turn64.of_chg (Chg.refl _ _)⟩
  case round =>
    obtain ⟨k, rfl, hkl2, hg, ht⟩ := hrel
    have x1 := ht.slice c1
    by_cases hlt : k < kl
    · have d1 : decide (k < kl) = true := decide_eq_true hlt
      have d2 : decide ((k : Int) < (kl : Int)) = true := decide_eq_true (by omega)
      obtain ⟨rb, ro, rfl, hc⟩ := hK.turn ht (by omega)
      obtain ⟨⟨z, hz⟩, hf⟩ := hc k hlt
      have gs := Chg.setCell wr ⟨rb, ro + k, none⟩ (.int .u64 (bits .xor .u64 z 1))
      have ts := ht.trans (Turn64.set wr ⟨rb, ro + k, none⟩ z (bits .xor .u64 z 1) hz)
      have hg2 : Chg (wb (some ⟨rb, ro, none⟩) kl) w1 (wr.setCell ⟨rb, ro + k, none⟩ (.int .u64 (bits .xor .u64 z 1))) := hg.trans gs (fun _ h _ => h) (fun q hq _ => by rw [wb_some (by omega)]; exact hq)
      have HX := mkHid (And.intro hg2 ts)
      clear hg2 ts gs hc hg ht hK
      go_wp2_with fail
      exact ⟨⟨k + 1, by first | rfl | go_num, by omega, HX.out.1, HX.out.2⟩, by simp [intOf]; omega⟩
    · have d1 : decide (k < kl) = false := decide_eq_false hlt
      have d2 : decide ((k : Int) < (kl : Int)) = false := decide_eq_false (by omega)
      obtain ⟨g0, c2⟩ := HG.out
      have x2 := ht.slice c2
      have hV := HV.out.turn ht
      have gA : Chg (wb ka kl ++ wb va vl) w wr := (g0.mono (by simp)).trans hg (fun _ h _ => h) (fun q hq _ => List.mem_append_left _ hq)
      have tA := (Turn64.of_chg g0).trans ht
      have HA := mkHid (And.intro gA tA)
      clear gA tA hg ht x1 c1 c0 hK g0
      obtain ⟨wA, hwA⟩ : ∃ wA, wA = wr := ⟨_, rfl⟩
      subst hwA
      go_wp2_with fail
      go_loopw [21] (fun iv wr => ∃ k : Nat, iv = .int .i64 k ∧ k ≤ vl ∧ Chg (wb va vl) wA wr ∧ Turn64 wA wr) (fun iv _ => vl - (intOf iv).toNat)
      case atStart => exact ⟨0, rfl, Nat.zero_le _, Chg.refl _ _, Turn64.of_chg (Chg.refl _ _)⟩
      case round =>
        obtain ⟨m, rfl, hml, hg, ht⟩ := hrel
        have y2 := ht.slice x2
        by_cases hlt2 : m < vl
        · have d3 : decide (m < vl) = true := decide_eq_true hlt2
          have d4 : decide ((m : Int) < (vl : Int)) = true := decide_eq_true (by omega)
          obtain ⟨rb, ro, rfl, hc⟩ := hV.turn ht (by omega)
          obtain ⟨⟨z, hz⟩, hf⟩ := hc m hlt2
          have gs := Chg.setCell wr ⟨rb, ro + m, none⟩ (.int .u64 (bits .xor .u64 z 1))
          have ts := ht.trans (Turn64.set wr ⟨rb, ro + m, none⟩ z (bits .xor .u64 z 1) hz)
          have hg2 : Chg (wb (some ⟨rb, ro, none⟩) vl) wA (wr.setCell ⟨rb, ro + m, none⟩ (.int .u64 (bits .xor .u64 z 1))) := hg.trans gs (fun _ h _ => h) (fun q hq _ => by rw [wb_some (by omega)]; exact hq)
          have HX := mkHid (And.intro hg2 ts)
          clear hg2 ts gs hc hg ht hV
          go_wp2_with fail
          exact ⟨⟨m + 1, by first | rfl | go_num, by omega, HX.out.1, HX.out.2⟩, by simp [intOf]; omega⟩
        · have d3 : decide (m < vl) = false := decide_eq_false hlt2
          have d4 : decide ((m : Int) < (vl : Int)) = false := decide_eq_false (by omega)
          have HX := mkHid (And.intro (HA.out.1.trans hg (fun _ h _ => h) (fun q hq _ => List.mem_append_right _ hq) (U := wb ka kl ++ wb va vl)) (HA.out.2.trans ht))
          clear hg ht
          go_wp2_with fail
          go_end0
          exact ⟨rfl, HX.out.1, HX.out.2⟩
end Go.Proofs.Ytlaeonemlodhmaa
