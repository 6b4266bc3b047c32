/- The reference: Take. -/
import Derived.Test.YthbnakahcchbnaaZd
namespace Go.Proofs.Ythbnakahcchbnaa
open Go.RowKit
set_option linter.unusedVariables false
set_option linter.unusedSimpArgs false
attribute [local go_sem ↓] Go.wp_at_zero Go.wp_at_succ

/-- What a Take answers. -/
def STake (w : World) (l : List UInt8) (e : Ending) (w' : World) : Prop :=
  e = .returned (.tuple #[(takeS l).2.v, .int .i64 (takeS l).1]) ∧ Chg [] w w'
theorem stake_no {w w' : World} {l : List UInt8} (C : Nat) (hC : takeS l = (C, SB.none)) (g : Chg [] w w') : STake w l (.returned (.tuple #[.agg #[.int .u64 0, .int .i64 0, .int .u64 0, .int .u64 0], .int .i64 (C : Int)])) w' := ⟨by rw [hC]; rfl, g⟩
theorem take_short {l : List UInt8} (h : l.length < 64) : takeS l = (4, SB.none) := by unfold takeS; rw [if_pos h]
theorem take_long {l : List UInt8} (h : 64 < l.length) : takeS l = (3, SB.none) := by unfold takeS; rw [if_neg (by omega), if_pos h]
theorem take_none {l : List UInt8} (h : l.length = 64) (hn : ¬ ((readS l).may = true ∧ (readS l).form = l)) : takeS l = (23, SB.none) := by unfold takeS; rw [if_neg (by omega), if_neg (by omega), if_neg hn]
theorem take_yes {l : List UInt8} (h : l.length = 64) (hn : (readS l).may = true ∧ (readS l).form = l) : takeS l = (0, readS l) := by unfold takeS; rw [if_neg (by omega), if_neg (by omega), if_pos hn]
def supNil : Obj := .cells #[.int .u64 0, .int .i64 0, .int .u64 0, .int .u64 0] 24
theorem four_chg (wr : World) (R : Nat) (x y z u : Value) : Chg [R] wr ((((wr.setCell ⟨R, 0, none⟩ x).setCell ⟨R, 1, none⟩ y).setCell ⟨R, 2, none⟩ z).setCell ⟨R, 3, none⟩ u) :=
  (((Chg.setCell wr ⟨R, 0, none⟩ x).trans (Chg.setCell _ ⟨R, 1, none⟩ y) (fun _ h _ => h) (fun _ h _ => h)).trans (Chg.setCell _ ⟨R, 2, none⟩ z) (fun _ h _ => h) (fun _ h _ => h)).trans (Chg.setCell _ ⟨R, 3, none⟩ u) (fun _ h _ => h) (fun _ h _ => h)
/-- A superblock's box in new memory, that may be written. -/
structure Res4 (w0 w : World) (b : Nat) : Prop where
  k0 : (w.cell? ⟨b, 0, none⟩).isSome = true
  k1 : (w.cell? ⟨b, 1, none⟩).isSome = true
  k2 : (w.cell? ⟨b, 2, none⟩).isSome = true
  k3 : (w.cell? ⟨b, 3, none⟩).isSome = true
  z0 : w.frozen? ⟨b, 0, none⟩ = false
  z1 : w.frozen? ⟨b, 1, none⟩ = false
  z2 : w.frozen? ⟨b, 2, none⟩ = false
  z3 : w.frozen? ⟨b, 3, none⟩ = false
  g : Chg [] w0 w
  nb : w0.heap.size ≤ b
theorem isSome_chg {S : List Nat} {w w' : World} {p : Addr} (h : (w.cell? p).isSome = true) (g : Chg S w w') (hn : p.block ∉ S) : (w'.cell? p).isSome = true := by
  obtain ⟨v, hv⟩ := Option.isSome_iff_exists.1 h
  rw [g.cellv hv hn]
  rfl
theorem frozen_chg {S : List Nat} {w w' : World} {p : Addr} (h : (w.cell? p).isSome = true) (z : w.frozen? p = false) (g : Chg S w w') (hn : p.block ∉ S) : w'.frozen? p = false := by
  obtain ⟨v, hv⟩ := Option.isSome_iff_exists.1 h
  rw [g.frozen (block_lt_of_cell hv) hn]
  exact z
theorem Res4.keep {w0 w w' : World} {b : Nat} (h : Res4 w0 w b) (g : Chg [] w w') : Res4 w0 w' b :=
  ⟨isSome_chg h.k0 g (by simp), isSome_chg h.k1 g (by simp), isSome_chg h.k2 g (by simp), isSome_chg h.k3 g (by simp), frozen_chg h.k0 h.z0 g (by simp), frozen_chg h.k1 h.z1 g (by simp), frozen_chg h.k2 h.z2 g (by simp), frozen_chg h.k3 h.z3 g (by simp), h.g.then g, h.nb⟩
theorem Res4.keep1 {w0 w w' : World} {b k : Nat} (h : Res4 w0 w b) (g : Chg [k] w w') (hk : w0.heap.size ≤ k) (hb : b ≠ k) : Res4 w0 w' b :=
  ⟨isSome_chg h.k0 g (by simpa using hb), isSome_chg h.k1 g (by simpa using hb), isSome_chg h.k2 g (by simpa using hb), isSome_chg h.k3 g (by simpa using hb), frozen_chg h.k0 h.z0 g (by simpa using hb), frozen_chg h.k1 h.z1 g (by simpa using hb), frozen_chg h.k2 h.z2 g (by simpa using hb), frozen_chg h.k3 h.z3 g (by simpa using hb), h.g.trans g (fun _ h _ => h) (fun q hq hlt => by simp at hq; omega), h.nb⟩
theorem res4_made (w0 w : World) (g : Chg [] w0 w) (x y z u : Value) : Res4 w0 (w.alloc (.cells #[x, y, z, u] 24)) w.heap.size := by
  have hl := heap_alloc_last w (.cells #[x, y, z, u] 24)
  have hc := fun j => cell_of_row _ w.heap.size j _ _ _ hl
  have hf := fun j => frozen_of_row _ w.heap.size j _ _ hl
  exact ⟨by rw [hc]; rfl, by rw [hc]; rfl, by rw [hc]; rfl, by rw [hc]; rfl, hf 0, hf 1, hf 2, hf 3, g.then (Chg.alloc [] w _), g.size⟩
theorem Res4.done {w0 w : World} {b : Nat} (h : Res4 w0 w b) (x y z u : Value) : Chg [] w0 ((((w.setCell ⟨b, 0, none⟩ x).setCell ⟨b, 1, none⟩ y).setCell ⟨b, 2, none⟩ z).setCell ⟨b, 3, none⟩ u) :=
  h.g.trans (four_chg w b x y z u) (fun _ h _ => h) (fun q hq hlt => by simp at hq; have := h.nb; omega)
set_option maxRecDepth 20000 in
set_option maxHeartbeats 2000000 in
theorem rtake_any (ao : Option Addr) (n c : Nat) (l : List UInt8) (w : World) (h : Reads w ao (bts l)) (hl : l.length = n) :
    Calls Try.prog 16 #[.slice ao n c] w (STake w l) := by
  have g0 := Chg.alloc [] w (.cells #[.int .u64 0, .int .i64 0, .int .u64 0, .int .u64 0] 24)
  by_cases c1 : n < 64
  · have d1 : decide ((n : Int) < 64) = true := decide_eq_true (by omega)
    have hno := fun w' g => stake_no (w := w) (w' := w') 4 (take_short (l := l) (by omega)) g
    have HNO := mkHid hno
    clear hno c1 hl
    go_enter Try.func16, Try.ntmps16
    go_wp2_with fail
    exact bodyPost_ret (v := .tuple #[.agg #[.int .u64 0, .int .i64 0, .int .u64 0, .int .u64 0], .int .i64 4]) (by simp [results, Try.results16, go_sem]) rfl (HNO.out _ g0)
  have d1 : decide ((n : Int) < 64) = false := decide_eq_false (by omega)
  by_cases c2 : 64 < n
  · have d2 : decide ((64 : Int) < (n : Int)) = true := decide_eq_true (by omega)
    have hno := fun w' g => stake_no (w := w) (w' := w') 3 (take_long (l := l) (by omega)) g
    have HNO := mkHid hno
    clear hno c1 c2 hl
    go_enter Try.func16, Try.ntmps16
    go_wp2_with fail
    exact bodyPost_ret (v := .tuple #[.agg #[.int .u64 0, .int .i64 0, .int .u64 0, .int .u64 0], .int .i64 3]) (by simp [results, Try.results16, go_sem]) rfl (HNO.out _ g0)
  obtain rfl : n = 64 := by omega
  clear c1 c2 d1
  have hres := res4_made w w (Chg.refl [] w) (.int .u64 0) (.int .i64 0) (.int .u64 0) (.int .u64 0)
  have hrd := h.keep g0
  have hno := fun (hn : ¬ ((readS l).may = true ∧ (readS l).form = l)) w' g => stake_no (w := w) (w' := w') 23 (take_none hl hn) g
  have hyes : (readS l).may = true ∧ (readS l).form = l → ∀ w', Chg [] w w' → STake w l (.returned (.tuple #[(readS l).v, .int .i64 0])) w' := fun hn w' g => ⟨by rw [take_yes hl hn]; rfl, g⟩
  have HNO := mkHid hno
  have HYES := mkHid hyes
  clear hno hyes
  go_enter Try.func16, Try.ntmps16
  go_wp2_with fail
  generalize w.alloc _ = w1 at *
  generalize w.heap.size = nb at hres ⊢
  refine (rnumber_any ao 64 c l 12 _ rfl w1 hrd hl (by decide) (by decide)).mono ?_
  rintro e w' ⟨rfl, rfl⟩
  have e1 : num l 4 = (readS l).G := rfl
  have e2 : num l 20 = (readS l).D := rfl
  have e3 : num l 28 = (readS l).X := rfl
  have e4 : (num l 12 : Int) = (readS l).B := rfl
  obtain ⟨W4, hW4⟩ : ∃ q, q = num l 12 := ⟨_, rfl⟩
  rw [← hW4]
  by_cases c3 : 1024 < W4
  · have d3 : decide ((1024 : Int) < (W4 : Int)) = true := decide_eq_true (by omega)
    have hn : ¬ ((readS l).may = true ∧ (readS l).form = l) := fun hh => by
      have := ((readS l).may_iff.1 hh.1).2.2.2.2.2.1
      omega
    have hno := HNO.out hn
    obtain ⟨v0, k0⟩ := Option.isSome_iff_exists.1 hres.k0
    obtain ⟨v1, k1⟩ := Option.isSome_iff_exists.1 hres.k1
    obtain ⟨v2, k2⟩ := Option.isSome_iff_exists.1 hres.k2
    obtain ⟨v3, k3⟩ := Option.isSome_iff_exists.1 hres.k3
    have z0 := hres.z0
    have z1 := hres.z1
    have z2 := hres.z2
    have z3 := hres.z3
    have HRES := mkHid hres
    clear hres
    clear HNO HYES hW4 c3 e1 e2 e3 e4 hrd h g0
    have HN := mkHid hno
    clear hn hno
    go_wp2_with fail
    exact bodyPost_ret (v := .tuple #[.agg #[.int .u64 0, .int .i64 0, .int .u64 0, .int .u64 0], .int .i64 23]) (by simp [results, Try.results16, go_sem, k0, k1, k2, k3]) rfl (HN.out _ (HRES.out.done _ _ _ _))
  have d3 : decide ((1024 : Int) < (W4 : Int)) = false := decide_eq_false (by omega)
  have d4 : IntKind.i64.wrap (W4 : Int) = (W4 : Int) := by rw [IntKind.wrap_i64]; omega
  have HE := mkHid (And.intro e1 (And.intro e2 (And.intro e3 (And.intro e4 hW4))))
  clear e1 e2 e3 e4
  have hW := readS_wide l
  obtain ⟨S, hS⟩ : ∃ S, S = readS l := ⟨_, rfl⟩
  have e1 : num l 4 = S.G := by rw [hS]; rfl
  have e2 : num l 20 = S.D := by rw [hS]; rfl
  have e3 : num l 28 = S.X := by rw [hS]; rfl
  have e4 : (W4 : Int) = S.B := by rw [hS, hW4]; rfl
  obtain ⟨G, B, D, X⟩ := S
  dsimp only at e1 e2 e3 e4
  clear hW4 HE c3
  have n1 := fun u (g : Chg [] w1 u) => rnumber_any ao 64 c l 4 4 rfl u (hrd.keep g) hl (by decide) (by decide)
  have n2 := fun u (g : Chg [] w1 u) => rnumber_any ao 64 c l 20 20 rfl u (hrd.keep g) hl (by decide) (by decide)
  have n3 := fun u (g : Chg [] w1 u) => rnumber_any ao 64 c l 28 28 rfl u (hrd.keep g) hl (by decide) (by decide)
  rw [e1] at n1
  rw [e2] at n2
  rw [e3] at n3
  have HN := mkHid (And.intro n1 (And.intro n2 n3))
  subst e4
  clear n1 n2 n3 e1 e2 e3 h
  rw [← hS] at HNO HYES hW
  clear hS
  go_wp2_with (first
    | (go_at_call_of 25 (Value.int .i64 4); refine (HN.out.1 _ (Chg.refl [] _)).mono ?_; rintro e w' ⟨rfl, rfl⟩)
    | (go_at_call_of 25 (Value.int .i64 20); refine (HN.out.2.1 _ (Chg.refl [] _)).mono ?_; rintro e w' ⟨rfl, rfl⟩)
    | (go_at_call_of 25 (Value.int .i64 28); refine (HN.out.2.2 _ (Chg.refl [] _)).mono ?_; rintro e w' ⟨rfl, rfl⟩))
  obtain ⟨c0, c1, c2, c3⟩ := sup_laid w1 ⟨G, W4, D, X⟩
  have g2 := Chg.alloc [] w1 (supObj ⟨G, W4, D, X⟩)
  unfold supObj at *
  dsimp only at c0 c1 c2 c3 g2
  generalize w1.alloc _ = w2 at *
  generalize w1.heap.size = sb at *
  refine (rput_any ⟨G, W4, D, X⟩ hW w2).mono ?_
  rintro e w3 ⟨g3, ⟨hm, b, cc, rfl, hbn, hr⟩ | ⟨hm, rfl⟩⟩
  · replace hres := hres.keep (g2.then g3)
    replace c0 := g3.cellv c0 (by simp)
    replace c1 := g3.cellv c1 (by simp)
    replace c2 := g3.cellv c2 (by simp)
    replace c3 := g3.cellv c3 (by simp)
    have hrl := (hrd.keep (g2.then g3))
    have cv1 := run_convert_k (P := Try.prog) w3 25 5 9 Try.underlying25 Try.underlying5 Try.underlying9 (some ⟨b, 0, none⟩) 64 cc _ hr.reads (SB.form_length _)
    have cv2 := run_convert_k (P := Try.prog) w3 25 5 9 Try.underlying25 Try.underlying5 Try.underlying9 ao 64 c l hrl hl
    generalize hF : SB.form ⟨G, W4, D, X⟩ = F at *
    clear hrl hrd hr hbn HN hW
    by_cases hf : F = l
    · have hy := HYES.out ⟨hm, hf⟩
      have HY := mkHid hy
      subst hf
      have hd : (F == F) = true := by simp
      clear HYES HNO hm hF hy
      obtain ⟨v0, k0⟩ := Option.isSome_iff_exists.1 hres.k0
      obtain ⟨v1, k1⟩ := Option.isSome_iff_exists.1 hres.k1
      obtain ⟨v2, k2⟩ := Option.isSome_iff_exists.1 hres.k2
      obtain ⟨v3, k3⟩ := Option.isSome_iff_exists.1 hres.k3
      have z0 := hres.z0
      have z1 := hres.z1
      have z2 := hres.z2
      have z3 := hres.z3
      have HRES := mkHid hres
      clear hres
      go_wp2_with fail
      exact bodyPost_ret (v := .tuple #[.agg #[.int .u64 (G : Int), .int .i64 (W4 : Int), .int .u64 (D : Int), .int .u64 (X : Int)], .int .i64 0]) (by simp [results, Try.results16, go_sem, k0, k1, k2, k3]) rfl (HY.out _ (HRES.out.done _ _ _ _))
    · have hn : ¬ (SB.may ⟨G, W4, D, X⟩ = true ∧ F = l) := fun hh => hf hh.2
      have hno := HNO.out hn
      have HN := mkHid hno
      have hd : (F == l) = false := by simpa using hf
      clear HYES HNO hm hn hno hF
      obtain ⟨v0, k0⟩ := Option.isSome_iff_exists.1 hres.k0
      obtain ⟨v1, k1⟩ := Option.isSome_iff_exists.1 hres.k1
      obtain ⟨v2, k2⟩ := Option.isSome_iff_exists.1 hres.k2
      obtain ⟨v3, k3⟩ := Option.isSome_iff_exists.1 hres.k3
      have z0 := hres.z0
      have z1 := hres.z1
      have z2 := hres.z2
      have z3 := hres.z3
      have HRES := mkHid hres
      clear hres
      go_wp2_with fail
      exact bodyPost_ret (v := .tuple #[.agg #[.int .u64 0, .int .i64 0, .int .u64 0, .int .u64 0], .int .i64 23]) (by simp [results, Try.results16, go_sem, k0, k1, k2, k3]) rfl (HN.out _ (HRES.out.done _ _ _ _))
  · replace hres := hres.keep (g2.then g3)
    have hno := HNO.out (fun hh => by rw [hm] at hh; exact absurd hh.1 (by simp))
    have HN' := mkHid hno
    clear HYES HNO hm hno HN hW c0 c1 c2 c3 hrd
    obtain ⟨v0, k0⟩ := Option.isSome_iff_exists.1 hres.k0
    obtain ⟨v1, k1⟩ := Option.isSome_iff_exists.1 hres.k1
    obtain ⟨v2, k2⟩ := Option.isSome_iff_exists.1 hres.k2
    obtain ⟨v3, k3⟩ := Option.isSome_iff_exists.1 hres.k3
    have z0 := hres.z0
    have z1 := hres.z1
    have z2 := hres.z2
    have z3 := hres.z3
    have HRES := mkHid hres
    clear hres
    go_wp2_with fail
    exact bodyPost_ret (v := .tuple #[.agg #[.int .u64 0, .int .i64 0, .int .u64 0, .int .u64 0], .int .i64 23]) (by simp [results, Try.results16, go_sem, k0, k1, k2, k3]) rfl (HN'.out _ (HRES.out.done _ _ _ _))
end Go.Proofs.Ythbnakahcchbnaa
