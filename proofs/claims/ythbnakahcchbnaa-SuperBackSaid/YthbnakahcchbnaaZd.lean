/- The reference: Put. -/
import Derived.Test.YthbnakahcchbnaaZc
namespace Go.Proofs.Ythbnakahcchbnaa
open Go.RowKit
set_option linter.unusedVariables false
set_option linter.unusedSimpArgs false
attribute [local go_sem ↓] Go.wp_at_zero Go.wp_at_succ

/-- What a Put answers. -/
def SPut (w : World) (s : SB) (e : Ending) (w' : World) : Prop :=
  Chg [] w w' ∧ ((s.may = true ∧ ∃ b c, e = .returned (.tuple #[.slice (some ⟨b, 0, none⟩) 64 c, .int .i64 0]) ∧ w.heap.size ≤ b ∧ Room w' w.heap.size (some ⟨b, 0, none⟩) 64 c (bts s.form)) ∨ (s.may = false ∧ e = .returned (.tuple #[.slice none 0 0, .int .i64 1])))
theorem wrap_of_may {s : SB} (h : s.may = true) : IntKind.u64.wrap s.B = (s.B.toNat : Int) ∧ s.B.toNat < 2 ^ 64 := by
  rw [SB.may_iff] at h
  refine ⟨?_, by omega⟩
  rw [IntKind.wrap_u64]
  omega
theorem over_at (A : List UInt8) (p k : Nat) (ys : List UInt8) (hp : A.length = p) (hk : ys.length ≤ k) : over (A ++ List.replicate k 0) p ys = (A ++ ys) ++ List.replicate (k - ys.length) 0 := by
  subst hp
  unfold over
  rw [List.take_left, List.drop_append, List.drop_eq_nil_of_le (by omega), List.nil_append, Nat.add_sub_cancel_left, List.drop_replicate, List.append_assoc]
def f0 : List UInt8 := [99, 105, 115, 116]
theorem form_steps (s : SB) : ((((f0 ++ be s.G 8) ++ be s.B.toNat 8) ++ be s.D 8) ++ be s.X 8) ++ List.replicate 28 0 = over (((((f0 ++ be s.G 8) ++ be s.B.toNat 8) ++ be s.D 8) ++ be s.X 8) ++ List.replicate 28 0) 64 [] := by rw [over_nil]
theorem form_end (s : SB) : over (((((f0 ++ be s.G 8) ++ be s.B.toNat 8) ++ be s.D 8) ++ be s.X 8) ++ List.replicate 28 0) 56 (be s.G 8) = s.form := by
  rw [show (List.replicate 28 (0 : UInt8)) = List.replicate 20 0 ++ List.replicate 8 0 by rfl, ← List.append_assoc (_ ++ be s.X 8), over_at _ 56 8 _ (by simp [be_length, f0]) (by rw [be_length]; omega), be_length]
  simp [SB.form, f0]
set_option maxRecDepth 20000 in
set_option maxHeartbeats 2000000 in
theorem rput_any (s : SB) (hw : s.Wide) (w : World) : Calls Try.prog 10 #[s.v] w (SPut w s) := by
  obtain ⟨O, hmk, hown⟩ : ∃ O : Obj, (∀ u : World, (Instr.makeSlice 25 (.int .i64 64) (.int .i64 64)).run Try.prog u = .ok (.slice (some ⟨u.heap.size, 0, none⟩) 64 64) (u.alloc O)) ∧ ∀ u : World, Own u (u.alloc O) u.heap.size 64 (List.replicate 64 0) :=
    ⟨_, fun u => run_make_k eltB (.int .u8 0) (by kernel_rfl) rfl 64 (by omega) (by decide) u, fun u => own_made 64 (by decide) u⟩
  have hs := sup_laid w s
  have g1 := Chg.alloc [] w (supObj s)
  obtain ⟨c0, c1, c2, c3⟩ := hs
  cases hm : s.may with
  | false =>
    unfold SPut
    rw [hm]
    have hr := rmay_any s
    rw [hm] at hr
    unfold SB.v supObj at *
    have HM := mkHid hm
    clear hm
    go_enter Try.func10, Try.ntmps10
    go_wp2_with fail
    generalize w.alloc _ = w1 at *
    refine (hr w1).mono ?_
    rintro e w2 ⟨rfl, g2⟩
    go_wp2_with fail
    go_ret2
    exact ⟨g1.then g2, .inr ⟨trivial, rfl⟩⟩
  | true =>
    unfold SPut
    rw [hm]
    have hr := rmay_any s
    rw [hm] at hr
    obtain ⟨hB, hB64⟩ := wrap_of_may hm
    have hfe := form_end s
    obtain ⟨wg, wd, wx⟩ := hw
    unfold SB.v supObj at *
    obtain ⟨G, B, D, X⟩ := s
    dsimp only at *
    generalize hN : B.toNat = N at *
    generalize SB.form ⟨G, B, D, X⟩ = F at *
    clear hm hN
    go_enter Try.func10, Try.ntmps10
    go_wp2_with fail
    generalize w.heap.size = nb at *
    generalize w.alloc _ = w1 at *
    refine (hr w1).mono ?_
    rintro e w2 ⟨rfl, g2⟩
    have c0' := g2.cellv c0 (by simp)
    have c1' := g2.cellv c1 (by simp)
    have c2' := g2.cellv c2 (by simp)
    have c3' := g2.cellv c3 (by simp)
    clear c0 c1 c2 c3 hr
    have h0 := hown w2
    have hx := Chg.alloc [] w2 O
    clear hown
    obtain ⟨⟨v0, k0⟩, z0⟩ := h0.cell 0 (by decide)
    obtain ⟨⟨v1, k1⟩, z1⟩ := h0.cell 1 (by decide)
    obtain ⟨⟨v2, k2⟩, z2⟩ := h0.cell 2 (by decide)
    obtain ⟨⟨v3, k3⟩, z3⟩ := h0.cell 3 (by decide)
    have h1 := ((((h0.set 0 (by decide) 99 99 rfl _ rfl).set 1 (by decide) 105 105 rfl _ rfl).set 2 (by decide) 115 115 rfl _ rfl).set 3 (by decide) 116 116 rfl (f0 ++ List.replicate 60 0) (by decide))
    have e0 := h1.g.cellv c0' (by simp)
    have e1 := h1.g.cellv c1' (by simp)
    have e2 := h1.g.cellv c2' (by simp)
    have e3 := h1.g.cellv c3' (by simp)
    have H1 := mkHid h1
    have HX := mkHid h0
    clear h0 hx h1
    go_wp2_with fail
    have h1 := H1.out
    clear HX H1
    generalize World.setCell _ _ _ = w3 at *
    generalize w2.heap.size = b at *
    clear e0 e1 e2 e3 k0 k1 k2 k3 z0 z1 z2 z3
    refine (rlay_any b 64 _ 4 G _ _ rfl rfl w2 w3 h1 (by decide) (by decide) wg).mono ?_
    rintro e w4 ⟨rfl, h2, -⟩
    rw [over_at (f0) 4 60 _ (by simp [be_length, f0]) (by rw [be_length]; decide), be_length] at h2
    have e0 := h2.g.cellv c1' (by simp)
    clear h1
    go_wp2_with fail
    refine (rlay_any b 64 _ 12 N _ _ rfl rfl w2 w4 h2 (by decide) (by decide) hB64).mono ?_
    rintro e w5 ⟨rfl, h3, -⟩
    rw [over_at (f0 ++ be G 8) 12 52 _ (by simp [be_length, f0]) (by rw [be_length]; decide), be_length] at h3
    have e1 := h3.g.cellv c2' (by simp)
    clear h2
    go_wp2_with fail
    refine (rlay_any b 64 _ 20 D _ _ rfl rfl w2 w5 h3 (by decide) (by decide) wd).mono ?_
    rintro e w6 ⟨rfl, h4, -⟩
    rw [over_at ((f0 ++ be G 8) ++ be N 8) 20 44 _ (by simp [be_length, f0]) (by rw [be_length]; decide), be_length] at h4
    have e2 := h4.g.cellv c3' (by simp)
    clear h3
    go_wp2_with fail
    refine (rlay_any b 64 _ 28 X _ _ rfl rfl w2 w6 h4 (by decide) (by decide) wx).mono ?_
    rintro e w7 ⟨rfl, h5, -⟩
    rw [over_at (((f0 ++ be G 8) ++ be N 8) ++ be D 8) 28 36 _ (by simp [be_length, f0]) (by rw [be_length]; decide), be_length] at h5
    have e3 := h5.g.cellv c0' (by simp)
    clear h4
    go_wp2_with fail
    refine (rlay_any b 64 _ 56 G _ _ rfl rfl w2 w7 h5 (by decide) (by decide) wg).mono ?_
    rintro e w8 ⟨rfl, h6, -⟩
    rw [hfe] at h6
    clear h5
    go_wp2_with fail
    go_ret2
    exact ⟨(g1.then g2).then h6.g, .inl ⟨trivial, b, 64, rfl, by have := (h6.in (by decide)).1; have := (g1.then g2).size; omega, h6.r.mono (g1.then g2).size⟩⟩
end Go.Proofs.Ythbnakahcchbnaa
