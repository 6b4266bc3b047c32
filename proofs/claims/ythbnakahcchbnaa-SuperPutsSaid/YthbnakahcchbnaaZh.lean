/- The law's awake. -/
import Derived.Test.YthbnakahcchbnaaZg
namespace Go.Proofs.Ythbnakahcchbnaa
open Go.RowKit
set_option linter.unusedVariables false
set_option linter.unusedSimpArgs false
attribute [local go_sem ↓] Go.wp_at_zero Go.wp_at_succ

def s1 : SB := ⟨1, 16, 0, 1⟩
theorem s1_may : s1.may = true := by decide +kernel
theorem s1_get : s1.form[11]? = some 1 ∧ s1.form[19]? = some 16 ∧ s1.form[35]? = some 1 ∧ s1.form[63]? = some 1 ∧ s1.form.take 4 = [99, 105, 115, 116] := by decide +kernel
theorem s1_choose : chooseS (List.replicate 64 0) s1.form = (s1, 1, 0) := by decide +kernel
theorem s1_choose' : chooseS s1.form (List.replicate 64 0) = (SB.none, 0, 23) := by decide +kernel
theorem Room.cellAt {w : World} {B b o n c : Nat} {l : List UInt8} (h : Room w B (some ⟨b, o, none⟩) n c (bts l)) (i : Nat) (x : UInt8) (hx : l[i]? = some x) : w.cell? ⟨b, o + i, none⟩ = some (.int .u8 (x.toNat : Int)) := h.reads.cell i _ (by simp [bts, hx])
/-- A slice of 64 noughts, made. -/
theorem make64 : ∃ O : Obj, (∀ u : World, (Instr.makeSlice 25 (.int .i64 64) (.int .i64 64)).run Try.prog u = .ok (.slice (some ⟨u.heap.size, 0, none⟩) 64 64) (u.alloc O)) ∧ ∀ u : World, Own u (u.alloc O) u.heap.size 64 (List.replicate 64 0) :=
  ⟨_, fun u => run_make_k eltB (.int .u8 0) (by kernel_rfl) rfl 64 (by omega) (by decide) u, fun u => own_made 64 (by decide) u⟩
set_option maxRecDepth 20000 in
set_option maxHeartbeats 4000000 in
theorem awake_any (U : Sup) (w : World) : Calls Try.prog 11 #[] w fun e w' => e = .returned (.bool true) ∧ Chg [] w w' := by
  obtain ⟨O, hmk, hown⟩ := make64
  obtain ⟨c0, c1, c2, c3⟩ := sup_laid w s1
  have g1 := Chg.alloc [] w (supObj s1)
  have hm := s1_may
  have ht := take_form s1 s1_may
  have hg := s1_get
  have hc := s1_choose
  have hc' := s1_choose'
  have hl := SB.form_length s1
  generalize hF : s1.form = F at *
  unfold supObj s1 at *
  dsimp only at c0 c1 c2 c3 g1
  have HF := mkHid (And.intro hm (And.intro ht (And.intro hc (And.intro hc' hF))))
  clear hm ht hc hc' hF
  go_enter Try.func11, Try.ntmps11
  go_wp2_with fail
  generalize w.alloc _ = w1 at *
  generalize w.heap.size = sb at *
  refine (U.put ⟨1, 16, 0, 1⟩ w1 (SB.fits_of_may HF.out.1)).mono ?_
  rintro e w2 ⟨g2, ⟨-, b, o, c, rfl, hr⟩ | ⟨hm, -⟩⟩
  case inr => exact absurd (hm.symm.trans HF.out.1) (by simp)
  rw [HF.out.2.2.2.2] at hr
  have d0 := g2.cellv c0 (by simp)
  have d1 := g2.cellv c1 (by simp)
  have d2 := g2.cellv c2 (by simp)
  have d3 := g2.cellv c3 (by simp)
  have x11 : w2.cell? ⟨b, o + 11, none⟩ = some (.int .u8 1) := hr.cellAt 11 1 hg.1
  have x19 : w2.cell? ⟨b, o + 19, none⟩ = some (.int .u8 16) := hr.cellAt 19 16 hg.2.1
  have x35 : w2.cell? ⟨b, o + 35, none⟩ = some (.int .u8 1) := hr.cellAt 35 1 hg.2.2.1
  have x63 : w2.cell? ⟨b, o + 63, none⟩ = some (.int .u8 1) := hr.cellAt 63 1 hg.2.2.2.1
  have tk : ∀ u : World, (Instr.slice 25 (.slice (some ⟨b, o, none⟩) 64 c) none (some (.int .i64 4)) none).run Try.prog u = .ok (.slice (some ⟨b, o, none⟩) 4 c) u := fun u => run_take_k (some ⟨b, o, none⟩) 64 c 4 Try.underlying25 oneB (by have := hr.le; omega) u
  have cv := run_convert_k (P := Try.prog) w2 25 5 9 Try.underlying25 Try.underlying5 Try.underlying9 (some ⟨b, o, none⟩) 4 c (F.take 4) (by rw [← bts_take]; exact hr.reads.take 4) (by simp [hl])
  rw [hg.2.2.2.2] at cv
  have HR := mkHid (And.intro hr (And.intro (g1.then g2) hl))
  clear hr g1 g2 c0 c1 c2 c3 hg hl
  go_wp2_with fail
  obtain ⟨hr, g2, hl⟩ := HR.out
  clear HR x11 x19 x35 x63 tk cv
  refine (U.take (some ⟨b, o, none⟩) 64 c F w2 hr.reads hl hr.le hr.max).mono ?_
  rintro e w3 ⟨he, g3⟩
  rw [HF.out.2.1] at he
  subst he
  obtain ⟨y0, y1, y2, y3⟩ := sup_laid w3 ⟨1, 16, 0, 1⟩
  have g4 := Chg.alloc [] w3 (supObj ⟨1, 16, 0, 1⟩)
  unfold SB.v supObj at *
  dsimp only at y0 y1 y2 y3 g4 ⊢
  replace d0 := (g3.then g4).cellv d0 (by simp)
  replace d1 := (g3.then g4).cellv d1 (by simp)
  replace d2 := (g3.then g4).cellv d2 (by simp)
  replace d3 := (g3.then g4).cellv d3 (by simp)
  replace hr := hr.chg (g3.then g4) (by simp)
  replace g2 := g2.then (g3.then g4)
  clear g3 g4
  have HR := mkHid hr
  clear hr
  go_wp2_with fail
  have hr := HR.out
  have hz : (w3.alloc (.cells #[.int .u64 ((1 : Nat) : Int), .int .i64 16, .int .u64 ((0 : Nat) : Int), .int .u64 ((1 : Nat) : Int)] 24)).heap.size = w3.heap.size + 1 := by simp
  have h5 := hown (w3.alloc (.cells #[.int .u64 ((1 : Nat) : Int), .int .i64 16, .int .u64 ((0 : Nat) : Int), .int .u64 ((1 : Nat) : Int)] 24))
  have g5 := Chg.alloc [] (w3.alloc (.cells #[.int .u64 ((1 : Nat) : Int), .int .i64 16, .int .u64 ((0 : Nat) : Int), .int .u64 ((1 : Nat) : Int)] 24)) O
  rw [hz] at h5
  clear hz
  replace d0 := g5.cellv d0 (by simp)
  replace d1 := g5.cellv d1 (by simp)
  replace d2 := g5.cellv d2 (by simp)
  replace d3 := g5.cellv d3 (by simp)
  replace y0 := g5.cellv y0 (by simp)
  replace y1 := g5.cellv y1 (by simp)
  replace y2 := g5.cellv y2 (by simp)
  replace y3 := g5.cellv y3 (by simp)
  replace hr := hr.chg g5 (by simp)
  replace g2 := g2.then g5
  generalize w3.heap.size + 1 = vb at *
  generalize w3.heap.size = yb at *
  have h5r := h5.r
  generalize (World.alloc _ O) = w5 at *
  clear g5 HR
  refine (U.choose (some ⟨vb, 0, none⟩) 64 64 (List.replicate 64 0) (some ⟨b, o, none⟩) 64 c F w5 h5r.reads (by simp) (Nat.le_refl _) h5r.max hr.reads hl hr.le hr.max).mono ?_
  rintro e w6 ⟨he, g6⟩
  rw [HF.out.2.2.1] at he
  subst he
  clear h5 h5r
  obtain ⟨q0, q1, q2, q3⟩ := sup_laid w6 ⟨1, 16, 0, 1⟩
  have g7 := Chg.alloc [] w6 (supObj ⟨1, 16, 0, 1⟩)
  unfold SB.v supObj at *
  dsimp only at q0 q1 q2 q3 g7 ⊢
  replace d0 := (g6.then g7).cellv d0 (by simp)
  replace d1 := (g6.then g7).cellv d1 (by simp)
  replace d2 := (g6.then g7).cellv d2 (by simp)
  replace d3 := (g6.then g7).cellv d3 (by simp)
  replace y0 := (g6.then g7).cellv y0 (by simp)
  replace y1 := (g6.then g7).cellv y1 (by simp)
  replace y2 := (g6.then g7).cellv y2 (by simp)
  replace y3 := (g6.then g7).cellv y3 (by simp)
  replace hr := hr.chg (g6.then g7) (by simp)
  replace g2 := g2.then (g6.then g7)
  clear g6 g7
  have HR := mkHid hr
  clear hr
  go_wp2_with fail
  have hr := HR.out
  have hz : (w6.alloc (.cells #[.int .u64 ((1 : Nat) : Int), .int .i64 16, .int .u64 ((0 : Nat) : Int), .int .u64 ((1 : Nat) : Int)] 24)).heap.size = w6.heap.size + 1 := by simp
  have h5 := hown (w6.alloc (.cells #[.int .u64 ((1 : Nat) : Int), .int .i64 16, .int .u64 ((0 : Nat) : Int), .int .u64 ((1 : Nat) : Int)] 24))
  have g5 := Chg.alloc [] (w6.alloc (.cells #[.int .u64 ((1 : Nat) : Int), .int .i64 16, .int .u64 ((0 : Nat) : Int), .int .u64 ((1 : Nat) : Int)] 24)) O
  rw [hz] at h5
  clear hz
  replace d0 := (g5).cellv d0 (by simp)
  replace d1 := (g5).cellv d1 (by simp)
  replace d2 := (g5).cellv d2 (by simp)
  replace d3 := (g5).cellv d3 (by simp)
  replace y0 := (g5).cellv y0 (by simp)
  replace y1 := (g5).cellv y1 (by simp)
  replace y2 := (g5).cellv y2 (by simp)
  replace y3 := (g5).cellv y3 (by simp)
  replace q0 := (g5).cellv q0 (by simp)
  replace q1 := (g5).cellv q1 (by simp)
  replace q2 := (g5).cellv q2 (by simp)
  replace q3 := (g5).cellv q3 (by simp)
  replace hr := hr.chg g5 (by simp)
  replace g2 := g2.then g5
  generalize w6.heap.size + 1 = vb2 at *
  generalize w6.heap.size = qb at *
  have h5r := h5.r
  generalize (World.alloc _ O) = w7 at *
  clear g5 HR
  refine (U.choose (some ⟨b, o, none⟩) 64 c F (some ⟨vb2, 0, none⟩) 64 64 (List.replicate 64 0) w7 hr.reads hl hr.le hr.max h5r.reads (by simp) (Nat.le_refl _) h5r.max).mono ?_
  rintro e w8 ⟨he, g6⟩
  rw [HF.out.2.2.2.1] at he
  subst he
  clear h5 h5r
  have g7 := Chg.alloc [] w8 (.cells #[.int .u64 0, .int .i64 0, .int .u64 0, .int .u64 0] 24)
  unfold SB.v SB.none
  dsimp only
  replace d0 := (g6.then g7).cellv d0 (by simp)
  replace d1 := (g6.then g7).cellv d1 (by simp)
  replace d2 := (g6.then g7).cellv d2 (by simp)
  replace d3 := (g6.then g7).cellv d3 (by simp)
  replace y0 := (g6.then g7).cellv y0 (by simp)
  replace y1 := (g6.then g7).cellv y1 (by simp)
  replace y2 := (g6.then g7).cellv y2 (by simp)
  replace y3 := (g6.then g7).cellv y3 (by simp)
  replace q0 := (g6.then g7).cellv q0 (by simp)
  replace q1 := (g6.then g7).cellv q1 (by simp)
  replace q2 := (g6.then g7).cellv q2 (by simp)
  replace q3 := (g6.then g7).cellv q3 (by simp)
  replace g2 := g2.then (g6.then g7)
  clear g6 g7 hr
  go_wp2_with fail
  go_ret
  exact ⟨rfl, g2⟩
end Go.Proofs.Ythbnakahcchbnaa
