/- RefsKnown. -/
import Derived.Test.YtppjjlooocigdaaUm
namespace Go.Proofs.Ytppjjlooocigdaa
open Go.RowKit
set_option linter.unusedVariables false
set_option linter.unusedSimpArgs false
attribute [local go_sem ↓] Go.wp_at_zero Go.wp_at_succ

theorem noughts (n : Nat) (nn : n ≤ 2000) (z : Int) (hz : z = (n : Int)) : ∃ O : Obj, (∀ u : World, (Instr.makeSlice 22 (.int .i64 z) (.int .i64 z)).run Try.prog u = .ok (.slice (some ⟨u.heap.size, 0, none⟩) n n) (u.alloc O)) ∧ ∀ u : World, Reads (u.alloc O) (some ⟨u.heap.size, 0, none⟩) (bts (List.replicate n 0)) := by
  subst hz
  refine ⟨_, fun u => run_make_k eltB (.int .u8 0) (by kernel_rfl) rfl n (by omega) (by unfold maxLen; omega) u, fun u => ?_⟩
  have := (made_room u 5 (.int .u8 0) n (by unfold maxLen; omega)).reads
  have e : bts (List.replicate n 0) = List.replicate n (.int .u8 0) := by simp [bts]
  rw [e]
  exact this
set_option maxRecDepth 20000 in
set_option maxHeartbeats 2000000 in
theorem known_any (w : World) : Calls Try.prog 6 #[] w fun e w' => e = .returned (.bool true) ∧ Chg [] w w' := by
  have g0 := Chg.alloc [] w (.cells #[.int .u8 0, .int .u8 254, .int .u8 255] 5)
  have hr := lit_reads w #[.int .u8 0, .int .u8 254, .int .u8 255] [0, 254, 255] rfl
  have cN := r_new w.heap.size _ 3 3 [0, 254, 255] _ hr rfl (by decide) (by decide) g0.size (fun _ => 9) 0
  have T1 := mkHid (show incN [0, 254, 255] 1 = (0, [0, 255, 255]) by decide +kernel)
  have T2 := mkHid (show incN [0, 255, 255] 1 = (8, [0, 255, 255]) by decide +kernel)
  have T3 := mkHid (show incN [0, 255, 255] 2 = (8, [0, 255, 255]) by decide +kernel)
  have T4 := mkHid (show incN [0, 255, 255] 0 = (6, [0, 255, 255]) by decide +kernel)
  have T5 := mkHid (show incN [0, 255, 255] 3 = (1, [0, 255, 255]) by decide +kernel)
  obtain ⟨O1, m1, -⟩ := noughts 1025 (by decide) 1025 rfl
  obtain ⟨O2, m2, r2⟩ := noughts 1024 (by decide) 1024 rfl
  have hL : (List.replicate 1024 (0 : UInt8)).length = 1024 := by simp
  generalize List.replicate 1024 (0 : UInt8) = L at *
  have HL := mkHid hL
  have HR := mkHid r2
  clear hr hL r2
  go_enter Try.func6, Try.ntmps6
  go_wp2_with fail
  refine cN.mono ?_
  rintro e w1 ⟨rb, rfl, t1, h1, s1⟩
  have q1 := g0.then s1.1
  clear cN g0 s1
  go_wp2_with fail
  refine (awake_any w1).mono ?_
  rintro e w2 ⟨rfl, gA⟩
  have h2 := h1.still (Still.of gA)
  have q2 := q1.then gA
  clear h1 q1 gA
  go_wp2_with fail
  have c3 := r_inc h2 1
  rw [T1.out] at c3
  refine c3.mono ?_
  rintro e w3 ⟨rfl, t3, h3, s3⟩
  have q3 := s3.base q2
  clear c3 h2 s3 q2
  go_wp2_with fail
  have c4 := r_inc h3 1
  rw [T2.out] at c4
  refine c4.mono ?_
  rintro e w4 ⟨rfl, t4, h4, s4⟩
  have q4 := s4.base q3
  clear c4 h3 s4 q3
  go_wp2_with fail
  have c5 := r_inc h4 2
  rw [T3.out] at c5
  refine c5.mono ?_
  rintro e w5 ⟨rfl, t5, h5, s5⟩
  have q5 := s5.base q4
  clear c5 h4 s5 q4
  go_wp2_with fail
  refine (ralloc_nil w5).mono ?_
  rintro e w6 ⟨rfl, rfl⟩
  go_wp2_with fail
  refine (rdec_nil w5 0).mono ?_
  rintro e w6 ⟨rfl, rfl⟩
  go_wp2_with fail
  refine (rnew_out none 0 0 w5 (by decide) (by decide)).mono ?_
  rintro e w6 ⟨rfl, rfl⟩
  go_wp2_with fail
  refine (rnew_out _ 1025 1025 _ (by decide) (by decide)).mono ?_
  rintro e w6 ⟨rfl, rfl⟩
  have g7 := Chg.alloc [] w5 O1
  have h7 := h5.still (Still.of g7)
  have q7 := q5.then g7
  generalize w5.alloc O1 = w7 at *
  clear h5 q5 g7
  go_wp2_with fail
  have g8 := Chg.alloc [] w7 O2
  have h8 := h7.still (Still.of g8)
  have q8 := q7.then g8
  have cB := r_new w.heap.size _ 1024 1024 L _ (HR.out w7) HL.out (by decide) (by decide) q8.size t5 1
  generalize w7.alloc O2 = w8 at *
  generalize w7.heap.size = b7 at *
  clear h7 q7 g8
  refine cB.mono ?_
  rintro e w9 ⟨xb, rfl, t9, x9, s9⟩
  have h9 := h8.still s9
  have q9 := q8.then s9.1
  clear cB h8 q8 s9
  go_wp2_with fail
  have cC : Calls Try.prog 22 #[.pointer (some ⟨rb, 0, none⟩), .pointer (some ⟨xb, 0, none⟩)] w9 fun e w' => e = .returned (.int .i64 1) ∧ Chg [] w9 w' := by
    obtain ⟨nb, cb, sb, Fs, h91, _⟩ := h9
    obtain ⟨mb, db, tb, Fx, x91, _⟩ := x9
    exact rbecome_len _ rb nb cb sb Fs 3 _ _ w9 h91 _ xb mb db tb Fx 1024 _ _ x91 (by decide)
  refine cC.mono ?_
  rintro e w10 ⟨rfl, g10⟩
  have h10 := h9.still (Still.of g10)
  have q10 := q9.then g10
  clear cC h9 q9 x9 g10
  go_wp2_with fail
  have c11 := r_inc h10 0
  rw [T4.out] at c11
  refine c11.mono ?_
  rintro e w11 ⟨rfl, t11, h11, s11⟩
  have q11 := s11.base q10
  clear c11 h10 s11 q10
  go_wp2_with fail
  have c12 := r_inc h11 3
  rw [T5.out] at c12
  refine c12.mono ?_
  rintro e w12 ⟨rfl, t12, h12, s12⟩
  have q12 := s12.base q11
  clear c12 h11 s12 q11
  go_wp2_with fail
  refine (rinc_nil w12 0).mono ?_
  rintro e w6 ⟨rfl, rfl⟩
  go_wp2_with fail
  refine (rcommit_nil w12).mono ?_
  rintro e w6 ⟨rfl, rfl⟩
  go_wp2_with fail
  refine (rabort_nil w12).mono ?_
  rintro e w6 ⟨rfl, rfl⟩
  go_wp2_with fail
  refine (rcount_nil w12 0).mono ?_
  rintro e w6 ⟨rfl, rfl⟩
  go_wp2_with fail
  refine (rfresh_nil w12 0).mono ?_
  rintro e w6 ⟨rfl, rfl⟩
  go_wp2_with fail
  refine (rfree_nil w12).mono ?_
  rintro e w6 ⟨rfl, rfl⟩
  go_wp2_with fail
  refine (rcounts_nil w12).mono ?_
  rintro e w6 ⟨rfl, rfl⟩
  go_wp2_with fail
  refine (rcopy_nil w12).mono ?_
  rintro e w6 ⟨rfl, rfl⟩
  go_wp2_with fail
  refine (rbecome_nil w12 _).mono ?_
  rintro e w6 ⟨rfl, rfl⟩
  go_wp2_with fail
  have cZ : Calls Try.prog 22 #[.pointer (some ⟨rb, 0, none⟩), .pointer none] w12 fun e w' => e = .returned (.int .i64 1) ∧ Chg [] w12 w' := by
    obtain ⟨nb, cb, sb, Fs, h91, _⟩ := h12
    exact rbecome_none _ rb nb cb sb Fs 3 _ _ w12 h91
  refine cZ.mono ?_
  rintro e w13 ⟨rfl, g13⟩
  go_wp2_with fail
  go_ret
  exact ⟨rfl, q12.then g13⟩
end Go.Proofs.Ytppjjlooocigdaa
