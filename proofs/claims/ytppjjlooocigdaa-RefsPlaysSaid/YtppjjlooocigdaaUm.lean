/- The law's helpers: bytes.Equal, awake. -/
import Derived.Test.YtppjjlooocigdaaUl
namespace Go.Proofs.Ytppjjlooocigdaa
open Go.RowKit
set_option linter.unusedVariables false
set_option linter.unusedSimpArgs false
attribute [local go_sem ↓] Go.wp_at_zero Go.wp_at_succ

theorem ret_bool' {a b : Bool} (h : a = b) : Ending.returned (Value.bool a) = .returned (.bool b) := by rw [h]
theorem equal_any (ao : Option Addr) (n c : Nat) (l : List UInt8) (bo : Option Addr) (m d : Nat) (k : List UInt8) (w : World) (h1 : Reads w ao (bts l)) (hn : l.length = n) (h2 : Reads w bo (bts k)) (hm : k.length = m) :
    Calls Try.prog 28 #[.slice ao n c, .slice bo m d] w fun e w' => e = .returned (.bool (decide (l = k))) ∧ w = w' := by
  have r1 := run_convert_k (P := Try.prog) w 22 5 9 Try.underlying22 Try.underlying5 Try.underlying9 ao n c l h1 hn
  have r2 := run_convert_k (P := Try.prog) w 22 5 9 Try.underlying22 Try.underlying5 Try.underlying9 bo m d k h2 hm
  go_enter Try.func28, Try.ntmps28
  go_wp2
  go_ret
  exact ⟨ret_bool' (by rw [Bool.eq_iff_iff]; simp), rfl⟩
theorem lit_reads (w : World) (cs : Array Value) (l : List UInt8) (h : cs.toList = bts l) : Reads (w.alloc (.cells cs 5)) (some ⟨w.heap.size, 0, none⟩) (bts l) := reads_new w cs 5 (0, 0) l h
set_option maxRecDepth 20000 in
theorem awake_any (w : World) : Calls Try.prog 9 #[] w fun e w' => e = .returned (.bool true) ∧ Chg [] w w' := by
  have g0 := Chg.alloc [] w (.cells #[.int .u8 1, .int .u8 0, .int .u8 2] 5)
  have hr := lit_reads w #[.int .u8 1, .int .u8 0, .int .u8 2] [1, 0, 2] rfl
  have cN := r_new w.heap.size _ 3 3 [1, 0, 2] _ hr rfl (by decide) (by decide) g0.size (fun _ => 9) 0
  have T1 := mkHid (show allocN [1, 0, 2] [1, 0, 2] = (1, 0, [1, 1, 2]) by decide +kernel)
  have T2 := mkHid (show allocN [1, 1, 2] [1, 0, 2] = (0, 8, [1, 1, 2]) by decide +kernel)
  have T3 := mkHid (show decN [1, 1, 2] 1 = (true, 0, [1, 0, 2]) by decide +kernel)
  have T5 := mkHid (show decN [1, 1, 2] 0 = (true, 0, [0, 1, 2]) by decide +kernel)
  have T6 := mkHid (show allocN [0, 1, 2] [1, 0, 2] = (0, 8, [0, 1, 2]) by decide +kernel)
  have T7 := mkHid (show allocN [0, 1, 2] [0, 1, 2] = (0, 0, [1, 1, 2]) by decide +kernel)
  clear hr
  go_enter Try.func9, Try.ntmps9
  go_wp2_with fail
  refine cN.mono ?_
  rintro e w1 ⟨rb, rfl, t1, h1, s1⟩
  have q1 := g0.then s1.1
  clear cN g0 s1
  go_wp2_with fail
  have c2 := r_alloc h1
  rw [T1.out] at c2
  refine c2.mono ?_
  rintro e w2 ⟨rfl, t2, h2, s2⟩
  have q2 := s2.base q1
  clear c2 h1 s2 q1
  go_wp2_with fail
  have c3 := r_alloc h2
  rw [T2.out] at c3
  refine c3.mono ?_
  rintro e w3 ⟨rfl, t3, h3, s3⟩
  have q3 := s3.base q2
  clear c3 h2 s3 q2
  go_wp2_with fail
  have c4 := r_dec h3 1
  rw [T3.out] at c4
  refine c4.mono ?_
  rintro e w4 ⟨rfl, t4, h4, s4⟩
  have q4 := s4.base q3
  clear c4 h3 s4 q3
  go_wp2_with fail
  have c5 := r_alloc h4
  rw [T1.out] at c5
  refine c5.mono ?_
  rintro e w5 ⟨rfl, t5, h5, s5⟩
  have q5 := s5.base q4
  clear c5 h4 s5 q4
  go_wp2_with fail
  have c6 := r_dec h5 0
  rw [T5.out] at c6
  refine c6.mono ?_
  rintro e w6 ⟨rfl, t6, h6, s6⟩
  have q6 := s6.base q5
  clear c6 h5 s6 q5
  go_wp2_with fail
  have c7 := r_alloc h6
  rw [T6.out] at c7
  refine c7.mono ?_
  rintro e w7 ⟨rfl, t7, h7, s7⟩
  have q7 := s7.base q6
  clear c7 h6 s7 q6
  go_wp2_with fail
  refine (r_commit h7).mono ?_
  rintro e w8 ⟨rfl, t8, h8, s8⟩
  have q8 := s8.base q7
  clear h7 s8 q7
  go_wp2_with fail
  have c9 := r_alloc h8
  rw [T7.out] at c9
  refine c9.mono ?_
  rintro e w9 ⟨rfl, t9, h9, s9⟩
  have q9 := s9.base q8
  clear c9 h8 s9 q8
  go_wp2_with fail
  refine (r_counts h9 1).mono ?_
  rintro e w10 ⟨b, rfl, t10, h10, s10⟩
  have q10 := q9.then s10.1
  have r1 := run_convert_k (P := Try.prog) w10 22 5 9 Try.underlying22 Try.underlying5 Try.underlying9 (some ⟨b, 0, none⟩) 3 3 [1, 1, 2] h10.1.reads rfl
  clear h9 s10 q9 h10
  go_wp2_with fail
  go_ret
  exact ⟨ret_bool' (by first | rfl | decide +kernel), q10⟩
end Go.Proofs.Ytppjjlooocigdaa
