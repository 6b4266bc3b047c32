/- CountsKnown. -/
import Derived.Test.YtkfpkbmkmbnjcaaVq
namespace Go.Proofs.Ytkfpkbmkmbnjcaa
open Go.RowKit
set_option linter.unusedVariables false
set_option linter.unusedSimpArgs false
attribute [local go_sem ↓] Go.wp_at_zero Go.wp_at_succ

theorem noughts (n : Nat) (nn : n ≤ 2000) (z : Int) (hz : z = (n : Int)) : ∃ O : Obj, (∀ u : World, (Instr.makeSlice 22 (.int .i64 z) (.int .i64 z)).run Try.prog u = .ok (.slice (some ⟨u.heap.size, 0, none⟩) n n) (u.alloc O)) ∧ ∀ u : World, Reads (u.alloc O) (some ⟨u.heap.size, 0, none⟩) (bts (List.replicate n 0)) := by
  subst hz
  refine ⟨_, fun u => run_make_k eltB (.int .u8 0) (by kernel_rfl) rfl n (by omega) (by unfold maxLen; omega) u, fun u => ?_⟩
  have := (made_room u 5 (.int .u8 0) n (by unfold maxLen; omega)).reads
  have e : bts (List.replicate n 0) = List.replicate n (.int .u8 0) := by simp [bts]
  rw [e]
  exact this
theorem take_few {ps : List (List UInt8)} {n : Nat} (hn : n ≤ 1024) (h : ps.length < npg n) : takeN ps (n : Int) = (4, []) := by unfold takeN; rw [if_neg (by omega), Int.toNat_natCast, if_pos h]
theorem take_many {ps : List (List UInt8)} {n : Nat} (hn : n ≤ 1024) (h : npg n < ps.length) : takeN ps (n : Int) = (3, []) := by unfold takeN; rw [if_neg (by omega), Int.toNat_natCast, if_neg (by omega), if_pos h]
set_option maxRecDepth 20000 in
set_option maxHeartbeats 4000000 in
theorem known_any (w : World) : Calls Try.prog 6 #[] w fun e w' => e = .returned (.bool true) ∧ Chg [] w w' := by
  obtain ⟨O1, m1, r1⟩ := noughts 241 (by decide) 241 rfl
  obtain ⟨O2, m2, r2⟩ := noughts 239 (by decide) 239 rfl
  have hL : (List.replicate 241 (0 : UInt8)).length = 241 := by simp
  have hM : (List.replicate 239 (0 : UInt8)).length = 239 := by simp
  generalize List.replicate 241 (0 : UInt8) = L at *
  generalize List.replicate 239 (0 : UInt8) = M at *
  have HL := mkHid hL
  have HM := mkHid hM
  have R1 := mkHid r1
  have R2 := mkHid r2
  have E1 := mkHid (show npgZ 1024 = 5 by decide +kernel)
  have E2 := mkHid (show npgZ (-5) = 0 by decide +kernel)
  have E3 := mkHid (show npgZ 9223372036854775807 = 38430716820228233 by decide +kernel)
  clear hL hM r1 r2
  go_enter Try.func6, Try.ntmps6
  go_wp2_with fail
  have g0 := Chg.alloc [] w O1
  have hR := R1.out w
  generalize w.alloc O1 = w1 at *
  generalize w.heap.size = b0 at *
  refine (put_any (some ⟨b0, 0, none⟩) 241 241 L w1 hR HL.out (by decide) (by decide)).mono ?_
  rintro e w2 ⟨ao, cc, bs, ps, rfl, hP, hO, g2⟩
  have q2 := g0.then g2
  have hpl : ps.length = 2 := hP.1
  have hRd := hO.read
  rw [hpl]
  have HPL := mkHid hpl
  have T1 := mkHid (take_many (ps := ps) (n := 240) (by decide) (by rw [hpl]; decide))
  have T2 := mkHid (take_few (ps := ps) (n := 481) (by decide) (by rw [hpl]; decide))
  clear hP hO g0 g2 hR hpl
  go_wp2_with fail
  have g3 := Chg.alloc [] w2 O1
  have q3 := q2.then g3
  have hRd3 := hRd.keep g3
  have hR3 := R1.out w2
  generalize w2.alloc O1 = w3 at *
  generalize w2.heap.size = b3 at *
  refine (page_no (some ⟨b3, 0, none⟩) 241 241 L 2 w3 hR3 HL.out (by decide) (by decide) (Or.inr (by decide))).mono ?_
  rintro e w4 ⟨rfl, g4⟩
  have q4 := q3.then g4
  have hRd4 := hRd3.keep g4
  clear q2 q3 hRd hRd3 hR3 g3 g4
  go_wp2_with fail
  refine (page_no none 0 0 [] 0 w4 (Reads.nil _ _) rfl (by decide) (by decide) (Or.inr (by decide))).mono ?_
  rintro e w5 ⟨rfl, g5⟩
  have q5 := q4.then g5
  have hRd5 := hRd4.keep g5
  clear q4 hRd4 g5
  go_wp2_with fail
  have c6 := take_any ao 2 cc ps 240 w5 hRd5 HPL.out (by decide)
  rw [show takeN ps 240 = (3, []) from T1.out] at c6
  refine c6.mono ?_
  rintro e w6 ⟨⟨a6, k6, rfl, -⟩, g6⟩
  have q6 := q5.then g6
  have hRd6 := hRd5.keep g6
  clear q5 hRd5 g6 c6
  go_wp2_with fail
  have c7 := take_any ao 2 cc ps 481 w6 hRd6 HPL.out (by decide)
  rw [show takeN ps 481 = (4, []) from T2.out] at c7
  refine c7.mono ?_
  rintro e w7 ⟨⟨a7, k7, rfl, -⟩, g7⟩
  have q7 := q6.then g7
  clear q6 hRd6 g7 c7
  go_wp2_with fail
  have gp : Chg [] w7 ((w7.alloc O2).alloc (.cells #[.slice (some ⟨w7.heap.size, 0, none⟩) 239 239] 22)) := (Chg.alloc [] w7 _).then (Chg.alloc [] _ _)
  have hxr : RdPg ((w7.alloc O2).alloc (.cells #[.slice (some ⟨w7.heap.size, 0, none⟩) 239 239] 22)) (some ⟨w7.heap.size + 1, 0, none⟩) [M] := by
    refine ⟨[.slice (some ⟨w7.heap.size, 0, none⟩) 239 239], rfl, ?_, fun i p hp => ?_⟩
    · have := Reads.new (w7.alloc O2) #[.slice (some ⟨w7.heap.size, 0, none⟩) 239 239] 22
      rw [show (w7.alloc O2).heap.size = w7.heap.size + 1 by simp] at this
      exact this
    · have hi : i = 0 := by have := (List.getElem?_eq_some_iff.1 hp).1; simp at this; omega
      subst hi
      simp only [List.getElem?_cons_zero, Option.some.injEq] at hp
      subst hp
      refine ⟨some ⟨w7.heap.size, 0, none⟩, 239, by rw [HM.out]; rfl, by rw [HM.out]; exact Nat.le_refl _, by rw [HM.out]; decide, (R2.out w7).keep (Chg.alloc [] _ _)⟩
  have tM : takeN [M] ((1 : Nat) : Int) = (5, []) := by
    unfold takeN
    rw [if_neg (by decide), Int.toNat_natCast, if_neg (show ¬ [M].length < npg 1 from Nat.lt_irrefl 1), if_neg (show ¬ npg 1 < [M].length from Nat.lt_irrefl 1), if_neg (by intro e; have := all240_iff.1 e 0 M rfl; rw [HM.out] at this; omega)]
  have q8 := q7.then gp
  have c8 := take_any (some ⟨w7.heap.size + 1, 0, none⟩) 1 1 [M] 1 _ hxr rfl (by decide)
  rw [show takeN [M] 1 = (5, []) from tM] at c8
  generalize (w7.alloc O2).alloc (.cells #[.slice (some ⟨w7.heap.size, 0, none⟩) 239 239] 22) = w8 at *
  generalize w7.heap.size = b7 at *
  clear q7 gp hxr tM
  refine c8.mono ?_
  rintro e w9 ⟨⟨a9, k9, rfl, -⟩, g9⟩
  have q9 := q8.then g9
  clear q8 g9 c8
  have nilP : ∀ u : World, RdPg u none [] := fun u => ⟨[], rfl, Reads.nil _ _, fun i p h => by simp at h⟩
  go_wp2_with fail
  have c10 := take_any none 0 0 [] (-1) w9 (nilP _) rfl (by decide)
  rw [take_out (Or.inl (by decide))] at c10
  refine c10.mono ?_
  rintro e w10 ⟨⟨a10, k10, rfl, -⟩, g10⟩
  have q10 := q9.then g10
  clear q9 g10 c10
  go_wp2_with fail
  have c11 := take_any none 0 0 [] 1025 w10 (nilP _) rfl (by decide)
  rw [take_out (Or.inr (by decide))] at c11
  refine c11.mono ?_
  rintro e w11 ⟨⟨a11, k11, rfl, -⟩, g11⟩
  have q11 := q10.then g11
  clear q10 g11 c11
  go_wp2_with fail
  have c12 := take_any none 0 0 [] 0 w11 (nilP _) rfl (by decide)
  rw [show takeN [] 0 = (0, []) by decide +kernel] at c12
  refine c12.mono ?_
  rintro e w12 ⟨⟨a12, k12, rfl, -⟩, g12⟩
  have q12 := q11.then g12
  clear q11 g12 c12 nilP
  go_wp2_with fail
  refine (pages_any 1024 w12 (by decide)).mono ?_
  rintro e w13 ⟨rfl, rfl⟩
  rw [E1.out]
  go_wp2_with fail
  refine (pages_any (-5) w12 (by decide)).mono ?_
  rintro e w13 ⟨rfl, rfl⟩
  rw [E2.out]
  go_wp2_with fail
  refine (pages_any 9223372036854775807 w12 (by decide)).mono ?_
  rintro e w13 ⟨rfl, rfl⟩
  rw [E3.out]
  go_wp2_with fail
  refine (wakes_any w12).mono ?_
  rintro e w14 ⟨rfl, g14⟩
  go_wp2_with fail
  go_ret
  exact ⟨ret_bool' (by first | rfl | simp), q12.then g14⟩
end Go.Proofs.Ytkfpkbmkmbnjcaa
