/- Texts Txz of the library, joined. -/
import Derived.Test.YtoeijomelabbfaaGreatDoorM27
/- TxnKnown. -/
namespace Go.Proofs.YtoeijomelabbfaaGreatDoor
set_option maxRecDepth 200000
open Go.RowKit
set_option linter.unusedVariables false
set_option linter.unusedSimpArgs false
attribute [local go_sem ↓] Go.wp_at_zero Go.wp_at_succ

theorem v_read256 {w0 w : World} {tag : Nat → Nat} {i db : Nat} {st : RS} (h : HasDev w0 w tag i db st) (A : Nat) (hw : whyN st A = 0) : Calls Tryz.prog 47 #[.pointer (some ⟨db, 0, none⟩), .int .i64 A] w fun e w' => ∃ rb, e = .returned (.tuple #[.slice (some ⟨rb, 0, none⟩) 256 256, .int .i64 0]) ∧ Room w' w.heap.size (some ⟨rb, 0, none⟩) 256 256 (bts (reads st A 4)) ∧ Chg [] w w' := by
  obtain ⟨g, fa, cf, d, hW, ht⟩ := h
  exact dread_at A w0.heap.size db g fa cf st w d hW hw
theorem P0_become (st1 : RS) : let P : Pool := ⟨[], st1, A16, F16, firstS 16, firstS 16, false⟩
    becomeA P { P.now with D := 16 } = (1, P) ∧ becomeA P { P.now with X := 0 } = (1, P) ∧ becomeA P { P.now with X := 4611686018427387904 } = (1, P) ∧ becomeA P { P.now with D := 4 } = (0, { P with now := ⟨1, 16, 4, 1⟩ }) ∧ becomeA { P with now := ⟨1, 16, 4, 1⟩ } ⟨1, 16, 4, 9⟩ = (0, { P with now := ⟨1, 16, 4, 9⟩ }) ∧ abortA { P with now := ⟨1, 16, 4, 9⟩ } = (0, ⟨[], st1, F16, F16, firstS 16, firstS 16, false⟩) := by
  intro P
  have m1 : SB.may { firstS 16 with D := 16 } = false := by decide
  have m2 : SB.may { firstS 16 with X := 0 } = false := by decide
  have m3 : SB.may { firstS 16 with X := 4611686018427387904 } = false := by decide
  have m4 : SB.may { firstS 16 with D := 4 } = true := by decide
  have m5 : SB.may ⟨1, 16, 4, 9⟩ = true := by decide
  refine ⟨?_, ?_, ?_, ?_, ?_, ?_⟩
  · show (if false = true then _ else if SB.may { firstS 16 with D := 16 } = true then _ else _) = _
    rw [m1]; rfl
  · show (if false = true then _ else if SB.may { firstS 16 with X := 0 } = true then _ else _) = _
    rw [m2]; rfl
  · show (if false = true then _ else if SB.may { firstS 16 with X := 4611686018427387904 } = true then _ else _) = _
    rw [m3]; rfl
  · show (if false = true then _ else if SB.may { firstS 16 with D := 4 } = true then _ else _) = _
    rw [m4]; rfl
  · show (if false = true then _ else if SB.may ⟨1, 16, 4, 9⟩ = true then _ else _) = _
    rw [m5]; rfl
  · rfl
section
variable {w0 w : World} {tag : Nat → Nat} {tb db cb rb n m u : Nat} {P : Pool} (h : HasPool w0 w tag tb db cb rb n m u P) (ho : P.over = true)
include h ho
theorem xabort_over : Calls Tryz.prog 31 #[.pointer (some ⟨tb, 0, none⟩)] w fun e w' => e = .returned (.int .i64 32) ∧ ∃ tag', HasPool w0 w' tag' tb db cb rb n m u P ∧ TurnP w0.heap.size tag tag' w w' := by
  have := xabort h
  rw [show abortA P = (32, P) from if_pos ho] at this
  exact this
theorem xsetdir_over (r : Nat) : Calls Tryz.prog 25 #[.pointer (some ⟨tb, 0, none⟩), .int .u64 (r : Int)] w fun e w' => e = .returned (.int .i64 32) ∧ ∃ tag', HasPool w0 w' tag' tb db cb rb n m u P ∧ Turn w0.heap.size tag tag' 6 w w' := by
  have := xsetdir h r
  rw [show becomeA P { P.now with D := r } = (32, P) from if_pos ho] at this
  exact this
theorem xsetnext_over (r : Nat) : Calls Tryz.prog 27 #[.pointer (some ⟨tb, 0, none⟩), .int .u64 (r : Int)] w fun e w' => e = .returned (.int .i64 32) ∧ ∃ tag', HasPool w0 w' tag' tb db cb rb n m u P ∧ Turn w0.heap.size tag tag' 6 w w' := by
  have := xsetnext h r
  rw [show becomeA P { P.now with X := r } = (32, P) from if_pos ho] at this
  exact this
end
theorem neq00 (u : World) : (binOp .neq 53 (.agg #[.int .u64 0, .int .i64 0, .int .u64 0, .int .u64 0]) (.agg #[.int .u64 0, .int .i64 0, .int .u64 0, .int .u64 0])).run Tryz.prog u = .ok (.bool false) u := by
  have := run_neq_sup u SB.none SB.none ⟨by decide, by decide, by decide, by decide, by decide⟩ ⟨by decide, by decide, by decide, by decide, by decide⟩
  simpa [SB.none] using this
theorem xsetdir_nil (w : World) (r : Int) : Calls Tryz.prog 25 #[.pointer none, .int .u64 r] w fun e w' => e = .returned (.int .i64 2) ∧ Chg [] w w' := by
  have cS := xsuper_nil w
  have cB : ∀ (u : World) (D : Int), Calls Tryz.prog 90 #[.pointer none, .agg #[.int .u64 0, .int .i64 0, .int .u64 D, .int .u64 0]] u fun e w' => e = .returned (.int .i64 2) ∧ Chg [] u w' := fun u D => by
    have cA := fun v => xasked_nil v
    go_enter Tryz.func90, Tryz.ntmps90
    go_wp2_with (first | (go_at_call 91; refine (cA _).mono ?_; rintro e w' ⟨rfl, rfl⟩))
    go_ret
    exact ⟨rfl, Chg.alloc [] _ _⟩
  go_enter Tryz.func25, Tryz.ntmps25
  go_wp2_with fail
  refine cS.mono ?_
  rintro e w1 ⟨rfl, g1⟩
  have q := sup_laid w1 ⟨0, 0, 0, 0⟩
  obtain ⟨q0, q1, q2, q3⟩ := q
  have qf := fun j => frozen_of_row _ w1.heap.size j _ _ (heap_alloc_last w1 (supObj ⟨0, 0, 0, 0⟩))
  have f2 := qf 2
  have hl := heap_alloc_last w1 (.cells #[.int .u64 0, .int .i64 0, .int .u64 r, .int .u64 0] 53)
  have hc := fun j => cell_of_row _ w1.heap.size j _ _ _ hl
  have y0 : (w1.alloc (.cells #[.int .u64 0, .int .i64 0, .int .u64 r, .int .u64 0] 53)).cell? ⟨w1.heap.size, 0, none⟩ = some (.int .u64 0) := by rw [hc]; rfl
  have y1 : (w1.alloc (.cells #[.int .u64 0, .int .i64 0, .int .u64 r, .int .u64 0] 53)).cell? ⟨w1.heap.size, 1, none⟩ = some (.int .i64 0) := by rw [hc]; rfl
  have y2 : (w1.alloc (.cells #[.int .u64 0, .int .i64 0, .int .u64 r, .int .u64 0] 53)).cell? ⟨w1.heap.size, 2, none⟩ = some (.int .u64 r) := by rw [hc]; rfl
  have y3 : (w1.alloc (.cells #[.int .u64 0, .int .i64 0, .int .u64 r, .int .u64 0] 53)).cell? ⟨w1.heap.size, 3, none⟩ = some (.int .u64 0) := by rw [hc]; rfl
  unfold supObj at *
  dsimp only at *
  clear qf hc hl
  go_wp2_with fail
  refine (cB _ r).mono ?_
  rintro e w2 ⟨rfl, g2⟩
  go_wp2_with fail
  go_ret
  exact ⟨rfl, (g1.then (Chg.alloc [] _ _)).then g2⟩
theorem xsetnext_nil (w : World) (r : Int) : Calls Tryz.prog 27 #[.pointer none, .int .u64 r] w fun e w' => e = .returned (.int .i64 2) ∧ Chg [] w w' := by
  have cS := xsuper_nil w
  have cB : ∀ (u : World) (D : Int), Calls Tryz.prog 90 #[.pointer none, .agg #[.int .u64 0, .int .i64 0, .int .u64 0, .int .u64 D]] u fun e w' => e = .returned (.int .i64 2) ∧ Chg [] u w' := fun u D => by
    have cA := fun v => xasked_nil v
    go_enter Tryz.func90, Tryz.ntmps90
    go_wp2_with (first | (go_at_call 91; refine (cA _).mono ?_; rintro e w' ⟨rfl, rfl⟩))
    go_ret
    exact ⟨rfl, Chg.alloc [] _ _⟩
  go_enter Tryz.func27, Tryz.ntmps27
  go_wp2_with fail
  refine cS.mono ?_
  rintro e w1 ⟨rfl, g1⟩
  have q := sup_laid w1 ⟨0, 0, 0, 0⟩
  obtain ⟨q0, q1, q2, q3⟩ := q
  have qf := fun j => frozen_of_row _ w1.heap.size j _ _ (heap_alloc_last w1 (supObj ⟨0, 0, 0, 0⟩))
  have f3 := qf 3
  have hl := heap_alloc_last w1 (.cells #[.int .u64 0, .int .i64 0, .int .u64 0, .int .u64 r] 53)
  have hc := fun j => cell_of_row _ w1.heap.size j _ _ _ hl
  have y0 : (w1.alloc (.cells #[.int .u64 0, .int .i64 0, .int .u64 0, .int .u64 r] 53)).cell? ⟨w1.heap.size, 0, none⟩ = some (.int .u64 0) := by rw [hc]; rfl
  have y1 : (w1.alloc (.cells #[.int .u64 0, .int .i64 0, .int .u64 0, .int .u64 r] 53)).cell? ⟨w1.heap.size, 1, none⟩ = some (.int .i64 0) := by rw [hc]; rfl
  have y2 : (w1.alloc (.cells #[.int .u64 0, .int .i64 0, .int .u64 0, .int .u64 r] 53)).cell? ⟨w1.heap.size, 2, none⟩ = some (.int .u64 0) := by rw [hc]; rfl
  have y3 : (w1.alloc (.cells #[.int .u64 0, .int .i64 0, .int .u64 0, .int .u64 r] 53)).cell? ⟨w1.heap.size, 3, none⟩ = some (.int .u64 r) := by rw [hc]; rfl
  unfold supObj at *
  dsimp only at *
  clear qf hc hl
  go_wp2_with fail
  refine (cB _ r).mono ?_
  rintro e w2 ⟨rfl, g2⟩
  go_wp2_with fail
  go_ret
  exact ⟨rfl, (g1.then (Chg.alloc [] _ _)).then g2⟩
set_option maxHeartbeats 20000000 in
theorem known_core (w : World) (hT : Tab w) : Calls Tryz.prog 5 #[] w fun e w' => e = .returned (.bool true) ∧ Chg [] w w' := by
  have cN := v_new 15 (by decide) w w (Chg.refl _ _) tag0 8
  have hneq := neq00
  go_enter Tryz.func5, Tryz.ntmps5
  go_wp2_with fail
  refine cN.mono ?_
  rintro e w1 ⟨sm, rfl, t1, hD1, s1⟩
  have cO := fun u => open_nil 1 u
  have cA := awake_any w1 (hT.then s1.1)
  clear cN
  go_wp2_with (first | (go_at_call 12; refine (cO _).mono ?_; rintro e w' ⟨rfl, rfl⟩))
  refine cA.mono ?_
  rintro e w2 ⟨rfl, g2⟩
  have cFn := format_nil w2
  have cFs := format_small (hD1.still (Still.of (tag := t1) g2)) (by decide)
  have n1 := xcommit_nil w2
  have n2 := xabort_nil w2
  have n3 := xsetdir_nil w2 0
  clear cO cA
  go_wp2_with (first
    | (go_at_call_of 9 (Value.pointer none); refine cFn.mono ?_; rintro e w' ⟨rfl, rfl⟩)
    | (go_at_call_of 9 (Value.pointer (some ⟨sm, 0, none⟩)); refine cFs.mono ?_; rintro e w' ⟨rfl, rfl⟩)
    | (go_at_call 29; refine n1.mono ?_; rintro e w' ⟨rfl, rfl⟩)
    | (go_at_call 31; refine n2.mono ?_; rintro e w' ⟨rfl, rfl⟩))
  refine n3.mono ?_
  rintro e w3 ⟨rfl, g3⟩
  have n4 := xsetnext_nil w3 1
  go_wp2_with fail
  refine n4.mono ?_
  rintro e w4 ⟨rfl, g4⟩
  clear cFn cFs n1 n2 n3 n4
  have n5 := xover_nil w4
  have n6 := xfree_nil w4
  have n7 := xrefs_nil w4
  have n8 := xcache_nil w4
  have n9 := xshelf_nil w4
  have n10 := xsuper_nil w4
  go_wp2_with (first
    | (go_at_call 45; refine n5.mono ?_; rintro e w' ⟨rfl, rfl⟩)
    | (go_at_call 44; refine n6.mono ?_; rintro e w' ⟨rfl, rfl⟩)
    | (go_at_call 14; refine n7.mono ?_; rintro e w' ⟨rfl, rfl⟩)
    | (go_at_call 17; refine n8.mono ?_; rintro e w' ⟨rfl, rfl⟩)
    | (go_at_call 46; refine n9.mono ?_; rintro e w' ⟨rfl, rfl⟩))
  refine n10.mono ?_
  rintro e w5 ⟨rfl, g5⟩
  have G5 := (((s1.1.then g2).then g3).then g4).then g5
  clear n5 n6 n7 n8 n9 n10 g2 g3 g4 g5 hD1 s1
  obtain ⟨st1, hF, hS, hL, hg, hl, hc, hf⟩ := format16
  have cN := v_new 16 (by decide) w w5 G5 tag0 2
  have b5 := (base0 w).keep G5
  clear hneq
  go_wp2_with fail
  refine cN.mono ?_
  rintro e w6 ⟨db, rfl, t6, hD6, s6⟩
  have b6 := b5.still s6
  have cF := format_any hD6 b6 hT (by decide) (by decide)
  rw [hF] at cF
  dsimp only at cF
  clear cN G5 b5
  go_wp2_with fail
  refine cF.mono ?_
  rintro e w7 ⟨rfl, t7, hD7, b7, T7⟩
  clear cF hF hD6 b6 s6 T7
  have o1 := open_arg hD7 hg 0 (by decide)
  have o2 := open_arg hD7 hg 1025 (by decide)
  have o3 := open_yes15 hD7 b7 hT hg 1 (by decide) 16 hc (firstS 16) F16 hf rfl
  go_wp2_with (first
    | (go_at_call_of 12 (Value.int .i64 0); refine o1.mono ?_; rintro e w' ⟨rfl, rfl⟩)
    | (go_at_call_of 12 (Value.int .i64 1025); refine o2.mono ?_; rintro e w' ⟨rfl, rfl⟩))
  refine o3.mono ?_
  rintro e w8 ⟨tb, cb, rb, rfl, t8, hP8, s8⟩
  obtain ⟨sb8, ht8⟩ := id hP8.t
  have cR := xrefs_yes ht8
  have cAl := p_alloc hP8
  dsimp only at cAl
  rw [a16.1, a16.2.1] at cAl
  clear o1 o2 o3 hD7 b7 ht8
  go_wp2_with (first | (go_at_call 14; refine cR.mono ?_; rintro e w' ⟨rfl, rfl⟩))
  refine cAl.mono ?_
  rintro e w9 ⟨rfl, t9, hP9, T9⟩
  obtain ⟨e1, e2, e3, e4, e5, e6⟩ := P0_become st1
  have cFr := xfree_yes hP9
  dsimp only at cFr
  rw [show (allocN F16 F16).2.2 = A16 from rfl, f16.2.1] at cFr
  rw [show (allocN F16 F16).2.2 = A16 from rfl] at hP9
  have cS1 := xsetdir hP9 16
  rw [e1] at cS1
  clear cR cAl hP8 s8 T9
  go_wp2_with (first | (go_at_call 44; refine cFr.mono ?_; rintro e w' ⟨rfl, rfl⟩))
  refine cS1.mono ?_
  rintro e w10 ⟨rfl, t10, hP10, T10⟩
  have cS2 := xsetnext hP10 0
  rw [e2] at cS2
  clear cS1 cFr hP9 T10
  go_wp2_with fail
  refine cS2.mono ?_
  rintro e w11 ⟨rfl, t11, hP11, T11⟩
  have cS3 := xsetnext hP11 4611686018427387904
  rw [e3] at cS3
  clear cS2 hP10 T11
  go_wp2_with fail
  refine cS3.mono ?_
  rintro e w12 ⟨rfl, t12, hP12, T12⟩
  have cS4 := xsetdir hP12 4
  rw [e4] at cS4
  clear cS3 hP11 T12
  go_wp2_with fail
  refine cS4.mono ?_
  rintro e w13 ⟨rfl, t13, hP13, T13⟩
  have cS5 := xsetnext hP13 9
  dsimp only at cS5
  rw [e5] at cS5
  clear cS4 hP12 T13
  go_wp2_with fail
  refine cS5.mono ?_
  rintro e w14 ⟨rfl, t14, hP14, T14⟩
  obtain ⟨sb14, ht14⟩ := id hP14.t
  have cSp := fun (u : World) (c : Chg [] w14 u) => xsuper_yes (ht14.chg c (by simp))
  dsimp only at cSp
  have hf2 := fun u => field_sup2 u (.int .u64 1) (.int .i64 16) (.int .u64 4) (.int .u64 9)
  have hf3 := fun u => field_sup3 u (.int .u64 1) (.int .i64 16) (.int .u64 4) (.int .u64 9)
  clear cS5 hP13 T14 ht14
  go_wp2_with fail
  refine (cSp w14 (Chg.refl _ _)).mono ?_
  rintro e w15 ⟨rfl, g15⟩
  go_wp2_with fail
  refine (cSp w15 g15).mono ?_
  rintro e w16 ⟨rfl, g16⟩
  have hP16 := hP14.still (still_mark t14 9 (g15.then g16))
  have cAb := xabort hP16
  rw [e6] at cAb
  dsimp only at cAb
  clear cSp hP14 g15 g16 e1 e2 e3 e4 e5 e6
  go_wp2_with fail
  refine cAb.mono ?_
  rintro e w17 ⟨rfl, t17, hP17, T17⟩
  clear hf2 hf3
  have cFr := xfree_yes hP17
  dsimp only at cFr
  rw [f16.1] at cFr
  obtain ⟨sb17, ht17⟩ := id hP17.t
  have cSp := xsuper_yes ht17
  unfold firstS at cSp
  dsimp only at cSp
  have hf3 := fun u => field_sup3 u (.int .u64 1) (.int .i64 16) (.int .u64 0) (.int .u64 1)
  clear cAb hP16 T17 ht17
  go_wp2_with (first | (go_at_call 44; refine cFr.mono ?_; rintro e w' ⟨rfl, rfl⟩))
  refine cSp.mono ?_
  rintro e w18 ⟨rfl, g18⟩
  have hP18 := hP17.still (still_mark t17 9 g18)
  generalize mark t17 w17.heap.size 9 = t18 at *
  clear cFr cSp hP17 g18
  have cN := v_new 20 (by decide) w w18 hP18.b.c t18 7
  go_wp2_with fail
  refine cN.mono ?_
  rintro e w19 ⟨mb, rfl, t19, hD19, s19⟩
  have hP19 := hP18.still s19
  clear cN hP18 s19 hf3
  go_wp2_with fail
  go_loopw [194] (fun iv wr => ∃ (k : Nat) (tg : Nat → Nat) (sk : RS), iv = .int .i64 k ∧ k ≤ 16 ∧ HasPool w wr tg tb db cb rb 16 1 0 ⟨[], st1, F16, F16, firstS 16, firstS 16, false⟩ ∧ HasDev w wr tg 7 mb sk ∧ sk.count = 20 ∧ sk.gone = false ∧ sk.left = 0 ∧ sk.L.length = 4 * k ∧ ∀ y, y < k → reads sk y 4 = reads st1 y 4) (fun iv _ => 16 - (Go.RowKit.intOf iv).toNat)
  case atStart => exact ⟨0, t19, RS.new 20, rfl, by decide, hP19, hD19, rfl, rfl, rfl, rfl, fun y hy => by omega⟩
  case round =>
    clear hP19 hD19
    obtain ⟨k, tg, sk, rfl, hk, hP, hD, k1, k2, k3, k4, k5⟩ := hrel
    by_cases hlt : k < 16
    · have d1 : decide (k < 16) = true := decide_eq_true hlt
      have d2 : decide ((k : Int) < 16) = true := decide_eq_true (by omega)
      have cR := v_read256 hP.p.dev k (why_in hg (by omega))
      have hl256 := reads_256 hS (show k < st1.count by omega)
      obtain ⟨R, hR⟩ : ∃ R, reads st1 k 4 = R := ⟨_, rfl⟩
      rw [hR] at cR hl256
      have HRR := mkHid hR
      have HKK := mkHid (And.intro k1 (And.intro k2 (And.intro k3 (And.intro k4 k5))))
      clear hR k1 k2 k3 k4 k5
      go_wp2_with fail
      refine cR.mono ?_
      rintro e wa ⟨rq, rfl, hrq, ga⟩
      have sa := still_mark tg 9 ga
      have tq : mark tg wr.heap.size 9 rq = 9 := mark_new _ _ _ _ (hrq.lt rq (by rw [fp_some _ _ _ (by decide)]; simp)).1
      have lq := (hrq.lt rq (by rw [fp_some _ _ _ (by decide)]; simp)).2
      have hDa := hD.still sa
      have hPa := hP.still sa
      have cW := v_write hDa hPa.b.c k (by rw [HKK.out.2.2.2.1]; omega) (some ⟨rq, 0, none⟩) 256 256 R hrq.reads hl256 (Nat.le_refl _) (by decide) (fun j hj => by simp [blk] at hj; subst hj; rw [tq]; exact ⟨by decide, lq⟩)
      have ew := write_plain sk k R HKK.out.2.1 HKK.out.2.2.1 (by rw [HKK.out.1]; omega) hl256
      rw [ew] at cW
      dsimp only at cW
      have H256 := mkHid hl256
      clear cR ew hD hP tq lq sa hl256
      go_wp2_with fail
      refine cW.mono ?_
      rintro e wb ⟨rfl, tg2, hD2, T2⟩
      have hP2 := hPa.stay T2 (by decide) (by decide) (by decide)
      go_wp2_with fail
      refine ⟨⟨k + 1, tg2, _, by first | rfl | go_num, by omega, hP2, hD2, HKK.out.1, HKK.out.2.1, HKK.out.2.2.1, by show (sk.L ++ flies k R 4).length = _; rw [List.length_append, flies_len, HKK.out.2.2.2.1]; omega, fun y hy => ?_⟩, by simp [Go.RowKit.intOf]; omega⟩
      rw [reads_written sk k y R H256.out]
      by_cases hyk : y = k
      · rw [if_pos hyk, hyk, HRR.out]
      · rw [if_neg hyk]
        exact HKK.out.2.2.2.2 y (by omega)
    · have e : k = 16 := by omega
      subst e
      have d2 : decide ((16 : Int) < 16) = false := by decide
      have hsl : ∀ i, i < 2 → slotB sk i = slotB st1 i := fun i hi => by
        unfold slotB
        rw [if_pos (by omega), if_pos (by omega), k5 i (by omega)]
      have hno := found_other hf hsl (by omega)
      have cO := open_pool hD hP.b (by decide) hT k2 1 (by decide) hno
      clear hD hsl hno k1 k2 k3 k4 k5
      go_wp2_with fail
      refine cO.mono ?_
      rintro e w20 ⟨rfl, g20⟩
      have hP20 := hP.still (still_mark tg 9 g20)
      obtain ⟨sb20, ht20⟩ := id hP20.t
      have cR := xrefs_yes ht20
      have cD := p_dec hP20 2
      dsimp only at cD
      clear cO hP g20 ht20
      go_wp2_with (first | (go_at_call 14; refine cR.mono ?_; rintro e w' ⟨rfl, rfl⟩))
      refine cD.mono ?_
      rintro e w21 ⟨rfl, t21, hP21, T21⟩
      have hm2 : (nextS (firstS 16)).may = true := by decide
      obtain ⟨K7, st7, e7, hc7, hl7, hf7⟩ := commit_good (n := 16) (m := 1) (P := ⟨[], st1, D16, F16, firstS 16, firstS 16, false⟩) (by decide) (by decide) rfl (calm_nil hS hg hl hc) rfl d16.1 hm2 rfl F16 ⟨firstS 16, hf, Nat.le_refl _⟩
      dsimp only at hf7
      rw [d16.2, if_neg (by decide)] at hf7
      rw [show (decN F16 2).2.2 = D16 from rfl] at hP21
      have cCm := xcommit hP21 hT (by decide) (by decide) (by simp) (by dsimp only; rw [hL]; decide)
      rw [e7] at cCm
      dsimp only at cCm
      clear cD cR e7 hP20 T21 hL hl hf hS
      go_wp2_with fail
      refine cCm.mono ?_
      rintro e w22 ⟨rfl, t22, hP22, T22⟩
      have cO := open_pool hP22.p.dev hP22.b (by decide) hT hc7.g.g 1 (by decide) hf7
      clear cCm hP21 T22
      go_wp2_with fail
      refine cO.mono ?_
      rintro e w23 ⟨rfl, g23⟩
      have hP23 := hP22.still (still_mark t22 9 g23)
      generalize mark t22 w22.heap.size 9 = t23 at *
      have cFu := p_fuse hP23.p hP23.b (by decide) 1 (by decide)
      clear cO hP22 g23 hf7
      go_wp2_with fail
      refine cFu.mono ?_
      rintro e w24 ⟨rfl, t24, p24, T24⟩
      have hP24 := hP23.pair p24 T24
      dsimp only at hP24
      have hm3 : (nextS (nextS (firstS 16))).may = true := by decide
      have h9 := lay_fused (n := 16) (m := 1) (by decide) (by decide) hc7 (nextS (nextS (firstS 16))) hm3 rfl D16 d16.1
      have hk7 : K7.length ≤ 1 := hc7.l
      have cCm := xcommit hP24 hT (by decide) (by decide) (by dsimp only; omega) (by dsimp only; rw [hl7]; decide)
      unfold commitA at cCm
      dsimp only at cCm
      rw [if_neg (by decide), if_pos hm3, if_neg (by rw [show (1 : Int).toNat = 1 from rfl, h9]; decide)] at cCm
      rw [show (1 : Int).toNat = 1 from rfl, h9] at cCm
      obtain ⟨⟨v9, K9, st9⟩, hr9⟩ : ∃ r, layA 1 (nextS (nextS (firstS 16))) D16 (K7, { st7 with left := 1 }) = r := ⟨_, rfl⟩
      rw [hr9] at cCm
      dsimp only at cCm
      clear cFu hP23 p24 T24 h9 hr9 hc7 hl7 hk7
      go_wp2_with fail
      refine cCm.mono ?_
      rintro e w25 ⟨rfl, t25, hP25, T25⟩
      obtain ⟨sb25, ht25⟩ := id hP25.t
      have cOv := xover_yes ht25
      have cC2 := xcommit_over hP25 rfl
      have cAb := xabort_over hP25 rfl
      dsimp only at cOv
      clear cCm hP24 T25 ht25
      go_wp2_with (first
        | (go_at_call 45; refine cOv.mono ?_; rintro e w' ⟨rfl, rfl⟩)
        | (go_at_call 29; refine cC2.mono ?_; rintro e w' ⟨rfl, rfl⟩))
      refine cAb.mono ?_
      rintro e w26 ⟨rfl, t26, hP26, T26⟩
      have cS := xsetdir_over hP26 rfl 0
      clear cAb cC2 cOv hP25 T26
      go_wp2_with fail
      refine cS.mono ?_
      rintro e w27 ⟨rfl, t27, hP27, T27⟩
      have cX := xsetnext_over hP27 rfl 1
      clear cS hP26 T27
      go_wp2_with fail
      refine cX.mono ?_
      rintro e w28 ⟨rfl, t28, hP28, T28⟩
      go_wp2_with fail
      go_ret
      exact ⟨by simp, hP28.b.c⟩
end Go.Proofs.YtoeijomelabbfaaGreatDoor
