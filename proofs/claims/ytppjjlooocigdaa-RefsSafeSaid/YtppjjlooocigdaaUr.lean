/- RefsSafe. -/
import Derived.Test.YtppjjlooocigdaaUo
namespace Go.Proofs.Ytppjjlooocigdaa
open Go.RowKit
set_option linter.unusedVariables false
set_option linter.unusedSimpArgs false
attribute [local go_sem ↓] Go.wp_at_zero Go.wp_at_succ

theorem HasS.read {B : Nat} {w : World} {tag : Nat → Nat} {i : Nat} {ao : Option Addr} {n c : Nat} {l : List UInt8} (h : HasS B w tag i ao n c (bts l)) {x : Nat} {a : UInt8} {m : Nat} (ha : l[x]? = some a) (hm : a.toNat = m) : ∃ b o, ao = some ⟨b, o, none⟩ ∧ w.cell? ⟨b, o + x, none⟩ = some (.int .u8 (m : Int)) := by
  obtain ⟨b, o, e, hc, _⟩ := reads_lt h.1.reads x _ (bts_at ha hm)
  exact ⟨b, o, e, hc⟩
/-- An Alloc that hands out. -/
theorem alloc_yes {N C : List UInt8} {n : Nat} (hN : N.length = n) (hC : C.length = n) {x : Nat} {t : List Nat} (hf : freeL (freeI N C) = x :: t) :
    allocN N C = ((x : Int), 0, N.set x 1) ∧ x < n ∧ N[x]? = some 0 ∧ C[x]? = some 0 ∧ (freeL (freeI (N.set x 1) C)).length = t.length ∧ newN (N.set x 1) C (x : Int) = true ∧ ∀ j, j < x → (freeI N C)[j]? ≠ some true := by
  have hx := (mem_freeL _ x).1 (by rw [hf]; simp)
  obtain ⟨h1, h2⟩ := freeI_true.1 hx
  have hxn : x < n := by have := (List.getElem?_eq_some_iff.1 h1).1; omega
  refine ⟨by unfold allocN; rw [hf], hxn, h1, h2, ?_, ?_, fun j hj hm => ?_⟩
  · rw [freeI_set h1 h2]
    have e : ((1 : UInt8) == 0 && (0 : UInt8) == 0) = false := rfl
    rw [e, freeL_take hf]
  · unfold newN
    rw [isIn_yes (n := n) (by simp [hN]) hxn, at0_of (List.getElem?_set_self (by omega)), at0_of h2]
    rfl
  · have hm2 := (mem_freeL _ j).2 hm
    have hp := freeL_lt (freeI N C)
    rw [hf] at hm2 hp
    rw [List.pairwise_cons] at hp
    rcases List.mem_cons.1 hm2 with e | e
    · omega
    · have := hp.1 j e; omega
theorem alloc_no {N C : List UInt8} (hf : freeL (freeI N C) = []) : allocN N C = (0, 8, N) ∧ ∀ j : Nat, (freeI N C)[j]? ≠ some true := by
  refine ⟨by unfold allocN; rw [hf], fun j hm => ?_⟩
  have := (mem_freeL _ j).2 hm
  rw [hf] at this
  cases this
theorem HasS.make {B : Nat} {w0 w : World} {ao : Option Addr} {n c : Nat} {xs : List Value} (tag : Nat → Nat) (j : Nat) (h : Room w B ao n c xs) (hf : ∀ k, k ∈ fp ao c → w0.heap.size ≤ k) (g : Chg [] w0 w) : HasS B w (mark tag w0.heap.size j) j ao n c xs ∧ Still tag (mark tag w0.heap.size j) w0 w :=
  ⟨⟨h, fun k hk => mark_new _ _ _ _ (hf k hk)⟩, g, fun k hk => mark_old _ _ _ _ hk⟩
set_option maxRecDepth 100000 in
set_option maxHeartbeats 40000000 in
theorem safe_core (a0 : Option Addr) (n c : Nat) (L : List UInt8) (a1 : Option Addr) (n1 c1 : Nat) (acts : Nat → ActD) (w : World) (g0 : Reads w a0 (bts L)) (gn : L.length = n) (gc : n ≤ c) (gr : c * 1 ≤ 140737488351232) (gn1 : n1 ≤ c1) (gr1 : c1 * 16 ≤ 140737488351232) (ga : ActsAt w a1 n1 acts) :
    Calls Try.prog 4 #[.slice a0 n c, .slice a1 n1 c1] w fun e w' => e = .returned (.bool true) ∧ Chg [] w w' := by
  by_cases hin : 0 < n ∧ n ≤ 1024
  · obtain ⟨n0, nn⟩ := hin
    have cN := r_new w.heap.size a0 n c L w g0 gn n0 nn (Nat.le_refl _) (fun _ => 9) 0
    go_enter Try.func4, Try.ntmps4
    go_wp2_with fail
    refine cN.mono ?_
    rintro e w1 ⟨rb, rfl, t1, h1, s1⟩
    have q1 := s1.1
    clear cN s1
    go_wp2_with fail
    refine (awake_any w1).mono ?_
    rintro e w2 ⟨rfl, gA⟩
    have h2 := h1.still (Still.of gA)
    have q2 := q1.then gA
    have g2 := g0.keep (q2.then (Chg.alloc [] w2 (.cells #[] 5)))
    have hml : n ≤ maxLen := by unfold maxLen; omega
    clear h1 q1 gA
    go_wp2_with (at_builtin; refine wpList_append_k _ rfl (.tmp 33) (.tmp 34) 22 rfl 5 1 eltB w.heap.size _ 0 0 [] rfl (Room.nil _ _ _) (by have := q2.size; simp; omega) a0 n c (bts L) rfl g2 (by rw [bts_length]; exact gn) (bts_one _) (by omega) (by omega) ?_; intro wa wc w3 hr3 hg3 hf3; simp only [Nat.zero_add, List.nil_append] at hr3)
    have g3 : Chg [] w2 w3 := (Chg.alloc [] w2 _).trans hg3 (by simp) (by rw [fp_zero]; simp)
    obtain ⟨hS3, s3⟩ := HasS.make (w0 := w2) t1 1 hr3 (fun k hk => by
      rcases hf3 with e | e
      · rw [e, fp_zero] at hk; cases hk
      · rw [e] at hk; simp at hk; omega) g3
    have h3 := h2.still s3
    have q3 := q2.then g3
    generalize mark t1 w2.heap.size 1 = t3 at *
    clear hr3 hg3 hf3 h2 q2 g2 g3 s3
    go_loopw [38, 7] (fun iv uv wr => ∃ (k : Nat) (wa : Option Addr) (wc : Nat) (tg : Nat → Nat) (j : Nat) (N C : List UInt8), iv = .int .i64 k ∧ uv = .slice wa n wc ∧ k ≤ n1 ∧ k ≤ 300 ∧ j ≠ 0 ∧ HasR w.heap.size wr tg 0 rb n N C ∧ HasS w.heap.size wr tg j wa n wc (bts C) ∧ Chg [] w wr) (fun iv _ _ => n1 - (intOf iv).toNat)
    case atStart => exact ⟨0, wa, wc, t3, 1, L, L, rfl, rfl, Nat.zero_le _, by omega, by decide, h3, hS3, q3⟩
    case round =>
      clear h3 hS3 q3
      obtain ⟨k, wa, wc, tg, j, N, C, rfl, rfl, hk, hk2, hj, hR, hS, hc⟩ := hrel
      by_cases hcont : k < n1 ∧ k < 300
      · obtain ⟨hlt, h300⟩ := hcont
        obtain ⟨b, o, rfl, hacts⟩ := ga (by omega)
        have hA := (hacts k hlt).keep hc
        clear hacts
        generalize acts k = A at *
        obtain ⟨a0c, a1c, aw0, aw1⟩ := hA
        have hd : decide (k < n1) = true := decide_eq_true hlt
        have hd2 : decide ((k : Int) < (n1 : Int)) = true := decide_eq_true (by omega)
        have hne3 : ((k : Int) == 300) = false := beq_eq_false_iff_ne.2 (by omega)
        go_upto_region 11 with fail
        generalize hab : wr.heap.size = ab
        generalize hW : wr.alloc _ = W
        have x0 : W.cell? ⟨ab, 0, none⟩ = some (.int .i64 A.wh) := by subst hW hab; simp
        have x1 : W.cell? ⟨ab, 1, none⟩ = some (.int .i64 A.num) := by subst hW hab; simp
        have hgW : Chg [] wr W := by subst hW; exact Chg.alloc [] _ _
        have sW : Still tg (mark tg wr.heap.size 1) wr W := ⟨hgW, fun k hk => mark_old _ _ _ _ hk⟩
        have tab : mark tg wr.heap.size 1 ab = 1 := mark_new _ _ _ _ (by omega)
        have hR1 := hR.still sW
        have hS1 := hS.still sW
        have hc1 := hc.then hgW
        generalize mark tg wr.heap.size 1 = tg1 at *
        clear hW a0c a1c hR hS hgW hab sW hc
        generalize hwh : A.wh = wh at *
        generalize A.num = num at *
        clear hwh
        go_wp2_with fail
        refine (r_counts hR1 1).mono ?_
        rintro e W2 ⟨ba, rfl, tg2, hA2, s2⟩
        have hR2 := hR1.still s2
        have hS2 := hS1.still s2
        have hc2 := hc1.then s2.1
        have y0 := s2.1.cellv x0 (by simp)
        have y1 := s2.1.cellv x1 (by simp)
        have tab2 : tg2 ab = 1 := (s2.2 ab (block_lt_of_cell x0)).trans tab
        clear hR1 hS1 hc1 x0 x1 tab s2
        go_wp2_with fail
        have hl := hR2.lens
        obtain ⟨q, hq⟩ : ∃ q, (freeL (freeI N C)).length = q := ⟨_, rfl⟩
        have hqn : q ≤ n := by have := freeL_le (freeI N C); rw [freeI_len hl.1 hl.2.1] at this; omega
        have cF := r_free hR2
        rw [hq] at cF
        have HL := mkHid hl
        clear hl
        refine cF.mono ?_
        rintro e W3 ⟨rfl, rfl⟩
        clear cF
        go_wp2_with fail
        have cD := do_any hR2 wh num
        have v1 : (n != n) = false := by simp
        have v2 : ((n : Int) != (n : Int)) = false := by simp
        by_cases w0 : wh = 0
        · have b0 : (wh == 0) = true := by simp [w0]
          have b3 : (wh == 3) = false := by simp [w0]
          have b4 : (wh == 4) = false := by simp [w0]
          have eD : doN wh num N C = (if (allocN N C).2.1 = 0 then (allocN N C).1 else -1, (allocN N C).2.2, C) := by rw [w0]; rfl
          rw [eD] at cD
          clear eD w0
          cases hf : freeL (freeI N C) with
          | nil =>
            as_aux_lemma =>
              obtain ⟨ea, hno⟩ := alloc_no hf
              rw [ea, if_neg (show ¬ ((8 : Int) = 0) by decide)] at cD
              simp only at cD
              have HN := mkHid hno
              clear ea hno hf hq
              refine cD.mono ?_
              rintro e W4 ⟨rfl, tg4, hR4, s4⟩
              have hS4 := hS2.stay s4 (Ne.symm hj)
              have hA4 := hA2.stay s4 (by decide)
              have hc4 := s4.base hc2
              have z0 := (s4.cellv y0 tab2 (by decide)).1
              clear cD hR2 hS2 hA2 hc2 y0 y1 tab2 s4
              go_wp2_with fail
              refine (r_counts hR4 1).mono ?_
              rintro e W5 ⟨bn, rfl, tg5, hB5, s5⟩
              have hR5 := hR4.still s5
              have hS5 := hS4.still s5
              have hA5 := hA4.still s5
              have hc5 := hc4.then s5.1
              have u0 := s5.1.cellv z0 (by simp)
              clear hR4 hS4 hA4 hc4 z0 s5
              go_wp2_with fail
              go_loopw [64] (fun v wx => ∃ j2 : Nat, v = .int .i64 j2 ∧ j2 ≤ n ∧ Chg [] W5 wx) (fun v _ => n - (intOf v).toNat)
              case atStart => exact ⟨0, rfl, Nat.zero_le _, Chg.refl _ _⟩
              case round =>
                obtain ⟨j2, rfl, hj2, gx⟩ := hrel
                have hR6 := hR5.still (Still.of gx)
                have hS6 := hS5.still (Still.of gx)
                have hA6 := hA5.still (Still.of gx)
                have hB6 := hB5.still (Still.of gx)
                have hc6 := hc5.then gx
                have k0 := gx.cellv u0 (by simp)
                clear u0 hR5 hS5 hA5 hB5 hc5
                by_cases hl2 : j2 < n
                · have hd3 : decide (j2 < n) = true := decide_eq_true hl2
                  have hd4 : decide ((j2 : Int) < (n : Int)) = true := decide_eq_true (by omega)
                  obtain ⟨cb, cm, hcb, hcm, hcm2⟩ := byte_at HL.out.2.1 hl2
                  obtain ⟨nb, nm, hnb, hnm, hnm2⟩ := byte_at HL.out.1 hl2
                  have hnf := HN.out j2
                  rw [freeI_get hnb hcb] at hnf
                  obtain ⟨wb, wo, rfl, cw⟩ := hS6.read hcb hcm
                  obtain ⟨b', o', e9, ca⟩ := hA6.read hnb hnm
                  cases e9
                  rw [Nat.zero_add] at ca
                  by_cases hc0 : cm = 0
                  · have hn0 : nm ≠ 0 := fun e => hnf (by rw [(u8_nat hcm 0).2 hc0, (u8_nat hnm 0).2 e]; rfl)
                    have p1 : ((cm : Int) == 0) = true := by simp; omega
                    have p2 : (cm == 0) = true := by simp; omega
                    have p3 : ((nm : Int) == 0) = false := by simp; omega
                    have p4 : (nm == 0) = false := by simp; omega
                    clear hcb hcm hnb hnm hnf hc0 hn0
                    go_wp2_with fail
                    go_quiet (fail)
                    go_wp2_with fail
                    exact ⟨⟨j2 + 1, by first | rfl | go_num, by omega, gx.then (Chg.drewN _ _)⟩, by simp [intOf]; omega⟩
                  · have p1 : ((cm : Int) == 0) = false := by simp; omega
                    have p2 : (cm == 0) = false := by simp; omega
                    clear hcb hcm hnb hnm hnf hc0
                    go_wp2_with fail
                    go_quiet (fail)
                    go_wp2_with fail
                    exact ⟨⟨j2 + 1, by first | rfl | go_num, by omega, gx.then (Chg.drewN _ _)⟩, by simp [intOf]; omega⟩
                · have hd3 : decide (j2 < n) = false := decide_eq_false (by omega)
                  have hd4 : decide ((j2 : Int) < (n : Int)) = false := decide_eq_false (by omega)
                  go_wp2_with fail
                  exact ⟨⟨k + 1, wa, wc, tg5, j, N, C, by first | rfl | go_num, rfl, by omega, by omega, hj, hR6, hS6, hc6⟩, by simp [intOf]; omega⟩
          | cons x t =>
            as_aux_lemma =>
              obtain ⟨ea, hxn, hx1, hx2, hfl, hnw, hno⟩ := alloc_yes HL.out.1 HL.out.2.1 hf
              rw [ea, if_pos rfl] at cD
              simp only at cD
              have hqt : q = t.length + 1 := by rw [← hq, hf]; simp
              have HN := mkHid hno
              have HW := mkHid hnw
              have HF := mkHid hfl
              have X1 := mkHid hx1
              have X2 := mkHid hx2
              have hq1 : 1 ≤ q := by omega
              have v3 : ((t.length : Int) != (q : Int) - 1) = false := by simp; omega
              clear ea hno hf hq hnw hfl hx1 hx2 hqt
              generalize t.length = tl at *
              refine cD.mono ?_
              rintro e W4 ⟨rfl, tg4, hR4, s4⟩
              have hS4 := hS2.stay s4 (Ne.symm hj)
              have hA4 := hA2.stay s4 (by decide)
              have hc4 := s4.base hc2
              have z0 := (s4.cellv y0 tab2 (by decide)).1
              clear cD hR2 hS2 hA2 hc2 y0 y1 tab2 s4
              go_wp2_with fail
              refine (r_counts hR4 1).mono ?_
              rintro e W5 ⟨bn, rfl, tg5, hB5, s5⟩
              have hR5 := hR4.still s5
              have hS5 := hS4.still s5
              have hA5 := hA4.still s5
              have hc5 := hc4.then s5.1
              have u0 := s5.1.cellv z0 (by simp)
              clear hR4 hS4 hA4 hc4 z0 s5
              go_wp2_with fail
              go_loopw [64] (fun v wx => ∃ j2 : Nat, v = .int .i64 j2 ∧ j2 ≤ n ∧ Chg [] W5 wx) (fun v _ => n - (intOf v).toNat)
              case atStart => exact ⟨0, rfl, Nat.zero_le _, Chg.refl _ _⟩
              case round =>
                obtain ⟨j2, rfl, hj2, gx⟩ := hrel
                have hR6 := hR5.still (Still.of gx)
                have hS6 := hS5.still (Still.of gx)
                have hA6 := hA5.still (Still.of gx)
                have hB6 := hB5.still (Still.of gx)
                have hc6 := hc5.then gx
                have k0 := gx.cellv u0 (by simp)
                clear u0 hR5 hS5 hA5 hB5 hc5
                by_cases hl2 : j2 < n
                · have hd3 : decide (j2 < n) = true := decide_eq_true hl2
                  have hd4 : decide ((j2 : Int) < (n : Int)) = true := decide_eq_true (by omega)
                  obtain ⟨cb, cm, hcb, hcm, hcm2⟩ := byte_at HL.out.2.1 hl2
                  obtain ⟨nb, nm, hnb, hnm, hnm2⟩ := byte_at HL.out.1 hl2
                  obtain ⟨wb, wo, rfl, cw⟩ := hS6.read hcb hcm
                  obtain ⟨b', o', e9, ca⟩ := hA6.read hnb hnm
                  cases e9
                  rw [Nat.zero_add] at ca
                  have o1 : decide ((x : Int) < 0) = false := decide_eq_false (by omega)
                  have o2 : decide ((x : Int) ≥ 0) = true := decide_eq_true (by omega)
                  have o3 : decide (0 ≤ (x : Int)) = true := decide_eq_true (by omega)
                  by_cases hjx : j2 = x
                  · subst hjx
                    obtain ⟨b', o', e9, cn⟩ := hB6.read (List.getElem?_set_self (by rw [HL.out.1]; exact hl2)) (m := 1) rfl
                    cases e9
                    rw [Nat.zero_add] at cn
                    have e1 : cm = 0 := by rw [X2.out] at hcb; cases hcb; exact hcm.symm
                    have e2 : nm = 0 := by rw [X1.out] at hnb; cases hnb; exact hnm.symm
                    have p1 : ((cm : Int) == 0) = true := by simp; omega
                    have p2 : (cm == 0) = true := by simp; omega
                    have p3 : ((nm : Int) == 0) = true := by simp; omega
                    have p4 : (nm == 0) = true := by simp; omega
                    have p5 : decide (j2 < j2) = false := by simp
                    have p6 : ((j2 : Int) == (j2 : Int)) = true := by simp
                    have p7 : ((j2 : Int) != (j2 : Int)) = false := by simp
                    clear hcb hcm hnb hnm e1 e2
                    go_wp2_with fail
                    go_quiet (fail)
                    go_wp2_with fail
                    exact ⟨⟨j2 + 1, by first | rfl | go_num, by omega, gx.then (Chg.drewN _ _)⟩, by simp [intOf]; omega⟩
                  · obtain ⟨b', o', e9, cn⟩ := hB6.read (show (N.set x 1)[j2]? = some nb by rw [List.getElem?_set_ne (fun h => hjx h.symm)]; exact hnb) hnm
                    cases e9
                    rw [Nat.zero_add] at cn
                    have p6 : ((j2 : Int) == (x : Int)) = false := by simp; omega
                    have p7 : ((j2 : Int) != (x : Int)) = true := by simp; omega
                    have p8 : (j2 == x) = false := by simp; omega
                    have p9 : ((nm : Int) != (nm : Int)) = false := by simp
                    have p10 : (nm != nm) = false := by simp
                    by_cases hjl : j2 < x
                    · have hnf := HN.out j2 hjl
                      rw [freeI_get hnb hcb] at hnf
                      have p5 : decide (j2 < x) = true := decide_eq_true hjl
                      have p11 : decide ((j2 : Int) < (x : Int)) = true := decide_eq_true (by omega)
                      by_cases hc0 : cm = 0
                      · have hn0 : nm ≠ 0 := fun e => hnf (by rw [(u8_nat hcm 0).2 hc0, (u8_nat hnm 0).2 e]; rfl)
                        have p1 : ((cm : Int) == 0) = true := by simp; omega
                        have p2 : (cm == 0) = true := by simp; omega
                        have p3 : ((nm : Int) == 0) = false := by simp; omega
                        have p4 : (nm == 0) = false := by simp; omega
                        clear hcb hcm hnb hnm hnf hc0 hn0 hjx
                        go_wp2_with fail
                        go_quiet (fail)
                        go_wp2_with fail
                        exact ⟨⟨j2 + 1, by first | rfl | go_num, by omega, gx.then (Chg.drewN _ _)⟩, by simp [intOf]; omega⟩
                      · have p1 : ((cm : Int) == 0) = false := by simp; omega
                        have p2 : (cm == 0) = false := by simp; omega
                        clear hcb hcm hnb hnm hnf hc0 hjx
                        go_wp2_with fail
                        go_quiet (fail)
                        go_wp2_with fail
                        exact ⟨⟨j2 + 1, by first | rfl | go_num, by omega, gx.then (Chg.drewN _ _)⟩, by simp [intOf]; omega⟩
                    · have p5 : decide (j2 < x) = false := decide_eq_false hjl
                      have p11 : decide ((j2 : Int) < (x : Int)) = false := decide_eq_false (by omega)
                      by_cases hc0 : cm = 0
                      · have p1 : ((cm : Int) == 0) = true := by simp; omega
                        have p2 : (cm == 0) = true := by simp; omega
                        by_cases hn0 : nm = 0
                        · have p3 : ((nm : Int) == 0) = true := by simp; omega
                          have p4 : (nm == 0) = true := by simp; omega
                          clear hcb hcm hnb hnm hc0 hn0 hjx hjl
                          go_wp2_with fail
                          go_quiet (fail)
                          go_wp2_with fail
                          exact ⟨⟨j2 + 1, by first | rfl | go_num, by omega, gx.then (Chg.drewN _ _)⟩, by simp [intOf]; omega⟩
                        · have p3 : ((nm : Int) == 0) = false := by simp; omega
                          have p4 : (nm == 0) = false := by simp; omega
                          clear hcb hcm hnb hnm hc0 hn0 hjx hjl
                          go_wp2_with fail
                          go_quiet (fail)
                          go_wp2_with fail
                          exact ⟨⟨j2 + 1, by first | rfl | go_num, by omega, gx.then (Chg.drewN _ _)⟩, by simp [intOf]; omega⟩
                      · have p1 : ((cm : Int) == 0) = false := by simp; omega
                        have p2 : (cm == 0) = false := by simp; omega
                        clear hcb hcm hnb hnm hc0 hjx hjl
                        go_wp2_with fail
                        go_quiet (fail)
                        go_wp2_with fail
                        exact ⟨⟨j2 + 1, by first | rfl | go_num, by omega, gx.then (Chg.drewN _ _)⟩, by simp [intOf]; omega⟩
                · have hd3 : decide (j2 < n) = false := decide_eq_false (by omega)
                  have hd4 : decide ((j2 : Int) < (n : Int)) = false := decide_eq_false (by omega)
                  have cF := r_free hR6
                  rw [HF.out] at cF
                  have cW := r_fresh hR6 (x : Int)
                  rw [HW.out] at cW
                  go_wp2_with (first | (go_at_call 25; refine cF.mono ?_; rintro e w9 ⟨rfl, rfl⟩) | (go_at_call 27; refine cW.mono ?_; rintro e w9 ⟨rfl, rfl⟩))
                  exact ⟨⟨k + 1, wa, wc, tg5, j, N.set x 1, C, by first | rfl | go_num, rfl, by omega, by omega, hj, hR6, hS6, hc6⟩, by simp [intOf]; omega⟩
        · have b0 : (wh == 0) = false := beq_eq_false_iff_ne.2 w0
          by_cases w3 : wh = 3
          · as_aux_lemma =>
              have b3 : (wh == 3) = true := by simp [w3]
              have b4 : (wh == 4) = false := by simp [w3]
              have eD : doN wh num N C = (-1, N, N) := by rw [w3]; rfl
              rw [eD] at cD
              simp only at cD
              clear eD w0 w3 hq
              refine cD.mono ?_
              rintro e W4 ⟨rfl, tg4, hR4, s4⟩
              have hA4 := hA2.stay s4 (by decide)
              have hc4 := s4.base hc2
              have z0 := (s4.cellv y0 tab2 (by decide)).1
              clear cD hR2 hS2 hA2 hc2 y0 y1 tab2 s4
              go_wp2_with fail
              refine (r_counts hR4 1).mono ?_
              rintro e W5 ⟨bn, rfl, tg5, hB5, s5⟩
              have hR5 := hR4.still s5
              have hA5 := hA4.still s5
              have hc5 := hc4.then s5.1
              have u0 := s5.1.cellv z0 (by simp)
              clear hR4 hA4 hc4 z0 s5
              have cE := equal_any (some ⟨bn, 0, none⟩) n n N (some ⟨ba, 0, none⟩) n n N W5 hB5.1.reads HL.out.1 hA5.1.reads HL.out.1
              rw [decide_eq_true rfl] at cE
              go_wp2_with (first | (go_at_call 28; refine cE.mono ?_; rintro e w9 ⟨rfl, rfl⟩))
              exact ⟨⟨k + 1, some ⟨bn, 0, none⟩, n, tg5, 1, N, N, by first | rfl | go_num, rfl, by omega, by omega, by decide, hR5, hB5, hc5⟩, by simp [intOf]; omega⟩
          · have b3 : (wh == 3) = false := beq_eq_false_iff_ne.2 w3
            by_cases w4 : wh = 4
            · as_aux_lemma =>
                have b4 : (wh == 4) = true := by simp [w4]
                have eD : doN wh num N C = (-1, C, C) := by rw [w4]; rfl
                rw [eD] at cD
                simp only at cD
                clear eD w0 w3 w4 hq
                refine cD.mono ?_
                rintro e W4 ⟨rfl, tg4, hR4, s4⟩
                have hS4 := hS2.stay s4 (Ne.symm hj)
                have hc4 := s4.base hc2
                have z0 := (s4.cellv y0 tab2 (by decide)).1
                clear cD hR2 hS2 hA2 hc2 y0 y1 tab2 s4
                go_wp2_with fail
                refine (r_counts hR4 1).mono ?_
                rintro e W5 ⟨bn, rfl, tg5, hB5, s5⟩
                have hR5 := hR4.still s5
                have hS5 := hS4.still s5
                have hc5 := hc4.then s5.1
                have u0 := s5.1.cellv z0 (by simp)
                clear hR4 hS4 hc4 z0 s5
                have cE := equal_any (some ⟨bn, 0, none⟩) n n C wa n wc C W5 hB5.1.reads HL.out.2.1 hS5.1.reads HL.out.2.1
                rw [decide_eq_true rfl] at cE
                go_wp2_with (first | (go_at_call 28; refine cE.mono ?_; rintro e w9 ⟨rfl, rfl⟩))
                exact ⟨⟨k + 1, some ⟨bn, 0, none⟩, n, tg5, 1, C, C, by first | rfl | go_num, rfl, by omega, by omega, by decide, hR5, hB5, hc5⟩, by simp [intOf]; omega⟩
            · as_aux_lemma =>
                have b4 : (wh == 4) = false := beq_eq_false_iff_ne.2 w4
                obtain ⟨N', eD⟩ : ∃ N', doN wh num N C = (-1, N', C) := by
                  unfold doN
                  rw [if_neg w0]
                  by_cases w1 : wh = 1
                  · exact ⟨_, by rw [if_pos w1]⟩
                  · by_cases w2 : wh = 2
                    · exact ⟨_, by rw [if_neg w1, if_pos w2]⟩
                    · exact ⟨_, by rw [if_neg w1, if_neg w2, if_neg w3, if_neg w4]⟩
                rw [eD] at cD
                simp only at cD
                clear eD w0 w3 w4 hq
                refine cD.mono ?_
                rintro e W4 ⟨rfl, tg4, hR4, s4⟩
                have hS4 := hS2.stay s4 (Ne.symm hj)
                have hc4 := s4.base hc2
                have z0 := (s4.cellv y0 tab2 (by decide)).1
                clear cD hR2 hS2 hA2 hc2 y0 y1 tab2 s4
                go_wp2_with fail
                refine (r_counts hR4 1).mono ?_
                rintro e W5 ⟨bn, rfl, tg5, hB5, s5⟩
                have hR5 := hR4.still s5
                have hS5 := hS4.still s5
                have hc5 := hc4.then s5.1
                have u0 := s5.1.cellv z0 (by simp)
                clear hR4 hS4 hc4 z0 s5 hB5
                go_wp2_with fail
                exact ⟨⟨k + 1, wa, wc, tg5, j, N', C, by first | rfl | go_num, rfl, by omega, by omega, hj, hR5, hS5, hc5⟩, by simp [intOf]; omega⟩
      · have hfin : (k = n1) ∨ (k < n1 ∧ k = 300) := by omega
        clear hcont
        rcases hfin with hk9 | ⟨hk8, hk9⟩
        · have hd : decide (k < n1) = false := decide_eq_false (by omega)
          have hd2 : decide ((k : Int) < (n1 : Int)) = false := decide_eq_false (by omega)
          subst hk9
          go_wp2_with fail
          go_ret
          exact ⟨rfl, hc⟩
        · have hd : decide (k < n1) = true := decide_eq_true (by omega)
          have hd2 : decide ((k : Int) < (n1 : Int)) = true := decide_eq_true (by omega)
          have hbr : ((k : Int) == 300) = true := beq_iff_eq.2 (by omega)
          have hk7 : k < n1 := hk8
          clear hk9
          obtain ⟨b, o, rfl, hacts⟩ := ga (by omega)
          have hA := (hacts k hk7).keep hc
          clear hacts
          generalize acts k = A at *
          obtain ⟨a0c, a1c, aw0, aw1⟩ := hA
          go_wp2_with fail
          go_ret
          exact ⟨rfl, hc.then (Chg.alloc [] _ _)⟩
  · have cO := rnew_out a0 n c w (by omega) (by omega)
    have cA := awake_any w
    by_cases h1 : n < 1
    · have d1 : decide ((n : Int) < 1) = true := decide_eq_true (by omega)
      have d1' : decide (n < 1) = true := decide_eq_true (by omega)
      have hz : n = 0 := by omega
      subst hz
      go_enter Try.func4, Try.ntmps4
      go_wp2_with (first | (go_at_call 7; refine cO.mono ?_; rintro e w' ⟨rfl, rfl⟩) | (go_at_call 9; refine cA.mono ?_; rintro e w1 ⟨rfl, hg⟩))
      go_ret
      exact ⟨rfl, hg⟩
    · have d1 : decide ((n : Int) < 1) = false := decide_eq_false (by omega)
      have d1' : decide (n < 1) = false := decide_eq_false (by omega)
      have d2 : decide ((n : Int) > 1024) = true := decide_eq_true (by omega)
      have d3 : decide ((1024 : Int) < (n : Int)) = true := decide_eq_true (by omega)
      have d4 : decide (1024 < n) = true := decide_eq_true (by omega)
      go_enter Try.func4, Try.ntmps4
      go_wp2_with (first | (go_at_call 7; refine cO.mono ?_; rintro e w' ⟨rfl, rfl⟩) | (go_at_call 9; refine cA.mono ?_; rintro e w1 ⟨rfl, hg⟩))
      go_ret
      exact ⟨rfl, hg⟩
end Go.Proofs.Ytppjjlooocigdaa
