/- The reference: Insert. -/
import Derived.Test.YtlaeonemlodhmaaIj
namespace Go.Proofs.Ytlaeonemlodhmaa
open Go.RowKit
set_option linter.unusedVariables false
set_option linter.unusedSimpArgs false
attribute [local go_sem ↓] Go.wp_at_zero Go.wp_at_succ

set_option maxRecDepth 20000 in
set_option maxHeartbeats 4000000 in
theorem rinsert_any (lf : Bool) (ka : Option Addr) (kl kc : Nat) (va : Option Addr) (vl vc : Nat) (K V : List Nat) (w : World) (h : RdN w ka kc va vc K V) (hk : K.length = kl) (hv : V.length = vl) (hb : np K V ≤ 100000000) (z : Int) (x y : Nat) :
    Calls Try.prog 20 #[.agg #[.bool lf, .slice ka kl kc, .slice va vl vc], .int .i64 z, .int .u64 (x : Int), .int .u64 (y : Int)] w fun e w' => NOut w.heap.size lf (insL (np K V) (clampN z (np K V)) x K) (insL (np K V) (clampN z (np K V)) y V) e w' ∧ Chg [] w w' := by
  have hkc := h.ck
  have hbk := h.bk
  obtain ⟨P, hP⟩ : ∃ P, np K V = P := ⟨_, rfl⟩
  have cP := rpairs_any lf ka kl kc va vl vc P (by rw [min_np hk hv, hP])
  have hPk : P ≤ kl := by rw [← hP, ← hk]; exact np_le.1
  have hPv : P ≤ vl := by rw [← hP, ← hv]; exact np_le.2
  rw [hP] at hb
  have cA := fun (f t : Nat) (hft : f ≤ t) (htP : t ≤ P) (u : World) (g : Chg [] w u) => rpart_any lf ka kl kc va vl vc K V u (h.keep g) hk hv f t hft (by omega) (by omega)
  have cL := fun (L : List Nat) (hL : P ≤ L.length) (f t : Nat) (htP : t ≤ P) => sub_len (L := L) (f := f) (t := t) (by omega)
  have lK : P ≤ K.length := by omega
  have lV : P ≤ V.length := by omega
  rw [hP]
  obtain ⟨c0, c1, c2, t0, g0, hz⟩ := laid_node w (.bool lf) (.slice ka kl kc) (.slice va vl vc) 24
  have HE := mkHid (And.intro c0 (And.intro c1 (And.intro c2 (And.intro t0 (And.intro g0 hz)))))
  have CP := mkHid cP
  have CA := mkHid cA
  have CL := mkHid cL
  have HP := mkHid hP
  clear c0 c1 c2 t0 g0 hz cP cA cL hk hv h hP hkc hbk
  by_cases h1 : z < 0
  · have d1 : decide (z < 0) = true := decide_eq_true h1
    have d2 : decide ((0 : Int) > (P : Int)) = false := decide_eq_false (by omega)
    have d3 : decide ((P : Int) < 0) = false := decide_eq_false (by omega)
    rw [show clampN z P = 0 from if_pos h1]
    clear h1
    unfold insL
    have cA1 := CA.out 0 0 (Nat.zero_le _) (by omega)
    have cA2 := CA.out 0 P (by omega) (Nat.le_refl _)
    have l1 := CL.out K lK 0 0 (by omega)
    have l2 := CL.out V lV 0 0 (by omega)
    have l3 := CL.out K lK 0 P (Nat.le_refl _)
    have l4 := CL.out V lV 0 P (Nat.le_refl _)
    generalize sub K 0 0 = A at *
    generalize sub V 0 0 = C at *
    generalize sub K 0 P = A2 at *
    generalize sub V 0 P = C2 at *
    obtain ⟨D, hD⟩ : ∃ D, A ++ [x] = D := ⟨_, rfl⟩
    obtain ⟨E, hE⟩ : ∃ E, C ++ [y] = E := ⟨_, rfl⟩
    obtain ⟨F, hF⟩ : ∃ F, D ++ A2 = F := ⟨_, rfl⟩
    obtain ⟨G, hG⟩ : ∃ G, E ++ C2 = G := ⟨_, rfl⟩
    rw [show A ++ ([x] ++ A2) = F by rw [← hF, ← hD, List.append_assoc], show C ++ ([y] ++ C2) = G by rw [← hG, ← hE, List.append_assoc]]
    have HL := mkHid (show A.length = 0 ∧ C.length = 0 ∧ A2.length = C2.length ∧ A2.length ≤ P ∧ D.length = 0 + 1 ∧ E.length = 0 + 1 by rw [← hD, ← hE]; simp only [List.length_append, List.length_cons, List.length_nil]; omega)
    have HQ := mkHid (And.intro hD (And.intro hE (And.intro hF hG)))
    clear hD hE hF hG
    have CA1 := mkHid cA1
    have CA2 := mkHid cA2
    clear cA1 cA2 l1 l2 l3 l4
    go_enter Try.func20, Try.ntmps20
    go_wp2_with fail
    obtain ⟨c0, c1, c2, t0, g0, hz⟩ := HE.out
    generalize (w.alloc (.cells #[.bool lf, .slice ka kl kc, .slice va vl vc] 24)).alloc (.cells #[.bool false, .slice none 0 0, .slice none 0 0] 24) = w1 at *
    obtain ⟨R, hR⟩ : ∃ R, w.heap.size + 1 = R := ⟨_, rfl⟩
    rw [hR] at t0 ⊢
    have HR := mkHid (show R + 1 = w1.heap.size ∧ w.heap.size ≤ R by omega)
    clear hR hz HE
    generalize w.heap.size = b at c0 c1 c2 ⊢
    go_wp2_with fail
    refine (CP.out w1).mono ?_
    rintro e w2 ⟨rfl, gW⟩
    have d0 := gW.cellv c0 (by simp)
    have d1 := gW.cellv c1 (by simp)
    have d2 := gW.cellv c2 (by simp)
    have s0 := there_chg t0 gW (by simp)
    clear c0 c1 c2 t0
    have c0 := d0
    have c1 := d1
    have c2 := d2
    have t0 := s0
    clear d0 d1 d2 s0
    go_wp2_with fail
    refine (CA1.out w2 (g0.then gW)).mono ?_
    rintro e w3 ⟨⟨p1, pc1, q1, qc1, rfl, hr1⟩, g3⟩
    go_wp2_with fail
    refine (rone_as x y w3).mono ?_
    rintro e w4 ⟨⟨p2, pc2, q2, qc2, rfl, hr2⟩, g4⟩
    have rd1 := (hr1.keep g4).rd (by have := HL.out; omega) (by have := HL.out; omega)
    have rd2 := hr2.rd (by simp) (by simp)
    have HRD := mkHid (And.intro rd1 rd2)
    clear hr1 hr2 rd1 rd2
    go_wp2_with fail
    refine (rjoin_eq lf p1 A.length pc1 q1 C.length qc1 A C false p2 1 pc2 q2 1 qc2 [x] [y] D E w4 HRD.out.1 rfl rfl HRD.out.2 rfl rfl (by have := HL.out; omega) rfl (by have := HL.out; omega) HQ.out.1 HQ.out.2.1).mono ?_
    rintro e w5 ⟨⟨p3, pc3, q3, qc3, rfl, hr3⟩, g5⟩
    have g6 := Chg.alloc [] w5 (.cells #[.bool lf, .slice p3 D.length pc3, .slice q3 E.length qc3] 24)
    obtain ⟨n0, n1, n2⟩ := laid3 w5 (.bool lf) (.slice p3 D.length pc3) (.slice q3 E.length qc3) 24
    have gW := ((gW.then g3).then (g4.then g5)).then g6
    have gV := ((g3.then (g4.then g5)).then g6)
    have d0 := gV.cellv c0 (by simp)
    have d1 := gV.cellv c1 (by simp)
    have d2 := gV.cellv c2 (by simp)
    have s0 := there_chg t0 gV (by simp)
    clear c0 c1 c2 t0
    have c0 := d0
    have c1 := d1
    have c2 := d2
    have t0 := s0
    clear d0 d1 d2 s0
    have rd9 := (hr3.keep g6).rd (by have := HL.out; omega) (by have := HL.out; omega)
    have HN := mkHid (And.intro n0 (And.intro n1 (And.intro n2 rd9)))
    clear n0 n1 n2 rd9 hr3 HRD g3 g4 g5 g6 gV
    go_wp2_with fail
    obtain ⟨n0, n1, n2, rd9⟩ := HN.out
    clear HN
    generalize w5.alloc (.cells #[.bool lf, .slice p3 D.length pc3, .slice q3 E.length qc3] 24) = w6 at *
    generalize w5.heap.size = nb at *
    have HRD := mkHid rd9
    clear rd9
    refine region_made 7 [IsV (.agg #[.bool lf, .slice p3 D.length pc3, .slice q3 E.length qc3]), IsV (.agg #[.bool lf, .slice ka kl kc, .slice va vl vc]), IsV (.int .i64 0), IsV (.agg #[.bool lf, .slice ka kl kc, .slice va vl vc]), IsV (.int .i64 (P : Int)), IsN lf (A2) (C2), IsN lf (F) (G)] (by kernel_rfl) (by kernel_rfl) (by kernel_rfl) (by decide) (of_decide_eq_true (by kernel_rfl)) ⟨keepV _, keepV _, keepV _, keepV _, keepV _, keepN _ _ _, keepN _ _ _, trivial⟩ ?_ ?_
    · refine ⟨?_, ?_, ?_, ?_, ?_, ?_, ?_, trivial⟩
      · intro v u hg hd K hK
        have hz := (Chg.drew [] w6).then hg
        have x0 := hz.cellv n0 (by simp)
        have x1 := hz.cellv n1 (by simp)
        have x2 := hz.cellv n2 (by simp)
        clear hd
        have hk := hK.out (.agg #[.bool lf, .slice p3 D.length pc3, .slice q3 E.length qc3]) u (Chg.refl _ _) rfl
        clear hK
        simp only [List.toList_toArray, List.take_succ_cons, List.take_zero, List.drop_succ_cons, List.drop_zero, putAll, Act.put, List.setIfInBounds_toArray, List.set_cons_zero, List.set_cons_succ, Nat.zero_add, Nat.reduceAdd] at hk ⊢
        go_simp
        exact hk
      · intro v u hg hd K hK
        have hz := (Chg.drew [] w6).then hg
        have x0 := (hz).cellv c0 (by simp)
        have x1 := (hz).cellv c1 (by simp)
        have x2 := (hz).cellv c2 (by simp)
        clear hd
        have hk := hK.out (.agg #[.bool lf, .slice ka kl kc, .slice va vl vc]) u (Chg.refl _ _) rfl
        clear hK
        simp only [List.toList_toArray, List.take_succ_cons, List.take_zero, List.drop_succ_cons, List.drop_zero, putAll, Act.put, List.setIfInBounds_toArray, List.set_cons_zero, List.set_cons_succ, Nat.zero_add, Nat.reduceAdd] at hk ⊢
        go_simp
        exact hk
      · intro v u hg hd K hK
        clear hd
        have hk := hK.out (.int .i64 0) u (Chg.refl _ _) rfl
        clear hK
        simp only [List.toList_toArray, List.take_succ_cons, List.take_zero, List.drop_succ_cons, List.drop_zero, putAll, Act.put, List.setIfInBounds_toArray, List.set_cons_zero, List.set_cons_succ, Nat.zero_add, Nat.reduceAdd] at hk ⊢
        go_simp
        exact hk
      · intro v u hg hd K hK
        have hz := (Chg.drew [] w6).then hg
        have x0 := (hz).cellv c0 (by simp)
        have x1 := (hz).cellv c1 (by simp)
        have x2 := (hz).cellv c2 (by simp)
        clear hd
        have hk := hK.out (.agg #[.bool lf, .slice ka kl kc, .slice va vl vc]) u (Chg.refl _ _) rfl
        clear hK
        simp only [List.toList_toArray, List.take_succ_cons, List.take_zero, List.drop_succ_cons, List.drop_zero, putAll, Act.put, List.setIfInBounds_toArray, List.set_cons_zero, List.set_cons_succ, Nat.zero_add, Nat.reduceAdd] at hk ⊢
        go_simp
        exact hk
      · intro v u hg hd K hK
        have h3 : ∃ lo hi, IsV (.agg #[.bool lf, .slice ka kl kc, .slice va vl vc]) (v 3) lo hi u := dep hd 3 (by kernel_rfl)
        have e3 : v 3 = .agg #[.bool lf, .slice ka kl kc, .slice va vl vc] := depV h3
        clear hd
        simp only [List.toList_toArray, List.take_succ_cons, List.take_zero, List.drop_succ_cons, List.drop_zero, putAll, Act.put, List.setIfInBounds_toArray, List.set_cons_zero, List.set_cons_succ, Nat.zero_add, Nat.reduceAdd, e3] at hK ⊢
        go_simp
        refine (CP.out u).mono ?_
        rintro e u' ⟨rfl, g'⟩
        have hk := hK.out (.int .i64 (P : Int)) u' g' rfl
        exact hk
      · intro v u hg hd K hK
        have h1 : ∃ lo hi, IsV (.agg #[.bool lf, .slice ka kl kc, .slice va vl vc]) (v 1) lo hi u := dep hd 1 (by kernel_rfl)
        have e1 : v 1 = .agg #[.bool lf, .slice ka kl kc, .slice va vl vc] := depV h1
        have h2 : ∃ lo hi, IsV (.int .i64 0) (v 2) lo hi u := dep hd 2 (by kernel_rfl)
        have e2 : v 2 = .int .i64 0 := depV h2
        have h4 : ∃ lo hi, IsV (.int .i64 (P : Int)) (v 4) lo hi u := dep hd 4 (by kernel_rfl)
        have e4 : v 4 = .int .i64 (P : Int) := depV h4
        clear hd
        simp only [List.toList_toArray, List.take_succ_cons, List.take_zero, List.drop_succ_cons, List.drop_zero, putAll, Act.put, List.setIfInBounds_toArray, List.set_cons_zero, List.set_cons_succ, Nat.zero_add, Nat.reduceAdd, e1, e2, e4] at hK ⊢
        go_simp
        refine (CA2.out u ((g0.then gW).then ((Chg.drew [] w6).then hg))).mono ?_
        rintro e u' ⟨⟨qa, qc, qa', qc', rfl, hr⟩, g'⟩
        have hk := hK.out (_) u' g' (isN_out ⟨_, _, _, _, rfl, hr⟩)
        exact hk
      · intro v u hg hd K hK
        have h0 : ∃ lo hi, IsV (.agg #[.bool lf, .slice p3 D.length pc3, .slice q3 E.length qc3]) (v 0) lo hi u := dep hd 0 (by kernel_rfl)
        have e0 : v 0 = .agg #[.bool lf, .slice p3 D.length pc3, .slice q3 E.length qc3] := depV h0
        have h5 : ∃ lo hi, IsN lf (A2) (C2) (v 5) lo hi u := dep hd 5 (by kernel_rfl)
        obtain ⟨_, _, pa5, pc5, qa5, qc5, e5, hr5, -, -⟩ := h5
        clear hd
        simp only [List.toList_toArray, List.take_succ_cons, List.take_zero, List.drop_succ_cons, List.drop_zero, putAll, Act.put, List.setIfInBounds_toArray, List.set_cons_zero, List.set_cons_succ, Nat.zero_add, Nat.reduceAdd, e0, e5] at hK ⊢
        go_simp
        refine (rjoin_eq lf p3 D.length pc3 q3 E.length qc3 D E lf pa5 A2.length pc5 qa5 C2.length qc5 A2 C2 F G u (HRD.out.keep ((Chg.drew [] w6).then hg)) rfl rfl (hr5.rd (by have := HL.out; omega) (by have := HL.out; omega)) rfl rfl (by have := HL.out; omega) (by have := HL.out; omega) (by have := HL.out; omega) HQ.out.2.2.1 HQ.out.2.2.2).mono ?_
        rintro e u' ⟨⟨qa, qc, qa', qc', rfl, hr⟩, g'⟩
        have hk := hK.out (_) u' g' (isN_out ⟨_, _, _, _, rfl, hr⟩)
        exact hk
    · intro v u lo hi hg hall hbd hdj
      have e0 : v 0 = .agg #[.bool lf, .slice p3 D.length pc3, .slice q3 E.length qc3] := hall 0 (by decide)
      have e1 : v 1 = .agg #[.bool lf, .slice ka kl kc, .slice va vl vc] := hall 1 (by decide)
      have e2 : v 2 = .int .i64 0 := hall 2 (by decide)
      have e3 : v 3 = .agg #[.bool lf, .slice ka kl kc, .slice va vl vc] := hall 3 (by decide)
      have e4 : v 4 = .int .i64 (P : Int) := hall 4 (by decide)
      obtain ⟨pz5, pzc5, qz5, qzc5, e5, -, -, -⟩ : IsN lf (A2) (C2) (v 5) (lo 5) (hi 5) u := hall 5 (by decide)
      obtain ⟨pa, pc, qa, qc, e9, hr0, m1, m2⟩ : IsN lf (F) (G) (v 6) (lo 6) (hi 6) u := hall 6 (by decide)
      have bb := (hbd 6 (by decide)).1
      have hr := hr0.mono bb
      have gU := (Chg.drew [] w6).then hg
      have tU := there_chg t0 gU (by simp)
      obtain ⟨v0, v1, v2, i0, i1, i2, j0, j1, j2⟩ := there3 tU
      have gZ := three_chg u R (.bool lf) (.slice pa (F).length pc) (.slice qa (G).length qc)
      have hR1 := HR.out
      have hRw : ∀ q, q ∈ [R] → q < w6.heap.size := fun q hq => by simp at hq; have := gW.size; omega
      have hrZ := (hr.chg gZ hRw).mono (show w.heap.size ≤ w6.heap.size from Nat.le_trans g0.size gW.size)
      have gF := ((g0.then gW).then gU).trans gZ (U := []) (by simp) (fun q hq hlt => by simp at hq; omega)
      have HF := mkHid (And.intro hrZ gF)
      clear hr0 hr gU tU gZ hrZ gF hall hbd hdj hg m1 m2 bb hRw
      simp only [List.toList_toArray, List.take_succ_cons, List.take_zero, List.drop_succ_cons, List.drop_zero, putAll, Act.put, List.setIfInBounds_toArray, List.set_cons_zero, List.set_cons_succ, Nat.zero_add, Nat.reduceAdd, e0, e1, e2, e3, e4, e5, e9]
      clear e0 e1 e2 e3 e4 e5 e9 v lo hi
      go_wp2_with fail
      refine bodyPost_ret (v := .agg #[.bool lf, .slice pa (F).length pc, .slice qa (G).length qc]) (by simp [results, Try.results20, go_sem, i0, i1, i2]) rfl ⟨?_, HF.out.2⟩
      exact ⟨pa, pc, qa, qc, rfl, HF.out.1⟩
  have d1 : decide (z < 0) = false := decide_eq_false h1
  by_cases h2 : (P : Int) < z
  · have d2 : decide (z > (P : Int)) = true := decide_eq_true h2
    have d3 : decide ((P : Int) < z) = true := decide_eq_true h2
    rw [show clampN z P = P by unfold clampN; rw [if_neg h1, if_pos h2]]
    clear h1 h2
    unfold insL
    have cA1 := CA.out 0 P (Nat.zero_le _) (by omega)
    have cA2 := CA.out P P (by omega) (Nat.le_refl _)
    have l1 := CL.out K lK 0 P (by omega)
    have l2 := CL.out V lV 0 P (by omega)
    have l3 := CL.out K lK P P (Nat.le_refl _)
    have l4 := CL.out V lV P P (Nat.le_refl _)
    generalize sub K 0 P = A at *
    generalize sub V 0 P = C at *
    generalize sub K P P = A2 at *
    generalize sub V P P = C2 at *
    obtain ⟨D, hD⟩ : ∃ D, A ++ [x] = D := ⟨_, rfl⟩
    obtain ⟨E, hE⟩ : ∃ E, C ++ [y] = E := ⟨_, rfl⟩
    obtain ⟨F, hF⟩ : ∃ F, D ++ A2 = F := ⟨_, rfl⟩
    obtain ⟨G, hG⟩ : ∃ G, E ++ C2 = G := ⟨_, rfl⟩
    rw [show A ++ ([x] ++ A2) = F by rw [← hF, ← hD, List.append_assoc], show C ++ ([y] ++ C2) = G by rw [← hG, ← hE, List.append_assoc]]
    have HL := mkHid (show A.length = P ∧ C.length = P ∧ A2.length = C2.length ∧ A2.length ≤ P ∧ D.length = P + 1 ∧ E.length = P + 1 by rw [← hD, ← hE]; simp only [List.length_append, List.length_cons, List.length_nil]; omega)
    have HQ := mkHid (And.intro hD (And.intro hE (And.intro hF hG)))
    clear hD hE hF hG
    have CA1 := mkHid cA1
    have CA2 := mkHid cA2
    clear cA1 cA2 l1 l2 l3 l4
    go_enter Try.func20, Try.ntmps20
    go_wp2_with fail
    obtain ⟨c0, c1, c2, t0, g0, hz⟩ := HE.out
    generalize (w.alloc (.cells #[.bool lf, .slice ka kl kc, .slice va vl vc] 24)).alloc (.cells #[.bool false, .slice none 0 0, .slice none 0 0] 24) = w1 at *
    obtain ⟨R, hR⟩ : ∃ R, w.heap.size + 1 = R := ⟨_, rfl⟩
    rw [hR] at t0 ⊢
    have HR := mkHid (show R + 1 = w1.heap.size ∧ w.heap.size ≤ R by omega)
    clear hR hz HE
    generalize w.heap.size = b at c0 c1 c2 ⊢
    go_wp2_with fail
    refine (CP.out w1).mono ?_
    rintro e w2 ⟨rfl, gW⟩
    have d0 := gW.cellv c0 (by simp)
    have d1 := gW.cellv c1 (by simp)
    have d2 := gW.cellv c2 (by simp)
    have s0 := there_chg t0 gW (by simp)
    clear c0 c1 c2 t0
    have c0 := d0
    have c1 := d1
    have c2 := d2
    have t0 := s0
    clear d0 d1 d2 s0
    go_wp2_with fail
    refine (CP.out w2).mono ?_
    rintro e w2b ⟨rfl, gW2⟩
    have d0 := gW2.cellv c0 (by simp)
    have d1 := gW2.cellv c1 (by simp)
    have d2 := gW2.cellv c2 (by simp)
    have s0 := there_chg t0 gW2 (by simp)
    clear c0 c1 c2 t0
    have c0 := d0
    have c1 := d1
    have c2 := d2
    have t0 := s0
    clear d0 d1 d2 s0
    have gW3 := gW.then gW2
    clear gW gW2
    have gW := gW3
    clear gW3
    go_wp2_with fail
    refine (CA1.out w2b (g0.then gW)).mono ?_
    rintro e w3 ⟨⟨p1, pc1, q1, qc1, rfl, hr1⟩, g3⟩
    go_wp2_with fail
    refine (rone_as x y w3).mono ?_
    rintro e w4 ⟨⟨p2, pc2, q2, qc2, rfl, hr2⟩, g4⟩
    have rd1 := (hr1.keep g4).rd (by have := HL.out; omega) (by have := HL.out; omega)
    have rd2 := hr2.rd (by simp) (by simp)
    have HRD := mkHid (And.intro rd1 rd2)
    clear hr1 hr2 rd1 rd2
    go_wp2_with fail
    refine (rjoin_eq lf p1 A.length pc1 q1 C.length qc1 A C false p2 1 pc2 q2 1 qc2 [x] [y] D E w4 HRD.out.1 rfl rfl HRD.out.2 rfl rfl (by have := HL.out; omega) rfl (by have := HL.out; omega) HQ.out.1 HQ.out.2.1).mono ?_
    rintro e w5 ⟨⟨p3, pc3, q3, qc3, rfl, hr3⟩, g5⟩
    have g6 := Chg.alloc [] w5 (.cells #[.bool lf, .slice p3 D.length pc3, .slice q3 E.length qc3] 24)
    obtain ⟨n0, n1, n2⟩ := laid3 w5 (.bool lf) (.slice p3 D.length pc3) (.slice q3 E.length qc3) 24
    have gW := ((gW.then g3).then (g4.then g5)).then g6
    have gV := ((g3.then (g4.then g5)).then g6)
    have d0 := gV.cellv c0 (by simp)
    have d1 := gV.cellv c1 (by simp)
    have d2 := gV.cellv c2 (by simp)
    have s0 := there_chg t0 gV (by simp)
    clear c0 c1 c2 t0
    have c0 := d0
    have c1 := d1
    have c2 := d2
    have t0 := s0
    clear d0 d1 d2 s0
    have rd9 := (hr3.keep g6).rd (by have := HL.out; omega) (by have := HL.out; omega)
    have HN := mkHid (And.intro n0 (And.intro n1 (And.intro n2 rd9)))
    clear n0 n1 n2 rd9 hr3 HRD g3 g4 g5 g6 gV
    go_wp2_with fail
    obtain ⟨n0, n1, n2, rd9⟩ := HN.out
    clear HN
    generalize w5.alloc (.cells #[.bool lf, .slice p3 D.length pc3, .slice q3 E.length qc3] 24) = w6 at *
    generalize w5.heap.size = nb at *
    have HRD := mkHid rd9
    clear rd9
    refine region_made 7 [IsV (.agg #[.bool lf, .slice p3 D.length pc3, .slice q3 E.length qc3]), IsV (.agg #[.bool lf, .slice ka kl kc, .slice va vl vc]), IsV (.int .i64 (P : Int)), IsV (.agg #[.bool lf, .slice ka kl kc, .slice va vl vc]), IsV (.int .i64 (P : Int)), IsN lf (A2) (C2), IsN lf (F) (G)] (by kernel_rfl) (by kernel_rfl) (by kernel_rfl) (by decide) (of_decide_eq_true (by kernel_rfl)) ⟨keepV _, keepV _, keepV _, keepV _, keepV _, keepN _ _ _, keepN _ _ _, trivial⟩ ?_ ?_
    · refine ⟨?_, ?_, ?_, ?_, ?_, ?_, ?_, trivial⟩
      · intro v u hg hd K hK
        have hz := (Chg.drew [] w6).then hg
        have x0 := hz.cellv n0 (by simp)
        have x1 := hz.cellv n1 (by simp)
        have x2 := hz.cellv n2 (by simp)
        clear hd
        have hk := hK.out (.agg #[.bool lf, .slice p3 D.length pc3, .slice q3 E.length qc3]) u (Chg.refl _ _) rfl
        clear hK
        simp only [List.toList_toArray, List.take_succ_cons, List.take_zero, List.drop_succ_cons, List.drop_zero, putAll, Act.put, List.setIfInBounds_toArray, List.set_cons_zero, List.set_cons_succ, Nat.zero_add, Nat.reduceAdd] at hk ⊢
        go_simp
        exact hk
      · intro v u hg hd K hK
        have hz := (Chg.drew [] w6).then hg
        have x0 := (hz).cellv c0 (by simp)
        have x1 := (hz).cellv c1 (by simp)
        have x2 := (hz).cellv c2 (by simp)
        clear hd
        have hk := hK.out (.agg #[.bool lf, .slice ka kl kc, .slice va vl vc]) u (Chg.refl _ _) rfl
        clear hK
        simp only [List.toList_toArray, List.take_succ_cons, List.take_zero, List.drop_succ_cons, List.drop_zero, putAll, Act.put, List.setIfInBounds_toArray, List.set_cons_zero, List.set_cons_succ, Nat.zero_add, Nat.reduceAdd] at hk ⊢
        go_simp
        exact hk
      · intro v u hg hd K hK
        clear hd
        have hk := hK.out (.int .i64 (P : Int)) u (Chg.refl _ _) rfl
        clear hK
        simp only [List.toList_toArray, List.take_succ_cons, List.take_zero, List.drop_succ_cons, List.drop_zero, putAll, Act.put, List.setIfInBounds_toArray, List.set_cons_zero, List.set_cons_succ, Nat.zero_add, Nat.reduceAdd] at hk ⊢
        go_simp
        exact hk
      · intro v u hg hd K hK
        have hz := (Chg.drew [] w6).then hg
        have x0 := (hz).cellv c0 (by simp)
        have x1 := (hz).cellv c1 (by simp)
        have x2 := (hz).cellv c2 (by simp)
        clear hd
        have hk := hK.out (.agg #[.bool lf, .slice ka kl kc, .slice va vl vc]) u (Chg.refl _ _) rfl
        clear hK
        simp only [List.toList_toArray, List.take_succ_cons, List.take_zero, List.drop_succ_cons, List.drop_zero, putAll, Act.put, List.setIfInBounds_toArray, List.set_cons_zero, List.set_cons_succ, Nat.zero_add, Nat.reduceAdd] at hk ⊢
        go_simp
        exact hk
      · intro v u hg hd K hK
        have h3 : ∃ lo hi, IsV (.agg #[.bool lf, .slice ka kl kc, .slice va vl vc]) (v 3) lo hi u := dep hd 3 (by kernel_rfl)
        have e3 : v 3 = .agg #[.bool lf, .slice ka kl kc, .slice va vl vc] := depV h3
        clear hd
        simp only [List.toList_toArray, List.take_succ_cons, List.take_zero, List.drop_succ_cons, List.drop_zero, putAll, Act.put, List.setIfInBounds_toArray, List.set_cons_zero, List.set_cons_succ, Nat.zero_add, Nat.reduceAdd, e3] at hK ⊢
        go_simp
        refine (CP.out u).mono ?_
        rintro e u' ⟨rfl, g'⟩
        have hk := hK.out (.int .i64 (P : Int)) u' g' rfl
        exact hk
      · intro v u hg hd K hK
        have h1 : ∃ lo hi, IsV (.agg #[.bool lf, .slice ka kl kc, .slice va vl vc]) (v 1) lo hi u := dep hd 1 (by kernel_rfl)
        have e1 : v 1 = .agg #[.bool lf, .slice ka kl kc, .slice va vl vc] := depV h1
        have h2 : ∃ lo hi, IsV (.int .i64 (P : Int)) (v 2) lo hi u := dep hd 2 (by kernel_rfl)
        have e2 : v 2 = .int .i64 (P : Int) := depV h2
        have h4 : ∃ lo hi, IsV (.int .i64 (P : Int)) (v 4) lo hi u := dep hd 4 (by kernel_rfl)
        have e4 : v 4 = .int .i64 (P : Int) := depV h4
        clear hd
        simp only [List.toList_toArray, List.take_succ_cons, List.take_zero, List.drop_succ_cons, List.drop_zero, putAll, Act.put, List.setIfInBounds_toArray, List.set_cons_zero, List.set_cons_succ, Nat.zero_add, Nat.reduceAdd, e1, e2, e4] at hK ⊢
        go_simp
        refine (CA2.out u ((g0.then gW).then ((Chg.drew [] w6).then hg))).mono ?_
        rintro e u' ⟨⟨qa, qc, qa', qc', rfl, hr⟩, g'⟩
        have hk := hK.out (_) u' g' (isN_out ⟨_, _, _, _, rfl, hr⟩)
        exact hk
      · intro v u hg hd K hK
        have h0 : ∃ lo hi, IsV (.agg #[.bool lf, .slice p3 D.length pc3, .slice q3 E.length qc3]) (v 0) lo hi u := dep hd 0 (by kernel_rfl)
        have e0 : v 0 = .agg #[.bool lf, .slice p3 D.length pc3, .slice q3 E.length qc3] := depV h0
        have h5 : ∃ lo hi, IsN lf (A2) (C2) (v 5) lo hi u := dep hd 5 (by kernel_rfl)
        obtain ⟨_, _, pa5, pc5, qa5, qc5, e5, hr5, -, -⟩ := h5
        clear hd
        simp only [List.toList_toArray, List.take_succ_cons, List.take_zero, List.drop_succ_cons, List.drop_zero, putAll, Act.put, List.setIfInBounds_toArray, List.set_cons_zero, List.set_cons_succ, Nat.zero_add, Nat.reduceAdd, e0, e5] at hK ⊢
        go_simp
        refine (rjoin_eq lf p3 D.length pc3 q3 E.length qc3 D E lf pa5 A2.length pc5 qa5 C2.length qc5 A2 C2 F G u (HRD.out.keep ((Chg.drew [] w6).then hg)) rfl rfl (hr5.rd (by have := HL.out; omega) (by have := HL.out; omega)) rfl rfl (by have := HL.out; omega) (by have := HL.out; omega) (by have := HL.out; omega) HQ.out.2.2.1 HQ.out.2.2.2).mono ?_
        rintro e u' ⟨⟨qa, qc, qa', qc', rfl, hr⟩, g'⟩
        have hk := hK.out (_) u' g' (isN_out ⟨_, _, _, _, rfl, hr⟩)
        exact hk
    · intro v u lo hi hg hall hbd hdj
      have e0 : v 0 = .agg #[.bool lf, .slice p3 D.length pc3, .slice q3 E.length qc3] := hall 0 (by decide)
      have e1 : v 1 = .agg #[.bool lf, .slice ka kl kc, .slice va vl vc] := hall 1 (by decide)
      have e2 : v 2 = .int .i64 (P : Int) := hall 2 (by decide)
      have e3 : v 3 = .agg #[.bool lf, .slice ka kl kc, .slice va vl vc] := hall 3 (by decide)
      have e4 : v 4 = .int .i64 (P : Int) := hall 4 (by decide)
      obtain ⟨pz5, pzc5, qz5, qzc5, e5, -, -, -⟩ : IsN lf (A2) (C2) (v 5) (lo 5) (hi 5) u := hall 5 (by decide)
      obtain ⟨pa, pc, qa, qc, e9, hr0, m1, m2⟩ : IsN lf (F) (G) (v 6) (lo 6) (hi 6) u := hall 6 (by decide)
      have bb := (hbd 6 (by decide)).1
      have hr := hr0.mono bb
      have gU := (Chg.drew [] w6).then hg
      have tU := there_chg t0 gU (by simp)
      obtain ⟨v0, v1, v2, i0, i1, i2, j0, j1, j2⟩ := there3 tU
      have gZ := three_chg u R (.bool lf) (.slice pa (F).length pc) (.slice qa (G).length qc)
      have hR1 := HR.out
      have hRw : ∀ q, q ∈ [R] → q < w6.heap.size := fun q hq => by simp at hq; have := gW.size; omega
      have hrZ := (hr.chg gZ hRw).mono (show w.heap.size ≤ w6.heap.size from Nat.le_trans g0.size gW.size)
      have gF := ((g0.then gW).then gU).trans gZ (U := []) (by simp) (fun q hq hlt => by simp at hq; omega)
      have HF := mkHid (And.intro hrZ gF)
      clear hr0 hr gU tU gZ hrZ gF hall hbd hdj hg m1 m2 bb hRw
      simp only [List.toList_toArray, List.take_succ_cons, List.take_zero, List.drop_succ_cons, List.drop_zero, putAll, Act.put, List.setIfInBounds_toArray, List.set_cons_zero, List.set_cons_succ, Nat.zero_add, Nat.reduceAdd, e0, e1, e2, e3, e4, e5, e9]
      clear e0 e1 e2 e3 e4 e5 e9 v lo hi
      go_wp2_with fail
      refine bodyPost_ret (v := .agg #[.bool lf, .slice pa (F).length pc, .slice qa (G).length qc]) (by simp [results, Try.results20, go_sem, i0, i1, i2]) rfl ⟨?_, HF.out.2⟩
      exact ⟨pa, pc, qa, qc, rfl, HF.out.1⟩
  obtain ⟨a, rfl⟩ : ∃ a : Nat, z = (a : Int) := ⟨z.toNat, by omega⟩
  have haP : a ≤ P := by omega
  have d2 : decide ((a : Int) > (P : Int)) = false := decide_eq_false h2
  have d3 : decide ((P : Int) < (a : Int)) = false := decide_eq_false h2
  have d4 : decide (a > P) = false := decide_eq_false (by omega)
  have d5 : decide (P < a) = false := decide_eq_false (by omega)
  rw [show clampN (a : Int) P = a by unfold clampN; rw [if_neg h1, if_neg h2]; omega]
  clear h1 h2
  unfold insL
  have cA1 := CA.out 0 a (Nat.zero_le _) (by omega)
  have cA2 := CA.out a P (by omega) (Nat.le_refl _)
  have l1 := CL.out K lK 0 a (by omega)
  have l2 := CL.out V lV 0 a (by omega)
  have l3 := CL.out K lK a P (Nat.le_refl _)
  have l4 := CL.out V lV a P (Nat.le_refl _)
  generalize sub K 0 a = A at *
  generalize sub V 0 a = C at *
  generalize sub K a P = A2 at *
  generalize sub V a P = C2 at *
  obtain ⟨D, hD⟩ : ∃ D, A ++ [x] = D := ⟨_, rfl⟩
  obtain ⟨E, hE⟩ : ∃ E, C ++ [y] = E := ⟨_, rfl⟩
  obtain ⟨F, hF⟩ : ∃ F, D ++ A2 = F := ⟨_, rfl⟩
  obtain ⟨G, hG⟩ : ∃ G, E ++ C2 = G := ⟨_, rfl⟩
  rw [show A ++ ([x] ++ A2) = F by rw [← hF, ← hD, List.append_assoc], show C ++ ([y] ++ C2) = G by rw [← hG, ← hE, List.append_assoc]]
  have HL := mkHid (show A.length = a ∧ C.length = a ∧ A2.length = C2.length ∧ A2.length ≤ P ∧ D.length = a + 1 ∧ E.length = a + 1 by rw [← hD, ← hE]; simp only [List.length_append, List.length_cons, List.length_nil]; omega)
  have HQ := mkHid (And.intro hD (And.intro hE (And.intro hF hG)))
  clear hD hE hF hG
  have CA1 := mkHid cA1
  have CA2 := mkHid cA2
  clear cA1 cA2 l1 l2 l3 l4
  go_enter Try.func20, Try.ntmps20
  go_wp2_with fail
  obtain ⟨c0, c1, c2, t0, g0, hz⟩ := HE.out
  generalize (w.alloc (.cells #[.bool lf, .slice ka kl kc, .slice va vl vc] 24)).alloc (.cells #[.bool false, .slice none 0 0, .slice none 0 0] 24) = w1 at *
  obtain ⟨R, hR⟩ : ∃ R, w.heap.size + 1 = R := ⟨_, rfl⟩
  rw [hR] at t0 ⊢
  have HR := mkHid (show R + 1 = w1.heap.size ∧ w.heap.size ≤ R by omega)
  clear hR hz HE
  generalize w.heap.size = b at c0 c1 c2 ⊢
  go_wp2_with fail
  refine (CP.out w1).mono ?_
  rintro e w2 ⟨rfl, gW⟩
  have d0 := gW.cellv c0 (by simp)
  have d1 := gW.cellv c1 (by simp)
  have d2 := gW.cellv c2 (by simp)
  have s0 := there_chg t0 gW (by simp)
  clear c0 c1 c2 t0
  have c0 := d0
  have c1 := d1
  have c2 := d2
  have t0 := s0
  clear d0 d1 d2 s0
  go_wp2_with fail
  refine (CA1.out w2 (g0.then gW)).mono ?_
  rintro e w3 ⟨⟨p1, pc1, q1, qc1, rfl, hr1⟩, g3⟩
  go_wp2_with fail
  refine (rone_as x y w3).mono ?_
  rintro e w4 ⟨⟨p2, pc2, q2, qc2, rfl, hr2⟩, g4⟩
  have rd1 := (hr1.keep g4).rd (by have := HL.out; omega) (by have := HL.out; omega)
  have rd2 := hr2.rd (by simp) (by simp)
  have HRD := mkHid (And.intro rd1 rd2)
  clear hr1 hr2 rd1 rd2
  go_wp2_with fail
  refine (rjoin_eq lf p1 A.length pc1 q1 C.length qc1 A C false p2 1 pc2 q2 1 qc2 [x] [y] D E w4 HRD.out.1 rfl rfl HRD.out.2 rfl rfl (by have := HL.out; omega) rfl (by have := HL.out; omega) HQ.out.1 HQ.out.2.1).mono ?_
  rintro e w5 ⟨⟨p3, pc3, q3, qc3, rfl, hr3⟩, g5⟩
  have g6 := Chg.alloc [] w5 (.cells #[.bool lf, .slice p3 D.length pc3, .slice q3 E.length qc3] 24)
  obtain ⟨n0, n1, n2⟩ := laid3 w5 (.bool lf) (.slice p3 D.length pc3) (.slice q3 E.length qc3) 24
  have gW := ((gW.then g3).then (g4.then g5)).then g6
  have gV := ((g3.then (g4.then g5)).then g6)
  have d0 := gV.cellv c0 (by simp)
  have d1 := gV.cellv c1 (by simp)
  have d2 := gV.cellv c2 (by simp)
  have s0 := there_chg t0 gV (by simp)
  clear c0 c1 c2 t0
  have c0 := d0
  have c1 := d1
  have c2 := d2
  have t0 := s0
  clear d0 d1 d2 s0
  have rd9 := (hr3.keep g6).rd (by have := HL.out; omega) (by have := HL.out; omega)
  have HN := mkHid (And.intro n0 (And.intro n1 (And.intro n2 rd9)))
  clear n0 n1 n2 rd9 hr3 HRD g3 g4 g5 g6 gV
  go_wp2_with fail
  obtain ⟨n0, n1, n2, rd9⟩ := HN.out
  clear HN
  generalize w5.alloc (.cells #[.bool lf, .slice p3 D.length pc3, .slice q3 E.length qc3] 24) = w6 at *
  generalize w5.heap.size = nb at *
  have HRD := mkHid rd9
  clear rd9
  refine region_made 7 [IsV (.agg #[.bool lf, .slice p3 D.length pc3, .slice q3 E.length qc3]), IsV (.agg #[.bool lf, .slice ka kl kc, .slice va vl vc]), IsV (.int .i64 (a : Int)), IsV (.agg #[.bool lf, .slice ka kl kc, .slice va vl vc]), IsV (.int .i64 (P : Int)), IsN lf (A2) (C2), IsN lf (F) (G)] (by kernel_rfl) (by kernel_rfl) (by kernel_rfl) (by decide) (of_decide_eq_true (by kernel_rfl)) ⟨keepV _, keepV _, keepV _, keepV _, keepV _, keepN _ _ _, keepN _ _ _, trivial⟩ ?_ ?_
  · refine ⟨?_, ?_, ?_, ?_, ?_, ?_, ?_, trivial⟩
    · intro v u hg hd K hK
      have hz := (Chg.drew [] w6).then hg
      have x0 := hz.cellv n0 (by simp)
      have x1 := hz.cellv n1 (by simp)
      have x2 := hz.cellv n2 (by simp)
      clear hd
      have hk := hK.out (.agg #[.bool lf, .slice p3 D.length pc3, .slice q3 E.length qc3]) u (Chg.refl _ _) rfl
      clear hK
      simp only [List.toList_toArray, List.take_succ_cons, List.take_zero, List.drop_succ_cons, List.drop_zero, putAll, Act.put, List.setIfInBounds_toArray, List.set_cons_zero, List.set_cons_succ, Nat.zero_add, Nat.reduceAdd] at hk ⊢
      go_simp
      exact hk
    · intro v u hg hd K hK
      have hz := (Chg.drew [] w6).then hg
      have x0 := (hz).cellv c0 (by simp)
      have x1 := (hz).cellv c1 (by simp)
      have x2 := (hz).cellv c2 (by simp)
      clear hd
      have hk := hK.out (.agg #[.bool lf, .slice ka kl kc, .slice va vl vc]) u (Chg.refl _ _) rfl
      clear hK
      simp only [List.toList_toArray, List.take_succ_cons, List.take_zero, List.drop_succ_cons, List.drop_zero, putAll, Act.put, List.setIfInBounds_toArray, List.set_cons_zero, List.set_cons_succ, Nat.zero_add, Nat.reduceAdd] at hk ⊢
      go_simp
      exact hk
    · intro v u hg hd K hK
      clear hd
      have hk := hK.out (.int .i64 (a : Int)) u (Chg.refl _ _) rfl
      clear hK
      simp only [List.toList_toArray, List.take_succ_cons, List.take_zero, List.drop_succ_cons, List.drop_zero, putAll, Act.put, List.setIfInBounds_toArray, List.set_cons_zero, List.set_cons_succ, Nat.zero_add, Nat.reduceAdd] at hk ⊢
      go_simp
      exact hk
    · intro v u hg hd K hK
      have hz := (Chg.drew [] w6).then hg
      have x0 := (hz).cellv c0 (by simp)
      have x1 := (hz).cellv c1 (by simp)
      have x2 := (hz).cellv c2 (by simp)
      clear hd
      have hk := hK.out (.agg #[.bool lf, .slice ka kl kc, .slice va vl vc]) u (Chg.refl _ _) rfl
      clear hK
      simp only [List.toList_toArray, List.take_succ_cons, List.take_zero, List.drop_succ_cons, List.drop_zero, putAll, Act.put, List.setIfInBounds_toArray, List.set_cons_zero, List.set_cons_succ, Nat.zero_add, Nat.reduceAdd] at hk ⊢
      go_simp
      exact hk
    · intro v u hg hd K hK
      have h3 : ∃ lo hi, IsV (.agg #[.bool lf, .slice ka kl kc, .slice va vl vc]) (v 3) lo hi u := dep hd 3 (by kernel_rfl)
      have e3 : v 3 = .agg #[.bool lf, .slice ka kl kc, .slice va vl vc] := depV h3
      clear hd
      simp only [List.toList_toArray, List.take_succ_cons, List.take_zero, List.drop_succ_cons, List.drop_zero, putAll, Act.put, List.setIfInBounds_toArray, List.set_cons_zero, List.set_cons_succ, Nat.zero_add, Nat.reduceAdd, e3] at hK ⊢
      go_simp
      refine (CP.out u).mono ?_
      rintro e u' ⟨rfl, g'⟩
      have hk := hK.out (.int .i64 (P : Int)) u' g' rfl
      exact hk
    · intro v u hg hd K hK
      have h1 : ∃ lo hi, IsV (.agg #[.bool lf, .slice ka kl kc, .slice va vl vc]) (v 1) lo hi u := dep hd 1 (by kernel_rfl)
      have e1 : v 1 = .agg #[.bool lf, .slice ka kl kc, .slice va vl vc] := depV h1
      have h2 : ∃ lo hi, IsV (.int .i64 (a : Int)) (v 2) lo hi u := dep hd 2 (by kernel_rfl)
      have e2 : v 2 = .int .i64 (a : Int) := depV h2
      have h4 : ∃ lo hi, IsV (.int .i64 (P : Int)) (v 4) lo hi u := dep hd 4 (by kernel_rfl)
      have e4 : v 4 = .int .i64 (P : Int) := depV h4
      clear hd
      simp only [List.toList_toArray, List.take_succ_cons, List.take_zero, List.drop_succ_cons, List.drop_zero, putAll, Act.put, List.setIfInBounds_toArray, List.set_cons_zero, List.set_cons_succ, Nat.zero_add, Nat.reduceAdd, e1, e2, e4] at hK ⊢
      go_simp
      refine (CA2.out u ((g0.then gW).then ((Chg.drew [] w6).then hg))).mono ?_
      rintro e u' ⟨⟨qa, qc, qa', qc', rfl, hr⟩, g'⟩
      have hk := hK.out (_) u' g' (isN_out ⟨_, _, _, _, rfl, hr⟩)
      exact hk
    · intro v u hg hd K hK
      have h0 : ∃ lo hi, IsV (.agg #[.bool lf, .slice p3 D.length pc3, .slice q3 E.length qc3]) (v 0) lo hi u := dep hd 0 (by kernel_rfl)
      have e0 : v 0 = .agg #[.bool lf, .slice p3 D.length pc3, .slice q3 E.length qc3] := depV h0
      have h5 : ∃ lo hi, IsN lf (A2) (C2) (v 5) lo hi u := dep hd 5 (by kernel_rfl)
      obtain ⟨_, _, pa5, pc5, qa5, qc5, e5, hr5, -, -⟩ := h5
      clear hd
      simp only [List.toList_toArray, List.take_succ_cons, List.take_zero, List.drop_succ_cons, List.drop_zero, putAll, Act.put, List.setIfInBounds_toArray, List.set_cons_zero, List.set_cons_succ, Nat.zero_add, Nat.reduceAdd, e0, e5] at hK ⊢
      go_simp
      refine (rjoin_eq lf p3 D.length pc3 q3 E.length qc3 D E lf pa5 A2.length pc5 qa5 C2.length qc5 A2 C2 F G u (HRD.out.keep ((Chg.drew [] w6).then hg)) rfl rfl (hr5.rd (by have := HL.out; omega) (by have := HL.out; omega)) rfl rfl (by have := HL.out; omega) (by have := HL.out; omega) (by have := HL.out; omega) HQ.out.2.2.1 HQ.out.2.2.2).mono ?_
      rintro e u' ⟨⟨qa, qc, qa', qc', rfl, hr⟩, g'⟩
      have hk := hK.out (_) u' g' (isN_out ⟨_, _, _, _, rfl, hr⟩)
      exact hk
  · intro v u lo hi hg hall hbd hdj
    have e0 : v 0 = .agg #[.bool lf, .slice p3 D.length pc3, .slice q3 E.length qc3] := hall 0 (by decide)
    have e1 : v 1 = .agg #[.bool lf, .slice ka kl kc, .slice va vl vc] := hall 1 (by decide)
    have e2 : v 2 = .int .i64 (a : Int) := hall 2 (by decide)
    have e3 : v 3 = .agg #[.bool lf, .slice ka kl kc, .slice va vl vc] := hall 3 (by decide)
    have e4 : v 4 = .int .i64 (P : Int) := hall 4 (by decide)
    obtain ⟨pz5, pzc5, qz5, qzc5, e5, -, -, -⟩ : IsN lf (A2) (C2) (v 5) (lo 5) (hi 5) u := hall 5 (by decide)
    obtain ⟨pa, pc, qa, qc, e9, hr0, m1, m2⟩ : IsN lf (F) (G) (v 6) (lo 6) (hi 6) u := hall 6 (by decide)
    have bb := (hbd 6 (by decide)).1
    have hr := hr0.mono bb
    have gU := (Chg.drew [] w6).then hg
    have tU := there_chg t0 gU (by simp)
    obtain ⟨v0, v1, v2, i0, i1, i2, j0, j1, j2⟩ := there3 tU
    have gZ := three_chg u R (.bool lf) (.slice pa (F).length pc) (.slice qa (G).length qc)
    have hR1 := HR.out
    have hRw : ∀ q, q ∈ [R] → q < w6.heap.size := fun q hq => by simp at hq; have := gW.size; omega
    have hrZ := (hr.chg gZ hRw).mono (show w.heap.size ≤ w6.heap.size from Nat.le_trans g0.size gW.size)
    have gF := ((g0.then gW).then gU).trans gZ (U := []) (by simp) (fun q hq hlt => by simp at hq; omega)
    have HF := mkHid (And.intro hrZ gF)
    clear hr0 hr gU tU gZ hrZ gF hall hbd hdj hg m1 m2 bb hRw
    simp only [List.toList_toArray, List.take_succ_cons, List.take_zero, List.drop_succ_cons, List.drop_zero, putAll, Act.put, List.setIfInBounds_toArray, List.set_cons_zero, List.set_cons_succ, Nat.zero_add, Nat.reduceAdd, e0, e1, e2, e3, e4, e5, e9]
    clear e0 e1 e2 e3 e4 e5 e9 v lo hi
    go_wp2_with fail
    refine bodyPost_ret (v := .agg #[.bool lf, .slice pa (F).length pc, .slice qa (G).length qc]) (by simp [results, Try.results20, go_sem, i0, i1, i2]) rfl ⟨?_, HF.out.2⟩
    exact ⟨pa, pc, qa, qc, rfl, HF.out.1⟩
end Go.Proofs.Ytlaeonemlodhmaa
