/- The reference: Join. -/
import Derived.Test.YtlaeonemlodhmaaIh
namespace Go.Proofs.Ytlaeonemlodhmaa
open Go.RowKit
set_option linter.unusedVariables false
set_option linter.unusedSimpArgs false
attribute [local go_sem ↓] Go.wp_at_zero Go.wp_at_succ

/-- The pairs of a node alone: its keys, its values. -/
def tkK (K V : List Nat) : List Nat := K.take (np K V)
def tkV (K V : List Nat) : List Nat := V.take (np K V)
theorem tk_lens {K V : List Nat} : (tkK K V).length = np K V ∧ (tkV K V).length = np K V := by
  unfold tkK tkV
  rw [List.length_take, List.length_take]
  exact ⟨Nat.min_eq_left np_le.1, Nat.min_eq_left np_le.2⟩
set_option maxRecDepth 20000 in
set_option maxHeartbeats 2000000 in
theorem rjoin_any (lf : Bool) (ka : Option Addr) (kl kc : Nat) (va : Option Addr) (vl vc : Nat) (K V : List Nat) (lf' : Bool) (ka' : Option Addr) (kl' kc' : Nat) (va' : Option Addr) (vl' vc' : Nat) (K' V' : List Nat) (w : World) (h : RdN w ka kc va vc K V) (hk : K.length = kl) (hv : V.length = vl) (h' : RdN w ka' kc' va' vc' K' V') (hk' : K'.length = kl') (hv' : V'.length = vl') (hb : np K V + np K' V' ≤ 1000000000) :
    Calls Try.prog 28 #[.agg #[.bool lf, .slice ka kl kc, .slice va vl vc], .agg #[.bool lf', .slice ka' kl' kc', .slice va' vl' vc']] w fun e w' => NOut w.heap.size lf (tkK K V ++ tkK K' V') (tkV K V ++ tkV K' V') e w' ∧ Chg [] w w' := by
  have g0 : Chg [] w ((w.alloc (.cells #[.bool lf, .slice ka kl kc, .slice va vl vc] 24)).alloc (.cells #[.bool lf', .slice ka' kl' kc', .slice va' vl' vc'] 24)) := (Chg.alloc [] w _).then (Chg.alloc [] _ _)
  obtain ⟨e1, e2, f1, f2⟩ := two_boxes w (.bool lf) (.slice ka kl kc) (.slice va vl vc) (.bool lf') (.slice ka' kl' kc') (.slice va' vl' vc') 24
  obtain ⟨e0, f0⟩ := two_boxes0 w (.bool lf) (.slice ka kl kc) (.slice va vl vc) (.bool lf') (.slice ka' kl' kc') (.slice va' vl' vc') 24
  have hz : ((w.alloc (.cells #[.bool lf, .slice ka kl kc, .slice va vl vc] 24)).alloc (.cells #[.bool lf', .slice ka' kl' kc', .slice va' vl' vc'] 24)).heap.size = w.heap.size + 2 := by simp
  have t0 := start_there ((w.alloc (.cells #[.bool lf, .slice ka kl kc, .slice va vl vc] 24)).alloc (.cells #[.bool lf', .slice ka' kl' kc', .slice va' vl' vc'] 24))
  rw [hz] at t0
  obtain ⟨P, hP⟩ : ∃ P, np K V = P := ⟨_, rfl⟩
  obtain ⟨P', hP'⟩ : ∃ P, np K' V' = P := ⟨_, rfl⟩
  have cP := rpairs_any lf ka kl kc va vl vc P (by rw [min_np hk hv, hP])
  have cP' := rpairs_any lf' ka' kl' kc' va' vl' vc' P' (by rw [min_np hk' hv', hP'])
  have ePK : tkK K V = sub K 0 P := by unfold tkK; rw [hP]; rfl
  have ePV : tkV K V = sub V 0 P := by unfold tkV; rw [hP]; rfl
  have ePK' : tkK K' V' = sub K' 0 P' := by unfold tkK; rw [hP']; rfl
  have ePV' : tkV K' V' = sub V' 0 P' := by unfold tkV; rw [hP']; rfl
  have lA := sub_len (L := K) (f := 0) (t := P) (by rw [← hP]; exact np_le.1)
  have lB := sub_len (L := V) (f := 0) (t := P) (by rw [← hP]; exact np_le.2)
  have lA' := sub_len (L := K') (f := 0) (t := P') (by rw [← hP']; exact np_le.1)
  have lB' := sub_len (L := V') (f := 0) (t := P') (by rw [← hP']; exact np_le.2)
  have cA := fun (u : World) (g : Chg [] w u) => rpart0_any lf ka kl kc va vl vc K V u (h.keep g) hk hv P (by rw [← hP, ← hk]; exact np_le.1) (by rw [← hP, ← hv]; exact np_le.2)
  have cA' := fun (u : World) (g : Chg [] w u) => rpart0_any lf' ka' kl' kc' va' vl' vc' K' V' u (h'.keep g) hk' hv' P' (by rw [← hP', ← hk']; exact np_le.1) (by rw [← hP', ← hv']; exact np_le.2)
  rw [hP, hP'] at hb
  rw [ePK, ePV, ePK', ePV']
  generalize sub K 0 P = A at *
  generalize sub V 0 P = C at *
  generalize sub K' 0 P' = A' at *
  generalize sub V' 0 P' = C' at *
  have HL := mkHid (show A.length + A'.length ≤ 1000000000 ∧ C.length + C'.length ≤ 1000000000 by omega)
  have HE := mkHid (And.intro e0 (And.intro e1 (And.intro e2 (And.intro f0 (And.intro f1 f2)))))
  have HZ := mkHid (And.intro hz (And.intro t0 g0))
  have CP := mkHid cP
  have CP' := mkHid cP'
  have CA := mkHid cA
  have CA' := mkHid cA'
  clear hz t0 g0 e0 e1 e2 f0 f1 f2 hP hP' cP cP' cA cA' ePK ePV ePK' ePV' lA lB lA' lB' hk hv hk' hv' h h' hb
  go_enter Try.func28, Try.ntmps28
  go_wp2_with fail
  obtain ⟨e0, e1, e2, f0, f1, f2⟩ := HE.out
  obtain ⟨hz, t0, g0⟩ := HZ.out
  clear HE HZ
  generalize (w.alloc (.cells #[.bool lf, .slice ka kl kc, .slice va vl vc] 24)).alloc (.cells #[.bool lf', .slice ka' kl' kc', .slice va' vl' vc'] 24) = w1 at *
  have gR := Chg.alloc [] w1 (.cells #[.bool false, .slice none 0 0, .slice none 0 0] 24)
  have hzR : (w1.alloc (.cells #[.bool false, .slice none 0 0, .slice none 0 0] 24)).heap.size = w.heap.size + 3 := by simp; omega
  have gW := g0.then gR
  have a0 := gR.cellv e0 (by simp)
  have a1 := gR.cellv e1 (by simp)
  have a2 := gR.cellv e2 (by simp)
  have b0 := gR.cellv f0 (by simp)
  have b1 := gR.cellv f1 (by simp)
  have b2 := gR.cellv f2 (by simp)
  clear e0 e1 e2 f0 f1 f2 gR
  generalize w1.alloc (.cells #[.bool false, .slice none 0 0, .slice none 0 0] 24) = w2 at *
  obtain ⟨B0, hB0⟩ : ∃ b, w.heap.size = b := ⟨_, rfl⟩
  have HB := mkHid (And.intro hB0 (And.intro hz hzR))
  rw [hB0] at a0 a1 a2 b0 b1 b2 t0 ⊢
  clear hB0 hz hzR
  obtain ⟨B1, hB1⟩ : ∃ b, B0 + 1 = b := ⟨_, rfl⟩
  obtain ⟨R, hR⟩ : ∃ b, B1 + 1 = b := ⟨_, rfl⟩
  rw [hB1] at b0 b1 b2 ⊢
  rw [hR]
  rw [show B0 + 2 = R by omega] at t0
  refine region_made 5 [IsV (.agg #[.bool lf, .slice ka kl kc, .slice va vl vc]), IsV (.agg #[.bool lf, .slice ka kl kc, .slice va vl vc]), IsV (.int .i64 (P : Int)), IsN lf (A) (C), IsBox] (by kernel_rfl) (by kernel_rfl) (by kernel_rfl) (by decide) (of_decide_eq_true (by kernel_rfl)) ⟨keepV _, keepV _, keepV _, keepN _ _ _, keepB, trivial⟩ ?_ ?_
  · refine ⟨?_, ?_, ?_, ?_, ?_, trivial⟩
    · intro v u hg hd K hK
      have hz := (Chg.drew [] w2).then hg
      have x0 := hz.cellv a0 (by simp)
      have x1 := hz.cellv a1 (by simp)
      have x2 := hz.cellv a2 (by simp)
      clear hd
      have hk := hK.out (.agg #[.bool lf, .slice ka kl kc, .slice va vl vc]) u (Chg.refl _ _) rfl
      clear hK
      simp only [List.toList_toArray, List.take_succ_cons, List.take_zero, List.drop_succ_cons, List.drop_zero, putAll, Act.put, List.setIfInBounds_toArray, List.set_cons_zero, List.set_cons_succ, Nat.zero_add, Nat.reduceAdd] at hk ⊢
      go_simp
      exact hk
    · intro v u hg hd K hK
      have hz := (Chg.drew [] w2).then hg
      have x0 := hz.cellv a0 (by simp)
      have x1 := hz.cellv a1 (by simp)
      have x2 := hz.cellv a2 (by simp)
      clear hd
      have hk := hK.out (.agg #[.bool lf, .slice ka kl kc, .slice va vl vc]) u (Chg.refl _ _) rfl
      clear hK
      simp only [List.toList_toArray, List.take_succ_cons, List.take_zero, List.drop_succ_cons, List.drop_zero, putAll, Act.put, List.setIfInBounds_toArray, List.set_cons_zero, List.set_cons_succ, Nat.zero_add, Nat.reduceAdd] at hk ⊢
      go_simp
      exact hk
    · intro v u hg hd K hK
      have h1 : ∃ lo hi, IsV (.agg #[.bool lf, .slice ka kl kc, .slice va vl vc]) (v 1) lo hi u := dep hd 1 (by kernel_rfl)
      have e1 : v 1 = .agg #[.bool lf, .slice ka kl kc, .slice va vl vc] := depV h1
      clear hd
      simp only [List.toList_toArray, List.take_succ_cons, List.take_zero, List.drop_succ_cons, List.drop_zero, putAll, Act.put, List.setIfInBounds_toArray, List.set_cons_zero, List.set_cons_succ, Nat.zero_add, Nat.reduceAdd, e1] at hK ⊢
      go_simp
      refine (CP.out u).mono ?_
      rintro e u' ⟨rfl, g'⟩
      have hk := hK.out (.int .i64 (P : Int)) u' g' rfl
      exact hk
    · intro v u hg hd K hK
      have h0 : ∃ lo hi, IsV (.agg #[.bool lf, .slice ka kl kc, .slice va vl vc]) (v 0) lo hi u := dep hd 0 (by kernel_rfl)
      have e0 : v 0 = .agg #[.bool lf, .slice ka kl kc, .slice va vl vc] := depV h0
      have h2 : ∃ lo hi, IsV (.int .i64 (P : Int)) (v 2) lo hi u := dep hd 2 (by kernel_rfl)
      have e2 : v 2 = .int .i64 (P : Int) := depV h2
      clear hd
      simp only [List.toList_toArray, List.take_succ_cons, List.take_zero, List.drop_succ_cons, List.drop_zero, putAll, Act.put, List.setIfInBounds_toArray, List.set_cons_zero, List.set_cons_succ, Nat.zero_add, Nat.reduceAdd, e0, e2] at hK ⊢
      go_simp
      refine (CA.out u (gW.then ((Chg.drew [] w2).then hg))).mono ?_
      rintro e u' ⟨⟨qa, qc, qa', qc', rfl, hr⟩, g'⟩
      have hk := hK.out (_) u' g' (isN_out ⟨_, _, _, _, rfl, hr⟩)
      exact hk
    · intro v u hg hd K hK
      clear hd
      have hk := hK.out (.pointer (some ⟨u.heap.size, 0, none⟩)) _ (Chg.alloc [] u (.cells #[.bool false, .slice none 0 0, .slice none 0 0] 24)) ⟨rfl, by simp, start_there u⟩
      clear hK
      simp only [List.toList_toArray, List.take_succ_cons, List.take_zero, List.drop_succ_cons, List.drop_zero, putAll, Act.put, List.setIfInBounds_toArray, List.set_cons_zero, List.set_cons_succ, Nat.zero_add, Nat.reduceAdd] at hk ⊢
      go_simp
      exact hk
  · intro v u lo hi hg hall hbd hdj
    have e0 : v 0 = .agg #[.bool lf, .slice ka kl kc, .slice va vl vc] := hall 0 (by decide)
    have e1 : v 1 = .agg #[.bool lf, .slice ka kl kc, .slice va vl vc] := hall 1 (by decide)
    have e2 : v 2 = .int .i64 (P : Int) := hall 2 (by decide)
    obtain ⟨p1, pc1, q1, qc1, e3, hr0, m1, m2⟩ : IsN lf A C (v 3) (lo 3) (hi 3) u := hall 3 (by decide)
    obtain ⟨e4, h4, t4⟩ : IsBox (v 4) (lo 4) (hi 4) u := hall 4 (by decide)
    have d34 := hdj 3 4 (by decide) (by decide) (by decide)
    have b3 := (hbd 3 (by decide)).1
    have b4 := (hbd 4 (by decide)).1
    have n1 : lo 4 ∉ fp p1 pc1 := fun hm => by have := (hr0.rk.lt _ hm).1; have := m1 _ hm; omega
    have n2 : lo 4 ∉ fp q1 qc1 := fun hm => by have := (hr0.rv.lt _ hm).1; have := m2 _ hm; omega
    have hr := hr0.mono b3
    generalize lo 4 = r1 at *
    obtain ⟨v0, v1, v2, i0, i1, i2, j0, j1, j2⟩ := there3 t4
    have hs := stored3 t4 (.bool lf) (.slice p1 A.length pc1) (.slice q1 C.length qc1)
    have hp := hr.put r1 n1 n2 (.bool lf) (.slice p1 A.length pc1) (.slice q1 C.length qc1)
    have gC := three w2 u r1 b4 ((Chg.drew [] w2).then hg) (.bool lf) (.slice p1 A.length pc1) (.slice q1 C.length qc1)
    have HS := mkHid (And.intro hs (And.intro hp gC))
    have HN1 := mkHid (And.intro n1 (And.intro n2 trivial))
    clear hs hp gC hall hbd hdj hr hr0 m1 m2 d34 n1 n2 t4 h4 b3 hg
    simp only [List.toList_toArray, List.take_succ_cons, List.take_zero, List.drop_succ_cons, List.drop_zero, putAll, Act.put, List.setIfInBounds_toArray, List.set_cons_zero, List.set_cons_succ, Nat.zero_add, Nat.reduceAdd, e0, e1, e2, e3, e4] at *
    clear e0 e1 e2 e3 e4 v lo hi
    go_wp2_with fail
    obtain ⟨⟨s0, s1, s2, s3, s4⟩, hr, gC⟩ := HS.out
    clear HS i0 i1 i2 j0 j1 j2
    have n1 := HN1.out.1
    have n2 := HN1.out.2.1
    clear HN1
    generalize ((u.setCell ⟨r1, 0, none⟩ (.bool lf)).setCell ⟨r1, 1, none⟩ (.slice p1 A.length pc1)).setCell ⟨r1, 2, none⟩ (.slice q1 C.length qc1) = w3 at *
    have gW3 := gW.then gC
    have hzz := gC.size
    have d0 := gC.cellv b0 (by simp)
    have d1 := gC.cellv b1 (by simp)
    have d2 := gC.cellv b2 (by simp)
    have t3 := there_chg t0 gC (by simp)
    have HR1 := mkHid (And.intro hr (And.intro n1 (And.intro n2 (And.intro b4 (And.intro s0 (And.intro s1 (And.intro s2 (And.intro s3 s4))))))))
    clear a0 a1 a2 gC s0 s1 s2 s3 s4 hr n1 n2 b4 gW b0 b1 b2 t0
    refine region_made 5 [IsV (.agg #[.bool lf', .slice ka' kl' kc', .slice va' vl' vc']), IsV (.agg #[.bool lf', .slice ka' kl' kc', .slice va' vl' vc']), IsV (.int .i64 (P' : Int)), IsN lf' (A') (C'), IsBox] (by kernel_rfl) (by kernel_rfl) (by kernel_rfl) (by decide) (of_decide_eq_true (by kernel_rfl)) ⟨keepV _, keepV _, keepV _, keepN _ _ _, keepB, trivial⟩ ?_ ?_
    · refine ⟨?_, ?_, ?_, ?_, ?_, trivial⟩
      · intro v u hg hd K hK
        have hz := (Chg.drew [] w3).then hg
        have x0 := hz.cellv d0 (by simp)
        have x1 := hz.cellv d1 (by simp)
        have x2 := hz.cellv d2 (by simp)
        clear hd
        have hk := hK.out (.agg #[.bool lf', .slice ka' kl' kc', .slice va' vl' vc']) u (Chg.refl _ _) rfl
        clear hK
        simp only [List.toList_toArray, List.take_succ_cons, List.take_zero, List.drop_succ_cons, List.drop_zero, putAll, Act.put, List.setIfInBounds_toArray, List.set_cons_zero, List.set_cons_succ, Nat.zero_add, Nat.reduceAdd] at hk ⊢
        go_simp
        exact hk
      · intro v u hg hd K hK
        have hz := (Chg.drew [] w3).then hg
        have x0 := hz.cellv d0 (by simp)
        have x1 := hz.cellv d1 (by simp)
        have x2 := hz.cellv d2 (by simp)
        clear hd
        have hk := hK.out (.agg #[.bool lf', .slice ka' kl' kc', .slice va' vl' vc']) u (Chg.refl _ _) rfl
        clear hK
        simp only [List.toList_toArray, List.take_succ_cons, List.take_zero, List.drop_succ_cons, List.drop_zero, putAll, Act.put, List.setIfInBounds_toArray, List.set_cons_zero, List.set_cons_succ, Nat.zero_add, Nat.reduceAdd] at hk ⊢
        go_simp
        exact hk
      · intro v u hg hd K hK
        have h1 : ∃ lo hi, IsV (.agg #[.bool lf', .slice ka' kl' kc', .slice va' vl' vc']) (v 1) lo hi u := dep hd 1 (by kernel_rfl)
        have e1 : v 1 = .agg #[.bool lf', .slice ka' kl' kc', .slice va' vl' vc'] := depV h1
        clear hd
        simp only [List.toList_toArray, List.take_succ_cons, List.take_zero, List.drop_succ_cons, List.drop_zero, putAll, Act.put, List.setIfInBounds_toArray, List.set_cons_zero, List.set_cons_succ, Nat.zero_add, Nat.reduceAdd, e1] at hK ⊢
        go_simp
        refine (CP'.out u).mono ?_
        rintro e u' ⟨rfl, g'⟩
        have hk := hK.out (.int .i64 (P' : Int)) u' g' rfl
        exact hk
      · intro v u hg hd K hK
        have h0 : ∃ lo hi, IsV (.agg #[.bool lf', .slice ka' kl' kc', .slice va' vl' vc']) (v 0) lo hi u := dep hd 0 (by kernel_rfl)
        have e0 : v 0 = .agg #[.bool lf', .slice ka' kl' kc', .slice va' vl' vc'] := depV h0
        have h2 : ∃ lo hi, IsV (.int .i64 (P' : Int)) (v 2) lo hi u := dep hd 2 (by kernel_rfl)
        have e2 : v 2 = .int .i64 (P' : Int) := depV h2
        clear hd
        simp only [List.toList_toArray, List.take_succ_cons, List.take_zero, List.drop_succ_cons, List.drop_zero, putAll, Act.put, List.setIfInBounds_toArray, List.set_cons_zero, List.set_cons_succ, Nat.zero_add, Nat.reduceAdd, e0, e2] at hK ⊢
        go_simp
        refine (CA'.out u (gW3.then ((Chg.drew [] w3).then hg))).mono ?_
        rintro e u' ⟨⟨qa, qc, qa', qc', rfl, hr⟩, g'⟩
        have hk := hK.out (_) u' g' (isN_out ⟨_, _, _, _, rfl, hr⟩)
        exact hk
      · intro v u hg hd K hK
        clear hd
        have hk := hK.out (.pointer (some ⟨u.heap.size, 0, none⟩)) _ (Chg.alloc [] u (.cells #[.bool false, .slice none 0 0, .slice none 0 0] 24)) ⟨rfl, by simp, start_there u⟩
        clear hK
        simp only [List.toList_toArray, List.take_succ_cons, List.take_zero, List.drop_succ_cons, List.drop_zero, putAll, Act.put, List.setIfInBounds_toArray, List.set_cons_zero, List.set_cons_succ, Nat.zero_add, Nat.reduceAdd] at hk ⊢
        go_simp
        exact hk
    · intro v u lo hi hg hall hbd hdj
      have e0 : v 0 = .agg #[.bool lf', .slice ka' kl' kc', .slice va' vl' vc'] := hall 0 (by decide)
      have e1 : v 1 = .agg #[.bool lf', .slice ka' kl' kc', .slice va' vl' vc'] := hall 1 (by decide)
      have e2 : v 2 = .int .i64 (P' : Int) := hall 2 (by decide)
      obtain ⟨p2, pc2, q2, qc2, e3, hr0, m1, m2⟩ : IsN lf' A' C' (v 3) (lo 3) (hi 3) u := hall 3 (by decide)
      obtain ⟨e4, h4, t4⟩ : IsBox (v 4) (lo 4) (hi 4) u := hall 4 (by decide)
      have d34 := hdj 3 4 (by decide) (by decide) (by decide)
      have b3 := (hbd 3 (by decide)).1
      have b4 := (hbd 4 (by decide)).1
      have n1 : lo 4 ∉ fp p2 pc2 := fun hm => by have := (hr0.rk.lt _ hm).1; have := m1 _ hm; omega
      have n2 : lo 4 ∉ fp q2 qc2 := fun hm => by have := (hr0.rv.lt _ hm).1; have := m2 _ hm; omega
      have hr := hr0.mono b3
      generalize lo 4 = r2 at *
      obtain ⟨v0, v1, v2, i0, i1, i2, j0, j1, j2⟩ := there3 t4
      have hs := stored3 t4 (.bool lf') (.slice p2 A'.length pc2) (.slice q2 C'.length qc2)
      have hp := hr.put r2 n1 n2 (.bool lf') (.slice p2 A'.length pc2) (.slice q2 C'.length qc2)
      have gC := three w3 u r2 b4 ((Chg.drew [] w3).then hg) (.bool lf') (.slice p2 A'.length pc2) (.slice q2 C'.length qc2)
      have HS := mkHid (And.intro hs (And.intro hp gC))
      have HN1 := mkHid (And.intro n1 (And.intro n2 trivial))
      clear hs hp gC hall hbd hdj hr hr0 m1 m2 d34 n1 n2 t4 h4 b3 hg
      simp only [List.toList_toArray, List.take_succ_cons, List.take_zero, List.drop_succ_cons, List.drop_zero, putAll, Act.put, List.setIfInBounds_toArray, List.set_cons_zero, List.set_cons_succ, Nat.zero_add, Nat.reduceAdd, e0, e1, e2, e3, e4] at *
      clear e0 e1 e2 e3 e4 v lo hi
      obtain ⟨⟨s0, s1, s2, s3, s4⟩, hr, gC⟩ := HS.out
      clear HS
      generalize hW : ((u.setCell ⟨r2, 0, none⟩ (.bool lf')).setCell ⟨r2, 1, none⟩ (.slice p2 A'.length pc2)).setCell ⟨r2, 2, none⟩ (.slice q2 C'.length qc2) = w4 at s0 s1 s2 s3 s4 hr gC
      clear HN1
      obtain ⟨k1, n1, n2, b5, y0, y1, y2, y3, y4⟩ := HR1.out
      have hB5 := HB.out
      have hR3 : R + 1 = w2.heap.size := by omega
      have gW4 := gW3.then gC
      have lp1 := fun q hq => k1.rk.lt q hq
      have lq1 := fun q hq => k1.rv.lt q hq
      have lp2 := fun q hq => hr.rk.lt q hq
      have lq2 := fun q hq => hr.rv.lt q hq
      have rp1 : r2 ∉ fp p1 pc1 := fun hm => by have := (lp1 _ hm).2; omega
      have rq1 : r2 ∉ fp q1 qc1 := fun hm => by have := (lq1 _ hm).2; omega
      have Rp1 : R ∉ fp p1 pc1 := fun hm => by have := (lp1 _ hm).1; omega
      have Rq1 : R ∉ fp q1 qc1 := fun hm => by have := (lq1 _ hm).1; omega
      have pq2 : ∀ q, q ∈ fp q2 qc2 → q ∉ fp p1 pc1 := fun q hq hm => by have := (lp1 _ hm).2; have := (lq2 _ hq).1; omega
      have pq3 : ∀ q, q ∈ fp q2 qc2 → q ∉ fp q1 qc1 := fun q hq hm => by have := (lq1 _ hm).2; have := (lq2 _ hq).1; omega
      have r12 : r1 ∉ fp q2 qc2 := fun hm => by have := (lq2 _ hm).1; have := block_lt_of_cell y0; dsimp only at this; omega
      have Rr1 : R ≠ r1 := by omega
      have k4 := k1.keep gC
      have y0 := gC.cellv y0 (by simp)
      have y1 := gC.cellv y1 (by simp)
      have z2 := gC.cellv y2 (by simp)
      have z3 := (gC.frozen (p := ⟨r1, 1, none⟩) (block_lt_of_cell (HR1.out.2.2.2.2.2.1)) (by simp)).trans y3
      have z4 := (gC.frozen (p := ⟨r1, 2, none⟩) (block_lt_of_cell y2) (by simp)).trans y4
      have t4 := there_chg t3 gC (by simp)
      have hB4 : w2.heap.size ≤ w4.heap.size := Nat.le_trans hzz gC.size
      have hgq : ∀ q, q ∈ fp p1 pc1 ∨ q ∈ fp q1 qc1 ∨ q = r1 → w.heap.size ≤ q := fun q hq => by rcases hq with hq | hq | hq; (have := (lp1 _ hq).1; omega); (have := (lq1 _ hq).1; omega); omega
      have mx : A.length + A'.length ≤ maxLen ∧ (A.length + A'.length) * 8 ≤ 140737488355328 ∧ C.length + C'.length ≤ maxLen ∧ (C.length + C'.length) * 8 ≤ 140737488355328 := by have := HL.out; unfold maxLen; omega
      have HSZ := mkHid (show r1 < w4.heap.size ∧ R + 1 = w2.heap.size from ⟨block_lt_of_cell y0, hR3⟩)
      have HX := mkHid (And.intro k4 (And.intro hr (And.intro n1 (And.intro n2 (And.intro rp1 (And.intro rq1 (And.intro Rp1 (And.intro Rq1 (And.intro pq2 (And.intro pq3 (And.intro Rr1 (And.intro t4 (And.intro hB4 (And.intro hgq (And.intro gW4 (And.intro r12 mx))))))))))))))))
      clear k4 hr n1 n2 rp1 rq1 Rp1 Rq1 pq2 pq3 Rr1 t4 hB4 hgq gW4 r12 mx k1 lp1 lq1 lp2 lq2 HR1 gC gW3 d0 d1 d2 t3 hzz b4 b5 y2 y3 y4 s0 s3 s4 hB5 hR3 hB1 hR
      obtain ⟨k4, hr, n1, n2, rp1, rq1, Rp1, Rq1, pq2, pq3, Rr1, t4, hB4, hgq, gW4, r12, mx⟩ := HX.out
      go_wp2_with (first
        | (at_builtin
           refine wpList_append_k _ rfl (.tmp 16) (.tmp 18) 22 rfl 25 8 eltU w2.heap.size p1 A.length pc1 (uvs A) rfl HX.out.1.rk HX.out.2.2.2.2.2.2.2.2.2.2.2.2.1 p2 A'.length pc2 (uvs A') rfl HX.out.2.1.rk.reads (uvs_len _) (uvs_one _) mx.1 mx.2.1 ?_
           intro a5 c5 w5 r5 g5 f5
           have x0 := g5.cellv y0 n1
           have x1 := g5.cellv y1 n1
           have x2 := g5.cellv z2 n1
           have x3 := (g5.frozen (p := ⟨r1, 1, none⟩) (block_lt_of_cell y1) n1).trans z3
           have x4 := (g5.frozen (p := ⟨r1, 2, none⟩) (block_lt_of_cell z2) n1).trans z4
           have x5 := g5.cellv s2 rp1
           have t5 := there_chg t4 g5 Rp1
           have q5 := k4.rv.chg g5 (fun q hq hm => k4.dj q hm hq)
           have q6 := hr.rv.chg g5 pq2
           have gW5 := gW4.trans g5 (U := []) (by simp) (fun q hq hlt => by have := hgq q (Or.inl hq); omega)
           have HY := mkHid (And.intro r5 (And.intro f5 (And.intro t5 (And.intro q5 (And.intro q6 (And.intro gW5 (And.intro g5.size g5)))))))
           clear r5 f5 t5 q5 q6 gW5 g5 y0 y1 z2 z3 z4 s2 t4 s1)
        | (at_builtin
           refine wpList_append_k _ rfl (.tmp 22) (.tmp 24) 22 rfl 25 8 eltU w2.heap.size q1 C.length qc1 (uvs C) rfl (HY.out.2.2.2.1.chg (Chg.setCell w5 ⟨r1, 1, none⟩ _) (fun q hq hm => by simp at hm; subst hm; exact n2 hq)) (by simp; exact Nat.le_trans hB4 HY.out.2.2.2.2.2.2.1) q2 C'.length qc2 (uvs C') rfl (HY.out.2.2.2.2.1.chg (Chg.setCell w5 ⟨r1, 1, none⟩ _) (fun q hq hm => by simp at hm; subst hm; exact r12 hq)).reads (uvs_len _) (uvs_one _) mx.2.2.1 mx.2.2.2 ?_
           intro a7 c7 w7 r7 g7 f7
           have u0 := g7.cellv (setN_other (u := .slice a5 (A.length + A'.length) c5) x0 (show (0 : Nat) ≠ 1 by decide)) n2
           have u1 := g7.cellv (World.cell?_setCell_same w5 ⟨r1, 1, none⟩ (.slice a5 (A.length + A'.length) c5) x1) n2
           have u2 := g7.cellv (setN_other (u := .slice a5 (A.length + A'.length) c5) x2 (show (2 : Nat) ≠ 1 by decide)) n2
           have u4 := (g7.frozen (p := ⟨r1, 2, none⟩) (block_lt_of_cell (setN_other (u := .slice a5 (A.length + A'.length) c5) x2 (show (2 : Nat) ≠ 1 by decide))) n2).trans ((World.frozen?_setCell ..).trans x4)
           have t7 := there_chg (there_chg HY.out.2.2.1 (Chg.setCell w5 ⟨r1, 1, none⟩ (.slice a5 (A.length + A'.length) c5)) (by simpa using Rr1)) g7 Rq1
           obtain ⟨v0, v1, v2, e0, e1, e2, o0, o1, o2⟩ := there3 t7
           have HW := mkHid (And.intro r7 (And.intro f7 g7))
           clear r7 f7 g7 x0 x1 x2 x3 x4 x5 t7))
      obtain ⟨r5, f5, t5, q5, q6, gW5, z5, g5⟩ := HY.out
      obtain ⟨r7, f7, g7⟩ := HW.out
      have gX := Chg.setCell w5 ⟨r1, 1, none⟩ (.slice a5 (A.length + A'.length) c5)
      have gY := Chg.setCell w7 ⟨r1, 2, none⟩ (.slice a7 (C.length + C'.length) c7)
      have gZ := three_chg (w7.setCell ⟨r1, 2, none⟩ (.slice a7 (C.length + C'.length) c7)) R (.bool lf) (.slice a5 (A.length + A'.length) c5) (.slice a7 (C.length + C'.length) c7)
      have szX : (w5.setCell ⟨r1, 1, none⟩ (.slice a5 (A.length + A'.length) c5)).heap.size = w5.heap.size := by simp
      rw [szX] at f7
      have l5 : ∀ q, q ∈ fp a5 c5 → w2.heap.size ≤ q ∧ q ≠ r1 ∧ q ≠ R ∧ q ∉ fp q1 qc1 := fun q hq => by
        have h1 := (r5.lt q hq).1
        refine ⟨h1, fun e => ?_, fun e => ?_, fun hm => ?_⟩
        · subst e
          rcases f5 with e | e
          · rw [e] at hq; exact n1 hq
          · rw [e] at hq; simp at hq; have := HSZ.out.1; omega
        · subst e; have := HSZ.out.2; omega
        · rcases f5 with e | e
          · rw [e] at hq; exact k4.dj q hq hm
          · rw [e] at hq; simp at hq; have := (k4.rv.lt q hm).2; omega
      have l7 : ∀ q, q ∈ fp a7 c7 → w2.heap.size ≤ q ∧ q ≠ r1 ∧ q ≠ R ∧ q ∉ fp a5 c5 := fun q hq => by
        have h1 := (r7.lt q hq).1
        refine ⟨h1, fun e => ?_, fun e => ?_, fun hm => ?_⟩
        · subst e
          rcases f7 with e | e
          · rw [e] at hq; exact n2 hq
          · rw [e] at hq; simp at hq; have := HSZ.out.1; omega
        · subst e; have := HSZ.out.2; omega
        · rcases f7 with e | e
          · rw [e] at hq; exact (l5 q hm).2.2.2 hq
          · rw [e] at hq; simp at hq; have := (r5.lt q hm).2; omega
      have R5 := ((r5.chg gX (fun q hq hm => by simp at hm; exact (l5 q hq).2.1 hm)).chg g7 (fun q hq hm => (l5 q hq).2.2.2 hm)).chg gY (fun q hq hm => by simp at hm; exact (l5 q hq).2.1 hm)
      have R7 := r7.chg gY (fun q hq hm => by simp at hm; exact (l7 q hq).2.1 hm)
      have R5 := R5.chg gZ (fun q hq hm => by simp at hm; exact (l5 q hq).2.2.1 hm)
      have R7 := R7.chg gZ (fun q hq hm => by simp at hm; exact (l7 q hq).2.2.1 hm)
      have G7 := (((gW5.trans gX (U := []) (by simp) (fun q hq hlt => by simp at hq; have := hgq q (Or.inr (Or.inr hq)); omega)).trans g7 (U := []) (by simp) (fun q hq hlt => by have := hgq q (Or.inr (Or.inl hq)); omega)).trans gY (U := []) (by simp) (fun q hq hlt => by simp at hq; have := hgq q (Or.inr (Or.inr hq)); omega)).trans gZ (U := []) (by simp) (fun q hq hlt => by simp at hq; have := HSZ.out.2; have := HB.out; omega)
      refine bodyPost_ret (v := .agg #[.bool lf, .slice a5 (A.length + A'.length) c5, .slice a7 (C.length + C'.length) c7]) (by simp [results, Try.results28, go_sem, e0, e1, e2, u0, u1]) rfl ⟨⟨a5, c5, a7, c7, by rw [List.length_append, List.length_append], ⟨?_, ?_, fun q hq hm => (l7 q hm).2.2.2 hq⟩⟩, G7⟩
      · rw [List.length_append, uvs_append]; exact R5.mono (by have := HB.out; omega)
      · rw [List.length_append, uvs_append]; exact R7.mono (by have := HB.out; omega)
end Go.Proofs.Ytlaeonemlodhmaa
