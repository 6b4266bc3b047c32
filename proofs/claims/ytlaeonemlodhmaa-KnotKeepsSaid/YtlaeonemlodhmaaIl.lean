/- The reference: Split. -/
import Derived.Test.YtlaeonemlodhmaaIj
namespace Go.Proofs.Ytlaeonemlodhmaa
open Go.RowKit
set_option linter.unusedVariables false
set_option linter.unusedSimpArgs false
attribute [local go_sem ↓] Go.wp_at_zero Go.wp_at_succ

/-- Two nodes, each in memory of its own. -/
def TwoOut (B : Nat) (lf : Bool) (K V K' V' : List Nat) (e : Ending) (w' : World) : Prop := ∃ ka kc va vc ka' kc' va' vc', e = .returned (.tuple #[.agg #[.bool lf, .slice ka K.length kc, .slice va V.length vc], .agg #[.bool lf, .slice ka' K'.length kc', .slice va' V'.length vc']]) ∧ RmN w' B ka kc va vc K V ∧ RmN w' B ka' kc' va' vc' K' V'
/-- Where the second half begins. -/
def half (P : Nat) : Nat := P - P / 2
theorem laid_node2 (w : World) (x y z : Value) (t : TypeId) : (((w.alloc (.cells #[x, y, z] t)).alloc (.cells #[.bool false, .slice none 0 0, .slice none 0 0] 24)).alloc (.cells #[.bool false, .slice none 0 0, .slice none 0 0] 24)).cell? ⟨w.heap.size, 0, none⟩ = some x ∧ (((w.alloc (.cells #[x, y, z] t)).alloc (.cells #[.bool false, .slice none 0 0, .slice none 0 0] 24)).alloc (.cells #[.bool false, .slice none 0 0, .slice none 0 0] 24)).cell? ⟨w.heap.size, 1, none⟩ = some y ∧ (((w.alloc (.cells #[x, y, z] t)).alloc (.cells #[.bool false, .slice none 0 0, .slice none 0 0] 24)).alloc (.cells #[.bool false, .slice none 0 0, .slice none 0 0] 24)).cell? ⟨w.heap.size, 2, none⟩ = some z ∧
    (((w.alloc (.cells #[x, y, z] t)).alloc (.cells #[.bool false, .slice none 0 0, .slice none 0 0] 24)).alloc (.cells #[.bool false, .slice none 0 0, .slice none 0 0] 24)).there (w.heap.size + 1) 0 3 ∧ (((w.alloc (.cells #[x, y, z] t)).alloc (.cells #[.bool false, .slice none 0 0, .slice none 0 0] 24)).alloc (.cells #[.bool false, .slice none 0 0, .slice none 0 0] 24)).there (w.heap.size + 1 + 1) 0 3 ∧ Chg [] w (((w.alloc (.cells #[x, y, z] t)).alloc (.cells #[.bool false, .slice none 0 0, .slice none 0 0] 24)).alloc (.cells #[.bool false, .slice none 0 0, .slice none 0 0] 24)) ∧ (((w.alloc (.cells #[x, y, z] t)).alloc (.cells #[.bool false, .slice none 0 0, .slice none 0 0] 24)).alloc (.cells #[.bool false, .slice none 0 0, .slice none 0 0] 24)).heap.size = w.heap.size + 3 := by
  obtain ⟨h0, h1, h2, h3, h4, h5⟩ := laid_node w x y z t
  have g := Chg.alloc [] ((w.alloc (.cells #[x, y, z] t)).alloc (.cells #[.bool false, .slice none 0 0, .slice none 0 0] 24)) (.cells #[.bool false, .slice none 0 0, .slice none 0 0] 24)
  have t1 := start_there ((w.alloc (.cells #[x, y, z] t)).alloc (.cells #[.bool false, .slice none 0 0, .slice none 0 0] 24))
  rw [h5] at t1
  exact ⟨g.cellv h0 (by simp), g.cellv h1 (by simp), g.cellv h2 (by simp), there_chg h3 g (by simp), t1, h4.then g, by simp⟩
set_option maxRecDepth 20000 in
set_option maxHeartbeats 4000000 in
theorem rsplit_any (lf : Bool) (ka : Option Addr) (kl kc : Nat) (va : Option Addr) (vl vc : Nat) (K V : List Nat) (w : World) (h : RdN w ka kc va vc K V) (hk : K.length = kl) (hv : V.length = vl) (hb : np K V ≤ 100000000) :
    Calls Try.prog 27 #[.agg #[.bool lf, .slice ka kl kc, .slice va vl vc]] w fun e w' => TwoOut w.heap.size lf (sub K 0 (half (np K V))) (sub V 0 (half (np K V))) (sub K (half (np K V)) (np K V)) (sub V (half (np K V)) (np K V)) e w' ∧ Chg [] w w' := by
  have hkc := h.ck
  have hbk := h.bk
  obtain ⟨P, hP⟩ : ∃ P, np K V = P := ⟨_, rfl⟩
  have cP := rpairs_any lf ka kl kc va vl vc P (by rw [min_np hk hv, hP])
  have hPk : P ≤ kl := by rw [← hP, ← hk]; exact np_le.1
  have hPv : P ≤ vl := by rw [← hP, ← hv]; exact np_le.2
  rw [hP] at hb
  have cA := fun (f t : Nat) (hft : f ≤ t) (htP : t ≤ P) (u : World) (g : Chg [] w u) => rpart_any lf ka kl kc va vl vc K V u (h.keep g) hk hv f t hft (by omega) (by omega)
  have cL := fun (L : List Nat) (hL : P ≤ L.length) (f t : Nat) (htP : t ≤ P) => sub_len (L := L) (f := f) (t := t) (by omega)
  have lK : P ≤ K.length := by omega
  have lV : P ≤ V.length := by omega
  rw [hP]
  obtain ⟨q, hq⟩ : ∃ q, P / 2 = q := ⟨_, rfl⟩
  obtain ⟨m, hm⟩ : ∃ m, half P = m := ⟨_, rfl⟩
  have hm2 : P - q = m := by rw [← hm, ← hq]; rfl
  rw [hm]
  have cA1 := cA 0 m (Nat.zero_le _) (by omega)
  have cA2 := cA m P (by omega) (Nat.le_refl _)
  have HQ := mkHid (show (P : Int) / 2 = (q : Int) ∧ (P : Int).tdiv 2 = (q : Int) ∧ IntKind.i64.wrap (q : Int) = (q : Int) ∧ (P : Int) - (q : Int) = (m : Int) ∧ IntKind.i64.wrap (m : Int) = (m : Int) from ⟨by omega, by rw [Int.tdiv_eq_ediv_of_nonneg (by omega)]; omega, by rw [IntKind.wrap_i64]; omega, by omega, by rw [IntKind.wrap_i64]; omega⟩)
  generalize sub K 0 m = A at *
  generalize sub V 0 m = C at *
  generalize sub K m P = A2 at *
  generalize sub V m P = C2 at *
  obtain ⟨c0, c1, c2, t0, t1, g0, hz⟩ := laid_node2 w (.bool lf) (.slice ka kl kc) (.slice va vl vc) 24
  have HE := mkHid (And.intro c0 (And.intro c1 (And.intro c2 (And.intro t0 (And.intro t1 (And.intro g0 hz))))))
  have CP := mkHid cP
  have CA1 := mkHid cA1
  have CA2 := mkHid cA2
  clear c0 c1 c2 t0 t1 g0 hz cP cA cL cA1 cA2 hk hv h hP hkc hbk hq hm hm2 lK lV
  go_enter Try.func27, Try.ntmps27
  go_wp2_with fail
  obtain ⟨c0, c1, c2, t0, t1, g0, hz⟩ := HE.out
  generalize ((w.alloc (.cells #[.bool lf, .slice ka kl kc, .slice va vl vc] 24)).alloc (.cells #[.bool false, .slice none 0 0, .slice none 0 0] 24)).alloc (.cells #[.bool false, .slice none 0 0, .slice none 0 0] 24) = w1 at *
  obtain ⟨R, hR⟩ : ∃ R, w.heap.size + 1 = R := ⟨_, rfl⟩
  rw [hR] at t0 t1 ⊢
  obtain ⟨R', hR'⟩ : ∃ R', R + 1 = R' := ⟨_, rfl⟩
  rw [hR'] at t1 ⊢
  have HR := mkHid (show R + 1 = R' ∧ R' + 1 = w1.heap.size ∧ w.heap.size ≤ R by omega)
  clear hR hR' hz HE
  generalize w.heap.size = b at c0 c1 c2 ⊢
  refine region_made 7 [IsV (.agg #[.bool lf, .slice ka kl kc, .slice va vl vc]), IsV (.int .i64 (P : Int)), IsV (.agg #[.bool lf, .slice ka kl kc, .slice va vl vc]), IsV (.int .i64 (P : Int)), IsV (.int .i64 (q : Int)), IsV (.int .i64 (m : Int)), IsV (.int .i64 (m : Int))] (by kernel_rfl) (by kernel_rfl) (by kernel_rfl) (by decide) (of_decide_eq_true (by kernel_rfl)) ⟨keepV _, keepV _, keepV _, keepV _, keepV _, keepV _, keepV _, trivial⟩ ?_ ?_
  · refine ⟨?_, ?_, ?_, ?_, ?_, ?_, ?_, trivial⟩
    · intro v u hg hd K hK
      have hz := (Chg.drew [] w1).then hg
      have x0 := (hz).cellv c0 (by simp)
      have x1 := (hz).cellv c1 (by simp)
      have x2 := (hz).cellv c2 (by simp)
      clear hd
      have hk := hK.out (.agg #[.bool lf, .slice ka kl kc, .slice va vl vc]) u (Chg.refl _ _) rfl
      clear hK
      simp only [List.toList_toArray, List.take_succ_cons, List.take_zero, List.drop_succ_cons, List.drop_zero, putAll, Act.put, List.setIfInBounds_toArray, List.set_cons_zero, List.set_cons_succ, Nat.zero_add, Nat.reduceAdd] at hk ⊢
      go_simp
      exact hk
    · intro v u hg hd K hK
      have h0 : ∃ lo hi, IsV (.agg #[.bool lf, .slice ka kl kc, .slice va vl vc]) (v 0) lo hi u := dep hd 0 (by kernel_rfl)
      have e0 : v 0 = .agg #[.bool lf, .slice ka kl kc, .slice va vl vc] := depV h0
      clear hd
      simp only [List.toList_toArray, List.take_succ_cons, List.take_zero, List.drop_succ_cons, List.drop_zero, putAll, Act.put, List.setIfInBounds_toArray, List.set_cons_zero, List.set_cons_succ, Nat.zero_add, Nat.reduceAdd, e0] at hK ⊢
      go_simp
      refine (CP.out u).mono ?_
      rintro e u' ⟨rfl, g'⟩
      have hk := hK.out (.int .i64 (P : Int)) u' g' rfl
      exact hk
    · intro v u hg hd K hK
      have hz := (Chg.drew [] w1).then hg
      have x0 := (hz).cellv c0 (by simp)
      have x1 := (hz).cellv c1 (by simp)
      have x2 := (hz).cellv c2 (by simp)
      clear hd
      have hk := hK.out (.agg #[.bool lf, .slice ka kl kc, .slice va vl vc]) u (Chg.refl _ _) rfl
      clear hK
      simp only [List.toList_toArray, List.take_succ_cons, List.take_zero, List.drop_succ_cons, List.drop_zero, putAll, Act.put, List.setIfInBounds_toArray, List.set_cons_zero, List.set_cons_succ, Nat.zero_add, Nat.reduceAdd] at hk ⊢
      go_simp
      exact hk
    · intro v u hg hd K hK
      have h2 : ∃ lo hi, IsV (.agg #[.bool lf, .slice ka kl kc, .slice va vl vc]) (v 2) lo hi u := dep hd 2 (by kernel_rfl)
      have e2 : v 2 = .agg #[.bool lf, .slice ka kl kc, .slice va vl vc] := depV h2
      clear hd
      simp only [List.toList_toArray, List.take_succ_cons, List.take_zero, List.drop_succ_cons, List.drop_zero, putAll, Act.put, List.setIfInBounds_toArray, List.set_cons_zero, List.set_cons_succ, Nat.zero_add, Nat.reduceAdd, e2] at hK ⊢
      go_simp
      refine (CP.out u).mono ?_
      rintro e u' ⟨rfl, g'⟩
      have hk := hK.out (.int .i64 (P : Int)) u' g' rfl
      exact hk
    · intro v u hg hd K hK
      have h3 : ∃ lo hi, IsV (.int .i64 (P : Int)) (v 3) lo hi u := dep hd 3 (by kernel_rfl)
      have e3 : v 3 = .int .i64 (P : Int) := depV h3
      have q1 := HQ.out.1
      have q2 := HQ.out.2.1
      have q3 := HQ.out.2.2.1
      have q4 := HQ.out.2.2.2.1
      have q5 := HQ.out.2.2.2.2
      clear hd
      have hk := hK.out (.int .i64 (q : Int)) u (Chg.refl _ _) rfl
      clear hK
      simp only [List.toList_toArray, List.take_succ_cons, List.take_zero, List.drop_succ_cons, List.drop_zero, putAll, Act.put, List.setIfInBounds_toArray, List.set_cons_zero, List.set_cons_succ, Nat.zero_add, Nat.reduceAdd, e3] at hk ⊢
      go_simp
      exact hk
    · intro v u hg hd K hK
      have h1 : ∃ lo hi, IsV (.int .i64 (P : Int)) (v 1) lo hi u := dep hd 1 (by kernel_rfl)
      have e1 : v 1 = .int .i64 (P : Int) := depV h1
      have h4 : ∃ lo hi, IsV (.int .i64 (q : Int)) (v 4) lo hi u := dep hd 4 (by kernel_rfl)
      have e4 : v 4 = .int .i64 (q : Int) := depV h4
      have q1 := HQ.out.1
      have q2 := HQ.out.2.1
      have q3 := HQ.out.2.2.1
      have q4 := HQ.out.2.2.2.1
      have q5 := HQ.out.2.2.2.2
      clear hd
      have hk := hK.out (.int .i64 (m : Int)) u (Chg.refl _ _) rfl
      clear hK
      simp only [List.toList_toArray, List.take_succ_cons, List.take_zero, List.drop_succ_cons, List.drop_zero, putAll, Act.put, List.setIfInBounds_toArray, List.set_cons_zero, List.set_cons_succ, Nat.zero_add, Nat.reduceAdd, e1, e4] at hk ⊢
      go_simp
      exact hk
    · intro v u hg hd K hK
      have h5 : ∃ lo hi, IsV (.int .i64 (m : Int)) (v 5) lo hi u := dep hd 5 (by kernel_rfl)
      have e5 : v 5 = .int .i64 (m : Int) := depV h5
      clear hd
      have hk := hK.out (.int .i64 (m : Int)) u (Chg.refl _ _) rfl
      clear hK
      simp only [List.toList_toArray, List.take_succ_cons, List.take_zero, List.drop_succ_cons, List.drop_zero, putAll, Act.put, List.setIfInBounds_toArray, List.set_cons_zero, List.set_cons_succ, Nat.zero_add, Nat.reduceAdd, e5] at hk ⊢
      go_simp
      exact hk
  · intro v u lo hi hg hall hbd hdj
    have e0 : v 0 = .agg #[.bool lf, .slice ka kl kc, .slice va vl vc] := hall 0 (by decide)
    have e1 : v 1 = .int .i64 (P : Int) := hall 1 (by decide)
    have e2 : v 2 = .agg #[.bool lf, .slice ka kl kc, .slice va vl vc] := hall 2 (by decide)
    have e3 : v 3 = .int .i64 (P : Int) := hall 3 (by decide)
    have e4 : v 4 = .int .i64 (q : Int) := hall 4 (by decide)
    have e5 : v 5 = .int .i64 (m : Int) := hall 5 (by decide)
    have e6 : v 6 = .int .i64 (m : Int) := hall 6 (by decide)
    have gW := (Chg.drew [] w1).then hg
    have s1 := there_chg t1 gW (by simp)
    have d0 := gW.cellv c0 (by simp)
    have d1 := gW.cellv c1 (by simp)
    have d2 := gW.cellv c2 (by simp)
    have s0 := there_chg t0 gW (by simp)
    clear c0 c1 c2 t0
    have c0 := d0
    have c1 := d1
    have c2 := d2
    have t0 := s0
    clear d0 d1 d2 s0
    clear t1
    have t1 := s1
    clear s1 hall hbd hdj hg
    simp only [List.toList_toArray, List.take_succ_cons, List.take_zero, List.drop_succ_cons, List.drop_zero, putAll, Act.put, List.setIfInBounds_toArray, List.set_cons_zero, List.set_cons_succ, Nat.zero_add, Nat.reduceAdd, e0, e1, e2, e3, e4, e5, e6]
    clear e0 e1 e2 e3 e4 e5 e6 v lo hi
    go_wp2_with fail
    obtain ⟨w2, hw2⟩ : ∃ w2, w2 = u := ⟨_, rfl⟩
    subst hw2
    refine region_made 8 [IsV (.agg #[.bool lf, .slice ka kl kc, .slice va vl vc]), IsV (.int .i64 (m : Int)), IsN lf (A) (C), IsV (.agg #[.bool lf, .slice ka kl kc, .slice va vl vc]), IsV (.int .i64 (m : Int)), IsV (.agg #[.bool lf, .slice ka kl kc, .slice va vl vc]), IsV (.int .i64 (P : Int)), IsN lf (A2) (C2)] (by kernel_rfl) (by kernel_rfl) (by kernel_rfl) (by decide) (of_decide_eq_true (by kernel_rfl)) ⟨keepV _, keepV _, keepN _ _ _, keepV _, keepV _, keepV _, keepV _, keepN _ _ _, trivial⟩ ?_ ?_
    · refine ⟨?_, ?_, ?_, ?_, ?_, ?_, ?_, ?_, trivial⟩
      · intro v u hg hd K hK
        have hz := (Chg.drew [] w2).then hg
        have x0 := (hz).cellv c0 (by simp)
        have x1 := (hz).cellv c1 (by simp)
        have x2 := (hz).cellv c2 (by simp)
        clear hd
        have hk := hK.out (.agg #[.bool lf, .slice ka kl kc, .slice va vl vc]) u (Chg.refl _ _) rfl
        clear hK
        simp only [List.toList_toArray, List.take_succ_cons, List.take_zero, List.drop_succ_cons, List.drop_zero, putAll, Act.put, List.setIfInBounds_toArray, List.set_cons_zero, List.set_cons_succ, Nat.zero_add, Nat.reduceAdd] at hk ⊢
        go_simp
        exact hk
      · intro v u hg hd K hK
        clear hd
        have hk := hK.out (.int .i64 (m : Int)) u (Chg.refl _ _) rfl
        clear hK
        simp only [List.toList_toArray, List.take_succ_cons, List.take_zero, List.drop_succ_cons, List.drop_zero, putAll, Act.put, List.setIfInBounds_toArray, List.set_cons_zero, List.set_cons_succ, Nat.zero_add, Nat.reduceAdd] at hk ⊢
        go_simp
        exact hk
      · intro v u hg hd K hK
        have h0 : ∃ lo hi, IsV (.agg #[.bool lf, .slice ka kl kc, .slice va vl vc]) (v 0) lo hi u := dep hd 0 (by kernel_rfl)
        have e0 : v 0 = .agg #[.bool lf, .slice ka kl kc, .slice va vl vc] := depV h0
        have h1 : ∃ lo hi, IsV (.int .i64 (m : Int)) (v 1) lo hi u := dep hd 1 (by kernel_rfl)
        have e1 : v 1 = .int .i64 (m : Int) := depV h1
        clear hd
        simp only [List.toList_toArray, List.take_succ_cons, List.take_zero, List.drop_succ_cons, List.drop_zero, putAll, Act.put, List.setIfInBounds_toArray, List.set_cons_zero, List.set_cons_succ, Nat.zero_add, Nat.reduceAdd, e0, e1] at hK ⊢
        go_simp
        refine (CA1.out u ((g0.then gW).then ((Chg.drew [] w2).then hg))).mono ?_
        rintro e u' ⟨⟨qa, qc, qa', qc', rfl, hr⟩, g'⟩
        have hk := hK.out (_) u' g' (isN_out ⟨_, _, _, _, rfl, hr⟩)
        exact hk
      · intro v u hg hd K hK
        have hz := (Chg.drew [] w2).then hg
        have x0 := (hz).cellv c0 (by simp)
        have x1 := (hz).cellv c1 (by simp)
        have x2 := (hz).cellv c2 (by simp)
        clear hd
        have hk := hK.out (.agg #[.bool lf, .slice ka kl kc, .slice va vl vc]) u (Chg.refl _ _) rfl
        clear hK
        simp only [List.toList_toArray, List.take_succ_cons, List.take_zero, List.drop_succ_cons, List.drop_zero, putAll, Act.put, List.setIfInBounds_toArray, List.set_cons_zero, List.set_cons_succ, Nat.zero_add, Nat.reduceAdd] at hk ⊢
        go_simp
        exact hk
      · intro v u hg hd K hK
        clear hd
        have hk := hK.out (.int .i64 (m : Int)) u (Chg.refl _ _) rfl
        clear hK
        simp only [List.toList_toArray, List.take_succ_cons, List.take_zero, List.drop_succ_cons, List.drop_zero, putAll, Act.put, List.setIfInBounds_toArray, List.set_cons_zero, List.set_cons_succ, Nat.zero_add, Nat.reduceAdd] at hk ⊢
        go_simp
        exact hk
      · intro v u hg hd K hK
        have hz := (Chg.drew [] w2).then hg
        have x0 := (hz).cellv c0 (by simp)
        have x1 := (hz).cellv c1 (by simp)
        have x2 := (hz).cellv c2 (by simp)
        clear hd
        have hk := hK.out (.agg #[.bool lf, .slice ka kl kc, .slice va vl vc]) u (Chg.refl _ _) rfl
        clear hK
        simp only [List.toList_toArray, List.take_succ_cons, List.take_zero, List.drop_succ_cons, List.drop_zero, putAll, Act.put, List.setIfInBounds_toArray, List.set_cons_zero, List.set_cons_succ, Nat.zero_add, Nat.reduceAdd] at hk ⊢
        go_simp
        exact hk
      · intro v u hg hd K hK
        have h5 : ∃ lo hi, IsV (.agg #[.bool lf, .slice ka kl kc, .slice va vl vc]) (v 5) lo hi u := dep hd 5 (by kernel_rfl)
        have e5 : v 5 = .agg #[.bool lf, .slice ka kl kc, .slice va vl vc] := depV h5
        clear hd
        simp only [List.toList_toArray, List.take_succ_cons, List.take_zero, List.drop_succ_cons, List.drop_zero, putAll, Act.put, List.setIfInBounds_toArray, List.set_cons_zero, List.set_cons_succ, Nat.zero_add, Nat.reduceAdd, e5] at hK ⊢
        go_simp
        refine (CP.out u).mono ?_
        rintro e u' ⟨rfl, g'⟩
        have hk := hK.out (.int .i64 (P : Int)) u' g' rfl
        exact hk
      · intro v u hg hd K hK
        have h3 : ∃ lo hi, IsV (.agg #[.bool lf, .slice ka kl kc, .slice va vl vc]) (v 3) lo hi u := dep hd 3 (by kernel_rfl)
        have e3 : v 3 = .agg #[.bool lf, .slice ka kl kc, .slice va vl vc] := depV h3
        have h4 : ∃ lo hi, IsV (.int .i64 (m : Int)) (v 4) lo hi u := dep hd 4 (by kernel_rfl)
        have e4 : v 4 = .int .i64 (m : Int) := depV h4
        have h6 : ∃ lo hi, IsV (.int .i64 (P : Int)) (v 6) lo hi u := dep hd 6 (by kernel_rfl)
        have e6 : v 6 = .int .i64 (P : Int) := depV h6
        clear hd
        simp only [List.toList_toArray, List.take_succ_cons, List.take_zero, List.drop_succ_cons, List.drop_zero, putAll, Act.put, List.setIfInBounds_toArray, List.set_cons_zero, List.set_cons_succ, Nat.zero_add, Nat.reduceAdd, e3, e4, e6] at hK ⊢
        go_simp
        refine (CA2.out u ((g0.then gW).then ((Chg.drew [] w2).then hg))).mono ?_
        rintro e u' ⟨⟨qa, qc, qa', qc', rfl, hr⟩, g'⟩
        have hk := hK.out (_) u' g' (isN_out ⟨_, _, _, _, rfl, hr⟩)
        exact hk
    · intro v u lo hi hg hall hbd hdj
      have e0 : v 0 = .agg #[.bool lf, .slice ka kl kc, .slice va vl vc] := hall 0 (by decide)
      have e1 : v 1 = .int .i64 (m : Int) := hall 1 (by decide)
      have e3 : v 3 = .agg #[.bool lf, .slice ka kl kc, .slice va vl vc] := hall 3 (by decide)
      have e4 : v 4 = .int .i64 (m : Int) := hall 4 (by decide)
      have e5 : v 5 = .agg #[.bool lf, .slice ka kl kc, .slice va vl vc] := hall 5 (by decide)
      have e6 : v 6 = .int .i64 (P : Int) := hall 6 (by decide)
      obtain ⟨p1, pc1, q1, qc1, e2, hr1, -, -⟩ : IsN lf A C (v 2) (lo 2) (hi 2) u := hall 2 (by decide)
      obtain ⟨p2, pc2, q2, qc2, e7, hr2, -, -⟩ : IsN lf A2 C2 (v 7) (lo 7) (hi 7) u := hall 7 (by decide)
      have bb1 := (hbd 2 (by decide)).1
      have bb2 := (hbd 7 (by decide)).1
      have hr1 := hr1.mono bb1
      have hr2 := hr2.mono bb2
      have gU := (Chg.drew [] w2).then hg
      obtain ⟨a0, a1, a2, i0, i1, i2, j0, j1, j2⟩ := there3 (there_chg t0 gU (by simp))
      obtain ⟨b0, b1, b2, k0, k1, k2, l0, l1, l2⟩ := there3 (there_chg t1 gU (by simp))
      have gZ := three_chg u R (.bool lf) (.slice p1 A.length pc1) (.slice q1 C.length qc1)
      have gY := three_chg (((u.setCell ⟨R, 0, none⟩ (.bool lf)).setCell ⟨R, 1, none⟩ (.slice p1 A.length pc1)).setCell ⟨R, 2, none⟩ (.slice q1 C.length qc1)) R' (.bool lf) (.slice p2 A2.length pc2) (.slice q2 C2.length qc2)
      have hR1 := HR.out
      have hRw : ∀ q, q ∈ [R] → q < w2.heap.size := fun q hq => by simp at hq; have := gW.size; omega
      have hRy : ∀ q, q ∈ [R'] → q < w2.heap.size := fun q hq => by simp at hq; have := gW.size; omega
      have hrA := ((hr1.chg gZ hRw).chg gY hRy).mono (show w.heap.size ≤ w2.heap.size from Nat.le_trans g0.size gW.size)
      have hrB := ((hr2.chg gZ hRw).chg gY hRy).mono (show w.heap.size ≤ w2.heap.size from Nat.le_trans g0.size gW.size)
      have gF := (((g0.then gW).then gU).trans gZ (U := []) (by simp) (fun q hq hlt => by simp at hq; omega)).trans gY (U := []) (by simp) (fun q hq hlt => by simp at hq; omega)
      have hne : R' ≠ R := by omega
      have hne2 : R ≠ R' := by omega
      have HF := mkHid (And.intro hrA (And.intro hrB gF))
      clear hr1 hr2 gU gZ gY hrA hrB gF hall hbd hdj hg bb1 bb2 hRw hRy
      simp only [List.toList_toArray, List.take_succ_cons, List.take_zero, List.drop_succ_cons, List.drop_zero, putAll, Act.put, List.setIfInBounds_toArray, List.set_cons_zero, List.set_cons_succ, Nat.zero_add, Nat.reduceAdd, e0, e1, e2, e3, e4, e5, e6, e7]
      go_wp2_with fail
      refine bodyPost_ret (v := .tuple #[.agg #[.bool lf, .slice p1 A.length pc1, .slice q1 C.length qc1], .agg #[.bool lf, .slice p2 A2.length pc2, .slice q2 C2.length qc2]]) (by simp [results, Try.results27, go_sem, i0, i1, i2, k0, k1, k2, hne, hne2]) rfl ⟨⟨p1, pc1, q1, qc1, p2, pc2, q2, qc2, rfl, HF.out.1, HF.out.2.1⟩, HF.out.2.2⟩
end Go.Proofs.Ytlaeonemlodhmaa
