/- The reference: Insert, Set, Remove, Split. -/
import Derived.Test.YtlaeonemlodhmaaIi
namespace Go.Proofs.Ytlaeonemlodhmaa
open Go.RowKit
set_option linter.unusedVariables false
set_option linter.unusedSimpArgs false
attribute [local go_sem ↓] Go.wp_at_zero Go.wp_at_succ

/-- A place, brought into bounds; what is put in, changed, taken out there. -/
def clampN (z : Int) (P : Nat) : Nat := if z < 0 then 0 else if (P : Int) < z then P else z.toNat
def insL (P a x : Nat) (L : List Nat) : List Nat := sub L 0 a ++ ([x] ++ sub L a P)
def setL (P a x : Nat) (L : List Nat) : List Nat := sub L 0 a ++ ([x] ++ sub L (a + 1) P)
def remL (P a : Nat) (L : List Nat) : List Nat := sub L 0 a ++ sub L (a + 1) P
def setO (z : Int) (x P : Nat) (L : List Nat) : List Nat := if 0 ≤ z ∧ z < (P : Int) then setL P z.toNat x L else sub L 0 P
def remO (z : Int) (P : Nat) (L : List Nat) : List Nat := if 0 ≤ z ∧ z < (P : Int) then remL P z.toNat L else sub L 0 P
theorem clamp_le (z : Int) (P : Nat) : clampN z P ≤ P := by unfold clampN; split; omega; split <;> omega
theorem tk_eq {K V : List Nat} (h : K.length = V.length) : tkK K V = K ∧ tkV K V = V := by
  unfold tkK tkV np
  rw [← h, Nat.min_self]
  refine ⟨List.take_length, ?_⟩
  rw [h]; exact List.take_length
theorem rjoin_eq (lf : Bool) (ka : Option Addr) (kl kc : Nat) (va : Option Addr) (vl vc : Nat) (K V : List Nat) (lf' : Bool) (ka' : Option Addr) (kl' kc' : Nat) (va' : Option Addr) (vl' vc' : Nat) (K' V' D E : List Nat) (w : World) (h : RdN w ka kc va vc K V) (hk : K.length = kl) (hv : V.length = vl) (h' : RdN w ka' kc' va' vc' K' V') (hk' : K'.length = kl') (hv' : V'.length = vl') (e : kl = vl) (e' : kl' = vl') (hb : kl + kl' ≤ 1000000000) (hD : K ++ K' = D) (hE : V ++ V' = E) :
    Calls Try.prog 28 #[.agg #[.bool lf, .slice ka kl kc, .slice va vl vc], .agg #[.bool lf', .slice ka' kl' kc', .slice va' vl' vc']] w fun e w' => NOut w.heap.size lf D E e w' ∧ Chg [] w w' := by
  have hc := rjoin_any lf ka kl kc va vl vc K V lf' ka' kl' kc' va' vl' vc' K' V' w h hk hv h' hk' hv' (by unfold np; omega)
  rw [(tk_eq (K := K) (V := V) (by omega)).1, (tk_eq (K := K) (V := V) (by omega)).2, (tk_eq (K := K') (V := V') (by omega)).1, (tk_eq (K := K') (V := V') (by omega)).2, hD, hE] at hc
  exact hc
theorem rone_as (x y : Nat) (w : World) : Calls Try.prog 42 #[.int .u64 (x : Int), .int .u64 (y : Int)] w fun e w' => (∃ ka kc va vc, e = .returned (.agg #[.bool false, .slice ka 1 kc, .slice va 1 vc]) ∧ RmN w' w.heap.size ka kc va vc [x] [y]) ∧ Chg [] w w' := rone_any x y w
/-- A node in a place and the answer's place, laid. -/
theorem laid_node (w : World) (x y z : Value) (t : TypeId) : ((w.alloc (.cells #[x, y, z] t)).alloc (.cells #[.bool false, .slice none 0 0, .slice none 0 0] 24)).cell? ⟨w.heap.size, 0, none⟩ = some x ∧ ((w.alloc (.cells #[x, y, z] t)).alloc (.cells #[.bool false, .slice none 0 0, .slice none 0 0] 24)).cell? ⟨w.heap.size, 1, none⟩ = some y ∧ ((w.alloc (.cells #[x, y, z] t)).alloc (.cells #[.bool false, .slice none 0 0, .slice none 0 0] 24)).cell? ⟨w.heap.size, 2, none⟩ = some z ∧
    ((w.alloc (.cells #[x, y, z] t)).alloc (.cells #[.bool false, .slice none 0 0, .slice none 0 0] 24)).there (w.heap.size + 1) 0 3 ∧ Chg [] w ((w.alloc (.cells #[x, y, z] t)).alloc (.cells #[.bool false, .slice none 0 0, .slice none 0 0] 24)) ∧ ((w.alloc (.cells #[x, y, z] t)).alloc (.cells #[.bool false, .slice none 0 0, .slice none 0 0] 24)).heap.size = w.heap.size + 2 := by
  obtain ⟨h0, h1, h2⟩ := laid3 w x y z t
  have g := Chg.alloc [] (w.alloc (.cells #[x, y, z] t)) (.cells #[.bool false, .slice none 0 0, .slice none 0 0] 24)
  have t1 := start_there (w.alloc (.cells #[x, y, z] t))
  rw [show (w.alloc (.cells #[x, y, z] t)).heap.size = w.heap.size + 1 by simp] at t1
  exact ⟨g.cellv h0 (by simp), g.cellv h1 (by simp), g.cellv h2 (by simp), t1, (Chg.alloc [] w _).then g, by simp⟩
set_option maxRecDepth 20000 in
set_option maxHeartbeats 4000000 in
theorem rset_any (lf : Bool) (ka : Option Addr) (kl kc : Nat) (va : Option Addr) (vl vc : Nat) (K V : List Nat) (w : World) (h : RdN w ka kc va vc K V) (hk : K.length = kl) (hv : V.length = vl) (hb : np K V ≤ 100000000) (z : Int) (x y : Nat) :
    Calls Try.prog 21 #[.agg #[.bool lf, .slice ka kl kc, .slice va vl vc], .int .i64 z, .int .u64 (x : Int), .int .u64 (y : Int)] w fun e w' => NOut w.heap.size lf (setO z x (np K V) K) (setO z y (np K V) V) e w' ∧ Chg [] w w' := by
  have hkc := h.ck
  have hbk := h.bk
  obtain ⟨P, hP⟩ : ∃ P, np K V = P := ⟨_, rfl⟩
  have cP := rpairs_any lf ka kl kc va vl vc P (by rw [min_np hk hv, hP])
  have hPk : P ≤ kl := by rw [← hP, ← hk]; exact np_le.1
  have hPv : P ≤ vl := by rw [← hP, ← hv]; exact np_le.2
  rw [hP] at hb
  have cA := fun (f t : Nat) (hft : f ≤ t) (htP : t ≤ P) (u : World) (g : Chg [] w u) => rpart_any lf ka kl kc va vl vc K V u (h.keep g) hk hv f t hft (by omega) (by omega)
  have cL := fun (L : List Nat) (hL : P ≤ L.length) (f t : Nat) (htP : t ≤ P) => sub_len (L := L) (f := f) (t := t) (by omega)
  have lK : P ≤ K.length := by omega
  have lV : P ≤ V.length := by omega
  rw [hP]
  obtain ⟨c0, c1, c2, t0, g0, hz⟩ := laid_node w (.bool lf) (.slice ka kl kc) (.slice va vl vc) 24
  have HE := mkHid (And.intro c0 (And.intro c1 (And.intro c2 (And.intro t0 (And.intro g0 hz)))))
  have CP := mkHid cP
  have CA := mkHid cA
  have CL := mkHid cL
  have HP := mkHid hP
  clear c0 c1 c2 t0 g0 hz cP cA cL hk hv h hP hkc hbk
  by_cases h1 : z < 0
  · have d1 : decide (z < 0) = true := decide_eq_true h1
    rw [show setO z x P K = sub K 0 P from if_neg (by omega), show setO z y P V = sub V 0 P from if_neg (by omega)]
    go_enter Try.func21, Try.ntmps21
    go_wp2_with fail
    obtain ⟨c0, c1, c2, t0, g0, hz⟩ := HE.out
    generalize (w.alloc (.cells #[.bool lf, .slice ka kl kc, .slice va vl vc] 24)).alloc (.cells #[.bool false, .slice none 0 0, .slice none 0 0] 24) = w1 at *
    obtain ⟨R, hR⟩ : ∃ R, w.heap.size + 1 = R := ⟨_, rfl⟩
    rw [hR] at t0 ⊢
    have HR := mkHid (show R + 1 = w1.heap.size ∧ w.heap.size ≤ R by omega)
    clear hR hz HE
    generalize w.heap.size = b at c0 c1 c2 ⊢
    go_wp2_with fail
    have gW := Chg.refl [] w1
    refine region_made 4 [IsV (.agg #[.bool lf, .slice ka kl kc, .slice va vl vc]), IsV (.agg #[.bool lf, .slice ka kl kc, .slice va vl vc]), IsV (.int .i64 (P : Int)), IsN lf (sub K 0 P) (sub V 0 P)] (by kernel_rfl) (by kernel_rfl) (by kernel_rfl) (by decide) (of_decide_eq_true (by kernel_rfl)) ⟨keepV _, keepV _, keepV _, keepN _ _ _, trivial⟩ ?_ ?_
    · refine ⟨?_, ?_, ?_, ?_, trivial⟩
      · intro v u hg hd K hK
        have hz := (Chg.drew [] w1).then hg
        have x0 := (hz).cellv c0 (by simp)
        have x1 := (hz).cellv c1 (by simp)
        have x2 := (hz).cellv c2 (by simp)
        clear hd
        have hk := hK.out (.agg #[.bool lf, .slice ka kl kc, .slice va vl vc]) u (Chg.refl _ _) rfl
        clear hK
        simp only [List.toList_toArray, List.take_succ_cons, List.take_zero, List.drop_succ_cons, List.drop_zero, putAll, Act.put, List.setIfInBounds_toArray, List.set_cons_zero, List.set_cons_succ, Nat.zero_add, Nat.reduceAdd] at hk ⊢
        go_simp
        exact hk
      · intro v u hg hd K hK
        have hz := (Chg.drew [] w1).then hg
        have x0 := (hz).cellv c0 (by simp)
        have x1 := (hz).cellv c1 (by simp)
        have x2 := (hz).cellv c2 (by simp)
        clear hd
        have hk := hK.out (.agg #[.bool lf, .slice ka kl kc, .slice va vl vc]) u (Chg.refl _ _) rfl
        clear hK
        simp only [List.toList_toArray, List.take_succ_cons, List.take_zero, List.drop_succ_cons, List.drop_zero, putAll, Act.put, List.setIfInBounds_toArray, List.set_cons_zero, List.set_cons_succ, Nat.zero_add, Nat.reduceAdd] at hk ⊢
        go_simp
        exact hk
      · intro v u hg hd K hK
        have h1 : ∃ lo hi, IsV (.agg #[.bool lf, .slice ka kl kc, .slice va vl vc]) (v 1) lo hi u := dep hd 1 (by kernel_rfl)
        have e1 : v 1 = .agg #[.bool lf, .slice ka kl kc, .slice va vl vc] := depV h1
        clear hd
        simp only [List.toList_toArray, List.take_succ_cons, List.take_zero, List.drop_succ_cons, List.drop_zero, putAll, Act.put, List.setIfInBounds_toArray, List.set_cons_zero, List.set_cons_succ, Nat.zero_add, Nat.reduceAdd, e1] at hK ⊢
        go_simp
        refine (CP.out u).mono ?_
        rintro e u' ⟨rfl, g'⟩
        have hk := hK.out (.int .i64 (P : Int)) u' g' rfl
        exact hk
      · intro v u hg hd K hK
        have h0 : ∃ lo hi, IsV (.agg #[.bool lf, .slice ka kl kc, .slice va vl vc]) (v 0) lo hi u := dep hd 0 (by kernel_rfl)
        have e0 : v 0 = .agg #[.bool lf, .slice ka kl kc, .slice va vl vc] := depV h0
        have h2 : ∃ lo hi, IsV (.int .i64 (P : Int)) (v 2) lo hi u := dep hd 2 (by kernel_rfl)
        have e2 : v 2 = .int .i64 (P : Int) := depV h2
        clear hd
        simp only [List.toList_toArray, List.take_succ_cons, List.take_zero, List.drop_succ_cons, List.drop_zero, putAll, Act.put, List.setIfInBounds_toArray, List.set_cons_zero, List.set_cons_succ, Nat.zero_add, Nat.reduceAdd, e0, e2] at hK ⊢
        go_simp
        refine (CA.out 0 P (Nat.zero_le _) (Nat.le_refl _) u ((g0.then gW).then ((Chg.drew [] w1).then hg))).mono ?_
        rintro e u' ⟨⟨qa, qc, qa', qc', rfl, hr⟩, g'⟩
        have hk := hK.out (_) u' g' (isN_out ⟨_, _, _, _, rfl, hr⟩)
        exact hk
    · intro v u lo hi hg hall hbd hdj
      have e0 : v 0 = .agg #[.bool lf, .slice ka kl kc, .slice va vl vc] := hall 0 (by decide)
      have e1 : v 1 = .agg #[.bool lf, .slice ka kl kc, .slice va vl vc] := hall 1 (by decide)
      have e2 : v 2 = .int .i64 (P : Int) := hall 2 (by decide)
      obtain ⟨pa, pc, qa, qc, e9, hr0, m1, m2⟩ : IsN lf (sub K 0 P) (sub V 0 P) (v 3) (lo 3) (hi 3) u := hall 3 (by decide)
      have bb := (hbd 3 (by decide)).1
      have hr := hr0.mono bb
      have gU := (Chg.drew [] w1).then hg
      have tU := there_chg t0 gU (by simp)
      obtain ⟨v0, v1, v2, i0, i1, i2, j0, j1, j2⟩ := there3 tU
      have gZ := three_chg u R (.bool lf) (.slice pa (sub K 0 P).length pc) (.slice qa (sub V 0 P).length qc)
      have hR1 := HR.out
      have hRw : ∀ q, q ∈ [R] → q < w1.heap.size := fun q hq => by simp at hq; have := gW.size; omega
      have hrZ := (hr.chg gZ hRw).mono (show w.heap.size ≤ w1.heap.size from Nat.le_trans g0.size gW.size)
      have gF := ((g0.then gW).then gU).trans gZ (U := []) (by simp) (fun q hq hlt => by simp at hq; omega)
      have HF := mkHid (And.intro hrZ gF)
      clear hr0 hr gU tU gZ hrZ gF hall hbd hdj hg m1 m2 bb hRw
      simp only [List.toList_toArray, List.take_succ_cons, List.take_zero, List.drop_succ_cons, List.drop_zero, putAll, Act.put, List.setIfInBounds_toArray, List.set_cons_zero, List.set_cons_succ, Nat.zero_add, Nat.reduceAdd, e0, e1, e2, e9]
      clear e0 e1 e2 e9 v lo hi
      go_wp2_with fail
      refine bodyPost_ret (v := .agg #[.bool lf, .slice pa (sub K 0 P).length pc, .slice qa (sub V 0 P).length qc]) (by simp [results, Try.results21, go_sem, i0, i1, i2]) rfl ⟨?_, HF.out.2⟩
      exact ⟨pa, pc, qa, qc, rfl, HF.out.1⟩
  by_cases h2 : (P : Int) ≤ z
  · have d1 : decide (z < 0) = false := decide_eq_false h1
    have d2 : decide (z ≥ (P : Int)) = true := decide_eq_true h2
    have d3 : decide ((P : Int) ≤ z) = true := decide_eq_true h2
    rw [show setO z x P K = sub K 0 P from if_neg (by omega), show setO z y P V = sub V 0 P from if_neg (by omega)]
    go_enter Try.func21, Try.ntmps21
    go_wp2_with fail
    obtain ⟨c0, c1, c2, t0, g0, hz⟩ := HE.out
    generalize (w.alloc (.cells #[.bool lf, .slice ka kl kc, .slice va vl vc] 24)).alloc (.cells #[.bool false, .slice none 0 0, .slice none 0 0] 24) = w1 at *
    obtain ⟨R, hR⟩ : ∃ R, w.heap.size + 1 = R := ⟨_, rfl⟩
    rw [hR] at t0 ⊢
    have HR := mkHid (show R + 1 = w1.heap.size ∧ w.heap.size ≤ R by omega)
    clear hR hz HE
    generalize w.heap.size = b at c0 c1 c2 ⊢
    go_wp2_with fail
    refine (CP.out w1).mono ?_
    rintro e w2 ⟨rfl, gW⟩
    have d0 := gW.cellv c0 (by simp)
    have d1 := gW.cellv c1 (by simp)
    have d2 := gW.cellv c2 (by simp)
    have s0 := there_chg t0 gW (by simp)
    clear c0 c1 c2 t0
    have c0 := d0
    have c1 := d1
    have c2 := d2
    have t0 := s0
    clear d0 d1 d2 s0
    go_wp2_with fail
    refine region_made 4 [IsV (.agg #[.bool lf, .slice ka kl kc, .slice va vl vc]), IsV (.agg #[.bool lf, .slice ka kl kc, .slice va vl vc]), IsV (.int .i64 (P : Int)), IsN lf (sub K 0 P) (sub V 0 P)] (by kernel_rfl) (by kernel_rfl) (by kernel_rfl) (by decide) (of_decide_eq_true (by kernel_rfl)) ⟨keepV _, keepV _, keepV _, keepN _ _ _, trivial⟩ ?_ ?_
    · refine ⟨?_, ?_, ?_, ?_, trivial⟩
      · intro v u hg hd K hK
        have hz := (Chg.drew [] w2).then hg
        have x0 := (hz).cellv c0 (by simp)
        have x1 := (hz).cellv c1 (by simp)
        have x2 := (hz).cellv c2 (by simp)
        clear hd
        have hk := hK.out (.agg #[.bool lf, .slice ka kl kc, .slice va vl vc]) u (Chg.refl _ _) rfl
        clear hK
        simp only [List.toList_toArray, List.take_succ_cons, List.take_zero, List.drop_succ_cons, List.drop_zero, putAll, Act.put, List.setIfInBounds_toArray, List.set_cons_zero, List.set_cons_succ, Nat.zero_add, Nat.reduceAdd] at hk ⊢
        go_simp
        exact hk
      · intro v u hg hd K hK
        have hz := (Chg.drew [] w2).then hg
        have x0 := (hz).cellv c0 (by simp)
        have x1 := (hz).cellv c1 (by simp)
        have x2 := (hz).cellv c2 (by simp)
        clear hd
        have hk := hK.out (.agg #[.bool lf, .slice ka kl kc, .slice va vl vc]) u (Chg.refl _ _) rfl
        clear hK
        simp only [List.toList_toArray, List.take_succ_cons, List.take_zero, List.drop_succ_cons, List.drop_zero, putAll, Act.put, List.setIfInBounds_toArray, List.set_cons_zero, List.set_cons_succ, Nat.zero_add, Nat.reduceAdd] at hk ⊢
        go_simp
        exact hk
      · intro v u hg hd K hK
        have h1 : ∃ lo hi, IsV (.agg #[.bool lf, .slice ka kl kc, .slice va vl vc]) (v 1) lo hi u := dep hd 1 (by kernel_rfl)
        have e1 : v 1 = .agg #[.bool lf, .slice ka kl kc, .slice va vl vc] := depV h1
        clear hd
        simp only [List.toList_toArray, List.take_succ_cons, List.take_zero, List.drop_succ_cons, List.drop_zero, putAll, Act.put, List.setIfInBounds_toArray, List.set_cons_zero, List.set_cons_succ, Nat.zero_add, Nat.reduceAdd, e1] at hK ⊢
        go_simp
        refine (CP.out u).mono ?_
        rintro e u' ⟨rfl, g'⟩
        have hk := hK.out (.int .i64 (P : Int)) u' g' rfl
        exact hk
      · intro v u hg hd K hK
        have h0 : ∃ lo hi, IsV (.agg #[.bool lf, .slice ka kl kc, .slice va vl vc]) (v 0) lo hi u := dep hd 0 (by kernel_rfl)
        have e0 : v 0 = .agg #[.bool lf, .slice ka kl kc, .slice va vl vc] := depV h0
        have h2 : ∃ lo hi, IsV (.int .i64 (P : Int)) (v 2) lo hi u := dep hd 2 (by kernel_rfl)
        have e2 : v 2 = .int .i64 (P : Int) := depV h2
        clear hd
        simp only [List.toList_toArray, List.take_succ_cons, List.take_zero, List.drop_succ_cons, List.drop_zero, putAll, Act.put, List.setIfInBounds_toArray, List.set_cons_zero, List.set_cons_succ, Nat.zero_add, Nat.reduceAdd, e0, e2] at hK ⊢
        go_simp
        refine (CA.out 0 P (Nat.zero_le _) (Nat.le_refl _) u ((g0.then gW).then ((Chg.drew [] w2).then hg))).mono ?_
        rintro e u' ⟨⟨qa, qc, qa', qc', rfl, hr⟩, g'⟩
        have hk := hK.out (_) u' g' (isN_out ⟨_, _, _, _, rfl, hr⟩)
        exact hk
    · intro v u lo hi hg hall hbd hdj
      have e0 : v 0 = .agg #[.bool lf, .slice ka kl kc, .slice va vl vc] := hall 0 (by decide)
      have e1 : v 1 = .agg #[.bool lf, .slice ka kl kc, .slice va vl vc] := hall 1 (by decide)
      have e2 : v 2 = .int .i64 (P : Int) := hall 2 (by decide)
      obtain ⟨pa, pc, qa, qc, e9, hr0, m1, m2⟩ : IsN lf (sub K 0 P) (sub V 0 P) (v 3) (lo 3) (hi 3) u := hall 3 (by decide)
      have bb := (hbd 3 (by decide)).1
      have hr := hr0.mono bb
      have gU := (Chg.drew [] w2).then hg
      have tU := there_chg t0 gU (by simp)
      obtain ⟨v0, v1, v2, i0, i1, i2, j0, j1, j2⟩ := there3 tU
      have gZ := three_chg u R (.bool lf) (.slice pa (sub K 0 P).length pc) (.slice qa (sub V 0 P).length qc)
      have hR1 := HR.out
      have hRw : ∀ q, q ∈ [R] → q < w2.heap.size := fun q hq => by simp at hq; have := gW.size; omega
      have hrZ := (hr.chg gZ hRw).mono (show w.heap.size ≤ w2.heap.size from Nat.le_trans g0.size gW.size)
      have gF := ((g0.then gW).then gU).trans gZ (U := []) (by simp) (fun q hq hlt => by simp at hq; omega)
      have HF := mkHid (And.intro hrZ gF)
      clear hr0 hr gU tU gZ hrZ gF hall hbd hdj hg m1 m2 bb hRw
      simp only [List.toList_toArray, List.take_succ_cons, List.take_zero, List.drop_succ_cons, List.drop_zero, putAll, Act.put, List.setIfInBounds_toArray, List.set_cons_zero, List.set_cons_succ, Nat.zero_add, Nat.reduceAdd, e0, e1, e2, e9]
      clear e0 e1 e2 e9 v lo hi
      go_wp2_with fail
      refine bodyPost_ret (v := .agg #[.bool lf, .slice pa (sub K 0 P).length pc, .slice qa (sub V 0 P).length qc]) (by simp [results, Try.results21, go_sem, i0, i1, i2]) rfl ⟨?_, HF.out.2⟩
      exact ⟨pa, pc, qa, qc, rfl, HF.out.1⟩
  obtain ⟨a, rfl⟩ : ∃ a : Nat, z = (a : Int) := ⟨z.toNat, by omega⟩
  have haP : a < P := by omega
  clear h1 h2
  have d1 : decide ((a : Int) < 0) = false := decide_eq_false (by omega)
  have d2 : decide ((a : Int) ≥ (P : Int)) = false := decide_eq_false (by omega)
  have d3 : decide ((P : Int) ≤ (a : Int)) = false := decide_eq_false (by omega)
  have d4 : decide (a ≥ P) = false := decide_eq_false (by omega)
  have d5 : decide (P ≤ a) = false := decide_eq_false (by omega)
  obtain ⟨a1, ha1⟩ : ∃ a1, a + 1 = a1 := ⟨_, rfl⟩
  have ha2 : (a : Int) + 1 = (a1 : Int) := by omega
  have ha3 : IntKind.i64.wrap (a1 : Int) = (a1 : Int) := by rw [IntKind.wrap_i64]; omega
  rw [show setO (a : Int) x P K = setL P a x K from if_pos (by omega), show setO (a : Int) y P V = setL P a y V from if_pos (by omega)]
  unfold setL
  rw [ha1]
  have cA1 := CA.out 0 a (Nat.zero_le _) (by omega)
  have cA2 := CA.out a1 P (by omega) (Nat.le_refl _)
  have l1 := CL.out K lK 0 a (by omega)
  have l2 := CL.out V lV 0 a (by omega)
  have l3 := CL.out K lK a1 P (Nat.le_refl _)
  have l4 := CL.out V lV a1 P (Nat.le_refl _)
  generalize sub K 0 a = A at *
  generalize sub V 0 a = C at *
  generalize sub K a1 P = A2 at *
  generalize sub V a1 P = C2 at *
  obtain ⟨D, hD⟩ : ∃ D, A ++ [x] = D := ⟨_, rfl⟩
  obtain ⟨E, hE⟩ : ∃ E, C ++ [y] = E := ⟨_, rfl⟩
  obtain ⟨F, hF⟩ : ∃ F, D ++ A2 = F := ⟨_, rfl⟩
  obtain ⟨G, hG⟩ : ∃ G, E ++ C2 = G := ⟨_, rfl⟩
  rw [show A ++ ([x] ++ A2) = F by rw [← hF, ← hD, List.append_assoc], show C ++ ([y] ++ C2) = G by rw [← hG, ← hE, List.append_assoc]]
  have HL := mkHid (show A.length = a ∧ C.length = a ∧ A2.length = C2.length ∧ A2.length ≤ P ∧ D.length = a + 1 ∧ E.length = a + 1 by rw [← hD, ← hE]; simp only [List.length_append, List.length_cons, List.length_nil]; omega)
  have HQ := mkHid (And.intro hD (And.intro hE (And.intro hF hG)))
  clear hD hE hF hG
  have CA1 := mkHid cA1
  have CA2 := mkHid cA2
  clear cA1 cA2 l1 l2 l3 l4
  have HA := mkHid ha1
  have HW := mkHid (And.intro ha2 ha3)
  clear ha1 ha2 ha3
  go_enter Try.func21, Try.ntmps21
  go_wp2_with fail
  obtain ⟨c0, c1, c2, t0, g0, hz⟩ := HE.out
  generalize (w.alloc (.cells #[.bool lf, .slice ka kl kc, .slice va vl vc] 24)).alloc (.cells #[.bool false, .slice none 0 0, .slice none 0 0] 24) = w1 at *
  obtain ⟨R, hR⟩ : ∃ R, w.heap.size + 1 = R := ⟨_, rfl⟩
  rw [hR] at t0 ⊢
  have HR := mkHid (show R + 1 = w1.heap.size ∧ w.heap.size ≤ R by omega)
  clear hR hz HE
  generalize w.heap.size = b at c0 c1 c2 ⊢
  go_wp2_with fail
  refine (CP.out w1).mono ?_
  rintro e w2 ⟨rfl, gW⟩
  have d0 := gW.cellv c0 (by simp)
  have d1 := gW.cellv c1 (by simp)
  have d2 := gW.cellv c2 (by simp)
  have s0 := there_chg t0 gW (by simp)
  clear c0 c1 c2 t0
  have c0 := d0
  have c1 := d1
  have c2 := d2
  have t0 := s0
  clear d0 d1 d2 s0
  go_wp2_with fail
  refine (CA1.out w2 (g0.then gW)).mono ?_
  rintro e w3 ⟨⟨p1, pc1, q1, qc1, rfl, hr1⟩, g3⟩
  go_wp2_with fail
  refine (rone_as x y w3).mono ?_
  rintro e w4 ⟨⟨p2, pc2, q2, qc2, rfl, hr2⟩, g4⟩
  have rd1 := (hr1.keep g4).rd (by have := HL.out; omega) (by have := HL.out; omega)
  have rd2 := hr2.rd (by simp) (by simp)
  have HRD := mkHid (And.intro rd1 rd2)
  clear hr1 hr2 rd1 rd2
  go_wp2_with fail
  refine (rjoin_eq lf p1 A.length pc1 q1 C.length qc1 A C false p2 1 pc2 q2 1 qc2 [x] [y] D E w4 HRD.out.1 rfl rfl HRD.out.2 rfl rfl (by have := HL.out; omega) rfl (by have := HL.out; omega) HQ.out.1 HQ.out.2.1).mono ?_
  rintro e w5 ⟨⟨p3, pc3, q3, qc3, rfl, hr3⟩, g5⟩
  have g6 := Chg.alloc [] w5 (.cells #[.bool lf, .slice p3 D.length pc3, .slice q3 E.length qc3] 24)
  obtain ⟨n0, n1, n2⟩ := laid3 w5 (.bool lf) (.slice p3 D.length pc3) (.slice q3 E.length qc3) 24
  have gW := ((gW.then g3).then (g4.then g5)).then g6
  have gV := ((g3.then (g4.then g5)).then g6)
  have d0 := gV.cellv c0 (by simp)
  have d1 := gV.cellv c1 (by simp)
  have d2 := gV.cellv c2 (by simp)
  have s0 := there_chg t0 gV (by simp)
  clear c0 c1 c2 t0
  have c0 := d0
  have c1 := d1
  have c2 := d2
  have t0 := s0
  clear d0 d1 d2 s0
  have rd9 := (hr3.keep g6).rd (by have := HL.out; omega) (by have := HL.out; omega)
  have HN := mkHid (And.intro n0 (And.intro n1 (And.intro n2 rd9)))
  clear n0 n1 n2 rd9 hr3 HRD g3 g4 g5 g6 gV
  go_wp2_with fail
  obtain ⟨n0, n1, n2, rd9⟩ := HN.out
  clear HN
  generalize w5.alloc (.cells #[.bool lf, .slice p3 D.length pc3, .slice q3 E.length qc3] 24) = w6 at *
  generalize w5.heap.size = nb at *
  have HRD := mkHid rd9
  clear rd9
  refine region_made 8 [IsV (.agg #[.bool lf, .slice p3 D.length pc3, .slice q3 E.length qc3]), IsV (.agg #[.bool lf, .slice ka kl kc, .slice va vl vc]), IsV (.int .i64 (a : Int)), IsV (.int .i64 (a1 : Int)), IsV (.agg #[.bool lf, .slice ka kl kc, .slice va vl vc]), IsV (.int .i64 (P : Int)), IsN lf (A2) (C2), IsN lf (F) (G)] (by kernel_rfl) (by kernel_rfl) (by kernel_rfl) (by decide) (of_decide_eq_true (by kernel_rfl)) ⟨keepV _, keepV _, keepV _, keepV _, keepV _, keepV _, keepN _ _ _, keepN _ _ _, trivial⟩ ?_ ?_
  · refine ⟨?_, ?_, ?_, ?_, ?_, ?_, ?_, ?_, trivial⟩
    · intro v u hg hd K hK
      have hz := (Chg.drew [] w6).then hg
      have x0 := hz.cellv n0 (by simp)
      have x1 := hz.cellv n1 (by simp)
      have x2 := hz.cellv n2 (by simp)
      clear hd
      have hk := hK.out (.agg #[.bool lf, .slice p3 D.length pc3, .slice q3 E.length qc3]) u (Chg.refl _ _) rfl
      clear hK
      simp only [List.toList_toArray, List.take_succ_cons, List.take_zero, List.drop_succ_cons, List.drop_zero, putAll, Act.put, List.setIfInBounds_toArray, List.set_cons_zero, List.set_cons_succ, Nat.zero_add, Nat.reduceAdd] at hk ⊢
      go_simp
      exact hk
    · intro v u hg hd K hK
      have hz := (Chg.drew [] w6).then hg
      have x0 := (hz).cellv c0 (by simp)
      have x1 := (hz).cellv c1 (by simp)
      have x2 := (hz).cellv c2 (by simp)
      clear hd
      have hk := hK.out (.agg #[.bool lf, .slice ka kl kc, .slice va vl vc]) u (Chg.refl _ _) rfl
      clear hK
      simp only [List.toList_toArray, List.take_succ_cons, List.take_zero, List.drop_succ_cons, List.drop_zero, putAll, Act.put, List.setIfInBounds_toArray, List.set_cons_zero, List.set_cons_succ, Nat.zero_add, Nat.reduceAdd] at hk ⊢
      go_simp
      exact hk
    · intro v u hg hd K hK
      clear hd
      have hk := hK.out (.int .i64 (a : Int)) u (Chg.refl _ _) rfl
      clear hK
      simp only [List.toList_toArray, List.take_succ_cons, List.take_zero, List.drop_succ_cons, List.drop_zero, putAll, Act.put, List.setIfInBounds_toArray, List.set_cons_zero, List.set_cons_succ, Nat.zero_add, Nat.reduceAdd] at hk ⊢
      go_simp
      exact hk
    · intro v u hg hd K hK
      have h2 : ∃ lo hi, IsV (.int .i64 (a : Int)) (v 2) lo hi u := dep hd 2 (by kernel_rfl)
      have e2 : v 2 = .int .i64 (a : Int) := depV h2
      have ha2 := HW.out.1
      have ha3 := HW.out.2
      clear hd
      have hk := hK.out (.int .i64 (a1 : Int)) u (Chg.refl _ _) rfl
      clear hK
      simp only [List.toList_toArray, List.take_succ_cons, List.take_zero, List.drop_succ_cons, List.drop_zero, putAll, Act.put, List.setIfInBounds_toArray, List.set_cons_zero, List.set_cons_succ, Nat.zero_add, Nat.reduceAdd, e2] at hk ⊢
      go_simp
      exact hk
    · intro v u hg hd K hK
      have hz := (Chg.drew [] w6).then hg
      have x0 := (hz).cellv c0 (by simp)
      have x1 := (hz).cellv c1 (by simp)
      have x2 := (hz).cellv c2 (by simp)
      clear hd
      have hk := hK.out (.agg #[.bool lf, .slice ka kl kc, .slice va vl vc]) u (Chg.refl _ _) rfl
      clear hK
      simp only [List.toList_toArray, List.take_succ_cons, List.take_zero, List.drop_succ_cons, List.drop_zero, putAll, Act.put, List.setIfInBounds_toArray, List.set_cons_zero, List.set_cons_succ, Nat.zero_add, Nat.reduceAdd] at hk ⊢
      go_simp
      exact hk
    · intro v u hg hd K hK
      have h4 : ∃ lo hi, IsV (.agg #[.bool lf, .slice ka kl kc, .slice va vl vc]) (v 4) lo hi u := dep hd 4 (by kernel_rfl)
      have e4 : v 4 = .agg #[.bool lf, .slice ka kl kc, .slice va vl vc] := depV h4
      clear hd
      simp only [List.toList_toArray, List.take_succ_cons, List.take_zero, List.drop_succ_cons, List.drop_zero, putAll, Act.put, List.setIfInBounds_toArray, List.set_cons_zero, List.set_cons_succ, Nat.zero_add, Nat.reduceAdd, e4] at hK ⊢
      go_simp
      refine (CP.out u).mono ?_
      rintro e u' ⟨rfl, g'⟩
      have hk := hK.out (.int .i64 (P : Int)) u' g' rfl
      exact hk
    · intro v u hg hd K hK
      have h1 : ∃ lo hi, IsV (.agg #[.bool lf, .slice ka kl kc, .slice va vl vc]) (v 1) lo hi u := dep hd 1 (by kernel_rfl)
      have e1 : v 1 = .agg #[.bool lf, .slice ka kl kc, .slice va vl vc] := depV h1
      have h3 : ∃ lo hi, IsV (.int .i64 (a1 : Int)) (v 3) lo hi u := dep hd 3 (by kernel_rfl)
      have e3 : v 3 = .int .i64 (a1 : Int) := depV h3
      have h5 : ∃ lo hi, IsV (.int .i64 (P : Int)) (v 5) lo hi u := dep hd 5 (by kernel_rfl)
      have e5 : v 5 = .int .i64 (P : Int) := depV h5
      clear hd
      simp only [List.toList_toArray, List.take_succ_cons, List.take_zero, List.drop_succ_cons, List.drop_zero, putAll, Act.put, List.setIfInBounds_toArray, List.set_cons_zero, List.set_cons_succ, Nat.zero_add, Nat.reduceAdd, e1, e3, e5] at hK ⊢
      go_simp
      refine (CA2.out u ((g0.then gW).then ((Chg.drew [] w6).then hg))).mono ?_
      rintro e u' ⟨⟨qa, qc, qa', qc', rfl, hr⟩, g'⟩
      have hk := hK.out (_) u' g' (isN_out ⟨_, _, _, _, rfl, hr⟩)
      exact hk
    · intro v u hg hd K hK
      have h0 : ∃ lo hi, IsV (.agg #[.bool lf, .slice p3 D.length pc3, .slice q3 E.length qc3]) (v 0) lo hi u := dep hd 0 (by kernel_rfl)
      have e0 : v 0 = .agg #[.bool lf, .slice p3 D.length pc3, .slice q3 E.length qc3] := depV h0
      have h6 : ∃ lo hi, IsN lf (A2) (C2) (v 6) lo hi u := dep hd 6 (by kernel_rfl)
      obtain ⟨_, _, pa6, pc6, qa6, qc6, e6, hr6, -, -⟩ := h6
      clear hd
      simp only [List.toList_toArray, List.take_succ_cons, List.take_zero, List.drop_succ_cons, List.drop_zero, putAll, Act.put, List.setIfInBounds_toArray, List.set_cons_zero, List.set_cons_succ, Nat.zero_add, Nat.reduceAdd, e0, e6] at hK ⊢
      go_simp
      refine (rjoin_eq lf p3 D.length pc3 q3 E.length qc3 D E lf pa6 A2.length pc6 qa6 C2.length qc6 A2 C2 F G u (HRD.out.keep ((Chg.drew [] w6).then hg)) rfl rfl (hr6.rd (by have := HL.out; omega) (by have := HL.out; omega)) rfl rfl (by have := HL.out; omega) (by have := HL.out; omega) (by have := HL.out; omega) HQ.out.2.2.1 HQ.out.2.2.2).mono ?_
      rintro e u' ⟨⟨qa, qc, qa', qc', rfl, hr⟩, g'⟩
      have hk := hK.out (_) u' g' (isN_out ⟨_, _, _, _, rfl, hr⟩)
      exact hk
  · intro v u lo hi hg hall hbd hdj
    have e0 : v 0 = .agg #[.bool lf, .slice p3 D.length pc3, .slice q3 E.length qc3] := hall 0 (by decide)
    have e1 : v 1 = .agg #[.bool lf, .slice ka kl kc, .slice va vl vc] := hall 1 (by decide)
    have e2 : v 2 = .int .i64 (a : Int) := hall 2 (by decide)
    have e3 : v 3 = .int .i64 (a1 : Int) := hall 3 (by decide)
    have e4 : v 4 = .agg #[.bool lf, .slice ka kl kc, .slice va vl vc] := hall 4 (by decide)
    have e5 : v 5 = .int .i64 (P : Int) := hall 5 (by decide)
    obtain ⟨pz6, pzc6, qz6, qzc6, e6, -, -, -⟩ : IsN lf (A2) (C2) (v 6) (lo 6) (hi 6) u := hall 6 (by decide)
    obtain ⟨pa, pc, qa, qc, e9, hr0, m1, m2⟩ : IsN lf (F) (G) (v 7) (lo 7) (hi 7) u := hall 7 (by decide)
    have bb := (hbd 7 (by decide)).1
    have hr := hr0.mono bb
    have gU := (Chg.drew [] w6).then hg
    have tU := there_chg t0 gU (by simp)
    obtain ⟨v0, v1, v2, i0, i1, i2, j0, j1, j2⟩ := there3 tU
    have gZ := three_chg u R (.bool lf) (.slice pa (F).length pc) (.slice qa (G).length qc)
    have hR1 := HR.out
    have hRw : ∀ q, q ∈ [R] → q < w6.heap.size := fun q hq => by simp at hq; have := gW.size; omega
    have hrZ := (hr.chg gZ hRw).mono (show w.heap.size ≤ w6.heap.size from Nat.le_trans g0.size gW.size)
    have gF := ((g0.then gW).then gU).trans gZ (U := []) (by simp) (fun q hq hlt => by simp at hq; omega)
    have HF := mkHid (And.intro hrZ gF)
    clear hr0 hr gU tU gZ hrZ gF hall hbd hdj hg m1 m2 bb hRw
    simp only [List.toList_toArray, List.take_succ_cons, List.take_zero, List.drop_succ_cons, List.drop_zero, putAll, Act.put, List.setIfInBounds_toArray, List.set_cons_zero, List.set_cons_succ, Nat.zero_add, Nat.reduceAdd, e0, e1, e2, e3, e4, e5, e6, e9]
    clear e0 e1 e2 e3 e4 e5 e6 e9 v lo hi
    go_wp2_with fail
    refine bodyPost_ret (v := .agg #[.bool lf, .slice pa (F).length pc, .slice qa (G).length qc]) (by simp [results, Try.results21, go_sem, i0, i1, i2]) rfl ⟨?_, HF.out.2⟩
    exact ⟨pa, pc, qa, qc, rfl, HF.out.1⟩
set_option maxRecDepth 20000 in
set_option maxHeartbeats 4000000 in
theorem rremove_any (lf : Bool) (ka : Option Addr) (kl kc : Nat) (va : Option Addr) (vl vc : Nat) (K V : List Nat) (w : World) (h : RdN w ka kc va vc K V) (hk : K.length = kl) (hv : V.length = vl) (hb : np K V ≤ 100000000) (z : Int) :
    Calls Try.prog 22 #[.agg #[.bool lf, .slice ka kl kc, .slice va vl vc], .int .i64 z] w fun e w' => NOut w.heap.size lf (remO z (np K V) K) (remO z (np K V) V) e w' ∧ Chg [] w w' := by
  have hkc := h.ck
  have hbk := h.bk
  obtain ⟨P, hP⟩ : ∃ P, np K V = P := ⟨_, rfl⟩
  have cP := rpairs_any lf ka kl kc va vl vc P (by rw [min_np hk hv, hP])
  have hPk : P ≤ kl := by rw [← hP, ← hk]; exact np_le.1
  have hPv : P ≤ vl := by rw [← hP, ← hv]; exact np_le.2
  rw [hP] at hb
  have cA := fun (f t : Nat) (hft : f ≤ t) (htP : t ≤ P) (u : World) (g : Chg [] w u) => rpart_any lf ka kl kc va vl vc K V u (h.keep g) hk hv f t hft (by omega) (by omega)
  have cL := fun (L : List Nat) (hL : P ≤ L.length) (f t : Nat) (htP : t ≤ P) => sub_len (L := L) (f := f) (t := t) (by omega)
  have lK : P ≤ K.length := by omega
  have lV : P ≤ V.length := by omega
  rw [hP]
  obtain ⟨c0, c1, c2, t0, g0, hz⟩ := laid_node w (.bool lf) (.slice ka kl kc) (.slice va vl vc) 24
  have HE := mkHid (And.intro c0 (And.intro c1 (And.intro c2 (And.intro t0 (And.intro g0 hz)))))
  have CP := mkHid cP
  have CA := mkHid cA
  have CL := mkHid cL
  have HP := mkHid hP
  clear c0 c1 c2 t0 g0 hz cP cA cL hk hv h hP hkc hbk
  by_cases h1 : z < 0
  · have d1 : decide (z < 0) = true := decide_eq_true h1
    rw [show remO z P K = sub K 0 P from if_neg (by omega), show remO z P V = sub V 0 P from if_neg (by omega)]
    go_enter Try.func22, Try.ntmps22
    go_wp2_with fail
    obtain ⟨c0, c1, c2, t0, g0, hz⟩ := HE.out
    generalize (w.alloc (.cells #[.bool lf, .slice ka kl kc, .slice va vl vc] 24)).alloc (.cells #[.bool false, .slice none 0 0, .slice none 0 0] 24) = w1 at *
    obtain ⟨R, hR⟩ : ∃ R, w.heap.size + 1 = R := ⟨_, rfl⟩
    rw [hR] at t0 ⊢
    have HR := mkHid (show R + 1 = w1.heap.size ∧ w.heap.size ≤ R by omega)
    clear hR hz HE
    generalize w.heap.size = b at c0 c1 c2 ⊢
    go_wp2_with fail
    have gW := Chg.refl [] w1
    refine region_made 4 [IsV (.agg #[.bool lf, .slice ka kl kc, .slice va vl vc]), IsV (.agg #[.bool lf, .slice ka kl kc, .slice va vl vc]), IsV (.int .i64 (P : Int)), IsN lf (sub K 0 P) (sub V 0 P)] (by kernel_rfl) (by kernel_rfl) (by kernel_rfl) (by decide) (of_decide_eq_true (by kernel_rfl)) ⟨keepV _, keepV _, keepV _, keepN _ _ _, trivial⟩ ?_ ?_
    · refine ⟨?_, ?_, ?_, ?_, trivial⟩
      · intro v u hg hd K hK
        have hz := (Chg.drew [] w1).then hg
        have x0 := (hz).cellv c0 (by simp)
        have x1 := (hz).cellv c1 (by simp)
        have x2 := (hz).cellv c2 (by simp)
        clear hd
        have hk := hK.out (.agg #[.bool lf, .slice ka kl kc, .slice va vl vc]) u (Chg.refl _ _) rfl
        clear hK
        simp only [List.toList_toArray, List.take_succ_cons, List.take_zero, List.drop_succ_cons, List.drop_zero, putAll, Act.put, List.setIfInBounds_toArray, List.set_cons_zero, List.set_cons_succ, Nat.zero_add, Nat.reduceAdd] at hk ⊢
        go_simp
        exact hk
      · intro v u hg hd K hK
        have hz := (Chg.drew [] w1).then hg
        have x0 := (hz).cellv c0 (by simp)
        have x1 := (hz).cellv c1 (by simp)
        have x2 := (hz).cellv c2 (by simp)
        clear hd
        have hk := hK.out (.agg #[.bool lf, .slice ka kl kc, .slice va vl vc]) u (Chg.refl _ _) rfl
        clear hK
        simp only [List.toList_toArray, List.take_succ_cons, List.take_zero, List.drop_succ_cons, List.drop_zero, putAll, Act.put, List.setIfInBounds_toArray, List.set_cons_zero, List.set_cons_succ, Nat.zero_add, Nat.reduceAdd] at hk ⊢
        go_simp
        exact hk
      · intro v u hg hd K hK
        have h1 : ∃ lo hi, IsV (.agg #[.bool lf, .slice ka kl kc, .slice va vl vc]) (v 1) lo hi u := dep hd 1 (by kernel_rfl)
        have e1 : v 1 = .agg #[.bool lf, .slice ka kl kc, .slice va vl vc] := depV h1
        clear hd
        simp only [List.toList_toArray, List.take_succ_cons, List.take_zero, List.drop_succ_cons, List.drop_zero, putAll, Act.put, List.setIfInBounds_toArray, List.set_cons_zero, List.set_cons_succ, Nat.zero_add, Nat.reduceAdd, e1] at hK ⊢
        go_simp
        refine (CP.out u).mono ?_
        rintro e u' ⟨rfl, g'⟩
        have hk := hK.out (.int .i64 (P : Int)) u' g' rfl
        exact hk
      · intro v u hg hd K hK
        have h0 : ∃ lo hi, IsV (.agg #[.bool lf, .slice ka kl kc, .slice va vl vc]) (v 0) lo hi u := dep hd 0 (by kernel_rfl)
        have e0 : v 0 = .agg #[.bool lf, .slice ka kl kc, .slice va vl vc] := depV h0
        have h2 : ∃ lo hi, IsV (.int .i64 (P : Int)) (v 2) lo hi u := dep hd 2 (by kernel_rfl)
        have e2 : v 2 = .int .i64 (P : Int) := depV h2
        clear hd
        simp only [List.toList_toArray, List.take_succ_cons, List.take_zero, List.drop_succ_cons, List.drop_zero, putAll, Act.put, List.setIfInBounds_toArray, List.set_cons_zero, List.set_cons_succ, Nat.zero_add, Nat.reduceAdd, e0, e2] at hK ⊢
        go_simp
        refine (CA.out 0 P (Nat.zero_le _) (Nat.le_refl _) u ((g0.then gW).then ((Chg.drew [] w1).then hg))).mono ?_
        rintro e u' ⟨⟨qa, qc, qa', qc', rfl, hr⟩, g'⟩
        have hk := hK.out (_) u' g' (isN_out ⟨_, _, _, _, rfl, hr⟩)
        exact hk
    · intro v u lo hi hg hall hbd hdj
      have e0 : v 0 = .agg #[.bool lf, .slice ka kl kc, .slice va vl vc] := hall 0 (by decide)
      have e1 : v 1 = .agg #[.bool lf, .slice ka kl kc, .slice va vl vc] := hall 1 (by decide)
      have e2 : v 2 = .int .i64 (P : Int) := hall 2 (by decide)
      obtain ⟨pa, pc, qa, qc, e9, hr0, m1, m2⟩ : IsN lf (sub K 0 P) (sub V 0 P) (v 3) (lo 3) (hi 3) u := hall 3 (by decide)
      have bb := (hbd 3 (by decide)).1
      have hr := hr0.mono bb
      have gU := (Chg.drew [] w1).then hg
      have tU := there_chg t0 gU (by simp)
      obtain ⟨v0, v1, v2, i0, i1, i2, j0, j1, j2⟩ := there3 tU
      have gZ := three_chg u R (.bool lf) (.slice pa (sub K 0 P).length pc) (.slice qa (sub V 0 P).length qc)
      have hR1 := HR.out
      have hRw : ∀ q, q ∈ [R] → q < w1.heap.size := fun q hq => by simp at hq; have := gW.size; omega
      have hrZ := (hr.chg gZ hRw).mono (show w.heap.size ≤ w1.heap.size from Nat.le_trans g0.size gW.size)
      have gF := ((g0.then gW).then gU).trans gZ (U := []) (by simp) (fun q hq hlt => by simp at hq; omega)
      have HF := mkHid (And.intro hrZ gF)
      clear hr0 hr gU tU gZ hrZ gF hall hbd hdj hg m1 m2 bb hRw
      simp only [List.toList_toArray, List.take_succ_cons, List.take_zero, List.drop_succ_cons, List.drop_zero, putAll, Act.put, List.setIfInBounds_toArray, List.set_cons_zero, List.set_cons_succ, Nat.zero_add, Nat.reduceAdd, e0, e1, e2, e9]
      clear e0 e1 e2 e9 v lo hi
      go_wp2_with fail
      refine bodyPost_ret (v := .agg #[.bool lf, .slice pa (sub K 0 P).length pc, .slice qa (sub V 0 P).length qc]) (by simp [results, Try.results22, go_sem, i0, i1, i2]) rfl ⟨?_, HF.out.2⟩
      exact ⟨pa, pc, qa, qc, rfl, HF.out.1⟩
  by_cases h2 : (P : Int) ≤ z
  · have d1 : decide (z < 0) = false := decide_eq_false h1
    have d2 : decide (z ≥ (P : Int)) = true := decide_eq_true h2
    have d3 : decide ((P : Int) ≤ z) = true := decide_eq_true h2
    rw [show remO z P K = sub K 0 P from if_neg (by omega), show remO z P V = sub V 0 P from if_neg (by omega)]
    go_enter Try.func22, Try.ntmps22
    go_wp2_with fail
    obtain ⟨c0, c1, c2, t0, g0, hz⟩ := HE.out
    generalize (w.alloc (.cells #[.bool lf, .slice ka kl kc, .slice va vl vc] 24)).alloc (.cells #[.bool false, .slice none 0 0, .slice none 0 0] 24) = w1 at *
    obtain ⟨R, hR⟩ : ∃ R, w.heap.size + 1 = R := ⟨_, rfl⟩
    rw [hR] at t0 ⊢
    have HR := mkHid (show R + 1 = w1.heap.size ∧ w.heap.size ≤ R by omega)
    clear hR hz HE
    generalize w.heap.size = b at c0 c1 c2 ⊢
    go_wp2_with fail
    refine (CP.out w1).mono ?_
    rintro e w2 ⟨rfl, gW⟩
    have d0 := gW.cellv c0 (by simp)
    have d1 := gW.cellv c1 (by simp)
    have d2 := gW.cellv c2 (by simp)
    have s0 := there_chg t0 gW (by simp)
    clear c0 c1 c2 t0
    have c0 := d0
    have c1 := d1
    have c2 := d2
    have t0 := s0
    clear d0 d1 d2 s0
    go_wp2_with fail
    refine region_made 4 [IsV (.agg #[.bool lf, .slice ka kl kc, .slice va vl vc]), IsV (.agg #[.bool lf, .slice ka kl kc, .slice va vl vc]), IsV (.int .i64 (P : Int)), IsN lf (sub K 0 P) (sub V 0 P)] (by kernel_rfl) (by kernel_rfl) (by kernel_rfl) (by decide) (of_decide_eq_true (by kernel_rfl)) ⟨keepV _, keepV _, keepV _, keepN _ _ _, trivial⟩ ?_ ?_
    · refine ⟨?_, ?_, ?_, ?_, trivial⟩
      · intro v u hg hd K hK
        have hz := (Chg.drew [] w2).then hg
        have x0 := (hz).cellv c0 (by simp)
        have x1 := (hz).cellv c1 (by simp)
        have x2 := (hz).cellv c2 (by simp)
        clear hd
        have hk := hK.out (.agg #[.bool lf, .slice ka kl kc, .slice va vl vc]) u (Chg.refl _ _) rfl
        clear hK
        simp only [List.toList_toArray, List.take_succ_cons, List.take_zero, List.drop_succ_cons, List.drop_zero, putAll, Act.put, List.setIfInBounds_toArray, List.set_cons_zero, List.set_cons_succ, Nat.zero_add, Nat.reduceAdd] at hk ⊢
        go_simp
        exact hk
      · intro v u hg hd K hK
        have hz := (Chg.drew [] w2).then hg
        have x0 := (hz).cellv c0 (by simp)
        have x1 := (hz).cellv c1 (by simp)
        have x2 := (hz).cellv c2 (by simp)
        clear hd
        have hk := hK.out (.agg #[.bool lf, .slice ka kl kc, .slice va vl vc]) u (Chg.refl _ _) rfl
        clear hK
        simp only [List.toList_toArray, List.take_succ_cons, List.take_zero, List.drop_succ_cons, List.drop_zero, putAll, Act.put, List.setIfInBounds_toArray, List.set_cons_zero, List.set_cons_succ, Nat.zero_add, Nat.reduceAdd] at hk ⊢
        go_simp
        exact hk
      · intro v u hg hd K hK
        have h1 : ∃ lo hi, IsV (.agg #[.bool lf, .slice ka kl kc, .slice va vl vc]) (v 1) lo hi u := dep hd 1 (by kernel_rfl)
        have e1 : v 1 = .agg #[.bool lf, .slice ka kl kc, .slice va vl vc] := depV h1
        clear hd
        simp only [List.toList_toArray, List.take_succ_cons, List.take_zero, List.drop_succ_cons, List.drop_zero, putAll, Act.put, List.setIfInBounds_toArray, List.set_cons_zero, List.set_cons_succ, Nat.zero_add, Nat.reduceAdd, e1] at hK ⊢
        go_simp
        refine (CP.out u).mono ?_
        rintro e u' ⟨rfl, g'⟩
        have hk := hK.out (.int .i64 (P : Int)) u' g' rfl
        exact hk
      · intro v u hg hd K hK
        have h0 : ∃ lo hi, IsV (.agg #[.bool lf, .slice ka kl kc, .slice va vl vc]) (v 0) lo hi u := dep hd 0 (by kernel_rfl)
        have e0 : v 0 = .agg #[.bool lf, .slice ka kl kc, .slice va vl vc] := depV h0
        have h2 : ∃ lo hi, IsV (.int .i64 (P : Int)) (v 2) lo hi u := dep hd 2 (by kernel_rfl)
        have e2 : v 2 = .int .i64 (P : Int) := depV h2
        clear hd
        simp only [List.toList_toArray, List.take_succ_cons, List.take_zero, List.drop_succ_cons, List.drop_zero, putAll, Act.put, List.setIfInBounds_toArray, List.set_cons_zero, List.set_cons_succ, Nat.zero_add, Nat.reduceAdd, e0, e2] at hK ⊢
        go_simp
        refine (CA.out 0 P (Nat.zero_le _) (Nat.le_refl _) u ((g0.then gW).then ((Chg.drew [] w2).then hg))).mono ?_
        rintro e u' ⟨⟨qa, qc, qa', qc', rfl, hr⟩, g'⟩
        have hk := hK.out (_) u' g' (isN_out ⟨_, _, _, _, rfl, hr⟩)
        exact hk
    · intro v u lo hi hg hall hbd hdj
      have e0 : v 0 = .agg #[.bool lf, .slice ka kl kc, .slice va vl vc] := hall 0 (by decide)
      have e1 : v 1 = .agg #[.bool lf, .slice ka kl kc, .slice va vl vc] := hall 1 (by decide)
      have e2 : v 2 = .int .i64 (P : Int) := hall 2 (by decide)
      obtain ⟨pa, pc, qa, qc, e9, hr0, m1, m2⟩ : IsN lf (sub K 0 P) (sub V 0 P) (v 3) (lo 3) (hi 3) u := hall 3 (by decide)
      have bb := (hbd 3 (by decide)).1
      have hr := hr0.mono bb
      have gU := (Chg.drew [] w2).then hg
      have tU := there_chg t0 gU (by simp)
      obtain ⟨v0, v1, v2, i0, i1, i2, j0, j1, j2⟩ := there3 tU
      have gZ := three_chg u R (.bool lf) (.slice pa (sub K 0 P).length pc) (.slice qa (sub V 0 P).length qc)
      have hR1 := HR.out
      have hRw : ∀ q, q ∈ [R] → q < w2.heap.size := fun q hq => by simp at hq; have := gW.size; omega
      have hrZ := (hr.chg gZ hRw).mono (show w.heap.size ≤ w2.heap.size from Nat.le_trans g0.size gW.size)
      have gF := ((g0.then gW).then gU).trans gZ (U := []) (by simp) (fun q hq hlt => by simp at hq; omega)
      have HF := mkHid (And.intro hrZ gF)
      clear hr0 hr gU tU gZ hrZ gF hall hbd hdj hg m1 m2 bb hRw
      simp only [List.toList_toArray, List.take_succ_cons, List.take_zero, List.drop_succ_cons, List.drop_zero, putAll, Act.put, List.setIfInBounds_toArray, List.set_cons_zero, List.set_cons_succ, Nat.zero_add, Nat.reduceAdd, e0, e1, e2, e9]
      clear e0 e1 e2 e9 v lo hi
      go_wp2_with fail
      refine bodyPost_ret (v := .agg #[.bool lf, .slice pa (sub K 0 P).length pc, .slice qa (sub V 0 P).length qc]) (by simp [results, Try.results22, go_sem, i0, i1, i2]) rfl ⟨?_, HF.out.2⟩
      exact ⟨pa, pc, qa, qc, rfl, HF.out.1⟩
  obtain ⟨a, rfl⟩ : ∃ a : Nat, z = (a : Int) := ⟨z.toNat, by omega⟩
  have haP : a < P := by omega
  clear h1 h2
  have d1 : decide ((a : Int) < 0) = false := decide_eq_false (by omega)
  have d2 : decide ((a : Int) ≥ (P : Int)) = false := decide_eq_false (by omega)
  have d3 : decide ((P : Int) ≤ (a : Int)) = false := decide_eq_false (by omega)
  have d4 : decide (a ≥ P) = false := decide_eq_false (by omega)
  have d5 : decide (P ≤ a) = false := decide_eq_false (by omega)
  obtain ⟨a1, ha1⟩ : ∃ a1, a + 1 = a1 := ⟨_, rfl⟩
  have ha2 : (a : Int) + 1 = (a1 : Int) := by omega
  have ha3 : IntKind.i64.wrap (a1 : Int) = (a1 : Int) := by rw [IntKind.wrap_i64]; omega
  rw [show remO (a : Int) P K = remL P a K from if_pos (by omega), show remO (a : Int) P V = remL P a V from if_pos (by omega)]
  unfold remL
  rw [ha1]
  have cA1 := CA.out 0 a (Nat.zero_le _) (by omega)
  have cA2 := CA.out a1 P (by omega) (Nat.le_refl _)
  have l1 := CL.out K lK 0 a (by omega)
  have l2 := CL.out V lV 0 a (by omega)
  have l3 := CL.out K lK a1 P (Nat.le_refl _)
  have l4 := CL.out V lV a1 P (Nat.le_refl _)
  generalize sub K 0 a = A at *
  generalize sub V 0 a = C at *
  generalize sub K a1 P = A2 at *
  generalize sub V a1 P = C2 at *
  obtain ⟨F, hF⟩ : ∃ F, A ++ A2 = F := ⟨_, rfl⟩
  obtain ⟨G, hG⟩ : ∃ G, C ++ C2 = G := ⟨_, rfl⟩
  rw [hF, hG]
  have HL := mkHid (show A.length = a ∧ C.length = a ∧ A2.length = C2.length ∧ A2.length ≤ P by omega)
  have HQ := mkHid (And.intro hF hG)
  clear hF hG
  have CA1 := mkHid cA1
  have CA2 := mkHid cA2
  clear cA1 cA2 l1 l2 l3 l4
  have HA := mkHid ha1
  have HW := mkHid (And.intro ha2 ha3)
  clear ha1 ha2 ha3
  go_enter Try.func22, Try.ntmps22
  go_wp2_with fail
  obtain ⟨c0, c1, c2, t0, g0, hz⟩ := HE.out
  generalize (w.alloc (.cells #[.bool lf, .slice ka kl kc, .slice va vl vc] 24)).alloc (.cells #[.bool false, .slice none 0 0, .slice none 0 0] 24) = w1 at *
  obtain ⟨R, hR⟩ : ∃ R, w.heap.size + 1 = R := ⟨_, rfl⟩
  rw [hR] at t0 ⊢
  have HR := mkHid (show R + 1 = w1.heap.size ∧ w.heap.size ≤ R by omega)
  clear hR hz HE
  generalize w.heap.size = b at c0 c1 c2 ⊢
  go_wp2_with fail
  refine (CP.out w1).mono ?_
  rintro e w2 ⟨rfl, gW⟩
  have d0 := gW.cellv c0 (by simp)
  have d1 := gW.cellv c1 (by simp)
  have d2 := gW.cellv c2 (by simp)
  have s0 := there_chg t0 gW (by simp)
  clear c0 c1 c2 t0
  have c0 := d0
  have c1 := d1
  have c2 := d2
  have t0 := s0
  clear d0 d1 d2 s0
  go_wp2_with fail
  refine region_made 10 [IsV (.agg #[.bool lf, .slice ka kl kc, .slice va vl vc]), IsV (.int .i64 (a : Int)), IsN lf (A) (C), IsV (.agg #[.bool lf, .slice ka kl kc, .slice va vl vc]), IsV (.int .i64 (a : Int)), IsV (.int .i64 (a1 : Int)), IsV (.agg #[.bool lf, .slice ka kl kc, .slice va vl vc]), IsV (.int .i64 (P : Int)), IsN lf (A2) (C2), IsN lf (F) (G)] (by kernel_rfl) (by kernel_rfl) (by kernel_rfl) (by decide) (of_decide_eq_true (by kernel_rfl)) ⟨keepV _, keepV _, keepN _ _ _, keepV _, keepV _, keepV _, keepV _, keepV _, keepN _ _ _, keepN _ _ _, trivial⟩ ?_ ?_
  · refine ⟨?_, ?_, ?_, ?_, ?_, ?_, ?_, ?_, ?_, ?_, trivial⟩
    · intro v u hg hd K hK
      have hz := (Chg.drew [] w2).then hg
      have x0 := (hz).cellv c0 (by simp)
      have x1 := (hz).cellv c1 (by simp)
      have x2 := (hz).cellv c2 (by simp)
      clear hd
      have hk := hK.out (.agg #[.bool lf, .slice ka kl kc, .slice va vl vc]) u (Chg.refl _ _) rfl
      clear hK
      simp only [List.toList_toArray, List.take_succ_cons, List.take_zero, List.drop_succ_cons, List.drop_zero, putAll, Act.put, List.setIfInBounds_toArray, List.set_cons_zero, List.set_cons_succ, Nat.zero_add, Nat.reduceAdd] at hk ⊢
      go_simp
      exact hk
    · intro v u hg hd K hK
      clear hd
      have hk := hK.out (.int .i64 (a : Int)) u (Chg.refl _ _) rfl
      clear hK
      simp only [List.toList_toArray, List.take_succ_cons, List.take_zero, List.drop_succ_cons, List.drop_zero, putAll, Act.put, List.setIfInBounds_toArray, List.set_cons_zero, List.set_cons_succ, Nat.zero_add, Nat.reduceAdd] at hk ⊢
      go_simp
      exact hk
    · intro v u hg hd K hK
      have h0 : ∃ lo hi, IsV (.agg #[.bool lf, .slice ka kl kc, .slice va vl vc]) (v 0) lo hi u := dep hd 0 (by kernel_rfl)
      have e0 : v 0 = .agg #[.bool lf, .slice ka kl kc, .slice va vl vc] := depV h0
      have h1 : ∃ lo hi, IsV (.int .i64 (a : Int)) (v 1) lo hi u := dep hd 1 (by kernel_rfl)
      have e1 : v 1 = .int .i64 (a : Int) := depV h1
      clear hd
      simp only [List.toList_toArray, List.take_succ_cons, List.take_zero, List.drop_succ_cons, List.drop_zero, putAll, Act.put, List.setIfInBounds_toArray, List.set_cons_zero, List.set_cons_succ, Nat.zero_add, Nat.reduceAdd, e0, e1] at hK ⊢
      go_simp
      refine (CA1.out u ((g0.then gW).then ((Chg.drew [] w2).then hg))).mono ?_
      rintro e u' ⟨⟨qa, qc, qa', qc', rfl, hr⟩, g'⟩
      have hk := hK.out (_) u' g' (isN_out ⟨_, _, _, _, rfl, hr⟩)
      exact hk
    · intro v u hg hd K hK
      have hz := (Chg.drew [] w2).then hg
      have x0 := (hz).cellv c0 (by simp)
      have x1 := (hz).cellv c1 (by simp)
      have x2 := (hz).cellv c2 (by simp)
      clear hd
      have hk := hK.out (.agg #[.bool lf, .slice ka kl kc, .slice va vl vc]) u (Chg.refl _ _) rfl
      clear hK
      simp only [List.toList_toArray, List.take_succ_cons, List.take_zero, List.drop_succ_cons, List.drop_zero, putAll, Act.put, List.setIfInBounds_toArray, List.set_cons_zero, List.set_cons_succ, Nat.zero_add, Nat.reduceAdd] at hk ⊢
      go_simp
      exact hk
    · intro v u hg hd K hK
      clear hd
      have hk := hK.out (.int .i64 (a : Int)) u (Chg.refl _ _) rfl
      clear hK
      simp only [List.toList_toArray, List.take_succ_cons, List.take_zero, List.drop_succ_cons, List.drop_zero, putAll, Act.put, List.setIfInBounds_toArray, List.set_cons_zero, List.set_cons_succ, Nat.zero_add, Nat.reduceAdd] at hk ⊢
      go_simp
      exact hk
    · intro v u hg hd K hK
      have h4 : ∃ lo hi, IsV (.int .i64 (a : Int)) (v 4) lo hi u := dep hd 4 (by kernel_rfl)
      have e4 : v 4 = .int .i64 (a : Int) := depV h4
      have ha2 := HW.out.1
      have ha3 := HW.out.2
      clear hd
      have hk := hK.out (.int .i64 (a1 : Int)) u (Chg.refl _ _) rfl
      clear hK
      simp only [List.toList_toArray, List.take_succ_cons, List.take_zero, List.drop_succ_cons, List.drop_zero, putAll, Act.put, List.setIfInBounds_toArray, List.set_cons_zero, List.set_cons_succ, Nat.zero_add, Nat.reduceAdd, e4] at hk ⊢
      go_simp
      exact hk
    · intro v u hg hd K hK
      have hz := (Chg.drew [] w2).then hg
      have x0 := (hz).cellv c0 (by simp)
      have x1 := (hz).cellv c1 (by simp)
      have x2 := (hz).cellv c2 (by simp)
      clear hd
      have hk := hK.out (.agg #[.bool lf, .slice ka kl kc, .slice va vl vc]) u (Chg.refl _ _) rfl
      clear hK
      simp only [List.toList_toArray, List.take_succ_cons, List.take_zero, List.drop_succ_cons, List.drop_zero, putAll, Act.put, List.setIfInBounds_toArray, List.set_cons_zero, List.set_cons_succ, Nat.zero_add, Nat.reduceAdd] at hk ⊢
      go_simp
      exact hk
    · intro v u hg hd K hK
      have h6 : ∃ lo hi, IsV (.agg #[.bool lf, .slice ka kl kc, .slice va vl vc]) (v 6) lo hi u := dep hd 6 (by kernel_rfl)
      have e6 : v 6 = .agg #[.bool lf, .slice ka kl kc, .slice va vl vc] := depV h6
      clear hd
      simp only [List.toList_toArray, List.take_succ_cons, List.take_zero, List.drop_succ_cons, List.drop_zero, putAll, Act.put, List.setIfInBounds_toArray, List.set_cons_zero, List.set_cons_succ, Nat.zero_add, Nat.reduceAdd, e6] at hK ⊢
      go_simp
      refine (CP.out u).mono ?_
      rintro e u' ⟨rfl, g'⟩
      have hk := hK.out (.int .i64 (P : Int)) u' g' rfl
      exact hk
    · intro v u hg hd K hK
      have h3 : ∃ lo hi, IsV (.agg #[.bool lf, .slice ka kl kc, .slice va vl vc]) (v 3) lo hi u := dep hd 3 (by kernel_rfl)
      have e3 : v 3 = .agg #[.bool lf, .slice ka kl kc, .slice va vl vc] := depV h3
      have h5 : ∃ lo hi, IsV (.int .i64 (a1 : Int)) (v 5) lo hi u := dep hd 5 (by kernel_rfl)
      have e5 : v 5 = .int .i64 (a1 : Int) := depV h5
      have h7 : ∃ lo hi, IsV (.int .i64 (P : Int)) (v 7) lo hi u := dep hd 7 (by kernel_rfl)
      have e7 : v 7 = .int .i64 (P : Int) := depV h7
      clear hd
      simp only [List.toList_toArray, List.take_succ_cons, List.take_zero, List.drop_succ_cons, List.drop_zero, putAll, Act.put, List.setIfInBounds_toArray, List.set_cons_zero, List.set_cons_succ, Nat.zero_add, Nat.reduceAdd, e3, e5, e7] at hK ⊢
      go_simp
      refine (CA2.out u ((g0.then gW).then ((Chg.drew [] w2).then hg))).mono ?_
      rintro e u' ⟨⟨qa, qc, qa', qc', rfl, hr⟩, g'⟩
      have hk := hK.out (_) u' g' (isN_out ⟨_, _, _, _, rfl, hr⟩)
      exact hk
    · intro v u hg hd K hK
      have h2 : ∃ lo hi, IsN lf (A) (C) (v 2) lo hi u := dep hd 2 (by kernel_rfl)
      obtain ⟨_, _, pa2, pc2, qa2, qc2, e2, hr2, -, -⟩ := h2
      have h8 : ∃ lo hi, IsN lf (A2) (C2) (v 8) lo hi u := dep hd 8 (by kernel_rfl)
      obtain ⟨_, _, pa8, pc8, qa8, qc8, e8, hr8, -, -⟩ := h8
      clear hd
      simp only [List.toList_toArray, List.take_succ_cons, List.take_zero, List.drop_succ_cons, List.drop_zero, putAll, Act.put, List.setIfInBounds_toArray, List.set_cons_zero, List.set_cons_succ, Nat.zero_add, Nat.reduceAdd, e2, e8] at hK ⊢
      go_simp
      refine (rjoin_eq lf pa2 A.length pc2 qa2 C.length qc2 A C lf pa8 A2.length pc8 qa8 C2.length qc8 A2 C2 F G u (hr2.rd (by have := HL.out; omega) (by have := HL.out; omega)) rfl rfl (hr8.rd (by have := HL.out; omega) (by have := HL.out; omega)) rfl rfl (by have := HL.out; omega) (by have := HL.out; omega) (by have := HL.out; omega) HQ.out.1 HQ.out.2).mono ?_
      rintro e u' ⟨⟨qa, qc, qa', qc', rfl, hr⟩, g'⟩
      have hk := hK.out (_) u' g' (isN_out ⟨_, _, _, _, rfl, hr⟩)
      exact hk
  · intro v u lo hi hg hall hbd hdj
    have e0 : v 0 = .agg #[.bool lf, .slice ka kl kc, .slice va vl vc] := hall 0 (by decide)
    have e1 : v 1 = .int .i64 (a : Int) := hall 1 (by decide)
    obtain ⟨pz2, pzc2, qz2, qzc2, e2, -, -, -⟩ : IsN lf (A) (C) (v 2) (lo 2) (hi 2) u := hall 2 (by decide)
    have e3 : v 3 = .agg #[.bool lf, .slice ka kl kc, .slice va vl vc] := hall 3 (by decide)
    have e4 : v 4 = .int .i64 (a : Int) := hall 4 (by decide)
    have e5 : v 5 = .int .i64 (a1 : Int) := hall 5 (by decide)
    have e6 : v 6 = .agg #[.bool lf, .slice ka kl kc, .slice va vl vc] := hall 6 (by decide)
    have e7 : v 7 = .int .i64 (P : Int) := hall 7 (by decide)
    obtain ⟨pz8, pzc8, qz8, qzc8, e8, -, -, -⟩ : IsN lf (A2) (C2) (v 8) (lo 8) (hi 8) u := hall 8 (by decide)
    obtain ⟨pa, pc, qa, qc, e9, hr0, m1, m2⟩ : IsN lf (F) (G) (v 9) (lo 9) (hi 9) u := hall 9 (by decide)
    have bb := (hbd 9 (by decide)).1
    have hr := hr0.mono bb
    have gU := (Chg.drew [] w2).then hg
    have tU := there_chg t0 gU (by simp)
    obtain ⟨v0, v1, v2, i0, i1, i2, j0, j1, j2⟩ := there3 tU
    have gZ := three_chg u R (.bool lf) (.slice pa (F).length pc) (.slice qa (G).length qc)
    have hR1 := HR.out
    have hRw : ∀ q, q ∈ [R] → q < w2.heap.size := fun q hq => by simp at hq; have := gW.size; omega
    have hrZ := (hr.chg gZ hRw).mono (show w.heap.size ≤ w2.heap.size from Nat.le_trans g0.size gW.size)
    have gF := ((g0.then gW).then gU).trans gZ (U := []) (by simp) (fun q hq hlt => by simp at hq; omega)
    have HF := mkHid (And.intro hrZ gF)
    clear hr0 hr gU tU gZ hrZ gF hall hbd hdj hg m1 m2 bb hRw
    simp only [List.toList_toArray, List.take_succ_cons, List.take_zero, List.drop_succ_cons, List.drop_zero, putAll, Act.put, List.setIfInBounds_toArray, List.set_cons_zero, List.set_cons_succ, Nat.zero_add, Nat.reduceAdd, e0, e1, e2, e3, e4, e5, e6, e7, e8, e9]
    clear e0 e1 e2 e3 e4 e5 e6 e7 e8 e9 v lo hi
    go_wp2_with fail
    refine bodyPost_ret (v := .agg #[.bool lf, .slice pa (F).length pc, .slice qa (G).length qc]) (by simp [results, Try.results22, go_sem, i0, i1, i2]) rfl ⟨?_, HF.out.2⟩
    exact ⟨pa, pc, qa, qc, rfl, HF.out.1⟩
end Go.Proofs.Ytlaeonemlodhmaa
