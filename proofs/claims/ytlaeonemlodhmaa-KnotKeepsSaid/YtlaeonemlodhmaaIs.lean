/- The package: Split, Even. -/
import Derived.Test.YtlaeonemlodhmaaIp
import Derived.Test.YtlaeonemlodhmaaIl
namespace Go.Proofs.Ytlaeonemlodhmaa
open Go.RowKit
set_option linter.unusedVariables false
set_option linter.unusedSimpArgs false
attribute [local go_sem ↓] Go.wp_at_zero Go.wp_at_succ

/-- Two halves of a node that lies in memory of its own. -/
def SplitOut (B : Nat) (lf : Bool) (A C : List Nat) (e : Ending) (w' : World) : Prop := ∃ pa pc qa qc, e = .returned (.tuple #[.agg #[.bool lf, .slice (cut pa (half A.length) 0) (half A.length) (half A.length), .slice (cut qa (half A.length) 0) (half A.length) (half A.length)], .agg #[.bool lf, .slice (cut pa A.length (half A.length)) (A.length - half A.length) (A.length - half A.length), .slice (cut qa A.length (half A.length)) (A.length - half A.length) (A.length - half A.length)]]) ∧ RmN w' B pa pc qa qc A C
set_option maxRecDepth 20000 in
set_option maxHeartbeats 4000000 in
theorem split_any (lf : Bool) (ka : Option Addr) (kl kc : Nat) (va : Option Addr) (vl vc : Nat) (K V : List Nat) (w : World) (h : RdN w ka kc va vc K V) (hk : K.length = kl) (hv : V.length = vl) (hb : np K V ≤ 1000000000) :
    Calls Try.prog 24 #[.agg #[.bool lf, .slice ka kl kc, .slice va vl vc]] w fun e w' => SplitOut w.heap.size lf (tkK K V) (tkV K V) e w' ∧ Chg [] w w' := by
  have cC := fun (u : World) (g : Chg [] w u) => copied_any lf ka kl kc va vl vc K V u (h.keep g) hk hv hb
  obtain ⟨lX, lY⟩ := tk_lens (K := K) (V := V)
  obtain ⟨P, hP⟩ : ∃ P, np K V = P := ⟨_, rfl⟩
  rw [hP] at lX lY hb
  generalize tkK K V = X at *
  generalize tkV K V = Y at *
  obtain ⟨q, hq⟩ : ∃ q, P / 2 = q := ⟨_, rfl⟩
  obtain ⟨m, hm⟩ : ∃ m, half P = m := ⟨_, rfl⟩
  have hm2 : P - q = m := by rw [← hm, ← hq]; rfl
  obtain ⟨d, hd⟩ : ∃ d, P - m = d := ⟨_, rfl⟩
  have HQ := mkHid (show (P : Int) / 2 = (q : Int) ∧ (P : Int) - (q : Int) = (m : Int) from ⟨by omega, by omega⟩)
  have hmP : m ≤ P := by omega
  have hqb : q ≤ 1000000000 := by omega
  have HL := mkHid (And.intro lX (And.intro lY (And.intro hm hd)))
  have CC := mkHid cC
  clear cC h hk hv lX lY hP hq hm hm2 hd
  obtain ⟨w1, hw1⟩ : ∃ w1, w1 = (((w.alloc (.cells #[.bool lf, .slice ka kl kc, .slice va vl vc] 24)).alloc (.cells #[.bool false, .slice none 0 0, .slice none 0 0] 24)).alloc (.cells #[.bool false, .slice none 0 0, .slice none 0 0] 24)) := ⟨_, rfl⟩
  have a0 : w1.cell? ⟨w.heap.size, 0, none⟩ = some (.bool lf) := by rw [hw1]; simp [go_sem]
  have a1 : w1.cell? ⟨w.heap.size, 1, none⟩ = some (.slice ka kl kc) := by rw [hw1]; simp [go_sem]
  have a2 : w1.cell? ⟨w.heap.size, 2, none⟩ = some (.slice va vl vc) := by rw [hw1]; simp [go_sem]
  have t0 : w1.there (w.heap.size + 1) 0 3 := fun j hj => by
    rw [hw1]
    match j, hj with
    | 0, _ => simp [go_sem]
    | 1, _ => simp [go_sem]
    | 2, _ => simp [go_sem]
  have t1 : w1.there (w.heap.size + 1 + 1) 0 3 := fun j hj => by
    rw [hw1]
    match j, hj with
    | 0, _ => simp [go_sem]
    | 1, _ => simp [go_sem]
    | 2, _ => simp [go_sem]
  have g0 : Chg [] w w1 := by rw [hw1]; exact ((Chg.alloc [] w _).then (Chg.alloc [] _ _)).then (Chg.alloc [] _ _)
  have hz : w1.heap.size = w.heap.size + 3 := by rw [hw1]; simp
  have HE := mkHid (And.intro a0 (And.intro a1 (And.intro a2 (And.intro t0 (And.intro t1 (And.intro g0 (hz)))))))
  clear a0 a1 a2 t0 t1 g0 hz
  go_enter Try.func24, Try.ntmps24
  go_wp2_with fail
  rw [← hw1]
  clear hw1
  obtain ⟨a0, a1, a2, t0, t1, g0, hz⟩ := HE.out
  clear HE
  obtain ⟨R, hR⟩ : ∃ b, w.heap.size + 1 = b := ⟨_, rfl⟩
  rw [hR] at t0 t1 ⊢
  obtain ⟨R', hR'⟩ : ∃ b, R + 1 = b := ⟨_, rfl⟩
  rw [hR'] at t1 ⊢
  have HR := mkHid (show w.heap.size + 1 = R ∧ R + 1 = R' ∧ R' + 1 = w1.heap.size by omega)
  clear hz hR hR'
  go_wp2_with fail
  refine (CC.out w1 g0).mono ?_
  rintro e w2 ⟨⟨pa, pc, qa, qc, rfl, hr⟩, g2⟩
  rw [HL.out.1, HL.out.2.1]
  have n3 := Chg.alloc [] w2 (.cells #[.bool lf, .slice pa P pc, .slice qa P qc] 24)
  obtain ⟨o0, o1, o2⟩ := laid3 w2 (.bool lf) (.slice pa P pc) (.slice qa P qc) 24
  have hR := hr.keep n3
  have hkc : P ≤ pc := by have := hr.rk.le; rw [HL.out.1] at this; exact this
  have hvc : P ≤ qc := by have := hr.rv.le; rw [HL.out.2.1] at this; exact this
  have gA := g2.then n3
  have s0 := there_chg t0 gA (by simp)
  have s1 := there_chg t1 gA (by simp)
  have gW := g0.then gA
  have hs := gA.size
  have hzz : w2.heap.size < (w2.alloc (.cells #[.bool lf, .slice pa P pc, .slice qa P qc] 24)).heap.size := by simp
  have HA := mkHid (And.intro o0 (And.intro o1 (And.intro o2 (And.intro hR (And.intro s0 (And.intro s1 (And.intro gW hs)))))))
  clear n3 o0 o1 o2 hR gA s0 s1 gW hs hr g2 t0 t1 a0 a1 a2
  go_wp2_with fail
  obtain ⟨o0, o1, o2, hR, t0, t1, gW, hs⟩ := HA.out
  clear HA
  generalize w2.alloc (.cells #[.bool lf, .slice pa P pc, .slice qa P qc] 24) = w3 at *
  generalize w2.heap.size = ob at *
  refine (pairs_any lf pa P pc qa P qc P (by omega) w3).mono ?_
  rintro e w4 ⟨rfl, g4⟩
  have x0 := g4.cellv o0 (by simp)
  have x1 := g4.cellv o1 (by simp)
  have x2 := g4.cellv o2 (by simp)
  have s0 := there_chg t0 g4 (by simp)
  have s1 := there_chg t1 g4 (by simp)
  have gX := gW.then g4
  have hR2 := hR.keep g4
  have hs4 := g4.size
  clear o0 o1 o2 t0 t1 gW hR g4
  have q1 := HQ.out.1
  have q2 := HQ.out.2
  go_wp2_with fail
  clear q1 q2
  refine region_made 7 [IsV (.agg #[.bool lf, .slice pa P pc, .slice qa P qc]), IsV (.int .i64 (m : Int)), IsV (.agg #[.bool lf, .slice (cut pa m 0) m m, .slice (cut qa m 0) m m]), IsV (.agg #[.bool lf, .slice pa P pc, .slice qa P qc]), IsV (.int .i64 (m : Int)), IsV (.int .i64 (P : Int)), IsV (.agg #[.bool lf, .slice (cut pa P m) d d, .slice (cut qa P m) d d])] (by kernel_rfl) (by kernel_rfl) (by kernel_rfl) (by decide) (of_decide_eq_true (by kernel_rfl)) ⟨keepV _, keepV _, keepV _, keepV _, keepV _, keepV _, keepV _, trivial⟩ ?_ ?_
  · refine ⟨?_, ?_, ?_, ?_, ?_, ?_, ?_, trivial⟩
    · intro v u hg hd K hK
      have hz := (Chg.drew [] w4).then hg
      have y0 := hz.cellv x0 (by simp)
      have y1 := hz.cellv x1 (by simp)
      have y2 := hz.cellv x2 (by simp)
      clear hd
      have hk := hK.out (.agg #[.bool lf, .slice pa P pc, .slice qa P qc]) u (Chg.refl _ _) rfl
      clear hK
      simp only [List.toList_toArray, List.take_succ_cons, List.take_zero, List.drop_succ_cons, List.drop_zero, putAll, Act.put, List.setIfInBounds_toArray, List.set_cons_zero, List.set_cons_succ, Nat.zero_add, Nat.reduceAdd] at hk ⊢
      go_simp
      exact hk
    · intro v u hg hd K hK
      clear hd
      have hk := hK.out (.int .i64 (m : Int)) u (Chg.refl _ _) rfl
      clear hK
      simp only [List.toList_toArray, List.take_succ_cons, List.take_zero, List.drop_succ_cons, List.drop_zero, putAll, Act.put, List.setIfInBounds_toArray, List.set_cons_zero, List.set_cons_succ, Nat.zero_add, Nat.reduceAdd] at hk ⊢
      go_simp
      exact hk
    · intro v u hg hd K hK
      have h0 : ∃ lo hi, IsV (.agg #[.bool lf, .slice pa P pc, .slice qa P qc]) (v 0) lo hi u := dep hd 0 (by kernel_rfl)
      have e0 : v 0 = .agg #[.bool lf, .slice pa P pc, .slice qa P qc] := depV h0
      have h1 : ∃ lo hi, IsV (.int .i64 (m : Int)) (v 1) lo hi u := dep hd 1 (by kernel_rfl)
      have e1 : v 1 = .int .i64 (m : Int) := depV h1
      clear hd
      simp only [List.toList_toArray, List.take_succ_cons, List.take_zero, List.drop_succ_cons, List.drop_zero, putAll, Act.put, List.setIfInBounds_toArray, List.set_cons_zero, List.set_cons_succ, Nat.zero_add, Nat.reduceAdd, e0, e1] at hK ⊢
      go_simp
      refine (part_any lf pa P pc qa P qc 0 m m u (Nat.zero_le _) hmP hmP hkc hvc rfl).mono ?_
      rintro e u' ⟨rfl, g'⟩
      have hk := hK.out (.agg #[.bool lf, .slice (cut pa m 0) m m, .slice (cut qa m 0) m m]) u' g' rfl
      exact hk
    · intro v u hg hd K hK
      have hz := (Chg.drew [] w4).then hg
      have y0 := hz.cellv x0 (by simp)
      have y1 := hz.cellv x1 (by simp)
      have y2 := hz.cellv x2 (by simp)
      clear hd
      have hk := hK.out (.agg #[.bool lf, .slice pa P pc, .slice qa P qc]) u (Chg.refl _ _) rfl
      clear hK
      simp only [List.toList_toArray, List.take_succ_cons, List.take_zero, List.drop_succ_cons, List.drop_zero, putAll, Act.put, List.setIfInBounds_toArray, List.set_cons_zero, List.set_cons_succ, Nat.zero_add, Nat.reduceAdd] at hk ⊢
      go_simp
      exact hk
    · intro v u hg hd K hK
      clear hd
      have hk := hK.out (.int .i64 (m : Int)) u (Chg.refl _ _) rfl
      clear hK
      simp only [List.toList_toArray, List.take_succ_cons, List.take_zero, List.drop_succ_cons, List.drop_zero, putAll, Act.put, List.setIfInBounds_toArray, List.set_cons_zero, List.set_cons_succ, Nat.zero_add, Nat.reduceAdd] at hk ⊢
      go_simp
      exact hk
    · intro v u hg hd K hK
      clear hd
      have hk := hK.out (.int .i64 (P : Int)) u (Chg.refl _ _) rfl
      clear hK
      simp only [List.toList_toArray, List.take_succ_cons, List.take_zero, List.drop_succ_cons, List.drop_zero, putAll, Act.put, List.setIfInBounds_toArray, List.set_cons_zero, List.set_cons_succ, Nat.zero_add, Nat.reduceAdd] at hk ⊢
      go_simp
      exact hk
    · intro v u hg hd K hK
      have h3 : ∃ lo hi, IsV (.agg #[.bool lf, .slice pa P pc, .slice qa P qc]) (v 3) lo hi u := dep hd 3 (by kernel_rfl)
      have e3 : v 3 = .agg #[.bool lf, .slice pa P pc, .slice qa P qc] := depV h3
      have h4 : ∃ lo hi, IsV (.int .i64 (m : Int)) (v 4) lo hi u := dep hd 4 (by kernel_rfl)
      have e4 : v 4 = .int .i64 (m : Int) := depV h4
      have h5 : ∃ lo hi, IsV (.int .i64 (P : Int)) (v 5) lo hi u := dep hd 5 (by kernel_rfl)
      have e5 : v 5 = .int .i64 (P : Int) := depV h5
      clear hd
      simp only [List.toList_toArray, List.take_succ_cons, List.take_zero, List.drop_succ_cons, List.drop_zero, putAll, Act.put, List.setIfInBounds_toArray, List.set_cons_zero, List.set_cons_succ, Nat.zero_add, Nat.reduceAdd, e3, e4, e5] at hK ⊢
      go_simp
      refine (part_any lf pa P pc qa P qc m P d u hmP (Nat.le_refl _) (Nat.le_refl _) hkc hvc HL.out.2.2.2).mono ?_
      rintro e u' ⟨rfl, g'⟩
      have hk := hK.out (.agg #[.bool lf, .slice (cut pa P m) d d, .slice (cut qa P m) d d]) u' g' rfl
      exact hk
  · intro v u lo hi hg hall hbd hdj
    have e0 : v 0 = .agg #[.bool lf, .slice pa P pc, .slice qa P qc] := hall 0 (by decide)
    have e1 : v 1 = .int .i64 (m : Int) := hall 1 (by decide)
    have e2 : v 2 = .agg #[.bool lf, .slice (cut pa m 0) m m, .slice (cut qa m 0) m m] := hall 2 (by decide)
    have e3 : v 3 = .agg #[.bool lf, .slice pa P pc, .slice qa P qc] := hall 3 (by decide)
    have e4 : v 4 = .int .i64 (m : Int) := hall 4 (by decide)
    have e5 : v 5 = .int .i64 (P : Int) := hall 5 (by decide)
    have e6 : v 6 = .agg #[.bool lf, .slice (cut pa P m) d d, .slice (cut qa P m) d d] := hall 6 (by decide)
    have gU := (Chg.drew [] w4).then hg
    obtain ⟨a0', a1', a2', i0, i1, i2, j0, j1, j2⟩ := there3 (there_chg s0 gU (by simp))
    obtain ⟨b0', b1', b2', k0, k1, k2, l0, l1, l2⟩ := there3 (there_chg s1 gU (by simp))
    have gZ := three_chg u R (.bool lf) (.slice (cut pa m 0) m m) (.slice (cut qa m 0) m m)
    have gY := three_chg (((u.setCell ⟨R, 0, none⟩ (.bool lf)).setCell ⟨R, 1, none⟩ (.slice (cut pa m 0) m m)).setCell ⟨R, 2, none⟩ (.slice (cut qa m 0) m m)) R' (.bool lf) (.slice (cut pa P m) d d) (.slice (cut qa P m) d d)
    have hR1 := HR.out
    have hne : R' ≠ R := by omega
    have hne2 : R ≠ R' := by omega
    have gF := ((gX.then gU).trans gZ (U := []) (by simp) (fun q hq hlt => by simp at hq; omega)).trans gY (U := []) (by simp) (fun q hq hlt => by simp at hq; omega)
    have hN := (((hR2.keep gU).chg gZ (fun q hq => by simp at hq; omega)).chg gY (fun q hq => by simp at hq; omega)).mono g0.size
    have HF := mkHid (And.intro hN gF)
    clear hall hbd hdj hg hN gF gZ gY gU hR2 gX s0 s1 x0 x1 x2
    simp only [List.toList_toArray, List.take_succ_cons, List.take_zero, List.drop_succ_cons, List.drop_zero, putAll, Act.put, List.setIfInBounds_toArray, List.set_cons_zero, List.set_cons_succ, Nat.zero_add, Nat.reduceAdd, e0, e1, e2, e3, e4, e5, e6]
    go_wp2_with fail
    refine bodyPost_ret (v := .tuple #[.agg #[.bool lf, .slice (cut pa m 0) m m, .slice (cut qa m 0) m m], .agg #[.bool lf, .slice (cut pa P m) d d, .slice (cut qa P m) d d]]) (by simp [results, Try.results24, go_sem, i0, i1, i2, k0, k1, k2, hne, hne2]) rfl ⟨⟨pa, pc, qa, qc, ?_, HF.out.1⟩, HF.out.2⟩
    rw [HL.out.1, HL.out.2.2.1, HL.out.2.2.2]
set_option maxRecDepth 20000 in
set_option maxHeartbeats 4000000 in
theorem even_any (lf : Bool) (ka : Option Addr) (kl kc : Nat) (va : Option Addr) (vl vc : Nat) (K V : List Nat) (lf' : Bool) (ka' : Option Addr) (kl' kc' : Nat) (va' : Option Addr) (vl' vc' : Nat) (K' V' : List Nat) (w : World) (h : RdN w ka kc va vc K V) (hk : K.length = kl) (hv : V.length = vl) (h' : RdN w ka' kc' va' vc' K' V') (hk' : K'.length = kl') (hv' : V'.length = vl') (hb : np K V + np K' V' ≤ 1000000000) :
    Calls Try.prog 26 #[.agg #[.bool lf, .slice ka kl kc, .slice va vl vc], .agg #[.bool lf', .slice ka' kl' kc', .slice va' vl' vc']] w fun e w' => SplitOut w.heap.size lf (tkK K V ++ tkK K' V') (tkV K V ++ tkV K' V') e w' ∧ Chg [] w w' := by
  have cC := fun (u : World) (g : Chg [] w u) => join_any lf ka kl kc va vl vc K V lf' ka' kl' kc' va' vl' vc' K' V' u (h.keep g) hk hv (h'.keep g) hk' hv' hb
  obtain ⟨l1, l2⟩ := tk_lens (K := K) (V := V)
  obtain ⟨l3, l4⟩ := tk_lens (K := K') (V := V')
  have lX : (tkK K V ++ tkK K' V').length = np K V + np K' V' := by rw [List.length_append]; omega
  have lY : (tkV K V ++ tkV K' V').length = np K V + np K' V' := by rw [List.length_append]; omega
  generalize tkK K V ++ tkK K' V' = X at *
  generalize tkV K V ++ tkV K' V' = Y at *
  obtain ⟨P, hP⟩ : ∃ P, np K V + np K' V' = P := ⟨_, rfl⟩
  rw [hP] at lX lY hb
  have hnp : np X Y = P := by unfold np; omega
  have htk := tk_eq (K := X) (V := Y) (by omega)
  obtain ⟨m, hm⟩ : ∃ m, half P = m := ⟨_, rfl⟩
  obtain ⟨d, hd⟩ : ∃ d, P - m = d := ⟨_, rfl⟩
  have HL := mkHid (And.intro lX (And.intro lY (And.intro hm (And.intro hd (And.intro hnp htk)))))
  have HBD := mkHid hb
  have CC := mkHid cC
  clear cC h hk hv h' hk' hv' hb l1 l2 l3 l4 lX lY hP hm hd hnp htk
  obtain ⟨w1, hw1⟩ : ∃ w1, w1 = ((((w.alloc (.cells #[.bool lf, .slice ka kl kc, .slice va vl vc] 24)).alloc (.cells #[.bool lf', .slice ka' kl' kc', .slice va' vl' vc'] 24)).alloc (.cells #[.bool false, .slice none 0 0, .slice none 0 0] 24)).alloc (.cells #[.bool false, .slice none 0 0, .slice none 0 0] 24)) := ⟨_, rfl⟩
  have a0 : w1.cell? ⟨w.heap.size, 0, none⟩ = some (.bool lf) := by rw [hw1]; simp [go_sem]
  have a1 : w1.cell? ⟨w.heap.size, 1, none⟩ = some (.slice ka kl kc) := by rw [hw1]; simp [go_sem]
  have a2 : w1.cell? ⟨w.heap.size, 2, none⟩ = some (.slice va vl vc) := by rw [hw1]; simp [go_sem]
  have b0 : w1.cell? ⟨w.heap.size + 1, 0, none⟩ = some (.bool lf') := by rw [hw1]; simp [go_sem]
  have b1 : w1.cell? ⟨w.heap.size + 1, 1, none⟩ = some (.slice ka' kl' kc') := by rw [hw1]; simp [go_sem]
  have b2 : w1.cell? ⟨w.heap.size + 1, 2, none⟩ = some (.slice va' vl' vc') := by rw [hw1]; simp [go_sem]
  have t0 : w1.there (w.heap.size + 1 + 1) 0 3 := fun j hj => by
    rw [hw1]
    match j, hj with
    | 0, _ => simp [go_sem]
    | 1, _ => simp [go_sem]
    | 2, _ => simp [go_sem]
  have t1 : w1.there (w.heap.size + 1 + 1 + 1) 0 3 := fun j hj => by
    rw [hw1]
    match j, hj with
    | 0, _ => simp [go_sem]
    | 1, _ => simp [go_sem]
    | 2, _ => simp [go_sem]
  have g0 : Chg [] w w1 := by rw [hw1]; exact (((Chg.alloc [] w _).then (Chg.alloc [] _ _)).then (Chg.alloc [] _ _)).then (Chg.alloc [] _ _)
  have hz : w1.heap.size = w.heap.size + 4 := by rw [hw1]; simp
  have HE := mkHid (And.intro a0 (And.intro a1 (And.intro a2 (And.intro b0 (And.intro b1 (And.intro b2 (And.intro t0 (And.intro t1 (And.intro g0 (hz))))))))))
  clear a0 a1 a2 b0 b1 b2 t0 t1 g0 hz
  go_enter Try.func26, Try.ntmps26
  go_wp2_with fail
  rw [← hw1]
  clear hw1
  obtain ⟨a0, a1, a2, b0, b1, b2, t0, t1, g0, hz⟩ := HE.out
  clear HE
  obtain ⟨B1, hB1⟩ : ∃ b, w.heap.size + 1 = b := ⟨_, rfl⟩
  rw [hB1] at b0 b1 b2 t0 t1 ⊢
  obtain ⟨R, hR⟩ : ∃ b, B1 + 1 = b := ⟨_, rfl⟩
  rw [hR] at t0 t1 ⊢
  obtain ⟨R', hR'⟩ : ∃ b, R + 1 = b := ⟨_, rfl⟩
  rw [hR'] at t1 ⊢
  have HR := mkHid (show w.heap.size + 1 = B1 ∧ B1 + 1 = R ∧ R + 1 = R' ∧ R' + 1 = w1.heap.size by omega)
  clear hz hB1 hR hR'
  go_wp2_with fail
  refine (CC.out w1 g0).mono ?_
  rintro e w2 ⟨⟨pa, pc, qa, qc, rfl, hr⟩, g2⟩
  have rd := hr.rd (by have := HL.out.1; have := HBD.out; omega) (by have := HL.out.2.1; have := HBD.out; omega)
  rw [HL.out.1, HL.out.2.1]
  have cS := split_any lf pa P pc qa P qc X Y w2 rd HL.out.1 HL.out.2.1 (by rw [HL.out.2.2.2.2.1]; exact HBD.out)
  rw [HL.out.2.2.2.2.2.1, HL.out.2.2.2.2.2.2] at cS
  have CS := mkHid cS
  clear cS rd hr
  go_wp2_with fail
  refine CS.out.mono ?_
  rintro e w4 ⟨⟨ja, jc, jb, jd, rfl, hN⟩, g4⟩
  rw [HL.out.1, HL.out.2.2.1, HL.out.2.2.2.1]
  have gA := g2.then g4
  have s0 := there_chg t0 gA (by simp)
  have s1 := there_chg t1 gA (by simp)
  have gX := g0.then gA
  have hs := gA.size
  have hs2 := g2.size
  clear gA t0 t1 a0 a1 a2 b0 b1 b2
  have gU := Chg.refl [] w4
  obtain ⟨a0', a1', a2', i0, i1, i2, j0, j1, j2⟩ := there3 (there_chg s0 gU (by simp))
  obtain ⟨b0', b1', b2', k0, k1, k2, l0, l1, l2⟩ := there3 (there_chg s1 gU (by simp))
  have gZ := three_chg w4 R (.bool lf) (.slice (cut ja m 0) m m) (.slice (cut jb m 0) m m)
  have gY := three_chg (((w4.setCell ⟨R, 0, none⟩ (.bool lf)).setCell ⟨R, 1, none⟩ (.slice (cut ja m 0) m m)).setCell ⟨R, 2, none⟩ (.slice (cut jb m 0) m m)) R' (.bool lf) (.slice (cut ja P m) d d) (.slice (cut jb P m) d d)
  have hR1 := HR.out
  have hne : R' ≠ R := by omega
  have hne2 : R ≠ R' := by omega
  have gF := ((gX.then gU).trans gZ (U := []) (by simp) (fun q hq hlt => by simp at hq; omega)).trans gY (U := []) (by simp) (fun q hq hlt => by simp at hq; omega)
  have hM := ((hN.chg gZ (fun q hq => by simp at hq; omega)).chg gY (fun q hq => by simp at hq; omega)).mono (show w.heap.size ≤ w2.heap.size from Nat.le_trans g0.size g2.size)
  have HF := mkHid (And.intro hM gF)
  clear hM gF gZ gY gU hN gX s0 s1 g2 g4
  go_wp2_with fail
  refine bodyPost_ret (v := .tuple #[.agg #[.bool lf, .slice (cut ja m 0) m m, .slice (cut jb m 0) m m], .agg #[.bool lf, .slice (cut ja P m) d d, .slice (cut jb P m) d d]]) (by simp [results, Try.results26, go_sem, i0, i1, i2, k0, k1, k2, hne, hne2]) rfl ⟨⟨ja, jc, jb, jd, ?_, HF.out.1⟩, HF.out.2⟩
  rw [HL.out.1, HL.out.2.2.1, HL.out.2.2.2.1]
end Go.Proofs.Ytlaeonemlodhmaa
