/- KnotParts: the walk. -/
import Derived.Test.YtlaeonemlodhmaaIza
namespace Go.Proofs.Ytlaeonemlodhmaa
open Go.RowKit
set_option linter.unusedVariables false
set_option linter.unusedSimpArgs false
attribute [local go_sem ↓] Go.wp_at_zero Go.wp_at_succ

/-- A node of the caller's own, in its slot. -/
def IsO (lf : Bool) (K V : List Nat) : Pr := fun x lo hi u => ∃ ka kc va vc, x = .agg #[.bool lf, .slice ka K.length kc, .slice va V.length vc] ∧ RdN u ka kc va vc K V
theorem keepO (lf : Bool) (K V : List Nat) : Keeps (IsO lf K V) := fun _ _ _ _ _ g h => by
  obtain ⟨ka, kc, va, vc, e, r⟩ := h
  exact ⟨ka, kc, va, vc, e, r.keep g⟩
/-- Three cells of a place written: no number is. -/
theorem three_ints {w : World} {R : Nat} {k : Bool} {a : Option Addr} {n c : Nat} {a' : Option Addr} {n' c' : Nat} (t : w.cell? ⟨R, 0, none⟩ = some (.bool k)) (t1 : w.cell? ⟨R, 1, none⟩ = some (.slice a n c)) (t2 : w.cell? ⟨R, 2, none⟩ = some (.slice a' n' c')) (x y z : Value) {ka : Option Addr} {kc : Nat} {va : Option Addr} {vc : Nat} {K V : List Nat} (r : RdN w ka kc va vc K V) : RdN (((w.setCell ⟨R, 0, none⟩ x).setCell ⟨R, 1, none⟩ y).setCell ⟨R, 2, none⟩ z) ka kc va vc K V := by
  have h0 : RdN (w.setCell ⟨R, 0, none⟩ x) ka kc va vc K V := by
    have st : ∀ {ao : Option Addr} {L : List Nat}, Reads w ao (uvs L) → Reads (w.setCell ⟨R, 0, none⟩ x) ao (uvs L) := fun {ao L} hr hx => by
      obtain ⟨b', o, e, hc⟩ := hr hx
      refine ⟨b', o, e, fun j u hu => ?_⟩
      have hcj := hc j u hu
      obtain ⟨y', _, rfl⟩ := List.mem_map.1 (List.mem_of_getElem? hu)
      rw [World.cell?_setCell_other _ _ _ _ (fun e9 => by rw [← e9, t] at hcj; cases hcj)]
      exact hcj
    exact ⟨st r.rk, st r.rv, r.ck, r.cv, r.bk, r.bv, r.xk, r.xv⟩
  exact (h0.set (setN_other t1 (by decide)) y).set (setN_other (setN_other t2 (by decide)) (by decide)) z
/-- A place just laid, in its slot: nothing stands in it. -/
def IsZ : Pr := fun x lo hi u => x = .pointer (some ⟨lo, 0, none⟩) ∧ hi = lo + 1 ∧ u.cell? ⟨lo, 0, none⟩ = some (.bool false) ∧ u.cell? ⟨lo, 1, none⟩ = some (.slice none 0 0) ∧ u.cell? ⟨lo, 2, none⟩ = some (.slice none 0 0) ∧ u.there lo 0 3
theorem keepZ : Keeps IsZ := fun _ _ _ _ _ g h => ⟨h.1, h.2.1, g.cellv h.2.2.1 (by simp), g.cellv h.2.2.2.1 (by simp), g.cellv h.2.2.2.2.1 (by simp), there_chg h.2.2.2.2.2 g (by simp)⟩
theorem laidZ (u : World) : IsZ (.pointer (some ⟨u.heap.size, 0, none⟩)) u.heap.size (u.alloc (.cells #[.bool false, .slice none 0 0, .slice none 0 0] 24)).heap.size (u.alloc (.cells #[.bool false, .slice none 0 0, .slice none 0 0] 24)) := by
  obtain ⟨h0, h1, h2⟩ := laid3 u (.bool false) (.slice none 0 0) (.slice none 0 0) 24
  exact ⟨rfl, by simp, h0, h1, h2, start_there u⟩
theorem Ints.trans {a b c : World} (h : Ints a b) (g : Ints b c) : Ints a c := fun p z hp => by
  obtain ⟨⟨z', h1⟩, h2⟩ := h p z hp
  obtain ⟨h3, h4⟩ := g p z' h1
  exact ⟨h3, h4.trans h2⟩
theorem far_then {M0 w w' : World} (g : Chg [] M0 w) (h : ∃ S, Chg S w w' ∧ ∀ q ∈ S, M0.heap.size ≤ q) : Chg [] M0 w' := by
  obtain ⟨S, h1, h2⟩ := h
  exact g.trans h1 (by simp) (fun q hq hlt => absurd (h2 q hq) (Nat.not_le_of_lt hlt))
/-- A variable's second cell is written. -/
theorem Bx.mid {u : World} {b : Nat} {x y z : Value} (h : Bx u b x y z) (v : Value) : Bx (u.setCell ⟨b, 1, none⟩ v) b x v z := ⟨setN_other h.c0 (by decide), World.cell?_setCell_same _ _ _ h.c1, setN_other h.c2 (by decide)⟩
/-- What a grown row says of its being spoilt. -/
theorem grown_sp {u u' : World} {M B n n' : Nat} {a : Option Addr} {c : Nat} {L : List Nat} {a' : Option Addr} (r : Room u B a L.length c (uvs L)) (hL : L.length = n) (hB : M ≤ B) (t : Ints u u') (h : Wr u a' n') (hlo : ∀ q ∈ wb a' n', M ≤ q) : Sp u' M a n a' n' := by
  subst hL
  refine ⟨(wr_of r).ints t, h.ints t, fun q hq => ?_⟩
  rcases List.mem_append.1 hq with hq | hq
  · exact Nat.le_trans hB (r.lt q (wb_fp r.le hq)).1
  · exact hlo q hq
set_option maxRecDepth 100000 in
set_option maxHeartbeats 16000000 in
theorem parts_core (lf : Bool) (ka : Option Addr) (kl kc : Nat) (va : Option Addr) (vl vc : Nat) (K V : List Nat) (lf' : Bool) (ka' : Option Addr) (kl' kc' : Nat) (va' : Option Addr) (vl' vc' : Nat) (K' V' : List Nat) (w : World) (h : RdN w ka kc va vc K V) (hk : K.length = kl) (hv : V.length = vl) (h' : RdN w ka' kc' va' vc' K' V') (hk' : K'.length = kl') (hv' : V'.length = vl') :
    Calls Try.prog 5 #[.agg #[.bool lf, .slice ka kl kc, .slice va vl vc], .agg #[.bool lf', .slice ka' kl' kc', .slice va' vl' vc']] w fun e w' => e = .returned (.bool true) ∧ Chg [] w w' := by
  obtain ⟨w1, hw1⟩ : ∃ w1, w1 = ((w.alloc (.cells #[.bool lf, .slice ka kl kc, .slice va vl vc] 24)).alloc (.cells #[.bool lf', .slice ka' kl' kc', .slice va' vl' vc'] 24)) := ⟨_, rfl⟩
  have a0 : w1.cell? ⟨w.heap.size, 0, none⟩ = some (.bool lf) := by rw [hw1]; simp [go_sem]
  have a1 : w1.cell? ⟨w.heap.size, 1, none⟩ = some (.slice ka kl kc) := by rw [hw1]; simp [go_sem]
  have a2 : w1.cell? ⟨w.heap.size, 2, none⟩ = some (.slice va vl vc) := by rw [hw1]; simp [go_sem]
  have b0 : w1.cell? ⟨w.heap.size + 1, 0, none⟩ = some (.bool lf') := by rw [hw1]; simp [go_sem]
  have b1 : w1.cell? ⟨w.heap.size + 1, 1, none⟩ = some (.slice ka' kl' kc') := by rw [hw1]; simp [go_sem]
  have b2 : w1.cell? ⟨w.heap.size + 1, 2, none⟩ = some (.slice va' vl' vc') := by rw [hw1]; simp [go_sem]
  have g0 : Chg [] w w1 := by rw [hw1]; exact (Chg.alloc [] w _).then (Chg.alloc [] _ _)
  have hz : w1.heap.size = w.heap.size + 2 := by rw [hw1]; simp
  have HE := mkHid (And.intro a0 (And.intro a1 (And.intro a2 (And.intro b0 (And.intro b1 (And.intro b2 (And.intro g0 (hz))))))))
  clear a0 a1 a2 b0 b1 b2 g0 hz
  have HH := mkHid (And.intro h h')
  have HKV := mkHid (And.intro hk (And.intro hv (And.intro hk' hv')))
  clear h hk hv h' hk' hv'
  go_enter Try.func5, Try.ntmps5
  go_wp2_with fail
  rw [← hw1]
  clear hw1
  obtain ⟨a0, a1, a2, b0, b1, b2, g0, hz⟩ := HE.out
  clear HE
  obtain ⟨mb, hmb⟩ : ∃ b, w.heap.size + 1 = b := ⟨_, rfl⟩
  rw [hmb] at b0 b1 b2 ⊢
  have HR := mkHid (show w.heap.size + 1 = mb ∧ mb + 1 = w1.heap.size by omega)
  clear hz hmb
  have BN : Bx w1 w.heap.size (.bool lf) (.slice ka kl kc) (.slice va vl vc) := ⟨a0, a1, a2⟩
  have BM : Bx w1 mb (.bool lf') (.slice ka' kl' kc') (.slice va' vl' vc') := ⟨b0, b1, b2⟩
  clear a0 a1 a2 b0 b1 b2
  go_wp2_with fail
  refine (awake_any w1).mono ?_
  rintro e w2 ⟨rfl, g2⟩
  have G := g0.then g2
  clear g0
  replace BN := BN.keep g2
  replace BM := BM.keep g2
  have a0 := BN.c0
  have a1 := BN.c1
  have a2 := BN.c2
  go_wp2_with fail
  clear a0 a1 a2
  refine (long_any lf ka kl kc va vl vc w2).mono ?_
  rintro e w3 ⟨rfl, g3⟩
  replace G := G.then g3
  replace BN := BN.keep g3
  replace BM := BM.keep g3
  clear g2 g3
  cases hl1 : (decide (3000 < kl) || decide (3000 < vl)) with
  | true =>
    clear hl1
    go_wp2_with fail
    go_ret
    exact ⟨rfl, G⟩
  | false =>
    have b0 := BM.c0
    have b1 := BM.c1
    have b2 := BM.c2
    have HL1 := mkHid hl1
    clear hl1
    go_wp2_with fail
    clear b0 b1 b2
    refine (long_any lf' ka' kl' kc' va' vl' vc' w3).mono ?_
    rintro e w4 ⟨rfl, g4⟩
    replace G := G.then g4
    replace BN := BN.keep g4
    replace BM := BM.keep g4
    clear g4
    cases hl2 : (decide (3000 < kl') || decide (3000 < vl')) with
    | true =>
      clear hl2
      go_wp2_with fail
      go_ret
      exact ⟨rfl, G⟩
    | false =>
      have hb : (kl ≤ 3000 ∧ vl ≤ 3000) ∧ kl' ≤ 3000 ∧ vl' ≤ 3000 := by
        have hl1 := HL1.out
        simp only [Bool.or_eq_false_iff, decide_eq_false_iff_not] at hl1 hl2
        omega
      clear hl2 HL1
      obtain ⟨P, hP⟩ : ∃ P, np K V = P := ⟨_, rfl⟩
      obtain ⟨P', hP'⟩ : ∃ P, np K' V' = P := ⟨_, rfl⟩
      have hPb : P ≤ 3000 ∧ P' ≤ 3000 := by
        have := np_le (K := K) (V := V); have := np_le (K := K') (V := V'); have := HKV.out; omega
      obtain ⟨Q, hQ⟩ : ∃ Q, np K V + np K' V' = Q := ⟨_, rfl⟩
      have hQb : Q ≤ 6000 := by omega
      obtain ⟨m, hm⟩ : ∃ m, half P = m := ⟨_, rfl⟩
      obtain ⟨d, hd⟩ : ∃ d, P - m = d := ⟨_, rfl⟩
      obtain ⟨f, hf⟩ : ∃ f, half Q = f := ⟨_, rfl⟩
      obtain ⟨g, hg⟩ : ∃ g, Q - f = g := ⟨_, rfl⟩
      have hmP : m ≤ P := by rw [← hm]; unfold half; omega
      have hfQ : f ≤ Q := by rw [← hf]; unfold half; omega
      obtain ⟨X, hX⟩ : ∃ X, tkK K V = X := ⟨_, rfl⟩
      obtain ⟨Y, hY⟩ : ∃ X, tkV K V = X := ⟨_, rfl⟩
      obtain ⟨A, hA⟩ : ∃ X, tkK K V ++ tkK K' V' = X := ⟨_, rfl⟩
      obtain ⟨C, hC⟩ : ∃ X, tkV K V ++ tkV K' V' = X := ⟨_, rfl⟩
      have lA : A.length = Q ∧ C.length = Q := by
        have l1 := tk_lens (K := K) (V := V); have l2 := tk_lens (K := K') (V := V')
        rw [← hA, ← hC, List.length_append, List.length_append]; omega
      have hAC : np A C = Q := by unfold np; omega
      have st := sub_tk hP hmP
      rw [hX, hY] at st
      have hlm : m ≤ 3000 ∧ d ≤ 3000 ∧ f ≤ 6000 ∧ g ≤ 6000 := by omega
      have HE := mkHid (show np K V = P ∧ np K V + np K' V' = Q ∧ half P = m ∧ P - m = d ∧ half Q = f ∧ Q - f = g ∧ tkK K V = X ∧ tkV K V = Y ∧ tkK K V ++ tkK K' V' = A ∧ tkV K V ++ tkV K' V' = C ∧ (A.length = Q ∧ C.length = Q) ∧ np A C = Q ∧ (sub X 0 m = sub K 0 m ∧ sub Y 0 m = sub V 0 m ∧ sub X m P = sub K m P ∧ sub Y m P = sub V m P) from ⟨hP, hQ, hm, hd, hf, hg, hX, hY, hA, hC, lA, hAC, st⟩)
      have HLL := mkHid (show ((sub X 0 m).length = m ∧ (sub Y 0 m).length = m) ∧ ((sub X m P).length = d ∧ (sub Y m P).length = d) ∧ ((sub A 0 f).length = f ∧ (sub C 0 f).length = f) ∧ ((sub A f Q).length = g ∧ (sub C f Q).length = g) from by
        have l1 := tk_lens (K := K) (V := V)
        rw [hX, hY, hP] at l1
        refine ⟨⟨?_, ?_⟩, ⟨?_, ?_⟩, ⟨?_, ?_⟩, ?_, ?_⟩ <;> (rw [sub_len (by omega)]; omega))
      clear hP hP' hQ hm hd hf hg hX hY hA hC lA hAC st
      have cO := fun (u : World) (g : Chg [] w u) => own_any lf ka kl kc va vl vc K V u (HH.out.1.keep g) HKV.out.1 HKV.out.2.1
      have cO' := fun (u : World) (g : Chg [] w u) => own_any lf' ka' kl' kc' va' vl' vc' K' V' u (HH.out.2.keep g) HKV.out.2.2.1 HKV.out.2.2.2
      have CO := mkHid cO
      have CO' := mkHid cO'
      clear cO cO'
      have a0 := BN.c0
      have a1 := BN.c1
      have a2 := BN.c2
      have b0 := BM.c0
      have b1 := BM.c1
      have b2 := BM.c2
      go_wp2_with fail
      refine region_made 6 [IsV (.agg #[.bool lf, .slice ka kl kc, .slice va vl vc]), IsO lf K V, IsV (.agg #[.bool lf', .slice ka' kl' kc', .slice va' vl' vc']), IsO lf' K' V', IsZ, IsZ] (by kernel_rfl) (by kernel_rfl) (by kernel_rfl) (by decide) (of_decide_eq_true (by kernel_rfl)) ⟨keepV _, keepO _ _ _, keepV _, keepO _ _ _, keepZ, keepZ, trivial⟩ ?_ ?_
      · refine ⟨?_, ?_, ?_, ?_, ?_, ?_, trivial⟩
        · intro v u hg hd K hK
          have hz := (Chg.drew [] w4).then hg
          have x0 := hz.cellv a0 (by simp)
          have x1 := hz.cellv a1 (by simp)
          have x2 := hz.cellv a2 (by simp)
          clear hd
          have hk := hK.out (.agg #[.bool lf, .slice ka kl kc, .slice va vl vc]) u (Chg.refl _ _) rfl
          clear hK
          simp only [List.toList_toArray, List.take_succ_cons, List.take_zero, List.drop_succ_cons, List.drop_zero, putAll, Act.put, List.setIfInBounds_toArray, List.set_cons_zero, List.set_cons_succ, Nat.zero_add, Nat.reduceAdd] at hk ⊢
          go_simp
          exact hk
        · intro v u hg hd K hK
          have h0 : ∃ lo hi, IsV (.agg #[.bool lf, .slice ka kl kc, .slice va vl vc]) (v 0) lo hi u := dep hd 0 (by kernel_rfl)
          have e0 : v 0 = .agg #[.bool lf, .slice ka kl kc, .slice va vl vc] := depV h0
          clear hd
          simp only [List.toList_toArray, List.take_succ_cons, List.take_zero, List.drop_succ_cons, List.drop_zero, putAll, Act.put, List.setIfInBounds_toArray, List.set_cons_zero, List.set_cons_succ, Nat.zero_add, Nat.reduceAdd, e0] at hK ⊢
          go_simp
          refine (CO.out u (G.then ((Chg.drew [] w4).then hg))).mono ?_
          rintro e u' ⟨⟨qa, qc, qa', qc', rfl, hr, -, -⟩, g'⟩
          have hk := hK.out (_) u' g' ⟨_, _, _, _, rfl, hr⟩
          exact hk
        · intro v u hg hd K hK
          have hz := (Chg.drew [] w4).then hg
          have x0 := hz.cellv b0 (by simp)
          have x1 := hz.cellv b1 (by simp)
          have x2 := hz.cellv b2 (by simp)
          clear hd
          have hk := hK.out (.agg #[.bool lf', .slice ka' kl' kc', .slice va' vl' vc']) u (Chg.refl _ _) rfl
          clear hK
          simp only [List.toList_toArray, List.take_succ_cons, List.take_zero, List.drop_succ_cons, List.drop_zero, putAll, Act.put, List.setIfInBounds_toArray, List.set_cons_zero, List.set_cons_succ, Nat.zero_add, Nat.reduceAdd] at hk ⊢
          go_simp
          exact hk
        · intro v u hg hd K hK
          have h2 : ∃ lo hi, IsV (.agg #[.bool lf', .slice ka' kl' kc', .slice va' vl' vc']) (v 2) lo hi u := dep hd 2 (by kernel_rfl)
          have e2 : v 2 = .agg #[.bool lf', .slice ka' kl' kc', .slice va' vl' vc'] := depV h2
          clear hd
          simp only [List.toList_toArray, List.take_succ_cons, List.take_zero, List.drop_succ_cons, List.drop_zero, putAll, Act.put, List.setIfInBounds_toArray, List.set_cons_zero, List.set_cons_succ, Nat.zero_add, Nat.reduceAdd, e2] at hK ⊢
          go_simp
          refine (CO'.out u (G.then ((Chg.drew [] w4).then hg))).mono ?_
          rintro e u' ⟨⟨qa, qc, qa', qc', rfl, hr, -, -⟩, g'⟩
          have hk := hK.out (_) u' g' ⟨_, _, _, _, rfl, hr⟩
          exact hk
        · intro v u hg hd K hK
          clear hd
          have hk := hK.out (.pointer (some ⟨u.heap.size, 0, none⟩)) _ (Chg.alloc [] u (.cells #[.bool false, .slice none 0 0, .slice none 0 0] 24)) (laidZ u)
          clear hK
          simp only [List.toList_toArray, List.take_succ_cons, List.take_zero, List.drop_succ_cons, List.drop_zero, putAll, Act.put, List.setIfInBounds_toArray, List.set_cons_zero, List.set_cons_succ, Nat.zero_add, Nat.reduceAdd] at hk ⊢
          go_simp
          exact hk
        · intro v u hg hd K hK
          clear hd
          have hk := hK.out (.pointer (some ⟨u.heap.size, 0, none⟩)) _ (Chg.alloc [] u (.cells #[.bool false, .slice none 0 0, .slice none 0 0] 24)) (laidZ u)
          clear hK
          simp only [List.toList_toArray, List.take_succ_cons, List.take_zero, List.drop_succ_cons, List.drop_zero, putAll, Act.put, List.setIfInBounds_toArray, List.set_cons_zero, List.set_cons_succ, Nat.zero_add, Nat.reduceAdd] at hk ⊢
          go_simp
          exact hk
      · intro v u lo hi hg hall hbd hdj
        have e0 : v 0 = .agg #[.bool lf, .slice ka kl kc, .slice va vl vc] := hall 0 (by decide)
        have e2 : v 2 = .agg #[.bool lf', .slice ka' kl' kc', .slice va' vl' vc'] := hall 2 (by decide)
        obtain ⟨oa, oc, ob, od, e1, rA⟩ : IsO lf K V (v 1) (lo 1) (hi 1) u := hall 1 (by decide)
        obtain ⟨qa, qc, qb, qd, e3, rB⟩ : IsO lf' K' V' (v 3) (lo 3) (hi 3) u := hall 3 (by decide)
        rw [HKV.out.1, HKV.out.2.1] at e1
        rw [HKV.out.2.2.1, HKV.out.2.2.2] at e3
        obtain ⟨e4, h4, z0, z1, z2, tz⟩ : IsZ (v 4) (lo 4) (hi 4) u := hall 4 (by decide)
        obtain ⟨e5, h5, y0, y1, y2, ty⟩ : IsZ (v 5) (lo 5) (hi 5) u := hall 5 (by decide)
        have b4 := (hbd 4 (by decide)).1
        have b5 := (hbd 5 (by decide)).1
        have dd := hdj 4 5 (by decide) (by decide) (by decide)
        rw [h4, h5] at dd
        generalize lo 4 = ra at *
        generalize lo 5 = rb at *
        have hne := box_ne dd
        have zA := three_chg u ra (.bool lf) (.slice oa kl oc) (.slice ob vl od)
        have sA := stored3 tz (.bool lf) (.slice oa kl oc) (.slice ob vl od)
        have rA1 := three_ints z0 z1 z2 (.bool lf) (.slice oa kl oc) (.slice ob vl od) rA
        have rB1 := three_ints z0 z1 z2 (.bool lf) (.slice oa kl oc) (.slice ob vl od) rB
        obtain ⟨ua, hua⟩ : ∃ u9, u9 = ((u.setCell ⟨ra, 0, none⟩ (.bool lf)).setCell ⟨ra, 1, none⟩ (.slice oa kl oc)).setCell ⟨ra, 2, none⟩ (.slice ob vl od) := ⟨_, rfl⟩
        rw [← hua] at zA sA rA1 rB1
        have y0' := zA.cellv y0 (fun hm => hne (List.mem_singleton.1 hm).symm)
        have y1' := zA.cellv y1 (fun hm => hne (List.mem_singleton.1 hm).symm)
        have y2' := zA.cellv y2 (fun hm => hne (List.mem_singleton.1 hm).symm)
        have ty' := there_chg ty zA (fun hm => hne (List.mem_singleton.1 hm).symm)
        have zB := three_chg ua rb (.bool lf') (.slice qa kl' qc) (.slice qb vl' qd)
        have sB := stored3 ty' (.bool lf') (.slice qa kl' qc) (.slice qb vl' qd)
        have RA := three_ints y0' y1' y2' (.bool lf') (.slice qa kl' qc) (.slice qb vl' qd) rA1
        have RB := three_ints y0' y1' y2' (.bool lf') (.slice qa kl' qc) (.slice qb vl' qd) rB1
        obtain ⟨w5, hw5⟩ : ∃ u9, u9 = ((ua.setCell ⟨rb, 0, none⟩ (.bool lf')).setCell ⟨rb, 1, none⟩ (.slice qa kl' qc)).setCell ⟨rb, 2, none⟩ (.slice qb vl' qd) := ⟨_, rfl⟩
        rw [← hw5] at zB sB RA RB
        have BB : Bx w5 rb (.bool lf') (.slice qa kl' qc) (.slice qb vl' qd) := ⟨sB.1, sB.2.1, sB.2.2.1⟩
        have BA : Bx w5 ra (.bool lf) (.slice oa kl oc) (.slice ob vl od) := ⟨zB.cellv sA.1 (fun hm => hne (List.mem_singleton.1 hm)), zB.cellv sA.2.1 (fun hm => hne (List.mem_singleton.1 hm)), zB.cellv sA.2.2.1 (fun hm => hne (List.mem_singleton.1 hm))⟩
        have g5 := (((Chg.drew [] w4).then hg).trans zA (U := []) (by simp) (fun q hq hlt => by rw [List.mem_singleton.1 hq] at hlt; omega)).trans zB (U := []) (by simp) (fun q hq hlt => by rw [List.mem_singleton.1 hq] at hlt; omega)
        replace BN := BN.keep g5
        replace BM := BM.keep g5
        replace G := G.then g5
        obtain ⟨A0, A1, A2, i0, i1, i2, j0, j1, j2⟩ := there3 tz
        obtain ⟨S0, S1, S2, i3, i4, i5, j3, j4, j5⟩ := there3 ty'
        clear zA zB sA sB rA rB rA1 rB1 g5 hg hall hbd hdj z0 z1 z2 y0 y1 y2 y0' y1' y2' tz ty ty' dd h4 h5 b4 b5 a0 a1 a2 b0 b1 b2 hne
        simp only [List.toList_toArray, List.take_succ_cons, List.take_zero, List.drop_succ_cons, List.drop_zero, putAll, Act.put, List.setIfInBounds_toArray, List.set_cons_zero, List.set_cons_succ, Nat.zero_add, Nat.reduceAdd, e0, e1, e2, e3, e4, e5]
        clear e0 e1 e2 e3 e4 e5 v lo hi
        have hua' := hua.symm
        have hw5' := hw5.symm
        clear hua hw5
        have RN := HH.out.1.keep G
        have RM := HH.out.2.keep G
        have HW5 := mkHid (And.intro BN (And.intro BM (And.intro BA (And.intro BB (And.intro RA (And.intro RB (And.intro RN (And.intro RM G))))))))
        have G5 := Chg.refl [] w5
        have a0 := BA.c0
        have a1 := BA.c1
        have a2 := BA.c2
        go_wp2_with fail
        clear hua' hw5' i0 i1 i2 i3 i4 i5 j0 j1 j2
        clear a0 a1 a2
        refine (split_as lf oa kl oc ob vl od K V w5 RA HKV.out.1 HKV.out.2.1 w5.heap.size P m d X Y (Nat.le_refl _) HE.out.1 HE.out.2.2.1 HE.out.2.2.2.1 HE.out.2.2.2.2.2.2.1 HE.out.2.2.2.2.2.2.2.1 (by omega)).mono ?_
        rintro e u6 ⟨⟨pa, pb, rfl, HX⟩, gc⟩
        obtain ⟨w6, hw6⟩ : ∃ x, x = ((u6.alloc (.cells #[.bool lf, .slice (cut pa m 0) m m, .slice (cut pb m 0) m m] 24)).alloc (.cells #[.bool lf, .slice (cut pa P m) d d, .slice (cut pb P m) d d] 24)) := ⟨_, rfl⟩
        have gu : Chg [] u6 w6 := by rw [hw6]; exact (Chg.alloc [] _ _).then (Chg.alloc [] _ _)
        have gn := gc.then gu
        replace BN := BN.keep gn
        replace BM := BM.keep gn
        replace BA := BA.keep gn
        replace BB := BB.keep gn
        replace RA := RA.keep gn
        replace RB := RB.keep gn
        replace RN := RN.keep gn
        replace RM := RM.keep gn
        replace G5 := G5.then gn
        have BX : Bx w6 (u6.heap.size) (.bool lf) (.slice (cut pa m 0) m m) (.slice (cut pb m 0) m m) := by rw [hw6]; exact ⟨by simp [go_sem], by simp [go_sem], by simp [go_sem]⟩
        have TBX : w6.there u6.heap.size 0 3 := fun j hj => by
          rw [hw6]
          match j, hj with
          | 0, _ => simp [go_sem]
          | 1, _ => simp [go_sem]
          | 2, _ => simp [go_sem]
        have BY : Bx w6 (u6.heap.size + 1) (.bool lf) (.slice (cut pa P m) d d) (.slice (cut pb P m) d d) := by rw [hw6]; exact ⟨by simp [go_sem], by simp [go_sem], by simp [go_sem]⟩
        replace HX := HX.keep gu
        have hz6 : w5.heap.size ≤ u6.heap.size ∧ u6.heap.size + 2 = w6.heap.size := ⟨gc.size, by rw [hw6]; simp⟩
        clear gc gu gn
        have hw6' := hw6.symm
        clear hw6
        have HZ6 := mkHid hz6
        clear hz6
        have a0 := BA.c0
        have a1 := BA.c1
        have a2 := BA.c2
        have b0 := BB.c0
        have b1 := BB.c1
        have b2 := BB.c2
        go_wp2_with fail
        clear hw6'
        clear a0 a1 a2 b0 b1 b2
        generalize hby_e : u6.heap.size + 1 = by_ at *
        have Hby_e := mkHid hby_e
        clear hby_e
        generalize hbxe : u6.heap.size = bx at *
        have Hbxe := mkHid hbxe
        clear hbxe
        refine (join_as lf oa kl oc ob vl od K V lf' qa kl' qc qb vl' qd K' V' w6 RA HKV.out.1 HKV.out.2.1 RB HKV.out.2.2.1 HKV.out.2.2.2 w5.heap.size Q A C G5.size HE.out.2.1 HE.out.2.2.2.2.2.2.2.2.1 HE.out.2.2.2.2.2.2.2.2.2.1 (by omega)).mono ?_
        rintro e u7 ⟨⟨ca, cc, cb, cd, rfl, RZ, SZ⟩, gc⟩
        obtain ⟨w7, hw7⟩ : ∃ x, x = (u7.alloc (.cells #[.bool lf, .slice ca Q cc, .slice cb Q cd] 24)) := ⟨_, rfl⟩
        have gu : Chg [] u7 w7 := by rw [hw7]; exact Chg.alloc [] _ _
        have gn := gc.then gu
        replace BN := BN.keep gn
        replace BM := BM.keep gn
        replace BA := BA.keep gn
        replace BB := BB.keep gn
        replace RA := RA.keep gn
        replace RB := RB.keep gn
        replace RN := RN.keep gn
        replace RM := RM.keep gn
        replace BX := BX.keep gn
        replace TBX := there_chg TBX gn (by simp)
        replace BY := BY.keep gn
        replace HX := HX.keep gn
        replace G5 := G5.then gn
        have BZ : Bx w7 (u7.heap.size) (.bool lf) (.slice ca Q cc) (.slice cb Q cd) := by rw [hw7]; exact ⟨by simp [go_sem], by simp [go_sem], by simp [go_sem]⟩
        replace RZ := RZ.keep gu
        replace SZ := SZ.ints (Ints.of_chg gu)
        have hz7 : w6.heap.size ≤ u7.heap.size ∧ u7.heap.size + 1 = w7.heap.size := ⟨gc.size, by rw [hw7]; simp⟩
        clear gc gu gn
        have hw7' := hw7.symm
        clear hw7
        have HZ7 := mkHid hz7
        clear hz7
        have a0 := BA.c0
        have a1 := BA.c1
        have a2 := BA.c2
        have b0 := BB.c0
        have b1 := BB.c1
        have b2 := BB.c2
        go_wp2_with fail
        clear hw7'
        clear a0 a1 a2 b0 b1 b2
        generalize hbze : u7.heap.size = bz at *
        have Hbze := mkHid hbze
        clear hbze
        refine (even_as lf oa kl oc ob vl od K V lf' qa kl' qc qb vl' qd K' V' w7 RA HKV.out.1 HKV.out.2.1 RB HKV.out.2.2.1 HKV.out.2.2.2 w5.heap.size Q f g A C G5.size HE.out.2.1 HE.out.2.2.2.2.1 HE.out.2.2.2.2.2.1 HE.out.2.2.2.2.2.2.2.2.1 HE.out.2.2.2.2.2.2.2.2.2.1 (by omega)).mono ?_
        rintro e u8 ⟨⟨da, db, rfl, HU⟩, gc⟩
        obtain ⟨w8, hw8⟩ : ∃ x, x = ((u8.alloc (.cells #[.bool lf, .slice (cut da f 0) f f, .slice (cut db f 0) f f] 24)).alloc (.cells #[.bool lf, .slice (cut da Q f) g g, .slice (cut db Q f) g g] 24)) := ⟨_, rfl⟩
        have gu : Chg [] u8 w8 := by rw [hw8]; exact (Chg.alloc [] _ _).then (Chg.alloc [] _ _)
        have gn := gc.then gu
        replace BN := BN.keep gn
        replace BM := BM.keep gn
        replace BA := BA.keep gn
        replace BB := BB.keep gn
        replace RA := RA.keep gn
        replace RB := RB.keep gn
        replace RN := RN.keep gn
        replace RM := RM.keep gn
        replace BX := BX.keep gn
        replace TBX := there_chg TBX gn (by simp)
        replace BY := BY.keep gn
        replace HX := HX.keep gn
        replace BZ := BZ.keep gn
        replace RZ := RZ.keep gn
        replace SZ := SZ.ints (Ints.of_chg gn)
        replace G5 := G5.then gn
        have BU : Bx w8 (u8.heap.size) (.bool lf) (.slice (cut da f 0) f f) (.slice (cut db f 0) f f) := by rw [hw8]; exact ⟨by simp [go_sem], by simp [go_sem], by simp [go_sem]⟩
        have TBU : w8.there u8.heap.size 0 3 := fun j hj => by
          rw [hw8]
          match j, hj with
          | 0, _ => simp [go_sem]
          | 1, _ => simp [go_sem]
          | 2, _ => simp [go_sem]
        have BV : Bx w8 (u8.heap.size + 1) (.bool lf) (.slice (cut da Q f) g g) (.slice (cut db Q f) g g) := by rw [hw8]; exact ⟨by simp [go_sem], by simp [go_sem], by simp [go_sem]⟩
        replace HU := HU.keep gu
        have hz8 : w7.heap.size ≤ u8.heap.size ∧ u8.heap.size + 2 = w8.heap.size := ⟨gc.size, by rw [hw8]; simp⟩
        clear gc gu gn
        have hw8' := hw8.symm
        clear hw8
        have HZ8 := mkHid hz8
        clear hz8
        have a0 := BN.c0
        have a1 := BN.c1
        have a2 := BN.c2
        go_wp2_with fail
        clear hw8'
        clear a0 a1 a2
        generalize hbve : u8.heap.size + 1 = bv at *
        have Hbve := mkHid hbve
        clear hbve
        generalize hbue : u8.heap.size = bu at *
        have Hbue := mkHid hbue
        clear hbue
        refine (rsplit_as lf ka kl kc va vl vc K V w8 RN HKV.out.1 HKV.out.2.1 P m d (sub X 0 m) (sub Y 0 m) (sub X m P) (sub Y m P) HE.out.1 HE.out.2.2.1 HE.out.2.2.2.1 (HE.out.2.2.2.2.2.2.2.2.2.2.2.2.1).symm (HE.out.2.2.2.2.2.2.2.2.2.2.2.2.2.1).symm (HE.out.2.2.2.2.2.2.2.2.2.2.2.2.2.2.1).symm (HE.out.2.2.2.2.2.2.2.2.2.2.2.2.2.2.2).symm (by omega)).mono ?_
        rintro e u9 ⟨⟨p1, p2, p3, p4, q1, q2, q3, q4, rfl, RP, RQ⟩, gc⟩
        obtain ⟨w9, hw9⟩ : ∃ x, x = ((u9.alloc (.cells #[.bool lf, .slice p1 m p2, .slice p3 m p4] 24)).alloc (.cells #[.bool lf, .slice q1 d q2, .slice q3 d q4] 24)) := ⟨_, rfl⟩
        have gu : Chg [] u9 w9 := by rw [hw9]; exact (Chg.alloc [] _ _).then (Chg.alloc [] _ _)
        have gn := gc.then gu
        replace BN := BN.keep gn
        replace BM := BM.keep gn
        replace BA := BA.keep gn
        replace BB := BB.keep gn
        replace RA := RA.keep gn
        replace RB := RB.keep gn
        replace RN := RN.keep gn
        replace RM := RM.keep gn
        replace BX := BX.keep gn
        replace TBX := there_chg TBX gn (by simp)
        replace BY := BY.keep gn
        replace HX := HX.keep gn
        replace BZ := BZ.keep gn
        replace RZ := RZ.keep gn
        replace SZ := SZ.ints (Ints.of_chg gn)
        replace BU := BU.keep gn
        replace TBU := there_chg TBU gn (by simp)
        replace BV := BV.keep gn
        replace HU := HU.keep gn
        replace G5 := G5.then gn
        have BP : Bx w9 (u9.heap.size) (.bool lf) (.slice p1 m p2) (.slice p3 m p4) := by rw [hw9]; exact ⟨by simp [go_sem], by simp [go_sem], by simp [go_sem]⟩
        have BQ : Bx w9 (u9.heap.size + 1) (.bool lf) (.slice q1 d q2) (.slice q3 d q4) := by rw [hw9]; exact ⟨by simp [go_sem], by simp [go_sem], by simp [go_sem]⟩
        replace RP := RP.keep gu
        replace RQ := RQ.keep gu
        have hz9 : w8.heap.size ≤ u9.heap.size ∧ u9.heap.size + 2 = w9.heap.size := ⟨gc.size, by rw [hw9]; simp⟩
        clear gc gu gn
        have hw9' := hw9.symm
        clear hw9
        have HZ9 := mkHid hz9
        clear hz9
        have a0 := BN.c0
        have a1 := BN.c1
        have a2 := BN.c2
        have b0 := BM.c0
        have b1 := BM.c1
        have b2 := BM.c2
        go_wp2_with fail
        clear hw9'
        clear a0 a1 a2 b0 b1 b2
        generalize hbqe : u9.heap.size + 1 = bq at *
        have Hbqe := mkHid hbqe
        clear hbqe
        generalize hbpe : u9.heap.size = bp at *
        have Hbpe := mkHid hbpe
        clear hbpe
        refine (rjoin_as lf ka kl kc va vl vc K V lf' ka' kl' kc' va' vl' vc' K' V' w9 RN HKV.out.1 HKV.out.2.1 RM HKV.out.2.2.1 HKV.out.2.2.2 Q A C HE.out.2.1 HE.out.2.2.2.2.2.2.2.2.1 HE.out.2.2.2.2.2.2.2.2.2.1 (by omega)).mono ?_
        rintro e u10 ⟨⟨j1, j2, j3, j4, rfl, RJ⟩, gc⟩
        obtain ⟨w10, hw10⟩ : ∃ x, x = (u10.alloc (.cells #[.bool lf, .slice j1 Q j2, .slice j3 Q j4] 24)) := ⟨_, rfl⟩
        have gu : Chg [] u10 w10 := by rw [hw10]; exact Chg.alloc [] _ _
        have gn := gc.then gu
        replace BN := BN.keep gn
        replace BM := BM.keep gn
        replace BA := BA.keep gn
        replace BB := BB.keep gn
        replace RA := RA.keep gn
        replace RB := RB.keep gn
        replace RN := RN.keep gn
        replace RM := RM.keep gn
        replace BX := BX.keep gn
        replace TBX := there_chg TBX gn (by simp)
        replace BY := BY.keep gn
        replace HX := HX.keep gn
        replace BZ := BZ.keep gn
        replace RZ := RZ.keep gn
        replace SZ := SZ.ints (Ints.of_chg gn)
        replace BU := BU.keep gn
        replace TBU := there_chg TBU gn (by simp)
        replace BV := BV.keep gn
        replace HU := HU.keep gn
        replace BP := BP.keep gn
        replace BQ := BQ.keep gn
        replace RP := RP.keep gn
        replace RQ := RQ.keep gn
        replace G5 := G5.then gn
        have BJ : Bx w10 (u10.heap.size) (.bool lf) (.slice j1 Q j2) (.slice j3 Q j4) := by rw [hw10]; exact ⟨by simp [go_sem], by simp [go_sem], by simp [go_sem]⟩
        replace RJ := RJ.keep gu
        have hz10 : w9.heap.size ≤ u10.heap.size ∧ u10.heap.size + 1 = w10.heap.size := ⟨gc.size, by rw [hw10]; simp⟩
        clear gc gu gn
        have hw10' := hw10.symm
        clear hw10
        have HZ10 := mkHid hz10
        clear hz10
        have a0 := BJ.c0
        have a1 := BJ.c1
        have a2 := BJ.c2
        go_wp2_with fail
        clear hw10'
        clear a0 a1 a2
        generalize hbje : u10.heap.size = bj at *
        have Hbje := mkHid hbje
        clear hbje
        refine (rsplit_as lf j1 Q j2 j3 Q j4 A C w10 RJ HE.out.2.2.2.2.2.2.2.2.2.2.1.1 HE.out.2.2.2.2.2.2.2.2.2.2.1.2 Q f g (sub A 0 f) (sub C 0 f) (sub A f Q) (sub C f Q) HE.out.2.2.2.2.2.2.2.2.2.2.2.1 HE.out.2.2.2.2.1 HE.out.2.2.2.2.2.1 rfl rfl rfl rfl (by omega)).mono ?_
        rintro e u11 ⟨⟨r1, r2, r3, r4, s1, s2, s3, s4, rfl, RR, RS⟩, gc⟩
        obtain ⟨w11, hw11⟩ : ∃ x, x = ((u11.alloc (.cells #[.bool lf, .slice r1 f r2, .slice r3 f r4] 24)).alloc (.cells #[.bool lf, .slice s1 g s2, .slice s3 g s4] 24)) := ⟨_, rfl⟩
        have gu : Chg [] u11 w11 := by rw [hw11]; exact (Chg.alloc [] _ _).then (Chg.alloc [] _ _)
        have gn := gc.then gu
        replace BN := BN.keep gn
        replace BM := BM.keep gn
        replace BA := BA.keep gn
        replace BB := BB.keep gn
        replace RA := RA.keep gn
        replace RB := RB.keep gn
        replace RN := RN.keep gn
        replace RM := RM.keep gn
        replace BX := BX.keep gn
        replace TBX := there_chg TBX gn (by simp)
        replace BY := BY.keep gn
        replace HX := HX.keep gn
        replace BZ := BZ.keep gn
        replace RZ := RZ.keep gn
        replace SZ := SZ.ints (Ints.of_chg gn)
        replace BU := BU.keep gn
        replace TBU := there_chg TBU gn (by simp)
        replace BV := BV.keep gn
        replace HU := HU.keep gn
        replace BP := BP.keep gn
        replace BQ := BQ.keep gn
        replace RP := RP.keep gn
        replace RQ := RQ.keep gn
        replace BJ := BJ.keep gn
        replace RJ := RJ.keep gn
        replace G5 := G5.then gn
        have BR : Bx w11 (u11.heap.size) (.bool lf) (.slice r1 f r2) (.slice r3 f r4) := by rw [hw11]; exact ⟨by simp [go_sem], by simp [go_sem], by simp [go_sem]⟩
        have BS : Bx w11 (u11.heap.size + 1) (.bool lf) (.slice s1 g s2) (.slice s3 g s4) := by rw [hw11]; exact ⟨by simp [go_sem], by simp [go_sem], by simp [go_sem]⟩
        replace RR := RR.keep gu
        replace RS := RS.keep gu
        have hz11 : w10.heap.size ≤ u11.heap.size ∧ u11.heap.size + 2 = w11.heap.size := ⟨gc.size, by rw [hw11]; simp⟩
        clear gc gu gn
        have hw11' := hw11.symm
        clear hw11
        have HZ11 := mkHid hz11
        clear hz11
        have a0 := BX.c0
        have a1 := BX.c1
        have a2 := BX.c2
        have b0 := BP.c0
        have b1 := BP.c1
        have b2 := BP.c2
        go_wp2_with fail
        clear hw11'
        clear a0 a1 a2 b0 b1 b2
        generalize hbse : u11.heap.size + 1 = bs at *
        have Hbse := mkHid hbse
        clear hbse
        generalize hbre : u11.heap.size = br at *
        have Hbre := mkHid hbre
        clear hbre
        refine (same_as lf (cut pa m 0) m (cut pb m 0) m p1 p2 p3 p4 (sub X 0 m) (sub Y 0 m) m m w11 HX.r1 RP HLL.out.1.1 HLL.out.1.2).mono ?_
        rintro e w12 ⟨rfl, gc⟩
        replace BN := BN.keep gc
        replace BM := BM.keep gc
        replace BA := BA.keep gc
        replace BB := BB.keep gc
        replace RA := RA.keep gc
        replace RB := RB.keep gc
        replace RN := RN.keep gc
        replace RM := RM.keep gc
        replace BX := BX.keep gc
        replace TBX := there_chg TBX gc (by simp)
        replace BY := BY.keep gc
        replace HX := HX.keep gc
        replace BZ := BZ.keep gc
        replace RZ := RZ.keep gc
        replace SZ := SZ.ints (Ints.of_chg gc)
        replace BU := BU.keep gc
        replace TBU := there_chg TBU gc (by simp)
        replace BV := BV.keep gc
        replace HU := HU.keep gc
        replace BP := BP.keep gc
        replace BQ := BQ.keep gc
        replace RP := RP.keep gc
        replace RQ := RQ.keep gc
        replace BJ := BJ.keep gc
        replace RJ := RJ.keep gc
        replace BR := BR.keep gc
        replace BS := BS.keep gc
        replace RR := RR.keep gc
        replace RS := RS.keep gc
        replace G5 := G5.then gc
        clear gc
        have a0 := BY.c0
        have a1 := BY.c1
        have a2 := BY.c2
        have b0 := BQ.c0
        have b1 := BQ.c1
        have b2 := BQ.c2
        go_wp2_with fail
        clear a0 a1 a2 b0 b1 b2
        refine (same_as lf (cut pa P m) d (cut pb P m) d q1 q2 q3 q4 (sub X m P) (sub Y m P) d d w12 HX.r2 RQ HLL.out.2.1.1 HLL.out.2.1.2).mono ?_
        rintro e w13 ⟨rfl, gc⟩
        replace BN := BN.keep gc
        replace BM := BM.keep gc
        replace BA := BA.keep gc
        replace BB := BB.keep gc
        replace RA := RA.keep gc
        replace RB := RB.keep gc
        replace RN := RN.keep gc
        replace RM := RM.keep gc
        replace BX := BX.keep gc
        replace TBX := there_chg TBX gc (by simp)
        replace BY := BY.keep gc
        replace HX := HX.keep gc
        replace BZ := BZ.keep gc
        replace RZ := RZ.keep gc
        replace SZ := SZ.ints (Ints.of_chg gc)
        replace BU := BU.keep gc
        replace TBU := there_chg TBU gc (by simp)
        replace BV := BV.keep gc
        replace HU := HU.keep gc
        replace BP := BP.keep gc
        replace BQ := BQ.keep gc
        replace RP := RP.keep gc
        replace RQ := RQ.keep gc
        replace BJ := BJ.keep gc
        replace RJ := RJ.keep gc
        replace BR := BR.keep gc
        replace BS := BS.keep gc
        replace RR := RR.keep gc
        replace RS := RS.keep gc
        replace G5 := G5.then gc
        clear gc
        have a0 := BZ.c0
        have a1 := BZ.c1
        have a2 := BZ.c2
        have b0 := BJ.c0
        have b1 := BJ.c1
        have b2 := BJ.c2
        go_wp2_with fail
        clear a0 a1 a2 b0 b1 b2
        refine (same_as lf ca cc cb cd j1 j2 j3 j4 A C Q Q w13 RZ RJ HE.out.2.2.2.2.2.2.2.2.2.2.1.1 HE.out.2.2.2.2.2.2.2.2.2.2.1.2).mono ?_
        rintro e w14 ⟨rfl, gc⟩
        replace BN := BN.keep gc
        replace BM := BM.keep gc
        replace BA := BA.keep gc
        replace BB := BB.keep gc
        replace RA := RA.keep gc
        replace RB := RB.keep gc
        replace RN := RN.keep gc
        replace RM := RM.keep gc
        replace BX := BX.keep gc
        replace TBX := there_chg TBX gc (by simp)
        replace BY := BY.keep gc
        replace HX := HX.keep gc
        replace BZ := BZ.keep gc
        replace RZ := RZ.keep gc
        replace SZ := SZ.ints (Ints.of_chg gc)
        replace BU := BU.keep gc
        replace TBU := there_chg TBU gc (by simp)
        replace BV := BV.keep gc
        replace HU := HU.keep gc
        replace BP := BP.keep gc
        replace BQ := BQ.keep gc
        replace RP := RP.keep gc
        replace RQ := RQ.keep gc
        replace BJ := BJ.keep gc
        replace RJ := RJ.keep gc
        replace BR := BR.keep gc
        replace BS := BS.keep gc
        replace RR := RR.keep gc
        replace RS := RS.keep gc
        replace G5 := G5.then gc
        clear gc
        have a0 := BU.c0
        have a1 := BU.c1
        have a2 := BU.c2
        have b0 := BR.c0
        have b1 := BR.c1
        have b2 := BR.c2
        go_wp2_with fail
        clear a0 a1 a2 b0 b1 b2
        refine (same_as lf (cut da f 0) f (cut db f 0) f r1 r2 r3 r4 (sub A 0 f) (sub C 0 f) f f w14 HU.r1 RR HLL.out.2.2.1.1 HLL.out.2.2.1.2).mono ?_
        rintro e w15 ⟨rfl, gc⟩
        replace BN := BN.keep gc
        replace BM := BM.keep gc
        replace BA := BA.keep gc
        replace BB := BB.keep gc
        replace RA := RA.keep gc
        replace RB := RB.keep gc
        replace RN := RN.keep gc
        replace RM := RM.keep gc
        replace BX := BX.keep gc
        replace TBX := there_chg TBX gc (by simp)
        replace BY := BY.keep gc
        replace HX := HX.keep gc
        replace BZ := BZ.keep gc
        replace RZ := RZ.keep gc
        replace SZ := SZ.ints (Ints.of_chg gc)
        replace BU := BU.keep gc
        replace TBU := there_chg TBU gc (by simp)
        replace BV := BV.keep gc
        replace HU := HU.keep gc
        replace BP := BP.keep gc
        replace BQ := BQ.keep gc
        replace RP := RP.keep gc
        replace RQ := RQ.keep gc
        replace BJ := BJ.keep gc
        replace RJ := RJ.keep gc
        replace BR := BR.keep gc
        replace BS := BS.keep gc
        replace RR := RR.keep gc
        replace RS := RS.keep gc
        replace G5 := G5.then gc
        clear gc
        have a0 := BV.c0
        have a1 := BV.c1
        have a2 := BV.c2
        have b0 := BS.c0
        have b1 := BS.c1
        have b2 := BS.c2
        go_wp2_with fail
        clear a0 a1 a2 b0 b1 b2
        refine (same_as lf (cut da Q f) g (cut db Q f) g s1 s2 s3 s4 (sub A f Q) (sub C f Q) g g w15 HU.r2 RS HLL.out.2.2.2.1 HLL.out.2.2.2.2).mono ?_
        rintro e w16 ⟨rfl, gc⟩
        replace BN := BN.keep gc
        replace BM := BM.keep gc
        replace BA := BA.keep gc
        replace BB := BB.keep gc
        replace RA := RA.keep gc
        replace RB := RB.keep gc
        replace RN := RN.keep gc
        replace RM := RM.keep gc
        replace BX := BX.keep gc
        replace TBX := there_chg TBX gc (by simp)
        replace BY := BY.keep gc
        replace HX := HX.keep gc
        replace BZ := BZ.keep gc
        replace RZ := RZ.keep gc
        replace SZ := SZ.ints (Ints.of_chg gc)
        replace BU := BU.keep gc
        replace TBU := there_chg TBU gc (by simp)
        replace BV := BV.keep gc
        replace HU := HU.keep gc
        replace BP := BP.keep gc
        replace BQ := BQ.keep gc
        replace RP := RP.keep gc
        replace RQ := RQ.keep gc
        replace BJ := BJ.keep gc
        replace RJ := RJ.keep gc
        replace BR := BR.keep gc
        replace BS := BS.keep gc
        replace RR := RR.keep gc
        replace RS := RS.keep gc
        replace G5 := G5.then gc
        clear gc
        go_wp2_with fail
        have HB5 := mkHid (And.intro hb hQb)
        clear hb hPb hQb hmP hfQ BN BM BA BB RA RB RN RM RZ RJ RP RR BJ BP BR
        refine region_made 9 [IsV (.pointer (some ⟨bx, 1, none⟩)), IsV (.slice (cut pa m 0) m m), IsRow 1 [.int .u64 ((99 : Nat) : Int)], RL (sub X 0 m ++ [99]), IsV (.pointer (some ⟨bu, 1, none⟩)), IsV (.slice (cut da f 0) f f), IsRow 1 [.int .u64 ((99 : Nat) : Int)], RL (sub A 0 f ++ [99]), IsV (.pointer (some ⟨bx, 1, none⟩))] (by kernel_rfl) (by kernel_rfl) (by kernel_rfl) (by decide) (of_decide_eq_true (by kernel_rfl)) ⟨keepV _, keepV _, keepRow _ _, keepR _, keepV _, keepV _, keepRow _ _, keepR _, keepV _, trivial⟩ ?_ ?_
        · refine ⟨?_, ?_, ?_, ?_, ?_, ?_, ?_, ?_, ?_, trivial⟩
          · intro v u hg hd K hK
            clear hd
            have hk := hK.out (.pointer (some ⟨bx, 1, none⟩)) u (Chg.refl _ _) rfl
            clear hK
            simp only [List.toList_toArray, List.take_succ_cons, List.take_zero, List.drop_succ_cons, List.drop_zero, putAll, Act.put, List.setIfInBounds_toArray, List.set_cons_zero, List.set_cons_succ, Nat.zero_add, Nat.reduceAdd] at hk ⊢
            go_simp
            exact hk
          · intro v u hg hd K hK
            have h0 : ∃ lo hi, IsV (.pointer (some ⟨bx, 1, none⟩)) (v 0) lo hi u := dep hd 0 (by kernel_rfl)
            have e0 : v 0 = .pointer (some ⟨bx, 1, none⟩) := depV h0
            have hz := (Chg.drew [] w16).then hg
            have x0 := hz.cellv BX.c1 (by simp)
            clear hd
            have hk := hK.out (.slice (cut pa m 0) m m) u (Chg.refl _ _) rfl
            clear hK
            simp only [List.toList_toArray, List.take_succ_cons, List.take_zero, List.drop_succ_cons, List.drop_zero, putAll, Act.put, List.setIfInBounds_toArray, List.set_cons_zero, List.set_cons_succ, Nat.zero_add, Nat.reduceAdd, e0] at hk ⊢
            go_simp
            exact hk
          · intro v u hg hd K hK
            clear hd
            have hk := hK.out (.slice (some ⟨u.heap.size, 0, none⟩) 1 1) _ (Chg.alloc [] u (.cells #[.int .u64 ((99 : Nat) : Int)] 25)) ⟨rfl, Reads.new u #[.int .u64 ((99 : Nat) : Int)] 25⟩
            clear hK
            simp only [List.toList_toArray, List.take_succ_cons, List.take_zero, List.drop_succ_cons, List.drop_zero, putAll, Act.put, List.setIfInBounds_toArray, List.set_cons_zero, List.set_cons_succ, Nat.zero_add, Nat.reduceAdd] at hk ⊢
            go_simp
            exact hk
          · intro v u hg hd K hK
            have e1 : v 1 = .slice (cut pa m 0) m m := depV (show ∃ lo hi, IsV (.slice (cut pa m 0) m m) (v 1) lo hi u from dep hd 1 (by kernel_rfl))
            obtain ⟨b2, e2, hrow⟩ := depRow (show ∃ lo hi, IsRow 1 [.int .u64 ((99 : Nat) : Int)] (v 2) lo hi u from dep hd 2 (by kernel_rfl))
            have hz := (Chg.drew [] w16).then hg
            clear hd
            simp only [List.toList_toArray, List.take_succ_cons, List.take_zero, List.drop_succ_cons, List.drop_zero, putAll, Act.put, List.setIfInBounds_toArray, List.set_cons_zero, List.set_cons_succ, Nat.zero_add, Nat.reduceAdd, e1, e2] at hK ⊢
            have hlen : (sub X 0 m ++ [99]).length = m + 1 := by rw [List.length_append, HLL.out.1.1]; rfl
            refine oper_append_new (.tmp 81) (.tmp 82) 22 rfl 25 8 eltU u.heap.size _ m m (uvs (sub X 0 m)) rfl (HX.r1.rk.keep hz) (by rw [uvs_len]; exact HLL.out.1.1) (Nat.le_refl _) (some ⟨b2, 0, none⟩) 1 1 [.int .u64 ((99 : Nat) : Int)] rfl hrow rfl (by omega) (by unfold maxLen; omega) (by omega) ?_
            intro c' w' r g'
            rw [show uvs (sub X 0 m) ++ [.int .u64 ((99 : Nat) : Int)] = uvs (sub X 0 m ++ [99]) from (by simp [uvs])] at r
            have hk := hK.out (.slice (some ⟨u.heap.size, 0, none⟩) (m + 1) c') w' g' ⟨_, c', by rw [hlen], by rw [hlen]; exact r, fun q hq => (r.lt q hq).2⟩
            simp only [Act.put, List.setIfInBounds_toArray, List.set_cons_zero, List.set_cons_succ] at hk ⊢
            exact hk
          · intro v u hg hd K hK
            clear hd
            have hk := hK.out (.pointer (some ⟨bu, 1, none⟩)) u (Chg.refl _ _) rfl
            clear hK
            simp only [List.toList_toArray, List.take_succ_cons, List.take_zero, List.drop_succ_cons, List.drop_zero, putAll, Act.put, List.setIfInBounds_toArray, List.set_cons_zero, List.set_cons_succ, Nat.zero_add, Nat.reduceAdd] at hk ⊢
            go_simp
            exact hk
          · intro v u hg hd K hK
            have h4 : ∃ lo hi, IsV (.pointer (some ⟨bu, 1, none⟩)) (v 4) lo hi u := dep hd 4 (by kernel_rfl)
            have e4 : v 4 = .pointer (some ⟨bu, 1, none⟩) := depV h4
            have hz := (Chg.drew [] w16).then hg
            have x0 := hz.cellv BU.c1 (by simp)
            clear hd
            have hk := hK.out (.slice (cut da f 0) f f) u (Chg.refl _ _) rfl
            clear hK
            simp only [List.toList_toArray, List.take_succ_cons, List.take_zero, List.drop_succ_cons, List.drop_zero, putAll, Act.put, List.setIfInBounds_toArray, List.set_cons_zero, List.set_cons_succ, Nat.zero_add, Nat.reduceAdd, e4] at hk ⊢
            go_simp
            exact hk
          · intro v u hg hd K hK
            clear hd
            have hk := hK.out (.slice (some ⟨u.heap.size, 0, none⟩) 1 1) _ (Chg.alloc [] u (.cells #[.int .u64 ((99 : Nat) : Int)] 25)) ⟨rfl, Reads.new u #[.int .u64 ((99 : Nat) : Int)] 25⟩
            clear hK
            simp only [List.toList_toArray, List.take_succ_cons, List.take_zero, List.drop_succ_cons, List.drop_zero, putAll, Act.put, List.setIfInBounds_toArray, List.set_cons_zero, List.set_cons_succ, Nat.zero_add, Nat.reduceAdd] at hk ⊢
            go_simp
            exact hk
          · intro v u hg hd K hK
            have e5 : v 5 = .slice (cut da f 0) f f := depV (show ∃ lo hi, IsV (.slice (cut da f 0) f f) (v 5) lo hi u from dep hd 5 (by kernel_rfl))
            obtain ⟨b2, e6, hrow⟩ := depRow (show ∃ lo hi, IsRow 1 [.int .u64 ((99 : Nat) : Int)] (v 6) lo hi u from dep hd 6 (by kernel_rfl))
            have hz := (Chg.drew [] w16).then hg
            clear hd
            simp only [List.toList_toArray, List.take_succ_cons, List.take_zero, List.drop_succ_cons, List.drop_zero, putAll, Act.put, List.setIfInBounds_toArray, List.set_cons_zero, List.set_cons_succ, Nat.zero_add, Nat.reduceAdd, e5, e6] at hK ⊢
            have hlen : (sub A 0 f ++ [99]).length = f + 1 := by rw [List.length_append, HLL.out.2.2.1.1]; rfl
            refine oper_append_new (.tmp 85) (.tmp 86) 22 rfl 25 8 eltU u.heap.size _ f f (uvs (sub A 0 f)) rfl (HU.r1.rk.keep hz) (by rw [uvs_len]; exact HLL.out.2.2.1.1) (Nat.le_refl _) (some ⟨b2, 0, none⟩) 1 1 [.int .u64 ((99 : Nat) : Int)] rfl hrow rfl (by omega) (by unfold maxLen; omega) (by omega) ?_
            intro c' w' r g'
            rw [show uvs (sub A 0 f) ++ [.int .u64 ((99 : Nat) : Int)] = uvs (sub A 0 f ++ [99]) from (by simp [uvs])] at r
            have hk := hK.out (.slice (some ⟨u.heap.size, 0, none⟩) (f + 1) c') w' g' ⟨_, c', by rw [hlen], by rw [hlen]; exact r, fun q hq => (r.lt q hq).2⟩
            simp only [Act.put, List.setIfInBounds_toArray, List.set_cons_zero, List.set_cons_succ] at hk ⊢
            exact hk
          · intro v u hg hd K hK
            clear hd
            have hk := hK.out (.pointer (some ⟨bx, 1, none⟩)) u (Chg.refl _ _) rfl
            clear hK
            simp only [List.toList_toArray, List.take_succ_cons, List.take_zero, List.drop_succ_cons, List.drop_zero, putAll, Act.put, List.setIfInBounds_toArray, List.set_cons_zero, List.set_cons_succ, Nat.zero_add, Nat.reduceAdd] at hk ⊢
            go_simp
            exact hk
        · intro v u lo hi hg hall hbd hdj
          have e0 : v 0 = .pointer (some ⟨bx, 1, none⟩) := hall 0 (by decide)
          have e1 : v 1 = .slice (cut pa m 0) m m := hall 1 (by decide)
          obtain ⟨e2, -⟩ : IsRow 1 [.int .u64 ((99 : Nat) : Int)] (v 2) (lo 2) (hi 2) u := hall 2 (by decide)
          obtain ⟨xa, xc, e3, xr, -⟩ : RL (sub X 0 m ++ [99]) (v 3) (lo 3) (hi 3) u := hall 3 (by decide)
          have e4 : v 4 = .pointer (some ⟨bu, 1, none⟩) := hall 4 (by decide)
          have e5 : v 5 = .slice (cut da f 0) f f := hall 5 (by decide)
          obtain ⟨e6, -⟩ : IsRow 1 [.int .u64 ((99 : Nat) : Int)] (v 6) (lo 6) (hi 6) u := hall 6 (by decide)
          obtain ⟨ua_, uc, e7, ur, -⟩ : RL (sub A 0 f ++ [99]) (v 7) (lo 7) (hi 7) u := hall 7 (by decide)
          have e8 : v 8 = .pointer (some ⟨bx, 1, none⟩) := hall 8 (by decide)
          have b3 := (hbd 3 (by decide)).1
          have b7 := (hbd 7 (by decide)).1
          clear hall hbd hdj
          obtain ⟨n1, hn1⟩ : ∃ n, (sub X 0 m ++ [99]).length = n := ⟨_, rfl⟩
          obtain ⟨n2, hn2⟩ : ∃ n, (sub A 0 f ++ [99]).length = n := ⟨_, rfl⟩
          rw [hn1] at e3
          rw [hn2] at e7
          have hnb : n1 ≤ 10000 ∧ n2 ≤ 10000 := by
            rw [List.length_append, HLL.out.1.1] at hn1
            rw [List.length_append, HLL.out.2.2.1.1] at hn2
            simp at hn1 hn2
            omega
          have hz := (Chg.drew [] w16).then hg
          clear hg
          replace BX := BX.keep hz
          replace TBX := there_chg TBX hz (by simp)
          replace BY := BY.keep hz
          replace HX := HX.keep hz
          replace BZ := BZ.keep hz
          replace SZ := SZ.ints (Ints.of_chg hz)
          replace BU := BU.keep hz
          replace TBU := there_chg TBU hz (by simp)
          replace BV := BV.keep hz
          replace HU := HU.keep hz
          replace BQ := BQ.keep hz
          replace RQ := RQ.keep hz
          replace BS := BS.keep hz
          replace RS := RS.keep hz
          have s5 := G5.size
          replace G5 := G5.then hz
          simp only [List.toList_toArray, List.take_succ_cons, List.take_zero, List.drop_succ_cons, List.drop_zero, putAll, Act.put, List.setIfInBounds_toArray, List.set_cons_zero, List.set_cons_succ, Nat.zero_add, Nat.reduceAdd, e0, e1, e2, e3, e4, e5, e6, e7, e8]
          clear e0 e1 e2 e3 e4 e5 e6 e7 e8 v
          have bb : bx ≠ bu ∧ (by_ ≠ bx ∧ by_ ≠ bu) ∧ (bz ≠ bx ∧ bz ≠ bu) ∧ (bv ≠ bx ∧ bv ≠ bu) ∧ (bq ≠ bx ∧ bq ≠ bu) ∧ (bs ≠ bx ∧ bs ≠ bu) ∧ w5.heap.size ≤ bx ∧ w5.heap.size ≤ bu := by
            have := HZ6.out; have := HZ7.out; have := HZ8.out; have := HZ9.out; have := HZ10.out; have := HZ11.out; have := Hbxe.out; have := Hby_e.out; have := Hbze.out; have := Hbue.out; have := Hbve.out; have := Hbqe.out; have := Hbpe.out; have := Hbse.out; have := Hbre.out; have := Hbje.out
            omega
          have hux := BX.c1
          have huu := BU.c1
          obtain ⟨A0, A1, A2, i0, i1, i2, j0, j1, j2⟩ := there3 TBX
          obtain ⟨S0, S1, S2, i3, i4, i5, j3, j4, j5⟩ := there3 (there_chg TBU (Chg.setCell u ⟨bx, 1, none⟩ (.slice xa n1 xc)) (fun hm => bb.1 (List.mem_singleton.1 hm).symm))
          obtain ⟨w17, hw17⟩ : ∃ x, x = (u.setCell ⟨bx, 1, none⟩ (.slice xa n1 xc)).setCell ⟨bu, 1, none⟩ (.slice ua_ n2 uc) := ⟨_, rfl⟩
          have hu2 : (u.setCell ⟨bx, 1, none⟩ (.slice xa n1 xc)).cell? ⟨bu, 1, none⟩ = some (.slice (cut da f 0) f f) := (Chg.setCell u ⟨bx, 1, none⟩ _).cellv huu (fun hm => bb.1 (List.mem_singleton.1 hm).symm)
          have gI : Ints u w17 := by rw [hw17]; exact (Ints.set hux _).trans (Ints.set hu2 _)
          have gC : Chg [] w5 w17 := by rw [hw17]; exact far_then (far_then G5 ⟨_, Chg.setCell u ⟨bx, 1, none⟩ _, fun q hq => by rw [List.mem_singleton.1 hq]; exact bb.2.2.2.2.2.2.1⟩) ⟨_, Chg.setCell _ ⟨bu, 1, none⟩ _, fun q hq => by rw [List.mem_singleton.1 hq]; exact bb.2.2.2.2.2.2.2⟩
          have RY : RdN w17 (cut pa P m) d (cut pb P m) d (sub X m P) (sub Y m P) := by rw [hw17]; exact (HX.r2.set hux _).set hu2 _
          have RV : RdN w17 (cut da Q f) g (cut db Q f) g (sub A f Q) (sub C f Q) := by rw [hw17]; exact (HU.r2.set hux _).set hu2 _
          have RQ' : RdN w17 q1 q2 q3 q4 (sub X m P) (sub Y m P) := by rw [hw17]; exact (RQ.set hux _).set hu2 _
          have RS' : RdN w17 s1 s2 s3 s4 (sub A f Q) (sub C f Q) := by rw [hw17]; exact (RS.set hux _).set hu2 _
          have BX' : Bx w17 bx (.bool lf) (.slice xa n1 xc) (.slice (cut pb m 0) m m) := by rw [hw17]; exact (BX.mid _).off bb.1
          have BU' : Bx w17 bu (.bool lf) (.slice ua_ n2 uc) (.slice (cut db f 0) f f) := by rw [hw17]; exact (BU.off (Ne.symm bb.1)).mid _
          have BY' : Bx w17 by_ (.bool lf) (.slice (cut pa P m) d d) (.slice (cut pb P m) d d) := by rw [hw17]; exact (BY.off bb.2.1.1).off bb.2.1.2
          have BZ' : Bx w17 bz (.bool lf) (.slice ca Q cc) (.slice cb Q cd) := by rw [hw17]; exact (BZ.off bb.2.2.1.1).off bb.2.2.1.2
          have BV' : Bx w17 bv (.bool lf) (.slice (cut da Q f) g g) (.slice (cut db Q f) g g) := by rw [hw17]; exact (BV.off bb.2.2.2.1.1).off bb.2.2.2.1.2
          have BQ' : Bx w17 bq (.bool lf) (.slice q1 d q2) (.slice q3 d q4) := by rw [hw17]; exact (BQ.off bb.2.2.2.2.1.1).off bb.2.2.2.2.1.2
          have BS' : Bx w17 bs (.bool lf) (.slice s1 g s2) (.slice s3 g s4) := by rw [hw17]; exact (BS.off bb.2.2.2.2.2.1.1).off bb.2.2.2.2.2.1.2
          have SX : Sp w17 w5.heap.size xa n1 (cut pb m 0) m := grown_sp xr hn1 (by omega) gI HX.s1.wv (fun q hq => HX.s1.lo q (List.mem_append_right _ hq))
          have SU : Sp w17 w5.heap.size ua_ n2 (cut db f 0) f := grown_sp ur hn2 (by omega) gI HU.s1.wv (fun q hq => HU.s1.lo q (List.mem_append_right _ hq))
          have SY := HX.s2.ints gI
          have SV := HU.s2.ints gI
          replace SZ := SZ.ints gI
          have hw17' := hw17.symm
          clear hw17 HX HU RQ RS BX BU BY BZ BV BQ BS hux huu hu2 gI G5 bb TBX TBU xr ur b3 b7 s5 hz hn1 hn2
          have y0 := BY'.c0
          have y1 := BY'.c1
          have y2 := BY'.c2
          have q0' := BQ'.c0
          have q1' := BQ'.c1
          have q2' := BQ'.c2
          go_wp2_with fail
          clear hw17' i0 i1 i2 i3 i4 i5 j0 j1 j2 j3 j4 j5 y0 y1 y2 q0' q1' q2'
          refine (same_as lf (cut pa P m) d (cut pb P m) d q1 q2 q3 q4 (sub X m P) (sub Y m P) d d w17 RY RQ' HLL.out.2.1.1 HLL.out.2.1.2).mono ?_
          rintro e w18 ⟨rfl, gc⟩
          replace BX' := BX'.keep gc
          replace BU' := BU'.keep gc
          replace BY' := BY'.keep gc
          replace BZ' := BZ'.keep gc
          replace BV' := BV'.keep gc
          replace BQ' := BQ'.keep gc
          replace BS' := BS'.keep gc
          replace RY := RY.keep gc
          replace RV := RV.keep gc
          replace RQ' := RQ'.keep gc
          replace RS' := RS'.keep gc
          replace SX := SX.ints (Ints.of_chg gc)
          replace SY := SY.ints (Ints.of_chg gc)
          replace SZ := SZ.ints (Ints.of_chg gc)
          replace SU := SU.ints (Ints.of_chg gc)
          replace SV := SV.ints (Ints.of_chg gc)
          replace gC := gC.then gc
          clear gc
          have a0 := BV'.c0
          have a1 := BV'.c1
          have a2 := BV'.c2
          have b0 := BS'.c0
          have b1 := BS'.c1
          have b2 := BS'.c2
          go_wp2_with fail
          clear a0 a1 a2 b0 b1 b2
          refine (same_as lf (cut da Q f) g (cut db Q f) g s1 s2 s3 s4 (sub A f Q) (sub C f Q) g g w18 RV RS' HLL.out.2.2.2.1 HLL.out.2.2.2.2).mono ?_
          rintro e w19 ⟨rfl, gc⟩
          replace BX' := BX'.keep gc
          replace BU' := BU'.keep gc
          replace BY' := BY'.keep gc
          replace BZ' := BZ'.keep gc
          replace BV' := BV'.keep gc
          replace BQ' := BQ'.keep gc
          replace BS' := BS'.keep gc
          replace RY := RY.keep gc
          replace RV := RV.keep gc
          replace RQ' := RQ'.keep gc
          replace RS' := RS'.keep gc
          replace SX := SX.ints (Ints.of_chg gc)
          replace SY := SY.ints (Ints.of_chg gc)
          replace SZ := SZ.ints (Ints.of_chg gc)
          replace SU := SU.ints (Ints.of_chg gc)
          replace SV := SV.ints (Ints.of_chg gc)
          replace gC := gC.then gc
          clear gc
          have a0 := BX'.c0
          have a1 := BX'.c1
          have a2 := BX'.c2
          go_wp2_with fail
          clear a0 a1 a2
          clear RY RV RQ' RS' BQ' BS'
          refine (spoil_sp lf SX (by have := HB5.out; omega) (by have := HB5.out; omega)).mono ?_
          rintro e w20 ⟨rfl, hS, ht⟩
          replace gC := far_then gC hS
          clear SX hS
          clear BX'
          replace BU' := BU'.turn ht
          replace BY' := BY'.turn ht
          replace BZ' := BZ'.turn ht
          replace BV' := BV'.turn ht
          replace SY := SY.ints (Ints.of_turn ht)
          replace SZ := SZ.ints (Ints.of_turn ht)
          replace SU := SU.ints (Ints.of_turn ht)
          replace SV := SV.ints (Ints.of_turn ht)
          clear ht
          have a0 := BY'.c0
          have a1 := BY'.c1
          have a2 := BY'.c2
          go_wp2_with fail
          clear a0 a1 a2
          refine (spoil_sp lf SY (by have := HB5.out; omega) (by have := HB5.out; omega)).mono ?_
          rintro e w21 ⟨rfl, hS, ht⟩
          replace gC := far_then gC hS
          clear SY hS
          clear BY'
          replace BU' := BU'.turn ht
          replace BZ' := BZ'.turn ht
          replace BV' := BV'.turn ht
          replace SZ := SZ.ints (Ints.of_turn ht)
          replace SU := SU.ints (Ints.of_turn ht)
          replace SV := SV.ints (Ints.of_turn ht)
          clear ht
          have a0 := BZ'.c0
          have a1 := BZ'.c1
          have a2 := BZ'.c2
          go_wp2_with fail
          clear a0 a1 a2
          refine (spoil_sp lf SZ (by have := HB5.out; omega) (by have := HB5.out; omega)).mono ?_
          rintro e w22 ⟨rfl, hS, ht⟩
          replace gC := far_then gC hS
          clear SZ hS
          clear BZ'
          replace BU' := BU'.turn ht
          replace BV' := BV'.turn ht
          replace SU := SU.ints (Ints.of_turn ht)
          replace SV := SV.ints (Ints.of_turn ht)
          clear ht
          have a0 := BU'.c0
          have a1 := BU'.c1
          have a2 := BU'.c2
          go_wp2_with fail
          clear a0 a1 a2
          refine (spoil_sp lf SU (by have := HB5.out; omega) (by have := HB5.out; omega)).mono ?_
          rintro e w23 ⟨rfl, hS, ht⟩
          replace gC := far_then gC hS
          clear SU hS
          clear BU'
          replace BV' := BV'.turn ht
          replace SV := SV.ints (Ints.of_turn ht)
          clear ht
          have a0 := BV'.c0
          have a1 := BV'.c1
          have a2 := BV'.c2
          go_wp2_with fail
          clear a0 a1 a2
          refine (spoil_sp lf SV (by have := HB5.out; omega) (by have := HB5.out; omega)).mono ?_
          rintro e w24 ⟨rfl, hS, ht⟩
          replace gC := far_then gC hS
          clear SV hS
          clear BV'
          clear ht
          obtain ⟨BN, BM, BA, BB, RA, RB, RN, RM, G⟩ := HW5.out
          replace BN := BN.keep gC
          replace BM := BM.keep gC
          replace BA := BA.keep gC
          replace BB := BB.keep gC
          replace RA := RA.keep gC
          replace RB := RB.keep gC
          replace RN := RN.keep gC
          replace RM := RM.keep gC
          replace G := G.then gC
          clear gC HW5
          have a0 := BA.c0
          have a1 := BA.c1
          have a2 := BA.c2
          have b0 := BN.c0
          have b1 := BN.c1
          have b2 := BN.c2
          go_wp2_with fail
          clear a0 a1 a2 b0 b1 b2
          refine (same_as lf oa oc ob od ka kc va vc K V kl vl w24 RA RN HKV.out.1 HKV.out.2.1).mono ?_
          rintro e w25 ⟨rfl, gc⟩
          replace BB := BB.keep gc
          replace BM := BM.keep gc
          replace RB := RB.keep gc
          replace RM := RM.keep gc
          replace G := G.then gc
          clear gc
          have a0 := BB.c0
          have a1 := BB.c1
          have a2 := BB.c2
          have b0 := BM.c0
          have b1 := BM.c1
          have b2 := BM.c2
          go_wp2_with fail
          clear a0 a1 a2 b0 b1 b2
          refine (same_as lf' qa qc qb qd ka' kc' va' vc' K' V' kl' vl' w25 RB RM HKV.out.2.2.1 HKV.out.2.2.2).mono ?_
          rintro e w26 ⟨rfl, gc⟩
          replace G := G.then gc
          go_wp2_with fail
          go_ret
          exact ⟨rfl, G⟩
end Go.Proofs.Ytlaeonemlodhmaa
