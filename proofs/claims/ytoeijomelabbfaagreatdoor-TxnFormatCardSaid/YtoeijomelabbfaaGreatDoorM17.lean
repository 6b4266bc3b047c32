/- Texts Pb, Pc, Pd, Pe of the library, joined. -/
import Derived.Test.YtoeijomelabbfaaGreatDoorM16
import Derived.BigRegion
/- The places of a space: Swap. -/
namespace Go.Proofs.YtoeijomelabbfaaGreatDoor
set_option maxRecDepth 200000
open Go.RowKit
set_option linter.unusedVariables false
set_option linter.unusedSimpArgs false
attribute [local go_sem ↓] Go.wp_at_zero Go.wp_at_succ

section
variable (pb lb lo n cl sb so m cs i j x y : Nat) (vx vy : Value) (w : World) (hi : i < n) (hj : j < n) (hx : x < m) (hy : y < m)
  (c0 : w.cell? ⟨pb, 0, none⟩ = some (.slice (some ⟨lb, lo, none⟩) n cl))
  (c1 : w.cell? ⟨pb, 1, none⟩ = some (.slice (some ⟨sb, so, none⟩) m cs))
  (ci : w.cell? ⟨lb, lo + i, none⟩ = some (.int .i64 x)) (cj : w.cell? ⟨lb, lo + j, none⟩ = some (.int .i64 y))
  (fi : w.frozen? ⟨lb, lo + i, none⟩ = false) (fj : w.frozen? ⟨lb, lo + j, none⟩ = false)
  (ux : w.cell? ⟨sb, so + x, none⟩ = some vx) (uy : w.cell? ⟨sb, so + y, none⟩ = some vy)
  (gx : w.frozen? ⟨sb, so + x, none⟩ = false) (gy : w.frozen? ⟨sb, so + y, none⟩ = false)
  (hpl : pb ≠ lb) (hls : lb ≠ sb) (hij : i = j ↔ x = y)
include hi hj hx hy c0 c1 ci cj fi fj ux uy gx gy hpl hls hij
set_option maxRecDepth 20000 in
theorem swap_rawF :
    Calls Tryz.prog 253 #[.pointer (some ⟨pb, 0, none⟩), .int .i64 i, .int .i64 j] w fun e w' => e = .returned (.tuple #[]) ∧
      w' = ((((w.setCell ⟨lb, lo + i, none⟩ (.int .i64 y)).setCell ⟨lb, lo + j, none⟩ (.int .i64 x)).drew.setCell ⟨sb, so + y, none⟩ (.int .i64 i)).setCell ⟨sb, so + x, none⟩ (.int .i64 j)).drew := by
  obtain ⟨v', hy'⟩ := cell?_setCell_some (w := w) (p := ⟨lb, lo + i, none⟩) (x := .int .i64 y) (q := ⟨lb, lo + j, none⟩) cj
  go_enter Tryz.func253, Tryz.ntmps253
  go_wp2
  go_region
  have h1 : Chg [lb] w ((w.setCell ⟨lb, lo + i, none⟩ (.int .i64 y)).setCell ⟨lb, lo + j, none⟩ (.int .i64 x)).drew :=
    (((Chg.setCell w ⟨lb, lo + i, none⟩ _).trans (Chg.setCell _ ⟨lb, lo + j, none⟩ _) (fun _ h _ => h) (fun _ h _ => h)).then (Chg.drew [] _))
  have k1 : (((w.setCell ⟨lb, lo + i, none⟩ (.int .i64 y)).setCell ⟨lb, lo + j, none⟩ (.int .i64 x)).drew).cell? ⟨lb, lo + i, none⟩ = some (.int .i64 y) := by
    show ((w.setCell ⟨lb, lo + i, none⟩ (.int .i64 y)).setCell ⟨lb, lo + j, none⟩ (.int .i64 x)).cell? _ = _
    by_cases hb : i = j
    · have e := hij.1 hb
      subst hb e
      exact World.cell?_setCell_same _ _ _ hy'
    · rw [World.cell?_setCell_other _ _ _ _ (by simp [hb])]
      exact World.cell?_setCell_same _ _ _ ci
  have k2 : (((w.setCell ⟨lb, lo + i, none⟩ (.int .i64 y)).setCell ⟨lb, lo + j, none⟩ (.int .i64 x)).drew).cell? ⟨lb, lo + j, none⟩ = some (.int .i64 x) := by
    show ((w.setCell ⟨lb, lo + i, none⟩ (.int .i64 y)).setCell ⟨lb, lo + j, none⟩ (.int .i64 x)).cell? _ = _
    exact World.cell?_setCell_same _ _ _ hy'
  have c0' := h1.cellv c0 (by simpa using hpl)
  have c1' := h1.cellv c1 (by simpa using hpl)
  have ux1 := h1.cellv ux (by simpa using fun e => hls e.symm)
  have uy1 := h1.cellv uy (by simpa using fun e => hls e.symm)
  have gx1 := (h1.frozen (p := ⟨sb, so + x, none⟩) (block_lt_of_cell ux) (by simpa using fun e => hls e.symm)).trans gx
  have gy1 := (h1.frozen (p := ⟨sb, so + y, none⟩) (block_lt_of_cell uy) (by simpa using fun e => hls e.symm)).trans gy
  clear h1 hy' ux uy gx gy ci cj fi fj c0 c1
  generalize hw1 : ((w.setCell ⟨lb, lo + i, none⟩ (.int .i64 y)).setCell ⟨lb, lo + j, none⟩ (.int .i64 x)).drew = w1 at *
  have HW := mkHid hw1
  clear hw1
  obtain ⟨y2, hy2⟩ := cell?_setCell_some (w := w1) (p := ⟨sb, so + y, none⟩) (x := .int .i64 i) (q := ⟨sb, so + x, none⟩) ux1
  go_wp2
  go_region
  go_end0
  exact ⟨rfl, by rw [← HW.out]⟩
end
theorem swap_anyF (i j : Nat) (B pb : Nat) (la : Option Addr) (cl : Nat) (sa : Option Addr) (cs n : Nat) (L : List Nat) (w : World) (h : PlAt w B pb la cl sa cs n L) (hi : i < L.length) (hj : j < L.length) :
    Calls Tryz.prog 253 #[.pointer (some ⟨pb, 0, none⟩), .int .i64 i, .int .i64 j] w fun e w' => e = .returned (.tuple #[]) ∧ PlAt w' B pb la cl sa cs n (swpF L i j hi hj) ∧ Chg (fp la cl ++ fp sa cs) w w' := by
  have hle := h.le
  have hnn := h.nn
  have hrl := h.r.le
  obtain ⟨S, hS, hok⟩ := h.s
  have hsl := hS.le
  have hlx := hok.lt _ (List.getElem_mem hi)
  have hly := hok.lt _ (List.getElem_mem hj)
  have hSl := hok.len
  have hr := h.r
  have c0 := h.c0
  have c1 := h.c1
  obtain ⟨lb, lo, rfl, _, hs1, hv1⟩ := h.r.at_ (by omega)
  obtain ⟨sb, so, rfl, _, hs2, hv2⟩ := hS.at_ (by omega)
  have hfl : fp (some ⟨lb, lo, none⟩) cl = [lb] := fp_some _ _ _ (by omega)
  have hfs : fp (some ⟨sb, so, none⟩) cs = [sb] := fp_some _ _ _ (by omega)
  have d1 := h.d1
  have d2 := h.d2
  have d3 := h.d3
  rw [hfl] at d1 d3
  rw [hfs] at d2 d3
  simp only [List.mem_singleton] at d1 d2 d3
  have d3' : lb ≠ sb := d3 lb rfl
  refine (swap_rawF pb lb lo L.length cl sb so n cs i j L[i] L[j] _ _ w hi hj hlx hly c0 c1 (hv1 i _ (ivs_get hi)) (hv1 j _ (ivs_get hj)) (hs1 i (by omega)).2 (hs1 j (by omega)).2 (hv2 _ _ (zvs_get (hok.at_ i hi))) (hv2 _ _ (zvs_get (hok.at_ j hj))) (hs2 _ (by omega)).2 (hs2 _ (by omega)).2 d1 d3' (hok.inj hi hj)).mono ?_
  rintro e w' ⟨he, rfl⟩
  have g1 : Chg [lb] w ((w.setCell ⟨lb, lo + i, none⟩ (.int .i64 L[j])).setCell ⟨lb, lo + j, none⟩ (.int .i64 L[i])).drew :=
    (((Chg.setCell w ⟨lb, lo + i, none⟩ _).trans (Chg.setCell _ ⟨lb, lo + j, none⟩ _) (fun _ h _ => h) (fun _ h _ => h)).then (Chg.drew [] _))
  have r1 := ((hr.set i hi (.int .i64 (L[j] : Int))).set j hj (.int .i64 (L[i] : Int))).chg (Chg.drew [] _) (by simp)
  rw [ivs_set, ivs_set] at r1
  have c01 := g1.cellv c0 (by simpa using d1)
  have c11 := g1.cellv c1 (by simpa using d1)
  have f01 := (g1.frozen (p := ⟨pb, 0, none⟩) (block_lt_of_cell c0) (by simpa using d1)).trans h.f0
  have s1 := hS.chg g1 (by rw [hfs]; simpa using fun e => d3' e.symm)
  generalize ((w.setCell ⟨lb, lo + i, none⟩ (.int .i64 L[j])).setCell ⟨lb, lo + j, none⟩ (.int .i64 L[i])).drew = w1 at *
  have g2 : Chg [sb] w1 ((w1.setCell ⟨sb, so + L[j], none⟩ (.int .i64 i)).setCell ⟨sb, so + L[i], none⟩ (.int .i64 j)).drew :=
    ((Chg.setCell w1 ⟨sb, so + L[j], none⟩ _).trans (Chg.setCell _ ⟨sb, so + L[i], none⟩ _) (fun _ h _ => h) (fun _ h _ => h)).then (Chg.drew [] _)
  have s2 := ((s1.set L[j] hly (.int .i64 (i : Int))).set L[i] hlx (.int .i64 (j : Int))).chg (Chg.drew [] _) (by simp)
  rw [zvs_set, zvs_set] at s2
  refine ⟨he, ⟨?_, ?_, g2.cellv c11 (by simpa using d2), ?_, ⟨_, s2, hok.swap hi hj⟩, hnn, h.pB, h.d1, h.d2, h.d3⟩, ?_⟩
  · rw [swp_lenF]; exact g2.cellv c01 (by simpa using d2)
  · exact (g2.frozen (p := ⟨pb, 0, none⟩) (block_lt_of_cell c01) (by simpa using d2)).trans f01
  · rw [swp_lenF]; exact r1.chg g2 (by rw [hfl]; simpa using d3')
  · exact g1.trans g2 (fun k hk _ => by rw [hfl]; simp at hk; simp [hk]) (fun k hk _ => by rw [hfs]; simp at hk; simp [hk])
end Go.Proofs.YtoeijomelabbfaaGreatDoor

/- heap.up, heap.down over the places of a space. -/
namespace Go.Proofs.YtoeijomelabbfaaGreatDoor
set_option maxRecDepth 200000
open Go.RowKit
set_option linter.unusedVariables false
set_option linter.unusedSimpArgs false
attribute [local go_sem ↓] Go.wp_at_zero Go.wp_at_succ

def keyF (E : List Nat) (k : Nat) : Nat := E.getD k 0
theorem key_ltF {E : List Nat} {k : Nat} (h : k < E.length) : keyF E k = E[k] := by simp [keyF, h]
theorem key_swpF (E : List Nat) (i j : Nat) (hi : i < E.length) (hj : j < E.length) (k : Nat) (hk : k < E.length) : keyF (swpF E i j hi hj) k = if k = j then keyF E i else if k = i then keyF E j else keyF E k := by
  rw [key_ltF (by rw [swp_lenF]; exact hk), swp_getF, key_ltF hi, key_ltF hj, key_ltF hk]
/-- The first n are a heap. -/
def HeapF (E : List Nat) (n : Nat) : Prop := ∀ k, 0 < k → k < n → keyF E ((k - 1) / 2) ≤ keyF E k
/-- .. but at the spot j, which may be too small. -/
def UpOkF (E : List Nat) (j n : Nat) : Prop := (∀ k, 0 < k → k < n → k ≠ j → keyF E ((k - 1) / 2) ≤ keyF E k) ∧ ∀ k, 0 < k → k < n → (k - 1) / 2 = j → 0 < j → keyF E ((j - 1) / 2) ≤ keyF E k
/-- .. but at the spot i, which may be anything. -/
def DownOkF (E : List Nat) (i n : Nat) : Prop := (∀ k, 0 < k → k < n → k ≠ i → (k - 1) / 2 ≠ i → keyF E ((k - 1) / 2) ≤ keyF E k) ∧ ∀ k, 0 < k → k < n → (k - 1) / 2 = i → 0 < i → keyF E ((i - 1) / 2) ≤ keyF E k
theorem up_swpF {E : List Nat} {i j n : Nat} (hn : n ≤ E.length) (h : UpOkF E j n) (hj0 : 0 < j) (hjn : j < n) (hj : j < E.length) (hij : i = (j - 1) / 2) (hi : i < E.length) (hlt : keyF E j < keyF E i) : UpOkF (swpF E i j hi hj) i n := by
  obtain ⟨h1, h2⟩ := h
  subst hij
  have hk := key_swpF E ((j - 1) / 2) j hi hj
  generalize hE' : swpF E ((j - 1) / 2) j hi hj = E' at hk ⊢
  clear hE'
  refine ⟨fun k k0 kn ki => ?_, fun k k0 kn kp i0 => ?_⟩
  · rw [hk ((k - 1) / 2) (by omega), hk k (by omega)]
    by_cases a : k = j
    · subst a
      rw [if_neg (by omega), if_pos rfl, if_pos rfl]
      omega
    · rw [if_neg a, if_neg ki]
      by_cases b : (k - 1) / 2 = j
      · rw [if_pos b]
        exact h2 k k0 kn b hj0
      · rw [if_neg b]
        by_cases c : (k - 1) / 2 = (j - 1) / 2
        · rw [if_pos c]
          have := h1 k k0 kn a
          rw [c] at this
          omega
        · rw [if_neg c]
          exact h1 k k0 kn a
  · rw [hk (((j - 1) / 2 - 1) / 2) (by omega), hk k (by omega), if_neg (by omega), if_neg (by omega)]
    have hp := h1 ((j - 1) / 2) i0 (by omega) (by omega)
    by_cases a : k = j
    · rw [if_pos a]
      exact hp
    · rw [if_neg a, if_neg (by omega)]
      have := h1 k k0 kn a
      rw [kp] at this
      omega
theorem up_endF {E : List Nat} {j n : Nat} (h : UpOkF E j n) (hj : j = 0 ∨ keyF E ((j - 1) / 2) ≤ keyF E j) : HeapF E n := by
  intro k k0 kn
  by_cases a : k = j
  · rcases hj with hj | hj
    · omega
    · rw [a]; exact hj
  · exact h.1 k k0 kn a
theorem down_swpF {E : List Nat} {i j n : Nat} (h : DownOkF E i n) (hn : n ≤ E.length) (hj : j < n) (hp : (j - 1) / 2 = i) (hj0 : 0 < j) (hlt : keyF E j < keyF E i) (hmin : ∀ k, 0 < k → k < n → (k - 1) / 2 = i → keyF E j ≤ keyF E k) :
    DownOkF (swpF E i j (by omega) (by omega)) j n ∧ keyF (swpF E i j (by omega) (by omega)) ((j - 1) / 2) ≤ keyF (swpF E i j (by omega) (by omega)) j := by
  obtain ⟨h1, h2⟩ := h
  have hi : i < E.length := by omega
  have hk := key_swpF E i j hi (by omega)
  generalize hE' : swpF E i j hi (by omega) = E' at hk ⊢
  clear hE'
  refine ⟨⟨fun k k0 kn ki kp => ?_, fun k k0 kn kp j0 => ?_⟩, ?_⟩
  · rw [hk ((k - 1) / 2) (by omega), hk k (by omega), if_neg kp, if_neg ki]
    by_cases a : k = i
    · rw [if_pos a, if_neg (by omega)]
      subst a
      exact h2 j hj0 hj hp k0
    · rw [if_neg a]
      by_cases b : (k - 1) / 2 = i
      · rw [if_pos b]
        exact hmin k k0 kn b
      · rw [if_neg b]
        exact h1 k k0 kn a b
  · rw [hk ((j - 1) / 2) (by omega), hk k (by omega), if_neg (by omega), if_pos hp, if_neg (by omega), if_neg (by omega)]
    have := h1 k k0 kn (by omega) (by omega)
    rw [kp] at this
    exact this
  · rw [hk ((j - 1) / 2) (by omega), hk j (by omega), if_neg (by omega), if_pos hp, if_pos rfl]
    omega
theorem down_endF {E : List Nat} {i n : Nat} (h : DownOkF E i n) (hmin : ∀ k, 0 < k → k < n → (k - 1) / 2 = i → keyF E i ≤ keyF E k) : UpOkF E i n := by
  refine ⟨fun k k0 kn ki => ?_, h.2⟩
  by_cases a : (k - 1) / 2 = i
  · rw [a]; exact hmin k k0 kn a
  · exact h.1 k k0 kn ki a
theorem heap_topF {E : List Nat} {n : Nat} (h : HeapF E n) : ∀ k, k < n → keyF E 0 ≤ keyF E k := by
  intro k
  induction k using Nat.strongRecOn with
  | _ k ih =>
    intro hk
    by_cases a : k = 0
    · rw [a]; exact Nat.le_refl _
    · exact Nat.le_trans (ih ((k - 1) / 2) (by omega) (by omega)) (h k (by omega) hk)

theorem less_keyF (i j : Nat) (b : Bool) (B pb : Nat) (la : Option Addr) (cl : Nat) (sa : Option Addr) (cs m : Nat) (E : List Nat) (w : World) (h : PlAt w B pb la cl sa cs m E) (hi : i < E.length) (hj : j < E.length) (hb : decide (keyF E i < keyF E j) = b) :
    Calls Tryz.prog 250 #[.pointer (some ⟨pb, 0, none⟩), .int .i64 i, .int .i64 j] w fun e w' => e = .returned (.bool b) ∧ Chg [] w w' := by
  rw [← hb, key_ltF hi, key_ltF hj]
  exact less_anyF B pb la cl sa cs m E w h i j hi hj
set_option maxRecDepth 20000 in
theorem up_anyF (j0 n : Nat) (B pb : Nat) (la : Option Addr) (cl : Nat) (sa : Option Addr) (cs m : Nat) (E : List Nat) (w : World) (h : PlAt w B pb la cl sa cs m E) (hn : n ≤ E.length) (hj : j0 < n) (hu : UpOkF E j0 n) :
    Calls Tryz.prog 176 #[.iface 185 (.pointer (some ⟨pb, 0, none⟩)), .int .i64 j0] w fun e w' => e = .returned (.tuple #[]) ∧ ∃ E', PlAt w' B pb la cl sa cs m E' ∧ E'.Perm E ∧ HeapF E' n ∧ (∀ k, n ≤ k → E'[k]? = E[k]?) ∧ Chg (fp la cl ++ fp sa cs) w w' := by
  have hsm := h.le
  have hnn := h.nn
  go_enter Tryz.func176, Tryz.ntmps176
  go_wp2
  go_loopw [1] (fun v wr => ∃ (j : Nat) (D : List Nat), v = .int .i64 j ∧ j < n ∧ PlAt wr B pb la cl sa cs m D ∧ D.Perm E ∧ UpOkF D j n ∧ (∀ k, n ≤ k → D[k]? = E[k]?) ∧ Chg (fp la cl ++ fp sa cs) w wr) (fun v _ => (Go.RowKit.intOf v).toNat)
  case atStart => exact ⟨j0, E, rfl, hj, h, List.Perm.refl _, hu, fun _ _ => rfl, Chg.refl _ _⟩
  case round =>
    obtain ⟨j, D, rfl, hjn, hD, hp, hU, hout, hc⟩ := hrel
    have hlen := hp.length_eq
    by_cases hj0 : j = 0
    · subst hj0
      have hH := up_endF hU (Or.inl rfl)
      go_wp2
      go_end0
      exact ⟨rfl, D, hD, hp, hH, hout, hc⟩
    · obtain ⟨m1, rfl⟩ : ∃ m, j = m + 1 := ⟨j - 1, by omega⟩
      obtain ⟨p, hp2⟩ : ∃ p, p = m1 / 2 := ⟨_, rfl⟩
      have hq : (m1 : Int) / 2 = (p : Int) := by omega
      have hpm : p < m1 + 1 := by omega
      have hmb : m1 < 100000 := by omega
      have Hp := mkHid hp2
      clear hp2
      have HU := mkHid hU
      have HL := mkHid hlen
      have HO := mkHid hout
      clear hU hlen hout
      have mL := fun u => meth_lessF u ⟨pb, 0, none⟩
      have mS := fun u => meth_swapF u ⟨pb, 0, none⟩
      have hDp : p < D.length := by have := HL.out; omega
      have hDm : m1 + 1 < D.length := by have := HL.out; omega
      have hne : ((p : Int) == (m1 : Int) + 1) = false := beq_eq_false_iff_ne.2 (by omega)
      by_cases hlt : keyF D (m1 + 1) < keyF D p
      · have lA := less_keyF (m1 + 1) p true B pb la cl sa cs m D wr hD hDm hDp (decide_eq_true hlt)
        go_wp2_with (first | (go_at_call 250; refine lA.mono ?_; rintro e w2 ⟨rfl, hg2⟩; have hD2 := hD.keep hg2) | (go_at_call 253; refine (swap_anyF p (m1 + 1) B pb la cl sa cs m D w2 hD2 hDp hDm).mono ?_; rintro e w3 ⟨rfl, hD3, hg3⟩))
        have hU3 := up_swpF (i := p) (j := m1 + 1) (by have := HL.out; omega) HU.out (by omega) hjn hDm (by rw [Hp.out, Nat.add_sub_cancel]) hDp hlt
        refine ⟨⟨p, _, rfl, by omega, hD3, (swp_permF D p (m1 + 1) hDp hDm).trans hp, hU3, fun k hk => ?_, (hc.then hg2).trans hg3 (fun _ h _ => h) (fun k hk _ => hk)⟩, by simp [Go.RowKit.intOf]; omega⟩
        rw [← HO.out k hk]
        unfold swpF
        rw [List.getElem?_set_ne (by omega), List.getElem?_set_ne (by omega)]
      · have lA := less_keyF (m1 + 1) p false B pb la cl sa cs m D wr hD hDm hDp (decide_eq_false hlt)
        have hH := up_endF (E := D) (j := m1 + 1) HU.out (Or.inr (by simp only [Nat.add_sub_cancel, ← Hp.out]; omega))
        have HH := mkHid hH
        clear hH
        go_wp2_with (first | (go_at_call 250; refine lA.mono ?_; rintro e w2 ⟨rfl, hg2⟩))
        go_end0
        exact ⟨rfl, D, hD.keep hg2, hp, HH.out, HO.out, hc.then hg2⟩
set_option maxRecDepth 20000 in
set_option maxHeartbeats 2000000 in
theorem down_anyF (i0 n : Nat) (B pb : Nat) (la : Option Addr) (cl : Nat) (sa : Option Addr) (cs m : Nat) (E : List Nat) (w : World) (h : PlAt w B pb la cl sa cs m E) (hn : n ≤ E.length) (hi : i0 ≤ 100000) (hu : DownOkF E i0 n) :
    Calls Tryz.prog 177 #[.iface 185 (.pointer (some ⟨pb, 0, none⟩)), .int .i64 i0, .int .i64 n] w fun e w' => ∃ (b : Bool) (E' : List Nat), e = .returned (.bool b) ∧ PlAt w' B pb la cl sa cs m E' ∧ E'.Perm E ∧ (∀ k, n ≤ k → E'[k]? = E[k]?) ∧ (b = true → HeapF E' n) ∧ (b = false → UpOkF E' i0 n) ∧ Chg (fp la cl ++ fp sa cs) w w' := by
  have hsm : E.length ≤ 1024 := Nat.le_trans h.le h.nn
  go_enter Tryz.func177, Tryz.ntmps177
  go_wp2
  go_loopw [7] (fun v wr => ∃ (i : Nat) (D : List Nat), v = .int .i64 i ∧ i0 ≤ i ∧ i ≤ 100000 ∧ PlAt wr B pb la cl sa cs m D ∧ D.Perm E ∧ DownOkF D i n ∧ (∀ k, n ≤ k → D[k]? = E[k]?) ∧ (i0 < i → 0 < i ∧ i < n ∧ keyF D ((i - 1) / 2) ≤ keyF D i) ∧ Chg (fp la cl ++ fp sa cs) w wr) (fun v _ => 100000 - (Go.RowKit.intOf v).toNat)
  case atStart => exact ⟨i0, E, rfl, Nat.le_refl _, hi, h, List.Perm.refl _, hu, fun _ _ => rfl, fun h => absurd h (Nat.lt_irrefl _), Chg.refl _ _⟩
  case round =>
    obtain ⟨i, D, rfl, hi0, hib, hD, hp, hU, hout, hpar, hc⟩ := hrel
    have hlen := hp.length_eq
    by_cases hj : 2 * i + 1 < n
    · obtain ⟨j1, hj1⟩ : ∃ j1, j1 = 2 * i + 1 := ⟨_, rfl⟩
      rw [← hj1] at hj
      have e1 : 2 * (i : Int) + 1 = (j1 : Int) := by omega
      have J1 := mkHid hj1
      have hDi : i < D.length := by omega
      have hD1 : j1 < D.length := by omega
      have d1 : decide (n ≤ j1) = false := decide_eq_false (by omega)
      have d1' : decide ((n : Int) ≤ (j1 : Int)) = false := decide_eq_false (by omega)
      have d2 : decide ((j1 : Int) < 0) = false := decide_eq_false (by omega)
      have hj1b : j1 < 100000 := by omega
      have mL := fun u => meth_lessF u ⟨pb, 0, none⟩
      have mS := fun u => meth_swapF u ⟨pb, 0, none⟩
      -- the lesser child, and what comes of it
      have stop : ∀ J, J < n → 0 < J → (J - 1) / 2 = i → (∀ k, 0 < k → k < n → (k - 1) / 2 = i → keyF D J ≤ keyF D k) → ¬ keyF D J < keyF D i → (decide (i0 < i) = true → HeapF D n) ∧ (decide (i0 < i) = false → UpOkF D i0 n) := by
        intro J a1 a2 a3 a4 a5
        have hup : UpOkF D i n := down_endF hU (fun k k0 kn kp => by have := a4 k k0 kn kp; omega)
        refine ⟨fun h1 => ?_, fun h1 => ?_⟩
        · obtain ⟨h2, h3, h4⟩ := hpar (by simpa using h1)
          intro k k0 kn
          by_cases a : k = i
          · rw [a]; exact h4
          · exact hup.1 k k0 kn a
        · have : i0 = i := by simp at h1; omega
          rw [this]; exact hup
      have goes : ∀ J (hJ : J < D.length), J < n → 0 < J → (J - 1) / 2 = i → (∀ k, 0 < k → k < n → (k - 1) / 2 = i → keyF D J ≤ keyF D k) → keyF D J < keyF D i →
          (swpF D i J hDi hJ).Perm E ∧ DownOkF (swpF D i J hDi hJ) J n ∧ (∀ k, n ≤ k → (swpF D i J hDi hJ)[k]? = E[k]?) ∧ keyF (swpF D i J hDi hJ) ((J - 1) / 2) ≤ keyF (swpF D i J hDi hJ) J := by
        intro J hJ a1 a2 a3 a4 a5
        obtain ⟨b1, b2⟩ := down_swpF hU (by omega) a1 a3 a2 a5 a4
        refine ⟨(swp_permF D i J hDi hJ).trans hp, b1, fun k hk => ?_, b2⟩
        rw [← hout k hk]
        unfold swpF
        rw [List.getElem?_set_ne (by omega), List.getElem?_set_ne (by omega)]
      have Stop := mkHid stop
      have Goes := mkHid goes
      have HL := mkHid hlen
      have HO := mkHid hout
      clear stop goes hU hout hpar hlen hj1
      by_cases hj2 : j1 + 1 < n
      · have hD2 : j1 + 1 < D.length := by have := HL.out; omega
        have d3 : decide (j1 + 1 < n) = true := decide_eq_true hj2
        have d3' : decide ((j1 : Int) + 1 < (n : Int)) = true := decide_eq_true (by omega)
        by_cases hlt : keyF D (j1 + 1) < keyF D j1
        · have hmin : ∀ k, 0 < k → k < n → (k - 1) / 2 = i → keyF D (j1 + 1) ≤ keyF D k := fun k k0 kn kp => by
            have : k = j1 ∨ k = j1 + 1 := by have := J1.out; omega
            rcases this with rfl | rfl <;> omega
          have Hm := mkHid hmin
          clear hmin
          by_cases hgo : keyF D (j1 + 1) < keyF D i
          · have tok : True := trivial
            go_wp2_with (first | (go_at_call 250; have _t := tok; refine (less_keyF (j1 + 1) j1 true B pb la cl sa cs m D wr hD hD2 hD1 (decide_eq_true hlt)).mono ?_; rintro e w2 ⟨rfl, hg2⟩; clear tok; have hE2 := hD.keep hg2) | (go_at_call 250; refine (less_keyF (j1 + 1) i true B pb la cl sa cs m D w2 hE2 hD2 hDi (decide_eq_true hgo)).mono ?_; rintro e w3 ⟨rfl, hg3⟩; have hE3 := hE2.keep hg3) | (go_at_call 253; refine (swap_anyF i (j1 + 1) B pb la cl sa cs m D w3 hE3 hDi hD2).mono ?_; rintro e w4 ⟨rfl, hE4, hg4⟩))
            obtain ⟨p1, p2, p3, p4⟩ := Goes.out (j1 + 1) hD2 hj2 (by omega) (by have := J1.out; omega) Hm.out hgo
            have h9 := J1.out
            exact ⟨⟨j1 + 1, _, by first | rfl | go_num, by omega, by omega, hE4, p1, p2, p3, fun _ => ⟨by omega, hj2, p4⟩, ((hc.then hg2).then hg3).trans hg4 (fun _ h _ => h) (fun k hk _ => hk)⟩, by simp [Go.RowKit.intOf]; omega⟩
          · have tok : True := trivial
            go_wp2_with (first | (go_at_call 250; have _t := tok; refine (less_keyF (j1 + 1) j1 true B pb la cl sa cs m D wr hD hD2 hD1 (decide_eq_true hlt)).mono ?_; rintro e w2 ⟨rfl, hg2⟩; clear tok; have hE2 := hD.keep hg2) | (go_at_call 250; refine (less_keyF (j1 + 1) i false B pb la cl sa cs m D w2 hE2 hD2 hDi (decide_eq_false hgo)).mono ?_; rintro e w3 ⟨rfl, hg3⟩; have hE3 := hE2.keep hg3))
            go_ret
            obtain ⟨p1, p2⟩ := Stop.out (j1 + 1) hj2 (by omega) (by have := J1.out; omega) Hm.out hgo
            exact ⟨decide (i0 < i), D, rfl, hE3, hp, HO.out, p1, p2, (hc.then hg2).then hg3⟩
        · have hmin : ∀ k, 0 < k → k < n → (k - 1) / 2 = i → keyF D (j1) ≤ keyF D k := fun k k0 kn kp => by
            have : k = j1 ∨ k = j1 + 1 := by have := J1.out; omega
            rcases this with rfl | rfl <;> omega
          have Hm := mkHid hmin
          clear hmin
          by_cases hgo : keyF D (j1) < keyF D i
          · have tok : True := trivial
            go_wp2_with (first | (go_at_call 250; have _t := tok; refine (less_keyF (j1 + 1) j1 false B pb la cl sa cs m D wr hD hD2 hD1 (decide_eq_false hlt)).mono ?_; rintro e w2 ⟨rfl, hg2⟩; clear tok; have hE2 := hD.keep hg2) | (go_at_call 250; refine (less_keyF (j1) i true B pb la cl sa cs m D w2 hE2 hD1 hDi (decide_eq_true hgo)).mono ?_; rintro e w3 ⟨rfl, hg3⟩; have hE3 := hE2.keep hg3) | (go_at_call 253; refine (swap_anyF i (j1) B pb la cl sa cs m D w3 hE3 hDi hD1).mono ?_; rintro e w4 ⟨rfl, hE4, hg4⟩))
            obtain ⟨p1, p2, p3, p4⟩ := Goes.out (j1) hD1 hj (by omega) (by have := J1.out; omega) Hm.out hgo
            have h9 := J1.out
            exact ⟨⟨j1, _, by first | rfl | go_num, by omega, by omega, hE4, p1, p2, p3, fun _ => ⟨by omega, hj, p4⟩, ((hc.then hg2).then hg3).trans hg4 (fun _ h _ => h) (fun k hk _ => hk)⟩, by simp [Go.RowKit.intOf]; omega⟩
          · have tok : True := trivial
            go_wp2_with (first | (go_at_call 250; have _t := tok; refine (less_keyF (j1 + 1) j1 false B pb la cl sa cs m D wr hD hD2 hD1 (decide_eq_false hlt)).mono ?_; rintro e w2 ⟨rfl, hg2⟩; clear tok; have hE2 := hD.keep hg2) | (go_at_call 250; refine (less_keyF (j1) i false B pb la cl sa cs m D w2 hE2 hD1 hDi (decide_eq_false hgo)).mono ?_; rintro e w3 ⟨rfl, hg3⟩; have hE3 := hE2.keep hg3))
            go_ret
            obtain ⟨p1, p2⟩ := Stop.out (j1) hj (by omega) (by have := J1.out; omega) Hm.out hgo
            exact ⟨decide (i0 < i), D, rfl, hE3, hp, HO.out, p1, p2, (hc.then hg2).then hg3⟩
      · have d3 : decide (j1 + 1 < n) = false := decide_eq_false hj2
        have d3' : decide ((j1 : Int) + 1 < (n : Int)) = false := decide_eq_false (by omega)
        have hmin : ∀ k, 0 < k → k < n → (k - 1) / 2 = i → keyF D (j1) ≤ keyF D k := fun k k0 kn kp => by
          have : k = j1 := by have := J1.out; omega
          rw [this]; exact Nat.le_refl _
        have Hm := mkHid hmin
        clear hmin
        by_cases hgo : keyF D (j1) < keyF D i
        · go_wp2_with (first | (go_at_call 250; refine (less_keyF (j1) i true B pb la cl sa cs m D wr hD hD1 hDi (decide_eq_true hgo)).mono ?_; rintro e w3 ⟨rfl, hg3⟩; have hE3 := hD.keep hg3) | (go_at_call 253; refine (swap_anyF i (j1) B pb la cl sa cs m D w3 hE3 hDi hD1).mono ?_; rintro e w4 ⟨rfl, hE4, hg4⟩))
          obtain ⟨p1, p2, p3, p4⟩ := Goes.out (j1) hD1 hj (by omega) (by have := J1.out; omega) Hm.out hgo
          have h9 := J1.out
          exact ⟨⟨j1, _, by first | rfl | go_num, by omega, by omega, hE4, p1, p2, p3, fun _ => ⟨by omega, hj, p4⟩, ((hc).then hg3).trans hg4 (fun _ h _ => h) (fun k hk _ => hk)⟩, by simp [Go.RowKit.intOf]; omega⟩
        · go_wp2_with (first | (go_at_call 250; refine (less_keyF (j1) i false B pb la cl sa cs m D wr hD hD1 hDi (decide_eq_false hgo)).mono ?_; rintro e w3 ⟨rfl, hg3⟩; have hE3 := hD.keep hg3))
          go_ret
          obtain ⟨p1, p2⟩ := Stop.out (j1) hj (by omega) (by have := J1.out; omega) Hm.out hgo
          exact ⟨decide (i0 < i), D, rfl, hE3, hp, HO.out, p1, p2, (hc).then hg3⟩
    · have hfin : HeapF D n ∨ i0 = i := by
        rcases Nat.lt_or_ge i0 i with h1 | h1
        · left
          obtain ⟨h2, h3, h4⟩ := hpar h1
          intro k k0 kn
          by_cases a : k = i
          · rw [a]; exact h4
          · exact hU.1 k k0 kn a (by omega)
        · right; omega
      have hup : UpOkF D i n := down_endF hU (fun k k0 kn kp => by omega)
      have Hf := mkHid hfin
      have Hu := mkHid hup
      have Ho := mkHid hout
      clear hfin hup hout hU hpar hlen
      have hd : decide ((n : Int) ≤ 2 * (i : Int) + 1) = true := decide_eq_true (by omega)
      go_wp2_with fail
      go_ret
      exact ⟨decide (i0 < i), D, rfl, hD, hp, Ho.out, fun h1 => Hf.out.resolve_right (by simp at h1; omega), fun h1 => by
        have : i0 = i := by simp at h1; omega
        rw [this]; exact Hu.out, hc⟩
end Go.Proofs.YtoeijomelabbfaaGreatDoor

/- The places of a space: Push, Pop, heap.Push, heap.Remove. -/
namespace Go.Proofs.YtoeijomelabbfaaGreatDoor
set_option maxRecDepth 200000
open Go.RowKit
set_option linter.unusedVariables false
set_option linter.unusedSimpArgs false
attribute [local go_sem ↓] Go.wp_at_zero Go.wp_at_succ

theorem Room.shortenF {w : World} {B : Nat} {ao : Option Addr} {n c : Nat} {xs : List Value} (h : Room w B ao n c xs) {m : Nat} (hm : m ≤ n) : Room w B ao m c (xs.take m) := by
  have h1 := h.len
  have h2 := h.le
  refine ⟨by simp; omega, by omega, h.max, fun hc => ?_⟩
  obtain ⟨b, o, e, hB, hs, hv⟩ := h.at_ hc
  refine ⟨b, o, e, hB, hs, fun j u hu => hv j u ?_⟩
  rw [List.getElem?_take] at hu
  split at hu
  · exact hu
  · cases hu
theorem set_other'F {w : World} {b i j : Nat} {u v : Value} (h : w.cell? ⟨b, j, none⟩ = some v) (hij : j ≠ i) : (w.setCell ⟨b, i, none⟩ u).cell? ⟨b, j, none⟩ = some v := by
  rw [World.cell?_setCell_other _ _ _ _ (by simp [hij])]
  exact h
theorem SpotsOk.push {n : Nat} {L : List Nat} {S : List Int} (h : SpotsOk n L S) {x : Nat} (hx : x < n) (hn : x ∉ L) : SpotsOk n (L ++ [x]) (S.set x (L.length : Int)) := by
  have hl := h.len
  refine ⟨by simp [hl], fun k hk => ?_, fun y hy hyn => ?_⟩
  · by_cases a : k < L.length
    · rw [List.getElem_append_left a, List.getElem?_set_ne (by rintro e; exact hn (e ▸ List.getElem_mem a))]
      exact h.at_ k a
    · have : k = L.length := by simp at hk; omega
      subst this
      rw [List.getElem_append_right (Nat.le_refl _)]
      simp only [Nat.sub_self, List.getElem_cons_zero]
      rw [List.getElem?_set_self (by omega)]
  · simp at hyn
    rw [List.getElem?_set_ne (fun e => hyn.2 e.symm)]
    exact h.no y hy hyn.1
theorem SpotsOk.pop {n : Nat} {L : List Nat} {S : List Int} {x : Nat} (h : SpotsOk n (L ++ [x]) S) : SpotsOk n L (S.set x (-1)) := by
  have hl := h.len
  have hnd := h.nodup
  have hxn := h.lt x (by simp)
  have hx : x ∉ L := fun hm => by
    rw [List.nodup_append] at hnd
    exact hnd.2.2 x hm x (by simp) rfl
  refine ⟨by simp [hl], fun k hk => ?_, fun y hy hyn => ?_⟩
  · rw [List.getElem?_set_ne (by rintro e; exact hx (e ▸ List.getElem_mem hk))]
    have := h.at_ k (by simp; omega)
    rwa [List.getElem_append_left hk] at this
  · by_cases e : x = y
    · subst e
      rw [List.getElem?_set_self (by omega)]
    · rw [List.getElem?_set_ne e]
      exact h.no y hy (by simp; exact ⟨hyn, fun h9 => e h9.symm⟩)
theorem assert_int (x : Nat) (w : World) : (Instr.typeAssert (.iface 3 (.int .i64 (x : Int))) 20 3 false).run Tryz.prog w = .ok (.int .i64 (x : Int)) w := by kernel_rfl
set_option maxRecDepth 20000 in
/-- One more place behind the line. -/
theorem wpush_anyF (x : Nat) (B pb : Nat) (la : Option Addr) (cl : Nat) (sa : Option Addr) (cs n : Nat) (L : List Nat) (w : World) (h : PlAt w B pb la cl sa cs n L) (hB : B ≤ w.heap.size) (hx : x < n) (hxL : x ∉ L) :
    Calls Tryz.prog 252 #[.pointer (some ⟨pb, 0, none⟩), .iface 3 (.int .i64 (x : Int))] w fun e w' => e = .returned (.tuple #[]) ∧ ∃ la' cl', PlAt w' B pb la' cl' sa cs n (L ++ [x]) ∧ Chg (PF pb la cl sa cs) w w' ∧ (∀ k, k ∈ fp la' cl' → k ∈ fp la cl ∨ w.heap.size ≤ k) := by
  have hnn := h.nn
  have hle := h.le
  have c0 := h.c0
  have c1 := h.c1
  have f0 := h.f0
  have d1 := h.d1
  have d2 := h.d2
  have d3 := h.d3
  have ta := assert_int x
  obtain ⟨S, hS, hok⟩ := h.s
  have hSl := hok.len
  have hS0 := hS
  obtain ⟨sb, so, rfl, _, hs2, _⟩ := hS.at_ (by have := hS.le; omega)
  obtain ⟨ux, gx⟩ := hs2 x (by have := hS.le; omega)
  obtain ⟨vx, ux⟩ := Option.isSome_iff_exists.1 ux
  have hfs : fp (some ⟨sb, so, none⟩) cs = [sb] := fp_some _ _ _ (by have := hS.le; omega)
  have g1 : Chg [sb] w ((w.setCell ⟨sb, so + x, none⟩ (.int .i64 L.length)).drew) := (Chg.setCell w ⟨sb, so + x, none⟩ _).then (Chg.drew [] _)
  rw [hfs] at d2 d3
  simp only [List.mem_singleton] at d2 d3
  have hR := h.r.chg g1 (fun k hk => by simpa using d3 k hk)
  have c01 := g1.cellv c0 (by simpa using d2)
  have c11 := g1.cellv c1 (by simpa using d2)
  have f01 := (g1.frozen (p := ⟨pb, 0, none⟩) (block_lt_of_cell c0) (by simpa using d2)).trans f0
  have s1 := (hS0.set x hx (.int .i64 (L.length : Int))).chg (Chg.drew [] _) (by simp)
  rw [zvs_set] at s1
  have hB1 : B ≤ ((w.setCell ⟨sb, so + x, none⟩ (.int .i64 L.length)).drew).heap.size := by simpa using hB
  have HZ := mkHid (show ((w.setCell ⟨sb, so + x, none⟩ (.int .i64 L.length)).drew).heap.size = w.heap.size by simp)
  have HS := mkHid s1
  have HK := mkHid (hok.push hx hxL)
  clear hs2 s1 hok hS hS0
  go_enter Tryz.func252, Tryz.ntmps252
  go_wp2
  go_region
  generalize hw1 : ((w.setCell ⟨sb, so + x, none⟩ (.int .i64 L.length)).drew) = w1 at *
  clear hw1 c0 c1 f0 ux gx
  go_wp2_with (at_builtin; refine wpList_append_1 _ rfl (.tmp 22) (.tmp 24) 81 rfl 3 8 eltNF B la L.length cl (ivs L) rfl hR hB1 (.int .i64 (x : Int)) 1 rfl rfl (by unfold maxLen; omega) (by omega) ?_; intro la' cl' w3 hR3 hg3 hf3; have c03 := hg3.cellv c01 d1; have f03 := (hg3.frozen (p := ⟨pb, 0, none⟩) (block_lt_of_cell c01) d1).trans f01)
  go_end0
  have hz := HZ.out
  have hpw : pb < w.heap.size := block_lt_of_cell h.c0
  have hfn : ∀ k, k ∈ fp la' cl' → k ∈ fp la cl ∨ w.heap.size ≤ k := fun k hk => by
    rcases hf3 with h9 | ⟨q, h9, h10⟩
    · left; rw [← h9]; exact hk
    · right; rw [h10] at hk; simp at hk; omega
  have hold : ∀ k, k < w.heap.size → k ∉ fp la cl → k ∉ fp la' cl' := fun k h1 h2 h3 => (hfn k h3).elim h2 (fun h4 => by omega)
  have g2 : Chg (PF pb la cl (some ⟨sb, so, none⟩) cs) w w3 := g1.trans hg3 (fun k hk _ => by simp at hk; simp [PF, hfs, hk]) (fun k hk _ => by simp [PF, hk])
  have g4 : Chg [pb] w3 (w3.setCell ⟨pb, 0, none⟩ (.slice la' (L.length + 1) cl')) := Chg.setCell w3 ⟨pb, 0, none⟩ _
  have hel : (L ++ [x]).length = L.length + 1 := by simp
  have hsb : sb < w.heap.size := by have := h.lt sb (by simp [PF, hfs]); omega
  have hsl : sb ∉ fp la' cl' := hold sb hsb (fun hk => d3 sb hk rfl)
  have c13 := hg3.cellv c11 d1
  refine ⟨rfl, la', cl', ⟨?_, ?_, ?_, ?_, ⟨_, (HS.out.chg hg3 ?_).chg g4 ?_, HK.out⟩, hnn, h.pB, hold pb hpw d1, by rw [hfs]; simpa using d2, ?_⟩, g2.trans g4 (fun _ h _ => h) (fun k hk _ => by simp at hk; simp [PF, hk]), hfn⟩
  · rw [hel]; exact World.cell?_setCell_same _ _ _ c03
  · rw [World.frozen?_setCell]; exact f03
  · exact set_other'F c13 (by decide)
  · rw [hel]
    have e : ivs (L ++ [x]) = ivs L ++ [.int .i64 (x : Int)] := by simp [ivs]
    rw [e]
    exact hR3.chg g4 (fun k hk => by simp; rintro rfl; exact hold k hpw d1 hk)
  · intro k hk h9
    rw [hfs] at hk
    simp at hk
    subst hk
    exact d3 k h9 rfl
  · intro k hk
    rw [hfs] at hk
    simp at hk ⊢
    rw [hk]
    exact fun e => d2 e.symm
  · intro k hk h9
    rw [hfs] at h9
    simp at h9
    rw [h9] at hk
    exact hsl hk
set_option maxRecDepth 20000 in
/-- The last place of the line is taken off. -/
theorem wpop_anyF (x : Nat) (B pb : Nat) (la : Option Addr) (cl : Nat) (sa : Option Addr) (cs n : Nat) (L : List Nat) (w : World) (h : PlAt w B pb la cl sa cs n (L ++ [x])) :
    Calls Tryz.prog 251 #[.pointer (some ⟨pb, 0, none⟩)] w fun e w' => e = .returned (.iface 3 (.int .i64 (x : Int))) ∧ PlAt w' B pb la cl sa cs n L ∧ Chg (PF pb la cl sa cs) w w' := by
  have hel : (L ++ [x]).length = L.length + 1 := by simp
  have c0 := h.c0
  have c1 := h.c1
  have f0 := h.f0
  have hsm := h.le
  have hnn := h.nn
  have d1 := h.d1
  have d2 := h.d2
  have d3 := h.d3
  have hxn : x < n := h.lt' x (by simp)
  obtain ⟨S, hS, hok⟩ := h.s
  have hSl := hok.len
  rw [hel] at c0 hsm
  have hlc := h.r.le
  rw [hel] at hlc
  have hcl := h.r.max
  have hr := h.r
  obtain ⟨lb, lo, rfl, _, _, hv1⟩ := h.r.at_ (by omega)
  have cn := hv1 L.length _ (ivs_get (L := L ++ [x]) (by simp))
  rw [List.getElem_append_right (Nat.le_refl _)] at cn
  simp only [Nat.sub_self, List.getElem_cons_zero] at cn
  have hS0 := hS
  obtain ⟨sb, so, rfl, _, hs2, _⟩ := hS.at_ (by have := hS.le; omega)
  obtain ⟨ux, gx⟩ := hs2 x (by have := hS.le; omega)
  obtain ⟨vx, ux⟩ := Option.isSome_iff_exists.1 ux
  have hfs : fp (some ⟨sb, so, none⟩) cs = [sb] := fp_some _ _ _ (by have := hS.le; omega)
  have hfl : fp (some ⟨lb, lo, none⟩) cl = [lb] := fp_some _ _ _ (by omega)
  rw [hfs] at d2 d3
  rw [hfl] at d1 d3
  simp only [List.mem_singleton] at d1 d2 d3
  have d3' : lb ≠ sb := d3 lb rfl
  have g1 : Chg [sb] w (w.setCell ⟨sb, so + x, none⟩ (.int .i64 (-1))) := Chg.setCell w ⟨sb, so + x, none⟩ _
  have c01 := g1.cellv c0 (by simpa using d2)
  have c11 := g1.cellv c1 (by simpa using d2)
  have f01 := (g1.frozen (p := ⟨pb, 0, none⟩) (block_lt_of_cell c0) (by simpa using d2)).trans f0
  have hsl : ∀ u : World, (Instr.slice 81 (.slice (some ⟨lb, lo, none⟩) (L.length + 1) cl) none (some (.int .i64 (L.length : Int))) none).run Tryz.prog u = .ok (.slice (some ⟨lb, lo, none⟩) L.length cl) u := fun u =>
    run_take_k (some ⟨lb, lo, none⟩) (L.length + 1) cl L.length Tryz.underlying81 (by kernel_rfl) (by omega) u
  have HE := mkHid hel
  have HK := mkHid hok.pop
  clear hel hs2 hok hv1 hS
  go_enter Tryz.func251, Tryz.ntmps251
  go_wp2
  go_ret
  have hel := HE.out
  have s1 := hS0.set x hxn (.int .i64 (-1))
  rw [zvs_set] at s1
  have g2 : Chg [pb] (w.setCell ⟨sb, so + x, none⟩ (.int .i64 (-1))) ((w.setCell ⟨sb, so + x, none⟩ (.int .i64 (-1))).setCell ⟨pb, 0, none⟩ (.slice (some ⟨lb, lo, none⟩) L.length cl)) := Chg.setCell _ ⟨pb, 0, none⟩ _
  refine ⟨rfl, ⟨World.cell?_setCell_same _ _ _ c01, by rw [World.frozen?_setCell]; exact f01, set_other'F c11 (by decide), ?_, ⟨_, s1.chg g2 (by rw [hfs]; simpa using fun e => d2 e.symm), HK.out⟩, hnn, h.pB, by rw [hfl]; simpa using d1, by rw [hfs]; simpa using d2, by rw [hfl, hfs]; simpa using d3'⟩, g1.trans g2 (fun k hk _ => by simp at hk; simp [PF, hfs, hk]) (fun k hk _ => by simp at hk; simp [PF, hk])⟩
  have h8 := hr.shortenF (m := L.length) (by omega)
  have e : (ivs (L ++ [x])).take L.length = ivs L := by
    simp [ivs]
  rw [e] at h8
  exact (h8.chg g1 (by rw [hfl]; simpa using d3')).chg g2 (by rw [hfl]; simpa using fun e => d1 e.symm)
end Go.Proofs.YtoeijomelabbfaaGreatDoor

/- The places of a space: heap.Push, heap.Remove; a place leaves, a place joins. -/
namespace Go.Proofs.YtoeijomelabbfaaGreatDoor
set_option maxRecDepth 200000
open Go.RowKit
set_option linter.unusedVariables false
set_option linter.unusedSimpArgs false
attribute [local go_sem ↓] Go.wp_at_zero Go.wp_at_succ

theorem sub_PF {pb : Nat} {la : Option Addr} {cl : Nat} {sa : Option Addr} {cs : Nat} : ∀ k, k ∈ fp la cl ++ fp sa cs → k ∈ PF pb la cl sa cs := fun k hk => List.mem_cons_of_mem _ hk
theorem split_lastF {E : List Nat} {x : Nat} {n : Nat} (hl : E.length = n + 1) (h : E[n]? = some x) : ∃ F, E = F ++ [x] ∧ F.length = n := by
  refine ⟨E.take n, ?_, by simp; omega⟩
  have h1 : n < E.length := by omega
  rw [List.getElem?_eq_getElem h1] at h
  have h2 := List.take_succ_eq_append_getElem h1
  rw [List.take_of_length_le (by omega)] at h2
  have h3 : E[n] = x := by simpa using h
  rw [h3] at h2
  exact h2
theorem key_front {F : List Nat} {x : Nat} : ∀ k, k < F.length → keyF (F ++ [x]) k = keyF F k := fun k hk => by
  rw [key_ltF (by simp; omega), key_ltF hk, List.getElem_append_left hk]
theorem heap_frontF {F : List Nat} {x : Nat} {n : Nat} (hn : n ≤ F.length) (h : HeapF (F ++ [x]) n) : HeapF F n := by
  intro k k0 kn
  have := h k k0 kn
  rwa [key_front _ (by omega), key_front _ (by omega)] at this
/-- The last one goes in the place of the i-th: from there the heap may be broken. -/
theorem down_last {E : List Nat} {i n : Nat} (hE : E.length = n + 1) (hi : i < n) (h : HeapF E E.length) : DownOkF (swpF E i n (by omega) (by omega)) i n := by
  have hk := key_swpF E i n (by omega) (by omega)
  refine ⟨fun k k0 kn ki kp => ?_, fun k k0 kn kp i0 => ?_⟩
  · rw [hk _ (by omega), hk k (by omega), if_neg (by omega), if_neg kp, if_neg (by omega), if_neg ki]
    exact h k k0 (by omega)
  · rw [hk _ (by omega), hk k (by omega), if_neg (by omega), if_neg (by omega), if_neg (by omega), if_neg (by omega)]
    have h1 := h k k0 (by omega)
    rw [kp] at h1
    exact Nat.le_trans (h i i0 (by omega)) h1
set_option maxRecDepth 20000 in
/-- heap.Push. -/
theorem hpush_anyF (x : Nat) (B pb : Nat) (la : Option Addr) (cl : Nat) (sa : Option Addr) (cs n : Nat) (L : List Nat) (w : World) (h : PlAt w B pb la cl sa cs n L) (hB : B ≤ w.heap.size) (hx : x < n) (hxL : x ∉ L) (hH : HeapF L L.length) :
    Calls Tryz.prog 143 #[.iface 185 (.pointer (some ⟨pb, 0, none⟩)), .iface 3 (.int .i64 (x : Int))] w fun e w' => e = .returned (.tuple #[]) ∧ ∃ la' cl' L', PlAt w' B pb la' cl' sa cs n L' ∧ L'.Perm (L ++ [x]) ∧ HeapF L' L'.length ∧ Chg (PF pb la cl sa cs) w w' ∧ (∀ k, k ∈ fp la' cl' → k ∈ fp la cl ∨ w.heap.size ≤ k) := by
  have hup : UpOkF (L ++ [x]) L.length (L.length + 1) := by
    refine ⟨fun k k0 kn kj => ?_, fun k k0 kn kp _ => ?_⟩
    · rw [key_front _ (by omega), key_front _ (by omega)]
      exact hH k k0 (by omega)
    · omega
  have Hup := mkHid hup
  clear hup
  have hel : (L ++ [x]).length = L.length + 1 := by simp
  have HE := mkHid hel
  clear hel
  have m1 := fun u => meth_pushF u ⟨pb, 0, none⟩
  have m2 := fun u => meth_lenF u ⟨pb, 0, none⟩
  have hle := h.le
  have hnn := h.nn
  go_enter Tryz.func143, Tryz.ntmps143
  go_wp2_with (first | (go_at_call 252; refine (wpush_anyF x B pb la cl sa cs n L w h hB hx hxL).mono ?_; rintro e w1 ⟨rfl, la1, cl1, h1, g1, f1⟩; have l1 := len_anyF B pb la1 cl1 sa cs n (L ++ [x]) w1 h1; rw [HE.out] at l1) | (go_at_call 140; refine l1.mono ?_; rintro e w2 ⟨rfl, rfl⟩) | (go_at_call 176; refine (up_anyF L.length (L.length + 1) B pb la1 cl1 sa cs n (L ++ [x]) w1 h1 (by rw [HE.out]; omega) (by omega) Hup.out).mono ?_; rintro e w2 ⟨rfl, E', h2, p2, H2, o2, g2⟩))
  go_end0
  have hel' : E'.length = L.length + 1 := by rw [p2.length_eq]; exact HE.out
  refine ⟨rfl, la1, cl1, E', h2, p2, by rw [hel']; exact H2, g1.trans g2 (fun _ h _ => h) (fun k hk hlt => ?_), f1⟩
  simp only [PF, List.mem_cons, List.mem_append] at hk ⊢
  rcases hk with hk | hk
  · rcases f1 k hk with h9 | h9
    · exact Or.inr (Or.inl h9)
    · omega
  · exact Or.inr (Or.inr hk)
set_option maxRecDepth 20000 in
set_option maxHeartbeats 1000000 in
/-- heap.Remove. -/
theorem hremove_any (i : Nat) (B pb : Nat) (la : Option Addr) (cl : Nat) (sa : Option Addr) (cs n : Nat) (L : List Nat) (w : World) (h : PlAt w B pb la cl sa cs n L) (hi : i < L.length) (hH : HeapF L L.length) :
    Calls Tryz.prog 197 #[.iface 185 (.pointer (some ⟨pb, 0, none⟩)), .int .i64 i] w fun e w' => ∃ v, e = .returned v ∧ ∃ L', PlAt w' B pb la cl sa cs n L' ∧ (L' ++ [L[i]]).Perm L ∧ HeapF L' L'.length ∧ Chg (PF pb la cl sa cs) w w' := by
  have hle := h.le
  have hnn := h.nn
  have m0 := fun u => meth_lenF u ⟨pb, 0, none⟩
  have m1 := fun u => meth_swapF u ⟨pb, 0, none⟩
  have m2 := fun u => meth_popF u ⟨pb, 0, none⟩
  obtain ⟨k, hk⟩ : ∃ k, L.length = k + 1 := ⟨L.length - 1, by omega⟩
  have hl := len_anyF B pb la cl sa cs n L w h
  rw [hk] at hl
  by_cases hik : i = k
  · subst hik
    have hlast : L[i]? = some L[i] := List.getElem?_eq_getElem hi
    obtain ⟨F, hF, hFl⟩ := split_lastF hk hlast
    generalize L[i] = x at *
    subst hF
    have hpop := wpop_anyF x B pb la cl sa cs n F w h
    have hHF : HeapF F F.length := heap_frontF (Nat.le_refl _) (fun a a0 an => hH a a0 (by simp; omega))
    have HH := mkHid hHF
    clear hHF hlast hFl hH
    have hne : ((i : Int) != (i : Int)) = false := by simp
    go_enter Tryz.func197, Tryz.ntmps197
    go_wp2_with (first | (go_at_call 140; refine hl.mono ?_; rintro e w2 ⟨rfl, rfl⟩) | (go_at_call 251; refine hpop.mono ?_; rintro e w4 ⟨rfl, h4, g4⟩))
    go_ret
    exact ⟨_, rfl, F, h4, List.Perm.refl _, HH.out, g4⟩
  · have hkl : k < L.length := by omega
    have hDn := down_last hk (show i < k by omega) hH
    have hlast : (swpF L i k hi hkl)[k]? = some L[i] := by
      have hl : k < (swpF L i k hi hkl).length := by rw [swp_lenF]; exact hkl
      rw [List.getElem?_eq_getElem hl, swp_getF, if_pos rfl]
    have hsl : (swpF L i k hi hkl).length = k + 1 := by rw [swp_lenF]; exact hk
    have hsp := swp_permF L i k hi hkl
    have cS := swap_anyF i k B pb la cl sa cs n L w h hi hkl
    generalize hS : swpF L i k hi hkl = S at hDn hlast hsl hsp cS
    have hne : ((k : Int) != (i : Int)) = true := by simp; omega
    have hne' : (k != i) = true := by simp; omega
    have HD := mkHid hDn
    have HL := mkHid hlast
    have HSL := mkHid hsl
    clear hS hDn hlast hsl
    have cD : ∀ w2, PlAt w2 B pb la cl sa cs n S → _ := fun w2 h2 => down_anyF i k B pb la cl sa cs n S w2 h2 (by rw [HSL.out]; omega) (by omega) HD.out
    have CD := mkHid cD
    clear cD
    have fin : ∀ w2 w3 (E' : List Nat), PlAt w2 B pb la cl sa cs n S → Chg (fp la cl ++ fp sa cs) w w2 → PlAt w3 B pb la cl sa cs n E' → E'.Perm S → E'[k]? = some L[i] → HeapF E' k → Chg (fp la cl ++ fp sa cs) w2 w3 →
        Calls Tryz.prog 251 #[.pointer (some ⟨pb, 0, none⟩)] w3 fun e w' => ∃ x, e = .returned (.iface 3 (.int .i64 (x : Int))) ∧ ∃ L', PlAt w' B pb la cl sa cs n L' ∧ (L' ++ [L[i]]).Perm L ∧ HeapF L' L'.length ∧ Chg (PF pb la cl sa cs) w w' := by
      intro w2 w3 E' h2 g2 h3 p3 o3 H3 g3
      obtain ⟨F, rfl, hFl⟩ := split_lastF (p3.length_eq.trans HSL.out) o3
      refine (wpop_anyF L[i] B pb la cl sa cs n F w3 h3).mono ?_
      rintro e w4 ⟨rfl, h4, g4⟩
      exact ⟨_, rfl, F, h4, p3.trans hsp, by rw [hFl]; exact heap_frontF (by omega) H3, (g2.trans g3 (fun k hk _ => sub_PF k hk) (fun k hk _ => sub_PF k hk)).trans g4 (fun _ h _ => h) (fun _ h _ => h)⟩
    have Fin := mkHid fin
    clear fin hH
    go_enter Tryz.func197, Tryz.ntmps197
    go_wp2_with (first | (go_at_call 140; refine hl.mono ?_; rintro e w2 ⟨rfl, rfl⟩) | (go_at_call 253; refine cS.mono ?_; rintro e w2 ⟨rfl, h2, g2⟩) | (go_at_call 177; refine (CD.out w2 h2).mono ?_; rintro e w3 ⟨b, E', rfl, h3, p3, o3, t3, u3, g3⟩; have T3 := mkHid t3; have U3 := mkHid u3; have O3 := mkHid ((o3 k (Nat.le_refl _)).trans HL.out); clear t3 u3 o3) | (go_at_call 176; refine (up_anyF i k B pb la cl sa cs n E' w3 h3 (by rw [p3.length_eq, HSL.out]; omega) (by omega) (U3.out (by simpa using ‹(!b) = true›))).mono ?_; rintro e w5 ⟨rfl, E5, h5, p5, H5, o5, g5⟩; have hP := Fin.out w2 w5 E5 h2 g2 h5 (p5.trans p3) ((o5 k (Nat.le_refl _)).trans O3.out) H5 (g3.trans g5 (fun _ h _ => h) (fun _ h _ => h))) | (go_at_call 251; (first | refine hP.mono ?_ | refine (Fin.out w2 w3 E' h2 g2 h3 p3 O3.out (T3.out (by simpa using ‹(!b) = false›)) g3).mono ?_); rintro e w4 ⟨x, rfl, hend⟩))
    all_goals
      go_ret
      exact ⟨_, rfl, hend⟩
end Go.Proofs.YtoeijomelabbfaaGreatDoor
