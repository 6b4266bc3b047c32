/- Refs: New, Copy, Become. -/
import Derived.Test.YtppjjlooocigdaaUe
namespace Go.Proofs.Ytppjjlooocigdaa
open Go.RowKit
set_option linter.unusedVariables false
set_option linter.unusedSimpArgs false
attribute [local go_sem ↓] Go.wp_at_zero Go.wp_at_succ

theorem rnew_out (ao : Option Addr) (n c : Nat) (w : World) (hn : n < 1 ∨ 1024 < n) (hb : n ≤ 9223372036854775807) : Calls Try.prog 7 #[.slice ao n c] w fun e w' => e = .returned (.tuple #[.pointer none, .int .i64 1]) ∧ w = w' := by
  by_cases h1 : n < 1
  · have h0 : n = 0 := by omega
    subst h0
    go_enter Try.func7, Try.ntmps7
    go_wp2
    go_ret2
    exact ⟨rfl, rfl⟩
  · have d1 : decide ((n : Int) < 1) = false := decide_eq_false (by omega)
    have d1' : decide (n < 1) = false := decide_eq_false (by omega)
    have d2 : decide ((n : Int) > 1024) = true := decide_eq_true (by omega)
    have d3 : decide ((1024 : Int) < (n : Int)) = true := decide_eq_true (by omega)
    have d4 : decide (1024 < n) = true := decide_eq_true (by omega)
    go_enter Try.func7, Try.ntmps7
    go_wp2
    go_ret2
    exact ⟨rfl, rfl⟩
/-- Refs around what was made. -/
theorem rfs_close {w : World} {B nb cb sb : Nat} {Fs : List Nat} {n : Nat} {N C : List UInt8} {t : TypeId} (hB : B ≤ w.heap.size) (rn : Room w B (some ⟨nb, 0, none⟩) n n (bts N)) (rc : Room w B (some ⟨cb, 0, none⟩) n n (bts C)) (sp : SpAt w B sb Fs (freeI N C)) (n0 : 0 < n) (nn : n ≤ 1024) (d3 : nb ≠ cb) (d5 : nb ∉ Fs) (d6 : cb ∉ Fs) :
    RfsAt (w.alloc (.cells #[.slice (some ⟨nb, 0, none⟩) n n, .slice (some ⟨cb, 0, none⟩) n n, .pointer (some ⟨sb, 0, none⟩)] t)) B w.heap.size nb cb sb Fs n N C ∧ Chg [] w (w.alloc (.cells #[.slice (some ⟨nb, 0, none⟩) n n, .slice (some ⟨cb, 0, none⟩) n n, .pointer (some ⟨sb, 0, none⟩)] t)) := by
  have g := Chg.alloc [] w (.cells #[.slice (some ⟨nb, 0, none⟩) n n, .slice (some ⟨cb, 0, none⟩) n n, .pointer (some ⟨sb, 0, none⟩)] t)
  have hcl := fun j => cell_of_row (w.alloc (.cells #[.slice (some ⟨nb, 0, none⟩) n n, .slice (some ⟨cb, 0, none⟩) n n, .pointer (some ⟨sb, 0, none⟩)] t)) w.heap.size j _ _ _ (heap_alloc_last w _)
  have hfz := fun j => frozen_of_row (w.alloc (.cells #[.slice (some ⟨nb, 0, none⟩) n n, .slice (some ⟨cb, 0, none⟩) n n, .pointer (some ⟨sb, 0, none⟩)] t)) w.heap.size j _ _ (heap_alloc_last w _)
  have l1 := (rn.lt nb (by rw [fp_some _ _ _ n0]; simp)).2
  have l2 := (rc.lt cb (by rw [fp_some _ _ _ n0]; simp)).2
  exact ⟨⟨hcl 0, hcl 1, hcl 2, hfz, rn.chg g (by simp), rc.chg g (by simp), sp.keep g, n0, nn, hB, by omega, by omega, d3, fun hk => by have := (sp.lt _ hk).2; omega, d5, d6⟩, g⟩
/-- All is as another has it. -/
theorem rfs_over {w : World} {B rb nb cb sb : Nat} {Fs : List Nat} {n : Nat} {N C : List UInt8} (h : RfsAt w B rb nb cb sb Fs n N C) {B' rb' nb' cb' sb' : Nat} {Fs' : List Nat} {m : Nat} {M D : List UInt8} (g : RfsAt w B' rb' nb' cb' sb' Fs' m M D) (hB : B ≤ B') (hr : rb < B') :
    RfsAt (((w.setCell ⟨rb, 0, none⟩ (.slice (some ⟨nb', 0, none⟩) m m)).setCell ⟨rb, 1, none⟩ (.slice (some ⟨cb', 0, none⟩) m m)).setCell ⟨rb, 2, none⟩ (.pointer (some ⟨sb', 0, none⟩))) B rb nb' cb' sb' Fs' m M D ∧
      Chg [rb] w (((w.setCell ⟨rb, 0, none⟩ (.slice (some ⟨nb', 0, none⟩) m m)).setCell ⟨rb, 1, none⟩ (.slice (some ⟨cb', 0, none⟩) m m)).setCell ⟨rb, 2, none⟩ (.pointer (some ⟨sb', 0, none⟩))) := by
  have g1 := Chg.setCell w ⟨rb, 0, none⟩ (.slice (some ⟨nb', 0, none⟩) m m)
  have a0 := World.cell?_setCell_same w ⟨rb, 0, none⟩ (.slice (some ⟨nb', 0, none⟩) m m) h.c0
  have a1 := (World.cell?_setCell_other w ⟨rb, 0, none⟩ ⟨rb, 1, none⟩ (.slice (some ⟨nb', 0, none⟩) m m) (by simp)).trans h.c1
  have a2 := (World.cell?_setCell_other w ⟨rb, 0, none⟩ ⟨rb, 2, none⟩ (.slice (some ⟨nb', 0, none⟩) m m) (by simp)).trans h.c2
  have f1 : ∀ j, (w.setCell ⟨rb, 0, none⟩ (.slice (some ⟨nb', 0, none⟩) m m)).frozen? ⟨rb, j, none⟩ = false := fun j => by rw [World.frozen?_setCell]; exact h.fz j
  generalize w.setCell ⟨rb, 0, none⟩ (.slice (some ⟨nb', 0, none⟩) m m) = w1 at *
  have g2 := Chg.setCell w1 ⟨rb, 1, none⟩ (.slice (some ⟨cb', 0, none⟩) m m)
  have b0 := (World.cell?_setCell_other w1 ⟨rb, 1, none⟩ ⟨rb, 0, none⟩ (.slice (some ⟨cb', 0, none⟩) m m) (by simp)).trans a0
  have b1 := World.cell?_setCell_same w1 ⟨rb, 1, none⟩ (.slice (some ⟨cb', 0, none⟩) m m) a1
  have b2 := (World.cell?_setCell_other w1 ⟨rb, 1, none⟩ ⟨rb, 2, none⟩ (.slice (some ⟨cb', 0, none⟩) m m) (by simp)).trans a2
  have f2 : ∀ j, (w1.setCell ⟨rb, 1, none⟩ (.slice (some ⟨cb', 0, none⟩) m m)).frozen? ⟨rb, j, none⟩ = false := fun j => by rw [World.frozen?_setCell]; exact f1 j
  generalize w1.setCell ⟨rb, 1, none⟩ (.slice (some ⟨cb', 0, none⟩) m m) = w2 at *
  have g3 := Chg.setCell w2 ⟨rb, 2, none⟩ (.pointer (some ⟨sb', 0, none⟩))
  have k0 := (World.cell?_setCell_other w2 ⟨rb, 2, none⟩ ⟨rb, 0, none⟩ (.pointer (some ⟨sb', 0, none⟩)) (by simp)).trans b0
  have k1 := (World.cell?_setCell_other w2 ⟨rb, 2, none⟩ ⟨rb, 1, none⟩ (.pointer (some ⟨sb', 0, none⟩)) (by simp)).trans b1
  have k2 := World.cell?_setCell_same w2 ⟨rb, 2, none⟩ (.pointer (some ⟨sb', 0, none⟩)) b2
  have f3 : ∀ j, (w2.setCell ⟨rb, 2, none⟩ (.pointer (some ⟨sb', 0, none⟩))).frozen? ⟨rb, j, none⟩ = false := fun j => by rw [World.frozen?_setCell]; exact f2 j
  generalize w2.setCell ⟨rb, 2, none⟩ (.pointer (some ⟨sb', 0, none⟩)) = w3 at *
  have gg : Chg [rb] w w3 := (g1.trans g2 (fun _ h _ => h) (fun _ h _ => h)).trans g3 (fun _ h _ => h) (fun _ h _ => h)
  have hn : ∀ k, k ∈ nb' :: cb' :: Fs' → k ∉ [rb] := fun k hk hm => by
    have := (g.lt k (List.mem_cons_of_mem _ hk)).1
    simp at hm
    omega
  have e1 := hn nb' (by simp)
  have e2 := hn cb' (by simp)
  simp at e1 e2
  refine ⟨⟨k0, k1, k2, f3, (g.rn.mono hB).chg gg (fun k hk => ?_), (g.rc.mono hB).chg gg (fun k hk => ?_), (g.sp.mono hB).chg gg (fun k hk => hn k (by simp [hk])), g.n0, g.nn, h.rB, fun e => e1 e.symm, fun e => e2 e.symm, g.d3, fun hk => by have := hn rb (by simp [hk]); simp at this, g.d5, g.d6⟩, gg⟩
  · rw [fp_some _ _ _ g.n0] at hk; simp at hk; subst hk; exact hn _ (by simp)
  · rw [fp_some _ _ _ g.n0] at hk; simp at hk; subst hk; exact hn _ (by simp)
def Part (n k : Nat) (X : List UInt8) (Is : List Bool) : Prop := Is.length = n ∧ (∀ j, j < k → Is[j]? = (freeI X X)[j]?) ∧ ∀ j, k ≤ j → j < n → Is[j]? = some true
theorem Part.start (n : Nat) (X : List UInt8) : Part n 0 X (List.replicate n true) := ⟨by simp, fun j hj => by omega, fun j _ h => by simp [h]⟩
theorem Part.done {n : Nat} {X : List UInt8} {Is : List Bool} (hX : X.length = n) (h : Part n n X Is) : Is = freeI X X := by
  apply List.ext_getElem?
  intro j
  by_cases hj : j < n
  · exact h.2.1 j hj
  · rw [List.getElem?_eq_none (by rw [h.1]; omega), List.getElem?_eq_none (by rw [freeI_len hX hX]; omega)]
theorem Part.same {n k : Nat} {X : List UInt8} {Is : List Bool} (h : Part n k X Is) (hk : k < n) (ha : X[k]? = some 0) : Part n (k + 1) X Is := by
  refine ⟨h.1, fun j hj => ?_, fun j hj => h.2.2 j (by omega)⟩
  by_cases hjk : j = k
  · subst hjk
    rw [h.2.2 j (Nat.le_refl _) hk, freeI_get ha ha]; rfl
  · exact h.2.1 j (by omega)
theorem Part.claim {n k : Nat} {X : List UInt8} {Is : List Bool} {a : UInt8} (h : Part n k X Is) (hk : k < n) (ha : X[k]? = some a) (e : a ≠ 0) : claimN Is (k : Int) = (0, Is.set k false) ∧ Part n (k + 1) X (Is.set k false) := by
  have hI := h.2.2 k (Nat.le_refl _) hk
  have hl := h.1
  refine ⟨by unfold claimN; rw [if_neg (by omega), Int.toNat_natCast, if_pos hI], by simp [hl], fun j hj => ?_, fun j hj hjn => ?_⟩
  · by_cases hjk : j = k
    · subst hjk
      have : (a == 0) = false := by simpa using e
      rw [List.getElem?_set_self (by omega), freeI_get ha ha, this]; rfl
    · rw [List.getElem?_set_ne (fun h => hjk h.symm)]
      exact h.2.1 j (by omega)
  · rw [List.getElem?_set_ne (by omega)]
    exact h.2.2 j (by omega) hjn
set_option maxRecDepth 20000 in
theorem rnew_in (ao : Option Addr) (n c : Nat) (L : List UInt8) (w : World) (g : Reads w ao (bts L)) (gn : L.length = n) (n0 : 0 < n) (nn : n ≤ 1024) : Calls Try.prog 7 #[.slice ao n c] w fun e w' => ∃ rb nb cb sb Fs, e = .returned (.tuple #[.pointer (some ⟨rb, 0, none⟩), .int .i64 0]) ∧ RfsAt w' w.heap.size rb nb cb sb Fs n L L ∧ Chg [] w w' := by
  have d1 : decide ((n : Int) < 1) = false := decide_eq_false (by omega)
  have d1' : decide (n < 1) = false := decide_eq_false (by omega)
  have d2 : decide ((n : Int) > 1024) = false := decide_eq_false (by omega)
  have d3 : decide ((1024 : Int) < (n : Int)) = false := decide_eq_false (by omega)
  have d4 : decide (1024 < n) = false := decide_eq_false (by omega)
  have hM := Part.start n L
  have cN := new_yes n nn w
  generalize List.replicate n true = I0 at *
  go_enter Try.func7, Try.ntmps7
  go_wp2_with (first | (go_at_call 30; refine cN.mono ?_; rintro e w1 ⟨sb, F, rfl, hS, hg1⟩))
  clear cN
  go_loopw [27] (fun v wr => ∃ (k : Nat) (Is : List Bool) (Fk : List Nat), v = .int .i64 k ∧ k ≤ n ∧ Part n k L Is ∧ SpAt wr w.heap.size sb Fk Is ∧ Chg [] w wr) (fun v _ => n - (intOf v).toNat)
  case atStart => exact ⟨0, _, F, rfl, Nat.zero_le _, hM, hS, hg1⟩
  case round =>
    clear hM hS hg1
    obtain ⟨k, Is, Fk, rfl, hk, hM, hS, hg⟩ := hrel
    have gr := g.keep hg
    by_cases hlt : k < n
    · have hd : decide (k < n) = true := decide_eq_true hlt
      have hd2 : decide ((k : Int) < (n : Int)) = true := decide_eq_true (by omega)
      obtain ⟨a, m, ha, hm, hm2⟩ := byte_at gn hlt
      obtain ⟨ab, aoff, rfl, ci, _⟩ := reads_lt gr k _ (bts_at ha hm)
      by_cases hm0 : m = 0
      · have hM' := hM.same hlt (by rw [ha, (u8_nat hm 0).2 hm0])
        have t1 : decide ((m : Int) > 0) = false := decide_eq_false (by omega)
        have t2 : decide (0 < m) = false := decide_eq_false (by omega)
        have t3 : decide ((0 : Int) < (m : Int)) = false := decide_eq_false (by omega)
        have HM := mkHid hM'
        clear ha hm hM hM' hm0
        go_wp2_with fail
        exact ⟨⟨k + 1, Is, Fk, by first | rfl | go_num, by omega, HM.out, hS, hg⟩, by simp [intOf]; omega⟩
      · have t1 : decide ((m : Int) > 0) = true := decide_eq_true (by omega)
        have t2 : decide (0 < m) = true := decide_eq_true (by omega)
        have t3 : decide ((0 : Int) < (m : Int)) = true := decide_eq_true (by omega)
        obtain ⟨eg, hM'⟩ := hM.claim hlt ha (fun e => hm0 ((u8_nat hm 0).1 e))
        have cG := claim_any (k : Int) w.heap.size sb Fk Is wr hS
        rw [eg] at cG
        have HM := mkHid hM'
        generalize Is.set k false = I2 at *
        clear ha hm hM hM' hm0 eg
        go_wp2_with (first | (go_at_call 31; refine cG.mono ?_; rintro e w2 ⟨rfl, hs⟩))
        obtain ⟨F2, s1, s2, s3⟩ := hs
        exact ⟨⟨k + 1, I2, F2, by first | rfl | go_num, by omega, HM.out, s1, hg.trans s2 (fun _ h _ => h) (fun p hp hlt => by have := (hS.lt p hp).1; omega)⟩, by simp [intOf]; omega⟩
    · have hkn : k = n := by omega
      subst hkn
      have hd : decide (k < k) = false := by simp
      have hI := hM.done gn
      subst hI
      clear hM
      go_wp2_with fail
      refine (kept_any ao k c L wr gr gn n0 nn).mono ?_
      rintro e wa ⟨b1, rfl, hb1, ra, ga⟩
      go_wp2_with fail
      refine (kept_any ao k c L wa (gr.keep ga) gn n0 nn).mono ?_
      rintro e wb ⟨b2, rfl, hb2, rb2, gb⟩
      have hra := (ra.mono hg.size).chg gb (by simp)
      have hrb := rb2.mono (Nat.le_trans hg.size ga.size)
      have hSb := (hS.keep ga).keep gb
      have l1 := (ra.lt b1 (by rw [fp_some _ _ _ n0]; simp)).2
      obtain ⟨h1, h2⟩ := rfs_close (t := 62) (Nat.le_trans (Nat.le_trans hg.size ga.size) gb.size) hra hrb hSb n0 nn (by omega) (fun hk => by have := (hS.lt _ hk).2; omega) (fun hk => by have := (hS.lt _ hk).2; have := ga.size; omega)
      have H1 := mkHid h1
      clear h1 hra hrb hSb gn
      go_wp2_with fail
      go_ret2
      exact ⟨_, b1, b2, sb, Fk, rfl, H1.out, ((hg.then ga).then gb).then h2⟩
section
variable (B rb nb cb sb : Nat) (Fs : List Nat) (n : Nat) (N C : List UInt8) (w : World) (h : RfsAt w B rb nb cb sb Fs n N C)
include h
set_option maxRecDepth 20000 in
theorem rcopy_any : Calls Try.prog 20 #[.pointer (some ⟨rb, 0, none⟩)] w fun e w' => ∃ rb' nb' cb' sb' Fs', e = .returned (.pointer (some ⟨rb', 0, none⟩)) ∧ RfsAt w' w.heap.size rb' nb' cb' sb' Fs' n N C ∧ Chg [] w w' := by
  have cM := rmade_yes rb sb w h.c2
  have c0 := h.c0
  have c1 := h.c1
  have c2 := h.c2
  have n0 := h.n0
  have nn := h.nn
  have hN : ∀ w1, Chg [] w w1 → Calls Try.prog 32 #[.slice (some ⟨nb, 0, none⟩) n n] w1 fun e w' => ∃ b, e = .returned (.slice (some ⟨b, 0, none⟩) n n) ∧ w1.heap.size ≤ b ∧ Room w' w.heap.size (some ⟨b, 0, none⟩) n n (bts N) ∧ Chg [] w1 w' ∧ Chg [] w w' ∧ w'.cell? ⟨rb, 0, none⟩ = some (.slice (some ⟨nb, 0, none⟩) n n) ∧ w'.cell? ⟨rb, 1, none⟩ = some (.slice (some ⟨cb, 0, none⟩) n n) ∧ w'.cell? ⟨rb, 2, none⟩ = some (.pointer (some ⟨sb, 0, none⟩)) := by
    intro w1 g
    have h1 := h.keep g
    refine (kept_any _ n n N w1 h1.rn.reads h.lN n0 nn).mono ?_
    rintro e w' ⟨b, he, hb, hr, hg⟩
    have h2 := h1.keep hg
    exact ⟨b, he, hb, hr.mono g.size, hg, g.then hg, h2.c0, h2.c1, h2.c2⟩
  have hC : ∀ w1, Chg [] w w1 → Calls Try.prog 32 #[.slice (some ⟨cb, 0, none⟩) n n] w1 fun e w' => ∃ b, e = .returned (.slice (some ⟨b, 0, none⟩) n n) ∧ w1.heap.size ≤ b ∧ Room w' w.heap.size (some ⟨b, 0, none⟩) n n (bts C) ∧ Chg [] w1 w' ∧ Chg [] w w' ∧ w'.cell? ⟨rb, 0, none⟩ = some (.slice (some ⟨nb, 0, none⟩) n n) ∧ w'.cell? ⟨rb, 1, none⟩ = some (.slice (some ⟨cb, 0, none⟩) n n) ∧ w'.cell? ⟨rb, 2, none⟩ = some (.pointer (some ⟨sb, 0, none⟩)) := by
    intro w1 g
    have h1 := h.keep g
    refine (kept_any _ n n C w1 h1.rc.reads h.lC n0 nn).mono ?_
    rintro e w' ⟨b, he, hb, hr, hg⟩
    have h2 := h1.keep hg
    exact ⟨b, he, hb, hr.mono g.size, hg, g.then hg, h2.c0, h2.c1, h2.c2⟩
  have hS : ∀ w1, Chg [] w w1 → Calls Try.prog 42 #[.pointer (some ⟨sb, 0, none⟩)] w1 fun e w' => ∃ sb' F', e = .returned (.pointer (some ⟨sb', 0, none⟩)) ∧ (SpAt w' w.heap.size sb' F' (freeI N C) ∧ ∀ k, k ∈ F' → w1.heap.size ≤ k) ∧ Chg [] w1 w' ∧ Chg [] w w' ∧ w'.cell? ⟨rb, 0, none⟩ = some (.slice (some ⟨nb, 0, none⟩) n n) ∧ w'.cell? ⟨rb, 1, none⟩ = some (.slice (some ⟨cb, 0, none⟩) n n) ∧ w'.cell? ⟨rb, 2, none⟩ = some (.pointer (some ⟨sb, 0, none⟩)) := by
    intro w1 g
    have h1 := h.keep g
    refine (copy_any B sb Fs _ w1 h1.sp).mono ?_
    rintro e w' ⟨sb', F', he, hr, hg⟩
    have h2 := h1.keep hg
    exact ⟨sb', F', he, ⟨hr.mono g.size, fun k hk => (hr.lt k hk).1⟩, hg, g.then hg, h2.c0, h2.c1, h2.c2⟩
  have HN := mkHid hN
  have HC := mkHid hC
  have HS := mkHid hS
  clear hN hC hS h
  go_enter Try.func20, Try.ntmps20
  go_wp2_with (first | (go_at_call 34; refine cM.mono ?_; rintro e w' ⟨rfl, rfl⟩))
  go_region_held3 (fun u => u.cell? ⟨rb, 0, none⟩ = some (.slice (some ⟨nb, 0, none⟩) n n) ∧ u.cell? ⟨rb, 1, none⟩ = some (.slice (some ⟨cb, 0, none⟩) n n) ∧ u.cell? ⟨rb, 2, none⟩ = some (.pointer (some ⟨sb, 0, none⟩)))
    (first | exact ⟨c0, c1, c2⟩ | exact ⟨ka0, ka1, ka2⟩ | exact ⟨kb0, kb1, kb2⟩ | exact ⟨kc0, kc1, kc2⟩ | exact ⟨(Chg.alloc [] wc _).cellv kc0 (by simp), (Chg.alloc [] wc _).cellv kc1 (by simp), (Chg.alloc [] wc _).cellv kc2 (by simp)⟩ | assumption)
    (first
    | (go_at_call_of 32 nb; refine (HN.out _ (by first | exact Chg.refl _ _ | exact Chg.drew _ _)).mono ?_; rintro e wa ⟨b1, rfl, hb1, ra, ga, gaa, ka0, ka1, ka2⟩)
    | (go_at_call_of 32 cb; refine (HC.out _ (by first | exact gaa | exact gaa.then (Chg.drew [] _))).mono ?_; rintro e wb ⟨b2, rfl, hb2, rb2, gb, gbb, kb0, kb1, kb2⟩)
    | (go_at_call 42; refine (HS.out _ (by first | exact gbb | exact gbb.then (Chg.drew [] _))).mono ?_; rintro e wc ⟨sb', F', rfl, hSp, gc, gcc, kc0, kc1, kc2⟩))
  go_wp2_with fail
  go_ret
  have l1 := (ra.lt b1 (by rw [fp_some _ _ _ n0]; simp)).2
  have l2 := (rb2.lt b2 (by rw [fp_some _ _ _ n0]; simp)).2
  obtain ⟨s1, s2⟩ := hSp
  have z1 := gb.size
  obtain ⟨h1, h2⟩ := rfs_close (t := 62) (N := N) (C := C) gcc.size ((ra.chg gb (by simp)).chg gc (by simp)) (rb2.chg gc (by simp)) s1 n0 nn (by omega) (fun hk => by have := s2 _ hk; omega) (fun hk => by have := s2 _ hk; omega)
  exact ⟨_, b1, b2, sb', F', rfl, h1, gcc.then h2⟩
theorem rbecome_none : Calls Try.prog 22 #[.pointer (some ⟨rb, 0, none⟩), .pointer none] w fun e w' => e = .returned (.int .i64 1) ∧ Chg [] w w' := by
  have cM := rmade_yes rb sb w h.c2
  have cZ := fun w1 => rmade_nil w1
  go_enter Try.func22, Try.ntmps22
  go_wp2_with (first | (go_at_call_of 34 rb; refine cM.mono ?_; rintro e w' ⟨rfl, rfl⟩))
  go_quiet ((go_at_call 34; exact Calls.quiet_of_same ((cZ _).mono fun _ _ h => ⟨h.1, h.2.symm⟩)))
  go_wp2_with fail
  go_ret
  exact ⟨rfl, Chg.drewN _ _⟩
section
variable (Bx xb mb db tb : Nat) (Fx : List Nat) (nx : Nat) (M D : List UInt8) (hx : RfsAt w Bx xb mb db tb Fx nx M D)
include hx
theorem rbecome_len (hne : nx ≠ n) : Calls Try.prog 22 #[.pointer (some ⟨rb, 0, none⟩), .pointer (some ⟨xb, 0, none⟩)] w fun e w' => e = .returned (.int .i64 1) ∧ Chg [] w w' := by
  have cM := rmade_yes rb sb w h.c2
  have cX := fun (w1 : World) (g : Chg [] w w1) => rmade_yes xb tb w1 (hx.keep g).c2
  have c0 := h.c0
  have x0 := hx.c0
  have b1 : ((nx : Int) != (n : Int)) = true := by simp; omega
  have b2 : (nx != n) = true := by simp; omega
  go_enter Try.func22, Try.ntmps22
  go_wp2_with (first | (go_at_call 34; refine cM.mono ?_; rintro e w' ⟨rfl, rfl⟩))
  go_quiet ((go_at_call 34; exact Calls.quiet_of_same ((cX _ (by first | exact Chg.refl _ _ | exact Chg.drewN _ _)).mono fun _ _ h => ⟨h.1, h.2.symm⟩)))
  go_wp2_with fail
  go_ret
  exact ⟨rfl, Chg.drewN _ _⟩
theorem rbecome_yes (hne : nx = n) (hB : B ≤ w.heap.size) : Calls Try.prog 22 #[.pointer (some ⟨rb, 0, none⟩), .pointer (some ⟨xb, 0, none⟩)] w fun e w' => e = .returned (.int .i64 0) ∧ ∃ nb' cb' sb' Fs', RfsAt w' B rb nb' cb' sb' Fs' n M D ∧ (∀ k, k ∈ nb' :: cb' :: Fs' → w.heap.size ≤ k) ∧ Chg [rb] w w' := by
  subst hne
  have cM := rmade_yes rb sb w h.c2
  have cX := fun (w1 : World) (g : Chg [] w w1) => rmade_yes xb tb w1 (hx.keep g).c2
  have cC := fun (w1 : World) (g : Chg [] w w1) => rcopy_any Bx xb mb db tb Fx nx M D w1 (hx.keep g)
  have c0 := h.c0
  have x0 := hx.c0
  have b1 : ((nx : Int) != (nx : Int)) = false := by simp
  have b2 : (nx != nx) = false := by simp
  go_enter Try.func22, Try.ntmps22
  go_wp2_with (first | (go_at_call 34; refine cM.mono ?_; rintro e w' ⟨rfl, rfl⟩))
  go_quiet ((go_at_call 34; exact Calls.quiet_of_same ((cX _ (by first | exact Chg.refl _ _ | exact Chg.drewN _ _)).mono fun _ _ h => ⟨h.1, h.2.symm⟩)))
  go_wp2_with fail
  refine (cC _ (Chg.drewN _ _)).mono ?_
  rintro e w1 ⟨rb', nb', cb', sb', Fs', rfl, hr, hg⟩
  have e0 := hr.c0
  have e1 := hr.c1
  have e2 := hr.c2
  have h1 := (h.keep (Chg.drewN _ _)).keep hg
  have o0 := h1.c0
  have o1 := h1.c1
  have o2 := h1.c2
  have f0 := h1.fz 0
  have f1 := h1.fz 1
  have f2 := h1.fz 2
  have HR := mkHid hr
  have HO := mkHid h1
  clear hr h1 cM cX cC c0 x0
  go_wp2_with fail
  go_ret
  obtain ⟨q1, q2⟩ := rfs_over HO.out HR.out hB h.ltr
  exact ⟨rfl, nb', cb', sb', Fs', q1, fun k hk => (HR.out.lt k (List.mem_cons_of_mem _ hk)).1, ((Chg.drewN w _).then hg).trans q2 (by simp) (fun k hk _ => hk)⟩
end
end
end Go.Proofs.Ytppjjlooocigdaa
