/- Refs: settle, Commit, Abort. -/
import Derived.Test.YtppjjlooocigdaaUd
namespace Go.Proofs.Ytppjjlooocigdaa
open Go.RowKit
set_option linter.unusedVariables false
set_option linter.unusedSimpArgs false
attribute [local go_sem ↓] Go.wp_at_zero Go.wp_at_succ

/-- The first k are free as of Y alone, the others as of both. -/
def Mix (n k : Nat) (X Y : List UInt8) (Is : List Bool) : Prop := Is.length = n ∧ (∀ j, j < k → Is[j]? = (freeI Y Y)[j]?) ∧ ∀ j, k ≤ j → Is[j]? = (freeI X Y)[j]?
theorem Mix.start {n : Nat} {X Y : List UInt8} (hX : X.length = n) (hY : Y.length = n) : Mix n 0 X Y (freeI X Y) := ⟨freeI_len hX hY, fun j hj => by omega, fun j _ => rfl⟩
theorem Mix.done {n : Nat} {X Y : List UInt8} {Is : List Bool} (hY : Y.length = n) (h : Mix n n X Y Is) : Is = freeI Y Y := by
  apply List.ext_getElem?
  intro j
  by_cases hj : j < n
  · exact h.2.1 j hj
  · rw [List.getElem?_eq_none (by rw [h.1]; omega), List.getElem?_eq_none (by rw [freeI_len hY hY]; omega)]
theorem Mix.same {n k : Nat} {X Y : List UInt8} {Is : List Bool} {a b : UInt8} (h : Mix n k X Y Is) (ha : X[k]? = some a) (hb : Y[k]? = some b) (e : a = 0 ∨ b ≠ 0) : Mix n (k + 1) X Y Is := by
  refine ⟨h.1, fun j hj => ?_, fun j hj => h.2.2 j (by omega)⟩
  by_cases hjk : j = k
  · subst hjk
    rw [h.2.2 j (Nat.le_refl _), freeI_get ha hb, freeI_get hb hb]
    rcases e with e | e
    · subst e; simp
    · have : (b == 0) = false := by simpa using e
      rw [this]; simp
  · exact h.2.1 j (by omega)
theorem Mix.give {n k : Nat} {X Y : List UInt8} {Is : List Bool} {a : UInt8} (h : Mix n k X Y Is) (hk : k < n) (ha : X[k]? = some a) (hb : Y[k]? = some 0) (e : a ≠ 0) : giveN Is (k : Int) = (0, Is.set k true) ∧ Mix n (k + 1) X Y (Is.set k true) := by
  have hI : Is[k]? = some false := by
    rw [h.2.2 k (Nat.le_refl _), freeI_get ha hb]
    have : (a == 0) = false := by simpa using e
    rw [this]; simp
  have hl := h.1
  refine ⟨by unfold giveN; rw [if_neg (by omega), Int.toNat_natCast, hI, if_neg (by simp)], by simp [hl], fun j hj => ?_, fun j hj => ?_⟩
  · by_cases hjk : j = k
    · subst hjk
      rw [List.getElem?_set_self (by omega), freeI_get hb hb]; rfl
    · rw [List.getElem?_set_ne (fun h => hjk h.symm)]
      exact h.2.1 j (by omega)
  · rw [List.getElem?_set_ne (by omega)]
    exact h.2.2 j (by omega)

set_option maxRecDepth 20000 in
theorem settle_any (B rb sb xb yb : Nat) (Fs : List Nat) (n : Nat) (X Y : List UInt8) (w : World) (c2 : w.cell? ⟨rb, 2, none⟩ = some (.pointer (some ⟨sb, 0, none⟩)))
    (hX : Room w B (some ⟨xb, 0, none⟩) n n (bts X)) (hY : Room w B (some ⟨yb, 0, none⟩) n n (bts Y)) (hS : SpAt w B sb Fs (freeI X Y)) (n0 : 0 < n) (nn : n ≤ 1024) (d1 : rb ∉ Fs) (d2 : xb ∉ Fs) (d3 : yb ∉ Fs) :
    Calls Try.prog 41 #[.pointer (some ⟨rb, 0, none⟩), .slice (some ⟨xb, 0, none⟩) n n, .slice (some ⟨yb, 0, none⟩) n n] w fun e w' => e = .returned (.tuple #[]) ∧ ∃ Fs', SpAt w' B sb Fs' (freeI Y Y) ∧ Room w' B (some ⟨xb, 0, none⟩) n n (bts Y) ∧ Chg (xb :: Fs) w w' ∧ ∀ k, k ∈ Fs' → k ∈ Fs ∨ w.heap.size ≤ k := by
  have lX : X.length = n := by have := hX.len; rwa [bts_length] at this
  have lY : Y.length = n := by have := hY.len; rwa [bts_length] at this
  have hM := Mix.start lX lY
  have hxw : xb < w.heap.size := (hX.lt xb (by rw [fp_some _ _ _ n0]; simp)).2
  go_enter Try.func41, Try.ntmps41
  go_wp2_with fail
  go_loopw [10] (fun v wr => ∃ (k : Nat) (Is : List Bool) (Fk : List Nat), v = .int .i64 k ∧ k ≤ n ∧ Mix n k X Y Is ∧ SpAt wr B sb Fk Is ∧ Chg Fs w wr ∧ ∀ q, q ∈ Fk → q ∈ Fs ∨ w.heap.size ≤ q) (fun v _ => n - (intOf v).toNat)
  case atStart => exact ⟨0, _, Fs, rfl, Nat.zero_le _, hM, hS, Chg.refl _ _, fun q hq => Or.inl hq⟩
  case round =>
    clear hM hS
    obtain ⟨k, Is, Fk, rfl, hk, hM, hS, hg, hf⟩ := hrel
    have fx : ∀ q, q ∈ fp (some ⟨xb, 0, none⟩) n → q ∉ Fs := fun q hq => by rw [fp_some _ _ _ n0] at hq; simp at hq; subst hq; exact d2
    have fy : ∀ q, q ∈ fp (some ⟨yb, 0, none⟩) n → q ∉ Fs := fun q hq => by rw [fp_some _ _ _ n0] at hq; simp at hq; subst hq; exact d3
    have hXr := hX.chg hg fx
    have hYr := hY.chg hg fy
    have c2r := hg.cellv c2 d1
    by_cases hlt : k < n
    · have hd : decide (k < n) = true := decide_eq_true hlt
      have hd2 : decide ((k : Int) < (n : Int)) = true := decide_eq_true (by omega)
      obtain ⟨a, m, ha, hm, hm2⟩ := byte_at lX hlt
      obtain ⟨b, q, hb, hq, hq2⟩ := byte_at lY hlt
      have ci := hXr.read ha hm
      have cj := hYr.read hb hq
      rw [Nat.zero_add] at ci cj
      by_cases hm0 : m = 0
      · have hM' := hM.same ha hb (Or.inl ((u8_nat hm 0).2 hm0))
        have t1 : decide ((m : Int) > 0) = false := decide_eq_false (by omega)
        have t2 : decide (0 < m) = false := decide_eq_false (by omega)
        have t3 : decide ((0 : Int) < (m : Int)) = false := decide_eq_false (by omega)
        have HM := mkHid hM'
        clear ha hm hb hq hM hM' hm0 hX hY hXr hYr
        go_wp2_with fail
        exact ⟨⟨k + 1, Is, Fk, by first | rfl | go_num, by omega, HM.out, hS, hg, hf⟩, by simp [intOf]; omega⟩
      · have t1 : decide ((m : Int) > 0) = true := decide_eq_true (by omega)
        have t2 : decide (0 < m) = true := decide_eq_true (by omega)
        have t3 : decide ((0 : Int) < (m : Int)) = true := decide_eq_true (by omega)
        by_cases hq0 : q = 0
        · have hb0 : Y[k]? = some 0 := by rw [hb, (u8_nat hq 0).2 hq0]
          obtain ⟨eg, hM'⟩ := hM.give hlt ha hb0 (fun e => hm0 ((u8_nat hm 0).1 e))
          have cG := give_any (k : Int) B sb Fk Is wr hS
          rw [eg] at cG
          have u1 : ((q : Int) == 0) = true := by simp; omega
          have u2 : (q == 0) = true := by simp; omega
          have HM := mkHid hM'
          generalize Is.set k true = I2 at *
          clear ha hm hb hq hM hM' hm0 hX hY hXr hYr hb0 eg hq0
          go_wp2_with (first | (go_at_call 51; refine cG.mono ?_; rintro e w2 ⟨rfl, hs⟩))
          obtain ⟨F2, s1, s2, s3⟩ := hs
          have hz := hg.size
          refine ⟨⟨k + 1, I2, F2, by first | rfl | go_num, by omega, HM.out, s1, hg.trans s2 (fun _ h _ => h) (fun p hp hlt => (hf p hp).elim id (fun h9 => by omega)), fun p hp => ?_⟩, by simp [intOf]; omega⟩
          rcases s3 p hp with h9 | h9
          · exact hf p h9
          · exact Or.inr (by omega)
        · have hM' := hM.same ha hb (Or.inr (fun e => hq0 ((u8_nat hq 0).1 e)))
          have u1 : ((q : Int) == 0) = false := beq_eq_false_iff_ne.2 (by omega)
          have u2 : (q == 0) = false := beq_eq_false_iff_ne.2 (by omega)
          have HM := mkHid hM'
          clear ha hm hb hq hM hM' hm0 hX hY hXr hYr hq0
          go_wp2_with fail
          exact ⟨⟨k + 1, Is, Fk, by first | rfl | go_num, by omega, HM.out, hS, hg, hf⟩, by simp [intOf]; omega⟩
    · have hkn : k = n := by omega
      subst hkn
      have hd : decide (k < k) = false := by simp
      have hI := hM.done lY
      subst hI
      have hl : (bts Y).length = k := by rw [bts_length]; exact lY
      have hth := hXr.there 0 k (by omega)
      have hs := hXr.sets (bts Y) 0 (by omega)
      have e1 : (bts X).take 0 ++ (bts Y ++ (bts X).drop (0 + (bts Y).length)) = bts Y := by
        rw [hl, List.drop_eq_nil_of_le (by rw [bts_length]; omega)]; simp
      rw [e1] at hs
      have hY2 := hYr.reads
      have g1 := Chg.setCells xb (bts Y) 0 wr
      have hxk : xb ∉ Fk := fun hm => (hf xb hm).elim d2 (fun h => by omega)
      have HL := mkHid hl
      have hz : (wr.setCells xb 0 (bts Y)).heap.size = wr.heap.size := size_setCells xb (bts Y) 0 wr
      have HZ := mkHid hz
      clear hl e1 hM hX hY hXr hYr lX lY hz
      go_wp2_with (refine wpList_copy_k rfl (.tmp 31) (.tmp 32) 22 22 5 rfl Try.underlying22 oneB xb 0 k k (some ⟨yb, 0, none⟩) k k (bts Y) rfl rfl hY2 (by rw [HL.out]; exact (Nat.min_self _).symm) (by rw [HL.out]; exact hth) (bts_one _) ?_)
      go_end0
      exact ⟨rfl, Fk, hS.chg g1 (fun p hp hm => by simp at hm; subst hm; exact hxk hp), hs, hg.trans g1 (fun p hp _ => by simp [hp]) (fun p hp _ => by simp at hp; simp [hp]), hf⟩
section
variable (B rb nb cb sb : Nat) (Fs : List Nat) (n : Nat) (N C : List UInt8) (w : World) (h : RfsAt w B rb nb cb sb Fs n N C)
include h
set_option maxRecDepth 20000 in
theorem commit_any : Calls Try.prog 16 #[.pointer (some ⟨rb, 0, none⟩)] w fun e w' => e = .returned (.int .i64 0) ∧ RStep w w' B rb nb cb sb Fs n N N := by
  have cM := rmade_yes rb sb w h.c2
  have c0 := h.c0
  have c1 := h.c1
  have cS : ∀ w1, Chg [] w w1 → Calls Try.prog 41 #[.pointer (some ⟨rb, 0, none⟩), .slice (some ⟨cb, 0, none⟩) n n, .slice (some ⟨nb, 0, none⟩) n n] w1 fun e w' => e = .returned (.tuple #[]) ∧ RStep w w' B rb nb cb sb Fs n N N ∧ w'.cell? ⟨rb, 0, none⟩ = some (.slice (some ⟨nb, 0, none⟩) n n) ∧ w'.cell? ⟨rb, 1, none⟩ = some (.slice (some ⟨cb, 0, none⟩) n n) := by
    intro w1 g
    have h1 := h.keep g
    refine (settle_any B rb sb cb nb Fs n C N w1 h1.c2 h1.rc h1.rn (by rw [freeI_comm]; exact h1.sp) h.n0 h.nn h.d4 h.d6 h.d5).mono ?_
    rintro e w' ⟨he, Fs', s1, s2, s3, s4⟩
    have hn : ∀ k, k < w1.heap.size → k ∉ Fs → k ∉ Fs' := fun k h4 h5 h6 => (s4 k h6).elim h5 (fun h7 => by omega)
    have e1 : rb ∉ cb :: Fs := by simp; exact ⟨h.d2, h.d4⟩
    have e2 : nb ∉ cb :: Fs := by simp; exact ⟨h.d3, h.d5⟩
    refine ⟨he, ⟨Fs', ⟨s3.cellv h1.c0 e1, s3.cellv h1.c1 e1, s3.cellv h1.c2 e1, fun j => (s3.frozen (p := ⟨rb, j, none⟩) (show rb < w1.heap.size from h1.ltr) e1).trans (h1.fz j),
      h1.rn.chg s3 (fun k hk => by rw [fp_some _ _ _ h.n0] at hk; simp at hk; subst hk; exact e2), s2, s1, h.n0, h.nn, h.rB, h.d1, h.d2, h.d3, hn _ h1.ltr h.d4, hn _ h1.ltn.2 h.d5, hn _ h1.ltc.2 h.d6⟩,
      g.trans s3 (by simp) (fun k hk _ => by simp at hk; simp; rcases hk with hk | hk <;> simp [hk]), fun k hk => (s4 k hk).imp id (fun h9 => Nat.le_trans g.size h9)⟩, s3.cellv h1.c0 e1, s3.cellv h1.c1 e1⟩
  have CS := mkHid cS
  clear cS
  go_enter Try.func16, Try.ntmps16
  go_wp2_with (first | (go_at_call 34; refine cM.mono ?_; rintro e w' ⟨rfl, rfl⟩))
  go_region_held3 (fun u => u.cell? ⟨rb, 0, none⟩ = some (.slice (some ⟨nb, 0, none⟩) n n) ∧ u.cell? ⟨rb, 1, none⟩ = some (.slice (some ⟨cb, 0, none⟩) n n))
    (first | exact ⟨c0, c1⟩ | exact ⟨k0, k1⟩ | assumption)
    (first | (go_at_call 41; refine (CS.out _ (by first | exact Chg.refl _ _ | exact Chg.drew _ _)).mono ?_; rintro e w4 ⟨rfl, hst, k0, k1⟩))
  go_wp2_with fail
  go_ret
  exact ⟨rfl, hst⟩
set_option maxRecDepth 20000 in
theorem abort_any : Calls Try.prog 18 #[.pointer (some ⟨rb, 0, none⟩)] w fun e w' => e = .returned (.int .i64 0) ∧ RStep w w' B rb nb cb sb Fs n C C := by
  have cM := rmade_yes rb sb w h.c2
  have c0 := h.c0
  have c1 := h.c1
  have cS : ∀ w1, Chg [] w w1 → Calls Try.prog 41 #[.pointer (some ⟨rb, 0, none⟩), .slice (some ⟨nb, 0, none⟩) n n, .slice (some ⟨cb, 0, none⟩) n n] w1 fun e w' => e = .returned (.tuple #[]) ∧ RStep w w' B rb nb cb sb Fs n C C ∧ w'.cell? ⟨rb, 0, none⟩ = some (.slice (some ⟨nb, 0, none⟩) n n) ∧ w'.cell? ⟨rb, 1, none⟩ = some (.slice (some ⟨cb, 0, none⟩) n n) := by
    intro w1 g
    have h1 := h.keep g
    refine (settle_any B rb sb nb cb Fs n N C w1 h1.c2 h1.rn h1.rc h1.sp h.n0 h.nn h.d4 h.d5 h.d6).mono ?_
    rintro e w' ⟨he, Fs', s1, s2, s3, s4⟩
    have hn : ∀ k, k < w1.heap.size → k ∉ Fs → k ∉ Fs' := fun k h4 h5 h6 => (s4 k h6).elim h5 (fun h7 => by omega)
    have e1 : rb ∉ nb :: Fs := by simp; exact ⟨h.d1, h.d4⟩
    have e2 : cb ∉ nb :: Fs := by simp; exact ⟨fun e => h.d3 e.symm, h.d6⟩
    refine ⟨he, ⟨Fs', ⟨s3.cellv h1.c0 e1, s3.cellv h1.c1 e1, s3.cellv h1.c2 e1, fun j => (s3.frozen (p := ⟨rb, j, none⟩) (show rb < w1.heap.size from h1.ltr) e1).trans (h1.fz j),
      s2, h1.rc.chg s3 (fun k hk => by rw [fp_some _ _ _ h.n0] at hk; simp at hk; subst hk; exact e2), s1, h.n0, h.nn, h.rB, h.d1, h.d2, h.d3, hn _ h1.ltr h.d4, hn _ h1.ltn.2 h.d5, hn _ h1.ltc.2 h.d6⟩,
      g.trans s3 (by simp) (fun k hk _ => by simp at hk; simp; rcases hk with hk | hk <;> simp [hk]), fun k hk => (s4 k hk).imp id (fun h9 => Nat.le_trans g.size h9)⟩, s3.cellv h1.c0 e1, s3.cellv h1.c1 e1⟩
  have CS := mkHid cS
  clear cS
  go_enter Try.func18, Try.ntmps18
  go_wp2_with (first | (go_at_call 34; refine cM.mono ?_; rintro e w' ⟨rfl, rfl⟩))
  go_region_held3 (fun u => u.cell? ⟨rb, 0, none⟩ = some (.slice (some ⟨nb, 0, none⟩) n n) ∧ u.cell? ⟨rb, 1, none⟩ = some (.slice (some ⟨cb, 0, none⟩) n n))
    (first | exact ⟨c0, c1⟩ | exact ⟨k0, k1⟩ | assumption)
    (first | (go_at_call 41; refine (CS.out _ (by first | exact Chg.refl _ _ | exact Chg.drew _ _)).mono ?_; rintro e w4 ⟨rfl, hst, k0, k1⟩))
  go_wp2_with fail
  go_ret
  exact ⟨rfl, hst⟩
end
end Go.Proofs.Ytppjjlooocigdaa
