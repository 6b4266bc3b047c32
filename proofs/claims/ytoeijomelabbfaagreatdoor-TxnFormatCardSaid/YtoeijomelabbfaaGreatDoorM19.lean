/- Texts Ud, Ue, Uf, Ug, Ul of the library, joined. -/
import Derived.Test.YtoeijomelabbfaaGreatDoorM18
/- Refs: change, Inc, Dec, Alloc. -/
namespace Go.Proofs.YtoeijomelabbfaaGreatDoor
set_option maxRecDepth 200000
open Go.RowKit
set_option linter.unusedVariables false
set_option linter.unusedSimpArgs false
attribute [local go_sem ↓] Go.wp_at_zero Go.wp_at_succ

section
variable (B rb nb cb sb : Nat) (Fs : List Nat) (n : Nat) (N C : List UInt8) (w : World) (h : RfsAt w B rb nb cb sb Fs n N C)
include h
theorem alloc_any : Calls Tryz.prog 15 #[.pointer (some ⟨rb, 0, none⟩)] w fun e w' => e = .returned (.tuple #[.int .i64 (allocN N C).1, .int .i64 (allocN N C).2.1]) ∧ RStep w w' B rb nb cb sb Fs n (allocN N C).2.2 C := by
  have cM := rmade_yes rb sb w h.c2
  have c2 := h.c2
  have cT := take_any B sb Fs _ w h.sp
  rw [take_alloc (h.lC.trans h.lN.symm)] at cT
  cases hf : freeL (freeI N C) with
  | nil =>
    have e : allocN N C = (0, 8, N) := by unfold allocN; rw [hf]
    rw [e] at cT ⊢
    clear e hf
    go_enter Tryz.func15, Tryz.ntmps15
    go_wp2_with (first | (go_at_call 74; refine cM.mono ?_; rintro e w' ⟨rfl, rfl⟩) | (go_at_call 75; refine cT.mono ?_; rintro e w' ⟨rfl, hs⟩))
    go_ret2
    refine ⟨rfl, ?_⟩
    obtain ⟨Fs', h1, h2, h3⟩ := hs
    have hn : ∀ k, k < w.heap.size → k ∉ Fs → k ∉ Fs' := fun k h4 h5 h6 => (h3 k h6).elim h5 (fun h7 => by omega)
    exact ⟨Fs', ⟨h2.cellv h.c0 h.d4, h2.cellv h.c1 h.d4, h2.cellv h.c2 h.d4, fun j => (h2.frozen (p := ⟨rb, j, none⟩) (show rb < w.heap.size from h.ltr) h.d4).trans (h.fz j),
      h.rn.chg h2 (fun k hk => by rw [fp_some _ _ _ h.n0] at hk; simp at hk; subst hk; exact h.d5), h.rc.chg h2 (fun k hk => by rw [fp_some _ _ _ h.n0] at hk; simp at hk; subst hk; exact h.d6), h1, h.n0, h.nn, h.rB, h.d1, h.d2, h.d3, hn _ h.ltr h.d4, hn _ h.ltn.2 h.d5, hn _ h.ltc.2 h.d6⟩,
      h2.mono (fun k hk _ => by simp [hk]), h3⟩
  | cons x r =>
    have e : allocN N C = ((x : Int), 0, N.set x 1) := by unfold allocN; rw [hf]
    rw [e] at cT ⊢
    have hx := (mem_freeL _ x).1 (by rw [hf]; simp)
    have hxn : x < n := by have := (List.getElem?_eq_some_iff.1 hx).1; rw [freeI_len h.lN h.lC] at this; exact this
    obtain ⟨hN, hC⟩ := freeI_true.1 hx
    have ck := h.rn.read hN (m := 0) rfl
    have hfz := h.rn.cell x hxn
    rw [Nat.zero_add] at ck hfz
    have HH := mkHid h
    have h5 := h.d5
    have h4 := h.d4
    have c0 := h.c0
    clear e hf hx hN hC h
    simp only at cT
    go_enter Tryz.func15, Tryz.ntmps15
    go_wp2_with (first | (go_at_call 74; refine cM.mono ?_; rintro e w' ⟨rfl, rfl⟩) | (go_at_call 75; refine cT.mono ?_; rintro e w1 ⟨rfl, hs⟩; have HS := mkHid hs; obtain ⟨Fs', h1, h2, h3⟩ := hs; have c02 := h2.cellv c0 h4; have ck2 := h2.cellv ck h5; have fk2 := (h2.frozen (p := ⟨nb, x, none⟩) (block_lt_of_cell ck) h5).trans hfz; clear h1 h2 h3))
    go_ret2
    refine ⟨rfl, ?_⟩
    have h := HH.out
    obtain ⟨Fs', h1, h2, h3⟩ := HS.out
    have hn : ∀ k, k < w.heap.size → k ∉ Fs → k ∉ Fs' := fun k h4 h5 h6 => (h3 k h6).elim h5 (fun h7 => by omega)
    have g1 := Chg.setCell w1 ⟨nb, x, none⟩ (.int .u8 1)
    have hr := (h.rn.chg h2 (fun k hk => by rw [fp_some _ _ _ h.n0] at hk; simp at hk; subst hk; exact h.d5)).set x hxn (.int .u8 (v8 1))
    rw [Nat.zero_add, bts_set] at hr
    have hr1 : Room (w1.setCell ⟨nb, x, none⟩ (.int .u8 1)) B (some ⟨nb, 0, none⟩) n n (bts (N.set x 1)) := hr
    have e5 := hn _ h.ltn.2 h.d5
    have g : Chg (nb :: Fs) w (w1.setCell ⟨nb, x, none⟩ (.int .u8 1)) := h2.trans g1 (fun k hk _ => by simp [hk]) (fun k hk _ => by simp at hk; simp [hk])
    have e1 : rb ∉ nb :: Fs := by simp; exact ⟨h.d1, h.d4⟩
    have e2 : cb ∉ nb :: Fs := by simp; exact ⟨fun e => h.d3 e.symm, h.d6⟩
    exact ⟨Fs', ⟨g.cellv h.c0 e1, g.cellv h.c1 e1, g.cellv h.c2 e1, fun j => (g.frozen (p := ⟨rb, j, none⟩) (show rb < w.heap.size from h.ltr) e1).trans (h.fz j),
      hr1, h.rc.chg g (fun k hk => by rw [fp_some _ _ _ h.n0] at hk; simp at hk; subst hk; exact e2), h1.chg g1 (fun k hk hm => by simp at hm; subst hm; exact e5 hk), h.n0, h.nn, h.rB, h.d1, h.d2, h.d3, hn _ h.ltr h.d4, e5, hn _ h.ltc.2 h.d6⟩,
      g.mono (fun k hk _ => by simp at hk; simp; rcases hk with hk | hk <;> simp [hk]), h3⟩
end
end Go.Proofs.YtoeijomelabbfaaGreatDoor

/- Refs: settle, Commit, Abort. -/
namespace Go.Proofs.YtoeijomelabbfaaGreatDoor
set_option maxRecDepth 200000
open Go.RowKit
set_option linter.unusedVariables false
set_option linter.unusedSimpArgs false
attribute [local go_sem ↓] Go.wp_at_zero Go.wp_at_succ

/-- The first k are free as of Y alone, the others as of both. -/
def Mix (n k : Nat) (X Y : List UInt8) (Is : List Bool) : Prop := Is.length = n ∧ (∀ j, j < k → Is[j]? = (freeI Y Y)[j]?) ∧ ∀ j, k ≤ j → Is[j]? = (freeI X Y)[j]?
theorem Mix.start {n : Nat} {X Y : List UInt8} (hX : X.length = n) (hY : Y.length = n) : Mix n 0 X Y (freeI X Y) := ⟨freeI_len hX hY, fun j hj => by omega, fun j _ => rfl⟩
theorem Mix.done {n : Nat} {X Y : List UInt8} {Is : List Bool} (hY : Y.length = n) (h : Mix n n X Y Is) : Is = freeI Y Y := by
  apply List.ext_getElem?
  intro j
  by_cases hj : j < n
  · exact h.2.1 j hj
  · rw [List.getElem?_eq_none (by rw [h.1]; omega), List.getElem?_eq_none (by rw [freeI_len hY hY]; omega)]
theorem Mix.same {n k : Nat} {X Y : List UInt8} {Is : List Bool} {a b : UInt8} (h : Mix n k X Y Is) (ha : X[k]? = some a) (hb : Y[k]? = some b) (e : a = 0 ∨ b ≠ 0) : Mix n (k + 1) X Y Is := by
  refine ⟨h.1, fun j hj => ?_, fun j hj => h.2.2 j (by omega)⟩
  by_cases hjk : j = k
  · subst hjk
    rw [h.2.2 j (Nat.le_refl _), freeI_get ha hb, freeI_get hb hb]
    rcases e with e | e
    · subst e; simp
    · have : (b == 0) = false := by simpa using e
      rw [this]; simp
  · exact h.2.1 j (by omega)
theorem Mix.give {n k : Nat} {X Y : List UInt8} {Is : List Bool} {a : UInt8} (h : Mix n k X Y Is) (hk : k < n) (ha : X[k]? = some a) (hb : Y[k]? = some 0) (e : a ≠ 0) : giveN Is (k : Int) = (0, Is.set k true) ∧ Mix n (k + 1) X Y (Is.set k true) := by
  have hI : Is[k]? = some false := by
    rw [h.2.2 k (Nat.le_refl _), freeI_get ha hb]
    have : (a == 0) = false := by simpa using e
    rw [this]; simp
  have hl := h.1
  refine ⟨by unfold giveN; rw [if_neg (by omega), Int.toNat_natCast, hI, if_neg (by simp)], by simp [hl], fun j hj => ?_, fun j hj => ?_⟩
  · by_cases hjk : j = k
    · subst hjk
      rw [List.getElem?_set_self (by omega), freeI_get hb hb]; rfl
    · rw [List.getElem?_set_ne (fun h => hjk h.symm)]
      exact h.2.1 j (by omega)
  · rw [List.getElem?_set_ne (by omega)]
    exact h.2.2 j (by omega)

set_option maxRecDepth 20000 in
theorem settle_anyF (B rb sb xb yb : Nat) (Fs : List Nat) (n : Nat) (X Y : List UInt8) (w : World) (c2 : w.cell? ⟨rb, 2, none⟩ = some (.pointer (some ⟨sb, 0, none⟩)))
    (hX : Room w B (some ⟨xb, 0, none⟩) n n (bts X)) (hY : Room w B (some ⟨yb, 0, none⟩) n n (bts Y)) (hS : SpAt w B sb Fs (freeI X Y)) (n0 : 0 < n) (nn : n ≤ 1024) (d1 : rb ∉ Fs) (d2 : xb ∉ Fs) (d3 : yb ∉ Fs) :
    Calls Tryz.prog 150 #[.pointer (some ⟨rb, 0, none⟩), .slice (some ⟨xb, 0, none⟩) n n, .slice (some ⟨yb, 0, none⟩) n n] w fun e w' => e = .returned (.tuple #[]) ∧ ∃ Fs', SpAt w' B sb Fs' (freeI Y Y) ∧ Room w' B (some ⟨xb, 0, none⟩) n n (bts Y) ∧ Chg (xb :: Fs) w w' ∧ ∀ k, k ∈ Fs' → k ∈ Fs ∨ w.heap.size ≤ k := by
  have lX : X.length = n := by have := hX.len; rwa [bts_length] at this
  have lY : Y.length = n := by have := hY.len; rwa [bts_length] at this
  have hM := Mix.start lX lY
  have hxw : xb < w.heap.size := (hX.lt xb (by rw [fp_some _ _ _ n0]; simp)).2
  go_enter Tryz.func150, Tryz.ntmps150
  go_wp2_with fail
  go_loopw [10] (fun v wr => ∃ (k : Nat) (Is : List Bool) (Fk : List Nat), v = .int .i64 k ∧ k ≤ n ∧ Mix n k X Y Is ∧ SpAt wr B sb Fk Is ∧ Chg Fs w wr ∧ ∀ q, q ∈ Fk → q ∈ Fs ∨ w.heap.size ≤ q) (fun v _ => n - (Go.RowKit.intOf v).toNat)
  case atStart => exact ⟨0, _, Fs, rfl, Nat.zero_le _, hM, hS, Chg.refl _ _, fun q hq => Or.inl hq⟩
  case round =>
    clear hM hS
    obtain ⟨k, Is, Fk, rfl, hk, hM, hS, hg, hf⟩ := hrel
    have fx : ∀ q, q ∈ fp (some ⟨xb, 0, none⟩) n → q ∉ Fs := fun q hq => by rw [fp_some _ _ _ n0] at hq; simp at hq; subst hq; exact d2
    have fy : ∀ q, q ∈ fp (some ⟨yb, 0, none⟩) n → q ∉ Fs := fun q hq => by rw [fp_some _ _ _ n0] at hq; simp at hq; subst hq; exact d3
    have hXr := hX.chg hg fx
    have hYr := hY.chg hg fy
    have c2r := hg.cellv c2 d1
    by_cases hlt : k < n
    · have hd : decide (k < n) = true := decide_eq_true hlt
      have hd2 : decide ((k : Int) < (n : Int)) = true := decide_eq_true (by omega)
      obtain ⟨a, m, ha, hm, hm2⟩ := byte_at lX hlt
      obtain ⟨b, q, hb, hq, hq2⟩ := byte_at lY hlt
      have ci := hXr.read ha hm
      have cj := hYr.read hb hq
      rw [Nat.zero_add] at ci cj
      by_cases hm0 : m = 0
      · have hM' := hM.same ha hb (Or.inl ((u8_nat hm 0).2 hm0))
        have t1 : decide ((m : Int) > 0) = false := decide_eq_false (by omega)
        have t2 : decide (0 < m) = false := decide_eq_false (by omega)
        have t3 : decide ((0 : Int) < (m : Int)) = false := decide_eq_false (by omega)
        have HM := mkHid hM'
        clear ha hm hb hq hM hM' hm0 hX hY hXr hYr
        go_wp2_with fail
        exact ⟨⟨k + 1, Is, Fk, by first | rfl | go_num, by omega, HM.out, hS, hg, hf⟩, by simp [Go.RowKit.intOf]; omega⟩
      · have t1 : decide ((m : Int) > 0) = true := decide_eq_true (by omega)
        have t2 : decide (0 < m) = true := decide_eq_true (by omega)
        have t3 : decide ((0 : Int) < (m : Int)) = true := decide_eq_true (by omega)
        by_cases hq0 : q = 0
        · have hb0 : Y[k]? = some 0 := by rw [hb, (u8_nat hq 0).2 hq0]
          obtain ⟨eg, hM'⟩ := hM.give hlt ha hb0 (fun e => hm0 ((u8_nat hm 0).1 e))
          have cG := give_any (k : Int) B sb Fk Is wr hS
          rw [eg] at cG
          have u1 : ((q : Int) == 0) = true := by simp; omega
          have u2 : (q == 0) = true := by simp; omega
          have HM := mkHid hM'
          generalize Is.set k true = I2 at *
          clear ha hm hb hq hM hM' hm0 hX hY hXr hYr hb0 eg hq0
          go_wp2_with (first | (go_at_call 148; refine cG.mono ?_; rintro e w2 ⟨rfl, hs⟩))
          obtain ⟨F2, s1, s2, s3⟩ := hs
          have hz := hg.size
          refine ⟨⟨k + 1, I2, F2, by first | rfl | go_num, by omega, HM.out, s1, hg.trans s2 (fun _ h _ => h) (fun p hp hlt => (hf p hp).elim id (fun h9 => by omega)), fun p hp => ?_⟩, by simp [Go.RowKit.intOf]; omega⟩
          rcases s3 p hp with h9 | h9
          · exact hf p h9
          · exact Or.inr (by omega)
        · have hM' := hM.same ha hb (Or.inr (fun e => hq0 ((u8_nat hq 0).1 e)))
          have u1 : ((q : Int) == 0) = false := beq_eq_false_iff_ne.2 (by omega)
          have u2 : (q == 0) = false := beq_eq_false_iff_ne.2 (by omega)
          have HM := mkHid hM'
          clear ha hm hb hq hM hM' hm0 hX hY hXr hYr hq0
          go_wp2_with fail
          exact ⟨⟨k + 1, Is, Fk, by first | rfl | go_num, by omega, HM.out, hS, hg, hf⟩, by simp [Go.RowKit.intOf]; omega⟩
    · have hkn : k = n := by omega
      subst hkn
      have hd : decide (k < k) = false := by simp
      have hI := hM.done lY
      subst hI
      have hl : (bts Y).length = k := by rw [bts_length]; exact lY
      have hth := hXr.there 0 k (by omega)
      have hs := hXr.sets (bts Y) 0 (by omega)
      have e1 : (bts X).take 0 ++ (bts Y ++ (bts X).drop (0 + (bts Y).length)) = bts Y := by
        rw [hl, List.drop_eq_nil_of_le (by rw [bts_length]; omega)]; simp
      rw [e1] at hs
      have hY2 := hYr.reads
      have g1 := Chg.setCells xb (bts Y) 0 wr
      have hxk : xb ∉ Fk := fun hm => (hf xb hm).elim d2 (fun h => by omega)
      have HL := mkHid hl
      have hz : (wr.setCells xb 0 (bts Y)).heap.size = wr.heap.size := size_setCells xb (bts Y) 0 wr
      have HZ := mkHid hz
      clear hl e1 hM hX hY hXr hYr lX lY hz
      go_wp2_with (refine wpList_copy_k rfl (.tmp 31) (.tmp 32) 41 41 5 rfl Tryz.underlying41 oneB xb 0 k k (some ⟨yb, 0, none⟩) k k (bts Y) rfl rfl hY2 (by rw [HL.out]; exact (Nat.min_self _).symm) (by rw [HL.out]; exact hth) (bts_one _) ?_)
      go_end0
      exact ⟨rfl, Fk, hS.chg g1 (fun p hp hm => by simp at hm; subst hm; exact hxk hp), hs, hg.trans g1 (fun p hp _ => by simp [hp]) (fun p hp _ => by simp at hp; simp [hp]), hf⟩
section
variable (B rb nb cb sb : Nat) (Fs : List Nat) (n : Nat) (N C : List UInt8) (w : World) (h : RfsAt w B rb nb cb sb Fs n N C)
include h
set_option maxRecDepth 20000 in
theorem commit_any : Calls Tryz.prog 94 #[.pointer (some ⟨rb, 0, none⟩)] w fun e w' => e = .returned (.int .i64 0) ∧ RStep w w' B rb nb cb sb Fs n N N := by
  have cM := rmade_yes rb sb w h.c2
  have c0 := h.c0
  have c1 := h.c1
  have cS : ∀ w1, Chg [] w w1 → Calls Tryz.prog 150 #[.pointer (some ⟨rb, 0, none⟩), .slice (some ⟨cb, 0, none⟩) n n, .slice (some ⟨nb, 0, none⟩) n n] w1 fun e w' => e = .returned (.tuple #[]) ∧ RStep w w' B rb nb cb sb Fs n N N ∧ w'.cell? ⟨rb, 0, none⟩ = some (.slice (some ⟨nb, 0, none⟩) n n) ∧ w'.cell? ⟨rb, 1, none⟩ = some (.slice (some ⟨cb, 0, none⟩) n n) := by
    intro w1 g
    have h1 := h.keep g
    refine (settle_anyF B rb sb cb nb Fs n C N w1 h1.c2 h1.rc h1.rn (by rw [freeI_comm]; exact h1.sp) h.n0 h.nn h.d4 h.d6 h.d5).mono ?_
    rintro e w' ⟨he, Fs', s1, s2, s3, s4⟩
    have hn : ∀ k, k < w1.heap.size → k ∉ Fs → k ∉ Fs' := fun k h4 h5 h6 => (s4 k h6).elim h5 (fun h7 => by omega)
    have e1 : rb ∉ cb :: Fs := by simp; exact ⟨h.d2, h.d4⟩
    have e2 : nb ∉ cb :: Fs := by simp; exact ⟨h.d3, h.d5⟩
    refine ⟨he, ⟨Fs', ⟨s3.cellv h1.c0 e1, s3.cellv h1.c1 e1, s3.cellv h1.c2 e1, fun j => (s3.frozen (p := ⟨rb, j, none⟩) (show rb < w1.heap.size from h1.ltr) e1).trans (h1.fz j),
      h1.rn.chg s3 (fun k hk => by rw [fp_some _ _ _ h.n0] at hk; simp at hk; subst hk; exact e2), s2, s1, h.n0, h.nn, h.rB, h.d1, h.d2, h.d3, hn _ h1.ltr h.d4, hn _ h1.ltn.2 h.d5, hn _ h1.ltc.2 h.d6⟩,
      g.trans s3 (by simp) (fun k hk _ => by simp at hk; simp; rcases hk with hk | hk <;> simp [hk]), fun k hk => (s4 k hk).imp id (fun h9 => Nat.le_trans g.size h9)⟩, s3.cellv h1.c0 e1, s3.cellv h1.c1 e1⟩
  have CS := mkHid cS
  clear cS
  go_enter Tryz.func94, Tryz.ntmps94
  go_wp2_with (first | (go_at_call 74; refine cM.mono ?_; rintro e w' ⟨rfl, rfl⟩))
  go_region_held3 (fun u => u.cell? ⟨rb, 0, none⟩ = some (.slice (some ⟨nb, 0, none⟩) n n) ∧ u.cell? ⟨rb, 1, none⟩ = some (.slice (some ⟨cb, 0, none⟩) n n))
    (first | exact ⟨c0, c1⟩ | exact ⟨k0, k1⟩ | assumption)
    (first | (go_at_call 150; refine (CS.out _ (by first | exact Chg.refl _ _ | exact Chg.drew _ _)).mono ?_; rintro e w4 ⟨rfl, hst, k0, k1⟩))
  go_wp2_with fail
  go_ret
  exact ⟨rfl, hst⟩
end
end Go.Proofs.YtoeijomelabbfaaGreatDoor

/- Refs: New, Copy, Become. -/
namespace Go.Proofs.YtoeijomelabbfaaGreatDoor
set_option maxRecDepth 200000
open Go.RowKit
set_option linter.unusedVariables false
set_option linter.unusedSimpArgs false
attribute [local go_sem ↓] Go.wp_at_zero Go.wp_at_succ

/-- Refs around what was made. -/
theorem rfs_close {w : World} {B nb cb sb : Nat} {Fs : List Nat} {n : Nat} {N C : List UInt8} {t : TypeId} (hB : B ≤ w.heap.size) (rn : Room w B (some ⟨nb, 0, none⟩) n n (bts N)) (rc : Room w B (some ⟨cb, 0, none⟩) n n (bts C)) (sp : SpAt w B sb Fs (freeI N C)) (n0 : 0 < n) (nn : n ≤ 1024) (d3 : nb ≠ cb) (d5 : nb ∉ Fs) (d6 : cb ∉ Fs) :
    RfsAt (w.alloc (.cells #[.slice (some ⟨nb, 0, none⟩) n n, .slice (some ⟨cb, 0, none⟩) n n, .pointer (some ⟨sb, 0, none⟩)] t)) B w.heap.size nb cb sb Fs n N C ∧ Chg [] w (w.alloc (.cells #[.slice (some ⟨nb, 0, none⟩) n n, .slice (some ⟨cb, 0, none⟩) n n, .pointer (some ⟨sb, 0, none⟩)] t)) := by
  have g := Chg.alloc [] w (.cells #[.slice (some ⟨nb, 0, none⟩) n n, .slice (some ⟨cb, 0, none⟩) n n, .pointer (some ⟨sb, 0, none⟩)] t)
  have hcl := fun j => cell_of_row (w.alloc (.cells #[.slice (some ⟨nb, 0, none⟩) n n, .slice (some ⟨cb, 0, none⟩) n n, .pointer (some ⟨sb, 0, none⟩)] t)) w.heap.size j _ _ _ (heap_alloc_last w _)
  have hfz := fun j => frozen_of_row (w.alloc (.cells #[.slice (some ⟨nb, 0, none⟩) n n, .slice (some ⟨cb, 0, none⟩) n n, .pointer (some ⟨sb, 0, none⟩)] t)) w.heap.size j _ _ (heap_alloc_last w _)
  have l1 := (rn.lt nb (by rw [fp_some _ _ _ n0]; simp)).2
  have l2 := (rc.lt cb (by rw [fp_some _ _ _ n0]; simp)).2
  exact ⟨⟨hcl 0, hcl 1, hcl 2, hfz, rn.chg g (by simp), rc.chg g (by simp), sp.keep g, n0, nn, hB, by omega, by omega, d3, fun hk => by have := (sp.lt _ hk).2; omega, d5, d6⟩, g⟩
def Part (n k : Nat) (X : List UInt8) (Is : List Bool) : Prop := Is.length = n ∧ (∀ j, j < k → Is[j]? = (freeI X X)[j]?) ∧ ∀ j, k ≤ j → j < n → Is[j]? = some true
theorem Part.start (n : Nat) (X : List UInt8) : Part n 0 X (List.replicate n true) := ⟨by simp, fun j hj => by omega, fun j _ h => by simp [h]⟩
theorem Part.done {n : Nat} {X : List UInt8} {Is : List Bool} (hX : X.length = n) (h : Part n n X Is) : Is = freeI X X := by
  apply List.ext_getElem?
  intro j
  by_cases hj : j < n
  · exact h.2.1 j hj
  · rw [List.getElem?_eq_none (by rw [h.1]; omega), List.getElem?_eq_none (by rw [freeI_len hX hX]; omega)]
theorem Part.same {n k : Nat} {X : List UInt8} {Is : List Bool} (h : Part n k X Is) (hk : k < n) (ha : X[k]? = some 0) : Part n (k + 1) X Is := by
  refine ⟨h.1, fun j hj => ?_, fun j hj => h.2.2 j (by omega)⟩
  by_cases hjk : j = k
  · subst hjk
    rw [h.2.2 j (Nat.le_refl _) hk, freeI_get ha ha]; rfl
  · exact h.2.1 j (by omega)
theorem Part.claim {n k : Nat} {X : List UInt8} {Is : List Bool} {a : UInt8} (h : Part n k X Is) (hk : k < n) (ha : X[k]? = some a) (e : a ≠ 0) : claimN Is (k : Int) = (0, Is.set k false) ∧ Part n (k + 1) X (Is.set k false) := by
  have hI := h.2.2 k (Nat.le_refl _) hk
  have hl := h.1
  refine ⟨by unfold claimN; rw [if_neg (by omega), Int.toNat_natCast, if_pos hI], by simp [hl], fun j hj => ?_, fun j hj hjn => ?_⟩
  · by_cases hjk : j = k
    · subst hjk
      have : (a == 0) = false := by simpa using e
      rw [List.getElem?_set_self (by omega), freeI_get ha ha, this]; rfl
    · rw [List.getElem?_set_ne (fun h => hjk h.symm)]
      exact h.2.1 j (by omega)
  · rw [List.getElem?_set_ne (by omega)]
    exact h.2.2 j (by omega) hjn
set_option maxRecDepth 20000 in
theorem rnew_in (ao : Option Addr) (n c : Nat) (L : List UInt8) (w : World) (g : Reads w ao (bts L)) (gn : L.length = n) (n0 : 0 < n) (nn : n ≤ 1024) : Calls Tryz.prog 65 #[.slice ao n c] w fun e w' => ∃ rb nb cb sb Fs, e = .returned (.tuple #[.pointer (some ⟨rb, 0, none⟩), .int .i64 0]) ∧ RfsAt w' w.heap.size rb nb cb sb Fs n L L ∧ Chg [] w w' := by
  have d1 : decide ((n : Int) < 1) = false := decide_eq_false (by omega)
  have d1' : decide (n < 1) = false := decide_eq_false (by omega)
  have d2 : decide ((n : Int) > 1024) = false := decide_eq_false (by omega)
  have d3 : decide ((1024 : Int) < (n : Int)) = false := decide_eq_false (by omega)
  have d4 : decide (1024 < n) = false := decide_eq_false (by omega)
  have hM := Part.start n L
  have cN := new_yes n nn w
  generalize List.replicate n true = I0 at *
  go_enter Tryz.func65, Tryz.ntmps65
  go_wp2_with (first | (go_at_call 133; refine cN.mono ?_; rintro e w1 ⟨sb, F, rfl, hS, hg1⟩))
  clear cN
  go_loopw [27] (fun v wr => ∃ (k : Nat) (Is : List Bool) (Fk : List Nat), v = .int .i64 k ∧ k ≤ n ∧ Part n k L Is ∧ SpAt wr w.heap.size sb Fk Is ∧ Chg [] w wr) (fun v _ => n - (Go.RowKit.intOf v).toNat)
  case atStart => exact ⟨0, _, F, rfl, Nat.zero_le _, hM, hS, hg1⟩
  case round =>
    clear hM hS hg1
    obtain ⟨k, Is, Fk, rfl, hk, hM, hS, hg⟩ := hrel
    have gr := g.keep hg
    by_cases hlt : k < n
    · have hd : decide (k < n) = true := decide_eq_true hlt
      have hd2 : decide ((k : Int) < (n : Int)) = true := decide_eq_true (by omega)
      obtain ⟨a, m, ha, hm, hm2⟩ := byte_at gn hlt
      obtain ⟨ab, aoff, rfl, ci, _⟩ := reads_lt gr k _ (bts_at ha hm)
      by_cases hm0 : m = 0
      · have hM' := hM.same hlt (by rw [ha, (u8_nat hm 0).2 hm0])
        have t1 : decide ((m : Int) > 0) = false := decide_eq_false (by omega)
        have t2 : decide (0 < m) = false := decide_eq_false (by omega)
        have t3 : decide ((0 : Int) < (m : Int)) = false := decide_eq_false (by omega)
        have HM := mkHid hM'
        clear ha hm hM hM' hm0
        go_wp2_with fail
        exact ⟨⟨k + 1, Is, Fk, by first | rfl | go_num, by omega, HM.out, hS, hg⟩, by simp [Go.RowKit.intOf]; omega⟩
      · have t1 : decide ((m : Int) > 0) = true := decide_eq_true (by omega)
        have t2 : decide (0 < m) = true := decide_eq_true (by omega)
        have t3 : decide ((0 : Int) < (m : Int)) = true := decide_eq_true (by omega)
        obtain ⟨eg, hM'⟩ := hM.claim hlt ha (fun e => hm0 ((u8_nat hm 0).1 e))
        have cG := claim_any (k : Int) w.heap.size sb Fk Is wr hS
        rw [eg] at cG
        have HM := mkHid hM'
        generalize Is.set k false = I2 at *
        clear ha hm hM hM' hm0 eg
        go_wp2_with (first | (go_at_call 134; refine cG.mono ?_; rintro e w2 ⟨rfl, hs⟩))
        obtain ⟨F2, s1, s2, s3⟩ := hs
        exact ⟨⟨k + 1, I2, F2, by first | rfl | go_num, by omega, HM.out, s1, hg.trans s2 (fun _ h _ => h) (fun p hp hlt => by have := (hS.lt p hp).1; omega)⟩, by simp [Go.RowKit.intOf]; omega⟩
    · have hkn : k = n := by omega
      subst hkn
      have hd : decide (k < k) = false := by simp
      have hI := hM.done gn
      subst hI
      clear hM
      go_wp2_with fail
      refine (kept_any ao k c L wr gr gn n0 nn).mono ?_
      rintro e wa ⟨b1, rfl, hb1, ra, ga⟩
      go_wp2_with fail
      refine (kept_any ao k c L wa (gr.keep ga) gn n0 nn).mono ?_
      rintro e wb ⟨b2, rfl, hb2, rb2, gb⟩
      have hra := (ra.mono hg.size).chg gb (by simp)
      have hrb := rb2.mono (Nat.le_trans hg.size ga.size)
      have hSb := (hS.keep ga).keep gb
      have l1 := (ra.lt b1 (by rw [fp_some _ _ _ n0]; simp)).2
      obtain ⟨h1, h2⟩ := rfs_close (t := 123) (Nat.le_trans (Nat.le_trans hg.size ga.size) gb.size) hra hrb hSb n0 nn (by omega) (fun hk => by have := (hS.lt _ hk).2; omega) (fun hk => by have := (hS.lt _ hk).2; have := ga.size; omega)
      have H1 := mkHid h1
      clear h1 hra hrb hSb gn
      go_wp2_with fail
      go_ret2
      exact ⟨_, b1, b2, sb, Fk, rfl, H1.out, ((hg.then ga).then gb).then h2⟩
section
variable (B rb nb cb sb : Nat) (Fs : List Nat) (n : Nat) (N C : List UInt8) (w : World) (h : RfsAt w B rb nb cb sb Fs n N C)
include h
section
variable (Bx xb mb db tb : Nat) (Fx : List Nat) (nx : Nat) (M D : List UInt8) (hx : RfsAt w Bx xb mb db tb Fx nx M D)
include hx
end
end
end Go.Proofs.YtoeijomelabbfaaGreatDoor

/- The document's own Refs (the reference) in memory; New, free, Alloc, why, Inc, Dec. -/
namespace Go.Proofs.YtoeijomelabbfaaGreatDoor
set_option maxRecDepth 200000
open Go.RowKit
set_option linter.unusedVariables false
set_option linter.unusedSimpArgs false
attribute [local go_sem ↓] Go.wp_at_zero Go.wp_at_succ

def bvs (l : List Bool) : List Value := l.map Value.bool
/-- Which blocks are fresh. -/
def newL (N C : List UInt8) : List Bool := List.zipWith (fun a b => a != 0 && b == 0) N C
/-- The reference's Refs in block db: three rows, in blocks b0, b1, b2. -/
structure DAt (w : World) (B db b0 o0 k0 b1 o1 k1 b2 o2 k2 n : Nat) (N C : List UInt8) : Prop where
  c0 : w.cell? ⟨db, 0, none⟩ = some (.slice (some ⟨b0, o0, none⟩) n k0)
  c1 : w.cell? ⟨db, 1, none⟩ = some (.slice (some ⟨b1, o1, none⟩) n k1)
  c2 : w.cell? ⟨db, 2, none⟩ = some (.slice (some ⟨b2, o2, none⟩) n k2)
  fz : ∀ j, w.frozen? ⟨db, j, none⟩ = false
  r0 : Room w B (some ⟨b0, o0, none⟩) n k0 (bts N)
  r1 : Room w B (some ⟨b1, o1, none⟩) n k1 (bts C)
  r2 : Room w B (some ⟨b2, o2, none⟩) n k2 (bvs (newL N C))
  n0 : 0 < n
  nn : n ≤ 1024
  dB : B ≤ db
  d0 : db ≠ b0
  d1 : db ≠ b1
  d2 : db ≠ b2
  e1 : b0 ≠ b1
  e2 : b0 ≠ b2
  e3 : b1 ≠ b2
section
variable {w w' : World} {B db b0 o0 k0 b1 o1 k1 b2 o2 k2 n : Nat} {N C : List UInt8}
theorem room_blk {w : World} {B b o n c : Nat} {xs : List Value} (h : Room w B (some ⟨b, o, none⟩) n c xs) (n0 : 0 < n) : fp (some ⟨b, o, none⟩) c = [b] := fp_some _ _ _ (by have := h.le; omega)
theorem room_lt {w : World} {B b o n c : Nat} {xs : List Value} (h : Room w B (some ⟨b, o, none⟩) n c xs) (n0 : 0 < n) : B ≤ b ∧ b < w.heap.size := h.lt b (by rw [room_blk h n0]; simp)
theorem room_chg {w w' : World} {B b o n c : Nat} {xs : List Value} {S : List Nat} (h : Room w B (some ⟨b, o, none⟩) n c xs) (n0 : 0 < n) (g : Chg S w w') (hS : b ∉ S) : Room w' B (some ⟨b, o, none⟩) n c xs := h.chg g (fun k hk => by rw [room_blk h n0] at hk; simp at hk; subst hk; exact hS)
theorem DAt.lN (h : DAt w B db b0 o0 k0 b1 o1 k1 b2 o2 k2 n N C) : N.length = n := by have := h.r0.len; rwa [bts_length] at this
theorem DAt.lC (h : DAt w B db b0 o0 k0 b1 o1 k1 b2 o2 k2 n N C) : C.length = n := by have := h.r1.len; rwa [bts_length] at this
theorem DAt.chg {S : List Nat} (h : DAt w B db b0 o0 k0 b1 o1 k1 b2 o2 k2 n N C) (c : Chg S w w') (hn : ∀ k, k ∈ [db, b0, b1, b2] → k ∉ S) : DAt w' B db b0 o0 k0 b1 o1 k1 b2 o2 k2 n N C := by
  have h1 := hn db (by simp)
  exact ⟨c.cellv h.c0 h1, c.cellv h.c1 h1, c.cellv h.c2 h1, fun j => (c.frozen (p := ⟨db, j, none⟩) (show db < w.heap.size from block_lt_of_cell h.c0) h1).trans (h.fz j),
    room_chg h.r0 h.n0 c (hn _ (by simp)), room_chg h.r1 h.n0 c (hn _ (by simp)), room_chg h.r2 h.n0 c (hn _ (by simp)), h.n0, h.nn, h.dB, h.d0, h.d1, h.d2, h.e1, h.e2, h.e3⟩
theorem DAt.lt (h : DAt w B db b0 o0 k0 b1 o1 k1 b2 o2 k2 n N C) : ∀ k, k ∈ [db, b0, b1, b2] → B ≤ k ∧ k < w.heap.size := by
  intro k hk
  simp at hk
  rcases hk with rfl | rfl | rfl | rfl
  · exact ⟨h.dB, block_lt_of_cell h.c0⟩
  · exact room_lt h.r0 h.n0
  · exact room_lt h.r1 h.n0
  · exact room_lt h.r2 h.n0
theorem DAt.mono {B' : Nat} (h : DAt w B db b0 o0 k0 b1 o1 k1 b2 o2 k2 n N C) (hB : B' ≤ B) : DAt w B' db b0 o0 k0 b1 o1 k1 b2 o2 k2 n N C :=
  ⟨h.c0, h.c1, h.c2, h.fz, h.r0.mono hB, h.r1.mono hB, h.r2.mono hB, h.n0, h.nn, Nat.le_trans hB h.dB, h.d0, h.d1, h.d2, h.e1, h.e2, h.e3⟩
end
/-- The reference, its blocks G. -/
def DO (w : World) (B db : Nat) (G : List Nat) (n : Nat) (N C : List UInt8) : Prop := ∃ b0 o0 k0 b1 o1 k1 b2 o2 k2, DAt w B db b0 o0 k0 b1 o1 k1 b2 o2 k2 n N C ∧ G = [db, b0, b1, b2]
theorem DO.chg {w w' : World} {B db : Nat} {G : List Nat} {n : Nat} {N C : List UInt8} {S : List Nat} (h : DO w B db G n N C) (c : Chg S w w') (hn : ∀ k, k ∈ G → k ∉ S) : DO w' B db G n N C := by
  obtain ⟨b0, o0, k0, b1, o1, k1, b2, o2, k2, hD, rfl⟩ := h
  exact ⟨b0, o0, k0, b1, o1, k1, b2, o2, k2, hD.chg c hn, rfl⟩
theorem DO.keep {w w' : World} {B db : Nat} {G : List Nat} {n : Nat} {N C : List UInt8} (h : DO w B db G n N C) (c : Chg [] w w') : DO w' B db G n N C := h.chg c (by simp)
theorem DO.lt {w : World} {B db : Nat} {G : List Nat} {n : Nat} {N C : List UInt8} (h : DO w B db G n N C) : ∀ k, k ∈ G → B ≤ k ∧ k < w.heap.size := by
  obtain ⟨b0, o0, k0, b1, o1, k1, b2, o2, k2, hD, rfl⟩ := h
  exact hD.lt
theorem DO.mono {w : World} {B B' db : Nat} {G : List Nat} {n : Nat} {N C : List UInt8} (h : DO w B db G n N C) (hB : B' ≤ B) : DO w B' db G n N C := by
  obtain ⟨b0, o0, k0, b1, o1, k1, b2, o2, k2, hD, rfl⟩ := h
  exact ⟨b0, o0, k0, b1, o1, k1, b2, o2, k2, hD.mono hB, rfl⟩
/-- What a call has made of the reference. -/
def DStep (w w' : World) (B db : Nat) (G : List Nat) (n : Nat) (N C : List UInt8) : Prop := ∃ G', DO w' B db G' n N C ∧ Chg G w w' ∧ ∀ k, k ∈ G' → k ∈ G ∨ w.heap.size ≤ k
theorem DStep.refl {w : World} {B db : Nat} {G : List Nat} {n : Nat} {N C : List UInt8} (h : DO w B db G n N C) : DStep w w B db G n N C := ⟨G, h, Chg.refl _ _, fun _ h => Or.inl h⟩
/-- A count was written, and perhaps whether the block is fresh. -/
theorem DAt.set {w w' : World} {B db b0 o0 k0 b1 o1 k1 b2 o2 k2 n : Nat} {N C N' : List UInt8} (h : DAt w B db b0 o0 k0 b1 o1 k1 b2 o2 k2 n N C) (g : Chg [b0, b2] w w') (r0 : Room w' B (some ⟨b0, o0, none⟩) n k0 (bts N')) (r2 : Room w' B (some ⟨b2, o2, none⟩) n k2 (bvs (newL N' C))) : DStep w w' B db [db, b0, b1, b2] n N' C := by
  have h1 : db ∉ [b0, b2] := by simp; exact ⟨h.d0, h.d2⟩
  have h2 : b1 ∉ [b0, b2] := by simp; exact ⟨fun e => h.e1 e.symm, h.e3⟩
  exact ⟨_, ⟨b0, o0, k0, b1, o1, k1, b2, o2, k2, ⟨g.cellv h.c0 h1, g.cellv h.c1 h1, g.cellv h.c2 h1, fun j => (g.frozen (p := ⟨db, j, none⟩) (show db < w.heap.size from block_lt_of_cell h.c0) h1).trans (h.fz j),
    r0, room_chg h.r1 h.n0 g h2, r2, h.n0, h.nn, h.dB, h.d0, h.d1, h.d2, h.e1, h.e2, h.e3⟩, rfl⟩, g.mono (fun k hk _ => by simp at hk ⊢; rcases hk with hk | hk <;> simp [hk]), fun k hk => Or.inl hk⟩

end Go.Proofs.YtoeijomelabbfaaGreatDoor

/- Objects beside each other: each block has a tag; what a call turns has one tag. -/
namespace Go.Proofs.YtoeijomelabbfaaGreatDoor
set_option maxRecDepth 200000
open Go.RowKit
set_option linter.unusedVariables false
set_option linter.unusedSimpArgs false
attribute [local go_sem ↓] Go.wp_at_zero Go.wp_at_succ

/-- From w to w' only blocks of tag i (from B on) have turned; old blocks keep their tags. -/
def Turn (B : Nat) (tag tag' : Nat → Nat) (i : Nat) (w w' : World) : Prop := (∃ S, Chg S w w' ∧ ∀ k, k ∈ S → tag k = i ∧ B ≤ k) ∧ ∀ k, k < w.heap.size → tag' k = tag k
/-- Nothing old has turned. -/
def Still (tag tag' : Nat → Nat) (w w' : World) : Prop := Chg [] w w' ∧ ∀ k, k < w.heap.size → tag' k = tag k
theorem Still.turn {tag tag' : Nat → Nat} {w w' : World} (h : Still tag tag' w w') (B i : Nat) : Turn B tag tag' i w w' := ⟨⟨[], h.1, by simp⟩, h.2⟩
theorem Still.of {tag : Nat → Nat} {w w' : World} (h : Chg [] w w') : Still tag tag w w' := ⟨h, fun _ _ => rfl⟩
theorem Turn.base {w0 w w' : World} {tag tag' : Nat → Nat} {i : Nat} (h : Turn w0.heap.size tag tag' i w w') (g : Chg [] w0 w) : Chg [] w0 w' := by
  obtain ⟨⟨S, hS, h1⟩, _⟩ := h
  exact g.trans hS (by simp) (fun k hk hlt => by have := (h1 k hk).2; omega)
def mark (tag : Nat → Nat) (sz i : Nat) : Nat → Nat := fun k => if k < sz then tag k else i
theorem mark_old (tag : Nat → Nat) (sz i k : Nat) (h : k < sz) : mark tag sz i k = tag k := if_pos h
theorem mark_new (tag : Nat → Nat) (sz i k : Nat) (h : sz ≤ k) : mark tag sz i k = i := if_neg (by omega)
/-- Refs in block rb, all their blocks have the tag i. -/
def HasR (B : Nat) (w : World) (tag : Nat → Nat) (i rb n : Nat) (N C : List UInt8) : Prop := ∃ nb cb sb Fs, RfsAt w B rb nb cb sb Fs n N C ∧ ∀ k, k ∈ rb :: nb :: cb :: Fs → tag k = i
def HasD (B : Nat) (w : World) (tag : Nat → Nat) (i db n : Nat) (N C : List UInt8) : Prop := ∃ G, DO w B db G n N C ∧ ∀ k, k ∈ G → tag k = i
def HasS (B : Nat) (w : World) (tag : Nat → Nat) (i : Nat) (ao : Option Addr) (n c : Nat) (xs : List Value) : Prop := Room w B ao n c xs ∧ ∀ k, k ∈ fp ao c → tag k = i
section
variable {B : Nat} {w w' : World} {tag tag' : Nat → Nat} {i j : Nat}
theorem HasR.stay {rb n : Nat} {N C : List UInt8} (h : HasR B w tag j rb n N C) (t : Turn B tag tag' i w w') (hij : i ≠ j) : HasR B w' tag' j rb n N C := by
  obtain ⟨nb, cb, sb, Fs, h1, h2⟩ := h
  obtain ⟨⟨S, hS, h3⟩, h4⟩ := t
  exact ⟨nb, cb, sb, Fs, h1.chg hS (fun k hk hm => hij ((h3 k hm).1.symm.trans (h2 k hk))), fun k hk => (h4 k (h1.lt k hk).2).trans (h2 k hk)⟩
theorem HasR.still {rb n : Nat} {N C : List UInt8} (h : HasR B w tag j rb n N C) (t : Still tag tag' w w') : HasR B w' tag' j rb n N C := h.stay (t.turn B (j + 1)) (by omega)
theorem HasD.stay {db n : Nat} {N C : List UInt8} (h : HasD B w tag j db n N C) (t : Turn B tag tag' i w w') (hij : i ≠ j) : HasD B w' tag' j db n N C := by
  obtain ⟨G, h1, h2⟩ := h
  obtain ⟨⟨S, hS, h3⟩, h4⟩ := t
  exact ⟨G, h1.chg hS (fun k hk hm => hij ((h3 k hm).1.symm.trans (h2 k hk))), fun k hk => (h4 k (h1.lt k hk).2).trans (h2 k hk)⟩
theorem HasD.still {db n : Nat} {N C : List UInt8} (h : HasD B w tag j db n N C) (t : Still tag tag' w w') : HasD B w' tag' j db n N C := h.stay (t.turn B (j + 1)) (by omega)
theorem HasS.stay {ao : Option Addr} {n c : Nat} {xs : List Value} (h : HasS B w tag j ao n c xs) (t : Turn B tag tag' i w w') (hij : i ≠ j) : HasS B w' tag' j ao n c xs := by
  obtain ⟨⟨S, hS, h3⟩, h4⟩ := t
  exact ⟨h.1.chg hS (fun k hk hm => hij ((h3 k hm).1.symm.trans (h.2 k hk))), fun k hk => (h4 k (h.1.lt k hk).2).trans (h.2 k hk)⟩
theorem HasS.still {ao : Option Addr} {n c : Nat} {xs : List Value} (h : HasS B w tag j ao n c xs) (t : Still tag tag' w w') : HasS B w' tag' j ao n c xs := h.stay (t.turn B (j + 1)) (by omega)
theorem Turn.cellv (t : Turn B tag tag' i w w') {p : Addr} {v : Value} (hc : w.cell? p = some v) (hp : tag p.block = j) (hij : i ≠ j) : w'.cell? p = some v ∧ tag' p.block = j := by
  obtain ⟨⟨S, hS, h3⟩, h4⟩ := t
  exact ⟨hS.cellv hc (fun hm => hij ((h3 _ hm).1.symm.trans hp)), (h4 _ (block_lt_of_cell hc)).trans hp⟩
theorem HasR.size {rb n : Nat} {N C : List UInt8} (h : HasR B w tag j rb n N C) : B ≤ w.heap.size := by
  obtain ⟨nb, cb, sb, Fs, h1, h2⟩ := h
  have := h1.ltr
  have := h1.rB
  omega
theorem HasR.lens {rb n : Nat} {N C : List UInt8} (h : HasR B w tag j rb n N C) : N.length = n ∧ C.length = n ∧ 0 < n ∧ n ≤ 1024 := by
  obtain ⟨nb, cb, sb, Fs, h1, h2⟩ := h
  exact ⟨h1.lN, h1.lC, h1.n0, h1.nn⟩
end
theorem turn_r {B : Nat} {w : World} {tag : Nat → Nat} {i rb n : Nat} {N C N' C' : List UInt8} {f : Nat} {args : Array Value} {post : Ending → Prop} (h : HasR B w tag i rb n N C)
    (hc : ∀ nb cb sb Fs, RfsAt w B rb nb cb sb Fs n N C → Calls Tryz.prog f args w fun e w' => post e ∧ RStep w w' B rb nb cb sb Fs n N' C') :
    Calls Tryz.prog f args w fun e w' => post e ∧ ∃ tag', HasR B w' tag' i rb n N' C' ∧ Turn B tag tag' i w w' := by
  obtain ⟨nb, cb, sb, Fs, h1, h2⟩ := h
  refine (hc nb cb sb Fs h1).mono ?_
  rintro e w' ⟨hp, Fs', s1, s2, s3⟩
  refine ⟨hp, mark tag w.heap.size i, ⟨nb, cb, sb, Fs', s1, fun k hk => ?_⟩, ⟨_, s2, fun k hk => ⟨h2 k hk, (h1.lt k hk).1⟩⟩, fun k hk => mark_old _ _ _ _ hk⟩
  by_cases hlt : k < w.heap.size
  · rw [mark_old _ _ _ _ hlt]
    simp only [List.mem_cons] at hk
    rcases hk with rfl | rfl | rfl | hk
    · exact h2 _ (by simp)
    · exact h2 _ (by simp)
    · exact h2 _ (by simp)
    · exact (s3 k hk).elim (fun h => h2 k (by simp [h])) (fun h => by omega)
  · exact mark_new _ _ _ _ (by omega)
section
variable {B : Nat} {w : World} {tag : Nat → Nat} {i rb n : Nat} {N C : List UInt8} (h : HasR B w tag i rb n N C)
include h
theorem r_alloc : Calls Tryz.prog 15 #[.pointer (some ⟨rb, 0, none⟩)] w fun e w' => e = .returned (.tuple #[.int .i64 (allocN N C).1, .int .i64 (allocN N C).2.1]) ∧ ∃ tag', HasR B w' tag' i rb n (allocN N C).2.2 C ∧ Turn B tag tag' i w w' :=
  turn_r h fun nb cb sb Fs h1 => alloc_any B rb nb cb sb Fs n N C w h1
theorem r_commit : Calls Tryz.prog 94 #[.pointer (some ⟨rb, 0, none⟩)] w fun e w' => e = .returned (.int .i64 0) ∧ ∃ tag', HasR B w' tag' i rb n N N ∧ Turn B tag tag' i w w' :=
  turn_r h fun nb cb sb Fs h1 => commit_any B rb nb cb sb Fs n N C w h1
theorem r_free : Calls Tryz.prog 112 #[.pointer (some ⟨rb, 0, none⟩)] w fun e w' => e = .returned (.int .i64 (freeL (freeI N C)).length) ∧ w = w' := by
  obtain ⟨nb, cb, sb, Fs, h1, _⟩ := h
  exact rfree_any B rb nb cb sb Fs n N C w h1
end
theorem r_new (B : Nat) (ao : Option Addr) (n c : Nat) (L : List UInt8) (w : World) (g : Reads w ao (bts L)) (gn : L.length = n) (n0 : 0 < n) (nn : n ≤ 1024) (hB : B ≤ w.heap.size) (tag : Nat → Nat) (j : Nat) : Calls Tryz.prog 65 #[.slice ao n c] w fun e w' => ∃ rb, e = .returned (.tuple #[.pointer (some ⟨rb, 0, none⟩), .int .i64 0]) ∧ ∃ tag', HasR B w' tag' j rb n L L ∧ Still tag tag' w w' := by
  refine (rnew_in ao n c L w g gn n0 nn).mono ?_
  rintro e w' ⟨rb', nb', cb', sb', Fs', he, hr, hg⟩
  exact ⟨rb', he, mark tag w.heap.size j, ⟨nb', cb', sb', Fs', hr.mono hB, fun k hk => mark_new _ _ _ _ (hr.lt k hk).1⟩, hg, fun k hk => mark_old _ _ _ _ hk⟩
section
variable {B : Nat} {w : World} {tag : Nat → Nat} {i db n : Nat} {N C : List UInt8} (h : HasD B w tag i db n N C)
include h
end
end Go.Proofs.YtoeijomelabbfaaGreatDoor
