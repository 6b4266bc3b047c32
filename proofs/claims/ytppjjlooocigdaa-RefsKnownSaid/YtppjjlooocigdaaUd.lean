/- Refs: change, Inc, Dec, Alloc. -/
import Derived.Test.YtppjjlooocigdaaUc
namespace Go.Proofs.Ytppjjlooocigdaa
open Go.RowKit
set_option linter.unusedVariables false
set_option linter.unusedSimpArgs false
attribute [local go_sem ↓] Go.wp_at_zero Go.wp_at_succ

section
variable (B rb nb cb sb : Nat) (Fs : List Nat) (n : Nat) (N C : List UInt8) (w : World) (h : RfsAt w B rb nb cb sb Fs n N C)
include h
theorem change_out (z : Int) (hz : ¬ (0 ≤ z ∧ z < (n : Int))) (f : Value) : Calls Try.prog 37 #[.pointer (some ⟨rb, 0, none⟩), .int .i64 z, f] w fun e w' => e = .returned (.int .i64 1) ∧ w = w' := by
  have cM := rmade_yes rb sb w h.c2
  have cH := rhas_any B rb nb cb sb Fs n N C w h z
  rw [decide_eq_false hz] at cH
  go_enter Try.func37, Try.ntmps37
  go_wp2_with (first | (go_at_call 34; refine cM.mono ?_; rintro e w' ⟨rfl, rfl⟩) | (go_at_call 45; refine cH.mono ?_; rintro e w' ⟨rfl, rfl⟩))
  go_ret
  exact ⟨rfl, rfl⟩
theorem change_zero (x : Nat) (hx : x < n) (hN : N[x]? = some 0) (f : Value) : Calls Try.prog 37 #[.pointer (some ⟨rb, 0, none⟩), .int .i64 (x : Int), f] w fun e w' => e = .returned (.int .i64 6) ∧ w = w' := by
  have cM := rmade_yes rb sb w h.c2
  have c0 := h.c0
  have cH := rhas_any B rb nb cb sb Fs n N C w h (x : Int)
  rw [decide_eq_true (by omega)] at cH
  have ci := h.rn.read hN (m := 0) rfl
  rw [Nat.zero_add] at ci
  clear hN
  go_enter Try.func37, Try.ntmps37
  go_wp2_with (first | (go_at_call 34; refine cM.mono ?_; rintro e w' ⟨rfl, rfl⟩) | (go_at_call 45; refine cH.mono ?_; rintro e w' ⟨rfl, rfl⟩))
  go_ret
  exact ⟨rfl, rfl⟩
theorem change_inc (x : Nat) (hx : x < n) (a : UInt8) (m : Nat) (ha : N[x]? = some a) (hm : a.toNat = m) (h0 : 0 < m) (r : Int) (P : World → Prop) (hf : Calls Try.prog 38 #[.pointer (some ⟨rb, 0, none⟩), .int .i64 (x : Int)] w fun e w' => e = .returned (.int .i64 r) ∧ P w') :
    Calls Try.prog 37 #[.pointer (some ⟨rb, 0, none⟩), .int .i64 (x : Int), .func (.func 38) #[] #[]] w fun e w' => e = .returned (.int .i64 r) ∧ P w' := by
  have cM := rmade_yes rb sb w h.c2
  have c0 := h.c0
  have cH := rhas_any B rb nb cb sb Fs n N C w h (x : Int)
  rw [decide_eq_true (by omega)] at cH
  have ci := h.rn.read ha hm
  rw [Nat.zero_add] at ci
  have hne : ((m : Int) == 0) = false := beq_eq_false_iff_ne.2 (by omega)
  have hne2 : (m == 0) = false := beq_eq_false_iff_ne.2 (by omega)
  clear ha hm
  go_enter Try.func37, Try.ntmps37
  go_wp2_with (first | (go_at_call 34; refine cM.mono ?_; rintro e w' ⟨rfl, rfl⟩) | (go_at_call 45; refine cH.mono ?_; rintro e w' ⟨rfl, rfl⟩) | (go_at_call 38; refine hf.mono ?_; rintro e w' ⟨rfl, hP⟩))
  go_ret
  exact ⟨rfl, hP⟩
theorem change_dec (x : Nat) (hx : x < n) (a : UInt8) (m : Nat) (ha : N[x]? = some a) (hm : a.toNat = m) (h0 : 0 < m) (r : Int) (P : World → Prop) (hf : Calls Try.prog 40 #[.pointer (some ⟨rb, 0, none⟩), .int .i64 (x : Int)] w fun e w' => e = .returned (.int .i64 r) ∧ P w') :
    Calls Try.prog 37 #[.pointer (some ⟨rb, 0, none⟩), .int .i64 (x : Int), .func (.func 40) #[] #[]] w fun e w' => e = .returned (.int .i64 r) ∧ P w' := by
  have cM := rmade_yes rb sb w h.c2
  have c0 := h.c0
  have cH := rhas_any B rb nb cb sb Fs n N C w h (x : Int)
  rw [decide_eq_true (by omega)] at cH
  have ci := h.rn.read ha hm
  rw [Nat.zero_add] at ci
  have hne : ((m : Int) == 0) = false := beq_eq_false_iff_ne.2 (by omega)
  have hne2 : (m == 0) = false := beq_eq_false_iff_ne.2 (by omega)
  clear ha hm
  go_enter Try.func37, Try.ntmps37
  go_wp2_with (first | (go_at_call 34; refine cM.mono ?_; rintro e w' ⟨rfl, rfl⟩) | (go_at_call 45; refine cH.mono ?_; rintro e w' ⟨rfl, rfl⟩) | (go_at_call 40; refine hf.mono ?_; rintro e w' ⟨rfl, hP⟩))
  go_ret
  exact ⟨rfl, hP⟩
theorem inc_any (z : Int) : Calls Try.prog 12 #[.pointer (some ⟨rb, 0, none⟩), .int .i64 z] w fun e w' => e = .returned (.int .i64 (incN N z).1) ∧ RStep w w' B rb nb cb sb Fs n (incN N z).2 C := by
  have key : Calls Try.prog 37 #[.pointer (some ⟨rb, 0, none⟩), .int .i64 z, .func (.func 38) #[] #[]] w fun e w' => e = .returned (.int .i64 (incN N z).1) ∧ RStep w w' B rb nb cb sb Fs n (incN N z).2 C := by
    by_cases hz : 0 ≤ z ∧ z < (n : Int)
    · obtain ⟨x, rfl⟩ : ∃ x : Nat, z = (x : Int) := ⟨z.toNat, by omega⟩
      have hx : x < n := by omega
      obtain ⟨a, m, ha, hm, hm2⟩ := byte_at h.lN hx
      have ei : incN N (x : Int) = if a = 0 then (6, N) else if a = 255 then (8, N) else (0, N.set x (a + 1)) := by
        unfold incN; rw [if_pos (isIn_yes h.lN hx), at0_of ha, Int.toNat_natCast]
      by_cases h0 : a = 0
      · subst h0
        rw [ei, if_pos rfl]
        refine (change_zero B rb nb cb sb Fs n N C w h x hx ha _).mono ?_
        rintro e w' ⟨he, rfl⟩
        exact ⟨he, RStep.refl h⟩
      · have hm0 : 0 < m := by
          rcases Nat.eq_zero_or_pos m with e | e
          · exact absurd ((u8_nat hm 0).2 e) h0
          · exact e
        by_cases h1 : a = 255
        · rw [ei, if_neg h0, if_pos h1]
          have hm5 : a.toNat = 255 := by rw [h1]; rfl
          refine change_inc B rb nb cb sb Fs n N C w h x hx a m ha hm hm0 8 (fun w' => RStep w w' B rb nb cb sb Fs n N C) ((rmore_full B rb nb cb sb Fs n N C w h x hx a ha hm5).mono ?_)
          rintro e w' ⟨he, rfl⟩
          exact ⟨he, RStep.refl h⟩
        · rw [ei, if_neg h0, if_neg h1]
          have hm5 : m < 255 := by
            have : m ≠ 255 := fun e => h1 ((u8_nat hm 255).2 e)
            omega
          exact change_inc B rb nb cb sb Fs n N C w h x hx a m ha hm hm0 0 (fun w' => RStep w w' B rb nb cb sb Fs n (N.set x (a + 1)) C) (rmore_any B rb nb cb sb Fs n N C w h x hx a m ha hm hm0 hm5)
    · have ei : incN N z = (1, N) := by unfold incN; rw [if_neg (by rw [isIn_no h.lN hz]; decide)]
      rw [ei]
      refine (change_out B rb nb cb sb Fs n N C w h z hz _).mono ?_
      rintro e w' ⟨he, rfl⟩
      exact ⟨he, RStep.refl h⟩
  generalize incN N z = q at *
  go_enter Try.func12, Try.ntmps12
  go_wp2_with (first | (go_at_call 37; refine key.mono ?_; rintro e w' ⟨rfl, hP⟩))
  go_ret
  exact ⟨rfl, hP⟩
theorem dec_any (z : Int) : Calls Try.prog 14 #[.pointer (some ⟨rb, 0, none⟩), .int .i64 z] w fun e w' => e = .returned (.tuple #[.bool (decN N z).1, .int .i64 (decN N z).2.1]) ∧ RStep w w' B rb nb cb sb Fs n (decN N z).2.2 C := by
  by_cases hz : 0 ≤ z ∧ z < (n : Int)
  · obtain ⟨x, rfl⟩ : ∃ x : Nat, z = (x : Int) := ⟨z.toNat, by omega⟩
    have hx : x < n := by omega
    obtain ⟨a, m, ha, hm, hm2⟩ := byte_at h.lN hx
    have ei : decN N (x : Int) = if a = 0 then (false, 6, N) else (decide (a = 1), 0, N.set x (a - 1)) := by
      unfold decN; rw [if_pos (isIn_yes h.lN hx), at0_of ha, Int.toNat_natCast]
    by_cases h0 : a = 0
    · subst h0
      rw [ei, if_pos rfl]
      clear ei
      have cC := change_zero B rb nb cb sb Fs n N C w h x hx ha (.func (.func 40) #[] #[])
      clear ha hm
      go_enter Try.func14, Try.ntmps14
      go_wp2_with (first | (go_at_call 37; refine cC.mono ?_; rintro e w' ⟨rfl, rfl⟩))
      go_ret2
      exact ⟨rfl, RStep.refl h⟩
    · have hm0 : 0 < m := by
        rcases Nat.eq_zero_or_pos m with e | e
        · exact absurd ((u8_nat hm 0).2 e) h0
        · exact e
      rw [ei, if_neg h0]
      clear ei
      have cC := change_dec B rb nb cb sb Fs n N C w h x hx a m ha hm hm0 0 (fun w' => RStep w w' B rb nb cb sb Fs n (N.set x (a - 1)) C) (rless_any B rb nb cb sb Fs n N C w h x hx a m ha hm hm0)
      have hpr := u8_pred hm hm0
      have hd : decide (a = 1) = ((m : Int) - 1 == 0) := by
        rw [Bool.eq_iff_iff, decide_eq_true_iff, u8_nat hm 1]
        have : (1 : UInt8).toNat = 1 := rfl
        simp [this]; omega
      rw [hd]
      have hg : (N.set x (a - 1))[x]? = some (a - 1) := List.getElem?_set_self (by rw [h.lN]; exact hx)
      have hq : ∃ k : Nat, (a - 1).toNat = k ∧ (m : Int) - 1 = (k : Int) := ⟨(a - 1).toNat, rfl, hpr.symm⟩
      obtain ⟨k, hk1, hk2⟩ := hq
      rw [hk2]
      generalize N.set x (a - 1) = N' at *
      have HG := mkHid hg
      have HK := mkHid hk1
      clear ha hm hd hpr hg hk1 hk2
      go_enter Try.func14, Try.ntmps14
      go_wp2_with (first | (go_at_call 37; refine cC.mono ?_; rintro e w' ⟨rfl, hP⟩; have HP := mkHid hP; obtain ⟨Fs', hP1, hP2, hP3⟩ := hP; have c0 := hP1.c0; have ck := hP1.rn.read HG.out HK.out; rw [Nat.zero_add] at ck; clear hP1 hP2 hP3))
      go_ret2
      exact ⟨by first | rfl | simp, HP.out⟩
  · have ei : decN N z = (false, 1, N) := by unfold decN; rw [if_neg (by rw [isIn_no h.lN hz]; decide)]
    rw [ei]
    clear ei
    have cC := change_out B rb nb cb sb Fs n N C w h z hz (.func (.func 40) #[] #[])
    go_enter Try.func14, Try.ntmps14
    go_wp2_with (first | (go_at_call 37; refine cC.mono ?_; rintro e w' ⟨rfl, rfl⟩))
    go_ret2
    exact ⟨rfl, RStep.refl h⟩
theorem alloc_any : Calls Try.prog 10 #[.pointer (some ⟨rb, 0, none⟩)] w fun e w' => e = .returned (.tuple #[.int .i64 (allocN N C).1, .int .i64 (allocN N C).2.1]) ∧ RStep w w' B rb nb cb sb Fs n (allocN N C).2.2 C := by
  have cM := rmade_yes rb sb w h.c2
  have c2 := h.c2
  have cT := take_any B sb Fs _ w h.sp
  rw [take_alloc (h.lC.trans h.lN.symm)] at cT
  cases hf : freeL (freeI N C) with
  | nil =>
    have e : allocN N C = (0, 8, N) := by unfold allocN; rw [hf]
    rw [e] at cT ⊢
    clear e hf
    go_enter Try.func10, Try.ntmps10
    go_wp2_with (first | (go_at_call 34; refine cM.mono ?_; rintro e w' ⟨rfl, rfl⟩) | (go_at_call 35; refine cT.mono ?_; rintro e w' ⟨rfl, hs⟩))
    go_ret2
    refine ⟨rfl, ?_⟩
    obtain ⟨Fs', h1, h2, h3⟩ := hs
    have hn : ∀ k, k < w.heap.size → k ∉ Fs → k ∉ Fs' := fun k h4 h5 h6 => (h3 k h6).elim h5 (fun h7 => by omega)
    exact ⟨Fs', ⟨h2.cellv h.c0 h.d4, h2.cellv h.c1 h.d4, h2.cellv h.c2 h.d4, fun j => (h2.frozen (p := ⟨rb, j, none⟩) (show rb < w.heap.size from h.ltr) h.d4).trans (h.fz j),
      h.rn.chg h2 (fun k hk => by rw [fp_some _ _ _ h.n0] at hk; simp at hk; subst hk; exact h.d5), h.rc.chg h2 (fun k hk => by rw [fp_some _ _ _ h.n0] at hk; simp at hk; subst hk; exact h.d6), h1, h.n0, h.nn, h.rB, h.d1, h.d2, h.d3, hn _ h.ltr h.d4, hn _ h.ltn.2 h.d5, hn _ h.ltc.2 h.d6⟩,
      h2.mono (fun k hk _ => by simp [hk]), h3⟩
  | cons x r =>
    have e : allocN N C = ((x : Int), 0, N.set x 1) := by unfold allocN; rw [hf]
    rw [e] at cT ⊢
    have hx := (mem_freeL _ x).1 (by rw [hf]; simp)
    have hxn : x < n := by have := (List.getElem?_eq_some_iff.1 hx).1; rw [freeI_len h.lN h.lC] at this; exact this
    obtain ⟨hN, hC⟩ := freeI_true.1 hx
    have ck := h.rn.read hN (m := 0) rfl
    have hfz := h.rn.cell x hxn
    rw [Nat.zero_add] at ck hfz
    have HH := mkHid h
    have h5 := h.d5
    have h4 := h.d4
    have c0 := h.c0
    clear e hf hx hN hC h
    simp only at cT
    go_enter Try.func10, Try.ntmps10
    go_wp2_with (first | (go_at_call 34; refine cM.mono ?_; rintro e w' ⟨rfl, rfl⟩) | (go_at_call 35; refine cT.mono ?_; rintro e w1 ⟨rfl, hs⟩; have HS := mkHid hs; obtain ⟨Fs', h1, h2, h3⟩ := hs; have c02 := h2.cellv c0 h4; have ck2 := h2.cellv ck h5; have fk2 := (h2.frozen (p := ⟨nb, x, none⟩) (block_lt_of_cell ck) h5).trans hfz; clear h1 h2 h3))
    go_ret2
    refine ⟨rfl, ?_⟩
    have h := HH.out
    obtain ⟨Fs', h1, h2, h3⟩ := HS.out
    have hn : ∀ k, k < w.heap.size → k ∉ Fs → k ∉ Fs' := fun k h4 h5 h6 => (h3 k h6).elim h5 (fun h7 => by omega)
    have g1 := Chg.setCell w1 ⟨nb, x, none⟩ (.int .u8 1)
    have hr := (h.rn.chg h2 (fun k hk => by rw [fp_some _ _ _ h.n0] at hk; simp at hk; subst hk; exact h.d5)).set x hxn (.int .u8 (v8 1))
    rw [Nat.zero_add, bts_set] at hr
    have hr1 : Room (w1.setCell ⟨nb, x, none⟩ (.int .u8 1)) B (some ⟨nb, 0, none⟩) n n (bts (N.set x 1)) := hr
    have e5 := hn _ h.ltn.2 h.d5
    have g : Chg (nb :: Fs) w (w1.setCell ⟨nb, x, none⟩ (.int .u8 1)) := h2.trans g1 (fun k hk _ => by simp [hk]) (fun k hk _ => by simp at hk; simp [hk])
    have e1 : rb ∉ nb :: Fs := by simp; exact ⟨h.d1, h.d4⟩
    have e2 : cb ∉ nb :: Fs := by simp; exact ⟨fun e => h.d3 e.symm, h.d6⟩
    exact ⟨Fs', ⟨g.cellv h.c0 e1, g.cellv h.c1 e1, g.cellv h.c2 e1, fun j => (g.frozen (p := ⟨rb, j, none⟩) (show rb < w.heap.size from h.ltr) e1).trans (h.fz j),
      hr1, h.rc.chg g (fun k hk => by rw [fp_some _ _ _ h.n0] at hk; simp at hk; subst hk; exact e2), h1.chg g1 (fun k hk hm => by simp at hm; subst hm; exact e5 hk), h.n0, h.nn, h.rB, h.d1, h.d2, h.d3, hn _ h.ltr h.d4, e5, hn _ h.ltc.2 h.d6⟩,
      g.mono (fun k hk _ => by simp at hk; simp; rcases hk with hk | hk <;> simp [hk]), h3⟩
end
end Go.Proofs.Ytppjjlooocigdaa
