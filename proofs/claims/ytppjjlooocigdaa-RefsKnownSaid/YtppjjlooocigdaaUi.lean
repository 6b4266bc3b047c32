/- The reference: free, Alloc, why, Inc, Dec, Free. -/
import Derived.Test.YtppjjlooocigdaaUh
namespace Go.Proofs.Ytppjjlooocigdaa
open Go.RowKit
set_option linter.unusedVariables false
set_option linter.unusedSimpArgs false
attribute [local go_sem ↓] Go.wp_at_zero Go.wp_at_succ

section
variable (B db b0 o0 k0 b1 o1 k1 b2 o2 k2 n : Nat) (N C : List UInt8) (w : World) (h : DAt w B db b0 o0 k0 b1 o1 k1 b2 o2 k2 n N C)
include h
theorem dfree_any (x : Nat) (hx : x < n) : Calls Try.prog 36 #[.pointer (some ⟨db, 0, none⟩), .int .i64 (x : Int)] w fun e w' => e = .returned (.bool (decide ((freeI N C)[x]? = some true))) ∧ w = w' := by
  have c0 := h.c0
  have c1 := h.c1
  obtain ⟨a, m, ha, hm, hm2⟩ := byte_at h.lN hx
  obtain ⟨b, q, hb, hq, hq2⟩ := byte_at h.lC hx
  have ci := h.r0.read ha hm
  have cj := h.r1.read hb hq
  have hf := freeI_get ha hb
  by_cases hm0 : m = 0
  · have e : decide ((freeI N C)[x]? = some true) = ((q : Int) == 0) := by
      rw [hf, (u8_nat hm 0).2 hm0, Bool.eq_iff_iff]
      simp [u8_nat hq 0]
    rw [e]
    have t1 : ((m : Int) == 0) = true := by simp; omega
    have t2 : (m == 0) = true := by simp; omega
    clear ha hm hb hq hf hm0 e
    go_enter Try.func36, Try.ntmps36
    go_wp2
    go_ret
    exact ⟨by first | rfl | simp, rfl⟩
  · have e : decide ((freeI N C)[x]? = some true) = false := by
      have : (a == 0) = false := by simpa using fun e => hm0 ((u8_nat hm 0).1 e)
      rw [hf, this]; rfl
    rw [e]
    have t1 : ((m : Int) == 0) = false := by simp; omega
    have t2 : (m == 0) = false := by simp; omega
    clear ha hm hb hq hf hm0 e
    go_enter Try.func36, Try.ntmps36
    go_wp2
    go_ret
    exact ⟨by first | rfl | simp, rfl⟩
/-- Why a block can't be counted. -/
def whyN (N : List UInt8) (z : Int) : Int := if isIn N z then (if at0 N z = 0 then 6 else 0) else 1
theorem dwhy_any (z : Int) : Calls Try.prog 39 #[.pointer (some ⟨db, 0, none⟩), .int .i64 z] w fun e w' => e = .returned (.int .i64 (whyN N z)) ∧ w = w' := by
  have c0 := h.c0
  by_cases hz : 0 ≤ z ∧ z < (n : Int)
  · obtain ⟨x, rfl⟩ : ∃ x : Nat, z = (x : Int) := ⟨z.toNat, by omega⟩
    have hx : x < n := by omega
    obtain ⟨a, m, ha, hm, hm2⟩ := byte_at h.lN hx
    have ci := h.r0.read ha hm
    have s1 : decide ((x : Int) < 0) = false := decide_eq_false (by omega)
    have s2 : decide ((x : Int) ≥ (n : Int)) = false := decide_eq_false (by omega)
    have s3 : decide (n ≤ x) = false := decide_eq_false (by omega)
    have s4 : decide ((n : Int) ≤ (x : Int)) = false := decide_eq_false (by omega)
    by_cases hm0 : m = 0
    · have e : whyN N (x : Int) = 6 := by unfold whyN; rw [if_pos (isIn_yes h.lN hx), at0_of ha, if_pos ((u8_nat hm 0).2 hm0)]
      rw [e]
      have t1 : ((m : Int) == 0) = true := by simp; omega
      have t2 : (m == 0) = true := by simp; omega
      clear ha hm hm0 e hz
      go_enter Try.func39, Try.ntmps39
      go_wp2
      go_ret
      exact ⟨rfl, rfl⟩
    · have e : whyN N (x : Int) = 0 := by unfold whyN; rw [if_pos (isIn_yes h.lN hx), at0_of ha, if_neg (fun e => hm0 ((u8_nat hm 0).1 e))]
      rw [e]
      have t1 : ((m : Int) == 0) = false := by simp; omega
      have t2 : (m == 0) = false := by simp; omega
      clear ha hm hm0 e hz
      go_enter Try.func39, Try.ntmps39
      go_wp2
      go_ret
      exact ⟨rfl, rfl⟩
  · have e : whyN N z = 1 := by unfold whyN; rw [if_neg (by rw [isIn_no h.lN hz]; decide)]
    rw [e]
    by_cases h0 : z < 0
    · have s1 : decide (z < 0) = true := decide_eq_true h0
      go_enter Try.func39, Try.ntmps39
      go_wp2
      go_ret
      exact ⟨rfl, rfl⟩
    · have s1 : decide (z < 0) = false := decide_eq_false h0
      have s2 : decide (z ≥ (n : Int)) = true := decide_eq_true (by omega)
      have s4 : decide ((n : Int) ≤ z) = true := decide_eq_true (by omega)
      go_enter Try.func39, Try.ntmps39
      go_wp2
      go_ret
      exact ⟨rfl, rfl⟩
/-- A count is written. -/
theorem dset_now (x : Nat) (hx : x < n) (a v : UInt8) (k : Int) (hk : (v.toNat : Int) = k) (ha : N[x]? = some a) (e : newL (N.set x v) C = newL N C) : DStep w (w.setCell ⟨b0, o0 + x, none⟩ (.int .u8 k)) B db [db, b0, b1, b2] n (N.set x v) C := by
  subst hk
  have g := Chg.setCell w ⟨b0, o0 + x, none⟩ (.int .u8 (v.toNat : Int))
  have hs := h.r0.set x hx (.int .u8 (v8 v))
  rw [bts_set] at hs
  exact h.set (g.mono (fun k hk _ => by simp at hk; simp [hk])) hs (by rw [e]; exact room_chg h.r2 h.n0 g (by simpa using fun e => h.e2 e.symm))
/-- A count is written, and whether the block is fresh. -/
theorem dset_both (x : Nat) (hx : x < n) (v : UInt8) (k : Int) (hk : (v.toNat : Int) = k) (f : Bool) (e : newL (N.set x v) C = (newL N C).set x f) : DStep w ((w.setCell ⟨b0, o0 + x, none⟩ (.int .u8 k)).setCell ⟨b2, o2 + x, none⟩ (.bool f)) B db [db, b0, b1, b2] n (N.set x v) C := by
  subst hk
  have g := Chg.setCell w ⟨b0, o0 + x, none⟩ (.int .u8 (v.toNat : Int))
  have hs := h.r0.set x hx (.int .u8 (v8 v))
  rw [bts_set] at hs
  have hs' : Room (w.setCell ⟨b0, o0 + x, none⟩ (.int .u8 (v.toNat : Int))) B (some ⟨b0, o0, none⟩) n k0 (bts (N.set x v)) := hs
  have h2 := room_chg h.r2 h.n0 g (by simpa using fun e => h.e2 e.symm)
  generalize w.setCell ⟨b0, o0 + x, none⟩ (.int .u8 (v.toNat : Int)) = w1 at *
  have g2 := Chg.setCell w1 ⟨b2, o2 + x, none⟩ (.bool f)
  have h3 := h2.set x hx (.bool f)
  rw [bvs_set, ← e] at h3
  exact h.set ((g.trans g2 (fun k hk _ => by simp at hk; simp [hk]) (fun k hk _ => by simp at hk; simp [hk]))) (room_chg hs' h.n0 g2 (by simpa using h.e2)) h3
set_option maxRecDepth 20000 in
theorem dinc_any (z : Int) : Calls Try.prog 13 #[.pointer (some ⟨db, 0, none⟩), .int .i64 z] w fun e w' => e = .returned (.int .i64 (incN N z).1) ∧ DStep w w' B db [db, b0, b1, b2] n (incN N z).2 C := by
  have c0 := h.c0
  have cW := dwhy_any B db b0 o0 k0 b1 o1 k1 b2 o2 k2 n N C w h z
  have hDO : DO w B db [db, b0, b1, b2] n N C := ⟨b0, o0, k0, b1, o1, k1, b2, o2, k2, h, rfl⟩
  by_cases hz : 0 ≤ z ∧ z < (n : Int)
  · obtain ⟨x, rfl⟩ : ∃ x : Nat, z = (x : Int) := ⟨z.toNat, by omega⟩
    have hx : x < n := by omega
    obtain ⟨a, m, ha, hm, hm2⟩ := byte_at h.lN hx
    have ci := h.r0.read ha hm
    have hfz := h.r0.cell x hx
    have ei : incN N (x : Int) = if a = 0 then (6, N) else if a = 255 then (8, N) else (0, N.set x (a + 1)) := by
      unfold incN; rw [if_pos (isIn_yes h.lN hx), at0_of ha, Int.toNat_natCast]
    have ew : whyN N (x : Int) = if a = 0 then 6 else 0 := by unfold whyN; rw [if_pos (isIn_yes h.lN hx), at0_of ha]
    by_cases h0 : a = 0
    · rw [if_pos h0] at ei ew
      rw [ei]
      rw [ew] at cW
      clear ei ew ha hm hz h0
      go_enter Try.func13, Try.ntmps13
      go_wp2_with (first | (go_at_call 39; refine cW.mono ?_; rintro e w' ⟨rfl, rfl⟩))
      go_ret
      exact ⟨rfl, DStep.refl hDO⟩
    · have hm0 : 0 < m := by
        rcases Nat.eq_zero_or_pos m with e | e
        · exact absurd ((u8_nat hm 0).2 e) h0
        · exact e
      rw [if_neg h0] at ei ew
      rw [ew] at cW
      by_cases h1 : a = 255
      · rw [if_pos h1] at ei
        rw [ei]
        have hm5 : m = 255 := (u8_nat hm 255).1 h1
        have t1 : ((m : Int) == 255) = true := by simp; omega
        have t2 : (m == 255) = true := by simp; omega
        clear ei ew ha hm hz h0 h1 hm5
        go_enter Try.func13, Try.ntmps13
        go_wp2_with (first | (go_at_call 39; refine cW.mono ?_; rintro e w' ⟨rfl, rfl⟩))
        go_ret
        exact ⟨rfl, DStep.refl hDO⟩
      · rw [if_neg h1] at ei
        rw [ei]
        have hm5 : m < 255 := by
          have : m ≠ 255 := fun e => h1 ((u8_nat hm 255).2 e)
          omega
        have t1 : ((m : Int) == 255) = false := by simp; omega
        have t2 : (m == 255) = false := by simp; omega
        obtain ⟨b, q, hb, hq, hq2⟩ := byte_at h.lC hx
        have e : newL (N.set x (a + 1)) C = newL N C := by
          rw [newL_set ha hb]
          refine bool_set_same ?_
          rw [newL_get ha hb]
          have e1 : (a != 0) = true := by simpa using h0
          have e2 : (a + 1 != 0) = true := by
            have := u8_succ hm hm5
            simpa using fun e => by rw [e] at this; simp at this; omega
          rw [e1, e2]
        have hpost := dset_now B db b0 o0 k0 b1 o1 k1 b2 o2 k2 n N C w h x hx a (a + 1) _ (u8_succ hm hm5) ha e
        have HP := mkHid hpost
        clear ei ew ha hm hz h0 h1 hb hq e hpost
        go_enter Try.func13, Try.ntmps13
        go_wp2_with (first | (go_at_call 39; refine cW.mono ?_; rintro e w' ⟨rfl, rfl⟩))
        go_ret
        exact ⟨rfl, HP.out⟩
  · have ei : incN N z = (1, N) := by unfold incN; rw [if_neg (by rw [isIn_no h.lN hz]; decide)]
    have ew : whyN N z = 1 := by unfold whyN; rw [if_neg (by rw [isIn_no h.lN hz]; decide)]
    rw [ei]
    rw [ew] at cW
    clear ei ew
    go_enter Try.func13, Try.ntmps13
    go_wp2_with (first | (go_at_call 39; refine cW.mono ?_; rintro e w' ⟨rfl, rfl⟩))
    go_ret
    exact ⟨rfl, DStep.refl hDO⟩
set_option maxRecDepth 20000 in
theorem ddec_any (z : Int) : Calls Try.prog 15 #[.pointer (some ⟨db, 0, none⟩), .int .i64 z] w fun e w' => e = .returned (.tuple #[.bool (decN N z).1, .int .i64 (decN N z).2.1]) ∧ DStep w w' B db [db, b0, b1, b2] n (decN N z).2.2 C := by
  have cW := dwhy_any B db b0 o0 k0 b1 o1 k1 b2 o2 k2 n N C w h z
  have hDO : DO w B db [db, b0, b1, b2] n N C := ⟨b0, o0, k0, b1, o1, k1, b2, o2, k2, h, rfl⟩
  by_cases hz : 0 ≤ z ∧ z < (n : Int)
  · obtain ⟨x, rfl⟩ : ∃ x : Nat, z = (x : Int) := ⟨z.toNat, by omega⟩
    have hx : x < n := by omega
    obtain ⟨a, m, ha, hm, hm2⟩ := byte_at h.lN hx
    have ci := h.r0.read ha hm
    have hfz := h.r0.cell x hx
    have ei : decN N (x : Int) = if a = 0 then (false, 6, N) else (decide (a = 1), 0, N.set x (a - 1)) := by
      unfold decN; rw [if_pos (isIn_yes h.lN hx), at0_of ha, Int.toNat_natCast]
    have ew : whyN N (x : Int) = if a = 0 then 6 else 0 := by unfold whyN; rw [if_pos (isIn_yes h.lN hx), at0_of ha]
    by_cases h0 : a = 0
    · rw [if_pos h0] at ei ew
      rw [ei]
      rw [ew] at cW
      clear ei ew ha hm hz h0
      go_enter Try.func15, Try.ntmps15
      go_wp2_with (first | (go_at_call 39; refine cW.mono ?_; rintro e w' ⟨rfl, rfl⟩))
      go_ret2
      exact ⟨rfl, DStep.refl hDO⟩
    · have hm0 : 0 < m := by
        rcases Nat.eq_zero_or_pos m with e | e
        · exact absurd ((u8_nat hm 0).2 e) h0
        · exact e
      rw [if_neg h0] at ei ew
      rw [ew] at cW
      rw [ei]
      have c0 := h.c0
      obtain ⟨b, q, hb, hq, hq2⟩ := byte_at h.lC hx
      have hpr := u8_pred hm hm0
      have hm1le : 1 ≤ m := hm0
      have c02 := (Chg.setCell w ⟨b0, o0 + x, none⟩ (.int .u8 ((m : Int) - 1))).cellv h.c0 (by simpa using h.d0)
      have c22 := (Chg.setCell w ⟨b0, o0 + x, none⟩ (.int .u8 ((m : Int) - 1))).cellv h.c2 (by simpa using h.d0)
      have ci2 : (w.setCell ⟨b0, o0 + x, none⟩ (.int .u8 ((m : Int) - 1))).cell? ⟨b0, o0 + x, none⟩ = some (.int .u8 ((m : Int) - 1)) := World.cell?_setCell_same _ _ _ ci
      by_cases hm1 : m = 1
      · have ha1 : a = 1 := (u8_nat hm 1).2 hm1
        have hd : decide (a = 1) = true := decide_eq_true ha1
        rw [hd]
        have hz0 : a - 1 = 0 := by rw [ha1]; rfl
        have t1 : ((m : Int) - 1 == 0) = true := by simp; omega
        have t2 : ((m : Int) == 1) = true := by simp; omega
        have t3 : (m == 1) = true := by simp; omega
        have e : newL (N.set x (a - 1)) C = (newL N C).set x false := by
          rw [newL_set ha hb, hz0]; rfl
        have hpost := dset_both B db b0 o0 k0 b1 o1 k1 b2 o2 k2 n N C w h x hx (a - 1) _ hpr false e
        have HP := mkHid hpost
        obtain ⟨u, hu⟩ : ∃ u, (newL N C)[x]? = some u := ⟨_, newL_get ha hb⟩
        have cn := h.r2.reads.cell x _ (bvs_get hu)
        have fn := h.r2.cell x hx
        have hne : b2 ≠ b0 := fun e => h.e2 e.symm
        have cn2 := (Chg.setCell w ⟨b0, o0 + x, none⟩ (.int .u8 ((m : Int) - 1))).cellv cn (by simpa using hne)
        have hdb := h.d2
        have c03 := (Chg.setCell (w.setCell ⟨b0, o0 + x, none⟩ (.int .u8 ((m : Int) - 1))) ⟨b2, o2 + x, none⟩ (.bool false)).cellv c02 (by simpa using hdb)
        have hne2 := h.e2
        have ci3 := (Chg.setCell (w.setCell ⟨b0, o0 + x, none⟩ (.int .u8 ((m : Int) - 1))) ⟨b2, o2 + x, none⟩ (.bool false)).cellv ci2 (by simpa using hne2)
        clear ei ew ha hm hz h0 hb hq e hpost hpr hm1 ha1 hd hz0 hu
        go_enter Try.func15, Try.ntmps15
        go_wp2_with (first | (go_at_call 39; refine cW.mono ?_; rintro e w' ⟨rfl, rfl⟩))
        go_ret2
        exact ⟨by first | rfl | simp, HP.out⟩
      · have hd : decide (a = 1) = false := decide_eq_false (fun e => hm1 ((u8_nat hm 1).1 e))
        rw [hd]
        have t1 : ((m : Int) - 1 == 0) = false := by simp; omega
        have t2 : ((m : Int) == 1) = false := by simp; omega
        have t3 : (m == 1) = false := by simp; omega
        have e : newL (N.set x (a - 1)) C = newL N C := by
          rw [newL_set ha hb]
          refine bool_set_same ?_
          rw [newL_get ha hb]
          have e1 : (a != 0) = true := by simpa using h0
          have e2 : (a - 1 != 0) = true := by simpa using fun e => by rw [e] at hpr; simp at hpr; omega
          rw [e1, e2]
        have hpost := dset_now B db b0 o0 k0 b1 o1 k1 b2 o2 k2 n N C w h x hx a (a - 1) _ hpr ha e
        have HP := mkHid hpost
        clear ei ew ha hm hz h0 hb hq e hpost hpr hm1 hd
        go_enter Try.func15, Try.ntmps15
        go_wp2_with (first | (go_at_call 39; refine cW.mono ?_; rintro e w' ⟨rfl, rfl⟩))
        go_ret2
        exact ⟨by first | rfl | simp, HP.out⟩
  · have ei : decN N z = (false, 1, N) := by unfold decN; rw [if_neg (by rw [isIn_no h.lN hz]; decide)]
    have ew : whyN N z = 1 := by unfold whyN; rw [if_neg (by rw [isIn_no h.lN hz]; decide)]
    rw [ei]
    rw [ew] at cW
    clear ei ew
    go_enter Try.func15, Try.ntmps15
    go_wp2_with (first | (go_at_call 39; refine cW.mono ?_; rintro e w' ⟨rfl, rfl⟩))
    go_ret2
    exact ⟨rfl, DStep.refl hDO⟩
end
end Go.Proofs.Ytppjjlooocigdaa
