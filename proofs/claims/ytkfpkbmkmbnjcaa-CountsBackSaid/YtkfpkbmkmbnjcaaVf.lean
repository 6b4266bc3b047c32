/- The reference: Take. -/
import Derived.Test.YtkfpkbmkmbnjcaaVe
namespace Go.Proofs.Ytkfpkbmkmbnjcaa
open Go.RowKit
set_option linter.unusedVariables false
set_option linter.unusedSimpArgs false
attribute [local go_sem ↓] Go.wp_at_zero Go.wp_at_succ

theorem take_form {ps : List (List UInt8)} {n : Nat} (hn : n ≤ 1024) (hl : ps.length = npg n) (h : all240 ps = false) : takeN ps (n : Int) = (5, []) := by
  unfold takeN
  rw [if_neg (by omega), Int.toNat_natCast, if_neg (by omega), if_neg (by omega), if_neg (by rw [h]; decide)]
theorem take_rest {ps : List (List UInt8)} {n : Nat} (hn : n ≤ 1024) (hl : ps.length = npg n) (h : all240 ps = true) {i : Nat} {a : UInt8} (hi : n ≤ i) (ha : ps.flatten[i]? = some a) (h0 : a ≠ 0) : takeN ps (n : Int) = (5, []) := by
  unfold takeN
  rw [if_neg (by omega), Int.toNat_natCast, if_neg (by omega), if_neg (by omega), if_pos h, if_neg (fun e => h0 (drop_zero.1 e i a hi ha))]
theorem take_good {ps : List (List UInt8)} {n : Nat} (hn : n ≤ 1024) (hl : ps.length = npg n) (h : all240 ps = true) (hz : ∀ (i : Nat) (a : UInt8), n ≤ i → ps.flatten[i]? = some a → a = 0) : takeN ps (n : Int) = (0, ps.flatten.take n) := by
  unfold takeN
  rw [if_neg (by omega), Int.toNat_natCast, if_neg (by omega), if_neg (by omega), if_pos h, if_pos (drop_zero.2 hz)]
/-- What a Take answers. -/
def TakeRes (B : Nat) (e : Ending) (w' : World) (r : Int × List UInt8) : Prop := ∃ a c, e = .returned (.tuple #[.slice a r.2.length c, .int .i64 r.1]) ∧ Room w' B a r.2.length c (bts r.2)
theorem TakeRes.none (B : Nat) (w' : World) (k : Int) : TakeRes B (.returned (.tuple #[.slice none 0 0, .int .i64 k])) w' (k, []) := ⟨Option.none, 0, rfl, Room.nil _ _ _⟩
set_option maxRecDepth 20000 in
set_option maxHeartbeats 2000000 in
theorem rtake_any (a0 : Option Addr) (np ca : Nat) (ps : List (List UInt8)) (z : Int) (w : World) (h : RdPg w a0 ps) (hnp : ps.length = np) (hb : np ≤ 140737488351232) : Calls Try.prog 17 #[.slice a0 np ca, .int .i64 z] w fun e w' => TakeRes w.heap.size e w' (takeN ps z) ∧ Chg [] w w' := by
  by_cases hz : z < 0 ∨ 1024 < z
  · rw [take_out hz]
    by_cases h1 : z < 0
    · have d1 : decide (z < 0) = true := decide_eq_true h1
      go_enter Try.func17, Try.ntmps17
      go_wp2
      go_ret2
      exact ⟨TakeRes.none _ _ _, Chg.refl _ _⟩
    · have d1 : decide (z < 0) = false := decide_eq_false h1
      have d2 : decide (z > 1024) = true := decide_eq_true (by omega)
      have d3 : decide (1024 < z) = true := decide_eq_true (by omega)
      go_enter Try.func17, Try.ntmps17
      go_wp2
      go_ret2
      exact ⟨TakeRes.none _ _ _, Chg.refl _ _⟩
  · obtain ⟨n, rfl⟩ : ∃ n : Nat, z = (n : Int) := ⟨z.toNat, by omega⟩
    have hn : n ≤ 1024 := by omega
    have d1 : decide ((n : Int) < 0) = false := decide_eq_false (by omega)
    have d2 : decide ((n : Int) > 1024) = false := decide_eq_false (by omega)
    have d3 : decide ((1024 : Int) < (n : Int)) = false := decide_eq_false (by omega)
    have d4 : decide (1024 < n) = false := decide_eq_false (by omega)
    have cP := rpages_any (n : Int) w (by omega)
    rw [npgZ_nat] at cP
    obtain ⟨g, hg⟩ : ∃ g, npg n = g := ⟨_, rfl⟩
    have hg5 : g ≤ 5 := by unfold npg at hg; omega
    rw [hg] at cP
    by_cases hlt : np < g
    · have e : takeN ps (n : Int) = (4, []) := by unfold takeN; rw [if_neg hz, Int.toNat_natCast, if_pos (by omega)]
      rw [e]
      have t1 : decide (np < g) = true := decide_eq_true hlt
      have t2 : decide ((np : Int) < (g : Int)) = true := decide_eq_true (by omega)
      clear e hg hnp h
      go_enter Try.func17, Try.ntmps17
      go_wp2_with (first | (go_at_call 13; refine cP.mono ?_; rintro e w' ⟨rfl, rfl⟩))
      go_ret2
      exact ⟨TakeRes.none _ _ _, Chg.refl _ _⟩
    · have t1 : decide (np < g) = false := decide_eq_false hlt
      have t2 : decide ((np : Int) < (g : Int)) = false := decide_eq_false (by omega)
      by_cases hgt : g < np
      · have e : takeN ps (n : Int) = (3, []) := by unfold takeN; rw [if_neg hz, Int.toNat_natCast, if_neg (by omega), if_pos (by omega)]
        rw [e]
        have t3 : decide (g < np) = true := decide_eq_true hgt
        have t4 : decide ((np : Int) > (g : Int)) = true := decide_eq_true (by omega)
        have t5 : decide ((g : Int) < (np : Int)) = true := decide_eq_true (by omega)
        clear e hg hnp h
        go_enter Try.func17, Try.ntmps17
        go_wp2_with (first | (go_at_call 13; refine cP.mono ?_; rintro e w' ⟨rfl, rfl⟩))
        go_ret2
        exact ⟨TakeRes.none _ _ _, Chg.refl _ _⟩
      · have hgn : np = g := by omega
        subst hgn
        have t3 : decide (np < np) = false := by simp
        have HL := mkHid (show ps.length = npg n by rw [hnp, hg])
        have HP := mkHid hnp
        have hbd := npg_240 n
        rw [hg] at hbd
        have HB := mkHid hbd
        clear hg hnp t1 t2 hlt hgt hbd
        go_enter Try.func17, Try.ntmps17
        go_wp2_with (first | (go_at_call 13; refine cP.mono ?_; rintro e w' ⟨rfl, rfl⟩))
        clear cP
        go_loop [7] (fun v => ∃ k : Nat, v = .int .i64 k ∧ k ≤ np ∧ ∀ (i : Nat) (p : List UInt8), i < k → ps[i]? = some p → p.length = 240) (fun v => np - (intOf v).toNat)
        case atStart => exact ⟨0, rfl, Nat.zero_le _, fun i p hi => by omega⟩
        case round =>
          obtain ⟨k, rfl, hk, hall⟩ := hrel
          by_cases hkl : k < np
          · have s1 : decide (k < np) = true := decide_eq_true hkl
            have s2 : decide ((k : Int) < (np : Int)) = true := decide_eq_true (by omega)
            have hkp : k < ps.length := by rw [HP.out]; exact hkl
            obtain ⟨b, o, a, c, rfl, hc, hlc, hcm, hr⟩ := h.at_ (List.getElem?_eq_getElem hkp)
            obtain ⟨m, hm⟩ : ∃ m, (ps[k]).length = m := ⟨_, rfl⟩
            rw [hm] at hc
            by_cases h240 : m = 240
            · have s3 : ((m : Int) != 240) = false := by simp; omega
              have s4 : (m != 240) = false := by simp; omega
              have HA := mkHid hall
              have HM := mkHid (hm.trans h240)
              clear hall hm hr hlc h240
              go_wp2_with fail
              go_round
              case rel =>
                refine ⟨k + 1, by first | rfl | go_num, by omega, fun i p hi hp => ?_⟩
                by_cases hik : i = k
                · subst hik
                  rw [List.getElem?_eq_getElem hkp] at hp
                  cases hp
                  exact HM.out
                · exact HA.out i p (by omega) hp
              case measure => simp [intOf]; omega
            · have s3 : ((m : Int) != 240) = true := by simp; omega
              have s4 : (m != 240) = true := by simp; omega
              have e : takeN ps (n : Int) = (5, []) := take_form hn HL.out (by
                cases h9 : all240 ps with
                | false => rfl
                | true => exact absurd (hm.symm.trans (all240_iff.1 h9 k _ (List.getElem?_eq_getElem hkp))) h240)
              have HE := mkHid e
              clear hall hm hr hlc h240 e
              go_wp2_with fail
              go_ret2
              rw [HE.out]
              exact ⟨TakeRes.none _ _ _, Chg.refl _ _⟩
          · have hkn : k = np := by omega
            subst hkn
            have s1 : decide (k < k) = false := by simp
            have ha : all240 ps = true := all240_iff.2 fun i p hp => hall i p (by have := (List.getElem?_eq_some_iff.1 hp).1; rw [HP.out] at this; exact this) hp
            have HA := mkHid ha
            obtain ⟨M, hM⟩ : ∃ M : Nat, 240 * k = M := ⟨_, rfl⟩
            have hMi : (240 : Int) * (k : Int) = (M : Int) := by omega
            have hfl : ps.flatten.length = M := by rw [flat_len ha, HP.out, hM]
            have hnM : n ≤ M := by have := HB.out; omega
            have hMb : M ≤ 1200 := by omega
            have HF := mkHid hfl
            have HX := mkHid hM
            clear hall ha hfl hM
            go_wp2_with fail
            go_loopw [6, 8] (fun ov iv wr => ∃ (i t : Nat) (ao : Option Addr) (c : Nat), iv = .int .i64 i ∧ ov = .slice ao t c ∧ i ≤ M ∧ ((i ≤ n ∧ t = i) ∨ (n ≤ i ∧ t = n)) ∧ Room wr w.heap.size ao t c (bts (ps.flatten.take t)) ∧ (∀ (j : Nat) (a : UInt8), n ≤ j → j < i → ps.flatten[j]? = some a → a = 0) ∧ Chg [] w wr) (fun _ iv _ => M - (intOf iv).toNat)
            case atStart => exact ⟨0, 0, none, 0, rfl, rfl, Nat.zero_le _, Or.inl ⟨Nat.zero_le _, rfl⟩, by rw [List.take_zero]; exact Room.nil _ _ _, fun j a h1 h2 => by omega, Chg.refl _ _⟩
            case round =>
              obtain ⟨i, t, ao, c, rfl, rfl, hi, ht, hR, hzr, hgx⟩ := hrel
              by_cases hiM : i < M
              · have r1 : decide (i < M) = true := decide_eq_true hiM
                have r2 : decide ((i : Int) < (M : Int)) = true := decide_eq_true (by omega)
                obtain ⟨q, hq⟩ : ∃ q : Nat, i / 240 = q := ⟨_, rfl⟩
                obtain ⟨r, hr⟩ : ∃ r : Nat, i % 240 = r := ⟨_, rfl⟩
                have hnq : (i : Int) / 240 = (q : Int) := by omega
                have hnr : (i : Int) % 240 = (r : Int) := by omega
                have hr240 : r < 240 := by omega
                have hqk : q < k := by have := HX.out; omega
                have hqp : q < ps.length := by rw [HP.out]; exact hqk
                have hp := List.getElem?_eq_getElem hqp
                have hp240 := all240_iff.1 HA.out q _ hp
                obtain ⟨b, o, a, ca', rfl, hc, hlc, hcm, hrd⟩ := (h.keep hgx).at_ hp
                rw [hp240] at hc hlc
                have hrl : r < (ps[q]).length := by rw [hp240]; exact hr240
                obtain ⟨x, m, hx, hm⟩ : ∃ (x : UInt8) (m : Nat), (ps[q])[r]? = some x ∧ x.toNat = m := ⟨(ps[q])[r], _, List.getElem?_eq_getElem hrl, rfl⟩
                have hfx := flat_get q r _ HA.out hp hr240
                rw [hx, show 240 * q + r = i by omega] at hfx
                have hcr : (bts ps[q])[r]? = some (.int .u8 (m : Int)) := by
                  have hr9 := (List.getElem?_eq_some_iff.1 hx).1
                  rw [bts_get _ r hr9]
                  rw [List.getElem?_eq_getElem hr9] at hx
                  cases hx
                  rw [hm]
                obtain ⟨xb, xo, rfl, hcx, _⟩ := reads_lt hrd r _ hcr
                have HZ := mkHid hzr
                have HFX := mkHid hfx
                have HMX := mkHid hm
                clear hzr hfx hm hx hcr hrd hp hq hr
                by_cases hin : i < n
                · have hti : t = i := by rcases ht with ⟨_, e⟩ | ⟨h1, _⟩ <;> omega
                  subst hti
                  have v1 : decide (t < n) = true := decide_eq_true hin
                  have v2 : decide ((t : Int) < (n : Int)) = true := decide_eq_true (by omega)
                  have hBw : w.heap.size ≤ wr.heap.size := hgx.size
                  have hmx : t + 1 ≤ maxLen := by unfold maxLen; omega
                  clear ht
                  go_wp2_with (at_builtin; refine wpList_append_1 _ rfl (.tmp 57) (.tmp 59) 22 rfl 5 1 eltB w.heap.size ao t c _ rfl hR hBw (.int .u8 (m : Int)) 1 rfl rfl hmx (by omega) ?_; intro a2 c2 w2 hr2 hg2 hf2)
                  refine ⟨⟨t + 1, t + 1, a2, c2, by first | rfl | go_num, rfl, by omega, Or.inl ⟨by omega, rfl⟩, ?_, fun j a h1 h2 => by omega, hgx.trans hg2 (by simp) (fun p hp hlt => by have := (hR.lt p hp).1; omega)⟩, by simp [intOf]; omega⟩
                  have htl : t < ps.flatten.length := by rw [HF.out]; exact hiM
                  have e : ps.flatten.take (t + 1) = ps.flatten.take t ++ [x] := by
                    rw [List.take_add_one, HFX.out]; rfl
                  rw [e, bts_append]
                  have e2 : bts [x] = [.int .u8 (m : Int)] := by simp [bts, HMX.out]
                  rw [e2]
                  exact hr2
                · have htn : t = n := by rcases ht with ⟨h1, e⟩ | ⟨_, e⟩ <;> omega
                  subst htn
                  have v1 : decide (i < t) = false := decide_eq_false hin
                  have v2 : decide ((i : Int) < (t : Int)) = false := decide_eq_false (by omega)
                  clear ht
                  by_cases hm0 : m = 0
                  · have v3 : ((m : Int) != 0) = false := by simp; omega
                    have v4 : (m != 0) = false := by simp; omega
                    have HM0 := mkHid hm0
                    clear hm0
                    go_wp2_with fail
                    refine ⟨⟨i + 1, t, ao, c, by first | rfl | go_num, rfl, by omega, Or.inr ⟨by omega, rfl⟩, hR, fun j a h1 h2 hj => ?_, hgx⟩, by simp [intOf]; omega⟩
                    by_cases hji : j = i
                    · subst hji
                      rw [HFX.out] at hj
                      cases hj
                      exact UInt8.toNat_inj.1 (by rw [HMX.out, HM0.out]; rfl)
                    · exact HZ.out j a h1 (by omega) hj
                  · have v3 : ((m : Int) != 0) = true := by simp; omega
                    have v4 : (m != 0) = true := by simp; omega
                    have e : takeN ps (t : Int) = (5, []) := take_rest hn HL.out HA.out (show t ≤ i by omega) HFX.out (fun e => hm0 (by rw [← HMX.out, e]; rfl))
                    have HE := mkHid e
                    clear hm0 e
                    go_wp2_with fail
                    go_ret2
                    rw [HE.out]
                    exact ⟨TakeRes.none _ _ _, hgx⟩
              · have hiM2 : i = M := by omega
                subst hiM2
                have r1 : decide (i < i) = false := by simp
                have htn : t = n := by rcases ht with ⟨h1, e⟩ | ⟨_, e⟩ <;> omega
                have e : takeN ps (n : Int) = (0, ps.flatten.take n) := take_good hn HL.out HA.out (fun j a h1 hj => hzr j a h1 (by have := (List.getElem?_eq_some_iff.1 hj).1; rw [HF.out] at this; exact this) hj)
                subst htn
                have HE := mkHid e
                clear hzr ht e
                go_wp2_with fail
                go_ret2
                rw [HE.out]
                have hlen : (ps.flatten.take t).length = t := by rw [List.length_take, HF.out]; omega
                exact ⟨⟨ao, c, by rw [hlen]; rfl, by rw [hlen]; exact hR⟩, hgx⟩
end Go.Proofs.Ytkfpkbmkmbnjcaa
