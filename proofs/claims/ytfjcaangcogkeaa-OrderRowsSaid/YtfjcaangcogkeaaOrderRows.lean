/- Numbers that order.Put laid one behind the other are told by their sizes: for all numbers, sizes, and either way of looking. No conditions. -/
import Derived.Test.YtfjcaangcogkeaaD
import Derived.Test.YtfjcaangcogkeaaE
import Derived.Test.YtfjcaangcogkeaaF
import Derived.Test.YtfjcaangcogkeaaG
import Derived.Lib.SmallJoins
import Derived.Deep.QuietTactic
import Derived.BigQuiet
import Derived.Deep.DeepCutAuto
import Derived.ProofKit
import Derived.OpenShut
import Derived.SizedLaws
import Derived.Carry
namespace Go.Proofs.Ytfjcaangcogkeaa.orderRows
open Go.ChangeShapes Go.WideShapes Go.ChangeAt Go.RowKit
set_option linter.unusedVariables false
set_option maxRecDepth 100000 in
set_option maxHeartbeats 2000000 in
theorem walk (a0 : Option Addr) (n0 c0 : Nat) (l0 : List Int) (a1 : Option Addr) (n1 c1 : Nat) (l1 : List UInt8) (take : Bool) (w : World)
    (g0 : Reads w a0 (l0.map (Value.int .u64))) (gn0 : l0.length = n0) (gc0 : n0 ≤ c0) (gr0 : c0 * 8 ≤ 140737488351232) (gw0 : ∀ z ∈ l0, (Lit.int .u64 z).wf = true) (g1 : Reads w a1 (bts l1)) (gn1 : l1.length = n1) (gc1 : n1 ≤ c1) (gr1 : c1 * 1 ≤ 140737488351232) :
    Calls Try.prog 8 #[.slice a0 n0 c0, .slice a1 n1 c1, .bool take] w fun e w' => e = .returned (.bool true) ∧ Below w.heap.size w w' := by
  go_enter Try.func8, Try.ntmps8
  go_wp2_with (first | (go_at_call 16; refine (new_tape _).mono ?_; rintro e w1 ⟨tb, rfl, ht1, hg1, hlt1⟩) | (go_at_call 13; refine (awake_any _).mono ?_; rintro e w2 ⟨rfl, hg2⟩))
  have ht2 := ht1.chg hg2 (by simp)
  have hg2' := hg1.then hg2
  have hs2 : w2.heap.size = w2.heap.size := rfl
  go_loopw [8, 9, 10, 25] (fun b all want i wr => ∃ (k : Nat) (ps : List (Nat × Nat)) (bm : Nat) (bo : Option Addr) (bc : Nat) (ao : Option Addr) (ac : Nat) (wo : Option Addr) (wc : Nat), i = .int .i64 k ∧ k ≤ n0 ∧ k ≤ n1 ∧ k ≤ 100 ∧ Hid (ps.length = k) ∧ Hid (okP ps) ∧ b = .slice bo bm bc ∧ all = .slice ao k ac ∧ want = .slice wo k wc ∧
    Room wr w2.heap.size bo bm bc (bts (encP ps)) ∧ Room wr w2.heap.size ao k ac (ints (szP ps)) ∧ Room wr w2.heap.size wo k wc (u64s (wantP ps)) ∧ (∀ x, x ∈ fp ao ac → x ∉ fp wo wc) ∧ (∀ x, x ∈ fp bo bc → x ∉ fp ao ac ∧ x ∉ fp wo wc) ∧ Chg [] w2 wr) (fun _ _ _ i _ => n0 - (intOf i).toNat)
  case atStart => exact ⟨0, [], 0, none, 0, none, 0, none, 0, rfl, Nat.zero_le _, Nat.zero_le _, by omega, mkHid rfl, mkHid (by simp [okP]), rfl, rfl, rfl, Room.nil _ _ _, Room.nil _ _ _, Room.nil _ _ _, by simp [fp_zero], by simp [fp_zero], Chg.refl _ _⟩
  case round =>
    obtain ⟨k, ps, bm, bo, bc, ao, ac, wo, wc, rfl, hk0, hk1, hk100, hps, hok, rfl, rfl, rfl, hb, ha, hw, hd1, hd2, hgr⟩ := hrel
    have hgw := hg2'.then hgr
    have hbm : bm ≤ 800 := by
      have h1 := hb.len
      have h2 := okP_len ps hok.out
      have h3 := hps.out
      rw [bts_length] at h1
      omega
    by_cases hcont : k < n0 ∧ k < n1 ∧ k < 100
    · obtain ⟨h0, h1, h100⟩ := hcont
      obtain ⟨b0, o0, rfl, hc0⟩ := (g0.old hgw (by simp)) (by simp; omega)
      have hp0 := hc0 k (.int .u64 l0[k]) (by simp [show k < l0.length by omega])
      obtain ⟨b1, o1, rfl, hc1⟩ := (g1.old hgw (by simp)) (by rw [bts_length]; omega)
      have hp1 := hc1 k _ (bts_get l1 k (by omega))
      have hx := l1[k].toNat_lt
      clear hc0 hc1
      generalize l1[k].toNat = x at hp1 hx
      have hN := Go.bounds_u64 (gw0 l0[k] (List.getElem_mem _))
      obtain ⟨N, hNe⟩ := Int.eq_ofNat_of_zero_le hN.1
      rw [hNe] at hp0 hN
      have hN64 : N < 2 ^ 64 := by omega
      clear hNe hN
      obtain ⟨s, hs⟩ : ∃ s : Nat, 1 + (x : Int) % 8 = (s : Int) := Int.eq_ofNat_of_zero_le (by omega)
      have hs1 : 1 ≤ s := by omega
      have hs8 : s ≤ 8 := by omega
      have hne1 : decide (k = n1) = false := by simp; omega
      have hne2 : ((k : Int) == 100) = false := by simp; omega
      have hmask := mask N s hs1 hs8
      have hput : putB (encP ps) N s = encP (ps ++ [(N, s)]) := by rw [encP_snoc]; simp [putB, okB]; omega
      have Hput := mkHid hput
      clear hput
      have hlb : (encP ps).length = bm := by have := hb.len; rwa [bts_length] at this
      have Hlb := mkHid hlb
      clear hlb
      go_wp2_with (first | (go_at_call 10; refine (put_all bo bm bc (encP ps) N s wr hb.reads Hlb.out (by omega) hN64).mono ?_; rintro e w3 ⟨bo3, bm3, bc3, rfl, hr3, hg3⟩; rw [Hput.out] at hr3; have ha3 := ha.chg hg3 (by simp); have hw3 := hw.chg hg3 (by simp)) | (at_builtin; refine wpList_append_1 w3 rfl (.tmp 49) (.tmp 51) 40 rfl 3 8 eltI w2.heap.size ao k ac _ rfl ha3 (hgr.then hg3).size _ 1 rfl rfl (by unfold maxLen; omega) (by omega) ?_; intro ao4 ac4 w4 ha4 hg4 hf4; have hw4 := hw3.chg hg4 (fun x hx hx' => hd1 x hx' hx); have hg4' : Chg [] w2 w4 := (hgr.then hg3).own hg4 ha3) | (at_builtin; refine wpList_append_1 w4 rfl (.tmp 53) (.tmp 65) 46 rfl 23 8 eltN w2.heap.size wo k wc _ rfl hw4 hg4'.size _ 1 rfl rfl (by unfold maxLen; omega) (by omega) ?_; intro wo5 wc5 w5 hw5 hg5 hf5))
      go_roundw
      case rel =>
        have hsz := hg3.size
        have hlta : ∀ x, x ∈ fp ao ac → x < wr.heap.size := fun x hx => (ha.lt x hx).2
        have hltw : ∀ x, x ∈ fp wo wc → x < wr.heap.size := fun x hx => (hw.lt x hx).2
        have hltb : ∀ x, x ∈ fp bo3 bc3 → wr.heap.size ≤ x ∧ x < w3.heap.size := fun x hx => hr3.lt x hx
        have hs34 := hg4.size
        have hlt4 : ∀ x, x ∈ fp ao4 ac4 → x ∉ fp wo wc := by
          intro x hx hx'
          rcases hf4 with e | ⟨q, hq, e⟩
          · rw [e] at hx; exact hd1 x hx hx'
          · rw [e] at hx; simp at hx; have := hltw x hx'; omega
        have hlt4' : ∀ x, x ∈ fp ao4 ac4 → x < w4.heap.size := fun x hx => (ha4.lt x hx).2
        refine ⟨k + 1, ps ++ [(N, s)], bm3, bo3, bc3, ao4, ac4, wo5, wc5, by go_num, by omega, by omega, by omega, mkHid (by rw [List.length_append, hps.out]; rfl), mkHid ?_, rfl, rfl, rfl, ?_, ?_, ?_, ?_, ?_, hg4'.own hg5 hw4⟩
        · intro p hp
          simp at hp
          rcases hp with hp | hp
          · exact hok.out p hp
          · subst hp; exact ⟨hs1, hs8⟩
        · refine (((hr3.mono hgr.size).chg hg4 (fun x hx hx' => ?_)).chg hg5 (fun x hx hx' => ?_))
          · have h1 := hlta x hx'; have h2 := (hltb x hx).1; omega
          · have h1 := hltw x hx'; have h2 := (hltb x hx).1; omega
        · have := ha4.chg hg5 (fun x hx hx' => hlt4 x hx hx')
          simpa [szP, ints] using this
        · simpa [wantP, u64s] using hw5
        · intro x hx hx'
          rcases hf5 with e | ⟨q, hq, e⟩
          · rw [e] at hx'; exact hlt4 x hx hx'
          · rw [e] at hx'; simp at hx'; have := hlt4' x hx; omega
        · intro x hx
          have hb3 := hltb x hx
          refine ⟨fun hx' => ?_, fun hx' => ?_⟩
          · rcases hf4 with e | ⟨q, hq, e⟩
            · rw [e] at hx'; have := hlta x hx'; omega
            · rw [e] at hx'; simp at hx'; omega
          · rcases hf5 with e | ⟨q, hq, e⟩
            · rw [e] at hx'; have := hltw x hx'; omega
            · rw [e] at hx'; simp at hx'; omega
      case measure => simp [intOf]; omega
    · have hex : k = n0 ∨ (k < n0 ∧ (k = n1 ∨ ((k : Int) == n1) = false ∧ k = 100)) := by
        by_cases h : k < n0
        · refine Or.inr ⟨h, ?_⟩
          by_cases h1 : k = n1
          · exact Or.inl h1
          · refine Or.inr ⟨by simp; omega, by omega⟩
        · exact Or.inl (by omega)
      have ht := ht2.chg hgr (by simp)
      have hblen : (encP ps).length = bm := by have := hb.len; rwa [bts_length] at this
      have Hbl := mkHid hblen
      have hsum : sumI (szP ps) = (bm : Int) := by rw [sum_encP, hblen]
      have Hsum := mkHid hsum
      have Hzl : Hid ((szP ps).length = k) := mkHid (by rw [szP_length]; exact hps.out)
      have Hwl : Hid ((wantP ps).length = k) := mkHid (by rw [wantP_length]; exact hps.out)
      have haB : 0 < k → tb ∉ blk ao := by
        intro h0 hm
        have h1 := (ha.lt tb (by unfold fp; rw [if_neg (by have := ha.le; omega)]; exact hm)).1
        have h2 := ht2.lt
        omega
      have hkm : k ≤ 100 := hk100
      clear hblen hsum
      rcases hex with h | ⟨h0, hrest⟩
      · obtain rfl : k = n0 := h
        cases take with
        | true =>
          go_wp2_with (first | (go_at_call 17; refine (push_any w.heap.size tb none 0 0 [] bo bm bc (encP ps) _ ht hgw.size hb.reads Hbl.out (by omega)).mono ?_; rintro e w3 ⟨rfl, to3, tc3, ht3, hg3, hf3⟩; have ht3 := ht3.renum (List.nil_append _) Hbl.out; have htb : tb < w2.heap.size := ht2.lt; have hz3 : Reads w3 ao (ints (szP ps)) := ha.reads.chg0 hg3 (fun h0 x hx hx' => by rw [ints_length, Hzl.out] at h0; simp [fp_zero] at hx'; subst hx'; exact haB h0 hx); have hw3 : Reads w3 wo (u64s (wantP ps)) := (hw.chg hg3 (fun x hx hx' => by simp [fp_zero] at hx'; subst hx'; have := (hw.lt x hx).1; omega)).reads; have hg3' : Chg [] w w3 := hgw.step hg3 (by simp [fp_zero]; exact ht.low)) | (go_at_call 23; refine (nums_take w.heap.size tb to3 bm tc3 (encP ps) ao k ac (szP ps) _ ht3 (by omega) hz3 Hzl.out (by omega) (okP_sz ps hok.out) (by rw [Hsum.out]; omega) haB).mono ?_; rintro e w4 ⟨lo, lc, to4, tc4, rfl, hr4, ht4, hg4, hf4⟩; rw [vals_encP] at hr4; have hg4' : Chg [] w w4 := hg3'.step hg4 (by simpa using ht.low); have ht4 := ht4.renum (m := 0) (k := []) (by rw [Hsum.out, ← Hbl.out]; simp) rfl; have hw4 : Reads w4 wo (u64s (wantP ps)) := hw3.chg0 hg4 (fun h0 x hx hx' => by rw [u64s_length, Hwl.out] at h0; simp at hx'; subst hx'; have := (hw.lt x (by unfold fp; rw [if_neg (by have := hw.le; omega)]; exact hx)).1; omega)) | (go_at_call 25; refine (same_yes lo k lc wo wc (wantP ps) _ hr4.reads Hwl.out hw4 (by unfold maxLen; omega)).mono ?_; rintro e w5 ⟨rfl, hg5⟩; have ht5 := ht4.chg hg5 (by simp)) | (go_at_call 26; refine (len_any _ _ _ _ _ _ _ ht5).mono ?_; rintro e w' ⟨rfl, rfl⟩))
          go_ret
          exact ⟨rfl, (hg4'.then hg5).below (Nat.le_refl _) (by simp)⟩
        | false =>
          go_wp2_with (first | (go_at_call 17; refine (push_any w.heap.size tb none 0 0 [] bo bm bc (encP ps) _ ht hgw.size hb.reads Hbl.out (by omega)).mono ?_; rintro e w3 ⟨rfl, to3, tc3, ht3, hg3, hf3⟩; have ht3 := ht3.renum (List.nil_append _) Hbl.out; have htb : tb < w2.heap.size := ht2.lt; have hz3 : Reads w3 ao (ints (szP ps)) := ha.reads.chg0 hg3 (fun h0 x hx hx' => by rw [ints_length, Hzl.out] at h0; simp [fp_zero] at hx'; subst hx'; exact haB h0 hx); have hw3 : Reads w3 wo (u64s (wantP ps)) := (hw.chg hg3 (fun x hx hx' => by simp [fp_zero] at hx'; subst hx'; have := (hw.lt x hx).1; omega)).reads; have hg3' : Chg [] w w3 := hgw.step hg3 (by simp [fp_zero]; exact ht.low)) | (go_at_call 23; refine (nums_peek w.heap.size tb to3 bm tc3 (encP ps) ao k ac (szP ps) _ ht3 (by omega) hz3 Hzl.out (by omega) (okP_sz ps hok.out) (by rw [Hsum.out]; omega) haB).mono ?_; rintro e w4 ⟨lo, lc, rfl, hr4, hg4⟩; rw [vals_encP] at hr4; have hg4' : Chg [] w w4 := hg3'.then hg4; have ht4 := ht3.chg hg4 (by simp); have hw4 : Reads w4 wo (u64s (wantP ps)) := hw3.chg hg4 (by simp)) | (go_at_call 25; refine (same_yes lo k lc wo wc (wantP ps) _ hr4.reads Hwl.out hw4 (by unfold maxLen; omega)).mono ?_; rintro e w5 ⟨rfl, hg5⟩; have ht5 := ht4.chg hg5 (by simp)) | (go_at_call 26; refine (len_any _ _ _ _ _ _ _ ht5).mono ?_; rintro e w' ⟨rfl, rfl⟩))
          go_ret
          exact ⟨ret_bool (by simp), (hg4'.then hg5).below (Nat.le_refl _) (by simp)⟩
      · obtain ⟨b0, o0, rfl, hc0⟩ := (g0.old hgw (by simp)) (by simp; omega)
        have hp0 := hc0 k (.int .u64 l0[k]) (by simp [show k < l0.length by omega])
        clear hc0
        rcases hrest with h1 | ⟨h1, h2⟩
        · obtain rfl : k = n1 := h1
          cases take with
          | true =>
            go_wp2_with (first | (go_at_call 17; refine (push_any w.heap.size tb none 0 0 [] bo bm bc (encP ps) _ ht hgw.size hb.reads Hbl.out (by omega)).mono ?_; rintro e w3 ⟨rfl, to3, tc3, ht3, hg3, hf3⟩; have ht3 := ht3.renum (List.nil_append _) Hbl.out; have htb : tb < w2.heap.size := ht2.lt; have hz3 : Reads w3 ao (ints (szP ps)) := ha.reads.chg0 hg3 (fun h0 x hx hx' => by rw [ints_length, Hzl.out] at h0; simp [fp_zero] at hx'; subst hx'; exact haB h0 hx); have hw3 : Reads w3 wo (u64s (wantP ps)) := (hw.chg hg3 (fun x hx hx' => by simp [fp_zero] at hx'; subst hx'; have := (hw.lt x hx).1; omega)).reads; have hg3' : Chg [] w w3 := hgw.step hg3 (by simp [fp_zero]; exact ht.low)) | (go_at_call 23; refine (nums_take w.heap.size tb to3 bm tc3 (encP ps) ao k ac (szP ps) _ ht3 (by omega) hz3 Hzl.out (by omega) (okP_sz ps hok.out) (by rw [Hsum.out]; omega) haB).mono ?_; rintro e w4 ⟨lo, lc, to4, tc4, rfl, hr4, ht4, hg4, hf4⟩; rw [vals_encP] at hr4; have hg4' : Chg [] w w4 := hg3'.step hg4 (by simpa using ht.low); have ht4 := ht4.renum (m := 0) (k := []) (by rw [Hsum.out, ← Hbl.out]; simp) rfl; have hw4 : Reads w4 wo (u64s (wantP ps)) := hw3.chg0 hg4 (fun h0 x hx hx' => by rw [u64s_length, Hwl.out] at h0; simp at hx'; subst hx'; have := (hw.lt x (by unfold fp; rw [if_neg (by have := hw.le; omega)]; exact hx)).1; omega)) | (go_at_call 25; refine (same_yes lo k lc wo wc (wantP ps) _ hr4.reads Hwl.out hw4 (by unfold maxLen; omega)).mono ?_; rintro e w5 ⟨rfl, hg5⟩; have ht5 := ht4.chg hg5 (by simp)) | (go_at_call 26; refine (len_any _ _ _ _ _ _ _ ht5).mono ?_; rintro e w' ⟨rfl, rfl⟩))
            go_ret
            exact ⟨rfl, (hg4'.then hg5).below (Nat.le_refl _) (by simp)⟩
          | false =>
            go_wp2_with (first | (go_at_call 17; refine (push_any w.heap.size tb none 0 0 [] bo bm bc (encP ps) _ ht hgw.size hb.reads Hbl.out (by omega)).mono ?_; rintro e w3 ⟨rfl, to3, tc3, ht3, hg3, hf3⟩; have ht3 := ht3.renum (List.nil_append _) Hbl.out; have htb : tb < w2.heap.size := ht2.lt; have hz3 : Reads w3 ao (ints (szP ps)) := ha.reads.chg0 hg3 (fun h0 x hx hx' => by rw [ints_length, Hzl.out] at h0; simp [fp_zero] at hx'; subst hx'; exact haB h0 hx); have hw3 : Reads w3 wo (u64s (wantP ps)) := (hw.chg hg3 (fun x hx hx' => by simp [fp_zero] at hx'; subst hx'; have := (hw.lt x hx).1; omega)).reads; have hg3' : Chg [] w w3 := hgw.step hg3 (by simp [fp_zero]; exact ht.low)) | (go_at_call 23; refine (nums_peek w.heap.size tb to3 bm tc3 (encP ps) ao k ac (szP ps) _ ht3 (by omega) hz3 Hzl.out (by omega) (okP_sz ps hok.out) (by rw [Hsum.out]; omega) haB).mono ?_; rintro e w4 ⟨lo, lc, rfl, hr4, hg4⟩; rw [vals_encP] at hr4; have hg4' : Chg [] w w4 := hg3'.then hg4; have ht4 := ht3.chg hg4 (by simp); have hw4 : Reads w4 wo (u64s (wantP ps)) := hw3.chg hg4 (by simp)) | (go_at_call 25; refine (same_yes lo k lc wo wc (wantP ps) _ hr4.reads Hwl.out hw4 (by unfold maxLen; omega)).mono ?_; rintro e w5 ⟨rfl, hg5⟩; have ht5 := ht4.chg hg5 (by simp)) | (go_at_call 26; refine (len_any _ _ _ _ _ _ _ ht5).mono ?_; rintro e w' ⟨rfl, rfl⟩))
            go_ret
            exact ⟨ret_bool (by simp), (hg4'.then hg5).below (Nat.le_refl _) (by simp)⟩
        · have h3 : ((k : Int) == 100) = true := by simp; omega
          clear h2
          cases take with
          | true =>
            go_wp2_with (first | (go_at_call 17; refine (push_any w.heap.size tb none 0 0 [] bo bm bc (encP ps) _ ht hgw.size hb.reads Hbl.out (by omega)).mono ?_; rintro e w3 ⟨rfl, to3, tc3, ht3, hg3, hf3⟩; have ht3 := ht3.renum (List.nil_append _) Hbl.out; have htb : tb < w2.heap.size := ht2.lt; have hz3 : Reads w3 ao (ints (szP ps)) := ha.reads.chg0 hg3 (fun h0 x hx hx' => by rw [ints_length, Hzl.out] at h0; simp [fp_zero] at hx'; subst hx'; exact haB h0 hx); have hw3 : Reads w3 wo (u64s (wantP ps)) := (hw.chg hg3 (fun x hx hx' => by simp [fp_zero] at hx'; subst hx'; have := (hw.lt x hx).1; omega)).reads; have hg3' : Chg [] w w3 := hgw.step hg3 (by simp [fp_zero]; exact ht.low)) | (go_at_call 23; refine (nums_take w.heap.size tb to3 bm tc3 (encP ps) ao k ac (szP ps) _ ht3 (by omega) hz3 Hzl.out (by omega) (okP_sz ps hok.out) (by rw [Hsum.out]; omega) haB).mono ?_; rintro e w4 ⟨lo, lc, to4, tc4, rfl, hr4, ht4, hg4, hf4⟩; rw [vals_encP] at hr4; have hg4' : Chg [] w w4 := hg3'.step hg4 (by simpa using ht.low); have ht4 := ht4.renum (m := 0) (k := []) (by rw [Hsum.out, ← Hbl.out]; simp) rfl; have hw4 : Reads w4 wo (u64s (wantP ps)) := hw3.chg0 hg4 (fun h0 x hx hx' => by rw [u64s_length, Hwl.out] at h0; simp at hx'; subst hx'; have := (hw.lt x (by unfold fp; rw [if_neg (by have := hw.le; omega)]; exact hx)).1; omega)) | (go_at_call 25; refine (same_yes lo k lc wo wc (wantP ps) _ hr4.reads Hwl.out hw4 (by unfold maxLen; omega)).mono ?_; rintro e w5 ⟨rfl, hg5⟩; have ht5 := ht4.chg hg5 (by simp)) | (go_at_call 26; refine (len_any _ _ _ _ _ _ _ ht5).mono ?_; rintro e w' ⟨rfl, rfl⟩))
            go_ret
            exact ⟨rfl, (hg4'.then hg5).below (Nat.le_refl _) (by simp)⟩
          | false =>
            go_wp2_with (first | (go_at_call 17; refine (push_any w.heap.size tb none 0 0 [] bo bm bc (encP ps) _ ht hgw.size hb.reads Hbl.out (by omega)).mono ?_; rintro e w3 ⟨rfl, to3, tc3, ht3, hg3, hf3⟩; have ht3 := ht3.renum (List.nil_append _) Hbl.out; have htb : tb < w2.heap.size := ht2.lt; have hz3 : Reads w3 ao (ints (szP ps)) := ha.reads.chg0 hg3 (fun h0 x hx hx' => by rw [ints_length, Hzl.out] at h0; simp [fp_zero] at hx'; subst hx'; exact haB h0 hx); have hw3 : Reads w3 wo (u64s (wantP ps)) := (hw.chg hg3 (fun x hx hx' => by simp [fp_zero] at hx'; subst hx'; have := (hw.lt x hx).1; omega)).reads; have hg3' : Chg [] w w3 := hgw.step hg3 (by simp [fp_zero]; exact ht.low)) | (go_at_call 23; refine (nums_peek w.heap.size tb to3 bm tc3 (encP ps) ao k ac (szP ps) _ ht3 (by omega) hz3 Hzl.out (by omega) (okP_sz ps hok.out) (by rw [Hsum.out]; omega) haB).mono ?_; rintro e w4 ⟨lo, lc, rfl, hr4, hg4⟩; rw [vals_encP] at hr4; have hg4' : Chg [] w w4 := hg3'.then hg4; have ht4 := ht3.chg hg4 (by simp); have hw4 : Reads w4 wo (u64s (wantP ps)) := hw3.chg hg4 (by simp)) | (go_at_call 25; refine (same_yes lo k lc wo wc (wantP ps) _ hr4.reads Hwl.out hw4 (by unfold maxLen; omega)).mono ?_; rintro e w5 ⟨rfl, hg5⟩; have ht5 := ht4.chg hg5 (by simp)) | (go_at_call 26; refine (len_any _ _ _ _ _ _ _ ht5).mono ?_; rintro e w' ⟨rfl, rfl⟩))
            go_ret
            exact ⟨ret_bool (by simp), (hg4'.then hg5).below (Nat.le_refl _) (by simp)⟩


theorem own : ownKnob Try.prog.godebug = none := by kernel_rfl
theorem laidOut : laidOutB Try.prog = true := by kernel_rfl
set_option maxRecDepth 100000 in
theorem lifted (os : Os) (started : os.Started) (H : Type) (enc : TypeId × Value → H) :
    ReturnsInHanded {} Try.checked os 8 .any (Rows.orderRowsSpec.pre6 enc Try.prog Try.f8 Rows.orderRowsRow.domain false) (Rows.orderRowsSpec.post enc Try.prog Try.f8 false true false false) := by
  refine returnsInHanded_of_change_sized (C := Try.checked) own started (by kernel_rfl) Try.func8
    (ChangeSpec.witness6 (enc := enc) (C := Try.checked) false ⟨#[], #[.slice none 0 0, .slice none 0 0, .bool false], []⟩ 8 (by kernel_rfl) (by kernel_rfl) (by kernel_rfl) (by kernel_rfl)) ?_
  intro W base args ds gs before hval0 hW hcnd hsz0 _
  have hsz : (DataW.weightsEach Try.prog (Try.f8.params.toList ++ Rows.orderRowsSpec.plain.varTypes Try.prog) (ds ++ gs)).all (· ≤ reachBytes) = true := hsz0
  have hval : ∀ (j : Nat) t v, Try.f8.params[j]? = some t → args[j]? = some v → Value.okWide Try.prog W .any base t v := hval0
  have hW' := hW
  obtain ⟨p, q, hA0, hV, rfl, hfz, hnd⟩ := hW
  have hA : DataW.TrodAll enc Try.prog W 0 (fun _ => true) true Try.f8.params.toList args.toList ds p := hA0
  rw [Try.params8] at hA hval hsz
  obtain ⟨v0, vs0, d0, ds0, p0, q0, hargs, rfl, rfl, h0, r0⟩ := trodAll_cons hA
  obtain ⟨v1, vs1, d1, ds1, p1, q1, rfl, rfl, rfl, h1, r1⟩ := trodAll_cons r0
  obtain ⟨v2, vs2, d2, ds2, p2, q2, rfl, rfl, rfl, h2, r2⟩ := trodAll_cons r1
  obtain ⟨rfl, rfl, rfl⟩ := trodAll_nil r2
  obtain rfl : args = #[v0, v1, v2] := by cases args; simp_all
  obtain ⟨rfl, rfl⟩ := trodVars_none hV
  have k0 := h0
  have lt0 : ∀ x ∈ p0, x.block < W.heap.size := by obtain ⟨m, hm⟩ := k0; exact DataW.trod_lt m _ _ _ hm
  have k1 := h1
  have lt1 : ∀ x ∈ p1, x.block < W.heap.size := by obtain ⟨m, hm⟩ := k1; exact DataW.trod_lt m _ _ _ hm
  have k2 := h2
  have lt2 : ∀ x ∈ p2, x.block < W.heap.size := by obtain ⟨m, hm⟩ := k2; exact DataW.trod_lt m _ _ _ hm
  obtain ⟨a0, n0, c0, rfl⟩ := okWide_slice Try.underlying46 (hval 0 46 v0 rfl rfl)
  obtain ⟨l0, g0, gn0, gc0, gm0, gw0, gd0⟩ := opened_ints Try.underlying46 Try.underlying23 (by kernel_rfl) h0
  have gr0 := (sized_of hsz (j := 0) (t := 46) rfl rfl).slice Try.underlying46 (by kernel_rfl : Try.prog.bytesOf 23 = 8) gd0
  obtain ⟨a1, n1, c1, rfl⟩ := okWide_slice Try.underlying22 (hval 1 22 v1 rfl rfl)
  obtain ⟨l1, g1, gn1, gc1, gm1, gd1⟩ := opened_bytes Try.underlying22 Try.underlying5 (by kernel_rfl) h1
  have gr1 := (sized_of hsz (j := 1) (t := 22) rfl rfl).slice Try.underlying22 (by kernel_rfl : Try.prog.bytesOf 5 = 1) gd1
  obtain ⟨l2, rfl, rfl, rfl⟩ := open_bool Try.underlying4 (hval 2 4 v2 rfl rfl) h2
  refine (walk a0 n0 c0 l0 a1 n1 c1 l1 l2 W g0 gn0 gc0 gr0 gw0 g1 gn1 gc1 gr1).mono fun e W' ⟨he, bel⟩ => ?_
  subst he
  exact ⟨_, rfl, _, _, _, [], _, [], hW', trodAll_mk1 (shut_bool Try.underlying4 _), (trodAll_cons_mk (Below.trod laidOut (by kernel_rfl) (of_decide_eq_true (by kernel_rfl)) k0 bel lt0) (trodAll_cons_mk (Below.trod laidOut (by kernel_rfl) (of_decide_eq_true (by kernel_rfl)) k1 bel lt1) (trodAll_cons_mk (shut_bool Try.underlying4 _) trodAll_mk0))), rfl, bel.frame _, fun h => by cases h⟩
theorem proved : Rows.OrderRowsSaid :=
  OpenClaim.holds_of_wide 8 Try.f8 rfl rfl rfl rfl rfl rfl rfl ⟨rfl, rfl, rfl, rfl, rfl⟩ rfl rfl rfl rfl rfl (by kernel_rfl) Try.func8 (by kernel_rfl)
    (of_decide_eq_true (by kernel_rfl)) (by unfold Func.isWrapper; first | (rw [if_pos (by decide +kernel)]; kernel_rfl) | (rw [if_neg (by decide +kernel)]; exact ⟨rfl, rfl⟩))
    (fun os started H enc _ => lifted os started H enc)
#print axioms proved
end Go.Proofs.Ytfjcaangcogkeaa.orderRows
