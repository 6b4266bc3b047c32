/- RefsDeferred. -/
import Derived.Test.YtppjjlooocigdaaUm
import Derived.Deep.CutBlock
namespace Go.Proofs.Ytppjjlooocigdaa
open Go.RowKit
set_option linter.unusedVariables false
set_option linter.unusedSimpArgs false
attribute [local go_sem ↓] Go.wp_at_zero Go.wp_at_succ

theorem set_get_self {L : List UInt8} {x : Nat} {a : UInt8} (h : L[x]? = some a) : L.set x a = L := by
  apply List.ext_getElem?
  intro i
  by_cases e : i = x
  · subst e; rw [List.getElem?_set_self (List.getElem?_eq_some_iff.1 h).1, h]
  · rw [List.getElem?_set_ne (fun h => e h.symm)]
theorem freeL_give {Is : List Bool} {x : Nat} (h : Is[x]? = some false) : (freeL (Is.set x true)).length = (freeL Is).length + 1 := by
  have hlt := (List.getElem?_eq_some_iff.1 h).1
  have hx : x ∉ freeL Is := fun hm => by have := (mem_freeL Is x).1 hm; rw [h] at this; simp at this
  have hnd : (x :: freeL Is).Nodup := List.nodup_cons.2 ⟨hx, lt_nodup (freeL_lt Is)⟩
  have hp : (freeL (Is.set x true)).Perm (x :: freeL Is) := (List.perm_ext_iff_of_nodup (lt_nodup (freeL_lt _)) hnd).2 fun y => by
    rw [mem_freeL, set_get _ _ _ _ hlt, List.mem_cons, mem_freeL]
    by_cases e : x = y
    · simp [e]
    · rw [if_neg e]
      exact ⟨Or.inr, fun h => h.resolve_left (fun h9 => e h9.symm)⟩
  rw [hp.length_eq, List.length_cons]
theorem at0_set {L : List UInt8} {x n : Nat} (hl : L.length = n) (hx : x < n) (v : UInt8) : at0 (L.set x v) (x : Int) = v := at0_of (List.getElem?_set_self (by omega))
theorem isIn_set {L : List UInt8} {x n : Nat} (hl : L.length = n) (hx : x < n) (v : UInt8) : isIn (L.set x v) (x : Int) = true := isIn_yes (n := n) (by simp [hl]) hx
/-- What was handed out first, given back, is handed out again. -/
theorem fresh_back {L : List UInt8} {n r : Nat} (hl : L.length = n) (hr : L[r]? = some 0) : ∃ (x : Nat) (k q : Nat), allocN L L = ((x : Int), 0, L.set x 1) ∧ decN (L.set x 1) (x : Int) = (true, 0, L) ∧ (freeL (freeI L L)).length = q ∧ (freeL (freeI (L.set x 1) L)).length = k ∧ q = k + 1 ∧ q ≤ n := by
  have h1 : r ∈ freeL (freeI L L) := (mem_freeL _ r).2 (freeI_true.2 ⟨hr, hr⟩)
  cases hf : freeL (freeI L L) with
  | nil => rw [hf] at h1; cases h1
  | cons x t =>
    have hx := (mem_freeL _ x).1 (by rw [hf]; simp)
    obtain ⟨h2, _⟩ := freeI_true.1 hx
    have hxn : x < n := by have := (List.getElem?_eq_some_iff.1 h2).1; omega
    have hle := freeL_le (freeI L L)
    rw [freeI_len hl hl, hf] at hle
    refine ⟨x, t.length, t.length + 1, by unfold allocN; rw [hf], ?_, by simp, ?_, rfl, by simpa using hle⟩
    · unfold decN
      rw [if_pos (isIn_set hl hxn 1), at0_set hl hxn, if_neg (by decide), Int.toNat_natCast, List.set_set]
      have e : (1 : UInt8) - 1 = 0 := rfl
      rw [e, set_get_self h2]
      rfl
    · rw [freeI_set h2 h2]
      have e : ((1 : UInt8) == 0 && (0 : UInt8) == 0) = false := rfl
      rw [e, freeL_take hf]
theorem ofNat_nat {j : Nat} (h : j ≤ 255) : (UInt8.ofNat j).toNat = j := by simp; omega
theorem dec_down {L : List UInt8} {n r j : Nat} (hl : L.length = n) (hr : r < n) (h0 : 0 < j) (hj : j ≤ 255) : decN (L.set r (UInt8.ofNat j)) (r : Int) = (decide (j = 1), 0, L.set r (UInt8.ofNat (j - 1))) := by
  have h1 := ofNat_nat hj
  unfold decN
  rw [if_pos (isIn_set hl hr _), at0_set hl hr, if_neg (fun e => by have := (u8_nat h1 0).1 e; simp at this; omega), Int.toNat_natCast, List.set_set]
  have e1 : decide (UInt8.ofNat j = 1) = decide (j = 1) := by
    rw [Bool.eq_iff_iff, decide_eq_true_iff, decide_eq_true_iff, u8_nat h1 1]
    rfl
  have e2 : UInt8.ofNat j - 1 = UInt8.ofNat (j - 1) := UInt8.toNat_inj.1 (by
    have h2 := u8_pred h1 h0
    have h3 := ofNat_nat (j := j - 1) (by omega)
    omega)
  rw [e1, e2]
theorem free_down {L : List UInt8} {r : Nat} {a : UInt8} (ha : L[r]? = some a) (h0 : a ≠ 0) (v : UInt8) : freeI (L.set r v) L = freeI L L := by
  rw [freeI_set ha ha]
  refine bool_set_same ?_
  rw [freeI_get ha ha]
  have : (a == 0) = false := by simpa using h0
  rw [this]; simp
theorem gone_facts {L : List UInt8} {n r : Nat} {a : UInt8} (hl : L.length = n) (hr : r < n) (ha : L[r]? = some a) (h0 : a ≠ 0) : decN (L.set r 0) (r : Int) = (false, 6, L.set r 0) ∧ incN (L.set r 0) (r : Int) = (6, L.set r 0) ∧ (freeL (freeI (L.set r 0) (L.set r 0))).length = (freeL (freeI L L)).length + 1 := by
  refine ⟨?_, ?_, ?_⟩
  · unfold decN
    rw [if_pos (isIn_set hl hr _), at0_set hl hr, if_pos rfl]
  · unfold incN
    rw [if_pos (isIn_set hl hr _), at0_set hl hr, if_pos rfl]
  · have h1 : (L.set r 0)[r]? = some 0 := List.getElem?_set_self (by omega)
    have e : freeI (L.set r 0) (L.set r 0) = (freeI L L).set r true := by
      rw [freeI_self, freeI_self, List.map_set]; rfl
    rw [e]
    refine freeL_give ?_
    rw [freeI_get ha ha]
    have : (a == 0) = false := by simpa using h0
    rw [this]; simp
theorem ret_cast {a b : Int} (h : a = b) : Value.int .i64 a = .int .i64 b := by rw [h]
set_option maxRecDepth 20000 in
set_option maxHeartbeats 2000000 in
theorem deferred_core (a0 : Option Addr) (n c : Nat) (L : List UInt8) (z : Int) (w : World) (g0 : Reads w a0 (bts L)) (gn : L.length = n) (gc : n ≤ c) (gr : c * 1 ≤ 140737488351232) (gz : (Lit.int .i64 z).wf = true) :
    Calls Try.prog 5 #[.slice a0 n c, .int .i64 z] w fun e w' => e = .returned (.bool true) ∧ Chg [] w w' := by
  by_cases hin : 0 < n ∧ n ≤ 1024
  · obtain ⟨n0, nn⟩ := hin
    have hw : IntKind.u64.wrap z = z % 18446744073709551616 := by
      unfold IntKind.wrap
      simp [IntKind.signed, IntKind.bits]
    have h1 : 0 ≤ z % 18446744073709551616 := Int.emod_nonneg _ (by decide)
    have ht : (z % 18446744073709551616).tmod (n : Int) = z % 18446744073709551616 % (n : Int) := Int.tmod_eq_emod_of_nonneg h1
    have h2 := Int.emod_nonneg (z % 18446744073709551616) (b := (n : Int)) (by omega)
    have h3 := Int.emod_lt_of_pos (z % 18446744073709551616) (b := (n : Int)) (by omega)
    obtain ⟨r, hr⟩ : ∃ r : Nat, wrap64 ((IntKind.u64.wrap z).tmod (n : Int)) = (r : Int) := by
      rw [hw, ht]
      generalize z % 18446744073709551616 % (n : Int) = y at *
      refine ⟨y.toNat, ?_⟩
      unfold wrap64
      omega
    have hrn : r < n := by
      rw [hw, ht] at hr
      generalize z % 18446744073709551616 % (n : Int) = y at *
      unfold wrap64 at hr
      omega
    have HR := mkHid hr
    clear hw h1 ht h2 h3 hr
    have hne : ((n : Int) == 0) = false := beq_eq_false_iff_ne.2 (by omega)
    have cN := r_new w.heap.size a0 n c L w g0 gn n0 nn (Nat.le_refl _) (fun _ => 9) 0
    go_enter Try.func5, Try.ntmps5
    go_wp2_with fail
    refine cN.mono ?_
    rintro e w1 ⟨rb, rfl, t1, h1, s1⟩
    have q1 := s1.1
    clear cN s1
    go_wp2_with fail
    refine (awake_any w1).mono ?_
    rintro e w2 ⟨rfl, gA⟩
    have h2 := h1.still (Still.of gA)
    have q2 := q1.then gA
    clear h1 q1 gA
    go_upto_region 7 with fail
    rw [HR.out]
    generalize IntKind.u64.wrap z = uz at *
    generalize uz.tmod (n : Int) = ur at *
    clear HR gz
    obtain ⟨a, m, ha, hm, hm2⟩ := byte_at gn hrn
    have ci0 := bts_at ha hm
    by_cases hm0 : m = 0
    · have ha0 : L[r]? = some 0 := by rw [ha, (u8_nat hm 0).2 hm0]
      obtain ⟨x, k, q, e1, e2, e3, e4, e5, hqn⟩ := fresh_back gn ha0
      have hg2 := g0.keep q2
      obtain ⟨ab, ao, rfl, ci, _⟩ := reads_lt hg2 r _ ci0
      have u1 : ((m : Int) == 0) = true := by simp; omega
      have u2 : (m == 0) = true := by simp; omega
      have v1 : ((k : Int) == (q : Int) - 1) = true := by simp; omega
      have hq1 : 1 ≤ q := by omega
      have v2 : ((q : Int) == (q : Int)) = true := by simp
      have v3 : (q == q) = true := by simp
      have v4 : ((x : Int) == (x : Int)) = true := by simp
      have v5 : (x == x) = true := by simp
      have c3 := r_free h2
      rw [e3] at c3
      have E1 := mkHid e1
      have E2 := mkHid e2
      have E3 := mkHid e3
      have E4 := mkHid e4
      have E5 := mkHid e5
      clear e1 e2 e3 e4 e5 ha ha0 hm hm0 hg2 gn ci0
      go_wp2_with fail
      refine c3.mono ?_
      rintro e w3 ⟨rfl, rfl⟩
      clear c3
      go_wp2_with fail
      have c4 := r_alloc h2
      rw [E1.out] at c4
      refine c4.mono ?_
      rintro e w4 ⟨rfl, t4, h4, s4⟩
      have q4 := s4.base q2
      clear c4 ci h2 q2 s4
      go_wp2_with fail
      have c5 := r_dec h4 x
      rw [E2.out] at c5
      refine c5.mono ?_
      rintro e w5 ⟨rfl, t5, h5, s5⟩
      have q5 := s5.base q4
      clear c5 h4 q4 s5
      go_wp2_with fail
      have c6 := r_alloc h5
      rw [E1.out] at c6
      refine c6.mono ?_
      rintro e w6 ⟨rfl, t6, h6, s6⟩
      have q6 := s6.base q5
      clear c6 h5 q5 s6
      go_wp2_with fail
      have c7 := r_free h6
      rw [E4.out] at c7
      refine c7.mono ?_
      rintro e w7 ⟨rfl, rfl⟩
      clear c7
      go_wp2_with fail
      refine (r_abort h6).mono ?_
      rintro e w8 ⟨rfl, t8, h8, s8⟩
      have q8 := s8.base q6
      clear h6 q6 s8
      go_wp2_with fail
      have c9 := r_free h8
      rw [E3.out] at c9
      refine c9.mono ?_
      rintro e w9 ⟨rfl, rfl⟩
      clear c9
      go_wp2_with fail
      go_ret
      exact ⟨by first | rfl | simp, q8⟩
    · have ha0 : a ≠ 0 := fun e => hm0 ((u8_nat hm 0).1 e)
      have hg2 := g0.keep q2
      obtain ⟨ab, ao, rfl, ci, _⟩ := reads_lt hg2 r _ ci0
      have u1 : ((m : Int) == 0) = false := by simp; omega
      have u2 : (m == 0) = false := by simp; omega
      obtain ⟨q, e3⟩ : ∃ q, (freeL (freeI L L)).length = q := ⟨_, rfl⟩
      have hqn : q ≤ n := by have := freeL_le (freeI L L); rw [freeI_len gn gn] at this; omega
      have c3 := r_free h2
      rw [e3] at c3
      have hD := fun (j : Nat) (h0 : 0 < j) (hj : j ≤ 255) => dec_down (j := j) gn hrn h0 hj
      have hF := fun v => free_down ha ha0 v
      obtain ⟨k1, k2, k3⟩ := gone_facts gn hrn ha ha0
      rw [e3] at k3
      have hLm : L = L.set r (UInt8.ofNat m) := by
        rw [show UInt8.ofNat m = a from UInt8.toNat_inj.1 (by rw [ofNat_nat hm2, hm])]
        exact (set_get_self ha).symm
      have h2' : HasR w.heap.size w2 t1 0 rb n (L.set r (UInt8.ofNat m)) L := by rw [← hLm]; exact h2
      have E3 := mkHid e3
      have HD := mkHid hD
      have HF := mkHid hF
      have K1 := mkHid k1
      have K2 := mkHid k2
      have K3 := mkHid k3
      have hmp : 0 < m := by omega
      clear e3 hD hF k1 k2 k3 hLm ha ha0 hm hm0 hg2 ci0 h2
      go_wp2_with fail
      refine c3.mono ?_
      rintro e w3 ⟨rfl, rfl⟩
      clear c3
      go_wp2_with fail
      go_loopw [14] (fun v wr => ∃ (j : Nat) (tg : Nat → Nat), v = .int .i64 j ∧ j ≤ m ∧ HasR w.heap.size wr tg 0 rb n (L.set r (UInt8.ofNat j)) L ∧ Chg [] w wr) (fun v _ => (intOf v).toNat)
      case atStart => exact ⟨m, t1, rfl, Nat.le_refl _, h2', q2⟩
      case round =>
        clear h2' ci q2
        obtain ⟨j, tg, rfl, hj, h3, q3⟩ := hrel
        by_cases hj0 : 0 < j
        · have d1 : decide ((j : Int) > 0) = true := decide_eq_true (by omega)
          have d2 : decide (0 < j) = true := decide_eq_true hj0
          have d3 : decide ((0 : Int) < (j : Int)) = true := decide_eq_true (by omega)
          have v2 : ((q : Int) != (q : Int)) = false := by simp
          have v3 : (q != q) = false := by simp
          have c4 := r_dec h3 r
          rw [HD.out j hj0 (by omega)] at c4
          go_wp2_with fail
          refine c4.mono ?_
          rintro e w4 ⟨rfl, t4, h4, s4⟩
          have q4 := s4.base q3
          have c5 := r_free h4
          simp only [HF.out] at c5
          rw [E3.out] at c5
          clear c4 h3 q3 s4
          by_cases hj1 : j = 1
          · have x1 : decide (j = 1) = true := decide_eq_true hj1
            have x2 : ((j : Int) == 1) = true := by simp; omega
            have x3 : (j == 1) = true := by simp; omega
            have HJ := mkHid hj1
            clear hj1
            go_wp2_with (first | (go_at_call 25; refine c5.mono ?_; rintro e w5 ⟨rfl, rfl⟩))
            exact ⟨⟨j - 1, t4, by rw [HJ.out]; rfl, by omega, h4, q4⟩, by rw [HJ.out]; simp [intOf]⟩
          · have x1 : decide (j = 1) = false := decide_eq_false hj1
            have x2 : ((j : Int) == 1) = false := by simp; omega
            have x3 : (j == 1) = false := by simp; omega
            clear hj1
            go_wp2_with (first | (go_at_call 25; refine c5.mono ?_; rintro e w5 ⟨rfl, rfl⟩))
            exact ⟨⟨j - 1, t4, ret_cast (by omega), by omega, h4, q4⟩, by simp [intOf]; omega⟩
        · have hj9 : j = 0 := by omega
          subst hj9
          have e0 : L.set r (UInt8.ofNat 0) = L.set r 0 := rfl
          rw [e0] at h3
          generalize L.set r 0 = L0 at *
          go_wp2_with fail
          refine (r_copy h3 1).mono ?_
          rintro e w4 ⟨xb, rfl, t4, x4, s4⟩
          have h4 := h3.still s4
          have q4 := q3.then s4.1
          clear h3 q3 s4
          go_wp2_with fail
          have c5 := r_dec h4 r
          rw [K1.out] at c5
          refine c5.mono ?_
          rintro e w5 ⟨rfl, t5, h5, s5⟩
          have q5 := s5.base q4
          have x5 := x4.stay s5 (by decide)
          clear c5 h4 q4 s5 x4
          go_wp2_with fail
          have c6 := r_inc h5 r
          rw [K2.out] at c6
          refine c6.mono ?_
          rintro e w6 ⟨rfl, t6, h6, s6⟩
          have q6 := s6.base q5
          have x6 := x5.stay s6 (by decide)
          clear c6 h5 q5 s6 x5
          go_wp2_with fail
          refine (r_commit h6).mono ?_
          rintro e w7 ⟨rfl, t7, h7, s7⟩
          have q7 := s7.base q6
          have x7 := x6.stay s7 (by decide)
          clear h6 q6 s7 x6
          go_wp2_with fail
          have c8 := r_free h7
          rw [K3.out] at c8
          refine c8.mono ?_
          rintro e w8 ⟨rfl, rfl⟩
          clear c8 h7
          go_wp2_with fail
          refine (r_abort x7).mono ?_
          rintro e w8 ⟨rfl, t8, x8, s8⟩
          have q8 := s8.base q7
          clear q7 s8 x7
          go_wp2_with fail
          have c9 := r_free x8
          rw [E3.out] at c9
          refine c9.mono ?_
          rintro e w9 ⟨rfl, rfl⟩
          clear c9
          go_wp2_with fail
          refine (r_counts x8 2).mono ?_
          rintro e w10 ⟨b, rfl, t10, y10, s10⟩
          have q10 := q8.then s10.1
          clear x8 q8 s10
          go_wp2_with fail
          have c11 := equal_any (some ⟨b, 0, none⟩) n n L (some ⟨ab, ao, none⟩) n c L w10 y10.1.reads gn (g0.keep q10) gn
          rw [decide_eq_true rfl] at c11
          refine c11.mono ?_
          rintro e w11 ⟨rfl, rfl⟩
          go_wp2_with fail
          go_ret
          exact ⟨by first | rfl | simp, q10⟩
  · have cO := rnew_out a0 n c w (by omega) (by omega)
    have cA := awake_any w
    by_cases h1 : n < 1
    · have d1 : decide ((n : Int) < 1) = true := decide_eq_true (by omega)
      have d1' : decide (n < 1) = true := decide_eq_true (by omega)
      have hz : n = 0 := by omega
      subst hz
      go_enter Try.func5, Try.ntmps5
      go_wp2_with (first | (go_at_call 7; refine cO.mono ?_; rintro e w' ⟨rfl, rfl⟩) | (go_at_call 9; refine cA.mono ?_; rintro e w1 ⟨rfl, hg⟩))
      go_ret
      exact ⟨rfl, hg⟩
    · have d1 : decide ((n : Int) < 1) = false := decide_eq_false (by omega)
      have d1' : decide (n < 1) = false := decide_eq_false (by omega)
      have d2 : decide ((n : Int) > 1024) = true := decide_eq_true (by omega)
      have d3 : decide ((1024 : Int) < (n : Int)) = true := decide_eq_true (by omega)
      have d4 : decide (1024 < n) = true := decide_eq_true (by omega)
      go_enter Try.func5, Try.ntmps5
      go_wp2_with (first | (go_at_call 7; refine cO.mono ?_; rintro e w' ⟨rfl, rfl⟩) | (go_at_call 9; refine cA.mono ?_; rintro e w1 ⟨rfl, hg⟩))
      go_ret
      exact ⟨rfl, hg⟩
end Go.Proofs.Ytppjjlooocigdaa
