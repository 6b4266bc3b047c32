/- The contracts of package crc's sums, and of the reference's. -/
import Derived.Test.YtaknbgiahlgpiaaDoorC
namespace Go.Proofs.YtaknbgiahlgpiaaDoor
open Go.RowKit
set_option linter.unusedVariables false
set_option linter.unusedSimpArgs false

theorem raw_succ (s : BitVec 32) (l : List UInt8) (k : Nat) (h : k < l.length) : raw s (l.take (k + 1)) = stp (raw s (l.take k)) l[k] := by
  rw [List.take_succ_eq_append_getElem h, raw_append]
  rfl
theorem and255 (x : BitVec 32) : bits .and .u32 (v32 x) 255 = v32 (x &&& 255#32) := a32 x 255#32
theorem n32m (a : BitVec 32) : bits .xor .u32 IntKind.u32.max (v32 a) = v32 (~~~ a) := n32 a
theorem mod32 (a : BitVec 32) : v32 a % 4294967296 = v32 a := by have := v32_lt a; omega
theorem conv32 (b : UInt8) : (b.toNat : Int) = v32 (BitVec.ofNat 32 b.toNat) := by
  have := b.toNat_lt
  unfold v32
  rw [BitVec.toNat_ofNat, Nat.mod_eq_of_lt (by omega)]
theorem Reads.old {S : List Nat} {w w' : World} {ao : Option Addr} {xs : List Value} (h : Reads w ao xs) (g : Chg S w w') (hS : S = []) : Reads w' ao xs := by subst hS; exact h.chg g (fun _ _ h => by simp at h)

theorem more_any (S : BitVec 32) (s : Int) (hs : s = v32 S) (ao : Option Addr) (n c : Nat) (l : List UInt8) (w : World) (hT : Tab w) (g : Reads w ao (bts l)) (gn : l.length = n) (hn : n ≤ maxLen) :
    Calls Tryd.prog 12 #[.int .u32 s, .slice ao n c] w fun e w' => e = .returned (.int .u32 (v32 (more S l))) ∧ Chg [] w w' := by
  subst hs
  unfold maxLen at hn
  go_enter Tryd.func12, Tryd.ntmps12
  go_wp2_with (first | (go_at_call 17; refine (byteStep_any _).mono ?_; rintro e w1 ⟨rfl, hg1⟩) | (refine wpList_alloc_arr rfl 38 22 rfl arrT ?_; intro w2 hr2 hg2 hs2; have hlt2 := hr2.lt) | (refine wpList_store_arr rfl 38 22 (.tmp 5) (.tmp 9) rfl arrT _ _ _ hr2 rfl rfl ?_; intro w3 hr3 hg3))
  have hpos : 0 < w1.heap.size := by
    have := block_lt_of_cell ((hT.then hg1) 0 (by decide))
    simp at this
    omega
  have hT3 := ((hT.then hg1).then hg2).chg hg3 (by simp; omega)
  have hc3 : Chg [] w w3 := (hg1.then hg2).trans hg3 (fun _ h _ => h) (by have := hg1.size; simp; omega)
  have hnew : w.heap.size ≤ w1.heap.size := hg1.size
  generalize hb : w1.heap.size = b at *
  simp only [n32m]
  clear hs2 hlt2 hr2 hg2 hg3 hg1
  go_loopw [6, 8, 14] (fun v _ i wr => ∃ (k : Nat), i = .int .i64 k ∧ k ≤ n ∧ v = .int .u32 (v32 (raw (~~~ S) (l.take k))) ∧ Row wr b 38 (fun j => it 8 (tp j)) ∧ Tab wr ∧ Chg [] w wr) (fun _ _ i _ => n - (intOf i).toNat)
  case atStart => exact ⟨0, rfl, by omega, rfl, hr3, hT3, hc3⟩
  case round =>
    obtain ⟨k, rfl, hk, rfl, hr, ht, hc⟩ := hrel
    by_cases hlt : k < n
    · obtain ⟨b1, o1, rfl, hcell⟩ := (g.old hc rfl) (by rw [bts_length]; omega)
      have hck := hcell k _ (bts_get l k (by omega))
      clear hcell
      obtain ⟨x, hx⟩ : ∃ x, x = l[k]'(by omega) := ⟨_, rfl⟩
      rw [← hx, conv32] at hck
      obtain ⟨R, hR⟩ : ∃ R, R = raw (~~~ S) (l.take k) := ⟨_, rfl⟩
      rw [← hR]
      have hstep := raw_succ (~~~ S) l k (by omega)
      rw [← hx, ← hR] at hstep
      have Hstep := mkHid hstep
      clear hstep hx hR
      obtain ⟨X, hX⟩ : ∃ X, X = BitVec.ofNat 32 x.toNat := ⟨_, rfl⟩
      rw [← hX] at hck
      have h1 := x32 R X
      have h2 := and255 (R ^^^ X)
      have h3 := shr32 (R ^^^ X) 8 256 rfl
      have h4 := x32 ((R ^^^ X) >>> 8) (it 8 ((R ^^^ X) &&& 255#32))
      have hv := mod32 X
      have HX := mkHid hX
      clear hX
      go_wp2_with (first | (refine wpList_load_arr rfl 38 22 (.tmp 5) rfl arrT b _ hr rfl ?_) | (go_at_call 18; refine (of_any (it 8) (Lin.it 8) _ (fun _ _ => rfl) ((R ^^^ X) &&& 255#32) _ ht).mono ?_; rintro e w4 ⟨rfl, hc4⟩; have hr4 := hr.chg hc4 (by simp)))
      refine ⟨⟨k + 1, by go_num, by omega, ?_, hr4, ht.then hc4, hc.then hc4⟩, by simp [intOf]; omega⟩
      rw [Hstep.out, ← it_byte, HX.out]
      rfl
    · have : k = n := by omega
      subst this
      rw [List.take_of_length_le (by omega)]
      go_wp2_with fail
      go_ret
      exact ⟨ret_u32 (n32m _), hc⟩

theorem sum_any (ao : Option Addr) (n c : Nat) (l : List UInt8) (w : World) (hT : Tab w) (g : Reads w ao (bts l)) (gn : l.length = n) (hn : n ≤ maxLen) :
    Calls Tryd.prog 10 #[.slice ao n c] w fun e w' => e = .returned (.int .u32 (v32 (csum l))) ∧ Chg [] w w' := by
  go_enter Tryd.func10, Tryd.ntmps10
  go_wp2_with (first | (go_at_call 12; refine (more_any 0#32 0 rfl ao n c l w hT g gn hn).mono ?_; rintro e w1 ⟨rfl, hg1⟩))
  go_ret
  exact ⟨rfl, hg1⟩

theorem joined_any (x y : BitVec 32) (X Y : Int) (hX : X = v32 x) (hY : Y = v32 y) (z : Int) (hz : z < 9223372036854775808) (w : World) (hT : Tab w) :
    Calls Tryd.prog 15 #[.int .u32 X, .int .u32 Y, .int .i64 z] w fun e w' => e = .returned (.int .u32 (v32 (it (8 * z.toNat) x ^^^ y))) ∧ Chg [] w w' := by
  subst hX hY
  have h1 := x32 (it (8 * z.toNat) x) y
  go_enter Tryd.func15, Tryd.ntmps15
  go_wp2_with (first | (go_at_call 20; refine (noughts_any x z w hT hz).mono ?_; rintro e w1 ⟨rfl, hg1⟩))
  go_ret
  exact ⟨rfl, hg1⟩

/-! ### the reference -/
theorem refmore_any (S : BitVec 32) (s : Int) (hs : s = v32 S) (ao : Option Addr) (n c : Nat) (l : List UInt8) (w : World) (g : Reads w ao (bts l)) (gn : l.length = n) (hn : n ≤ maxLen) :
    Calls Tryd.prog 13 #[.int .u32 s, .slice ao n c] w fun e w' => e = .returned (.int .u32 (v32 (more S l))) ∧ w = w' := by
  subst hs
  unfold maxLen at hn
  go_enter Tryd.func13, Tryd.ntmps13
  go_wp2_with fail
  simp only [n32']
  go_loopw [5, 6, 7] (fun v i _ wr => ∃ (k : Nat), i = .int .i64 k ∧ k ≤ n ∧ v = .int .u32 (v32 (raw (~~~ S) (l.take k))) ∧ w = wr) (fun _ i _ _ => n - (intOf i).toNat)
  case atStart => exact ⟨0, rfl, by omega, rfl, rfl⟩
  case round =>
    obtain ⟨k, rfl, hk, rfl, rfl⟩ := hrel
    by_cases hlt : k < n
    · have hstep := raw_succ (~~~ S) l k (by omega)
      obtain ⟨b1, o1, rfl, hcell⟩ := g (by rw [bts_length]; omega)
      have hck := hcell k _ (bts_get l k (by omega))
      clear hcell g
      obtain ⟨x, hx⟩ : ∃ x, x = l[k]'(by omega) := ⟨_, rfl⟩
      rw [← hx, conv32] at hck
      obtain ⟨R, hR⟩ : ∃ R, R = raw (~~~ S) (l.take k) := ⟨_, rfl⟩
      rw [← hR]
      rw [← hx, ← hR] at hstep
      have Hstep := mkHid hstep
      clear hstep hx hR
      obtain ⟨X, hX⟩ : ∃ X, X = BitVec.ofNat 32 x.toNat := ⟨_, rfl⟩
      rw [← hX] at hck
      have h1 := x32 R X
      have hv := mod32 X
      have HX := mkHid hX
      clear hX
      have hd : decide ((k : Int) < (n : Int)) = true := by simp; omega
      go_wp2_with fail
      go_loopw [5, 7] (fun v i wx => ∃ j : Nat, v = .int .u32 (v32 (it j (R ^^^ X))) ∧ i = .int .i64 j ∧ j ≤ 8 ∧ w = wx) (fun _ i _ => 8 - (intOf i).toNat)
      case atStart => exact ⟨0, rfl, rfl, by omega, rfl⟩
      case round =>
        obtain ⟨j, rfl, rfl, hj, rfl⟩ := hrel
        by_cases hl8 : j < 8
        · have hs := it_succ j (R ^^^ X)
          have Hs := mkHid hs
          clear hs
          go_wp2_with (first | (go_at_call 19; refine (refbit_any _ _).mono ?_; rintro e w' ⟨rfl, rfl⟩))
          go_roundw
          case rel => exact ⟨j + 1, by rw [Hs.out], by go_num, by omega, by first | rfl | trivial⟩
          case measure => simp [intOf]; omega
        · have : j = 8 := by omega
          subst this
          go_wp2_with fail
          go_roundw
          case rel => exact ⟨k + 1, by go_num, by omega, by rw [Hstep.out, HX.out]; rfl, by first | rfl | trivial⟩
          case measure => simp [intOf]; omega
    · have : k = n := by omega
      subst this
      rw [List.take_of_length_le (by omega)]
      go_wp2_with fail
      go_ret
      exact ⟨ret_u32 (n32' _), rfl⟩
theorem refsum_any (ao : Option Addr) (n c : Nat) (l : List UInt8) (w : World) (g : Reads w ao (bts l)) (gn : l.length = n) (hn : n ≤ maxLen) :
    Calls Tryd.prog 11 #[.slice ao n c] w fun e w' => e = .returned (.int .u32 (v32 (csum l))) ∧ w = w' := by
  go_enter Tryd.func11, Tryd.ntmps11
  go_wp2_with (first | (go_at_call 13; refine (refmore_any 0#32 0 rfl ao n c l w g gn hn).mono ?_; rintro e w1 ⟨rfl, rfl⟩))
  go_ret
  exact ⟨rfl, rfl⟩

theorem shr_bit (x : BitVec 32) (j : Nat) : (v32 x / 2 ^ j).tmod 2 = if x.getLsbD j then 1 else 0 := by
  have h := shr32 x j (2 ^ j) (by simp)
  rw [h, Int.tmod_eq_emod_of_nonneg (v32_lt _).1, rem2, BitVec.getLsbD_ushiftRight, Nat.add_zero]
theorem times_any (x y : BitVec 32) (w : World) :
    Calls Tryd.prog 22 #[.int .u32 (v32 x), .int .u32 (v32 y)] w fun e w' => e = .returned (.int .u32 (v32 (tm x 32 y))) ∧ w = w' := by
  go_enter Tryd.func22, Tryd.ntmps22
  go_wp2_with fail
  go_loopw [1, 5, 6] (fun b o i wr => ∃ (z : Int) (B O : BitVec 32), i = .int .i64 z ∧ -1 ≤ z ∧ z ≤ 31 ∧ b = .int .u32 (v32 B) ∧ o = .int .u32 (v32 O) ∧ O ^^^ tm x (z + 1).toNat B = tm x 32 y ∧ w = wr) (fun _ _ i _ => (intOf i + 1).toNat)
  case atStart => exact ⟨31, y, 0#32, rfl, by omega, by omega, rfl, rfl, by rw [BitVec.zero_xor]; rfl, rfl⟩
  case round =>
    obtain ⟨z, B, O, rfl, hz1, hz2, rfl, rfl, hO, rfl⟩ := hrel
    by_cases hlt : 0 ≤ z
    · obtain ⟨j, rfl⟩ := Int.eq_ofNat_of_zero_le hlt
      have e1 : ((j : Int) + 1).toNat = j + 1 := by omega
      have e2 : ((j : Int) - 1 + 1).toNat = j := by omega
      rw [e1] at hO
      rw [show tm x (j + 1) B = (if x.getLsbD j then B else 0#32) ^^^ tm x j (bit B) from rfl] at hO
      have hb := shr_bit x j
      have HO := mkHid hO
      clear hO e1
      have h1 := x32 O B
      cases hj : x.getLsbD j
      · rw [hj] at hb
        simp only [Bool.false_eq_true, if_false] at hb
        go_wp2_with (first | (go_at_call 19; refine (refbit_any _ _).mono ?_; rintro e w' ⟨rfl, rfl⟩))
        refine ⟨⟨(j : Int) - 1, bit B, O, rfl, by omega, by omega, rfl, rfl, ?_, by first | rfl | trivial⟩, by simp [intOf]⟩
        rw [e2, ← HO.out, hj]
        simp
      · rw [hj] at hb
        simp only [if_true] at hb
        go_wp2_with (first | (go_at_call 19; refine (refbit_any _ _).mono ?_; rintro e w' ⟨rfl, rfl⟩))
        refine ⟨⟨(j : Int) - 1, bit B, O ^^^ B, rfl, by omega, by omega, rfl, rfl, ?_, by first | rfl | trivial⟩, by simp [intOf]⟩
        rw [e2, ← HO.out, hj, BitVec.xor_assoc]
        simp
    · have : z = -1 := by omega
      subst this
      have hO' : O = tm x 32 y := by rw [← hO]; exact (BitVec.xor_zero).symm
      subst hO'
      go_wp2_with fail
      go_ret
      exact ⟨rfl, rfl⟩

theorem refjoined_any (x y : BitVec 32) (z : Int) (w : World) (hz : z < 9223372036854775808) :
    Calls Tryd.prog 16 #[.int .u32 (v32 x), .int .u32 (v32 y), .int .i64 z] w fun e w' => e = .returned (.int .u32 (v32 (it (8 * z.toNat) x ^^^ y))) ∧ w = w' := by
  go_enter Tryd.func16, Tryd.ntmps16
  go_wp2_with fail
  go_loopw [0, 2, 7] (fun a n p wr => ∃ (c : Nat) (m : Int) (A : BitVec 32), a = .int .u32 (v32 A) ∧ n = .int .i64 m ∧ m ≤ z ∧ p = .int .u32 (v32 (it c one)) ∧ it (c * m.toNat) A = it (8 * z.toNat) x ∧ w = wr) (fun _ n _ _ => (intOf n).toNat)
  case atStart => exact ⟨8, z, x, rfl, rfl, by omega, by rw [show (8388608 : Int) = v32 (it 8 one) by decide +kernel], rfl, rfl⟩
  case round =>
    obtain ⟨c, m, A, rfl, rfl, hm, rfl, hA, rfl⟩ := hrel
    by_cases hlt : 0 < m
    · obtain ⟨M, rfl⟩ := Int.eq_ofNat_of_zero_le (show 0 ≤ m by omega)
      have hM : 0 < M := by omega
      have HA := mkHid hA
      clear hA
      have hp : tm (it c one) 32 (it c one) = it (c + c) one := by rw [tm_pow, it_add]
      have hq := tm_pow c A
      have hmod : (M : Int) % 2 = 0 ∨ (M : Int) % 2 = 1 := by omega
      rw [← Int.tmod_eq_emod_of_nonneg (by omega)] at hmod
      rcases hmod with h2 | h2
      · go_wp2_with (first | (go_at_call 22; refine (times_any _ _ _).mono ?_; rintro e w' ⟨rfl, rfl⟩))
        refine ⟨⟨c + c, ((M / 2 : Nat) : Int), A, rfl, by simp, by omega, rfl, ?_, by first | rfl | trivial⟩, by simp [intOf]; omega⟩
        rw [← HA.out, Int.toNat_natCast, Int.toNat_natCast, ← Nat.two_mul, Nat.mul_comm 2, Nat.mul_assoc]
        rw [Int.tmod_eq_emod_of_nonneg (by omega)] at h2
        congr 2
        omega
      · go_wp2_with (first | (go_at_call 22; refine (times_any _ _ _).mono ?_; rintro e w' ⟨rfl, rfl⟩))
        refine ⟨⟨c + c, ((M / 2 : Nat) : Int), it c A, rfl, by simp, by omega, rfl, ?_, by first | rfl | trivial⟩, by simp [intOf]; omega⟩
        rw [← HA.out, ← it_add, Int.toNat_natCast, Int.toNat_natCast, ← Nat.two_mul, Nat.mul_comm 2, Nat.mul_assoc, ← Nat.mul_succ]
        rw [Int.tmod_eq_emod_of_nonneg (by omega)] at h2
        congr 2
        omega
    · go_wp2_with fail
      go_ret
      have : m.toNat = 0 := by omega
      rw [this, Nat.mul_zero] at hA
      refine ⟨ret_u32 ?_, rfl⟩
      rw [x32, ← hA]
      rfl
end Go.Proofs.YtaknbgiahlgpiaaDoor
