/- The contracts of the reference's sums. -/
import Derived.Test.YtkhaapoekaijlaaDoorCs
namespace Go.Proofs.YtkhaapoekaijlaaDoor
open Go.RowKit
set_option linter.unusedVariables false
set_option linter.unusedSimpArgs false

theorem refbit_any (x : BitVec 32) (w : World) : Calls Tryd.prog 25 #[.int .u32 (v32 x)] w fun e w' => e = .returned (.int .u32 (v32 (bit x))) ∧ w = w' := by
  have h1 := rem2 x
  rw [← Int.tmod_eq_emod_of_nonneg (v32_lt x).1] at h1
  have h2 := tdiv2 x
  have H2 := mkHid h2
  clear h2
  cases hb : x.getLsbD 0
  · rw [hb] at h1
    simp only [Bool.false_eq_true, if_false] at h1
    go_enter Tryd.func25, Tryd.ntmps25
    go_wp2
    go_ret
    exact ⟨ret_u32 (by rw [H2.out]; exact bit_even x hb), rfl⟩
  · rw [hb] at h1
    simp only [if_true] at h1
    go_enter Tryd.func25, Tryd.ntmps25
    go_wp2
    go_ret
    exact ⟨ret_u32 (by rw [H2.out]; exact bit_odd x hb), rfl⟩
theorem refmore_any (S : BitVec 32) (s : Int) (hs : s = v32 S) (ao : Option Addr) (n c : Nat) (l : List UInt8) (w : World) (g : Reads w ao (bts l)) (gn : l.length = n) (hn : n ≤ maxLen) :
    Calls Tryd.prog 21 #[.int .u32 s, .slice ao n c] w fun e w' => e = .returned (.int .u32 (v32 (more S l))) ∧ w = w' := by
  subst hs
  unfold maxLen at hn
  go_enter Tryd.func21, Tryd.ntmps21
  go_wp2_with fail
  simp only [n32']
  go_loopw [5, 6, 7] (fun v i _ wr => ∃ (k : Nat), i = .int .i64 k ∧ k ≤ n ∧ v = .int .u32 (v32 (raw (~~~ S) (l.take k))) ∧ w = wr) (fun _ i _ _ => n - (intOf i).toNat)
  case atStart => exact ⟨0, rfl, by omega, rfl, rfl⟩
  case round =>
    obtain ⟨k, rfl, hk, rfl, rfl⟩ := hrel
    by_cases hlt : k < n
    · have hstep := raw_succ (~~~ S) l k (by omega)
      obtain ⟨b1, o1, rfl, hcell⟩ := g (by rw [bts_length]; omega)
      have hck := hcell k _ (bts_get l k (by omega))
      clear hcell g
      obtain ⟨x, hx⟩ : ∃ x, x = l[k]'(by omega) := ⟨_, rfl⟩
      rw [← hx, conv32] at hck
      obtain ⟨R, hR⟩ : ∃ R, R = raw (~~~ S) (l.take k) := ⟨_, rfl⟩
      rw [← hR]
      rw [← hx, ← hR] at hstep
      have Hstep := mkHid hstep
      clear hstep hx hR
      obtain ⟨X, hX⟩ : ∃ X, X = BitVec.ofNat 32 x.toNat := ⟨_, rfl⟩
      rw [← hX] at hck
      have h1 := x32 R X
      have hv := mod32 X
      have HX := mkHid hX
      clear hX
      have hd : decide ((k : Int) < (n : Int)) = true := by simp; omega
      go_wp2_with fail
      go_loopw [5, 7] (fun v i wx => ∃ j : Nat, v = .int .u32 (v32 (it j (R ^^^ X))) ∧ i = .int .i64 j ∧ j ≤ 8 ∧ w = wx) (fun _ i _ => 8 - (intOf i).toNat)
      case atStart => exact ⟨0, rfl, rfl, by omega, rfl⟩
      case round =>
        obtain ⟨j, rfl, rfl, hj, rfl⟩ := hrel
        by_cases hl8 : j < 8
        · have hs := it_succ j (R ^^^ X)
          have Hs := mkHid hs
          clear hs
          go_wp2_with (first | (go_at_call 25; refine (refbit_any _ _).mono ?_; rintro e w' ⟨rfl, rfl⟩))
          go_roundw
          case rel => exact ⟨j + 1, by rw [Hs.out], by go_num, by omega, by first | rfl | trivial⟩
          case measure => simp [intOf]; omega
        · have : j = 8 := by omega
          subst this
          go_wp2_with fail
          go_roundw
          case rel => exact ⟨k + 1, by go_num, by omega, by rw [Hstep.out, HX.out]; rfl, by first | rfl | trivial⟩
          case measure => simp [intOf]; omega
    · have : k = n := by omega
      subst this
      rw [List.take_of_length_le (by omega)]
      go_wp2_with fail
      go_ret
      exact ⟨ret_u32 (n32' _), rfl⟩
theorem refsum_any (ao : Option Addr) (n c : Nat) (l : List UInt8) (w : World) (g : Reads w ao (bts l)) (gn : l.length = n) (hn : n ≤ maxLen) :
    Calls Tryd.prog 17 #[.slice ao n c] w fun e w' => e = .returned (.int .u32 (v32 (csum l))) ∧ w = w' := by
  go_enter Tryd.func17, Tryd.ntmps17
  go_wp2_with (first | (go_at_call 21; refine (refmore_any 0#32 0 rfl ao n c l w g gn hn).mono ?_; rintro e w1 ⟨rfl, rfl⟩))
  go_ret
  exact ⟨rfl, rfl⟩
end Go.Proofs.YtkhaapoekaijlaaDoor
