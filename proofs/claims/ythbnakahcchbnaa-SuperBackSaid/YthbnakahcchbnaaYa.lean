/- Package order: Put and Get. -/
import Derived.Test.YthbnakahcchbnaaRows
import Derived.Test.YthbnakahcchbnaaYb
import Derived.WalkKit
import Derived.WalkSpells
import Derived.BigQuiet
import Derived.Deep.QuietTactic
namespace Go.Proofs.Ythbnakahcchbnaa
open Go.RowKit
set_option linter.unusedVariables false

def okB (n : Int) : Bool := decide (1 ≤ n) && decide (n ≤ 8)
theorem sized_any (n : Int) (w : World) :
    Calls Try.prog 29 #[.int .i64 n] w fun e w' => e = .returned (.bool (okB n)) ∧ w = w' := by
  by_cases h1 : 1 ≤ n
  · by_cases h2 : n ≤ 8
    · have : okB n = true := by simp [okB, h1, h2]
      rw [this]; clear this
      go_enter Try.func29, Try.ntmps29
      go_wp2
      go_ret
      exact ⟨rfl, rfl⟩
    · have : okB n = false := by simp [okB, h2]
      rw [this]; clear this
      have h3 : decide (n ≤ 8) = false := by simpa using h2
      go_enter Try.func29, Try.ntmps29
      go_wp2
      go_ret
      exact ⟨rfl, rfl⟩
  · have : okB n = false := by simp [okB, h1]
    rw [this]; clear this
    have h3 : decide (1 ≤ n) = false := by simpa using h1
    go_enter Try.func29, Try.ntmps29
    go_wp2
    go_ret
    exact ⟨rfl, rfl⟩


/-! ### Put -/
def PutPost (w : World) (ys : List Value) (e : Ending) (w' : World) : Prop :=
  ∃ ao c, e = .returned (.slice ao ys.length c) ∧ Room w' w.heap.size ao ys.length c ys ∧ Chg [] w w'

set_option maxHeartbeats 400000 in
theorem put_any (ao : Option Addr) (n c : Nat) (xs : List Value) (N : Nat) (size : Nat) (w : World) (hx : Reads w ao xs) (hn : xs.length = n) (hone : ∀ u ∈ xs, u.oneCell' = true) (hle : n ≤ 140737488355000) (h1 : 1 ≤ size) (h8 : size ≤ 8) (hN : N < 2 ^ 64) :
    Calls Try.prog 27 #[.slice ao n c, .int .u64 N, .int .i64 size] w (PutPost w (xs ++ bts (be N size))) := by
  have hok : okB size = true := by simp [okB]; omega
  go_enter Try.func27, Try.ntmps27
  go_wp2_with (first | (go_at_call 29; refine (sized_any _ _).mono ?_; rintro e w' ⟨rfl, rfl⟩) | (at_make; refine wpList_make_k _ rfl _ _ 25 rfl 5 1 eltB w.heap.size .i64 .i64 _ (n + size) rfl rfl (by simp) (by omega) (by unfold maxLen; omega) (Nat.le_refl _) ?_; intro w1 hr1 hc1) | (at_builtin; refine wpList_append_k _ rfl (.tmp 17) (.tmp 18) 25 rfl 5 1 eltB w.heap.size _ 0 (n + size) [] rfl hr1 hc1.size ao n c xs rfl (hx.chg hc1 (by simp)) hn hone (by unfold maxLen; omega) (by omega) ?_; intro ao2 c2 w2 hr2 hc2 hf2))
  go_loopw [7, 8] (fun v i wr => ∃ k ao3 c3, k ≤ size ∧ i = .int .i64 (prev k) ∧ v = .slice ao3 (n + (size - k)) c3 ∧ Room wr w.heap.size ao3 (n + (size - k)) c3 (xs ++ bts (be (N / 256 ^ k) (size - k))) ∧ Chg [] w wr) (fun _ i _ => (intOf i + 1).toNat)
  case atStart => exact ⟨size, ao2, c2, Nat.le_refl _, rfl, by simp, by simpa [be, bts] using hr2, hc1.own hc2 hr1⟩
  case round =>
    obtain ⟨k, ao3, c3, hk, rfl, rfl, hr3, hc3⟩ := hrel
    cases k with
    | zero =>
      simp only [prev_zero]
      go_wp2
      go_ret
      simp only [Nat.sub_zero, Nat.pow_zero, Nat.div_one] at hr3 ⊢
      have hl : (xs ++ bts (be N size)).length = n + size := by simp [bts_length, be_length, hn]
      exact ⟨ao3, c3, by rw [hl]; rfl, by rw [hl]; exact hr3, hc3⟩
    | succ j =>
      simp only [prev_succ]
      go_wp2_with (first | (at_builtin; refine wpList_append_1 wr rfl (.tmp 26) (.tmp 32) 25 rfl 5 1 eltB w.heap.size ao3 (n + (size - (j + 1))) c3 _ rfl hr3 hc3.size (.int .u8 ((N : Int) / 2 ^ (8 * j) % 256)) 1 rfl rfl (by unfold maxLen; omega) (by omega) ?_; intro ao4 c4 w4 hr4 hc4 hf4))
      go_roundw
      case rel =>
        refine ⟨j, ao4, c4, by omega, rfl, by rw [show size - j = size - (j + 1) + 1 by omega]; rfl, ?_, hc3.own hc4 hr3⟩
        have e : be (N / 256 ^ j) (size - j) = be (N / 256 ^ (j + 1)) (size - (j + 1)) ++ [UInt8.ofNat (N / 256 ^ j)] := by
          rw [show size - j = size - (j + 1) + 1 by omega, be_snoc, Nat.div_div_eq_div_mul, Nat.pow_succ]
        rw [show size - j = size - (j + 1) + 1 by omega] at e ⊢
        rw [e]
        have e2 := shr_byte N j
        rw [e2] at hr4
        simpa [bts, List.append_assoc, Nat.add_assoc] using hr4
      case measure => simp [intOf]

set_option maxHeartbeats 400000 in
theorem put_no (ao : Option Addr) (n c : Nat) (xs : List Value) (N : Nat) (size : Int) (w : World) (hx : Reads w ao xs) (hn : xs.length = n) (hone : ∀ u ∈ xs, u.oneCell' = true) (hle : n ≤ 140737488355000) (hs : okB size = false) :
    Calls Try.prog 27 #[.slice ao n c, .int .u64 N, .int .i64 size] w (PutPost w xs) := by
  go_enter Try.func27, Try.ntmps27
  go_wp2_with (first | (go_at_call 29; refine (sized_any _ _).mono ?_; rintro e w' ⟨rfl, rfl⟩) | (at_make; refine wpList_make_k _ rfl _ _ 25 rfl 5 1 eltB w.heap.size .i64 .i64 _ n rfl rfl (by simp) (by omega) (by unfold maxLen; omega) (Nat.le_refl _) ?_; intro w1 hr1 hc1) | (at_builtin; refine wpList_append_k _ rfl (.tmp 17) (.tmp 18) 25 rfl 5 1 eltB w.heap.size _ 0 n [] rfl hr1 hc1.size ao n c xs rfl (hx.chg hc1 (by simp)) hn hone (by unfold maxLen; omega) (by omega) ?_; intro ao2 c2 w2 hr2 hc2 hf2))
  go_loopw [7, 8] (fun v i wr => i = .int .i64 (-1) ∧ v = .slice ao2 n c2 ∧ wr = w2) (fun _ i _ => (intOf i + 1).toNat)
  case atStart => exact ⟨rfl, by simp, rfl⟩
  case round =>
    obtain ⟨rfl, rfl, rfl⟩ := hrel
    go_wp2
    go_ret
    simp only [Nat.zero_add, List.nil_append] at hr2
    exact ⟨ao2, c2, by rw [hn]; rfl, by rw [hn]; exact hr2, hc1.own hc2 hr1⟩

/-! ### Get -/
def GetPost (w : World) (l : List UInt8) (size : Nat) (e : Ending) (w' : World) : Prop :=
  e = .returned (.tuple #[.int .u64 (val (l.take size)), .int .i64 0]) ∧ w = w'
set_option maxHeartbeats 400000 in
theorem get_yes (ao : Option Addr) (n c : Nat) (l : List UInt8) (size : Nat) (w : World) (hx : Reads w ao (bts l)) (hn : l.length = n) (hc : n ≤ c) (hle : c ≤ maxLen) (h1 : 1 ≤ size) (h8 : size ≤ 8) (hl : size ≤ n) :
    Calls Try.prog 28 #[.slice ao n c, .int .i64 size] w (GetPost w l size) := by
  have hok : okB size = true := by simp [okB]; omega
  unfold maxLen at hle
  go_enter Try.func28, Try.ntmps28
  go_wp2_with (first | (go_at_call 29; refine (sized_any _ _).mono ?_; rintro e w' ⟨rfl, rfl⟩))
  go_loop [6, 20] (fun v i => ∃ k : Nat, k ≤ size ∧ i = .int .i64 k ∧ v = .int .u64 (val (l.take k))) (fun _ i => size - (intOf i).toNat)
  case atStart => exact ⟨0, Nat.zero_le _, rfl, rfl⟩
  case round =>
    obtain ⟨k, hk, rfl, rfl⟩ := hrel
    by_cases hlt : k < size
    · obtain ⟨b, o, rfl, hc⟩ := hx (by simp [bts_length]; omega)
      have hcell := hc k _ (bts_get l k (by omega))
      clear hc
      go_wp2
      go_round
      case rel =>
        refine ⟨k + 1, by omega, by go_num, ?_⟩
        rw [val_take_succ l k (by omega), or_byte _ _ (val_take_lt l k (by omega))]
      case measure => simp [intOf]; omega
    · have : k = size := by omega
      subst this
      go_wp2
      go_ret2
      exact ⟨rfl, rfl⟩

theorem get_arg (ao : Option Addr) (n c : Nat) (size : Int) (w : World) (hs : okB size = false) :
    Calls Try.prog 28 #[.slice ao n c, .int .i64 size] w fun e w' => e = .returned (.tuple #[.int .u64 0, .int .i64 1]) ∧ w = w' := by
  go_enter Try.func28, Try.ntmps28
  go_wp2_with (first | (go_at_call 29; refine (sized_any _ _).mono ?_; rintro e w' ⟨rfl, rfl⟩))
  go_ret2
  exact ⟨rfl, rfl⟩
theorem get_short (ao : Option Addr) (n c : Nat) (size : Nat) (w : World) (h1 : 1 ≤ size) (h8 : size ≤ 8) (hl : n < size) :
    Calls Try.prog 28 #[.slice ao n c, .int .i64 size] w fun e w' => e = .returned (.tuple #[.int .u64 0, .int .i64 4]) ∧ w = w' := by
  have hok : okB size = true := by simp [okB]; omega
  go_enter Try.func28, Try.ntmps28
  go_wp2_with (first | (go_at_call 29; refine (sized_any _ _).mono ?_; rintro e w' ⟨rfl, rfl⟩))
  go_ret2
  exact ⟨rfl, rfl⟩

end Go.Proofs.Ythbnakahcchbnaa
