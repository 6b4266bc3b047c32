/- The reference: number, eight, May, Same, Own. -/
import Derived.Test.YtbopfpdgoalfoaaNa
namespace Go.Proofs.Ytbopfpdgoalfoaa
open Go.RowKit
set_option linter.unusedVariables false
set_option linter.unusedSimpArgs false
attribute [local go_sem ↓] Go.wp_at_zero Go.wp_at_succ

theorem number_any (ao : Option Addr) (n c : Nat) (l : List UInt8) (w : World) (hx : Reads w ao (bts l)) (hn : l.length = n) (h8 : 8 ≤ n) : Calls Try.prog 28 #[.slice ao n c] w fun e w' => e = .returned (.int .u64 (val (l.take 8))) ∧ w = w' := by
  go_enter Try.func28, Try.ntmps28
  go_wp2_with fail
  go_loop [3, 4] (fun v i => ∃ k : Nat, k ≤ 8 ∧ i = .int .i64 k ∧ v = .int .u64 (val (l.take k))) (fun _ i => 8 - (intOf i).toNat)
  case atStart => exact ⟨0, Nat.zero_le _, rfl, rfl⟩
  case round =>
    obtain ⟨k, hk, rfl, rfl⟩ := hrel
    by_cases hlt : k < 8
    · have hd : decide ((k : Int) < 8) = true := decide_eq_true (by omega)
      have hd2 : decide (k < 8) = true := decide_eq_true hlt
      obtain ⟨b, o, rfl, hc⟩ := hx (by simp [bts_length]; omega)
      have hcell := hc k _ (bts_get l k (by omega))
      have hb : (k : Int) < (n : Int) := by omega
      clear hc
      go_wp2
      go_round
      case rel =>
        refine ⟨k + 1, by omega, by go_num, ?_⟩
        rw [val_take_succ l k (by omega), add_byte _ _ (val_take_lt l k (by omega))]
      case measure => simp [intOf]; omega
    · have : k = 8 := by omega
      subst this
      go_wp2
      go_ret
      exact ⟨rfl, rfl⟩
theorem List.drop_set_of_lt' (h : Nat) (xs : List UInt8) (x : UInt8) (hl : h < xs.length) : (xs.set h x).drop h = x :: xs.drop (h + 1) := by
  rw [List.drop_eq_getElem_cons (by rw [List.length_set]; exact hl)]
  congr 1
  · simp
  · rw [List.drop_set_of_lt (by omega)]
def prev (k : Nat) : Int := (k : Int) - 1
theorem prev_zero : prev 0 = -1 := rfl
theorem prev_succ (j : Nat) : prev (j + 1) = j := by simp [prev]
set_option maxRecDepth 20000 in
theorem eight_any (N : Nat) (w : World) (hN : N < 2 ^ 64) : Calls Try.prog 21 #[.int .u64 (N : Int)] w fun e w' => ∃ b, e = .returned (.slice (some ⟨b, 0, none⟩) 8 8) ∧ w.heap.size ≤ b ∧ Room w' w.heap.size (some ⟨b, 0, none⟩) 8 8 (bts (be N 8)) ∧ Chg [] w w' := by
  have hm : ∃ O : Obj, (∀ u : World, (Instr.makeSlice 26 (.int .i64 8) (.int .i64 8)).run Try.prog u = .ok (.slice (some ⟨u.heap.size, 0, none⟩) 8 8) (u.alloc O)) ∧ ∀ u : World, Room (u.alloc O) u.heap.size (some ⟨u.heap.size, 0, none⟩) 8 8 (bts (List.replicate 8 0)) :=
    ⟨_, fun u => run_make_k eltB (.int .u8 0) (by kernel_rfl) rfl 8 (by omega) (by decide) u, fun u => by
      have h := made_room u 5 (.int .u8 0) 8 (by decide)
      have e : bts (List.replicate 8 0) = List.replicate 8 (.int .u8 0) := by simp [bts]
      rw [e]; exact h⟩
  obtain ⟨O, hm1, hm2⟩ := hm
  have hr := hm2 w
  have hg := Chg.alloc [] w O
  clear hm2
  go_enter Try.func21, Try.ntmps21
  go_wp2_with fail
  generalize w.alloc O = w1 at *
  generalize hb : w.heap.size = b at *
  have HB := mkHid hb
  clear hb
  go_loopw [0, 4] (fun nv iv wr => ∃ (j : Nat) (xs : List UInt8), j ≤ 8 ∧ iv = .int .i64 (prev j) ∧ nv = .int .u64 ((N / 256 ^ (8 - j) : Nat) : Int) ∧ Room wr b (some ⟨b, 0, none⟩) 8 8 (bts xs) ∧ xs.drop j = be N (8 - j) ∧ Chg [b] w1 wr) (fun _ iv _ => (intOf iv + 1).toNat)
  case atStart => exact ⟨8, _, Nat.le_refl _, rfl, by simp, hr, by simp [be], Chg.refl _ _⟩
  case round =>
    clear hr
    obtain ⟨j, xs, hj, rfl, rfl, hR, hd, hgr⟩ := hrel
    cases j with
    | zero =>
      rw [prev_zero]
      have e : xs = be N 8 := by simpa using hd
      subst e
      clear hd
      go_wp2_with fail
      go_ret
      exact ⟨b, rfl, by rw [HB.out]; exact Nat.le_refl _, by rw [HB.out]; exact hR, hg.trans hgr (by simp) (fun k hk hlt => by simp at hk; have := HB.out; omega)⟩
    | succ h =>
      rw [prev_succ]
      obtain ⟨M, hM⟩ : ∃ M : Nat, N / 256 ^ (8 - (h + 1)) = M := ⟨_, rfl⟩
      rw [hM]
      have hMN : M ≤ N := by rw [← hM]; exact Nat.div_le_self _ _
      obtain ⟨q, hq⟩ : ∃ q : Nat, M / 256 = q := ⟨_, rfl⟩
      obtain ⟨r, hr2⟩ : ∃ r : Nat, M % 256 = r := ⟨_, rfl⟩
      have hnq : (M : Int) / 256 = (q : Int) := by omega
      have hnr : (M : Int) % 256 = (r : Int) := by omega
      have hr256 : r < 256 := by omega
      have hx8 : xs.length = 8 := by have := hR.len; rwa [bts_length] at this
      have hset := hR.set h (by omega) (.int .u8 (v8 (UInt8.ofNat M)))
      rw [bts_set, Nat.zero_add] at hset
      have hv : v8 (UInt8.ofNat M) = (r : Int) := by unfold v8; rw [ofNat_toNat, hr2]
      rw [hv] at hset
      obtain ⟨u, mu, hu⟩ : ∃ u mu, xs[h]? = some u ∧ u.toNat = mu := ⟨_, _, List.getElem?_eq_getElem (by omega), rfl⟩
      have hc : wr.cell? ⟨b, h, none⟩ = some (.int .u8 (v8 u)) := by
        have hh := (List.getElem?_eq_some_iff.1 hu.1)
        have := hR.reads.cell h (.int .u8 (v8 u)) (by rw [bts_get8 xs h hh.1, hh.2])
        simpa using this
      have hfz := hR.cell h (by omega)
      rw [Nat.zero_add] at hfz
      have gs := Chg.setCell wr ⟨b, h, none⟩ (.int .u8 (r : Int))
      have hnext : (xs.set h (UInt8.ofNat M)).drop h = be N (8 - h) := by
        rw [List.drop_set_of_lt' h _ _ (by omega), show 8 - h = (8 - (h + 1)) + 1 by omega, be, hM, ← hd]
      have hpw : N / 256 ^ (8 - h) = q := by
        rw [← hq, ← hM, Nat.div_div_eq_div_mul, show 8 - h = (8 - (h + 1)) + 1 by omega, Nat.pow_succ]
      have HH := mkHid (And.intro hset (And.intro gs (And.intro hnext hpw)))
      clear hset gs hnext hpw hd hR hM hq hr2 hv hu hx8
      go_wp2_with fail
      obtain ⟨s1, s2, s3, s4⟩ := HH.out
      exact ⟨⟨h, _, by omega, rfl, by rw [s4], s1, s3, hgr.trans s2 (fun _ h _ => h) (fun _ h _ => h)⟩, by simp [intOf, prev]⟩
end Go.Proofs.Ytbopfpdgoalfoaa
