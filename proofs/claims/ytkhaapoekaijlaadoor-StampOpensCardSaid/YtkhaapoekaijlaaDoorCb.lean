/- The contracts of package crc: steps. -/
import Derived.Test.YtkhaapoekaijlaaDoorCa
namespace Go.Proofs.YtkhaapoekaijlaaDoor
open Go.RowKit
set_option linter.unusedVariables false
set_option linter.unusedSimpArgs false

theorem arrT : ArrT Tryd.prog 46 36 := ⟨Tryd.underlying46, by kernel_rfl⟩

/-- What a step does to a number. -/
theorem of_any (f : BitVec 32 → BitVec 32) (hf : Lin f) (g : Nat → BitVec 32) (hg : ∀ j, j < 32 → g j = f (tp j)) (x : BitVec 32) (w : World) (hT : Tab w) :
    Calls Tryd.prog 27 #[.agg (arr g), .int .u32 (v32 x)] w fun e w' => e = .returned (.int .u32 (v32 (f x))) ∧ Chg [] w w' := by
  have Hg := mkHid hg
  clear hg
  go_enter Tryd.func27, Tryd.ntmps27
  go_wp2_with (refine wpList_box_arr rfl 46 (.tmp 0) rfl g rfl ?_; intro w1 hr1 hg1 hs1)
  have hT1 := hT.then hg1
  have hlt := hr1.lt
  generalize hb : w.heap.size = b at *
  go_loopw [1, 5] (fun n o wr => ∃ (N O : BitVec 32), n = .int .u32 (v32 N) ∧ o = .int .u32 (v32 O) ∧ wr = w1 ∧ O ^^^ f N = f x) (fun n _ _ => (intOf n).toNat)
  case atStart => exact ⟨x, 0#32, rfl, rfl, rfl, by rw [BitVec.zero_xor]⟩
  case round =>
    obtain ⟨N, O, rfl, rfl, rfl, hN⟩ := hrel
    by_cases h0 : N = 0#32
    · subst h0
      rw [hf.zero, BitVec.xor_zero] at hN
      subst hN
      go_wp2_with fail
      go_ret
      exact ⟨rfl, hg1⟩
    · obtain ⟨i, hi, hi32, hand, hlow⟩ := low_bit N h0
      have hne : (v32 N != 0) = true := by
        simp
        intro e
        exact h0 (v32_inj.1 (by rw [e]; rfl))
      have hc := hr1.cell i hi32
      have Hi := mkHid hi
      have h1 := x32 O (g i)
      have h2 := sub32 N
      have h3 := a32 N (N - 1#32)
      have Hand := mkHid hand
      clear hi hand
      go_wp2_with (first | (go_at_call 29; refine (tz_any N _ hT1 h0 i Hi.out).mono ?_; rintro e w' ⟨rfl, rfl⟩))
      go_roundw
      case rel =>
        refine ⟨N ^^^ tp i, O ^^^ g i, by rw [← Hand.out], rfl, by first | rfl | trivial, ?_⟩
        rw [hf.xor, Hg.out i hi32, ← hN]
        rw [BitVec.xor_assoc, ← BitVec.xor_assoc (f (tp i)), BitVec.xor_comm (f (tp i)) (f N), BitVec.xor_assoc, BitVec.xor_self, BitVec.xor_zero]
      case measure =>
        rw [Hand.out]
        simpa [intOf, v32] using hlow

theorem it_succ (n : Nat) (x : BitVec 32) : it (n + 1) x = bit (it n x) := by rw [Nat.add_comm]; exact it_add 1 n x
theorem tp_val (k : Nat) (h : k < 32) : (2 : Int) ^ k % 4294967296 = v32 (tp k) := by
  unfold v32 tp
  rw [BitVec.toNat_twoPow]
  exact Int.natCast_emod (2 ^ k) 4294967296 |>.symm ▸ by simp
/-- What one nought does. -/
theorem byteStep_any (w : World) : Calls Tryd.prog 26 #[] w fun e w' => e = .returned (.agg (arr fun j => it 8 (tp j))) ∧ Chg [] w w' := by
  go_enter Tryd.func26, Tryd.ntmps26
  go_wp2_with (first | (refine wpList_alloc_arr (o := ⟨some 0, _, _, _, _, _⟩) rfl 46 36 rfl arrT ?_; intro w1 hr1 hg1 hs1) | (refine wpList_alloc_arr (o := ⟨some 1, _, _, _, _, _⟩) rfl 46 36 rfl arrT ?_; intro w2 hr2 hg2 hs2))
  generalize hb : w.heap.size = b at *
  have hb2 : b ≠ b + 1 := by omega
  rw [hs1] at hr2
  generalize hc : b + 1 = c at *
  have hr1' := hr1.chg hg2 (by simp)
  go_loopw [2, 3, 4] (fun _ _ i wr => ∃ (k : Nat) (g : Nat → BitVec 32), i = .int .i64 k ∧ k ≤ 32 ∧ Row wr b 46 (fun _ => 0#32) ∧ Row wr c 46 g ∧ Chg [c] w2 wr ∧ ∀ j, j < k → g j = it 8 (tp j)) (fun _ _ i _ => 32 - (intOf i).toNat)
  case atStart => exact ⟨0, _, rfl, by omega, hr1', hr2, Chg.refl _ _, fun j hj => absurd hj (by omega)⟩
  case round =>
    obtain ⟨k, g, rfl, hk, ha, hcr, hg3, Hj⟩ := hrel
    by_cases hlt : k < 32
    · have hp := tp_val k hlt
      have hfz := hcr.frozen k
      have hcl := hcr.cell k hlt
      go_wp2_with fail
      have hd : decide ((k : Int) < 32) = true := by simp; omega
      simp only [hp, hd]
      go_loopw [3, 9] (fun n i wx => ∃ j : Nat, n = .int .u32 (v32 (it j (tp k))) ∧ i = .int .i64 j ∧ j ≤ 8 ∧ wr = wx) (fun _ i _ => 8 - (intOf i).toNat)
      case atStart => exact ⟨0, rfl, rfl, by omega, rfl⟩
      case round =>
        obtain ⟨j, rfl, rfl, hj, rfl⟩ := hrel
        by_cases hl8 : j < 8
        · have hs := it_succ j (tp k)
          have Hs := mkHid hs
          clear hs
          go_wp2_with (first | (go_at_call 28; refine (shifted_any _ _).mono ?_; rintro e w' ⟨rfl, rfl⟩))
          go_roundw
          case rel => exact ⟨j + 1, by rw [Hs.out], by go_num, by omega, by first | rfl | trivial⟩
          case measure => simp [intOf]; omega
        · have : j = 8 := by omega
          subst this
          go_wp2_with fail
          go_roundw
          case rel =>
            refine ⟨k + 1, upd g k (it 8 (tp k)), by go_num, by omega, ha.chg (Chg.setCell _ _ _) (by simpa using hb2), hcr.set k _ hlt, hg3.trans (Chg.setCell _ _ _) (fun _ h _ => h) (fun _ h _ => h), fun j hj => ?_⟩
            unfold upd
            by_cases he : j = k
            · rw [if_pos he, he]
            · rw [if_neg he, Hj j (by omega)]
          case measure => simp [intOf]; omega
    · have : k = 32 := by omega
      subst this
      go_wp2_with (first | (refine wpList_load_arr rfl 46 36 (.tmp 1) rfl arrT c g hcr rfl ?_) | (refine wpList_store_arr rfl 46 36 (.tmp 0) (.tmp 18) rfl arrT b _ g ha rfl rfl ?_; intro w5 hr5 hg5))
      refine bodyPost_ret (v := .agg (arr g)) (results_cell_row rfl _ _ b 46 _ _ _ rfl hr5 Tryd.underlying46 rfl (arrT.size g)) rfl ?_
      refine ⟨by rw [arr_congr (g := g) (h := fun j => it 8 (tp j)) Hj], ?_⟩
      exact ((hg1.then hg2).trans hg3 (fun _ h _ => h) (by simp; omega)).trans hg5 (fun _ h _ => h) (by simp; omega)
end Go.Proofs.YtkhaapoekaijlaaDoor
