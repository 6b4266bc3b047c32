/- The contracts of package crc: squares, noughts, sums. -/
import Derived.Test.YtaknbgiahlgpiaaDoorB
namespace Go.Proofs.YtaknbgiahlgpiaaDoor
open Go.RowKit
set_option linter.unusedVariables false
set_option linter.unusedSimpArgs false

theorem run_index_arr (g : Nat → BitVec 32) (k : Nat) (hk : k < 32) (w : World) : (Instr.index 38 (.agg (arr g)) (.int .i64 k)).run Tryd.prog w = .ok (.int .u32 (v32 (g k))) w := by
  have hn : 0 ≤ (k : Int) ∧ (k : Int) < ((32 : Nat) : Int) := by omega
  have hz := Tryd.sizeOf22
  have hg := arr_get g k hk
  have hs := arr_size g
  simp [Instr.index, run_underlying Tryd.underlying38, asIntOf, hn, go_sem, hz, hg, hs]
  intro h
  omega
/-- The step that does what s does twice. -/
theorem squared_any (f : BitVec 32 → BitVec 32) (hf : Lin f) (g : Nat → BitVec 32) (hg : ∀ j, j < 32 → g j = f (tp j)) (w : World) (hT : Tab w) :
    Calls Tryd.prog 21 #[.agg (arr g)] w fun e w' => ∃ g', e = .returned (.agg (arr g')) ∧ (∀ j, j < 32 → g' j = f (f (tp j))) ∧ Chg [] w w' := by
  have Hg := mkHid hg
  clear hg
  go_enter Tryd.func21, Tryd.ntmps21
  go_wp2_with (first | (refine wpList_box_arr rfl 38 (.tmp 0) rfl g rfl ?_; intro w0 hr0 hg0 hs0) | (refine wpList_alloc_arr (o := ⟨some 2, _, _, _, _, _⟩) rfl 38 22 rfl arrT ?_; intro w1 hr1 hg1 hs1) | (refine wpList_alloc_arr (o := ⟨some 3, _, _, _, _, _⟩) rfl 38 22 rfl arrT ?_; intro w2 hr2 hg2 hs2) | (refine wpList_load_arr rfl 38 22 (.tmp 1) rfl arrT w.heap.size g ((hr0.chg hg1 (by simp)).chg hg2 (by simp)) rfl ?_))
  rw [hs1] at hr2
  rw [hs0] at hr1 hr2
  generalize hb : w.heap.size = b at *
  have hr0' := (hr0.chg hg1 (by simp)).chg hg2 (by simp)
  have hr1' := hr1.chg hg2 (by simp)
  have hT2 := ((hT.then hg0).then hg1).then hg2
  have hg02 := (hg0.then hg1).then hg2
  have hpos : 0 < b := by
    have := block_lt_of_cell (hT 0 (by decide))
    simp at this
    omega
  go_loopw [4, 5, 7] (fun _ _ i wr => ∃ (k : Nat) (g' : Nat → BitVec 32), i = .int .i64 k ∧ k ≤ 32 ∧ Row wr b 38 g ∧ Row wr (b + 1) 38 (fun _ => 0#32) ∧ Row wr (b + 1 + 1) 38 g' ∧ Tab wr ∧ Chg [b + 1 + 1] w2 wr ∧ ∀ j, j < k → g' j = f (f (tp j))) (fun _ _ i _ => 32 - (intOf i).toNat)
  case atStart => exact ⟨0, _, rfl, by omega, hr0', hr1', hr2, hT2, Chg.refl _ _, fun j hj => absurd hj (by omega)⟩
  case round =>
    obtain ⟨k, g', rfl, hk, h0, h1, h2, ht, hc, Hj⟩ := hrel
    by_cases hlt : k < 32
    · have hix := run_index_arr g k hlt
      go_wp2_with (first | (refine wpList_load_arr rfl 38 22 (.tmp 1) rfl arrT b g h0 rfl ?_) | (go_at_call 18; refine (of_any f hf g Hg.out (g k) _ ht).mono ?_; rintro e w3 ⟨rfl, hg3⟩; have h2' := h2.chg hg3 (by simp); have hcl := h2'.cell k hlt; have hfz := h2'.frozen k))
      go_roundw
      case rel =>
        refine ⟨k + 1, upd g' k (f (g k)), by go_num, by omega, ?_, ?_, h2'.set k _ hlt, ?_, ?_, fun j hj => ?_⟩
        · exact (h0.chg hg3 (by simp)).chg (Chg.setCell _ _ _) (by simp <;> omega)
        · exact (h1.chg hg3 (by simp)).chg (Chg.setCell _ _ _) (by simp)
        · exact (ht.then hg3).chg (Chg.setCell _ _ _) (by simp <;> omega)
        · exact (hc.then hg3).trans (Chg.setCell _ _ _) (fun _ h _ => h) (fun _ h _ => h)
        · unfold upd
          by_cases he : j = k
          · rw [if_pos he, he, Hg.out k hlt]
          · rw [if_neg he, Hj j (by omega)]
      case measure => simp [intOf]; omega
    · have : k = 32 := by omega
      subst this
      go_wp2_with (first | (refine wpList_load_arr rfl 38 22 (.tmp 3) rfl arrT (b + 1 + 1) g' h2 rfl ?_) | (refine wpList_store_arr rfl 38 22 (.tmp 2) (.tmp 17) rfl arrT (b + 1) _ g' h1 rfl rfl ?_; intro w5 hr5 hg5))
      refine bodyPost_ret (v := .agg (arr g')) (results_cell_row rfl _ _ (b + 1) 38 _ _ _ rfl hr5 Tryd.underlying38 rfl (arrT.size g')) rfl ?_
      exact ⟨g', rfl, Hj, (hg02.trans hc (fun _ h _ => h) (by simp; omega)).trans hg5 (fun _ h _ => h) (by simp; omega)⟩

theorem i64_and1 (n : Nat) : bits .and .i64 (n : Int) 1 = ((n % 2 : Nat) : Int) := by
  have h1 : (BitVec.ofInt 64 1).toNat = 2 ^ 1 - 1 := by decide
  show IntKind.i64.wrap ((BitVec.ofInt 64 (n : Int) &&& BitVec.ofInt 64 1).toNat : Nat) = _
  rw [BitVec.toNat_and, BitVec.toNat_ofInt, h1, Nat.and_two_pow_sub_one_eq_mod, IntKind.wrap_i64]
  omega

theorem noughts_any (x : BitVec 32) (z : Int) (w : World) (hT : Tab w) (hz : z < 9223372036854775808) :
    Calls Tryd.prog 20 #[.int .u32 (v32 x), .int .i64 z, .func (.func 21) #[] #[]] w fun e w' => e = .returned (.int .u32 (v32 (it (8 * z.toNat) x))) ∧ Chg [] w w' := by
  go_enter Tryd.func20, Tryd.ntmps20
  go_wp2_with (first | (go_at_call 17; refine (byteStep_any _).mono ?_; rintro e w1 ⟨rfl, hg1⟩) | (refine wpList_alloc_arr rfl 38 22 rfl arrT ?_; intro w2 hr2 hg2 hs2; have hlt2 := hr2.lt) | (refine wpList_store_arr rfl 38 22 (.tmp 7) (.tmp 8) rfl arrT _ _ _ hr2 rfl rfl ?_; intro w3 hr3 hg3; simp only [Act.put, List.setIfInBounds_toArray, List.set_cons_succ, List.set_cons_zero]))
  have hpos : 0 < w1.heap.size := by
    have := block_lt_of_cell ((hT.then hg1) 0 (by decide))
    simp at this
    omega
  have hT3 := ((hT.then hg1).then hg2).chg hg3 (by simp; omega)
  have hc3 : Chg [] w w3 := (hg1.then hg2).trans hg3 (fun _ h _ => h) (by have := hg1.size; simp; omega)
  have hnew : w.heap.size ≤ w1.heap.size := hg1.size
  generalize hb : w1.heap.size = b at *
  go_loopw [0, 1] (fun v0 v1 wr => ∃ (c : Nat) (m : Int) (g : Nat → BitVec 32) (A : BitVec 32), v0 = .int .u32 (v32 A) ∧ v1 = .int .i64 m ∧ m ≤ z ∧ Row wr b 38 g ∧ (∀ j, j < 32 → g j = it c (tp j)) ∧ it (c * m.toNat) A = it (8 * z.toNat) x ∧ Tab wr ∧ Chg [] w wr) (fun _ v1 _ => (intOf v1).toNat)
  case atStart => exact ⟨8, z, _, x, rfl, rfl, by omega, hr3, fun _ _ => rfl, rfl, hT3, hc3⟩
  case round =>
    obtain ⟨c, m, g, A, rfl, rfl, hm, hr, hgj, hA, ht, hc⟩ := hrel
    by_cases hlt : 0 < m
    · obtain ⟨M, rfl⟩ := Int.eq_ofNat_of_zero_le (show 0 ≤ m by omega)
      have hM : 0 < M := by omega
      have ha := i64_and1 M
      have HA := mkHid hA
      have HG := mkHid hgj
      clear hA hgj
      have hmod : M % 2 = 0 ∨ M % 2 = 1 := by omega
      rcases hmod with h2 | h2
      · rw [h2] at ha
        go_wp2_with (first | (refine wpList_load_arr rfl 38 22 (.tmp 7) rfl arrT b g hr rfl ?_) | (go_at_call 21; refine (squared_any (it c) (Lin.it c) g HG.out _ ht).mono ?_; rintro e w4 ⟨g4, rfl, hg4, hc4⟩; have hr4 := hr.chg hc4 (by simp)) | (refine wpList_store_arr rfl 38 22 (.tmp 7) (.tmp 21) rfl arrT _ _ _ hr4 rfl rfl ?_; intro w5 hr5 hc5))
        refine ⟨⟨c + c, ((M / 2 : Nat) : Int), g4, A, rfl, by simp, by omega, hr5, fun j hj => ?_, ?_, (ht.then hc4).chg hc5 (by simp; omega), (hc.then hc4).trans hc5 (fun _ h _ => h) (by simp; omega)⟩, by simp [intOf]; omega⟩
        · rw [hg4 j hj, it_add]
        · rw [← HA.out]
          congr 1
          rw [Int.toNat_natCast, Int.toNat_natCast, ← Nat.two_mul, Nat.mul_comm 2, Nat.mul_assoc]
          congr 1
          omega
      · rw [h2] at ha
        go_wp2_with (first | (refine wpList_load_arr rfl 38 22 (.tmp 7) rfl arrT b g hr rfl ?_) | (go_at_call 18; refine (of_any (it c) (Lin.it c) g HG.out A _ ht).mono ?_; rintro e w4 ⟨rfl, hc4⟩; have hr4 := hr.chg hc4 (by simp)) | (refine wpList_load_arr rfl 38 22 (.tmp 7) rfl arrT b g hr4 rfl ?_) | (go_at_call 21; refine (squared_any (it c) (Lin.it c) g HG.out _ (ht.then hc4)).mono ?_; rintro e w5 ⟨g5, rfl, hg5, hc5⟩; have hr5 := hr4.chg hc5 (by simp)) | (refine wpList_store_arr rfl 38 22 (.tmp 7) (.tmp 21) rfl arrT _ _ _ hr5 rfl rfl ?_; intro w6 hr6 hc6))
        refine ⟨⟨c + c, ((M / 2 : Nat) : Int), g5, it c A, rfl, by simp, by omega, hr6, fun j hj => ?_, ?_, ((ht.then hc4).then hc5).chg hc6 (by simp; omega), ((hc.then hc4).then hc5).trans hc6 (fun _ h _ => h) (by simp; omega)⟩, by simp [intOf]; omega⟩
        · rw [hg5 j hj, it_add]
        · rw [← HA.out, ← it_add]
          congr 1
          rw [Int.toNat_natCast, Int.toNat_natCast, ← Nat.two_mul, Nat.mul_comm 2, Nat.mul_assoc, ← Nat.mul_succ]
          congr 1
          omega
    · go_wp2_with fail
      go_ret
      have : m.toNat = 0 := by omega
      rw [this, Nat.mul_zero] at hA
      exact ⟨by rw [← hA]; rfl, hc⟩
end Go.Proofs.YtaknbgiahlgpiaaDoor
