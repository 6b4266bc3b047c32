/- What the document's examples say of the program's disk. -/
import Derived.Test.YtinmhaffefgloaaDj
import Derived.Test.YtinmhaffefgloaaX
namespace Go.Proofs.Ytinmhaffefgloaa
open Go.RowKit
set_option linter.unusedVariables false
set_option linter.unusedSimpArgs false

def stA : RS := (write (RS.new 2) 1 (List.replicate 256 1)).2
theorem stA_ok : (write (RS.new 2) 1 (List.replicate 256 1)).1 = 0 := by decide +kernel
theorem stA_len : stA.L.length = 4 := by decide +kernel
theorem stA_whole : Whole stA := by unfold Whole; decide +kernel
theorem stA_why : whyN stA (1 : Nat) = 0 := by decide +kernel
theorem stA_reads : reads stA 1 4 = List.replicate 256 1 := by decide +kernel
def stB : RS := crash stA [1, 66, 0, 1]
theorem stB_whole : Whole stB := by unfold Whole; decide +kernel
theorem stB_why : whyN stB (1 : Nat) = 0 := by decide +kernel
theorem stB_reads : reads stB 1 4 = List.replicate 128 1 ++ List.replicate 64 0 ++ List.replicate 64 1 := by decide +kernel
theorem zeroB : (Try.prog.info? 5).map (·.zero) = some (some (.int .u8 0)) := by kernel_rfl
theorem repeat_as (x : UInt8) (v : Int) (hv : v = (x.toNat : Int)) (n : Nat) (h1 : 1 ≤ n) (h2 : n ≤ 8192) (hmul : ∀ w, Calls Try.prog 50 #[.int .u64 1, .int .u64 (n : Int)] w fun e w' => e = .returned (.tuple #[.int .u64 0, .int .u64 (n : Int)]) ∧ w = w')
    (c0 : Nat) (w : World) (e : TypeId) :
    Calls Try.prog 30 #[.slice (some ⟨w.heap.size, 0, none⟩) 1 c0, .int .i64 (n : Int)] (w.alloc (.cells #[.int .u8 v] e)) fun e w' => ∃ ao, e = .returned (.slice ao n n) ∧ Room w' w.heap.size ao n n (bts (List.replicate n x)) ∧ Chg [] w w' := by
  refine (repeat_one x n h1 h2 hmul w.heap.size c0 _ (by rw [← hv]; simp)).mono ?_
  rintro e w' ⟨ao, he, hr, hg⟩
  exact ⟨ao, he, hr.mono (by simp), hg.behind⟩
set_option maxHeartbeats 1000000 in
theorem awake_any (w : World) : Calls Try.prog 9 #[] w fun e w' => e = .returned (.bool true) ∧ Chg [] w w' := by
  have hml : maxLen = 9223372036854775807 := rfl
  go_enter Try.func9, Try.ntmps9
  go_wp2_with fail
  refine (dnew_yes 2 (by decide) (by decide) w).mono ?_
  rintro e w1 ⟨db, g, rfl, h1, hg1⟩
  go_wp2_with fail
  refine (full_as 1 1 rfl w1).mono ?_
  rintro e w2 ⟨fb, fo, rfl, hr2, hg2⟩
  go_wp2_with fail
  have h2 := h1.keep hg2
  have hfb := (hr2.lt fb (by rw [fp_some _ _ _ (by decide)]; simp))
  have hlt1 := fun k hk => (h1.lt k hk).2
  refine (dwrite_any (1 : Nat) w.heap.size db g none 0 (RS.new 2) w2 h2 (new_whole 2 (by decide)) (hg1.then hg2).size (by decide) _ 256 256 _ hr2.reads (by rw [List.length_replicate]) (by omega) (by omega) (fun k hk => ?_)).mono ?_
  · simp [blk] at hk
    rw [hk]
    exact ⟨fun hm => by have := hlt1 fb hm; omega, hfb.2⟩
  rintro e w3 ⟨he, fa, cf, h3, hg3, hl3⟩
  have he3 : e = .returned (.int .i64 0) := he.trans (ret_int stA_ok)
  subst he3
  replace h3 : DevAt w3 w.heap.size db g fa cf stA := h3
  have hs3 := (hg1.then hg2).size
  replace hg3 : Chg [] w w3 := (hg1.then hg2).trans hg3 (by simp) (fun k hk hlt => by have := (h2.lt k hk).1; omega)
  clear he hl3 h2 h1 hr2 hg1 hg2 hlt1
  go_wp2_with fail
  refine (flight_any w.heap.size db g fa cf stA w3 h3).mono ?_
  rintro e w' ⟨he, rfl⟩
  have he4 : e = .returned (.int .i64 4) := he.trans (ret_int (by rw [stA_len]; rfl))
  subst he4
  clear he
  go_wp2_with fail
  refine (dread_yes 1 w.heap.size db g fa cf stA w3 h3 stA_whole stA_why).mono ?_
  rintro e w4 ⟨ra, rc, rfl, hr4, hg4⟩
  rw [stA_reads] at hr4
  have h4 := h3.keep hg4
  go_wp2_with fail
  generalize hbs : w4.heap.size = bs at *
  generalize hW : w4.alloc _ = W
  have hrp : Reads W (some ⟨bs, 0, none⟩) (bts [1, 66, 0, 1]) := by subst hW hbs; exact reads_new w4 _ _ _ _ rfl
  have hgW : Chg [] w4 W := by subst hW; exact Chg.alloc [] _ _
  clear hW
  refine (dcrash_any w.heap.size db g fa cf stA W (h4.keep hgW) (some ⟨bs, 0, none⟩) 4 4 [1, 66, 0, 1] hrp rfl (by decide) (fun k hk => ?_)).mono ?_
  · simp [blk] at hk
    rw [hk]
    exact fun hm => by have := (h4.lt bs hm).2; omega
  rintro e w5 ⟨rfl, h5, hg5⟩
  replace h5 : DevAt w5 w.heap.size db g none 0 stB := h5
  have hs4 := hg4.size
  have hr5 : Room w5 w3.heap.size ra 256 rc (bts (List.replicate 256 1)) := (hr4.chg hgW (by simp)).chg hg5 (fun k hk hm => by
    have a1 := (hr4.lt k hk).1
    have a2 : k ∈ DF db g fa cf := by
      simp at hm
      rcases hm with hm | hm | hm <;> simp [DF, hm]
    have := (h3.lt k a2).2
    omega)
  have hg45 : Chg [] w w5 := (((hg3.then hg4).then hgW).trans hg5 (by simp) (fun k hk hlt => by
    have a2 : k ∈ DF db g fa cf := by
      simp at hk
      rcases hk with hk | hk | hk <;> simp [DF, hk]
    have := (h3.lt k a2).1
    omega))
  clear h4 hr4 hg4 hgW hg5 h3 hrp hbs
  go_wp2_with fail
  refine (dread_yes 1 w.heap.size db g none 0 stB w5 h5 stB_whole stB_why).mono ?_
  rintro e w6 ⟨rb, rd, rfl, hr6, hg6⟩
  rw [stB_reads] at hr6
  replace hr5 := hr5.chg hg6 (by simp)
  have hl5 := fun k hk => (hr5.lt k hk).2
  have hl6 := fun k hk => (hr6.lt k hk).2
  have hg56 := hg45.then hg6
  have hw6 := hg56.size
  clear hg45 hg6 h5
  go_wp2_with fail
  refine (repeat_as 1 1 rfl 128 (by decide) (by decide) mul_128 1 w6 _).mono ?_
  rintro e w7 ⟨a7, rfl, hr7, hg7⟩
  replace hr5 := hr5.chg hg7 (by simp)
  replace hr6 := hr6.chg hg7 (by simp)
  replace hg56 := hg56.then hg7
  have hg56B : w6.heap.size ≤ w7.heap.size := hg7.size
  clear hg7
  have hz := fun u : World => (rfl : (64 : Int) = ((64 : Nat) : Int))
  go_wp2_with (first | (at_builtin; refine wpList_append_zeros w7 rfl (.tmp 43) (.const (.int .i64 64)) 32 3 rfl 5 1 eltB (.int .u8 0) zeroB rfl .i64 .i64 Try.underlying3 w6.heap.size a7 128 128 _ rfl hr7 hg56B 64 rfl (by decide) (by decide) (by decide) (by decide) ?_; intro a8 c8 w8 hr8 hg8; rw [← bts_rep, ← bts_append] at hr8; have hl8 := fun k hk => (hr8.lt k hk).2))
  refine (repeat_as 1 1 rfl 64 (by decide) (by decide) mul_64 1 w8 _).mono ?_
  rintro e w9 ⟨a9, rfl, hr9, hg9⟩
  replace hr5 := (hr5.chg hg8 (by simp)).chg hg9 (by simp)
  replace hr6 := (hr6.chg hg8 (by simp)).chg hg9 (by simp)
  replace hr8 := hr8.chg hg9 (by simp)
  replace hg56 := (hg56.then hg8).then hg9
  have hs9 : w6.heap.size ≤ w9.heap.size := Nat.le_trans hg56B (hg8.then hg9).size
  have hfp9 := fun k hk => hr8.lt k hk
  have hap : ∀ k, k ∈ fp a9 64 → k ∉ fp a8 c8 := fun k hk hm => by have := (hr9.lt k hk).1; have := (hl8 k hm); omega
  have hwB := hg56.size
  go_wp2_with (first | (at_builtin; refine wpList_append_k w9 rfl (.tmp 44) (.tmp 46) 32 rfl 5 1 eltB w6.heap.size a8 192 c8 _ rfl hr8 hs9 a9 64 64 _ rfl hr9.reads (by rw [bts_length, List.length_replicate]) (bts_one _) (by decide) (by decide) ?_; intro a10 c10 w10 hr10 hg10 hf10; rw [← bts_append] at hr10))
  replace hr5 := hr5.chg hg10 (fun k hk hm => by have := hl5 k hk; have := (hr8.lt k hm).1; omega)
  replace hr6 := hr6.chg hg10 (fun k hk hm => by have := hl6 k hk; have := (hr8.lt k hm).1; omega)
  replace hg56 : Chg [] w w10 := hg56.trans hg10 (by simp) (fun k hk hlt => by have := (hr8.lt k hk).1; omega)
  clear hr8 hr9 hg10 hg9 hg8 hap hfp9 hl8 hf10 hr7
  refine (full_as 1 1 rfl w10).mono ?_
  rintro e w11 ⟨xb, xo, rfl, hr11, hg11⟩
  replace hr5 := hr5.chg hg11 (by simp)
  replace hr6 := hr6.chg hg11 (by simp)
  replace hr10 := hr10.chg hg11 (by simp)
  replace hg56 := hg56.then hg11
  go_wp2_with fail
  refine (equal_any _ 256 _ _ _ 256 _ _ w11 hr5.reads (by rw [List.length_replicate]) hr11.reads (by rw [List.length_replicate])).mono ?_
  rintro e w' ⟨he, rfl⟩
  replace he : e = .returned (.bool true) := he.trans (ret_bool' (decide_eq_true rfl))
  subst he
  go_wp2_with fail
  refine (equal_any _ 256 _ _ _ 256 _ _ w11 hr6.reads (by simp only [List.length_append, List.length_replicate]) hr10.reads (by simp only [List.length_append, List.length_replicate])).mono ?_
  rintro e w' ⟨he, rfl⟩
  replace he : e = .returned (.bool true) := he.trans (ret_bool' (decide_eq_true rfl))
  subst he
  go_wp2_with fail
  go_ret
  exact ⟨rfl, hg56⟩
end Go.Proofs.Ytinmhaffefgloaa
