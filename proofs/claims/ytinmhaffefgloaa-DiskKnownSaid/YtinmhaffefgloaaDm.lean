/- The document's examples for the disk; the ends; no disk. -/
import Derived.Test.YtinmhaffefgloaaDl
namespace Go.Proofs.Ytinmhaffefgloaa
open Go.RowKit
set_option linter.unusedVariables false
set_option linter.unusedSimpArgs false

def k0 : RS := RS.new 2
def k1 : RS := (write k0 0 (List.replicate 256 2)).2
def k2 : RS := (barrier k1).2
def k3 : RS := (write k2 0 (List.replicate 256 3)).2
def k4 : RS := crash k3 [2]
def k5 : RS := { k4 with left := (2 : Int).toNat }
def k6 : RS := (write k5 0 (List.replicate 256 4)).2
def k7 : RS := (barrier k6).2
theorem kL : k0.L.length ≤ 1000000000 ∧ k2.L.length ≤ 1000000000 ∧ k5.L.length ≤ 1000000000 ∧ k7.L.length ≤ 1000000000 := by decide +kernel
theorem k4_why : whyN k4 (0 : Nat) = 0 := by decide +kernel
theorem k4_reads : reads k4 0 4 = List.replicate 256 2 := by decide +kernel
theorem k5_write : (write k5 0 (List.replicate 256 4)).1 = 0 := by decide +kernel
theorem k6_bar : (barrier k6).1 = 9 := by decide +kernel
theorem k7_why : whyN k7 (-1) = 9 := by decide +kernel
theorem k7_why2 : whyN k7 (2 : Int) = 9 := by decide +kernel
theorem k7_gone : k7.gone = true := by decide +kernel
theorem k7_write : write k7 2 [] = (9, k7) := by unfold write; rw [k7_why2]; rfl
theorem n_write6 : (write (RS.new 1024) 1024 []) = (6, RS.new 1024) := rfl
theorem n_write1 : (write (RS.new 1024) 0 []) = (1, RS.new 1024) := rfl
set_option maxRecDepth 100000 in
set_option maxHeartbeats 4000000 in
theorem known_any (w : World) : Calls Try.prog 6 #[] w fun e w' => e = .returned (.bool true) ∧ Chg [] w w' := by
  have hml : maxLen = 9223372036854775807 := rfl
  go_enter Try.func6, Try.ntmps6
  go_wp2_with fail
  refine (own_new 2 (by decide) (by decide) w).mono ?_
  rintro e w1 ⟨db, g, rfl, h1⟩
  go_wp2_with fail
  refine (awake_any w1).mono ?_
  rintro e w2 ⟨rfl, hg2⟩
  replace h1 := h1.keep hg2
  clear hg2
  go_wp2_with fail
  refine (full_as 2 2 rfl w2).mono ?_
  rintro e w3 ⟨fb, fo, rfl, hr3, hg3⟩
  replace h1 := h1.add hg3 _ (fun k hk => hr3.lt k hk)
  go_wp2_with fail
  refine (own_write 0 w _ db g none 0 k0 w3 h1 kL.1 _ 256 256 _ hr3.reads (by rw [List.length_replicate]) (by omega) (by omega) (fun k hk => List.mem_append_left _ (blk_mem hr3 (by decide) k hk))).mono ?_
  rintro e w4 ⟨rfl, fa, cf, h4, hg4⟩
  replace h4 : Own w w4 [] db g fa cf k1 := h4.less (by simp)
  clear h1 hr3 hg3 hg4
  go_wp2_with fail
  refine (own_barrier w _ db g fa cf k1 w4 h4).mono ?_
  rintro e w5 ⟨rfl, fa5, cf5, h5, hg5⟩
  replace h5 : Own w w5 [] db g fa5 cf5 k2 := h5
  clear h4 hg5
  go_wp2_with fail
  refine (full_as 3 3 rfl w5).mono ?_
  rintro e w6 ⟨fb6, fo6, rfl, hr6, hg6⟩
  replace h5 := h5.add hg6 _ (fun k hk => hr6.lt k hk)
  go_wp2_with fail
  refine (own_write 0 w _ db g fa5 cf5 k2 w6 h5 kL.2.1 _ 256 256 _ hr6.reads (by rw [List.length_replicate]) (by omega) (by omega) (fun k hk => List.mem_append_left _ (blk_mem hr6 (by decide) k hk))).mono ?_
  rintro e w7 ⟨rfl, fa7, cf7, h7, hg7⟩
  replace h7 : Own w w7 [] db g fa7 cf7 k3 := h7.less (by simp)
  clear h5 hr6 hg6 hg7
  go_wp2_with fail
  generalize hbs : w7.heap.size = bs at *
  generalize hW : w7.alloc _ = W
  have hrp : Reads W (some ⟨bs, 0, none⟩) (bts [2]) := by subst hW hbs; exact reads_new w7 _ _ _ _ rfl
  have hsz : W.heap.size = bs + 1 := by subst hW hbs; simp
  have hgW : Chg [] w7 W := by subst hW; exact Chg.alloc [] _ _
  clear hW
  replace h7 := h7.add hgW [bs] (fun k hk => by simp at hk; omega)
  refine (own_crash w _ db g fa7 cf7 k3 W h7 (some ⟨bs, 0, none⟩) 1 1 [2] hrp rfl (by decide) (fun k hk => Or.inl (by simp [blk] at hk; simp [hk]))).mono ?_
  rintro e w8 ⟨rfl, h8, hg8⟩
  replace h8 : Own w w8 [] db g none 0 k4 := h8.less (by simp)
  clear h7 hgW hrp hg8 hsz hbs
  go_wp2_with fail
  refine (own_read 0 w _ db g none 0 k4 w8 h8 k4_why).mono ?_
  rintro e w9 ⟨ra, rc, rfl, hr9, h9, hg9⟩
  rw [k4_reads] at hr9
  have hra := blk_mem hr9 (by decide)
  clear h8 hg9
  go_wp2_with fail
  refine (own_fuse 2 (by decide) w _ db g none 0 k4 w9 h9).mono ?_
  rintro e w10 ⟨rfl, h10, hg10⟩
  replace hr9 := hr9.chg hg10 (fun k hk => (h9.r k (List.mem_append_left _ hk)).1)
  replace h10 : Own w w10 _ db g none 0 k5 := h10
  clear h9 hg10
  go_wp2_with fail
  refine (full_as 4 4 rfl w10).mono ?_
  rintro e w11 ⟨fb11, fo11, rfl, hr11, hg11⟩
  replace h10 := h10.add hg11 _ (fun k hk => hr11.lt k hk)
  replace hr9 := hr9.chg hg11 (by simp)
  go_wp2_with fail
  refine (own_write 0 w _ db g none 0 k5 w11 h10 kL.2.2.1 _ 256 256 _ hr11.reads (by rw [List.length_replicate]) (by omega) (by omega) (fun k hk => List.mem_append_left _ (blk_mem hr11 (by decide) k hk))).mono ?_
  rintro e w12 ⟨he, fa12, cf12, h12, hg12⟩
  replace he : e = .returned (.int .i64 0) := he.trans (ret_int k5_write)
  subst he
  replace hr9 := hr9.chg hg12 (fun k hk => (h10.r k (List.mem_append_right _ (List.mem_append_left _ hk))).1)
  replace h12 : Own w w12 (fp ra rc) db g fa12 cf12 k6 := h12.less (fun k hk => List.mem_append_right _ (List.mem_append_left _ hk))
  clear h10 hr11 hg11 hg12
  go_wp2_with fail
  refine (own_barrier w _ db g fa12 cf12 k6 w12 h12).mono ?_
  rintro e w13 ⟨he, fa13, cf13, h13, hg13⟩
  replace he : e = .returned (.int .i64 9) := he.trans (ret_int k6_bar)
  subst he
  replace hr9 := hr9.chg hg13 (fun k hk => (h12.r k hk).1)
  replace h13 : Own w w13 (fp ra rc) db g fa13 cf13 k7 := h13
  clear h12 hg13
  go_wp2_with fail
  refine (dread_no (-1) w.heap.size db g fa13 cf13 k7 w13 h13.d h13.W (by rw [k7_why]; decide)).mono ?_
  rintro e w' ⟨he, rfl⟩
  replace he : e = .returned (.tuple #[.slice none 0 0, .int .i64 9]) := by rw [he, k7_why]
  subst he
  go_wp2_with fail
  refine (own_write 2 w _ db g fa13 cf13 k7 w13 h13 kL.2.2.2 none 0 0 [] (Reads.nil _ _) rfl (by decide) (by decide) (fun k hk => by simp [blk] at hk)).mono ?_
  rintro e w14 ⟨he, fa14, cf14, h14, hg14⟩
  rw [k7_write] at he h14
  subst he
  replace hr9 := hr9.chg hg14 (fun k hk => (h13.r k hk).1)
  have hw14 := h14.c.size
  clear h13 hg14
  go_wp2_with fail
  refine (read_nil 0 w14).mono ?_
  rintro e w' ⟨rfl, rfl⟩
  go_wp2_with fail
  refine (fuse_nil 1 w14).mono ?_
  rintro e w' ⟨rfl, rfl⟩
  go_wp2_with fail
  refine (crash_nil _ w14).mono ?_
  rintro e w' ⟨rfl, rfl⟩
  go_wp2_with fail
  refine (dnew_no 0 (by omega) w14).mono ?_
  rintro e w' ⟨rfl, rfl⟩
  go_wp2_with fail
  refine (dnew_no 1025 (by omega) w14).mono ?_
  rintro e w' ⟨rfl, rfl⟩
  go_wp2_with fail
  refine (own_new 1024 (by decide) (by decide) w14).mono ?_
  rintro e w15 ⟨di, gi, rfl, hi⟩
  have hr15 := hr9.chg hi.c (by simp)
  have h15 := h14.keep hi.c
  clear hr9 h14
  go_wp2_with fail
  refine (full_as 2 2 rfl w15).mono ?_
  rintro e w16 ⟨fb16, fo16, rfl, hr16, hg16⟩
  have hr15' := hr15.chg hg16 (by simp)
  replace h15 := h15.keep hg16
  replace hi := hi.keep hg16
  clear hr15 hg16
  go_wp2_with fail
  refine (equal_any _ 256 _ _ _ 256 _ _ w16 hr15'.reads (by rw [List.length_replicate]) hr16.reads (by rw [List.length_replicate])).mono ?_
  rintro e w' ⟨he, rfl⟩
  replace he : e = .returned (.bool true) := he.trans (ret_bool' (decide_eq_true rfl))
  subst he
  clear hr15' hr16
  go_wp2_with fail
  refine (off_any w.heap.size db g fa14 cf14 k7 w16 h15.d).mono ?_
  rintro e w' ⟨he, rfl⟩
  replace he : e = .returned (.bool true) := he.trans (ret_bool' k7_gone)
  subst he
  go_wp2_with fail
  refine (blocks_nil w16).mono ?_
  rintro e w' ⟨rfl, rfl⟩
  go_wp2_with fail
  refine (flight_nil w16).mono ?_
  rintro e w' ⟨rfl, rfl⟩
  go_wp2_with fail
  refine (off_nil w16).mono ?_
  rintro e w' ⟨rfl, rfl⟩
  go_wp2_with fail
  refine (copy_nil w16).mono ?_
  rintro e w' ⟨rfl, rfl⟩
  go_wp2_with fail
  refine (full_as 1 1 rfl w16).mono ?_
  rintro e w17 ⟨fb17, fo17, rfl, hr17, hg17⟩
  have hgw := h15.c.then hg17
  replace hi := hi.keep hg17
  clear hr17 hg17 h15
  go_wp2_with fail
  refine (write_nil 0 _ w17).mono ?_
  rintro e w' ⟨rfl, rfl⟩
  go_wp2_with fail
  refine (barrier_nil w17).mono ?_
  rintro e w' ⟨rfl, rfl⟩
  go_wp2_with fail
  refine (blocks_any w14.heap.size di gi none 0 (RS.new 1024) w17 hi.d hi.W).mono ?_
  rintro e w' ⟨he, rfl⟩
  replace he : e = .returned (.int .i64 1024) := he.trans (ret_int rfl)
  subst he
  go_wp2_with fail
  refine (own_write 1024 w14 [] di gi none 0 (RS.new 1024) w17 hi (by decide) none 0 0 [] (Reads.nil _ _) rfl (by decide) (by decide) (fun k hk => by simp [blk] at hk)).mono ?_
  rintro e w18 ⟨he, fi, ci, hi2, hgi2⟩
  rw [n_write6] at he hi2
  subst he
  have hg18 : Chg [] w w18 := hgw.trans hgi2 (by simp) (fun k hk hlt => by have := (hi.d.lt k hk).1; omega)
  clear hi hgi2 hgw
  go_wp2_with fail
  refine (own_write 0 w14 [] di gi fi ci (RS.new 1024) w18 hi2 (by decide) none 0 0 [] (Reads.nil _ _) rfl (by decide) (by decide) (fun k hk => by simp [blk] at hk)).mono ?_
  rintro e w19 ⟨he, fi2, ci2, hi3, hgi3⟩
  rw [n_write1] at he hi3
  subst he
  have hg19 : Chg [] w w19 := hg18.trans hgi3 (by simp) (fun k hk hlt => by have := (hi2.d.lt k hk).1; omega)
  clear hi2 hgi3 hg18 hi3
  go_wp2_with fail
  go_ret
  exact ⟨rfl, hg19⟩
end Go.Proofs.Ytinmhaffefgloaa
