/- The law's own helpers: blocks, places, what the examples say. -/
import Derived.Test.YtinmhaffefgloaaDi
import Derived.Test.YtinmhaffefgloaaE
import Derived.Lib.SmallJoins
namespace Go.Proofs.Ytinmhaffefgloaa
open Go.RowKit
set_option linter.unusedVariables false
set_option linter.unusedSimpArgs false

theorem full_any (x : UInt8) (w : World) : Calls Try.prog 24 #[.int .u8 (x.toNat : Int)] w fun e w' => ∃ fb fo, e = .returned (.slice (some ⟨fb, fo, none⟩) 256 256) ∧ Room w' w.heap.size (some ⟨fb, fo, none⟩) 256 256 (bts (List.replicate 256 x)) ∧ Chg [] w w' := by
  obtain ⟨v, hv⟩ : ∃ v : Int, v = (x.toNat : Int) := ⟨_, rfl⟩
  rw [← hv]
  have Hv := mkHid hv
  clear hv
  go_enter Try.func24, Try.ntmps24
  go_wp2_with (first | (go_at_call 30; refine (repeat_one x 256 (by decide) (by decide) mul_256 w.heap.size 1 _ (by rw [← Hv.out]; simp)).mono ?_; rintro e w1 ⟨ao, rfl, hr1, hg1⟩))
  go_ret
  obtain ⟨fb, fo, rfl, _⟩ := hr1.at_ (by decide)
  exact ⟨fb, fo, rfl, hr1.mono (by simp), hg1.behind⟩
theorem full_as (v : Int) (x : UInt8) (hv : v = (x.toNat : Int)) (w : World) : Calls Try.prog 24 #[.int .u8 v] w fun e w' => ∃ fb fo, e = .returned (.slice (some ⟨fb, fo, none⟩) 256 256) ∧ Room w' w.heap.size (some ⟨fb, fo, none⟩) 256 256 (bts (List.replicate 256 x)) ∧ Chg [] w w' := by
  rw [hv]
  exact full_any x w
theorem within_any (k : Int) (n : Nat) (hn : 1 ≤ n) (hn2 : n ≤ 1000) (hk : (Lit.int .i64 k).wf = true) (w : World) : Calls Try.prog 26 #[.int .i64 k, .int .i64 (n : Int)] w fun e w' => (∃ j : Nat, j < n ∧ e = .returned (.int .i64 (j : Int))) ∧ w = w' := by
  have bk := Go.bounds_i64 hk
  have f4 : IntKind.u64.wrap (n : Int) = (n : Int) := by rw [IntKind.wrap_u64]; omega
  have f5 : ((n : Int) == 0) = false := beq_eq_false_iff_ne.2 (by omega)
  obtain ⟨u, hu⟩ : ∃ u : Nat, IntKind.u64.wrap k = (u : Int) := ⟨(IntKind.u64.wrap k).toNat, by rw [IntKind.wrap_u64]; omega⟩
  have hu2 : (u : Int) < 18446744073709551616 := by rw [← hu, IntKind.wrap_u64]; omega
  clear bk hk
  go_enter Try.func26, Try.ntmps26
  go_wp2
  go_ret
  have h1 : u % n < n := Nat.mod_lt _ hn
  have h2 : ((u : Int) % (n : Int)) = ((u % n : Nat) : Int) := by simp
  rw [h2]
  exact ⟨⟨u % n, h1, ret_int (by unfold wrap64; omega)⟩, rfl⟩
theorem sector_any (b o n c s : Nat) (hs : 64 * s + 64 ≤ n) (hn : n ≤ c) (hc : c ≤ 140737488355328) (w : World) :
    Calls Try.prog 28 #[.slice (some ⟨b, o, none⟩) n c, .int .i64 s] w fun e w' => e = .returned (.slice (some ⟨b, o + 64 * s, none⟩) 64 (c - 64 * s)) ∧ w = w' := by
  have hsl := run_range_k (P := Try.prog) (some ⟨b, o, none⟩) n c (64 * s) 64 (64 * (s : Int) + 64) (by omega) Try.underlying32 oneB (by omega)
  simp only [Int.natCast_mul, Int.cast_ofNat_Int] at hsl
  have hcu : cut (some ⟨b, o, none⟩) c (64 * s) = some ⟨b, o + 64 * s, none⟩ := by
    unfold cut
    rw [if_neg (by omega), Option.map_some, Addr.add_lit]
  rw [hcu] at hsl
  go_enter Try.func28, Try.ntmps28
  go_wp2
  go_ret
  exact ⟨rfl, rfl⟩
def blockB (x : UInt8) (B : List UInt8) (short : Bool) : List UInt8 := if short then B else B.take 256 ++ (List.replicate 256 x).drop (min B.length 256)
theorem block_full (x : UInt8) (B : List UInt8) : (blockB x B false).length = 256 := by
  show (B.take 256 ++ (List.replicate 256 x).drop (min B.length 256)).length = 256
  rw [List.length_append, List.length_take, List.length_drop, List.length_replicate]
  omega
theorem block_any (wh at_ : Int) (x : UInt8) (ba : Option Addr) (nb cb : Nat) (b : List UInt8) (short : Bool) (w : World) (g : Reads w ba (bts b)) (gn : b.length = nb) (gc : nb ≤ cb) (gm : cb ≤ 140737488355328) :
    Calls Try.prog 11 #[.agg #[.int .i64 wh, .int .i64 at_, .int .u8 (x.toNat : Int), .slice ba nb cb, .bool short]] w fun e w' => ∃ ao n c, e = .returned (.slice ao n c) ∧ Room w' w.heap.size ao n c (bts (blockB x b short)) ∧ Chg [] w w' ∧ (short = false → c = 256) := by
  have hml : maxLen = 9223372036854775807 := rfl
  obtain ⟨v, hv⟩ : ∃ v : Int, v = (x.toNat : Int) := ⟨_, rfl⟩
  rw [← hv]
  have Hv := mkHid hv
  clear hv
  cases short
  · go_enter Try.func11, Try.ntmps11
    go_wp2_with fail
    generalize hbx : w.heap.size = bx at *
    generalize hW : w.alloc _ = W
    have x2 : W.cell? ⟨bx, 2, none⟩ = some (.int .u8 v) := by subst hW hbx; simp
    have x3 : W.cell? ⟨bx, 3, none⟩ = some (.slice ba nb cb) := by subst hW hbx; simp
    have x4 : W.cell? ⟨bx, 4, none⟩ = some (.bool false) := by subst hW hbx; simp
    have hgW : Chg [] w W := by subst hW; exact Chg.alloc [] _ _
    have hbW : bx ≤ W.heap.size := by subst hW hbx; simp
    clear hW
    obtain ⟨m, hm⟩ : ∃ m, m = Nat.min nb 256 := ⟨_, rfl⟩
    have hcl : (bts (b.take m)).length = m := by rw [bts_length, List.length_take, hm, gn]; exact Nat.min_eq_left (Nat.min_le_left _ _)
    have Hcl := mkHid hcl
    have hm256 : m ≤ 256 := by rw [hm]; exact Nat.min_le_right _ _
    have Hm := mkHid hm
    clear hm hcl
    go_wp2_with fail
    refine (full_as v x Hv.out _).mono ?_
    rintro e w1 ⟨fb, fo, rfl, hr1, hg1⟩
    have x3' := hg1.cellv x3 (by simp)
    have hrb : Reads w1 ba (bts (b.take m)) := by rw [← bts_take]; exact ((g.keep hgW).keep hg1).take m
    have hth := hr1.there 0 m (by omega)
    have hr2 := hr1.sets (bts (b.take m)) 0 (by rw [Hcl.out]; omega)
    have hg2 : Chg [] W (w1.setCells fb fo (bts (b.take m))) := hg1.trans (Chg.setCells fb _ fo w1) (fun _ h _ => h) (fun k hk hlt => by simp at hk; have := (hr1.lt fb (by rw [fp_some _ _ _ (by decide)]; simp)).1; omega)
    go_wp2_with (first | (refine wpList_copy_k rfl (.tmp 13) (.tmp 15) 32 32 5 rfl Try.underlying32 oneB fb fo 256 256 ba nb cb (bts (b.take m)) rfl rfl hrb (Hcl.out.trans Hm.out) (by rw [Hcl.out]; exact hth) (bts_one _) ?_))
    go_ret
    refine ⟨_, 256, 256, rfl, ?_, hgW.then hg2, fun _ => rfl⟩
    rw [List.take_zero, List.nil_append, Hcl.out, bts_drop, ← bts_append, Nat.add_zero, Nat.zero_add] at hr2
    have e1 : b.take m ++ (List.replicate 256 x).drop m = blockB x b false := by
      show _ = b.take 256 ++ (List.replicate 256 x).drop (min b.length 256)
      rw [Hm.out, gn]
      congr 1
      by_cases h : nb ≤ 256
      · rw [show nb.min 256 = nb from Nat.min_eq_left h, List.take_of_length_le (by omega), List.take_of_length_le (by omega)]
      · rw [show nb.min 256 = 256 from Nat.min_eq_right (by omega)]
    rw [e1] at hr2
    exact hr2.mono (by omega)
  · go_enter Try.func11, Try.ntmps11
    go_wp2_with (first | (at_builtin; refine wpList_append_k _ rfl (.tmp 6) (.tmp 8) 32 rfl 5 1 eltB w.heap.size _ 0 0 [] rfl (Room.nil _ _ _) (Nat.le_trans (Chg.alloc [] w _).size (Chg.alloc [] _ _).size) ba nb cb (bts b) rfl ((g.keep (Chg.alloc [] _ _)).keep (Chg.alloc [] _ _)) (by rw [bts_length]; exact gn) (bts_one b) (by omega) (by omega) ?_; intro ao2 c2 w2 hr2 hc2 hf2; have hc2' : Chg [] w w2 := ((Chg.alloc [] _ _).then (Chg.alloc [] _ _)).then hc2; simp only [Nat.zero_add, List.nil_append] at hr2))
    go_ret
    exact ⟨ao2, nb, c2, rfl, hr2, hc2', fun h => by cases h⟩
end Go.Proofs.Ytinmhaffefgloaa
