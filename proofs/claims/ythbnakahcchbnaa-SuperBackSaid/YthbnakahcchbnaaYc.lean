/- The program's laid. -/
import Derived.Test.YthbnakahcchbnaaYa
import Derived.Test.YthbnakahcchbnaaYb
import Derived.Test.YthbnakahcchbnaaAq
import Derived.Test.YthbnakahcchbnaaY
import Derived.Lib.SlBytesConst
namespace Go.Proofs.Ythbnakahcchbnaa
open Go.RowKit
set_option linter.unusedVariables false
set_option linter.unusedSimpArgs false
attribute [local go_sem ↓] Go.wp_at_zero Go.wp_at_succ

theorem wt64 : WideT Try.prog 48 (bts (List.replicate 64 0)) := ⟨⟨_, Try.underlying48, rfl⟩, by kernel_rfl⟩
/-- A form's beginning: the letters and k numbers. -/
def pre (L : List Nat) (k : Nat) : List UInt8 := f0 ++ (L.take k).flatMap fun x => be x 8
theorem pre_zero (L : List Nat) : pre L 0 = f0 := by simp [pre]
theorem pre_succ (L : List Nat) (k x : Nat) (h : L[k]? = some x) : pre L (k + 1) = pre L k ++ be x 8 := by
  unfold pre
  rw [List.take_add_one, h]
  simp
theorem pre_length (L : List Nat) (k : Nat) (h : k ≤ L.length) : (pre L k).length = 4 + 8 * k := by
  induction k with
  | zero => simp [pre, f0]
  | succ k ih =>
    rw [pre_succ L k L[k] (by simp), List.length_append, ih (by omega), be_length]
    omega
theorem pre_form (s : SB) : (pre [s.G, s.B.toNat, s.D, s.X] 4 ++ List.replicate 20 0) ++ be s.G 8 = s.form := by simp [pre, SB.form, f0]
theorem index4 (x y z u k q : Nat) (h : [x, y, z, u][k]? = some q) (w : World) : (Instr.index 61 (.agg #[.int .u64 (x : Int), .int .u64 (y : Int), .int .u64 (z : Int), .int .u64 (u : Int)]) (.int .i64 k)).run Try.prog w = .ok (.int .u64 (q : Int)) w := by
  have hk : k = 0 ∨ k = 1 ∨ k = 2 ∨ k = 3 := by
    have := (List.getElem?_eq_some_iff.1 h).1
    simp at this
    omega
  have hz := Try.sizeOf22
  rcases hk with rfl | rfl | rfl | rfl <;> (simp only [List.getElem?_cons_zero, List.getElem?_cons_succ, Option.some.injEq] at h; subst h; simp [Instr.index, run_underlying Try.underlying61, asIntOf, go_sem, hz])
set_option maxRecDepth 20000 in
set_option maxHeartbeats 2000000 in
theorem form_any (s : SB) (hm : s.may = true) (w : World) : Calls Try.prog 20 #[s.v] w fun e w' => e = .returned (.agg (bts s.form).toArray) ∧ Chg [] w w' := by
  obtain ⟨hB, hB64⟩ := wrap_of_may hm
  have hw := SB.wide_of_may hm
  obtain ⟨c0, c1, c2, c3⟩ := sup_laid w s
  have g0 := Chg.alloc [] w (supObj s)
  have hpf := pre_form s
  have hfl := SB.form_length s
  obtain ⟨G, B, D, X⟩ := s
  obtain ⟨wg, wd, wx⟩ := hw
  unfold SB.v supObj at *
  dsimp only at *
  generalize SB.form ⟨G, B, D, X⟩ = F at *
  generalize hN : B.toNat = N at *
  have kc := fun (w : World) (C : Array Value) (n c : Nat) => Lib.run_convert_bytes_const (P := Try.prog) w 25 5 C n c Try.underlying25 Try.underlying5
  clear hm hN
  go_enter Try.func20, Try.ntmps20
  go_wp2_with (first
    | (refine wpList_alloc_w rfl 48 rfl (bts (List.replicate 64 0)) wt64 ?_; intro w2 hb2 hg2 hz2; clear hz2; have e0 := hg2.cellv c0 (by simp); have e1 := hg2.cellv c1 (by simp); have e2 := hg2.cellv c2 (by simp); have e3 := hg2.cellv c3 (by simp); have L1 := Chg.alloc [] w2 (.cells #[.int .u8 99, .int .u8 105, .int .u8 115, .int .u8 116] 5 (4, 5)); have d0 := L1.cellv e0 (by simp); have d1 := L1.cellv e1 (by simp); have d2 := L1.cellv e2 (by simp); have d3 := L1.cellv e3 (by simp)))
  have lr := reads_new w2 #[.int .u8 99, .int .u8 105, .int .u8 115, .int .u8 116] 5 (4, 5) f0 rfl
  have b2 := hb2.keep L1
  have x0 := d0
  have G3 := (g0.then hg2).then L1
  have wz : (w.alloc (.cells #[.int .u64 (G : Int), .int .i64 B, .int .u64 (D : Int), .int .u64 (X : Int)] 24)).heap.size = w.heap.size + 1 := by simp
  rw [wz] at b2
  clear c0 c1 c2 c3 e0 e1 e2 e3 d0 d1 d2 d3 L1 hg2 hb2 g0 wz kc
  generalize World.alloc w2 _ = w3 at *
  generalize (some ⟨w2.heap.size, 0, none⟩ : Option Addr) = la at *
  generalize hob : w.heap.size + 1 = ob at *
  have HOB := mkHid (show w.heap.size ≤ ob by omega)
  clear hob
  generalize w.heap.size = sb at x0 ⊢
  have hL : ∀ k, k < 4 → ∃ x, [G, N, D, X][k]? = some x ∧ x < 2 ^ 64 := fun k hk => by
    have : k = 0 ∨ k = 1 ∨ k = 2 ∨ k = 3 := by omega
    rcases this with rfl | rfl | rfl | rfl
    · exact ⟨G, rfl, wg⟩
    · exact ⟨N, rfl, hB64⟩
    · exact ⟨D, rfl, wd⟩
    · exact ⟨X, rfl, wx⟩
  have hLl : ([G, N, D, X] : List Nat).length = 4 := rfl
  have hix := index4 G N D X
  generalize [G, N, D, X] = L at *
  have HP := mkHid (And.intro hpf hfl)
  clear hpf hfl
  go_loopw [3, 18] (fun sv iv wr => ∃ (k : Nat) (ao : Option Addr) (cc : Nat), k ≤ 4 ∧ iv = .int .i64 k ∧ sv = .slice ao (4 + 8 * k) cc ∧ Reads wr ao (bts (pre L k)) ∧ Chg [] w3 wr ∧ (0 < k → Room wr w3.heap.size ao (4 + 8 * k) cc (bts (pre L k)))) (fun _ iv _ => 4 - (intOf iv).toNat)
  case atStart => exact ⟨0, la, 4, by omega, rfl, rfl, by rw [pre_zero]; exact lr, Chg.refl _ _, fun h => absurd h (by omega)⟩
  case round =>
    clear lr
    obtain ⟨k, ao, cc, hk, rfl, rfl, hrd, hgr, hroom⟩ := hrel
    by_cases hlt : k < 4
    · have dk : decide ((k : Int) < 4) = true := decide_eq_true (by omega)
      have dk2 : decide (k < 4) = true := decide_eq_true hlt
      obtain ⟨x, hx, hx64⟩ := hL k hlt
      have hxi := hix k x hx
      have hlp := pre_length L k (by omega)
      have HK := mkHid (And.intro hx (And.intro hroom hlp))
      clear hroom hx hlp hL hix
      go_wp2_with fail
      refine (put_any ao (4 + 8 * k) cc (bts (pre L k)) x 8 wr hrd (by rw [bts_length]; exact HK.out.2.2) (bts_one _) (by omega) (by decide) (by decide) hx64).mono ?_
      rintro e w5 ⟨a5, c5, rfl, r5, g5⟩
      rw [← bts_append, ← pre_succ L k x HK.out.1] at r5 ⊢
      have hl5 : (bts (pre L (k + 1))).length = 4 + 8 * (k + 1) := by rw [bts_length]; exact pre_length L (k + 1) (by omega)
      rw [hl5] at r5 ⊢
      clear hl5
      go_wp2_with fail
      exact ⟨⟨k + 1, a5, c5, by omega, by go_num, rfl, r5.reads, hgr.then g5, fun _ => r5.mono hgr.size⟩, by simp [intOf]; omega⟩
    · obtain rfl : k = 4 := by omega
      have R36 : Room wr w3.heap.size ao 36 cc (bts (pre L 4)) := hroom (by decide)
      have hsz := hgr.size
      clear hroom hL hrd
      go_wp2_with (at_builtin; refine wpList_append_zeros_k _ rfl (.tmp 25) (.const (.int .i64 20)) 25 3 rfl 5 1 eltB (.int .u8 0) (by kernel_rfl) rfl rfl .i64 .i64 Try.underlying3 w3.heap.size ao 36 cc (bts (pre L 4)) rfl R36 hsz 20 rfl (by decide) (by decide) ?_; intro a6 c6 w6 r6 g6 f6; have G6 := hgr.own g6 R36; have x6 := G6.cellv x0 (by simp))
      rw [← bts_rep, ← bts_append] at r6
      refine (put_any a6 56 c6 (bts (pre L 4 ++ List.replicate 20 0)) G 8 w6 r6.reads r6.len (bts_one _) (by decide) (by decide) (by decide) wg).mono ?_
      rintro e w7 ⟨a7, c7, rfl, r7, g7⟩
      rw [← bts_append, HP.out.1] at r7 ⊢
      have hl7 : (bts F).length = 64 := by rw [bts_length]; exact HP.out.2
      rw [hl7] at r7 ⊢
      obtain ⟨b7, o7, rfl, n7, -, v7⟩ := r7.at_ (by have := r7.le; omega)
      have hA : ∀ u : World, (Instr.arrayAt 48 (.slice (some ⟨b7, o7, none⟩) 64 c7)).run Try.prog u = .ok (.pointer (some ⟨b7, o7, none⟩)) u := fun u => run_arrayAt_k u Try.underlying48 _ 64 c7 (by decide)
      have G7 := G6.then g7
      have b7' := b2.keep G7
      have hone := bts_one F
      have HZ := mkHid hl7
      clear hl7 x6 r6 g6 f6 g7 G6 hgr R36
      go_wp2_with (first
        | (refine wpList_load_w rfl 48 (.tmp 31) rfl _ wt64 b7 o7 (bts F) v7 HZ.out rfl ?_)
        | (refine wpList_store_w rfl 48 (.tmp 2) (.tmp 32) rfl _ wt64 ob (bts (List.replicate 64 0)) (bts F) b7' rfl HZ.out hone rfl rfl ?_; intro w8 hb8 g8 hz8))
      refine bodyPost_ret (v := .agg (bts F).toArray) (results_cell_row rfl _ _ ob 48 _ _ _ rfl hb8 Try.underlying48 rfl (wt64.size (by have := HZ.out; simp only [List.size_toArray]; rw [this]; simp [bts_length]))) rfl ⟨rfl, ?_⟩
      exact (G3.then G7).trans g8 (fun _ h _ => h) (fun q hq hlt => by simp at hq; have := HOB.out; omega)
end Go.Proofs.Ythbnakahcchbnaa
