/- A space: New, Copy. -/
import Derived.Test.YtppjjlooocigdaaPg
import Derived.Test.YtppjjlooocigdaaW
namespace Go.Proofs.Ytppjjlooocigdaa
open Go.RowKit
set_option linter.unusedVariables false
set_option linter.unusedSimpArgs false
attribute [local go_sem ↓] Go.wp_at_zero Go.wp_at_succ

theorem spots_range (n : Nat) : SpotsOk n (List.range n) ((List.range n).map (fun x : Nat => (x : Int))) := by
  refine ⟨by simp, fun k hk => ?_, fun x hx hn => absurd (List.mem_range.2 hx) hn⟩
  have hk' : k < n := by simpa using hk
  simp [hk']
theorem heap_range (n : Nat) : Heap (List.range n) n := by
  intro k k0 kn
  rw [key_lt (by simp; omega), key_lt (by simp; omega), List.getElem_range, List.getElem_range]
  omega
theorem all_ints {n : Nat} {xs : List Value} (hl : xs.length = n) (h : ∀ j, j < n → xs[j]? = some (.int .i64 (j : Int))) : xs = ivs (List.range n) := by
  apply List.ext_getElem? 
  intro j
  by_cases hj : j < n
  · rw [h j hj, ivs_get (by simpa using hj), List.getElem_range]
  · rw [List.getElem?_eq_none (by omega), List.getElem?_eq_none (by rw [ivs_len]; simp; omega)]
/-- Two rows that were just made, and a struct of two slices. -/
theorem two_rows (n : Nat) (hn : n ≤ 1024) (w : World) (v0 v1 : Value) (t : TypeId) : 
    let w3 := (((w.alloc (.cells (madeCells #[.int .i64 0] n) 3)).alloc (.cells (madeCells #[.int .i64 0] n) 3)).alloc (.cells #[v0, v1] t)).drew
    Chg [] w w3 ∧ Room w3 w.heap.size (some ⟨w.heap.size, 0, none⟩) n n (List.replicate n (.int .i64 0)) ∧ Room w3 w.heap.size (some ⟨w.heap.size + 1, 0, none⟩) n n (List.replicate n (.int .i64 0)) ∧
      w3.cell? ⟨w.heap.size + 1 + 1, 0, none⟩ = some v0 ∧ w3.cell? ⟨w.heap.size + 1 + 1, 1, none⟩ = some v1 ∧ w3.frozen? ⟨w.heap.size + 1 + 1, 0, none⟩ = false := by
  intro w3
  have ra := made_room w 3 (.int .i64 0) n (by unfold maxLen; omega)
  have rb := made_room (w.alloc (.cells (madeCells #[.int .i64 0] n) 3)) 3 (.int .i64 0) n (by unfold maxLen; omega)
  have z1 : (w.alloc (.cells (madeCells #[.int .i64 0] n) 3)).heap.size = w.heap.size + 1 := by simp
  have g1 := Chg.alloc [] w (.cells (madeCells #[.int .i64 0] n) 3)
  show Chg [] w (((w.alloc (.cells (madeCells #[.int .i64 0] n) 3)).alloc (.cells (madeCells #[.int .i64 0] n) 3)).alloc (.cells #[v0, v1] t)).drew ∧ _
  unfold w3
  clear w3
  generalize w.alloc (.cells (madeCells #[.int .i64 0] n) 3) = w1 at *
  have g2 := Chg.alloc [] w1 (.cells (madeCells #[.int .i64 0] n) 3)
  have ra2 := ra.chg g2 (by simp)
  have z2 : (w1.alloc (.cells (madeCells #[.int .i64 0] n) 3)).heap.size = w.heap.size + 1 + 1 := by simp; omega
  generalize w1.alloc (.cells (madeCells #[.int .i64 0] n) 3) = w2 at *
  rw [z1] at rb
  have hg := (Chg.alloc [] w2 (.cells #[v0, v1] t)).then (Chg.drew [] _)
  have hcl := fun j => cell_of_row (w2.alloc (.cells #[v0, v1] t)).drew w2.heap.size j _ _ _ (heap_alloc_last w2 _)
  have hfz := fun j => frozen_of_row (w2.alloc (.cells #[v0, v1] t)).drew w2.heap.size j _ _ (heap_alloc_last w2 _)
  rw [z2] at hcl hfz
  exact ⟨(g1.then g2).then hg, ra2.chg hg (by simp), (rb.mono (by omega)).chg hg (by simp), hcl 0, hcl 1, hfz 0⟩
set_option maxRecDepth 20000 in
theorem all_any (n : Nat) (hn : n ≤ 1024) (w : World) : Calls Try.prog 46 #[.int .i64 n] w fun e w' => ∃ pb la sa, e = .returned (.pointer (some ⟨pb, 0, none⟩)) ∧ PlAt w' w.heap.size pb la n sa n n (List.range n) ∧ Chg [] w w' := by
  have hm2 : ∀ u : World, (Instr.makeSlice 77 (.int .i64 (n : Int)) (.int .i64 (n : Int))).run Try.prog u = .ok (.slice (some ⟨u.heap.size, 0, none⟩) n n) (u.alloc (.cells (madeCells #[.int .i64 0] n) 3)) := fun u =>
    run_make_k eltN (.int .i64 0) (by kernel_rfl) rfl n (by omega) (by unfold maxLen; omega) u
  go_enter Try.func46, Try.ntmps46
  go_upto_region 1 with fail
  go_cut [3] (fun v wx => ∃ pb lb sb, v = .pointer (some ⟨pb, 0, none⟩) ∧ Chg [] w wx ∧ w.heap.size ≤ pb ∧ w.heap.size ≤ lb ∧ w.heap.size ≤ sb ∧ pb ≠ lb ∧ pb ≠ sb ∧ lb ≠ sb ∧ wx.cell? ⟨pb, 0, none⟩ = some (.slice (some ⟨lb, 0, none⟩) n n) ∧ wx.frozen? ⟨pb, 0, none⟩ = false ∧ wx.cell? ⟨pb, 1, none⟩ = some (.slice (some ⟨sb, 0, none⟩) n n)
    ∧ Room wx w.heap.size (some ⟨lb, 0, none⟩) n n (List.replicate n (.int .i64 0)) ∧ Room wx w.heap.size (some ⟨sb, 0, none⟩) n n (List.replicate n (.int .i64 0)))
  case first =>
    have h1 := two_rows n hn w (.slice (some ⟨w.heap.size, 0, none⟩) n n) (.slice (some ⟨w.heap.size + 1, 0, none⟩) n n) 79
    have h2 := two_rows n hn w (.slice (some ⟨w.heap.size + 1, 0, none⟩) n n) (.slice (some ⟨w.heap.size, 0, none⟩) n n) 79
    have H1 := mkHid h1
    have H2 := mkHid h2
    clear h1 h2
    go_region
    all_goals
      go_wp2_with fail
      go_meet
      obtain ⟨a1, a2, a3, a4, a5, a6⟩ := H1.out
      obtain ⟨b1, b2, b3, b4, b5, b6⟩ := H2.out
      first
      | exact ⟨_, _, _, rfl, a1, by omega, by omega, by omega, by omega, by omega, by omega, a4, a6, a5, a2, a3⟩
      | exact ⟨_, _, _, rfl, b1, by omega, by omega, by omega, by omega, by omega, by omega, b4, b6, b5, b3, b2⟩
  case rest =>
    obtain ⟨pb, lb, sb, rfl, gx, hp, hl, hs, n1, n2, n3, c0, f0, c1, rl, rs⟩ := hcut
    go_wp2_with fail
    go_loopw [12] (fun v wr => ∃ (k : Nat) (xs ys : List Value), v = .int .i64 k ∧ k ≤ n ∧ Room wr w.heap.size (some ⟨lb, 0, none⟩) n n xs ∧ Room wr w.heap.size (some ⟨sb, 0, none⟩) n n ys ∧ (∀ j, j < k → xs[j]? = some (.int .i64 (j : Int))) ∧ (∀ j, j < k → ys[j]? = some (.int .i64 (j : Int))) ∧ Chg [lb, sb] wc wr) (fun v _ => n - (intOf v).toNat)
    case atStart => exact ⟨0, _, _, rfl, Nat.zero_le _, rl, rs, fun j hj => by omega, fun j hj => by omega, Chg.refl _ _⟩
    case round =>
      obtain ⟨k, xs, ys, rfl, hk, hx, hy, ex, ey, hg⟩ := hrel
      have c0r := hg.cellv c0 (by simp; exact ⟨n1, n2⟩)
      have f0r := (hg.frozen (p := ⟨pb, 0, none⟩) (block_lt_of_cell c0) (by simp; exact ⟨n1, n2⟩)).trans f0
      have c1r := hg.cellv c1 (by simp; exact ⟨n1, n2⟩)
      by_cases hlt : k < n
      · obtain ⟨b1, o1, e1, _, q1, _⟩ := hx.at_ (by omega)
        cases e1
        obtain ⟨b2, o2, e2, _, q2, _⟩ := hy.at_ (by omega)
        cases e2
        obtain ⟨t1, fz1⟩ := q1 k hlt
        obtain ⟨t2, fz2⟩ := q2 k hlt
        obtain ⟨v1, t1⟩ := Option.isSome_iff_exists.1 t1
        obtain ⟨v2, t2⟩ := Option.isSome_iff_exists.1 t2
        rw [Nat.zero_add] at t1 t2 fz1 fz2
        have HX := mkHid ex
        have HY := mkHid ey
        clear q1 q2 ex ey
        have t2' := (Chg.setCell wr ⟨lb, k, none⟩ (.int .i64 (k : Int))).cellv t2 (by simpa using fun e => n3 e.symm)
        go_wp2_with fail
        go_region
        go_wp2_with fail
        have hl1 := hx.len
        have hl2 := hy.len
        have x1 := hx.set k hlt (.int .i64 (k : Int))
        have y1 := hy.chg (Chg.setCell wr ⟨lb, k, none⟩ (.int .i64 (k : Int))) (by rw [fp_some _ _ _ (by omega)]; simpa using fun e => n3 e.symm)
        have y2 := y1.set k hlt (.int .i64 (k : Int))
        rw [Nat.zero_add] at x1 y2
        have x2 := x1.chg (Chg.setCell _ ⟨sb, k, none⟩ (.int .i64 (k : Int))) (by rw [fp_some _ _ _ (by omega)]; simpa using n3)
        refine ⟨⟨k + 1, _, _, by first | rfl | go_num, by omega, x2.chg (Chg.drew [] _) (by simp), y2.chg (Chg.drew [] _) (by simp), fun j hj => ?_, fun j hj => ?_, ((hg.trans (Chg.setCell wr ⟨lb, k, none⟩ _) (fun _ h _ => h) (fun k hk _ => by simp at hk; simp [hk])).trans (Chg.setCell _ ⟨sb, k, none⟩ _) (fun _ h _ => h) (fun k hk _ => by simp at hk; simp [hk])).then (Chg.drew [] _)⟩, by simp [intOf]; omega⟩
        · by_cases e : j = k
          · subst e; rw [List.getElem?_set_self (by omega)]
          · rw [List.getElem?_set_ne (fun h => e h.symm)]; exact HX.out j (by omega)
        · by_cases e : j = k
          · subst e; rw [List.getElem?_set_self (by omega)]
          · rw [List.getElem?_set_ne (fun h => e h.symm)]; exact HY.out j (by omega)
      · have hkn : k = n := by omega
        subst hkn
        have hd : decide (k < k) = false := by simp
        have e1 := all_ints hx.len ex
        have e2 := all_ints hy.len ey
        subst e1 e2
        have hlast : Room wr w.heap.size (some ⟨sb, 0, none⟩) k k (zvs ((List.range k).map (fun x : Nat => (x : Int)))) := by
          have : zvs ((List.range k).map (fun x : Nat => (x : Int))) = ivs (List.range k) := by simp [zvs, ivs]
          rw [this]; exact hy
        have HX := mkHid ex
        have HY := mkHid ey
        clear ex ey
        go_wp2_with fail
        go_ret
        refine ⟨pb, some ⟨lb, 0, none⟩, some ⟨sb, 0, none⟩, rfl, ⟨?_, f0r, c1r, ?_, ⟨_, hlast, spots_range k⟩, hn, hp, ?_, ?_, ?_⟩, gx.trans hg (by simp) (fun q hq hlt2 => by simp at hq; omega)⟩
        · rw [List.length_range]; exact c0r
        · rw [List.length_range]; exact hx
        · intro hm; unfold fp at hm; split at hm <;> simp [blk] at hm; exact n1 hm
        · intro hm; unfold fp at hm; split at hm <;> simp [blk] at hm; exact n2 hm
        · intro q hq hm; unfold fp at hq hm; split at hq <;> simp [blk] at hq hm; exact n3 (hq.symm.trans hm.2)
end Go.Proofs.Ytppjjlooocigdaa
