/- Texts Ph, Pi, Ua, Ub, Uc of the library, joined. -/
import Derived.Test.YtdgkbicelnnfpaaGreatDoorM06
import Derived.Test.YtdgkbicelnnfpaaGreatDoorM01
import Derived.Test.YtdgkbicelnnfpaaGreatDoorM03
import Derived.Test.YtdgkbicelnnfpaaGreatDoorM11
/- A space: New, Copy. -/
namespace Go.Proofs.YtdgkbicelnnfpaaGreatDoor
open Go.RowKit
set_option linter.unusedVariables false
set_option linter.unusedSimpArgs false
attribute [local go_sem ↓] Go.wp_at_zero Go.wp_at_succ

theorem spots_range (n : Nat) : SpotsOk n (List.range n) ((List.range n).map (fun x : Nat => (x : Int))) := by
  refine ⟨by simp, fun k hk => ?_, fun x hx hn => absurd (List.mem_range.2 hx) hn⟩
  have hk' : k < n := by simpa using hk
  simp [hk']
theorem heap_range (n : Nat) : HeapF (List.range n) n := by
  intro k k0 kn
  rw [key_ltF (by simp; omega), key_ltF (by simp; omega), List.getElem_range, List.getElem_range]
  omega
theorem all_ints {n : Nat} {xs : List Value} (hl : xs.length = n) (h : ∀ j, j < n → xs[j]? = some (.int .i64 (j : Int))) : xs = ivs (List.range n) := by
  apply List.ext_getElem? 
  intro j
  by_cases hj : j < n
  · rw [h j hj, ivs_get (by simpa using hj), List.getElem_range]
  · rw [List.getElem?_eq_none (by omega), List.getElem?_eq_none (by rw [ivs_len]; simp; omega)]
/-- Two rows that were just made, and a struct of two slices. -/
theorem two_rows (n : Nat) (hn : n ≤ 1024) (w : World) (v0 v1 : Value) (t : TypeId) : 
    let w3 := (((w.alloc (.cells (madeCells #[.int .i64 0] n) 3)).alloc (.cells (madeCells #[.int .i64 0] n) 3)).alloc (.cells #[v0, v1] t)).drew
    Chg [] w w3 ∧ Room w3 w.heap.size (some ⟨w.heap.size, 0, none⟩) n n (List.replicate n (.int .i64 0)) ∧ Room w3 w.heap.size (some ⟨w.heap.size + 1, 0, none⟩) n n (List.replicate n (.int .i64 0)) ∧
      w3.cell? ⟨w.heap.size + 1 + 1, 0, none⟩ = some v0 ∧ w3.cell? ⟨w.heap.size + 1 + 1, 1, none⟩ = some v1 ∧ w3.frozen? ⟨w.heap.size + 1 + 1, 0, none⟩ = false := by
  intro w3
  have ra := made_room w 3 (.int .i64 0) n (by unfold maxLen; omega)
  have rb := made_room (w.alloc (.cells (madeCells #[.int .i64 0] n) 3)) 3 (.int .i64 0) n (by unfold maxLen; omega)
  have z1 : (w.alloc (.cells (madeCells #[.int .i64 0] n) 3)).heap.size = w.heap.size + 1 := by simp
  have g1 := Chg.alloc [] w (.cells (madeCells #[.int .i64 0] n) 3)
  show Chg [] w (((w.alloc (.cells (madeCells #[.int .i64 0] n) 3)).alloc (.cells (madeCells #[.int .i64 0] n) 3)).alloc (.cells #[v0, v1] t)).drew ∧ _
  unfold w3
  clear w3
  generalize w.alloc (.cells (madeCells #[.int .i64 0] n) 3) = w1 at *
  have g2 := Chg.alloc [] w1 (.cells (madeCells #[.int .i64 0] n) 3)
  have ra2 := ra.chg g2 (by simp)
  have z2 : (w1.alloc (.cells (madeCells #[.int .i64 0] n) 3)).heap.size = w.heap.size + 1 + 1 := by simp; omega
  generalize w1.alloc (.cells (madeCells #[.int .i64 0] n) 3) = w2 at *
  rw [z1] at rb
  have hg := (Chg.alloc [] w2 (.cells #[v0, v1] t)).then (Chg.drew [] _)
  have hcl := fun j => cell_of_row (w2.alloc (.cells #[v0, v1] t)).drew w2.heap.size j _ _ _ (heap_alloc_last w2 _)
  have hfz := fun j => frozen_of_row (w2.alloc (.cells #[v0, v1] t)).drew w2.heap.size j _ _ (heap_alloc_last w2 _)
  rw [z2] at hcl hfz
  exact ⟨(g1.then g2).then hg, ra2.chg hg (by simp), (rb.mono (by omega)).chg hg (by simp), hcl 0, hcl 1, hfz 0⟩
set_option maxRecDepth 20000 in
theorem all_any (n : Nat) (hn : n ≤ 1024) (w : World) : Calls Tryz.prog 125 #[.int .i64 n] w fun e w' => ∃ pb la sa, e = .returned (.pointer (some ⟨pb, 0, none⟩)) ∧ PlAt w' w.heap.size pb la n sa n n (List.range n) ∧ Chg [] w w' := by
  have hm2 : ∀ u : World, (Instr.makeSlice 79 (.int .i64 (n : Int)) (.int .i64 (n : Int))).run Tryz.prog u = .ok (.slice (some ⟨u.heap.size, 0, none⟩) n n) (u.alloc (.cells (madeCells #[.int .i64 0] n) 3)) := fun u =>
    run_make_k eltNF (.int .i64 0) (by kernel_rfl) rfl n (by omega) (by unfold maxLen; omega) u
  go_enter Tryz.func125, Tryz.ntmps125
  go_upto_region 1 with fail
  go_cut [3] (fun v wx => ∃ pb lb sb, v = .pointer (some ⟨pb, 0, none⟩) ∧ Chg [] w wx ∧ w.heap.size ≤ pb ∧ w.heap.size ≤ lb ∧ w.heap.size ≤ sb ∧ pb ≠ lb ∧ pb ≠ sb ∧ lb ≠ sb ∧ wx.cell? ⟨pb, 0, none⟩ = some (.slice (some ⟨lb, 0, none⟩) n n) ∧ wx.frozen? ⟨pb, 0, none⟩ = false ∧ wx.cell? ⟨pb, 1, none⟩ = some (.slice (some ⟨sb, 0, none⟩) n n)
    ∧ Room wx w.heap.size (some ⟨lb, 0, none⟩) n n (List.replicate n (.int .i64 0)) ∧ Room wx w.heap.size (some ⟨sb, 0, none⟩) n n (List.replicate n (.int .i64 0)))
  case first =>
    have h1 := two_rows n hn w (.slice (some ⟨w.heap.size, 0, none⟩) n n) (.slice (some ⟨w.heap.size + 1, 0, none⟩) n n) 190
    have h2 := two_rows n hn w (.slice (some ⟨w.heap.size + 1, 0, none⟩) n n) (.slice (some ⟨w.heap.size, 0, none⟩) n n) 190
    have H1 := mkHid h1
    have H2 := mkHid h2
    clear h1 h2
    go_region
    all_goals
      go_wp2_with fail
      go_meet
      obtain ⟨a1, a2, a3, a4, a5, a6⟩ := H1.out
      obtain ⟨b1, b2, b3, b4, b5, b6⟩ := H2.out
      first
      | exact ⟨_, _, _, rfl, a1, by omega, by omega, by omega, by omega, by omega, by omega, a4, a6, a5, a2, a3⟩
      | exact ⟨_, _, _, rfl, b1, by omega, by omega, by omega, by omega, by omega, by omega, b4, b6, b5, b3, b2⟩
  case rest =>
    obtain ⟨pb, lb, sb, rfl, gx, hp, hl, hs, n1, n2, n3, c0, f0, c1, rl, rs⟩ := hcut
    go_wp2_with fail
    go_loopw [12] (fun v wr => ∃ (k : Nat) (xs ys : List Value), v = .int .i64 k ∧ k ≤ n ∧ Room wr w.heap.size (some ⟨lb, 0, none⟩) n n xs ∧ Room wr w.heap.size (some ⟨sb, 0, none⟩) n n ys ∧ (∀ j, j < k → xs[j]? = some (.int .i64 (j : Int))) ∧ (∀ j, j < k → ys[j]? = some (.int .i64 (j : Int))) ∧ Chg [lb, sb] wc wr) (fun v _ => n - (Go.RowKit.intOf v).toNat)
    case atStart => exact ⟨0, _, _, rfl, Nat.zero_le _, rl, rs, fun j hj => by omega, fun j hj => by omega, Chg.refl _ _⟩
    case round =>
      obtain ⟨k, xs, ys, rfl, hk, hx, hy, ex, ey, hg⟩ := hrel
      have c0r := hg.cellv c0 (by simp; exact ⟨n1, n2⟩)
      have f0r := (hg.frozen (p := ⟨pb, 0, none⟩) (block_lt_of_cell c0) (by simp; exact ⟨n1, n2⟩)).trans f0
      have c1r := hg.cellv c1 (by simp; exact ⟨n1, n2⟩)
      by_cases hlt : k < n
      · obtain ⟨b1, o1, e1, _, q1, _⟩ := hx.at_ (by omega)
        cases e1
        obtain ⟨b2, o2, e2, _, q2, _⟩ := hy.at_ (by omega)
        cases e2
        obtain ⟨t1, fz1⟩ := q1 k hlt
        obtain ⟨t2, fz2⟩ := q2 k hlt
        obtain ⟨v1, t1⟩ := Option.isSome_iff_exists.1 t1
        obtain ⟨v2, t2⟩ := Option.isSome_iff_exists.1 t2
        rw [Nat.zero_add] at t1 t2 fz1 fz2
        have HX := mkHid ex
        have HY := mkHid ey
        clear q1 q2 ex ey
        have t2' := (Chg.setCell wr ⟨lb, k, none⟩ (.int .i64 (k : Int))).cellv t2 (by simpa using fun e => n3 e.symm)
        go_wp2_with fail
        go_region
        go_wp2_with fail
        have hl1 := hx.len
        have hl2 := hy.len
        have x1 := hx.set k hlt (.int .i64 (k : Int))
        have y1 := hy.chg (Chg.setCell wr ⟨lb, k, none⟩ (.int .i64 (k : Int))) (by rw [fp_some _ _ _ (by omega)]; simpa using fun e => n3 e.symm)
        have y2 := y1.set k hlt (.int .i64 (k : Int))
        rw [Nat.zero_add] at x1 y2
        have x2 := x1.chg (Chg.setCell _ ⟨sb, k, none⟩ (.int .i64 (k : Int))) (by rw [fp_some _ _ _ (by omega)]; simpa using n3)
        refine ⟨⟨k + 1, _, _, by first | rfl | go_num, by omega, x2.chg (Chg.drew [] _) (by simp), y2.chg (Chg.drew [] _) (by simp), fun j hj => ?_, fun j hj => ?_, ((hg.trans (Chg.setCell wr ⟨lb, k, none⟩ _) (fun _ h _ => h) (fun k hk _ => by simp at hk; simp [hk])).trans (Chg.setCell _ ⟨sb, k, none⟩ _) (fun _ h _ => h) (fun k hk _ => by simp at hk; simp [hk])).then (Chg.drew [] _)⟩, by simp [Go.RowKit.intOf]; omega⟩
        · by_cases e : j = k
          · subst e; rw [List.getElem?_set_self (by omega)]
          · rw [List.getElem?_set_ne (fun h => e h.symm)]; exact HX.out j (by omega)
        · by_cases e : j = k
          · subst e; rw [List.getElem?_set_self (by omega)]
          · rw [List.getElem?_set_ne (fun h => e h.symm)]; exact HY.out j (by omega)
      · have hkn : k = n := by omega
        subst hkn
        have hd : decide (k < k) = false := by simp
        have e1 := all_ints hx.len ex
        have e2 := all_ints hy.len ey
        subst e1 e2
        have hlast : Room wr w.heap.size (some ⟨sb, 0, none⟩) k k (zvs ((List.range k).map (fun x : Nat => (x : Int)))) := by
          have : zvs ((List.range k).map (fun x : Nat => (x : Int))) = ivs (List.range k) := by simp [zvs, ivs]
          rw [this]; exact hy
        have HX := mkHid ex
        have HY := mkHid ey
        clear ex ey
        go_wp2_with fail
        go_ret
        refine ⟨pb, some ⟨lb, 0, none⟩, some ⟨sb, 0, none⟩, rfl, ⟨?_, f0r, c1r, ?_, ⟨_, hlast, spots_range k⟩, hn, hp, ?_, ?_, ?_⟩, gx.trans hg (by simp) (fun q hq hlt2 => by simp at hq; omega)⟩
        · rw [List.length_range]; exact c0r
        · rw [List.length_range]; exact hx
        · intro hm; unfold fp at hm; split at hm <;> simp [blk] at hm; exact n1 hm
        · intro hm; unfold fp at hm; split at hm <;> simp [blk] at hm; exact n2 hm
        · intro q hq hm; unfold fp at hq hm; split at hq <;> simp [blk] at hq hm; exact n3 (hq.symm.trans hm.2)
end Go.Proofs.YtdgkbicelnnfpaaGreatDoor

/- A space: New, Copy. -/
namespace Go.Proofs.YtdgkbicelnnfpaaGreatDoor
open Go.RowKit
set_option linter.unusedVariables false
set_option linter.unusedSimpArgs false
attribute [local go_sem ↓] Go.wp_at_zero Go.wp_at_succ

/-- A space around places. -/
theorem space_close {w : World} {B pb : Nat} {la : Option Addr} {cl : Nat} {sa : Option Addr} {cs n : Nat} {L : List Nat} {Is : List Bool} {t : TypeId} (hB : B ≤ w.heap.size) (hP : PlAt w B pb la cl sa cs n L) (hH : HeapF L L.length) (hn : Is.length = n) (hm : ∀ x, x ∈ L ↔ Is[x]? = some true) :
    ∃ F, SpAt (w.alloc (.cells #[.pointer (some ⟨pb, 0, none⟩)] t)) B w.heap.size F Is ∧ Chg [] w (w.alloc (.cells #[.pointer (some ⟨pb, 0, none⟩)] t)) := by
  subst hn
  have g := Chg.alloc [] w (.cells #[.pointer (some ⟨pb, 0, none⟩)] t)
  refine ⟨_, ⟨pb, la, cl, sa, cs, L, ?_, hB, hP.keep g, hH, hm, fun hk => ?_, rfl⟩, g⟩
  · exact cell_of_row _ _ _ _ _ _ (heap_alloc_last w _)
  · have := (hP.lt _ hk).2; omega
theorem new_yes (n : Nat) (hn : n ≤ 1024) (w : World) : Calls Tryz.prog 73 #[.int .i64 n] w fun e w' => ∃ sb F, e = .returned (.tuple #[.pointer (some ⟨sb, 0, none⟩), .int .i64 0]) ∧ SpAt w' w.heap.size sb F (List.replicate n true) ∧ Chg [] w w' := by
  have d1 : decide ((n : Int) < 0) = false := decide_eq_false (by omega)
  have d2 : decide ((n : Int) > 1024) = false := decide_eq_false (by omega)
  have d3 : decide ((1024 : Int) < (n : Int)) = false := decide_eq_false (by omega)
  go_enter Tryz.func73, Tryz.ntmps73
  go_wp2_with (first | (go_at_call 125; refine (all_any n hn w).mono ?_; rintro e w1 ⟨pb, la, sa, rfl, hP, hg⟩))
  go_ret2
  obtain ⟨F, hS, h2⟩ := space_close (t := 188) (Is := List.replicate n true) hg.size hP (by rw [List.length_range]; exact heap_range n) (by simp) (fun x => by
    rw [List.mem_range, List.getElem?_replicate]
    by_cases h : x < n
    · simp [h]
    · simp [h])
  exact ⟨_, F, rfl, hS, hg.then h2⟩
/-- slices.Clone at integers. -/
theorem clone_any (ao : Option Addr) (n c : Nat) (xs : List Value) (w : World) (g : Reads w ao xs) (gn : xs.length = n) (h0 : ao = none → n = 0 ∧ c = 0) (hone : ∀ u ∈ xs, u.oneCell' = true) (hn : n ≤ 1000000000) :
    Calls Tryz.prog 187 #[.slice ao n c] w fun e w' => ∃ a' c', e = .returned (.slice a' n c') ∧ Room w' w.heap.size a' n c' xs ∧ Chg [] w w' := by
  have hml : maxLen = 9223372036854775807 := rfl
  cases ao with
  | none =>
    obtain ⟨rfl, rfl⟩ := h0 rfl
    have hx : xs = [] := List.eq_nil_of_length_eq_zero gn
    subst hx
    have heq := fun (w : World) (n c : Nat) => Lib.run_eql_slice_nil (P := Tryz.prog) w 79 3 none n c 0 0 Tryz.underlying79
    simp only [Option.isNone_none] at heq
    go_enter Tryz.func187, Tryz.ntmps187
    go_wp2_with fail
    go_ret
    exact ⟨none, 0, rfl, Room.nil _ _ _, Chg.refl _ _⟩
  | some p =>
    have heq := fun (w : World) (n c : Nat) => Lib.run_eql_slice_nil (P := Tryz.prog) w 79 3 (some p) n c 0 0 Tryz.underlying79
    simp only [Option.isNone_some] at heq
    go_enter Tryz.func187, Tryz.ntmps187
    go_wp2_with (first | (at_builtin; refine wpList_append_k _ rfl (.tmp 5) (.tmp 6) 79 rfl 3 8 eltNF w.heap.size _ 0 0 [] rfl (Room.nil _ _ _) (by simp) (some p) n c xs rfl (g.keep (Chg.alloc [] w _)) gn hone (by omega) (by omega) ?_; intro a1 c1 w1 hr1 hg1 hf1; simp only [Nat.zero_add, List.nil_append] at hr1))
    go_ret
    exact ⟨a1, c1, rfl, hr1, (Chg.alloc [] w _).trans hg1 (fun _ h _ => h) (fun k h _ => by rw [fp_zero] at h; exact h)⟩
theorem Room.none0 {w : World} {B : Nat} {ao : Option Addr} {n c : Nat} {xs : List Value} (h : Room w B ao n c xs) : ao = none → n = 0 ∧ c = 0 := by
  rintro rfl
  rcases Nat.eq_zero_or_pos c with h0 | h0
  · exact ⟨by have := h.le; omega, h0⟩
  · obtain ⟨b, o, e, _⟩ := h.at_ h0; cases e
theorem copy_close {wa wb : World} {B n : Nat} {L : List Nat} {S : List Int} {a1 a2 : Option Addr} {k1 k2 : Nat} {t : TypeId} (hn : n ≤ 1024) (hok : SpotsOk n L S) (hB : B ≤ wa.heap.size) (ra : Room wa B a1 L.length k1 (ivs L)) (rb : Room wb B a2 n k2 (zvs S)) (gb : Chg [] wa wb) (fb : ∀ k, k ∈ fp a2 k2 → wa.heap.size ≤ k) :
    PlAt (wb.alloc (.cells #[.slice a1 L.length k1, .slice a2 n k2] t)) B wb.heap.size a1 k1 a2 k2 n L ∧ Chg [] wa (wb.alloc (.cells #[.slice a1 L.length k1, .slice a2 n k2] t)) := by
  have g := Chg.alloc [] wb (.cells #[.slice a1 L.length k1, .slice a2 n k2] t)
  have hcl := fun j => cell_of_row (wb.alloc (.cells #[.slice a1 L.length k1, .slice a2 n k2] t)) wb.heap.size j _ _ _ (heap_alloc_last wb _)
  have hfz := fun j => frozen_of_row (wb.alloc (.cells #[.slice a1 L.length k1, .slice a2 n k2] t)) wb.heap.size j _ _ (heap_alloc_last wb _)
  have rab := ra.chg gb (by simp)
  refine ⟨⟨hcl 0, hfz 0, hcl 1, rab.chg g (by simp), ⟨S, rb.chg g (by simp), hok⟩, hn, Nat.le_trans hB gb.size, fun hk => ?_, fun hk => ?_, fun k hk h2 => ?_⟩, gb.then g⟩
  · have := (rab.lt _ hk).2; omega
  · have := (rb.lt _ hk).2; omega
  · have h3 := (ra.lt k hk).2
    have h4 := fb k h2
    omega
set_option maxRecDepth 20000 in
theorem plcopy_any (B pb : Nat) (la : Option Addr) (cl : Nat) (sa : Option Addr) (cs n : Nat) (L : List Nat) (w : World) (h : PlAt w B pb la cl sa cs n L) :
    Calls Tryz.prog 175 #[.pointer (some ⟨pb, 0, none⟩)] w fun e w' => ∃ pb' la' cl' sa' cs', e = .returned (.pointer (some ⟨pb', 0, none⟩)) ∧ PlAt w' w.heap.size pb' la' cl' sa' cs' n L ∧ Chg [] w w' := by
  have c0 := h.c0
  have c1 := h.c1
  have hle := h.le
  have hnn := h.nn
  obtain ⟨S, hS, hok⟩ := h.s
  have hSl := hok.len
  have hK : ∀ w1, Chg [] w w1 → Calls Tryz.prog 187 #[.slice la L.length cl] w1 fun e w' => ∃ a' c', e = .returned (.slice a' L.length c') ∧ Room w' w.heap.size a' L.length c' (ivs L) ∧ Chg [] w1 w' ∧ (∀ k, k ∈ fp a' c' → w1.heap.size ≤ k) := fun w1 g1 => by
    refine (clone_any la L.length cl (ivs L) w1 (h.r.reads.keep g1) (ivs_len L) h.r.none0 (ivs_one L) (by omega)).mono ?_
    rintro e w' ⟨a', c', he, hr, hg⟩
    exact ⟨a', c', he, hr.mono g1.size, hg, fun k hk => (hr.lt k hk).1⟩
  have hZ : ∀ w1, Chg [] w w1 → Calls Tryz.prog 187 #[.slice sa n cs] w1 fun e w' => ∃ a' c', e = .returned (.slice a' n c') ∧ Room w' w.heap.size a' n c' (zvs S) ∧ Chg [] w1 w' ∧ (∀ k, k ∈ fp a' c' → w1.heap.size ≤ k) := fun w1 g1 => by
    refine (clone_any sa n cs (zvs S) w1 (hS.reads.keep g1) (by rw [zvs_len, hSl]) hS.none0 (zvs_one S) (by omega)).mono ?_
    rintro e w' ⟨a', c', he, hr, hg⟩
    exact ⟨a', c', he, hr.mono g1.size, hg, fun k hk => (hr.lt k hk).1⟩
  have HK := mkHid hK
  have HZ := mkHid hZ
  clear hK hZ
  go_enter Tryz.func175, Tryz.ntmps175
  go_wp2_with fail
  go_region_law (first
    | (go_simp; go_at_call_of 187 la; refine (HK.out _ (by first | exact Chg.refl _ _ | exact Chg.drew _ _)).mono ?_; rintro e wa ⟨a1, k1, rfl, ra, ga, fa⟩; have c1a := ga.cellv c1 (by simp); have c1b := c1a)
    | (go_simp; go_at_call_of 187 sa; refine (HZ.out _ ((Chg.drew [] w).then ga)).mono ?_; rintro e wb ⟨a2, k2, rfl, rb, gb, fb⟩))
  all_goals
    obtain ⟨hP, hC⟩ := copy_close (t := 190) hnn hok (by have := ga.size; simpa using this) ra rb gb fb
    go_wp2_with fail
    go_ret
    first
    | exact ⟨_, _, _, _, _, rfl, hP, ga.then hC⟩
    | exact ⟨_, _, _, _, _, rfl, hP, ((Chg.drew [] w).then ga).then hC⟩
    | exact ⟨_, _, _, _, _, rfl, hP.keep (Chg.drew [] _), (ga.then hC).then (Chg.drew [] _)⟩
    | exact ⟨_, _, _, _, _, rfl, hP.keep (Chg.drew [] _), (((Chg.drew [] w).then ga).then hC).then (Chg.drew [] _)⟩
theorem copy_any (B sb : Nat) (F : List Nat) (Is : List Bool) (w : World) (h : SpAt w B sb F Is) :
    Calls Tryz.prog 147 #[.pointer (some ⟨sb, 0, none⟩)] w fun e w' => ∃ sb' F', e = .returned (.pointer (some ⟨sb', 0, none⟩)) ∧ SpAt w' w.heap.size sb' F' Is ∧ Chg [] w w' := by
  obtain ⟨pb, la, cl, sa, cs, L, c0, hB, hP, hH, hm, hx, rfl⟩ := h.ex
  have cM := made_yesF sb pb w c0
  have cC := plcopy_any B pb la cl sa cs Is.length L w hP
  have HM := mkHid hm
  have HH := mkHid hH
  clear hm hH
  go_enter Tryz.func147, Tryz.ntmps147
  go_wp2_with (first | (go_at_call 103; refine cM.mono ?_; rintro e w' ⟨rfl, rfl⟩) | (go_at_call 175; refine cC.mono ?_; rintro e w1 ⟨pb', la', cl', sa', cs', rfl, hP', hg⟩))
  go_ret
  obtain ⟨F, hS, h2⟩ := space_close (t := 188) (Is := Is) hg.size hP' HH.out rfl HM.out
  exact ⟨_, F, rfl, hS, hg.then h2⟩
end Go.Proofs.YtdgkbicelnnfpaaGreatDoor

/- Refs in memory: the counts, those of the commit, the space; the calls that only read. -/


namespace Go.Proofs.YtdgkbicelnnfpaaGreatDoor
set_option maxRecDepth 200000
open Go.RowKit
set_option linter.unusedVariables false
set_option linter.unusedSimpArgs false
attribute [local go_sem ↓] Go.wp_at_zero Go.wp_at_succ

/-- Which blocks are free: those whose count is 0, and that of the commit, too. -/
def freeI (N C : List UInt8) : List Bool := List.zipWith (fun a b => a == 0 && b == 0) N C
theorem freeI_len {N C : List UInt8} {n : Nat} (h : N.length = n) (g : C.length = n) : (freeI N C).length = n := by simp [freeI, h, g]
theorem freeI_get {N C : List UInt8} {j : Nat} {a b : UInt8} (h : N[j]? = some a) (g : C[j]? = some b) : (freeI N C)[j]? = some (a == 0 && b == 0) := by
  simp [freeI, List.getElem?_zipWith, h, g]
theorem freeI_true {N C : List UInt8} {j : Nat} : (freeI N C)[j]? = some true ↔ N[j]? = some 0 ∧ C[j]? = some 0 := by
  unfold freeI
  rw [List.getElem?_zipWith]
  cases hN : N[j]? with
  | none => simp
  | some a => cases hC : C[j]? with
    | none => simp
    | some b => simp
theorem bool_set_same {l : List Bool} {j : Nat} {b : Bool} (h : l[j]? = some b) : l.set j b = l := by
  apply List.ext_getElem?
  intro i
  by_cases e : i = j
  · subst e; rw [List.getElem?_set_self (List.getElem?_eq_some_iff.1 h).1, h]
  · rw [List.getElem?_set_ne (fun h => e h.symm)]
theorem freeI_set {N C : List UInt8} {j : Nat} {a b : UInt8} (hN : N[j]? = some a) (hC : C[j]? = some b) (v : UInt8) : freeI (N.set j v) C = (freeI N C).set j (v == 0 && b == 0) := by
  have h1 := (List.getElem?_eq_some_iff.1 hN).1
  have h2 := (List.getElem?_eq_some_iff.1 hC).1
  apply List.ext_getElem?
  intro i
  by_cases e : i = j
  · subst e
    rw [List.getElem?_set_self (by simp [freeI]; omega)]
    exact freeI_get (List.getElem?_set_self h1) hC
  · rw [List.getElem?_set_ne (fun h => e h.symm)]
    unfold freeI
    rw [List.getElem?_zipWith, List.getElem?_zipWith, List.getElem?_set_ne (fun h => e h.symm)]

/-! ### what the calls do to the counts -/
def allocN (N C : List UInt8) : Int × Int × List UInt8 := match freeL (freeI N C) with
  | [] => (0, 8, N)
  | x :: _ => ((x : Int), 0, N.set x 1)
def isIn (N : List UInt8) (z : Int) : Bool := decide (0 ≤ z ∧ z < (N.length : Int))
def at0 (N : List UInt8) (z : Int) : UInt8 := (N[z.toNat]?).getD 0
def incN (N : List UInt8) (z : Int) : Int × List UInt8 := if isIn N z then (if at0 N z = 0 then (6, N) else if at0 N z = 255 then (8, N) else (0, N.set z.toNat (at0 N z + 1))) else (1, N)
def decN (N : List UInt8) (z : Int) : Bool × Int × List UInt8 := if isIn N z then (if at0 N z = 0 then (false, 6, N) else (decide (at0 N z = 1), 0, N.set z.toNat (at0 N z - 1))) else (false, 1, N)
def cntN (N : List UInt8) (z : Int) : Int := if isIn N z then ((at0 N z).toNat : Int) else 0
def newN (N C : List UInt8) (z : Int) : Bool := isIn N z && (at0 N z != 0 && at0 C z == 0)
theorem isIn_yes {N : List UInt8} {x n : Nat} (hn : N.length = n) (h : x < n) : isIn N (x : Int) = true := by unfold isIn; simp; omega
theorem isIn_no {N : List UInt8} {z : Int} {n : Nat} (hn : N.length = n) (h : ¬ (0 ≤ z ∧ z < (n : Int))) : isIn N z = false := by unfold isIn; rw [hn]; exact decide_eq_false h
theorem at0_of {N : List UInt8} {x : Nat} {a : UInt8} (h : N[x]? = some a) : at0 N (x : Int) = a := by simp [at0, h]
theorem u8_nat {a : UInt8} {m : Nat} (h : a.toNat = m) (b : UInt8) : (a = b) ↔ m = b.toNat := by
  rw [← h]; exact ⟨fun e => by rw [e], fun e => UInt8.toNat_inj.1 e⟩
theorem take_alloc {N C : List UInt8} (h : C.length = N.length) : takeNF (freeI N C) = ((allocN N C).1, (allocN N C).2.1, freeI (allocN N C).2.2 C) := by
  unfold takeNF allocN
  cases hf : freeL (freeI N C) with
  | nil => rfl
  | cons x r =>
    have hx := (mem_freeL _ x).1 (by rw [hf]; simp)
    obtain ⟨h1, h2⟩ := freeI_true.1 hx
    show ((x : Int), 0, (freeI N C).set x false) = ((x : Int), 0, freeI (N.set x 1) C)
    rw [freeI_set h1 h2]
    rfl

/-- Refs in block rb: the counts in block nb, those of the commit in block cb, the space in block sb, its blocks Fs. -/
structure RfsAt (w : World) (B rb nb cb sb : Nat) (Fs : List Nat) (n : Nat) (N C : List UInt8) : Prop where
  c0 : w.cell? ⟨rb, 0, none⟩ = some (.slice (some ⟨nb, 0, none⟩) n n)
  c1 : w.cell? ⟨rb, 1, none⟩ = some (.slice (some ⟨cb, 0, none⟩) n n)
  c2 : w.cell? ⟨rb, 2, none⟩ = some (.pointer (some ⟨sb, 0, none⟩))
  fz : ∀ j, w.frozen? ⟨rb, j, none⟩ = false
  rn : Room w B (some ⟨nb, 0, none⟩) n n (bts N)
  rc : Room w B (some ⟨cb, 0, none⟩) n n (bts C)
  sp : SpAt w B sb Fs (freeI N C)
  n0 : 0 < n
  nn : n ≤ 1024
  rB : B ≤ rb
  d1 : rb ≠ nb
  d2 : rb ≠ cb
  d3 : nb ≠ cb
  d4 : rb ∉ Fs
  d5 : nb ∉ Fs
  d6 : cb ∉ Fs
section
variable {w w' : World} {B rb nb cb sb : Nat} {Fs : List Nat} {n : Nat} {N C : List UInt8}
theorem RfsAt.lN (h : RfsAt w B rb nb cb sb Fs n N C) : N.length = n := by have := h.rn.len; rwa [bts_length] at this
theorem RfsAt.lC (h : RfsAt w B rb nb cb sb Fs n N C) : C.length = n := by have := h.rc.len; rwa [bts_length] at this
theorem RfsAt.ltr (h : RfsAt w B rb nb cb sb Fs n N C) : rb < w.heap.size := block_lt_of_cell h.c0
theorem RfsAt.ltn (h : RfsAt w B rb nb cb sb Fs n N C) : B ≤ nb ∧ nb < w.heap.size := h.rn.lt nb (by rw [fp_some _ _ _ h.n0]; simp)
theorem RfsAt.ltc (h : RfsAt w B rb nb cb sb Fs n N C) : B ≤ cb ∧ cb < w.heap.size := h.rc.lt cb (by rw [fp_some _ _ _ h.n0]; simp)
theorem RfsAt.lt (h : RfsAt w B rb nb cb sb Fs n N C) : ∀ k, k ∈ rb :: nb :: cb :: Fs → B ≤ k ∧ k < w.heap.size := by
  intro k hk
  simp only [List.mem_cons] at hk
  rcases hk with rfl | rfl | rfl | hk
  · exact ⟨h.rB, h.ltr⟩
  · exact h.ltn
  · exact h.ltc
  · exact h.sp.lt k hk
theorem RfsAt.chg {S : List Nat} (h : RfsAt w B rb nb cb sb Fs n N C) (c : Chg S w w') (hn : ∀ k, k ∈ rb :: nb :: cb :: Fs → k ∉ S) : RfsAt w' B rb nb cb sb Fs n N C := by
  have h1 := hn rb (by simp)
  exact ⟨c.cellv h.c0 h1, c.cellv h.c1 h1, c.cellv h.c2 h1, fun j => (c.frozen (p := ⟨rb, j, none⟩) (show rb < w.heap.size from h.ltr) h1).trans (h.fz j),
    h.rn.chg c (fun k hk => by rw [fp_some _ _ _ h.n0] at hk; simp at hk; subst hk; exact hn _ (by simp)), h.rc.chg c (fun k hk => by rw [fp_some _ _ _ h.n0] at hk; simp at hk; subst hk; exact hn _ (by simp)),
    h.sp.chg c (fun k hk => hn k (by simp [hk])), h.n0, h.nn, h.rB, h.d1, h.d2, h.d3, h.d4, h.d5, h.d6⟩
theorem RfsAt.keep (h : RfsAt w B rb nb cb sb Fs n N C) (c : Chg [] w w') : RfsAt w' B rb nb cb sb Fs n N C := h.chg c (by simp)
theorem RfsAt.mono {B' : Nat} (h : RfsAt w B rb nb cb sb Fs n N C) (hB : B' ≤ B) : RfsAt w B' rb nb cb sb Fs n N C :=
  ⟨h.c0, h.c1, h.c2, h.fz, h.rn.mono hB, h.rc.mono hB, h.sp.mono hB, h.n0, h.nn, Nat.le_trans hB h.rB, h.d1, h.d2, h.d3, h.d4, h.d5, h.d6⟩
end
/-- kept: the same counts, in new memory. -/
theorem kept_any (ao : Option Addr) (n c : Nat) (l : List UInt8) (w : World) (g : Reads w ao (bts l)) (gn : l.length = n) (n0 : 0 < n) (nn : n ≤ 1024) :
    Calls Tryz.prog 45 #[.slice ao n c] w fun e w' => ∃ b, e = .returned (.slice (some ⟨b, 0, none⟩) n n) ∧ w.heap.size ≤ b ∧ Room w' w.heap.size (some ⟨b, 0, none⟩) n n (bts l) ∧ Chg [] w w' := by
  have hm2 : ∀ u : World, (Instr.makeSlice 27 (.int .i64 (n : Int)) (.int .i64 (n : Int))).run Tryz.prog u = .ok (.slice (some ⟨u.heap.size, 0, none⟩) n n) (u.alloc (.cells (madeCells #[.int .u8 0] n) 5)) := fun u =>
    run_make_k eltB (.int .u8 0) (by kernel_rfl) rfl n (by omega) (by unfold maxLen; omega) u
  have hR := made_room w 5 (.int .u8 0) n (by unfold maxLen; omega)
  have g2 := g.keep (Chg.alloc [] w (.cells (madeCells #[.int .u8 0] n) 5))
  have hl : (bts l).length = n := by rw [bts_length]; exact gn
  have hth := hR.there 0 n (by omega)
  have hs := hR.sets (bts l) 0 (by omega)
  have hc1 := Chg.alloc [] w (.cells (madeCells #[.int .u8 0] n) 5)
  have hz : w.heap.size < (w.alloc (.cells (madeCells #[.int .u8 0] n) 5)).heap.size := by simp
  have e1 : (List.replicate n (Value.int .u8 0)).take 0 ++ (bts l ++ (List.replicate n (Value.int .u8 0)).drop (0 + (bts l).length)) = bts l := by
    rw [hl]; simp
  rw [e1] at hs
  have hc2 := Chg.setCells w.heap.size (bts l) 0 (w.alloc (.cells (madeCells #[.int .u8 0] n) 5))
  have HL := mkHid hl
  have HE := mkHid e1
  clear hl e1 hR gn
  go_enter Tryz.func45, Tryz.ntmps45
  go_wp2_with (refine wpList_copy_k rfl (.tmp 7) (.tmp 8) 27 27 5 rfl Tryz.underlying27 oneB w.heap.size 0 n n ao n c (bts l) rfl rfl g2 (by rw [HL.out]; exact (Nat.min_self _).symm) (by rw [HL.out]; exact hth) (bts_one _) ?_)
  go_ret
  exact ⟨w.heap.size, rfl, Nat.le_refl _, hs, hc1.trans hc2 (by simp) (fun k hk hlt => by simp at hk; omega)⟩
end Go.Proofs.YtdgkbicelnnfpaaGreatDoor

/- Refs: made, has, Count, Fresh, Free, Counts. -/
namespace Go.Proofs.YtdgkbicelnnfpaaGreatDoor
set_option maxRecDepth 200000
open Go.RowKit
set_option linter.unusedVariables false
set_option linter.unusedSimpArgs false
attribute [local go_sem ↓] Go.wp_at_zero Go.wp_at_succ

theorem rmade_yes (rb sb : Nat) (w : World) (c2 : w.cell? ⟨rb, 2, none⟩ = some (.pointer (some ⟨sb, 0, none⟩))) : Calls Tryz.prog 44 #[.pointer (some ⟨rb, 0, none⟩)] w fun e w' => e = .returned (.bool true) ∧ w = w' := by
  go_enter Tryz.func44, Tryz.ntmps44
  go_wp2
  go_ret
  exact ⟨rfl, rfl⟩
/-- A byte of a row, as a number. -/
theorem byte_at {l : List UInt8} {x n : Nat} (hl : l.length = n) (hx : x < n) : ∃ a : UInt8, ∃ m : Nat, l[x]? = some a ∧ a.toNat = m ∧ m ≤ 255 := by
  have h : x < l.length := by omega
  exact ⟨l[x], _, List.getElem?_eq_getElem h, rfl, by have := l[x].toNat_lt; omega⟩
theorem bts_at {l : List UInt8} {x : Nat} {a : UInt8} {m : Nat} (h : l[x]? = some a) (hm : a.toNat = m) : (bts l)[x]? = some (.int .u8 (m : Int)) := by
  have hx := (List.getElem?_eq_some_iff.1 h).1
  rw [bts_get l x hx]
  have : l[x] = a := by rw [List.getElem?_eq_getElem hx] at h; simpa using h
  rw [this, hm]
theorem Room.read {w : World} {B b o n c : Nat} {l : List UInt8} (h : Room w B (some ⟨b, o, none⟩) n c (bts l)) {x : Nat} {a : UInt8} {m : Nat} (hx : l[x]? = some a) (hm : a.toNat = m) : w.cell? ⟨b, o + x, none⟩ = some (.int .u8 (m : Int)) :=
  h.reads.cell x _ (bts_at hx hm)
section
variable (B rb nb cb sb : Nat) (Fs : List Nat) (n : Nat) (N C : List UInt8) (w : World) (h : RfsAt w B rb nb cb sb Fs n N C)
include h
theorem rhas_any (z : Int) : Calls Tryz.prog 55 #[.pointer (some ⟨rb, 0, none⟩), .int .i64 z] w fun e w' => e = .returned (.bool (decide (0 ≤ z ∧ z < (n : Int)))) ∧ w = w' := by
  have c0 := h.c0
  have cM := rmade_yes rb sb w h.c2
  by_cases h0 : z ≥ 0
  · by_cases h1 : z < (n : Int)
    · rw [decide_eq_true (show 0 ≤ z ∧ z < (n : Int) from ⟨h0, h1⟩)]
      have d0 : decide (z ≥ 0) = true := decide_eq_true h0
      have d0' : decide (0 ≤ z) = true := decide_eq_true h0
      have d1 : decide (z < (n : Int)) = true := decide_eq_true h1
      go_enter Tryz.func55, Tryz.ntmps55
      go_wp2_with (first | (go_at_call 44; refine cM.mono ?_; rintro e w' ⟨rfl, rfl⟩))
      go_ret
      exact ⟨rfl, rfl⟩
    · rw [decide_eq_false (show ¬ (0 ≤ z ∧ z < (n : Int)) by omega)]
      have d0 : decide (z ≥ 0) = true := decide_eq_true h0
      have d0' : decide (0 ≤ z) = true := decide_eq_true h0
      have d1 : decide (z < (n : Int)) = false := decide_eq_false h1
      go_enter Tryz.func55, Tryz.ntmps55
      go_wp2_with (first | (go_at_call 44; refine cM.mono ?_; rintro e w' ⟨rfl, rfl⟩))
      go_ret
      exact ⟨rfl, rfl⟩
  · rw [decide_eq_false (show ¬ (0 ≤ z ∧ z < (n : Int)) by omega)]
    have d0 : decide (z ≥ 0) = false := decide_eq_false h0
    have d0' : decide (0 ≤ z) = false := decide_eq_false h0
    go_enter Tryz.func55, Tryz.ntmps55
    go_wp2_with (first | (go_at_call 44; refine cM.mono ?_; rintro e w' ⟨rfl, rfl⟩))
    go_ret
    exact ⟨rfl, rfl⟩
theorem rcount_any (z : Int) : Calls Tryz.prog 21 #[.pointer (some ⟨rb, 0, none⟩), .int .i64 z] w fun e w' => e = .returned (.int .i64 (cntN N z)) ∧ w = w' := by
  have c0 := h.c0
  have cH := rhas_any B rb nb cb sb Fs n N C w h z
  by_cases hz : 0 ≤ z ∧ z < (n : Int)
  · obtain ⟨x, rfl⟩ : ∃ x : Nat, z = (x : Int) := ⟨z.toNat, by omega⟩
    have hx : x < n := by omega
    rw [decide_eq_true hz] at cH
    obtain ⟨a, m, ha, hm, hm2⟩ := byte_at h.lN hx
    have ci := h.rn.read ha hm
    rw [Nat.zero_add] at ci
    have e : cntN N (x : Int) = (m : Int) := by unfold cntN; rw [if_pos (isIn_yes h.lN hx), at0_of ha, hm]
    rw [e]
    clear ha hm e hz
    go_enter Tryz.func21, Tryz.ntmps21
    go_wp2_with (first | (go_at_call 55; refine cH.mono ?_; rintro e w' ⟨rfl, rfl⟩))
    go_ret
    exact ⟨rfl, rfl⟩
  · rw [decide_eq_false hz] at cH
    have e : cntN N z = 0 := by unfold cntN; rw [if_neg (by rw [isIn_no h.lN hz]; decide)]
    rw [e]
    clear e
    go_enter Tryz.func21, Tryz.ntmps21
    go_wp2_with (first | (go_at_call 55; refine cH.mono ?_; rintro e w' ⟨rfl, rfl⟩))
    go_ret
    exact ⟨rfl, rfl⟩
theorem rfresh_any (z : Int) : Calls Tryz.prog 20 #[.pointer (some ⟨rb, 0, none⟩), .int .i64 z] w fun e w' => e = .returned (.bool (newN N C z)) ∧ w = w' := by
  have c0 := h.c0
  have c1 := h.c1
  have cH := rhas_any B rb nb cb sb Fs n N C w h z
  by_cases hz : 0 ≤ z ∧ z < (n : Int)
  · obtain ⟨x, rfl⟩ : ∃ x : Nat, z = (x : Int) := ⟨z.toNat, by omega⟩
    have hx : x < n := by omega
    rw [decide_eq_true hz] at cH
    obtain ⟨a, m, ha, hm, hm2⟩ := byte_at h.lN hx
    obtain ⟨b, k, hb, hk, hk2⟩ := byte_at h.lC hx
    have ci := h.rn.read ha hm
    have cj := h.rc.read hb hk
    rw [Nat.zero_add] at ci cj
    by_cases hm0 : m = 0
    · have e : newN N C (x : Int) = false := by
        unfold newN; rw [isIn_yes h.lN hx, at0_of ha, at0_of hb, (u8_nat hm 0).2 hm0]; rfl
      rw [e]
      have d1 : decide ((m : Int) > 0) = false := decide_eq_false (by omega)
      have d2 : decide (0 < m) = false := decide_eq_false (by omega)
      have d3 : decide ((0 : Int) < (m : Int)) = false := decide_eq_false (by omega)
      clear ha hm hb hk e hz hm0
      go_enter Tryz.func20, Tryz.ntmps20
      go_wp2_with (first | (go_at_call 55; refine cH.mono ?_; rintro e w' ⟨rfl, rfl⟩))
      go_ret
      exact ⟨rfl, rfl⟩
    · have e : newN N C (x : Int) = ((k : Int) == 0) := by
        unfold newN
        rw [isIn_yes h.lN hx, at0_of ha, at0_of hb]
        have h1 : (a != 0) = true := by simpa using fun e => hm0 ((u8_nat hm 0).1 e)
        rw [h1, Bool.eq_iff_iff]
        simp [u8_nat hk 0]
      rw [e]
      have d1 : decide ((m : Int) > 0) = true := decide_eq_true (by omega)
      have d2 : decide (0 < m) = true := decide_eq_true (by omega)
      have d3 : decide ((0 : Int) < (m : Int)) = true := decide_eq_true (by omega)
      clear ha hm hb hk e hz hm0
      go_enter Tryz.func20, Tryz.ntmps20
      go_wp2_with (first | (go_at_call 55; refine cH.mono ?_; rintro e w' ⟨rfl, rfl⟩))
      go_ret
      exact ⟨by simp, rfl⟩
  · rw [decide_eq_false hz] at cH
    have e : newN N C z = false := by unfold newN; rw [isIn_no h.lN hz]; rfl
    rw [e]
    clear e
    go_enter Tryz.func20, Tryz.ntmps20
    go_wp2_with (first | (go_at_call 55; refine cH.mono ?_; rintro e w' ⟨rfl, rfl⟩))
    go_ret
    exact ⟨rfl, rfl⟩
end

/-! ### none -/
section
variable (w : World)
end
end Go.Proofs.YtdgkbicelnnfpaaGreatDoor

/- Refs: Alloc, Inc, Dec. -/
namespace Go.Proofs.YtdgkbicelnnfpaaGreatDoor
set_option maxRecDepth 200000
open Go.RowKit
set_option linter.unusedVariables false
set_option linter.unusedSimpArgs false
attribute [local go_sem ↓] Go.wp_at_zero Go.wp_at_succ

/-- What a call has made of Refs. -/
def RStep (w w' : World) (B rb nb cb sb : Nat) (Fs : List Nat) (n : Nat) (N C : List UInt8) : Prop := ∃ Fs', RfsAt w' B rb nb cb sb Fs' n N C ∧ Chg (rb :: nb :: cb :: Fs) w w' ∧ ∀ k, k ∈ Fs' → k ∈ Fs ∨ w.heap.size ≤ k
section
variable {w w1 w2 : World} {B rb nb cb sb : Nat} {Fs : List Nat} {n : Nat} {N C : List UInt8}
theorem RStep.refl (h : RfsAt w B rb nb cb sb Fs n N C) : RStep w w B rb nb cb sb Fs n N C := ⟨Fs, h, Chg.refl _ _, fun _ h => Or.inl h⟩
/-- A count was written, then the space went a step. -/
theorem RfsAt.count (h : RfsAt w B rb nb cb sb Fs n N C) (x : Nat) (hx : x < n) (v : UInt8) (k : Int) (hk : (v.toNat : Int) = k) (st : SpAt (w.setCell ⟨nb, x, none⟩ (.int .u8 k)) B sb Fs (freeI N C) → Step (w.setCell ⟨nb, x, none⟩ (.int .u8 k)) w2 B sb Fs (freeI (N.set x v) C)) : RStep w w2 B rb nb cb sb Fs n (N.set x v) C := by
  subst hk
  have g1 := Chg.setCell w ⟨nb, x, none⟩ (.int .u8 (v.toNat : Int))
  have hs := h.rn.set x hx (.int .u8 (v8 v))
  rw [Nat.zero_add, bts_set] at hs
  have hs1 : Room (w.setCell ⟨nb, x, none⟩ (.int .u8 (v.toNat : Int))) B (some ⟨nb, 0, none⟩) n n (bts (N.set x v)) := hs
  clear hs
  obtain ⟨Fs', h1, h2, h3⟩ := st (h.sp.chg g1 (fun k hk hm => by simp at hm; subst hm; exact h.d5 hk))
  have hz : (w.setCell ⟨nb, x, none⟩ (.int .u8 (v.toNat : Int))).heap.size = w.heap.size := by simp
  rw [hz] at h3
  have g : Chg (nb :: Fs) w w2 := g1.trans h2 (fun k hk _ => by simp at hk; simp [hk]) (fun k hk _ => by simp [hk])
  have hn : ∀ k, k < w.heap.size → k ∉ Fs → k ∉ Fs' := fun k h4 h5 h6 => (h3 k h6).elim h5 (fun h7 => by omega)
  have e1 : rb ∉ nb :: Fs := by simp; exact ⟨h.d1, h.d4⟩
  have e2 : cb ∉ nb :: Fs := by simp; exact ⟨fun e => h.d3 e.symm, h.d6⟩
  refine ⟨Fs', ⟨g.cellv h.c0 e1, g.cellv h.c1 e1, g.cellv h.c2 e1, fun j => (g.frozen (p := ⟨rb, j, none⟩) (show rb < w.heap.size from h.ltr) e1).trans (h.fz j),
    hs1.chg h2 (fun k hk => by rw [fp_some _ _ _ h.n0] at hk; simp at hk; subst hk; exact h.d5), h.rc.chg g (fun k hk => by rw [fp_some _ _ _ h.n0] at hk; simp at hk; subst hk; exact e2), h1, h.n0, h.nn, h.rB, h.d1, h.d2, h.d3, hn _ h.ltr h.d4, hn _ h.ltn.2 h.d5, hn _ h.ltc.2 h.d6⟩,
    g.mono (fun k hk _ => by simp at hk; simp; rcases hk with hk | hk <;> simp [hk]), h3⟩
end
theorem u8_succ {a : UInt8} {m : Nat} (h : a.toNat = m) (hm : m < 255) : (((a + 1).toNat : Nat) : Int) = (m : Int) + 1 := by
  rw [UInt8.toNat_add, h]
  have : (1 : UInt8).toNat = 1 := rfl
  rw [this]
  omega
theorem u8_pred {a : UInt8} {m : Nat} (h : a.toNat = m) (hm : 0 < m) : (((a - 1).toNat : Nat) : Int) = (m : Int) - 1 := by
  have h1 := a.toNat_lt
  rw [UInt8.toNat_sub]
  have : (1 : UInt8).toNat = 1 := rfl
  rw [this, h]
  omega
section
variable (B rb nb cb sb : Nat) (Fs : List Nat) (n : Nat) (N C : List UInt8) (w : World) (h : RfsAt w B rb nb cb sb Fs n N C)
include h
theorem rmore_full (x : Nat) (hx : x < n) (a : UInt8) (ha : N[x]? = some a) (hm : a.toNat = 255) : Calls Tryz.prog 66 #[.pointer (some ⟨rb, 0, none⟩), .int .i64 (x : Int)] w fun e w' => e = .returned (.int .i64 8) ∧ w = w' := by
  have c0 := h.c0
  have ci := h.rn.read ha hm
  rw [Nat.zero_add] at ci
  clear ha hm
  go_enter Tryz.func66, Tryz.ntmps66
  go_wp2
  go_ret
  exact ⟨rfl, rfl⟩
theorem rmore_any (x : Nat) (hx : x < n) (a : UInt8) (m : Nat) (ha : N[x]? = some a) (hm : a.toNat = m) (h0 : 0 < m) (hm2 : m < 255) : Calls Tryz.prog 66 #[.pointer (some ⟨rb, 0, none⟩), .int .i64 (x : Int)] w fun e w' => e = .returned (.int .i64 0) ∧ RStep w w' B rb nb cb sb Fs n (N.set x (a + 1)) C := by
  have c0 := h.c0
  have ci := h.rn.read ha hm
  have hfz := h.rn.cell x hx
  rw [Nat.zero_add] at ci hfz
  have hne : ((m : Int) == 255) = false := beq_eq_false_iff_ne.2 (by omega)
  have hne2 : (m == 255) = false := beq_eq_false_iff_ne.2 (by omega)
  have hpost : RStep w (w.setCell ⟨nb, x, none⟩ (.int .u8 ((m : Int) + 1))) B rb nb cb sb Fs n (N.set x (a + 1)) C := by
    refine h.count x hx (a + 1) _ (u8_succ hm hm2) (fun hs => ?_)
    obtain ⟨b, hb⟩ : ∃ b, C[x]? = some b := ⟨_, List.getElem?_eq_getElem (by rw [h.lC]; exact hx)⟩
    have e : freeI (N.set x (a + 1)) C = freeI N C := by
      rw [freeI_set ha hb]
      refine bool_set_same ?_
      rw [freeI_get ha hb]
      have e1 : (a == 0) = false := by simpa using fun e => by have := (u8_nat hm 0).1 e; simp at this; omega
      have e2 : (a + 1 == 0) = false := by
        have := u8_succ hm hm2
        simpa using fun e => by rw [e] at this; simp at this; omega
      rw [e1, e2]
    rw [e]
    exact Step.refl hs
  have HP := mkHid hpost
  clear ha hm hpost
  go_enter Tryz.func66, Tryz.ntmps66
  go_wp2
  go_ret
  exact ⟨rfl, HP.out⟩
theorem rless_any (x : Nat) (hx : x < n) (a : UInt8) (m : Nat) (ha : N[x]? = some a) (hm : a.toNat = m) (h0 : 0 < m) : Calls Tryz.prog 61 #[.pointer (some ⟨rb, 0, none⟩), .int .i64 (x : Int)] w fun e w' => e = .returned (.int .i64 0) ∧ RStep w w' B rb nb cb sb Fs n (N.set x (a - 1)) C := by
  have hd1 : rb ≠ nb := h.d1
  have hd3 : cb ≠ nb := fun e => h.d3 e.symm
  obtain ⟨b, k, hb, hk, hk2⟩ := byte_at h.lC hx
  have ci := h.rn.read ha hm
  have cj := h.rc.read hb hk
  have hfz := h.rn.cell x hx
  rw [Nat.zero_add] at ci hfz cj
  have g1 := Chg.setCell w ⟨nb, x, none⟩ (.int .u8 ((m : Int) - 1))
  have c0 := h.c0
  have e1 : (a == 0) = false := by simpa using fun e => by have := (u8_nat hm 0).1 e; simp at this; omega
  have hfa := freeI_get ha hb
  rw [e1, Bool.false_and] at hfa
  have hbound : m ≤ 255 := by have := a.toNat_lt; omega
  have hcount := fun (w2 : World) => h.count (w2 := w2) x hx (a - 1) _ (u8_pred hm h0)
  rw [freeI_set ha hb] at hcount
  have hsp := h.sp.chg g1 (fun q hq hq2 => by simp at hq2; subst hq2; exact h.d5 hq)
  have ci2 : (w.setCell ⟨nb, x, none⟩ (.int .u8 ((m : Int) - 1))).cell? ⟨nb, x, none⟩ = some (.int .u8 ((m : Int) - 1)) := World.cell?_setCell_same _ _ _ ci
  have c02 := g1.cellv c0 (by simpa using hd1)
  have c12 := g1.cellv h.c1 (by simpa using hd1)
  have c22 := g1.cellv h.c2 (by simpa using hd1)
  have cj2 := g1.cellv cj (by simpa using hd3)
  by_cases hz : m = 1 ∧ k = 0
  · obtain ⟨hm1, hk0⟩ := hz
    have e2 : (a - 1 == 0 && b == 0) = true := by
      have h1 := u8_pred hm h0
      have h2 : a - 1 = 0 := UInt8.toNat_inj.1 (by show (a - 1).toNat = 0; omega)
      have h3 : b = 0 := (u8_nat hk 0).2 hk0
      rw [h2, h3]; rfl
    rw [e2] at hcount
    have cG := give_any (x : Int) B sb Fs _ _ hsp
    have e3 : giveN (freeI N C) (x : Int) = (0, (freeI N C).set x true) := by
      have hl := freeI_len h.lN h.lC
      unfold giveN
      rw [if_neg (by omega), Int.toNat_natCast, hfa, if_neg (by simp)]
    rw [e3] at cG
    have hq : ((m : Int) - 1 == 0) = true := by simp; omega
    have hq2 : ((m : Int) == 1) = true := by simp; omega
    have hq3 : ((k : Int) == 0) = true := by simp; omega
    have hq4 : (k == 0) = true := by simp; omega
    have hmle : 1 ≤ m := h0
    clear hm1 hk0
    have HC := mkHid hcount
    clear ha hm hb hk hcount e1 e2 e3 hfa hsp
    generalize (freeI N C).set x true = I2 at *
    go_enter Tryz.func61, Tryz.ntmps61
    go_wp2_with (first | (go_at_call 114; refine cG.mono ?_; rintro e w2 ⟨rfl, hs⟩))
    go_ret
    exact ⟨rfl, HC.out _ (fun _ => hs)⟩
  · have e2 : (a - 1 == 0 && b == 0) = false := by
      have h1 := u8_pred hm h0
      rw [Bool.and_eq_false_iff]
      by_cases hm1 : m = 1
      · right
        simpa using fun e => hz ⟨hm1, by have := (u8_nat hk 0).1 e; simpa using this⟩
      · left
        simpa using fun e => by rw [e] at h1; simp at h1; omega
    rw [e2, bool_set_same hfa] at hcount
    have hpost := hcount _ (fun hs => Step.refl hs)
    have HP := mkHid hpost
    have hB : ((m : Int) - 1 == 0) = decide (m = 1) := by rw [Bool.eq_iff_iff]; simp; omega
    by_cases hm1 : m = 1
    · have hk0 : ((k : Int) == 0) = false := beq_eq_false_iff_ne.2 (by omega)
      have hk1 : (k == 0) = false := beq_eq_false_iff_ne.2 (by omega)
      have hq : ((m : Int) - 1 == 0) = true := by simp; omega
      have hq2 : ((m : Int) == 1) = true := by simp; omega
      clear ha hm hb hk hcount e1 e2 hfa hsp hpost hz hB hm1
      go_enter Tryz.func61, Tryz.ntmps61
      go_wp2
      go_ret
      exact ⟨rfl, HP.out⟩
    · have hq : ((m : Int) - 1 == 0) = false := beq_eq_false_iff_ne.2 (by omega)
      have hq2 : ((m : Int) == 1) = false := beq_eq_false_iff_ne.2 (by omega)
      clear ha hm hb hk hcount e1 e2 hfa hsp hpost hz hB
      go_enter Tryz.func61, Tryz.ntmps61
      go_wp2
      go_ret
      exact ⟨rfl, HP.out⟩
end
end Go.Proofs.YtdgkbicelnnfpaaGreatDoor
