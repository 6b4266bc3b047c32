/- The reference: Alloc, Free, Commit, Abort. -/
import Derived.Test.YtppjjlooocigdaaUi
namespace Go.Proofs.Ytppjjlooocigdaa
open Go.RowKit
set_option linter.unusedVariables false
set_option linter.unusedSimpArgs false
attribute [local go_sem ↓] Go.wp_at_zero Go.wp_at_succ

def freeUpto (Is : List Bool) (i : Nat) : List Nat := (List.range i).filter (fun x => Is.getD x false)
theorem freeUpto_all (Is : List Bool) : freeUpto Is Is.length = freeL Is := rfl
theorem freeUpto_succ (Is : List Bool) (i : Nat) : freeUpto Is (i + 1) = freeUpto Is i ++ (if Is.getD i false = true then [i] else []) := by
  unfold freeUpto
  rw [List.range_succ, List.filter_append]
  congr 1
  cases h : Is.getD i false
  · rw [List.filter_cons_of_neg (by rw [h]; decide), if_neg (by decide)]; rfl
  · rw [List.filter_cons_of_pos (by rw [h]), if_pos rfl]; rfl
theorem freeUpto_le (Is : List Bool) (i : Nat) : (freeUpto Is i).length ≤ i := Nat.le_trans (List.length_filter_le _ _) (by simp)
/-- The reference, two of its rows anew. -/
theorem dstep_of {w w' : World} {B db b0 o0 k0 b1 o1 k1 b2 o2 k2 n : Nat} {N C N' C' : List UInt8} (h : DAt w B db b0 o0 k0 b1 o1 k1 b2 o2 k2 n N C) (g : Chg [db] w w') {a0 p0 q0 a1 p1 q1 a2 p2 q2 : Nat}
    (c0 : w'.cell? ⟨db, 0, none⟩ = some (.slice (some ⟨a0, p0, none⟩) n q0)) (c1 : w'.cell? ⟨db, 1, none⟩ = some (.slice (some ⟨a1, p1, none⟩) n q1)) (c2 : w'.cell? ⟨db, 2, none⟩ = some (.slice (some ⟨a2, p2, none⟩) n q2)) (fz : ∀ j, w'.frozen? ⟨db, j, none⟩ = false)
    (r0 : Room w' B (some ⟨a0, p0, none⟩) n q0 (bts N')) (r1 : Room w' B (some ⟨a1, p1, none⟩) n q1 (bts C')) (r2 : Room w' B (some ⟨a2, p2, none⟩) n q2 (bvs (newL N' C'))) (d0 : db ≠ a0) (d1 : db ≠ a1) (d2 : db ≠ a2) (e1 : a0 ≠ a1) (e2 : a0 ≠ a2) (e3 : a1 ≠ a2)
    (hn : ∀ k, k ∈ [a0, a1, a2] → k ∈ [b0, b1, b2] ∨ w.heap.size ≤ k) : DStep w w' B db [db, b0, b1, b2] n N' C' := by
  refine ⟨[db, a0, a1, a2], ⟨a0, p0, q0, a1, p1, q1, a2, p2, q2, ⟨c0, c1, c2, fz, r0, r1, r2, h.n0, h.nn, h.dB, d0, d1, d2, e1, e2, e3⟩, rfl⟩, g.mono (fun k hk _ => by simp at hk; simp [hk]), fun k hk => ?_⟩
  rcases List.mem_cons.1 hk with rfl | hk
  · exact Or.inl (by simp)
  · exact (hn k hk).imp (fun h => List.mem_cons_of_mem _ h) id
theorem fz_chg {w w' : World} {db : Nat} (g : Chg [] w w') (hlt : db < w.heap.size) (h : ∀ j, w.frozen? ⟨db, j, none⟩ = false) : ∀ j, w'.frozen? ⟨db, j, none⟩ = false := fun j => (g.frozen (p := ⟨db, j, none⟩) hlt (by simp)).trans (h j)
section
variable (B db b0 o0 k0 b1 o1 k1 b2 o2 k2 n : Nat) (N C : List UInt8) (w : World) (h : DAt w B db b0 o0 k0 b1 o1 k1 b2 o2 k2 n N C)
include h
set_option maxRecDepth 20000 in
theorem dalloc_any : Calls Try.prog 11 #[.pointer (some ⟨db, 0, none⟩)] w fun e w' => e = .returned (.tuple #[.int .i64 (allocN N C).1, .int .i64 (allocN N C).2.1]) ∧ DStep w w' B db [db, b0, b1, b2] n (allocN N C).2.2 C := by
  have c0 := h.c0
  have c2 := h.c2
  have nn := h.nn
  have hDO : DO w B db [db, b0, b1, b2] n N C := ⟨b0, o0, k0, b1, o1, k1, b2, o2, k2, h, rfl⟩
  have hl := freeI_len h.lN h.lC
  go_enter Try.func11, Try.ntmps11
  go_wp2_with fail
  go_loop [4] (fun v => ∃ k : Nat, v = .int .i64 k ∧ k ≤ n ∧ ∀ j, j < k → (freeI N C)[j]? ≠ some true) (fun v => n - (intOf v).toNat)
  case atStart => exact ⟨0, rfl, Nat.zero_le _, fun j hj => by omega⟩
  case round =>
    obtain ⟨k, rfl, hk, hno⟩ := hrel
    by_cases hlt : k < n
    · have hd : decide (k < n) = true := decide_eq_true hlt
      have hd2 : decide ((k : Int) < (n : Int)) = true := decide_eq_true (by omega)
      have cF := dfree_any B db b0 o0 k0 b1 o1 k1 b2 o2 k2 n N C w h k hlt
      by_cases hI : (freeI N C)[k]? = some true
      · rw [decide_eq_true hI] at cF
        obtain ⟨r, hr⟩ := freeL_first hno hI
        have e : allocN N C = ((k : Int), 0, N.set k 1) := by unfold allocN; rw [hr]
        obtain ⟨hN, hC⟩ := freeI_true.1 hI
        have ci := h.r0.read hN (m := 0) rfl
        have hfz := h.r0.cell k hlt
        have hnl := newL_get hN hC
        have cn := h.r2.reads.cell k _ (bvs_get hnl)
        have fn := h.r2.cell k hlt
        have hne : b2 ≠ b0 := fun e => h.e2 e.symm
        have cn2 := (Chg.setCell w ⟨b0, o0 + k, none⟩ (.int .u8 1)).cellv cn (by simpa using hne)
        have c02 := (Chg.setCell w ⟨b0, o0 + k, none⟩ (.int .u8 1)).cellv h.c0 (by simpa using h.d0)
        have c22 := (Chg.setCell w ⟨b0, o0 + k, none⟩ (.int .u8 1)).cellv h.c2 (by simpa using h.d0)
        have hpost := dset_both B db b0 o0 k0 b1 o1 k1 b2 o2 k2 n N C w h k hlt 1 1 rfl true (by rw [newL_set hN hC]; rfl)
        have HP := mkHid hpost
        have HE := mkHid e
        clear e hr hN hC hnl hpost hI hno hl
        go_wp2_with (first | (go_at_call 36; refine cF.mono ?_; rintro e w' ⟨rfl, rfl⟩))
        go_ret2
        rw [HE.out]
        exact ⟨rfl, HP.out⟩
      · rw [decide_eq_false hI] at cF
        have HN := mkHid hno
        have HI := mkHid hI
        clear hno hI hl
        go_wp2_with (first | (go_at_call 36; refine cF.mono ?_; rintro e w' ⟨rfl, rfl⟩))
        go_round
        case rel =>
          refine ⟨k + 1, by first | rfl | go_num, by omega, fun j hj => ?_⟩
          by_cases e : j = k
          · subst e; exact HI.out
          · exact HN.out j (by omega)
        case measure => simp [intOf]; omega
    · have hkn : k = n := by omega
      have hd : decide (k < n) = false := decide_eq_false hlt
      have hd2 : decide ((k : Int) < (n : Int)) = false := decide_eq_false (by omega)
      have e : allocN N C = (0, 8, N) := by unfold allocN; rw [freeL_none (fun j hj => hno j (by omega))]
      have HE := mkHid e
      clear hno e hl
      go_wp2_with fail
      go_ret2
      rw [HE.out]
      exact ⟨rfl, DStep.refl hDO⟩
theorem dfreeno_any : Calls Try.prog 43 #[.pointer (some ⟨db, 0, none⟩)] w fun e w' => e = .returned (.int .i64 (freeL (freeI N C)).length) ∧ w = w' := by
  have c0 := h.c0
  have nn := h.nn
  have hl := freeI_len h.lN h.lC
  go_enter Try.func43, Try.ntmps43
  go_wp2_with fail
  go_loop [3, 4] (fun u v => ∃ k : Nat, u = .int .i64 (freeUpto (freeI N C) k).length ∧ v = .int .i64 k ∧ k ≤ n) (fun _ v => n - (intOf v).toNat)
  case atStart => exact ⟨0, rfl, rfl, Nat.zero_le _⟩
  case round =>
    obtain ⟨k, rfl, rfl, hk⟩ := hrel
    by_cases hlt : k < n
    · have hd : decide (k < n) = true := decide_eq_true hlt
      have hd2 : decide ((k : Int) < (n : Int)) = true := decide_eq_true (by omega)
      have cF := dfree_any B db b0 o0 k0 b1 o1 k1 b2 o2 k2 n N C w h k hlt
      have hs := freeUpto_succ (freeI N C) k
      have hul := freeUpto_le (freeI N C) k
      by_cases hI : (freeI N C)[k]? = some true
      · rw [decide_eq_true hI] at cF
        rw [List.getD_eq_getElem?_getD, hI] at hs
        simp only [Option.getD_some, if_true] at hs
        have HS := mkHid hs
        generalize freeUpto (freeI N C) k = U at *
        clear hs hI hl
        go_wp2_with (first | (go_at_call 36; refine cF.mono ?_; rintro e w' ⟨rfl, rfl⟩))
        go_round
        case rel => exact ⟨k + 1, by rw [HS.out]; simp, by first | rfl | go_num, by omega⟩
        case measure => simp [intOf]; omega
      · rw [decide_eq_false hI] at cF
        have hI2 : (freeI N C).getD k false = false := by
          rw [List.getD_eq_getElem?_getD]
          cases h9 : (freeI N C)[k]? with
          | none => rfl
          | some b => cases b with
            | true => exact absurd h9 hI
            | false => rfl
        rw [hI2] at hs
        simp only [Bool.false_eq_true, if_false, List.append_nil] at hs
        have HS := mkHid hs
        generalize freeUpto (freeI N C) k = U at *
        clear hs hI hI2 hl
        go_wp2_with (first | (go_at_call 36; refine cF.mono ?_; rintro e w' ⟨rfl, rfl⟩))
        go_round
        case rel => exact ⟨k + 1, by rw [HS.out], by first | rfl | go_num, by omega⟩
        case measure => simp [intOf]; omega
    · have hkn : k = n := by omega
      subst hkn
      have hd : decide (k < k) = false := by simp
      have e : freeUpto (freeI N C) k = freeL (freeI N C) := by rw [← freeUpto_all, hl]
      generalize freeUpto (freeI N C) k = U at *
      have HE := mkHid e
      clear hl e
      go_wp2_with fail
      go_ret
      rw [← HE.out]
      exact ⟨rfl, rfl⟩
set_option maxRecDepth 20000 in
theorem dcommit_any : Calls Try.prog 17 #[.pointer (some ⟨db, 0, none⟩)] w fun e w' => e = .returned (.tuple #[]) ∧ DStep w w' B db [db, b0, b1, b2] n N N := by
  have c0 := h.c0
  have n0 := h.n0
  have nn := h.nn
  have hm2 := mkO n h.nn
  have hdw : db < w.heap.size := block_lt_of_cell c0
  have hBw : B ≤ w.heap.size := Nat.le_of_lt (Nat.lt_of_le_of_lt h.dB hdw)
  have cO := own_any (some ⟨b0, o0, none⟩) n k0 N w h.r0.reads h.lN n0 h.nn
  go_enter Try.func17, Try.ntmps17
  go_wp2_with fail
  refine cO.mono ?_
  rintro e wa ⟨a1, p1, q1, rfl, hb1, ra, ga⟩
  have l1 := (room_lt ra n0).2
  have za := ga.size
  have x0 := ga.cellv h.c0 (by simp)
  have x1 := ga.cellv h.c1 (by simp)
  have x2 := ga.cellv h.c2 (by simp)
  have xf := fz_chg ga hdw h.fz
  have xf1 := xf 1
  have HG := mkHid (And.intro ra (And.intro ga (And.intro hb1 (And.intro x0 (And.intro x1 (And.intro x2 xf))))))
  clear cO c0 ra ga xf hb1 x0 x2

  go_upto_region 1 with fail
  obtain ⟨ra, ga, hb1, x0, x1, x2, xf⟩ := HG.out
  have y0 := (World.cell?_setCell_other wa ⟨db, 1, none⟩ ⟨db, 0, none⟩ (.slice (some ⟨a1, p1, none⟩) n q1) (by simp)).trans x0
  have y1 := World.cell?_setCell_same wa ⟨db, 1, none⟩ (.slice (some ⟨a1, p1, none⟩) n q1) x1
  have y2 := (World.cell?_setCell_other wa ⟨db, 1, none⟩ ⟨db, 2, none⟩ (.slice (some ⟨a1, p1, none⟩) n q1) (by simp)).trans x2
  have yf : ∀ j, (wa.setCell ⟨db, 1, none⟩ (.slice (some ⟨a1, p1, none⟩) n q1)).frozen? ⟨db, j, none⟩ = false := fun j => by rw [World.frozen?_setCell]; exact xf j
  have g1 := Chg.setCell wa ⟨db, 1, none⟩ (.slice (some ⟨a1, p1, none⟩) n q1)
  have z1 : (wa.setCell ⟨db, 1, none⟩ (.slice (some ⟨a1, p1, none⟩) n q1)).heap.size = wa.heap.size := by simp
  have hda : db ≠ a1 := by omega
  have rs := room_chg (ra.mono hBw) n0 g1 (by simpa using fun e => hda e.symm)
  clear x0 x1 x2 xf xf1
  generalize wa.setCell ⟨db, 1, none⟩ (.slice (some ⟨a1, p1, none⟩) n q1) = ws at *
  have g2 := Chg.alloc [] ws (.cells (madeCells #[.bool false] n) 4)
  have rm := (made_room ws 4 (.bool false) n (by unfold maxLen; omega)).mono (B' := B) (by omega)
  rw [← bvs_none, ← newL_self N h.lN] at rm
  have hfin : ∀ wt, wt = (ws.alloc (.cells (madeCells #[.bool false] n) 4)).setCell ⟨db, 2, none⟩ (.slice (some ⟨ws.heap.size, 0, none⟩) n n) → DStep w wt B db [db, b0, b1, b2] n N N := by
    rintro wt rfl
    have v0 := g2.cellv y0 (by simp)
    have v1 := g2.cellv y1 (by simp)
    have v2 := g2.cellv y2 (by simp)
    have vf := fz_chg g2 (db := db) (by omega) yf
    have hz : (ws.alloc (.cells (madeCells #[.bool false] n) 4)).heap.size = ws.heap.size + 1 := by simp
    have rs2 := room_chg rs n0 g2 (by simp)
    generalize ws.alloc (.cells (madeCells #[.bool false] n) 4) = wm at *
    have g3 := Chg.setCell wm ⟨db, 2, none⟩ (.slice (some ⟨ws.heap.size, 0, none⟩) n n)
    have u0 := (World.cell?_setCell_other wm ⟨db, 2, none⟩ ⟨db, 0, none⟩ (.slice (some ⟨ws.heap.size, 0, none⟩) n n) (by simp)).trans v0
    have u1 := (World.cell?_setCell_other wm ⟨db, 2, none⟩ ⟨db, 1, none⟩ (.slice (some ⟨ws.heap.size, 0, none⟩) n n) (by simp)).trans v1
    have u2 := World.cell?_setCell_same wm ⟨db, 2, none⟩ (.slice (some ⟨ws.heap.size, 0, none⟩) n n) v2
    have uf : ∀ j, (wm.setCell ⟨db, 2, none⟩ (.slice (some ⟨ws.heap.size, 0, none⟩) n n)).frozen? ⟨db, j, none⟩ = false := fun j => by rw [World.frozen?_setCell]; exact vf j
    have gt : Chg [db] w (wm.setCell ⟨db, 2, none⟩ (.slice (some ⟨ws.heap.size, 0, none⟩) n n)) := ((ga.trans g1 (by simp) (fun k hk _ => hk)).then g2).trans g3 (fun k hk _ => hk) (fun k hk _ => hk)
    have hbw0 := (room_lt h.r0 n0).2
    have hbw1 := (room_lt h.r1 n0).2
    have q1 := room_chg rs2 n0 g3 (by simpa using fun e => hda e.symm)
    have hds : db ≠ ws.heap.size := by omega
    have q2 := room_chg rm n0 g3 (by simpa using fun e => hds e.symm)
    exact dstep_of h gt u0 u1 u2 uf (room_chg h.r0 n0 gt (by simpa using fun e => h.d0 e.symm)) q1 q2 h.d0 hda hds (by omega) (by omega) (by omega) (fun k hk => by simp at hk; rcases hk with rfl | rfl | rfl; exact Or.inl (by simp); exact Or.inr (by omega); exact Or.inr (by omega))
  have HF := mkHid hfin
  have y2' := g2.cellv y2 (by simp)
  have yf2 := fz_chg g2 (db := db) (by omega) yf 2
  clear hfin rm rs g1 g2 y1 y2 yf ra ga z1
  go_wp2_with fail
  go_end0
  exact ⟨rfl, HF.out _ rfl⟩
set_option maxRecDepth 20000 in
theorem dabort_any : Calls Try.prog 19 #[.pointer (some ⟨db, 0, none⟩)] w fun e w' => e = .returned (.tuple #[]) ∧ DStep w w' B db [db, b0, b1, b2] n C C := by
  have c0 := h.c1
  have n0 := h.n0
  have nn := h.nn
  have hm2 := mkO n h.nn
  have hdw : db < w.heap.size := block_lt_of_cell c0
  have hBw : B ≤ w.heap.size := Nat.le_of_lt (Nat.lt_of_le_of_lt h.dB hdw)
  have cO := own_any (some ⟨b1, o1, none⟩) n k1 C w h.r1.reads h.lC n0 h.nn
  go_enter Try.func19, Try.ntmps19
  go_wp2_with fail
  refine cO.mono ?_
  rintro e wa ⟨a1, p1, q1, rfl, hb1, ra, ga⟩
  have l1 := (room_lt ra n0).2
  have za := ga.size
  have x0 := ga.cellv h.c0 (by simp)
  have x1 := ga.cellv h.c1 (by simp)
  have x2 := ga.cellv h.c2 (by simp)
  have xf := fz_chg ga hdw h.fz
  have xf1 := xf 0
  have HG := mkHid (And.intro ra (And.intro ga (And.intro hb1 (And.intro x0 (And.intro x1 (And.intro x2 xf))))))
  clear cO c0 ra ga xf hb1 x0 x2 x1
  have x0 := HG.out.2.2.2.1
  go_upto_region 1 with fail
  obtain ⟨ra, ga, hb1, x0, x1, x2, xf⟩ := HG.out
  have y0 := World.cell?_setCell_same wa ⟨db, 0, none⟩ (.slice (some ⟨a1, p1, none⟩) n q1) x0
  have y1 := (World.cell?_setCell_other wa ⟨db, 0, none⟩ ⟨db, 1, none⟩ (.slice (some ⟨a1, p1, none⟩) n q1) (by simp)).trans x1
  have y2 := (World.cell?_setCell_other wa ⟨db, 0, none⟩ ⟨db, 2, none⟩ (.slice (some ⟨a1, p1, none⟩) n q1) (by simp)).trans x2
  have yf : ∀ j, (wa.setCell ⟨db, 0, none⟩ (.slice (some ⟨a1, p1, none⟩) n q1)).frozen? ⟨db, j, none⟩ = false := fun j => by rw [World.frozen?_setCell]; exact xf j
  have g1 := Chg.setCell wa ⟨db, 0, none⟩ (.slice (some ⟨a1, p1, none⟩) n q1)
  have z1 : (wa.setCell ⟨db, 0, none⟩ (.slice (some ⟨a1, p1, none⟩) n q1)).heap.size = wa.heap.size := by simp
  have hda : db ≠ a1 := by omega
  have rs := room_chg (ra.mono hBw) n0 g1 (by simpa using fun e => hda e.symm)
  clear x0 x1 x2 xf xf1
  generalize wa.setCell ⟨db, 0, none⟩ (.slice (some ⟨a1, p1, none⟩) n q1) = ws at *
  have g2 := Chg.alloc [] ws (.cells (madeCells #[.bool false] n) 4)
  have rm := (made_room ws 4 (.bool false) n (by unfold maxLen; omega)).mono (B' := B) (by omega)
  rw [← bvs_none, ← newL_self C h.lC] at rm
  have hfin : ∀ wt, wt = (ws.alloc (.cells (madeCells #[.bool false] n) 4)).setCell ⟨db, 2, none⟩ (.slice (some ⟨ws.heap.size, 0, none⟩) n n) → DStep w wt B db [db, b0, b1, b2] n C C := by
    rintro wt rfl
    have v0 := g2.cellv y0 (by simp)
    have v1 := g2.cellv y1 (by simp)
    have v2 := g2.cellv y2 (by simp)
    have vf := fz_chg g2 (db := db) (by omega) yf
    have hz : (ws.alloc (.cells (madeCells #[.bool false] n) 4)).heap.size = ws.heap.size + 1 := by simp
    have rs2 := room_chg rs n0 g2 (by simp)
    generalize ws.alloc (.cells (madeCells #[.bool false] n) 4) = wm at *
    have g3 := Chg.setCell wm ⟨db, 2, none⟩ (.slice (some ⟨ws.heap.size, 0, none⟩) n n)
    have u0 := (World.cell?_setCell_other wm ⟨db, 2, none⟩ ⟨db, 0, none⟩ (.slice (some ⟨ws.heap.size, 0, none⟩) n n) (by simp)).trans v0
    have u1 := (World.cell?_setCell_other wm ⟨db, 2, none⟩ ⟨db, 1, none⟩ (.slice (some ⟨ws.heap.size, 0, none⟩) n n) (by simp)).trans v1
    have u2 := World.cell?_setCell_same wm ⟨db, 2, none⟩ (.slice (some ⟨ws.heap.size, 0, none⟩) n n) v2
    have uf : ∀ j, (wm.setCell ⟨db, 2, none⟩ (.slice (some ⟨ws.heap.size, 0, none⟩) n n)).frozen? ⟨db, j, none⟩ = false := fun j => by rw [World.frozen?_setCell]; exact vf j
    have gt : Chg [db] w (wm.setCell ⟨db, 2, none⟩ (.slice (some ⟨ws.heap.size, 0, none⟩) n n)) := ((ga.trans g1 (by simp) (fun k hk _ => hk)).then g2).trans g3 (fun k hk _ => hk) (fun k hk _ => hk)
    have hbw0 := (room_lt h.r0 n0).2
    have hbw1 := (room_lt h.r1 n0).2
    have q1 := room_chg rs2 n0 g3 (by simpa using fun e => hda e.symm)
    have hds : db ≠ ws.heap.size := by omega
    have q2 := room_chg rm n0 g3 (by simpa using fun e => hds e.symm)
    exact dstep_of h gt u0 u1 u2 uf q1 (room_chg h.r1 n0 gt (by simpa using fun e => h.d1 e.symm)) q2 hda h.d1 hds (by omega) (by omega) (by omega) (fun k hk => by simp at hk; rcases hk with rfl | rfl | rfl; exact Or.inr (by omega); exact Or.inl (by simp); exact Or.inr (by omega))
  have HF := mkHid hfin
  have y2' := g2.cellv y2 (by simp)
  have yf2 := fz_chg g2 (db := db) (by omega) yf 2
  clear hfin rm rs g1 g2 y1 y2 yf ra ga z1
  go_wp2_with fail
  go_end0
  exact ⟨rfl, HF.out _ rfl⟩
end
end Go.Proofs.Ytppjjlooocigdaa
