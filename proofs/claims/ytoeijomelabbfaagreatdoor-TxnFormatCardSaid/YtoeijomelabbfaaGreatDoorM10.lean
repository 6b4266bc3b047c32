/- Texts Dd, De of the library, joined. -/
import Derived.Test.YtoeijomelabbfaaGreatDoorM03
import Derived.Great.BuildSlice
/- The program's disk: all that is in flight lasts, or is forgotten; the fuse; Barrier. -/
namespace Go.Proofs.YtoeijomelabbfaaGreatDoor
set_option maxRecDepth 200000
open Go.RowKit
set_option linter.unusedVariables false
set_option linter.unusedSimpArgs false

/-- What was in flight is forgotten. -/
theorem DevAt.calms {w w' : World} {B db : Nat} {g : DG} {fa : Option Addr} {cf : Nat} {st : RS} (h : DevAt w B db g fa cf st) (c : Chg [g.nb, db] w w') (e1 : w'.cell? ⟨db, 1, none⟩ = some (.slice none 0 0))
    (ec : ∀ j, j < 5 → j ≠ 1 → w'.cell? ⟨db, j, none⟩ = w.cell? ⟨db, j, none⟩) (ef : ∀ j, j < 5 → w'.frozen? ⟨db, j, none⟩ = false) (hr : Room w' B (some ⟨g.nb, g.no, none⟩) st.S.length g.cn (newC st.S.length [])) : DevAt w' B db g none 0 { st with L := [] } := by
  have hp := h.pos
  have q1 := h.rS.le
  refine ⟨(ec 0 (by decide) (by decide)).trans h.c0, e1, (ec 2 (by decide) (by decide)).trans h.c2, (ec 3 (by decide) (by decide)).trans h.c3, (ec 4 (by decide) (by decide)).trans h.c4, ef, h.rS.chg c ?_, RoomZ.nil _ _ _ _, hr, h.d1, h.d2, h.d3, by simp [fp_zero], by simp [fp_zero], by simp [fp_zero], h.dB, h.lS, fun f hf => by simp at hf, h.lft, h.pos⟩
  intro k hk
  rw [fp_some _ _ _ (by omega)] at hk
  simp at hk
  rw [hk]
  simp
  exact ⟨h.d3, fun e => h.d1 e.symm⟩
theorem calm_any (B db : Nat) (g : DG) (fa : Option Addr) (cf : Nat) (st : RS) (w : World) (h : DevAt w B db g fa cf st) :
    Calls Tryz.prog 102 #[.pointer (some ⟨db, 0, none⟩)] w fun e w' => e = .returned (.tuple #[]) ∧ DevAt w' B db g none 0 { st with L := [] } ∧ Chg [g.nb, db] w w' := by
  have c1 := h.c1
  have c2 := h.c2
  have f1 := h.fz 1 (by decide)
  have hd2 := h.d2
  have hth : w.there g.nb g.no st.S.length := by simpa using h.rN.there 0 st.S.length (by have := h.rN.le; omega)
  have hgN := Chg.setCells g.nb (List.replicate st.S.length (Value.int .i64 0)) g.no w
  have k1 := hgN.cellv c1 (by simpa using hd2)
  have k2 : (w.setCells g.nb g.no (List.replicate st.S.length (Value.int .i64 0))).frozen? ⟨db, 1, none⟩ = false := by rw [World.frozen?_setCells]; exact f1
  have hrN : Room (w.setCells g.nb g.no (List.replicate st.S.length (Value.int .i64 0))) B (some ⟨g.nb, g.no, none⟩) st.S.length g.cn (newC st.S.length []) := by
    have := h.rN.sets (List.replicate st.S.length (Value.int .i64 0)) 0 (by simp)
    rw [List.take_zero, List.nil_append, List.length_replicate, Nat.zero_add, List.drop_eq_nil_of_le (by rw [newC_len]; omega), List.append_nil, ← newC_nil, Nat.add_zero] at this
    rw [newC_nil] at this ⊢
    exact this
  generalize hW : w.setCells g.nb g.no (List.replicate st.S.length (Value.int .i64 0)) = W at *
  have hH := mkHid hW
  go_enter Tryz.func102, Tryz.ntmps102
  go_wp2_with (refine wpList_clear_k rfl (.tmp 5) 81 3 rfl Tryz.underlying81 (.int .i64 0) (by kernel_rfl) rfl rfl g.nb g.no st.S.length g.cn h.pos rfl hth ?_; rw [hW])
  go_end0
  have hgd : Chg [db] W (W.setCell ⟨db, 1, none⟩ (.slice none 0 0)) := Chg.setCell W ⟨db, 1, none⟩ _
  refine ⟨rfl, h.calms (hgN.trans hgd (fun k hk _ => by simp at hk ⊢; exact Or.inl hk) (fun k hk _ => by simp at hk ⊢; exact Or.inr hk)) (World.cell?_setCell_same _ _ _ k1) (fun j hj hj1 => by rw [World.cell?_setCell_other _ _ _ _ (by simp [hj1])]; exact hgN.cell (p := ⟨db, j, none⟩) (show db < w.heap.size from block_lt_of_cell c1) (by simpa using hd2)) (fun j hj => by rw [World.frozen?_setCell]; exact (hgN.frozen (p := ⟨db, j, none⟩) (show db < w.heap.size from block_lt_of_cell c1) (by simpa using hd2)).trans (h.fz j hj)) (hrN.chg hgd (fun k hk => ?_)), ?_⟩
  · rw [fp_some _ _ _ (by have := h.rN.le; have := h.pos; omega)] at hk
    simp at hk ⊢
    rw [hk]; exact fun e => h.d2 e.symm
  · exact hgN.trans hgd (fun k hk _ => by simp at hk ⊢; exact Or.inl hk) (fun k hk _ => by simp at hk ⊢; exact Or.inr hk)
theorem settle_len (L : List (Nat × List UInt8)) : ∀ (S : List (List UInt8)), (settle S L).length = S.length := by
  induction L with
  | nil => intro S; rfl
  | cons f r ih => intro S; show (settle (laid S f.1 f.2 64) r).length = _; rw [ih, laid_len]
theorem settle_any (B db : Nat) (g : DG) (fa : Option Addr) (cf : Nat) (st : RS) (w : World) (h : DevAt w B db g fa cf st) :
    Calls Tryz.prog 111 #[.pointer (some ⟨db, 0, none⟩)] w fun e w' => e = .returned (.tuple #[]) ∧ DevAt w' B db g none 0 { st with S := settle st.S st.L, L := [] } ∧ Chg [g.lb, g.nb, db] w w' := by
  have hn1 := h.rL.le
  have hn2 := h.rL.max
  unfold maxLen at hn2
  have c1 := h.c1
  go_enter Tryz.func111, Tryz.ntmps111
  go_wp2_with fail
  go_loopw [9] (fun i wr => ∃ (k : Nat), i = .int .i64 k ∧ k ≤ st.L.length ∧ DevAt wr B db g fa cf { st with S := settle st.S (st.L.take k) } ∧ Chg [g.lb] w wr) (fun i _ => st.L.length - (Go.RowKit.intOf i).toNat)
  case atStart => exact ⟨0, rfl, by omega, h, Chg.refl _ _⟩
  case round =>
    obtain ⟨k, rfl, hk, hr, hc⟩ := hrel
    by_cases hlt : k < st.L.length
    · obtain ⟨s, l, hsl⟩ : ∃ s l, st.L[k] = (s, l) := ⟨_, _, rfl⟩
      have hL := h.lL _ (List.getElem_mem hlt)
      rw [hsl] at hL
      obtain ⟨fb, fo, rfl, _, _, _, hcf⟩ := hr.rL.at_ (by omega)
      have hrg : wr.rangeAt fb (fo + k * 65) (flyV (s, l)) := fun j u hu => by
        have := hcf (k * 65 + j) u (flyC_get st.L k hlt (fun f hf => (h.lL f hf).1) j u (by rw [hsl]; exact hu))
        rw [← this]
        congr 2
        omega
      have hki : (k : Int) < (st.L.length : Int) := by omega
      have hstep := settle_succ st.S st.L k hlt
      rw [hsl] at hstep
      have Hst := mkHid hstep
      have hlS : s < (settle st.S (st.L.take k)).length := by
        rw [settle_len]; exact hL.2
      have hfl := flyV_len hL.1
      have Hfl := mkHid hfl
      clear hcf hstep hsl hfl
      go_wp2_with (first | (refine wpList_load_w rfl 156 (.tmp 11) rfl flyZ wideW fb (fo + k * 65) (flyV (s, l)) hrg Hfl.out rfl ?_) | (refine wpList_alloc_w rfl 156 rfl flyZ wideW ?_; intro w1 hb1 hg1 hs1) | (refine wpList_store_w rfl 156 (.tmp 3) (.tmp 12) rfl flyZ wideW _ flyZ (flyV (s, l)) hb1 rfl Hfl.out (flyV_one _) rfl rfl ?_; intro w2 hb2 hg2 hs2; have hg12 : Chg [] wr w2 := hg1.trans hg2 (fun _ h _ => h) (fun k hk hlt => by simp at hk; omega)) | (refine wpList_load_w rfl 156 (.tmp 3) rfl flyZ wideW _ 0 (flyV (s, l)) hb2.range Hfl.out rfl ?_) | (go_at_call 100; refine (land_any s 64 l B db g _ cf _ w2 (hr.keep hg12) hL.1 hlS (by omega)).mono ?_; rintro e w3 ⟨rfl, h3, hg3⟩))
      refine ⟨⟨k + 1, by go_num, by omega, by rw [Hst.out]; exact h3, (hc.then hg12).trans hg3 (fun _ h _ => h) (fun _ h _ => h)⟩, by simp [Go.RowKit.intOf]; omega⟩
    · have : k = st.L.length := by omega
      subst this
      rw [List.take_length] at hr
      go_wp2_with (first | (go_at_call 102; refine (calm_any B db g fa cf _ wr hr).mono ?_; rintro e w3 ⟨rfl, h3, hg3⟩))
      go_end0
      exact ⟨rfl, h3, hc.trans hg3 (fun k hk _ => by simp at hk ⊢; exact Or.inl hk) (fun k hk _ => by simp at hk ⊢; exact Or.inr hk)⟩
/-- The fuse, ahead of what the call does. -/
theorem DevAt.left {w : World} {B db : Nat} {g : DG} {fa : Option Addr} {cf : Nat} {st : RS} (h : DevAt w B db g fa cf st) (v : Nat) (hv : v < 9223372036854775808) : DevAt (w.setCell ⟨db, 3, none⟩ (.int .i64 v)) B db g fa cf { st with left := v } :=
  h.setF (Chg.setCell w ⟨db, 3, none⟩ _) (by rw [World.cell?_setCell_other _ _ _ _ (by simp)]) (by rw [World.cell?_setCell_other _ _ _ _ (by simp)]) (by rw [World.cell?_setCell_other _ _ _ _ (by simp)]) (World.cell?_setCell_same _ _ _ h.c3) (by rw [World.cell?_setCell_other _ _ _ _ (by simp)]; exact h.c4) (fun j hj => by rw [World.frozen?_setCell]; exact h.fz j hj) rfl rfl hv
theorem DevAt.goes {w : World} {B db : Nat} {g : DG} {fa : Option Addr} {cf : Nat} {st : RS} (h : DevAt w B db g fa cf st) : DevAt ((w.setCell ⟨db, 3, none⟩ (.int .i64 0)).setCell ⟨db, 4, none⟩ (.bool true)) B db g fa cf { st with left := 0, gone := true } := by
  have h1 : DevAt (w.setCell ⟨db, 3, none⟩ (.int .i64 0)) B db g fa cf { st with left := 0 } := h.left 0 (by decide)
  exact h1.setF (Chg.setCell _ ⟨db, 4, none⟩ _) (by rw [World.cell?_setCell_other _ _ _ _ (by simp)]) (by rw [World.cell?_setCell_other _ _ _ _ (by simp)]) (by rw [World.cell?_setCell_other _ _ _ _ (by simp)]) (by rw [World.cell?_setCell_other _ _ _ _ (by simp)]; exact h1.c3) (World.cell?_setCell_same _ _ _ h1.c4) (fun j hj => by rw [World.frozen?_setCell]; exact h1.fz j hj) rfl rfl (by show 0 < _; decide)
theorem burn_gone (st : RS) (h : (burn st).1 = true) : st.left = 1 ∧ (burn st).2 = { st with left := 0, gone := true } := by
  unfold burn at h ⊢
  split
  · rename_i h0; simp [h0] at h
  · split
    · exact ⟨by assumption, rfl⟩
    · rename_i h0 h1; simp [h0, h1] at h
theorem burn_not (st : RS) (h : (burn st).1 = false) : st.left ≠ 1 ∧ (burn st).2 = { st with left := st.left - 1 } := by
  unfold burn at h ⊢
  split
  · rename_i h0
    refine ⟨by omega, ?_⟩
    cases st; simp at h0; simp [h0]
  · split
    · rename_i h0 h1; simp [h0, h1] at h
    · exact ⟨by assumption, rfl⟩
/-- The fuse burns down: the call is not done. -/
theorem fused_burns (f : Value) (B db : Nat) (g : DG) (fa : Option Addr) (cf : Nat) (st : RS) (w : World) (h : DevAt w B db g fa cf st) (hb : (burn st).1 = true) :
    Calls Tryz.prog 108 #[.pointer (some ⟨db, 0, none⟩), f] w fun e w' => e = .returned (.int .i64 9) ∧ DevAt w' B db g fa cf (burn st).2 ∧ Chg [db] w w' := by
  obtain ⟨h1, h2⟩ := burn_gone st hb
  rw [h2]
  have c3 := h.c3
  have c4 := h.c4
  have f3 := h.fz 3 (by decide)
  have f4 := h.fz 4 (by decide)
  rw [h1] at c3
  go_enter Tryz.func108, Tryz.ntmps108
  go_wp2
  go_ret
  exact ⟨rfl, h.goes, (Chg.setCell w ⟨db, 3, none⟩ _).trans (Chg.setCell _ ⟨db, 4, none⟩ _) (fun _ h _ => h) (fun _ h _ => h)⟩
/-- It does not: the call is done. -/
theorem fused_settle (B db : Nat) (g : DG) (fa : Option Addr) (cf : Nat) (st : RS) (w : World) (h : DevAt w B db g fa cf st) (hb : (burn st).1 = false) :
    Calls Tryz.prog 108 #[.pointer (some ⟨db, 0, none⟩), .func (.func 111) #[.pointer (some ⟨db, 0, none⟩)] #[]] w fun e w' => e = .returned (.int .i64 0) ∧ DevAt w' B db g none 0 { (burn st).2 with S := settle (burn st).2.S (burn st).2.L, L := [] } ∧ Chg [g.lb, g.nb, db] w w' := by
  obtain ⟨h1, h2⟩ := burn_not st hb
  rw [h2]
  have c3 := h.c3
  have f3 := h.fz 3 (by decide)
  have hlf := h.lft
  by_cases h0 : st.left = 0
  · rw [h0] at c3
    have hl := h.left 0 (by decide)
    have hgl := Chg.setCell w ⟨db, 3, none⟩ (.int .i64 (0 : Nat))
    have e1 : st.left - 1 = 0 := by omega
    rw [e1]
    go_enter Tryz.func108, Tryz.ntmps108
    go_wp2_with (first | (go_at_call 111; refine (settle_any B db g fa cf _ _ hl).mono ?_; rintro e w3 ⟨rfl, h3, hg3⟩))
    go_ret
    exact ⟨rfl, h3, hgl.trans hg3 (fun k hk _ => by simp at hk ⊢; exact Or.inr (Or.inr hk)) (fun _ h _ => h)⟩
  · obtain ⟨k, hk⟩ : ∃ k, st.left = k + 1 := ⟨st.left - 1, by omega⟩
    have e1 : st.left - 1 = k := by omega
    rw [e1]
    have hl := h.left k (by omega)
    have hgl := Chg.setCell w ⟨db, 3, none⟩ (.int .i64 (k : Nat))
    have hk1 : (((k + 1 : Nat) : Int) == 1) = false := by simp; omega
    have w1 : IntKind.i64.wrap (((k + 1 : Nat) : Int) - 1) = (k : Int) := by rw [IntKind.wrap_i64]; omega
    rw [hk] at c3
    have hd : decide ((k : Int) < 0) = false := by simp
    go_enter Tryz.func108, Tryz.ntmps108
    go_wp2_with (first | (go_at_call 111; refine (settle_any B db g fa cf _ _ hl).mono ?_; rintro e w3 ⟨rfl, h3, hg3⟩))
    go_ret
    exact ⟨rfl, h3, hgl.trans hg3 (fun k hk _ => by simp at hk ⊢; exact Or.inr (Or.inr hk)) (fun _ h _ => h)⟩
theorem dbarrier_any (B db : Nat) (g : DG) (fa : Option Addr) (cf : Nat) (st : RS) (w : World) (h : DevAt w B db g fa cf st) :
    Calls Tryz.prog 42 #[.pointer (some ⟨db, 0, none⟩)] w fun e w' => e = .returned (.int .i64 (barrier st).1) ∧ ∃ fa' cf', DevAt w' B db g fa' cf' (barrier st).2 ∧ Chg [g.lb, g.nb, db] w w' ∧ (∀ k, k ∈ fp fa' cf' → k ∈ fp fa cf) := by
  unfold barrier
  cases hg : st.gone
  · simp only [Bool.false_eq_true, if_false]
    cases hb : (burn st).1
    · simp only [Bool.false_eq_true, if_false]
      go_enter Tryz.func42, Tryz.ntmps42
      go_wp2_with (first | (go_at_call 110; refine (powered_any B db g fa cf st w h).mono ?_; rw [hg]; rintro e w' ⟨rfl, rfl⟩) | (go_at_call 108; refine (fused_settle B db g fa cf st w h hb).mono ?_; rintro e w3 ⟨rfl, h3, hg3⟩))
      go_ret
      exact ⟨rfl, none, 0, h3, hg3, fun k hk => by rw [fp_zero] at hk; simp at hk⟩
    · simp only [if_true]
      go_enter Tryz.func42, Tryz.ntmps42
      go_wp2_with (first | (go_at_call 110; refine (powered_any B db g fa cf st w h).mono ?_; rw [hg]; rintro e w' ⟨rfl, rfl⟩) | (go_at_call 108; refine (fused_burns _ B db g fa cf st w h hb).mono ?_; rintro e w3 ⟨rfl, h3, hg3⟩))
      go_ret
      exact ⟨rfl, fa, cf, h3, hg3.mono (fun k hk _ => by simp at hk ⊢; exact Or.inr (Or.inr hk)), fun k hk => hk⟩
  · simp only [if_true]
    go_enter Tryz.func42, Tryz.ntmps42
    go_wp2_with (first | (go_at_call 110; refine (powered_any B db g fa cf st w h).mono ?_; rw [hg]; rintro e w' ⟨rfl, rfl⟩))
    go_ret
    exact ⟨rfl, fa, cf, h, Chg.refl _ _, fun k hk => hk⟩
end Go.Proofs.YtoeijomelabbfaaGreatDoor

/- The program's disk: four sector writes more in flight. -/
namespace Go.Proofs.YtoeijomelabbfaaGreatDoor
set_option maxRecDepth 200000
open Go.RowKit
set_option linter.unusedVariables false
set_option linter.unusedSimpArgs false
/-- A list of one sector write, for the walk. -/
def oneSlice (ps : Array (Nat × Value)) : Sem Value := Instr.buildSlice 89 1 ps
theorem one_slice (ps : Array (Nat × Value)) : Instr.buildSlice 89 1 ps = oneSlice ps := rfl
def oneFar (P : Program) (ps : Array (Nat × Value)) (w : World) : Result Value := (oneSlice ps).run P w
theorem fold_set : ∀ (l : List Value) (k : Nat) (Z : Array Value), k + l.length ≤ Z.size → ((l.zipIdx k).foldl (fun acc x => acc.setIfInBounds x.2 x.1) Z).toList = Z.toList.take k ++ (l ++ Z.toList.drop (k + l.length))
  | [], k, Z, _ => by simp
  | v :: r, k, Z, h => by
    simp at h
    have ih := fold_set r (k + 1) (Z.setIfInBounds k v) (by simp; omega)
    simp only [List.zipIdx_cons, List.foldl_cons]
    rw [ih]
    simp only [Array.toList_setIfInBounds, List.length_cons]
    rw [List.drop_set_of_lt (by omega), List.take_set, List.take_succ_eq_append_getElem (by simpa using (by omega : k < Z.size)), List.set_append_right _ _ (by simp [Nat.min_le_left])]
    simp
    rw [show min k Z.size = k by omega, Nat.sub_self]
    simp
    congr 1; omega
theorem run_one (cs : Array Value) (w : World) : (oneSlice #[(0, .agg cs)]).run Tryz.prog w = if cs.size = 65 then .ok (.slice (some ⟨w.heap.size, 0, none⟩) 1 1) (w.alloc (.cells cs 156)) else oneFar Tryz.prog #[(0, .agg cs)] w := by
  split
  · rename_i h
    have hz : (Tryz.prog.info? 156).map (fun i => (i.zero, i.size)) = some (some (.agg (Value.int .i64 0 :: List.replicate 64 (Value.int .u8 0)).toArray), 65) := by kernel_rfl
    obtain ⟨i, hi, hi2⟩ := Option.map_eq_some_iff.1 hz
    simp only [Prod.mk.injEq] at hi2
    refine run_buildSlice w 89 156 1 _ cs i _ Tryz.underlying89 hi hi2.1 (by rw [hi2.2]; decide) (by rw [hi2.2]; decide) ?_
    rw [hi2.2]
    generalize hZ : (Array.range (1 * 65)).map _ = Z
    have hZs : Z.size = 65 := by rw [← hZ]; simp
    have hv : (Value.agg cs).cells = cs := rfl
    simp only [Instr.fill, hv, h, hZs]
    simp
    apply Array.ext'
    have := fold_set cs.toList 0 Z (by simp; omega)
    rw [List.take_zero, List.nil_append, List.drop_eq_nil_of_le (by simp; omega), List.append_nil] at this
    have e1 : cs.size = cs.zipIdx.size := by simp
    rw [e1, ← Array.foldl_toList, Array.toList_zipIdx]
    exact this
  · rfl
attribute [local go_sem ↓] Go.wp_at_zero Go.wp_at_succ wide65 one_slice
attribute [local go_sem] run_wide run_one

def zero64 : List UInt8 := List.replicate 64 0
theorem zeroW (w : World) : (zeroValue 156).run Tryz.prog w = .ok (.agg (Value.int .i64 0 :: bts zero64).toArray) w := (zero_of_info (t := 156) (P := Tryz.prog) (n := 65) (v := .agg (Value.int .i64 0 :: bts zero64).toArray) (by kernel_rfl)).1 w
theorem keepC {W w w' : World} {bx b : Nat} {v : Value} {o n : Nat} (h : w.cell? ⟨bx, 2, none⟩ = some v ∧ w.there b o n ∧ Chg [b] W w) (g : Chg [b] w w') (h1 : bx ≠ b) (h4 : w'.there b o n) :
    w'.cell? ⟨bx, 2, none⟩ = some v ∧ w'.there b o n ∧ Chg [b] W w' :=
  ⟨g.cellv h.1 (by simpa using h1), h4, h.2.2.trans g (fun _ h _ => h) (fun k hk _ => hk)⟩
/-- One sector write more. -/
theorem DevAt.fly {w w6 w7 : World} {B db : Nat} {g : DG} {fa : Option Addr} {cf : Nat} {st : RS} {ao : Option Addr} {c' s : Nat} {l : List UInt8} (h : DevAt w B db g fa cf st) (g6 : Chg (fp fa cf) w w6)
    (hr6 : RoomZ 65 w6 B ao (st.L.length + 1) c' (flyC st.L ++ flyV (s, l))) (hf : fp ao c' = fp fa cf ∨ ∃ k, w.heap.size ≤ k ∧ fp ao c' = [k]) (hs : s < st.S.length) (hl : l.length = 64)
    (gA : Chg [db] w6 w7) (e1 : w7.cell? ⟨db, 1, none⟩ = some (.slice ao (st.L.length + 1) c')) (ec6 : ∀ j, j ≠ 1 → w7.cell? ⟨db, j, none⟩ = w6.cell? ⟨db, j, none⟩) (ef6 : ∀ j, w7.frozen? ⟨db, j, none⟩ = w6.frozen? ⟨db, j, none⟩) :
    DevAt (w7.setCell ⟨g.nb, g.no + s, none⟩ (.int .i64 ((st.L.length + 1 : Nat) : Int))) B db g ao c' { st with L := st.L ++ [(s, l)] } ∧ Chg (DF db g fa cf) w (w7.setCell ⟨g.nb, g.no + s, none⟩ (.int .i64 ((st.L.length + 1 : Nat) : Int))) := by
  have hp := h.pos
  have q1 := h.rS.le
  have q2 := h.rN.le
  have hlt : ∀ k, k ∈ DF db g fa cf → k < w.heap.size := fun k hk => (h.lt k hk).2
  have hnew : ∀ k, k ∈ fp ao c' → k ∈ fp fa cf ∨ w.heap.size ≤ k := fun k hk => by
    rcases hf with hf | ⟨j, hj, hf⟩
    · rw [hf] at hk; exact Or.inl hk
    · rw [hf] at hk; simp at hk; rw [hk]; exact Or.inr hj
  have hdbl := hlt db (by simp [DF])
  have hlbl := hlt g.lb (by simp [DF])
  have hnbl := hlt g.nb (by simp [DF])
  have m1 : db ∉ fp ao c' := fun hm => (hnew db hm).elim h.f1 (fun hx => by omega)
  have m2 : g.lb ∉ fp ao c' := fun hm => (hnew g.lb hm).elim h.f2 (fun hx => by omega)
  have m3 : g.nb ∉ fp ao c' := fun hm => (hnew g.nb hm).elim h.f3 (fun hx => by omega)
  have ec : ∀ j, j ≠ 1 → w7.cell? ⟨db, j, none⟩ = w.cell? ⟨db, j, none⟩ := fun j hj => (ec6 j hj).trans (g6.cell (p := ⟨db, j, none⟩) hdbl h.f1)
  have ef : ∀ j, w7.frozen? ⟨db, j, none⟩ = w.frozen? ⟨db, j, none⟩ := fun j => (ef6 j).trans (g6.frozen (p := ⟨db, j, none⟩) hdbl h.f1)
  have rS1 := (h.rS.chg g6 (fun k hk => by rw [fp_some _ _ _ (by omega)] at hk; simp at hk; rw [hk]; exact h.f2)).chg gA (fun k hk => by rw [fp_some _ _ _ (by omega)] at hk; simp at hk ⊢; rw [hk]; exact fun e => h.d1 e.symm)
  have rN1 := (h.rN.chg g6 (fun k hk => by rw [fp_some _ _ _ (by omega)] at hk; simp at hk; rw [hk]; exact h.f3)).chg gA (fun k hk => by rw [fp_some _ _ _ (by omega)] at hk; simp at hk ⊢; rw [hk]; exact fun e => h.d2 e.symm)
  have rL1 := hr6.chg gA (fun k hk => by simp; rintro rfl; exact m1 hk)
  have gw : Chg (DF db g fa cf) w w7 := g6.trans gA (fun k hk _ => by simp [DF, hk]) (fun k hk _ => by simp at hk; simp [DF, hk])
  have gB : Chg [g.nb] w7 (w7.setCell ⟨g.nb, g.no + s, none⟩ (.int .i64 ((st.L.length + 1 : Nat) : Int))) := Chg.setCell w7 ⟨g.nb, g.no + s, none⟩ _
  have rN2 := rN1.set s hs (.int .i64 ((st.L.length + 1 : Nat) : Int))
  rw [newC_snoc st.S.length st.L (s, l)] at rN2
  generalize w7.setCell ⟨g.nb, g.no + s, none⟩ (.int .i64 ((st.L.length + 1 : Nat) : Int)) = w8 at gB rN2 ⊢
  have n0 : db ∉ [g.nb] := by simpa using h.d2
  refine ⟨⟨gB.cellv ((ec 0 (by decide)).trans h.c0) n0, by simpa using gB.cellv e1 n0, gB.cellv ((ec 2 (by decide)).trans h.c2) n0, gB.cellv ((ec 3 (by decide)).trans h.c3) n0, gB.cellv ((ec 4 (by decide)).trans h.c4) n0, fun j hj => (gB.frozen (p := ⟨db, j, none⟩) (show db < w7.heap.size from block_lt_of_cell e1) n0).trans ((ef j).trans (h.fz j hj)), ?_, ?_, rN2, h.d1, h.d2, h.d3, m1, m2, m3, h.dB, h.lS, ?_, h.lft, h.pos⟩, ?_⟩
  · exact rS1.chg gB (fun k hk => by rw [fp_some _ _ _ (by omega)] at hk; simp at hk ⊢; rw [hk]; exact h.d3)
  · have := rL1.chg gB (fun k hk => by simp; rintro rfl; exact m3 hk)
    rw [← flyC_snoc] at this
    simpa using this
  · intro f hf'
    rcases List.mem_append.1 hf' with hf' | hf'
    · exact h.lL f hf'
    · simp at hf'; rw [hf']; exact ⟨hl, hs⟩
  · exact gw.trans gB (fun _ h _ => h) (fun k hk _ => by simp at hk; simp [DF, hk])
theorem keepN {w w' : World} {db b1 nb : Nat} {u v x : Value} (h : w.cell? ⟨db, 1, none⟩ = some u ∧ w.cell? ⟨db, 2, none⟩ = some v ∧ w.cell? ⟨b1, 0, none⟩ = some x) (g : Chg [nb] w w') (h1 : db ≠ nb) (h2 : b1 ≠ nb) :
    w'.cell? ⟨db, 1, none⟩ = some u ∧ w'.cell? ⟨db, 2, none⟩ = some v ∧ w'.cell? ⟨b1, 0, none⟩ = some x :=
  ⟨g.cellv h.1 (by simpa using h1), g.cellv h.2.1 (by simpa using h1), g.cellv h.2.2 (by simpa using h2)⟩
set_option maxRecDepth 100000 in
set_option maxHeartbeats 4000000 in
theorem send_any (A : Nat) (B db : Nat) (g : DG) (fa : Option Addr) (cf : Nat) (st : RS) (w : World) (h : DevAt w B db g fa cf st) (hA : 4 * A + 4 ≤ st.S.length) (hA2 : A ≤ 1023) (hB : B ≤ w.heap.size) (hLb : st.L.length ≤ 1000000000)
    (ab : Option Addr) (cb : Nat) (b : List UInt8) (gb : Reads w ab (bts b)) (gn : b.length = 256) (gc : 256 ≤ cb) (gm : cb ≤ 140737488355328) (hab : ∀ k, k ∈ blk ab → k ∉ DF db g fa cf ∧ k < w.heap.size) :
    Calls Tryz.prog 109 #[.agg #[.pointer (some ⟨db, 0, none⟩), .int .i64 A, .slice ab 256 cb]] w fun e w' => e = .returned (.tuple #[]) ∧ ∃ fa' cf', DevAt w' B db g fa' cf' { st with L := st.L ++ flies A b 4 } ∧ Chg (DF db g fa cf) w w' ∧ ∀ k, k ∈ fp fa' cf' → k ∈ fp fa cf ∨ w.heap.size ≤ k := by
  obtain ⟨pb, po, rfl, _⟩ := gb (by rw [bts_length]; omega)
  go_enter Tryz.func109, Tryz.ntmps109
  go_wp2_with fail
  generalize hbx : w.heap.size = bx at *
  generalize hW : w.alloc _ = W
  have x0 : W.cell? ⟨bx, 0, none⟩ = some (.pointer (some ⟨db, 0, none⟩)) := by subst hW hbx; simp
  have x1 : W.cell? ⟨bx, 1, none⟩ = some (.int .i64 A) := by subst hW hbx; simp
  have x2 : W.cell? ⟨bx, 2, none⟩ = some (.slice (some ⟨pb, po, none⟩) 256 cb) := by subst hW hbx; simp
  have hgW : Chg [] w W := by subst hW; exact Chg.alloc [] _ _
  have hzW : W.heap.size = bx + 1 := by subst hW hbx; simp
  clear hW
  go_loopw [7] (fun i wr => ∃ (k : Nat) (fa' : Option Addr) (cf' : Nat), i = .int .i64 k ∧ k ≤ 4 ∧ DevAt wr B db g fa' cf' { st with L := st.L ++ flies A b k } ∧ Chg (DF db g fa cf) W wr ∧ ∀ k, k ∈ fp fa' cf' → k ∈ fp fa cf ∨ bx < k) (fun i _ => 4 - (Go.RowKit.intOf i).toNat)
  case atStart => exact ⟨0, fa, cf, rfl, by omega, by simpa [flies] using h.keep hgW, Chg.refl _ _, fun k hk => Or.inl hk⟩
  case round =>
    obtain ⟨k, fa', cf', rfl, hk, hr, hc, hsb⟩ := hrel
    by_cases hlt : k < 4
    · have hbxF : ∀ k, k ∈ DF db g fa cf → k < bx := fun k hk => by have := (h.lt k hk).2; omega
      have hnx : bx ∉ DF db g fa cf := fun hm => by have := hbxF bx hm; omega
      have y0 := hc.cellv x0 hnx
      have y1 := hc.cellv x1 hnx
      have y2 := hc.cellv x2 hnx
      have hrd : Reads wr (some ⟨pb, po, none⟩) (bts b) := (gb.keep hgW).chg hc (fun k hk => (hab k hk).1)
      obtain ⟨s, hs⟩ : ∃ s, s = 4 * A + k := ⟨_, rfl⟩
      have hsS : s < st.S.length := by omega
      have hs2 : s ≤ 4095 := by omega
      have hzw := zeroW
      have hzl : (bts zero64).length = 64 := by rw [bts_length]; rfl
      generalize hzs : bts zero64 = zs at hzw hzl
      have Hln := mkHid (show (Value.int .i64 ((A : Int) * 4 + (k : Int)) :: zs).length = flyZ.length by rw [List.length_cons, hzl]; rfl)
      have Hone := mkHid (show ∀ u ∈ (Value.int .i64 ((A : Int) * 4 + (k : Int)) :: zs), u.oneCell' = true by intro u hu; rcases List.mem_cons.1 hu with rfl | hu; rfl; rw [← hzs] at hu; exact bts_one _ u hu)
      clear hzl
      have He := mkHid (show (A : Int) * 4 + (k : Int) = (s : Int) by omega)
      have hd : decide ((k : Int) < 4) = true := decide_eq_true (by omega)
      go_wp2_with (first | (refine wpList_alloc_w rfl 156 rfl flyZ wideW ?_; intro w1 hb1 hg1 hs1) | (refine wpList_store_w rfl 156 (.tmp 4) (.tmp 15) rfl flyZ wideW _ flyZ (Value.int .i64 ((A : Int) * 4 + (k : Int)) :: zs) hb1 rfl Hln.out Hone.out rfl rfl ?_; intro w2 hb2 hg2 hs2; rw [He.out] at hb2; have hg12 : Chg [] wr w2 := hg1.trans hg2 (fun _ h _ => h) (fun k hk hlt => by simp at hk; omega)))
      have hb1l : wr.heap.size < w2.heap.size := by omega
      have hbxr : bx < wr.heap.size := by have := hc.size; omega
      have hrlt : ∀ k, k ∈ DF db g fa' cf' → k < wr.heap.size := fun k hk => (hr.lt k hk).2
      have hpb : pb < wr.heap.size := by have := (hab pb (by simp [blk])).2; omega
      generalize hb1e : wr.heap.size = b1 at *
      have z2 := hg12.cellv y2 (by simp)
      have hth : w2.there b1 1 64 := hb2.there 1 64 (by have := Hln.out; simp only [List.length_cons] at this ⊢; rw [this]; decide)
      have hrs : Reads w2.drew (some ⟨pb, po + 64 * k, none⟩) (bts (secOf b k)) := by
        have := (((hrd.keep hg12).keep (Chg.drew [] w2)).drop (l := 64 * k)).take 64
        rwa [bts_drop, bts_take] at this
      have hsl : (bts (secOf b k)).length = 64 := by rw [bts_length]; simp [secOf]; omega
      have Hsl := mkHid hsl
      clear hsl
      have hne : bx ≠ b1 := by omega
      go_region_held3 (fun w' => w'.cell? ⟨bx, 2, none⟩ = some (.slice (some ⟨pb, po, none⟩) 256 cb) ∧ w'.there b1 1 64 ∧ Chg [b1] w2 w')
        (first | exact keepC ⟨z2, hth, Chg.refl _ _⟩ (Chg.drew _ _) hne ((World.there_drew _ _ _ _).2 hth) | exact keepC (by assumption) (Chg.setCells b1 (bts (secOf b k)) 1 _) hne (World.there_setCells (And.left (And.right (by assumption))) _ _ _))
        (first | (go_at_call 113; refine (sectorOf_any pb po 256 cb k (by omega) (by unfold maxLen; omega) _).mono ?_; rintro e w' ⟨rfl, rfl⟩) | (refine step_copy_k rfl (.tmp 17) (.tmp 21) 41 41 5 rfl Tryz.underlying41 oneB b1 1 64 64 (some ⟨pb, po + 64 * k, none⟩) 64 64 (bts (secOf b k)) rfl rfl hrs Hsl.out (by rw [Hsl.out]; exact (World.there_drew _ _ _ _).2 hth) (bts_one _) ?_))
      have hb3 : Blk (w2.drew.setCells b1 1 (bts (secOf b k))) b1 156 (flyV (s, secOf b k)) := by
        have := Blk.sets (bts (secOf b k)) 1 w2.drew _ (hb2.keep (Chg.drew [] w2)) (by rw [Hsl.out]; have := Hln.out; simp only [List.length_cons] at this ⊢; rw [this]; decide)
        rw [List.drop_eq_nil_of_le (by rw [Hsl.out]; have := Hln.out; simp only [List.length_cons] at this ⊢; rw [this]; decide), List.append_nil] at this
        exact this
      have hg13 : Chg [] wr (w2.drew.setCells b1 1 (bts (secOf b k))) := (hg12.then (Chg.drew [] w2)).trans (Chg.setCells b1 _ 1 _) (fun _ h _ => h) (fun k hk hlt => by simp at hk; omega)
      have hz3 : (w2.drew.setCells b1 1 (bts (secOf b k))).heap.size = b1 + 1 := by rw [size_setCells]; show w2.heap.size = _; omega
      have hsec : (secOf b k).length = 64 := by have := Hsl.out; rwa [bts_length] at this
      clear hg12 hs2 hb2 hth hrs z2 hzw
      generalize w2.drew.setCells b1 1 (bts (secOf b k)) = W3 at *
      have h3 := hr.keep hg13
      obtain ⟨st2, hst2⟩ : ∃ st2, st2 = { st with L := st.L ++ flies A b k } := ⟨_, rfl⟩
      rw [← hst2] at h3
      have hst3 : { st2 with L := st2.L ++ [(s, secOf b k)] } = { st with L := st.L ++ flies A b (k + 1) } := by rw [hst2, flies_succ, hs]; simp
      have hsS2 : s < st2.S.length := by rw [hst2]; exact hsS
      have hL2 : st2.L.length ≤ 1000000004 := by rw [hst2]; simp [flies]; omega
      have Hst3 := mkHid hst3
      clear hst3 hst2
      have c1 := h3.c1
      have hrL := h3.rL
      have hf1 := mkHid h3.f1
      have f1 := h3.fz 1 (by decide)
      have hB3 : B ≤ W3.heap.size := by omega
      have hnn : (st2.L.length + 1) * 72 ≤ 140737488355328 := by omega
      have h63 : st2.L.length + 1 ≤ maxLen := by unfold maxLen; omega
      have c1' := (Chg.drew [] W3).cellv c1 (by simp)
      have c1a := fun o => (Chg.alloc [] W3 o).cellv c1 (by simp)
      have hsz := flyV_len (f := (s, secOf b k)) hsec
      have Hsz := mkHid hsz
      have Hs := mkHid hs
      have Hb1e := mkHid hb1e
      have Hz3 := mkHid hz3
      have Hsec := mkHid hsec
      clear hs hb1e hz3 hsec hzs hrd hd
      have hbr := hb3.range
      have hbr' : W3.drew.rangeAt b1 0 (flyV (s, secOf b k)) := (World.rangeAt_drew _ _ _ _).2 hbr
      have hrN3 := h3.rN.chg (Chg.drew [] W3) (by simp)
      have hcn : st2.S.length ≤ g.cn := hrN3.le
      have hfpn := mkHid (show fp (some ⟨g.nb, g.no, none⟩) g.cn = [g.nb] from fp_some _ _ _ (by omega))
      obtain ⟨ht1, ht2⟩ := there_of_range hbr' Hsz.out
      go_wp2_with fail
      go_region_law (first | (refine step_append_zz rfl (.tmp 27) (.tmp 29) 89 rfl 156 65 72 (by decide) eltW B fa' st2.L.length cf' (flyC st2.L) rfl (hrL.chg (Chg.drew [] _) (by simp)) hB3 (flyV (s, secOf b k)).toArray 1 rfl Hsz.out (flyV_one _) h63 hnn ?_; intro a6 c6 w6 hr6 hg6 hf6; have k1 := hg6.cellv c1' hf1.out; have k2 : w6.frozen? ⟨db, 1, none⟩ = false := (hg6.frozen (p := ⟨db, 1, none⟩) (show db < W3.heap.size from block_lt_of_cell c1) hf1.out).trans (by simpa using f1); have Hr6 := mkHid hr6; have Hg6 := mkHid hg6; have Hf6 := mkHid hf6; clear hr6 hg6 hf6))
      all_goals
        have hd1 := h3.d2
        have hd3 := h3.d3
        have q1 : W3.drew.cell? ⟨db, 2, none⟩ = _ := (Chg.drew [] W3).cellv h3.c2 (by simp)
        have q2 := Hg6.out.cellv q1 hf1.out
        have hb1n : b1 ∉ fp fa' cf' := fun hm => by have := hrlt b1 (by simp [DF, hm]); omega
        have q3 : w6.cell? ⟨b1, 0, none⟩ = some (.int .i64 s) := Hg6.out.cellv (p := ⟨b1, 0, none⟩) ((Chg.drew [] W3).cellv (hb3.cell 0 _ rfl) (by simp)) hb1n
        have hdb1 : db ≠ b1 := fun e => by have := hrlt db (by simp [DF]); omega
        have r1 : (w6.setCell ⟨db, 1, none⟩ (.slice a6 (st2.L.length + 1) c6)).cell? ⟨db, 1, none⟩ = some (.slice a6 (st2.L.length + 1) c6) := World.cell?_setCell_same _ _ _ k1
        have r2 : (w6.setCell ⟨db, 1, none⟩ (.slice a6 (st2.L.length + 1) c6)).cell? ⟨db, 2, none⟩ = some (.slice (some ⟨g.nb, g.no, none⟩) st2.S.length g.cn) := by rw [World.cell?_setCell_other _ _ _ _ (by simp)]; exact q2
        have r3 : (w6.setCell ⟨db, 1, none⟩ (.slice a6 (st2.L.length + 1) c6)).cell? ⟨b1, 0, none⟩ = some (.int .i64 s) := by rw [World.cell?_setCell_other _ _ _ _ (by simp [Ne.symm hdb1])]; exact q3
        have gA : Chg [db] w6 (w6.setCell ⟨db, 1, none⟩ (.slice a6 (st2.L.length + 1) c6)) := Chg.setCell w6 ⟨db, 1, none⟩ _
        have rc : ∀ j, j ≠ 1 → (w6.setCell ⟨db, 1, none⟩ (.slice a6 (st2.L.length + 1) c6)).cell? ⟨db, j, none⟩ = w6.cell? ⟨db, j, none⟩ := fun j hj => by rw [World.cell?_setCell_other _ _ _ _ (by simp [hj])]
        have rf : ∀ j, (w6.setCell ⟨db, 1, none⟩ (.slice a6 (st2.L.length + 1) c6)).frozen? ⟨db, j, none⟩ = w6.frozen? ⟨db, j, none⟩ := fun j => by rw [World.frozen?_setCell]
        have rN6 := (hrN3.chg Hg6.out (fun k hk => by rw [hfpn.out] at hk; simp at hk; rw [hk]; exact h3.f3)).chg gA (fun k hk => by rw [hfpn.out] at hk; simp at hk ⊢; rw [hk]; exact fun e => h3.d2 e.symm)
        have hfz := rN6.cell s hsS2
        generalize hw7 : w6.setCell ⟨db, 1, none⟩ (.slice a6 (st2.L.length + 1) c6) = w7 at *
        obtain ⟨_, _, en, _, _, hvN⟩ := rN6.at_ (by omega)
        cases en
        have rv := hvN s _ (newC_get st2.S.length st2.L s hsS2)
        clear hvN hw7
        have hnbd : db ≠ g.nb := h3.d2
        have hnb1 : b1 ≠ g.nb := fun e => by have := hrlt g.nb (by simp [DF]); omega
        have hsi : (s : Int) < (st2.S.length : Int) := by omega
        have rvd := (Chg.drew [] w7).cellv rv (by simp)
        have hfzd : w7.drew.frozen? ⟨g.nb, g.no + s, none⟩ = false := by simpa using hfz
        go_wp2_with fail
        go_region_held3 (fun w' => w'.cell? ⟨db, 1, none⟩ = some (.slice a6 (st2.L.length + 1) c6) ∧ w'.cell? ⟨db, 2, none⟩ = some (.slice (some ⟨g.nb, g.no, none⟩) st2.S.length g.cn) ∧ w'.cell? ⟨b1, 0, none⟩ = some (.int .i64 s))
          (first | exact keepN ⟨r1, r2, r3⟩ (Chg.drew [g.nb] _) hnbd hnb1 | exact keepN (by assumption) (Chg.setCell _ ⟨g.nb, g.no + s, none⟩ _) hnbd hnb1)
          (fail)
        obtain ⟨hF1, hF2⟩ := DevAt.fly (h3.keep (Chg.drew [] W3)) Hg6.out Hr6.out Hf6.out hsS2 Hsec.out gA r1 rc rf
        have e9 : ((st2.L.length + 1 : Nat) : Int) = (st2.L.length : Int) + 1 := by omega
        rw [e9] at hF1 hF2
        rw [Hst3.out] at hF1
        clear e9
        have hF3 := hF1.keep (Chg.drew [] _)
        have hF4 := hF2.then (Chg.drew [] _)
        generalize (w7.setCell ⟨g.nb, g.no + s, none⟩ (.int .i64 ((st2.L.length : Int) + 1))).drew = w9 at hF3 hF4 ⊢
        go_wp2_with fail
        refine ⟨⟨k + 1, a6, c6, by go_num, by omega, hF3, (hc.then hg13).trans ((Chg.drew [] W3).trans hF4 (fun k hk _ => by simp at hk) (fun _ h _ => h)) (fun _ h _ => h) (fun j hj hlt => ?_), fun j hj => ?_⟩, by simp [Go.RowKit.intOf]; omega⟩
        · simp only [DF, List.mem_cons] at hj ⊢
          rcases hj with hj | hj | hj | hj
          · exact Or.inl hj
          · exact Or.inr (Or.inl hj)
          · exact Or.inr (Or.inr (Or.inl hj))
          · rcases hsb j hj with hx | hx
            · exact Or.inr (Or.inr (Or.inr hx))
            · omega
        · rcases Hf6.out with hx | ⟨m, hm, hx⟩
          · rw [hx] at hj; exact hsb j hj
          · rw [hx] at hj
            simp at hj
            have hm' : W3.heap.size ≤ m := hm
            have := Hz3.out
            exact Or.inr (by omega)
    · have : k = 4 := by omega
      subst this
      go_wp2_with fail
      go_end0
      exact ⟨rfl, fa', cf', hr, (hgW.trans hc (fun k hk _ => by simp at hk) (fun _ h _ => h)), fun j hj => (hsb j hj).imp id (fun hx => by omega)⟩
end Go.Proofs.YtoeijomelabbfaaGreatDoor
