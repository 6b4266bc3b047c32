/- The program's disk: all that is in flight lasts, or is forgotten; the fuse; Barrier. -/
import Derived.Test.YtdmhcbbakgljoaaDc
namespace Go.Proofs.Ytdmhcbbakgljoaa
open Go.RowKit
set_option linter.unusedVariables false
set_option linter.unusedSimpArgs false

/-- What was in flight is forgotten. -/
theorem DevAt.calms {w w' : World} {B db : Nat} {g : DG} {fa : Option Addr} {cf : Nat} {st : RS} (h : DevAt w B db g fa cf st) (c : Chg [g.nb, db] w w') (e1 : w'.cell? ⟨db, 1, none⟩ = some (.slice none 0 0))
    (ec : ∀ j, j < 5 → j ≠ 1 → w'.cell? ⟨db, j, none⟩ = w.cell? ⟨db, j, none⟩) (ef : ∀ j, j < 5 → w'.frozen? ⟨db, j, none⟩ = false) (hr : Room w' B (some ⟨g.nb, g.no, none⟩) st.S.length g.cn (newC st.S.length [])) : DevAt w' B db g none 0 { st with L := [] } := by
  have hp := h.pos
  have q1 := h.rS.le
  refine ⟨(ec 0 (by decide) (by decide)).trans h.c0, e1, (ec 2 (by decide) (by decide)).trans h.c2, (ec 3 (by decide) (by decide)).trans h.c3, (ec 4 (by decide) (by decide)).trans h.c4, ef, h.rS.chg c ?_, RoomZ.nil _ _ _ _, hr, h.d1, h.d2, h.d3, by simp [fp_zero], by simp [fp_zero], by simp [fp_zero], h.dB, h.lS, fun f hf => by simp at hf, h.lft, h.pos⟩
  intro k hk
  rw [fp_some _ _ _ (by omega)] at hk
  simp at hk
  rw [hk]
  simp
  exact ⟨h.d3, fun e => h.d1 e.symm⟩
theorem calm_any (B db : Nat) (g : DG) (fa : Option Addr) (cf : Nat) (st : RS) (w : World) (h : DevAt w B db g fa cf st) :
    Calls Try.prog 45 #[.pointer (some ⟨db, 0, none⟩)] w fun e w' => e = .returned (.tuple #[]) ∧ DevAt w' B db g none 0 { st with L := [] } ∧ Chg [g.nb, db] w w' := by
  have c1 := h.c1
  have c2 := h.c2
  have f1 := h.fz 1 (by decide)
  have hd2 := h.d2
  have hth : w.there g.nb g.no st.S.length := by simpa using h.rN.there 0 st.S.length (by have := h.rN.le; omega)
  have hgN := Chg.setCells g.nb (List.replicate st.S.length (Value.int .i64 0)) g.no w
  have k1 := hgN.cellv c1 (by simpa using hd2)
  have k2 : (w.setCells g.nb g.no (List.replicate st.S.length (Value.int .i64 0))).frozen? ⟨db, 1, none⟩ = false := by rw [World.frozen?_setCells]; exact f1
  have hrN : Room (w.setCells g.nb g.no (List.replicate st.S.length (Value.int .i64 0))) B (some ⟨g.nb, g.no, none⟩) st.S.length g.cn (newC st.S.length []) := by
    have := h.rN.sets (List.replicate st.S.length (Value.int .i64 0)) 0 (by simp)
    rw [List.take_zero, List.nil_append, List.length_replicate, Nat.zero_add, List.drop_eq_nil_of_le (by rw [newC_len]; omega), List.append_nil, ← newC_nil, Nat.add_zero] at this
    rw [newC_nil] at this ⊢
    exact this
  generalize hW : w.setCells g.nb g.no (List.replicate st.S.length (Value.int .i64 0)) = W at *
  have hH := mkHid hW
  go_enter Try.func45, Try.ntmps45
  go_wp2_with (refine wpList_clear_k rfl (.tmp 5) 40 3 rfl Try.underlying40 (.int .i64 0) (by kernel_rfl) rfl rfl g.nb g.no st.S.length g.cn h.pos rfl hth ?_; rw [hW])
  go_end0
  have hgd : Chg [db] W (W.setCell ⟨db, 1, none⟩ (.slice none 0 0)) := Chg.setCell W ⟨db, 1, none⟩ _
  refine ⟨rfl, h.calms (hgN.trans hgd (fun k hk _ => by simp at hk ⊢; exact Or.inl hk) (fun k hk _ => by simp at hk ⊢; exact Or.inr hk)) (World.cell?_setCell_same _ _ _ k1) (fun j hj hj1 => by rw [World.cell?_setCell_other _ _ _ _ (by simp [hj1])]; exact hgN.cell (p := ⟨db, j, none⟩) (show db < w.heap.size from block_lt_of_cell c1) (by simpa using hd2)) (fun j hj => by rw [World.frozen?_setCell]; exact (hgN.frozen (p := ⟨db, j, none⟩) (show db < w.heap.size from block_lt_of_cell c1) (by simpa using hd2)).trans (h.fz j hj)) (hrN.chg hgd (fun k hk => ?_)), ?_⟩
  · rw [fp_some _ _ _ (by have := h.rN.le; have := h.pos; omega)] at hk
    simp at hk ⊢
    rw [hk]; exact fun e => h.d2 e.symm
  · exact hgN.trans hgd (fun k hk _ => by simp at hk ⊢; exact Or.inl hk) (fun k hk _ => by simp at hk ⊢; exact Or.inr hk)
theorem settle_len (L : List (Nat × List UInt8)) : ∀ (S : List (List UInt8)), (settle S L).length = S.length := by
  induction L with
  | nil => intro S; rfl
  | cons f r ih => intro S; show (settle (laid S f.1 f.2 64) r).length = _; rw [ih, laid_len]
theorem settle_any (B db : Nat) (g : DG) (fa : Option Addr) (cf : Nat) (st : RS) (w : World) (h : DevAt w B db g fa cf st) :
    Calls Try.prog 41 #[.pointer (some ⟨db, 0, none⟩)] w fun e w' => e = .returned (.tuple #[]) ∧ DevAt w' B db g none 0 { st with S := settle st.S st.L, L := [] } ∧ Chg [g.lb, g.nb, db] w w' := by
  have hn1 := h.rL.le
  have hn2 := h.rL.max
  unfold maxLen at hn2
  have c1 := h.c1
  go_enter Try.func41, Try.ntmps41
  go_wp2_with fail
  go_loopw [9] (fun i wr => ∃ (k : Nat), i = .int .i64 k ∧ k ≤ st.L.length ∧ DevAt wr B db g fa cf { st with S := settle st.S (st.L.take k) } ∧ Chg [g.lb] w wr) (fun i _ => st.L.length - (intOf i).toNat)
  case atStart => exact ⟨0, rfl, by omega, h, Chg.refl _ _⟩
  case round =>
    obtain ⟨k, rfl, hk, hr, hc⟩ := hrel
    by_cases hlt : k < st.L.length
    · obtain ⟨s, l, hsl⟩ : ∃ s l, st.L[k] = (s, l) := ⟨_, _, rfl⟩
      have hL := h.lL _ (List.getElem_mem hlt)
      rw [hsl] at hL
      obtain ⟨fb, fo, rfl, _, _, _, hcf⟩ := hr.rL.at_ (by omega)
      have hrg : wr.rangeAt fb (fo + k * 65) (flyV (s, l)) := fun j u hu => by
        have := hcf (k * 65 + j) u (flyC_get st.L k hlt (fun f hf => (h.lL f hf).1) j u (by rw [hsl]; exact hu))
        rw [← this]
        congr 2
        omega
      have hki : (k : Int) < (st.L.length : Int) := by omega
      have hstep := settle_succ st.S st.L k hlt
      rw [hsl] at hstep
      have Hst := mkHid hstep
      have hlS : s < (settle st.S (st.L.take k)).length := by
        rw [settle_len]; exact hL.2
      have hfl := flyV_len hL.1
      have Hfl := mkHid hfl
      clear hcf hstep hsl hfl
      go_wp2_with (first | (refine wpList_load_w rfl 82 (.tmp 11) rfl flyZ wideW fb (fo + k * 65) (flyV (s, l)) hrg Hfl.out rfl ?_) | (refine wpList_alloc_w rfl 82 rfl flyZ wideW ?_; intro w1 hb1 hg1 hs1) | (refine wpList_store_w rfl 82 (.tmp 3) (.tmp 12) rfl flyZ wideW _ flyZ (flyV (s, l)) hb1 rfl Hfl.out (flyV_one _) rfl rfl ?_; intro w2 hb2 hg2 hs2; have hg12 : Chg [] wr w2 := hg1.trans hg2 (fun _ h _ => h) (fun k hk hlt => by simp at hk; omega)) | (refine wpList_load_w rfl 82 (.tmp 3) rfl flyZ wideW _ 0 (flyV (s, l)) hb2.range Hfl.out rfl ?_) | (go_at_call 43; refine (land_any s 64 l B db g _ cf _ w2 (hr.keep hg12) hL.1 hlS (by omega)).mono ?_; rintro e w3 ⟨rfl, h3, hg3⟩))
      refine ⟨⟨k + 1, by go_num, by omega, by rw [Hst.out]; exact h3, (hc.then hg12).trans hg3 (fun _ h _ => h) (fun _ h _ => h)⟩, by simp [intOf]; omega⟩
    · have : k = st.L.length := by omega
      subst this
      rw [List.take_length] at hr
      go_wp2_with (first | (go_at_call 45; refine (calm_any B db g fa cf _ wr hr).mono ?_; rintro e w3 ⟨rfl, h3, hg3⟩))
      go_end0
      exact ⟨rfl, h3, hc.trans hg3 (fun k hk _ => by simp at hk ⊢; exact Or.inl hk) (fun k hk _ => by simp at hk ⊢; exact Or.inr hk)⟩
/-- The fuse, ahead of what the call does. -/
theorem DevAt.left {w : World} {B db : Nat} {g : DG} {fa : Option Addr} {cf : Nat} {st : RS} (h : DevAt w B db g fa cf st) (v : Nat) (hv : v < 9223372036854775808) : DevAt (w.setCell ⟨db, 3, none⟩ (.int .i64 v)) B db g fa cf { st with left := v } :=
  h.setF (Chg.setCell w ⟨db, 3, none⟩ _) (by rw [World.cell?_setCell_other _ _ _ _ (by simp)]) (by rw [World.cell?_setCell_other _ _ _ _ (by simp)]) (by rw [World.cell?_setCell_other _ _ _ _ (by simp)]) (World.cell?_setCell_same _ _ _ h.c3) (by rw [World.cell?_setCell_other _ _ _ _ (by simp)]; exact h.c4) (fun j hj => by rw [World.frozen?_setCell]; exact h.fz j hj) rfl rfl hv
theorem DevAt.goes {w : World} {B db : Nat} {g : DG} {fa : Option Addr} {cf : Nat} {st : RS} (h : DevAt w B db g fa cf st) : DevAt ((w.setCell ⟨db, 3, none⟩ (.int .i64 0)).setCell ⟨db, 4, none⟩ (.bool true)) B db g fa cf { st with left := 0, gone := true } := by
  have h1 : DevAt (w.setCell ⟨db, 3, none⟩ (.int .i64 0)) B db g fa cf { st with left := 0 } := h.left 0 (by decide)
  exact h1.setF (Chg.setCell _ ⟨db, 4, none⟩ _) (by rw [World.cell?_setCell_other _ _ _ _ (by simp)]) (by rw [World.cell?_setCell_other _ _ _ _ (by simp)]) (by rw [World.cell?_setCell_other _ _ _ _ (by simp)]) (by rw [World.cell?_setCell_other _ _ _ _ (by simp)]; exact h1.c3) (World.cell?_setCell_same _ _ _ h1.c4) (fun j hj => by rw [World.frozen?_setCell]; exact h1.fz j hj) rfl rfl (by show 0 < _; decide)
theorem burn_gone (st : RS) (h : (burn st).1 = true) : st.left = 1 ∧ (burn st).2 = { st with left := 0, gone := true } := by
  unfold burn at h ⊢
  split
  · rename_i h0; simp [h0] at h
  · split
    · exact ⟨by assumption, rfl⟩
    · rename_i h0 h1; simp [h0, h1] at h
theorem burn_not (st : RS) (h : (burn st).1 = false) : st.left ≠ 1 ∧ (burn st).2 = { st with left := st.left - 1 } := by
  unfold burn at h ⊢
  split
  · rename_i h0
    refine ⟨by omega, ?_⟩
    cases st; simp at h0; simp [h0]
  · split
    · rename_i h0 h1; simp [h0, h1] at h
    · exact ⟨by assumption, rfl⟩
/-- The fuse burns down: the call is not done. -/
theorem fused_burns (f : Value) (B db : Nat) (g : DG) (fa : Option Addr) (cf : Nat) (st : RS) (w : World) (h : DevAt w B db g fa cf st) (hb : (burn st).1 = true) :
    Calls Try.prog 40 #[.pointer (some ⟨db, 0, none⟩), f] w fun e w' => e = .returned (.int .i64 9) ∧ DevAt w' B db g fa cf (burn st).2 ∧ Chg [db] w w' := by
  obtain ⟨h1, h2⟩ := burn_gone st hb
  rw [h2]
  have c3 := h.c3
  have c4 := h.c4
  have f3 := h.fz 3 (by decide)
  have f4 := h.fz 4 (by decide)
  rw [h1] at c3
  go_enter Try.func40, Try.ntmps40
  go_wp2
  go_ret
  exact ⟨rfl, h.goes, (Chg.setCell w ⟨db, 3, none⟩ _).trans (Chg.setCell _ ⟨db, 4, none⟩ _) (fun _ h _ => h) (fun _ h _ => h)⟩
/-- It does not: the call is done. -/
theorem fused_settle (B db : Nat) (g : DG) (fa : Option Addr) (cf : Nat) (st : RS) (w : World) (h : DevAt w B db g fa cf st) (hb : (burn st).1 = false) :
    Calls Try.prog 40 #[.pointer (some ⟨db, 0, none⟩), .func (.func 41) #[.pointer (some ⟨db, 0, none⟩)] #[]] w fun e w' => e = .returned (.int .i64 0) ∧ DevAt w' B db g none 0 { (burn st).2 with S := settle (burn st).2.S (burn st).2.L, L := [] } ∧ Chg [g.lb, g.nb, db] w w' := by
  obtain ⟨h1, h2⟩ := burn_not st hb
  rw [h2]
  have c3 := h.c3
  have f3 := h.fz 3 (by decide)
  have hlf := h.lft
  by_cases h0 : st.left = 0
  · rw [h0] at c3
    have hl := h.left 0 (by decide)
    have hgl := Chg.setCell w ⟨db, 3, none⟩ (.int .i64 (0 : Nat))
    have e1 : st.left - 1 = 0 := by omega
    rw [e1]
    go_enter Try.func40, Try.ntmps40
    go_wp2_with (first | (go_at_call 41; refine (settle_any B db g fa cf _ _ hl).mono ?_; rintro e w3 ⟨rfl, h3, hg3⟩))
    go_ret
    exact ⟨rfl, h3, hgl.trans hg3 (fun k hk _ => by simp at hk ⊢; exact Or.inr (Or.inr hk)) (fun _ h _ => h)⟩
  · obtain ⟨k, hk⟩ : ∃ k, st.left = k + 1 := ⟨st.left - 1, by omega⟩
    have e1 : st.left - 1 = k := by omega
    rw [e1]
    have hl := h.left k (by omega)
    have hgl := Chg.setCell w ⟨db, 3, none⟩ (.int .i64 (k : Nat))
    have hk1 : (((k + 1 : Nat) : Int) == 1) = false := by simp; omega
    have w1 : IntKind.i64.wrap (((k + 1 : Nat) : Int) - 1) = (k : Int) := by rw [IntKind.wrap_i64]; omega
    rw [hk] at c3
    have hd : decide ((k : Int) < 0) = false := by simp
    go_enter Try.func40, Try.ntmps40
    go_wp2_with (first | (go_at_call 41; refine (settle_any B db g fa cf _ _ hl).mono ?_; rintro e w3 ⟨rfl, h3, hg3⟩))
    go_ret
    exact ⟨rfl, h3, hgl.trans hg3 (fun k hk _ => by simp at hk ⊢; exact Or.inr (Or.inr hk)) (fun _ h _ => h)⟩
theorem dbarrier_any (B db : Nat) (g : DG) (fa : Option Addr) (cf : Nat) (st : RS) (w : World) (h : DevAt w B db g fa cf st) :
    Calls Try.prog 18 #[.pointer (some ⟨db, 0, none⟩)] w fun e w' => e = .returned (.int .i64 (barrier st).1) ∧ ∃ fa' cf', DevAt w' B db g fa' cf' (barrier st).2 ∧ Chg [g.lb, g.nb, db] w w' ∧ (∀ k, k ∈ fp fa' cf' → k ∈ fp fa cf) := by
  unfold barrier
  cases hg : st.gone
  · simp only [Bool.false_eq_true, if_false]
    cases hb : (burn st).1
    · simp only [Bool.false_eq_true, if_false]
      go_enter Try.func18, Try.ntmps18
      go_wp2_with (first | (go_at_call 39; refine (powered_any B db g fa cf st w h).mono ?_; rw [hg]; rintro e w' ⟨rfl, rfl⟩) | (go_at_call 40; refine (fused_settle B db g fa cf st w h hb).mono ?_; rintro e w3 ⟨rfl, h3, hg3⟩))
      go_ret
      exact ⟨rfl, none, 0, h3, hg3, fun k hk => by rw [fp_zero] at hk; simp at hk⟩
    · simp only [if_true]
      go_enter Try.func18, Try.ntmps18
      go_wp2_with (first | (go_at_call 39; refine (powered_any B db g fa cf st w h).mono ?_; rw [hg]; rintro e w' ⟨rfl, rfl⟩) | (go_at_call 40; refine (fused_burns _ B db g fa cf st w h hb).mono ?_; rintro e w3 ⟨rfl, h3, hg3⟩))
      go_ret
      exact ⟨rfl, fa, cf, h3, hg3.mono (fun k hk _ => by simp at hk ⊢; exact Or.inr (Or.inr hk)), fun k hk => hk⟩
  · simp only [if_true]
    go_enter Try.func18, Try.ntmps18
    go_wp2_with (first | (go_at_call 39; refine (powered_any B db g fa cf st w h).mono ?_; rw [hg]; rintro e w' ⟨rfl, rfl⟩))
    go_ret
    exact ⟨rfl, fa, cf, h, Chg.refl _ _, fun k hk => hk⟩
end Go.Proofs.Ytdmhcbbakgljoaa
