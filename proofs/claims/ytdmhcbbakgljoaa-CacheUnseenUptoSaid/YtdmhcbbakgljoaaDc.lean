/- The program's disk: a sector write lasts. -/
import Derived.Test.YtdmhcbbakgljoaaDb
namespace Go.Proofs.Ytdmhcbbakgljoaa
open Go.RowKit
set_option linter.unusedVariables false
set_option linter.unusedSimpArgs false
attribute [local go_sem ↓] Go.wp_at_zero Go.wp_at_succ

theorem oneB : (Try.prog.info? 5).map (·.size) = some 1 := by kernel_rfl
theorem fly_reads {w : World} {b : Nat} {t : TypeId} {s : Nat} {l : List UInt8} (h : Blk w b t (flyV (s, l))) (n : Nat) : Reads w (some ⟨b, 1, none⟩) (bts (l.take n)) := by
  rw [← bts_take]
  refine Reads.take (fun hx => ⟨b, 1, rfl, fun j u hu => ?_⟩) n
  rw [Nat.add_comm]
  exact h.cell (j + 1) u hu
/-- What each of the worlds of the region bears. -/
def KL (W : World) (db bx lb lo n : Nat) (t : TypeId) (v u : Value) (cs : List Value) (w : World) : Prop := w.cell? ⟨db, 0, none⟩ = some v ∧ w.cell? ⟨bx, 0, none⟩ = some u ∧ Blk w bx t cs ∧ w.there lb lo n ∧ Chg [lb] W w
theorem keepL {W w w' : World} {db bx lb lo n : Nat} {t : TypeId} {v u : Value} {cs : List Value} (h : w.cell? ⟨db, 0, none⟩ = some v ∧ w.cell? ⟨bx, 0, none⟩ = some u ∧ Blk w bx t cs ∧ w.there lb lo n ∧ Chg [lb] W w) (g : Chg [lb] w w') (h1 : db ≠ lb) (h2 : bx ≠ lb) (h4 : w'.there lb lo n) :
    w'.cell? ⟨db, 0, none⟩ = some v ∧ w'.cell? ⟨bx, 0, none⟩ = some u ∧ Blk w' bx t cs ∧ w'.there lb lo n ∧ Chg [lb] W w' :=
  ⟨g.cellv h.1 (by simpa using h1), g.cellv h.2.1 (by simpa using h2), h.2.2.1.chg g (by simpa using h2), h4, h.2.2.2.2.trans g (fun _ h _ => h) (fun k hk _ => hk)⟩
/-- What lasts is written. -/
theorem DevAt.lays {w w' : World} {B db : Nat} {g : DG} {fa : Option Addr} {cf : Nat} {st : RS} {S' : List (List UInt8)} (h : DevAt w B db g fa cf st) (c : Chg [g.lb] w w') (hS : S'.length = st.S.length) (hl : ∀ l ∈ S', l.length = 64)
    (hr : Room w' B (some ⟨g.lb, g.lo, none⟩) (64 * st.S.length) g.cl (bts S'.flatten)) : DevAt w' B db g fa cf { st with S := S' } := by
  have n0 : db ∉ [g.lb] := by simpa using h.d1
  have hp := h.pos
  have q2 := h.rN.le
  refine ⟨by rw [hS]; exact c.cellv h.c0 n0, c.cellv h.c1 n0, by rw [hS]; exact c.cellv h.c2 n0, c.cellv h.c3 n0, c.cellv h.c4 n0, fun j hj => (c.frozen (p := ⟨db, j, none⟩) (show db < w.heap.size from block_lt_of_cell h.c0) n0).trans (h.fz j hj), by rw [hS]; exact hr, h.rL.chg c ?_, ?_, h.d1, h.d2, h.d3, h.f1, h.f2, h.f3, h.dB, hl, by rw [hS]; exact h.lL, h.lft, by rw [hS]; exact h.pos⟩
  · intro k hk
    simp
    rintro rfl
    exact h.f2 hk
  · rw [hS]
    refine h.rN.chg c fun k hk => ?_
    rw [fp_some _ _ _ (by omega)] at hk
    simp at hk ⊢
    rw [hk]; exact fun e => h.d3 e.symm
set_option maxHeartbeats 1000000 in
theorem land_any (s n : Nat) (l : List UInt8) (B db : Nat) (g : DG) (fa : Option Addr) (cf : Nat) (st : RS) (w : World) (h : DevAt w B db g fa cf st) (hl : l.length = 64) (hs : s < st.S.length) (hn : n ≤ 64) :
    Calls Try.prog 43 #[.pointer (some ⟨db, 0, none⟩), .agg (flyV (s, l)).toArray, .int .i64 n] w fun e w' => e = .returned (.tuple #[]) ∧ DevAt w' B db g fa cf { st with S := laid st.S s l n } ∧ Chg [g.lb] w w' := by
  have c0 := h.c0
  have hmx := h.rS.max
  have hle := h.rS.le
  have hml : maxLen = 9223372036854775807 := rfl
  have hcl : 64 * s + 64 ≤ g.cl := by omega
  have hdb : db < w.heap.size := block_lt_of_cell c0
  have hlb : g.lb < w.heap.size := (h.lt g.lb (by simp [DF])).2
  have hd1 := h.d1
  obtain ⟨N, hN⟩ : ∃ N, N = 64 * st.S.length := ⟨_, rfl⟩
  rw [← hN] at c0 hle
  go_enter Try.func43, Try.ntmps43
  go_wp2_with (refine wpList_box_w rfl 82 (.tmp 1) rfl (flyV (s, l)) rfl ?_; intro w1 hb1 hg1 hs1)
  have c1 := hg1.cellv c0 (by simp)
  have cx := hb1.cell 0 (.int .i64 s) rfl
  generalize hbx : w.heap.size = bx at *
  have hne : db ≠ bx := by omega
  have hne2 : bx ≠ g.lb := by omega
  have h1 := h.keep hg1
  have hz : (n : Int) ≤ 64 := by omega
  have hth : w1.there g.lb (g.lo + 64 * s) n := h1.rS.there (64 * s) n (by have := h1.rS.le; omega)
  have htl : (bts (l.take n)).length = n := by rw [bts_length, List.length_take]; omega
  have Htl := mkHid htl
  have HN := mkHid hN
  clear htl hN
  go_region_held3 (fun w' => w'.cell? ⟨db, 0, none⟩ = some (.slice (some ⟨g.lb, g.lo, none⟩) N g.cl) ∧ w'.cell? ⟨bx, 0, none⟩ = some (.int .i64 s) ∧ Blk w' bx 82 (flyV (s, l)) ∧ w'.there g.lb (g.lo + 64 * s) n ∧ Chg [g.lb] w1 w')
    (first | exact keepL ⟨c1, cx, hb1, hth, Chg.refl _ _⟩ (Chg.drew _ _) hd1 hne2 ((World.there_drew _ _ _ _).2 hth) | exact keepL (by assumption) (Chg.setCells g.lb (bts (l.take n)) (g.lo + 64 * s) _) hd1 hne2 (World.there_setCells (And.left (And.right (And.right (And.right (by assumption))))) _ _ _))
    (first | (go_at_call 37; refine (sectorOf_any g.lb g.lo N g.cl s hcl hmx _).mono ?_; rintro e w' ⟨rfl, rfl⟩) | (refine step_copy_k rfl (.tmp 12) (.tmp 15) 31 31 5 rfl Try.underlying31 oneB g.lb (g.lo + 64 * s) 64 64 (some ⟨bx, 1, none⟩) n 64 (bts (l.take n)) rfl rfl (fly_reads (And.left (And.right (And.right (by assumption)))) n) (Htl.out.trans (Nat.min_eq_left hn).symm) (by rw [Htl.out]; exact (World.there_drew _ _ _ _).2 hth) (bts_one _) ?_))
  have hgd : Chg [] w w1.drew := hg1.then (Chg.drew [] w1)
  have hr := (h.keep hgd).rS.sets (bts (l.take n)) (64 * s) (by rw [Htl.out]; omega)
  rw [Htl.out, bts_take, bts_drop, ← bts_append, ← bts_append, ← flat_laid h.lS hs hl hn] at hr
  have hgS := hgd.trans (Chg.setCells g.lb (bts (l.take n)) (g.lo + 64 * s) w1.drew) (fun k hk _ => by simp at hk) (fun k hk _ => hk)
  generalize w1.drew.setCells g.lb (g.lo + 64 * s) (bts (l.take n)) = w9 at hgS hr ⊢
  go_end0
  exact ⟨rfl, h.lays hgS (laid_len _ _ _ _) (laid_mem h.lS hs hl hn) hr, hgS⟩
end Go.Proofs.Ytdmhcbbakgljoaa
