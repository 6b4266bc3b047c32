/- Texts Db, Dc, Na of the library, joined. -/
import Derived.Test.YtoeijomelabbfaaGreatDoorM02
import Derived.Deep.QuietTactic
import Derived.BigQuiet
import Derived.RegionTactic
import Derived.Deep.RegionHeld3
import Derived.Deep.RegionLaw
import Derived.Deep.DeepCutAuto
import Derived.Deep.CutBlock
import Derived.Deep.DrawnRows
import Derived.WalkSpells
import Derived.WalkLawsBesides
/- The program's disk: the calls that only read, the fuse set. -/
namespace Go.Proofs.YtoeijomelabbfaaGreatDoor
set_option maxRecDepth 200000
open Go.RowKit
set_option linter.unusedVariables false
set_option linter.unusedSimpArgs false

theorem blocks_any (B db : Nat) (g : DG) (fa : Option Addr) (cf : Nat) (st : RS) (w : World) (h : DevAt w B db g fa cf st) (hW : Whole st) :
    Calls Tryz.prog 48 #[.pointer (some ⟨db, 0, none⟩)] w fun e w' => e = .returned (.int .i64 st.count) ∧ w = w' := by
  have c0 := h.c0
  obtain ⟨n, hn⟩ : ∃ n, n = 64 * st.S.length := ⟨_, rfl⟩
  rw [← hn] at c0
  obtain ⟨m, hm⟩ : ∃ m, m = st.count := ⟨_, rfl⟩
  have hq : Int.tdiv (n : Int) 256 = (m : Int) := by
    rw [Int.tdiv_eq_ediv_of_nonneg (by omega)]
    have := hW.1
    omega
  have hm1 : m ≤ 1024 := by have := hW.2; omega
  rw [← hm]
  clear hn hm hW
  go_enter Tryz.func48, Tryz.ntmps48
  go_wp2_with (first | (go_at_call 99; refine (made_yes db _ _ _ _ w c0).mono ?_; rintro e w' ⟨rfl, rfl⟩))
  go_ret
  exact ⟨rfl, rfl⟩
theorem off_any (B db : Nat) (g : DG) (fa : Option Addr) (cf : Nat) (st : RS) (w : World) (h : DevAt w B db g fa cf st) :
    Calls Tryz.prog 60 #[.pointer (some ⟨db, 0, none⟩)] w fun e w' => e = .returned (.bool st.gone) ∧ w = w' := by
  have c0 := h.c0
  have c4 := h.c4
  go_enter Tryz.func60, Tryz.ntmps60
  go_wp2_with (first | (go_at_call 99; refine (made_yes db _ _ _ _ w c0).mono ?_; rintro e w' ⟨rfl, rfl⟩))
  go_ret
  exact ⟨rfl, rfl⟩
theorem powered_any (B db : Nat) (g : DG) (fa : Option Addr) (cf : Nat) (st : RS) (w : World) (h : DevAt w B db g fa cf st) :
    Calls Tryz.prog 110 #[.pointer (some ⟨db, 0, none⟩)] w fun e w' => e = .returned (.int .i64 (if st.gone then 9 else 0)) ∧ w = w' := by
  have c0 := h.c0
  have c4 := h.c4
  cases hg : st.gone
  · rw [hg] at c4
    go_enter Tryz.func110, Tryz.ntmps110
    go_wp2_with (first | (go_at_call 99; refine (made_yes db _ _ _ _ w c0).mono ?_; rintro e w' ⟨rfl, rfl⟩))
    go_ret
    exact ⟨rfl, rfl⟩
  · rw [hg] at c4
    go_enter Tryz.func110, Tryz.ntmps110
    go_wp2_with (first | (go_at_call 99; refine (made_yes db _ _ _ _ w c0).mono ?_; rintro e w' ⟨rfl, rfl⟩))
    go_ret
    exact ⟨rfl, rfl⟩
theorem asked_any (z : Int) (B db : Nat) (g : DG) (fa : Option Addr) (cf : Nat) (st : RS) (w : World) (h : DevAt w B db g fa cf st) (hW : Whole st) :
    Calls Tryz.prog 107 #[.pointer (some ⟨db, 0, none⟩), .int .i64 z] w fun e w' => e = .returned (.int .i64 (whyN st z)) ∧ w = w' := by
  unfold whyN
  cases hg : st.gone
  · simp only [Bool.false_eq_true, if_false]
    by_cases h1 : z < 0
    · rw [if_pos (Or.inl h1)]
      go_enter Tryz.func107, Tryz.ntmps107
      go_wp2_with (first | (go_at_call 110; refine (powered_any B db g fa cf st w h).mono ?_; rw [hg]; rintro e w' ⟨rfl, rfl⟩) | (go_at_call 48; refine (blocks_any B db g fa cf st w h hW).mono ?_; rintro e w' ⟨rfl, rfl⟩))
      go_ret
      exact ⟨rfl, rfl⟩
    · have h1' : decide (z < 0) = false := by simp; omega
      by_cases h2 : (st.count : Int) ≤ z
      · rw [if_pos (Or.inr h2)]
        have h2' : decide ((st.count : Int) ≤ z) = true := by simpa using h2
        go_enter Tryz.func107, Tryz.ntmps107
        go_wp2_with (first | (go_at_call 110; refine (powered_any B db g fa cf st w h).mono ?_; rw [hg]; rintro e w' ⟨rfl, rfl⟩) | (go_at_call 48; refine (blocks_any B db g fa cf st w h hW).mono ?_; rintro e w' ⟨rfl, rfl⟩))
        go_ret
        exact ⟨rfl, rfl⟩
      · rw [if_neg (by omega)]
        have h2' : decide ((st.count : Int) ≤ z) = false := by simpa using h2
        go_enter Tryz.func107, Tryz.ntmps107
        go_wp2_with (first | (go_at_call 110; refine (powered_any B db g fa cf st w h).mono ?_; rw [hg]; rintro e w' ⟨rfl, rfl⟩) | (go_at_call 48; refine (blocks_any B db g fa cf st w h hW).mono ?_; rintro e w' ⟨rfl, rfl⟩))
        go_ret
        exact ⟨rfl, rfl⟩
  · simp only [if_true]
    go_enter Tryz.func107, Tryz.ntmps107
    go_wp2_with (first | (go_at_call 110; refine (powered_any B db g fa cf st w h).mono ?_; rw [hg]; rintro e w' ⟨rfl, rfl⟩))
    go_ret
    exact ⟨rfl, rfl⟩
theorem fuse_set (z : Int) (B db : Nat) (g : DG) (fa : Option Addr) (cf : Nat) (st : RS) (w : World) (h : DevAt w B db g fa cf st) (hz : z < 9223372036854775808) :
    Calls Tryz.prog 33 #[.pointer (some ⟨db, 0, none⟩), .int .i64 z] w fun e w' => e = .returned (.tuple #[]) ∧ DevAt w' B db g fa cf { st with left := z.toNat } ∧ Chg [db] w w' := by
  have c0 := h.c0
  have c3 := h.c3
  have f3 := h.fz 3 (by decide)
  have close : ∀ v : Nat, v < 9223372036854775808 → DevAt (w.setCell ⟨db, 3, none⟩ (.int .i64 v)) B db g fa cf { st with left := v } := fun v hv =>
    h.setF (Chg.setCell w ⟨db, 3, none⟩ _) (by rw [World.cell?_setCell_other _ _ _ _ (by simp)]) (by rw [World.cell?_setCell_other _ _ _ _ (by simp)]) (by rw [World.cell?_setCell_other _ _ _ _ (by simp)]) (World.cell?_setCell_same _ _ _ c3) (by rw [World.cell?_setCell_other _ _ _ _ (by simp)]; exact h.c4) (fun j hj => by rw [World.frozen?_setCell]; exact h.fz j hj) rfl rfl hv
  by_cases h1 : z < 0
  · have e0 : z.toNat = 0 := by omega
    rw [e0]
    go_enter Tryz.func33, Tryz.ntmps33
    go_wp2_with (first | (go_at_call 99; refine (made_yes db _ _ _ _ w c0).mono ?_; rintro e w' ⟨rfl, rfl⟩))
    go_end0
    exact ⟨rfl, close 0 (by decide), Chg.setCell w ⟨db, 3, none⟩ _⟩
  · obtain ⟨k, rfl⟩ := Int.eq_ofNat_of_zero_le (show 0 ≤ z by omega)
    have h1' : decide ((k : Int) < 0) = false := by simp
    go_enter Tryz.func33, Tryz.ntmps33
    go_wp2_with (first | (go_at_call 99; refine (made_yes db _ _ _ _ w c0).mono ?_; rintro e w' ⟨rfl, rfl⟩))
    go_end0
    exact ⟨rfl, close k (by omega), Chg.setCell w ⟨db, 3, none⟩ _⟩
theorem sectorOf_any (b o n c s : Nat) (hs : 64 * s + 64 ≤ c) (hc : c ≤ maxLen) (w : World) :
    Calls Tryz.prog 113 #[.slice (some ⟨b, o, none⟩) n c, .int .i64 s] w fun e w' => e = .returned (.slice (some ⟨b, o + 64 * s, none⟩) 64 64) ∧ w = w' := by
  unfold maxLen at hc
  have w1 : IntKind.i64.wrap ((s : Int) * 64) = ((64 * s : Nat) : Int) := by rw [IntKind.wrap_i64]; omega
  have w2 : IntKind.i64.wrap ((s : Int) + 1) = (s : Int) + 1 := by rw [IntKind.wrap_i64]; omega
  have w3 : IntKind.i64.wrap (((s : Int) + 1) * 64) = ((64 * s + 64 : Nat) : Int) := by rw [IntKind.wrap_i64]; omega
  go_enter Tryz.func113, Tryz.ntmps113
  go_wp2
  go_ret
  refine ⟨?_, rfl⟩
  show Ending.returned (Value.slice _ (64 * s + 64 - 64 * s) (64 * s + 64 - 64 * s)) = _
  rw [Nat.add_sub_cancel_left]
theorem lasts_any (p : Nat) (hp : p < 256) (w : World) :
    Calls Tryz.prog 101 #[.int .u8 p] w fun e w' => e = .returned (.int .i64 ((if p = 0 then 0 else if p = 1 then 64 else (p - 2) % 65 : Nat) : Nat)) ∧ w = w' := by
  by_cases h0 : p = 0
  · subst h0
    go_enter Tryz.func101, Tryz.ntmps101
    go_wp2
    go_ret
    exact ⟨rfl, rfl⟩
  · by_cases h1 : p = 1
    · subst h1
      go_enter Tryz.func101, Tryz.ntmps101
      go_wp2
      go_ret
      exact ⟨rfl, rfl⟩
    · rw [if_neg h0, if_neg h1]
      have e0 : ((p : Int) == 0) = false := by simp; omega
      have e1 : ((p : Int) == 1) = false := by simp; omega
      go_enter Tryz.func101, Tryz.ntmps101
      go_wp2
      go_ret
      refine ⟨ret_int ?_, rfl⟩
      omega
theorem seen_any (s : Nat) (B db : Nat) (g : DG) (fa : Option Addr) (cf : Nat) (st : RS) (w : World) (h : DevAt w B db g fa cf st) (hs : s < st.S.length) :
    Calls Tryz.prog 114 #[.pointer (some ⟨db, 0, none⟩), .int .i64 s] w fun e w' => ∃ ao c, e = .returned (.slice ao 64 c) ∧ Reads w ao (bts (cur st s)) ∧ w = w' := by
  have c0 := h.c0
  have c1 := h.c1
  have c2 := h.c2
  have hmx := h.rS.max
  have hle := h.rS.le
  obtain ⟨b0, o0, e0, _, _, hcn⟩ := h.rN.at_ (by have := h.rN.le; omega)
  cases e0
  have x2 := hcn s _ (newC_get _ _ s hs)
  have hsi : (s : Int) < (st.S.length : Int) := by omega
  have hsS : st.S.getD s [] = st.S[s] := by rw [List.getD_eq_getElem?_getD, List.getElem?_eq_getElem hs]; rfl
  clear hcn
  rcases newOf_parts st.L s with ⟨hn, hl⟩ | ⟨n, l, hn, hL, hl⟩
  · rw [hn] at x2
    have hcur : cur st s = st.S[s] := by unfold cur; rw [hl, hsS]
    rw [hcur]
    obtain ⟨b1, o1, e1, _, _, hcs⟩ := h.rS.at_ (by have := h.pos; omega)
    cases e1
    have hrd : Reads w (some ⟨g.lb, g.lo + 64 * s, none⟩) (bts st.S[s]) := by
      have := ((h.rS.reads).drop (l := 64 * s)).take 64
      rwa [bts_drop, bts_take, flat_get _ s hs h.lS] at this
    clear hcs hcur hsS
    go_enter Tryz.func114, Tryz.ntmps114
    go_wp2_with (first | (go_at_call 113; refine (sectorOf_any g.lb g.lo _ g.cl s (by omega) hmx w).mono ?_; rintro e w' ⟨rfl, rfl⟩))
    go_ret
    exact ⟨_, _, rfl, hrd, rfl⟩
  · rw [hn] at x2
    have hcur : cur st s = l := by unfold cur; rw [hl]
    rw [hcur]
    have hnL : n < st.L.length := (List.getElem?_eq_some_iff.1 hL).1
    have hge : st.L[n] = (s, l) := by rw [List.getElem?_eq_getElem hnL] at hL; exact Option.some.inj hL
    have hl64 := (h.lL _ (List.getElem_mem hnL)).1
    rw [hge] at hl64
    obtain ⟨fb, fo, rfl, _, _, _, hcf⟩ := h.rL.at_ (by have := h.rL.le; omega)
    have hrd : Reads w (some ⟨fb, fo + n * 65 + 1, none⟩) (bts l) := fun _ => ⟨fb, _, rfl, fun j u hu => by
      have := hcf (n * 65 + (j + 1)) u (flyC_get st.L n hnL (fun f hf => (h.lL f hf).1) (j + 1) u (by rw [hge]; exact hu))
      rw [← this]
      congr 2
      omega⟩
    have hni : (n : Int) < (st.L.length : Int) := by omega
    have hmL := h.rL.max
    have hlL := h.rL.le
    unfold maxLen at hmL
    have hg1 : decide ((0 : Int) < ((n + 1 : Nat) : Int)) = true := decide_eq_true (by omega)
    have w1 : IntKind.i64.wrap (((n + 1 : Nat) : Int) - 1) = (n : Int) := by rw [IntKind.wrap_i64]; omega
    clear hcf hcur hsS hge hl
    go_enter Tryz.func114, Tryz.ntmps114
    go_wp2
    go_ret
    exact ⟨_, ⟨_, rfl⟩, hrd, rfl⟩
end Go.Proofs.YtoeijomelabbfaaGreatDoor

/- The program's disk: a sector write lasts. -/
namespace Go.Proofs.YtoeijomelabbfaaGreatDoor
set_option maxRecDepth 200000
open Go.RowKit
set_option linter.unusedVariables false
set_option linter.unusedSimpArgs false
attribute [local go_sem ↓] Go.wp_at_zero Go.wp_at_succ

theorem oneB : (Tryz.prog.info? 5).map (·.size) = some 1 := by kernel_rfl
theorem fly_reads {w : World} {b : Nat} {t : TypeId} {s : Nat} {l : List UInt8} (h : Blk w b t (flyV (s, l))) (n : Nat) : Reads w (some ⟨b, 1, none⟩) (bts (l.take n)) := by
  rw [← bts_take]
  refine Reads.take (fun hx => ⟨b, 1, rfl, fun j u hu => ?_⟩) n
  rw [Nat.add_comm]
  exact h.cell (j + 1) u hu
theorem keepL {W w w' : World} {db bx lb lo n : Nat} {t : TypeId} {v u : Value} {cs : List Value} (h : w.cell? ⟨db, 0, none⟩ = some v ∧ w.cell? ⟨bx, 0, none⟩ = some u ∧ Blk w bx t cs ∧ w.there lb lo n ∧ Chg [lb] W w) (g : Chg [lb] w w') (h1 : db ≠ lb) (h2 : bx ≠ lb) (h4 : w'.there lb lo n) :
    w'.cell? ⟨db, 0, none⟩ = some v ∧ w'.cell? ⟨bx, 0, none⟩ = some u ∧ Blk w' bx t cs ∧ w'.there lb lo n ∧ Chg [lb] W w' :=
  ⟨g.cellv h.1 (by simpa using h1), g.cellv h.2.1 (by simpa using h2), h.2.2.1.chg g (by simpa using h2), h4, h.2.2.2.2.trans g (fun _ h _ => h) (fun k hk _ => hk)⟩
/-- What lasts is written. -/
theorem DevAt.lays {w w' : World} {B db : Nat} {g : DG} {fa : Option Addr} {cf : Nat} {st : RS} {S' : List (List UInt8)} (h : DevAt w B db g fa cf st) (c : Chg [g.lb] w w') (hS : S'.length = st.S.length) (hl : ∀ l ∈ S', l.length = 64)
    (hr : Room w' B (some ⟨g.lb, g.lo, none⟩) (64 * st.S.length) g.cl (bts S'.flatten)) : DevAt w' B db g fa cf { st with S := S' } := by
  have n0 : db ∉ [g.lb] := by simpa using h.d1
  have hp := h.pos
  have q2 := h.rN.le
  refine ⟨by rw [hS]; exact c.cellv h.c0 n0, c.cellv h.c1 n0, by rw [hS]; exact c.cellv h.c2 n0, c.cellv h.c3 n0, c.cellv h.c4 n0, fun j hj => (c.frozen (p := ⟨db, j, none⟩) (show db < w.heap.size from block_lt_of_cell h.c0) n0).trans (h.fz j hj), by rw [hS]; exact hr, h.rL.chg c ?_, ?_, h.d1, h.d2, h.d3, h.f1, h.f2, h.f3, h.dB, hl, by rw [hS]; exact h.lL, h.lft, by rw [hS]; exact h.pos⟩
  · intro k hk
    simp
    rintro rfl
    exact h.f2 hk
  · rw [hS]
    refine h.rN.chg c fun k hk => ?_
    rw [fp_some _ _ _ (by omega)] at hk
    simp at hk ⊢
    rw [hk]; exact fun e => h.d3 e.symm
set_option maxHeartbeats 1000000 in
theorem land_any (s n : Nat) (l : List UInt8) (B db : Nat) (g : DG) (fa : Option Addr) (cf : Nat) (st : RS) (w : World) (h : DevAt w B db g fa cf st) (hl : l.length = 64) (hs : s < st.S.length) (hn : n ≤ 64) :
    Calls Tryz.prog 100 #[.pointer (some ⟨db, 0, none⟩), .agg (flyV (s, l)).toArray, .int .i64 n] w fun e w' => e = .returned (.tuple #[]) ∧ DevAt w' B db g fa cf { st with S := laid st.S s l n } ∧ Chg [g.lb] w w' := by
  have c0 := h.c0
  have hmx := h.rS.max
  have hle := h.rS.le
  have hml : maxLen = 9223372036854775807 := rfl
  have hcl : 64 * s + 64 ≤ g.cl := by omega
  have hdb : db < w.heap.size := block_lt_of_cell c0
  have hlb : g.lb < w.heap.size := (h.lt g.lb (by simp [DF])).2
  have hd1 := h.d1
  obtain ⟨N, hN⟩ : ∃ N, N = 64 * st.S.length := ⟨_, rfl⟩
  rw [← hN] at c0 hle
  go_enter Tryz.func100, Tryz.ntmps100
  go_wp2_with (refine wpList_box_w rfl 156 (.tmp 1) rfl (flyV (s, l)) rfl ?_; intro w1 hb1 hg1 hs1)
  have c1 := hg1.cellv c0 (by simp)
  have cx := hb1.cell 0 (.int .i64 s) rfl
  generalize hbx : w.heap.size = bx at *
  have hne : db ≠ bx := by omega
  have hne2 : bx ≠ g.lb := by omega
  have h1 := h.keep hg1
  have hz : (n : Int) ≤ 64 := by omega
  have hth : w1.there g.lb (g.lo + 64 * s) n := h1.rS.there (64 * s) n (by have := h1.rS.le; omega)
  have htl : (bts (l.take n)).length = n := by rw [bts_length, List.length_take]; omega
  have Htl := mkHid htl
  have HN := mkHid hN
  clear htl hN
  go_region_held3 (fun w' => w'.cell? ⟨db, 0, none⟩ = some (.slice (some ⟨g.lb, g.lo, none⟩) N g.cl) ∧ w'.cell? ⟨bx, 0, none⟩ = some (.int .i64 s) ∧ Blk w' bx 156 (flyV (s, l)) ∧ w'.there g.lb (g.lo + 64 * s) n ∧ Chg [g.lb] w1 w')
    (first | exact keepL ⟨c1, cx, hb1, hth, Chg.refl _ _⟩ (Chg.drew _ _) hd1 hne2 ((World.there_drew _ _ _ _).2 hth) | exact keepL (by assumption) (Chg.setCells g.lb (bts (l.take n)) (g.lo + 64 * s) _) hd1 hne2 (World.there_setCells (And.left (And.right (And.right (And.right (by assumption))))) _ _ _))
    (first | (go_at_call 113; refine (sectorOf_any g.lb g.lo N g.cl s hcl hmx _).mono ?_; rintro e w' ⟨rfl, rfl⟩) | (refine step_copy_k rfl (.tmp 12) (.tmp 15) 41 41 5 rfl Tryz.underlying41 oneB g.lb (g.lo + 64 * s) 64 64 (some ⟨bx, 1, none⟩) n 64 (bts (l.take n)) rfl rfl (fly_reads (And.left (And.right (And.right (by assumption)))) n) (Htl.out.trans (Nat.min_eq_left hn).symm) (by rw [Htl.out]; exact (World.there_drew _ _ _ _).2 hth) (bts_one _) ?_))
  have hgd : Chg [] w w1.drew := hg1.then (Chg.drew [] w1)
  have hr := (h.keep hgd).rS.sets (bts (l.take n)) (64 * s) (by rw [Htl.out]; omega)
  rw [Htl.out, bts_take, bts_drop, ← bts_append, ← bts_append, ← flat_laid h.lS hs hl hn] at hr
  have hgS := hgd.trans (Chg.setCells g.lb (bts (l.take n)) (g.lo + 64 * s) w1.drew) (fun k hk _ => by simp at hk) (fun k hk _ => hk)
  generalize w1.drew.setCells g.lb (g.lo + 64 * s) (bts (l.take n)) = w9 at hgS hr ⊢
  go_end0
  exact ⟨rfl, h.lays hgS (laid_len _ _ _ _) (laid_mem h.lS hs hl hn) hr, hgS⟩
end Go.Proofs.YtoeijomelabbfaaGreatDoor

/- Numbers and their bytes (as lib/order has them); rows of numbers of 64 bits; which nodes may be, and their forms. -/


namespace Go.Proofs.YtoeijomelabbfaaGreatDoor
set_option maxRecDepth 200000
open Go.RowKit
set_option linter.unusedVariables false
set_option linter.unusedSimpArgs false
attribute [local go_sem ↓] Go.wp_at_zero Go.wp_at_succ

def prev (k : Nat) : Int := (k : Int) - 1
theorem prev_zero : prev 0 = -1 := rfl
theorem prev_succ (j : Nat) : prev (j + 1) = j := by simp [prev]
theorem ret_bool' {a b : Bool} (h : a = b) : Ending.returned (Value.bool a) = .returned (.bool b) := by rw [h]
/-- The k lowest digits of N to the base 256, the highest first. -/
def be (N : Nat) : Nat → List UInt8
  | 0 => []
  | k + 1 => UInt8.ofNat (N / 256 ^ k) :: be N k
theorem be_length (N k : Nat) : (be N k).length = k := by induction k <;> simp [be, *]
theorem be_snoc (N k : Nat) : be N (k + 1) = be (N / 256) k ++ [UInt8.ofNat N] := by
  induction k with
  | zero => simp [be]
  | succ k ih => rw [be, ih, be]; simp [Nat.div_div_eq_div_mul, Nat.pow_succ, Nat.mul_comm]
theorem ofNat_toNat (N : Nat) : ((UInt8.ofNat N).toNat : Int) = ((N % 256 : Nat) : Int) := by simp
theorem shr_byte (N j : Nat) : ((N : Int) / 2 ^ (8 * j) % 256) = ((UInt8.ofNat (N / 256 ^ j)).toNat : Int) := by
  have h : ((2 : Int) ^ (8 * j)) = ((256 ^ j : Nat) : Int) := by rw [show 256 = 2 ^ 8 from rfl, ← Nat.pow_mul]; norm_cast
  rw [ofNat_toNat, h, Int.natCast_emod, Int.natCast_ediv]
  rfl

/-- The number whose bytes these are. -/
def val (l : List UInt8) : Nat := l.foldl (fun a x => a * 256 + x.toNat) 0
theorem foldl_val (l : List UInt8) (a : Nat) : l.foldl (fun a x => a * 256 + x.toNat) a = a * 256 ^ l.length + val l := by
  induction l generalizing a with
  | nil => simp [val]
  | cons x r ih =>
    have h := ih (0 * 256 + x.toNat)
    simp only [List.foldl_cons, val, List.length_cons] at h ⊢
    rw [ih, h, Nat.pow_succ]
    simp only [val]
    grind
theorem val_snoc (l : List UInt8) (x : UInt8) : val (l ++ [x]) = val l * 256 + x.toNat := by simp [val]
theorem val_lt (l : List UInt8) : val l < 256 ^ l.length := by
  induction l with
  | nil => simp [val]
  | cons x r ih =>
    have h := foldl_val r (0 * 256 + x.toNat)
    have hx := x.toNat_lt
    simp only [val, List.foldl_cons, List.length_cons] at h ih ⊢
    rw [h, Nat.pow_succ]
    have h2 : (x.toNat + 1) * 256 ^ r.length ≤ 256 * 256 ^ r.length := Nat.mul_le_mul_right _ (by omega)
    have h3 : val r < 256 ^ r.length := ih
    grind
theorem val_take_succ (l : List UInt8) (k : Nat) (h : k < l.length) : val (l.take (k + 1)) = val (l.take k) * 256 + l[k].toNat := by
  rw [List.take_succ_eq_append_getElem h, val_snoc]

theorem val_take_lt (l : List UInt8) (k : Nat) (h : k < 8) : val (l.take k) < 2 ^ 56 :=
  Nat.lt_of_lt_of_le (val_lt _) (by
    have h1 : (l.take k).length ≤ 7 := by simp; omega
    exact Nat.le_trans (Nat.pow_le_pow_right (by decide) h1) (by decide))
theorem wraps_u64 (n : Int) (h₀ : 0 ≤ n) (h₁ : n < 2 ^ 64) : IntKind.u64.wrap n = n := by
  rw [IntKind.wrap_u64]; exact Int.emod_eq_of_lt h₀ h₁
theorem or_byte (A : Nat) (x : UInt8) (h : A < 2 ^ 56) : bits BinOp.or IntKind.u64 (IntKind.u64.wrap ((A : Int) * 256)) (IntKind.u64.wrap (x.toNat : Int)) = ((A * 256 + x.toNat : Nat) : Int) := by
  have hx := x.toNat_lt
  rw [wraps_u64 _ (by omega) (by omega), wraps_u64 _ (by omega) (by omega), bits_join .u64 64 (by decide) wraps_u64 8 _ _ (by omega) (by omega) (by omega) (by omega) (by omega) (by omega)]
  simp

theorem val_cons (x : UInt8) (l : List UInt8) : val (x :: l) = x.toNat * 256 ^ l.length + val l := by
  have := foldl_val l (0 * 256 + x.toNat)
  simp only [val, List.foldl_cons] at this ⊢
  rw [this]; simp
theorem val_be (N k : Nat) : val (be N k) = N % 256 ^ k := by
  induction k with
  | zero => simp [be, val, Nat.mod_one]
  | succ k ih =>
    rw [be, val_cons, ih, be_length, Nat.pow_succ, Nat.mod_mul]
    simp [Nat.mul_comm, Nat.add_comm]

end Go.Proofs.YtoeijomelabbfaaGreatDoor
