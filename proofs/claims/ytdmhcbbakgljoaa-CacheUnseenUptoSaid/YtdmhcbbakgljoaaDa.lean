/- The program's disk: what it is in memory. -/
import Derived.Test.YtdmhcbbakgljoaaT
import Derived.Test.YtdmhcbbakgljoaaQa
import Derived.Deep.QuietTactic
import Derived.BigQuiet
import Derived.Deep.RegionHeld3
import Derived.Deep.RegionLaw
import Derived.Deep.DeepCutAuto
import Derived.Deep.DrawnRows
import Derived.WalkSpells
import Derived.WalkLawsBesides
namespace Go.Proofs.Ytdmhcbbakgljoaa
open Go.RowKit
set_option linter.unusedVariables false
set_option linter.unusedSimpArgs false

/-- Where a disk's two rows lie that never move. -/
structure DG where
  lb : Nat
  lo : Nat
  cl : Nat
  nb : Nat
  no : Nat
  cn : Nat
structure DevAt (w : World) (B : Nat) (db : Nat) (g : DG) (fa : Option Addr) (cf : Nat) (st : RS) : Prop where
  c0 : w.cell? ⟨db, 0, none⟩ = some (.slice (some ⟨g.lb, g.lo, none⟩) (64 * st.S.length) g.cl)
  c1 : w.cell? ⟨db, 1, none⟩ = some (.slice fa st.L.length cf)
  c2 : w.cell? ⟨db, 2, none⟩ = some (.slice (some ⟨g.nb, g.no, none⟩) st.S.length g.cn)
  c3 : w.cell? ⟨db, 3, none⟩ = some (.int .i64 st.left)
  c4 : w.cell? ⟨db, 4, none⟩ = some (.bool st.gone)
  fz : ∀ j, j < 5 → w.frozen? ⟨db, j, none⟩ = false
  rS : Room w B (some ⟨g.lb, g.lo, none⟩) (64 * st.S.length) g.cl (bts st.S.flatten)
  rL : RoomZ 65 w B fa st.L.length cf (flyC st.L)
  rN : Room w B (some ⟨g.nb, g.no, none⟩) st.S.length g.cn (newC st.S.length st.L)
  d1 : db ≠ g.lb
  d2 : db ≠ g.nb
  d3 : g.lb ≠ g.nb
  f1 : db ∉ fp fa cf
  f2 : g.lb ∉ fp fa cf
  f3 : g.nb ∉ fp fa cf
  dB : B ≤ db
  lS : ∀ l ∈ st.S, l.length = 64
  lL : ∀ f ∈ st.L, f.2.length = 64 ∧ f.1 < st.S.length
  lft : st.left < 9223372036854775808
  pos : 0 < st.S.length
/-- The blocks of a disk. -/
def DF (db : Nat) (g : DG) (fa : Option Addr) (cf : Nat) : List Nat := db :: g.lb :: g.nb :: fp fa cf
theorem DevAt.lt {w : World} {B db : Nat} {g : DG} {fa : Option Addr} {cf : Nat} {st : RS} (h : DevAt w B db g fa cf st) : ∀ k, k ∈ DF db g fa cf → B ≤ k ∧ k < w.heap.size := by
  intro k hk
  have hp := h.pos
  have e1 := h.rS.le
  have e2 := h.rN.le
  simp only [DF, List.mem_cons] at hk
  rcases hk with rfl | rfl | rfl | hk
  · exact ⟨h.dB, block_lt_of_cell h.c0⟩
  · exact h.rS.lt _ (by rw [fp_some _ _ _ (by omega)]; simp)
  · exact h.rN.lt _ (by rw [fp_some _ _ _ (by omega)]; simp)
  · exact h.rL.lt k hk
/-- What others do elsewhere. -/
theorem DevAt.chg {w w' : World} {B db : Nat} {g : DG} {fa : Option Addr} {cf : Nat} {st : RS} {S : List Nat} (h : DevAt w B db g fa cf st) (c : Chg S w w') (hn : ∀ k, k ∈ DF db g fa cf → k ∉ S) : DevAt w' B db g fa cf st := by
  have n0 : db ∉ S := hn db (by simp [DF])
  have n1 : g.lb ∉ S := hn g.lb (by simp [DF])
  have n2 : g.nb ∉ S := hn g.nb (by simp [DF])
  have hp := h.pos
  have e1 := h.rS.le
  have e2 := h.rN.le
  refine ⟨c.cellv h.c0 n0, c.cellv h.c1 n0, c.cellv h.c2 n0, c.cellv h.c3 n0, c.cellv h.c4 n0, fun j hj => (c.frozen (p := ⟨db, j, none⟩) (show db < w.heap.size from block_lt_of_cell h.c0) n0).trans (h.fz j hj), h.rS.chg c ?_, h.rL.chg c (fun k hk => hn k (by simp [DF, hk])), h.rN.chg c ?_, h.d1, h.d2, h.d3, h.f1, h.f2, h.f3, h.dB, h.lS, h.lL, h.lft, h.pos⟩
  · intro k hk
    rw [fp_some _ _ _ (by omega)] at hk
    simp at hk
    rw [hk]; exact n1
  · intro k hk
    rw [fp_some _ _ _ (by omega)] at hk
    simp at hk
    rw [hk]; exact n2
theorem DevAt.keep {w w' : World} {B db : Nat} {g : DG} {fa : Option Addr} {cf : Nat} {st : RS} (h : DevAt w B db g fa cf st) (c : Chg [] w w') : DevAt w' B db g fa cf st := h.chg c (by simp)
theorem set_other' {w : World} {b i j : Nat} {u v : Value} (h : w.cell? ⟨b, j, none⟩ = some v) (hij : j ≠ i) : (w.setCell ⟨b, i, none⟩ u).cell? ⟨b, j, none⟩ = some v := by
  rw [World.cell?_setCell_other _ _ _ _ (by simp [hij])]
  exact h
/-- The fuse and the power are written. -/
theorem DevAt.setF {w w' : World} {B db : Nat} {g : DG} {fa : Option Addr} {cf : Nat} {st st' : RS} (h : DevAt w B db g fa cf st) (c : Chg [db] w w')
    (e0 : w'.cell? ⟨db, 0, none⟩ = w.cell? ⟨db, 0, none⟩) (e1 : w'.cell? ⟨db, 1, none⟩ = w.cell? ⟨db, 1, none⟩) (e2 : w'.cell? ⟨db, 2, none⟩ = w.cell? ⟨db, 2, none⟩)
    (e3 : w'.cell? ⟨db, 3, none⟩ = some (.int .i64 st'.left)) (e4 : w'.cell? ⟨db, 4, none⟩ = some (.bool st'.gone))
    (ef : ∀ j, j < 5 → w'.frozen? ⟨db, j, none⟩ = false) (hS : st'.S = st.S) (hL : st'.L = st.L) (hl : st'.left < 9223372036854775808) : DevAt w' B db g fa cf st' := by
  have hp := h.pos
  have q1 := h.rS.le
  have q2 := h.rN.le
  refine ⟨by rw [e0, hS]; exact h.c0, by rw [e1, hL]; exact h.c1, by rw [e2, hS]; exact h.c2, e3, e4, ef, ?_, ?_, ?_, h.d1, h.d2, h.d3, h.f1, h.f2, h.f3, h.dB, by rw [hS]; exact h.lS, by rw [hL, hS]; exact h.lL, hl, by rw [hS]; exact h.pos⟩
  · rw [hS]
    refine h.rS.chg c fun k hk => ?_
    rw [fp_some _ _ _ (by omega)] at hk
    simp at hk ⊢
    rw [hk]; exact fun e => h.d1 e.symm
  · rw [hL]
    refine h.rL.chg c fun k hk => ?_
    simp
    rintro rfl
    exact h.f1 hk
  · rw [hS, hL]
    refine h.rN.chg c fun k hk => ?_
    rw [fp_some _ _ _ (by omega)] at hk
    simp at hk ⊢
    rw [hk]; exact fun e => h.d2 e.symm

/-! ### what is only read -/
theorem eltN : Elt Try.prog 40 3 8 := Elt.mk (z := .int .i64 0) Try.underlying40 (by kernel_rfl) (by kernel_rfl)
theorem eltW : EltZ Try.prog 50 82 65 72 := EltZ.mk (v := .agg (Value.int .i64 0 :: List.replicate 64 (Value.int .u8 0)).toArray) Try.underlying50 (by kernel_rfl) (by kernel_rfl)
def flyZ : List Value := .int .i64 0 :: List.replicate 64 (.int .u8 0)
theorem flyZ_len : flyZ.length = 65 := rfl
theorem wideW : WideT Try.prog 82 flyZ := ⟨⟨_, Try.underlying82, rfl⟩, by kernel_rfl⟩
theorem made_yes (db lb lo n c : Nat) (w : World) (c0 : w.cell? ⟨db, 0, none⟩ = some (.slice (some ⟨lb, lo, none⟩) n c)) :
    Calls Try.prog 42 #[.pointer (some ⟨db, 0, none⟩)] w fun e w' => e = .returned (.bool true) ∧ w = w' := by
  have hne := fun (w : World) (n c : Nat) => run_neq_slice_nil_any (P := Try.prog) w 31 5 (some ⟨lb, lo, none⟩) n c 0 0 Try.underlying31
  go_enter Try.func42, Try.ntmps42
  go_wp2
  go_ret
  exact ⟨rfl, rfl⟩
theorem made_nil (w : World) : Calls Try.prog 42 #[.pointer none] w fun e w' => e = .returned (.bool false) ∧ w = w' := by
  go_enter Try.func42, Try.ntmps42
  go_wp2
  go_ret
  exact ⟨rfl, rfl⟩
end Go.Proofs.Ytdmhcbbakgljoaa
