/- Texts Txr, Txs, Txt, Txu of the library, joined. -/
import Derived.Test.YtoeijomelabbfaaGreatDoorM25
/- Package txn: what a pool tells, and what is set. -/
namespace Go.Proofs.YtoeijomelabbfaaGreatDoor
set_option maxRecDepth 200000
open Go.RowKit
set_option linter.unusedVariables false
set_option linter.unusedSimpArgs false
attribute [local go_sem ↓] Go.wp_at_zero Go.wp_at_succ

/-! ### a pool that is none -/
section
variable (w : World)
theorem xmade_nil : Calls Tryz.prog 73 #[.pointer none] w fun e w' => e = .returned (.bool false) ∧ w = w' := by
  go_enter Tryz.func73, Tryz.ntmps73
  go_wp2
  go_ret
  exact ⟨rfl, rfl⟩
theorem xasked_nil : Calls Tryz.prog 91 #[.pointer none] w fun e w' => e = .returned (.int .i64 2) ∧ w = w' := by
  have cM := xmade_nil w
  go_enter Tryz.func91, Tryz.ntmps91
  go_wp2_with (first | (go_at_call 73; refine cM.mono ?_; rintro e w' ⟨rfl, rfl⟩))
  go_ret
  exact ⟨rfl, rfl⟩
theorem xcommit_nil : Calls Tryz.prog 29 #[.pointer none] w fun e w' => e = .returned (.int .i64 2) ∧ w = w' := by
  have cM := xasked_nil w
  go_enter Tryz.func29, Tryz.ntmps29
  go_wp2_with (first | (go_at_call 91; refine cM.mono ?_; rintro e w' ⟨rfl, rfl⟩))
  go_ret
  exact ⟨rfl, rfl⟩
theorem xabort_nil : Calls Tryz.prog 31 #[.pointer none] w fun e w' => e = .returned (.int .i64 2) ∧ w = w' := by
  have cM := xasked_nil w
  go_enter Tryz.func31, Tryz.ntmps31
  go_wp2_with (first | (go_at_call 91; refine cM.mono ?_; rintro e w' ⟨rfl, rfl⟩))
  go_ret
  exact ⟨rfl, rfl⟩
theorem xrefs_nil : Calls Tryz.prog 14 #[.pointer none] w fun e w' => e = .returned (.pointer none) ∧ w = w' := by
  have cM := xmade_nil w
  go_enter Tryz.func14, Tryz.ntmps14
  go_wp2_with (first | (go_at_call 73; refine cM.mono ?_; rintro e w' ⟨rfl, rfl⟩))
  go_ret
  exact ⟨rfl, rfl⟩
theorem xcache_nil : Calls Tryz.prog 17 #[.pointer none] w fun e w' => e = .returned (.pointer none) ∧ w = w' := by
  have cM := xmade_nil w
  go_enter Tryz.func17, Tryz.ntmps17
  go_wp2_with (first | (go_at_call 73; refine cM.mono ?_; rintro e w' ⟨rfl, rfl⟩))
  go_ret
  exact ⟨rfl, rfl⟩
theorem xshelf_nil : Calls Tryz.prog 46 #[.pointer none] w fun e w' => e = .returned (.pointer none) ∧ w = w' := by
  have cM := xmade_nil w
  go_enter Tryz.func46, Tryz.ntmps46
  go_wp2_with (first | (go_at_call 73; refine cM.mono ?_; rintro e w' ⟨rfl, rfl⟩))
  go_ret
  exact ⟨rfl, rfl⟩
theorem xover_nil : Calls Tryz.prog 45 #[.pointer none] w fun e w' => e = .returned (.bool true) ∧ w = w' := by
  have cM := xmade_nil w
  go_enter Tryz.func45, Tryz.ntmps45
  go_wp2_with (first | (go_at_call 73; refine cM.mono ?_; rintro e w' ⟨rfl, rfl⟩))
  go_ret
  exact ⟨rfl, rfl⟩
theorem xfree_nil : Calls Tryz.prog 44 #[.pointer none] w fun e w' => e = .returned (.int .i64 0) ∧ w = w' := by
  have cM := xrefs_nil w
  have cF := rfree_nil w
  go_enter Tryz.func44, Tryz.ntmps44
  go_wp2_with (first | (go_at_call 14; refine cM.mono ?_; rintro e w' ⟨rfl, rfl⟩) | (go_at_call 112; refine cF.mono ?_; rintro e w' ⟨rfl, rfl⟩))
  go_ret
  exact ⟨rfl, rfl⟩
end
theorem xsuper_nil (w : World) : Calls Tryz.prog 43 #[.pointer none] w fun e w' => e = .returned (.agg #[.int .u64 0, .int .i64 0, .int .u64 0, .int .u64 0]) ∧ Chg [] w w' := by
  have cM := fun u => xmade_nil u
  have hres := res4_made w w (Chg.refl [] w) (.int .u64 0) (.int .i64 0) (.int .u64 0) (.int .u64 0)
  go_enter Tryz.func43, Tryz.ntmps43
  go_wp2_with fail
  generalize w.alloc _ = w1 at *
  generalize w.heap.size = b at *
  obtain ⟨v0, k0⟩ := Option.isSome_iff_exists.1 hres.k0
  obtain ⟨v1, k1⟩ := Option.isSome_iff_exists.1 hres.k1
  obtain ⟨v2, k2⟩ := Option.isSome_iff_exists.1 hres.k2
  obtain ⟨v3, k3⟩ := Option.isSome_iff_exists.1 hres.k3
  have z0 := hres.z0
  have z1 := hres.z1
  have z2 := hres.z2
  have z3 := hres.z3
  refine (cM w1).mono ?_
  rintro e w2 ⟨rfl, rfl⟩
  go_wp2_with fail
  exact bodyPost_ret (v := .agg #[.int .u64 0, .int .i64 0, .int .u64 0, .int .u64 0]) (by simp [results, Tryz.results43, go_sem, k0, k1, k2, k3]) rfl ⟨rfl, hres.done _ _ _ _⟩
/-! ### a pool -/
section
variable {w : World} {tb db cb rb sb : Nat} {l n : SB} {o : Bool} (h : TxAt w tb db cb rb sb l n o)
include h
theorem xmade_yes : Calls Tryz.prog 73 #[.pointer (some ⟨tb, 0, none⟩)] w fun e w' => e = .returned (.bool true) ∧ w = w' := by
  have c3 := h.c 3 _ rfl
  go_enter Tryz.func73, Tryz.ntmps73
  go_wp2
  go_ret
  exact ⟨rfl, rfl⟩
theorem xasked_yes : Calls Tryz.prog 91 #[.pointer (some ⟨tb, 0, none⟩)] w fun e w' => e = .returned (.int .i64 (if o then 32 else 0)) ∧ w = w' := by
  have cM := xmade_yes h
  have c12 := h.c 12 _ rfl
  cases o with
  | true =>
    go_enter Tryz.func91, Tryz.ntmps91
    go_wp2_with (first | (go_at_call 73; refine cM.mono ?_; rintro e w' ⟨rfl, rfl⟩))
    go_ret
    exact ⟨rfl, rfl⟩
  | false =>
    go_enter Tryz.func91, Tryz.ntmps91
    go_wp2_with (first | (go_at_call 73; refine cM.mono ?_; rintro e w' ⟨rfl, rfl⟩))
    go_ret
    exact ⟨rfl, rfl⟩
theorem xrefs_yes : Calls Tryz.prog 14 #[.pointer (some ⟨tb, 0, none⟩)] w fun e w' => e = .returned (.pointer (some ⟨rb, 0, none⟩)) ∧ w = w' := by
  have cM := xmade_yes h
  have c2 := h.c 2 _ rfl
  go_enter Tryz.func14, Tryz.ntmps14
  go_wp2_with (first | (go_at_call 73; refine cM.mono ?_; rintro e w' ⟨rfl, rfl⟩))
  go_ret
  exact ⟨rfl, rfl⟩
theorem xover_yes : Calls Tryz.prog 45 #[.pointer (some ⟨tb, 0, none⟩)] w fun e w' => e = .returned (.bool o) ∧ w = w' := by
  have cM := xmade_yes h
  have c12 := h.c 12 _ rfl
  go_enter Tryz.func45, Tryz.ntmps45
  go_wp2_with (first | (go_at_call 73; refine cM.mono ?_; rintro e w' ⟨rfl, rfl⟩))
  go_ret
  exact ⟨rfl, rfl⟩
theorem xsuper_yes : Calls Tryz.prog 43 #[.pointer (some ⟨tb, 0, none⟩)] w fun e w' => e = .returned (.agg #[.int .u64 n.G, .int .i64 n.B, .int .u64 n.D, .int .u64 n.X]) ∧ Chg [] w w' := by
  have gA := Chg.alloc [] w (.cells #[.int .u64 0, .int .i64 0, .int .u64 0, .int .u64 0] 53)
  have h1 := h.chg gA (by simp)
  have cM := xmade_yes h1
  have c8 := h1.c 8 _ rfl
  have c9 := h1.c 9 _ rfl
  have c10 := h1.c 10 _ rfl
  have c11 := h1.c 11 _ rfl
  have hres := res4_made w w (Chg.refl [] w) (.int .u64 0) (.int .i64 0) (.int .u64 0) (.int .u64 0)
  have hlt := h.lt
  go_enter Tryz.func43, Tryz.ntmps43
  go_wp2_with fail
  generalize w.alloc _ = w1 at *
  have hne : tb ≠ w.heap.size := by omega
  generalize w.heap.size = b at *
  obtain ⟨v0, k0⟩ := Option.isSome_iff_exists.1 hres.k0
  obtain ⟨v1, k1⟩ := Option.isSome_iff_exists.1 hres.k1
  obtain ⟨v2, k2⟩ := Option.isSome_iff_exists.1 hres.k2
  obtain ⟨v3, k3⟩ := Option.isSome_iff_exists.1 hres.k3
  have z0 := hres.z0
  have z1 := hres.z1
  have z2 := hres.z2
  have z3 := hres.z3
  have HR := mkHid hres
  clear hres h1
  refine cM.mono ?_
  rintro e w2 ⟨rfl, rfl⟩
  go_wp2_with fail
  exact bodyPost_ret (v := .agg #[.int .u64 n.G, .int .i64 n.B, .int .u64 n.D, .int .u64 n.X]) (by simp [results, Tryz.results43, go_sem, k0, k1, k2, k3]) rfl ⟨rfl, HR.out.done _ _ _ _⟩
end
end Go.Proofs.YtoeijomelabbfaaGreatDoor

/- Package txn: Free, SetDir, SetNext, Abort of a pool. -/
namespace Go.Proofs.YtoeijomelabbfaaGreatDoor
set_option maxRecDepth 200000
open Go.RowKit
set_option linter.unusedVariables false
set_option linter.unusedSimpArgs false
attribute [local go_sem ↓] Go.wp_at_zero Go.wp_at_succ

def put4 (w : World) (tb k : Nat) (s : SB) : World := (((w.setCell ⟨tb, k, none⟩ (.int .u64 s.G)).setCell ⟨tb, k + 1, none⟩ (.int .i64 s.B)).setCell ⟨tb, k + 2, none⟩ (.int .u64 s.D)).setCell ⟨tb, k + 3, none⟩ (.int .u64 s.X)
theorem put4_chg (w : World) (tb k : Nat) (s : SB) : Chg [tb] w (put4 w tb k s) :=
  (((Chg.setCell w ⟨tb, k, none⟩ _).trans (Chg.setCell _ ⟨tb, k + 1, none⟩ _) (fun _ h _ => h) (fun _ h _ => h)).trans (Chg.setCell _ ⟨tb, k + 2, none⟩ _) (fun _ h _ => h) (fun _ h _ => h)).trans (Chg.setCell _ ⟨tb, k + 3, none⟩ _) (fun _ h _ => h) (fun _ h _ => h)
theorem put4_other (w : World) (tb k : Nat) (s : SB) (j : Nat) (v : Value) (hj : j < k ∨ k + 4 ≤ j) (h : w.cell? ⟨tb, j, none⟩ = some v) : (put4 w tb k s).cell? ⟨tb, j, none⟩ = some v := by
  unfold put4
  rw [World.cell?_setCell_other _ _ _ _ (by simp; try omega), World.cell?_setCell_other _ _ _ _ (by simp; try omega), World.cell?_setCell_other _ _ _ _ (by simp; try omega), World.cell?_setCell_other _ _ _ _ (by simp; try omega)]
  exact h
theorem put4_at (w : World) (tb k : Nat) (s : SB) {v0 v1 v2 v3 : Value} (h0 : w.cell? ⟨tb, k, none⟩ = some v0) (h1 : w.cell? ⟨tb, k + 1, none⟩ = some v1) (h2 : w.cell? ⟨tb, k + 2, none⟩ = some v2) (h3 : w.cell? ⟨tb, k + 3, none⟩ = some v3) (z0 : w.frozen? ⟨tb, k, none⟩ = false) (z1 : w.frozen? ⟨tb, k + 1, none⟩ = false) (z2 : w.frozen? ⟨tb, k + 2, none⟩ = false) (z3 : w.frozen? ⟨tb, k + 3, none⟩ = false) :
    ((put4 w tb k s).cell? ⟨tb, k, none⟩ = some (.int .u64 s.G) ∧ (put4 w tb k s).cell? ⟨tb, k + 1, none⟩ = some (.int .i64 s.B) ∧ (put4 w tb k s).cell? ⟨tb, k + 2, none⟩ = some (.int .u64 s.D) ∧ (put4 w tb k s).cell? ⟨tb, k + 3, none⟩ = some (.int .u64 s.X)) := by
  unfold put4
  refine ⟨?_, ?_, ?_, ?_⟩ <;> simp [go_sem, h0, h1, h2, h3, z0, z1, z2, z3]
theorem put4_frozen (w : World) (tb k : Nat) (s : SB) (j : Nat) : (put4 w tb k s).frozen? ⟨tb, j, none⟩ = w.frozen? ⟨tb, j, none⟩ := by
  unfold put4
  simp [go_sem]
theorem TxAt.now {w : World} {tb db cb rb sb : Nat} {l n : SB} {o : Bool} (h : TxAt w tb db cb rb sb l n o) (s : SB) : TxAt (put4 w tb 8 s) tb db cb rb sb l s o := by
  obtain ⟨a0, a1, a2, a3⟩ := put4_at w tb 8 s (h.c 8 _ rfl) (h.c 9 _ rfl) (h.c 10 _ rfl) (h.c 11 _ rfl) (h.z 8 (by decide)) (h.z 9 (by decide)) (h.z 10 (by decide)) (h.z 11 (by decide))
  refine ⟨fun j v hv => ?_, fun j hj => by rw [put4_frozen]; exact h.z j hj⟩
  match j, hv with
  | 0, hv => exact put4_other _ _ _ _ _ _ (by decide) (h.c 0 v hv)
  | 1, hv => exact put4_other _ _ _ _ _ _ (by decide) (h.c 1 v hv)
  | 2, hv => exact put4_other _ _ _ _ _ _ (by decide) (h.c 2 v hv)
  | 3, hv => exact put4_other _ _ _ _ _ _ (by decide) (h.c 3 v hv)
  | 4, hv => exact put4_other _ _ _ _ _ _ (by decide) (h.c 4 v hv)
  | 5, hv => exact put4_other _ _ _ _ _ _ (by decide) (h.c 5 v hv)
  | 6, hv => exact put4_other _ _ _ _ _ _ (by decide) (h.c 6 v hv)
  | 7, hv => exact put4_other _ _ _ _ _ _ (by decide) (h.c 7 v hv)
  | 8, hv => cases hv; exact a0
  | 9, hv => cases hv; exact a1
  | 10, hv => cases hv; exact a2
  | 11, hv => cases hv; exact a3
  | 12, hv => exact put4_other _ _ _ _ _ _ (by decide) (h.c 12 v hv)
  | j + 13, hv => simp [txA] at hv
theorem TxAt.last {w : World} {tb db cb rb sb : Nat} {l n : SB} {o : Bool} (h : TxAt w tb db cb rb sb l n o) (s : SB) : TxAt (put4 w tb 4 s) tb db cb rb sb s n o := by
  obtain ⟨a0, a1, a2, a3⟩ := put4_at w tb 4 s (h.c 4 _ rfl) (h.c 5 _ rfl) (h.c 6 _ rfl) (h.c 7 _ rfl) (h.z 4 (by decide)) (h.z 5 (by decide)) (h.z 6 (by decide)) (h.z 7 (by decide))
  refine ⟨fun j v hv => ?_, fun j hj => by rw [put4_frozen]; exact h.z j hj⟩
  match j, hv with
  | 0, hv => exact put4_other _ _ _ _ _ _ (by decide) (h.c 0 v hv)
  | 1, hv => exact put4_other _ _ _ _ _ _ (by decide) (h.c 1 v hv)
  | 2, hv => exact put4_other _ _ _ _ _ _ (by decide) (h.c 2 v hv)
  | 3, hv => exact put4_other _ _ _ _ _ _ (by decide) (h.c 3 v hv)
  | 4, hv => cases hv; exact a0
  | 5, hv => cases hv; exact a1
  | 6, hv => cases hv; exact a2
  | 7, hv => cases hv; exact a3
  | 8, hv => exact put4_other _ _ _ _ _ _ (by decide) (h.c 8 v hv)
  | 9, hv => exact put4_other _ _ _ _ _ _ (by decide) (h.c 9 v hv)
  | 10, hv => exact put4_other _ _ _ _ _ _ (by decide) (h.c 10 v hv)
  | 11, hv => exact put4_other _ _ _ _ _ _ (by decide) (h.c 11 v hv)
  | 12, hv => exact put4_other _ _ _ _ _ _ (by decide) (h.c 12 v hv)
  | j + 13, hv => simp [txA] at hv
theorem TxAt.over {w : World} {tb db cb rb sb : Nat} {l n : SB} {o : Bool} (h : TxAt w tb db cb rb sb l n o) (p : Bool) : TxAt (w.setCell ⟨tb, 12, none⟩ (.bool p)) tb db cb rb sb l n p := by
  have c12 := h.c 12 _ rfl
  have z12 := h.z 12 (by decide)
  have ho : ∀ j v, j ≠ 12 → w.cell? ⟨tb, j, none⟩ = some v → (w.setCell ⟨tb, 12, none⟩ (.bool p)).cell? ⟨tb, j, none⟩ = some v := fun j v hj hv => by
    rw [World.cell?_setCell_other _ _ _ _ (by simp [hj])]
    exact hv
  refine ⟨fun j v hv => ?_, fun j hj => by have := h.z j hj; simp [go_sem, this]⟩
  match j, hv with
  | 0, hv => exact ho _ _ (by decide) (h.c 0 v hv)
  | 1, hv => exact ho _ _ (by decide) (h.c 1 v hv)
  | 2, hv => exact ho _ _ (by decide) (h.c 2 v hv)
  | 3, hv => exact ho _ _ (by decide) (h.c 3 v hv)
  | 4, hv => exact ho _ _ (by decide) (h.c 4 v hv)
  | 5, hv => exact ho _ _ (by decide) (h.c 5 v hv)
  | 6, hv => exact ho _ _ (by decide) (h.c 6 v hv)
  | 7, hv => exact ho _ _ (by decide) (h.c 7 v hv)
  | 8, hv => exact ho _ _ (by decide) (h.c 8 v hv)
  | 9, hv => exact ho _ _ (by decide) (h.c 9 v hv)
  | 10, hv => exact ho _ _ (by decide) (h.c 10 v hv)
  | 11, hv => exact ho _ _ (by decide) (h.c 11 v hv)
  | 12, hv => cases hv; simp [go_sem, c12, z12]
  | j + 13, hv => simp [txA] at hv
section
variable {w0 w : World} {tag : Nat → Nat} {tb db cb rb n m u : Nat} {P : Pool}
/-- The Txn itself is written. -/
theorem HasPool.set (h : HasPool w0 w tag tb db cb rb n m u P) {w' : World} {sb : Nat} {l s : SB} {o : Bool} (c : Chg [tb] w w') (t : TxAt w' tb db cb rb sb l s o) (lm : l.may = true) (nm : s.may = true) (lB : l.B = (n : Int)) (nB : s.B = (n : Int)) (nG : s.G = l.G) :
    ∃ tag', HasPool w0 w' tag' tb db cb rb n m u { P with last := l, now := s, over := o } ∧ Turn w0.heap.size tag tag' 6 w w' := by
  obtain ⟨sb0, ht⟩ := h.t
  have T : Turn w0.heap.size tag (mark tag w.heap.size 9) 6 w w' := ⟨⟨[tb], c, fun k hk => by simp at hk; subst hk; exact ⟨h.tt, h.tB⟩⟩, fun k hk => mark_old _ _ _ _ hk⟩
  exact ⟨_, ⟨⟨sb, t⟩, (mark_old _ _ _ _ ht.lt).trans h.tt, h.tB, h.p.stay T (by decide), h.r.stay T (by decide), h.b.turn T, lm, nm, lB, nB, nG⟩, T⟩
def becomeA (P : Pool) (s : SB) : Int × Pool := if P.over = true then (32, P) else if s.may = true then (0, { P with now := s }) else (1, P)
theorem xfree_yes (h : HasPool w0 w tag tb db cb rb n m u P) : Calls Tryz.prog 44 #[.pointer (some ⟨tb, 0, none⟩)] w fun e w' => e = .returned (.int .i64 (freeL (freeI P.N P.C)).length) ∧ w = w' := by
  obtain ⟨sb, ht⟩ := h.t
  have cM := xrefs_yes ht
  have cF := r_free h.r
  go_enter Tryz.func44, Tryz.ntmps44
  go_wp2_with (first | (go_at_call 14; refine cM.mono ?_; rintro e w' ⟨rfl, rfl⟩) | (go_at_call 112; refine cF.mono ?_; rintro e w' ⟨rfl, rfl⟩))
  go_ret
  exact ⟨rfl, rfl⟩
set_option maxHeartbeats 2000000 in
theorem xbecome (h : HasPool w0 w tag tb db cb rb n m u P) (s : SB) (hB : s.B = (n : Int)) (hG : s.G = P.last.G) :
    Calls Tryz.prog 90 #[.pointer (some ⟨tb, 0, none⟩), .agg #[.int .u64 s.G, .int .i64 s.B, .int .u64 s.D, .int .u64 s.X]] w fun e w' => e = .returned (.int .i64 (becomeA P s).1) ∧ ∃ tag', HasPool w0 w' tag' tb db cb rb n m u (becomeA P s).2 ∧ Turn w0.heap.size tag tag' 6 w w' := by
  obtain ⟨sb, ht⟩ := h.t
  have g0 := Chg.alloc [] w (supObj s)
  have h1 := ht.chg g0 (by simp)
  have cA := xasked_yes h1
  have cM := fun u => may_any s u
  obtain ⟨q0, q1, q2, q3⟩ := sup_laid w s
  have key := fun (w2 : World) (c : Chg [] w w2) (hm : s.may = true) => (h.still (still_mark tag 9 c)).set (put4_chg w2 tb 8 s) ((ht.chg c (by simp)).now s) h.lm hm h.lB hB hG
  have HH := mkHid h
  unfold becomeA
  obtain ⟨PO, hPO⟩ : ∃ PO, P.over = PO := ⟨_, rfl⟩
  rw [hPO] at cA h1 ht key ⊢
  have KEY := mkHid key
  have HT := mkHid ht
  obtain ⟨mm, hmm⟩ : ∃ mm, s.may = mm := ⟨_, rfl⟩
  rw [hmm] at cM ⊢
  have HMM := mkHid hmm
  unfold supObj SB.v at *
  clear key h ht hPO hB hG hmm
  obtain ⟨G, B, D, X⟩ := s
  dsimp only at *
  cases PO with
  | true =>
    rw [if_pos rfl] at cA ⊢
    go_enter Tryz.func90, Tryz.ntmps90
    go_wp2_with fail
    refine cA.mono ?_
    rintro e w2 ⟨rfl, rfl⟩
    go_wp2_with fail
    go_ret
    exact ⟨rfl, _, HH.out.still (still_mark tag 9 g0), (still_mark tag 9 g0).turn _ _⟩
  | false =>
    rw [if_neg (by decide)] at cA ⊢
    cases mm with
    | false =>
      rw [if_neg (by decide)]
      go_enter Tryz.func90, Tryz.ntmps90
      go_wp2_with fail
      generalize w.alloc _ = w1 at *
      refine cA.mono ?_
      rintro e w2 ⟨rfl, rfl⟩
      go_wp2_with fail
      refine (cM _).mono ?_
      rintro e w2 ⟨rfl, g2⟩
      go_wp2_with fail
      go_ret
      exact ⟨rfl, _, HH.out.still (still_mark tag 9 (g0.then g2)), (still_mark tag 9 (g0.then g2)).turn _ _⟩
    | true =>
      rw [if_pos rfl]
      go_enter Tryz.func90, Tryz.ntmps90
      go_wp2_with fail
      generalize w.alloc _ = w1 at *
      refine cA.mono ?_
      rintro e w2 ⟨rfl, rfl⟩
      go_wp2_with fail
      refine (cM _).mono ?_
      rintro e w2 ⟨rfl, g2⟩
      have h2 := HT.out.chg (g0.then g2) (by simp)
      have c8 := h2.c 8 _ rfl
      have c9 := h2.c 9 _ rfl
      have c10 := h2.c 10 _ rfl
      have c11 := h2.c 11 _ rfl
      have z8 := h2.z 8 (by decide)
      have z9 := h2.z 9 (by decide)
      have z10 := h2.z 10 (by decide)
      have z11 := h2.z 11 (by decide)
      have y0 := g2.cellv q0 (by simp)
      have y1 := g2.cellv q1 (by simp)
      have y2 := g2.cellv q2 (by simp)
      have y3 := g2.cellv q3 (by simp)
      clear h2
      go_wp2_with fail
      go_ret
      obtain ⟨t', p, T⟩ := KEY.out w2 (g0.then g2) HMM.out
      exact ⟨rfl, t', p, ((still_mark tag 9 (g0.then g2)).turn _ _).trans T⟩
end
end Go.Proofs.YtoeijomelabbfaaGreatDoor

/- Package txn: SetDir, SetNext, Abort of a pool. -/
namespace Go.Proofs.YtoeijomelabbfaaGreatDoor
set_option maxRecDepth 200000
open Go.RowKit
set_option linter.unusedVariables false
set_option linter.unusedSimpArgs false
attribute [local go_sem ↓] Go.wp_at_zero Go.wp_at_succ

section
variable {w0 w : World} {tag : Nat → Nat} {tb db cb rb n m u : Nat} {P : Pool} (h : HasPool w0 w tag tb db cb rb n m u P)
include h
theorem made_sup {w1 : World} (c : Chg [] w w1) (G : Nat) (B : Int) (D X : Nat) (s : SB) (hs : s = ⟨G, B, D, X⟩) (hB : s.B = (n : Int)) (hG : s.G = P.last.G) :
    Calls Tryz.prog 90 #[.pointer (some ⟨tb, 0, none⟩), .agg #[.int .u64 G, .int .i64 B, .int .u64 D, .int .u64 X]] w1 fun e w' => e = .returned (.int .i64 (becomeA P s).1) ∧ ∃ tag', HasPool w0 w' tag' tb db cb rb n m u (becomeA P s).2 ∧ Turn w0.heap.size tag tag' 6 w w' := by
  have s1 := still_mark tag 9 c
  have := xbecome (h.still s1) s hB hG
  subst hs
  refine this.mono ?_
  rintro e w' ⟨he, t', p, T⟩
  exact ⟨he, t', p, (s1.turn _ _).trans T⟩
set_option maxHeartbeats 2000000 in
theorem xsetdir (r : Nat) : Calls Tryz.prog 25 #[.pointer (some ⟨tb, 0, none⟩), .int .u64 (r : Int)] w fun e w' => e = .returned (.int .i64 (becomeA P { P.now with D := r }).1) ∧ ∃ tag', HasPool w0 w' tag' tb db cb rb n m u (becomeA P { P.now with D := r }).2 ∧ Turn w0.heap.size tag tag' 6 w w' := by
  obtain ⟨sb, ht⟩ := h.t
  have cS := xsuper_yes ht
  obtain ⟨s, hs⟩ : ∃ s : SB, s = { P.now with D := r } := ⟨_, rfl⟩
  obtain ⟨⟨G, B, D, X⟩, hn⟩ : ∃ s : SB, P.now = s := ⟨_, rfl⟩
  have hB := h.nB
  have hG := h.nG
  rw [← hs]
  rw [hn] at cS hs hB hG
  dsimp only at cS hs hB hG
  have cB := fun (w1 : World) (c : Chg [] w w1) => made_sup h c G B r X s hs (by rw [hs]; exact hB) (by rw [hs]; exact hG)
  have HB := mkHid cB
  clear cB hB hG hn hs h ht
  go_enter Tryz.func25, Tryz.ntmps25
  go_wp2_with fail
  refine cS.mono ?_
  rintro e w1 ⟨rfl, g1⟩
  obtain ⟨q0, q1, q2, q3⟩ := sup_laid w1 ⟨G, B, D, X⟩
  obtain ⟨y0, y1, y2, y3⟩ := sup_laid w1 ⟨G, B, r, X⟩
  have qf := fun j => frozen_of_row _ w1.heap.size j _ _ (heap_alloc_last w1 (supObj ⟨G, B, D, X⟩))
  have f0 := qf 0
  have f1 := qf 1
  have f2 := qf 2
  have f3 := qf 3
  unfold supObj at *
  dsimp only at *
  clear qf
  go_wp2_with fail
  refine (HB.out _ (g1.then (Chg.alloc [] _ _))).mono ?_
  rintro e w2 ⟨rfl, hP⟩
  go_wp2_with fail
  go_ret
  exact ⟨rfl, hP⟩
set_option maxHeartbeats 2000000 in
theorem xsetnext (r : Nat) : Calls Tryz.prog 27 #[.pointer (some ⟨tb, 0, none⟩), .int .u64 (r : Int)] w fun e w' => e = .returned (.int .i64 (becomeA P { P.now with X := r }).1) ∧ ∃ tag', HasPool w0 w' tag' tb db cb rb n m u (becomeA P { P.now with X := r }).2 ∧ Turn w0.heap.size tag tag' 6 w w' := by
  obtain ⟨sb, ht⟩ := h.t
  have cS := xsuper_yes ht
  obtain ⟨s, hs⟩ : ∃ s : SB, s = { P.now with X := r } := ⟨_, rfl⟩
  obtain ⟨⟨G, B, D, X⟩, hn⟩ : ∃ s : SB, P.now = s := ⟨_, rfl⟩
  have hB := h.nB
  have hG := h.nG
  rw [← hs]
  rw [hn] at cS hs hB hG
  dsimp only at cS hs hB hG
  have cB := fun (w1 : World) (c : Chg [] w w1) => made_sup h c G B D r s hs (by rw [hs]; exact hB) (by rw [hs]; exact hG)
  have HB := mkHid cB
  clear cB hB hG hn hs h ht
  go_enter Tryz.func27, Tryz.ntmps27
  go_wp2_with fail
  refine cS.mono ?_
  rintro e w1 ⟨rfl, g1⟩
  obtain ⟨q0, q1, q2, q3⟩ := sup_laid w1 ⟨G, B, D, X⟩
  obtain ⟨y0, y1, y2, y3⟩ := sup_laid w1 ⟨G, B, D, r⟩
  have qf := fun j => frozen_of_row _ w1.heap.size j _ _ (heap_alloc_last w1 (supObj ⟨G, B, D, X⟩))
  have f0 := qf 0
  have f1 := qf 1
  have f2 := qf 2
  have f3 := qf 3
  unfold supObj at *
  dsimp only at *
  clear qf
  go_wp2_with fail
  refine (HB.out _ (g1.then (Chg.alloc [] _ _))).mono ?_
  rintro e w2 ⟨rfl, hP⟩
  go_wp2_with fail
  go_ret
  exact ⟨rfl, hP⟩
end
end Go.Proofs.YtoeijomelabbfaaGreatDoor

/- Package txn: Abort; a commit's two steps. -/
namespace Go.Proofs.YtoeijomelabbfaaGreatDoor
set_option maxRecDepth 200000
open Go.RowKit
set_option linter.unusedVariables false
set_option linter.unusedSimpArgs false
attribute [local go_sem ↓] Go.wp_at_zero Go.wp_at_succ

/-- Only blocks of a pool (tags 1, 2, 6) have turned. -/
def Pt (i : Nat) : Prop := i = 1 ∨ i = 2 ∨ i = 6
def TurnQ (p : Nat → Prop) (B : Nat) (tag tag' : Nat → Nat) (w w' : World) : Prop := (∃ S, Chg S w w' ∧ ∀ k, k ∈ S → p (tag k) ∧ B ≤ k) ∧ ∀ k, k < w.heap.size → tag' k = tag k
abbrev TurnP := TurnQ Pt
section
variable {p q : Nat → Prop} {B : Nat} {t1 t2 t3 : Nat → Nat} {a b c : World}
theorem Turn.quo {i : Nat} (h : Turn B t1 t2 i a b) (hi : p i) : TurnQ p B t1 t2 a b := by
  obtain ⟨⟨S, hS, h1⟩, h2⟩ := h
  exact ⟨⟨S, hS, fun k hk => ⟨by rw [(h1 k hk).1]; exact hi, (h1 k hk).2⟩⟩, h2⟩
theorem Turn.pool {i : Nat} (h : Turn B t1 t2 i a b) (hi : Pt i) : TurnP B t1 t2 a b := h.quo hi
theorem Still.quo (h : Still t1 t2 a b) : TurnQ p B t1 t2 a b := ⟨⟨[], h.1, by simp⟩, h.2⟩
theorem Still.pool (h : Still t1 t2 a b) : TurnP B t1 t2 a b := h.quo
theorem TurnQ.mono (h : TurnQ p B t1 t2 a b) (hq : ∀ i, p i → q i) : TurnQ q B t1 t2 a b := by
  obtain ⟨⟨S, hS, h1⟩, h2⟩ := h
  exact ⟨⟨S, hS, fun k hk => ⟨hq _ (h1 k hk).1, (h1 k hk).2⟩⟩, h2⟩
theorem TurnQ.trans (h : TurnQ p B t1 t2 a b) (g : TurnQ p B t2 t3 b c) : TurnQ p B t1 t3 a c := by
  obtain ⟨⟨S, hS, h1⟩, h2⟩ := h
  obtain ⟨⟨T, hT, g1⟩, g2⟩ := g
  refine ⟨⟨S ++ T.filter (fun k => decide (k < a.heap.size)), hS.trans hT (fun k hk _ => List.mem_append_left _ hk) (fun k hk hlt => List.mem_append_right _ (List.mem_filter.2 ⟨hk, by simpa using hlt⟩)), fun k hk => ?_⟩, fun k hk => (g2 k (Nat.lt_of_lt_of_le hk hS.size)).trans (h2 k hk)⟩
  rcases List.mem_append.1 hk with h9 | h9
  · exact h1 k h9
  · obtain ⟨h8, h7⟩ := List.mem_filter.1 h9
    have h6 := g1 k h8
    rw [h2 k (by simpa using h7)] at h6
    exact h6
theorem TurnQ.size (h : TurnQ p B t1 t2 a b) : a.heap.size ≤ b.heap.size := by
  obtain ⟨⟨S, hS, _⟩, _⟩ := h
  exact hS.size
theorem TurnQ.reads (t : TurnQ p B t1 t2 a b) {ao : Option Addr} {xs : List Value} (h : Reads a ao xs) (hp : 0 < xs.length → ∀ k, k ∈ blk ao → ¬ p (t1 k)) : Reads b ao xs := by
  obtain ⟨⟨S, hS, h1⟩, _⟩ := t
  exact h.chg0 hS (fun hx k hk hm => hp hx k hk (h1 k hm).1)
theorem TurnQ.cell1 (t : TurnQ p B t1 t2 a b) {q : Addr} {v : Value} (h : a.cell? q = some v) (hp : ¬ p (t1 q.block)) : b.cell? q = some v := by
  obtain ⟨⟨S, hS, h1⟩, _⟩ := t
  exact hS.cellv h (fun hm => hp (h1 _ hm).1)
end
def abortA (P : Pool) : Int × Pool := if P.over = true then (32, P) else (0, { P with K := [], N := P.C, now := P.last })
section
variable {w0 w : World} {tag : Nat → Nat} {tb db cb rb n m u : Nat} {P : Pool} (h : HasPool w0 w tag tb db cb rb n m u P)
include h
theorem HasPool.refs {w' : World} {tag' : Nat → Nat} {N' C' : List UInt8} (r : HasR w0.heap.size w' tag' 1 rb n N' C') (T : Turn w0.heap.size tag tag' 1 w w') : HasPool w0 w' tag' tb db cb rb n m u { P with N := N', C := C' } := by
  obtain ⟨sb, ht⟩ := h.t
  have ho := T.2 tb ht.lt
  obtain ⟨⟨S, hS, hm⟩, _⟩ := id T
  exact ⟨⟨sb, ht.chg hS (fun hx => by have := (hm _ hx).1; have := h.tt; omega)⟩, ho.trans h.tt, h.tB, h.p.stay T (by decide), r, h.b.turn T, h.lm, h.nm, h.lB, h.nB, h.nG⟩
theorem HasPool.pair {w' : World} {tag' : Nat → Nat} {K' : List KE} {st' : RS} {u' : Nat} (p : HasPair w0 w' tag' 2 db cb K' st' m u') (T : Turn w0.heap.size tag tag' 2 w w') : HasPool w0 w' tag' tb db cb rb n m u' { P with K := K', st := st' } := by
  obtain ⟨sb, ht⟩ := h.t
  have ho := T.2 tb ht.lt
  obtain ⟨⟨S, hS, hm⟩, _⟩ := id T
  exact ⟨⟨sb, ht.chg hS (fun hx => by have := (hm _ hx).1; have := h.tt; omega)⟩, ho.trans h.tt, h.tB, p, h.r.stay T (by decide), h.b.turn T, h.lm, h.nm, h.lB, h.nB, h.nG⟩
set_option maxHeartbeats 2000000 in
theorem xabort : Calls Tryz.prog 31 #[.pointer (some ⟨tb, 0, none⟩)] w fun e w' => e = .returned (.int .i64 (abortA P).1) ∧ ∃ tag', HasPool w0 w' tag' tb db cb rb n m u (abortA P).2 ∧ TurnP w0.heap.size tag tag' w w' := by
  obtain ⟨sb, ht⟩ := h.t
  have cA := xasked_yes ht
  unfold abortA
  obtain ⟨K, st, N, C, ⟨G, B, D, X⟩, nw, PO⟩ := P
  have HH := mkHid h
  dsimp only at cA ht ⊢
  cases PO with
  | true =>
    rw [if_pos rfl] at cA ⊢
    clear ht
    go_enter Tryz.func31, Tryz.ntmps31
    go_wp2_with (first | (go_at_call 91; refine cA.mono ?_; rintro e w' ⟨rfl, rfl⟩))
    go_ret
    exact ⟨rfl, _, HH.out, (Still.of (tag := tag) (Chg.refl [] w)).pool⟩
  | false =>
    rw [if_neg (by decide)] at cA ⊢
    have c1 := ht.c 1 _ rfl
    have cD := p_drop h.p h.b (by decide)
    have HT := mkHid ht
    clear h ht
    go_enter Tryz.func31, Tryz.ntmps31
    go_wp2_with (first | (go_at_call 91; refine cA.mono ?_; rintro e w' ⟨rfl, rfl⟩))
    refine cD.mono ?_
    rintro e w2 ⟨rfl, t2, p2, T2⟩
    have hP2 := HH.out.pair p2 T2
    have htt := HH.out.tt
    obtain ⟨⟨S, hS, hm⟩, ho⟩ := id T2
    have h2 := HT.out.chg hS (fun hx => by have := (hm _ hx).1; omega)
    obtain ⟨t3, hP3, T3⟩ := hP2.set (put4_chg w2 tb 8 ⟨G, B, D, X⟩) (h2.now ⟨G, B, D, X⟩) HH.out.lm HH.out.lm HH.out.lB HH.out.lB rfl
    have h3 := h2.now ⟨G, B, D, X⟩
    have x4 := h2.c 4 _ rfl
    have x5 := h2.c 5 _ rfl
    have x6 := h2.c 6 _ rfl
    have x7 := h2.c 7 _ rfl
    have x8 := h2.c 8 _ rfl
    have x9 := h2.c 9 _ rfl
    have x10 := h2.c 10 _ rfl
    have x11 := h2.c 11 _ rfl
    have z8 := h2.z 8 (by decide)
    have z9 := h2.z 9 (by decide)
    have z10 := h2.z 10 (by decide)
    have z11 := h2.z 11 (by decide)
    have y2 := h3.c 2 _ rfl
    have cR := r_abort hP3.r
    have HP3 := mkHid hP3
    have TT := mkHid ((T2.pool (Or.inr (Or.inl rfl))).trans (T3.pool (Or.inr (Or.inr rfl))))
    unfold put4 at *
    clear hP3 T2 T3 hP2 h2 h3 hm ho hS p2 htt
    dsimp only at *
    go_wp2_with fail
    refine cR.mono ?_
    rintro e w5 ⟨rfl, t5, r5, T5⟩
    go_wp2_with fail
    go_ret
    exact ⟨rfl, t5, HP3.out.refs r5 T5, TT.out.trans (T5.pool (Or.inl rfl))⟩
end
end Go.Proofs.YtoeijomelabbfaaGreatDoor
