/- Texts Txs, Txu, Txv, Txw, Txy of the library, joined. -/
import Derived.Test.YtoeijomelabbfaaGreatDoorM20
import Derived.Test.YtoeijomelabbfaaGreatDoorM25
import Derived.DeepKeys
/- Package txn: Free, SetDir, SetNext, Abort of a pool. -/
namespace Go.Proofs.YtoeijomelabbfaaGreatDoor
set_option maxRecDepth 200000
open Go.RowKit
set_option linter.unusedVariables false
set_option linter.unusedSimpArgs false
attribute [local go_sem ↓] Go.wp_at_zero Go.wp_at_succ

def put4 (w : World) (tb k : Nat) (s : SB) : World := (((w.setCell ⟨tb, k, none⟩ (.int .u64 s.G)).setCell ⟨tb, k + 1, none⟩ (.int .i64 s.B)).setCell ⟨tb, k + 2, none⟩ (.int .u64 s.D)).setCell ⟨tb, k + 3, none⟩ (.int .u64 s.X)
theorem put4_chg (w : World) (tb k : Nat) (s : SB) : Chg [tb] w (put4 w tb k s) :=
  (((Chg.setCell w ⟨tb, k, none⟩ _).trans (Chg.setCell _ ⟨tb, k + 1, none⟩ _) (fun _ h _ => h) (fun _ h _ => h)).trans (Chg.setCell _ ⟨tb, k + 2, none⟩ _) (fun _ h _ => h) (fun _ h _ => h)).trans (Chg.setCell _ ⟨tb, k + 3, none⟩ _) (fun _ h _ => h) (fun _ h _ => h)
theorem put4_other (w : World) (tb k : Nat) (s : SB) (j : Nat) (v : Value) (hj : j < k ∨ k + 4 ≤ j) (h : w.cell? ⟨tb, j, none⟩ = some v) : (put4 w tb k s).cell? ⟨tb, j, none⟩ = some v := by
  unfold put4
  rw [World.cell?_setCell_other _ _ _ _ (by simp; try omega), World.cell?_setCell_other _ _ _ _ (by simp; try omega), World.cell?_setCell_other _ _ _ _ (by simp; try omega), World.cell?_setCell_other _ _ _ _ (by simp; try omega)]
  exact h
theorem put4_at (w : World) (tb k : Nat) (s : SB) {v0 v1 v2 v3 : Value} (h0 : w.cell? ⟨tb, k, none⟩ = some v0) (h1 : w.cell? ⟨tb, k + 1, none⟩ = some v1) (h2 : w.cell? ⟨tb, k + 2, none⟩ = some v2) (h3 : w.cell? ⟨tb, k + 3, none⟩ = some v3) (z0 : w.frozen? ⟨tb, k, none⟩ = false) (z1 : w.frozen? ⟨tb, k + 1, none⟩ = false) (z2 : w.frozen? ⟨tb, k + 2, none⟩ = false) (z3 : w.frozen? ⟨tb, k + 3, none⟩ = false) :
    ((put4 w tb k s).cell? ⟨tb, k, none⟩ = some (.int .u64 s.G) ∧ (put4 w tb k s).cell? ⟨tb, k + 1, none⟩ = some (.int .i64 s.B) ∧ (put4 w tb k s).cell? ⟨tb, k + 2, none⟩ = some (.int .u64 s.D) ∧ (put4 w tb k s).cell? ⟨tb, k + 3, none⟩ = some (.int .u64 s.X)) := by
  unfold put4
  refine ⟨?_, ?_, ?_, ?_⟩ <;> simp [go_sem, h0, h1, h2, h3, z0, z1, z2, z3]
theorem put4_frozen (w : World) (tb k : Nat) (s : SB) (j : Nat) : (put4 w tb k s).frozen? ⟨tb, j, none⟩ = w.frozen? ⟨tb, j, none⟩ := by
  unfold put4
  simp [go_sem]
theorem TxAt.now {w : World} {tb db cb rb sb : Nat} {l n : SB} {o : Bool} (h : TxAt w tb db cb rb sb l n o) (s : SB) : TxAt (put4 w tb 8 s) tb db cb rb sb l s o := by
  obtain ⟨a0, a1, a2, a3⟩ := put4_at w tb 8 s (h.c 8 _ rfl) (h.c 9 _ rfl) (h.c 10 _ rfl) (h.c 11 _ rfl) (h.z 8 (by decide)) (h.z 9 (by decide)) (h.z 10 (by decide)) (h.z 11 (by decide))
  refine ⟨fun j v hv => ?_, fun j hj => by rw [put4_frozen]; exact h.z j hj⟩
  match j, hv with
  | 0, hv => exact put4_other _ _ _ _ _ _ (by decide) (h.c 0 v hv)
  | 1, hv => exact put4_other _ _ _ _ _ _ (by decide) (h.c 1 v hv)
  | 2, hv => exact put4_other _ _ _ _ _ _ (by decide) (h.c 2 v hv)
  | 3, hv => exact put4_other _ _ _ _ _ _ (by decide) (h.c 3 v hv)
  | 4, hv => exact put4_other _ _ _ _ _ _ (by decide) (h.c 4 v hv)
  | 5, hv => exact put4_other _ _ _ _ _ _ (by decide) (h.c 5 v hv)
  | 6, hv => exact put4_other _ _ _ _ _ _ (by decide) (h.c 6 v hv)
  | 7, hv => exact put4_other _ _ _ _ _ _ (by decide) (h.c 7 v hv)
  | 8, hv => cases hv; exact a0
  | 9, hv => cases hv; exact a1
  | 10, hv => cases hv; exact a2
  | 11, hv => cases hv; exact a3
  | 12, hv => exact put4_other _ _ _ _ _ _ (by decide) (h.c 12 v hv)
  | j + 13, hv => simp [txA] at hv
theorem TxAt.last {w : World} {tb db cb rb sb : Nat} {l n : SB} {o : Bool} (h : TxAt w tb db cb rb sb l n o) (s : SB) : TxAt (put4 w tb 4 s) tb db cb rb sb s n o := by
  obtain ⟨a0, a1, a2, a3⟩ := put4_at w tb 4 s (h.c 4 _ rfl) (h.c 5 _ rfl) (h.c 6 _ rfl) (h.c 7 _ rfl) (h.z 4 (by decide)) (h.z 5 (by decide)) (h.z 6 (by decide)) (h.z 7 (by decide))
  refine ⟨fun j v hv => ?_, fun j hj => by rw [put4_frozen]; exact h.z j hj⟩
  match j, hv with
  | 0, hv => exact put4_other _ _ _ _ _ _ (by decide) (h.c 0 v hv)
  | 1, hv => exact put4_other _ _ _ _ _ _ (by decide) (h.c 1 v hv)
  | 2, hv => exact put4_other _ _ _ _ _ _ (by decide) (h.c 2 v hv)
  | 3, hv => exact put4_other _ _ _ _ _ _ (by decide) (h.c 3 v hv)
  | 4, hv => cases hv; exact a0
  | 5, hv => cases hv; exact a1
  | 6, hv => cases hv; exact a2
  | 7, hv => cases hv; exact a3
  | 8, hv => exact put4_other _ _ _ _ _ _ (by decide) (h.c 8 v hv)
  | 9, hv => exact put4_other _ _ _ _ _ _ (by decide) (h.c 9 v hv)
  | 10, hv => exact put4_other _ _ _ _ _ _ (by decide) (h.c 10 v hv)
  | 11, hv => exact put4_other _ _ _ _ _ _ (by decide) (h.c 11 v hv)
  | 12, hv => exact put4_other _ _ _ _ _ _ (by decide) (h.c 12 v hv)
  | j + 13, hv => simp [txA] at hv
theorem TxAt.over {w : World} {tb db cb rb sb : Nat} {l n : SB} {o : Bool} (h : TxAt w tb db cb rb sb l n o) (p : Bool) : TxAt (w.setCell ⟨tb, 12, none⟩ (.bool p)) tb db cb rb sb l n p := by
  have c12 := h.c 12 _ rfl
  have z12 := h.z 12 (by decide)
  have ho : ∀ j v, j ≠ 12 → w.cell? ⟨tb, j, none⟩ = some v → (w.setCell ⟨tb, 12, none⟩ (.bool p)).cell? ⟨tb, j, none⟩ = some v := fun j v hj hv => by
    rw [World.cell?_setCell_other _ _ _ _ (by simp [hj])]
    exact hv
  refine ⟨fun j v hv => ?_, fun j hj => by have := h.z j hj; simp [go_sem, this]⟩
  match j, hv with
  | 0, hv => exact ho _ _ (by decide) (h.c 0 v hv)
  | 1, hv => exact ho _ _ (by decide) (h.c 1 v hv)
  | 2, hv => exact ho _ _ (by decide) (h.c 2 v hv)
  | 3, hv => exact ho _ _ (by decide) (h.c 3 v hv)
  | 4, hv => exact ho _ _ (by decide) (h.c 4 v hv)
  | 5, hv => exact ho _ _ (by decide) (h.c 5 v hv)
  | 6, hv => exact ho _ _ (by decide) (h.c 6 v hv)
  | 7, hv => exact ho _ _ (by decide) (h.c 7 v hv)
  | 8, hv => exact ho _ _ (by decide) (h.c 8 v hv)
  | 9, hv => exact ho _ _ (by decide) (h.c 9 v hv)
  | 10, hv => exact ho _ _ (by decide) (h.c 10 v hv)
  | 11, hv => exact ho _ _ (by decide) (h.c 11 v hv)
  | 12, hv => cases hv; simp [go_sem, c12, z12]
  | j + 13, hv => simp [txA] at hv
section
variable {w0 w : World} {tag : Nat → Nat} {tb db cb rb n m u : Nat} {P : Pool}
/-- The Txn itself is written. -/
theorem HasPool.set (h : HasPool w0 w tag tb db cb rb n m u P) {w' : World} {sb : Nat} {l s : SB} {o : Bool} (c : Chg [tb] w w') (t : TxAt w' tb db cb rb sb l s o) (lm : l.may = true) (nm : s.may = true) (lB : l.B = (n : Int)) (nB : s.B = (n : Int)) (nG : s.G = l.G) :
    ∃ tag', HasPool w0 w' tag' tb db cb rb n m u { P with last := l, now := s, over := o } ∧ Turn w0.heap.size tag tag' 6 w w' := by
  obtain ⟨sb0, ht⟩ := h.t
  have T : Turn w0.heap.size tag (mark tag w.heap.size 9) 6 w w' := ⟨⟨[tb], c, fun k hk => by simp at hk; subst hk; exact ⟨h.tt, h.tB⟩⟩, fun k hk => mark_old _ _ _ _ hk⟩
  exact ⟨_, ⟨⟨sb, t⟩, (mark_old _ _ _ _ ht.lt).trans h.tt, h.tB, h.p.stay T (by decide), h.r.stay T (by decide), h.b.turn T, lm, nm, lB, nB, nG⟩, T⟩
theorem xfree_yes (h : HasPool w0 w tag tb db cb rb n m u P) : Calls Tryz.prog 44 #[.pointer (some ⟨tb, 0, none⟩)] w fun e w' => e = .returned (.int .i64 (freeL (freeI P.N P.C)).length) ∧ w = w' := by
  obtain ⟨sb, ht⟩ := h.t
  have cM := xrefs_yes ht
  have cF := r_free h.r
  go_enter Tryz.func44, Tryz.ntmps44
  go_wp2_with (first | (go_at_call 14; refine cM.mono ?_; rintro e w' ⟨rfl, rfl⟩) | (go_at_call 112; refine cF.mono ?_; rintro e w' ⟨rfl, rfl⟩))
  go_ret
  exact ⟨rfl, rfl⟩
end
end Go.Proofs.YtoeijomelabbfaaGreatDoor

/- Package txn: Abort; a commit's two steps. -/
namespace Go.Proofs.YtoeijomelabbfaaGreatDoor
set_option maxRecDepth 200000
open Go.RowKit
set_option linter.unusedVariables false
set_option linter.unusedSimpArgs false
attribute [local go_sem ↓] Go.wp_at_zero Go.wp_at_succ

/-- Only blocks of a pool (tags 1, 2, 6) have turned. -/
def Pt (i : Nat) : Prop := i = 1 ∨ i = 2 ∨ i = 6
def TurnQ (p : Nat → Prop) (B : Nat) (tag tag' : Nat → Nat) (w w' : World) : Prop := (∃ S, Chg S w w' ∧ ∀ k, k ∈ S → p (tag k) ∧ B ≤ k) ∧ ∀ k, k < w.heap.size → tag' k = tag k
abbrev TurnP := TurnQ Pt
section
variable {p q : Nat → Prop} {B : Nat} {t1 t2 t3 : Nat → Nat} {a b c : World}
theorem Turn.quo {i : Nat} (h : Turn B t1 t2 i a b) (hi : p i) : TurnQ p B t1 t2 a b := by
  obtain ⟨⟨S, hS, h1⟩, h2⟩ := h
  exact ⟨⟨S, hS, fun k hk => ⟨by rw [(h1 k hk).1]; exact hi, (h1 k hk).2⟩⟩, h2⟩
theorem Turn.pool {i : Nat} (h : Turn B t1 t2 i a b) (hi : Pt i) : TurnP B t1 t2 a b := h.quo hi
theorem Still.quo (h : Still t1 t2 a b) : TurnQ p B t1 t2 a b := ⟨⟨[], h.1, by simp⟩, h.2⟩
theorem Still.pool (h : Still t1 t2 a b) : TurnP B t1 t2 a b := h.quo
theorem TurnQ.mono (h : TurnQ p B t1 t2 a b) (hq : ∀ i, p i → q i) : TurnQ q B t1 t2 a b := by
  obtain ⟨⟨S, hS, h1⟩, h2⟩ := h
  exact ⟨⟨S, hS, fun k hk => ⟨hq _ (h1 k hk).1, (h1 k hk).2⟩⟩, h2⟩
theorem TurnQ.trans (h : TurnQ p B t1 t2 a b) (g : TurnQ p B t2 t3 b c) : TurnQ p B t1 t3 a c := by
  obtain ⟨⟨S, hS, h1⟩, h2⟩ := h
  obtain ⟨⟨T, hT, g1⟩, g2⟩ := g
  refine ⟨⟨S ++ T.filter (fun k => decide (k < a.heap.size)), hS.trans hT (fun k hk _ => List.mem_append_left _ hk) (fun k hk hlt => List.mem_append_right _ (List.mem_filter.2 ⟨hk, by simpa using hlt⟩)), fun k hk => ?_⟩, fun k hk => (g2 k (Nat.lt_of_lt_of_le hk hS.size)).trans (h2 k hk)⟩
  rcases List.mem_append.1 hk with h9 | h9
  · exact h1 k h9
  · obtain ⟨h8, h7⟩ := List.mem_filter.1 h9
    have h6 := g1 k h8
    rw [h2 k (by simpa using h7)] at h6
    exact h6
theorem TurnQ.size (h : TurnQ p B t1 t2 a b) : a.heap.size ≤ b.heap.size := by
  obtain ⟨⟨S, hS, _⟩, _⟩ := h
  exact hS.size
theorem TurnQ.reads (t : TurnQ p B t1 t2 a b) {ao : Option Addr} {xs : List Value} (h : Reads a ao xs) (hp : 0 < xs.length → ∀ k, k ∈ blk ao → ¬ p (t1 k)) : Reads b ao xs := by
  obtain ⟨⟨S, hS, h1⟩, _⟩ := t
  exact h.chg0 hS (fun hx k hk hm => hp hx k hk (h1 k hm).1)
theorem TurnQ.cell1 (t : TurnQ p B t1 t2 a b) {q : Addr} {v : Value} (h : a.cell? q = some v) (hp : ¬ p (t1 q.block)) : b.cell? q = some v := by
  obtain ⟨⟨S, hS, h1⟩, _⟩ := t
  exact hS.cellv h (fun hm => hp (h1 _ hm).1)
end
section
variable {w0 w : World} {tag : Nat → Nat} {tb db cb rb n m u : Nat} {P : Pool} (h : HasPool w0 w tag tb db cb rb n m u P)
include h
theorem HasPool.refs {w' : World} {tag' : Nat → Nat} {N' C' : List UInt8} (r : HasR w0.heap.size w' tag' 1 rb n N' C') (T : Turn w0.heap.size tag tag' 1 w w') : HasPool w0 w' tag' tb db cb rb n m u { P with N := N', C := C' } := by
  obtain ⟨sb, ht⟩ := h.t
  have ho := T.2 tb ht.lt
  obtain ⟨⟨S, hS, hm⟩, _⟩ := id T
  exact ⟨⟨sb, ht.chg hS (fun hx => by have := (hm _ hx).1; have := h.tt; omega)⟩, ho.trans h.tt, h.tB, h.p.stay T (by decide), r, h.b.turn T, h.lm, h.nm, h.lB, h.nB, h.nG⟩
end
end Go.Proofs.YtoeijomelabbfaaGreatDoor

/- Package txn: a commit's two steps. -/
namespace Go.Proofs.YtoeijomelabbfaaGreatDoor
set_option maxRecDepth 200000
open Go.RowKit
set_option linter.unusedVariables false
set_option linter.unusedSimpArgs false
attribute [local go_sem ↓] Go.wp_at_zero Go.wp_at_succ

abbrev CS := KS × (List UInt8 × List UInt8)
def cLay (m : Nat) (s : SB) (N : List UInt8) (y : CS) : Int × CS := ((layA m s N y.1).1, ((layA m s N y.1).2, y.2))
def cRefs (y : CS) : Int × CS := (0, (y.1, (y.2.1, y.2.1)))
def P12 (i : Nat) : Prop := i = 1 ∨ i = 2
def CJ (w0 ws : World) (ts : Nat → Nat) (db cb rb n m u kb lb : Nat) (y : CS) (w : World) : Prop :=
  ∃ tag, HasPair w0 w tag 2 db cb y.1.1 y.1.2 m u ∧ HasR w0.heap.size w tag 1 rb n y.2.1 y.2.2 ∧ Base w0 w tag ∧ TurnQ P12 w0.heap.size ts tag ws w ∧ y.1.1.length ≤ kb ∧ y.1.2.L.length ≤ lb
def cmtV (db cb rb : Nat) (s : SB) (a : Option Addr) (n c : Nat) : Array Value := #[.func (.func 53) #[.agg (cmA db cb s a n c)] #[], .func (.func 94) #[.pointer (some ⟨rb, 0, none⟩)] #[]]
section
variable {w0 w : World} {ts : Nat → Nat} {db cb rb m u kb lb : Nat} {y : CS}
set_option maxHeartbeats 2000000 in
theorem commit_run (s : SB) (a : Option Addr) (n c : Nat) (N : List UInt8) (h : CJ w0 w ts db cb rb n m u kb lb y w) (hT : Tab w0) (hB : s.B = (n : Int)) (hf : s.Fits) (hn : n ≤ 1024) (gN : Reads w a (bts N)) (hN : N.length = n) (hc : n ≤ c) (hat : 0 < n → ∀ k, k ∈ blk a → ts k = 9) (hu : u ≤ 700000000) (hk : kb ≤ 1000) (hl : lb ≤ 600000000)
    (sb : Nat) (hr : Reads w (some ⟨sb, 0, none⟩) (cmtV db cb rb s a n c).toList) (hsb : ts sb = 9) :
    Calls Tryz.prog 51 #[.slice (some ⟨sb, 0, none⟩) 2 2] w fun e w' => e = .returned (.int .i64 (runA [cLay m s N, cRefs] y).1) ∧ CJ w0 w ts db cb rb n m (u + 60) (kb + 60) (lb + 72000) (runA [cLay m s N, cRefs] y).2 w' := by
  have hblk : 0 < n → ∀ k, k ∈ blk a → k < w.heap.size := fun h0 k hk => by
    obtain ⟨bb, oo, rfl, hc'⟩ := gN (by rw [bts_length]; omega)
    simp [blk] at hk
    subst hk
    exact block_lt_of_cell (hc' 0 _ (bts_get N 0 (by omega)))
  have n9 : ¬ P12 9 := by unfold P12; omega
  refine (inTurn_any (some ⟨sb, 0, none⟩) 2 2 (by decide) (cmtV db cb rb s a n c).toList [cLay m s N, cRefs] (fun i z w' => CJ w0 w ts db cb rb n m (u + 30 * i) (kb + 30 * i) (lb + 36000 * i) z w' ∧ i ≤ 2) rfl rfl ?_ ?_ y w ⟨h, by decide⟩).mono ?_
  · intro i v f hv hf'
    match i, hv, hf' with
    | 0, hv, hf' =>
      cases hv; cases hf'
      refine ⟨_, _, rfl, enters_of Tryz.func53 (by kernel_rfl) rfl, fun z w' hJ => ?_⟩
      obtain ⟨⟨tag, p, r, b, t, x1, x2⟩, -⟩ := hJ
      have gN' := t.reads gN (fun hx k hk => by rw [bts_length] at hx; rw [hat (by omega) k hk]; exact n9)
      refine (lay_all s a n c N (PJ.start p b x1 x2) hT hB hf hn gN' hN hc (fun h0 k hk => by rw [t.2 k (hblk h0 k hk), hat h0 k hk]; decide) (by omega) (by omega) (by omega)).mono ?_
      rintro e w2 ⟨he, tag2, p2, b2, t2, x3, x4⟩
      exact ⟨he, ⟨tag2, p2.mono (by omega), r.stay t2 (by decide), b2, t.trans (t2.quo (Or.inr rfl)), Nat.le_trans x3 (by omega), Nat.le_trans x4 (by omega)⟩, by decide⟩
    | 1, hv, hf' =>
      cases hv; cases hf'
      refine ⟨_, _, rfl, enters_of Tryz.func94 (by kernel_rfl) rfl, fun z w' hJ => ?_⟩
      obtain ⟨⟨tag, p, r, b, t, x1, x2⟩, -⟩ := hJ
      refine (r_commit r).mono ?_
      rintro e w2 ⟨he, tag2, r2, t2⟩
      exact ⟨he, ⟨tag2, (p.stay t2 (by decide)).mono (by omega), r2, b.turn t2, t.trans (t2.quo (Or.inl rfl)), by show z.1.1.length ≤ kb + 30 * (1 + 1); omega, by show z.1.2.L.length ≤ lb + 36000 * (1 + 1); omega⟩, by decide⟩
    | i + 2, hv, hf' => cases hf'
  · intro i z w' hJ
    obtain ⟨⟨tag, p, r, b, t, x1, x2⟩, -⟩ := hJ
    exact t.reads hr (fun _ k hk => by simp [blk] at hk; subst hk; rw [hsb]; exact n9)
  · rintro e w' ⟨j, hj, he, ⟨tag, p, r, b, t, x1, x2⟩, -⟩
    exact ⟨he, tag, p.mono (by omega), r, b, t, by omega, by omega⟩
end
theorem run_cmt (m : Nat) (s : SB) (N C : List UInt8) (x : KS) : runA [cLay m s N, cRefs] (x, (N, C)) = ((layA m s N x).1, ((layA m s N x).2, (N, if (layA m s N x).1 = 0 then N else C))) := by
  by_cases h : (layA m s N x).1 = 0
  · rw [if_pos h, runA_cons, if_pos (show (cLay m s N (x, (N, C))).1 = 0 from h), h]
    rfl
  · rw [if_neg h, runA_cons, if_neg (show ¬ (cLay m s N (x, (N, C))).1 = 0 from h)]
    rfl
theorem counts_new {B : Nat} {w u : World} {tag : Nat → Nat} {i rb n : Nat} {N C : List UInt8} (h : HasR B w tag i rb n N C) (c : Chg [] w u) : Calls Tryz.prog 93 #[.pointer (some ⟨rb, 0, none⟩)] u fun e w' => ∃ b, e = .returned (.slice (some ⟨b, 0, none⟩) n n) ∧ u.heap.size ≤ b ∧ Room w' u.heap.size (some ⟨b, 0, none⟩) n n (bts N) ∧ Chg [] u w' := by
  obtain ⟨nb, cb, sb, Fs, h1, _⟩ := h.still (Still.of (tag := tag) c)
  exact rcounts_any B rb nb cb sb Fs n N C u h1
theorem seven {u u' : World} {a b : Nat} {v0 v1 v2 v3 v4 v5 v6 : Value} (h : u.cell? ⟨a, 0, none⟩ = some v0 ∧ u.cell? ⟨a, 1, none⟩ = some v1 ∧ u.cell? ⟨a, 2, none⟩ = some v2 ∧ u.cell? ⟨b, 0, none⟩ = some v3 ∧ u.cell? ⟨b, 1, none⟩ = some v4 ∧ u.cell? ⟨b, 2, none⟩ = some v5 ∧ u.cell? ⟨b, 3, none⟩ = some v6) (g : Chg [] u u') : u'.cell? ⟨a, 0, none⟩ = some v0 ∧ u'.cell? ⟨a, 1, none⟩ = some v1 ∧ u'.cell? ⟨a, 2, none⟩ = some v2 ∧ u'.cell? ⟨b, 0, none⟩ = some v3 ∧ u'.cell? ⟨b, 1, none⟩ = some v4 ∧ u'.cell? ⟨b, 2, none⟩ = some v5 ∧ u'.cell? ⟨b, 3, none⟩ = some v6 :=
  ⟨g.cellv h.1 (by simp), g.cellv h.2.1 (by simp), g.cellv h.2.2.1 (by simp), g.cellv h.2.2.2.1 (by simp), g.cellv h.2.2.2.2.1 (by simp), g.cellv h.2.2.2.2.2.1 (by simp), g.cellv h.2.2.2.2.2.2 (by simp)⟩
theorem commit_from {w0 w w3 : World} {tag : Nat → Nat} {tb db cb rb n m u : Nat} {P : Pool} (h : HasPool w0 w tag tb db cb rb n m u P) (hT : Tab w0) (hn : n ≤ 1024) (hu : u ≤ 600000000) (hk : P.K.length ≤ 1000) (hl : P.st.L.length ≤ 500000000) (s : SB) (hs : s.may = true) (hB : s.B = (n : Int)) (c : Chg [] w w3) (b : Nat) (hb : w.heap.size ≤ b) (hR : Room w3 w.heap.size (some ⟨b, 0, none⟩) n n (bts P.N)) :
    Calls Tryz.prog 51 #[.slice (some ⟨w3.heap.size, 0, none⟩) 2 2] (w3.alloc (.cells (cmtV db cb rb s (some ⟨b, 0, none⟩) n n) 70)) fun e w5 => e = .returned (.int .i64 (layA m s P.N (P.K, P.st)).1) ∧ ∃ tag5, HasPool w0 w5 tag5 tb db cb rb n m (u + 60) { P with K := (layA m s P.N (P.K, P.st)).2.1, st := (layA m s P.N (P.K, P.st)).2.2, C := if (layA m s P.N (P.K, P.st)).1 = 0 then P.N else P.C } ∧ TurnP w0.heap.size tag tag5 w w5 ∧ ∀ p v, w3.cell? p = some v → w.heap.size ≤ p.block → w5.cell? p = some v := by
  have gA := Chg.alloc [] w3 (.cells (cmtV db cb rb s (some ⟨b, 0, none⟩) n n) 70)
  have s4 := still_mark tag 9 (c.then gA)
  have hlens := h.r.lens
  have hbl : ∀ k, k ∈ blk (some ⟨b, 0, none⟩) → mark tag w.heap.size 9 k = 9 := fun k hk => by
    simp [blk] at hk
    subst hk
    exact mark_new _ _ _ _ hb
  have hJ : CJ w0 (w3.alloc (.cells (cmtV db cb rb s (some ⟨b, 0, none⟩) n n) 70)) (mark tag w.heap.size 9) db cb rb n m u 1000 500000000 ((P.K, P.st), (P.N, P.C)) (w3.alloc (.cells (cmtV db cb rb s (some ⟨b, 0, none⟩) n n) 70)) :=
    ⟨_, h.p.still s4, h.r.still s4, h.b.still s4, (Still.of (Chg.refl [] _)).quo, hk, hl⟩
  refine (commit_run s (some ⟨b, 0, none⟩) n n P.N hJ hT hB (SB.fits_of_may hs) hn (hR.reads.keep gA) hlens.1 (Nat.le_refl _) (fun _ k hk => hbl k hk) (by omega) (by omega) (by omega) w3.heap.size (reads_alloc w3 _ _) (mark_new _ _ _ _ c.size)).mono ?_
  rw [run_cmt]
  rintro e w5 ⟨he, tag5, p, r, b5, t5, -, -⟩
  obtain ⟨sb, ht⟩ := h.t
  have ht4 := ht.chg (c.then gA) (by simp)
  have hlt := ht.lt
  have tt4 : mark tag w.heap.size 9 tb = 6 := (mark_old _ _ _ _ hlt).trans h.tt
  obtain ⟨⟨S, hS, hm⟩, ho⟩ := id t5
  have ht5 := ht4.chg hS (fun hx => by have := (hm _ hx).1; rw [tt4] at this; unfold P12 at this; omega)
  refine ⟨he, tag5, ⟨⟨sb, ht5⟩, (ho tb ht4.lt).trans tt4, h.tB, p, r, b5, h.lm, h.nm, h.lB, h.nB, h.nG⟩, s4.pool.trans (t5.mono (fun i hi => hi.elim Or.inl (fun h => Or.inr (Or.inl h)))), fun q v hq hle => ?_⟩
  exact t5.cell1 (gA.cellv hq (by simp)) (by rw [mark_new _ _ _ _ hle]; unfold P12; omega)
/-- Commit. -/
def nextS (s : SB) : SB := { s with G := s.G + 1 }
def commitA (m : Nat) (P : Pool) : Int × Pool :=
  if P.over = true then (32, P) else if (nextS P.now).may = true then
    (if (layA m (nextS P.now) P.N (P.K, P.st)).1 = 0 then (0, ⟨(layA m (nextS P.now) P.N (P.K, P.st)).2.1, (layA m (nextS P.now) P.N (P.K, P.st)).2.2, P.N, P.N, nextS P.now, nextS P.now, false⟩)
     else ((layA m (nextS P.now) P.N (P.K, P.st)).1, { P with K := (layA m (nextS P.now) P.N (P.K, P.st)).2.1, st := (layA m (nextS P.now) P.N (P.K, P.st)).2.2, over := true }))
  else (8, P)
section
variable {w0 w : World} {tag : Nat → Nat} {tb db cb rb n m u : Nat} {P : Pool} (h : HasPool w0 w tag tb db cb rb n m u P)
include h
set_option maxHeartbeats 4000000 in
theorem xcommit (hT : Tab w0) (hn : n ≤ 1024) (hu : u ≤ 600000000) (hk : P.K.length ≤ 1000) (hl : P.st.L.length ≤ 500000000) : Calls Tryz.prog 29 #[.pointer (some ⟨tb, 0, none⟩)] w fun e w' => e = .returned (.int .i64 (commitA m P).1) ∧ ∃ tag', HasPool w0 w' tag' tb db cb rb n m (u + 60) (commitA m P).2 ∧ TurnP w0.heap.size tag tag' w w' := by
  obtain ⟨sb, ht⟩ := h.t
  have cA := xasked_yes ht
  unfold commitA
  obtain ⟨K, st, N, C, ls, ⟨G, B, D, X⟩, PO⟩ := P
  have HH := mkHid h
  unfold nextS
  dsimp only at cA ht hk hl ⊢
  cases PO with
  | true =>
    rw [if_pos rfl] at cA ⊢
    clear ht
    go_enter Tryz.func29, Tryz.ntmps29
    go_wp2_with (first | (go_at_call 91; refine cA.mono ?_; rintro e w' ⟨rfl, rfl⟩))
    go_ret
    have h1 := HH.out
    exact ⟨rfl, _, ⟨h1.t, h1.tt, h1.tB, h1.p.mono (by omega), h1.r, h1.b, h1.lm, h1.nm, h1.lB, h1.nB, h1.nG⟩, (Still.of (tag := tag) (Chg.refl [] w)).pool⟩
  | false =>
    rw [if_neg (by decide)] at cA ⊢
    have hm0 := h.nm
    have hG : G + 1 < 2 ^ 63 := by rw [SB.may_iff] at hm0; dsimp only at hm0; omega
    obtain ⟨g, hg⟩ : ∃ g, G + 1 = g := ⟨_, rfl⟩
    have hwG : IntKind.u64.wrap ((G : Int) + 1) = (g : Int) := by rw [IntKind.wrap_u64]; omega
    rw [hg]
    have cM := fun u => may_any ⟨g, B, D, X⟩ u
    have c8 := ht.c 8 _ rfl
    have c9 := ht.c 9 _ rfl
    have c10 := ht.c 10 _ rfl
    have c11 := ht.c 11 _ rfl
    obtain ⟨q0, q1, q2, q3⟩ := sup_laid w ⟨G, B, D, X⟩
    obtain ⟨y0, y1, y2, y3⟩ := sup_laid w ⟨g, B, D, X⟩
    have qf := fun j => frozen_of_row _ w.heap.size j _ _ (heap_alloc_last w (supObj ⟨G, B, D, X⟩))
    have f0 := qf 0
    have gA := Chg.alloc [] w (supObj ⟨g, B, D, X⟩)
    unfold supObj SB.v at *
    dsimp only at *
    have HT := mkHid ht
    have HB := mkHid (And.intro hu (And.intro hk (And.intro hl hn)))
    have HG := mkHid (And.intro hg hG)
    clear h ht qf hm0 hu hk hl hn hg hG
    obtain ⟨mm, hmm⟩ : ∃ mm, SB.may ⟨g, B, D, X⟩ = mm := ⟨_, rfl⟩
    rw [hmm] at cM ⊢
    have HMM := mkHid hmm
    clear hmm
    cases mm with
    | false =>
      rw [if_neg (by decide)]
      go_enter Tryz.func29, Tryz.ntmps29
      go_wp2_with (first | (go_at_call 91; refine cA.mono ?_; rintro e w' ⟨rfl, rfl⟩))
      refine (cM _).mono ?_
      rintro e w2 ⟨rfl, g2⟩
      go_wp2_with fail
      go_ret
      have h1 := HH.out.still (still_mark tag 9 (gA.then g2))
      exact ⟨rfl, _, ⟨h1.t, h1.tt, h1.tB, h1.p.mono (by omega), h1.r, h1.b, h1.lm, h1.nm, h1.lB, h1.nB, h1.nG⟩, (still_mark tag 9 (gA.then g2)).pool⟩
    | true =>
      rw [if_pos rfl]
      obtain ⟨⟨v, K5, st5⟩, hv⟩ : ∃ r, layA m ⟨g, B, D, X⟩ N (K, st) = r := ⟨_, rfl⟩
      rw [hv]
      dsimp only
      have HV := mkHid hv
      clear hv
      go_enter Tryz.func29, Tryz.ntmps29
      go_wp2_with (first | (go_at_call 91; refine cA.mono ?_; rintro e w' ⟨rfl, rfl⟩))
      refine (cM _).mono ?_
      rintro e w2 ⟨rfl, g2⟩
      have GA := gA.then g2
      have h2 := HT.out.chg GA (by simp)
      obtain ⟨bx, hbxe⟩ : ∃ b, w.heap.size = b := ⟨_, rfl⟩
      have hbx : w.heap.size ≤ bx := Nat.le_of_eq hbxe
      have hnb : tb ≠ bx := by have := HT.out.lt; omega
      rw [hbxe] at q0 q1 q2 q3 y0 y1 y2 y3 f0
      have v0 := g2.cellv y0 (by simp)
      have v1 := g2.cellv y1 (by simp)
      have v2 := g2.cellv y2 (by simp)
      have v3 := g2.cellv y3 (by simp)
      have HX := mkHid (And.intro (h2.c 0 _ rfl) (And.intro (h2.c 1 _ rfl) (And.intro (h2.c 2 _ rfl) (And.intro v0 (And.intro v1 (And.intro v2 v3))))))
      have CC := mkHid (fun (u : World) (c : Chg [] w u) => counts_new HH.out.r c)
      have hcf := fun (w3 : World) (c : Chg [] w w3) (b : Nat) (hb : w.heap.size ≤ b) (hR : Room w3 w.heap.size (some ⟨b, 0, none⟩) n n (bts N)) => commit_from HH.out hT HB.out.2.2.2 HB.out.1 HB.out.2.1 HB.out.2.2.1 ⟨g, B, D, X⟩ HMM.out HH.out.nB c b hb hR
      dsimp only at hcf
      unfold cmtV cmA at hcf
      dsimp only at hcf
      rw [HV.out] at hcf
      dsimp only at hcf
      have CK := mkHid hcf
      clear hcf h2 v0 v1 v2 v3 q0 q1 q2 q3 y0 y1 y2 y3 f0 c8 c9 c10 c11 cM cA
      go_wp2_with fail
      refine wp_region_noPanic ?_
      refine wp_region_held_drew (S := (fun u : World => u.cell? ⟨tb, 0, none⟩ = some (.pointer (some ⟨db, 0, none⟩)) ∧ u.cell? ⟨tb, 1, none⟩ = some (.pointer (some ⟨cb, 0, none⟩)) ∧ u.cell? ⟨tb, 2, none⟩ = some (.pointer (some ⟨rb, 0, none⟩)) ∧ u.cell? ⟨bx, 0, none⟩ = some (.int .u64 (g : Int)) ∧ u.cell? ⟨bx, 1, none⟩ = some (.int .i64 B) ∧ u.cell? ⟨bx, 2, none⟩ = some (.int .u64 (D : Int)) ∧ u.cell? ⟨bx, 3, none⟩ = some (.int .u64 (X : Int)))) (by kernel_rfl) ?_ (fun hH => ?_)
      · exact seven HX.out (Chg.drew [] _)
      refine wpAnyH_take (i := 0) (oi := { dst := some 22, op := _, type := _, pos := _, after := _, guard := none }) (v := ?_) rfl (by kernel_rfl) (by kernel_rfl) (by kernel_rfl) (fun _ _ _ h => h) (Or.inl ⟨by rfl, ?_⟩) hH ?_
      rotate_left
      · intro u hSu
        try dsimp only at hSu
        go_simp
        try with_reducible rfl
      try simp only [Act.put, List.setIfInBounds_toArray, List.set_cons_zero, List.set_cons_succ]
      refine wpAnyH_take (i := 1) (oi := { dst := some 23, op := _, type := _, pos := _, after := _, guard := none }) (v := ?_) rfl (by kernel_rfl) (by kernel_rfl) (by kernel_rfl) (fun _ _ _ h => h) (Or.inl ⟨by rfl, ?_⟩) hH ?_
      rotate_left
      · intro u hSu
        try dsimp only at hSu
        go_simp
        try with_reducible rfl
      try simp only [Act.put, List.setIfInBounds_toArray, List.set_cons_zero, List.set_cons_succ]
      refine wpAnyH_take (i := 2) (oi := { dst := some 24, op := _, type := _, pos := _, after := _, guard := none }) (v := ?_) rfl (by kernel_rfl) (by kernel_rfl) (by kernel_rfl) (fun _ _ _ h => h) (Or.inl ⟨by rfl, ?_⟩) hH ?_
      rotate_left
      · intro u hSu
        try dsimp only at hSu
        go_simp
        try with_reducible rfl
      try simp only [Act.put, List.setIfInBounds_toArray, List.set_cons_zero, List.set_cons_succ]
      refine wpAnyH_take (i := 3) (oi := { dst := some 25, op := _, type := _, pos := _, after := _, guard := none }) (v := ?_) rfl (by kernel_rfl) (by kernel_rfl) (by kernel_rfl) (fun _ _ _ h => h) (Or.inl ⟨by rfl, ?_⟩) hH ?_
      rotate_left
      · intro u hSu
        try dsimp only at hSu
        go_simp
        try with_reducible rfl
      try simp only [Act.put, List.setIfInBounds_toArray, List.set_cons_zero, List.set_cons_succ]
      refine wpAnyH_take (i := 4) (oi := { dst := some 26, op := _, type := _, pos := _, after := _, guard := none }) (v := ?_) rfl (by kernel_rfl) (by kernel_rfl) (by kernel_rfl) (fun _ _ _ h => h) (Or.inl ⟨by rfl, ?_⟩) hH ?_
      rotate_left
      · intro u hSu
        try dsimp only at hSu
        go_simp
        try with_reducible rfl
      try simp only [Act.put, List.setIfInBounds_toArray, List.set_cons_zero, List.set_cons_succ]
      refine wpAnyH_take (i := 5) (oi := { dst := some 27, op := _, type := _, pos := _, after := _, guard := none }) (v := ?_) rfl (by kernel_rfl) (by kernel_rfl) (by kernel_rfl) (fun _ _ _ h => h) (Or.inl ⟨by rfl, ?_⟩) hH ?_
      rotate_left
      · intro u hSu
        try dsimp only at hSu
        go_simp
        try with_reducible rfl
      try simp only [Act.put, List.setIfInBounds_toArray, List.set_cons_zero, List.set_cons_succ]
      refine wpAnyH_take (i := 6) (oi := { dst := some 28, op := _, type := _, pos := _, after := _, guard := none }) (v := ?_) rfl (by kernel_rfl) (by kernel_rfl) (by kernel_rfl) (fun _ _ _ h => h) (Or.inl ⟨by rfl, ?_⟩) hH ?_
      rotate_left
      · intro u hSu
        try dsimp only at hSu
        go_simp
        try with_reducible rfl
      try simp only [Act.put, List.setIfInBounds_toArray, List.set_cons_zero, List.set_cons_succ]
      refine wpAnyH_take (i := 7) (oi := { dst := some 29, op := _, type := _, pos := _, after := _, guard := none }) (v := ?_) rfl (by kernel_rfl) (by kernel_rfl) (by kernel_rfl) (fun _ _ _ h => h) (Or.inl ⟨by rfl, ?_⟩) hH ?_
      rotate_left
      · intro u hSu
        try dsimp only at hSu
        go_simp
        try with_reducible rfl
      try simp only [Act.put, List.setIfInBounds_toArray, List.set_cons_zero, List.set_cons_succ]
      refine wpAnyH_take (i := 8) (oi := { dst := some 30, op := _, type := _, pos := _, after := _, guard := none }) (v := ?_) rfl (by kernel_rfl) (by kernel_rfl) (by kernel_rfl) (fun _ _ _ h => h) (Or.inl ⟨by rfl, ?_⟩) hH ?_
      rotate_left
      · intro u hSu
        try dsimp only at hSu
        go_simp
        try with_reducible rfl
      try simp only [Act.put, List.setIfInBounds_toArray, List.set_cons_zero, List.set_cons_succ]
      refine wpAnyH_take (i := 9) (oi := { dst := some 31, op := _, type := _, pos := _, after := _, guard := none }) (v := ?_) rfl (by kernel_rfl) (by kernel_rfl) (by kernel_rfl) (fun _ _ _ h => h) (Or.inl ⟨by rfl, ?_⟩) hH ?_
      rotate_left
      · intro u hSu
        try dsimp only at hSu
        go_simp
        try with_reducible rfl
      try simp only [Act.put, List.setIfInBounds_toArray, List.set_cons_zero, List.set_cons_succ]
      refine wpAnyH_take (i := 10) (oi := { dst := some 32, op := _, type := _, pos := _, after := _, guard := none }) (v := ?_) rfl (by kernel_rfl) (by kernel_rfl) (by kernel_rfl) (fun _ _ _ h => h) (Or.inl ⟨by rfl, ?_⟩) hH ?_
      rotate_left
      · intro u hSu
        try dsimp only at hSu
        go_simp
        try with_reducible rfl
      try simp only [Act.put, List.setIfInBounds_toArray, List.set_cons_zero, List.set_cons_succ]
      refine wpAnyH_take (i := 11) (oi := { dst := some 33, op := _, type := _, pos := _, after := _, guard := none }) (v := ?_) rfl (by kernel_rfl) (by kernel_rfl) (by kernel_rfl) (fun _ _ _ h => h) (Or.inl ⟨by rfl, ?_⟩) hH ?_
      rotate_left
      · intro u hSu
        try dsimp only at hSu
        go_simp
        try with_reducible rfl
      try simp only [Act.put, List.setIfInBounds_toArray, List.set_cons_zero, List.set_cons_succ]
      refine wpAnyH_take (i := 12) (oi := { dst := some 34, op := _, type := _, pos := _, after := _, guard := none }) (v := ?_) rfl (by kernel_rfl) (by kernel_rfl) (by kernel_rfl) (fun _ _ _ h => h) (Or.inl ⟨by rfl, ?_⟩) hH ?_
      rotate_left
      · intro u hSu
        try dsimp only at hSu
        go_simp
        try with_reducible rfl
      try simp only [Act.put, List.setIfInBounds_toArray, List.set_cons_zero, List.set_cons_succ]
      refine wpAnyH_take (i := 16) (oi := { dst := some 38, op := _, type := _, pos := _, after := _, guard := none }) (v := ?_) rfl (by kernel_rfl) (by kernel_rfl) (by kernel_rfl) (fun _ _ _ h => h) (Or.inl ⟨by rfl, ?_⟩) hH ?_
      rotate_left
      · intro u hSu
        try dsimp only at hSu
        go_simp
        try with_reducible rfl
      try simp only [Act.put, List.setIfInBounds_toArray, List.set_cons_zero, List.set_cons_succ]
      refine wpAnyH_take (i := 17) (oi := { dst := some 39, op := _, type := _, pos := _, after := _, guard := none }) (v := ?_) rfl (by kernel_rfl) (by kernel_rfl) (by kernel_rfl) (fun _ _ _ h => h) (Or.inl ⟨by rfl, ?_⟩) hH ?_
      rotate_left
      · intro u hSu
        try dsimp only at hSu
        go_simp
        try with_reducible rfl
      try simp only [Act.put, List.setIfInBounds_toArray, List.set_cons_zero, List.set_cons_succ]
      refine wpAnyH_take (i := 18) (oi := { dst := some 40, op := _, type := _, pos := _, after := _, guard := none }) (v := ?_) rfl (by kernel_rfl) (by kernel_rfl) (by kernel_rfl) (fun _ _ _ h => h) (Or.inl ⟨by rfl, ?_⟩) hH ?_
      rotate_left
      · intro u hSu
        try dsimp only at hSu
        go_simp
        try with_reducible rfl
      try simp only [Act.put, List.setIfInBounds_toArray, List.set_cons_zero, List.set_cons_succ]
      refine wpAnyH_take (i := 19) (oi := { dst := some 41, op := _, type := _, pos := _, after := _, guard := none }) (v := ?_) rfl (by kernel_rfl) (by kernel_rfl) (by kernel_rfl) (fun _ _ _ h => h) (Or.inl ⟨by rfl, ?_⟩) hH ?_
      rotate_left
      · intro u hSu
        try dsimp only at hSu
        go_simp
        try with_reducible rfl
      try simp only [Act.put, List.setIfInBounds_toArray, List.set_cons_zero, List.set_cons_succ]
      refine wpAnyH_take (i := 20) (oi := { dst := some 42, op := _, type := _, pos := _, after := _, guard := none }) (v := ?_) rfl (by kernel_rfl) (by kernel_rfl) (by kernel_rfl) (fun _ _ _ h => h) (Or.inl ⟨by rfl, ?_⟩) hH ?_
      rotate_left
      · intro u hSu
        try dsimp only at hSu
        go_simp
        try with_reducible rfl
      try simp only [Act.put, List.setIfInBounds_toArray, List.set_cons_zero, List.set_cons_succ]
      refine wpAnyH_ready (rs := [13]) (by kernel_rfl) (by simp) ?_
      refine AllReadyH.cons (o := { dst := some 35, op := _, type := _, pos := _, after := _, guard := none }) rfl (fun K hK => ?_) AllReadyH.nil
      go_simp
      go_at_call 93
      refine (CC.out _ (GA.then (Chg.drew [] _))).mono ?_
      rintro e w3 ⟨lb, rfl, hlb, hR3, g3⟩
      have G3 := (Chg.drew [] w2).then g3
      clear hH
      refine hK.out _ _ (seven HX.out G3) (fun hH => ?_)
      clear hK K
      try simp only [Act.put, List.setIfInBounds_toArray, List.set_cons_zero, List.set_cons_succ]
      refine wpAnyH_take (i := 14) (oi := { dst := some 36, op := _, type := _, pos := _, after := _, guard := none }) (v := ?_) rfl (by kernel_rfl) (by kernel_rfl) (by kernel_rfl) (fun _ _ _ h => h) (Or.inl ⟨by rfl, ?_⟩) hH ?_
      rotate_left
      · intro u hSu
        try dsimp only at hSu
        go_simp
        try with_reducible rfl
      try simp only [Act.put, List.setIfInBounds_toArray, List.set_cons_zero, List.set_cons_succ]
      refine wpAnyH_take (i := 15) (oi := { dst := some 37, op := _, type := _, pos := _, after := _, guard := none }) (v := ?_) rfl (by kernel_rfl) (by kernel_rfl) (by kernel_rfl) (fun _ _ _ h => h) (Or.inl ⟨by rfl, ?_⟩) hH ?_
      rotate_left
      · intro u hSu
        try dsimp only at hSu
        go_simp
        try with_reducible rfl
      try simp only [Act.put, List.setIfInBounds_toArray, List.set_cons_zero, List.set_cons_succ]
      refine wpAnyH_ready (rs := [21]) (by kernel_rfl) (by simp) ?_
      refine AllReadyH.cons (o := { dst := some 43, op := _, type := _, pos := _, after := _, guard := none }) rfl (fun K hK => ?_) AllReadyH.nil
      go_simp
      clear hH
      refine hK.out _ _ (seven HX.out (G3.then (Chg.alloc [] _ _))) (fun hH => ?_)
      clear hK K
      try simp only [Act.put, List.setIfInBounds_toArray, List.set_cons_zero, List.set_cons_succ]
      refine wpAnyH_ready (rs := [22]) (by kernel_rfl) (by simp) ?_
      refine AllReadyH.cons (o := { dst := some 44, op := _, type := _, pos := _, after := _, guard := none }) rfl (fun K hK => ?_) AllReadyH.nil
      go_simp
      go_at_call 51
      refine (CK.out w3 (GA.then G3) lb (Nat.le_trans GA.size hlb) (hR3.mono GA.size) ).mono ?_
      rintro e w5 ⟨rfl, tag5, hP5, T5, hcell⟩
      obtain ⟨sb5, ht5⟩ := id hP5.t
      have b0 := hcell _ _ ((seven HX.out G3).2.2.2.1) hbx
      have b1 := hcell _ _ ((seven HX.out G3).2.2.2.2.1) hbx
      have b2 := hcell _ _ ((seven HX.out G3).2.2.2.2.2.1) hbx
      have b3 := hcell _ _ ((seven HX.out G3).2.2.2.2.2.2) hbx
      clear hH
      refine hK.out _ _ ⟨ht5.c 0 _ rfl, ht5.c 1 _ rfl, ht5.c 2 _ rfl, b0, b1, b2, b3⟩ (fun hH => ?_)
      clear hK K
      try simp only [Act.put, List.setIfInBounds_toArray, List.set_cons_zero, List.set_cons_succ]
      refine wpAnyH_take (i := 23) (oi := { dst := some 5, op := _, type := _, pos := _, after := _, guard := none }) (v := ?_) rfl (by kernel_rfl) (by kernel_rfl) (by kernel_rfl) (fun _ _ _ h => h) (Or.inl ⟨by rfl, ?_⟩) hH ?_
      rotate_left
      · intro u hSu
        try dsimp only at hSu
        go_simp
        try with_reducible rfl
      try simp only [Act.put, List.setIfInBounds_toArray, List.set_cons_zero, List.set_cons_succ]
      refine wpAnyH_done (by kernel_rfl) ?_ _
      refine NoPanic.normal ?_
      have hP5s := hP5
      have HP5 := mkHid hP5
      have HT5 := mkHid T5
      have HTX := mkHid ht5
      clear hP5 T5 hP5s hcell
      by_cases hv0 : v = 0
      · subst hv0
        have x4 := ht5.c 4 _ rfl
        have x5 := ht5.c 5 _ rfl
        have x6 := ht5.c 6 _ rfl
        have x7 := ht5.c 7 _ rfl
        have x8 := ht5.c 8 _ rfl
        have x9 := ht5.c 9 _ rfl
        have x10 := ht5.c 10 _ rfl
        have x11 := ht5.c 11 _ rfl
        have z4 := ht5.z 4 (by decide)
        have z5 := ht5.z 5 (by decide)
        have z6 := ht5.z 6 (by decide)
        have z7 := ht5.z 7 (by decide)
        have z8 := ht5.z 8 (by decide)
        have z9 := ht5.z 9 (by decide)
        have z10 := ht5.z 10 (by decide)
        have z11 := ht5.z 11 (by decide)
        have hnb2 : bx ≠ tb := fun e => hnb e.symm
        have k48 := HP5.out.set (((put4_chg w5 tb 4 ⟨g, B, D, X⟩).trans (put4_chg _ tb 8 ⟨g, B, D, X⟩) (fun _ h _ => h) (fun _ h _ => h)).then (Chg.drew [] _)) (((ht5.last ⟨g, B, D, X⟩).now ⟨g, B, D, X⟩).chg (Chg.drew [] _) (by simp)) HMM.out HMM.out HH.out.nB HH.out.nB rfl
        have k84 := HP5.out.set (((put4_chg w5 tb 8 ⟨g, B, D, X⟩).trans (put4_chg _ tb 4 ⟨g, B, D, X⟩) (fun _ h _ => h) (fun _ h _ => h)).then (Chg.drew [] _)) (((ht5.now ⟨g, B, D, X⟩).last ⟨g, B, D, X⟩).chg (Chg.drew [] _) (by simp)) HMM.out HMM.out HH.out.nB HH.out.nB rfl
        unfold put4 at k48 k84
        dsimp only at k48 k84
        rw [if_pos rfl] at k48 k84
        have K48 := mkHid k48
        have K84 := mkHid k84
        clear k48 k84
        clear ht5
        go_wp2_with fail
        go_region_law (fail)
        all_goals
          go_wp2_with fail
          go_ret
          try rw [if_pos rfl]
          first
            | exact ⟨rfl, _, K48.out.choose_spec.1, HT5.out.trans (K48.out.choose_spec.2.pool (Or.inr (Or.inr rfl)))⟩
            | exact ⟨rfl, _, K84.out.choose_spec.1, HT5.out.trans (K84.out.choose_spec.2.pool (Or.inr (Or.inr rfl)))⟩
      · have d3 : (v != 0) = true := by simpa using hv0
        have x12 := ht5.c 12 _ rfl
        have z12 := ht5.z 12 (by decide)
        clear ht5
        have HV0 := mkHid hv0
        clear hv0
        go_wp2_with fail
        go_ret
        try rw [if_neg HV0.out]
        obtain ⟨t6, p6, T6⟩ := HP5.out.set (Chg.setCell w5 ⟨tb, 12, none⟩ (.bool true)) (HTX.out.over true) HH.out.lm HH.out.nm HH.out.lB HH.out.nB HH.out.nG
        dsimp only at p6
        rw [if_neg HV0.out] at p6
        exact ⟨rfl, t6, p6, HT5.out.trans (T6.pool (Or.inr (Or.inr rfl)))⟩
end
end Go.Proofs.YtoeijomelabbfaaGreatDoor

/- A pool's commits, one after another; one whose power goes; a disk with another's blocks. No walk here. -/
namespace Go.Proofs.YtoeijomelabbfaaGreatDoor
set_option maxRecDepth 200000
open Go.RowKit
set_option linter.unusedVariables false
set_option linter.unusedSimpArgs false

theorem choose_top {a b : List UInt8} {s : SB} {i : Nat} (h : chooseS a b = (s, i, 0)) : (inSlot (takeS a) 0 = true → (takeS a).2.G ≤ s.G) ∧ (inSlot (takeS b) 1 = true → (takeS b).2.G ≤ s.G) := by
  unfold chooseS at h
  split at h
  · rename_i h1
    cases h
    refine ⟨fun _ => Nat.le_refl _, fun h2 => ?_⟩
    rcases h1.2 with h3 | h3
    · rw [h2] at h3; cases h3
    · omega
  · rename_i h1
    split at h
    · rename_i h2
      cases h
      refine ⟨fun h3 => ?_, fun _ => Nat.le_refl _⟩
      by_cases h4 : (takeS b).2.G < (takeS a).2.G
      · exact absurd ⟨h3, Or.inr h4⟩ h1
      · omega
    · cases h
theorem found_slots {st : RS} {s : SB} {L : List UInt8} (h : foundA st = some (s, L)) : ∃ i, chooseS (slotB st 0) (slotB st 1) = (s, i, 0) ∧ s.B = (st.count : Int) := by
  unfold foundA at h
  split at h
  · rename_i h1
    obtain ⟨⟨s', i, e⟩, hr⟩ : ∃ r, chooseS (slotB st 0) (slotB st 1) = r := ⟨_, rfl⟩
    rw [hr] at h h1 ⊢
    dsimp only at h h1
    obtain ⟨rfl, h3⟩ := h1
    split at h
    · split at h
      · cases h
        exact ⟨i, rfl, h3⟩
      · cases h
    · cases h
  · cases h
/-- A commit over a pool whose disk has the last one. -/
theorem commit_good {n m : Nat} {P : Pool} (hm : 1 ≤ m) (hn : 16 ≤ n ∧ n ≤ 1024) (ho : P.over = false) (hc : Calm n m (P.K, P.st)) (hd : P.K = []) (hN : P.N.length = n) (hm2 : (nextS P.now).may = true) (hB : P.now.B = (n : Int)) (L : List UInt8) (hf : ∃ s, foundA P.st = some (s, L) ∧ s.G ≤ P.now.G) :
    ∃ K' st', commitA m P = (0, ⟨K', st', P.N, P.N, nextS P.now, nextS P.now, false⟩) ∧ Calm n m (K', st') ∧ st'.L = [] ∧ foundA st' = if heldB P.N (nextS P.now) = true then some (nextS P.now, P.N) else none := by
  obtain ⟨⟨K', st'⟩, e, h', l', r'⟩ := lay_good hc hm hn (nextS P.now) hm2 hB P.N hN
  obtain ⟨s0, hf, hG⟩ := hf
  obtain ⟨i, hch, -⟩ := found_slots hf
  have htop := choose_top hch
  have hv : ∀ y, y < 2 → kval P.K P.st y = reads P.st y 4 := by
    intro y _
    rw [hd]
    rfl
  refine ⟨K', st', ?_, h', l', ?_⟩
  · unfold commitA
    rw [if_neg (by rw [ho]; decide), if_pos hm2, e, if_pos rfl]
  · refine found_good hn (nextS P.now) hm2 hB P.N hN st' h'.g.c _ r' (fun y hy hne hin => ?_)
    have hsl : (kval P.K P.st y).take 64 = slotB P.st y := by
      rw [hv y hy]
      unfold slotB
      rw [if_pos (by have := hc.g.c; dsimp only at this; omega)]
    dsimp only at hin ⊢
    rw [hsl] at hin ⊢
    have hlt : (takeS (slotB P.st y)).2.G ≤ s0.G := by
      obtain rfl | rfl : y = 0 ∨ y = 1 := by omega
      · exact htop.1 hin
      · exact htop.2 hin
    show _ < P.now.G + 1
    omega
/-! ### sixteen blocks -/
def F16 : List UInt8 := freshN 16
def A16 : List UInt8 := (allocN F16 F16).2.2
theorem a16 : (allocN F16 F16).1 = 4 ∧ (allocN F16 F16).2.1 = 0 ∧ A16.length = 16 := by decide +kernel
theorem f16 : (freeL (freeI F16 F16)).length = 12 ∧ (freeL (freeI A16 F16)).length = 11 ∧ (freeL (freeI A16 A16)).length = 11 ∧ F16.length = 16 := by decide +kernel
theorem new16 : foundA (RS.new 16) = none := by decide +kernel
theorem new_sound {n : Nat} (h : n ≤ 1024) : Sound (RS.new n) := ⟨new_whole n h, by simp [RS.new, zero64], by simp [RS.new]⟩
theorem format16 : ∃ st', formatA (RS.new 16) = (0, st') ∧ Sound st' ∧ st'.L = [] ∧ st'.gone = false ∧ st'.left = 0 ∧ st'.count = 16 ∧ foundA st' = some (firstS 16, F16) :=
  format_goodA (st := RS.new 16) (by decide) (new_sound (by decide)) rfl rfl
theorem calm_nil {st : RS} {n m : Nat} (h : Sound st) (hg : st.gone = false) (hl : st.left = 0) (hc : st.count = n) : Calm n m ([], st) := ⟨⟨by simp, by simp, by simp, by simp, hg, hl, hc⟩, h, by simp⟩
end Go.Proofs.YtoeijomelabbfaaGreatDoor

/- Two superblocks, held against one another. -/
namespace Go.Proofs.YtoeijomelabbfaaGreatDoor
set_option maxRecDepth 200000
open Go.RowKit
theorem sup_lits (a : SB) (h : a.Fits) : Tryz.prog.keyLits 2 53 [.int .u64 a.G, .int .i64 a.B, .int .u64 a.D, .int .u64 a.X] = some [.int .u64 a.G, .int .i64 a.B, .int .u64 a.D, .int .u64 a.X] := by
  have hu := Tryz.underlying53
  have h1 := Tryz.underlying51
  have h2 := Tryz.underlying3
  have c1 : Tryz.prog.cellsOf 51 = 1 := by kernel_rfl
  have c2 : Tryz.prog.cellsOf 3 = 1 := by kernel_rfl
  have c4 : Tryz.prog.cellsOf 53 = 4 := by kernel_rfl
  obtain ⟨G, B, D, X⟩ := a
  obtain ⟨g1, g2, g3, g4, g5⟩ := h
  dsimp only at g1 g2 g3 g4 g5
  have w1 : (Lit.int .u64 (G : Int)).wf = true := by simp [Lit.wf, IntKind.min, IntKind.max, IntKind.bits, IntKind.signed]; omega
  have w2 : (Lit.int .i64 B).wf = true := by simp [Lit.wf, IntKind.min, IntKind.max, IntKind.bits, IntKind.signed]; omega
  have w3 : (Lit.int .u64 (D : Int)).wf = true := by simp [Lit.wf, IntKind.min, IntKind.max, IntKind.bits, IntKind.signed]; omega
  have w4 : (Lit.int .u64 (X : Int)).wf = true := by simp [Lit.wf, IntKind.min, IntKind.max, IntKind.bits, IntKind.signed]; omega
  simp [Program.keyLits, hu, h1, h2, c1, c2, c4, w1, w2, w3, w4]
theorem run_equalIn_sup (w : World) (a b : SB) (ha : a.Fits) (hb : b.Fits) : (Op.equalIn 10000 53 (.agg #[.int .u64 a.G, .int .i64 a.B, .int .u64 a.D, .int .u64 a.X]) (.agg #[.int .u64 b.G, .int .i64 b.B, .int .u64 b.D, .int .u64 b.X])).run Tryz.prog w = .ok (decide (a = b)) w := by
  have hk : Tryz.prog.keyTypeAt 2 53 = true := by kernel_rfl
  have fm : ∀ s : SB, (Value.agg #[.int .u64 s.G, .int .i64 s.B, .int .u64 s.D, .int .u64 s.X]).formed Tryz.prog 53 = true := fun s => by
    have hu := Tryz.underlying53
    have c4 : Tryz.prog.cellsOf 53 = 4 := by kernel_rfl
    simp [Value.formed, hu, c4]
  obtain ⟨r, hr, hi⟩ := run_equalIn_deep (P := Tryz.prog) 9998 2 53 hk w 2 2 _ _ _ _ (fm a) (fm b) (sup_lits a ha) (sup_lits b hb)
  have e : r = decide (a = b) := by
    rw [Bool.eq_iff_iff, hi, decide_eq_true_iff]
    obtain ⟨G, B, D, X⟩ := a
    obtain ⟨G', B', D', X'⟩ := b
    simp
    omega
  rw [← e]
  exact hr
theorem run_eql_sup (w : World) (a b : SB) (ha : a.Fits) (hb : b.Fits) : (binOp .eql 53 (.agg #[.int .u64 a.G, .int .i64 a.B, .int .u64 a.D, .int .u64 a.X]) (.agg #[.int .u64 b.G, .int .i64 b.B, .int .u64 b.D, .int .u64 b.X])).run Tryz.prog w = .ok (.bool (decide (a = b))) w := by
  rw [run_eql_struct, run_equalIn_sup w a b ha hb, Result.andThen_ok]
theorem run_neq_sup (w : World) (a b : SB) (ha : a.Fits) (hb : b.Fits) : (binOp .neq 53 (.agg #[.int .u64 a.G, .int .i64 a.B, .int .u64 a.D, .int .u64 a.X]) (.agg #[.int .u64 b.G, .int .i64 b.B, .int .u64 b.D, .int .u64 b.X])).run Tryz.prog w = .ok (.bool (!(decide (a = b)))) w := by
  rw [run_neq_struct, run_equalIn_sup w a b ha hb, Result.andThen_ok]
theorem field_sup0 (u : World) (a b c d : Value) : (Instr.field 53 (.agg #[a, b, c, d]) 0).run Tryz.prog u = .ok a u := by
  have hu := Tryz.underlying53
  have z1 := Tryz.sizeOf51
  simp [Instr.field, run_underlying hu, go_sem, z1, asAgg]
end Go.Proofs.YtoeijomelabbfaaGreatDoor
