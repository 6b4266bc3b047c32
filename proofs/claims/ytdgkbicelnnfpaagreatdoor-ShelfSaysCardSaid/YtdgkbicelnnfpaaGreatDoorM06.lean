/- Texts Dc, Dd, De, Df, Jg of the library, joined. -/
import Derived.Test.YtdgkbicelnnfpaaGreatDoorM05
import Derived.Great.BuildSlice
/- The program's disk: a sector write lasts. -/
namespace Go.Proofs.YtdgkbicelnnfpaaGreatDoor
open Go.RowKit
set_option linter.unusedVariables false
set_option linter.unusedSimpArgs false
attribute [local go_sem ↓] Go.wp_at_zero Go.wp_at_succ

theorem oneB : (Tryz.prog.info? 5).map (·.size) = some 1 := by kernel_rfl
end Go.Proofs.YtdgkbicelnnfpaaGreatDoor

/- The program's disk: all that is in flight lasts, or is forgotten; the fuse; Barrier. -/
namespace Go.Proofs.YtdgkbicelnnfpaaGreatDoor
open Go.RowKit
set_option linter.unusedVariables false
set_option linter.unusedSimpArgs false

/-- The fuse, ahead of what the call does. -/
theorem DevAt.left {w : World} {B db : Nat} {g : DG} {fa : Option Addr} {cf : Nat} {st : RS} (h : DevAt w B db g fa cf st) (v : Nat) (hv : v < 9223372036854775808) : DevAt (w.setCell ⟨db, 3, none⟩ (.int .i64 v)) B db g fa cf { st with left := v } :=
  h.setF (Chg.setCell w ⟨db, 3, none⟩ _) (by rw [World.cell?_setCell_other _ _ _ _ (by simp)]) (by rw [World.cell?_setCell_other _ _ _ _ (by simp)]) (by rw [World.cell?_setCell_other _ _ _ _ (by simp)]) (World.cell?_setCell_same _ _ _ h.c3) (by rw [World.cell?_setCell_other _ _ _ _ (by simp)]; exact h.c4) (fun j hj => by rw [World.frozen?_setCell]; exact h.fz j hj) rfl rfl hv
theorem DevAt.goes {w : World} {B db : Nat} {g : DG} {fa : Option Addr} {cf : Nat} {st : RS} (h : DevAt w B db g fa cf st) : DevAt ((w.setCell ⟨db, 3, none⟩ (.int .i64 0)).setCell ⟨db, 4, none⟩ (.bool true)) B db g fa cf { st with left := 0, gone := true } := by
  have h1 : DevAt (w.setCell ⟨db, 3, none⟩ (.int .i64 0)) B db g fa cf { st with left := 0 } := h.left 0 (by decide)
  exact h1.setF (Chg.setCell _ ⟨db, 4, none⟩ _) (by rw [World.cell?_setCell_other _ _ _ _ (by simp)]) (by rw [World.cell?_setCell_other _ _ _ _ (by simp)]) (by rw [World.cell?_setCell_other _ _ _ _ (by simp)]) (by rw [World.cell?_setCell_other _ _ _ _ (by simp)]; exact h1.c3) (World.cell?_setCell_same _ _ _ h1.c4) (fun j hj => by rw [World.frozen?_setCell]; exact h1.fz j hj) rfl rfl (by show 0 < _; decide)
theorem burn_gone (st : RS) (h : (burn st).1 = true) : st.left = 1 ∧ (burn st).2 = { st with left := 0, gone := true } := by
  unfold burn at h ⊢
  split
  · rename_i h0; simp [h0] at h
  · split
    · exact ⟨by assumption, rfl⟩
    · rename_i h0 h1; simp [h0, h1] at h
theorem burn_not (st : RS) (h : (burn st).1 = false) : st.left ≠ 1 ∧ (burn st).2 = { st with left := st.left - 1 } := by
  unfold burn at h ⊢
  split
  · rename_i h0
    refine ⟨by omega, ?_⟩
    cases st; simp at h0; simp [h0]
  · split
    · rename_i h0 h1; simp [h0, h1] at h
    · exact ⟨by assumption, rfl⟩
/-- The fuse burns down: the call is not done. -/
theorem fused_burns (f : Value) (B db : Nat) (g : DG) (fa : Option Addr) (cf : Nat) (st : RS) (w : World) (h : DevAt w B db g fa cf st) (hb : (burn st).1 = true) :
    Calls Tryz.prog 194 #[.pointer (some ⟨db, 0, none⟩), f] w fun e w' => e = .returned (.int .i64 9) ∧ DevAt w' B db g fa cf (burn st).2 ∧ Chg [db] w w' := by
  obtain ⟨h1, h2⟩ := burn_gone st hb
  rw [h2]
  have c3 := h.c3
  have c4 := h.c4
  have f3 := h.fz 3 (by decide)
  have f4 := h.fz 4 (by decide)
  rw [h1] at c3
  go_enter Tryz.func194, Tryz.ntmps194
  go_wp2
  go_ret
  exact ⟨rfl, h.goes, (Chg.setCell w ⟨db, 3, none⟩ _).trans (Chg.setCell _ ⟨db, 4, none⟩ _) (fun _ h _ => h) (fun _ h _ => h)⟩
end Go.Proofs.YtdgkbicelnnfpaaGreatDoor

/- The program's disk: four sector writes more in flight. -/
namespace Go.Proofs.YtdgkbicelnnfpaaGreatDoor
open Go.RowKit
set_option linter.unusedVariables false
set_option linter.unusedSimpArgs false
/-- A list of one sector write, for the walk. -/
def oneSlice (ps : Array (Nat × Value)) : Sem Value := Instr.buildSlice 144 1 ps
theorem one_slice (ps : Array (Nat × Value)) : Instr.buildSlice 144 1 ps = oneSlice ps := rfl
def oneFar (P : Program) (ps : Array (Nat × Value)) (w : World) : Result Value := (oneSlice ps).run P w
theorem fold_set : ∀ (l : List Value) (k : Nat) (Z : Array Value), k + l.length ≤ Z.size → ((l.zipIdx k).foldl (fun acc x => acc.setIfInBounds x.2 x.1) Z).toList = Z.toList.take k ++ (l ++ Z.toList.drop (k + l.length))
  | [], k, Z, _ => by simp
  | v :: r, k, Z, h => by
    simp at h
    have ih := fold_set r (k + 1) (Z.setIfInBounds k v) (by simp; omega)
    simp only [List.zipIdx_cons, List.foldl_cons]
    rw [ih]
    simp only [Array.toList_setIfInBounds, List.length_cons]
    rw [List.drop_set_of_lt (by omega), List.take_set, List.take_succ_eq_append_getElem (by simpa using (by omega : k < Z.size)), List.set_append_right _ _ (by simp [Nat.min_le_left])]
    simp
    rw [show min k Z.size = k by omega, Nat.sub_self]
    simp
    congr 1; omega
theorem run_one (cs : Array Value) (w : World) : (oneSlice #[(0, .agg cs)]).run Tryz.prog w = if cs.size = 65 then .ok (.slice (some ⟨w.heap.size, 0, none⟩) 1 1) (w.alloc (.cells cs 242)) else oneFar Tryz.prog #[(0, .agg cs)] w := by
  split
  · rename_i h
    have hz : (Tryz.prog.info? 242).map (fun i => (i.zero, i.size)) = some (some (.agg (Value.int .i64 0 :: List.replicate 64 (Value.int .u8 0)).toArray), 65) := by kernel_rfl
    obtain ⟨i, hi, hi2⟩ := Option.map_eq_some_iff.1 hz
    simp only [Prod.mk.injEq] at hi2
    refine run_buildSlice w 144 242 1 _ cs i _ Tryz.underlying144 hi hi2.1 (by rw [hi2.2]; decide) (by rw [hi2.2]; decide) ?_
    rw [hi2.2]
    generalize hZ : (Array.range (1 * 65)).map _ = Z
    have hZs : Z.size = 65 := by rw [← hZ]; simp
    have hv : (Value.agg cs).cells = cs := rfl
    simp only [Instr.fill, hv, h, hZs]
    simp
    apply Array.ext'
    have := fold_set cs.toList 0 Z (by simp; omega)
    rw [List.take_zero, List.nil_append, List.drop_eq_nil_of_le (by simp; omega), List.append_nil] at this
    have e1 : cs.size = cs.zipIdx.size := by simp
    rw [e1, ← Array.foldl_toList, Array.toList_zipIdx]
    exact this
  · rfl
attribute [local go_sem ↓] Go.wp_at_zero Go.wp_at_succ wide65 one_slice
attribute [local go_sem] run_wide run_one

def zero64 : List UInt8 := List.replicate 64 0
theorem zeroW (w : World) : (zeroValue 242).run Tryz.prog w = .ok (.agg (Value.int .i64 0 :: bts zero64).toArray) w := (zero_of_info (t := 242) (P := Tryz.prog) (n := 65) (v := .agg (Value.int .i64 0 :: bts zero64).toArray) (by kernel_rfl)).1 w
theorem keepC {W w w' : World} {bx b : Nat} {v : Value} {o n : Nat} (h : w.cell? ⟨bx, 2, none⟩ = some v ∧ w.there b o n ∧ Chg [b] W w) (g : Chg [b] w w') (h1 : bx ≠ b) (h4 : w'.there b o n) :
    w'.cell? ⟨bx, 2, none⟩ = some v ∧ w'.there b o n ∧ Chg [b] W w' :=
  ⟨g.cellv h.1 (by simpa using h1), h4, h.2.2.trans g (fun _ h _ => h) (fun k hk _ => hk)⟩
/-- One sector write more. -/
theorem DevAt.fly {w w6 w7 : World} {B db : Nat} {g : DG} {fa : Option Addr} {cf : Nat} {st : RS} {ao : Option Addr} {c' s : Nat} {l : List UInt8} (h : DevAt w B db g fa cf st) (g6 : Chg (fp fa cf) w w6)
    (hr6 : RoomZ 65 w6 B ao (st.L.length + 1) c' (flyC st.L ++ flyV (s, l))) (hf : fp ao c' = fp fa cf ∨ ∃ k, w.heap.size ≤ k ∧ fp ao c' = [k]) (hs : s < st.S.length) (hl : l.length = 64)
    (gA : Chg [db] w6 w7) (e1 : w7.cell? ⟨db, 1, none⟩ = some (.slice ao (st.L.length + 1) c')) (ec6 : ∀ j, j ≠ 1 → w7.cell? ⟨db, j, none⟩ = w6.cell? ⟨db, j, none⟩) (ef6 : ∀ j, w7.frozen? ⟨db, j, none⟩ = w6.frozen? ⟨db, j, none⟩) :
    DevAt (w7.setCell ⟨g.nb, g.no + s, none⟩ (.int .i64 ((st.L.length + 1 : Nat) : Int))) B db g ao c' { st with L := st.L ++ [(s, l)] } ∧ Chg (DF db g fa cf) w (w7.setCell ⟨g.nb, g.no + s, none⟩ (.int .i64 ((st.L.length + 1 : Nat) : Int))) := by
  have hp := h.pos
  have q1 := h.rS.le
  have q2 := h.rN.le
  have hlt : ∀ k, k ∈ DF db g fa cf → k < w.heap.size := fun k hk => (h.lt k hk).2
  have hnew : ∀ k, k ∈ fp ao c' → k ∈ fp fa cf ∨ w.heap.size ≤ k := fun k hk => by
    rcases hf with hf | ⟨j, hj, hf⟩
    · rw [hf] at hk; exact Or.inl hk
    · rw [hf] at hk; simp at hk; rw [hk]; exact Or.inr hj
  have hdbl := hlt db (by simp [DF])
  have hlbl := hlt g.lb (by simp [DF])
  have hnbl := hlt g.nb (by simp [DF])
  have m1 : db ∉ fp ao c' := fun hm => (hnew db hm).elim h.f1 (fun hx => by omega)
  have m2 : g.lb ∉ fp ao c' := fun hm => (hnew g.lb hm).elim h.f2 (fun hx => by omega)
  have m3 : g.nb ∉ fp ao c' := fun hm => (hnew g.nb hm).elim h.f3 (fun hx => by omega)
  have ec : ∀ j, j ≠ 1 → w7.cell? ⟨db, j, none⟩ = w.cell? ⟨db, j, none⟩ := fun j hj => (ec6 j hj).trans (g6.cell (p := ⟨db, j, none⟩) hdbl h.f1)
  have ef : ∀ j, w7.frozen? ⟨db, j, none⟩ = w.frozen? ⟨db, j, none⟩ := fun j => (ef6 j).trans (g6.frozen (p := ⟨db, j, none⟩) hdbl h.f1)
  have rS1 := (h.rS.chg g6 (fun k hk => by rw [fp_some _ _ _ (by omega)] at hk; simp at hk; rw [hk]; exact h.f2)).chg gA (fun k hk => by rw [fp_some _ _ _ (by omega)] at hk; simp at hk ⊢; rw [hk]; exact fun e => h.d1 e.symm)
  have rN1 := (h.rN.chg g6 (fun k hk => by rw [fp_some _ _ _ (by omega)] at hk; simp at hk; rw [hk]; exact h.f3)).chg gA (fun k hk => by rw [fp_some _ _ _ (by omega)] at hk; simp at hk ⊢; rw [hk]; exact fun e => h.d2 e.symm)
  have rL1 := hr6.chg gA (fun k hk => by simp; rintro rfl; exact m1 hk)
  have gw : Chg (DF db g fa cf) w w7 := g6.trans gA (fun k hk _ => by simp [DF, hk]) (fun k hk _ => by simp at hk; simp [DF, hk])
  have gB : Chg [g.nb] w7 (w7.setCell ⟨g.nb, g.no + s, none⟩ (.int .i64 ((st.L.length + 1 : Nat) : Int))) := Chg.setCell w7 ⟨g.nb, g.no + s, none⟩ _
  have rN2 := rN1.set s hs (.int .i64 ((st.L.length + 1 : Nat) : Int))
  rw [newC_snoc st.S.length st.L (s, l)] at rN2
  generalize w7.setCell ⟨g.nb, g.no + s, none⟩ (.int .i64 ((st.L.length + 1 : Nat) : Int)) = w8 at gB rN2 ⊢
  have n0 : db ∉ [g.nb] := by simpa using h.d2
  refine ⟨⟨gB.cellv ((ec 0 (by decide)).trans h.c0) n0, by simpa using gB.cellv e1 n0, gB.cellv ((ec 2 (by decide)).trans h.c2) n0, gB.cellv ((ec 3 (by decide)).trans h.c3) n0, gB.cellv ((ec 4 (by decide)).trans h.c4) n0, fun j hj => (gB.frozen (p := ⟨db, j, none⟩) (show db < w7.heap.size from block_lt_of_cell e1) n0).trans ((ef j).trans (h.fz j hj)), ?_, ?_, rN2, h.d1, h.d2, h.d3, m1, m2, m3, h.dB, h.lS, ?_, h.lft, h.pos⟩, ?_⟩
  · exact rS1.chg gB (fun k hk => by rw [fp_some _ _ _ (by omega)] at hk; simp at hk ⊢; rw [hk]; exact h.d3)
  · have := rL1.chg gB (fun k hk => by simp; rintro rfl; exact m3 hk)
    rw [← flyC_snoc] at this
    simpa using this
  · intro f hf'
    rcases List.mem_append.1 hf' with hf' | hf'
    · exact h.lL f hf'
    · simp at hf'; rw [hf']; exact ⟨hl, hs⟩
  · exact gw.trans gB (fun _ h _ => h) (fun k hk _ => by simp at hk; simp [DF, hk])
theorem keepN {w w' : World} {db b1 nb : Nat} {u v x : Value} (h : w.cell? ⟨db, 1, none⟩ = some u ∧ w.cell? ⟨db, 2, none⟩ = some v ∧ w.cell? ⟨b1, 0, none⟩ = some x) (g : Chg [nb] w w') (h1 : db ≠ nb) (h2 : b1 ≠ nb) :
    w'.cell? ⟨db, 1, none⟩ = some u ∧ w'.cell? ⟨db, 2, none⟩ = some v ∧ w'.cell? ⟨b1, 0, none⟩ = some x :=
  ⟨g.cellv h.1 (by simpa using h1), g.cellv h.2.1 (by simpa using h1), g.cellv h.2.2 (by simpa using h2)⟩
set_option maxRecDepth 100000 in
set_option maxHeartbeats 4000000 in
theorem send_any (A : Nat) (B db : Nat) (g : DG) (fa : Option Addr) (cf : Nat) (st : RS) (w : World) (h : DevAt w B db g fa cf st) (hA : 4 * A + 4 ≤ st.S.length) (hA2 : A ≤ 1023) (hB : B ≤ w.heap.size) (hLb : st.L.length ≤ 1000000000)
    (ab : Option Addr) (cb : Nat) (b : List UInt8) (gb : Reads w ab (bts b)) (gn : b.length = 256) (gc : 256 ≤ cb) (gm : cb ≤ 140737488355328) (hab : ∀ k, k ∈ blk ab → k ∉ DF db g fa cf ∧ k < w.heap.size) :
    Calls Tryz.prog 195 #[.agg #[.pointer (some ⟨db, 0, none⟩), .int .i64 A, .slice ab 256 cb]] w fun e w' => e = .returned (.tuple #[]) ∧ ∃ fa' cf', DevAt w' B db g fa' cf' { st with L := st.L ++ flies A b 4 } ∧ Chg (DF db g fa cf) w w' ∧ ∀ k, k ∈ fp fa' cf' → k ∈ fp fa cf ∨ w.heap.size ≤ k := by
  obtain ⟨pb, po, rfl, _⟩ := gb (by rw [bts_length]; omega)
  go_enter Tryz.func195, Tryz.ntmps195
  go_wp2_with fail
  generalize hbx : w.heap.size = bx at *
  generalize hW : w.alloc _ = W
  have x0 : W.cell? ⟨bx, 0, none⟩ = some (.pointer (some ⟨db, 0, none⟩)) := by subst hW hbx; simp
  have x1 : W.cell? ⟨bx, 1, none⟩ = some (.int .i64 A) := by subst hW hbx; simp
  have x2 : W.cell? ⟨bx, 2, none⟩ = some (.slice (some ⟨pb, po, none⟩) 256 cb) := by subst hW hbx; simp
  have hgW : Chg [] w W := by subst hW; exact Chg.alloc [] _ _
  have hzW : W.heap.size = bx + 1 := by subst hW hbx; simp
  clear hW
  go_loopw [7] (fun i wr => ∃ (k : Nat) (fa' : Option Addr) (cf' : Nat), i = .int .i64 k ∧ k ≤ 4 ∧ DevAt wr B db g fa' cf' { st with L := st.L ++ flies A b k } ∧ Chg (DF db g fa cf) W wr ∧ ∀ k, k ∈ fp fa' cf' → k ∈ fp fa cf ∨ bx < k) (fun i _ => 4 - (Go.RowKit.intOf i).toNat)
  case atStart => exact ⟨0, fa, cf, rfl, by omega, by simpa [flies] using h.keep hgW, Chg.refl _ _, fun k hk => Or.inl hk⟩
  case round =>
    obtain ⟨k, fa', cf', rfl, hk, hr, hc, hsb⟩ := hrel
    by_cases hlt : k < 4
    · have hbxF : ∀ k, k ∈ DF db g fa cf → k < bx := fun k hk => by have := (h.lt k hk).2; omega
      have hnx : bx ∉ DF db g fa cf := fun hm => by have := hbxF bx hm; omega
      have y0 := hc.cellv x0 hnx
      have y1 := hc.cellv x1 hnx
      have y2 := hc.cellv x2 hnx
      have hrd : Reads wr (some ⟨pb, po, none⟩) (bts b) := (gb.keep hgW).chg hc (fun k hk => (hab k hk).1)
      obtain ⟨s, hs⟩ : ∃ s, s = 4 * A + k := ⟨_, rfl⟩
      have hsS : s < st.S.length := by omega
      have hs2 : s ≤ 4095 := by omega
      have hzw := zeroW
      have hzl : (bts zero64).length = 64 := by rw [bts_length]; rfl
      generalize hzs : bts zero64 = zs at hzw hzl
      have Hln := mkHid (show (Value.int .i64 ((A : Int) * 4 + (k : Int)) :: zs).length = flyZ.length by rw [List.length_cons, hzl]; rfl)
      have Hone := mkHid (show ∀ u ∈ (Value.int .i64 ((A : Int) * 4 + (k : Int)) :: zs), u.oneCell' = true by intro u hu; rcases List.mem_cons.1 hu with rfl | hu; rfl; rw [← hzs] at hu; exact bts_one _ u hu)
      clear hzl
      have He := mkHid (show (A : Int) * 4 + (k : Int) = (s : Int) by omega)
      have hd : decide ((k : Int) < 4) = true := decide_eq_true (by omega)
      go_wp2_with (first | (refine wpList_alloc_w rfl 242 rfl flyZ wideW ?_; intro w1 hb1 hg1 hs1) | (refine wpList_store_w rfl 242 (.tmp 4) (.tmp 15) rfl flyZ wideW _ flyZ (Value.int .i64 ((A : Int) * 4 + (k : Int)) :: zs) hb1 rfl Hln.out Hone.out rfl rfl ?_; intro w2 hb2 hg2 hs2; rw [He.out] at hb2; have hg12 : Chg [] wr w2 := hg1.trans hg2 (fun _ h _ => h) (fun k hk hlt => by simp at hk; omega)))
      have hb1l : wr.heap.size < w2.heap.size := by omega
      have hbxr : bx < wr.heap.size := by have := hc.size; omega
      have hrlt : ∀ k, k ∈ DF db g fa' cf' → k < wr.heap.size := fun k hk => (hr.lt k hk).2
      have hpb : pb < wr.heap.size := by have := (hab pb (by simp [blk])).2; omega
      generalize hb1e : wr.heap.size = b1 at *
      have z2 := hg12.cellv y2 (by simp)
      have hth : w2.there b1 1 64 := hb2.there 1 64 (by have := Hln.out; simp only [List.length_cons] at this ⊢; rw [this]; decide)
      have hrs : Reads w2.drew (some ⟨pb, po + 64 * k, none⟩) (bts (secOf b k)) := by
        have := (((hrd.keep hg12).keep (Chg.drew [] w2)).drop (l := 64 * k)).take 64
        rwa [bts_drop, bts_take] at this
      have hsl : (bts (secOf b k)).length = 64 := by rw [bts_length]; simp [secOf]; omega
      have Hsl := mkHid hsl
      clear hsl
      have hne : bx ≠ b1 := by omega
      go_region_held3 (fun w' => w'.cell? ⟨bx, 2, none⟩ = some (.slice (some ⟨pb, po, none⟩) 256 cb) ∧ w'.there b1 1 64 ∧ Chg [b1] w2 w')
        (first | exact keepC ⟨z2, hth, Chg.refl _ _⟩ (Chg.drew _ _) hne ((World.there_drew _ _ _ _).2 hth) | exact keepC (by assumption) (Chg.setCells b1 (bts (secOf b k)) 1 _) hne (World.there_setCells (And.left (And.right (by assumption))) _ _ _))
        (first | (go_at_call 142; refine (sectorOf_any pb po 256 cb k (by omega) (by unfold maxLen; omega) _).mono ?_; rintro e w' ⟨rfl, rfl⟩) | (refine step_copy_k rfl (.tmp 17) (.tmp 21) 27 27 5 rfl Tryz.underlying27 oneB b1 1 64 64 (some ⟨pb, po + 64 * k, none⟩) 64 64 (bts (secOf b k)) rfl rfl hrs Hsl.out (by rw [Hsl.out]; exact (World.there_drew _ _ _ _).2 hth) (bts_one _) ?_))
      have hb3 : Blk (w2.drew.setCells b1 1 (bts (secOf b k))) b1 242 (flyV (s, secOf b k)) := by
        have := Blk.sets (bts (secOf b k)) 1 w2.drew _ (hb2.keep (Chg.drew [] w2)) (by rw [Hsl.out]; have := Hln.out; simp only [List.length_cons] at this ⊢; rw [this]; decide)
        rw [List.drop_eq_nil_of_le (by rw [Hsl.out]; have := Hln.out; simp only [List.length_cons] at this ⊢; rw [this]; decide), List.append_nil] at this
        exact this
      have hg13 : Chg [] wr (w2.drew.setCells b1 1 (bts (secOf b k))) := (hg12.then (Chg.drew [] w2)).trans (Chg.setCells b1 _ 1 _) (fun _ h _ => h) (fun k hk hlt => by simp at hk; omega)
      have hz3 : (w2.drew.setCells b1 1 (bts (secOf b k))).heap.size = b1 + 1 := by rw [size_setCells]; show w2.heap.size = _; omega
      have hsec : (secOf b k).length = 64 := by have := Hsl.out; rwa [bts_length] at this
      clear hg12 hs2 hb2 hth hrs z2 hzw
      generalize w2.drew.setCells b1 1 (bts (secOf b k)) = W3 at *
      have h3 := hr.keep hg13
      obtain ⟨st2, hst2⟩ : ∃ st2, st2 = { st with L := st.L ++ flies A b k } := ⟨_, rfl⟩
      rw [← hst2] at h3
      have hst3 : { st2 with L := st2.L ++ [(s, secOf b k)] } = { st with L := st.L ++ flies A b (k + 1) } := by rw [hst2, flies_succ, hs]; simp
      have hsS2 : s < st2.S.length := by rw [hst2]; exact hsS
      have hL2 : st2.L.length ≤ 1000000004 := by rw [hst2]; simp [flies]; omega
      have Hst3 := mkHid hst3
      clear hst3 hst2
      have c1 := h3.c1
      have hrL := h3.rL
      have hf1 := mkHid h3.f1
      have f1 := h3.fz 1 (by decide)
      have hB3 : B ≤ W3.heap.size := by omega
      have hnn : (st2.L.length + 1) * 72 ≤ 140737488355328 := by omega
      have h63 : st2.L.length + 1 ≤ maxLen := by unfold maxLen; omega
      have c1' := (Chg.drew [] W3).cellv c1 (by simp)
      have c1a := fun o => (Chg.alloc [] W3 o).cellv c1 (by simp)
      have hsz := flyV_len (f := (s, secOf b k)) hsec
      have Hsz := mkHid hsz
      have Hs := mkHid hs
      have Hb1e := mkHid hb1e
      have Hz3 := mkHid hz3
      have Hsec := mkHid hsec
      clear hs hb1e hz3 hsec hzs hrd hd
      have hbr := hb3.range
      have hbr' : W3.drew.rangeAt b1 0 (flyV (s, secOf b k)) := (World.rangeAt_drew _ _ _ _).2 hbr
      have hrN3 := h3.rN.chg (Chg.drew [] W3) (by simp)
      have hcn : st2.S.length ≤ g.cn := hrN3.le
      have hfpn := mkHid (show fp (some ⟨g.nb, g.no, none⟩) g.cn = [g.nb] from fp_some _ _ _ (by omega))
      obtain ⟨ht1, ht2⟩ := there_of_range hbr' Hsz.out
      go_wp2_with fail
      go_region_law (first | (refine step_append_zz rfl (.tmp 27) (.tmp 29) 144 rfl 242 65 72 (by decide) eltW B fa' st2.L.length cf' (flyC st2.L) rfl (hrL.chg (Chg.drew [] _) (by simp)) hB3 (flyV (s, secOf b k)).toArray 1 rfl Hsz.out (flyV_one _) h63 hnn ?_; intro a6 c6 w6 hr6 hg6 hf6; have k1 := hg6.cellv c1' hf1.out; have k2 : w6.frozen? ⟨db, 1, none⟩ = false := (hg6.frozen (p := ⟨db, 1, none⟩) (show db < W3.heap.size from block_lt_of_cell c1) hf1.out).trans (by simpa using f1); have Hr6 := mkHid hr6; have Hg6 := mkHid hg6; have Hf6 := mkHid hf6; clear hr6 hg6 hf6))
      all_goals
        have hd1 := h3.d2
        have hd3 := h3.d3
        have q1 : W3.drew.cell? ⟨db, 2, none⟩ = _ := (Chg.drew [] W3).cellv h3.c2 (by simp)
        have q2 := Hg6.out.cellv q1 hf1.out
        have hb1n : b1 ∉ fp fa' cf' := fun hm => by have := hrlt b1 (by simp [DF, hm]); omega
        have q3 : w6.cell? ⟨b1, 0, none⟩ = some (.int .i64 s) := Hg6.out.cellv (p := ⟨b1, 0, none⟩) ((Chg.drew [] W3).cellv (hb3.cell 0 _ rfl) (by simp)) hb1n
        have hdb1 : db ≠ b1 := fun e => by have := hrlt db (by simp [DF]); omega
        have r1 : (w6.setCell ⟨db, 1, none⟩ (.slice a6 (st2.L.length + 1) c6)).cell? ⟨db, 1, none⟩ = some (.slice a6 (st2.L.length + 1) c6) := World.cell?_setCell_same _ _ _ k1
        have r2 : (w6.setCell ⟨db, 1, none⟩ (.slice a6 (st2.L.length + 1) c6)).cell? ⟨db, 2, none⟩ = some (.slice (some ⟨g.nb, g.no, none⟩) st2.S.length g.cn) := by rw [World.cell?_setCell_other _ _ _ _ (by simp)]; exact q2
        have r3 : (w6.setCell ⟨db, 1, none⟩ (.slice a6 (st2.L.length + 1) c6)).cell? ⟨b1, 0, none⟩ = some (.int .i64 s) := by rw [World.cell?_setCell_other _ _ _ _ (by simp [Ne.symm hdb1])]; exact q3
        have gA : Chg [db] w6 (w6.setCell ⟨db, 1, none⟩ (.slice a6 (st2.L.length + 1) c6)) := Chg.setCell w6 ⟨db, 1, none⟩ _
        have rc : ∀ j, j ≠ 1 → (w6.setCell ⟨db, 1, none⟩ (.slice a6 (st2.L.length + 1) c6)).cell? ⟨db, j, none⟩ = w6.cell? ⟨db, j, none⟩ := fun j hj => by rw [World.cell?_setCell_other _ _ _ _ (by simp [hj])]
        have rf : ∀ j, (w6.setCell ⟨db, 1, none⟩ (.slice a6 (st2.L.length + 1) c6)).frozen? ⟨db, j, none⟩ = w6.frozen? ⟨db, j, none⟩ := fun j => by rw [World.frozen?_setCell]
        have rN6 := (hrN3.chg Hg6.out (fun k hk => by rw [hfpn.out] at hk; simp at hk; rw [hk]; exact h3.f3)).chg gA (fun k hk => by rw [hfpn.out] at hk; simp at hk ⊢; rw [hk]; exact fun e => h3.d2 e.symm)
        have hfz := rN6.cell s hsS2
        generalize hw7 : w6.setCell ⟨db, 1, none⟩ (.slice a6 (st2.L.length + 1) c6) = w7 at *
        obtain ⟨_, _, en, _, _, hvN⟩ := rN6.at_ (by omega)
        cases en
        have rv := hvN s _ (newC_get st2.S.length st2.L s hsS2)
        clear hvN hw7
        have hnbd : db ≠ g.nb := h3.d2
        have hnb1 : b1 ≠ g.nb := fun e => by have := hrlt g.nb (by simp [DF]); omega
        have hsi : (s : Int) < (st2.S.length : Int) := by omega
        have rvd := (Chg.drew [] w7).cellv rv (by simp)
        have hfzd : w7.drew.frozen? ⟨g.nb, g.no + s, none⟩ = false := by simpa using hfz
        go_wp2_with fail
        go_region_held3 (fun w' => w'.cell? ⟨db, 1, none⟩ = some (.slice a6 (st2.L.length + 1) c6) ∧ w'.cell? ⟨db, 2, none⟩ = some (.slice (some ⟨g.nb, g.no, none⟩) st2.S.length g.cn) ∧ w'.cell? ⟨b1, 0, none⟩ = some (.int .i64 s))
          (first | exact keepN ⟨r1, r2, r3⟩ (Chg.drew [g.nb] _) hnbd hnb1 | exact keepN (by assumption) (Chg.setCell _ ⟨g.nb, g.no + s, none⟩ _) hnbd hnb1)
          (fail)
        obtain ⟨hF1, hF2⟩ := DevAt.fly (h3.keep (Chg.drew [] W3)) Hg6.out Hr6.out Hf6.out hsS2 Hsec.out gA r1 rc rf
        have e9 : ((st2.L.length + 1 : Nat) : Int) = (st2.L.length : Int) + 1 := by omega
        rw [e9] at hF1 hF2
        rw [Hst3.out] at hF1
        clear e9
        have hF3 := hF1.keep (Chg.drew [] _)
        have hF4 := hF2.then (Chg.drew [] _)
        generalize (w7.setCell ⟨g.nb, g.no + s, none⟩ (.int .i64 ((st2.L.length : Int) + 1))).drew = w9 at hF3 hF4 ⊢
        go_wp2_with fail
        refine ⟨⟨k + 1, a6, c6, by go_num, by omega, hF3, (hc.then hg13).trans ((Chg.drew [] W3).trans hF4 (fun k hk _ => by simp at hk) (fun _ h _ => h)) (fun _ h _ => h) (fun j hj hlt => ?_), fun j hj => ?_⟩, by simp [Go.RowKit.intOf]; omega⟩
        · simp only [DF, List.mem_cons] at hj ⊢
          rcases hj with hj | hj | hj | hj
          · exact Or.inl hj
          · exact Or.inr (Or.inl hj)
          · exact Or.inr (Or.inr (Or.inl hj))
          · rcases hsb j hj with hx | hx
            · exact Or.inr (Or.inr (Or.inr hx))
            · omega
        · rcases Hf6.out with hx | ⟨m, hm, hx⟩
          · rw [hx] at hj; exact hsb j hj
          · rw [hx] at hj
            simp at hj
            have hm' : W3.heap.size ≤ m := hm
            have := Hz3.out
            exact Or.inr (by omega)
    · have : k = 4 := by omega
      subst this
      go_wp2_with fail
      go_end0
      exact ⟨rfl, fa', cf', hr, (hgW.trans hc (fun k hk _ => by simp at hk) (fun _ h _ => h)), fun j hj => (hsb j hj).imp id (fun hx => by omega)⟩
end Go.Proofs.YtdgkbicelnnfpaaGreatDoor

/- The program's disk: Write, Crash, Read. -/
namespace Go.Proofs.YtdgkbicelnnfpaaGreatDoor
open Go.RowKit
set_option linter.unusedVariables false
set_option linter.unusedSimpArgs false
attribute [local go_sem ↓] Go.wp_at_zero Go.wp_at_succ wide65
attribute [local go_sem] run_wide

/-- What a call leaves of a disk: its blocks, and some new ones. -/
def Later (w : World) (fa : Option Addr) (cf : Nat) (fa' : Option Addr) (cf' : Nat) : Prop := ∀ k, k ∈ fp fa' cf' → k ∈ fp fa cf ∨ w.heap.size ≤ k
theorem fused_send (A : Nat) (B db : Nat) (g : DG) (fa : Option Addr) (cf : Nat) (st : RS) (w : World) (h : DevAt w B db g fa cf st) (hb : (burn st).1 = false) (hA : 4 * A + 4 ≤ st.S.length) (hA2 : A ≤ 1023) (hB : B ≤ w.heap.size) (hLb : st.L.length ≤ 1000000000)
    (ab : Option Addr) (cb : Nat) (b : List UInt8) (gb : Reads w ab (bts b)) (gn : b.length = 256) (gc : 256 ≤ cb) (gm : cb ≤ 140737488355328) (hab : ∀ k, k ∈ blk ab → k ∉ DF db g fa cf ∧ k < w.heap.size) :
    Calls Tryz.prog 194 #[.pointer (some ⟨db, 0, none⟩), .func (.func 195) #[.agg #[.pointer (some ⟨db, 0, none⟩), .int .i64 A, .slice ab 256 cb]] #[]] w fun e w' => e = .returned (.int .i64 0) ∧ ∃ fa' cf', DevAt w' B db g fa' cf' { (burn st).2 with L := (burn st).2.L ++ flies A b 4 } ∧ Chg (DF db g fa cf) w w' ∧ Later w fa cf fa' cf' := by
  obtain ⟨h1, h2⟩ := burn_not st hb
  rw [h2]
  have c3 := h.c3
  have f3 := h.fz 3 (by decide)
  have hlf := h.lft
  have key : ∀ v : Nat, v < 9223372036854775808 → Calls Tryz.prog 195 #[.agg #[.pointer (some ⟨db, 0, none⟩), .int .i64 A, .slice ab 256 cb]] (w.setCell ⟨db, 3, none⟩ (.int .i64 v)) fun e w' => e = .returned (.tuple #[]) ∧ ∃ fa' cf', DevAt w' B db g fa' cf' { st with left := v, L := st.L ++ flies A b 4 } ∧ Chg (DF db g fa cf) w w' ∧ Later w fa cf fa' cf' := by
    intro v hv
    have hg : Chg [db] w (w.setCell ⟨db, 3, none⟩ (.int .i64 v)) := Chg.setCell w ⟨db, 3, none⟩ _
    refine (send_any A B db g fa cf _ _ (h.left v hv) hA hA2 (by simpa using hB) hLb ab cb b (gb.chg hg (fun k hk => by have := (hab k hk).1; simp [DF] at this ⊢; exact this.1)) gn gc gm (fun k hk => ⟨(hab k hk).1, by simpa using (hab k hk).2⟩)).mono ?_
    rintro e w3 ⟨rfl, fa', cf', h3, hg3, hl3⟩
    exact ⟨rfl, fa', cf', h3, hg.trans hg3 (fun k hk _ => by simp at hk; simp [DF, hk]) (fun _ h _ => h), fun k hk => (hl3 k hk).imp id (fun hx => by simpa using hx)⟩
  by_cases h0 : st.left = 0
  · rw [h0] at c3
    have e1 : st.left - 1 = 0 := by omega
    rw [e1]
    go_enter Tryz.func194, Tryz.ntmps194
    go_wp2_with (first | (go_at_call 195; refine (key 0 (by decide)).mono ?_; rintro e w3 ⟨rfl, fa', cf', h3, hg3, hl3⟩))
    go_ret
    exact ⟨rfl, fa', cf', h3, hg3, hl3⟩
  · obtain ⟨k, hk⟩ : ∃ k, st.left = k + 1 := ⟨st.left - 1, by omega⟩
    have e1 : st.left - 1 = k := by omega
    rw [e1]
    have hk1 : (((k + 1 : Nat) : Int) == 1) = false := by simp; omega
    have w1 : IntKind.i64.wrap (((k + 1 : Nat) : Int) - 1) = (k : Int) := by rw [IntKind.wrap_i64]; omega
    rw [hk] at c3
    have hd : decide ((k : Int) < 0) = false := by simp
    have hkb : k < 9223372036854775808 := by omega
    go_enter Tryz.func194, Tryz.ntmps194
    go_wp2_with (first | (go_at_call 195; refine (key k hkb).mono ?_; rintro e w3 ⟨rfl, fa', cf', h3, hg3, hl3⟩))
    go_ret
    exact ⟨rfl, fa', cf', h3, hg3, hl3⟩
theorem dwrite_any (z : Int) (B db : Nat) (g : DG) (fa : Option Addr) (cf : Nat) (st : RS) (w : World) (h : DevAt w B db g fa cf st) (hW : Whole st) (hB : B ≤ w.heap.size) (hLb : st.L.length ≤ 1000000000)
    (ab : Option Addr) (nb cb : Nat) (b : List UInt8) (gb : Reads w ab (bts b)) (gn : b.length = nb) (gc : nb ≤ cb) (gm : cb ≤ 140737488355328) (hab : ∀ k, k ∈ blk ab → k ∉ DF db g fa cf ∧ k < w.heap.size) :
    Calls Tryz.prog 186 #[.pointer (some ⟨db, 0, none⟩), .int .i64 z, .slice ab nb cb] w fun e w' => e = .returned (.int .i64 (write st z b).1) ∧ ∃ fa' cf', DevAt w' B db g fa' cf' (write st z b).2 ∧ Chg (DF db g fa cf) w w' ∧ Later w fa cf fa' cf' := by
  have hnone : ∀ {st' : RS}, DevAt w B db g fa cf st' → ∃ fa' cf', DevAt w B db g fa' cf' st' ∧ Chg (DF db g fa cf) w w ∧ Later w fa cf fa' cf' := fun h' => ⟨fa, cf, h', Chg.refl _ _, fun k hk => Or.inl hk⟩
  unfold write
  by_cases hw0 : whyN st z = 0
  · rw [if_neg (by simp [hw0])]
    have hat : 0 ≤ z ∧ z < st.count := by
      unfold whyN at hw0
      split at hw0
      · omega
      · split at hw0
        · omega
        · omega
    obtain ⟨A, rfl⟩ := Int.eq_ofNat_of_zero_le hat.1
    by_cases hb256 : nb = 256
    · rw [if_neg (by omega)]
      have Hw := mkHid hw0
      subst hb256
      have hA : 4 * A + 4 ≤ st.S.length := by have := hW.1; omega
      have hA2 : A ≤ 1023 := by have := hW.2; omega
      clear hw0
      cases hb : (burn st).1
      · simp only [Bool.false_eq_true, if_false]
        go_enter Tryz.func186, Tryz.ntmps186
        go_wp2_with (first | (go_at_call 141; refine (asked_any _ B db g fa cf st w h hW).mono ?_; rw [Hw.out]; rintro e w' ⟨rfl, rfl⟩) | (go_at_call 194; refine (fused_send A B db g fa cf st w h hb hA hA2 hB hLb ab cb b gb gn gc gm hab).mono ?_; rintro e w3 ⟨rfl, fa', cf', h3, hg3, hl3⟩))
        go_ret
        exact ⟨rfl, fa', cf', h3, hg3, hl3⟩
      · simp only [if_true]
        go_enter Tryz.func186, Tryz.ntmps186
        go_wp2_with (first | (go_at_call 141; refine (asked_any _ B db g fa cf st w h hW).mono ?_; rw [Hw.out]; rintro e w' ⟨rfl, rfl⟩) | (go_at_call 194; refine (fused_burns _ B db g fa cf st w h hb).mono ?_; rintro e w3 ⟨rfl, h3, hg3⟩))
        go_ret
        exact ⟨rfl, fa, cf, h3, hg3.mono (fun k hk _ => by simp at hk; simp [DF, hk]), fun k hk => Or.inl hk⟩
    · rw [if_pos (by omega)]
      have Hw := mkHid hw0
      have e1 : ((nb : Int) != 256) = true := by simp; omega
      go_enter Tryz.func186, Tryz.ntmps186
      go_wp2_with (first | (go_at_call 141; refine (asked_any _ B db g fa cf st w h hW).mono ?_; rw [Hw.out]; rintro e w' ⟨rfl, rfl⟩))
      go_ret
      exact ⟨rfl, hnone h⟩
  · rw [if_pos hw0]
    have e1 : (whyN st z != 0) = true := by simpa using hw0
    go_enter Tryz.func186, Tryz.ntmps186
    go_wp2_with (first | (go_at_call 141; refine (asked_any _ B db g fa cf st w h hW).mono ?_; rintro e w' ⟨rfl, rfl⟩))
    go_ret
    exact ⟨rfl, hnone h⟩
theorem cur_len (st : RS) (s : Nat) (hs : s < st.S.length) (hS : ∀ l ∈ st.S, l.length = 64) (hL : ∀ f ∈ st.L, f.2.length = 64) : (cur st s).length = 64 := by
  unfold cur
  rcases newOf_parts st.L s with ⟨_, hl⟩ | ⟨n, l, _, hn, hl⟩
  · rw [hl, List.getD_eq_getElem?_getD, List.getElem?_eq_getElem hs]
    exact hS _ (List.getElem_mem hs)
  · rw [hl]
    exact hL _ (List.mem_of_getElem? hn)
theorem reads_len (st : RS) (A n : Nat) (hs : 4 * A + n ≤ st.S.length) (hS : ∀ l ∈ st.S, l.length = 64) (hL : ∀ f ∈ st.L, f.2.length = 64) : (reads st A n).length = 64 * n := by
  induction n with
  | zero => rfl
  | succ n ih =>
    rw [reads_succ, List.length_append, ih (by omega), cur_len st _ (by omega) hS hL]
    omega
theorem bts_rep (n : Nat) : bts (List.replicate n 0) = List.replicate n (.int .u8 0) := by simp [bts]
theorem seen_as (z : Int) (s : Nat) (hz : z = s) (B db : Nat) (g : DG) (fa : Option Addr) (cf : Nat) (st : RS) (w : World) (h : DevAt w B db g fa cf st) (hs : s < st.S.length) :
    Calls Tryz.prog 143 #[.pointer (some ⟨db, 0, none⟩), .int .i64 z] w fun e w' => ∃ ao c, e = .returned (.slice ao 64 c) ∧ Reads w ao (bts (cur st s)) ∧ w = w' := by
  rw [hz]
  exact seen_any s B db g fa cf st w h hs
set_option maxHeartbeats 1000000 in
theorem dread_at (A : Nat) (B db : Nat) (g : DG) (fa : Option Addr) (cf : Nat) (st : RS) (w : World) (h : DevAt w B db g fa cf st) (hW : Whole st) (hw : whyN st A = 0) :
    Calls Tryz.prog 95 #[.pointer (some ⟨db, 0, none⟩), .int .i64 A] w fun e w' => ∃ rb, e = .returned (.tuple #[.slice (some ⟨rb, 0, none⟩) 256 256, .int .i64 0]) ∧ Room w' w.heap.size (some ⟨rb, 0, none⟩) 256 256 (bts (reads st A 4)) ∧ Chg [] w w' := by
  have hA : A < st.count := by
    unfold whyN at hw
    split at hw
    · omega
    · split at hw
      · omega
      · omega
  have Hw := mkHid hw
  have hcn := hW.2
  have hsz := hW.1
  have hml : maxLen = 9223372036854775807 := rfl
  have hmk : ∀ u : World, (Instr.makeSlice 27 (.int .i64 256) (.int .i64 256)).run Tryz.prog u = .ok (.slice (some ⟨u.heap.size, 0, none⟩) 256 256) (u.alloc (.cells (madeCells #[.int .u8 0] 256) 5)) := hmk 256 (by decide)
  clear hw
  go_enter Tryz.func95, Tryz.ntmps95
  go_wp2_with (first | (go_at_call 141; refine (asked_any _ B db g fa cf st w h hW).mono ?_; rw [Hw.out]; rintro e w' ⟨rfl, rfl⟩))
  have hr0 : Room (w.alloc (.cells (madeCells #[.int .u8 0] 256) 5)) w.heap.size (some ⟨w.heap.size, 0, none⟩) 256 256 (bts (List.replicate 256 0)) := by
    rw [bts_rep]
    exact made_room w 5 (.int .u8 0) 256 (by decide)
  have hg0 : Chg [] w (w.alloc (.cells (madeCells #[.int .u8 0] 256) 5)) := Chg.alloc [] w _
  generalize w.alloc (.cells (madeCells #[.int .u8 0] 256) 5) = w0 at hr0 hg0 ⊢
  obtain ⟨nb, hnb⟩ : ∃ nb, nb = w.heap.size := ⟨_, rfl⟩
  have Hnb := mkHid hnb
  have hr0' : Room w0 w.heap.size (some ⟨nb, 0, none⟩) 256 256 (bts (List.replicate 256 0)) := by rw [hnb]; exact hr0
  simp only [← hnb]
  clear hr0 hnb
  go_loopw [16] (fun i wr => ∃ (j : Nat), i = .int .i64 j ∧ j ≤ 4 ∧ Room wr w.heap.size (some ⟨nb, 0, none⟩) 256 256 (bts (reads st A j ++ List.replicate (256 - 64 * j) 0)) ∧ Chg [] w wr) (fun i _ => 4 - (Go.RowKit.intOf i).toNat)
  case atStart => exact ⟨0, rfl, by omega, by rw [show reads st A 0 = [] from rfl, List.nil_append, Nat.mul_zero, Nat.sub_zero]; exact hr0', hg0⟩
  case round =>
    obtain ⟨j, rfl, hj, hr, hc⟩ := hrel
    have h1 := h.keep hc
    by_cases hlt : j < 4
    · obtain ⟨s, hs⟩ : ∃ s, s = 4 * A + j := ⟨_, rfl⟩
      have hsS : s < st.S.length := by omega
      have hcl := cur_len st s hsS h.lS (fun f hf => (h.lL f hf).1)
      have hrl := reads_len st A j (by omega) h.lS (fun f hf => (h.lL f hf).1)
      have hrs := reads_succ st A j
      rw [← hs] at hrs
      have Hcl := mkHid hcl
      have Hbl := mkHid (show (bts (cur st s)).length = 64 by rw [bts_length]; exact hcl)
      have Hrs := mkHid hrs
      have Hrl := mkHid hrl
      have He := mkHid (show (A : Int) * 4 + (j : Int) = (s : Int) by omega)
      have hA3 : A ≤ 1023 := by omega
      have hd : decide ((j : Int) < 4) = true := decide_eq_true (by omega)
      have hth : wr.there nb (64 * j) 64 := by simpa using hr.there (64 * j) 64 (by omega)
      clear hcl hrs hrl hs
      go_wp2_with (first | (go_at_call 142; refine (sectorOf_any nb 0 256 256 j (by omega) (by decide) _).mono ?_; rintro e w' ⟨rfl, rfl⟩) | (go_at_call 143; refine (seen_as _ s He.out B db g fa cf st _ h1 hsS).mono ?_; rintro e w' ⟨ao, c, rfl, hrd, rfl⟩) | (refine wpList_copy_k rfl (.tmp 21) (.tmp 27) 27 27 5 rfl Tryz.underlying27 oneB nb (64 * j) 64 64 ao 64 c (bts (cur st s)) rfl rfl hrd Hbl.out (by rw [Hbl.out]; exact hth) (bts_one _) ?_))
      have hr2 := hr.sets (bts (cur st s)) (64 * j) (by rw [Hbl.out]; omega)
      have hc2 : Chg [] w (wr.setCells nb (64 * j) (bts (cur st s))) := hc.trans (Chg.setCells nb _ (64 * j) wr) (fun _ h _ => h) (fun k hk hlt => by simp at hk; have := Hnb.out; omega)
      refine ⟨⟨j + 1, by go_num, by omega, ?_, hc2⟩, by simp [Go.RowKit.intOf]; omega⟩
      rw [Hbl.out, bts_take, bts_drop, ← bts_append, ← bts_append, Nat.zero_add] at hr2
      have e1 : (reads st A j ++ List.replicate (256 - 64 * j) 0).take (64 * j) = reads st A j := by rw [← Hrl.out, List.take_left]
      have e2 : (reads st A j ++ List.replicate (256 - 64 * j) 0).drop (64 * j + 64) = List.replicate (256 - 64 * (j + 1)) 0 := by
        rw [← Hrl.out, List.drop_length_add_append, Hrl.out, List.drop_replicate]
        congr 1
      rw [e1, e2] at hr2
      rw [Hrs.out, List.append_assoc]
      exact hr2
    · have : j = 4 := by omega
      subst this
      rw [show 256 - 64 * 4 = 0 from rfl, List.replicate_zero, List.append_nil] at hr
      go_wp2_with fail
      go_ret2
      exact ⟨nb, rfl, hr, hc⟩
theorem dread_yes (A : Nat) (B db : Nat) (g : DG) (fa : Option Addr) (cf : Nat) (st : RS) (w : World) (h : DevAt w B db g fa cf st) (hW : Whole st) (hw : whyN st A = 0) :
    Calls Tryz.prog 95 #[.pointer (some ⟨db, 0, none⟩), .int .i64 A] w fun e w' => ∃ ao c, e = .returned (.tuple #[.slice ao 256 c, .int .i64 0]) ∧ Room w' w.heap.size ao 256 c (bts (reads st A 4)) ∧ Chg [] w w' := by
  refine (dread_at A B db g fa cf st w h hW hw).mono ?_
  rintro e w' ⟨rb, he, hr, hg⟩
  exact ⟨_, _, he, hr, hg⟩
end Go.Proofs.YtdgkbicelnnfpaaGreatDoor

/- The cache beside its disk: a block is written. -/
namespace Go.Proofs.YtdgkbicelnnfpaaGreatDoor
open Go.RowKit Go.Maps
set_option linter.unusedVariables false
set_option linter.unusedSimpArgs false
attribute [local go_sem ↓] Go.wp_at_zero Go.wp_at_succ

/-- One block of a list is told anew. -/
def updL (L : List Ent) (x : Ent) : List Ent := L.map (fun e => if e.b = x.b then x else e)
theorem updL_map {β : Type} (f : Ent → β) {L : List Ent} {x y : Ent} (hnd : (L.map Ent.b).Nodup) (hy : y ∈ L) (hb : x.b = y.b) (hf : f x = f y) : (updL L x).map f = L.map f := by
  unfold updL
  rw [List.map_map]
  refine List.map_congr_left fun e he => ?_
  show f (if e.b = x.b then x else e) = f e
  split
  · rename_i h
    rw [b_inj hnd he hy (h.trans hb), hf]
  · rfl
theorem set_updL {E : List Ent} (hnd : (E.map Ent.b).Nodup) {i : Nat} (hi : i < E.length) {x : Ent} (hb : x.b = E[i].b) : E.set i x = updL E x := by
  apply List.ext_getElem
  · simp [updL]
  · intro k h1 h2
    rw [List.length_set] at h1
    rw [List.getElem_set]
    simp only [updL, List.getElem_map]
    by_cases h : i = k
    · subst h
      rw [if_pos rfl, if_pos hb.symm]
    · rw [if_neg h, if_neg (fun e => h ((bs_inj hnd hi h1).2 (hb.symm.trans e.symm)))]
theorem CacheAt.upd {w w' : World} {B cb mb : Nat} {la : Option Addr} {cl : Nat} {E L : List Ent} {most uses db : Nat} (h : CacheAt w B cb mb la cl E L most uses db) {i : Nat} (hi : i < E.length) {x : Ent}
    (hb : x.b = E[i].b) (hp : x.pl = E[i].pl) (hu : x.used = E[i].used) (hl : x.bs.length = 256) (c : Chg [E[i].b] w w') (hx : Blk w' E[i].b 176 (entV x i)) :
    CacheAt w' B cb mb la cl (E.set i x) (updL L x) most uses db := by
  have hm := List.getElem_mem hi
  have hmL := h.pm.mem_iff.1 hm
  have hnL : (L.map Ent.b).Nodup := (h.pm.map _).nodup_iff.1 h.ln.nd
  have hcb : cb ∉ [E[i].b] := by simpa using fun e => h.ln.nc _ hm e.symm
  have hmb : mb ∉ [E[i].b] := by
    simp
    intro e
    exact h.mF (by simp only [LF, List.mem_cons, List.mem_append, List.mem_map]; exact Or.inr (Or.inr ⟨_, hm, e.symm⟩))
  obtain ⟨D, hD⟩ := h.hd
  have mu := updL_map Ent.used hnL hmL hb hu
  have mp := updL_map Ent.pl hnL hmL hb hp
  refine ⟨c.cellv h.c0 hcb, c.cellv h.c1 hcb, c.cellv h.c2 hcb, c.cellv h.c4 hcb, (c.frozen (p := ⟨cb, 4, none⟩) (block_lt_of_cell h.c4) hcb).trans h.f4, h.ln.upd hi hb hl c hx, ?_, ⟨D, (hD.chg c hmb).alike (set_alike hi (fun e => (e.pl, e.b)) (by simp [hb, hp]))⟩, by rw [set_updL h.ln.nd hi hb]; exact h.pm.map _, ?_, ?_, by rw [mp]; exact h.np, ?_, by simp [updL]; exact h.le, h.mo, fun hk => h.mF (LF_alike (by rw [set_alike hi Ent.b hb]) _ hk), h.mB⟩
  · intro k k0 kn
    rw [List.length_set] at kn
    rw [key_set hi x _ (by omega), key_set hi x _ kn]
    have hk : ∀ k, k < E.length → (if k = i then x.used else key E k) = key E k := fun k hk => by
      split
      · rename_i e
        subst e
        rw [hu, key_lt hk]
      · rfl
    rw [hk _ (by omega), hk _ kn]
    exact h.hp k k0 kn
  · have : ((updL L x).map Ent.used).Pairwise (· < ·) := by rw [mu]; exact List.pairwise_map.2 h.so
    exact List.pairwise_map.1 this
  · intro e he
    have : e.used ∈ L.map Ent.used := by rw [← mu]; exact List.mem_map.2 ⟨e, he, rfl⟩
    obtain ⟨e2, he2, heq⟩ := List.mem_map.1 this
    rw [← heq]
    exact h.us e2 he2
  · intro e he
    have : e.pl ∈ L.map Ent.pl := by rw [← mp]; exact List.mem_map.2 ⟨e, he, rfl⟩
    obtain ⟨e2, he2, heq⟩ := List.mem_map.1 this
    rw [← heq]
    exact h.pl e2 he2
def Ent.clean (e : Ent) : Ent := ⟨e.b, e.pl, e.bs, false, e.used⟩
/-- A block is written, if it is dirty: what is told, the disk behind it. -/
def wrote (e : Ent) (st : RS) : Int × RS := if e.dirty then write st e.pl e.bs else (0, st)
theorem cwrite_clean (i : Nat) (B cb mb : Nat) (la : Option Addr) (cl : Nat) (E L : List Ent) (most uses db : Nat) (w : World) (h : CacheAt w B cb mb la cl E L most uses db) (hi : i < E.length) (hd : E[i].dirty = false) :
    Calls Tryz.prog 170 #[.pointer (some ⟨cb, 0, none⟩), .pointer (some ⟨E[i].b, 0, none⟩)] w fun e w' => e = .returned (.int .i64 0) ∧ w = w' := by
  have u1 := (h.ln.e i hi).cell 257 _ (entV_dirty (h.ln.bl _ (List.getElem_mem hi)))
  rw [hd] at u1
  go_enter Tryz.func170, Tryz.ntmps170
  go_wp2
  go_ret
  exact ⟨rfl, rfl⟩
theorem DF_later {w : World} {db : Nat} {g : DG} {fa fa' : Option Addr} {cf cf' : Nat} (l : Later w fa cf fa' cf') : ∀ k, k ∈ DF db g fa' cf' → k ∈ DF db g fa cf ∨ w.heap.size ≤ k := by
  intro k hk
  simp only [DF, List.mem_cons] at hk ⊢
  rcases hk with hk | hk | hk | hk
  · exact Or.inl (Or.inl hk)
  · exact Or.inl (Or.inr (Or.inl hk))
  · exact Or.inl (Or.inr (Or.inr (Or.inl hk)))
  · exact (l k hk).imp (fun h => Or.inr (Or.inr (Or.inr h))) id
theorem cwrite_dirty (i : Nat) (B cb mb : Nat) (la : Option Addr) (cl : Nat) (E L : List Ent) (most uses db : Nat) (w : World) (h : CacheAt w B cb mb la cl E L most uses db) (hi : i < E.length) (hd : E[i].dirty = true)
    (g : DG) (fa : Option Addr) (cf : Nat) (st : RS) (hD : DevAt w B db g fa cf st) (hW : Whole st) (hB : B ≤ w.heap.size) (hLb : st.L.length ≤ 1000000000) (hx : ∀ k, k ∈ CF cb mb la cl E → k ∉ DF db g fa cf) :
    Calls Tryz.prog 170 #[.pointer (some ⟨cb, 0, none⟩), .pointer (some ⟨E[i].b, 0, none⟩)] w fun e w' => e = .returned (.int .i64 (write st E[i].pl E[i].bs).1) ∧ ∃ fa' cf', DevAt w' B db g fa' cf' (write st E[i].pl E[i].bs).2 ∧ Later w fa cf fa' cf' ∧
      Chg (E[i].b :: DF db g fa cf) w w' ∧ ((write st E[i].pl E[i].bs).1 ≠ 0 → CacheAt w' B cb mb la cl E L most uses db) ∧ ((write st E[i].pl E[i].bs).1 = 0 → CacheAt w' B cb mb la cl (E.set i E[i].clean) (updL L E[i].clean) most uses db) := by
  have hm := List.getElem_mem hi
  have hl := h.ln.bl _ hm
  have he := h.ln.e i hi
  have u1 := he.cell 257 _ (entV_dirty hl)
  have u0 := he.cell 0 _ (entV_pl _ _)
  rw [hd] at u1
  have c0 := h.c0
  have hbF : E[i].b ∉ DF db g fa cf := hx _ (by simp only [CF, LF, List.mem_cons, List.mem_append, List.mem_map]; exact Or.inr (Or.inr (Or.inr ⟨_, hm, rfl⟩)))
  have cW : ∀ u : World, Chg [] w u → Calls Tryz.prog 186 #[.pointer (some ⟨db, 0, none⟩), .int .i64 E[i].pl, .slice (some ⟨E[i].b, 1, none⟩) 256 256] u fun e w' => e = .returned (.int .i64 (write st E[i].pl E[i].bs).1) ∧ ∃ fa' cf', DevAt w' B db g fa' cf' (write st E[i].pl E[i].bs).2 ∧ Chg (DF db g fa cf) w w' ∧ Later w fa cf fa' cf' := by
    intro u hu
    have hrd : Reads u (some ⟨E[i].b, 1, none⟩) (bts E[i].bs) := fun _ => ⟨E[i].b, 1, rfl, fun j v hv => hu.cellv (he.cell (1 + j) v (entV_bs hl j v hv)) (by simp)⟩
    refine (dwrite_any E[i].pl B db g fa cf st u (hD.keep hu) hW (Nat.le_trans hB hu.size) hLb (some ⟨E[i].b, 1, none⟩) 256 256 E[i].bs hrd hl (Nat.le_refl _) (by decide) (fun k hk => by simp [blk] at hk; rw [hk]; exact ⟨hbF, Nat.lt_of_lt_of_le he.lt hu.size⟩)).mono ?_
    rintro e w' ⟨he, fa', cf', h3, g3, l3⟩
    exact ⟨he, fa', cf', h3, hu.trans g3 (by simp) (fun _ h _ => h), fun k hk => (l3 k hk).imp id (fun h9 => Nat.le_trans hu.size h9)⟩
  have hcl : ∀ w3 : World, Chg (DF db g fa cf) w w3 → Chg (E[i].b :: DF db g fa cf) w w3 := fun w3 g3 => g3.mono (fun k hk _ => List.mem_cons_of_mem _ hk)
  by_cases hv : (write st E[i].pl E[i].bs).1 = 0
  · rw [hv] at cW
    have CW := mkHid cW
    clear cW
    go_enter Tryz.func170, Tryz.ntmps170
    go_wp2
    go_region_with (first | (go_at_call 186; refine (CW.out _ (by first | exact Chg.refl _ _ | exact Chg.drew _ _ | exact Chg.drewN _ _)).mono ?_; rintro e w3 ⟨rfl, fa', cf', h3, g3, l3⟩))
    all_goals
      have k3 := h.chg g3 hx
      have he3 := he.chg g3 hbF
      have u3 := he3.cell 257 _ (entV_dirty hl)
      have f3 := he3.frozen 257
      go_wp2
      go_ret
      have g4 : Chg [E[i].b] w3 (w3.setCell ⟨E[i].b, 257, none⟩ (.bool false)) := Chg.setCell w3 ⟨E[i].b, 257, none⟩ _
      have hx4 := he3.set1 257 (.bool false)
      rw [entV_setDirty hl] at hx4
      exact ⟨by rw [hv]; rfl, fa', cf', h3.chg g4 (fun k hk => by
          simp
          rintro rfl
          have := DF_later l3 _ hk
          rcases this with h9 | h9
          · exact hbF h9
          · have := he.lt; omega), l3, g3.trans g4 (fun k hk _ => List.mem_cons_of_mem _ hk) (fun k hk _ => by simp at hk; simp [hk]), fun h9 => absurd hv h9, fun _ => k3.upd hi rfl rfl rfl hl g4 hx4⟩
  · have hv2 : ((write st E[i].pl E[i].bs).1 != 0) = true := by simpa using hv
    have HV := mkHid hv
    have CW := mkHid cW
    clear cW hv
    go_enter Tryz.func170, Tryz.ntmps170
    go_wp2
    go_region_with (first | (go_at_call 186; refine (CW.out _ (by first | exact Chg.refl _ _ | exact Chg.drew _ _ | exact Chg.drewN _ _)).mono ?_; rintro e w3 ⟨rfl, fa', cf', h3, g3, l3⟩))
    all_goals
      have k3 := h.chg g3 hx
      go_wp2
      go_ret
      exact ⟨rfl, fa', cf', h3, l3, hcl _ g3, fun _ => k3, fun h9 => absurd h9 HV.out⟩
end Go.Proofs.YtdgkbicelnnfpaaGreatDoor
