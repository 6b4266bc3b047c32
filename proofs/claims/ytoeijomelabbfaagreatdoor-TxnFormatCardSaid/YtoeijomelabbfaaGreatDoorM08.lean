/- Texts Jb, Jc of the library, joined. -/
import Derived.Test.YtoeijomelabbfaaGreatDoorM07
import Derived.RegionTactic
/- The waiting line: what it is in memory; Less, Swap. -/
namespace Go.Proofs.YtoeijomelabbfaaGreatDoor
set_option maxRecDepth 200000
open Go.RowKit
set_option linter.unusedVariables false
set_option linter.unusedSimpArgs false

/-- A block that is held: where it lies, its place, its bytes, whether it is dirty, its last use. -/
structure Ent where
  b : Nat
  pl : Nat
  bs : List UInt8
  dirty : Bool
  used : Nat
def ptrV (e : Ent) : Value := .pointer (some ⟨e.b, 0, none⟩)
def entV (e : Ent) (s : Nat) : List Value := .int .i64 e.pl :: (bts e.bs ++ [.bool e.dirty, .int .u64 e.used, .int .i64 s])
theorem entV_len {e : Ent} {s : Nat} (h : e.bs.length = 256) : (entV e s).length = 260 := by simp [entV, bts_length, h]
theorem entV_pl (e : Ent) (s : Nat) : (entV e s)[0]? = some (.int .i64 e.pl) := rfl
theorem entV_bs {e : Ent} {s : Nat} (h : e.bs.length = 256) (j : Nat) (u : Value) (hu : (bts e.bs)[j]? = some u) : (entV e s)[1 + j]? = some u := by
  have hj : j < (bts e.bs).length := (List.getElem?_eq_some_iff.1 hu).1
  unfold entV
  rw [show 1 + j = j + 1 by omega, List.getElem?_cons_succ, List.getElem?_append_left hj]
  exact hu
theorem entV_dirty {e : Ent} {s : Nat} (h : e.bs.length = 256) : (entV e s)[257]? = some (.bool e.dirty) := by
  unfold entV
  rw [List.getElem?_cons_succ, List.getElem?_append_right (by rw [bts_length]; omega), bts_length, h]
  rfl
theorem entV_used {e : Ent} {s : Nat} (h : e.bs.length = 256) : (entV e s)[258]? = some (.int .u64 e.used) := by
  unfold entV
  rw [List.getElem?_cons_succ, List.getElem?_append_right (by rw [bts_length]; omega), bts_length, h]
  rfl
theorem entV_spot {e : Ent} {s : Nat} (h : e.bs.length = 256) : (entV e s)[259]? = some (.int .i64 s) := by
  unfold entV
  rw [List.getElem?_cons_succ, List.getElem?_append_right (by rw [bts_length]; omega), bts_length, h]
  rfl
theorem entV_setSpot {e : Ent} {s : Nat} (h : e.bs.length = 256) (t : Nat) : (entV e s).set 259 (.int .i64 t) = entV e t := by
  unfold entV
  rw [List.set_cons_succ, List.set_append_right _ _ (by rw [bts_length]; omega), bts_length, h]
  rfl
theorem entV_setUsed {e : Ent} {s : Nat} (h : e.bs.length = 256) (t : Nat) : (entV e s).set 258 (.int .u64 t) = entV { e with used := t } s := by
  unfold entV
  rw [List.set_cons_succ, List.set_append_right _ _ (by rw [bts_length]; omega), bts_length, h]
  rfl
theorem entV_setDirty {e : Ent} {s : Nat} (h : e.bs.length = 256) (t : Bool) : (entV e s).set 257 (.bool t) = entV { e with dirty := t } s := by
  unfold entV
  rw [List.set_cons_succ, List.set_append_right _ _ (by rw [bts_length]; omega), bts_length, h]
  rfl

/-- The line of a cache whose struct lies in block cb: the blocks E, in the heap's order. -/
structure LineAt (w : World) (B cb : Nat) (la : Option Addr) (cl : Nat) (E : List Ent) : Prop where
  c3 : w.cell? ⟨cb, 3, none⟩ = some (.slice la E.length cl)
  f3 : w.frozen? ⟨cb, 3, none⟩ = false
  r : Room w B la E.length cl (E.map ptrV)
  e : ∀ i (h : i < E.length), Blk w E[i].b 139 (entV E[i] i)
  bl : ∀ e ∈ E, e.bs.length = 256
  nd : (E.map Ent.b).Nodup
  nc : ∀ e ∈ E, e.b ≠ cb
  nr : ∀ e ∈ E, e.b ∉ fp la cl
  cr : cb ∉ fp la cl
  eB : ∀ e ∈ E, B ≤ e.b
  cB : B ≤ cb
  sm : E.length ≤ 100000
/-- The blocks of a line. -/
def LF (cb : Nat) (la : Option Addr) (cl : Nat) (E : List Ent) : List Nat := cb :: (fp la cl ++ E.map Ent.b)
theorem LineAt.lt {w : World} {B cb : Nat} {la : Option Addr} {cl : Nat} {E : List Ent} (h : LineAt w B cb la cl E) : ∀ k, k ∈ LF cb la cl E → B ≤ k ∧ k < w.heap.size := by
  intro k hk
  simp only [LF, List.mem_cons, List.mem_append, List.mem_map] at hk
  rcases hk with rfl | hk | ⟨e, he, rfl⟩
  · exact ⟨h.cB, block_lt_of_cell h.c3⟩
  · exact h.r.lt k hk
  · obtain ⟨i, hi, rfl⟩ := List.getElem_of_mem he
    exact ⟨h.eB _ he, (h.e i hi).lt⟩
theorem LineAt.chg {w w' : World} {B cb : Nat} {la : Option Addr} {cl : Nat} {E : List Ent} {S : List Nat} (h : LineAt w B cb la cl E) (c : Chg S w w') (hn : ∀ k, k ∈ LF cb la cl E → k ∉ S) : LineAt w' B cb la cl E :=
  ⟨c.cellv h.c3 (hn cb (by simp [LF])), (c.frozen (p := ⟨cb, 3, none⟩) (show cb < w.heap.size from block_lt_of_cell h.c3) (hn cb (by simp [LF]))).trans h.f3,
   h.r.chg c (fun k hk => hn k (by simp [LF, hk])), fun i hi => (h.e i hi).chg c (hn _ (by simp only [LF, List.mem_cons, List.mem_append, List.mem_map]; exact Or.inr (Or.inr ⟨_, List.getElem_mem hi, rfl⟩))),
   h.bl, h.nd, h.nc, h.nr, h.cr, h.eB, h.cB, h.sm⟩
theorem LineAt.keep {w w' : World} {B cb : Nat} {la : Option Addr} {cl : Nat} {E : List Ent} (h : LineAt w B cb la cl E) (c : Chg [] w w') : LineAt w' B cb la cl E := h.chg c (by simp)
theorem LineAt.cell {w : World} {B cb : Nat} {la : Option Addr} {cl : Nat} {E : List Ent} (h : LineAt w B cb la cl E) (hE : 0 < E.length) :
    ∃ lb lo, la = some ⟨lb, lo, none⟩ ∧ (∀ i (hi : i < E.length), w.cell? ⟨lb, lo + i, none⟩ = some (ptrV E[i]) ∧ w.frozen? ⟨lb, lo + i, none⟩ = false) ∧ lb ∈ fp la cl := by
  have hle := h.r.le
  obtain ⟨lb, lo, rfl, hB, hs, hv⟩ := h.r.at_ (by omega)
  exact ⟨lb, lo, rfl, fun i hi => ⟨hv i _ (by simp [hi]), (hs i (by omega)).2⟩, by rw [fp_some _ _ _ (by omega)]; simp⟩

theorem less_raw (lb lo n cl i j bi bj a b : Nat) (w : World) (hi : i < n) (hj : j < n) (hsm : n ≤ 100000)
    (ci : w.cell? ⟨lb, lo + i, none⟩ = some (.pointer (some ⟨bi, 0, none⟩))) (cj : w.cell? ⟨lb, lo + j, none⟩ = some (.pointer (some ⟨bj, 0, none⟩)))
    (ui : w.cell? ⟨bi, 258, none⟩ = some (.int .u64 a)) (uj : w.cell? ⟨bj, 258, none⟩ = some (.int .u64 b)) :
    Calls Tryz.prog 248 #[.slice (some ⟨lb, lo, none⟩) n cl, .int .i64 i, .int .i64 j] w fun e w' => e = .returned (.bool (decide (a < b))) ∧ ∃ q, w' = w.drewN q := by
  go_enter Tryz.func248, Tryz.ntmps248
  go_wp2
  go_quiet (fail)
  go_wp2
  go_ret
  exact ⟨by simp, nq, rfl⟩
theorem less_any (i j : Nat) (B cb : Nat) (la : Option Addr) (cl : Nat) (E : List Ent) (w : World) (h : LineAt w B cb la cl E) (hi : i < E.length) (hj : j < E.length) :
    Calls Tryz.prog 248 #[.slice la E.length cl, .int .i64 i, .int .i64 j] w fun e w' => e = .returned (.bool (decide (E[i].used < E[j].used))) ∧ Chg [] w w' := by
  obtain ⟨lb, lo, rfl, hc, _⟩ := h.cell (by omega)
  refine (less_raw lb lo E.length cl i j _ _ _ _ w hi hj h.sm (hc i hi).1 (hc j hj).1 ((h.e i hi).cell 258 _ (entV_used (h.bl _ (List.getElem_mem hi)))) ((h.e j hj).cell 258 _ (entV_used (h.bl _ (List.getElem_mem hj))))).mono ?_
  rintro e w' ⟨he, q, rfl⟩
  exact ⟨he, Chg.drewN _ _⟩

theorem swap_raw (lb lo n cl i j bi bj : Nat) (x y : Value) (w : World) (hi : i < n) (hj : j < n) (hsm : n ≤ 100000) (hbi : bi ≠ lb) (hbj : bj ≠ lb) (hij : i = j ↔ bi = bj)
    (ci : w.cell? ⟨lb, lo + i, none⟩ = some (.pointer (some ⟨bi, 0, none⟩))) (cj : w.cell? ⟨lb, lo + j, none⟩ = some (.pointer (some ⟨bj, 0, none⟩)))
    (fi : w.frozen? ⟨lb, lo + i, none⟩ = false) (fj : w.frozen? ⟨lb, lo + j, none⟩ = false)
    (ui : w.cell? ⟨bi, 259, none⟩ = some x) (uj : w.cell? ⟨bj, 259, none⟩ = some y) (gi : w.frozen? ⟨bi, 259, none⟩ = false) (gj : w.frozen? ⟨bj, 259, none⟩ = false) :
    Calls Tryz.prog 249 #[.slice (some ⟨lb, lo, none⟩) n cl, .int .i64 i, .int .i64 j] w fun e w' => e = .returned (.tuple #[]) ∧
      w' = ((((w.setCell ⟨lb, lo + i, none⟩ (.pointer (some ⟨bj, 0, none⟩))).setCell ⟨lb, lo + j, none⟩ (.pointer (some ⟨bi, 0, none⟩))).drew.setCell ⟨bj, 259, none⟩ (.int .i64 i)).setCell ⟨bi, 259, none⟩ (.int .i64 j)).drew := by
  obtain ⟨v', hy'⟩ := cell?_setCell_some (w := w) (p := ⟨lb, lo + i, none⟩) (x := .pointer (some ⟨bj, 0, none⟩)) (q := ⟨lb, lo + j, none⟩) cj
  go_enter Tryz.func249, Tryz.ntmps249
  go_wp2
  go_region
  have h1 : Chg [lb] w ((w.setCell ⟨lb, lo + i, none⟩ (.pointer (some ⟨bj, 0, none⟩))).setCell ⟨lb, lo + j, none⟩ (.pointer (some ⟨bi, 0, none⟩))).drew :=
    (((Chg.setCell w ⟨lb, lo + i, none⟩ _).trans (Chg.setCell _ ⟨lb, lo + j, none⟩ _) (fun _ h _ => h) (fun _ h _ => h)).then (Chg.drew [] _))
  have k1 : (((w.setCell ⟨lb, lo + i, none⟩ (.pointer (some ⟨bj, 0, none⟩))).setCell ⟨lb, lo + j, none⟩ (.pointer (some ⟨bi, 0, none⟩))).drew).cell? ⟨lb, lo + i, none⟩ = some (.pointer (some ⟨bj, 0, none⟩)) := by
    show ((w.setCell ⟨lb, lo + i, none⟩ (.pointer (some ⟨bj, 0, none⟩))).setCell ⟨lb, lo + j, none⟩ (.pointer (some ⟨bi, 0, none⟩))).cell? _ = _
    by_cases hb : i = j
    · have e := hij.1 hb
      subst hb e
      exact World.cell?_setCell_same _ _ _ hy'
    · rw [World.cell?_setCell_other _ _ _ _ (by simp [hb])]
      exact World.cell?_setCell_same _ _ _ ci
  have k2 : (((w.setCell ⟨lb, lo + i, none⟩ (.pointer (some ⟨bj, 0, none⟩))).setCell ⟨lb, lo + j, none⟩ (.pointer (some ⟨bi, 0, none⟩))).drew).cell? ⟨lb, lo + j, none⟩ = some (.pointer (some ⟨bi, 0, none⟩)) := by
    show ((w.setCell ⟨lb, lo + i, none⟩ (.pointer (some ⟨bj, 0, none⟩))).setCell ⟨lb, lo + j, none⟩ (.pointer (some ⟨bi, 0, none⟩))).cell? _ = _
    exact World.cell?_setCell_same _ _ _ hy'
  have ui1 := h1.cellv ui (by simpa using hbi)
  have uj1 := h1.cellv uj (by simpa using hbj)
  have gi1 := (h1.frozen (p := ⟨bi, 259, none⟩) (block_lt_of_cell ui) (by simpa using hbi)).trans gi
  have gj1 := (h1.frozen (p := ⟨bj, 259, none⟩) (block_lt_of_cell uj) (by simpa using hbj)).trans gj
  clear h1 hy' ui uj gi gj ci cj fi fj
  generalize hw1 : ((w.setCell ⟨lb, lo + i, none⟩ (.pointer (some ⟨bj, 0, none⟩))).setCell ⟨lb, lo + j, none⟩ (.pointer (some ⟨bi, 0, none⟩))).drew = w1 at *
  have HW := mkHid hw1
  clear hw1
  obtain ⟨y2, hy2⟩ := cell?_setCell_some (w := w1) (p := ⟨bj, 259, none⟩) (x := .int .i64 i) (q := ⟨bi, 259, none⟩) ui1
  go_wp2
  go_region
  go_end0
  exact ⟨rfl, by rw [← HW.out]⟩
/-- Two of a list change their spots. -/
def swp (E : List Ent) (i j : Nat) (hi : i < E.length) (hj : j < E.length) : List Ent := (E.set i E[j]).set j E[i]
theorem swp_len (E : List Ent) (i j : Nat) (hi : i < E.length) (hj : j < E.length) : (swp E i j hi hj).length = E.length := by simp [swp]
theorem swp_get (E : List Ent) (i j : Nat) (hi : i < E.length) (hj : j < E.length) (k : Nat) (hk : k < (swp E i j hi hj).length) : (swp E i j hi hj)[k] = if k = j then E[i] else if k = i then E[j] else E[k]'(by simpa [swp] using hk) := by
  simp only [swp, List.getElem_set, eq_comm (a := k)]
theorem swp_perm (E : List Ent) (i j : Nat) (hi : i < E.length) (hj : j < E.length) : (swp E i j hi hj).Perm E := by
  exact List.set_set_perm hi hj
theorem bs_inj {E : List Ent} (h : (E.map Ent.b).Nodup) {i j : Nat} (hi : i < E.length) (hj : j < E.length) : i = j ↔ E[i].b = E[j].b := by
  constructor
  · rintro rfl; rfl
  · intro e
    exact (List.getElem_inj (xs := E.map Ent.b) (i := i) (j := j) (h₀ := by simpa using hi) (h₁ := by simpa using hj) h).1 (by simpa using e)
theorem swap_any (i j : Nat) (B cb : Nat) (la : Option Addr) (cl : Nat) (E : List Ent) (w : World) (h : LineAt w B cb la cl E) (hi : i < E.length) (hj : j < E.length) :
    Calls Tryz.prog 249 #[.slice la E.length cl, .int .i64 i, .int .i64 j] w fun e w' => e = .returned (.tuple #[]) ∧ LineAt w' B cb la cl (swp E i j hi hj) ∧ Chg (fp la cl ++ E.map Ent.b) w w' := by
  obtain ⟨lb, lo, rfl, hc, hlb⟩ := h.cell (by omega)
  have e1 := h.e i hi
  have e2 := h.e j hj
  have l1 := h.bl _ (List.getElem_mem hi)
  have l2 := h.bl _ (List.getElem_mem hj)
  have n1 : E[i].b ≠ lb := fun e => h.nr _ (List.getElem_mem hi) (by rw [e]; exact hlb)
  have n2 : E[j].b ≠ lb := fun e => h.nr _ (List.getElem_mem hj) (by rw [e]; exact hlb)
  have hij := bs_inj h.nd hi hj
  refine (swap_raw lb lo E.length cl i j E[i].b E[j].b _ _ w hi hj h.sm n1 n2 hij (hc i hi).1 (hc j hj).1 (hc i hi).2 (hc j hj).2 (e1.cell 259 _ (entV_spot l1)) (e2.cell 259 _ (entV_spot l2)) (e1.frozen 259) (e2.frozen 259)).mono ?_
  rintro e w' ⟨he, rfl⟩
  have g1 : Chg [lb] w ((w.setCell ⟨lb, lo + i, none⟩ (.pointer (some ⟨E[j].b, 0, none⟩))).setCell ⟨lb, lo + j, none⟩ (.pointer (some ⟨E[i].b, 0, none⟩))).drew :=
    (((Chg.setCell w ⟨lb, lo + i, none⟩ _).trans (Chg.setCell _ ⟨lb, lo + j, none⟩ _) (fun _ h _ => h) (fun _ h _ => h)).then (Chg.drew [] _))
  have r1 := ((h.r.set i hi (ptrV E[j])).set j hj (ptrV E[i])).chg (Chg.drew [] _) (by simp)
  rw [← List.map_set, ← List.map_set] at r1
  have c3 := g1.cellv h.c3 (by simp; rintro rfl; exact h.cr hlb)
  have f3 := (g1.frozen (p := ⟨cb, 3, none⟩) (block_lt_of_cell h.c3) (by simp; rintro rfl; exact h.cr hlb)).trans h.f3
  have eE : ∀ k (hk : k < E.length), Blk _ E[k].b 139 (entV E[k] k) := fun k hk => (h.e k hk).chg g1 (by simp; intro e; exact h.nr _ (List.getElem_mem hk) (by rw [e]; exact hlb))
  have hfp : fp (some ⟨lb, lo, none⟩) cl = [lb] := by have := h.r.le; exact fp_some _ _ _ (by omega)
  have g1' : Chg (fp (some ⟨lb, lo, none⟩) cl) w ((w.setCell ⟨lb, lo + i, none⟩ (.pointer (some ⟨E[j].b, 0, none⟩))).setCell ⟨lb, lo + j, none⟩ (.pointer (some ⟨E[i].b, 0, none⟩))).drew := by rw [hfp]; exact g1
  change Room ((w.setCell ⟨lb, lo + i, none⟩ (.pointer (some ⟨E[j].b, 0, none⟩))).setCell ⟨lb, lo + j, none⟩ (.pointer (some ⟨E[i].b, 0, none⟩))).drew _ _ _ _ _ at r1
  generalize ((w.setCell ⟨lb, lo + i, none⟩ (.pointer (some ⟨E[j].b, 0, none⟩))).setCell ⟨lb, lo + j, none⟩ (.pointer (some ⟨E[i].b, 0, none⟩))).drew = w1 at *
  have g2 : Chg (E.map Ent.b) w1 ((w1.setCell ⟨E[j].b, 259, none⟩ (.int .i64 i)).setCell ⟨E[i].b, 259, none⟩ (.int .i64 j)).drew :=
    ((Chg.setCell w1 ⟨E[j].b, 259, none⟩ _).trans (Chg.setCell _ ⟨E[i].b, 259, none⟩ _) (fun k hk _ => by simp at hk; rw [hk]; exact List.mem_map.2 ⟨_, List.getElem_mem hj, rfl⟩) (fun k hk _ => by simp at hk; rw [hk]; exact List.mem_map.2 ⟨_, List.getElem_mem hi, rfl⟩)).then (Chg.drew [] _)
  have hmem : ∀ e ∈ swp E i j hi hj, e ∈ E := fun e he => (swp_perm E i j hi hj).mem_iff.1 he
  refine ⟨he, ⟨?_, ?_, ?_, ?_, fun e he => h.bl e (hmem e he), ?_, fun e he => h.nc e (hmem e he), fun e he => h.nr e (hmem e he), h.cr, fun e he => h.eB e (hmem e he), h.cB, by rw [swp_len]; exact h.sm⟩, g1'.trans g2 (fun k hk _ => by simp [hk]) (fun k hk _ => List.mem_append_right _ hk)⟩
  · rw [swp_len]
    exact g2.cellv c3 (fun hm => by obtain ⟨e, he, e2⟩ := List.mem_map.1 hm; exact h.nc e he e2)
  · exact (g2.frozen (p := ⟨cb, 3, none⟩) (block_lt_of_cell c3) (fun hm => by obtain ⟨e, he, e2⟩ := List.mem_map.1 hm; exact h.nc e he e2)).trans f3
  · rw [swp_len]
    exact r1.chg g2 (fun k hk hm => by obtain ⟨e, he, e2⟩ := List.mem_map.1 hm; exact h.nr e he (by rw [e2]; exact hk))
  · intro k hk
    have hk2 : k < E.length := by rw [swp_len] at hk; exact hk
    rw [swp_get]
    have a1 : Blk (w1.setCell ⟨E[j].b, 259, none⟩ (.int .i64 i)) E[j].b 139 (entV E[j] i) := by
      have := (eE j hj).set1 259 (.int .i64 i)
      rwa [entV_setSpot l2] at this
    split
    · rename_i hkj
      subst hkj
      have a2 : ∃ s : Nat, Blk (w1.setCell ⟨E[k].b, 259, none⟩ (.int .i64 i)) E[i].b 139 (entV E[i] s) := by
        by_cases hik : i = k
        · subst hik
          exact ⟨_, a1⟩
        · exact ⟨_, (eE i hi).chg (Chg.setCell w1 ⟨E[k].b, 259, none⟩ _) (by simp; exact fun e => hik (hij.2 e))⟩
      obtain ⟨s, a2⟩ := a2
      have := a2.set1 259 (.int .i64 k)
      rw [entV_setSpot l1] at this
      exact this.chg (Chg.drew [] _) (by simp)
    · split
      · rename_i hkj hki
        subst hki
        exact (a1.chg (Chg.setCell _ ⟨E[k].b, 259, none⟩ _) (by simp; exact fun e => hkj (hij.2 e.symm))).chg (Chg.drew [] _) (by simp)
      · rename_i hkj hki
        exact (((eE k hk2).chg (Chg.setCell w1 ⟨E[j].b, 259, none⟩ _) (by simp; exact fun e => hkj ((bs_inj h.nd hk2 hj).2 e))).chg (Chg.setCell _ ⟨E[i].b, 259, none⟩ _) (by simp; exact fun e => hki ((bs_inj h.nd hk2 hi).2 e))).chg (Chg.drew [] _) (by simp)
  · exact ((swp_perm E i j hi hj).map _).nodup_iff.2 h.nd
end Go.Proofs.YtoeijomelabbfaaGreatDoor

/- heap.up, heap.down over the waiting line. -/
namespace Go.Proofs.YtoeijomelabbfaaGreatDoor
set_option maxRecDepth 200000
open Go.RowKit
set_option linter.unusedVariables false
set_option linter.unusedSimpArgs false
attribute [local go_sem ↓] Go.wp_at_zero Go.wp_at_succ

def key (E : List Ent) (k : Nat) : Nat := (E.map Ent.used).getD k 0
theorem key_lt {E : List Ent} {k : Nat} (h : k < E.length) : key E k = E[k].used := by simp [key, h]
theorem key_swp (E : List Ent) (i j : Nat) (hi : i < E.length) (hj : j < E.length) (k : Nat) (hk : k < E.length) : key (swp E i j hi hj) k = if k = j then key E i else if k = i then key E j else key E k := by
  rw [key_lt (by rw [swp_len]; exact hk), swp_get, key_lt hi, key_lt hj, key_lt hk]
  split
  · rfl
  · split <;> rfl
/-- The first n are a heap. -/
def Heap (E : List Ent) (n : Nat) : Prop := ∀ k, 0 < k → k < n → key E ((k - 1) / 2) ≤ key E k
/-- .. but at the spot j, which may be too small. -/
def UpOk (E : List Ent) (j n : Nat) : Prop := (∀ k, 0 < k → k < n → k ≠ j → key E ((k - 1) / 2) ≤ key E k) ∧ ∀ k, 0 < k → k < n → (k - 1) / 2 = j → 0 < j → key E ((j - 1) / 2) ≤ key E k
/-- .. but at the spot i, which may be anything. -/
def DownOk (E : List Ent) (i n : Nat) : Prop := (∀ k, 0 < k → k < n → k ≠ i → (k - 1) / 2 ≠ i → key E ((k - 1) / 2) ≤ key E k) ∧ ∀ k, 0 < k → k < n → (k - 1) / 2 = i → 0 < i → key E ((i - 1) / 2) ≤ key E k
theorem up_swp {E : List Ent} {i j n : Nat} (hn : E.length = n) (h : UpOk E j n) (hj0 : 0 < j) (hj : j < E.length) (hij : i = (j - 1) / 2) (hi : i < E.length) (hlt : key E j < key E i) : UpOk (swp E i j hi hj) i n := by
  obtain ⟨h1, h2⟩ := h
  subst hij hn
  have hk := key_swp E ((j - 1) / 2) j hi hj
  generalize hE' : swp E ((j - 1) / 2) j hi hj = E' at hk ⊢
  clear hE'
  refine ⟨fun k k0 kn ki => ?_, fun k k0 kn kp i0 => ?_⟩
  · rw [hk ((k - 1) / 2) (by omega), hk k kn]
    by_cases a : k = j
    · subst a
      rw [if_neg (by omega), if_pos rfl, if_pos rfl]
      omega
    · rw [if_neg a, if_neg ki]
      by_cases b : (k - 1) / 2 = j
      · rw [if_pos b]
        exact h2 k k0 kn b hj0
      · rw [if_neg b]
        by_cases c : (k - 1) / 2 = (j - 1) / 2
        · rw [if_pos c]
          have := h1 k k0 kn a
          rw [c] at this
          omega
        · rw [if_neg c]
          exact h1 k k0 kn a
  · rw [hk (((j - 1) / 2 - 1) / 2) (by omega), hk k kn, if_neg (by omega), if_neg (by omega)]
    have hp := h1 ((j - 1) / 2) i0 (by omega) (by omega)
    by_cases a : k = j
    · rw [if_pos a]
      exact hp
    · rw [if_neg a, if_neg (by omega)]
      have := h1 k k0 kn a
      rw [kp] at this
      omega
theorem up_end {E : List Ent} {j : Nat} (h : UpOk E j E.length) (hj : j = 0 ∨ key E ((j - 1) / 2) ≤ key E j) : Heap E E.length := by
  intro k k0 kn
  by_cases a : k = j
  · rcases hj with hj | hj
    · omega
    · rw [a]; exact hj
  · exact h.1 k k0 kn a
theorem down_swp {E : List Ent} {i j n : Nat} (h : DownOk E i n) (hn : n ≤ E.length) (hj : j < n) (hp : (j - 1) / 2 = i) (hj0 : 0 < j) (hlt : key E j < key E i) (hmin : ∀ k, 0 < k → k < n → (k - 1) / 2 = i → key E j ≤ key E k) :
    DownOk (swp E i j (by omega) (by omega)) j n ∧ key (swp E i j (by omega) (by omega)) ((j - 1) / 2) ≤ key (swp E i j (by omega) (by omega)) j := by
  obtain ⟨h1, h2⟩ := h
  have hi : i < E.length := by omega
  have hk := key_swp E i j hi (by omega)
  generalize hE' : swp E i j hi (by omega) = E' at hk ⊢
  clear hE'
  refine ⟨⟨fun k k0 kn ki kp => ?_, fun k k0 kn kp j0 => ?_⟩, ?_⟩
  · rw [hk ((k - 1) / 2) (by omega), hk k (by omega), if_neg kp, if_neg ki]
    by_cases a : k = i
    · rw [if_pos a, if_neg (by omega)]
      subst a
      exact h2 j hj0 hj hp k0
    · rw [if_neg a]
      by_cases b : (k - 1) / 2 = i
      · rw [if_pos b]
        exact hmin k k0 kn b
      · rw [if_neg b]
        exact h1 k k0 kn a b
  · rw [hk ((j - 1) / 2) (by omega), hk k (by omega), if_neg (by omega), if_pos hp, if_neg (by omega), if_neg (by omega)]
    have := h1 k k0 kn (by omega) (by omega)
    rw [kp] at this
    exact this
  · rw [hk ((j - 1) / 2) (by omega), hk j (by omega), if_neg (by omega), if_pos hp, if_pos rfl]
    omega
theorem down_end {E : List Ent} {i n : Nat} (h : DownOk E i n) (hmin : ∀ k, 0 < k → k < n → (k - 1) / 2 = i → key E i ≤ key E k) : UpOk E i n := by
  refine ⟨fun k k0 kn ki => ?_, h.2⟩
  by_cases a : (k - 1) / 2 = i
  · rw [a]; exact hmin k k0 kn a
  · exact h.1 k k0 kn ki a
theorem heap_top {E : List Ent} {n : Nat} (h : Heap E n) : ∀ k, k < n → key E 0 ≤ key E k := by
  intro k
  induction k using Nat.strongRecOn with
  | _ k ih =>
    intro hk
    by_cases a : k = 0
    · rw [a]; exact Nat.le_refl _
    · exact Nat.le_trans (ih ((k - 1) / 2) (by omega) (by omega)) (h k (by omega) hk)

theorem less_key (i j : Nat) (b : Bool) (B cb : Nat) (la : Option Addr) (cl : Nat) (E : List Ent) (w : World) (h : LineAt w B cb la cl E) (hi : i < E.length) (hj : j < E.length) (hb : decide (key E i < key E j) = b) :
    Calls Tryz.prog 248 #[.slice la E.length cl, .int .i64 i, .int .i64 j] w fun e w' => e = .returned (.bool b) ∧ Chg [] w w' := by
  rw [← hb, key_lt hi, key_lt hj]
  exact less_any i j B cb la cl E w h hi hj
/-- The blocks that the heap's calls write. -/
def SF (la : Option Addr) (cl : Nat) (E : List Ent) : List Nat := fp la cl ++ E.map Ent.b
theorem SF_perm {la : Option Addr} {cl : Nat} {E E' : List Ent} (h : E'.Perm E) : ∀ k, k ∈ SF la cl E' → k ∈ SF la cl E := by
  intro k hk
  simp only [SF, List.mem_append] at hk ⊢
  exact hk.imp id (fun h1 => (h.map _).mem_iff.1 h1)
set_option maxRecDepth 20000 in
theorem up_any (j0 : Nat) (B cb : Nat) (la : Option Addr) (cl : Nat) (E : List Ent) (w : World) (h : LineAt w B cb la cl E) (hj : j0 < E.length) (hu : UpOk E j0 E.length) :
    Calls Tryz.prog 176 #[.iface 191 (.pointer (some ⟨cb, 3, none⟩)), .int .i64 j0] w fun e w' => e = .returned (.tuple #[]) ∧ ∃ E', LineAt w' B cb la cl E' ∧ E'.Perm E ∧ Heap E' E.length ∧ Chg (SF la cl E) w w' := by
  have hsm := h.sm
  go_enter Tryz.func176, Tryz.ntmps176
  go_wp2
  go_loopw [1] (fun v wr => ∃ (j : Nat) (D : List Ent), v = .int .i64 j ∧ j < E.length ∧ LineAt wr B cb la cl D ∧ D.Perm E ∧ UpOk D j E.length ∧ Chg (SF la cl E) w wr) (fun v _ => (Go.RowKit.intOf v).toNat)
  case atStart => exact ⟨j0, E, rfl, hj, h, List.Perm.refl _, hu, Chg.refl _ _⟩
  case round =>
    obtain ⟨j, D, rfl, hjn, hD, hp, hU, hc⟩ := hrel
    have hlen := hp.length_eq
    by_cases hj0 : j = 0
    · subst hj0
      have hH := up_end (by rw [hlen]; exact hU) (Or.inl rfl)
      go_wp2
      go_end0
      exact ⟨rfl, D, hD, hp, by rw [← hlen]; exact hH, hc⟩
    · obtain ⟨m, rfl⟩ : ∃ m, j = m + 1 := ⟨j - 1, by omega⟩
      obtain ⟨p, hp2⟩ : ∃ p, p = m / 2 := ⟨_, rfl⟩
      have hq : (m : Int) / 2 = (p : Int) := by omega
      have hpm : p < m + 1 := by omega
      have hmb : m < 100000 := by omega
      have Hp := mkHid hp2
      clear hp2
      have HU := mkHid hU
      have HL := mkHid hlen
      clear hU hlen
      have mL := meth_less cb 3 la D.length cl wr hD.c3
      have hDp : p < D.length := by have := HL.out; omega
      have hDm : m + 1 < D.length := by have := HL.out; omega
      have hne : ((p : Int) == (m : Int) + 1) = false := beq_eq_false_iff_ne.2 (by omega)
      by_cases hlt : key D (m + 1) < key D p
      · have lA := less_key (m + 1) p true B cb la cl D wr hD hDm hDp (decide_eq_true hlt)
        go_wp2_with (first | (go_at_call 248; refine lA.mono ?_; rintro e w2 ⟨rfl, hg2⟩; have hD2 := hD.keep hg2; have mS := meth_swap cb 3 la D.length cl w2 hD2.c3) | (go_at_call 249; refine (swap_any p (m + 1) B cb la cl D w2 hD2 hDp hDm).mono ?_; rintro e w3 ⟨rfl, hD3, hg3⟩))
        have hU3 := up_swp (i := p) (j := m + 1) HL.out HU.out (by omega) hDm (by rw [Hp.out, Nat.add_sub_cancel]) hDp hlt
        refine ⟨⟨p, _, rfl, by omega, hD3, (swp_perm D p (m + 1) hDp hDm).trans hp, hU3, (hc.then hg2).trans hg3 (fun _ h _ => h) (fun k hk _ => SF_perm hp k hk)⟩, by simp [Go.RowKit.intOf]; omega⟩
      · have lA := less_key (m + 1) p false B cb la cl D wr hD hDm hDp (decide_eq_false hlt)
        have hH := up_end (E := D) (j := m + 1) (by rw [HL.out]; exact HU.out) (Or.inr (by simp only [Nat.add_sub_cancel, ← Hp.out]; omega))
        rw [HL.out] at hH
        have HH := mkHid hH
        clear hH
        go_wp2_with (first | (go_at_call 248; refine lA.mono ?_; rintro e w2 ⟨rfl, hg2⟩))
        go_end0
        exact ⟨rfl, D, hD.keep hg2, hp, HH.out, hc.then hg2⟩
set_option maxRecDepth 20000 in
set_option maxHeartbeats 2000000 in
theorem down_any (i0 n : Nat) (B cb : Nat) (la : Option Addr) (cl : Nat) (E : List Ent) (w : World) (h : LineAt w B cb la cl E) (hn : n ≤ E.length) (hi : i0 ≤ 100000) (hu : DownOk E i0 n) :
    Calls Tryz.prog 177 #[.iface 191 (.pointer (some ⟨cb, 3, none⟩)), .int .i64 i0, .int .i64 n] w fun e w' => ∃ (b : Bool) (E' : List Ent), e = .returned (.bool b) ∧ LineAt w' B cb la cl E' ∧ E'.Perm E ∧ (∀ k, n ≤ k → E'[k]? = E[k]?) ∧ (b = true → Heap E' n) ∧ (b = false → UpOk E' i0 n) ∧ Chg (SF la cl E) w w' := by
  have hsm := h.sm
  go_enter Tryz.func177, Tryz.ntmps177
  go_wp2
  go_loopw [7] (fun v wr => ∃ (i : Nat) (D : List Ent), v = .int .i64 i ∧ i0 ≤ i ∧ i ≤ 100000 ∧ LineAt wr B cb la cl D ∧ D.Perm E ∧ DownOk D i n ∧ (∀ k, n ≤ k → D[k]? = E[k]?) ∧ (i0 < i → 0 < i ∧ i < n ∧ key D ((i - 1) / 2) ≤ key D i) ∧ Chg (SF la cl E) w wr) (fun v _ => 100000 - (Go.RowKit.intOf v).toNat)
  case atStart => exact ⟨i0, E, rfl, Nat.le_refl _, hi, h, List.Perm.refl _, hu, fun _ _ => rfl, fun h => absurd h (Nat.lt_irrefl _), Chg.refl _ _⟩
  case round =>
    obtain ⟨i, D, rfl, hi0, hib, hD, hp, hU, hout, hpar, hc⟩ := hrel
    have hlen := hp.length_eq
    by_cases hj : 2 * i + 1 < n
    · obtain ⟨j1, hj1⟩ : ∃ j1, j1 = 2 * i + 1 := ⟨_, rfl⟩
      rw [← hj1] at hj
      have e1 : 2 * (i : Int) + 1 = (j1 : Int) := by omega
      have J1 := mkHid hj1
      have hDi : i < D.length := by omega
      have hD1 : j1 < D.length := by omega
      have d1 : decide (n ≤ j1) = false := decide_eq_false (by omega)
      have d1' : decide ((n : Int) ≤ (j1 : Int)) = false := decide_eq_false (by omega)
      have d2 : decide ((j1 : Int) < 0) = false := decide_eq_false (by omega)
      have hj1b : j1 < 100000 := by omega
      have mL := meth_less cb 3 la D.length cl wr hD.c3
      -- the lesser child, and what comes of it
      have stop : ∀ J, J < n → 0 < J → (J - 1) / 2 = i → (∀ k, 0 < k → k < n → (k - 1) / 2 = i → key D J ≤ key D k) → ¬ key D J < key D i → (decide (i0 < i) = true → Heap D n) ∧ (decide (i0 < i) = false → UpOk D i0 n) := by
        intro J a1 a2 a3 a4 a5
        have hup : UpOk D i n := down_end hU (fun k k0 kn kp => by have := a4 k k0 kn kp; omega)
        refine ⟨fun h1 => ?_, fun h1 => ?_⟩
        · obtain ⟨h2, h3, h4⟩ := hpar (by simpa using h1)
          intro k k0 kn
          by_cases a : k = i
          · rw [a]; exact h4
          · exact hup.1 k k0 kn a
        · have : i0 = i := by simp at h1; omega
          rw [this]; exact hup
      have goes : ∀ J (hJ : J < D.length), J < n → 0 < J → (J - 1) / 2 = i → (∀ k, 0 < k → k < n → (k - 1) / 2 = i → key D J ≤ key D k) → key D J < key D i →
          (swp D i J hDi hJ).Perm E ∧ DownOk (swp D i J hDi hJ) J n ∧ (∀ k, n ≤ k → (swp D i J hDi hJ)[k]? = E[k]?) ∧ key (swp D i J hDi hJ) ((J - 1) / 2) ≤ key (swp D i J hDi hJ) J := by
        intro J hJ a1 a2 a3 a4 a5
        obtain ⟨b1, b2⟩ := down_swp hU (by omega) a1 a3 a2 a5 a4
        refine ⟨(swp_perm D i J hDi hJ).trans hp, b1, fun k hk => ?_, b2⟩
        rw [← hout k hk]
        unfold swp
        rw [List.getElem?_set_ne (by omega), List.getElem?_set_ne (by omega)]
      have Stop := mkHid stop
      have Goes := mkHid goes
      have HL := mkHid hlen
      have HO := mkHid hout
      clear stop goes hU hout hpar hlen hj1
      by_cases hj2 : j1 + 1 < n
      · have hD2 : j1 + 1 < D.length := by have := HL.out; omega
        have d3 : decide (j1 + 1 < n) = true := decide_eq_true hj2
        have d3' : decide ((j1 : Int) + 1 < (n : Int)) = true := decide_eq_true (by omega)
        by_cases hlt : key D (j1 + 1) < key D j1
        · have hmin : ∀ k, 0 < k → k < n → (k - 1) / 2 = i → key D (j1 + 1) ≤ key D k := fun k k0 kn kp => by
            have : k = j1 ∨ k = j1 + 1 := by have := J1.out; omega
            rcases this with rfl | rfl <;> omega
          have Hm := mkHid hmin
          clear hmin
          by_cases hgo : key D (j1 + 1) < key D i
          · have tok : True := trivial
            go_wp2_with (first | (go_at_call 248; have _t := tok; refine (less_key (j1 + 1) j1 true B cb la cl D wr hD hD2 hD1 (decide_eq_true hlt)).mono ?_; rintro e w2 ⟨rfl, hg2⟩; clear tok; have hE2 := hD.keep hg2; have mL2 := meth_less cb 3 la D.length cl w2 hE2.c3) | (go_at_call 248; refine (less_key (j1 + 1) i true B cb la cl D w2 hE2 hD2 hDi (decide_eq_true hgo)).mono ?_; rintro e w3 ⟨rfl, hg3⟩; have hE3 := hE2.keep hg3; have mS := meth_swap cb 3 la D.length cl w3 hE3.c3) | (go_at_call 249; refine (swap_any i (j1 + 1) B cb la cl D w3 hE3 hDi hD2).mono ?_; rintro e w4 ⟨rfl, hE4, hg4⟩))
            obtain ⟨p1, p2, p3, p4⟩ := Goes.out (j1 + 1) hD2 hj2 (by omega) (by have := J1.out; omega) Hm.out hgo
            have h9 := J1.out
            exact ⟨⟨j1 + 1, _, by first | rfl | go_num, by omega, by omega, hE4, p1, p2, p3, fun _ => ⟨by omega, hj2, p4⟩, ((hc.then hg2).then hg3).trans hg4 (fun _ h _ => h) (fun k hk _ => SF_perm hp k hk)⟩, by simp [Go.RowKit.intOf]; omega⟩
          · have tok : True := trivial
            go_wp2_with (first | (go_at_call 248; have _t := tok; refine (less_key (j1 + 1) j1 true B cb la cl D wr hD hD2 hD1 (decide_eq_true hlt)).mono ?_; rintro e w2 ⟨rfl, hg2⟩; clear tok; have hE2 := hD.keep hg2; have mL2 := meth_less cb 3 la D.length cl w2 hE2.c3) | (go_at_call 248; refine (less_key (j1 + 1) i false B cb la cl D w2 hE2 hD2 hDi (decide_eq_false hgo)).mono ?_; rintro e w3 ⟨rfl, hg3⟩; have hE3 := hE2.keep hg3))
            go_ret
            obtain ⟨p1, p2⟩ := Stop.out (j1 + 1) hj2 (by omega) (by have := J1.out; omega) Hm.out hgo
            exact ⟨decide (i0 < i), D, rfl, hE3, hp, HO.out, p1, p2, (hc.then hg2).then hg3⟩
        · have hmin : ∀ k, 0 < k → k < n → (k - 1) / 2 = i → key D (j1) ≤ key D k := fun k k0 kn kp => by
            have : k = j1 ∨ k = j1 + 1 := by have := J1.out; omega
            rcases this with rfl | rfl <;> omega
          have Hm := mkHid hmin
          clear hmin
          by_cases hgo : key D (j1) < key D i
          · have tok : True := trivial
            go_wp2_with (first | (go_at_call 248; have _t := tok; refine (less_key (j1 + 1) j1 false B cb la cl D wr hD hD2 hD1 (decide_eq_false hlt)).mono ?_; rintro e w2 ⟨rfl, hg2⟩; clear tok; have hE2 := hD.keep hg2; have mL2 := meth_less cb 3 la D.length cl w2 hE2.c3) | (go_at_call 248; refine (less_key (j1) i true B cb la cl D w2 hE2 hD1 hDi (decide_eq_true hgo)).mono ?_; rintro e w3 ⟨rfl, hg3⟩; have hE3 := hE2.keep hg3; have mS := meth_swap cb 3 la D.length cl w3 hE3.c3) | (go_at_call 249; refine (swap_any i (j1) B cb la cl D w3 hE3 hDi hD1).mono ?_; rintro e w4 ⟨rfl, hE4, hg4⟩))
            obtain ⟨p1, p2, p3, p4⟩ := Goes.out (j1) hD1 hj (by omega) (by have := J1.out; omega) Hm.out hgo
            have h9 := J1.out
            exact ⟨⟨j1, _, by first | rfl | go_num, by omega, by omega, hE4, p1, p2, p3, fun _ => ⟨by omega, hj, p4⟩, ((hc.then hg2).then hg3).trans hg4 (fun _ h _ => h) (fun k hk _ => SF_perm hp k hk)⟩, by simp [Go.RowKit.intOf]; omega⟩
          · have tok : True := trivial
            go_wp2_with (first | (go_at_call 248; have _t := tok; refine (less_key (j1 + 1) j1 false B cb la cl D wr hD hD2 hD1 (decide_eq_false hlt)).mono ?_; rintro e w2 ⟨rfl, hg2⟩; clear tok; have hE2 := hD.keep hg2; have mL2 := meth_less cb 3 la D.length cl w2 hE2.c3) | (go_at_call 248; refine (less_key (j1) i false B cb la cl D w2 hE2 hD1 hDi (decide_eq_false hgo)).mono ?_; rintro e w3 ⟨rfl, hg3⟩; have hE3 := hE2.keep hg3))
            go_ret
            obtain ⟨p1, p2⟩ := Stop.out (j1) hj (by omega) (by have := J1.out; omega) Hm.out hgo
            exact ⟨decide (i0 < i), D, rfl, hE3, hp, HO.out, p1, p2, (hc.then hg2).then hg3⟩
      · have d3 : decide (j1 + 1 < n) = false := decide_eq_false hj2
        have d3' : decide ((j1 : Int) + 1 < (n : Int)) = false := decide_eq_false (by omega)
        have hmin : ∀ k, 0 < k → k < n → (k - 1) / 2 = i → key D (j1) ≤ key D k := fun k k0 kn kp => by
          have : k = j1 := by have := J1.out; omega
          rw [this]; exact Nat.le_refl _
        have Hm := mkHid hmin
        clear hmin
        by_cases hgo : key D (j1) < key D i
        · go_wp2_with (first | (go_at_call 248; refine (less_key (j1) i true B cb la cl D wr hD hD1 hDi (decide_eq_true hgo)).mono ?_; rintro e w3 ⟨rfl, hg3⟩; have hE3 := hD.keep hg3; have mS := meth_swap cb 3 la D.length cl w3 hE3.c3) | (go_at_call 249; refine (swap_any i (j1) B cb la cl D w3 hE3 hDi hD1).mono ?_; rintro e w4 ⟨rfl, hE4, hg4⟩))
          obtain ⟨p1, p2, p3, p4⟩ := Goes.out (j1) hD1 hj (by omega) (by have := J1.out; omega) Hm.out hgo
          have h9 := J1.out
          exact ⟨⟨j1, _, by first | rfl | go_num, by omega, by omega, hE4, p1, p2, p3, fun _ => ⟨by omega, hj, p4⟩, ((hc).then hg3).trans hg4 (fun _ h _ => h) (fun k hk _ => SF_perm hp k hk)⟩, by simp [Go.RowKit.intOf]; omega⟩
        · go_wp2_with (first | (go_at_call 248; refine (less_key (j1) i false B cb la cl D wr hD hD1 hDi (decide_eq_false hgo)).mono ?_; rintro e w3 ⟨rfl, hg3⟩; have hE3 := hD.keep hg3))
          go_ret
          obtain ⟨p1, p2⟩ := Stop.out (j1) hj (by omega) (by have := J1.out; omega) Hm.out hgo
          exact ⟨decide (i0 < i), D, rfl, hE3, hp, HO.out, p1, p2, (hc).then hg3⟩
    · have hfin : Heap D n ∨ i0 = i := by
        rcases Nat.lt_or_ge i0 i with h1 | h1
        · left
          obtain ⟨h2, h3, h4⟩ := hpar h1
          intro k k0 kn
          by_cases a : k = i
          · rw [a]; exact h4
          · exact hU.1 k k0 kn a (by omega)
        · right; omega
      have hup : UpOk D i n := down_end hU (fun k k0 kn kp => by omega)
      have Hf := mkHid hfin
      have Hu := mkHid hup
      have Ho := mkHid hout
      clear hfin hup hout hU hpar hlen
      have hd : decide ((n : Int) ≤ 2 * (i : Int) + 1) = true := decide_eq_true (by omega)
      go_wp2_with fail
      go_ret
      exact ⟨decide (i0 < i), D, rfl, hD, hp, Ho.out, fun h1 => Hf.out.resolve_right (by simp at h1; omega), fun h1 => by
        have : i0 = i := by simp at h1; omega
        rw [this]; exact Hu.out, hc⟩
end Go.Proofs.YtoeijomelabbfaaGreatDoor
