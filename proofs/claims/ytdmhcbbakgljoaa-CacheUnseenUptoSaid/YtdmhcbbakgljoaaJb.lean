/- The waiting line: what it is in memory; Less, Swap. -/
import Derived.Test.YtdmhcbbakgljoaaJa
import Derived.RegionTactic
namespace Go.Proofs.Ytdmhcbbakgljoaa
open Go.RowKit
set_option linter.unusedVariables false
set_option linter.unusedSimpArgs false

/-- A block that is held: where it lies, its place, its bytes, whether it is dirty, its last use. -/
structure Ent where
  b : Nat
  pl : Nat
  bs : List UInt8
  dirty : Bool
  used : Nat
def ptrV (e : Ent) : Value := .pointer (some ⟨e.b, 0, none⟩)
def entV (e : Ent) (s : Nat) : List Value := .int .i64 e.pl :: (bts e.bs ++ [.bool e.dirty, .int .u64 e.used, .int .i64 s])
theorem entV_len {e : Ent} {s : Nat} (h : e.bs.length = 256) : (entV e s).length = 260 := by simp [entV, bts_length, h]
theorem entV_pl (e : Ent) (s : Nat) : (entV e s)[0]? = some (.int .i64 e.pl) := rfl
theorem entV_bs {e : Ent} {s : Nat} (h : e.bs.length = 256) (j : Nat) (u : Value) (hu : (bts e.bs)[j]? = some u) : (entV e s)[1 + j]? = some u := by
  have hj : j < (bts e.bs).length := (List.getElem?_eq_some_iff.1 hu).1
  unfold entV
  rw [show 1 + j = j + 1 by omega, List.getElem?_cons_succ, List.getElem?_append_left hj]
  exact hu
theorem entV_dirty {e : Ent} {s : Nat} (h : e.bs.length = 256) : (entV e s)[257]? = some (.bool e.dirty) := by
  unfold entV
  rw [List.getElem?_cons_succ, List.getElem?_append_right (by rw [bts_length]; omega), bts_length, h]
  rfl
theorem entV_used {e : Ent} {s : Nat} (h : e.bs.length = 256) : (entV e s)[258]? = some (.int .u64 e.used) := by
  unfold entV
  rw [List.getElem?_cons_succ, List.getElem?_append_right (by rw [bts_length]; omega), bts_length, h]
  rfl
theorem entV_spot {e : Ent} {s : Nat} (h : e.bs.length = 256) : (entV e s)[259]? = some (.int .i64 s) := by
  unfold entV
  rw [List.getElem?_cons_succ, List.getElem?_append_right (by rw [bts_length]; omega), bts_length, h]
  rfl
theorem entV_setSpot {e : Ent} {s : Nat} (h : e.bs.length = 256) (t : Nat) : (entV e s).set 259 (.int .i64 t) = entV e t := by
  unfold entV
  rw [List.set_cons_succ, List.set_append_right _ _ (by rw [bts_length]; omega), bts_length, h]
  rfl
theorem entV_setUsed {e : Ent} {s : Nat} (h : e.bs.length = 256) (t : Nat) : (entV e s).set 258 (.int .u64 t) = entV { e with used := t } s := by
  unfold entV
  rw [List.set_cons_succ, List.set_append_right _ _ (by rw [bts_length]; omega), bts_length, h]
  rfl
theorem entV_setDirty {e : Ent} {s : Nat} (h : e.bs.length = 256) (t : Bool) : (entV e s).set 257 (.bool t) = entV { e with dirty := t } s := by
  unfold entV
  rw [List.set_cons_succ, List.set_append_right _ _ (by rw [bts_length]; omega), bts_length, h]
  rfl

/-- The line of a cache whose struct lies in block cb: the blocks E, in the heap's order. -/
structure LineAt (w : World) (B cb : Nat) (la : Option Addr) (cl : Nat) (E : List Ent) : Prop where
  c3 : w.cell? ⟨cb, 3, none⟩ = some (.slice la E.length cl)
  f3 : w.frozen? ⟨cb, 3, none⟩ = false
  r : Room w B la E.length cl (E.map ptrV)
  e : ∀ i (h : i < E.length), Blk w E[i].b 68 (entV E[i] i)
  bl : ∀ e ∈ E, e.bs.length = 256
  nd : (E.map Ent.b).Nodup
  nc : ∀ e ∈ E, e.b ≠ cb
  nr : ∀ e ∈ E, e.b ∉ fp la cl
  cr : cb ∉ fp la cl
  eB : ∀ e ∈ E, B ≤ e.b
  cB : B ≤ cb
  sm : E.length ≤ 100000
/-- The blocks of a line. -/
def LF (cb : Nat) (la : Option Addr) (cl : Nat) (E : List Ent) : List Nat := cb :: (fp la cl ++ E.map Ent.b)
theorem LineAt.lt {w : World} {B cb : Nat} {la : Option Addr} {cl : Nat} {E : List Ent} (h : LineAt w B cb la cl E) : ∀ k, k ∈ LF cb la cl E → B ≤ k ∧ k < w.heap.size := by
  intro k hk
  simp only [LF, List.mem_cons, List.mem_append, List.mem_map] at hk
  rcases hk with rfl | hk | ⟨e, he, rfl⟩
  · exact ⟨h.cB, block_lt_of_cell h.c3⟩
  · exact h.r.lt k hk
  · obtain ⟨i, hi, rfl⟩ := List.getElem_of_mem he
    exact ⟨h.eB _ he, (h.e i hi).lt⟩
theorem LineAt.chg {w w' : World} {B cb : Nat} {la : Option Addr} {cl : Nat} {E : List Ent} {S : List Nat} (h : LineAt w B cb la cl E) (c : Chg S w w') (hn : ∀ k, k ∈ LF cb la cl E → k ∉ S) : LineAt w' B cb la cl E :=
  ⟨c.cellv h.c3 (hn cb (by simp [LF])), (c.frozen (p := ⟨cb, 3, none⟩) (show cb < w.heap.size from block_lt_of_cell h.c3) (hn cb (by simp [LF]))).trans h.f3,
   h.r.chg c (fun k hk => hn k (by simp [LF, hk])), fun i hi => (h.e i hi).chg c (hn _ (by simp only [LF, List.mem_cons, List.mem_append, List.mem_map]; exact Or.inr (Or.inr ⟨_, List.getElem_mem hi, rfl⟩))),
   h.bl, h.nd, h.nc, h.nr, h.cr, h.eB, h.cB, h.sm⟩
theorem LineAt.keep {w w' : World} {B cb : Nat} {la : Option Addr} {cl : Nat} {E : List Ent} (h : LineAt w B cb la cl E) (c : Chg [] w w') : LineAt w' B cb la cl E := h.chg c (by simp)
theorem LineAt.cell {w : World} {B cb : Nat} {la : Option Addr} {cl : Nat} {E : List Ent} (h : LineAt w B cb la cl E) (hE : 0 < E.length) :
    ∃ lb lo, la = some ⟨lb, lo, none⟩ ∧ (∀ i (hi : i < E.length), w.cell? ⟨lb, lo + i, none⟩ = some (ptrV E[i]) ∧ w.frozen? ⟨lb, lo + i, none⟩ = false) ∧ lb ∈ fp la cl := by
  have hle := h.r.le
  obtain ⟨lb, lo, rfl, hB, hs, hv⟩ := h.r.at_ (by omega)
  exact ⟨lb, lo, rfl, fun i hi => ⟨hv i _ (by simp [hi]), (hs i (by omega)).2⟩, by rw [fp_some _ _ _ (by omega)]; simp⟩

theorem Chg.drewN (w : World) (n : Nat) : Chg [] w (w.drewN n) := ⟨rfl, rfl, rfl, Nat.le_refl _, fun _ _ _ => rfl⟩
theorem less_raw (lb lo n cl i j bi bj a b : Nat) (w : World) (hi : i < n) (hj : j < n) (hsm : n ≤ 100000)
    (ci : w.cell? ⟨lb, lo + i, none⟩ = some (.pointer (some ⟨bi, 0, none⟩))) (cj : w.cell? ⟨lb, lo + j, none⟩ = some (.pointer (some ⟨bj, 0, none⟩)))
    (ui : w.cell? ⟨bi, 258, none⟩ = some (.int .u64 a)) (uj : w.cell? ⟨bj, 258, none⟩ = some (.int .u64 b)) :
    Calls Try.prog 96 #[.slice (some ⟨lb, lo, none⟩) n cl, .int .i64 i, .int .i64 j] w fun e w' => e = .returned (.bool (decide (a < b))) ∧ ∃ q, w' = w.drewN q := by
  go_enter Try.func96, Try.ntmps96
  go_wp2
  go_quiet (fail)
  go_wp2
  go_ret
  exact ⟨by simp, nq, rfl⟩
theorem less_any (i j : Nat) (B cb : Nat) (la : Option Addr) (cl : Nat) (E : List Ent) (w : World) (h : LineAt w B cb la cl E) (hi : i < E.length) (hj : j < E.length) :
    Calls Try.prog 96 #[.slice la E.length cl, .int .i64 i, .int .i64 j] w fun e w' => e = .returned (.bool (decide (E[i].used < E[j].used))) ∧ Chg [] w w' := by
  obtain ⟨lb, lo, rfl, hc, _⟩ := h.cell (by omega)
  refine (less_raw lb lo E.length cl i j _ _ _ _ w hi hj h.sm (hc i hi).1 (hc j hj).1 ((h.e i hi).cell 258 _ (entV_used (h.bl _ (List.getElem_mem hi)))) ((h.e j hj).cell 258 _ (entV_used (h.bl _ (List.getElem_mem hj))))).mono ?_
  rintro e w' ⟨he, q, rfl⟩
  exact ⟨he, Chg.drewN _ _⟩

theorem swap_raw (lb lo n cl i j bi bj : Nat) (x y : Value) (w : World) (hi : i < n) (hj : j < n) (hsm : n ≤ 100000) (hbi : bi ≠ lb) (hbj : bj ≠ lb) (hij : i = j ↔ bi = bj)
    (ci : w.cell? ⟨lb, lo + i, none⟩ = some (.pointer (some ⟨bi, 0, none⟩))) (cj : w.cell? ⟨lb, lo + j, none⟩ = some (.pointer (some ⟨bj, 0, none⟩)))
    (fi : w.frozen? ⟨lb, lo + i, none⟩ = false) (fj : w.frozen? ⟨lb, lo + j, none⟩ = false)
    (ui : w.cell? ⟨bi, 259, none⟩ = some x) (uj : w.cell? ⟨bj, 259, none⟩ = some y) (gi : w.frozen? ⟨bi, 259, none⟩ = false) (gj : w.frozen? ⟨bj, 259, none⟩ = false) :
    Calls Try.prog 97 #[.slice (some ⟨lb, lo, none⟩) n cl, .int .i64 i, .int .i64 j] w fun e w' => e = .returned (.tuple #[]) ∧
      w' = ((((w.setCell ⟨lb, lo + i, none⟩ (.pointer (some ⟨bj, 0, none⟩))).setCell ⟨lb, lo + j, none⟩ (.pointer (some ⟨bi, 0, none⟩))).drew.setCell ⟨bj, 259, none⟩ (.int .i64 i)).setCell ⟨bi, 259, none⟩ (.int .i64 j)).drew := by
  obtain ⟨v', hy'⟩ := cell?_setCell_some (w := w) (p := ⟨lb, lo + i, none⟩) (x := .pointer (some ⟨bj, 0, none⟩)) (q := ⟨lb, lo + j, none⟩) cj
  go_enter Try.func97, Try.ntmps97
  go_wp2
  go_region
  have h1 : Chg [lb] w ((w.setCell ⟨lb, lo + i, none⟩ (.pointer (some ⟨bj, 0, none⟩))).setCell ⟨lb, lo + j, none⟩ (.pointer (some ⟨bi, 0, none⟩))).drew :=
    (((Chg.setCell w ⟨lb, lo + i, none⟩ _).trans (Chg.setCell _ ⟨lb, lo + j, none⟩ _) (fun _ h _ => h) (fun _ h _ => h)).then (Chg.drew [] _))
  have k1 : (((w.setCell ⟨lb, lo + i, none⟩ (.pointer (some ⟨bj, 0, none⟩))).setCell ⟨lb, lo + j, none⟩ (.pointer (some ⟨bi, 0, none⟩))).drew).cell? ⟨lb, lo + i, none⟩ = some (.pointer (some ⟨bj, 0, none⟩)) := by
    show ((w.setCell ⟨lb, lo + i, none⟩ (.pointer (some ⟨bj, 0, none⟩))).setCell ⟨lb, lo + j, none⟩ (.pointer (some ⟨bi, 0, none⟩))).cell? _ = _
    by_cases hb : i = j
    · have e := hij.1 hb
      subst hb e
      exact World.cell?_setCell_same _ _ _ hy'
    · rw [World.cell?_setCell_other _ _ _ _ (by simp [hb])]
      exact World.cell?_setCell_same _ _ _ ci
  have k2 : (((w.setCell ⟨lb, lo + i, none⟩ (.pointer (some ⟨bj, 0, none⟩))).setCell ⟨lb, lo + j, none⟩ (.pointer (some ⟨bi, 0, none⟩))).drew).cell? ⟨lb, lo + j, none⟩ = some (.pointer (some ⟨bi, 0, none⟩)) := by
    show ((w.setCell ⟨lb, lo + i, none⟩ (.pointer (some ⟨bj, 0, none⟩))).setCell ⟨lb, lo + j, none⟩ (.pointer (some ⟨bi, 0, none⟩))).cell? _ = _
    exact World.cell?_setCell_same _ _ _ hy'
  have ui1 := h1.cellv ui (by simpa using hbi)
  have uj1 := h1.cellv uj (by simpa using hbj)
  have gi1 := (h1.frozen (p := ⟨bi, 259, none⟩) (block_lt_of_cell ui) (by simpa using hbi)).trans gi
  have gj1 := (h1.frozen (p := ⟨bj, 259, none⟩) (block_lt_of_cell uj) (by simpa using hbj)).trans gj
  clear h1 hy' ui uj gi gj ci cj fi fj
  generalize hw1 : ((w.setCell ⟨lb, lo + i, none⟩ (.pointer (some ⟨bj, 0, none⟩))).setCell ⟨lb, lo + j, none⟩ (.pointer (some ⟨bi, 0, none⟩))).drew = w1 at *
  have HW := mkHid hw1
  clear hw1
  obtain ⟨y2, hy2⟩ := cell?_setCell_some (w := w1) (p := ⟨bj, 259, none⟩) (x := .int .i64 i) (q := ⟨bi, 259, none⟩) ui1
  go_wp2
  go_region
  go_end0
  exact ⟨rfl, by rw [← HW.out]⟩
/-- Two of a list change their spots. -/
def swp (E : List Ent) (i j : Nat) (hi : i < E.length) (hj : j < E.length) : List Ent := (E.set i E[j]).set j E[i]
theorem swp_len (E : List Ent) (i j : Nat) (hi : i < E.length) (hj : j < E.length) : (swp E i j hi hj).length = E.length := by simp [swp]
theorem swp_get (E : List Ent) (i j : Nat) (hi : i < E.length) (hj : j < E.length) (k : Nat) (hk : k < (swp E i j hi hj).length) : (swp E i j hi hj)[k] = if k = j then E[i] else if k = i then E[j] else E[k]'(by simpa [swp] using hk) := by
  simp only [swp, List.getElem_set, eq_comm (a := k)]
theorem swp_perm (E : List Ent) (i j : Nat) (hi : i < E.length) (hj : j < E.length) : (swp E i j hi hj).Perm E := by
  exact List.set_set_perm hi hj
theorem bs_inj {E : List Ent} (h : (E.map Ent.b).Nodup) {i j : Nat} (hi : i < E.length) (hj : j < E.length) : i = j ↔ E[i].b = E[j].b := by
  constructor
  · rintro rfl; rfl
  · intro e
    exact (List.getElem_inj (xs := E.map Ent.b) (i := i) (j := j) (h₀ := by simpa using hi) (h₁ := by simpa using hj) h).1 (by simpa using e)
theorem swap_any (i j : Nat) (B cb : Nat) (la : Option Addr) (cl : Nat) (E : List Ent) (w : World) (h : LineAt w B cb la cl E) (hi : i < E.length) (hj : j < E.length) :
    Calls Try.prog 97 #[.slice la E.length cl, .int .i64 i, .int .i64 j] w fun e w' => e = .returned (.tuple #[]) ∧ LineAt w' B cb la cl (swp E i j hi hj) ∧ Chg (fp la cl ++ E.map Ent.b) w w' := by
  obtain ⟨lb, lo, rfl, hc, hlb⟩ := h.cell (by omega)
  have e1 := h.e i hi
  have e2 := h.e j hj
  have l1 := h.bl _ (List.getElem_mem hi)
  have l2 := h.bl _ (List.getElem_mem hj)
  have n1 : E[i].b ≠ lb := fun e => h.nr _ (List.getElem_mem hi) (by rw [e]; exact hlb)
  have n2 : E[j].b ≠ lb := fun e => h.nr _ (List.getElem_mem hj) (by rw [e]; exact hlb)
  have hij := bs_inj h.nd hi hj
  refine (swap_raw lb lo E.length cl i j E[i].b E[j].b _ _ w hi hj h.sm n1 n2 hij (hc i hi).1 (hc j hj).1 (hc i hi).2 (hc j hj).2 (e1.cell 259 _ (entV_spot l1)) (e2.cell 259 _ (entV_spot l2)) (e1.frozen 259) (e2.frozen 259)).mono ?_
  rintro e w' ⟨he, rfl⟩
  have g1 : Chg [lb] w ((w.setCell ⟨lb, lo + i, none⟩ (.pointer (some ⟨E[j].b, 0, none⟩))).setCell ⟨lb, lo + j, none⟩ (.pointer (some ⟨E[i].b, 0, none⟩))).drew :=
    (((Chg.setCell w ⟨lb, lo + i, none⟩ _).trans (Chg.setCell _ ⟨lb, lo + j, none⟩ _) (fun _ h _ => h) (fun _ h _ => h)).then (Chg.drew [] _))
  have r1 := ((h.r.set i hi (ptrV E[j])).set j hj (ptrV E[i])).chg (Chg.drew [] _) (by simp)
  rw [← List.map_set, ← List.map_set] at r1
  have c3 := g1.cellv h.c3 (by simp; rintro rfl; exact h.cr hlb)
  have f3 := (g1.frozen (p := ⟨cb, 3, none⟩) (block_lt_of_cell h.c3) (by simp; rintro rfl; exact h.cr hlb)).trans h.f3
  have eE : ∀ k (hk : k < E.length), Blk _ E[k].b 68 (entV E[k] k) := fun k hk => (h.e k hk).chg g1 (by simp; intro e; exact h.nr _ (List.getElem_mem hk) (by rw [e]; exact hlb))
  have hfp : fp (some ⟨lb, lo, none⟩) cl = [lb] := by have := h.r.le; exact fp_some _ _ _ (by omega)
  have g1' : Chg (fp (some ⟨lb, lo, none⟩) cl) w ((w.setCell ⟨lb, lo + i, none⟩ (.pointer (some ⟨E[j].b, 0, none⟩))).setCell ⟨lb, lo + j, none⟩ (.pointer (some ⟨E[i].b, 0, none⟩))).drew := by rw [hfp]; exact g1
  change Room ((w.setCell ⟨lb, lo + i, none⟩ (.pointer (some ⟨E[j].b, 0, none⟩))).setCell ⟨lb, lo + j, none⟩ (.pointer (some ⟨E[i].b, 0, none⟩))).drew _ _ _ _ _ at r1
  generalize ((w.setCell ⟨lb, lo + i, none⟩ (.pointer (some ⟨E[j].b, 0, none⟩))).setCell ⟨lb, lo + j, none⟩ (.pointer (some ⟨E[i].b, 0, none⟩))).drew = w1 at *
  have g2 : Chg (E.map Ent.b) w1 ((w1.setCell ⟨E[j].b, 259, none⟩ (.int .i64 i)).setCell ⟨E[i].b, 259, none⟩ (.int .i64 j)).drew :=
    ((Chg.setCell w1 ⟨E[j].b, 259, none⟩ _).trans (Chg.setCell _ ⟨E[i].b, 259, none⟩ _) (fun k hk _ => by simp at hk; rw [hk]; exact List.mem_map.2 ⟨_, List.getElem_mem hj, rfl⟩) (fun k hk _ => by simp at hk; rw [hk]; exact List.mem_map.2 ⟨_, List.getElem_mem hi, rfl⟩)).then (Chg.drew [] _)
  have hmem : ∀ e ∈ swp E i j hi hj, e ∈ E := fun e he => (swp_perm E i j hi hj).mem_iff.1 he
  refine ⟨he, ⟨?_, ?_, ?_, ?_, fun e he => h.bl e (hmem e he), ?_, fun e he => h.nc e (hmem e he), fun e he => h.nr e (hmem e he), h.cr, fun e he => h.eB e (hmem e he), h.cB, by rw [swp_len]; exact h.sm⟩, g1'.trans g2 (fun k hk _ => by simp [hk]) (fun k hk _ => List.mem_append_right _ hk)⟩
  · rw [swp_len]
    exact g2.cellv c3 (fun hm => by obtain ⟨e, he, e2⟩ := List.mem_map.1 hm; exact h.nc e he e2)
  · exact (g2.frozen (p := ⟨cb, 3, none⟩) (block_lt_of_cell c3) (fun hm => by obtain ⟨e, he, e2⟩ := List.mem_map.1 hm; exact h.nc e he e2)).trans f3
  · rw [swp_len]
    exact r1.chg g2 (fun k hk hm => by obtain ⟨e, he, e2⟩ := List.mem_map.1 hm; exact h.nr e he (by rw [e2]; exact hk))
  · intro k hk
    have hk2 : k < E.length := by rw [swp_len] at hk; exact hk
    rw [swp_get]
    have a1 : Blk (w1.setCell ⟨E[j].b, 259, none⟩ (.int .i64 i)) E[j].b 68 (entV E[j] i) := by
      have := (eE j hj).set1 259 (.int .i64 i)
      rwa [entV_setSpot l2] at this
    split
    · rename_i hkj
      subst hkj
      have a2 : ∃ s : Nat, Blk (w1.setCell ⟨E[k].b, 259, none⟩ (.int .i64 i)) E[i].b 68 (entV E[i] s) := by
        by_cases hik : i = k
        · subst hik
          exact ⟨_, a1⟩
        · exact ⟨_, (eE i hi).chg (Chg.setCell w1 ⟨E[k].b, 259, none⟩ _) (by simp; exact fun e => hik (hij.2 e))⟩
      obtain ⟨s, a2⟩ := a2
      have := a2.set1 259 (.int .i64 k)
      rw [entV_setSpot l1] at this
      exact this.chg (Chg.drew [] _) (by simp)
    · split
      · rename_i hkj hki
        subst hki
        exact (a1.chg (Chg.setCell _ ⟨E[k].b, 259, none⟩ _) (by simp; exact fun e => hkj (hij.2 e.symm))).chg (Chg.drew [] _) (by simp)
      · rename_i hkj hki
        exact (((eE k hk2).chg (Chg.setCell w1 ⟨E[j].b, 259, none⟩ _) (by simp; exact fun e => hkj ((bs_inj h.nd hk2 hj).2 e))).chg (Chg.setCell _ ⟨E[i].b, 259, none⟩ _) (by simp; exact fun e => hki ((bs_inj h.nd hk2 hi).2 e))).chg (Chg.drew [] _) (by simp)
  · exact ((swp_perm E i j hi hj).map _).nodup_iff.2 h.nd
end Go.Proofs.Ytdmhcbbakgljoaa
