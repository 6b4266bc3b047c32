/- The reference: the node that Take builds. -/
import Derived.Test.YtbopfpdgoalfoaaDoorNg
namespace Go.Proofs.YtbopfpdgoalfoaaDoor
open Go.RowKit
set_option linter.unusedVariables false
set_option linter.unusedSimpArgs false

/-- The node that a Take builds at nb, and the place R of its answer. -/
structure NBlk (w : World) (R nb B : Nat) (lf : Bool) (ka : Option Addr) (kc : Nat) (va : Option Addr) (vc : Nat) (K V : List Nat) : Prop where
  c0 : w.cell? ⟨nb, 0, none⟩ = some (.bool lf)
  c1 : w.cell? ⟨nb, 1, none⟩ = some (.slice ka K.length kc)
  c2 : w.cell? ⟨nb, 2, none⟩ = some (.slice va V.length vc)
  f1 : w.frozen? ⟨nb, 1, none⟩ = false
  f2 : w.frozen? ⟨nb, 2, none⟩ = false
  rk : Room w B ka K.length kc (uvs K)
  rv : Room w B va V.length vc (uvs V)
  dj : ∀ q, q ∈ fp ka kc → q ∉ fp va vc
  th : w.there R 0 3
  hR : R < B
  hn : nb < B
  ne : R ≠ nb
  hB : B ≤ w.heap.size
theorem setN_other {w : World} {b i j : Nat} {u v : Value} (h : w.cell? ⟨b, j, none⟩ = some v) (hne : j ≠ i) : (w.setCell ⟨b, i, none⟩ u).cell? ⟨b, j, none⟩ = some v := by
  rw [World.cell?_setCell_other _ _ _ _ (by simp [hne])]
  exact h
/-- A key more. -/
theorem NBlk.key {w w3 : World} {R nb B : Nat} {lf : Bool} {ka : Option Addr} {kc : Nat} {va : Option Addr} {vc : Nat} {K V : List Nat} (h : NBlk w R nb B lf ka kc va vc K V) {x : Nat} {a' : Option Addr} {c' : Nat} (r : Room w3 B a' (K.length + 1) c' (uvs K ++ [.int .u64 (x : Int)])) (g : Chg (fp ka kc) w w3) (hf : fp a' c' = fp ka kc ∨ ∃ k, w.heap.size ≤ k ∧ fp a' c' = [k]) :
    NBlk (w3.setCell ⟨nb, 1, none⟩ (.slice a' (K.length + 1) c')) R nb B lf a' c' va vc (K ++ [x]) V := by
  have g4 : Chg [nb] w3 (w3.setCell ⟨nb, 1, none⟩ (.slice a' (K.length + 1) c')) := Chg.setCell w3 ⟨nb, 1, none⟩ _
  have d1 : nb ∉ fp ka kc := fun hm => by have := (h.rk.lt nb hm).1; have := h.hn; omega
  have d2 : R ∉ fp ka kc := fun hm => by have := (h.rk.lt R hm).1; have := h.hR; omega
  have d3 : nb ∉ fp a' c' := fun hm => by have := (r.lt nb hm).1; have := h.hn; omega
  have d4 : nb ∉ fp va vc := fun hm => by have := (h.rv.lt nb hm).1; have := h.hn; omega
  have e : (K ++ [x]).length = K.length + 1 := by simp
  have eu : uvs (K ++ [x]) = uvs K ++ [.int .u64 (x : Int)] := by rw [uvs_append]; rfl
  refine ⟨setN_other (g.cellv h.c0 d1) (by decide), ?_, setN_other (g.cellv h.c2 d1) (by decide), ?_, ?_, ?_, ?_, ?_, there_chg (there_chg h.th g d2) g4 (by simpa using h.ne), h.hR, h.hn, h.ne, Nat.le_trans h.hB (Nat.le_trans g.size g4.size)⟩
  · rw [e]; exact World.cell?_setCell_same _ _ _ (g.cellv h.c1 d1)
  · rw [World.frozen?_setCell]; exact (g.frozen (p := ⟨nb, 1, none⟩) (block_lt_of_cell h.c1) d1).trans h.f1
  · rw [World.frozen?_setCell]; exact (g.frozen (p := ⟨nb, 2, none⟩) (block_lt_of_cell h.c2) d1).trans h.f2
  · rw [e, eu]; exact r.chg g4 (fun k hk hm => by simp at hm; subst hm; exact d3 hk)
  · exact (h.rv.chg g (fun k hk hm => h.dj k hm hk)).chg g4 (fun k hk hm => by simp at hm; subst hm; exact d4 hk)
  · intro q hq
    rcases hf with e1 | ⟨k, h1, e1⟩
    · rw [e1] at hq; exact h.dj q hq
    · rw [e1] at hq; simp at hq; subst hq
      exact fun hm => by have := (h.rv.lt _ hm).2; omega
/-- A value more. -/
theorem NBlk.value {w w3 : World} {R nb B : Nat} {lf : Bool} {ka : Option Addr} {kc : Nat} {va : Option Addr} {vc : Nat} {K V : List Nat} (h : NBlk w R nb B lf ka kc va vc K V) {x : Nat} {a' : Option Addr} {c' : Nat} (r : Room w3 B a' (V.length + 1) c' (uvs V ++ [.int .u64 (x : Int)])) (g : Chg (fp va vc) w w3) (hf : fp a' c' = fp va vc ∨ ∃ k, w.heap.size ≤ k ∧ fp a' c' = [k]) :
    NBlk (w3.setCell ⟨nb, 2, none⟩ (.slice a' (V.length + 1) c')) R nb B lf ka kc a' c' K (V ++ [x]) := by
  have g4 : Chg [nb] w3 (w3.setCell ⟨nb, 2, none⟩ (.slice a' (V.length + 1) c')) := Chg.setCell w3 ⟨nb, 2, none⟩ _
  have d1 : nb ∉ fp va vc := fun hm => by have := (h.rv.lt nb hm).1; have := h.hn; omega
  have d2 : R ∉ fp va vc := fun hm => by have := (h.rv.lt R hm).1; have := h.hR; omega
  have d3 : nb ∉ fp a' c' := fun hm => by have := (r.lt nb hm).1; have := h.hn; omega
  have d4 : nb ∉ fp ka kc := fun hm => by have := (h.rk.lt nb hm).1; have := h.hn; omega
  have e : (V ++ [x]).length = V.length + 1 := by simp
  have eu : uvs (V ++ [x]) = uvs V ++ [.int .u64 (x : Int)] := by rw [uvs_append]; rfl
  refine ⟨setN_other (g.cellv h.c0 d1) (by decide), setN_other (g.cellv h.c1 d1) (by decide), ?_, ?_, ?_, ?_, ?_, ?_, there_chg (there_chg h.th g d2) g4 (by simpa using h.ne), h.hR, h.hn, h.ne, Nat.le_trans h.hB (Nat.le_trans g.size g4.size)⟩
  · rw [e]; exact World.cell?_setCell_same _ _ _ (g.cellv h.c2 d1)
  · rw [World.frozen?_setCell]; exact (g.frozen (p := ⟨nb, 1, none⟩) (block_lt_of_cell h.c1) d1).trans h.f1
  · rw [World.frozen?_setCell]; exact (g.frozen (p := ⟨nb, 2, none⟩) (block_lt_of_cell h.c2) d1).trans h.f2
  · exact (h.rk.chg g (fun k hk hm => h.dj k hk hm)).chg g4 (fun k hk hm => by simp at hm; subst hm; exact d4 hk)
  · rw [e, eu]; exact r.chg g4 (fun k hk hm => by simp at hm; subst hm; exact d3 hk)
  · intro q hq
    rcases hf with e1 | ⟨k, h1, e1⟩
    · rw [e1]; exact h.dj q hq
    · rw [e1]; simp
      exact fun hm => by have := (h.rk.lt _ hq).2; omega
/-- What turned since the call began. -/
theorem NBlk.turned {w0 w w3 : World} {R nb B : Nat} {lf : Bool} {ka : Option Addr} {kc : Nat} {va : Option Addr} {vc : Nat} {K V : List Nat} (h : NBlk w R nb B lf ka kc va vc K V) (g0 : Chg [] w0 w) (hw : w0.heap.size ≤ nb) {S : List Nat} (g : Chg S w w3) (hS : ∀ k, k ∈ S → w0.heap.size ≤ k) (i : Nat) (v : Value) : Chg [] w0 (w3.setCell ⟨nb, i, none⟩ v) :=
  Chg.trans (T := [nb]) (show Chg [] w0 w3 from g0.trans g (by simp) (fun k hk hlt => by have := hS k hk; omega)) (Chg.setCell w3 ⟨nb, i, none⟩ v) (by simp) (fun k hk hlt => by simp at hk; omega)
theorem start_node (w : World) (lf : Bool) : NBlk ((w.alloc (.cells #[.bool false, .slice none 0 0, .slice none 0 0] 24)).alloc (.cells #[.bool lf, .slice none 0 0, .slice none 0 0] 24)) w.heap.size (w.heap.size + 1) (w.heap.size + 2) lf none 0 none 0 [] [] := by
  have e : (w.alloc (.cells #[.bool false, .slice none 0 0, .slice none 0 0] 24)).heap.size = w.heap.size + 1 := by simp
  have hl := heap_alloc_last (w.alloc (.cells #[.bool false, .slice none 0 0, .slice none 0 0] 24)) (.cells #[.bool lf, .slice none 0 0, .slice none 0 0] 24)
  rw [e] at hl
  have hc := fun j => cell_of_row _ (w.heap.size + 1) j _ _ _ hl
  have hf := fun j => frozen_of_row _ (w.heap.size + 1) j _ _ hl
  have ht : (w.alloc (.cells #[.bool false, .slice none 0 0, .slice none 0 0] 24)).there w.heap.size 0 3 := fun j hj => by
    refine ⟨?_, frozen_of_row _ _ _ _ _ (heap_alloc_last w _)⟩
    rw [cell_of_row _ _ _ _ _ _ (heap_alloc_last w _)]
    match j, hj with
    | 0, _ => rfl
    | 1, _ => rfl
    | 2, _ => rfl
  refine ⟨by rw [hc]; rfl, by rw [hc]; rfl, by rw [hc]; rfl, hf 1, hf 2, Room.nil _ _ _, Room.nil _ _ _, fun q hq => by simp [fp_zero] at hq, there_chg ht (Chg.alloc [] _ _) (by simp), by omega, by omega, by omega, by simp⟩
theorem NBlk.res {w wr : World} {R nb B : Nat} {lf : Bool} {ka : Option Addr} {kc : Nat} {va : Option Addr} {vc : Nat} {K V : List Nat} (h : NBlk wr R nb B lf ka kc va vc K V) (hR : R = w.heap.size) (hb : w.heap.size ≤ B) (x y z : Value) : NodeRes w.heap.size (.returned (.tuple #[.agg #[.bool lf, .slice ka K.length kc, .slice va V.length vc], .int .i64 0])) (((wr.setCell ⟨R, 0, none⟩ x).setCell ⟨R, 1, none⟩ y).setCell ⟨R, 2, none⟩ z) (0, lf, K, V) := by
  have g : Chg [R] wr (((wr.setCell ⟨R, 0, none⟩ x).setCell ⟨R, 1, none⟩ y).setCell ⟨R, 2, none⟩ z) := ((Chg.setCell wr ⟨R, 0, none⟩ x).trans (Chg.setCell _ ⟨R, 1, none⟩ y) (fun _ h _ => h) (fun _ h _ => h)).trans (Chg.setCell _ ⟨R, 2, none⟩ z) (fun _ h _ => h) (fun _ h _ => h)
  have d1 : R ∉ fp ka kc := fun hm => by have := (h.rk.lt R hm).1; have := h.hR; omega
  have d2 : R ∉ fp va vc := fun hm => by have := (h.rv.lt R hm).1; have := h.hR; omega
  exact ⟨ka, kc, va, vc, rfl, (h.rk.mono hb).chg g (fun k hk hm => by simp at hm; subst hm; exact d1 hk), (h.rv.mono hb).chg g (fun k hk hm => by simp at hm; subst hm; exact d2 hk), h.dj⟩
theorem three (w0 wr : World) (R : Nat) (hR : w0.heap.size ≤ R) (g : Chg [] w0 wr) (x y z : Value) : Chg [] w0 (((wr.setCell ⟨R, 0, none⟩ x).setCell ⟨R, 1, none⟩ y).setCell ⟨R, 2, none⟩ z) := by
  have g2 : Chg [R] wr (((wr.setCell ⟨R, 0, none⟩ x).setCell ⟨R, 1, none⟩ y).setCell ⟨R, 2, none⟩ z) := ((Chg.setCell wr ⟨R, 0, none⟩ x).trans (Chg.setCell _ ⟨R, 1, none⟩ y) (fun _ h _ => h) (fun _ h _ => h)).trans (Chg.setCell _ ⟨R, 2, none⟩ z) (fun _ h _ => h) (fun _ h _ => h)
  exact g.trans g2 (by simp) (fun k hk hlt => by simp at hk; omega)
end Go.Proofs.YtbopfpdgoalfoaaDoor
