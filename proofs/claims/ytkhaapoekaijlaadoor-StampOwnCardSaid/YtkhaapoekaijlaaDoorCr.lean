/- An array of 32 numbers of 32 bits, by value and in a block of its own. -/
import Derived.Test.YtkhaapoekaijlaaDoorV
import Derived.Test.YtkhaapoekaijlaaDoorCm
import Derived.Deep.WholeRow
namespace Go.Proofs.YtkhaapoekaijlaaDoor
open Go.RowKit
set_option linter.unusedVariables false
set_option linter.unusedSimpArgs false

/-! ### the array -/
def arr (g : Nat → BitVec 32) : Array Value := ((List.range 32).map fun j => Value.int .u32 (v32 (g j))).toArray
theorem arr_size (g : Nat → BitVec 32) : (arr g).size = 32 := by simp [arr]
theorem arr_one (g : Nat → BitVec 32) : (arr g).all (·.oneCell') = true := by
  rw [Array.all_eq_true_iff_forall_mem]
  intro x hx
  simp [arr] at hx
  obtain ⟨j, _, rfl⟩ := hx
  rfl
theorem arr_get (g : Nat → BitVec 32) (j : Nat) (h : j < 32) : (arr g)[j]? = some (.int .u32 (v32 (g j))) := by
  simp [arr, h]
theorem arr_congr {g h : Nat → BitVec 32} (e : ∀ j, j < 32 → g j = h j) : arr g = arr h := by
  unfold arr
  congr 1
  refine List.map_congr_left fun j hj => ?_
  rw [e j (by simpa using hj)]
def upd (g : Nat → BitVec 32) (i : Nat) (x : BitVec 32) : Nat → BitVec 32 := fun j => if j = i then x else g j
theorem arr_set (g : Nat → BitVec 32) (i : Nat) (x : BitVec 32) (h : i < 32) : (arr g).set! i (.int .u32 (v32 x)) = arr (upd g i x) := by
  apply Array.ext_getElem?
  intro j
  rw [Array.set!_eq_setIfInBounds, Array.getElem?_setIfInBounds]
  by_cases hj : i = j
  · subst hj
    rw [if_pos rfl, arr_get _ _ h, if_pos (by rw [arr_size]; exact h)]
    simp [upd]
  · rw [if_neg hj]
    by_cases hj2 : j < 32
    · rw [arr_get _ _ hj2, arr_get _ _ hj2]
      simp [upd, Ne.symm hj]
    · have : ∀ g : Nat → BitVec 32, (arr g)[j]? = none := fun g => Array.getElem?_eq_none (by rw [arr_size]; omega)
      rw [this, this]

/-- The block b is the array, of type t. -/
def Row (w : World) (b : Nat) (t : TypeId) (g : Nat → BitVec 32) : Prop := w.heap[b]? = some (.cells (arr g) t (0, 0))
theorem Row.lt {w : World} {b : Nat} {t : TypeId} {g : Nat → BitVec 32} (h : Row w b t g) : b < w.heap.size := by
  rcases Nat.lt_or_ge b w.heap.size with h1 | h1
  · exact h1
  · unfold Row at h
    rw [Array.getElem?_eq_none h1] at h
    cases h
theorem Row.chg {S : List Nat} {w w' : World} {b : Nat} {t : TypeId} {g : Nat → BitVec 32} (h : Row w b t g) (c : Chg S w w') (hn : b ∉ S) : Row w' b t g := by
  unfold Row
  rw [c.block b h.lt hn]
  exact h
theorem Row.cell {w : World} {b : Nat} {t : TypeId} {g : Nat → BitVec 32} (h : Row w b t g) (j : Nat) (hj : j < 32) : w.cell? ⟨b, j, none⟩ = some (.int .u32 (v32 (g j))) := by
  rw [cell_of_row w b j _ t _ h, arr_get g j hj]
theorem Row.frozen {w : World} {b : Nat} {t : TypeId} {g : Nat → BitVec 32} (h : Row w b t g) (j : Nat) : w.frozen? ⟨b, j, none⟩ = false := frozen_of_row w b j _ t h
theorem Row.set {w : World} {b : Nat} {t : TypeId} {g : Nat → BitVec 32} (h : Row w b t g) (i : Nat) (x : BitVec 32) (hi : i < 32) : Row (w.setCell ⟨b, i, none⟩ (.int .u32 (v32 x))) b t (upd g i x) := by
  have e := arr_set g i x hi
  rw [Array.set!_eq_setIfInBounds] at e
  rw [setCell_eq_setRow w b i _ t (0, 0) _ h]
  simp only [e]
  exact setRow_heap w b _ _ t (0, 0) h

section
variable {P : Program} {ops : Array Oper} {rest : List Oper} {o : Oper} {a : Act} {w : World} {Q : Exit → Act → World → Prop}
/-- What the program's table says of the array's type. -/
def ArrT (P : Program) (t e : TypeId) : Prop := P.underlying t = some (.array 32 e) ∧ (P.info? t).map (fun i => (i.zero, i.size)) = some (some (.agg (arr fun _ => 0#32)), 32)
theorem ArrT.size {t e : TypeId} (h : ArrT P t e) (g : Nat → BitVec 32) : (P.info? t).map (·.size) = some (arr g).size := by
  rw [arr_size]; exact (zero_of_info h.2).2
/-- var s T. -/
theorem wpList_alloc_arr (hg : o.guard = none) (t e : TypeId) (ho : o.op = .alloc t) (T : ArrT P t e)
    (hK : ∀ w', Row w' w.heap.size t (fun _ => 0#32) → Chg [] w w' → w'.heap.size = w.heap.size + 1 → wpList P ops Q rest (a.put o.dst (.pointer (some ⟨w.heap.size, 0, none⟩))) w') : wpList P ops Q (o :: rest) a w := by
  refine wpList_plain hg fun K hK2 => ?_
  unfold Oper.wp execOp
  simp only [ho, Sem.run_bind, Instr.alloc, newVar, newRow, (zero_of_info T.2).1, run_newObj_alloc, Sem.run_pure, Result.andThen_ok, Value.cells]
  exact hK2 _ _ (hK (w.alloc (.cells (arr fun _ => 0#32) t)) (heap_alloc_last w _) (Chg.alloc [] w _) (by simp))
/-- a value's own block. -/
theorem wpList_box_arr (hg : o.guard = none) (t : TypeId) (x : Operand) (ho : o.op = .box t x) (g : Nat → BitVec 32) (hx : a.eval x = .agg (arr g))
    (hK : ∀ w', Row w' w.heap.size t g → Chg [] w w' → w'.heap.size = w.heap.size + 1 → wpList P ops Q rest (a.put o.dst (.pointer (some ⟨w.heap.size, 0, none⟩))) w') : wpList P ops Q (o :: rest) a w := by
  refine wpList_plain hg fun K hK2 => ?_
  unfold Oper.wp execOp
  simp only [ho, hx, Sem.run_bind, Instr.box, newVar, newRow, run_newObj_alloc, Sem.run_pure, Result.andThen_ok, Value.cells]
  exact hK2 _ _ (hK (w.alloc (.cells (arr g) t)) (heap_alloc_last w _) (Chg.alloc [] w _) (by simp))
theorem wpList_load_arr (hgd : o.guard = none) (t e : TypeId) (x : Operand) (ho : o.op = .load t x) (T : ArrT P t e) (b : Nat) (g : Nat → BitVec 32) (h : Row w b t g) (hx : a.eval x = .pointer (some ⟨b, 0, none⟩))
    (hK : wpList P ops Q rest (a.put o.dst (.agg (arr g))) w) : wpList P ops Q (o :: rest) a w :=
  wpList_load_row hgd t x ho b hx t _ _ _ h T.1 rfl (T.size g) hK
theorem Chg.setRow (w : World) (b : Nat) (cs : Array Value) : Chg [b] w (w.setRow b cs) :=
  ⟨rfl, rfl, rfl, by simp, fun k _ hn => setRow_other w b k cs (by simpa using hn)⟩
theorem wpList_store_arr (hgd : o.guard = none) (t e : TypeId) (x y : Operand) (ho : o.op = .store t x y) (T : ArrT P t e) (b : Nat) (g g' : Nat → BitVec 32) (h : Row w b t g) (hx : a.eval x = .pointer (some ⟨b, 0, none⟩)) (hy : a.eval y = .agg (arr g'))
    (hK : ∀ w', Row w' b t g' → Chg [b] w w' → wpList P ops Q rest (a.put o.dst undef) w') : wpList P ops Q (o :: rest) a w := by
  refine wpList_plain hgd fun K hK2 => wp_store_row t x y ho b (arr g') hx hy t (arr g) h (T.size g') (by rw [arr_size, arr_size]) (arr_one g') (hK2 _ _ (hK _ ?_ (Chg.setRow w b _)))
  exact setRow_heap w b _ _ t (0, 0) h
end
end Go.Proofs.YtkhaapoekaijlaaDoor
