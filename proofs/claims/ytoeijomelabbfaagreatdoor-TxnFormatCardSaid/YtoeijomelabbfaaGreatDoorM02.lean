/- Texts W, T, Q, Qa, Da of the library, joined. -/
import Derived.Test.YtoeijomelabbfaaGreatDoorM01
import Derived.Deep.MidRow
import Derived.Lib.SliceRun
import Derived.Laws.IdiomCopy
import Derived.Test.YtoeijomelabbfaaGreatDoorRows
import Derived.WalkKit
import Derived.Deep.QuietTactic
import Derived.BigQuiet
import Derived.Deep.RegionHeld3
import Derived.Deep.RegionLaw
import Derived.Deep.DeepCutAuto
import Derived.Deep.DrawnRows
import Derived.WalkSpells
import Derived.WalkLawsBesides
/- Values of many cells, in a block of their own or in the midst of one; copy and clear said by cells. No program is named here. -/
namespace Go.Proofs.YtoeijomelabbfaaGreatDoor
set_option maxRecDepth 200000
open Go.RowKit
set_option linter.unusedVariables false
set_option linter.unusedSimpArgs false

/-- The block b is the cells cs, of type t; none of it is frozen. -/
def Blk (w : World) (b : Nat) (t : TypeId) (cs : List Value) : Prop := w.heap[b]? = some (.cells cs.toArray t (0, 0))
theorem Blk.lt {w : World} {b : Nat} {t : TypeId} {cs : List Value} (h : Blk w b t cs) : b < w.heap.size := by
  rcases Nat.lt_or_ge b w.heap.size with h1 | h1
  · exact h1
  · unfold Blk at h
    rw [Array.getElem?_eq_none h1] at h
    cases h
theorem Blk.chg {S : List Nat} {w w' : World} {b : Nat} {t : TypeId} {cs : List Value} (h : Blk w b t cs) (c : Chg S w w') (hn : b ∉ S) : Blk w' b t cs := by
  unfold Blk
  rw [c.block b h.lt hn]
  exact h
theorem Blk.keep {w w' : World} {b : Nat} {t : TypeId} {cs : List Value} (h : Blk w b t cs) (c : Chg [] w w') : Blk w' b t cs := h.chg c (by simp)
theorem Blk.cell {w : World} {b : Nat} {t : TypeId} {cs : List Value} (h : Blk w b t cs) (j : Nat) (u : Value) (hj : cs[j]? = some u) : w.cell? ⟨b, j, none⟩ = some u := by
  rw [cell_of_row w b j _ t _ h]
  simpa using hj
theorem Blk.frozen {w : World} {b : Nat} {t : TypeId} {cs : List Value} (h : Blk w b t cs) (j : Nat) : w.frozen? ⟨b, j, none⟩ = false := frozen_of_row w b j _ t h
theorem Blk.range {w : World} {b : Nat} {t : TypeId} {cs : List Value} (h : Blk w b t cs) : w.rangeAt b 0 cs := fun j v hv => by rw [Nat.zero_add]; exact h.cell j v hv
theorem Blk.there {w : World} {b : Nat} {t : TypeId} {cs : List Value} (h : Blk w b t cs) (o n : Nat) (hn : o + n ≤ cs.length) : w.there b o n := fun j hj =>
  ⟨by rw [h.cell (o + j) cs[o + j] (by simp)]; rfl, h.frozen _⟩
theorem Blk.set1 {w : World} {b : Nat} {t : TypeId} {cs : List Value} (h : Blk w b t cs) (i : Nat) (v : Value) : Blk (w.setCell ⟨b, i, none⟩ v) b t (cs.set i v) := by
  unfold Blk
  rw [setCell_eq_setRow w b i _ t (0, 0) _ h]
  rw [setRow_heap w b _ _ t (0, 0) h]
  simp
theorem Blk.sets {b : Nat} {t : TypeId} : ∀ (vs : List Value) (o : Nat) (w : World) (cs : List Value), Blk w b t cs → o + vs.length ≤ cs.length → Blk (w.setCells b o vs) b t (cs.take o ++ (vs ++ cs.drop (o + vs.length)))
  | [], o, w, cs, h, _ => by simpa [World.setCells] using h
  | v :: r, o, w, cs, h, hl => by
    simp at hl
    have ih := Blk.sets r (o + 1) _ _ (h.set1 o v) (by simp; omega)
    have e : (cs.set o v).take (o + 1) ++ (r ++ (cs.set o v).drop (o + 1 + r.length)) = cs.take o ++ (v :: r ++ cs.drop (o + (v :: r).length)) := by
      rw [List.take_set, List.drop_set_of_lt (by omega), List.take_succ_eq_append_getElem (by omega), List.set_append_right _ _ (by simp [Nat.min_le_left])]
      simp
      rw [show min o cs.length = o by omega, Nat.sub_self]
      simp
      congr 1; omega
    rw [e] at ih
    exact ih
theorem size_setCells (b : Nat) : ∀ (vs : List Value) (o : Nat) (w : World), (w.setCells b o vs).heap.size = w.heap.size
  | [], _, _ => rfl
  | v :: r, o, w => by
    have := size_setCells b r (o + 1) (w.setCell ⟨b, o, none⟩ v)
    simpa [World.setCells] using this
theorem range_chg {S : List Nat} {w w' : World} {b o : Nat} {cs : List Value} (h : w.rangeAt b o cs) (c : Chg S w w') (hn : b ∉ S) : w'.rangeAt b o cs := fun j v hv => c.cellv (h j v hv) hn
theorem there_chg {S : List Nat} {w w' : World} {b o n : Nat} (h : w.there b o n) (c : Chg S w w') (hn : b ∉ S) : w'.there b o n := fun j hj => by
  obtain ⟨u, hu⟩ := Option.isSome_iff_exists.1 (h j hj).1
  exact ⟨by rw [c.cellv hu hn]; rfl, by rw [c.frozen (block_lt_of_cell hu) hn]; exact (h j hj).2⟩
theorem Room.there {w : World} {B b o n c : Nat} {xs : List Value} (h : Room w B (some ⟨b, o, none⟩) n c xs) (i m : Nat) (hi : i + m ≤ c) : w.there b (o + i) m := fun j hj => by
  obtain ⟨b', o', e, _, hs, _⟩ := h.at_ (by omega)
  cases e
  rw [Nat.add_assoc]
  exact hs (i + j) (by omega)
theorem RoomZ.there {z : Nat} {w : World} {B b o n c : Nat} {xs : List Value} (h : RoomZ z w B (some ⟨b, o, none⟩) n c xs) (i m : Nat) (hm : 0 < m) (hi : i + m ≤ c * z) : w.there b (o + i) m := fun j hj => by
  have hc : 0 < c := by
    rcases Nat.eq_zero_or_pos c with h0 | h0
    · subst h0; omega
    · exact h0
  obtain ⟨b', o', e, _, _, hs, _⟩ := h.at_ hc
  cases e
  rw [Nat.add_assoc]
  exact hs (i + j) (by omega)
/-- Cells of a row are written over by others. -/
theorem Room.sets {w : World} {B b o n c : Nat} {xs : List Value} (h : Room w B (some ⟨b, o, none⟩) n c xs) (vs : List Value) (i : Nat) (hi : i + vs.length ≤ n) :
    Room (w.setCells b (o + i) vs) B (some ⟨b, o, none⟩) n c (xs.take i ++ (vs ++ xs.drop (i + vs.length))) := by
  have hl := h.len
  have hle := h.le
  refine ⟨by simp; omega, h.le, h.max, fun hc => ?_⟩
  obtain ⟨b', o', e, hB, hs, hv⟩ := h.at_ hc
  cases e
  have hin := World.cell?_setCells_in b vs (o + i) w (fun k hk => by rw [Nat.add_assoc]; exact (hs (i + k) (by omega)).1)
  refine ⟨b, o, rfl, hB, fun j hj => ?_, fun j u hu => ?_⟩
  · obtain ⟨h1, h2⟩ := hs j hj
    refine ⟨?_, by rw [World.frozen?_setCells]; exact h2⟩
    by_cases hij : i ≤ j ∧ j < i + vs.length
    · have := hin (j - i) (by omega)
      rw [show o + i + (j - i) = o + j by omega] at this
      rw [this]; rfl
    · rw [World.cell?_setCells_out b vs (o + i) w _ (fun _ _ => by simp; omega)]
      exact h1
  · by_cases h1 : j < i
    · rw [List.getElem?_append_left (by simp; omega), List.getElem?_take, if_pos h1] at hu
      rw [World.cell?_setCells_out b vs (o + i) w _ (fun _ _ => by simp; omega)]
      exact hv j u hu
    · rw [List.getElem?_append_right (by simp; omega)] at hu
      have e1 : (xs.take i).length = i := by simp; omega
      rw [e1] at hu
      by_cases h2 : j < i + vs.length
      · rw [List.getElem?_append_left (by omega)] at hu
        have := hin (j - i) (by omega)
        rw [show o + i + (j - i) = o + j by omega] at this
        rw [this]
        rw [List.getElem?_eq_getElem (by omega)] at hu
        exact hu
      · rw [List.getElem?_append_right (by omega), List.getElem?_drop] at hu
        rw [World.cell?_setCells_out b vs (o + i) w _ (fun _ _ => by simp; omega)]
        refine hv j u ?_
        rw [← hu]
        congr 1
        omega

theorem made_room (w : World) (e : TypeId) (z : Value) (n : Nat) (hn : n ≤ maxLen) : Room (w.alloc (.cells (madeCells #[z] n) e)) w.heap.size (some ⟨w.heap.size, 0, none⟩) n n (List.replicate n z) := by
  have ht := toList_madeCells_one z n
  refine ⟨by simp, Nat.le_refl _, hn, fun _ => ⟨w.heap.size, 0, rfl, Nat.le_refl _, fun j hj => ⟨?_, frozen_of_row _ _ _ _ _ (heap_alloc_last w _)⟩, fun j u hu => ?_⟩⟩
  · rw [cell_of_row _ _ _ _ _ _ (heap_alloc_last w _)]
    have : 0 + j < (madeCells #[z] n).size := by rw [size_madeCells]; omega
    rw [Array.getElem?_eq_getElem this]
    rfl
  · rw [cell_of_row _ _ _ _ _ _ (heap_alloc_last w _), Nat.zero_add, ← Array.getElem?_toList, ht]
    exact hu
theorem run_make_k {P : Program} {t e : TypeId} {bytes : Nat} (T : Elt P t e bytes) (z : Value) (hz : (P.info? e).map (·.zero) = some (some z)) (h1 : z.cells = #[z]) (n : Nat) (hn : n * bytes ≤ 281474976710656) (hn2 : n ≤ maxLen) (u : World) :
    (Instr.makeSlice t (.int .i64 (n : Int)) (.int .i64 (n : Int))).run P u = .ok (.slice (some ⟨u.heap.size, 0, none⟩) n n) (u.alloc (.cells (madeCells #[z] n) e)) := by
  obtain ⟨a1, i, v, h2, h3, h4, h5, h6⟩ := T
  have hv : v = z := by
    rw [h2] at hz
    simp [h3] at hz
    exact hz
  subst hv
  have hml : maxLen = 9223372036854775807 := rfl
  have h := run_make (P := P) u t e i v a1 h2 h3 .i64 .i64 n n (by omega) (by omega) (by rw [h5, Int.mul_comm, ← Int.natCast_mul]; omega) (by omega)
  rw [h1] at h
  simpa [h4] using h
/-- What the table says of a type of many cells: its zero value's cells. -/
def WideT (P : Program) (t : TypeId) (zs : List Value) : Prop := (∃ d, P.underlying t = some d ∧ d.isRow = true) ∧ (P.info? t).map (fun i => (i.zero, i.size)) = some (some (.agg zs.toArray), zs.length)
theorem WideT.size {P : Program} {t : TypeId} {zs : List Value} (h : WideT P t zs) {n : Nat} (hn : n = zs.length) : (P.info? t).map (·.size) = some n := by rw [hn]; exact (zero_of_info h.2).2

/-! ### a load of many cells, for the walk: 'attribute [local go_sem ↓] wide65', 'attribute [local go_sem] run_wide' -/
def thereB (w : World) (b o n : Nat) : Bool := (List.range n).all fun j => (w.cell? ⟨b, o + j, none⟩).isSome
def cellsAt (w : World) (b o n : Nat) : List Value := (List.range n).map fun j => (w.cell? ⟨b, o + j, none⟩).getD undef
def loadFar (P : Program) (w : World) (b o n : Nat) : Result (Array Value) := Sem.run P (loadCells ⟨b, o, none⟩ n) w
theorem loadCells_wide {P : Program} (w : World) (b o n : Nat) : Sem.run P (loadCells ⟨b, o, none⟩ n) w = if thereB w b o n = true then .ok (cellsAt w b o n).toArray w else loadFar P w b o n := by
  split
  · rename_i h
    have := run_loadCells_list (P := P) w ⟨b, o, none⟩ (cellsAt w b o n) (fun j v hv => by
      rw [Addr.add_mid]
      have hj := (List.getElem?_eq_some_iff.1 hv).1
      simp [cellsAt] at hj
      have h1 := List.all_eq_true.1 h j (by simpa using hj)
      obtain ⟨u, hu⟩ := Option.isSome_iff_exists.1 h1
      simp [cellsAt, hj, hu] at hv
      rw [hu, hv])
    simpa [cellsAt] using this
  · rfl
def wideLoad (a : Addr) (n : Nat) : Sem (Array Value) := loadCellsFrom a 0 n #[]
theorem wide65 (a : Addr) : loadCellsFrom a 0 65 #[] = wideLoad a 65 := rfl
theorem run_wide {P : Program} (w : World) (b o n : Nat) : Sem.run P (wideLoad ⟨b, o, none⟩ n) w = if thereB w b o n = true then .ok (cellsAt w b o n).toArray w else loadFar P w b o n := loadCells_wide w b o n
theorem there_of_range {w : World} {b o n : Nat} {cs : List Value} (h : w.rangeAt b o cs) (hn : cs.length = n) : thereB w b o n = true ∧ cellsAt w b o n = cs := by
  subst hn
  have key : ∀ j (hj : j < cs.length), w.cell? ⟨b, o + j, none⟩ = some cs[j] := fun j hj => h j _ (by simp)
  refine ⟨List.all_eq_true.2 fun j hj => by rw [key j (by simpa using hj)]; rfl, ?_⟩
  apply List.ext_getElem
  · simp [cellsAt]
  · intro i h1 h2
    simp [cellsAt, key i h2]
section
variable {P : Program} {ops : Array Oper} {rest : List Oper} {o : Oper} {a : Act} {w : World} {K : Act → World → Prop} {Q : Exit → Act → World → Prop} {E : Prop}
/-- var s T. -/
theorem wpList_alloc_w (hg : o.guard = none) (t : TypeId) (ho : o.op = .alloc t) (zs : List Value) (T : WideT P t zs)
    (hK : ∀ w', Blk w' w.heap.size t zs → Chg [] w w' → w'.heap.size = w.heap.size + 1 → wpList P ops Q rest (a.put o.dst (.pointer (some ⟨w.heap.size, 0, none⟩))) w') : wpList P ops Q (o :: rest) a w := by
  refine wpList_plain hg fun K hK2 => ?_
  unfold Oper.wp execOp
  simp only [ho, Sem.run_bind, Instr.alloc, newVar, newRow, (zero_of_info T.2).1, run_newObj_alloc, Sem.run_pure, Result.andThen_ok, Value.cells]
  exact hK2 _ _ (hK (w.alloc (.cells zs.toArray t)) (heap_alloc_last w _) (Chg.alloc [] w _) (by simp))
/-- a value's own block. -/
theorem wpList_box_w (hg : o.guard = none) (t : TypeId) (x : Operand) (ho : o.op = .box t x) (cs : List Value) (hx : a.eval x = .agg cs.toArray)
    (hK : ∀ w', Blk w' w.heap.size t cs → Chg [] w w' → w'.heap.size = w.heap.size + 1 → wpList P ops Q rest (a.put o.dst (.pointer (some ⟨w.heap.size, 0, none⟩))) w') : wpList P ops Q (o :: rest) a w := by
  refine wpList_plain hg fun K hK2 => ?_
  unfold Oper.wp execOp
  simp only [ho, hx, Sem.run_bind, Instr.box, newVar, newRow, run_newObj_alloc, Sem.run_pure, Result.andThen_ok, Value.cells]
  exact hK2 _ _ (hK (w.alloc (.cells cs.toArray t)) (heap_alloc_last w _) (Chg.alloc [] w _) (by simp))
theorem wpList_build_w (hg : o.guard = none) (t : TypeId) (parts : Array (Nat × Operand)) (ho : o.op = .build t parts) (cs : List Value) (hb : P.built t (parts.map fun (i, x) => (i, a.eval x)).toList = some cs.toArray)
    (hK : wpList P ops Q rest (a.put o.dst (.agg cs.toArray)) w) : wpList P ops Q (o :: rest) a w :=
  wpList_build hg t parts ho (by rw [hb]; rfl) (by rw [hb]; exact hK)
theorem wpList_load_w (hgd : o.guard = none) (t : TypeId) (x : Operand) (ho : o.op = .load t x) (zs : List Value) (T : WideT P t zs) (b of : Nat) (cs : List Value) (hc : w.rangeAt b of cs) (hl : cs.length = zs.length) (hx : a.eval x = .pointer (some ⟨b, of, none⟩))
    (hK : wpList P ops Q rest (a.put o.dst (.agg cs.toArray)) w) : wpList P ops Q (o :: rest) a w := by
  obtain ⟨⟨d, h1, h2⟩, h3⟩ := T
  exact wpList_load_mid hgd t x ho b of hx cs d hc h1 h2 (by rw [hl]; exact (zero_of_info h3).2) hK
/-- The whole block is written. -/
theorem wpList_store_w (hgd : o.guard = none) (t : TypeId) (x y : Operand) (ho : o.op = .store t x y) (zs : List Value) (T : WideT P t zs) (b : Nat) (cs cs' : List Value) (h : Blk w b t cs) (hl : cs.length = zs.length) (hl' : cs'.length = zs.length) (h1 : ∀ u ∈ cs', u.oneCell' = true)
    (hx : a.eval x = .pointer (some ⟨b, 0, none⟩)) (hy : a.eval y = .agg cs'.toArray)
    (hK : ∀ w', Blk w' b t cs' → Chg [b] w w' → w'.heap.size = w.heap.size → wpList P ops Q rest (a.put o.dst undef) w') : wpList P ops Q (o :: rest) a w := by
  refine wpList_store_mid hgd t x y ho b 0 cs'.toArray hx hy (by simpa using h.there 0 cs'.length (by omega)) (by simpa using T.size hl') (all_oneCell_toArray h1) (hK _ ?_ (Chg.setCells b _ 0 w) (size_setCells b _ 0 w))
  have := Blk.sets cs' 0 w cs h (by omega)
  have e : cs.drop (0 + cs'.length) = [] := List.drop_eq_nil_of_le (by omega)
  rw [e] at this
  simpa using this
/-! ### copy -/
theorem run_copy_k (dT sT ty e : TypeId) (hu : P.underlying dT = some (.slice e)) (hs : (P.info? e).map (·.size) = some 1) (b of dLen dCap : Nat) (ax : Option Addr) (sLen sCap : Nat) (cs : List Value)
    (hx : Reads w ax cs) (hn : cs.length = Nat.min sLen dLen) (ht : w.there b of cs.length) (h1 : ∀ v ∈ cs, v.oneCell' = true) :
    (Builtin.copy_ #[dT, sT] ty #[.slice (some ⟨b, of, none⟩) dLen dCap, .slice ax sLen sCap]).run P w = .ok (goInt cs.length) (w.setCells b of cs) := by
  by_cases h0 : 0 < cs.length
  · obtain ⟨bx, ox, rfl, hc⟩ := hx h0
    exact run_copy_cells w dT sT ty e b of dLen dCap ⟨bx, ox, none⟩ sLen sCap cs hu hs hn (fun j v hv => by rw [Addr.add_lit]; exact hc j v hv) (fun j hj => (ht j hj).1) (fun j hj => (ht j hj).2) h1
  · have : cs = [] := List.eq_nil_of_length_eq_zero (by omega)
    subst this
    exact run_copy_none w dT sT ty e _ _ dLen dCap sLen sCap hu hs (by simpa using hn.symm)
theorem wp_copy_k (d s : Operand) (dT sT e : TypeId) (ho : o.op = .call { callee := .builtin .copy, args := #[d, s], argTypes := #[dT, sT] })
    (hu : P.underlying dT = some (.slice e)) (hs : (P.info? e).map (·.size) = some 1) (b of dLen dCap : Nat) (ax : Option Addr) (sLen sCap : Nat) (cs : List Value) (hd : a.eval d = .slice (some ⟨b, of, none⟩) dLen dCap) (hsv : a.eval s = .slice ax sLen sCap)
    (hx : Reads w ax cs) (hn : cs.length = Nat.min sLen dLen) (ht : w.there b of cs.length) (h1 : ∀ v ∈ cs, v.oneCell' = true)
    (hK : K (a.put o.dst (goInt cs.length)) (w.setCells b of cs)) : Oper.wp P o a w K Q := by
  unfold Oper.wp execOp
  simp only [ho, resolve, invoke, builtin, Sem.run_bind, Sem.run_pure, Result.andThen_ok, List.map_toArray, List.map_cons, List.map_nil, hd, hsv, run_copy_k dT sT o.type e hu hs b of dLen dCap ax sLen sCap cs hx hn ht h1]
  exact hK
theorem wpList_copy_k (hgd : o.guard = none) (d s : Operand) (dT sT e : TypeId) (ho : o.op = .call { callee := .builtin .copy, args := #[d, s], argTypes := #[dT, sT] })
    (hu : P.underlying dT = some (.slice e)) (hs : (P.info? e).map (·.size) = some 1) (b of dLen dCap : Nat) (ax : Option Addr) (sLen sCap : Nat) (cs : List Value) (hd : a.eval d = .slice (some ⟨b, of, none⟩) dLen dCap) (hsv : a.eval s = .slice ax sLen sCap)
    (hx : Reads w ax cs) (hn : cs.length = Nat.min sLen dLen) (ht : w.there b of cs.length) (h1 : ∀ v ∈ cs, v.oneCell' = true)
    (hK : wpList P ops Q rest (a.put o.dst (goInt cs.length)) (w.setCells b of cs)) : wpList P ops Q (o :: rest) a w :=
  wpList_plain hgd fun K hK2 => wp_copy_k d s dT sT e ho hu hs b of dLen dCap ax sLen sCap cs hd hsv hx hn ht h1 (hK2 _ _ hK)
theorem step_copy_k (hgd : o.guard = none) (d s : Operand) (dT sT e : TypeId) (ho : o.op = .call { callee := .builtin .copy, args := #[d, s], argTypes := #[dT, sT] })
    (hu : P.underlying dT = some (.slice e)) (hs : (P.info? e).map (·.size) = some 1) (b of dLen dCap : Nat) (ax : Option Addr) (sLen sCap : Nat) (cs : List Value) (hd : a.eval d = .slice (some ⟨b, of, none⟩) dLen dCap) (hsv : a.eval s = .slice ax sLen sCap)
    (hx : Reads w ax cs) (hn : cs.length = Nat.min sLen dLen) (ht : w.there b of cs.length) (h1 : ∀ v ∈ cs, v.oneCell' = true)
    (hK : K (a.put o.dst (goInt cs.length)) (w.setCells b of cs)) : if Region.wanted o (yielded ops a.tmps) = true then Oper.wp P o a w K Q else E := by
  have hw : Region.wanted o (yielded ops a.tmps) = true := by simp [Region.wanted, hgd]
  rw [if_pos hw]
  exact wp_copy_k d s dT sT e ho hu hs b of dLen dCap ax sLen sCap cs hd hsv hx hn ht h1 hK
/-! ### clear -/
theorem wpList_clear_k (hgd : o.guard = none) (x : Operand) (t e : TypeId) (ho : o.op = .call { callee := .builtin .clear, args := #[x], argTypes := #[t] })
    (hu : P.underlying t = some (.slice e)) (z : Value) (hz : (P.info? e).map (fun i => (i.zero, i.size)) = some (some z, 1)) (hzc : z.cells = #[z]) (h1 : z.oneCell' = true) (b of n c : Nat) (hn : 0 < n) (hx : a.eval x = .slice (some ⟨b, of, none⟩) n c) (ht : w.there b of n)
    (hK : wpList P ops Q rest (a.put o.dst (.tuple #[])) (w.setCells b of (List.replicate n z))) : wpList P ops Q (o :: rest) a w := by
  refine wpList_plain hgd fun K hK2 => ?_
  unfold Oper.wp execOp
  simp only [ho, resolve, invoke, builtin, Sem.run_bind, Sem.run_pure, Result.andThen_ok, List.map_toArray, List.map_cons, List.map_nil, hx, Lib.run_clear_slice w t e o.type z hu (zero_of_info hz).1 hzc h1 b of n c hn (fun j hj => (ht j hj).1) (fun j hj => (ht j hj).2)]
  exact hK2 _ _ hK
/-! ### append of one element of many cells, where the order is open -/
theorem step_append_zz (hg : o.guard = none) (s x : Operand) (t : TypeId) (ho : o.op = .call { callee := .builtin .append, args := #[s, x], argTypes := #[t, t] })
    (e : TypeId) (z bytes : Nat) (hz0 : 0 < z) (helt : EltZ P t e z bytes)
    (B : Nat) (ao : Option Addr) (n c : Nat) (xs : List Value) (hs : a.eval s = .slice ao n c) (h : RoomZ z w B ao n c xs) (hB : B ≤ w.heap.size)
    (us : Array Value) (cx : Nat) (hxe : a.eval x = .slice (some ⟨w.heap.size, 0, none⟩) 1 cx) (hlen : us.size = z) (hone : ∀ u ∈ us.toList, u.oneCell' = true)
    (h63 : n + 1 ≤ maxLen) (hbytes : (n + 1) * bytes ≤ 140737488355328)
    (hK : ∀ ao' c' w', RoomZ z w' B ao' (n + 1) c' (xs ++ us.toList) → Chg (fp ao c) w w' → (fp ao' c' = fp ao c ∨ ∃ k, w.heap.size ≤ k ∧ fp ao' c' = [k]) → K (a.put o.dst (.slice ao' (n + 1) c')) w') :
    if Region.wanted o (yielded ops a.tmps) = true then Oper.wp P o a (w.alloc (.cells us e)) K Q else E := by
  have hw : Region.wanted o (yielded ops a.tmps) = true := by simp [Region.wanted, hg]
  rw [if_pos hw]
  obtain ⟨ao', c', w', hr, h2, h3, h4⟩ := run_append_z (P := P) (w.alloc (.cells us e)) t o.type e z bytes hz0 helt B ao n c xs (h.chg (Chg.alloc [] w _) (by simp)) (by simp; omega) (some ⟨w.heap.size, 0, none⟩) 1 cx us.toList (Reads.new w us e) (by simp [hlen]) hone h63 hbytes
  unfold Oper.wp execOp
  simp only [ho, resolve, invoke, builtin, Sem.run_bind, Sem.run_pure, Result.andThen_ok, List.map_toArray, List.map_cons, List.map_nil, hs, hxe, hr]
  exact hK _ _ _ h2 ((Chg.alloc [] w _).trans h3 (by simp) (fun k h _ => h)) (h4.imp id fun h => ⟨_, by simp, h⟩)
end
end Go.Proofs.YtoeijomelabbfaaGreatDoor

/- What the program's table says of slices of bytes; make of bytes. -/
namespace Go.Proofs.YtoeijomelabbfaaGreatDoor
set_option maxRecDepth 200000
open Go.RowKit
set_option linter.unusedVariables false

theorem eltB : Elt Tryz.prog 41 5 1 := Elt.mk (z := .int .u8 0) Tryz.underlying41 (by kernel_rfl) (by kernel_rfl)
theorem hmk (n : Nat) (hn : n < 1000) (u : World) : (Instr.makeSlice 41 (.int .i64 n) (.int .i64 n)).run Tryz.prog u = .ok (.slice (some ⟨u.heap.size, 0, none⟩) n n) (u.alloc (.cells (madeCells #[.int .u8 0] n) 5)) := by
  obtain ⟨h1, i, z, h2, h3, h4, h5, h6⟩ := eltB
  have hz : z = .int .u8 0 := by
    have e : (Tryz.prog.info? 5).map (·.zero) = some (some (.int .u8 0)) := by kernel_rfl
    rw [h2] at e
    simp [h3] at e
    exact e
  have h := run_make (P := Tryz.prog) u 41 5 i z h1 h2 h3 .i64 .i64 n n (by omega) (by omega) (by rw [h5]; omega) (by omega)
  rw [hz] at h
  simpa [h4, Value.cells] using h
end Go.Proofs.YtoeijomelabbfaaGreatDoor

/- A disk, as chapter 3 has it: what lasts, what is in flight, the fuse, the power. No program is named here. -/
namespace Go.Proofs.YtoeijomelabbfaaGreatDoor
set_option maxRecDepth 200000
set_option linter.unusedVariables false
set_option linter.unusedSimpArgs false
/-- What a disk of the reference is: what lasts, sector by sector; what is in flight; the fuse; the power; how many blocks. -/
structure RS where
  S : List (List UInt8)
  L : List (Nat × List UInt8)
  left : Nat
  gone : Bool
  count : Nat
/-- Each block has its four sectors. -/
def Whole (st : RS) : Prop := st.S.length = 4 * st.count ∧ st.count ≤ 1024
def whyN (st : RS) (at_ : Int) : Int := if st.gone then 9 else if at_ < 0 ∨ (st.count : Int) ≤ at_ then 6 else 0
/-- The fuse. -/
def burn (st : RS) : Bool × RS := if st.left = 0 then (false, st) else if st.left = 1 then (true, { st with left := 0, gone := true }) else (false, { st with left := st.left - 1 })
def laid (S : List (List UInt8)) (s : Nat) (l : List UInt8) (n : Nat) : List (List UInt8) := S.set s (l.take n ++ (S.getD s []).drop n)
def settle (S : List (List UInt8)) (L : List (Nat × List UInt8)) : List (List UInt8) := L.foldl (fun S f => laid S f.1 f.2 64) S
theorem laid_len (S : List (List UInt8)) (s : Nat) (l : List UInt8) (n : Nat) : (laid S s l n).length = S.length := by simp [laid]
theorem settle_succ (S : List (List UInt8)) (L : List (Nat × List UInt8)) (k : Nat) (h : k < L.length) : settle S (L.take (k + 1)) = laid (settle S (L.take k)) L[k].1 L[k].2 64 := by
  unfold settle
  rw [List.take_succ_eq_append_getElem h, List.foldl_append]
  rfl
def barrier (st : RS) : Int × RS := if st.gone then (9, st) else if (burn st).1 then (9, (burn st).2) else (0, { (burn st).2 with S := settle (burn st).2.S (burn st).2.L, L := [] })
def tear (S : List (List UInt8)) (x : (Nat × List UInt8) × UInt8) : List (List UInt8) := if x.2.toNat = 0 then S else laid S x.1.1 x.1.2 (if x.2.toNat = 1 then 64 else (x.2.toNat - 2) % 65)
def torn (S : List (List UInt8)) (l : List ((Nat × List UInt8) × UInt8)) : List (List UInt8) := l.foldl tear S
theorem torn_succ (S : List (List UInt8)) (l : List ((Nat × List UInt8) × UInt8)) (k : Nat) (h : k < l.length) : torn S (l.take (k + 1)) = tear (torn S (l.take k)) l[k] := by
  unfold torn
  rw [List.take_succ_eq_append_getElem h, List.foldl_append]
  rfl
def crash (st : RS) (picks : List UInt8) : RS := { S := torn st.S (st.L.zip picks), L := [], left := 0, gone := false, count := st.count }
def secOf (b : List UInt8) (k : Nat) : List UInt8 := (b.drop (64 * k)).take 64
def flies (at_ : Nat) (b : List UInt8) (n : Nat) : List (Nat × List UInt8) := (List.range n).map fun k => (4 * at_ + k, secOf b k)
theorem flies_succ (at_ : Nat) (b : List UInt8) (n : Nat) : flies at_ b (n + 1) = flies at_ b n ++ [(4 * at_ + n, secOf b n)] := by
  simp [flies, List.range_succ]
def write (st : RS) (at_ : Int) (b : List UInt8) : Int × RS :=
  if whyN st at_ ≠ 0 then (whyN st at_, st) else if b.length ≠ 256 then (1, st) else if (burn st).1 then (9, (burn st).2)
  else (0, { (burn st).2 with L := (burn st).2.L ++ flies at_.toNat b 4 })
def lastOf (k : Nat) (b : List UInt8) (L : List (Nat × List UInt8)) : List UInt8 := L.foldl (fun b f => if f.1 = k then f.2 else b) b
/-- A sector as it is read. -/
def cur (st : RS) (k : Nat) : List UInt8 := lastOf k (st.S.getD k []) st.L
def reads (st : RS) (at_ n : Nat) : List UInt8 := (List.range n).flatMap fun j => cur st (4 * at_ + j)
theorem reads_succ (st : RS) (at_ n : Nat) : reads st at_ (n + 1) = reads st at_ n ++ cur st (4 * at_ + n) := by simp [reads, List.range_succ]
end Go.Proofs.YtoeijomelabbfaaGreatDoor

/- A disk's sectors in one row of bytes, its writes in one row of cells, the newest write of each sector. No program is named here. -/
namespace Go.Proofs.YtoeijomelabbfaaGreatDoor
set_option maxRecDepth 200000
open Go.RowKit
set_option linter.unusedVariables false
set_option linter.unusedSimpArgs false

theorem flat_get : ∀ (S : List (List UInt8)) (s : Nat) (hs : s < S.length), (∀ l ∈ S, l.length = 64) → (S.flatten.drop (64 * s)).take 64 = S[s]
  | l :: r, 0, _, h => by
    have := h l (by simp)
    simp only [Nat.mul_zero, List.drop_zero, List.flatten_cons, List.getElem_cons_zero]
    rw [← this, List.take_left]
  | l :: r, s + 1, hs, h => by
    have h1 := h l (by simp)
    have ih := flat_get r s (by simpa using hs) (fun m hm => h m (by simp [hm]))
    simp only [List.flatten_cons, List.getElem_cons_succ]
    rw [show 64 * (s + 1) = l.length + 64 * s by omega, List.drop_length_add_append]
    exact ih
theorem flat_set : ∀ (S : List (List UInt8)) (s : Nat) (hs : s < S.length) (m : List UInt8), (∀ l ∈ S, l.length = 64) → (S.set s m).flatten = S.flatten.take (64 * s) ++ (m ++ S.flatten.drop (64 * s + 64))
  | l :: r, 0, _, m, h => by
    have := h l (by simp)
    simp only [List.set_cons_zero, List.flatten_cons, Nat.mul_zero, List.take_zero, List.nil_append, Nat.zero_add]
    rw [← this, List.drop_left]
  | l :: r, s + 1, hs, m, h => by
    have h1 := h l (by simp)
    have ih := flat_set r s (by simpa using hs) m (fun m hm => h m (by simp [hm]))
    simp only [List.set_cons_succ, List.flatten_cons, ih]
    rw [show 64 * (s + 1) = l.length + 64 * s by omega, List.take_length_add_append, Nat.add_assoc, List.drop_length_add_append, List.append_assoc]
theorem laid_mem {S : List (List UInt8)} {s : Nat} {l : List UInt8} {n : Nat} (hS : ∀ m ∈ S, m.length = 64) (hs : s < S.length) (hl : l.length = 64) (hn : n ≤ 64) : ∀ m ∈ laid S s l n, m.length = 64 := by
  intro m hm
  unfold laid at hm
  rcases List.mem_or_eq_of_mem_set hm with h | rfl
  · exact hS m h
  · have : (S.getD s []).length = 64 := by
      rw [List.getD_eq_getElem?_getD, List.getElem?_eq_getElem hs]
      exact hS _ (List.getElem_mem hs)
    simp only [List.length_append, List.length_take, List.length_drop, this, hl]
    omega
theorem flat_laid {S : List (List UInt8)} {s : Nat} {l : List UInt8} {n : Nat} (hS : ∀ m ∈ S, m.length = 64) (hs : s < S.length) (hl : l.length = 64) (hn : n ≤ 64) :
    (laid S s l n).flatten = S.flatten.take (64 * s) ++ (l.take n ++ S.flatten.drop (64 * s + n)) := by
  unfold laid
  rw [flat_set S s hs _ hS]
  congr 1
  rw [List.append_assoc]
  congr 1
  have e : S.getD s [] = (S.flatten.drop (64 * s)).take 64 := by
    rw [flat_get S s hs hS, List.getD_eq_getElem?_getD, List.getElem?_eq_getElem hs]
    rfl
  rw [e, List.drop_take, List.drop_drop]
  have e2 : S.flatten.drop (64 * s + 64) = (S.flatten.drop (64 * s + n)).drop (64 - n) := by rw [List.drop_drop]; congr 1; omega
  rw [e2, List.take_append_drop]
theorem laid_none (S : List (List UInt8)) (s : Nat) (l : List UInt8) (hs : s < S.length) : laid S s l 0 = S := by
  unfold laid
  simp only [List.take_zero, List.nil_append, List.drop_zero]
  rw [List.getD_eq_getElem?_getD, List.getElem?_eq_getElem hs]
  simp

/-! ### writes in one row -/
def flyV (f : Nat × List UInt8) : List Value := .int .i64 f.1 :: bts f.2
def flyC (L : List (Nat × List UInt8)) : List Value := L.flatMap flyV
theorem flyV_one (f : Nat × List UInt8) : ∀ u ∈ flyV f, u.oneCell' = true := by
  intro u hu
  rcases List.mem_cons.1 hu with rfl | hu
  · rfl
  · exact bts_one _ u hu
theorem flyV_len {f : Nat × List UInt8} (h : f.2.length = 64) : (flyV f).length = 65 := by simp [flyV, bts_length, h]
theorem flyC_snoc (L : List (Nat × List UInt8)) (f : Nat × List UInt8) : flyC (L ++ [f]) = flyC L ++ flyV f := by simp [flyC]
theorem flyC_get : ∀ (L : List (Nat × List UInt8)) (k : Nat) (hk : k < L.length), (∀ f ∈ L, f.2.length = 64) → ∀ (j : Nat) (u : Value), (flyV L[k])[j]? = some u → (flyC L)[k * 65 + j]? = some u
  | f :: r, 0, _, h, j, u, hu => by
    have h1 : j < (flyV f).length := (List.getElem?_eq_some_iff.1 hu).1
    show (flyV f ++ flyC r)[0 * 65 + j]? = some u
    rw [show 0 * 65 + j = j by omega, List.getElem?_append_left h1]
    exact hu
  | f :: r, k + 1, hk, h, j, u, hu => by
    have h1 := flyV_len (h f (by simp))
    show (flyV f ++ flyC r)[(k + 1) * 65 + j]? = some u
    rw [List.getElem?_append_right (by omega), h1, show (k + 1) * 65 + j - 65 = k * 65 + j by omega]
    exact flyC_get r k (by simpa using hk) (fun m hm => h m (by simp [hm])) j u hu

/-! ### the newest write of a sector -/
def newR : List (Nat × List UInt8) → Nat → Nat
  | [], _ => 0
  | f :: r, s => if f.1 = s then r.length + 1 else newR r s
def newOf (L : List (Nat × List UInt8)) (s : Nat) : Nat := newR L.reverse s
theorem newOf_nil (s : Nat) : newOf [] s = 0 := rfl
theorem newOf_snoc (L : List (Nat × List UInt8)) (f : Nat × List UInt8) (s : Nat) : newOf (L ++ [f]) s = if f.1 = s then L.length + 1 else newOf L s := by simp [newOf, newR]
theorem lastOf_snoc (k : Nat) (b : List UInt8) (L : List (Nat × List UInt8)) (f : Nat × List UInt8) : lastOf k b (L ++ [f]) = if f.1 = k then f.2 else lastOf k b L := by simp [lastOf, List.foldl_append]
theorem newR_parts (s : Nat) : ∀ (R : List (Nat × List UInt8)), (newR R s = 0 ∧ ∀ b, lastOf s b R.reverse = b) ∨ ∃ n l, newR R s = n + 1 ∧ R.reverse[n]? = some (s, l) ∧ ∀ b, lastOf s b R.reverse = l
  | [] => Or.inl ⟨rfl, fun _ => rfl⟩
  | f :: r => by
    by_cases h : f.1 = s
    · refine Or.inr ⟨r.length, f.2, by simp [newR, h], ?_, fun b => ?_⟩
      · rw [List.reverse_cons, List.getElem?_append_right (by simp)]
        simp [← h]
      · rw [List.reverse_cons, lastOf_snoc, if_pos h]
    · rcases newR_parts s r with ⟨h1, h2⟩ | ⟨n, l, h1, h2, h3⟩
      · exact Or.inl ⟨by simp [newR, h, h1], fun b => by rw [List.reverse_cons, lastOf_snoc, if_neg h]; exact h2 b⟩
      · refine Or.inr ⟨n, l, by simp [newR, h, h1], ?_, fun b => by rw [List.reverse_cons, lastOf_snoc, if_neg h]; exact h3 b⟩
        rw [List.reverse_cons, List.getElem?_append_left (List.getElem?_eq_some_iff.1 h2).1]
        exact h2
theorem newOf_parts (L : List (Nat × List UInt8)) (s : Nat) : (newOf L s = 0 ∧ ∀ b, lastOf s b L = b) ∨ ∃ n l, newOf L s = n + 1 ∧ L[n]? = some (s, l) ∧ ∀ b, lastOf s b L = l := by
  have := newR_parts s L.reverse
  simp only [List.reverse_reverse] at this
  exact this
def newC (n : Nat) (L : List (Nat × List UInt8)) : List Value := (List.range n).map fun s => .int .i64 (newOf L s : Nat)
theorem newC_len (n : Nat) (L : List (Nat × List UInt8)) : (newC n L).length = n := by simp [newC]
theorem newC_get (n : Nat) (L : List (Nat × List UInt8)) (s : Nat) (h : s < n) : (newC n L)[s]? = some (.int .i64 (newOf L s : Nat)) := by simp [newC, h]
theorem newC_nil (n : Nat) : newC n [] = List.replicate n (.int .i64 0) := by
  apply List.ext_getElem?
  intro i
  by_cases h : i < n
  · rw [newC_get n [] i h]
    simp [h, newOf_nil]
  · rw [List.getElem?_eq_none (by rw [newC_len]; omega), List.getElem?_eq_none (by simp; omega)]
theorem newC_snoc (n : Nat) (L : List (Nat × List UInt8)) (f : Nat × List UInt8) : (newC n L).set f.1 (.int .i64 ((L.length + 1 : Nat) : Int)) = newC n (L ++ [f]) := by
  apply List.ext_getElem?
  intro i
  by_cases h : i < n
  · rw [newC_get n _ i h, newOf_snoc]
    by_cases hf : f.1 = i
    · subst hf
      rw [List.getElem?_set_self (by rw [newC_len]; exact h), if_pos rfl]
    · rw [List.getElem?_set_ne hf, newC_get n L i h, if_neg hf]
  · rw [List.getElem?_eq_none (by rw [List.length_set, newC_len]; omega), List.getElem?_eq_none (by rw [newC_len]; omega)]
end Go.Proofs.YtoeijomelabbfaaGreatDoor

/- The program's disk: what it is in memory. -/
namespace Go.Proofs.YtoeijomelabbfaaGreatDoor
set_option maxRecDepth 200000
open Go.RowKit
set_option linter.unusedVariables false
set_option linter.unusedSimpArgs false

/-- Where a disk's two rows lie that never move. -/
structure DG where
  lb : Nat
  lo : Nat
  cl : Nat
  nb : Nat
  no : Nat
  cn : Nat
structure DevAt (w : World) (B : Nat) (db : Nat) (g : DG) (fa : Option Addr) (cf : Nat) (st : RS) : Prop where
  c0 : w.cell? ⟨db, 0, none⟩ = some (.slice (some ⟨g.lb, g.lo, none⟩) (64 * st.S.length) g.cl)
  c1 : w.cell? ⟨db, 1, none⟩ = some (.slice fa st.L.length cf)
  c2 : w.cell? ⟨db, 2, none⟩ = some (.slice (some ⟨g.nb, g.no, none⟩) st.S.length g.cn)
  c3 : w.cell? ⟨db, 3, none⟩ = some (.int .i64 st.left)
  c4 : w.cell? ⟨db, 4, none⟩ = some (.bool st.gone)
  fz : ∀ j, j < 5 → w.frozen? ⟨db, j, none⟩ = false
  rS : Room w B (some ⟨g.lb, g.lo, none⟩) (64 * st.S.length) g.cl (bts st.S.flatten)
  rL : RoomZ 65 w B fa st.L.length cf (flyC st.L)
  rN : Room w B (some ⟨g.nb, g.no, none⟩) st.S.length g.cn (newC st.S.length st.L)
  d1 : db ≠ g.lb
  d2 : db ≠ g.nb
  d3 : g.lb ≠ g.nb
  f1 : db ∉ fp fa cf
  f2 : g.lb ∉ fp fa cf
  f3 : g.nb ∉ fp fa cf
  dB : B ≤ db
  lS : ∀ l ∈ st.S, l.length = 64
  lL : ∀ f ∈ st.L, f.2.length = 64 ∧ f.1 < st.S.length
  lft : st.left < 9223372036854775808
  pos : 0 < st.S.length
/-- The blocks of a disk. -/
def DF (db : Nat) (g : DG) (fa : Option Addr) (cf : Nat) : List Nat := db :: g.lb :: g.nb :: fp fa cf
theorem DevAt.lt {w : World} {B db : Nat} {g : DG} {fa : Option Addr} {cf : Nat} {st : RS} (h : DevAt w B db g fa cf st) : ∀ k, k ∈ DF db g fa cf → B ≤ k ∧ k < w.heap.size := by
  intro k hk
  have hp := h.pos
  have e1 := h.rS.le
  have e2 := h.rN.le
  simp only [DF, List.mem_cons] at hk
  rcases hk with rfl | rfl | rfl | hk
  · exact ⟨h.dB, block_lt_of_cell h.c0⟩
  · exact h.rS.lt _ (by rw [fp_some _ _ _ (by omega)]; simp)
  · exact h.rN.lt _ (by rw [fp_some _ _ _ (by omega)]; simp)
  · exact h.rL.lt k hk
/-- What others do elsewhere. -/
theorem DevAt.chg {w w' : World} {B db : Nat} {g : DG} {fa : Option Addr} {cf : Nat} {st : RS} {S : List Nat} (h : DevAt w B db g fa cf st) (c : Chg S w w') (hn : ∀ k, k ∈ DF db g fa cf → k ∉ S) : DevAt w' B db g fa cf st := by
  have n0 : db ∉ S := hn db (by simp [DF])
  have n1 : g.lb ∉ S := hn g.lb (by simp [DF])
  have n2 : g.nb ∉ S := hn g.nb (by simp [DF])
  have hp := h.pos
  have e1 := h.rS.le
  have e2 := h.rN.le
  refine ⟨c.cellv h.c0 n0, c.cellv h.c1 n0, c.cellv h.c2 n0, c.cellv h.c3 n0, c.cellv h.c4 n0, fun j hj => (c.frozen (p := ⟨db, j, none⟩) (show db < w.heap.size from block_lt_of_cell h.c0) n0).trans (h.fz j hj), h.rS.chg c ?_, h.rL.chg c (fun k hk => hn k (by simp [DF, hk])), h.rN.chg c ?_, h.d1, h.d2, h.d3, h.f1, h.f2, h.f3, h.dB, h.lS, h.lL, h.lft, h.pos⟩
  · intro k hk
    rw [fp_some _ _ _ (by omega)] at hk
    simp at hk
    rw [hk]; exact n1
  · intro k hk
    rw [fp_some _ _ _ (by omega)] at hk
    simp at hk
    rw [hk]; exact n2
theorem DevAt.keep {w w' : World} {B db : Nat} {g : DG} {fa : Option Addr} {cf : Nat} {st : RS} (h : DevAt w B db g fa cf st) (c : Chg [] w w') : DevAt w' B db g fa cf st := h.chg c (by simp)
theorem set_other' {w : World} {b i j : Nat} {u v : Value} (h : w.cell? ⟨b, j, none⟩ = some v) (hij : j ≠ i) : (w.setCell ⟨b, i, none⟩ u).cell? ⟨b, j, none⟩ = some v := by
  rw [World.cell?_setCell_other _ _ _ _ (by simp [hij])]
  exact h
/-- The fuse and the power are written. -/
theorem DevAt.setF {w w' : World} {B db : Nat} {g : DG} {fa : Option Addr} {cf : Nat} {st st' : RS} (h : DevAt w B db g fa cf st) (c : Chg [db] w w')
    (e0 : w'.cell? ⟨db, 0, none⟩ = w.cell? ⟨db, 0, none⟩) (e1 : w'.cell? ⟨db, 1, none⟩ = w.cell? ⟨db, 1, none⟩) (e2 : w'.cell? ⟨db, 2, none⟩ = w.cell? ⟨db, 2, none⟩)
    (e3 : w'.cell? ⟨db, 3, none⟩ = some (.int .i64 st'.left)) (e4 : w'.cell? ⟨db, 4, none⟩ = some (.bool st'.gone))
    (ef : ∀ j, j < 5 → w'.frozen? ⟨db, j, none⟩ = false) (hS : st'.S = st.S) (hL : st'.L = st.L) (hl : st'.left < 9223372036854775808) : DevAt w' B db g fa cf st' := by
  have hp := h.pos
  have q1 := h.rS.le
  have q2 := h.rN.le
  refine ⟨by rw [e0, hS]; exact h.c0, by rw [e1, hL]; exact h.c1, by rw [e2, hS]; exact h.c2, e3, e4, ef, ?_, ?_, ?_, h.d1, h.d2, h.d3, h.f1, h.f2, h.f3, h.dB, by rw [hS]; exact h.lS, by rw [hL, hS]; exact h.lL, hl, by rw [hS]; exact h.pos⟩
  · rw [hS]
    refine h.rS.chg c fun k hk => ?_
    rw [fp_some _ _ _ (by omega)] at hk
    simp at hk ⊢
    rw [hk]; exact fun e => h.d1 e.symm
  · rw [hL]
    refine h.rL.chg c fun k hk => ?_
    simp
    rintro rfl
    exact h.f1 hk
  · rw [hS, hL]
    refine h.rN.chg c fun k hk => ?_
    rw [fp_some _ _ _ (by omega)] at hk
    simp at hk ⊢
    rw [hk]; exact fun e => h.d2 e.symm

/-! ### what is only read -/
theorem eltN : Elt Tryz.prog 81 3 8 := Elt.mk (z := .int .i64 0) Tryz.underlying81 (by kernel_rfl) (by kernel_rfl)
theorem eltW : EltZ Tryz.prog 89 156 65 72 := EltZ.mk (v := .agg (Value.int .i64 0 :: List.replicate 64 (Value.int .u8 0)).toArray) Tryz.underlying89 (by kernel_rfl) (by kernel_rfl)
def flyZ : List Value := .int .i64 0 :: List.replicate 64 (.int .u8 0)
theorem wideW : WideT Tryz.prog 156 flyZ := ⟨⟨_, Tryz.underlying156, rfl⟩, by kernel_rfl⟩
theorem made_yes (db lb lo n c : Nat) (w : World) (c0 : w.cell? ⟨db, 0, none⟩ = some (.slice (some ⟨lb, lo, none⟩) n c)) :
    Calls Tryz.prog 99 #[.pointer (some ⟨db, 0, none⟩)] w fun e w' => e = .returned (.bool true) ∧ w = w' := by
  have hne := fun (w : World) (n c : Nat) => run_neq_slice_nil_any (P := Tryz.prog) w 41 5 (some ⟨lb, lo, none⟩) n c 0 0 Tryz.underlying41
  go_enter Tryz.func99, Tryz.ntmps99
  go_wp2
  go_ret
  exact ⟨rfl, rfl⟩
end Go.Proofs.YtoeijomelabbfaaGreatDoor
