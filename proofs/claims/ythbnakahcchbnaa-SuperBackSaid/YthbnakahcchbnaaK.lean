/- More of slices: what is new, parts in one value, a row written; appending one element where the order is open. No program is named here. -/
import Derived.Test.YthbnakahcchbnaaL
import Derived.WalkKit
import Derived.Deep.WholeRow
namespace Go.Proofs.Ythbnakahcchbnaa
open Go.RowKit
set_option linter.unusedVariables false
set_option linter.unusedSimpArgs false

theorem mkHid {p : Prop} (h : p) : Hid p := h
theorem ret_true {a : Bool} (h : a = true) : Ending.returned (Value.bool a) = .returned (.bool true) := by rw [h]
theorem ret_int {k : IntKind} {a b : Int} (h : a = b) : Ending.returned (Value.int k a) = .returned (.int k b) := by rw [h]
theorem Chg.behind {w w' : World} {o : Obj} (h : Chg [] (w.alloc o) w') : Chg [] w w' := (Chg.alloc [] w o).then h
theorem Reads.old {S : List Nat} {w w' : World} {ao : Option Addr} {xs : List Value} (h : Reads w ao xs) (g : Chg S w w') (hS : ∀ k, k ∈ S → w.heap.size ≤ k) : Reads w' ao xs := by
  intro hx
  obtain ⟨b, o, rfl, hc⟩ := h hx
  refine ⟨b, o, rfl, fun j u hu => g.cellv (hc j u hu) (fun hb => ?_)⟩
  have h1 := hS b hb
  have h2 : b < w.heap.size := block_lt_of_cell (hc j u hu)
  omega

/-! ### a store into a slice -/
theorem Reads.keep {w w' : World} {ao : Option Addr} {xs : List Value} (h : Reads w ao xs) (g : Chg [] w w') : Reads w' ao xs := h.chg g (fun _ _ h => by simp at h)
theorem reads_new (w : World) (cs : Array Value) (e : TypeId) (fr : Nat × Nat) (l : List UInt8) (h : cs.toList = bts l) : Reads (w.alloc (.cells cs e fr)) (some ⟨w.heap.size, 0, none⟩) (bts l) := fun _ =>
  ⟨w.heap.size, 0, rfl, fun j u hu => by
    rw [← h] at hu
    rw [cell_of_row _ _ _ _ _ _ (heap_alloc_last w _)]
    simpa using hu⟩
theorem reads_lt {w : World} {ao : Option Addr} {xs : List Value} (g : Reads w ao xs) (j : Nat) (u : Value) (hu : xs[j]? = some u) : ∃ b o, ao = some ⟨b, o, none⟩ ∧ w.cell? ⟨b, o + j, none⟩ = some u ∧ b < w.heap.size := by
  obtain ⟨b, o, e, hc⟩ := g (by cases xs <;> simp at hu ⊢)
  exact ⟨b, o, e, hc j u hu, block_lt_of_cell (hc j u hu)⟩
theorem Room.set {w : World} {B b o n c : Nat} {xs : List Value} (h : Room w B (some ⟨b, o, none⟩) n c xs) (i : Nat) (hi : i < n) (u : Value) : Room (w.setCell ⟨b, o + i, none⟩ u) B (some ⟨b, o, none⟩) n c (xs.set i u) := by
  refine ⟨by rw [List.length_set]; exact h.len, h.le, h.max, fun hc => ?_⟩
  obtain ⟨b', o', e, hB, hs, hv⟩ := h.at_ hc
  cases e
  have hle := h.le
  refine ⟨b, o, rfl, hB, fun j hj => ?_, fun j v hj => ?_⟩
  · refine ⟨?_, by rw [World.frozen?_setCell]; exact (hs j hj).2⟩
    by_cases hji : j = i
    · subst hji
      obtain ⟨v, hv⟩ := Option.isSome_iff_exists.1 (hs j hj).1
      rw [World.cell?_setCell_same _ _ _ hv]; rfl
    · rw [World.cell?_setCell_other _ _ _ _ (by simp)]
      exact (hs j hj).1
  · by_cases hji : j = i
    · subst hji
      obtain ⟨v', hv'⟩ := Option.isSome_iff_exists.1 (hs j (by omega)).1
      rw [World.cell?_setCell_same _ _ _ hv']
      have hl := h.len
      rw [List.getElem?_set_self (by omega)] at hj
      exact hj
    · rw [World.cell?_setCell_other _ _ _ _ (by simp)]
      rw [List.getElem?_set_ne (by omega)] at hj
      exact hv j v hj
theorem Room.cell {w : World} {B b o n c : Nat} {xs : List Value} (h : Room w B (some ⟨b, o, none⟩) n c xs) (i : Nat) (hi : i < n) : w.frozen? ⟨b, o + i, none⟩ = false := by
  obtain ⟨b', o', e, hB, hs, hv⟩ := h.at_ (by have := h.le; omega)
  cases e
  exact (hs i (by have := h.le; omega)).2
/-- s[l:l+m], in one value. -/
theorem run_range_k {P : Program} {t e : TypeId} (ao : Option Addr) (n c l m : Nat) (H : Int) (hH : H = (l : Int) + (m : Int)) (ht : P.underlying t = some (.slice e)) (hs : (P.info? e).map (·.size) = some 1) (hc : l + m ≤ c) (w : World) :
    (Instr.slice t (.slice ao n c) (some (.int .i64 (l : Int))) (some (.int .i64 H)) none).run P w = .ok (.slice (cut ao c l) m (c - l)) w := by
  subst hH
  have he : P.elem t = e := by simp [Program.elem, ht]
  rw [run_slice_lh w t ao n c (by rw [he]; exact ht) .i64 .i64 (l : Int) ((l : Int) + (m : Int)) (by omega) (by omega) (by omega), he]
  obtain ⟨i, hi, hi1⟩ := Option.map_eq_some_iff.1 hs
  have e1 : ((l : Int) + (m : Int)).toNat = l + m := by omega
  simp [sizeOf, typeInfo, hi, hi1, sliced, cut, e1]
theorem run_take_k {P : Program} {t e : TypeId} (ao : Option Addr) (n c m : Nat) (ht : P.underlying t = some (.slice e)) (hs : (P.info? e).map (·.size) = some 1) (hc : m ≤ c) (w : World) :
    (Instr.slice t (.slice ao n c) none (some (.int .i64 (m : Int))) none).run P w = .ok (.slice ao m c) w := by
  have he : P.elem t = e := by simp [Program.elem, ht]
  rw [run_slice_h w t ao n c (by rw [he]; exact ht) .i64 (m : Int) (by omega) (by omega)]
  obtain ⟨i, hi, hi1⟩ := Option.map_eq_some_iff.1 hs
  cases ao <;> simp [sizeOf, typeInfo, he, hi, hi1, sliced, Addr.add]
theorem step_append_1 {P : Program} {ops : Array Oper} {o : Oper} {a : Act} {w : World} {K : Act → World → Prop} {Q : Exit → Act → World → Prop} {E : Prop}
    (hg : o.guard = none) (s x : Operand) (t : TypeId) (ho : o.op = .call { callee := .builtin .append, args := #[s, x], argTypes := #[t, t] })
    (e : TypeId) (bytes : Nat) (helt : Elt P t e bytes)
    (B : Nat) (ao : Option Addr) (n c : Nat) (xs : List Value) (hs : a.eval s = .slice ao n c) (h : Room w B ao n c xs) (hB : B ≤ w.heap.size)
    (u : Value) (cx : Nat) (hxe : a.eval x = .slice (some ⟨w.heap.size, 0, none⟩) 1 cx) (hone : u.oneCell' = true)
    (h63 : n + 1 ≤ maxLen) (hbytes : (n + 1) * bytes ≤ 140737488355328)
    (hK : ∀ ao' c' w', Room w' B ao' (n + 1) c' (xs ++ [u]) → Chg (fp ao c) w w' → K (a.put o.dst (.slice ao' (n + 1) c')) w') :
    if Region.wanted o (yielded ops a.tmps) = true then Oper.wp P o a (w.alloc (.cells #[u] e)) K Q else E := by
  have hw : Region.wanted o (yielded ops a.tmps) = true := by simp [Region.wanted, hg]
  rw [if_pos hw]
  obtain ⟨ao', c', w', hr, h2, h3, _⟩ := run_append_k (P := P) (w.alloc (.cells #[u] e)) t o.type e bytes helt B ao n c xs (h.chg (Chg.alloc [] w _) (by simp)) (by simp; omega) (some ⟨w.heap.size, 0, none⟩) 1 cx [u] (Reads.new w #[u] e) rfl (by simpa using hone) h63 hbytes
  unfold Oper.wp execOp
  simp only [ho, resolve, invoke, builtin, Sem.run_bind, Sem.run_pure, Result.andThen_ok, List.map_toArray, List.map_cons, List.map_nil, hs, hxe, hr]
  exact hK _ _ _ h2 ((Chg.alloc [] w _).trans h3 (by simp) (fun k h _ => h))

/-! ### bytes as the walk has them -/
def v8 (b : UInt8) : Int := (b.toNat : Int)
theorem x8 (a b : UInt8) : bits .xor .u8 (v8 a) (v8 b) = v8 (a ^^^ b) := by
  unfold v8
  have := a.toNat_lt
  have := b.toNat_lt
  rw [u8_xor_nat _ _ (by omega) (by omega), UInt8.toNat_xor]
theorem bts_get8 (l : List UInt8) (i : Nat) (h : i < l.length) : (bts l)[i]? = some (.int .u8 (v8 l[i])) := bts_get l i h
theorem bts_set (l : List UInt8) (i : Nat) (b : UInt8) : (bts l).set i (.int .u8 (v8 b)) = bts (l.set i b) := by simp [bts, v8]
theorem pow8 : ∀ r : Nat, r < 8 → (2 : Int) ^ r % 256 = v8 (UInt8.ofNat (2 ^ r)) := by decide +kernel
end Go.Proofs.Ythbnakahcchbnaa
