/- append(s, make([]T, m)...) where there is no room. No program is named here. -/
import Derived.Test.YthbnakahcchbnaaW
namespace Go.Proofs.Ythbnakahcchbnaa
open Go.RowKit
set_option linter.unusedVariables false
set_option linter.unusedSimpArgs false

theorem zeroCells_one (z : Value) (m : Nat) : (Builtin.zeroCells #[z] m).toList = List.replicate m z := by
  simp [Builtin.zeroCells]
  apply List.ext_getElem
  · simp
  · intro i h1 h2
    simp [Nat.mod_one]
section
variable {P : Program} (w : World)
theorem run_append_zeros (t tn ty e : TypeId) (bytes : Nat) (helt : Elt P t e bytes) (z : Value) (hz0 : (P.info? e).map (·.zero) = some (some z)) (hzc : z.cells = #[z]) (kn k : IntKind) (htn : P.underlying tn = some (.int kn))
    (B : Nat) (ao : Option Addr) (n c : Nat) (xs : List Value) (h : Room w B ao n c xs) (hB : B ≤ w.heap.size) (m : Nat) (hroom : c < n + m) (hm : 0 < m)
    (h63 : n + m ≤ maxLen) (hbytes : (n + m) * bytes ≤ 140737488355328) :
    ∃ ao' c' w', (Builtin.append_ #[t, tn] ty #[.slice ao n c, .int k (m : Int)]).run P w = .ok (.slice ao' (n + m) c') w' ∧ Room w' B ao' (n + m) c' (xs ++ List.replicate m z) ∧ Chg [] w w' ∧ fp ao' c' = [w.heap.size] := by
  obtain ⟨ht, i, v, hi, hz, hsize, hby, hzs⟩ := helt
  subst hby
  have hv : v = z := by
    rw [hi] at hz0
    simp [hz] at hz0
    exact hz0
  subst hv
  have hlen : (xs ++ List.replicate m v).length = n + m := by rw [List.length_append, h.len, List.length_replicate]
  have hml : maxLen = 9223372036854775807 := rfl
  have hnr : ¬ (n + m ≤ c) := by omega
  have hfo : (Builtin.firstCells i.size n (.slice ao n c)).run P w.drew = .ok xs.toArray w.drew := by
    cases ao with
    | none =>
      have hc : c = 0 := by
        rcases Nat.eq_zero_or_pos c with h0 | h0
        · exact h0
        · obtain ⟨b, o, e, _⟩ := h.at_ h0; cases e
      have : xs = [] := List.eq_nil_of_length_eq_zero (by have := h.len; have := h.le; omega)
      subst this
      rw [run_firstCells_none]
    | some ad =>
      exact run_firstCells_some (P := P) w.drew i.size n ad n c xs (by simp [hsize, h.len]) (fun j u hu => by simpa using h.reads.addr ad rfl j u hu)
  have hge := grownCap_ge w (n + m) c e
  have hcm := grownCap_le_maxLen w (n + m) c e h63
  have hw : IntKind.i64.wrap (m : Int) = m := by rw [IntKind.wrap_i64]; omega
  have hneg : ¬ ((m : Int) < 0) := by omega
  have h63' : ¬ (9223372036854775807 < ((n : Int) + (m : Int))) := by omega
  have hmb : m * i.bytes ≤ 140737488355328 := Nat.le_trans (Nat.mul_le_mul_right _ (by omega)) hbytes
  have h48i : ¬ (281474976710656 < (m : Int) * (i.bytes : Int)) := by
    rw [← Int.natCast_mul]
    omega
  have hm0 : ¬ (m = 0) := by omega
  have h48' : ¬ (281474976710656 < Builtin.nextslicecap (n + m) c * i.bytes) := by have := growslice_fits (old := c) (need := n + m) (by omega) hbytes; omega
  refine ⟨some ⟨w.heap.size, 0, none⟩, grownCap w (n + m) c e, w.drew.alloc (.cells (xs.toArray ++ Builtin.zeroCells v.cells m ++ Builtin.zeroCells v.cells (grownCap w (n + m) c e - (n + m))) e), ?_, ?_, ⟨rfl, rfl, rfl, by simp, fun k hk _ => Below.heap_alloc w.drew _ k hk⟩, fp_some _ _ _ (by omega)⟩
  · simp [Builtin.append_, run_underlying ht, run_underlying htn, sizeOf, typeInfo, zeroValue, hi, hz, Builtin.lenOf, hnr, hw, hneg, h63', h48', h48i, hm0, hsize, asInt, asIntOf, Question.forced, hfo, newRow, grownCap]
    rw [hsize] at hfo
    simp [hfo]
  · refine Room.of_owns (e := e) ⟨by rw [hlen]; simp, .inr ⟨w.heap.size, _, _, rfl, hB, heap_alloc_new w.drew _, hge, hcm, ?_, ?_⟩⟩
    · simp only [Array.size_append, List.size_toArray, size_zeroCells, hzs, h.len]
      omega
    · simp only [Array.toList_append, List.append_assoc]
      rw [← List.append_assoc, hzc, zeroCells_one, Nat.mul_one, ← hlen]
      exact List.take_left
end
theorem wpList_append_zeros {P : Program} (w : World) {ops : Array Oper} {rest : List Oper} {o : Oper} {a : Act} {Q : Exit → Act → World → Prop} (hgd : o.guard = none) (s x : Operand) (t tn : TypeId)
    (ho : o.op = .call { callee := .builtin .append, args := #[s, x], argTypes := #[t, tn] })
    (e : TypeId) (bytes : Nat) (helt : Elt P t e bytes) (z : Value) (hz0 : (P.info? e).map (·.zero) = some (some z)) (hzc : z.cells = #[z]) (kn k : IntKind) (htn : P.underlying tn = some (.int kn))
    (B : Nat) (ao : Option Addr) (n c : Nat) (xs : List Value) (hs : a.eval s = .slice ao n c) (h : Room w B ao n c xs) (hB : B ≤ w.heap.size) (m : Nat) (hxe : a.eval x = .int k (m : Int)) (hroom : c < n + m) (hm : 0 < m)
    (h63 : n + m ≤ maxLen) (hbytes : (n + m) * bytes ≤ 140737488355328)
    (hK : ∀ ao' c' w', Room w' B ao' (n + m) c' (xs ++ List.replicate m z) → Chg [] w w' → wpList P ops Q rest (a.put o.dst (.slice ao' (n + m) c')) w') : wpList P ops Q (o :: rest) a w := by
  refine wpList_plain hgd fun K hK' => ?_
  obtain ⟨ao', c', w', hr, h2, h3, h4⟩ := run_append_zeros (P := P) w t tn o.type e bytes helt z hz0 hzc kn k htn B ao n c xs h hB m hroom hm h63 hbytes
  unfold Oper.wp execOp
  simp only [ho, resolve, invoke, builtin, Sem.run_bind, Sem.run_pure, Result.andThen_ok, List.map_toArray, List.map_cons, List.map_nil, hs, hxe, hr]
  exact hK' _ _ (hK ao' c' w' h2 h3)
end Go.Proofs.Ythbnakahcchbnaa
