/- append(s, make([]T, m)...), whether there is room or not. No program is named here. -/
import Derived.Test.YthbnakahcchbnaaX
namespace Go.Proofs.Ythbnakahcchbnaa
open Go.RowKit
set_option linter.unusedVariables false
set_option linter.unusedSimpArgs false

section
variable {P : Program} (w : World)
theorem run_append_zeros_in (t tn ty e : TypeId) (bytes : Nat) (helt : Elt P t e bytes) (z : Value) (hz0 : (P.info? e).map (·.zero) = some (some z)) (hzc : z.cells = #[z]) (hz1 : z.oneCell' = true) (kn k : IntKind) (htn : P.underlying tn = some (.int kn))
    (B : Nat) (ao : Option Addr) (n c : Nat) (xs : List Value) (h : Room w B ao n c xs) (hB : B ≤ w.heap.size) (m : Nat) (hroom : n + m ≤ c)
    (h63 : n + m ≤ maxLen) (hbytes : (n + m) * bytes ≤ 140737488355328) :
    ∃ w', (Builtin.append_ #[t, tn] ty #[.slice ao n c, .int k (m : Int)]).run P w = .ok (.slice ao (n + m) c) w' ∧ Room w' B ao (n + m) c (xs ++ List.replicate m z) ∧ Chg (fp ao c) w w' := by
  obtain ⟨ht, i, v, hi, hz, hsize, hby, hzs⟩ := helt
  subst hby
  have hv : v = z := by
    rw [hi] at hz0
    simp [hz] at hz0
    exact hz0
  subst hv
  have hml : maxLen = 9223372036854775807 := rfl
  have hw : IntKind.i64.wrap (m : Int) = m := by rw [IntKind.wrap_i64]; omega
  have hneg : ¬ ((m : Int) < 0) := by omega
  have hmb : m * i.bytes ≤ 140737488355328 := Nat.le_trans (Nat.mul_le_mul_right _ (by omega)) hbytes
  have h48i : ¬ (281474976710656 < (m : Int) * (i.bytes : Int)) := by
    rw [← Int.natCast_mul]
    omega
  by_cases hm0 : m = 0
  · subst hm0
    refine ⟨w, ?_, by simpa using h, Chg.refl _ _⟩
    have hw0 : IntKind.i64.wrap 0 = 0 := by decide
    cases ao <;> simp [Builtin.append_, run_underlying ht, run_underlying htn, sizeOf, typeInfo, zeroValue, hi, hz, Builtin.lenOf, hw0, asInt, asIntOf, storeCells, h.le]
  · obtain ⟨b, o, rfl, hBb, hs, hv⟩ := h.at_ (by omega)
    have hnl : (List.replicate m v).length = m := by simp
    have hlen : (xs ++ List.replicate m v).length = n + m := by rw [List.length_append, h.len, hnl]
    have hcell : ∀ j, j < (List.replicate m v).length → (w.cell? ⟨b, o + n * i.size + 0 + j, none⟩).isSome = true := fun j hj => by
      have := (hs (n + j) (by omega)).1
      rwa [hsize, Nat.mul_one, Nat.add_zero, Nat.add_assoc]
    have hfr : ∀ j, j < (List.replicate m v).length → w.frozen? ⟨b, o + n * i.size + 0 + j, none⟩ = false := fun j hj => by
      have := (hs (n + j) (by omega)).2
      rwa [hsize, Nat.mul_one, Nat.add_zero, Nat.add_assoc]
    have hst := run_storeCells_cells (P := P) b (o + n * i.size) (List.replicate m v) 0 w hcell hfr (fun u hu => by rw [List.eq_of_mem_replicate hu]; exact hz1)
    have hzl : (Builtin.zeroCells v.cells m).toList = List.replicate m v := by rw [hzc, zeroCells_one]
    refine ⟨w.setCells b (o + n) (List.replicate m v), ?_, ⟨hlen, hroom, h.max, fun _ => ⟨b, o, rfl, hBb, fun j hj => ?_, fun j u hu => ?_⟩⟩, by rw [fp_some _ _ _ (by omega)]; exact Chg.setCells b (List.replicate m v) (o + n) w⟩
    · simp only [Nat.add_zero] at hst
      simp [Builtin.append_, run_underlying ht, run_underlying htn, sizeOf, typeInfo, zeroValue, hi, hz, Builtin.lenOf, hroom, hw, hneg, h48i, hm0, asInt, asIntOf, Addr.add_lit, hzl]
      simp only [hsize, Nat.mul_one] at hst
      simp [hst, hsize, hm0]
    · obtain ⟨h1, h2⟩ := hs j hj
      refine ⟨?_, by rw [World.frozen?_setCells]; exact h2⟩
      by_cases hin : n ≤ j ∧ j < n + (List.replicate m v).length
      · have := World.cell?_setCells_in b (List.replicate m v) (o + n) w (fun k hk => by rw [Nat.add_assoc]; exact (hs (n + k) (by omega)).1) (j - n) (by omega)
        rw [show o + n + (j - n) = o + j by omega] at this
        rw [this]; rfl
      · rw [World.cell?_setCells_out b (List.replicate m v) (o + n) w _ (fun _ _ => by simp; simp at hin; omega)]
        exact h1
    · by_cases hj : j < n
      · rw [List.getElem?_append_left (by rw [h.len]; exact hj)] at hu
        rw [World.cell?_setCells_out b (List.replicate m v) (o + n) w _ (fun _ _ => by simp; omega)]
        exact hv j u hu
      · rw [List.getElem?_append_right (by rw [h.len]; omega), h.len] at hu
        have hjn : j - n < (List.replicate m v).length := (List.getElem?_eq_some_iff.1 hu).1
        have := World.cell?_setCells_in b (List.replicate m v) (o + n) w (fun k hk => by rw [Nat.add_assoc]; exact (hs (n + k) (by omega)).1) (j - n) hjn
        rw [show o + n + (j - n) = o + j by omega] at this
        rw [this]
        rw [List.getElem?_eq_getElem hjn] at hu
        exact hu
/-- Both ways. -/
theorem run_append_zeros_k (t tn ty e : TypeId) (bytes : Nat) (helt : Elt P t e bytes) (z : Value) (hz0 : (P.info? e).map (·.zero) = some (some z)) (hzc : z.cells = #[z]) (hz1 : z.oneCell' = true) (kn k : IntKind) (htn : P.underlying tn = some (.int kn))
    (B : Nat) (ao : Option Addr) (n c : Nat) (xs : List Value) (h : Room w B ao n c xs) (hB : B ≤ w.heap.size) (m : Nat)
    (h63 : n + m ≤ maxLen) (hbytes : (n + m) * bytes ≤ 140737488355328) :
    ∃ ao' c' w', (Builtin.append_ #[t, tn] ty #[.slice ao n c, .int k (m : Int)]).run P w = .ok (.slice ao' (n + m) c') w' ∧ Room w' B ao' (n + m) c' (xs ++ List.replicate m z) ∧ Chg (fp ao c) w w' ∧ (fp ao' c' = fp ao c ∨ fp ao' c' = [w.heap.size]) := by
  by_cases hroom : n + m ≤ c
  · obtain ⟨w', h1, h2, h3⟩ := run_append_zeros_in w t tn ty e bytes helt z hz0 hzc hz1 kn k htn B ao n c xs h hB m hroom h63 hbytes
    exact ⟨ao, c, w', h1, h2, h3, .inl rfl⟩
  · have := h.le
    obtain ⟨ao', c', w', h1, h2, h3, h4⟩ := run_append_zeros w t tn ty e bytes helt z hz0 hzc kn k htn B ao n c xs h hB m (by omega) (by omega) h63 hbytes
    exact ⟨ao', c', w', h1, h2, h3.mono (by simp), .inr h4⟩
end
theorem wpList_append_zeros_k {P : Program} (w : World) {ops : Array Oper} {rest : List Oper} {o : Oper} {a : Act} {Q : Exit → Act → World → Prop} (hgd : o.guard = none) (s x : Operand) (t tn : TypeId)
    (ho : o.op = .call { callee := .builtin .append, args := #[s, x], argTypes := #[t, tn] })
    (e : TypeId) (bytes : Nat) (helt : Elt P t e bytes) (z : Value) (hz0 : (P.info? e).map (·.zero) = some (some z)) (hzc : z.cells = #[z]) (hz1 : z.oneCell' = true) (kn k : IntKind) (htn : P.underlying tn = some (.int kn))
    (B : Nat) (ao : Option Addr) (n c : Nat) (xs : List Value) (hs : a.eval s = .slice ao n c) (h : Room w B ao n c xs) (hB : B ≤ w.heap.size) (m : Nat) (hxe : a.eval x = .int k (m : Int))
    (h63 : n + m ≤ maxLen) (hbytes : (n + m) * bytes ≤ 140737488355328)
    (hK : ∀ ao' c' w', Room w' B ao' (n + m) c' (xs ++ List.replicate m z) → Chg (fp ao c) w w' → (fp ao' c' = fp ao c ∨ fp ao' c' = [w.heap.size]) → wpList P ops Q rest (a.put o.dst (.slice ao' (n + m) c')) w') : wpList P ops Q (o :: rest) a w := by
  refine wpList_plain hgd fun K hK' => ?_
  obtain ⟨ao', c', w', hr, h2, h3, h4⟩ := run_append_zeros_k (P := P) w t tn o.type e bytes helt z hz0 hzc hz1 kn k htn B ao n c xs h hB m h63 hbytes
  unfold Oper.wp execOp
  simp only [ho, resolve, invoke, builtin, Sem.run_bind, Sem.run_pure, Result.andThen_ok, List.map_toArray, List.map_cons, List.map_nil, hs, hxe, hr]
  exact hK' _ _ (hK ao' c' w' h2 h3 h4)
section
variable {P : Program} {ops : Array Oper} {o : Oper} {a : Act} {w : World} {K : Act → World → Prop} {Q : Exit → Act → World → Prop} {E : Prop}
/-- The same as steps of a region. -/
theorem step_append_zeros (hg : o.guard = none) (s x : Operand) (t tn : TypeId) (ho : o.op = .call { callee := .builtin .append, args := #[s, x], argTypes := #[t, tn] })
    (e : TypeId) (bytes : Nat) (helt : Elt P t e bytes) (z : Value) (hz0 : (P.info? e).map (·.zero) = some (some z)) (hzc : z.cells = #[z]) (hz1 : z.oneCell' = true) (kn k : IntKind) (htn : P.underlying tn = some (.int kn))
    (B : Nat) (ao : Option Addr) (n c : Nat) (xs : List Value) (hs : a.eval s = .slice ao n c) (h : Room w B ao n c xs) (hB : B ≤ w.heap.size) (m : Nat) (hxe : a.eval x = .int k (m : Int))
    (h63 : n + m ≤ maxLen) (hbytes : (n + m) * bytes ≤ 140737488355328)
    (hK : ∀ ao' c' w', Room w' B ao' (n + m) c' (xs ++ List.replicate m z) → Chg (fp ao c) w w' → (fp ao' c' = fp ao c ∨ fp ao' c' = [w.heap.size]) → K (a.put o.dst (.slice ao' (n + m) c')) w') :
    if Region.wanted o (yielded ops a.tmps) = true then Oper.wp P o a w K Q else E := by
  have hw : Region.wanted o (yielded ops a.tmps) = true := by simp [Region.wanted, hg]
  rw [if_pos hw]
  obtain ⟨ao', c', w', hr, h2, h3, h4⟩ := run_append_zeros_k (P := P) w t tn o.type e bytes helt z hz0 hzc hz1 kn k htn B ao n c xs h hB m h63 hbytes
  unfold Oper.wp execOp
  simp only [ho, resolve, invoke, builtin, Sem.run_bind, Sem.run_pure, Result.andThen_ok, List.map_toArray, List.map_cons, List.map_nil, hs, hxe, hr]
  exact hK _ _ _ h2 h3 h4
theorem step_append_rows (hg : o.guard = none) (s x : Operand) (t : TypeId) (ho : o.op = .call { callee := .builtin .append, args := #[s, x], argTypes := #[t, t] })
    (e : TypeId) (bytes : Nat) (helt : Elt P t e bytes)
    (B : Nat) (ao : Option Addr) (n c : Nat) (xs : List Value) (hs : a.eval s = .slice ao n c) (h : Room w B ao n c xs) (hB : B ≤ w.heap.size)
    (ax : Option Addr) (m cx : Nat) (news : List Value) (hxe : a.eval x = .slice ax m cx) (hx : Reads w ax news) (hm : news.length = m) (hone : ∀ u ∈ news, u.oneCell' = true)
    (h63 : n + m ≤ maxLen) (hbytes : (n + m) * bytes ≤ 140737488355328)
    (hK : ∀ ao' c' w', Room w' B ao' (n + m) c' (xs ++ news) → Chg (fp ao c) w w' → (fp ao' c' = fp ao c ∨ fp ao' c' = [w.heap.size]) → K (a.put o.dst (.slice ao' (n + m) c')) w') :
    if Region.wanted o (yielded ops a.tmps) = true then Oper.wp P o a w K Q else E := by
  have hw : Region.wanted o (yielded ops a.tmps) = true := by simp [Region.wanted, hg]
  rw [if_pos hw]
  obtain ⟨ao', c', w', hr, h2, h3, h4⟩ := run_append_k (P := P) w t o.type e bytes helt B ao n c xs h hB ax m cx news hx hm hone h63 hbytes
  unfold Oper.wp execOp
  simp only [ho, resolve, invoke, builtin, Sem.run_bind, Sem.run_pure, Result.andThen_ok, List.map_toArray, List.map_cons, List.map_nil, hs, hxe, hr]
  exact hK _ _ _ h2 h3 h4
end
end Go.Proofs.Ythbnakahcchbnaa
