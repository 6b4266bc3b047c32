/- Arrays of bytes: held against one another as a whole; a slice as an array; an array as a slice. No program is named here. -/
import Derived.Test.YthbnakahcchbnaaW
import Derived.ChangeKeysEq
namespace Go.Proofs.Ythbnakahcchbnaa
open Go.RowKit
set_option linter.unusedVariables false
set_option linter.unusedSimpArgs false
section
variable {P : Program} (w : World)
theorem run_eqItems_bytes (d : Nat) {e : TypeId} (he : P.underlying e = some (.int .u8)) (hc : P.cellsOf e = 1) (l m : List UInt8) : ∀ is : List Nat, (∀ i ∈ is, i < l.length ∧ i < m.length) →
    (Op.eqItems (d + 1) e (P.cellsOf e) (bts l).toArray (bts m).toArray is).run P w = .ok (is.all fun i => l[i]? == m[i]?) w
  | [], _ => by simp [Op.eqItems]
  | i :: is, h => by
    have hp : P.plainKey e = true := by simp [Program.plainKey, he]
    obtain ⟨h1, h2⟩ := h i (by simp)
    have p1 := run_part_plain (P := P) w hp (xs := (bts l).toArray) (off := i) (v := .int .u8 (v8 l[i])) (by simpa using bts_get8 l i h1)
    have p2 := run_part_plain (P := P) w hp (xs := (bts m).toArray) (off := i) (v := .int .u8 (v8 m[i])) (by simpa using bts_get8 m i h2)
    have p3 := run_equalIn_int (P := P) w d e .u8 .u8 (v8 l[i]) (v8 m[i]) he
    have ih := run_eqItems_bytes d he hc l m is (fun j hj => h j (by simp [hj]))
    have e1 : (v8 l[i] == v8 m[i]) = (l[i]? == m[i]?) := by
      rw [List.getElem?_eq_getElem h1, List.getElem?_eq_getElem h2, Bool.eq_iff_iff]
      simp only [beq_iff_eq, Option.some.injEq, v8]
      constructor
      · intro h
        exact UInt8.toNat.inj (by omega)
      · intro h
        rw [h]
    simp only [Op.eqItems, hc, Nat.mul_one, Sem.run_bind, p1, p2, p3, Result.andThen_ok, List.all_cons]
    rw [e1]
    cases (l[i]? == m[i]?)
    · simp
    · rw [hc] at ih
      simp [ih]
theorem all_get (l m : List UInt8) (h : l.length = m.length) : ((List.range l.length).all fun i => l[i]? == m[i]?) = (l == m) := by
  rw [Bool.eq_iff_iff, List.all_eq_true, beq_iff_eq]
  constructor
  · intro h1
    apply List.ext_getElem? 
    intro i
    by_cases hi : i < l.length
    · simpa using h1 i (by simpa using hi)
    · rw [List.getElem?_eq_none (by omega), List.getElem?_eq_none (by omega)]
  · rintro rfl i _
    simp
theorem run_equalIn_bytes (d : Nat) {t e : TypeId} {n : Nat} (hu : P.underlying t = some (.array n e)) (he : P.underlying e = some (.int .u8)) (hc : P.cellsOf e = 1) (l m : List UInt8) (hl : l.length = n) (hm : m.length = n) :
    (Op.equalIn (d + 2) t (.agg (bts l).toArray) (.agg (bts m).toArray)).run P w = .ok (l == m) w := by
  obtain ⟨i, hi⟩ := info_of_underlying he
  rw [run_equalIn_array w (d + 1) _ _ hu hi, run_eqItems_bytes w d he hc l m _ (fun j hj => by simp at hj; omega), ← hl, all_get l m (by omega)]
theorem run_eql_bytes {t e : TypeId} {n : Nat} (hu : P.underlying t = some (.array n e)) (he : P.underlying e = some (.int .u8)) (hc : P.cellsOf e = 1) (l m : List UInt8) (hl : l.length = n) (hm : m.length = n) :
    (binOp .eql t (.agg (bts l).toArray) (.agg (bts m).toArray)).run P w = .ok (.bool (l == m)) w := by
  rw [run_eql_struct, run_equalIn_bytes w 9998 hu he hc l m hl hm, Result.andThen_ok]
theorem run_neq_bytes {t e : TypeId} {n : Nat} (hu : P.underlying t = some (.array n e)) (he : P.underlying e = some (.int .u8)) (hc : P.cellsOf e = 1) (l m : List UInt8) (hl : l.length = n) (hm : m.length = n) :
    (binOp .neq t (.agg (bts l).toArray) (.agg (bts m).toArray)).run P w = .ok (.bool (!(l == m))) w := by
  rw [run_neq_struct, run_equalIn_bytes w 9998 hu he hc l m hl hm, Result.andThen_ok]
theorem run_arrayAt_k {t e : TypeId} {n : Nat} (hu : P.underlying t = some (.array n e)) (a : Option Addr) (len c : Nat) (h : n ≤ len) : (Instr.arrayAt t (.slice a len c)).run P w = .ok (.pointer a) w := by
  simp only [Instr.arrayAt, Sem.run_bind, run_underlying hu, Result.andThen_ok]
  rw [if_neg (by omega)]
  rfl
end
end Go.Proofs.Ythbnakahcchbnaa
