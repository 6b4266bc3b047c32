/- Slices whose elements have z cells each: read, appended to, an element written. No program is named here. -/
import Derived.Test.YthbnakahcchbnaaK
namespace Go.Proofs.Ythbnakahcchbnaa
open Go.RowKit
set_option linter.unusedVariables false
set_option linter.unusedSimpArgs false

/-- The slice (ao, n, c) of elements of z cells holds the cells xs; all its room lies, and may be written, in a block from B on. -/
structure RoomZ (z : Nat) (w : World) (B : Nat) (ao : Option Addr) (n c : Nat) (xs : List Value) : Prop where
  len : xs.length = n * z
  le : n ≤ c
  max : c ≤ maxLen
  at_ : 0 < c → ∃ b o, ao = some ⟨b, o, none⟩ ∧ B ≤ b ∧ b < w.heap.size ∧ (∀ j, j < c * z → (w.cell? ⟨b, o + j, none⟩).isSome = true ∧ w.frozen? ⟨b, o + j, none⟩ = false) ∧ ∀ j u, xs[j]? = some u → w.cell? ⟨b, o + j, none⟩ = some u
theorem RoomZ.nil (z : Nat) (w : World) (B : Nat) (ao : Option Addr) : RoomZ z w B ao 0 0 [] := ⟨by simp, Nat.le_refl _, Nat.zero_le _, fun h => absurd h (Nat.lt_irrefl 0)⟩
theorem RoomZ.lt {z : Nat} {w : World} {B : Nat} {ao : Option Addr} {n c : Nat} {xs : List Value} (h : RoomZ z w B ao n c xs) : ∀ k, k ∈ fp ao c → B ≤ k ∧ k < w.heap.size := by
  intro k hk
  have hc : 0 < c := by
    rcases Nat.eq_zero_or_pos c with h0 | h0
    · subst h0; simp [fp_zero] at hk
    · exact h0
  unfold fp at hk
  rw [if_neg (by omega)] at hk
  obtain ⟨b, o, rfl, hB, hs, _⟩ := h.at_ hc
  simp [blk] at hk
  subst hk
  exact ⟨hB, hs⟩
theorem RoomZ.reads {z : Nat} {w : World} {B : Nat} {ao : Option Addr} {n c : Nat} {xs : List Value} (h : RoomZ z w B ao n c xs) : Reads w ao xs := by
  intro hx
  have hc : 0 < c := by
    rcases Nat.eq_zero_or_pos c with h0 | h0
    · have := h.le
      have h1 := h.len
      have : n = 0 := by omega
      subst this
      omega
    · exact h0
  obtain ⟨b, o, e, _, _, _, hv⟩ := h.at_ hc
  exact ⟨b, o, e, hv⟩
theorem RoomZ.chg {z : Nat} {S : List Nat} {w w' : World} {B : Nat} {ao : Option Addr} {n c : Nat} {xs : List Value} (h : RoomZ z w B ao n c xs) (g : Chg S w w') (hn : ∀ k, k ∈ fp ao c → k ∉ S) : RoomZ z w' B ao n c xs := by
  refine ⟨h.len, h.le, h.max, fun hc => ?_⟩
  obtain ⟨b, o, rfl, hB, hlt, hs, hv⟩ := h.at_ hc
  have hb : b ∉ S := hn b (by rw [fp_some _ _ _ hc]; simp)
  refine ⟨b, o, rfl, hB, Nat.lt_of_lt_of_le hlt g.size, fun j hj => ?_, fun j u hu => g.cellv (hv j u hu) hb⟩
  obtain ⟨u, hu⟩ := Option.isSome_iff_exists.1 (hs j hj).1
  exact ⟨by rw [g.cellv hu hb]; rfl, by rw [g.frozen (block_lt_of_cell hu) hb]; exact (hs j hj).2⟩
/-- What the kit says of a row that the call owns. -/
theorem RoomZ.of_owns {z : Nat} {w : World} {B : Nat} {e : TypeId} {ao : Option Addr} {n c : Nat} {xs : List Value} (h : w.ownsRow B e z (.slice ao n c) n xs) : RoomZ z w B ao n c xs := by
  obtain ⟨hl, h⟩ := h
  rcases h with ⟨hv, hn⟩ | ⟨g, cap, cur, hv, hb, hh, hc, hm, hs, ht⟩
  · cases hv
    exact ⟨by simpa using hl, Nat.le_refl _, Nat.zero_le _, fun h => absurd h (Nat.lt_irrefl 0)⟩
  · cases hv
    have hlt : g < w.heap.size := by
      rcases Nat.lt_or_ge g w.heap.size with h1 | h1
      · exact h1
      · rw [Array.getElem?_eq_none h1] at hh; cases hh
    refine ⟨by simpa using hl, hc, hm, fun _ => ⟨g, 0, rfl, hb, hlt, fun j hj => ?_, fun j u hu => ?_⟩⟩
    · have : j < cur.size := by omega
      exact ⟨by rw [cell_of_row w g _ cur e _ hh]; simp [this], frozen_of_row w g _ cur e hh⟩
    · rw [cell_of_row w g _ cur e _ hh]
      rw [← ht, List.getElem?_take] at hu
      split at hu
      · simpa using hu
      · cases hu

/-- What the program's table says of the slice type t, its elements of type e, z cells each. -/
def EltZ (P : Program) (t e : TypeId) (z bytes : Nat) : Prop :=
  P.underlying t = some (.slice e) ∧ ∃ i v, P.info? e = some i ∧ i.zero = some v ∧ i.size = z ∧ i.bytes = bytes ∧ v.cells.size = z
theorem EltZ.mk {P : Program} {t e : TypeId} {v : Value} {z bytes : Nat} (ht : P.underlying t = some (.slice e)) (h : (P.info? e).map (fun i => (i.zero, i.size, i.bytes)) = some (some v, z, bytes)) (hz : v.cells.size = z) : EltZ P t e z bytes :=
  let ⟨i, h1, h2, h3, h4⟩ := info_parts h
  ⟨ht, i, v, h1, h2, h3, h4, hz⟩

section
variable {P : Program} (w : World)
theorem run_append_z (t ty e : TypeId) (z bytes : Nat) (hz0 : 0 < z) (helt : EltZ P t e z bytes)
    (B : Nat) (ao : Option Addr) (n c : Nat) (xs : List Value) (h : RoomZ z w B ao n c xs) (hB : B ≤ w.heap.size)
    (ax : Option Addr) (m cx : Nat) (news : List Value) (hx : Reads w ax news) (hm : news.length = m * z) (hone : ∀ u ∈ news, u.oneCell' = true)
    (h63 : n + m ≤ maxLen) (hbytes : (n + m) * bytes ≤ 140737488355328) :
    ∃ ao' c' w', (Builtin.append_ #[t, t] ty #[.slice ao n c, .slice ax m cx]).run P w = .ok (.slice ao' (n + m) c') w' ∧ RoomZ z w' B ao' (n + m) c' (xs ++ news) ∧ Chg (fp ao c) w w' ∧ (fp ao' c' = fp ao c ∨ fp ao' c' = [w.heap.size]) := by
  obtain ⟨ht, i, v, hi, hz, hsize, hby, hzs⟩ := helt
  subst hby
  have hlen : (xs ++ news).length = (n + m) * z := by rw [List.length_append, h.len, hm, Nat.add_mul]
  have hml : maxLen = 9223372036854775807 := rfl
  have hf : ∀ w0 : World, w0.heap = w.heap → (Builtin.firstCells i.size m (.slice ax m cx)).run P w0 = .ok news.toArray w0 := by
    intro w0 hw0
    cases ax with
    | none =>
      have : news = [] := by
        cases hn : news with
        | nil => rfl
        | cons u r => obtain ⟨b, o, e, _⟩ := hx (by rw [hn]; simp); cases e
      subst this
      rw [run_firstCells_none]
    | some ad =>
      refine run_firstCells_some (P := P) w0 i.size m ad m cx news (by simp [hsize, hm]) (fun j u hu => ?_)
      have := hx.addr ad rfl j u hu
      simpa [World.cell?, hw0] using this
  by_cases hroom : n + m ≤ c
  · by_cases hc : c = 0
    · subst hc
      have hn0 : n = 0 := by omega
      have hm0 : m = 0 := by omega
      subst hn0 hm0
      have hx0 : xs = [] := List.eq_nil_of_length_eq_zero (by rw [h.len, Nat.zero_mul])
      have hnn : news = [] := List.eq_nil_of_length_eq_zero (by rw [hm, Nat.zero_mul])
      subst hx0 hnn
      refine ⟨ao, 0, w, ?_, h, Chg.refl _ _, Or.inl rfl⟩
      have := hf w rfl
      cases ao <;> simp [Builtin.append_, run_underlying ht, sizeOf, typeInfo, hi, Builtin.lenOf, this, storeCells]
    · obtain ⟨b, o, rfl, hBb, hlt, hs, hv⟩ := h.at_ (by omega)
      have hnm : (n + m) * z ≤ c * z := Nat.mul_le_mul_right z hroom
      have hcell : ∀ j, j < news.length → (w.cell? ⟨b, o + n * i.size + 0 + j, none⟩).isSome = true := fun j hj => by
        have := (hs (n * z + j) (by rw [Nat.add_mul] at hnm; omega)).1
        rwa [hsize, Nat.add_zero, Nat.add_assoc]
      have hfr : ∀ j, j < news.length → w.frozen? ⟨b, o + n * i.size + 0 + j, none⟩ = false := fun j hj => by
        have := (hs (n * z + j) (by rw [Nat.add_mul] at hnm; omega)).2
        rwa [hsize, Nat.add_zero, Nat.add_assoc]
      have hst := run_storeCells_cells (P := P) b (o + n * i.size) news 0 w hcell hfr hone
      refine ⟨some ⟨b, o, none⟩, c, w.setCells b (o + n * z) news, ?_, ⟨hlen, hroom, h.max, fun _ => ⟨b, o, rfl, hBb, Nat.lt_of_lt_of_le hlt (Chg.setCells b news (o + n * z) w).size, fun j hj => ?_, fun j u hu => ?_⟩⟩, by rw [fp_some _ _ _ (by omega)]; exact Chg.setCells b news (o + n * z) w, Or.inl rfl⟩
      · simp only [Nat.add_zero] at hst
        have := hf w rfl
        simp [Builtin.append_, run_underlying ht, sizeOf, typeInfo, hi, Builtin.lenOf, hroom, this, Addr.add_lit, hst]
        simp [hsize]
      · obtain ⟨h1, h2⟩ := hs j hj
        refine ⟨?_, by rw [World.frozen?_setCells]; exact h2⟩
        by_cases hin : n * z ≤ j ∧ j < n * z + news.length
        · have := World.cell?_setCells_in b news (o + n * z) w (fun k hk => by rw [Nat.add_assoc]; exact (hs (n * z + k) (by rw [Nat.add_mul] at hnm; omega)).1) (j - n * z) (by omega)
          rw [show o + n * z + (j - n * z) = o + j by omega] at this
          rw [this]; rfl
        · rw [World.cell?_setCells_out b news (o + n * z) w _ (fun _ _ => by simp; omega)]
          exact h1
      · by_cases hj : j < n * z
        · rw [List.getElem?_append_left (by rw [h.len]; exact hj)] at hu
          rw [World.cell?_setCells_out b news (o + n * z) w _ (fun _ _ => by simp; omega)]
          exact hv j u hu
        · rw [List.getElem?_append_right (by rw [h.len]; omega), h.len] at hu
          have hjn : j - n * z < news.length := (List.getElem?_eq_some_iff.1 hu).1
          have := World.cell?_setCells_in b news (o + n * z) w (fun k hk => by rw [Nat.add_assoc]; exact (hs (n * z + k) (by rw [Nat.add_mul] at hnm; omega)).1) (j - n * z) hjn
          rw [show o + n * z + (j - n * z) = o + j by omega] at this
          rw [this]
          rw [List.getElem?_eq_getElem hjn] at hu
          exact hu
  · have hfo : (Builtin.firstCells i.size n (.slice ao n c)).run P w.drew = .ok xs.toArray w.drew := by
      cases ao with
      | none =>
        have hc : c = 0 := by
          rcases Nat.eq_zero_or_pos c with h0 | h0
          · exact h0
          · obtain ⟨b, o, e, _⟩ := h.at_ h0; cases e
        have hn0 : n = 0 := by have := h.le; omega
        subst hn0
        have : xs = [] := List.eq_nil_of_length_eq_zero (by rw [h.len, Nat.zero_mul])
        subst this
        rw [run_firstCells_none]
      | some ad =>
        exact run_firstCells_some (P := P) w.drew i.size n ad n c xs (by simp [hsize, h.len]) (fun j u hu => by simpa using h.reads.addr ad rfl j u hu)
    have hfn := hf w.drew rfl
    have hge := grownCap_ge w (n + m) c e
    have hcm := grownCap_le_maxLen w (n + m) c e h63
    have h63' : ¬ (9223372036854775807 < ((n : Int) + (m : Int))) := by omega
    have h48' : ¬ (281474976710656 < Builtin.nextslicecap (n + m) c * i.bytes) := by have := growslice_fits (old := c) (need := n + m) (by omega) hbytes; omega
    refine ⟨some ⟨w.heap.size, 0, none⟩, grownCap w (n + m) c e, w.drew.alloc (.cells (xs.toArray ++ news.toArray ++ Builtin.zeroCells v.cells (grownCap w (n + m) c e - (n + m))) e), ?_, ?_, ⟨rfl, rfl, rfl, by simp, fun k hk _ => Below.heap_alloc w.drew _ k hk⟩, Or.inr (fp_some _ _ _ (by omega))⟩
    · simp [Builtin.append_, run_underlying ht, sizeOf, typeInfo, zeroValue, hi, hz, Builtin.lenOf, hroom, h63', h48', Question.forced, hfn, hfo, newRow, grownCap]
      congr 2
      apply Array.ext'
      simp [List.append_assoc]
    · refine RoomZ.of_owns (e := e) ⟨by rw [hlen], .inr ⟨w.heap.size, _, _, rfl, hB, heap_alloc_new w.drew _, hge, hcm, ?_, ?_⟩⟩
      · simp only [Array.size_append, List.size_toArray, size_zeroCells, hzs, h.len, hm]
        rw [← Nat.add_mul, ← Nat.add_mul]
        congr 1
        omega
      · simp only [Array.toList_append, List.append_assoc]
        rw [← List.append_assoc, ← hlen]
        exact List.take_left
end
end Go.Proofs.Ythbnakahcchbnaa
