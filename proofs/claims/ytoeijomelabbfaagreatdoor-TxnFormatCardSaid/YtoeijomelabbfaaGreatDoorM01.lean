/- Texts L, K, Z of the library, joined. -/
import Derived.Deep.Draws
import Derived.WalkKit
import Derived.Deep.WholeRow
/- Slices of one-cell elements, read and appended to; what a step may have changed. No program is named here. -/
namespace Go.Proofs.YtoeijomelabbfaaGreatDoor
set_option maxRecDepth 200000
open Go.RowKit

/-- From w to w' only the blocks of S may have turned; blocks may have come. -/
structure Chg (S : List Nat) (w w' : World) : Prop where
  os : w'.os = w.os
  tape : w'.tape = w.tape
  output : w'.output = w.output
  size : w.heap.size ≤ w'.heap.size
  block : ∀ k, k < w.heap.size → k ∉ S → w'.heap[k]? = w.heap[k]?

/-- The slice at ao reads as the cells xs. -/
def Reads (w : World) (ao : Option Addr) (xs : List Value) : Prop :=
  0 < xs.length → ∃ b o, ao = some ⟨b, o, none⟩ ∧ ∀ j u, xs[j]? = some u → w.cell? ⟨b, o + j, none⟩ = some u

/-- The block of an address. -/
def blk : Option Addr → List Nat
  | some a => [a.block]
  | none => []

/-- The block of a slice, if it has any room. -/
def fp (ao : Option Addr) (c : Nat) : List Nat := if c = 0 then [] else blk ao

/-- The slice (ao, n, c) holds xs; all its room lies, and may be written, in a block from B on. -/
structure Room (w : World) (B : Nat) (ao : Option Addr) (n c : Nat) (xs : List Value) : Prop where
  len : xs.length = n
  le : n ≤ c
  max : c ≤ maxLen
  at_ : 0 < c → ∃ b o, ao = some ⟨b, o, none⟩ ∧ B ≤ b ∧ (∀ j, j < c → (w.cell? ⟨b, o + j, none⟩).isSome = true ∧ w.frozen? ⟨b, o + j, none⟩ = false) ∧ ∀ j u, xs[j]? = some u → w.cell? ⟨b, o + j, none⟩ = some u

theorem Chg.refl (S : List Nat) (w : World) : Chg S w w := ⟨rfl, rfl, rfl, Nat.le_refl _, fun _ _ _ => rfl⟩

theorem Chg.mono {S T : List Nat} {w w' : World} (h : Chg S w w') (hs : ∀ k, k ∈ S → k < w.heap.size → k ∈ T) : Chg T w w' :=
  ⟨h.os, h.tape, h.output, h.size, fun k hk hn => h.block k hk fun hm => hn (hs k hm hk)⟩

theorem Chg.trans {S T U : List Nat} {a b c : World} (h : Chg S a b) (g : Chg T b c) (hS : ∀ k, k ∈ S → k < a.heap.size → k ∈ U) (hT : ∀ k, k ∈ T → k < a.heap.size → k ∈ U) : Chg U a c :=
  ⟨g.os.trans h.os, g.tape.trans h.tape, g.output.trans h.output, Nat.le_trans h.size g.size, fun k hk hn =>
    (g.block k (Nat.lt_of_lt_of_le hk h.size) (fun hm => hn (hT k hm hk))).trans (h.block k hk (fun hm => hn (hS k hm hk)))⟩

theorem Chg.cell {S : List Nat} {w w' : World} (h : Chg S w w') {p : Addr} (hp : p.block < w.heap.size) (hn : p.block ∉ S) : w'.cell? p = w.cell? p := World.cell?_of_block (h.block _ hp hn)
theorem Chg.frozen {S : List Nat} {w w' : World} (h : Chg S w w') {p : Addr} (hp : p.block < w.heap.size) (hn : p.block ∉ S) : w'.frozen? p = w.frozen? p := World.frozen?_of_block (h.block _ hp hn)
theorem Chg.cellv {S : List Nat} {w w' : World} (h : Chg S w w') {p : Addr} {v : Value} (hc : w.cell? p = some v) (hn : p.block ∉ S) : w'.cell? p = some v := (h.cell (block_lt_of_cell hc) hn).trans hc
theorem Chg.alloc (S : List Nat) (w : World) (o : Obj) : Chg S w (w.alloc o) := ⟨rfl, rfl, rfl, by simp, fun k hk _ => Below.heap_alloc w o k hk⟩
theorem Chg.drew (S : List Nat) (w : World) : Chg S w w.drew := ⟨rfl, rfl, rfl, Nat.le_refl _, fun _ _ _ => rfl⟩
theorem Chg.setCell (w : World) (a : Addr) (v : Value) : Chg [a.block] w (w.setCell a v) :=
  ⟨rfl, rfl, rfl, by simp, fun k _ hn => heap_setCell_other w a k v (by simpa using hn)⟩
theorem Chg.setCells (b : Nat) : ∀ (vs : List Value) (o : Nat) (w : World), Chg [b] w (w.setCells b o vs)
  | [], _, w => Chg.refl _ w
  | v :: r, o, w => (Chg.setCell w ⟨b, o, none⟩ v).trans (Chg.setCells b r (o + 1) _) (fun _ h _ => h) (fun _ h _ => h)
theorem Chg.grown {w w' : World} {row : Option Nat} (hg : w.grownBy w' row) : Chg row.toList w w' :=
  ⟨hg.os, hg.tape, hg.output, hg.size, fun k hk hn => hg.block k hk (by intro e; subst e; simp at hn)⟩
theorem Chg.of_below {w w' : World} (h : Below w.heap.size w w') : Chg [] w w' := ⟨h.os, h.tape, h.output, h.size, fun k hk _ => h.block k hk⟩
/-- At the end: all that changed is new. -/
theorem Chg.below {S : List Nat} {B : Nat} {w w' : World} (h : Chg S w w') (hB : B ≤ w.heap.size) (hS : ∀ k, k ∈ S → B ≤ k) : Below B w w' :=
  ⟨h.os, h.tape, h.output, h.size, fun k hk => h.block k (Nat.lt_of_lt_of_le hk hB) (fun hm => by have := hS k hm; omega)⟩

theorem Reads.nil (w : World) (ao : Option Addr) : Reads w ao [] := fun h => by simp at h
theorem Reads.lt {w : World} {ao : Option Addr} {xs : List Value} (h : Reads w ao xs) (hx : 0 < xs.length) : ∀ k, k ∈ blk ao → k < w.heap.size := by
  intro k hk
  obtain ⟨b, o, rfl, hc⟩ := h hx
  simp [blk] at hk
  subst hk
  exact block_lt_of_cell (hc 0 xs[0] (by simp [hx]))
theorem Reads.chg {S : List Nat} {w w' : World} {ao : Option Addr} {xs : List Value} (h : Reads w ao xs) (g : Chg S w w') (hn : ∀ k, k ∈ blk ao → k ∉ S) : Reads w' ao xs := by
  intro hx
  obtain ⟨b, o, rfl, hc⟩ := h hx
  exact ⟨b, o, rfl, fun j u hu => g.cellv (hc j u hu) (hn b (by simp [blk]))⟩
theorem Reads.chg0 {S : List Nat} {w w' : World} {ao : Option Addr} {xs : List Value} (h : Reads w ao xs) (g : Chg S w w') (hn : 0 < xs.length → ∀ k, k ∈ blk ao → k ∉ S) : Reads w' ao xs := by
  intro hx
  obtain ⟨b, o, rfl, hc⟩ := h hx
  exact ⟨b, o, rfl, fun j u hu => g.cellv (hc j u hu) (hn hx b (by simp [blk]))⟩
theorem Reads.cell {w : World} {b o : Nat} {xs : List Value} (h : Reads w (some ⟨b, o, none⟩) xs) (j : Nat) (u : Value) (hu : xs[j]? = some u) : w.cell? ⟨b, o + j, none⟩ = some u := by
  obtain ⟨b', o', e, hc⟩ := h (by cases xs <;> simp at hu ⊢)
  cases e
  exact hc j u hu
theorem Reads.addr {w : World} {ao : Option Addr} {xs : List Value} (h : Reads w ao xs) : ∀ ad, ao = some ad → ∀ j u, xs[j]? = some u → w.cell? (ad.add j) = some u := by
  rintro ad rfl j u hu
  obtain ⟨b', o', e, hc⟩ := h (by cases xs <;> simp at hu ⊢)
  cases e
  rw [Addr.add_lit]
  exact hc j u hu

theorem Room.reads {w : World} {B : Nat} {ao : Option Addr} {n c : Nat} {xs : List Value} (h : Room w B ao n c xs) : Reads w ao xs := by
  intro hx
  obtain ⟨b, o, e, _, _, hc⟩ := h.at_ (by have := h.len; have := h.le; omega)
  exact ⟨b, o, e, hc⟩
theorem fp_zero (ao : Option Addr) : fp ao 0 = [] := rfl
theorem fp_some (b o c : Nat) (h : 0 < c) : fp (some ⟨b, o, none⟩) c = [b] := by unfold fp; rw [if_neg (by omega)]; rfl
theorem Room.lt {w : World} {B : Nat} {ao : Option Addr} {n c : Nat} {xs : List Value} (h : Room w B ao n c xs) : ∀ k, k ∈ fp ao c → B ≤ k ∧ k < w.heap.size := by
  intro k hk
  have hc : 0 < c := by
    rcases Nat.eq_zero_or_pos c with h0 | h0
    · subst h0; simp [fp_zero] at hk
    · exact h0
  unfold fp at hk
  rw [if_neg (by omega)] at hk
  obtain ⟨b, o, rfl, hB, hs, _⟩ := h.at_ hc
  simp [blk] at hk
  subst hk
  obtain ⟨u, hu⟩ := Option.isSome_iff_exists.1 (hs 0 hc).1
  exact ⟨hB, block_lt_of_cell hu⟩
theorem Room.chg {S : List Nat} {w w' : World} {B : Nat} {ao : Option Addr} {n c : Nat} {xs : List Value} (h : Room w B ao n c xs) (g : Chg S w w') (hn : ∀ k, k ∈ fp ao c → k ∉ S) : Room w' B ao n c xs := by
  refine ⟨h.len, h.le, h.max, fun hc => ?_⟩
  obtain ⟨b, o, rfl, hB, hs, hv⟩ := h.at_ hc
  have hb : b ∉ S := hn b (by rw [fp_some _ _ _ hc]; simp)
  refine ⟨b, o, rfl, hB, fun j hj => ?_, fun j u hu => g.cellv (hv j u hu) hb⟩
  obtain ⟨u, hu⟩ := Option.isSome_iff_exists.1 (hs j hj).1
  exact ⟨by rw [g.cellv hu hb]; rfl, by rw [g.frozen (block_lt_of_cell hu) hb]; exact (hs j hj).2⟩
theorem Room.nil (w : World) (B : Nat) (ao : Option Addr) : Room w B ao 0 0 [] := ⟨rfl, Nat.le_refl _, Nat.zero_le _, fun h => absurd h (Nat.lt_irrefl 0)⟩
theorem Room.mono {w : World} {B B' : Nat} {ao : Option Addr} {n c : Nat} {xs : List Value} (h : Room w B ao n c xs) (hB : B' ≤ B) : Room w B' ao n c xs :=
  ⟨h.len, h.le, h.max, fun hc => let ⟨b, o, e, h1, h2, h3⟩ := h.at_ hc; ⟨b, o, e, Nat.le_trans hB h1, h2, h3⟩⟩
/-- What the kit says of a row that the call owns. -/
theorem Room.of_owns {w : World} {B : Nat} {e : TypeId} {ao : Option Addr} {n c : Nat} {xs : List Value} (h : w.ownsRow B e 1 (.slice ao n c) n xs) : Room w B ao n c xs := by
  obtain ⟨hl, h⟩ := h
  rcases h with ⟨hv, hn⟩ | ⟨g, cap, cur, hv, hb, hh, hc, hm, hs, ht⟩
  · cases hv
    exact ⟨by simpa using hl, Nat.le_refl _, Nat.zero_le _, fun h => absurd h (Nat.lt_irrefl 0)⟩
  · cases hv
    refine ⟨by simpa using hl, hc, hm, fun _ => ⟨g, 0, rfl, hb, fun j hj => ?_, fun j u hu => ?_⟩⟩
    · have : j < cur.size := by omega
      exact ⟨by rw [cell_of_row w g _ cur e _ hh]; simp [this], frozen_of_row w g _ cur e hh⟩
    · rw [cell_of_row w g _ cur e _ hh]
      rw [← ht, List.getElem?_take] at hu
      split at hu
      · simpa using hu
      · cases hu
/-- s[:l] read; s[l:] read and owned. -/
theorem Reads.take {w : World} {ao : Option Addr} {xs : List Value} (h : Reads w ao xs) (l : Nat) : Reads w ao (xs.take l) := by
  intro hx
  obtain ⟨b, o, e, hc⟩ := h (by simp at hx; omega)
  refine ⟨b, o, e, fun j u hu => hc j u ?_⟩
  rw [List.getElem?_take] at hu
  split at hu
  · exact hu
  · cases hu
theorem Reads.drop {w : World} {b o l : Nat} {xs : List Value} (h : Reads w (some ⟨b, o, none⟩) xs) : Reads w (some ⟨b, o + l, none⟩) (xs.drop l) := by
  intro hx
  refine ⟨b, o + l, rfl, fun j u hu => ?_⟩
  rw [List.getElem?_drop] at hu
  rw [Nat.add_assoc]
  exact h.cell (l + j) u hu
/-- The address of s[l:], as the model has it. -/
def cut (ao : Option Addr) (c l : Nat) : Option Addr := if c = l then ao else ao.map (·.add l)
theorem blk_cut (ao : Option Addr) (c l : Nat) : blk (cut ao c l) = blk ao := by
  unfold cut
  split
  · rfl
  · cases ao with
    | none => rfl
    | some a => simp only [Option.map_some, blk]; unfold Addr.add; split <;> rfl
theorem Reads.cut {w : World} {ao : Option Addr} {xs : List Value} (h : Reads w ao xs) (c l : Nat) (hc : xs.length ≤ c) : Reads w (cut ao c l) (xs.drop l) := by
  intro hx
  simp at hx
  obtain ⟨b, o, rfl, hv⟩ := h (by omega)
  have e : YtoeijomelabbfaaGreatDoor.cut (some ⟨b, o, none⟩) c l = some ⟨b, o + l, none⟩ := by
    unfold YtoeijomelabbfaaGreatDoor.cut
    rw [if_neg (by omega), Option.map_some, Addr.add_lit]
  refine ⟨b, o + l, e, fun j u hu => ?_⟩
  rw [List.getElem?_drop] at hu
  rw [Nat.add_assoc]
  exact hv (l + j) u hu
theorem Room.cut {w : World} {B : Nat} {ao : Option Addr} {n c : Nat} {xs : List Value} (h : Room w B ao n c xs) (l : Nat) (hl : l ≤ n) : Room w B (cut ao c l) (n - l) (c - l) (xs.drop l) := by
  have h1 := h.len
  have h2 := h.le
  have h3 := h.max
  refine ⟨by simp; omega, by omega, by omega, fun hc => ?_⟩
  obtain ⟨b, o, rfl, hB, hs, hv⟩ := h.at_ (by omega)
  have e : YtoeijomelabbfaaGreatDoor.cut (some ⟨b, o, none⟩) c l = some ⟨b, o + l, none⟩ := by
    unfold YtoeijomelabbfaaGreatDoor.cut
    rw [if_neg (by omega), Option.map_some, Addr.add_lit]
  refine ⟨b, o + l, e, hB, fun j hj => ?_, fun j u hu => ?_⟩
  · rw [Nat.add_assoc]
    exact hs (l + j) (by omega)
  · rw [List.getElem?_drop] at hu
    rw [Nat.add_assoc]
    exact hv (l + j) u hu

/-- s[l:], in one value. -/
theorem run_from_k {P : Program} {t e : TypeId} (ao : Option Addr) (n c l : Nat) (ht : P.underlying t = some (.slice e)) (hs : (P.info? e).map (·.size) = some 1) (hl : l ≤ n) (w : World) :
    (Instr.slice t (.slice ao n c) (some (.int .i64 (l : Int))) none none).run P w = .ok (.slice (cut ao c l) (n - l) (c - l)) w := by
  have he : P.elem t = e := by simp [Program.elem, ht]
  rw [run_slice_l w t ao n c (by rw [he]; exact ht) .i64 (l : Int) (by omega) (by omega), he]
  obtain ⟨i, hi, hi1⟩ := Option.map_eq_some_iff.1 hs
  simp [sizeOf, typeInfo, hi, hi1, sliced, cut]

/-- What the program's table says of the slice type t, its elements of type e, one cell each. -/
def Elt (P : Program) (t e : TypeId) (bytes : Nat) : Prop :=
  P.underlying t = some (.slice e) ∧ ∃ i z, P.info? e = some i ∧ i.zero = some z ∧ i.size = 1 ∧ i.bytes = bytes ∧ z.cells.size = 1
theorem Elt.mk {P : Program} {t e : TypeId} {z : Value} {bytes : Nat} (ht : P.underlying t = some (.slice e)) (h : (P.info? e).map (fun i => (i.zero, i.size, i.bytes)) = some (some z, 1, bytes)) (hz : z.cells.size = 1) : Elt P t e bytes :=
  let ⟨i, h1, h2, h3, h4⟩ := info_parts h
  ⟨ht, i, z, h1, h2, h3, h4, hz⟩

section
variable {P : Program} (w : World)
theorem run_append_k (t ty e : TypeId) (bytes : Nat) (helt : Elt P t e bytes)
    (B : Nat) (ao : Option Addr) (n c : Nat) (xs : List Value) (h : Room w B ao n c xs) (hB : B ≤ w.heap.size)
    (ax : Option Addr) (m cx : Nat) (news : List Value) (hx : Reads w ax news) (hm : news.length = m) (hone : ∀ u ∈ news, u.oneCell' = true)
    (h63 : n + m ≤ maxLen) (hbytes : (n + m) * bytes ≤ 140737488355328) :
    ∃ ao' c' w', (Builtin.append_ #[t, t] ty #[.slice ao n c, .slice ax m cx]).run P w = .ok (.slice ao' (n + m) c') w' ∧ Room w' B ao' (n + m) c' (xs ++ news) ∧ Chg (fp ao c) w w' ∧ (fp ao' c' = fp ao c ∨ fp ao' c' = [w.heap.size]) := by
  obtain ⟨ht, i, z, hi, hz, hsize, hby, hzs⟩ := helt
  subst hby
  have hlen : (xs ++ news).length = n + m := by rw [List.length_append, h.len, hm]
  have hml : maxLen = 9223372036854775807 := rfl
  have hf : ∀ w0 : World, w0.heap = w.heap → (Builtin.firstCells i.size m (.slice ax m cx)).run P w0 = .ok news.toArray w0 := by
    intro w0 hw0
    cases ax with
    | none =>
      have : news = [] := by
        cases hn : news with
        | nil => rfl
        | cons u r => obtain ⟨b, o, e, _⟩ := hx (by rw [hn]; simp); cases e
      subst this
      rw [run_firstCells_none]
    | some ad =>
      refine run_firstCells_some (P := P) w0 i.size m ad m cx news (by simp [hsize, hm]) (fun j u hu => ?_)
      have := hx.addr ad rfl j u hu
      simpa [World.cell?, hw0] using this
  by_cases hroom : n + m ≤ c
  · by_cases hc : c = 0
    · subst hc
      have hn0 : n = 0 := by omega
      have hm0 : m = 0 := by omega
      subst hn0 hm0
      have hx0 : xs = [] := List.eq_nil_of_length_eq_zero h.len
      have hnn : news = [] := List.eq_nil_of_length_eq_zero hm
      subst hx0 hnn
      refine ⟨ao, 0, w, ?_, h, Chg.refl _ _, Or.inl rfl⟩
      have := hf w rfl
      cases ao <;> simp [Builtin.append_, run_underlying ht, sizeOf, typeInfo, hi, Builtin.lenOf, this, storeCells]
    · obtain ⟨b, o, rfl, hBb, hs, hv⟩ := h.at_ (by omega)
      have hcell : ∀ j, j < news.length → (w.cell? ⟨b, o + n * i.size + 0 + j, none⟩).isSome = true := fun j hj => by
        have := (hs (n + j) (by omega)).1
        rwa [hsize, Nat.mul_one, Nat.add_zero, Nat.add_assoc]
      have hfr : ∀ j, j < news.length → w.frozen? ⟨b, o + n * i.size + 0 + j, none⟩ = false := fun j hj => by
        have := (hs (n + j) (by omega)).2
        rwa [hsize, Nat.mul_one, Nat.add_zero, Nat.add_assoc]
      have hst := run_storeCells_cells (P := P) b (o + n * i.size) news 0 w hcell hfr hone
      refine ⟨some ⟨b, o, none⟩, c, w.setCells b (o + n) news, ?_, ⟨hlen, hroom, h.max, fun _ => ⟨b, o, rfl, hBb, fun j hj => ?_, fun j u hu => ?_⟩⟩, by rw [fp_some _ _ _ (by omega)]; exact Chg.setCells b news (o + n) w, Or.inl rfl⟩
      · simp only [Nat.add_zero] at hst
        have := hf w rfl
        simp [Builtin.append_, run_underlying ht, sizeOf, typeInfo, hi, Builtin.lenOf, hroom, this, Addr.add_lit, hst]
        simp [hsize]
      · obtain ⟨h1, h2⟩ := hs j hj
        refine ⟨?_, by rw [World.frozen?_setCells]; exact h2⟩
        by_cases hin : n ≤ j ∧ j < n + news.length
        · have := World.cell?_setCells_in b news (o + n) w (fun k hk => by rw [Nat.add_assoc]; exact (hs (n + k) (by omega)).1) (j - n) (by omega)
          rw [show o + n + (j - n) = o + j by omega] at this
          rw [this]; rfl
        · rw [World.cell?_setCells_out b news (o + n) w _ (fun _ _ => by simp; omega)]
          exact h1
      · by_cases hj : j < n
        · rw [List.getElem?_append_left (by rw [h.len]; exact hj)] at hu
          rw [World.cell?_setCells_out b news (o + n) w _ (fun _ _ => by simp; omega)]
          exact hv j u hu
        · rw [List.getElem?_append_right (by rw [h.len]; omega), h.len] at hu
          have hjn : j - n < news.length := (List.getElem?_eq_some_iff.1 hu).1
          have := World.cell?_setCells_in b news (o + n) w (fun k hk => by rw [Nat.add_assoc]; exact (hs (n + k) (by omega)).1) (j - n) hjn
          rw [show o + n + (j - n) = o + j by omega] at this
          rw [this]
          rw [List.getElem?_eq_getElem hjn] at hu
          exact hu
  · have hfo : (Builtin.firstCells i.size n (.slice ao n c)).run P w.drew = .ok xs.toArray w.drew := by
      cases ao with
      | none =>
        have hc : c = 0 := by
          rcases Nat.eq_zero_or_pos c with h0 | h0
          · exact h0
          · obtain ⟨b, o, e, _⟩ := h.at_ h0; cases e
        have : xs = [] := List.eq_nil_of_length_eq_zero (by have := h.len; have := h.le; omega)
        subst this
        rw [run_firstCells_none]
      | some ad =>
        exact run_firstCells_some (P := P) w.drew i.size n ad n c xs (by simp [hsize, h.len]) (fun j u hu => by simpa using h.reads.addr ad rfl j u hu)
    have hfn := hf w.drew rfl
    have hge := grownCap_ge w (n + m) c e
    have hcm := grownCap_le_maxLen w (n + m) c e h63
    have h63' : ¬ (9223372036854775807 < ((n : Int) + (m : Int))) := by omega
    have h48' : ¬ (281474976710656 < Builtin.nextslicecap (n + m) c * i.bytes) := by have := growslice_fits (old := c) (need := n + m) (by omega) hbytes; omega
    refine ⟨some ⟨w.heap.size, 0, none⟩, grownCap w (n + m) c e, w.drew.alloc (.cells (xs.toArray ++ news.toArray ++ Builtin.zeroCells z.cells (grownCap w (n + m) c e - (n + m))) e), ?_, ?_, ⟨rfl, rfl, rfl, by simp, fun k hk _ => Below.heap_alloc w.drew _ k hk⟩, Or.inr (fp_some _ _ _ (by omega))⟩
    · simp [Builtin.append_, run_underlying ht, sizeOf, typeInfo, zeroValue, hi, hz, Builtin.lenOf, hroom, h63', h48', Question.forced, hfn, hfo, newRow, grownCap]
      congr 2
      apply Array.ext'
      simp [List.append_assoc]
    · refine Room.of_owns (e := e) ⟨by rw [hlen]; simp, .inr ⟨w.heap.size, _, _, rfl, hB, heap_alloc_new w.drew _, hge, hcm, ?_, ?_⟩⟩
      · simp only [Array.size_append, List.size_toArray, size_zeroCells, hzs, h.len, hm]
        omega
      · simp only [Array.toList_append, List.append_assoc]
        rw [← List.append_assoc, Nat.mul_one, ← hlen]
        exact List.take_left
end


theorem wpList_append_k {P : Program} (w : World) {ops : Array Oper} {rest : List Oper} {o : Oper} {a : Act} {Q : Exit → Act → World → Prop} (hgd : o.guard = none) (s x : Operand) (t : TypeId)
    (ho : o.op = .call { callee := .builtin .append, args := #[s, x], argTypes := #[t, t] })
    (e : TypeId) (bytes : Nat) (helt : Elt P t e bytes)
    (B : Nat) (ao : Option Addr) (n c : Nat) (xs : List Value) (hs : a.eval s = .slice ao n c) (h : Room w B ao n c xs) (hB : B ≤ w.heap.size)
    (ax : Option Addr) (m cx : Nat) (news : List Value) (hxe : a.eval x = .slice ax m cx) (hx : Reads w ax news) (hm : news.length = m) (hone : ∀ u ∈ news, u.oneCell' = true)
    (h63 : n + m ≤ maxLen) (hbytes : (n + m) * bytes ≤ 140737488355328)
    (hK : ∀ ao' c' w', Room w' B ao' (n + m) c' (xs ++ news) → Chg (fp ao c) w w' → (fp ao' c' = fp ao c ∨ fp ao' c' = [w.heap.size]) → wpList P ops Q rest (a.put o.dst (.slice ao' (n + m) c')) w') : wpList P ops Q (o :: rest) a w := by
  refine wpList_plain hgd fun K hK' => ?_
  obtain ⟨ao', c', w', hr, h2, h3, h4⟩ := run_append_k (P := P) w t o.type e bytes helt B ao n c xs h hB ax m cx news hx hm hone h63 hbytes
  unfold Oper.wp execOp
  simp only [ho, resolve, invoke, builtin, Sem.run_bind, Sem.run_pure, Result.andThen_ok, List.map_toArray, List.map_cons, List.map_nil, hs, hxe, hr]
  exact hK' _ _ (hK ao' c' w' h2 h3 h4)

theorem Reads.new (w : World) (cs : Array Value) (e : TypeId) : Reads (w.alloc (.cells cs e)) (some ⟨w.heap.size, 0, none⟩) cs.toList := fun _ =>
  ⟨w.heap.size, 0, rfl, fun j u hu => by simpa using hu⟩

/-- append(s, x) of one element, which lies in the block that was just made. -/
theorem wpList_append_1 {P : Program} (w : World) {ops : Array Oper} {rest : List Oper} {o : Oper} {a : Act} {Q : Exit → Act → World → Prop} (hgd : o.guard = none) (s x : Operand) (t : TypeId)
    (ho : o.op = .call { callee := .builtin .append, args := #[s, x], argTypes := #[t, t] })
    (e : TypeId) (bytes : Nat) (helt : Elt P t e bytes)
    (B : Nat) (ao : Option Addr) (n c : Nat) (xs : List Value) (hs : a.eval s = .slice ao n c) (h : Room w B ao n c xs) (hB : B ≤ w.heap.size)
    (u : Value) (cx : Nat) (hxe : a.eval x = .slice (some ⟨w.heap.size, 0, none⟩) 1 cx) (hone : u.oneCell' = true)
    (h63 : n + 1 ≤ maxLen) (hbytes : (n + 1) * bytes ≤ 140737488355328)
    (hK : ∀ ao' c' w', Room w' B ao' (n + 1) c' (xs ++ [u]) → Chg (fp ao c) w w' → (fp ao' c' = fp ao c ∨ ∃ k, w.heap.size ≤ k ∧ fp ao' c' = [k]) → wpList P ops Q rest (a.put o.dst (.slice ao' (n + 1) c')) w') : wpList P ops Q (o :: rest) a (w.alloc (.cells #[u] e)) :=
  wpList_append_k (w.alloc (.cells #[u] e)) hgd s x t ho e bytes helt B ao n c xs hs (h.chg (Chg.alloc [] w _) (by simp)) (by simp; omega) (some ⟨w.heap.size, 0, none⟩) 1 cx [u] hxe (Reads.new w #[u] e) rfl (by simpa using hone) h63 hbytes
    (fun ao' c' w' h1 h2 h3 => hK ao' c' w' h1 ((Chg.alloc [] w _).trans h2 (by simp) (fun k h _ => h)) (h3.imp id fun h => ⟨_, by simp, h⟩))

/-- What was new stays new. -/
theorem Chg.own {w0 w w' : World} {ao : Option Addr} {n c : Nat} {xs : List Value} {S : List Nat} (h : Chg S w0 w) (g : Chg (fp ao c) w w') (hr : Room w w0.heap.size ao n c xs) : Chg S w0 w' :=
  h.trans g (fun _ h _ => h) (fun k hk hlt => by have := (hr.lt k hk).1; omega)
theorem Chg.then {w0 w w' : World} {S : List Nat} (h : Chg S w0 w) (g : Chg [] w w') : Chg S w0 w' := h.trans g (fun _ h _ => h) (by simp)

/-- make([]T, 0, m). -/
theorem wpList_make_k {P : Program} (w : World) {ops : Array Oper} {rest : List Oper} {o : Oper} {a : Act} {Q : Exit → Act → World → Prop}
    (hg : o.guard = none) (l c : Operand) (t : TypeId) (hop : o.op = Op.makeSlice t l c)
    (e : TypeId) (bytes : Nat) (helt : Elt P t e bytes)
    (B : Nat) (kl kc : IntKind) (C : Int) (n : Nat) (hl : a.eval l = .int kl 0) (hc : a.eval c = .int kc C) (hC : C = (n : Int)) (b2 : bytes * n ≤ 281474976710656) (b3 : n ≤ maxLen) (hB : B ≤ w.heap.size)
    (hK : ∀ w', Room w' B (some ⟨w.heap.size, 0, none⟩) 0 n [] → Chg [] w w' → wpList P ops Q rest (a.put o.dst (.slice (some ⟨w.heap.size, 0, none⟩) 0 n)) w') :
    wpList P ops Q (o :: rest) a w := by
  obtain ⟨h1, i, z, h2, h3, h4, h5, _⟩ := helt
  exact wpList_make_own w hg l c t hop B e i z 1 h1 h2 h3 h4 kl kc C n hl hc hC (by rw [h5]; exact b2) b3 hB
    (fun w' h g => hK w' (Room.of_owns h) (by simpa using Chg.grown g))

/-! ### bytes -/
def bts (l : List UInt8) : List Value := l.map fun b => .int .u8 (b.toNat : Int)
theorem bts_length (l : List UInt8) : (bts l).length = l.length := by simp [bts]
theorem bts_append (l m : List UInt8) : bts (l ++ m) = bts l ++ bts m := by simp [bts]
theorem bts_get (l : List UInt8) (i : Nat) (h : i < l.length) : (bts l)[i]? = some (.int .u8 (l[i].toNat : Int)) := by simp [bts, h]
theorem bts_one (l : List UInt8) : ∀ u ∈ bts l, u.oneCell' = true := by
  intro u hu
  obtain ⟨_, _, rfl⟩ := List.mem_map.1 hu
  rfl
theorem bts_take (l : List UInt8) (n : Nat) : (bts l).take n = bts (l.take n) := by simp [bts]
theorem bts_drop (l : List UInt8) (n : Nat) : (bts l).drop n = bts (l.drop n) := by simp [bts]
theorem run_convert_k {P : Program} (w : World) (src e dst : TypeId) (hs : P.underlying src = some (.slice e)) (he : P.underlying e = some (.int .u8)) (hd : P.underlying dst = some .string)
    (ao : Option Addr) (n c : Nat) (l : List UInt8) (h : Reads w ao (bts l)) (hn : l.length = n) : (convert src dst (.slice ao n c)).run P w = .ok (.string ⟨l.toArray⟩) w := by
  have hmap : ((l.map fun b : UInt8 => (b.toNat : Int)).map (Value.int .u8)) = bts l := by simp [bts]
  cases ao with
  | none =>
    have : l = [] := by
      cases hl : l with
      | nil => rfl
      | cons u r => obtain ⟨b, o, e, _⟩ := h (by rw [hl]; simp [bts]); cases e
    subst this
    rw [run_convert_bytes_nil w src e hs he n c dst hd]; rfl
  | some ad =>
    have hl : (loadCells ad n).run P w = .ok ((l.map fun b : UInt8 => (b.toNat : Int)).map (Value.int .u8)).toArray w := by
      rw [hmap]
      have := run_loadCells_list (P := P) w ad (bts l) (fun j u hu => h.addr ad rfl j u hu)
      simpa [bts, hn] using this
    rw [run_convert_bytes_string w src dst e _ n c hs he hd, run_bytesToString w _ n c _ hl, foldl_push_bytes]
    have he : ((fun n : Int => UInt8.ofNat n.toNat) ∘ fun b : UInt8 => (b.toNat : Int)) = id := by funext b; simp
    simp [ByteArray.empty, ByteArray.emptyWithCapacity, he]
    rfl
theorem Chg.drewN (w : World) (n : Nat) : Chg [] w (w.drewN n) := ⟨rfl, rfl, rfl, Nat.le_refl _, fun _ _ _ => rfl⟩
end Go.Proofs.YtoeijomelabbfaaGreatDoor

/- More of slices: what is new, parts in one value, a row written; appending one element where the order is open. No program is named here. -/
namespace Go.Proofs.YtoeijomelabbfaaGreatDoor
set_option maxRecDepth 200000
open Go.RowKit
set_option linter.unusedVariables false
set_option linter.unusedSimpArgs false

theorem mkHid {p : Prop} (h : p) : Hid p := h
theorem ret_int {k : IntKind} {a b : Int} (h : a = b) : Ending.returned (Value.int k a) = .returned (.int k b) := by rw [h]
theorem Reads.old {S : List Nat} {w w' : World} {ao : Option Addr} {xs : List Value} (h : Reads w ao xs) (g : Chg S w w') (hS : ∀ k, k ∈ S → w.heap.size ≤ k) : Reads w' ao xs := by
  intro hx
  obtain ⟨b, o, rfl, hc⟩ := h hx
  refine ⟨b, o, rfl, fun j u hu => g.cellv (hc j u hu) (fun hb => ?_)⟩
  have h1 := hS b hb
  have h2 : b < w.heap.size := block_lt_of_cell (hc j u hu)
  omega

/-! ### a store into a slice -/
theorem Reads.keep {w w' : World} {ao : Option Addr} {xs : List Value} (h : Reads w ao xs) (g : Chg [] w w') : Reads w' ao xs := h.chg g (fun _ _ h => by simp at h)
theorem reads_new (w : World) (cs : Array Value) (e : TypeId) (fr : Nat × Nat) (l : List UInt8) (h : cs.toList = bts l) : Reads (w.alloc (.cells cs e fr)) (some ⟨w.heap.size, 0, none⟩) (bts l) := fun _ =>
  ⟨w.heap.size, 0, rfl, fun j u hu => by
    rw [← h] at hu
    rw [cell_of_row _ _ _ _ _ _ (heap_alloc_last w _)]
    simpa using hu⟩
theorem reads_lt {w : World} {ao : Option Addr} {xs : List Value} (g : Reads w ao xs) (j : Nat) (u : Value) (hu : xs[j]? = some u) : ∃ b o, ao = some ⟨b, o, none⟩ ∧ w.cell? ⟨b, o + j, none⟩ = some u ∧ b < w.heap.size := by
  obtain ⟨b, o, e, hc⟩ := g (by cases xs <;> simp at hu ⊢)
  exact ⟨b, o, e, hc j u hu, block_lt_of_cell (hc j u hu)⟩
theorem Room.set {w : World} {B b o n c : Nat} {xs : List Value} (h : Room w B (some ⟨b, o, none⟩) n c xs) (i : Nat) (hi : i < n) (u : Value) : Room (w.setCell ⟨b, o + i, none⟩ u) B (some ⟨b, o, none⟩) n c (xs.set i u) := by
  refine ⟨by rw [List.length_set]; exact h.len, h.le, h.max, fun hc => ?_⟩
  obtain ⟨b', o', e, hB, hs, hv⟩ := h.at_ hc
  cases e
  have hle := h.le
  refine ⟨b, o, rfl, hB, fun j hj => ?_, fun j v hj => ?_⟩
  · refine ⟨?_, by rw [World.frozen?_setCell]; exact (hs j hj).2⟩
    by_cases hji : j = i
    · subst hji
      obtain ⟨v, hv⟩ := Option.isSome_iff_exists.1 (hs j hj).1
      rw [World.cell?_setCell_same _ _ _ hv]; rfl
    · rw [World.cell?_setCell_other _ _ _ _ (by simp)]
      exact (hs j hj).1
  · by_cases hji : j = i
    · subst hji
      obtain ⟨v', hv'⟩ := Option.isSome_iff_exists.1 (hs j (by omega)).1
      rw [World.cell?_setCell_same _ _ _ hv']
      have hl := h.len
      rw [List.getElem?_set_self (by omega)] at hj
      exact hj
    · rw [World.cell?_setCell_other _ _ _ _ (by simp)]
      rw [List.getElem?_set_ne (by omega)] at hj
      exact hv j v hj
theorem Room.cell {w : World} {B b o n c : Nat} {xs : List Value} (h : Room w B (some ⟨b, o, none⟩) n c xs) (i : Nat) (hi : i < n) : w.frozen? ⟨b, o + i, none⟩ = false := by
  obtain ⟨b', o', e, hB, hs, hv⟩ := h.at_ (by have := h.le; omega)
  cases e
  exact (hs i (by have := h.le; omega)).2
theorem run_take_k {P : Program} {t e : TypeId} (ao : Option Addr) (n c m : Nat) (ht : P.underlying t = some (.slice e)) (hs : (P.info? e).map (·.size) = some 1) (hc : m ≤ c) (w : World) :
    (Instr.slice t (.slice ao n c) none (some (.int .i64 (m : Int))) none).run P w = .ok (.slice ao m c) w := by
  have he : P.elem t = e := by simp [Program.elem, ht]
  rw [run_slice_h w t ao n c (by rw [he]; exact ht) .i64 (m : Int) (by omega) (by omega)]
  obtain ⟨i, hi, hi1⟩ := Option.map_eq_some_iff.1 hs
  cases ao <;> simp [sizeOf, typeInfo, he, hi, hi1, sliced, Addr.add]
/-! ### bytes as the walk has them -/
def v8 (b : UInt8) : Int := (b.toNat : Int)
theorem x8 (a b : UInt8) : bits .xor .u8 (v8 a) (v8 b) = v8 (a ^^^ b) := by
  unfold v8
  have := a.toNat_lt
  have := b.toNat_lt
  rw [u8_xor_nat _ _ (by omega) (by omega), UInt8.toNat_xor]
theorem bts_get8 (l : List UInt8) (i : Nat) (h : i < l.length) : (bts l)[i]? = some (.int .u8 (v8 l[i])) := bts_get l i h
theorem bts_set (l : List UInt8) (i : Nat) (b : UInt8) : (bts l).set i (.int .u8 (v8 b)) = bts (l.set i b) := by simp [bts, v8]
end Go.Proofs.YtoeijomelabbfaaGreatDoor

/- Slices whose elements have z cells each: read, appended to, an element written. No program is named here. -/
namespace Go.Proofs.YtoeijomelabbfaaGreatDoor
set_option maxRecDepth 200000
open Go.RowKit
set_option linter.unusedVariables false
set_option linter.unusedSimpArgs false

/-- The slice (ao, n, c) of elements of z cells holds the cells xs; all its room lies, and may be written, in a block from B on. -/
structure RoomZ (z : Nat) (w : World) (B : Nat) (ao : Option Addr) (n c : Nat) (xs : List Value) : Prop where
  len : xs.length = n * z
  le : n ≤ c
  max : c ≤ maxLen
  at_ : 0 < c → ∃ b o, ao = some ⟨b, o, none⟩ ∧ B ≤ b ∧ b < w.heap.size ∧ (∀ j, j < c * z → (w.cell? ⟨b, o + j, none⟩).isSome = true ∧ w.frozen? ⟨b, o + j, none⟩ = false) ∧ ∀ j u, xs[j]? = some u → w.cell? ⟨b, o + j, none⟩ = some u
theorem RoomZ.nil (z : Nat) (w : World) (B : Nat) (ao : Option Addr) : RoomZ z w B ao 0 0 [] := ⟨by simp, Nat.le_refl _, Nat.zero_le _, fun h => absurd h (Nat.lt_irrefl 0)⟩
theorem RoomZ.lt {z : Nat} {w : World} {B : Nat} {ao : Option Addr} {n c : Nat} {xs : List Value} (h : RoomZ z w B ao n c xs) : ∀ k, k ∈ fp ao c → B ≤ k ∧ k < w.heap.size := by
  intro k hk
  have hc : 0 < c := by
    rcases Nat.eq_zero_or_pos c with h0 | h0
    · subst h0; simp [fp_zero] at hk
    · exact h0
  unfold fp at hk
  rw [if_neg (by omega)] at hk
  obtain ⟨b, o, rfl, hB, hs, _⟩ := h.at_ hc
  simp [blk] at hk
  subst hk
  exact ⟨hB, hs⟩
theorem RoomZ.reads {z : Nat} {w : World} {B : Nat} {ao : Option Addr} {n c : Nat} {xs : List Value} (h : RoomZ z w B ao n c xs) : Reads w ao xs := by
  intro hx
  have hc : 0 < c := by
    rcases Nat.eq_zero_or_pos c with h0 | h0
    · have := h.le
      have h1 := h.len
      have : n = 0 := by omega
      subst this
      omega
    · exact h0
  obtain ⟨b, o, e, _, _, _, hv⟩ := h.at_ hc
  exact ⟨b, o, e, hv⟩
theorem RoomZ.chg {z : Nat} {S : List Nat} {w w' : World} {B : Nat} {ao : Option Addr} {n c : Nat} {xs : List Value} (h : RoomZ z w B ao n c xs) (g : Chg S w w') (hn : ∀ k, k ∈ fp ao c → k ∉ S) : RoomZ z w' B ao n c xs := by
  refine ⟨h.len, h.le, h.max, fun hc => ?_⟩
  obtain ⟨b, o, rfl, hB, hlt, hs, hv⟩ := h.at_ hc
  have hb : b ∉ S := hn b (by rw [fp_some _ _ _ hc]; simp)
  refine ⟨b, o, rfl, hB, Nat.lt_of_lt_of_le hlt g.size, fun j hj => ?_, fun j u hu => g.cellv (hv j u hu) hb⟩
  obtain ⟨u, hu⟩ := Option.isSome_iff_exists.1 (hs j hj).1
  exact ⟨by rw [g.cellv hu hb]; rfl, by rw [g.frozen (block_lt_of_cell hu) hb]; exact (hs j hj).2⟩
/-- What the kit says of a row that the call owns. -/
theorem RoomZ.of_owns {z : Nat} {w : World} {B : Nat} {e : TypeId} {ao : Option Addr} {n c : Nat} {xs : List Value} (h : w.ownsRow B e z (.slice ao n c) n xs) : RoomZ z w B ao n c xs := by
  obtain ⟨hl, h⟩ := h
  rcases h with ⟨hv, hn⟩ | ⟨g, cap, cur, hv, hb, hh, hc, hm, hs, ht⟩
  · cases hv
    exact ⟨by simpa using hl, Nat.le_refl _, Nat.zero_le _, fun h => absurd h (Nat.lt_irrefl 0)⟩
  · cases hv
    have hlt : g < w.heap.size := by
      rcases Nat.lt_or_ge g w.heap.size with h1 | h1
      · exact h1
      · rw [Array.getElem?_eq_none h1] at hh; cases hh
    refine ⟨by simpa using hl, hc, hm, fun _ => ⟨g, 0, rfl, hb, hlt, fun j hj => ?_, fun j u hu => ?_⟩⟩
    · have : j < cur.size := by omega
      exact ⟨by rw [cell_of_row w g _ cur e _ hh]; simp [this], frozen_of_row w g _ cur e hh⟩
    · rw [cell_of_row w g _ cur e _ hh]
      rw [← ht, List.getElem?_take] at hu
      split at hu
      · simpa using hu
      · cases hu

/-- What the program's table says of the slice type t, its elements of type e, z cells each. -/
def EltZ (P : Program) (t e : TypeId) (z bytes : Nat) : Prop :=
  P.underlying t = some (.slice e) ∧ ∃ i v, P.info? e = some i ∧ i.zero = some v ∧ i.size = z ∧ i.bytes = bytes ∧ v.cells.size = z
theorem EltZ.mk {P : Program} {t e : TypeId} {v : Value} {z bytes : Nat} (ht : P.underlying t = some (.slice e)) (h : (P.info? e).map (fun i => (i.zero, i.size, i.bytes)) = some (some v, z, bytes)) (hz : v.cells.size = z) : EltZ P t e z bytes :=
  let ⟨i, h1, h2, h3, h4⟩ := info_parts h
  ⟨ht, i, v, h1, h2, h3, h4, hz⟩

section
variable {P : Program} (w : World)
theorem run_append_z (t ty e : TypeId) (z bytes : Nat) (hz0 : 0 < z) (helt : EltZ P t e z bytes)
    (B : Nat) (ao : Option Addr) (n c : Nat) (xs : List Value) (h : RoomZ z w B ao n c xs) (hB : B ≤ w.heap.size)
    (ax : Option Addr) (m cx : Nat) (news : List Value) (hx : Reads w ax news) (hm : news.length = m * z) (hone : ∀ u ∈ news, u.oneCell' = true)
    (h63 : n + m ≤ maxLen) (hbytes : (n + m) * bytes ≤ 140737488355328) :
    ∃ ao' c' w', (Builtin.append_ #[t, t] ty #[.slice ao n c, .slice ax m cx]).run P w = .ok (.slice ao' (n + m) c') w' ∧ RoomZ z w' B ao' (n + m) c' (xs ++ news) ∧ Chg (fp ao c) w w' ∧ (fp ao' c' = fp ao c ∨ fp ao' c' = [w.heap.size]) := by
  obtain ⟨ht, i, v, hi, hz, hsize, hby, hzs⟩ := helt
  subst hby
  have hlen : (xs ++ news).length = (n + m) * z := by rw [List.length_append, h.len, hm, Nat.add_mul]
  have hml : maxLen = 9223372036854775807 := rfl
  have hf : ∀ w0 : World, w0.heap = w.heap → (Builtin.firstCells i.size m (.slice ax m cx)).run P w0 = .ok news.toArray w0 := by
    intro w0 hw0
    cases ax with
    | none =>
      have : news = [] := by
        cases hn : news with
        | nil => rfl
        | cons u r => obtain ⟨b, o, e, _⟩ := hx (by rw [hn]; simp); cases e
      subst this
      rw [run_firstCells_none]
    | some ad =>
      refine run_firstCells_some (P := P) w0 i.size m ad m cx news (by simp [hsize, hm]) (fun j u hu => ?_)
      have := hx.addr ad rfl j u hu
      simpa [World.cell?, hw0] using this
  by_cases hroom : n + m ≤ c
  · by_cases hc : c = 0
    · subst hc
      have hn0 : n = 0 := by omega
      have hm0 : m = 0 := by omega
      subst hn0 hm0
      have hx0 : xs = [] := List.eq_nil_of_length_eq_zero (by rw [h.len, Nat.zero_mul])
      have hnn : news = [] := List.eq_nil_of_length_eq_zero (by rw [hm, Nat.zero_mul])
      subst hx0 hnn
      refine ⟨ao, 0, w, ?_, h, Chg.refl _ _, Or.inl rfl⟩
      have := hf w rfl
      cases ao <;> simp [Builtin.append_, run_underlying ht, sizeOf, typeInfo, hi, Builtin.lenOf, this, storeCells]
    · obtain ⟨b, o, rfl, hBb, hlt, hs, hv⟩ := h.at_ (by omega)
      have hnm : (n + m) * z ≤ c * z := Nat.mul_le_mul_right z hroom
      have hcell : ∀ j, j < news.length → (w.cell? ⟨b, o + n * i.size + 0 + j, none⟩).isSome = true := fun j hj => by
        have := (hs (n * z + j) (by rw [Nat.add_mul] at hnm; omega)).1
        rwa [hsize, Nat.add_zero, Nat.add_assoc]
      have hfr : ∀ j, j < news.length → w.frozen? ⟨b, o + n * i.size + 0 + j, none⟩ = false := fun j hj => by
        have := (hs (n * z + j) (by rw [Nat.add_mul] at hnm; omega)).2
        rwa [hsize, Nat.add_zero, Nat.add_assoc]
      have hst := run_storeCells_cells (P := P) b (o + n * i.size) news 0 w hcell hfr hone
      refine ⟨some ⟨b, o, none⟩, c, w.setCells b (o + n * z) news, ?_, ⟨hlen, hroom, h.max, fun _ => ⟨b, o, rfl, hBb, Nat.lt_of_lt_of_le hlt (Chg.setCells b news (o + n * z) w).size, fun j hj => ?_, fun j u hu => ?_⟩⟩, by rw [fp_some _ _ _ (by omega)]; exact Chg.setCells b news (o + n * z) w, Or.inl rfl⟩
      · simp only [Nat.add_zero] at hst
        have := hf w rfl
        simp [Builtin.append_, run_underlying ht, sizeOf, typeInfo, hi, Builtin.lenOf, hroom, this, Addr.add_lit, hst]
        simp [hsize]
      · obtain ⟨h1, h2⟩ := hs j hj
        refine ⟨?_, by rw [World.frozen?_setCells]; exact h2⟩
        by_cases hin : n * z ≤ j ∧ j < n * z + news.length
        · have := World.cell?_setCells_in b news (o + n * z) w (fun k hk => by rw [Nat.add_assoc]; exact (hs (n * z + k) (by rw [Nat.add_mul] at hnm; omega)).1) (j - n * z) (by omega)
          rw [show o + n * z + (j - n * z) = o + j by omega] at this
          rw [this]; rfl
        · rw [World.cell?_setCells_out b news (o + n * z) w _ (fun _ _ => by simp; omega)]
          exact h1
      · by_cases hj : j < n * z
        · rw [List.getElem?_append_left (by rw [h.len]; exact hj)] at hu
          rw [World.cell?_setCells_out b news (o + n * z) w _ (fun _ _ => by simp; omega)]
          exact hv j u hu
        · rw [List.getElem?_append_right (by rw [h.len]; omega), h.len] at hu
          have hjn : j - n * z < news.length := (List.getElem?_eq_some_iff.1 hu).1
          have := World.cell?_setCells_in b news (o + n * z) w (fun k hk => by rw [Nat.add_assoc]; exact (hs (n * z + k) (by rw [Nat.add_mul] at hnm; omega)).1) (j - n * z) hjn
          rw [show o + n * z + (j - n * z) = o + j by omega] at this
          rw [this]
          rw [List.getElem?_eq_getElem hjn] at hu
          exact hu
  · have hfo : (Builtin.firstCells i.size n (.slice ao n c)).run P w.drew = .ok xs.toArray w.drew := by
      cases ao with
      | none =>
        have hc : c = 0 := by
          rcases Nat.eq_zero_or_pos c with h0 | h0
          · exact h0
          · obtain ⟨b, o, e, _⟩ := h.at_ h0; cases e
        have hn0 : n = 0 := by have := h.le; omega
        subst hn0
        have : xs = [] := List.eq_nil_of_length_eq_zero (by rw [h.len, Nat.zero_mul])
        subst this
        rw [run_firstCells_none]
      | some ad =>
        exact run_firstCells_some (P := P) w.drew i.size n ad n c xs (by simp [hsize, h.len]) (fun j u hu => by simpa using h.reads.addr ad rfl j u hu)
    have hfn := hf w.drew rfl
    have hge := grownCap_ge w (n + m) c e
    have hcm := grownCap_le_maxLen w (n + m) c e h63
    have h63' : ¬ (9223372036854775807 < ((n : Int) + (m : Int))) := by omega
    have h48' : ¬ (281474976710656 < Builtin.nextslicecap (n + m) c * i.bytes) := by have := growslice_fits (old := c) (need := n + m) (by omega) hbytes; omega
    refine ⟨some ⟨w.heap.size, 0, none⟩, grownCap w (n + m) c e, w.drew.alloc (.cells (xs.toArray ++ news.toArray ++ Builtin.zeroCells v.cells (grownCap w (n + m) c e - (n + m))) e), ?_, ?_, ⟨rfl, rfl, rfl, by simp, fun k hk _ => Below.heap_alloc w.drew _ k hk⟩, Or.inr (fp_some _ _ _ (by omega))⟩
    · simp [Builtin.append_, run_underlying ht, sizeOf, typeInfo, zeroValue, hi, hz, Builtin.lenOf, hroom, h63', h48', Question.forced, hfn, hfo, newRow, grownCap]
      congr 2
      apply Array.ext'
      simp [List.append_assoc]
    · refine RoomZ.of_owns (e := e) ⟨by rw [hlen], .inr ⟨w.heap.size, _, _, rfl, hB, heap_alloc_new w.drew _, hge, hcm, ?_, ?_⟩⟩
      · simp only [Array.size_append, List.size_toArray, size_zeroCells, hzs, h.len, hm]
        rw [← Nat.add_mul, ← Nat.add_mul]
        congr 1
        omega
      · simp only [Array.toList_append, List.append_assoc]
        rw [← List.append_assoc, ← hlen]
        exact List.take_left
end
end Go.Proofs.YtoeijomelabbfaaGreatDoor
