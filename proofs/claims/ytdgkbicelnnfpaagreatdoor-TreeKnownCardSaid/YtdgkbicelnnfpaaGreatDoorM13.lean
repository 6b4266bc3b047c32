/- Texts Ug, Ul, Na, Nb, Nj, Sa of the library, joined. -/
import Derived.Test.YtdgkbicelnnfpaaGreatDoorM05
import Derived.Test.YtdgkbicelnnfpaaGreatDoorM01
import Derived.Test.YtdgkbicelnnfpaaGreatDoorM02
import Derived.Test.YtdgkbicelnnfpaaGreatDoorM12
import Derived.Deep.QuietTactic
import Derived.BigQuiet
import Derived.RegionTactic
import Derived.Deep.RegionHeld3
import Derived.Deep.RegionLaw
import Derived.Deep.DeepCutAuto
import Derived.Deep.CutBlock
import Derived.Deep.DrawnRows
import Derived.WalkSpells
import Derived.WalkLawsBesides
import Derived.Test.YtdgkbicelnnfpaaGreatDoorRows
import Derived.WalkKit
/- The document's own Refs (the reference) in memory; New, free, Alloc, why, Inc, Dec. -/
namespace Go.Proofs.YtdgkbicelnnfpaaGreatDoor
set_option maxRecDepth 200000
open Go.RowKit
set_option linter.unusedVariables false
set_option linter.unusedSimpArgs false
attribute [local go_sem ↓] Go.wp_at_zero Go.wp_at_succ

def bvs (l : List Bool) : List Value := l.map Value.bool
/-- Which blocks are fresh. -/
def newL (N C : List UInt8) : List Bool := List.zipWith (fun a b => a != 0 && b == 0) N C
/-- The reference's Refs in block db: three rows, in blocks b0, b1, b2. -/
structure DAt (w : World) (B db b0 o0 k0 b1 o1 k1 b2 o2 k2 n : Nat) (N C : List UInt8) : Prop where
  c0 : w.cell? ⟨db, 0, none⟩ = some (.slice (some ⟨b0, o0, none⟩) n k0)
  c1 : w.cell? ⟨db, 1, none⟩ = some (.slice (some ⟨b1, o1, none⟩) n k1)
  c2 : w.cell? ⟨db, 2, none⟩ = some (.slice (some ⟨b2, o2, none⟩) n k2)
  fz : ∀ j, w.frozen? ⟨db, j, none⟩ = false
  r0 : Room w B (some ⟨b0, o0, none⟩) n k0 (bts N)
  r1 : Room w B (some ⟨b1, o1, none⟩) n k1 (bts C)
  r2 : Room w B (some ⟨b2, o2, none⟩) n k2 (bvs (newL N C))
  n0 : 0 < n
  nn : n ≤ 1024
  dB : B ≤ db
  d0 : db ≠ b0
  d1 : db ≠ b1
  d2 : db ≠ b2
  e1 : b0 ≠ b1
  e2 : b0 ≠ b2
  e3 : b1 ≠ b2
section
variable {w w' : World} {B db b0 o0 k0 b1 o1 k1 b2 o2 k2 n : Nat} {N C : List UInt8}
theorem room_blk {w : World} {B b o n c : Nat} {xs : List Value} (h : Room w B (some ⟨b, o, none⟩) n c xs) (n0 : 0 < n) : fp (some ⟨b, o, none⟩) c = [b] := fp_some _ _ _ (by have := h.le; omega)
theorem room_lt {w : World} {B b o n c : Nat} {xs : List Value} (h : Room w B (some ⟨b, o, none⟩) n c xs) (n0 : 0 < n) : B ≤ b ∧ b < w.heap.size := h.lt b (by rw [room_blk h n0]; simp)
theorem room_chg {w w' : World} {B b o n c : Nat} {xs : List Value} {S : List Nat} (h : Room w B (some ⟨b, o, none⟩) n c xs) (n0 : 0 < n) (g : Chg S w w') (hS : b ∉ S) : Room w' B (some ⟨b, o, none⟩) n c xs := h.chg g (fun k hk => by rw [room_blk h n0] at hk; simp at hk; subst hk; exact hS)
theorem DAt.lN (h : DAt w B db b0 o0 k0 b1 o1 k1 b2 o2 k2 n N C) : N.length = n := by have := h.r0.len; rwa [bts_length] at this
theorem DAt.lC (h : DAt w B db b0 o0 k0 b1 o1 k1 b2 o2 k2 n N C) : C.length = n := by have := h.r1.len; rwa [bts_length] at this
theorem DAt.chg {S : List Nat} (h : DAt w B db b0 o0 k0 b1 o1 k1 b2 o2 k2 n N C) (c : Chg S w w') (hn : ∀ k, k ∈ [db, b0, b1, b2] → k ∉ S) : DAt w' B db b0 o0 k0 b1 o1 k1 b2 o2 k2 n N C := by
  have h1 := hn db (by simp)
  exact ⟨c.cellv h.c0 h1, c.cellv h.c1 h1, c.cellv h.c2 h1, fun j => (c.frozen (p := ⟨db, j, none⟩) (show db < w.heap.size from block_lt_of_cell h.c0) h1).trans (h.fz j),
    room_chg h.r0 h.n0 c (hn _ (by simp)), room_chg h.r1 h.n0 c (hn _ (by simp)), room_chg h.r2 h.n0 c (hn _ (by simp)), h.n0, h.nn, h.dB, h.d0, h.d1, h.d2, h.e1, h.e2, h.e3⟩
theorem DAt.lt (h : DAt w B db b0 o0 k0 b1 o1 k1 b2 o2 k2 n N C) : ∀ k, k ∈ [db, b0, b1, b2] → B ≤ k ∧ k < w.heap.size := by
  intro k hk
  simp at hk
  rcases hk with rfl | rfl | rfl | rfl
  · exact ⟨h.dB, block_lt_of_cell h.c0⟩
  · exact room_lt h.r0 h.n0
  · exact room_lt h.r1 h.n0
  · exact room_lt h.r2 h.n0
theorem DAt.mono {B' : Nat} (h : DAt w B db b0 o0 k0 b1 o1 k1 b2 o2 k2 n N C) (hB : B' ≤ B) : DAt w B' db b0 o0 k0 b1 o1 k1 b2 o2 k2 n N C :=
  ⟨h.c0, h.c1, h.c2, h.fz, h.r0.mono hB, h.r1.mono hB, h.r2.mono hB, h.n0, h.nn, Nat.le_trans hB h.dB, h.d0, h.d1, h.d2, h.e1, h.e2, h.e3⟩
end
/-- The reference, its blocks G. -/
def DO (w : World) (B db : Nat) (G : List Nat) (n : Nat) (N C : List UInt8) : Prop := ∃ b0 o0 k0 b1 o1 k1 b2 o2 k2, DAt w B db b0 o0 k0 b1 o1 k1 b2 o2 k2 n N C ∧ G = [db, b0, b1, b2]
theorem DO.chg {w w' : World} {B db : Nat} {G : List Nat} {n : Nat} {N C : List UInt8} {S : List Nat} (h : DO w B db G n N C) (c : Chg S w w') (hn : ∀ k, k ∈ G → k ∉ S) : DO w' B db G n N C := by
  obtain ⟨b0, o0, k0, b1, o1, k1, b2, o2, k2, hD, rfl⟩ := h
  exact ⟨b0, o0, k0, b1, o1, k1, b2, o2, k2, hD.chg c hn, rfl⟩
theorem DO.keep {w w' : World} {B db : Nat} {G : List Nat} {n : Nat} {N C : List UInt8} (h : DO w B db G n N C) (c : Chg [] w w') : DO w' B db G n N C := h.chg c (by simp)
theorem DO.lt {w : World} {B db : Nat} {G : List Nat} {n : Nat} {N C : List UInt8} (h : DO w B db G n N C) : ∀ k, k ∈ G → B ≤ k ∧ k < w.heap.size := by
  obtain ⟨b0, o0, k0, b1, o1, k1, b2, o2, k2, hD, rfl⟩ := h
  exact hD.lt
theorem DO.mono {w : World} {B B' db : Nat} {G : List Nat} {n : Nat} {N C : List UInt8} (h : DO w B db G n N C) (hB : B' ≤ B) : DO w B' db G n N C := by
  obtain ⟨b0, o0, k0, b1, o1, k1, b2, o2, k2, hD, rfl⟩ := h
  exact ⟨b0, o0, k0, b1, o1, k1, b2, o2, k2, hD.mono hB, rfl⟩
/-- What a call has made of the reference. -/
def DStep (w w' : World) (B db : Nat) (G : List Nat) (n : Nat) (N C : List UInt8) : Prop := ∃ G', DO w' B db G' n N C ∧ Chg G w w' ∧ ∀ k, k ∈ G' → k ∈ G ∨ w.heap.size ≤ k
theorem DStep.refl {w : World} {B db : Nat} {G : List Nat} {n : Nat} {N C : List UInt8} (h : DO w B db G n N C) : DStep w w B db G n N C := ⟨G, h, Chg.refl _ _, fun _ h => Or.inl h⟩
/-- A count was written, and perhaps whether the block is fresh. -/
theorem DAt.set {w w' : World} {B db b0 o0 k0 b1 o1 k1 b2 o2 k2 n : Nat} {N C N' : List UInt8} (h : DAt w B db b0 o0 k0 b1 o1 k1 b2 o2 k2 n N C) (g : Chg [b0, b2] w w') (r0 : Room w' B (some ⟨b0, o0, none⟩) n k0 (bts N')) (r2 : Room w' B (some ⟨b2, o2, none⟩) n k2 (bvs (newL N' C))) : DStep w w' B db [db, b0, b1, b2] n N' C := by
  have h1 : db ∉ [b0, b2] := by simp; exact ⟨h.d0, h.d2⟩
  have h2 : b1 ∉ [b0, b2] := by simp; exact ⟨fun e => h.e1 e.symm, h.e3⟩
  exact ⟨_, ⟨b0, o0, k0, b1, o1, k1, b2, o2, k2, ⟨g.cellv h.c0 h1, g.cellv h.c1 h1, g.cellv h.c2 h1, fun j => (g.frozen (p := ⟨db, j, none⟩) (show db < w.heap.size from block_lt_of_cell h.c0) h1).trans (h.fz j),
    r0, room_chg h.r1 h.n0 g h2, r2, h.n0, h.nn, h.dB, h.d0, h.d1, h.d2, h.e1, h.e2, h.e3⟩, rfl⟩, g.mono (fun k hk _ => by simp at hk ⊢; rcases hk with hk | hk <;> simp [hk]), fun k hk => Or.inl hk⟩

end Go.Proofs.YtdgkbicelnnfpaaGreatDoor

/- Objects beside each other: each block has a tag; what a call turns has one tag. -/
namespace Go.Proofs.YtdgkbicelnnfpaaGreatDoor
set_option maxRecDepth 200000
open Go.RowKit
set_option linter.unusedVariables false
set_option linter.unusedSimpArgs false
attribute [local go_sem ↓] Go.wp_at_zero Go.wp_at_succ

/-- From w to w' only blocks of tag i (from B on) have turned; old blocks keep their tags. -/
def Turn (B : Nat) (tag tag' : Nat → Nat) (i : Nat) (w w' : World) : Prop := (∃ S, Chg S w w' ∧ ∀ k, k ∈ S → tag k = i ∧ B ≤ k) ∧ ∀ k, k < w.heap.size → tag' k = tag k
/-- Nothing old has turned. -/
def Still (tag tag' : Nat → Nat) (w w' : World) : Prop := Chg [] w w' ∧ ∀ k, k < w.heap.size → tag' k = tag k
theorem Still.turn {tag tag' : Nat → Nat} {w w' : World} (h : Still tag tag' w w') (B i : Nat) : Turn B tag tag' i w w' := ⟨⟨[], h.1, by simp⟩, h.2⟩
theorem Still.of {tag : Nat → Nat} {w w' : World} (h : Chg [] w w') : Still tag tag w w' := ⟨h, fun _ _ => rfl⟩
theorem Turn.base {w0 w w' : World} {tag tag' : Nat → Nat} {i : Nat} (h : Turn w0.heap.size tag tag' i w w') (g : Chg [] w0 w) : Chg [] w0 w' := by
  obtain ⟨⟨S, hS, h1⟩, _⟩ := h
  exact g.trans hS (by simp) (fun k hk hlt => by have := (h1 k hk).2; omega)
def mark (tag : Nat → Nat) (sz i : Nat) : Nat → Nat := fun k => if k < sz then tag k else i
theorem mark_old (tag : Nat → Nat) (sz i k : Nat) (h : k < sz) : mark tag sz i k = tag k := if_pos h
theorem mark_new (tag : Nat → Nat) (sz i k : Nat) (h : sz ≤ k) : mark tag sz i k = i := if_neg (by omega)
/-- Refs in block rb, all their blocks have the tag i. -/
def HasR (B : Nat) (w : World) (tag : Nat → Nat) (i rb n : Nat) (N C : List UInt8) : Prop := ∃ nb cb sb Fs, RfsAt w B rb nb cb sb Fs n N C ∧ ∀ k, k ∈ rb :: nb :: cb :: Fs → tag k = i
def HasD (B : Nat) (w : World) (tag : Nat → Nat) (i db n : Nat) (N C : List UInt8) : Prop := ∃ G, DO w B db G n N C ∧ ∀ k, k ∈ G → tag k = i
def HasS (B : Nat) (w : World) (tag : Nat → Nat) (i : Nat) (ao : Option Addr) (n c : Nat) (xs : List Value) : Prop := Room w B ao n c xs ∧ ∀ k, k ∈ fp ao c → tag k = i
section
variable {B : Nat} {w w' : World} {tag tag' : Nat → Nat} {i j : Nat}
theorem HasR.stay {rb n : Nat} {N C : List UInt8} (h : HasR B w tag j rb n N C) (t : Turn B tag tag' i w w') (hij : i ≠ j) : HasR B w' tag' j rb n N C := by
  obtain ⟨nb, cb, sb, Fs, h1, h2⟩ := h
  obtain ⟨⟨S, hS, h3⟩, h4⟩ := t
  exact ⟨nb, cb, sb, Fs, h1.chg hS (fun k hk hm => hij ((h3 k hm).1.symm.trans (h2 k hk))), fun k hk => (h4 k (h1.lt k hk).2).trans (h2 k hk)⟩
theorem HasR.still {rb n : Nat} {N C : List UInt8} (h : HasR B w tag j rb n N C) (t : Still tag tag' w w') : HasR B w' tag' j rb n N C := h.stay (t.turn B (j + 1)) (by omega)
theorem HasD.stay {db n : Nat} {N C : List UInt8} (h : HasD B w tag j db n N C) (t : Turn B tag tag' i w w') (hij : i ≠ j) : HasD B w' tag' j db n N C := by
  obtain ⟨G, h1, h2⟩ := h
  obtain ⟨⟨S, hS, h3⟩, h4⟩ := t
  exact ⟨G, h1.chg hS (fun k hk hm => hij ((h3 k hm).1.symm.trans (h2 k hk))), fun k hk => (h4 k (h1.lt k hk).2).trans (h2 k hk)⟩
theorem HasD.still {db n : Nat} {N C : List UInt8} (h : HasD B w tag j db n N C) (t : Still tag tag' w w') : HasD B w' tag' j db n N C := h.stay (t.turn B (j + 1)) (by omega)
theorem HasS.stay {ao : Option Addr} {n c : Nat} {xs : List Value} (h : HasS B w tag j ao n c xs) (t : Turn B tag tag' i w w') (hij : i ≠ j) : HasS B w' tag' j ao n c xs := by
  obtain ⟨⟨S, hS, h3⟩, h4⟩ := t
  exact ⟨h.1.chg hS (fun k hk hm => hij ((h3 k hm).1.symm.trans (h.2 k hk))), fun k hk => (h4 k (h.1.lt k hk).2).trans (h.2 k hk)⟩
theorem HasS.still {ao : Option Addr} {n c : Nat} {xs : List Value} (h : HasS B w tag j ao n c xs) (t : Still tag tag' w w') : HasS B w' tag' j ao n c xs := h.stay (t.turn B (j + 1)) (by omega)
theorem Turn.cellv (t : Turn B tag tag' i w w') {p : Addr} {v : Value} (hc : w.cell? p = some v) (hp : tag p.block = j) (hij : i ≠ j) : w'.cell? p = some v ∧ tag' p.block = j := by
  obtain ⟨⟨S, hS, h3⟩, h4⟩ := t
  exact ⟨hS.cellv hc (fun hm => hij ((h3 _ hm).1.symm.trans hp)), (h4 _ (block_lt_of_cell hc)).trans hp⟩
theorem HasR.size {rb n : Nat} {N C : List UInt8} (h : HasR B w tag j rb n N C) : B ≤ w.heap.size := by
  obtain ⟨nb, cb, sb, Fs, h1, h2⟩ := h
  have := h1.ltr
  have := h1.rB
  omega
theorem HasR.lens {rb n : Nat} {N C : List UInt8} (h : HasR B w tag j rb n N C) : N.length = n ∧ C.length = n ∧ 0 < n ∧ n ≤ 1024 := by
  obtain ⟨nb, cb, sb, Fs, h1, h2⟩ := h
  exact ⟨h1.lN, h1.lC, h1.n0, h1.nn⟩
end
theorem turn_r {B : Nat} {w : World} {tag : Nat → Nat} {i rb n : Nat} {N C N' C' : List UInt8} {f : Nat} {args : Array Value} {post : Ending → Prop} (h : HasR B w tag i rb n N C)
    (hc : ∀ nb cb sb Fs, RfsAt w B rb nb cb sb Fs n N C → Calls Tryz.prog f args w fun e w' => post e ∧ RStep w w' B rb nb cb sb Fs n N' C') :
    Calls Tryz.prog f args w fun e w' => post e ∧ ∃ tag', HasR B w' tag' i rb n N' C' ∧ Turn B tag tag' i w w' := by
  obtain ⟨nb, cb, sb, Fs, h1, h2⟩ := h
  refine (hc nb cb sb Fs h1).mono ?_
  rintro e w' ⟨hp, Fs', s1, s2, s3⟩
  refine ⟨hp, mark tag w.heap.size i, ⟨nb, cb, sb, Fs', s1, fun k hk => ?_⟩, ⟨_, s2, fun k hk => ⟨h2 k hk, (h1.lt k hk).1⟩⟩, fun k hk => mark_old _ _ _ _ hk⟩
  by_cases hlt : k < w.heap.size
  · rw [mark_old _ _ _ _ hlt]
    simp only [List.mem_cons] at hk
    rcases hk with rfl | rfl | rfl | hk
    · exact h2 _ (by simp)
    · exact h2 _ (by simp)
    · exact h2 _ (by simp)
    · exact (s3 k hk).elim (fun h => h2 k (by simp [h])) (fun h => by omega)
  · exact mark_new _ _ _ _ (by omega)
section
variable {B : Nat} {w : World} {tag : Nat → Nat} {i rb n : Nat} {N C : List UInt8} (h : HasR B w tag i rb n N C)
include h
theorem r_alloc : Calls Tryz.prog 22 #[.pointer (some ⟨rb, 0, none⟩)] w fun e w' => e = .returned (.tuple #[.int .i64 (allocN N C).1, .int .i64 (allocN N C).2.1]) ∧ ∃ tag', HasR B w' tag' i rb n (allocN N C).2.2 C ∧ Turn B tag tag' i w w' :=
  turn_r h fun nb cb sb Fs h1 => alloc_any B rb nb cb sb Fs n N C w h1
theorem r_inc (z : Int) : Calls Tryz.prog 27 #[.pointer (some ⟨rb, 0, none⟩), .int .i64 z] w fun e w' => e = .returned (.int .i64 (incN N z).1) ∧ ∃ tag', HasR B w' tag' i rb n (incN N z).2 C ∧ Turn B tag tag' i w w' :=
  turn_r h fun nb cb sb Fs h1 => inc_any B rb nb cb sb Fs n N C w h1 z
theorem r_dec (z : Int) : Calls Tryz.prog 24 #[.pointer (some ⟨rb, 0, none⟩), .int .i64 z] w fun e w' => e = .returned (.tuple #[.bool (decN N z).1, .int .i64 (decN N z).2.1]) ∧ ∃ tag', HasR B w' tag' i rb n (decN N z).2.2 C ∧ Turn B tag tag' i w w' :=
  turn_r h fun nb cb sb Fs h1 => dec_any B rb nb cb sb Fs n N C w h1 z
theorem r_count (z : Int) : Calls Tryz.prog 21 #[.pointer (some ⟨rb, 0, none⟩), .int .i64 z] w fun e w' => e = .returned (.int .i64 (cntN N z)) ∧ w = w' := by
  obtain ⟨nb, cb, sb, Fs, h1, _⟩ := h
  exact rcount_any B rb nb cb sb Fs n N C w h1 z
theorem r_fresh (z : Int) : Calls Tryz.prog 20 #[.pointer (some ⟨rb, 0, none⟩), .int .i64 z] w fun e w' => e = .returned (.bool (newN N C z)) ∧ w = w' := by
  obtain ⟨nb, cb, sb, Fs, h1, _⟩ := h
  exact rfresh_any B rb nb cb sb Fs n N C w h1 z
end
section
variable {B : Nat} {w : World} {tag : Nat → Nat} {i db n : Nat} {N C : List UInt8} (h : HasD B w tag i db n N C)
include h
end
end Go.Proofs.YtdgkbicelnnfpaaGreatDoor

/- Numbers and their bytes (as lib/order has them); rows of numbers of 64 bits; which nodes may be, and their forms. -/
namespace Go.Proofs.YtdgkbicelnnfpaaGreatDoor
open Go.RowKit
set_option linter.unusedVariables false
set_option linter.unusedSimpArgs false
attribute [local go_sem ↓] Go.wp_at_zero Go.wp_at_succ

theorem ret_bool' {a b : Bool} (h : a = b) : Ending.returned (Value.bool a) = .returned (.bool b) := by rw [h]
theorem eltU : Elt Tryz.prog 35 34 8 := Elt.mk (z := .int .u64 0) Tryz.underlying35 (by kernel_rfl) (by kernel_rfl)

/-- The k lowest digits of N to the base 256, the highest first. -/
def be (N : Nat) : Nat → List UInt8
  | 0 => []
  | k + 1 => UInt8.ofNat (N / 256 ^ k) :: be N k
theorem be_length (N k : Nat) : (be N k).length = k := by induction k <;> simp [be, *]
theorem be_snoc (N k : Nat) : be N (k + 1) = be (N / 256) k ++ [UInt8.ofNat N] := by
  induction k with
  | zero => simp [be]
  | succ k ih => rw [be, ih, be]; simp [Nat.div_div_eq_div_mul, Nat.pow_succ, Nat.mul_comm]
theorem ofNat_toNat (N : Nat) : ((UInt8.ofNat N).toNat : Int) = ((N % 256 : Nat) : Int) := by simp
theorem shr_byte (N j : Nat) : ((N : Int) / 2 ^ (8 * j) % 256) = ((UInt8.ofNat (N / 256 ^ j)).toNat : Int) := by
  have h : ((2 : Int) ^ (8 * j)) = ((256 ^ j : Nat) : Int) := by rw [show 256 = 2 ^ 8 from rfl, ← Nat.pow_mul]; norm_cast
  rw [ofNat_toNat, h, Int.natCast_emod, Int.natCast_ediv]
  rfl

/-- The number whose bytes these are. -/
def val (l : List UInt8) : Nat := l.foldl (fun a x => a * 256 + x.toNat) 0
theorem foldl_val (l : List UInt8) (a : Nat) : l.foldl (fun a x => a * 256 + x.toNat) a = a * 256 ^ l.length + val l := by
  induction l generalizing a with
  | nil => simp [val]
  | cons x r ih =>
    have h := ih (0 * 256 + x.toNat)
    simp only [List.foldl_cons, val, List.length_cons] at h ⊢
    rw [ih, h, Nat.pow_succ]
    simp only [val]
    grind
theorem val_snoc (l : List UInt8) (x : UInt8) : val (l ++ [x]) = val l * 256 + x.toNat := by simp [val]
theorem val_lt (l : List UInt8) : val l < 256 ^ l.length := by
  induction l with
  | nil => simp [val]
  | cons x r ih =>
    have h := foldl_val r (0 * 256 + x.toNat)
    have hx := x.toNat_lt
    simp only [val, List.foldl_cons, List.length_cons] at h ih ⊢
    rw [h, Nat.pow_succ]
    have h2 : (x.toNat + 1) * 256 ^ r.length ≤ 256 * 256 ^ r.length := Nat.mul_le_mul_right _ (by omega)
    have h3 : val r < 256 ^ r.length := ih
    grind
theorem val_take_succ (l : List UInt8) (k : Nat) (h : k < l.length) : val (l.take (k + 1)) = val (l.take k) * 256 + l[k].toNat := by
  rw [List.take_succ_eq_append_getElem h, val_snoc]

theorem val_take_lt (l : List UInt8) (k : Nat) (h : k < 8) : val (l.take k) < 2 ^ 56 :=
  Nat.lt_of_lt_of_le (val_lt _) (by
    have h1 : (l.take k).length ≤ 7 := by simp; omega
    exact Nat.le_trans (Nat.pow_le_pow_right (by decide) h1) (by decide))
theorem wraps_u64 (n : Int) (h₀ : 0 ≤ n) (h₁ : n < 2 ^ 64) : IntKind.u64.wrap n = n := by
  rw [IntKind.wrap_u64]; exact Int.emod_eq_of_lt h₀ h₁
theorem or_byte (A : Nat) (x : UInt8) (h : A < 2 ^ 56) : bits BinOp.or IntKind.u64 (IntKind.u64.wrap ((A : Int) * 256)) (IntKind.u64.wrap (x.toNat : Int)) = ((A * 256 + x.toNat : Nat) : Int) := by
  have hx := x.toNat_lt
  rw [wraps_u64 _ (by omega) (by omega), wraps_u64 _ (by omega) (by omega), bits_join .u64 64 (by decide) wraps_u64 8 _ _ (by omega) (by omega) (by omega) (by omega) (by omega) (by omega)]
  simp

theorem val_cons (x : UInt8) (l : List UInt8) : val (x :: l) = x.toNat * 256 ^ l.length + val l := by
  have := foldl_val l (0 * 256 + x.toNat)
  simp only [val, List.foldl_cons] at this ⊢
  rw [this]; simp
theorem val_be (N k : Nat) : val (be N k) = N % 256 ^ k := by
  induction k with
  | zero => simp [be, val, Nat.mod_one]
  | succ k ih =>
    rw [be, val_cons, ih, be_length, Nat.pow_succ, Nat.mod_mul]
    simp [Nat.mul_comm, Nat.add_comm]

/-! ### rows of numbers -/
def uvs (L : List Nat) : List Value := L.map fun x : Nat => Value.int .u64 (x : Int)
theorem uvs_len (L : List Nat) : (uvs L).length = L.length := by simp [uvs]
theorem uvs_get {L : List Nat} {k x : Nat} (h : L[k]? = some x) : (uvs L)[k]? = some (.int .u64 (x : Int)) := by simp [uvs, h]
theorem uvs_append (L M : List Nat) : uvs (L ++ M) = uvs L ++ uvs M := by simp [uvs]
theorem uvs_one (L : List Nat) : ∀ u ∈ uvs L, u.oneCell' = true := by
  intro u hu
  obtain ⟨_, _, rfl⟩ := List.mem_map.1 hu
  rfl
/-- What keys and values must be at a place. -/
def okAt (K V : List Nat) (i : Nat) : Bool := decide (0 < V.getD i 0) && (decide (i = 0) || decide (K.getD (i - 1) 0 < K.getD i 0))
def mayB (K V : List Nat) : Bool := (decide (1 ≤ K.length) && decide (K.length ≤ 8) && decide (V.length = K.length)) && (List.range K.length).all (okAt K V)
theorem all_range_succ (f : Nat → Bool) (k : Nat) : (List.range (k + 1)).all f = ((List.range k).all f && f k) := by rw [List.range_succ, List.all_append]; simp
/-- The form of keys and values, pair by pair. -/
def pairsN : List Nat → List Nat → List UInt8
  | k :: K, v :: V => be k 8 ++ (be v 8 ++ pairsN K V)
  | _, _ => []
def formN (lf : Bool) (K V : List Nat) : List UInt8 := (if lf then 1 else 0) :: UInt8.ofNat K.length :: pairsN K V
end Go.Proofs.YtdgkbicelnnfpaaGreatDoor

/- The reference: number, eight, May, Same, Own. -/
namespace Go.Proofs.YtdgkbicelnnfpaaGreatDoor
open Go.RowKit
set_option linter.unusedVariables false
set_option linter.unusedSimpArgs false
attribute [local go_sem ↓] Go.wp_at_zero Go.wp_at_succ

def prev (k : Nat) : Int := (k : Int) - 1
theorem prev_zero : prev 0 = -1 := rfl
theorem prev_succ (j : Nat) : prev (j + 1) = j := by simp [prev]
end Go.Proofs.YtdgkbicelnnfpaaGreatDoor

/- Package order: Put and Get. -/
namespace Go.Proofs.YtdgkbicelnnfpaaGreatDoor
open Go.RowKit
set_option linter.unusedVariables false

def okB (n : Int) : Bool := decide (1 ≤ n) && decide (n ≤ 8)
theorem sized_any (n : Int) (w : World) :
    Calls Tryz.prog 135 #[.int .i64 n] w fun e w' => e = .returned (.bool (okB n)) ∧ w = w' := by
  by_cases h1 : 1 ≤ n
  · by_cases h2 : n ≤ 8
    · have : okB n = true := by simp [okB, h1, h2]
      rw [this]; clear this
      go_enter Tryz.func135, Tryz.ntmps135
      go_wp2
      go_ret
      exact ⟨rfl, rfl⟩
    · have : okB n = false := by simp [okB, h2]
      rw [this]; clear this
      have h3 : decide (n ≤ 8) = false := by simpa using h2
      go_enter Tryz.func135, Tryz.ntmps135
      go_wp2
      go_ret
      exact ⟨rfl, rfl⟩
  · have : okB n = false := by simp [okB, h1]
    rw [this]; clear this
    have h3 : decide (1 ≤ n) = false := by simpa using h1
    go_enter Tryz.func135, Tryz.ntmps135
    go_wp2
    go_ret
    exact ⟨rfl, rfl⟩
/-! ### Put -/
def PutPost (w : World) (ys : List Value) (e : Ending) (w' : World) : Prop :=
  ∃ ao c, e = .returned (.slice ao ys.length c) ∧ Room w' w.heap.size ao ys.length c ys ∧ Chg [] w w'

set_option maxHeartbeats 400000 in
theorem put_any (ao : Option Addr) (n c : Nat) (xs : List Value) (N : Nat) (size : Nat) (w : World) (hx : Reads w ao xs) (hn : xs.length = n) (hone : ∀ u ∈ xs, u.oneCell' = true) (hle : n ≤ 140737488355000) (h1 : 1 ≤ size) (h8 : size ≤ 8) (hN : N < 2 ^ 64) :
    Calls Tryz.prog 86 #[.slice ao n c, .int .u64 N, .int .i64 size] w (PutPost w (xs ++ bts (be N size))) := by
  have hok : okB size = true := by simp [okB]; omega
  go_enter Tryz.func86, Tryz.ntmps86
  go_wp2_with (first | (go_at_call 135; refine (sized_any _ _).mono ?_; rintro e w' ⟨rfl, rfl⟩) | (at_make; refine wpList_make_k _ rfl _ _ 27 rfl 5 1 eltB w.heap.size .i64 .i64 _ (n + size) rfl rfl (by simp) (by omega) (by unfold maxLen; omega) (Nat.le_refl _) ?_; intro w1 hr1 hc1) | (at_builtin; refine wpList_append_k _ rfl (.tmp 17) (.tmp 18) 27 rfl 5 1 eltB w.heap.size _ 0 (n + size) [] rfl hr1 hc1.size ao n c xs rfl (hx.chg hc1 (by simp)) hn hone (by unfold maxLen; omega) (by omega) ?_; intro ao2 c2 w2 hr2 hc2 hf2))
  go_loopw [7, 8] (fun v i wr => ∃ k ao3 c3, k ≤ size ∧ i = .int .i64 (prev k) ∧ v = .slice ao3 (n + (size - k)) c3 ∧ Room wr w.heap.size ao3 (n + (size - k)) c3 (xs ++ bts (be (N / 256 ^ k) (size - k))) ∧ Chg [] w wr) (fun _ i _ => (Go.RowKit.intOf i + 1).toNat)
  case atStart => exact ⟨size, ao2, c2, Nat.le_refl _, rfl, by simp, by simpa [be, bts] using hr2, hc1.own hc2 hr1⟩
  case round =>
    obtain ⟨k, ao3, c3, hk, rfl, rfl, hr3, hc3⟩ := hrel
    cases k with
    | zero =>
      simp only [prev_zero]
      go_wp2
      go_ret
      simp only [Nat.sub_zero, Nat.pow_zero, Nat.div_one] at hr3 ⊢
      have hl : (xs ++ bts (be N size)).length = n + size := by simp [bts_length, be_length, hn]
      exact ⟨ao3, c3, by rw [hl]; rfl, by rw [hl]; exact hr3, hc3⟩
    | succ j =>
      simp only [prev_succ]
      go_wp2_with (first | (at_builtin; refine wpList_append_1 wr rfl (.tmp 26) (.tmp 32) 27 rfl 5 1 eltB w.heap.size ao3 (n + (size - (j + 1))) c3 _ rfl hr3 hc3.size (.int .u8 ((N : Int) / 2 ^ (8 * j) % 256)) 1 rfl rfl (by unfold maxLen; omega) (by omega) ?_; intro ao4 c4 w4 hr4 hc4 hf4))
      go_roundw
      case rel =>
        refine ⟨j, ao4, c4, by omega, rfl, by rw [show size - j = size - (j + 1) + 1 by omega]; rfl, ?_, hc3.own hc4 hr3⟩
        have e : be (N / 256 ^ j) (size - j) = be (N / 256 ^ (j + 1)) (size - (j + 1)) ++ [UInt8.ofNat (N / 256 ^ j)] := by
          rw [show size - j = size - (j + 1) + 1 by omega, be_snoc, Nat.div_div_eq_div_mul, Nat.pow_succ]
        rw [show size - j = size - (j + 1) + 1 by omega] at e ⊢
        rw [e]
        have e2 := shr_byte N j
        rw [e2] at hr4
        simpa [bts, List.append_assoc, Nat.add_assoc] using hr4
      case measure => simp [Go.RowKit.intOf]

/-! ### Get -/
def GetPost (w : World) (l : List UInt8) (size : Nat) (e : Ending) (w' : World) : Prop :=
  e = .returned (.tuple #[.int .u64 (val (l.take size)), .int .i64 0]) ∧ w = w'
set_option maxHeartbeats 400000 in
theorem get_yes (ao : Option Addr) (n c : Nat) (l : List UInt8) (size : Nat) (w : World) (hx : Reads w ao (bts l)) (hn : l.length = n) (hc : n ≤ c) (hle : c ≤ maxLen) (h1 : 1 ≤ size) (h8 : size ≤ 8) (hl : size ≤ n) :
    Calls Tryz.prog 144 #[.slice ao n c, .int .i64 size] w (GetPost w l size) := by
  have hok : okB size = true := by simp [okB]; omega
  unfold maxLen at hle
  go_enter Tryz.func144, Tryz.ntmps144
  go_wp2_with (first | (go_at_call 135; refine (sized_any _ _).mono ?_; rintro e w' ⟨rfl, rfl⟩))
  go_loop [6, 20] (fun v i => ∃ k : Nat, k ≤ size ∧ i = .int .i64 k ∧ v = .int .u64 (val (l.take k))) (fun _ i => size - (Go.RowKit.intOf i).toNat)
  case atStart => exact ⟨0, Nat.zero_le _, rfl, rfl⟩
  case round =>
    obtain ⟨k, hk, rfl, rfl⟩ := hrel
    by_cases hlt : k < size
    · obtain ⟨b, o, rfl, hc⟩ := hx (by simp [bts_length]; omega)
      have hcell := hc k _ (bts_get l k (by omega))
      clear hc
      go_wp2
      go_round
      case rel =>
        refine ⟨k + 1, by omega, by go_num, ?_⟩
        rw [val_take_succ l k (by omega), or_byte _ _ (val_take_lt l k (by omega))]
      case measure => simp [Go.RowKit.intOf]; omega
    · have : k = size := by omega
      subst this
      go_wp2
      go_ret2
      exact ⟨rfl, rfl⟩

theorem get_short (ao : Option Addr) (n c : Nat) (size : Nat) (w : World) (h1 : 1 ≤ size) (h8 : size ≤ 8) (hl : n < size) :
    Calls Tryz.prog 144 #[.slice ao n c, .int .i64 size] w fun e w' => e = .returned (.tuple #[.int .u64 0, .int .i64 4]) ∧ w = w' := by
  have hok : okB size = true := by simp [okB]; omega
  go_enter Tryz.func144, Tryz.ntmps144
  go_wp2_with (first | (go_at_call 135; refine (sized_any _ _).mono ?_; rintro e w' ⟨rfl, rfl⟩))
  go_ret2
  exact ⟨rfl, rfl⟩

end Go.Proofs.YtdgkbicelnnfpaaGreatDoor

/- The contracts of package stamp's own calls: parts, numbers laid and told. -/




namespace Go.Proofs.YtdgkbicelnnfpaaGreatDoor
set_option maxRecDepth 200000
open Go.RowKit
set_option linter.unusedVariables false
set_option linter.unusedSimpArgs false

theorem part_any (b o n c f m : Nat) (F H : Int) (hF : F = (f : Int)) (hH : H = ((f + m : Nat) : Int)) (hm : 0 < m) (hc : f + m ≤ c) (w : World) :
    Calls Tryz.prog 89 #[.slice (some ⟨b, o, none⟩) n c, .int .i64 F, .int .i64 H] w fun e w' => e = .returned (.slice (some ⟨b, o + f, none⟩) m m) ∧ w = w' := by
  have hr : ∀ u : World, (Instr.slice 27 (.slice (some ⟨b, o, none⟩) n c) (some (.int .i64 F)) (some (.int .i64 H)) (some (.int .i64 H))).run Tryz.prog u = .ok (.slice (some ⟨b, o + f, none⟩) m m) u := by
    intro u
    have hs : (Tryz.prog.info? 5).map (·.size) = some 1 := by kernel_rfl
    obtain ⟨i, hi, hi1⟩ := Option.map_eq_some_iff.1 hs
    have he : Tryz.prog.elem 27 = 5 := by simp [Program.elem, Tryz.underlying27]
    rw [run_slice_lhm u 27 _ n c (by rw [he]; exact Tryz.underlying27) .i64 .i64 .i64 F H H (by omega) (by omega) (by omega) (by omega), he]
    have e1 : H.toNat = f + m := by omega
    have e0 : F.toNat = f := by omega
    have e2 : ¬ f + m = f := by omega
    have e3 : ¬ m = 0 := by omega
    simp [sizeOf, typeInfo, hi, hi1, sliced, e0, e1, e2, e3, Addr.add_lit]
  clear hF hH
  go_enter Tryz.func89, Tryz.ntmps89
  go_wp2_with fail
  go_ret
  exact ⟨rfl, rfl⟩

/-- The number by which a place is told. -/
def pn (k : Int) : Nat := (k % 18446744073709551616).toNat
theorem pn_lt (k : Int) : pn k < 2 ^ 64 := by unfold pn; omega
theorem pn_eq (k : Int) : IntKind.u64.wrap k = (pn k : Int) := by rw [IntKind.wrap_u64]; unfold pn; omega
theorem place_any (k : Int) (w : World) : Calls Tryz.prog 90 #[.int .i64 k] w fun e w' => e = .returned (.int .u64 (pn k)) ∧ w = w' := by
  have h := pn_eq k
  go_enter Tryz.func90, Tryz.ntmps90
  go_wp2_with fail
  go_ret
  exact ⟨rfl, rfl⟩

theorem told_any (b o k : Nat) (l : List UInt8) (hl : l.length = k) (h1 : 1 ≤ k) (h8 : k ≤ 8) (w : World) (g : Reads w (some ⟨b, o, none⟩) (bts l)) :
    Calls Tryz.prog 96 #[.slice (some ⟨b, o, none⟩) k k] w fun e w' => e = .returned (.int .u64 (val l)) ∧ w = w' := by
  go_enter Tryz.func96, Tryz.ntmps96
  go_wp2_with (first | (go_at_call 144; refine (get_yes _ k k l k _ g hl (Nat.le_refl _) (by unfold maxLen; omega) h1 h8 (Nat.le_refl _)).mono ?_; rintro e w' ⟨rfl, rfl⟩))
  go_ret
  rw [List.take_of_length_le (by omega)]
  exact ⟨rfl, rfl⟩

theorem lay_any (b o k N : Nat) (h1 : 1 ≤ k) (h8 : k ≤ 8) (hN : N < 2 ^ 64) (w : World) (hth : w.there b o k) :
    Calls Tryz.prog 88 #[.slice (some ⟨b, o, none⟩) k k, .int .u64 N] w fun e w' => e = .returned (.tuple #[]) ∧ ∃ w1, Chg [] w w1 ∧ w' = w1.setCells b o (bts (be N k)) := by
  go_enter Tryz.func88, Tryz.ntmps88
  go_wp2_with (first | (go_at_call 86; refine (put_any none 0 0 [] N k _ (Reads.nil _ _) rfl (by simp) (by decide) h1 h8 hN).mono ?_; rintro e w1 ⟨a1, c1, rfl, hr1, hg1⟩; simp only [List.nil_append] at hr1; have hlen : (bts (be N k)).length = k := by rw [bts_length, be_length]) | (refine wpList_copy_k rfl (.tmp 4) (.tmp 8) 27 27 5 rfl Tryz.underlying27 oneB b o k k a1 _ c1 (bts (be N k)) rfl rfl hr1.reads (by rw [hlen]; exact (Nat.min_self _).symm) (by rw [hlen]; exact there_chg hth hg1 (by simp)) (bts_one _) ?_))
  go_end0
  exact ⟨rfl, _, hg1, rfl⟩

theorem sumOf_any (b o n c : Nat) (l : List UInt8) (hl : 252 ≤ l.length) (hc : l.length ≤ c) (w : World) (hT : Tab w) (g : Reads w (some ⟨b, o, none⟩) (bts l)) :
    Calls Tryz.prog 91 #[.slice (some ⟨b, o, none⟩) n c] w fun e w' => e = .returned (.int .u64 ((csum (l.take 252)).toNat)) ∧ Chg [] w w' := by
  have hS : ((csum (l.take 252)).toNat : Int) = v32 (csum (l.take 252)) := rfl
  rw [hS]
  have h0 := v32_lt (csum (l.take 252))
  have hg : Reads w (some ⟨b, o, none⟩) (bts (l.take 252)) := by rw [← bts_take]; exact g.take 252
  go_enter Tryz.func91, Tryz.ntmps91
  go_wp2_with (first | (go_at_call 89; refine (part_any b o n c 0 252 0 252 rfl rfl (by decide) (by omega) _).mono ?_; rintro e w' ⟨rfl, rfl⟩) | (go_at_call 136; refine (sum_any _ 252 252 (l.take 252) _ hT hg (by simp; omega) (by decide)).mono ?_; rintro e w1 ⟨rfl, hg1⟩))
  go_ret
  exact ⟨rfl, hg1⟩
theorem sumOf_as (b o n c : Nat) (l : List UInt8) (X : Nat) (hX : (csum (l.take 252)).toNat = X) (hl : 252 ≤ l.length) (hc : l.length ≤ c) (w : World) (hT : Tab w) (g : Reads w (some ⟨b, o, none⟩) (bts l)) :
    Calls Tryz.prog 91 #[.slice (some ⟨b, o, none⟩) n c] w fun e w' => e = .returned (.int .u64 X) ∧ Chg [] w w' := by
  subst hX
  exact sumOf_any b o n c l hl hc w hT g
end Go.Proofs.YtdgkbicelnnfpaaGreatDoor
