/- The document's own Refs (the reference) in memory; New, free, Alloc, why, Inc, Dec. -/
import Derived.Test.YtppjjlooocigdaaUf
namespace Go.Proofs.Ytppjjlooocigdaa
open Go.RowKit
set_option linter.unusedVariables false
set_option linter.unusedSimpArgs false
attribute [local go_sem ↓] Go.wp_at_zero Go.wp_at_succ

theorem eltO : Elt Try.prog 63 4 1 := Elt.mk (z := .bool false) Try.underlying63 (by kernel_rfl) (by kernel_rfl)
def bvs (l : List Bool) : List Value := l.map Value.bool
theorem bvs_len (l : List Bool) : (bvs l).length = l.length := by simp [bvs]
theorem bvs_get {l : List Bool} {k : Nat} {b : Bool} (h : l[k]? = some b) : (bvs l)[k]? = some (.bool b) := by simp [bvs, h]
theorem bvs_set (l : List Bool) (k : Nat) (b : Bool) : (bvs l).set k (.bool b) = bvs (l.set k b) := by simp [bvs]
theorem bvs_one (l : List Bool) : ∀ u ∈ bvs l, u.oneCell' = true := by
  intro u hu
  obtain ⟨_, _, rfl⟩ := List.mem_map.1 hu
  rfl
theorem freeL_first {Is : List Bool} {i : Nat} (hn : ∀ j, j < i → Is[j]? ≠ some true) (hi : Is[i]? = some true) : ∃ r, freeL Is = i :: r := by
  have hm := (mem_freeL Is i).2 hi
  have hp := freeL_lt Is
  cases hf : freeL Is with
  | nil => rw [hf] at hm; cases hm
  | cons x r =>
    rw [hf] at hm hp
    rw [List.pairwise_cons] at hp
    rcases List.mem_cons.1 hm with rfl | hm
    · exact ⟨r, rfl⟩
    · have h1 := hp.1 i hm
      exact absurd ((mem_freeL Is x).1 (by rw [hf]; simp)) (hn x h1)
theorem freeL_none {Is : List Bool} (hn : ∀ j, j < Is.length → Is[j]? ≠ some true) : freeL Is = [] := by
  rw [List.eq_nil_iff_forall_not_mem]
  intro x hx
  have h := (mem_freeL Is x).1 hx
  exact hn x (List.getElem?_eq_some_iff.1 h).1 h
/-- Which blocks are fresh. -/
def newL (N C : List UInt8) : List Bool := List.zipWith (fun a b => a != 0 && b == 0) N C
theorem newL_len {N C : List UInt8} {n : Nat} (h : N.length = n) (g : C.length = n) : (newL N C).length = n := by simp [newL, h, g]
theorem newL_get {N C : List UInt8} {j : Nat} {a b : UInt8} (h : N[j]? = some a) (g : C[j]? = some b) : (newL N C)[j]? = some (a != 0 && b == 0) := by
  simp [newL, List.getElem?_zipWith, h, g]
theorem newL_set {N C : List UInt8} {j : Nat} {a b : UInt8} (hN : N[j]? = some a) (hC : C[j]? = some b) (v : UInt8) : newL (N.set j v) C = (newL N C).set j (v != 0 && b == 0) := by
  have h1 := (List.getElem?_eq_some_iff.1 hN).1
  have h2 := (List.getElem?_eq_some_iff.1 hC).1
  apply List.ext_getElem?
  intro i
  by_cases e : i = j
  · subst e
    rw [List.getElem?_set_self (by simp [newL]; omega)]
    exact newL_get (List.getElem?_set_self h1) hC
  · rw [List.getElem?_set_ne (fun h => e h.symm)]
    unfold newL
    rw [List.getElem?_zipWith, List.getElem?_zipWith, List.getElem?_set_ne (fun h => e h.symm)]
theorem newL_self (N : List UInt8) {n : Nat} (h : N.length = n) : newL N N = List.replicate n false := by
  apply List.ext_getElem?
  intro j
  by_cases hj : j < n
  · obtain ⟨a, m, ha, _⟩ := byte_at h hj
    rw [newL_get ha ha, List.getElem?_replicate, if_pos hj]
    cases h9 : (a == 0) <;> simp [bne, h9]
  · rw [List.getElem?_eq_none (by rw [newL_len h h]; omega), List.getElem?_eq_none (by simp; omega)]

/-- The reference's Refs in block db: three rows, in blocks b0, b1, b2. -/
structure DAt (w : World) (B db b0 o0 k0 b1 o1 k1 b2 o2 k2 n : Nat) (N C : List UInt8) : Prop where
  c0 : w.cell? ⟨db, 0, none⟩ = some (.slice (some ⟨b0, o0, none⟩) n k0)
  c1 : w.cell? ⟨db, 1, none⟩ = some (.slice (some ⟨b1, o1, none⟩) n k1)
  c2 : w.cell? ⟨db, 2, none⟩ = some (.slice (some ⟨b2, o2, none⟩) n k2)
  fz : ∀ j, w.frozen? ⟨db, j, none⟩ = false
  r0 : Room w B (some ⟨b0, o0, none⟩) n k0 (bts N)
  r1 : Room w B (some ⟨b1, o1, none⟩) n k1 (bts C)
  r2 : Room w B (some ⟨b2, o2, none⟩) n k2 (bvs (newL N C))
  n0 : 0 < n
  nn : n ≤ 1024
  dB : B ≤ db
  d0 : db ≠ b0
  d1 : db ≠ b1
  d2 : db ≠ b2
  e1 : b0 ≠ b1
  e2 : b0 ≠ b2
  e3 : b1 ≠ b2
section
variable {w w' : World} {B db b0 o0 k0 b1 o1 k1 b2 o2 k2 n : Nat} {N C : List UInt8}
theorem room_blk {w : World} {B b o n c : Nat} {xs : List Value} (h : Room w B (some ⟨b, o, none⟩) n c xs) (n0 : 0 < n) : fp (some ⟨b, o, none⟩) c = [b] := fp_some _ _ _ (by have := h.le; omega)
theorem room_lt {w : World} {B b o n c : Nat} {xs : List Value} (h : Room w B (some ⟨b, o, none⟩) n c xs) (n0 : 0 < n) : B ≤ b ∧ b < w.heap.size := h.lt b (by rw [room_blk h n0]; simp)
theorem room_chg {w w' : World} {B b o n c : Nat} {xs : List Value} {S : List Nat} (h : Room w B (some ⟨b, o, none⟩) n c xs) (n0 : 0 < n) (g : Chg S w w') (hS : b ∉ S) : Room w' B (some ⟨b, o, none⟩) n c xs := h.chg g (fun k hk => by rw [room_blk h n0] at hk; simp at hk; subst hk; exact hS)
theorem DAt.lN (h : DAt w B db b0 o0 k0 b1 o1 k1 b2 o2 k2 n N C) : N.length = n := by have := h.r0.len; rwa [bts_length] at this
theorem DAt.lC (h : DAt w B db b0 o0 k0 b1 o1 k1 b2 o2 k2 n N C) : C.length = n := by have := h.r1.len; rwa [bts_length] at this
theorem DAt.chg {S : List Nat} (h : DAt w B db b0 o0 k0 b1 o1 k1 b2 o2 k2 n N C) (c : Chg S w w') (hn : ∀ k, k ∈ [db, b0, b1, b2] → k ∉ S) : DAt w' B db b0 o0 k0 b1 o1 k1 b2 o2 k2 n N C := by
  have h1 := hn db (by simp)
  exact ⟨c.cellv h.c0 h1, c.cellv h.c1 h1, c.cellv h.c2 h1, fun j => (c.frozen (p := ⟨db, j, none⟩) (show db < w.heap.size from block_lt_of_cell h.c0) h1).trans (h.fz j),
    room_chg h.r0 h.n0 c (hn _ (by simp)), room_chg h.r1 h.n0 c (hn _ (by simp)), room_chg h.r2 h.n0 c (hn _ (by simp)), h.n0, h.nn, h.dB, h.d0, h.d1, h.d2, h.e1, h.e2, h.e3⟩
theorem DAt.lt (h : DAt w B db b0 o0 k0 b1 o1 k1 b2 o2 k2 n N C) : ∀ k, k ∈ [db, b0, b1, b2] → B ≤ k ∧ k < w.heap.size := by
  intro k hk
  simp at hk
  rcases hk with rfl | rfl | rfl | rfl
  · exact ⟨h.dB, block_lt_of_cell h.c0⟩
  · exact room_lt h.r0 h.n0
  · exact room_lt h.r1 h.n0
  · exact room_lt h.r2 h.n0
theorem DAt.mono {B' : Nat} (h : DAt w B db b0 o0 k0 b1 o1 k1 b2 o2 k2 n N C) (hB : B' ≤ B) : DAt w B' db b0 o0 k0 b1 o1 k1 b2 o2 k2 n N C :=
  ⟨h.c0, h.c1, h.c2, h.fz, h.r0.mono hB, h.r1.mono hB, h.r2.mono hB, h.n0, h.nn, Nat.le_trans hB h.dB, h.d0, h.d1, h.d2, h.e1, h.e2, h.e3⟩
end
/-- The reference, its blocks G. -/
def DO (w : World) (B db : Nat) (G : List Nat) (n : Nat) (N C : List UInt8) : Prop := ∃ b0 o0 k0 b1 o1 k1 b2 o2 k2, DAt w B db b0 o0 k0 b1 o1 k1 b2 o2 k2 n N C ∧ G = [db, b0, b1, b2]
theorem DO.chg {w w' : World} {B db : Nat} {G : List Nat} {n : Nat} {N C : List UInt8} {S : List Nat} (h : DO w B db G n N C) (c : Chg S w w') (hn : ∀ k, k ∈ G → k ∉ S) : DO w' B db G n N C := by
  obtain ⟨b0, o0, k0, b1, o1, k1, b2, o2, k2, hD, rfl⟩ := h
  exact ⟨b0, o0, k0, b1, o1, k1, b2, o2, k2, hD.chg c hn, rfl⟩
theorem DO.keep {w w' : World} {B db : Nat} {G : List Nat} {n : Nat} {N C : List UInt8} (h : DO w B db G n N C) (c : Chg [] w w') : DO w' B db G n N C := h.chg c (by simp)
theorem DO.lt {w : World} {B db : Nat} {G : List Nat} {n : Nat} {N C : List UInt8} (h : DO w B db G n N C) : ∀ k, k ∈ G → B ≤ k ∧ k < w.heap.size := by
  obtain ⟨b0, o0, k0, b1, o1, k1, b2, o2, k2, hD, rfl⟩ := h
  exact hD.lt
theorem DO.mono {w : World} {B B' db : Nat} {G : List Nat} {n : Nat} {N C : List UInt8} (h : DO w B db G n N C) (hB : B' ≤ B) : DO w B' db G n N C := by
  obtain ⟨b0, o0, k0, b1, o1, k1, b2, o2, k2, hD, rfl⟩ := h
  exact ⟨b0, o0, k0, b1, o1, k1, b2, o2, k2, hD.mono hB, rfl⟩
/-- What a call has made of the reference. -/
def DStep (w w' : World) (B db : Nat) (G : List Nat) (n : Nat) (N C : List UInt8) : Prop := ∃ G', DO w' B db G' n N C ∧ Chg G w w' ∧ ∀ k, k ∈ G' → k ∈ G ∨ w.heap.size ≤ k
theorem DStep.refl {w : World} {B db : Nat} {G : List Nat} {n : Nat} {N C : List UInt8} (h : DO w B db G n N C) : DStep w w B db G n N C := ⟨G, h, Chg.refl _ _, fun _ h => Or.inl h⟩
/-- A count was written, and perhaps whether the block is fresh. -/
theorem DAt.set {w w' : World} {B db b0 o0 k0 b1 o1 k1 b2 o2 k2 n : Nat} {N C N' : List UInt8} (h : DAt w B db b0 o0 k0 b1 o1 k1 b2 o2 k2 n N C) (g : Chg [b0, b2] w w') (r0 : Room w' B (some ⟨b0, o0, none⟩) n k0 (bts N')) (r2 : Room w' B (some ⟨b2, o2, none⟩) n k2 (bvs (newL N' C))) : DStep w w' B db [db, b0, b1, b2] n N' C := by
  have h1 : db ∉ [b0, b2] := by simp; exact ⟨h.d0, h.d2⟩
  have h2 : b1 ∉ [b0, b2] := by simp; exact ⟨fun e => h.e1 e.symm, h.e3⟩
  exact ⟨_, ⟨b0, o0, k0, b1, o1, k1, b2, o2, k2, ⟨g.cellv h.c0 h1, g.cellv h.c1 h1, g.cellv h.c2 h1, fun j => (g.frozen (p := ⟨db, j, none⟩) (show db < w.heap.size from block_lt_of_cell h.c0) h1).trans (h.fz j),
    r0, room_chg h.r1 h.n0 g h2, r2, h.n0, h.nn, h.dB, h.d0, h.d1, h.d2, h.e1, h.e2, h.e3⟩, rfl⟩, g.mono (fun k hk _ => by simp at hk ⊢; rcases hk with hk | hk <;> simp [hk]), fun k hk => Or.inl hk⟩

/-- own: the same bytes in new memory. -/
theorem own_any (ao : Option Addr) (n c : Nat) (l : List UInt8) (w : World) (g : Reads w ao (bts l)) (gn : l.length = n) (n0 : 0 < n) (nn : n ≤ 1024) :
    Calls Try.prog 33 #[.slice ao n c] w fun e w' => ∃ b o k, e = .returned (.slice (some ⟨b, o, none⟩) n k) ∧ w.heap.size ≤ b ∧ Room w' w.heap.size (some ⟨b, o, none⟩) n k (bts l) ∧ Chg [] w w' := by
  have hl : (bts l).length = n := by rw [bts_length]; exact gn
  have HL := mkHid hl
  clear hl gn
  have hml : maxLen = 9223372036854775807 := rfl
  have HM := mkHid hml
  clear hml
  go_enter Try.func33, Try.ntmps33
  go_wp2_with (first | (at_builtin; refine wpList_append_k _ rfl (.tmp 4) (.tmp 5) 22 rfl 5 1 eltB w.heap.size none 0 0 [] rfl (Room.nil _ _ _) (Nat.le_refl _) ao n c (bts l) rfl g HL.out (bts_one _) (by have := HM.out; omega) (by omega) ?_; intro a1 c1 w1 hr1 hg1 hf1; simp only [Nat.zero_add, List.nil_append] at hr1))
  go_ret
  have hle := hr1.le
  obtain ⟨b, o, rfl, hb, _⟩ := hr1.at_ (by omega)
  rw [fp_none] at hg1
  exact ⟨b, o, c1, rfl, hb, hr1, hg1⟩
end Go.Proofs.Ytppjjlooocigdaa
