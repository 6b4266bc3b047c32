/- Objects beside each other: each block has a tag; what a call turns has one tag. -/
import Derived.Test.YtppjjlooocigdaaUk
namespace Go.Proofs.Ytppjjlooocigdaa
open Go.RowKit
set_option linter.unusedVariables false
set_option linter.unusedSimpArgs false
attribute [local go_sem ↓] Go.wp_at_zero Go.wp_at_succ

/-- From w to w' only blocks of tag i (from B on) have turned; old blocks keep their tags. -/
def Turn (B : Nat) (tag tag' : Nat → Nat) (i : Nat) (w w' : World) : Prop := (∃ S, Chg S w w' ∧ ∀ k, k ∈ S → tag k = i ∧ B ≤ k) ∧ ∀ k, k < w.heap.size → tag' k = tag k
/-- Nothing old has turned. -/
def Still (tag tag' : Nat → Nat) (w w' : World) : Prop := Chg [] w w' ∧ ∀ k, k < w.heap.size → tag' k = tag k
theorem Still.turn {tag tag' : Nat → Nat} {w w' : World} (h : Still tag tag' w w') (B i : Nat) : Turn B tag tag' i w w' := ⟨⟨[], h.1, by simp⟩, h.2⟩
theorem Still.of {tag : Nat → Nat} {w w' : World} (h : Chg [] w w') : Still tag tag w w' := ⟨h, fun _ _ => rfl⟩
theorem Turn.base {w0 w w' : World} {tag tag' : Nat → Nat} {i : Nat} (h : Turn w0.heap.size tag tag' i w w') (g : Chg [] w0 w) : Chg [] w0 w' := by
  obtain ⟨⟨S, hS, h1⟩, _⟩ := h
  exact g.trans hS (by simp) (fun k hk hlt => by have := (h1 k hk).2; omega)
def mark (tag : Nat → Nat) (sz i : Nat) : Nat → Nat := fun k => if k < sz then tag k else i
theorem mark_old (tag : Nat → Nat) (sz i k : Nat) (h : k < sz) : mark tag sz i k = tag k := if_pos h
theorem mark_new (tag : Nat → Nat) (sz i k : Nat) (h : sz ≤ k) : mark tag sz i k = i := if_neg (by omega)
/-- Refs in block rb, all their blocks have the tag i. -/
def HasR (B : Nat) (w : World) (tag : Nat → Nat) (i rb n : Nat) (N C : List UInt8) : Prop := ∃ nb cb sb Fs, RfsAt w B rb nb cb sb Fs n N C ∧ ∀ k, k ∈ rb :: nb :: cb :: Fs → tag k = i
def HasD (B : Nat) (w : World) (tag : Nat → Nat) (i db n : Nat) (N C : List UInt8) : Prop := ∃ G, DO w B db G n N C ∧ ∀ k, k ∈ G → tag k = i
def HasS (B : Nat) (w : World) (tag : Nat → Nat) (i : Nat) (ao : Option Addr) (n c : Nat) (xs : List Value) : Prop := Room w B ao n c xs ∧ ∀ k, k ∈ fp ao c → tag k = i
section
variable {B : Nat} {w w' : World} {tag tag' : Nat → Nat} {i j : Nat}
theorem HasR.stay {rb n : Nat} {N C : List UInt8} (h : HasR B w tag j rb n N C) (t : Turn B tag tag' i w w') (hij : i ≠ j) : HasR B w' tag' j rb n N C := by
  obtain ⟨nb, cb, sb, Fs, h1, h2⟩ := h
  obtain ⟨⟨S, hS, h3⟩, h4⟩ := t
  exact ⟨nb, cb, sb, Fs, h1.chg hS (fun k hk hm => hij ((h3 k hm).1.symm.trans (h2 k hk))), fun k hk => (h4 k (h1.lt k hk).2).trans (h2 k hk)⟩
theorem HasR.still {rb n : Nat} {N C : List UInt8} (h : HasR B w tag j rb n N C) (t : Still tag tag' w w') : HasR B w' tag' j rb n N C := h.stay (t.turn B (j + 1)) (by omega)
theorem HasD.stay {db n : Nat} {N C : List UInt8} (h : HasD B w tag j db n N C) (t : Turn B tag tag' i w w') (hij : i ≠ j) : HasD B w' tag' j db n N C := by
  obtain ⟨G, h1, h2⟩ := h
  obtain ⟨⟨S, hS, h3⟩, h4⟩ := t
  exact ⟨G, h1.chg hS (fun k hk hm => hij ((h3 k hm).1.symm.trans (h2 k hk))), fun k hk => (h4 k (h1.lt k hk).2).trans (h2 k hk)⟩
theorem HasD.still {db n : Nat} {N C : List UInt8} (h : HasD B w tag j db n N C) (t : Still tag tag' w w') : HasD B w' tag' j db n N C := h.stay (t.turn B (j + 1)) (by omega)
theorem HasS.stay {ao : Option Addr} {n c : Nat} {xs : List Value} (h : HasS B w tag j ao n c xs) (t : Turn B tag tag' i w w') (hij : i ≠ j) : HasS B w' tag' j ao n c xs := by
  obtain ⟨⟨S, hS, h3⟩, h4⟩ := t
  exact ⟨h.1.chg hS (fun k hk hm => hij ((h3 k hm).1.symm.trans (h.2 k hk))), fun k hk => (h4 k (h.1.lt k hk).2).trans (h.2 k hk)⟩
theorem HasS.still {ao : Option Addr} {n c : Nat} {xs : List Value} (h : HasS B w tag j ao n c xs) (t : Still tag tag' w w') : HasS B w' tag' j ao n c xs := h.stay (t.turn B (j + 1)) (by omega)
theorem Turn.cellv (t : Turn B tag tag' i w w') {p : Addr} {v : Value} (hc : w.cell? p = some v) (hp : tag p.block = j) (hij : i ≠ j) : w'.cell? p = some v ∧ tag' p.block = j := by
  obtain ⟨⟨S, hS, h3⟩, h4⟩ := t
  exact ⟨hS.cellv hc (fun hm => hij ((h3 _ hm).1.symm.trans hp)), (h4 _ (block_lt_of_cell hc)).trans hp⟩
theorem HasR.size {rb n : Nat} {N C : List UInt8} (h : HasR B w tag j rb n N C) : B ≤ w.heap.size := by
  obtain ⟨nb, cb, sb, Fs, h1, h2⟩ := h
  have := h1.ltr
  have := h1.rB
  omega
theorem HasR.lens {rb n : Nat} {N C : List UInt8} (h : HasR B w tag j rb n N C) : N.length = n ∧ C.length = n ∧ 0 < n ∧ n ≤ 1024 := by
  obtain ⟨nb, cb, sb, Fs, h1, h2⟩ := h
  exact ⟨h1.lN, h1.lC, h1.n0, h1.nn⟩
end
theorem turn_r {B : Nat} {w : World} {tag : Nat → Nat} {i rb n : Nat} {N C N' C' : List UInt8} {f : Nat} {args : Array Value} {post : Ending → Prop} (h : HasR B w tag i rb n N C)
    (hc : ∀ nb cb sb Fs, RfsAt w B rb nb cb sb Fs n N C → Calls Try.prog f args w fun e w' => post e ∧ RStep w w' B rb nb cb sb Fs n N' C') :
    Calls Try.prog f args w fun e w' => post e ∧ ∃ tag', HasR B w' tag' i rb n N' C' ∧ Turn B tag tag' i w w' := by
  obtain ⟨nb, cb, sb, Fs, h1, h2⟩ := h
  refine (hc nb cb sb Fs h1).mono ?_
  rintro e w' ⟨hp, Fs', s1, s2, s3⟩
  refine ⟨hp, mark tag w.heap.size i, ⟨nb, cb, sb, Fs', s1, fun k hk => ?_⟩, ⟨_, s2, fun k hk => ⟨h2 k hk, (h1.lt k hk).1⟩⟩, fun k hk => mark_old _ _ _ _ hk⟩
  by_cases hlt : k < w.heap.size
  · rw [mark_old _ _ _ _ hlt]
    simp only [List.mem_cons] at hk
    rcases hk with rfl | rfl | rfl | hk
    · exact h2 _ (by simp)
    · exact h2 _ (by simp)
    · exact h2 _ (by simp)
    · exact (s3 k hk).elim (fun h => h2 k (by simp [h])) (fun h => by omega)
  · exact mark_new _ _ _ _ (by omega)
theorem turn_d {B : Nat} {w : World} {tag : Nat → Nat} {i db n : Nat} {N C N' C' : List UInt8} {f : Nat} {args : Array Value} {post : Ending → Prop} (h : HasD B w tag i db n N C)
    (hc : ∀ b0 o0 k0 b1 o1 k1 b2 o2 k2, DAt w B db b0 o0 k0 b1 o1 k1 b2 o2 k2 n N C → Calls Try.prog f args w fun e w' => post e ∧ DStep w w' B db [db, b0, b1, b2] n N' C') :
    Calls Try.prog f args w fun e w' => post e ∧ ∃ tag', HasD B w' tag' i db n N' C' ∧ Turn B tag tag' i w w' := by
  obtain ⟨G, h1, h2⟩ := h
  have hlt := h1.lt
  obtain ⟨b0, o0, k0, b1, o1, k1, b2, o2, k2, hD, rfl⟩ := h1
  refine (hc b0 o0 k0 b1 o1 k1 b2 o2 k2 hD).mono ?_
  rintro e w' ⟨hp, G', s1, s2, s3⟩
  refine ⟨hp, mark tag w.heap.size i, ⟨G', s1, fun k hk => ?_⟩, ⟨_, s2, fun k hk => ⟨h2 k hk, (hlt k hk).1⟩⟩, fun k hk => mark_old _ _ _ _ hk⟩
  by_cases hkw : k < w.heap.size
  · rw [mark_old _ _ _ _ hkw]
    exact (s3 k hk).elim (fun h => h2 k h) (fun h => by omega)
  · exact mark_new _ _ _ _ (by omega)
section
variable {B : Nat} {w : World} {tag : Nat → Nat} {i rb n : Nat} {N C : List UInt8} (h : HasR B w tag i rb n N C)
include h
theorem r_alloc : Calls Try.prog 10 #[.pointer (some ⟨rb, 0, none⟩)] w fun e w' => e = .returned (.tuple #[.int .i64 (allocN N C).1, .int .i64 (allocN N C).2.1]) ∧ ∃ tag', HasR B w' tag' i rb n (allocN N C).2.2 C ∧ Turn B tag tag' i w w' :=
  turn_r h fun nb cb sb Fs h1 => alloc_any B rb nb cb sb Fs n N C w h1
theorem r_inc (z : Int) : Calls Try.prog 12 #[.pointer (some ⟨rb, 0, none⟩), .int .i64 z] w fun e w' => e = .returned (.int .i64 (incN N z).1) ∧ ∃ tag', HasR B w' tag' i rb n (incN N z).2 C ∧ Turn B tag tag' i w w' :=
  turn_r h fun nb cb sb Fs h1 => inc_any B rb nb cb sb Fs n N C w h1 z
theorem r_dec (z : Int) : Calls Try.prog 14 #[.pointer (some ⟨rb, 0, none⟩), .int .i64 z] w fun e w' => e = .returned (.tuple #[.bool (decN N z).1, .int .i64 (decN N z).2.1]) ∧ ∃ tag', HasR B w' tag' i rb n (decN N z).2.2 C ∧ Turn B tag tag' i w w' :=
  turn_r h fun nb cb sb Fs h1 => dec_any B rb nb cb sb Fs n N C w h1 z
theorem r_commit : Calls Try.prog 16 #[.pointer (some ⟨rb, 0, none⟩)] w fun e w' => e = .returned (.int .i64 0) ∧ ∃ tag', HasR B w' tag' i rb n N N ∧ Turn B tag tag' i w w' :=
  turn_r h fun nb cb sb Fs h1 => commit_any B rb nb cb sb Fs n N C w h1
theorem r_abort : Calls Try.prog 18 #[.pointer (some ⟨rb, 0, none⟩)] w fun e w' => e = .returned (.int .i64 0) ∧ ∃ tag', HasR B w' tag' i rb n C C ∧ Turn B tag tag' i w w' :=
  turn_r h fun nb cb sb Fs h1 => abort_any B rb nb cb sb Fs n N C w h1
theorem r_free : Calls Try.prog 25 #[.pointer (some ⟨rb, 0, none⟩)] w fun e w' => e = .returned (.int .i64 (freeL (freeI N C)).length) ∧ w = w' := by
  obtain ⟨nb, cb, sb, Fs, h1, _⟩ := h
  exact rfree_any B rb nb cb sb Fs n N C w h1
theorem r_count (z : Int) : Calls Try.prog 29 #[.pointer (some ⟨rb, 0, none⟩), .int .i64 z] w fun e w' => e = .returned (.int .i64 (cntN N z)) ∧ w = w' := by
  obtain ⟨nb, cb, sb, Fs, h1, _⟩ := h
  exact rcount_any B rb nb cb sb Fs n N C w h1 z
theorem r_fresh (z : Int) : Calls Try.prog 27 #[.pointer (some ⟨rb, 0, none⟩), .int .i64 z] w fun e w' => e = .returned (.bool (newN N C z)) ∧ w = w' := by
  obtain ⟨nb, cb, sb, Fs, h1, _⟩ := h
  exact rfresh_any B rb nb cb sb Fs n N C w h1 z
theorem r_counts (j : Nat) : Calls Try.prog 24 #[.pointer (some ⟨rb, 0, none⟩)] w fun e w' => ∃ b, e = .returned (.slice (some ⟨b, 0, none⟩) n n) ∧ ∃ tag', HasS B w' tag' j (some ⟨b, 0, none⟩) n n (bts N) ∧ Still tag tag' w w' := by
  have hB := h.size
  obtain ⟨nb, cb, sb, Fs, h1, _⟩ := h
  refine (rcounts_any B rb nb cb sb Fs n N C w h1).mono ?_
  rintro e w' ⟨b, he, hb, hr, hg⟩
  exact ⟨b, he, mark tag w.heap.size j, ⟨hr.mono hB, fun k hk => mark_new _ _ _ _ (hr.lt k hk).1⟩, hg, fun k hk => mark_old _ _ _ _ hk⟩
theorem r_copy (j : Nat) : Calls Try.prog 20 #[.pointer (some ⟨rb, 0, none⟩)] w fun e w' => ∃ rb', e = .returned (.pointer (some ⟨rb', 0, none⟩)) ∧ ∃ tag', HasR B w' tag' j rb' n N C ∧ Still tag tag' w w' := by
  have hB := h.size
  obtain ⟨nb, cb, sb, Fs, h1, _⟩ := h
  refine (rcopy_any B rb nb cb sb Fs n N C w h1).mono ?_
  rintro e w' ⟨rb', nb', cb', sb', Fs', he, hr, hg⟩
  exact ⟨rb', he, mark tag w.heap.size j, ⟨nb', cb', sb', Fs', hr.mono hB, fun k hk => mark_new _ _ _ _ (hr.lt k hk).1⟩, hg, fun k hk => mark_old _ _ _ _ hk⟩
theorem r_become {j xb : Nat} {M D : List UInt8} (hx : HasR B w tag j xb n M D) : Calls Try.prog 22 #[.pointer (some ⟨rb, 0, none⟩), .pointer (some ⟨xb, 0, none⟩)] w fun e w' => e = .returned (.int .i64 0) ∧ ∃ tag', HasR B w' tag' i rb n M D ∧ Turn B tag tag' i w w' := by
  have hB := h.size
  obtain ⟨nb, cb, sb, Fs, h1, h2⟩ := h
  obtain ⟨mb, db, tb, Fx, x1, x2⟩ := hx
  refine (rbecome_yes B rb nb cb sb Fs n N C w h1 B xb mb db tb Fx n M D x1 rfl hB).mono ?_
  rintro e w' ⟨he, nb', cb', sb', Fs', hr, hf, hg⟩
  refine ⟨he, mark tag w.heap.size i, ⟨nb', cb', sb', Fs', hr, fun k hk => ?_⟩, ⟨[rb], hg, fun k hk => by simp at hk; subst hk; exact ⟨h2 _ (by simp), h1.rB⟩⟩, fun k hk => mark_old _ _ _ _ hk⟩
  rcases List.mem_cons.1 hk with rfl | hk
  · rw [mark_old _ _ _ _ h1.ltr]; exact h2 _ (by simp)
  · exact mark_new _ _ _ _ (hf k hk)
end
theorem r_new (B : Nat) (ao : Option Addr) (n c : Nat) (L : List UInt8) (w : World) (g : Reads w ao (bts L)) (gn : L.length = n) (n0 : 0 < n) (nn : n ≤ 1024) (hB : B ≤ w.heap.size) (tag : Nat → Nat) (j : Nat) : Calls Try.prog 7 #[.slice ao n c] w fun e w' => ∃ rb, e = .returned (.tuple #[.pointer (some ⟨rb, 0, none⟩), .int .i64 0]) ∧ ∃ tag', HasR B w' tag' j rb n L L ∧ Still tag tag' w w' := by
  refine (rnew_in ao n c L w g gn n0 nn).mono ?_
  rintro e w' ⟨rb', nb', cb', sb', Fs', he, hr, hg⟩
  exact ⟨rb', he, mark tag w.heap.size j, ⟨nb', cb', sb', Fs', hr.mono hB, fun k hk => mark_new _ _ _ _ (hr.lt k hk).1⟩, hg, fun k hk => mark_old _ _ _ _ hk⟩
section
variable {B : Nat} {w : World} {tag : Nat → Nat} {i db n : Nat} {N C : List UInt8} (h : HasD B w tag i db n N C)
include h
theorem d_alloc : Calls Try.prog 11 #[.pointer (some ⟨db, 0, none⟩)] w fun e w' => e = .returned (.tuple #[.int .i64 (allocN N C).1, .int .i64 (allocN N C).2.1]) ∧ ∃ tag', HasD B w' tag' i db n (allocN N C).2.2 C ∧ Turn B tag tag' i w w' :=
  turn_d h fun b0 o0 k0 b1 o1 k1 b2 o2 k2 h1 => dalloc_any B db b0 o0 k0 b1 o1 k1 b2 o2 k2 n N C w h1
theorem d_inc (z : Int) : Calls Try.prog 13 #[.pointer (some ⟨db, 0, none⟩), .int .i64 z] w fun e w' => e = .returned (.int .i64 (incN N z).1) ∧ ∃ tag', HasD B w' tag' i db n (incN N z).2 C ∧ Turn B tag tag' i w w' :=
  turn_d h fun b0 o0 k0 b1 o1 k1 b2 o2 k2 h1 => dinc_any B db b0 o0 k0 b1 o1 k1 b2 o2 k2 n N C w h1 z
theorem d_dec (z : Int) : Calls Try.prog 15 #[.pointer (some ⟨db, 0, none⟩), .int .i64 z] w fun e w' => e = .returned (.tuple #[.bool (decN N z).1, .int .i64 (decN N z).2.1]) ∧ ∃ tag', HasD B w' tag' i db n (decN N z).2.2 C ∧ Turn B tag tag' i w w' :=
  turn_d h fun b0 o0 k0 b1 o1 k1 b2 o2 k2 h1 => ddec_any B db b0 o0 k0 b1 o1 k1 b2 o2 k2 n N C w h1 z
theorem d_commit : Calls Try.prog 17 #[.pointer (some ⟨db, 0, none⟩)] w fun e w' => e = .returned (.tuple #[]) ∧ ∃ tag', HasD B w' tag' i db n N N ∧ Turn B tag tag' i w w' :=
  turn_d h fun b0 o0 k0 b1 o1 k1 b2 o2 k2 h1 => dcommit_any B db b0 o0 k0 b1 o1 k1 b2 o2 k2 n N C w h1
theorem d_abort : Calls Try.prog 19 #[.pointer (some ⟨db, 0, none⟩)] w fun e w' => e = .returned (.tuple #[]) ∧ ∃ tag', HasD B w' tag' i db n C C ∧ Turn B tag tag' i w w' :=
  turn_d h fun b0 o0 k0 b1 o1 k1 b2 o2 k2 h1 => dabort_any B db b0 o0 k0 b1 o1 k1 b2 o2 k2 n N C w h1
theorem d_copy (j : Nat) : Calls Try.prog 21 #[.pointer (some ⟨db, 0, none⟩)] w fun e w' => ∃ db', e = .returned (.pointer (some ⟨db', 0, none⟩)) ∧ ∃ tag', HasD B w' tag' j db' n N C ∧ Still tag tag' w w' := by
  obtain ⟨G, h1, h2⟩ := h
  have hlt := h1.lt
  obtain ⟨b0, o0, k0, b1, o1, k1, b2, o2, k2, hD, rfl⟩ := h1
  have hB : B ≤ w.heap.size := by have := hlt db (by simp); omega
  refine (dcopy_any B db b0 o0 k0 b1 o1 k1 b2 o2 k2 n N C w hD).mono ?_
  rintro e w' ⟨db', G', he, hr, hg⟩
  exact ⟨db', he, mark tag w.heap.size j, ⟨G', hr.mono hB, fun k hk => mark_new _ _ _ _ (hr.lt k hk).1⟩, hg, fun k hk => mark_old _ _ _ _ hk⟩
end
theorem d_new (B : Nat) (ao : Option Addr) (n c : Nat) (L : List UInt8) (w : World) (g : Reads w ao (bts L)) (gn : L.length = n) (n0 : 0 < n) (nn : n ≤ 1024) (hB : B ≤ w.heap.size) (tag : Nat → Nat) (j : Nat) : Calls Try.prog 8 #[.slice ao n c] w fun e w' => ∃ db, e = .returned (.tuple #[.pointer (some ⟨db, 0, none⟩), .int .i64 0]) ∧ ∃ tag', HasD B w' tag' j db n L L ∧ Still tag tag' w w' := by
  refine (dnew_in ao n c L w g gn n0 nn).mono ?_
  rintro e w' ⟨db', G', he, hr, hg⟩
  exact ⟨db', he, mark tag w.heap.size j, ⟨G', hr.mono hB, fun k hk => mark_new _ _ _ _ (hr.lt k hk).1⟩, hg, fun k hk => mark_old _ _ _ _ hk⟩
end Go.Proofs.Ytppjjlooocigdaa
