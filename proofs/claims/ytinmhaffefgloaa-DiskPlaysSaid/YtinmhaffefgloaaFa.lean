/- A disk and a law's own rows of blocks, told apart by tags. -/
import Derived.Test.YtinmhaffefgloaaEa
namespace Go.Proofs.Ytinmhaffefgloaa
open Go.RowKit
set_option linter.unusedVariables false
set_option linter.unusedSimpArgs false

/-! ### what a write, a barrier, a crash do where the power stays -/
theorem write_plain (st : RS) (j : Nat) (b : List UInt8) (hg : st.gone = false) (hl : st.left = 0) (hj : j < st.count) (hb : b.length = 256) : write st j b = (0, { st with L := st.L ++ flies j b 4 }) := by
  have h1 : ¬ ((j : Int) < 0 ∨ (st.count : Int) ≤ (j : Int)) := by omega
  have h2 : burn st = (false, st) := by unfold burn; rw [if_pos hl]
  unfold write whyN
  rw [hg, h2]
  simp only [Bool.false_eq_true, if_false, h1, hb, ne_eq, not_true_eq_false, Int.toNat_natCast, hg]
theorem barrier_plain (st : RS) (hg : st.gone = false) (hl : st.left = 0) : barrier st = (0, { st with S := settle st.S st.L, L := [] }) := by
  have h2 : burn st = (false, st) := by unfold burn; rw [if_pos hl]
  unfold barrier
  simp [hg, h2]
theorem torn_snoc (S : List (List UInt8)) (L : List (Nat × List UInt8)) (f : Nat × List UInt8) (P : List UInt8) :
    torn S ((L ++ [f]).zip P) = if h : L.length < P.length then tear (torn S (L.zip P)) (f, P[L.length]) else torn S (L.zip P) := by
  have e : ∀ (L : List (Nat × List UInt8)) (P : List UInt8), (L ++ [f]).zip P = L.zip P ++ (if h : L.length < P.length then [(f, P[L.length])] else []) := by
    intro L
    induction L with
    | nil =>
      intro P
      cases P <;> simp
    | cons x r ih =>
      intro P
      cases P with
      | nil => simp
      | cons p P =>
        simp only [List.cons_append, List.zip_cons_cons, ih P, List.length_cons, List.getElem_cons_succ, Nat.add_lt_add_iff_right]
  rw [e L P]
  split
  · unfold torn
    rw [List.foldl_append]
    rfl
  · rw [List.append_nil]
theorem flies_len (A : Nat) (b : List UInt8) (n : Nat) : (flies A b n).length = n := by simp [flies]
theorem cur_calm (st : RS) (h : st.L = []) (s : Nat) : cur st s = st.S.getD s [] := by unfold cur; rw [h]; rfl
theorem reads_part (st : RS) (A j : Nat) (hj : j < 4) (hs : 4 * A + 4 ≤ st.S.length) (hS : ∀ l ∈ st.S, l.length = 64) (hL : ∀ f ∈ st.L, f.2.length = 64) : ((reads st A 4).drop (64 * j)).take 64 = cur st (4 * A + j) := by
  have e : ∀ n, n ≤ 4 → j < n → ((reads st A n).drop (64 * j)).take 64 = cur st (4 * A + j) := by
    intro n
    induction n with
    | zero => intro _ h; omega
    | succ n ih =>
      intro h4 hjn
      rw [reads_succ]
      have hl := reads_len st A n (by omega) hS hL
      by_cases h : j < n
      · rw [List.drop_append_of_le_length (by omega), List.take_append_of_le_length (by rw [List.length_drop]; omega)]
        exact ih (by omega) h
      · have hjn2 : j = n := by omega
        subst hjn2
        rw [← hl, List.drop_left, List.take_of_length_le (by rw [cur_len st _ (by omega) hS hL]; omega)]
  exact e 4 (by omega) hj

/-! ### tags -/
/-- The tags of blocks, some new ones beside the elder. -/
def mark (tag : Nat → Nat) (sz t : Nat) : Nat → Nat := fun k => if k < sz then tag k else t
theorem mark_old {tag : Nat → Nat} {sz t k : Nat} (h : k < sz) : mark tag sz t k = tag k := if_pos h
theorem mark_new {tag : Nat → Nat} {sz t k : Nat} (h : sz ≤ k) : mark tag sz t k = t := if_neg (by omega)
structure OwnT (w0 w : World) (tag : Nat → Nat) (db : Nat) (g : DG) (fa : Option Addr) (cf : Nat) (st : RS) : Prop where
  d : DevAt w w0.heap.size db g fa cf st
  c : Chg [] w0 w
  t : ∀ k, k ∈ DF db g fa cf → tag k = 0
  W : Whole st
theorem OwnT.keep {w0 w w' : World} {tag tag' : Nat → Nat} {db : Nat} {g : DG} {fa : Option Addr} {cf : Nat} {st : RS} (h : OwnT w0 w tag db g fa cf st) (c : Chg [] w w') (ht : ∀ k, k < w.heap.size → tag' k = tag k) : OwnT w0 w' tag' db g fa cf st :=
  ⟨h.d.keep c, h.c.then c, fun k hk => (ht k (h.d.lt k hk).2).trans (h.t k hk), h.W⟩
theorem OwnT.chg {w0 w w' : World} {S : List Nat} {tag tag' : Nat → Nat} {db : Nat} {g : DG} {fa : Option Addr} {cf : Nat} {st : RS} (h : OwnT w0 w tag db g fa cf st) (c : Chg S w w') (hS : ∀ k, k ∈ S → k < w.heap.size → tag k ≠ 0 ∧ w0.heap.size ≤ k) (ht : ∀ k, k < w.heap.size → tag' k = tag k) : OwnT w0 w' tag' db g fa cf st :=
  ⟨h.d.chg c (fun k hk hm => (hS k hm (h.d.lt k hk).2).1 (h.t k hk)), h.c.trans c (by simp) (fun k hk hlt => by have h1 := h.c.size; have h2 := (hS k hk (by omega)).2; omega), fun k hk => (ht k (h.d.lt k hk).2).trans (h.t k hk), h.W⟩
theorem OwnT.step {w0 w w' : World} {tag : Nat → Nat} {db : Nat} {g : DG} {fa fa' : Option Addr} {cf cf' : Nat} {st st' : RS} (h : OwnT w0 w tag db g fa cf st) (d : DevAt w' w0.heap.size db g fa' cf' st') (c : Chg (DF db g fa cf) w w') (l : Later w fa cf fa' cf') (hW : Whole st') : OwnT w0 w' (mark tag w.heap.size 0) db g fa' cf' st' :=
  ⟨d, h.c.trans c (by simp) (fun k hk hlt => by have := (h.d.lt k hk).1; omega), fun k hk => by
    by_cases hlt : k < w.heap.size
    · rw [mark_old hlt]
      simp only [DF, List.mem_cons] at hk
      rcases hk with hk | hk | hk | hk
      · exact h.t k (by simp [DF, hk])
      · exact h.t k (by simp [DF, hk])
      · exact h.t k (by simp [DF, hk])
      · rcases l k hk with hx | hx
        · exact h.t k (by simp [DF, hx])
        · omega
    · exact mark_new (by omega), hW⟩
theorem ownT_write (z : Int) (w0 : World) (tag : Nat → Nat) (db : Nat) (g : DG) (fa : Option Addr) (cf : Nat) (st : RS) (w : World) (h : OwnT w0 w tag db g fa cf st) (hLb : st.L.length ≤ 1000000000)
    (ab : Option Addr) (nb cb : Nat) (b : List UInt8) (gb : Reads w ab (bts b)) (gn : b.length = nb) (gc : nb ≤ cb) (gm : cb ≤ 140737488355328) (hab : ∀ k, k ∈ blk ab → tag k ≠ 0 ∧ k < w.heap.size) :
    Calls Try.prog 12 #[.pointer (some ⟨db, 0, none⟩), .int .i64 z, .slice ab nb cb] w fun e w' => e = .returned (.int .i64 (write st z b).1) ∧ ∃ fa' cf', OwnT w0 w' (mark tag w.heap.size 0) db g fa' cf' (write st z b).2 ∧ Chg (DF db g fa cf) w w' := by
  refine (dwrite_any z w0.heap.size db g fa cf st w h.d h.W h.c.size hLb ab nb cb b gb gn gc gm (fun k hk => ⟨fun hm => (hab k hk).1 (h.t k hm), (hab k hk).2⟩)).mono ?_
  rintro e w' ⟨he, fa', cf', h2, hg2, hl2⟩
  exact ⟨he, fa', cf', h.step h2 hg2 hl2 (write_whole z b h.W), hg2⟩
theorem ownT_barrier (w0 : World) (tag : Nat → Nat) (db : Nat) (g : DG) (fa : Option Addr) (cf : Nat) (st : RS) (w : World) (h : OwnT w0 w tag db g fa cf st) :
    Calls Try.prog 17 #[.pointer (some ⟨db, 0, none⟩)] w fun e w' => e = .returned (.int .i64 (barrier st).1) ∧ ∃ fa' cf', OwnT w0 w' (mark tag w.heap.size 0) db g fa' cf' (barrier st).2 ∧ Chg (DF db g fa cf) w w' := by
  refine (dbarrier_any w0.heap.size db g fa cf st w h.d).mono ?_
  rintro e w' ⟨he, fa', cf', h2, hg2, hl2⟩
  have hg3 : Chg (DF db g fa cf) w w' := hg2.mono (fun k hk _ => DF_three hk)
  exact ⟨he, fa', cf', h.step h2 hg3 (fun k hk => Or.inl (hl2 k hk)) (barrier_whole h.W), hg3⟩
theorem ownT_crash (w0 : World) (tag : Nat → Nat) (db : Nat) (g : DG) (fa : Option Addr) (cf : Nat) (st : RS) (w : World) (h : OwnT w0 w tag db g fa cf st)
    (ap : Option Addr) (np cp : Nat) (ps : List UInt8) (gp : Reads w ap (bts ps)) (gn : ps.length = np) (hnp : np ≤ maxLen) (hap : ∀ k, k ∈ blk ap → tag k ≠ 0 ∨ k < w0.heap.size) :
    Calls Try.prog 21 #[.pointer (some ⟨db, 0, none⟩), .slice ap np cp] w fun e w' => e = .returned (.tuple #[]) ∧ OwnT w0 w' (mark tag w.heap.size 0) db g none 0 (crash st ps) ∧ Chg (DF db g fa cf) w w' := by
  refine (dcrash_any w0.heap.size db g fa cf st w h.d ap np cp ps gp gn hnp (fun k hk hm => (hap k hk).elim (fun hx => hx (h.t k hm)) (fun hx => by have := (h.d.lt k hm).1; omega))).mono ?_
  rintro e w' ⟨he, h2, hg2⟩
  have hg3 : Chg (DF db g fa cf) w w' := hg2.mono (fun k hk _ => DF_three hk)
  exact ⟨he, h.step h2 hg3 (fun k hk => by rw [fp_zero] at hk; simp at hk) (crash_whole ps h.W), hg3⟩

/-! ### the rows of what a sector may be -/
def RowAt (w : World) (B : Nat) (tag : Nat → Nat) (mb N s : Nat) (l : List UInt8) : Prop :=
  ∃ ao n c vs xb xo xc, w.cell? ⟨mb, s, none⟩ = some (.slice ao (n + 1) c) ∧ Room w B ao (n + 1) c vs ∧ n ≤ N ∧ (∀ k, k ∈ fp ao c → tag k = 2 + s) ∧ vs[n]? = some (.slice (some ⟨xb, xo, none⟩) 64 xc) ∧ 64 ≤ xc ∧ xc ≤ maxLen ∧ tag xb = 18 ∧ xb < w.heap.size ∧ Reads w (some ⟨xb, xo, none⟩) (bts l) ∧ l.length = 64
theorem RowAt.chg {w w' : World} {S : List Nat} {B : Nat} {tag tag' : Nat → Nat} {mb N N' s : Nat} {l : List UInt8} (h : RowAt w B tag mb N s l) (c : Chg S w w') (hN : N ≤ N') (hm : tag mb = 1)
    (hS : ∀ k, k ∈ S → k < w.heap.size → tag k ≠ 1 ∧ tag k ≠ 2 + s ∧ tag k ≠ 18) (ht : ∀ k, k < w.heap.size → tag' k = tag k) : RowAt w' B tag' mb N' s l := by
  obtain ⟨ao, n, cc, vs, xb, xo, xc, a1, a2, a3, a4, a5, a6, a7, a8, a9, a10, a11⟩ := h
  have hmb : mb < w.heap.size := block_lt_of_cell a1
  refine ⟨ao, n, cc, vs, xb, xo, xc, c.cellv a1 (fun hx => (hS mb hx hmb).1 hm), a2.chg c (fun k hk hx => (hS k hx (a2.lt k hk).2).2.1 (a4 k hk)), by omega, fun k hk => (ht k (a2.lt k hk).2).trans (a4 k hk), a5, a6, a7, (ht xb a9).trans a8, Nat.lt_of_lt_of_le a9 c.size, a10.chg c (fun k hk hx => ?_), a11⟩
  simp [blk] at hk
  rw [hk] at hx
  exact (hS xb hx a9).2.2 a8
structure MayAt (w : World) (B : Nat) (tag : Nat → Nat) (mb N cnt : Nat) (T : List (List UInt8)) : Prop where
  tm : tag mb = 1
  lm : mb < w.heap.size
  bm : B ≤ mb
  fz : ∀ s, s < 16 → w.frozen? ⟨mb, s, none⟩ = false
  ex : ∀ s, s < 16 → ∃ u, w.cell? ⟨mb, s, none⟩ = some u
  row : ∀ s, s < cnt → RowAt w B tag mb N s (T.getD s [])
theorem MayAt.chg {w w' : World} {S : List Nat} {B : Nat} {tag tag' : Nat → Nat} {mb N N' cnt : Nat} {T : List (List UInt8)} (h : MayAt w B tag mb N cnt T) (c : Chg S w w') (hN : N ≤ N')
    (hS : ∀ k, k ∈ S → k < w.heap.size → tag k = 0 ∨ 18 < tag k) (hc : cnt ≤ 16) (ht : ∀ k, k < w.heap.size → tag' k = tag k) : MayAt w' B tag' mb N' cnt T := by
  have hmS : mb ∉ S := fun hx => by have := hS mb hx h.lm; have := h.tm; omega
  refine ⟨(ht mb h.lm).trans h.tm, Nat.lt_of_lt_of_le h.lm c.size, h.bm, fun s hs => (c.frozen (p := ⟨mb, s, none⟩) h.lm hmS).trans (h.fz s hs), fun s hs => (h.ex s hs).elim fun u hu => ⟨u, c.cellv hu hmS⟩, fun s hs => (h.row s hs).chg c hN h.tm (fun k hk hlt => ?_) ht⟩
  have := hS k hk hlt
  omega
/-- One more sector's row is begun. -/
theorem MayAt.first {w w' : World} {B : Nat} {tag : Nat → Nat} {mb N cnt : Nat} {T : List (List UInt8)} (h : MayAt w B tag mb N cnt T) (hc : cnt < 16) (g : Chg [] w w') (hs1 : w.heap.size ≤ w'.heap.size) {nb xb xo xc : Nat} {e : TypeId}
    (hxt : tag xb = 18) (hx : xb < w.heap.size) (hxr : Reads w (some ⟨xb, xo, none⟩) (bts (T.getD cnt []))) (hl : (T.getD cnt []).length = 64) (hxc : 64 ≤ xc) (hxm : xc ≤ maxLen) (hB : B ≤ w.heap.size)
    (hnb : nb = w.heap.size) (hw' : w' = w.alloc (.cells #[.slice (some ⟨xb, xo, none⟩) 64 xc] e)) :
    MayAt (w'.setCell ⟨mb, cnt, none⟩ (.slice (some ⟨nb, 0, none⟩) 1 1)) B (mark tag w.heap.size (2 + cnt)) mb N (cnt + 1) T := by
  have ht : ∀ k, k < w.heap.size → mark tag w.heap.size (2 + cnt) k = tag k := fun k hk => mark_old hk
  have h2 := h.chg (tag' := mark tag w.heap.size (2 + cnt)) (N' := N) g (Nat.le_refl _) (by simp) (by omega) ht
  have gs : Chg [mb] w' (w'.setCell ⟨mb, cnt, none⟩ (.slice (some ⟨nb, 0, none⟩) 1 1)) := Chg.setCell w' ⟨mb, cnt, none⟩ _
  have hmn : mb ≠ nb := by have := h.lm; omega
  have hroom : Room w' B (some ⟨nb, 0, none⟩) 1 1 [.slice (some ⟨xb, xo, none⟩) 64 xc] := by
    subst hw' hnb
    refine ⟨rfl, Nat.le_refl _, by decide, fun _ => ⟨w.heap.size, 0, rfl, hB, fun j hj => ⟨?_, frozen_of_row _ _ _ _ _ (heap_alloc_last w _)⟩, fun j u hu => ?_⟩⟩
    · have : j = 0 := by omega
      subst this
      rw [cell_of_row _ _ _ _ _ _ (heap_alloc_last w _)]
      rfl
    · rw [cell_of_row _ _ _ _ _ _ (heap_alloc_last w _), Nat.zero_add]
      simpa using hu
  obtain ⟨u, hu⟩ := h2.ex cnt hc
  have other : ∀ s, s ≠ cnt → (w'.setCell ⟨mb, cnt, none⟩ (.slice (some ⟨nb, 0, none⟩) 1 1)).cell? ⟨mb, s, none⟩ = w'.cell? ⟨mb, s, none⟩ := fun s hs => World.cell?_setCell_other _ _ _ _ (by simp [hs])
  refine ⟨h2.tm, Nat.lt_of_lt_of_le h2.lm gs.size, h2.bm, fun s hs => by rw [World.frozen?_setCell]; exact h2.fz s hs, fun s hs => ?_, fun s hs => ?_⟩
  · by_cases he : s = cnt
    · subst he; exact ⟨_, World.cell?_setCell_same _ _ _ hu⟩
    · rw [other s he]; exact h2.ex s hs
  · by_cases he : s = cnt
    · subst he
      refine ⟨some ⟨nb, 0, none⟩, 0, 1, [.slice (some ⟨xb, xo, none⟩) 64 xc], xb, xo, xc, World.cell?_setCell_same _ _ _ hu, hroom.chg gs (fun k hk => by rw [fp_some _ _ _ (by decide)] at hk; simp at hk ⊢; rw [hk]; exact fun e => hmn e.symm), Nat.zero_le _, fun k hk => ?_, rfl, hxc, hxm, (ht xb hx).trans hxt, Nat.lt_of_lt_of_le hx (Nat.le_trans hs1 gs.size), (hxr.keep g).chg gs (fun k hk => ?_), hl⟩
      · rw [fp_some _ _ _ (by decide)] at hk
        simp at hk
        rw [hk]
        exact mark_new (by omega)
      · simp [blk] at hk
        rw [hk]
        simp
        intro e
        rw [e, h.tm] at hxt
        omega
    · obtain ⟨ao, n, cc, vs, yb, yo, yc, a1, a2, a3, a4, a5, a6, a7, a8, a9, a10, a11⟩ := h2.row s (by omega)
      refine ⟨ao, n, cc, vs, yb, yo, yc, by rw [other s he]; exact a1, a2.chg gs (fun k hk => ?_), a3, a4, a5, a6, a7, a8, Nat.lt_of_lt_of_le a9 gs.size, a10.chg gs (fun k hk => ?_), a11⟩
      · simp
        intro e
        have := a4 k hk
        rw [e, h2.tm] at this
        omega
      · simp [blk] at hk
        rw [hk]
        simp
        intro e
        rw [e, h2.tm] at a8
        omega
/-- What a sector may be, once more. -/
theorem MayAt.next {w w4 w6 : World} {B : Nat} {tag : Nat → Nat} {mb N s : Nat} {T T' : List (List UInt8)} (h : MayAt w B tag mb N 16 T) (hs : s < 16) (g4 : Chg [] w w4) {ao ao' : Option Addr} {n c c' : Nat} {vs : List Value} {ap : Option Addr} {cp : Nat} {l : List UInt8}
    (hap : Room w4 w.heap.size ap 64 cp (bts l)) (hl : l.length = 64) 
    (hcell : w.cell? ⟨mb, s, none⟩ = some (.slice ao (n + 1) c)) (hr : Room w B ao (n + 1) c vs) (hn : n ≤ N) (htr : ∀ k, k ∈ fp ao c → tag k = 2 + s)
    (g6 : Chg (fp ao c) w4 w6) (hr6 : Room w6 B ao' (n + 2) c' (vs ++ [.slice ap 64 cp])) (hf : fp ao' c' = fp ao c ∨ ∃ k, w4.heap.size ≤ k ∧ fp ao' c' = [k])
    (hT : ∀ t, t < 16 → t ≠ s → T'.getD t [] = T.getD t []) (hTs : T'.getD s [] = l) :
    MayAt (w6.setCell ⟨mb, s, none⟩ (.slice ao' (n + 2) c')) B (fun k => if k < w.heap.size then tag k else if k ∈ fp ao' c' then 2 + s else 18) mb (N + 1) 16 T' ∧ Chg (mb :: fp ao c) w (w6.setCell ⟨mb, s, none⟩ (.slice ao' (n + 2) c')) := by
  obtain ⟨tag', htag'⟩ : ∃ tag' : Nat → Nat, tag' = fun k => if k < w.heap.size then tag k else if k ∈ fp ao' c' then 2 + s else 18 := ⟨_, rfl⟩
  rw [← htag']
  have ht : ∀ k, k < w.heap.size → tag' k = tag k := fun k hk => by rw [htag']; exact if_pos hk
  have hle := hap.le
  obtain ⟨xb, xo, rfl, hxB, _, _⟩ := hap.at_ (by omega)
  have hx4 : xb < w4.heap.size := (hap.lt xb (by rw [fp_some _ _ _ (by omega)]; simp)).2
  have s4 := g4.size
  have s6 := g6.size
  have g46 : Chg (fp ao c) w w6 := g4.trans g6 (by simp) (fun _ h _ => h)
  have hrl := fun k hk => (hr.lt k hk).2
  have hxn : xb ∉ fp ao' c' := fun hm => by
    rcases hf with hf | ⟨k, hk, hf⟩
    · rw [hf] at hm; have := hrl xb hm; omega
    · rw [hf] at hm; simp at hm; omega
  have hmn : mb ∉ fp ao c := fun hm => by have := htr mb hm; rw [h.tm] at this; omega
  have hmn' : mb ∉ fp ao' c' := fun hm => by
    rcases hf with hf | ⟨k, hk, hf⟩
    · rw [hf] at hm; exact hmn hm
    · rw [hf] at hm; simp at hm; have := h.lm; omega
  have gs : Chg [mb] w6 (w6.setCell ⟨mb, s, none⟩ (.slice ao' (n + 2) c')) := Chg.setCell w6 ⟨mb, s, none⟩ _
  have other : ∀ t, t ≠ s → (w6.setCell ⟨mb, s, none⟩ (.slice ao' (n + 2) c')).cell? ⟨mb, t, none⟩ = w6.cell? ⟨mb, t, none⟩ := fun t ht => World.cell?_setCell_other _ _ _ _ (by simp [ht])
  have hm6 : ∀ t u, w.cell? ⟨mb, t, none⟩ = some u → w6.cell? ⟨mb, t, none⟩ = some u := fun t u hu => g46.cellv hu hmn
  have gall : Chg (mb :: fp ao c) w (w6.setCell ⟨mb, s, none⟩ (.slice ao' (n + 2) c')) := g46.trans gs (fun k hk _ => by simp [hk]) (fun k hk _ => by simp at hk; simp [hk])
  refine ⟨⟨(ht mb h.lm).trans h.tm, Nat.lt_of_lt_of_le h.lm gall.size, h.bm, fun t htt => by rw [World.frozen?_setCell]; exact (g46.frozen (p := ⟨mb, t, none⟩) h.lm hmn).trans (h.fz t htt), fun t htt => ?_, fun t htt => ?_⟩, gall⟩
  · obtain ⟨u, hu⟩ := h.ex t htt
    by_cases he : t = s
    · subst he; exact ⟨_, World.cell?_setCell_same _ _ _ (hm6 t u hu)⟩
    · rw [other t he]; exact ⟨u, hm6 t u hu⟩
  · by_cases he : t = s
    · subst he
      have hvl := hr.len
      refine ⟨ao', n + 1, c', vs ++ [.slice (some ⟨xb, xo, none⟩) 64 cp], xb, xo, cp, World.cell?_setCell_same _ _ _ (hm6 t _ hcell), hr6.chg gs (fun k hk => by simp; rintro rfl; exact hmn' hk), by omega, fun k hk => ?_, by rw [List.getElem?_append_right (by omega), hvl, Nat.sub_self]; rfl, hle, hap.max, ?_, Nat.lt_of_lt_of_le hx4 (Nat.le_trans s6 gs.size), ?_, by rw [hTs]; exact hl⟩
      · by_cases hk2 : k < w.heap.size
        · rw [ht k hk2]
          rcases hf with hf | ⟨j, hj, hf⟩
          · rw [hf] at hk; exact htr k hk
          · rw [hf] at hk; simp at hk; omega
        · rw [htag']
          show (if k < w.heap.size then tag k else if k ∈ fp ao' c' then 2 + t else 18) = 2 + t
          rw [if_neg hk2, if_pos hk]
      · rw [htag']
        show (if xb < w.heap.size then tag xb else if xb ∈ fp ao' c' then 2 + t else 18) = 18
        rw [if_neg (by omega), if_neg hxn]
      · rw [hTs]
        refine (hap.reads.chg g6 (fun k hk hm => ?_)).chg gs (fun k hk => ?_)
        · simp [blk] at hk
          rw [hk] at hm
          have := hrl xb hm
          omega
        · simp [blk] at hk
          rw [hk]
          simp
          have := h.lm
          omega
    · rw [hT t htt he]
      have hrow := (h.row t htt).chg g46 (N' := N + 1) (Nat.le_succ _) h.tm (fun k hk _ => by have := htr k hk; omega) ht
      obtain ⟨yo, m, cc, ws, yb, yf, yc, a1, a2, a3, a4, a5, a6, a7, a8, a9, a10, a11⟩ := hrow
      have htm : tag' mb = 1 := (ht mb h.lm).trans h.tm
      refine ⟨yo, m, cc, ws, yb, yf, yc, by rw [other t he]; exact a1, a2.chg gs (fun k hk => ?_), a3, a4, a5, a6, a7, a8, Nat.lt_of_lt_of_le a9 gs.size, a10.chg gs (fun k hk => ?_), a11⟩
      · simp
        intro e
        have := a4 k hk
        rw [e, htm] at this
        omega
      · simp [blk] at hk
        rw [hk]
        simp
        intro e
        rw [e, htm] at a8
        omega
theorem laid_get (T : List (List UInt8)) (s : Nat) (l : List UInt8) (q t : Nat) (h : t ≠ s) : (laid T s l q).getD t [] = T.getD t [] := by
  unfold laid
  rw [List.getD_eq_getElem?_getD, List.getElem?_set_ne (by omega), ← List.getD_eq_getElem?_getD]
theorem laid_at (T : List (List UInt8)) (s : Nat) (l : List UInt8) (q : Nat) (h : s < T.length) : (laid T s l q).getD s [] = l.take q ++ (T.getD s []).drop q := by
  unfold laid
  rw [List.getD_eq_getElem?_getD, List.getElem?_set_self h]
  rfl
/-- The same, beside the disk and a block that is being written. -/
theorem next_all {w V w8 w9 : World} {tag : Nat → Nat} {db : Nat} {g : DG} {fa : Option Addr} {cf : Nat} {st : RS} {mb Nb N s n c c' c8 fb fo : Nat} {T : List (List UInt8)} {ao a8 a9 : Option Addr} {vs : List Value} {l Bk : List UInt8} {q : Nat}
    (hM : MayAt V w.heap.size tag mb Nb 16 T) (hO : OwnT w V tag db g fa cf st) (hs : s < 16) (hT : T.length = 16) (hl : l.length = 64) (hq : q ≤ 64) (h64 : (T.getD s []).length = 64) (g8 : Chg [] V w8) (hr8 : Room w8 V.heap.size a8 64 c8 (bts (l.take q) ++ bts ((T.getD s []).drop q)))
    (hN : N = n + 1) (hcell : V.cell? ⟨mb, s, none⟩ = some (.slice ao N c)) (hr : Room V w.heap.size ao N c vs) (hn : n ≤ Nb) (htr : ∀ k, k ∈ fp ao c → tag k = 2 + s)
    (g9 : Chg (fp ao c) w8 w9) (hr9 : Room w9 w.heap.size a9 (N + 1) c' (vs ++ [.slice a8 64 c8])) (hf : fp a9 c' = fp ao c ∨ ∃ k, w8.heap.size ≤ k ∧ fp a9 c' = [k])
    (htf : tag fb = 19) (hfb : fb < V.heap.size) (rB : Reads V (some ⟨fb, fo, none⟩) (bts Bk)) :
    ∃ tag', OwnT w (w9.setCell ⟨mb, s, none⟩ (.slice a9 (N + 1) c')) tag' db g fa cf st ∧ MayAt (w9.setCell ⟨mb, s, none⟩ (.slice a9 (N + 1) c')) w.heap.size tag' mb (Nb + 1) 16 (laid T s l q) ∧ tag' fb = 19 ∧ fb < (w9.setCell ⟨mb, s, none⟩ (.slice a9 (N + 1) c')).heap.size ∧ Reads (w9.setCell ⟨mb, s, none⟩ (.slice a9 (N + 1) c')) (some ⟨fb, fo, none⟩) (bts Bk) := by
  subst hN
  rw [← bts_append] at hr8
  obtain ⟨hMx, hgx⟩ := hM.next (T' := laid T s l q) hs g8 hr8 (by rw [List.length_append, List.length_take, List.length_drop, h64, hl]; omega) hcell hr hn htr g9 hr9 hf (fun t _ hts => laid_get T s l q t hts) (laid_at T s l q (by omega))
  have hne : ∀ k, k ∈ mb :: fp ao c → tag k = 1 ∨ tag k = 2 + s := fun k hk => by
    rcases List.mem_cons.1 hk with rfl | hk
    · exact Or.inl hM.tm
    · exact Or.inr (htr k hk)
  have hge : ∀ k, k ∈ mb :: fp ao c → w.heap.size ≤ k := fun k hk => by
    rcases List.mem_cons.1 hk with rfl | hk
    · exact hM.bm
    · exact (hr.lt k hk).1
  refine ⟨_, hO.chg hgx (fun k hk _ => ⟨by have := hne k hk; omega, hge k hk⟩) (fun k hk => if_pos hk), hMx, (if_pos hfb).trans htf, Nat.lt_of_lt_of_le hfb hgx.size, rB.chg hgx (fun k hk hm => ?_)⟩
  simp [blk] at hk
  rw [hk] at hm
  have := hne fb hm
  omega
end Go.Proofs.Ytinmhaffefgloaa
