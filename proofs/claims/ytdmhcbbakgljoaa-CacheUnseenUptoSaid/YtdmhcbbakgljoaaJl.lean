/- A cache as chapter 5 has it, and what the program's cache in memory is of it. -/
import Derived.Test.YtdmhcbbakgljoaaJk
namespace Go.Proofs.Ytdmhcbbakgljoaa
open Go.RowKit Go.Maps
set_option linter.unusedVariables false
set_option linter.unusedSimpArgs false
attribute [local go_sem ↓] Go.wp_at_zero Go.wp_at_succ

/-- A block that a cache holds. -/
structure KE where
  pl : Nat
  bs : List UInt8
  dirty : Bool
def absE (e : Ent) : KE := ⟨e.pl, e.bs, e.dirty⟩
def kfind (K : List KE) (a : Nat) : Option KE := K.find? (fun e => e.pl == a)
def kdrop (K : List KE) (a : Nat) : List KE := K.filter (fun e => e.pl != a)
def kwrote (h : KE) (st : RS) : Int × RS := if h.dirty then write st h.pl h.bs else (0, st)
/-- Room for a block that is not held: what is told; the cache, the disk behind it. -/
def kroom (n : Nat) (K : List KE) (st : RS) : Int × List KE × RS :=
  if K.length < n then (0, K, st) else match K with
  | [] => (0, [], st)
  | h :: T => if (kwrote h st).1 = 0 then (0, T, (kwrote h st).2) else ((kwrote h st).1, h :: T, (kwrote h st).2)
theorem kroom_room {n : Nat} {K : List KE} {st : RS} (h : K.length < n) : kroom n K st = (0, K, st) := by unfold kroom; rw [if_pos h]
theorem kroom_ok {n : Nat} {h : KE} {T : List KE} {st : RS} (hf : n ≤ (h :: T).length) (hv : (kwrote h st).1 = 0) : kroom n (h :: T) st = (0, T, (kwrote h st).2) := by unfold kroom; rw [if_neg (by omega)]; simp only [hv, if_true]
theorem kroom_no {n : Nat} {h : KE} {T : List KE} {st : RS} (hf : n ≤ (h :: T).length) (hv : (kwrote h st).1 ≠ 0) : kroom n (h :: T) st = ((kwrote h st).1, h :: T, (kwrote h st).2) := by unfold kroom; rw [if_neg (by omega)]; simp only [hv, if_false]
theorem kfind_none {K : List KE} {a : Nat} (h : kfind K a = none) : ∀ e ∈ K, e.pl ≠ a := fun e he => by
  have := List.find?_eq_none.1 h e he
  simpa using this
theorem kfind_some {K : List KE} {a : Nat} {x : KE} (h : kfind K a = some x) : x ∈ K ∧ x.pl = a := ⟨List.mem_of_find?_eq_some h, by have := List.find?_some h; simpa using this⟩
theorem pl_inj {L : List Ent} (h : (L.map Ent.pl).Nodup) {x y : Ent} (hx : x ∈ L) (hy : y ∈ L) (e : x.pl = y.pl) : x = y := by
  obtain ⟨i, hi, rfl⟩ := List.getElem_of_mem hx
  obtain ⟨j, hj, rfl⟩ := List.getElem_of_mem hy
  have := (List.getElem_inj (xs := L.map Ent.pl) (i := i) (j := j) (h₀ := by simpa using hi) (h₁ := by simpa using hj) h).1 (by simpa using e)
  subst this
  rfl
theorem abs_used {L : List Ent} (hb : (L.map Ent.b).Nodup) (hp : (L.map Ent.pl).Nodup) {x : Ent} (hx : x ∈ L) (u : Nat) : (used L x u).map absE = kdrop (L.map absE) x.pl ++ [absE x] := by
  unfold used kdrop
  rw [List.map_append, List.filter_map]
  congr 2
  refine List.filter_congr fun e he => ?_
  show (e.b != x.b) = (e.pl != x.pl)
  by_cases h : e = x
  · rw [h]; simp
  · have h1 : e.b ≠ x.b := fun h9 => h (b_inj hb he hx h9)
    have h2 : e.pl ≠ x.pl := fun h9 => h (pl_inj hp he hx h9)
    rw [bne_iff_ne.2 h1, bne_iff_ne.2 h2]
theorem abs_find {L : List Ent} {a : Nat} {h : KE} (hf : kfind (L.map absE) a = some h) : ∃ x ∈ L, absE x = h ∧ x.pl = a := by
  obtain ⟨h1, h2⟩ := kfind_some hf
  obtain ⟨x, hx, rfl⟩ := List.mem_map.1 h1
  exact ⟨x, hx, rfl, h2⟩
theorem CacheAt.spot {w : World} {B cb mb : Nat} {la : Option Addr} {cl : Nat} {E L : List Ent} {most uses db : Nat} (h : CacheAt w B cb mb la cl E L most uses db) {x : Ent} (hx : x ∈ L) : ∃ i, ∃ hi : i < E.length, E[i] = x := by
  obtain ⟨i, hi, e⟩ := List.getElem_of_mem (h.pm.mem_iff.2 hx)
  exact ⟨i, hi, e⟩
theorem CacheAt.bnd {w : World} {B cb mb : Nat} {la : Option Addr} {cl : Nat} {E L : List Ent} {most uses db : Nat} (h : CacheAt w B cb mb la cl E L most uses db) : (L.map Ent.b).Nodup := (h.pm.map _).nodup_iff.1 h.ln.nd
theorem CacheAt.mem {w : World} {B cb mb : Nat} {la : Option Addr} {cl : Nat} {E L : List Ent} {most uses db : Nat} (h : CacheAt w B cb mb la cl E L most uses db) {x : Ent} (hx : x ∈ L) : x.b ∈ CF cb mb la cl E ∧ x.bs.length = 256 := by
  have hE := h.pm.mem_iff.2 hx
  refine ⟨?_, h.ln.bl x hE⟩
  simp only [CF, LF, List.mem_cons, List.mem_append, List.mem_map]
  exact Or.inr (Or.inr (Or.inr ⟨x, hE, rfl⟩))

/-- The disk and the cache over it that a law holds, blocks R beside them. -/
structure Pair (w0 w : World) (R : Nat → Prop) (db : Nat) (g : DG) (fa : Option Addr) (cf : Nat) (st : RS) (cb mb : Nat) (la : Option Addr) (cl : Nat) (E L : List Ent) (most uses : Nat) : Prop where
  d : DevAt w w0.heap.size db g fa cf st
  k : CacheAt w w0.heap.size cb mb la cl E L most uses db
  u : ∀ e ∈ L, 0 < e.used
  c : Chg [] w0 w
  W : Whole st
  x : ∀ k, k ∈ CF cb mb la cl E → k ∉ DF db g fa cf
  r : ∀ k, R k → k ∉ CF cb mb la cl E ∧ k ∉ DF db g fa cf ∧ k < w.heap.size
/-- Nothing of R turned. -/
def Off (R : Nat → Prop) (w w' : World) : Prop := ∃ S, Chg S w w' ∧ ∀ k, k ∈ S → ¬ R k
theorem Off.keep {R : Nat → Prop} {w w' : World} (c : Chg [] w w') : Off R w w' := ⟨[], c, by simp⟩
theorem Off.trans {R : Nat → Prop} {a b c : World} (h : Off R a b) (g : Off R b c) : Off R a c := by
  obtain ⟨S, hS, h1⟩ := h
  obtain ⟨T, hT, h2⟩ := g
  exact ⟨S ++ T, hS.trans hT (fun k hk _ => List.mem_append_left _ hk) (fun k hk _ => List.mem_append_right _ hk), fun k hk => (List.mem_append.1 hk).elim (h1 k) (h2 k)⟩
theorem Off.less {R R' : Nat → Prop} {w w' : World} (h : Off R w w') (hR : ∀ k, R' k → R k) : Off R' w w' := by
  obtain ⟨S, hS, h1⟩ := h
  exact ⟨S, hS, fun k hk h9 => h1 k hk (hR k h9)⟩
theorem Pair.off {w0 w w' : World} {R : Nat → Prop} {db : Nat} {g : DG} {fa : Option Addr} {cf : Nat} {st : RS} {cb mb : Nat} {la : Option Addr} {cl : Nat} {E L : List Ent} {most uses : Nat} (h : Pair w0 w R db g fa cf st cb mb la cl E L most uses) (c : Chg (CF cb mb la cl E ++ DF db g fa cf) w w') : Off R w w' :=
  ⟨_, c, fun k hk h9 => (List.mem_append.1 hk).elim (h.r k h9).1 (h.r k h9).2.1⟩
/-- Both have gone on. -/
theorem Pair.go {w0 w w' : World} {R : Nat → Prop} {db : Nat} {g : DG} {fa fa' : Option Addr} {cf cf' : Nat} {st st' : RS} {cb mb : Nat} {la la' : Option Addr} {cl cl' : Nat} {E L E' L' : List Ent} {most uses uses' : Nat} (h : Pair w0 w R db g fa cf st cb mb la cl E L most uses)
    (d : DevAt w' w0.heap.size db g fa' cf' st') (k : CacheAt w' w0.heap.size cb mb la' cl' E' L' most uses' db) (u : ∀ e ∈ L', 0 < e.used) (c : Chg (CF cb mb la cl E ++ DF db g fa cf) w w') (W : Whole st') (x : ∀ k, k ∈ CF cb mb la' cl' E' → k ∉ DF db g fa' cf')
    (lc : ∀ k, k ∈ CF cb mb la' cl' E' → k ∈ CF cb mb la cl E ∨ w.heap.size ≤ k) (ld : ∀ k, k ∈ DF db g fa' cf' → k ∈ DF db g fa cf ∨ w.heap.size ≤ k) : Pair w0 w' R db g fa' cf' st' cb mb la' cl' E' L' most uses' :=
  ⟨d, k, u, h.c.trans c (by simp) (fun q hq hlt => by
    rcases List.mem_append.1 hq with h9 | h9
    · have := (h.k.lt q h9).1; omega
    · have := (h.d.lt q h9).1; omega), W, x, fun q hq => ⟨fun h9 => (lc q h9).elim (h.r q hq).1 (fun h8 => by have := (h.r q hq).2.2; omega), fun h9 => (ld q h9).elim (h.r q hq).2.1 (fun h8 => by have := (h.r q hq).2.2; omega), Nat.lt_of_lt_of_le (h.r q hq).2.2 c.size⟩⟩
theorem Pair.keep {w0 w w' : World} {R : Nat → Prop} {db : Nat} {g : DG} {fa : Option Addr} {cf : Nat} {st : RS} {cb mb : Nat} {la : Option Addr} {cl : Nat} {E L : List Ent} {most uses : Nat} (h : Pair w0 w R db g fa cf st cb mb la cl E L most uses) (c : Chg [] w w') : Pair w0 w' R db g fa cf st cb mb la cl E L most uses :=
  h.go (h.d.keep c) (h.k.keep c) h.u (c.mono (by simp)) h.W h.x (fun _ h => Or.inl h) (fun _ h => Or.inl h)
theorem Pair.add {w0 w w' : World} {R R' : Nat → Prop} {db : Nat} {g : DG} {fa : Option Addr} {cf : Nat} {st : RS} {cb mb : Nat} {la : Option Addr} {cl : Nat} {E L : List Ent} {most uses : Nat} (h : Pair w0 w R db g fa cf st cb mb la cl E L most uses) (c : Chg [] w w') (hR : ∀ k, R' k → R k ∨ (w.heap.size ≤ k ∧ k < w'.heap.size)) : Pair w0 w' R' db g fa cf st cb mb la cl E L most uses := by
  have h1 := h.keep c
  refine ⟨h1.d, h1.k, h1.u, h1.c, h1.W, h1.x, fun k hk => ?_⟩
  rcases hR k hk with h9 | ⟨h9, h8⟩
  · exact h1.r k h9
  · exact ⟨fun hm => by have := (h.k.lt k hm).2; omega, fun hm => by have := (h.d.lt k hm).2; omega, h8⟩
theorem Pair.less {w0 w : World} {R R' : Nat → Prop} {db : Nat} {g : DG} {fa : Option Addr} {cf : Nat} {st : RS} {cb mb : Nat} {la : Option Addr} {cl : Nat} {E L : List Ent} {most uses : Nat} (h : Pair w0 w R db g fa cf st cb mb la cl E L most uses) (hR : ∀ k, R' k → R k) : Pair w0 w R' db g fa cf st cb mb la cl E L most uses :=
  ⟨h.d, h.k, h.u, h.c, h.W, h.x, fun k hk => h.r k (hR k hk)⟩
/-- What a law writes beside them. -/
theorem Pair.chg {w0 w w' : World} {R : Nat → Prop} {db : Nat} {g : DG} {fa : Option Addr} {cf : Nat} {st : RS} {cb mb : Nat} {la : Option Addr} {cl : Nat} {E L : List Ent} {most uses : Nat} {S : List Nat} (h : Pair w0 w R db g fa cf st cb mb la cl E L most uses) (c : Chg S w w') (hS : ∀ k, k ∈ S → R k ∧ w0.heap.size ≤ k) : Pair w0 w' R db g fa cf st cb mb la cl E L most uses :=
  ⟨h.d.chg c (fun k hk hm => (h.r k (hS k hm).1).2.1 hk), h.k.chg c (fun k hk hm => (h.r k (hS k hm).1).1 hk), h.u, h.c.trans c (by simp) (fun k hk hlt => by have := (hS k hk).2; omega), h.W, h.x, fun k hk => ⟨(h.r k hk).1, (h.r k hk).2.1, Nat.lt_of_lt_of_le (h.r k hk).2.2 c.size⟩⟩
end Go.Proofs.Ytdmhcbbakgljoaa
