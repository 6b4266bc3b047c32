/- Texts Ta, X, Y, O, Ia, Tb of the library, joined. -/
import Derived.Test.YtdgkbicelnnfpaaGreatDoorM16
import Derived.Test.YtdgkbicelnnfpaaGreatDoorM01
import Derived.Test.YtdgkbicelnnfpaaGreatDoorM02
import Derived.Test.YtdgkbicelnnfpaaGreatDoorM15
import Derived.Test.YtdgkbicelnnfpaaGreatDoorM17
import Derived.Test.YtdgkbicelnnfpaaGreatDoorM14
import Derived.Test.YtdgkbicelnnfpaaGreatDoorM13
import Derived.Test.YtdgkbicelnnfpaaGreatDoorM09
import Derived.OrdersHeld
import Derived.StillTail
import Derived.Tactics
import Derived.WalkKit
import Derived.Deep.QuietTactic
import Derived.BigQuiet
import Derived.RegionTactic
import Derived.Deep.RegionHeld3
import Derived.Deep.RegionLaw
import Derived.Deep.DeepCutAuto
import Derived.Deep.CutBlock
import Derived.Deep.DrawnRows
import Derived.WalkSpells
import Derived.WalkLawsBesides
/- A shelf in memory: Refs (tag 1), cache and disk (tag 2); all other blocks are left alone. -/
namespace Go.Proofs.YtdgkbicelnnfpaaGreatDoor
open Go.RowKit Go.Maps
set_option linter.unusedVariables false
set_option linter.unusedSimpArgs false
attribute [local go_sem ↓] Go.wp_at_zero Go.wp_at_succ

/-- Only blocks of the tags 1 and 2 have turned; old blocks keep their tags, new ones are as they are told. -/
structure Mv (tag tag' : Nat → Nat) (w w' : World) : Prop where
  c : ∃ S, Chg S w w' ∧ ∀ k, k ∈ S → tag k = 1 ∨ tag k = 2
  o : ∀ k, k < w.heap.size → tag' k = tag k
  d : ∀ k, w'.heap.size ≤ k → tag' k = 4
theorem Mv.size {tag tag' : Nat → Nat} {w w' : World} (h : Mv tag tag' w w') : w.heap.size ≤ w'.heap.size := by
  obtain ⟨S, hS, -⟩ := h.c
  exact hS.size
theorem Mv.trans {t t' t'' : Nat → Nat} {a b c : World} (h : Mv t t' a b) (g : Mv t' t'' b c) : Mv t t'' a c := by
  obtain ⟨S, hS, h1⟩ := h.c
  obtain ⟨T, hT, g1⟩ := g.c
  refine ⟨⟨S ++ T.filter (fun k => decide (k < a.heap.size)), hS.trans hT (fun k hk _ => List.mem_append_left _ hk) (fun k hk hlt => List.mem_append_right _ (List.mem_filter.2 ⟨hk, by simpa using hlt⟩)), fun k hk => ?_⟩, fun k hk => (g.o k (Nat.lt_of_lt_of_le hk hS.size)).trans (h.o k hk), g.d⟩
  rcases List.mem_append.1 hk with h9 | h9
  · exact h1 k h9
  · obtain ⟨h8, h7⟩ := List.mem_filter.1 h9
    rw [← h.o k (by simpa using h7)]
    exact g1 k h8
/-- Memory was made, nothing turned. -/
theorem Mv.made {tag : Nat → Nat} {w w' : World} (c : Chg [] w w') (d : ∀ k, w.heap.size ≤ k → tag k = 4) : Mv tag tag w w' :=
  ⟨⟨[], c, by simp⟩, fun _ _ => rfl, fun k hk => d k (Nat.le_trans c.size hk)⟩
theorem Mv.then {t t' : Nat → Nat} {a b c : World} (h : Mv t t' a b) (g : Chg [] b c) : Mv t t' a c := h.trans (Mv.made g h.d)
/-- What is no part of a shelf. -/
def Kt (tag : Nat → Nat) (k : Nat) : Prop := tag k ≠ 1 ∧ tag k ≠ 2
theorem Mv.cellv {tag tag' : Nat → Nat} {w w' : World} (m : Mv tag tag' w w') {p : Addr} {v : Value} (h : w.cell? p = some v) (hp : Kt tag p.block) : w'.cell? p = some v := by
  obtain ⟨S, hS, h1⟩ := m.c
  exact hS.cellv h (fun hm => (h1 _ hm).elim hp.1 hp.2)
theorem Mv.reads {tag tag' : Nat → Nat} {w w' : World} (m : Mv tag tag' w w') {ao : Option Addr} {xs : List Value} (h : Reads w ao xs) (hp : 0 < xs.length → ∀ k, k ∈ blk ao → Kt tag k) : Reads w' ao xs := by
  obtain ⟨S, hS, h1⟩ := m.c
  exact h.chg0 hS (fun hx k hk hm => (h1 _ hm).elim (hp hx k hk).1 (hp hx k hk).2)
theorem Mv.room {tag tag' : Nat → Nat} {w w' : World} (m : Mv tag tag' w w') {B : Nat} {ao : Option Addr} {n c : Nat} {xs : List Value} (h : Room w B ao n c xs) (hp : ∀ k, k ∈ fp ao c → Kt tag k) : Room w' B ao n c xs := by
  obtain ⟨S, hS, h1⟩ := m.c
  exact h.chg hS (fun k hk hm => (h1 _ hm).elim (hp k hk).1 (hp k hk).2)
theorem reads_ltT {w : World} {ao : Option Addr} {xs : List Value} (h : Reads w ao xs) (hx : 0 < xs.length) : ∀ k, k ∈ blk ao → k < w.heap.size := by
  intro k hk
  obtain ⟨b, o, rfl, hc⟩ := h hx
  obtain ⟨x, hx0⟩ : ∃ x, xs[0]? = some x := ⟨xs[0], by rw [List.getElem?_eq_getElem hx]⟩
  have := hc 0 x hx0
  simp [blk] at hk
  subst hk
  exact block_lt_of_cell this

/-- A cache over its disk, both of the tag 2: which bytes each block has; u: so many calls at most. -/
def HasK (w0 w : World) (tag : Nat → Nat) (cb n : Nat) (Y : Nat → List UInt8) (u : Nat) : Prop :=
  ∃ db g fa cf st mb la cl E L most uses, Pair w0 w (fun k => k < w.heap.size ∧ tag k ≠ 2) db g fa cf st cb mb la cl E L most uses ∧ Good n (L.map absE) st ∧ 1 ≤ most ∧ L.length ≤ most ∧ uses ≤ u ∧ st.L.length ≤ 4 * u ∧ (∀ a, a < n → kval (L.map absE) st a = Y a) ∧ ∀ a, a < n → (Y a).length = 256
structure Low (w0 w : World) (tag : Nat → Nat) : Prop where
  lo : ∀ k, k < w0.heap.size → tag k = 0 ∨ tag k = 5
  hi : ∀ k, w.heap.size ≤ k → tag k = 4
theorem Low.keep {w0 w w' : World} {tag : Nat → Nat} (h : Low w0 w tag) (c : Chg [] w w') : Low w0 w' tag := ⟨h.lo, fun k hk => h.hi k (Nat.le_trans c.size hk)⟩
theorem HasK.keep {w0 w w' : World} {tag : Nat → Nat} {cb n : Nat} {Y : Nat → List UInt8} {u : Nat} (h : HasK w0 w tag cb n Y u) (c : Chg [] w w') : HasK w0 w' tag cb n Y u := by
  obtain ⟨db, g, fa, cf, st, mb, la, cl, E, L, most, uses, hp, hr⟩ := h
  refine ⟨db, g, fa, cf, st, mb, la, cl, E, L, most, uses, hp.add c (fun k hk => ?_), hr⟩
  by_cases h9 : k < w.heap.size
  · exact Or.inl ⟨h9, hk.2⟩
  · exact Or.inr ⟨by omega, hk.1⟩
theorem HasK.size {w0 w : World} {tag : Nat → Nat} {cb n : Nat} {Y : Nat → List UInt8} {u : Nat} (h : HasK w0 w tag cb n Y u) : Chg [] w0 w := by
  obtain ⟨db, g, fa, cf, st, mb, la, cl, E, L, most, uses, hp, hr⟩ := h
  exact hp.c
theorem HasK.mono {w0 w : World} {tag : Nat → Nat} {cb n : Nat} {Y : Nat → List UInt8} {u u' : Nat} (h : HasK w0 w tag cb n Y u) (hu : u ≤ u') : HasK w0 w tag cb n Y u' := by
  obtain ⟨db, g, fa, cf, st, mb, la, cl, E, L, most, uses, h1, h2, h3, h4, h5, h6, h7⟩ := h
  exact ⟨db, g, fa, cf, st, mb, la, cl, E, L, most, uses, h1, h2, h3, h4, by omega, by omega, h7⟩
/-- The cache behind a call that turned nothing of tag 2. -/
theorem HasK.stay {w0 w w' : World} {tag tag' : Nat → Nat} {cb n : Nat} {Y : Nat → List UInt8} {u : Nat} (h : HasK w0 w tag cb n Y u) {S : List Nat} (c : Chg S w w') (hS : ∀ k, k ∈ S → tag k ≠ 2 ∧ w0.heap.size ≤ k ∧ k < w.heap.size) (ho : ∀ k, k < w.heap.size → tag' k = tag k) : HasK w0 w' tag' cb n Y u := by
  obtain ⟨db, g, fa, cf, st, mb, la, cl, E, L, most, uses, hp, hr⟩ := h
  have h1 := hp.chg c (fun k hk => ⟨⟨(hS k hk).2.2, (hS k hk).1⟩, (hS k hk).2.1⟩)
  refine ⟨db, g, fa, cf, st, mb, la, cl, E, L, most, uses, ⟨h1.d, h1.k, h1.u, h1.c, h1.W, h1.x, fun k hk => ?_⟩, hr⟩
  by_cases h9 : k < w.heap.size
  · rw [ho k h9] at hk
    exact h1.r k ⟨h9, hk.2⟩
  · exact ⟨fun hm => by have := (hp.k.lt k hm).2; omega, fun hm => by have := (hp.d.lt k hm).2; omega, hk.1⟩
/-- The tags behind a call of the cache. -/
theorem retag {w0 w w' : World} {tag : Nat → Nat} {R' : Nat → Prop} {db : Nat} {g : DG} {fa : Option Addr} {cf : Nat} {st : RS} {cb mb : Nat} {la : Option Addr} {cl : Nat} {E L : List Ent} {most uses : Nat} (hl : Low w0 w tag)
    (hp : Pair w0 w' R' db g fa cf st cb mb la cl E L most uses) (hR : ∀ k, k < w.heap.size → tag k ≠ 2 → R' k) (o : Off (fun k => k < w.heap.size ∧ tag k ≠ 2) w w') :
    ∃ tag', Pair w0 w' (fun k => k < w'.heap.size ∧ tag' k ≠ 2) db g fa cf st cb mb la cl E L most uses ∧ Mv tag tag' w w' ∧ Low w0 w' tag' ∧ Turn w0.heap.size tag tag' 2 w w' ∧ ∀ k, w.heap.size ≤ k → R' k → tag' k = 4 := by
  obtain ⟨S, hS, h1⟩ := o
  have hc : Chg (S.filter (fun k => decide (k < w.heap.size))) w w' := hS.mono (fun k hk hlt => List.mem_filter.2 ⟨hk, by simpa using hlt⟩)
  have h2 : ∀ k, k ∈ S.filter (fun k => decide (k < w.heap.size)) → tag k = 2 := by
    intro k hk
    obtain ⟨h8, h7⟩ := List.mem_filter.1 hk
    by_cases h9 : tag k = 2
    · exact h9
    · exact absurd ⟨by simpa using h7, h9⟩ (h1 k h8)
  refine ⟨fun k => if k < w.heap.size then tag k else if k ∈ CF cb mb la cl E ++ DF db g fa cf then 2 else 4, ⟨hp.d, hp.k, hp.u, hp.c, hp.W, hp.x, fun k hk => ?_⟩, ⟨⟨_, hc, fun k hk => Or.inr (h2 k hk)⟩, fun k hk => if_pos hk, fun k hk => ?_⟩, ⟨fun k hk => ?_, fun k hk => ?_⟩, ⟨⟨_, hc, fun k hk => ⟨h2 k hk, ?_⟩⟩, fun k hk => if_pos hk⟩, fun k hk hRk => ?_⟩
  · obtain ⟨ha, hb⟩ := hk
    by_cases h9 : k < w.heap.size
    · dsimp only at hb; rw [if_pos h9] at hb
      exact hp.r k (hR k h9 hb)
    · dsimp only at hb; rw [if_neg h9] at hb
      by_cases h8 : k ∈ CF cb mb la cl E ++ DF db g fa cf
      · rw [if_pos h8] at hb; exact absurd rfl hb
      · exact ⟨fun hm => h8 (List.mem_append_left _ hm), fun hm => h8 (List.mem_append_right _ hm), ha⟩
  · have h9 : ¬ k < w.heap.size := by have := hS.size; omega
    rw [if_neg h9, if_neg]
    intro hm
    rcases List.mem_append.1 hm with hm | hm
    · have := (hp.k.lt k hm).2; omega
    · have := (hp.d.lt k hm).2; omega
  · by_cases h9 : k < w.heap.size
    · rw [if_pos h9]; exact hl.lo k hk
    · rw [if_neg h9, if_neg]
      · have := hl.hi k (by omega); have := hl.lo k hk; omega
      · intro hm
        rcases List.mem_append.1 hm with hm | hm
        · have := (hp.k.lt k hm).1; omega
        · have := (hp.d.lt k hm).1; omega
  · have h9 : ¬ k < w.heap.size := by have := hS.size; omega
    rw [if_neg h9, if_neg]
    intro hm
    rcases List.mem_append.1 hm with hm | hm
    · have := (hp.k.lt k hm).2; omega
    · have := (hp.d.lt k hm).2; omega
  · by_cases h9 : w0.heap.size ≤ k
    · exact h9
    · have := hl.lo k (by omega); have := h2 k hk; omega
  · dsimp only
    rw [if_neg (by omega), if_neg]
    intro hm
    rcases List.mem_append.1 hm with hm | hm
    · exact (hp.r k hRk).1 hm
    · exact (hp.r k hRk).2.1 hm
section
variable {w0 w : World} {tag : Nat → Nat} {cb n : Nat} {Y : Nat → List UInt8} {u : Nat} (h : HasK w0 w tag cb n Y u) (hl : Low w0 w tag)
include h hl
theorem k_get (a : Nat) (ha : a < n) (hu : u ≤ 100000000) : Calls Tryz.prog 50 #[.pointer (some ⟨cb, 0, none⟩), .int .i64 (a : Int)] w fun e w' => ∃ ao c, e = .returned (.tuple #[.slice ao 256 c, .int .i64 0]) ∧ Room w' w.heap.size ao 256 c (bts (Y a)) ∧ ∃ tag', HasK w0 w' tag' cb n Y (u + 1) ∧ Low w0 w' tag' ∧ Turn w0.heap.size tag tag' 2 w w' ∧ Mv tag tag' w w' ∧ ∀ k, k ∈ fp ao c → tag' k = 4 := by
  obtain ⟨db, g, fa, cf, st, mb, la, cl, E, L, most, uses, hp, hg, hm, hL, hus, hst, hv, hy⟩ := h
  have hrl : (reads st a 4).length = 256 := by
    have hW := hp.W
    have hc := hg.c
    exact reads_len st a 4 (by have := hW.1; omega) hp.d.lS (fun f hf => (hp.d.lL f hf).1)
  obtain ⟨K', st', e1, hg', hl', hv', hst'⟩ := hg.get most hm (by simpa using hL) ha hrl
  refine (pair_get w0 w _ db g fa cf st cb mb la cl E L most uses hp _ K' 0 a 256 _ st' rfl e1 (by omega) (by omega) (by rw [hv a ha]; exact hy a ha)).mono ?_
  rintro e w' ⟨ao, c, rfl, hr, fa', cf', la', cl', E', L', uses', hp', hLK, hu', ho⟩
  obtain ⟨tag', t1, t2, t3, t4, t5⟩ := retag hl hp' (fun k h1 h2 => Or.inl ⟨h1, h2⟩) ho
  rw [hv a ha] at hr
  refine ⟨ao, c, rfl, hr, tag', ⟨db, g, fa', cf', st', mb, la', cl', E', L', most, uses', t1, by rw [hLK]; exact hg', hm, by rw [← List.length_map (f := absE), hLK]; exact hl', by omega, by omega, fun x hx => by rw [hLK, hv']; exact hv x hx, hy⟩, t3, t4, t2, fun k hk => t5 k (hr.lt k hk).1 (Or.inr hk)⟩
theorem k_put (a : Nat) (ha : a < n) (hu : u ≤ 100000000) (ab : Option Addr) (c : Nat) (b : List UInt8) (hb : b.length = 256) (gb : Reads w ab (bts b)) (hab : ∀ k, k ∈ blk ab → k < w.heap.size ∧ tag k ≠ 2) : Calls Tryz.prog 49 #[.pointer (some ⟨cb, 0, none⟩), .int .i64 (a : Int), .slice ab 256 c] w fun e w' => e = .returned (.int .i64 0) ∧ ∃ tag', HasK w0 w' tag' cb n (fun x => if x = a then b else Y x) (u + 1) ∧ Low w0 w' tag' ∧ Turn w0.heap.size tag tag' 2 w w' ∧ Mv tag tag' w w' := by
  obtain ⟨db, g, fa, cf, st, mb, la, cl, E, L, most, uses, hp, hg, hm, hL, hus, hst, hv, hy⟩ := h
  obtain ⟨K', st', e1, hg', hl', hv', hst'⟩ := hg.put most hm (by simpa using hL) ha hb
  refine (pair_put w0 w _ db g fa cf st cb mb la cl E L most uses hp _ K' 0 a ab 256 c b st' rfl e1 (by omega) (by omega) gb hb (fun k hk => Or.inl (hab k hk))).mono ?_
  rintro e w' ⟨rfl, fa', cf', la', cl', E', L', uses', hp', hLK, hu', ho⟩
  obtain ⟨tag', t1, t2, t3, t4, t5⟩ := retag hl hp' (fun k h1 h2 => ⟨h1, h2⟩) ho
  refine ⟨rfl, tag', ⟨db, g, fa', cf', st', mb, la', cl', E', L', most, uses', t1, by rw [hLK]; exact hg', hm, by rw [← List.length_map (f := absE), hLK]; exact hl', by omega, by omega, fun x hx => ?_, fun x hx => ?_⟩, t3, t4, t2⟩
  · rw [hLK, hv']
    dsimp only
    by_cases e : x = a
    · rw [if_pos e, if_pos e]
    · rw [if_neg e, if_neg e]; exact hv x hx
  · dsimp only
    by_cases e : x = a
    · rw [if_pos e]; exact hb
    · rw [if_neg e]; exact hy x hx
/-- At no block of the disk. -/
theorem k_get_no (z : Int) (hz : z < 0 ∨ (n : Int) ≤ z) (hu : u ≤ 100000000) : Calls Tryz.prog 50 #[.pointer (some ⟨cb, 0, none⟩), .int .i64 z] w fun e w' => ∃ ao c, e = .returned (.tuple #[.slice ao 0 c, .int .i64 6]) ∧ ∃ tag', HasK w0 w' tag' cb n Y (u + 1) ∧ Low w0 w' tag' ∧ Turn w0.heap.size tag tag' 2 w w' ∧ Mv tag tag' w w' := by
  obtain ⟨db, g, fa, cf, st, mb, la, cl, E, L, most, uses, hp, hg, hm, hL, hus, hst, hv, hy⟩ := h
  have hw : whyN st z = 6 := by
    unfold whyN
    have h1 := hg.g
    have h2 := hg.l
    have h3 := hg.c
    simp only [h1, h3]
    split <;> simp_all <;> omega
  have e1 : kget most (L.map absE) st z = (6, [], L.map absE, st) := by unfold kget; rw [hw]; rfl
  refine (pair_get w0 w _ db g fa cf st cb mb la cl E L most uses hp _ _ 6 z 0 _ st rfl e1 (by omega) (by omega) rfl).mono ?_
  rintro e w' ⟨ao, c, rfl, hr, fa', cf', la', cl', E', L', uses', hp', hLK, hu', ho⟩
  obtain ⟨tag', t1, t2, t3, t4, t5⟩ := retag hl hp' (fun k h1 h2 => Or.inl ⟨h1, h2⟩) ho
  exact ⟨ao, c, rfl, tag', ⟨db, g, fa', cf', st, mb, la', cl', E', L', most, uses', t1, by rw [hLK]; exact hg, hm, by rw [← List.length_map (f := absE), hLK, List.length_map]; exact hL, by omega, by omega, fun x hx => by rw [hLK]; exact hv x hx, hy⟩, t3, t4, t2⟩
theorem k_put_no (z : Int) (hz : z < 0 ∨ (n : Int) ≤ z) (hu : u ≤ 100000000) (ab : Option Addr) (c : Nat) (b : List UInt8) (hb : b.length = 256) (gb : Reads w ab (bts b)) (hab : ∀ k, k ∈ blk ab → k < w.heap.size ∧ tag k ≠ 2) : Calls Tryz.prog 49 #[.pointer (some ⟨cb, 0, none⟩), .int .i64 z, .slice ab 256 c] w fun e w' => e = .returned (.int .i64 6) ∧ ∃ tag', HasK w0 w' tag' cb n Y (u + 1) ∧ Low w0 w' tag' ∧ Turn w0.heap.size tag tag' 2 w w' ∧ Mv tag tag' w w' := by
  obtain ⟨db, g, fa, cf, st, mb, la, cl, E, L, most, uses, hp, hg, hm, hL, hus, hst, hv, hy⟩ := h
  have hw : whyN st z = 6 := by
    unfold whyN
    have h1 := hg.g
    have h2 := hg.l
    have h3 := hg.c
    simp only [h1, h3]
    split <;> simp_all <;> omega
  have e1 : kput most (L.map absE) st z b = (6, L.map absE, st) := by unfold kput; rw [hw]; rfl
  refine (pair_put w0 w _ db g fa cf st cb mb la cl E L most uses hp _ _ 6 z ab 256 c b st rfl e1 (by omega) (by omega) gb hb (fun k hk => Or.inl (hab k hk))).mono ?_
  rintro e w' ⟨rfl, fa', cf', la', cl', E', L', uses', hp', hLK, hu', ho⟩
  obtain ⟨tag', t1, t2, t3, t4, t5⟩ := retag hl hp' (fun k h1 h2 => ⟨h1, h2⟩) ho
  exact ⟨rfl, tag', ⟨db, g, fa', cf', st, mb, la', cl', E', L', most, uses', t1, by rw [hLK]; exact hg, hm, by rw [← List.length_map (f := absE), hLK, List.length_map]; exact hL, by omega, by omega, fun x hx => by rw [hLK]; exact hv x hx, hy⟩, t3, t4, t2⟩
end

/-- A shelf in block sb, its Refs in block rb: counts N, those of the commit C, each block's bytes Y. -/
structure HasF (w0 w : World) (tag : Nat → Nat) (sb rb n : Nat) (N C : List UInt8) (Y : Nat → List UInt8) (u : Nat) : Prop where
  r : HasR w0.heap.size w tag 1 rb n N C
  k : ∃ cb, HasK w0 w tag cb n Y u ∧ w.cell? ⟨sb, 1, none⟩ = some (.pointer (some ⟨cb, 0, none⟩))
  s0 : w.cell? ⟨sb, 0, none⟩ = some (.pointer (some ⟨rb, 0, none⟩))
  ts : tag sb = 3
  l : Low w0 w tag
section
variable {w0 w w' : World} {tag tag' : Nat → Nat} {sb rb n : Nat} {N C : List UInt8} {Y : Nat → List UInt8} {u : Nat}
theorem HasF.chg (h : HasF w0 w tag sb rb n N C Y u) : Chg [] w0 w := by
  obtain ⟨cb, hk, -⟩ := h.k
  exact hk.size
theorem HasF.mono (h : HasF w0 w tag sb rb n N C Y u) {u' : Nat} (hu : u ≤ u') : HasF w0 w tag sb rb n N C Y u' := by
  obtain ⟨cb, hk, h1⟩ := h.k
  exact ⟨h.r, ⟨cb, hk.mono hu, h1⟩, h.s0, h.ts, h.l⟩
theorem HasF.keep (h : HasF w0 w tag sb rb n N C Y u) (c : Chg [] w w') : HasF w0 w' tag sb rb n N C Y u := by
  obtain ⟨cb, hk, h1⟩ := h.k
  exact ⟨h.r.still (Still.of c), ⟨cb, hk.keep c, c.cellv h1 (by simp)⟩, c.cellv h.s0 (by simp), h.ts, h.l.keep c⟩
/-- What a caller writes beside it. -/
theorem HasF.wrote (h : HasF w0 w tag sb rb n N C Y u) {S : List Nat} (c : Chg S w w') (hS : ∀ k, k ∈ S → tag k = 4) : HasF w0 w' tag sb rb n N C Y u := by
  obtain ⟨cb, hk, h1⟩ := h.k
  obtain ⟨nb, c2, sp, Fs, r1, r2⟩ := h.r
  have hc : Chg (S.filter (fun k => decide (k < w.heap.size))) w w' := c.mono (fun k hk hlt => List.mem_filter.2 ⟨hk, by simpa using hlt⟩)
  have h2 : ∀ k, k ∈ S.filter (fun k => decide (k < w.heap.size)) → tag k ≠ 2 ∧ w0.heap.size ≤ k ∧ k < w.heap.size := by
    intro k hk
    obtain ⟨h8, h7⟩ := List.mem_filter.1 hk
    have h6 := hS k h8
    refine ⟨by omega, ?_, by simpa using h7⟩
    by_cases h9 : w0.heap.size ≤ k
    · exact h9
    · have := h.l.lo k (by omega); omega
  have hsb : sb ∉ S := fun hm => by have := hS sb hm; have := h.ts; omega
  refine ⟨⟨nb, c2, sp, Fs, r1.chg c (fun k hk hm => by have := hS k hm; have := r2 k hk; omega), r2⟩, ⟨cb, hk.stay hc h2 (fun _ _ => rfl), c.cellv h1 hsb⟩, c.cellv h.s0 hsb, h.ts, h.l.lo, fun k hk => h.l.hi k (Nat.le_trans c.size hk)⟩
theorem HasF.set (h : HasF w0 w tag sb rb n N C Y u) {b i : Nat} {v : Value} (hb : tag b = 4) : HasF w0 (w.setCell ⟨b, i, none⟩ v) tag sb rb n N C Y u :=
  h.wrote (Chg.setCell w ⟨b, i, none⟩ v) (fun k hk => by simp at hk; subst hk; exact hb)
theorem Mv.wrote {a b c : World} (h : Mv tag tag' a b) {S : List Nat} (g : Chg S b c) (hS : ∀ k, k ∈ S → a.heap.size ≤ k) : Mv tag tag' a c := by
  obtain ⟨T, hT, h1⟩ := h.c
  exact ⟨⟨T, hT.trans g (fun _ hk _ => hk) (fun k hk hlt => by have := hS k hk; omega), h1⟩, h.o, fun k hk => h.d k (Nat.le_trans g.size hk)⟩
theorem Mv.four {a b : World} (m : Mv tag tag' a b) {k : Nat} (h : tag k = 4) (hk : k < a.heap.size) : tag' k = 4 := by
  rw [m.o k hk]; exact h
theorem kt4 {k : Nat} (h : tag k = 4) : Kt tag k := ⟨by omega, by omega⟩
/-- A call of the Refs. -/
theorem HasF.refs (h : HasF w0 w tag sb rb n N C Y u) {f : Nat} {args : Array Value} {post : Ending → Prop} {N' C' : List UInt8}
    (hc : Calls Tryz.prog f args w fun e w' => post e ∧ ∃ tag', HasR w0.heap.size w' tag' 1 rb n N' C' ∧ Turn w0.heap.size tag tag' 1 w w') :
    Calls Tryz.prog f args w fun e w' => post e ∧ ∃ tag', HasF w0 w' tag' sb rb n N' C' Y u ∧ Mv tag tag' w w' := by
  refine hc.mono ?_
  rintro e w' ⟨hp, tag', ⟨nb, c2, sp, Fs, r1, r2⟩, ⟨S, hS, t1⟩, t2⟩
  obtain ⟨cb, hk, h1⟩ := h.k
  have hS' : Chg (S.filter (fun k => decide (k < w.heap.size))) w w' := hS.mono (fun k hk hlt => List.mem_filter.2 ⟨hk, by simpa using hlt⟩)
  have hm : ∀ k, k ∈ S.filter (fun k => decide (k < w.heap.size)) → tag k = 1 ∧ w0.heap.size ≤ k ∧ k < w.heap.size := fun k hk => by
    obtain ⟨h8, h7⟩ := List.mem_filter.1 hk
    exact ⟨(t1 k h8).1, (t1 k h8).2, by simpa using h7⟩
  have hsb : sb ∉ S := fun hm => by have := (t1 sb hm).1; have := h.ts; omega
  have hsz : sb < w.heap.size := block_lt_of_cell h.s0
  have ho : ∀ k, k < w.heap.size → (fun k => if k < w'.heap.size then tag' k else 4) k = tag k := fun k hk => by
    dsimp only
    rw [if_pos (Nat.lt_of_lt_of_le hk hS.size)]
    exact t2 k hk
  refine ⟨hp, fun k => if k < w'.heap.size then tag' k else 4, ⟨⟨nb, c2, sp, Fs, r1, fun k hk => ?_⟩, ⟨cb, hk.stay hS' (fun k hk => ⟨by rw [(hm k hk).1]; decide, (hm k hk).2⟩) ho, hS.cellv h1 hsb⟩, hS.cellv h.s0 hsb, (ho sb hsz).trans h.ts, ⟨fun k hk => ?_, fun k hk => if_neg (by omega)⟩⟩, ⟨⟨_, hS', fun k hk => Or.inl (hm k hk).1⟩, ho, fun k hk => if_neg (by omega)⟩⟩
  · dsimp only
    rw [if_pos (r1.lt k hk).2]
    exact r2 k hk
  · have hw := h.chg.size
    have h9 : (if k < w'.heap.size then tag' k else 4) = tag k := ho k (by omega)
    rw [h9]; exact h.l.lo k hk
/-- A call of the cache. -/
theorem HasF.cache (h : HasF w0 w tag sb rb n N C Y u) {cb : Nat} {Y' : Nat → List UInt8} {u' : Nat} (hk : HasK w0 w' tag' cb n Y' u') (hl : Low w0 w' tag') (t : Turn w0.heap.size tag tag' 2 w w') (hc : w.cell? ⟨sb, 1, none⟩ = some (.pointer (some ⟨cb, 0, none⟩))) : HasF w0 w' tag' sb rb n N C Y' u' := by
  have hsz : sb < w.heap.size := block_lt_of_cell h.s0
  have h1 := t.cellv hc h.ts (by decide)
  have h2 := t.cellv h.s0 h.ts (by decide)
  exact ⟨h.r.stay t (by decide), ⟨cb, hk, h1.1⟩, h2.1, h2.2, hl⟩
end
section
variable {w0 w : World} {tag : Nat → Nat} {sb rb n : Nat} {N C : List UInt8} {Y : Nat → List UInt8} {u : Nat} (h : HasF w0 w tag sb rb n N C Y u)
include h
theorem f_alloc : Calls Tryz.prog 22 #[.pointer (some ⟨rb, 0, none⟩)] w fun e w' => e = .returned (.tuple #[.int .i64 (allocN N C).1, .int .i64 (allocN N C).2.1]) ∧ ∃ tag', HasF w0 w' tag' sb rb n (allocN N C).2.2 C Y u ∧ Mv tag tag' w w' := h.refs (r_alloc h.r)
theorem f_inc (z : Int) : Calls Tryz.prog 27 #[.pointer (some ⟨rb, 0, none⟩), .int .i64 z] w fun e w' => e = .returned (.int .i64 (incN N z).1) ∧ ∃ tag', HasF w0 w' tag' sb rb n (incN N z).2 C Y u ∧ Mv tag tag' w w' := h.refs (r_inc h.r z)
theorem f_dec (z : Int) : Calls Tryz.prog 24 #[.pointer (some ⟨rb, 0, none⟩), .int .i64 z] w fun e w' => e = .returned (.tuple #[.bool (decN N z).1, .int .i64 (decN N z).2.1]) ∧ ∃ tag', HasF w0 w' tag' sb rb n (decN N z).2.2 C Y u ∧ Mv tag tag' w w' := h.refs (r_dec h.r z)
end
end Go.Proofs.YtdgkbicelnnfpaaGreatDoor

/- append(s, make([]T, m)...) where there is no room. No program is named here. -/
namespace Go.Proofs.YtdgkbicelnnfpaaGreatDoor
open Go.RowKit
set_option linter.unusedVariables false
set_option linter.unusedSimpArgs false

theorem zeroCells_one (z : Value) (m : Nat) : (Builtin.zeroCells #[z] m).toList = List.replicate m z := by
  simp [Builtin.zeroCells]
  apply List.ext_getElem
  · simp
  · intro i h1 h2
    simp [Nat.mod_one]
section
variable {P : Program} (w : World)
theorem run_append_zeros (t tn ty e : TypeId) (bytes : Nat) (helt : Elt P t e bytes) (z : Value) (hz0 : (P.info? e).map (·.zero) = some (some z)) (hzc : z.cells = #[z]) (kn k : IntKind) (htn : P.underlying tn = some (.int kn))
    (B : Nat) (ao : Option Addr) (n c : Nat) (xs : List Value) (h : Room w B ao n c xs) (hB : B ≤ w.heap.size) (m : Nat) (hroom : c < n + m) (hm : 0 < m)
    (h63 : n + m ≤ maxLen) (hbytes : (n + m) * bytes ≤ 140737488355328) :
    ∃ ao' c' w', (Builtin.append_ #[t, tn] ty #[.slice ao n c, .int k (m : Int)]).run P w = .ok (.slice ao' (n + m) c') w' ∧ Room w' B ao' (n + m) c' (xs ++ List.replicate m z) ∧ Chg [] w w' ∧ fp ao' c' = [w.heap.size] := by
  obtain ⟨ht, i, v, hi, hz, hsize, hby, hzs⟩ := helt
  subst hby
  have hv : v = z := by
    rw [hi] at hz0
    simp [hz] at hz0
    exact hz0
  subst hv
  have hlen : (xs ++ List.replicate m v).length = n + m := by rw [List.length_append, h.len, List.length_replicate]
  have hml : maxLen = 9223372036854775807 := rfl
  have hnr : ¬ (n + m ≤ c) := by omega
  have hfo : (Builtin.firstCells i.size n (.slice ao n c)).run P w.drew = .ok xs.toArray w.drew := by
    cases ao with
    | none =>
      have hc : c = 0 := by
        rcases Nat.eq_zero_or_pos c with h0 | h0
        · exact h0
        · obtain ⟨b, o, e, _⟩ := h.at_ h0; cases e
      have : xs = [] := List.eq_nil_of_length_eq_zero (by have := h.len; have := h.le; omega)
      subst this
      rw [run_firstCells_none]
    | some ad =>
      exact run_firstCells_some (P := P) w.drew i.size n ad n c xs (by simp [hsize, h.len]) (fun j u hu => by simpa using h.reads.addr ad rfl j u hu)
  have hge := grownCap_ge w (n + m) c e
  have hcm := grownCap_le_maxLen w (n + m) c e h63
  have hw : IntKind.i64.wrap (m : Int) = m := by rw [IntKind.wrap_i64]; omega
  have hneg : ¬ ((m : Int) < 0) := by omega
  have h63' : ¬ (9223372036854775807 < ((n : Int) + (m : Int))) := by omega
  have hmb : m * i.bytes ≤ 140737488355328 := Nat.le_trans (Nat.mul_le_mul_right _ (by omega)) hbytes
  have h48i : ¬ (281474976710656 < (m : Int) * (i.bytes : Int)) := by
    rw [← Int.natCast_mul]
    omega
  have hm0 : ¬ (m = 0) := by omega
  have h48' : ¬ (281474976710656 < Builtin.nextslicecap (n + m) c * i.bytes) := by have := growslice_fits (old := c) (need := n + m) (by omega) hbytes; omega
  refine ⟨some ⟨w.heap.size, 0, none⟩, grownCap w (n + m) c e, w.drew.alloc (.cells (xs.toArray ++ Builtin.zeroCells v.cells m ++ Builtin.zeroCells v.cells (grownCap w (n + m) c e - (n + m))) e), ?_, ?_, ⟨rfl, rfl, rfl, by simp, fun k hk _ => Below.heap_alloc w.drew _ k hk⟩, fp_some _ _ _ (by omega)⟩
  · simp [Builtin.append_, run_underlying ht, run_underlying htn, sizeOf, typeInfo, zeroValue, hi, hz, Builtin.lenOf, hnr, hw, hneg, h63', h48', h48i, hm0, hsize, asInt, asIntOf, Question.forced, hfo, newRow, grownCap]
    rw [hsize] at hfo
    simp [hfo]
  · refine Room.of_owns (e := e) ⟨by rw [hlen]; simp, .inr ⟨w.heap.size, _, _, rfl, hB, heap_alloc_new w.drew _, hge, hcm, ?_, ?_⟩⟩
    · simp only [Array.size_append, List.size_toArray, size_zeroCells, hzs, h.len]
      omega
    · simp only [Array.toList_append, List.append_assoc]
      rw [← List.append_assoc, hzc, zeroCells_one, Nat.mul_one, ← hlen]
      exact List.take_left
end
end Go.Proofs.YtdgkbicelnnfpaaGreatDoor

/- append(s, make([]T, m)...), whether there is room or not. No program is named here. -/
namespace Go.Proofs.YtdgkbicelnnfpaaGreatDoor
open Go.RowKit
set_option linter.unusedVariables false
set_option linter.unusedSimpArgs false

section
variable {P : Program} (w : World)
theorem run_append_zeros_in (t tn ty e : TypeId) (bytes : Nat) (helt : Elt P t e bytes) (z : Value) (hz0 : (P.info? e).map (·.zero) = some (some z)) (hzc : z.cells = #[z]) (hz1 : z.oneCell' = true) (kn k : IntKind) (htn : P.underlying tn = some (.int kn))
    (B : Nat) (ao : Option Addr) (n c : Nat) (xs : List Value) (h : Room w B ao n c xs) (hB : B ≤ w.heap.size) (m : Nat) (hroom : n + m ≤ c)
    (h63 : n + m ≤ maxLen) (hbytes : (n + m) * bytes ≤ 140737488355328) :
    ∃ w', (Builtin.append_ #[t, tn] ty #[.slice ao n c, .int k (m : Int)]).run P w = .ok (.slice ao (n + m) c) w' ∧ Room w' B ao (n + m) c (xs ++ List.replicate m z) ∧ Chg (fp ao c) w w' := by
  obtain ⟨ht, i, v, hi, hz, hsize, hby, hzs⟩ := helt
  subst hby
  have hv : v = z := by
    rw [hi] at hz0
    simp [hz] at hz0
    exact hz0
  subst hv
  have hml : maxLen = 9223372036854775807 := rfl
  have hw : IntKind.i64.wrap (m : Int) = m := by rw [IntKind.wrap_i64]; omega
  have hneg : ¬ ((m : Int) < 0) := by omega
  have hmb : m * i.bytes ≤ 140737488355328 := Nat.le_trans (Nat.mul_le_mul_right _ (by omega)) hbytes
  have h48i : ¬ (281474976710656 < (m : Int) * (i.bytes : Int)) := by
    rw [← Int.natCast_mul]
    omega
  by_cases hm0 : m = 0
  · subst hm0
    refine ⟨w, ?_, by simpa using h, Chg.refl _ _⟩
    have hw0 : IntKind.i64.wrap 0 = 0 := by decide
    cases ao <;> simp [Builtin.append_, run_underlying ht, run_underlying htn, sizeOf, typeInfo, zeroValue, hi, hz, Builtin.lenOf, hw0, asInt, asIntOf, storeCells, h.le]
  · obtain ⟨b, o, rfl, hBb, hs, hv⟩ := h.at_ (by omega)
    have hnl : (List.replicate m v).length = m := by simp
    have hlen : (xs ++ List.replicate m v).length = n + m := by rw [List.length_append, h.len, hnl]
    have hcell : ∀ j, j < (List.replicate m v).length → (w.cell? ⟨b, o + n * i.size + 0 + j, none⟩).isSome = true := fun j hj => by
      have := (hs (n + j) (by omega)).1
      rwa [hsize, Nat.mul_one, Nat.add_zero, Nat.add_assoc]
    have hfr : ∀ j, j < (List.replicate m v).length → w.frozen? ⟨b, o + n * i.size + 0 + j, none⟩ = false := fun j hj => by
      have := (hs (n + j) (by omega)).2
      rwa [hsize, Nat.mul_one, Nat.add_zero, Nat.add_assoc]
    have hst := run_storeCells_cells (P := P) b (o + n * i.size) (List.replicate m v) 0 w hcell hfr (fun u hu => by rw [List.eq_of_mem_replicate hu]; exact hz1)
    have hzl : (Builtin.zeroCells v.cells m).toList = List.replicate m v := by rw [hzc, zeroCells_one]
    refine ⟨w.setCells b (o + n) (List.replicate m v), ?_, ⟨hlen, hroom, h.max, fun _ => ⟨b, o, rfl, hBb, fun j hj => ?_, fun j u hu => ?_⟩⟩, by rw [fp_some _ _ _ (by omega)]; exact Chg.setCells b (List.replicate m v) (o + n) w⟩
    · simp only [Nat.add_zero] at hst
      simp [Builtin.append_, run_underlying ht, run_underlying htn, sizeOf, typeInfo, zeroValue, hi, hz, Builtin.lenOf, hroom, hw, hneg, h48i, hm0, asInt, asIntOf, Addr.add_lit, hzl]
      simp only [hsize, Nat.mul_one] at hst
      simp [hst, hsize, hm0]
    · obtain ⟨h1, h2⟩ := hs j hj
      refine ⟨?_, by rw [World.frozen?_setCells]; exact h2⟩
      by_cases hin : n ≤ j ∧ j < n + (List.replicate m v).length
      · have := World.cell?_setCells_in b (List.replicate m v) (o + n) w (fun k hk => by rw [Nat.add_assoc]; exact (hs (n + k) (by omega)).1) (j - n) (by omega)
        rw [show o + n + (j - n) = o + j by omega] at this
        rw [this]; rfl
      · rw [World.cell?_setCells_out b (List.replicate m v) (o + n) w _ (fun _ _ => by simp; simp at hin; omega)]
        exact h1
    · by_cases hj : j < n
      · rw [List.getElem?_append_left (by rw [h.len]; exact hj)] at hu
        rw [World.cell?_setCells_out b (List.replicate m v) (o + n) w _ (fun _ _ => by simp; omega)]
        exact hv j u hu
      · rw [List.getElem?_append_right (by rw [h.len]; omega), h.len] at hu
        have hjn : j - n < (List.replicate m v).length := (List.getElem?_eq_some_iff.1 hu).1
        have := World.cell?_setCells_in b (List.replicate m v) (o + n) w (fun k hk => by rw [Nat.add_assoc]; exact (hs (n + k) (by omega)).1) (j - n) hjn
        rw [show o + n + (j - n) = o + j by omega] at this
        rw [this]
        rw [List.getElem?_eq_getElem hjn] at hu
        exact hu
/-- Both ways. -/
theorem run_append_zeros_k (t tn ty e : TypeId) (bytes : Nat) (helt : Elt P t e bytes) (z : Value) (hz0 : (P.info? e).map (·.zero) = some (some z)) (hzc : z.cells = #[z]) (hz1 : z.oneCell' = true) (kn k : IntKind) (htn : P.underlying tn = some (.int kn))
    (B : Nat) (ao : Option Addr) (n c : Nat) (xs : List Value) (h : Room w B ao n c xs) (hB : B ≤ w.heap.size) (m : Nat)
    (h63 : n + m ≤ maxLen) (hbytes : (n + m) * bytes ≤ 140737488355328) :
    ∃ ao' c' w', (Builtin.append_ #[t, tn] ty #[.slice ao n c, .int k (m : Int)]).run P w = .ok (.slice ao' (n + m) c') w' ∧ Room w' B ao' (n + m) c' (xs ++ List.replicate m z) ∧ Chg (fp ao c) w w' ∧ (fp ao' c' = fp ao c ∨ fp ao' c' = [w.heap.size]) := by
  by_cases hroom : n + m ≤ c
  · obtain ⟨w', h1, h2, h3⟩ := run_append_zeros_in w t tn ty e bytes helt z hz0 hzc hz1 kn k htn B ao n c xs h hB m hroom h63 hbytes
    exact ⟨ao, c, w', h1, h2, h3, .inl rfl⟩
  · have := h.le
    obtain ⟨ao', c', w', h1, h2, h3, h4⟩ := run_append_zeros w t tn ty e bytes helt z hz0 hzc kn k htn B ao n c xs h hB m (by omega) (by omega) h63 hbytes
    exact ⟨ao', c', w', h1, h2, h3.mono (by simp), .inr h4⟩
end
theorem wpList_append_zeros_k {P : Program} (w : World) {ops : Array Oper} {rest : List Oper} {o : Oper} {a : Act} {Q : Exit → Act → World → Prop} (hgd : o.guard = none) (s x : Operand) (t tn : TypeId)
    (ho : o.op = .call { callee := .builtin .append, args := #[s, x], argTypes := #[t, tn] })
    (e : TypeId) (bytes : Nat) (helt : Elt P t e bytes) (z : Value) (hz0 : (P.info? e).map (·.zero) = some (some z)) (hzc : z.cells = #[z]) (hz1 : z.oneCell' = true) (kn k : IntKind) (htn : P.underlying tn = some (.int kn))
    (B : Nat) (ao : Option Addr) (n c : Nat) (xs : List Value) (hs : a.eval s = .slice ao n c) (h : Room w B ao n c xs) (hB : B ≤ w.heap.size) (m : Nat) (hxe : a.eval x = .int k (m : Int))
    (h63 : n + m ≤ maxLen) (hbytes : (n + m) * bytes ≤ 140737488355328)
    (hK : ∀ ao' c' w', Room w' B ao' (n + m) c' (xs ++ List.replicate m z) → Chg (fp ao c) w w' → (fp ao' c' = fp ao c ∨ fp ao' c' = [w.heap.size]) → wpList P ops Q rest (a.put o.dst (.slice ao' (n + m) c')) w') : wpList P ops Q (o :: rest) a w := by
  refine wpList_plain hgd fun K hK' => ?_
  obtain ⟨ao', c', w', hr, h2, h3, h4⟩ := run_append_zeros_k (P := P) w t tn o.type e bytes helt z hz0 hzc hz1 kn k htn B ao n c xs h hB m h63 hbytes
  unfold Oper.wp execOp
  simp only [ho, resolve, invoke, builtin, Sem.run_bind, Sem.run_pure, Result.andThen_ok, List.map_toArray, List.map_cons, List.map_nil, hs, hxe, hr]
  exact hK' _ _ (hK ao' c' w' h2 h3 h4)
section
variable {P : Program} {ops : Array Oper} {o : Oper} {a : Act} {w : World} {K : Act → World → Prop} {Q : Exit → Act → World → Prop} {E : Prop}
end
end Go.Proofs.YtdgkbicelnnfpaaGreatDoor

/- A region that draws its order, by what holds of each slot that has come up (an invariant in place of a branch for each order). No program is named here. -/
namespace Go.Proofs.YtdgkbicelnnfpaaGreatDoor
open Go.RowKit
set_option linter.unusedVariables false
set_option linter.unusedSimpArgs false

def updK (v : Nat → Value) (k : Nat) (x : Value) : Nat → Value := fun j => if j = k then x else v j
theorem upd_same (v : Nat → Value) (k : Nat) (x : Value) : updK v k x k = x := if_pos rfl
theorem upd_other (v : Nat → Value) {k j : Nat} (x : Value) (h : j ≠ k) : updK v k x j = v j := if_neg h
section
variable {P : Program} {ops : Array Oper} {Q : Exit → Act → World → Prop}
/-- Each waits for those ahead of it alone; none is guarded. -/
def lowB (ops : Array Oper) : Bool := (List.range ops.size).all fun j => ((ops[j]?).map fun o => o.guard.isNone && o.after.all fun e => decide (e.on < j)).getD true
theorem lowB_spec (h : lowB ops = true) {j : Nat} {o : Oper} (ho : ops[j]? = some o) : o.guard = none ∧ ∀ e ∈ o.after, e.on < j := by
  have hj := (Array.getElem?_eq_some_iff.1 ho).1
  have h1 := List.all_eq_true.1 h j (List.mem_range.2 hj)
  simp only [ho, Option.map_some, Option.getD_some, Bool.and_eq_true, Option.isNone_iff_eq_none, Array.all_eq_true_iff_forall_mem, decide_eq_true_eq] at h1
  exact h1
theorem ready_none (hl : lowB ops = true) {md : Region.Mode} {done : Array Bool} (hz : done.size = ops.size) (hr : Region.ready md ops done = []) : ∀ j, j < ops.size → done.getD j false = true := by
  intro j
  induction j using Nat.strongRecOn with
  | _ j ih =>
    intro hj
    cases hd : done.getD j false with
    | true => rfl
    | false =>
      have hm : j ∈ Region.ready md ops done := mem_ready.2 ⟨getD_in (by omega) hd, ops[j], Array.getElem?_eq_getElem hj, fun e he hb => by
        have := (lowB_spec hl (Array.getElem?_eq_getElem hj)).2 e he
        exact ih e.on this (by omega)⟩
      rw [hr] at hm
      cases hm
end
section
variable {P : Program} {ops : Array Oper} {Q : Exit → Act → World → Prop}
end
/-! ### appends that make a row of their own -/
section
variable {P : Program} (w : World)
end
end Go.Proofs.YtdgkbicelnnfpaaGreatDoor

/- Nodes and rows of numbers, as lib/node has them, for a seat without bytes. -/



namespace Go.Proofs.YtdgkbicelnnfpaaGreatDoor
open Go.ChangeShapes Go.WideShapes Go.ChangeAt Go.RowKit
set_option linter.unusedVariables false
set_option linter.unusedSimpArgs false
attribute [local go_sem ↓] Go.wp_at_zero Go.wp_at_succ

theorem lit_room (w : World) (B : Nat) (hB : B ≤ w.heap.size) (cs : Array Value) (e : TypeId) (xs : List Value) (n : Nat) (hc : cs.toList = xs) (hn : xs.length = n) (hx : n ≤ maxLen) : Room (w.alloc (.cells cs e)) B (some ⟨w.heap.size, 0, none⟩) n n xs := by
  have h2 : cs.size = n := by rw [← hn, ← hc]; simp
  have hf := fun j => frozen_of_row (w.alloc (.cells cs e)) w.heap.size j cs e (heap_alloc_last w (.cells cs e))
  have hcc := fun j => cell_of_row (w.alloc (.cells cs e)) w.heap.size j cs e (0, 0) (heap_alloc_last w (.cells cs e))
  refine ⟨hn, Nat.le_refl _, hx, fun _ => ⟨w.heap.size, 0, rfl, hB, fun j hj => ?_, fun j u hu => ?_⟩⟩
  · rw [Nat.zero_add]
    refine ⟨?_, hf j⟩
    rw [hcc, Array.getElem?_eq_getElem (by omega)]
    rfl
  · rw [Nat.zero_add, hcc]
    rw [← hc] at hu
    simpa using hu
/-- A node's cells, in the block that it was laid in. -/
theorem laid3 (w : World) (x y z : Value) (t : TypeId) : (w.alloc (.cells #[x, y, z] t)).cell? ⟨w.heap.size, 0, none⟩ = some x ∧ (w.alloc (.cells #[x, y, z] t)).cell? ⟨w.heap.size, 1, none⟩ = some y ∧ (w.alloc (.cells #[x, y, z] t)).cell? ⟨w.heap.size, 2, none⟩ = some z := by
  have hl := heap_alloc_last w (.cells #[x, y, z] t)
  have hc := fun j => cell_of_row _ w.heap.size j _ _ _ hl
  exact ⟨by rw [hc]; rfl, by rw [hc]; rfl, by rw [hc]; rfl⟩
section
variable {H : Type} {enc : TypeId × Value → H} {P : Program} {w : World} {base : Nat} {spare : Nat → Bool} {held : Bool}
end
end Go.Proofs.YtdgkbicelnnfpaaGreatDoor

/- Nodes in memory beside a shelf; asked, Load, Save, Make. -/
namespace Go.Proofs.YtdgkbicelnnfpaaGreatDoor
set_option maxRecDepth 200000
open Go.RowKit Go.Maps
set_option linter.unusedVariables false
set_option linter.unusedSimpArgs false
attribute [local go_sem ↓] Go.wp_at_zero Go.wp_at_succ

/-- A node: a leaf or not, keys, values. -/
structure Nd where
  lf : Bool
  K : List Nat
  V : List Nat
/-- A node as it lies in memory. -/
structure CN where
  lf : Bool
  ka : Option Addr
  kc : Nat
  va : Option Addr
  vc : Nat
  K : List Nat
  V : List Nat
def CN.nd (m : CN) : Nd := ⟨m.lf, m.K, m.V⟩
def CN.val (m : CN) : Value := .agg #[.bool m.lf, .slice m.ka m.K.length m.kc, .slice m.va m.V.length m.vc]
/-- A node's keys and values in memory that nobody turns: the tag 5. -/
structure NdAt (w : World) (tag : Nat → Nat) (m : CN) : Prop where
  rd : RdN w m.ka m.kc m.va m.vc m.K m.V
  kk : 0 < m.K.length → ∀ k, k ∈ blk m.ka → tag k = 5
  kv : 0 < m.V.length → ∀ k, k ∈ blk m.va → tag k = 5
  bK : ∀ x ∈ m.K, x < 2 ^ 64
  bV : ∀ x ∈ m.V, x < 2 ^ 64
theorem kt5 {tag : Nat → Nat} {k : Nat} (h : tag k = 5) : Kt tag k := ⟨by omega, by omega⟩
theorem NdAt.mv {w w' : World} {tag tag' : Nat → Nat} {m : CN} (h : NdAt w tag m) (g : Mv tag tag' w w') : NdAt w' tag' m :=
  ⟨⟨g.reads h.rd.rk (fun hx k hk => kt5 (h.kk (by simpa [uvs_len] using hx) k hk)), g.reads h.rd.rv (fun hx k hk => kt5 (h.kv (by simpa [uvs_len] using hx) k hk)), h.rd.ck, h.rd.cv, h.rd.bk, h.rd.bv, h.rd.xk, h.rd.xv⟩,
   fun hx k hk => (g.o k (reads_ltT h.rd.rk (by simpa [uvs_len] using hx) k hk)).trans (h.kk hx k hk), fun hx k hk => (g.o k (reads_ltT h.rd.rv (by simpa [uvs_len] using hx) k hk)).trans (h.kv hx k hk), h.bK, h.bV⟩
theorem NdAt.keep {w w' : World} {tag : Nat → Nat} {m : CN} (h : NdAt w tag m) (c : Chg [] w w') : NdAt w' tag m :=
  ⟨h.rd.keep c, h.kk, h.kv, h.bK, h.bV⟩
theorem NdAt.wrote {w w' : World} {tag : Nat → Nat} {m : CN} (h : NdAt w tag m) {S : List Nat} (c : Chg S w w') (hS : ∀ k, k ∈ S → tag k = 4) : NdAt w' tag m :=
  ⟨⟨h.rd.rk.chg0 c (fun hx k hk hm => by have := h.kk (by simpa [uvs_len] using hx) k hk; have := hS k hm; omega), h.rd.rv.chg0 c (fun hx k hk hm => by have := h.kv (by simpa [uvs_len] using hx) k hk; have := hS k hm; omega), h.rd.ck, h.rd.cv, h.rd.bk, h.rd.bv, h.rd.xk, h.rd.xv⟩, h.kk, h.kv, h.bK, h.bV⟩
def CN.none : CN := ⟨false, .none, 0, .none, 0, [], []⟩
theorem NdAt.none (w : World) (tag : Nat → Nat) : NdAt w tag CN.none :=
  ⟨⟨fun h => by simp [uvs, CN.none] at h, fun h => by simp [uvs, CN.none] at h, by simp [CN.none], by simp [CN.none], by simp [CN.none], by simp [CN.none], by simp [CN.none, maxLen], by simp [CN.none, maxLen]⟩, by simp [CN.none], by simp [CN.none], by simp [CN.none], by simp [CN.none]⟩
/-- New memory of a node gets the tag 5. -/
def tag5 (tag : Nat → Nat) (z : Nat) (m : CN) : Nat → Nat := fun k => if z ≤ k ∧ (k ∈ fp m.ka m.kc ∨ k ∈ fp m.va m.vc) then 5 else tag k
theorem tag5_old {tag : Nat → Nat} {z : Nat} {m : CN} {k : Nat} (h : k < z) : tag5 tag z m k = tag k := if_neg (by omega)
structure New5 (w' : World) (z : Nat) (m : CN) : Prop where
  rk : Room w' z m.ka m.K.length m.kc (uvs m.K)
  rv : Room w' z m.va m.V.length m.vc (uvs m.V)
theorem New5.lt {w' : World} {z : Nat} {m : CN} (h : New5 w' z m) {k : Nat} (hk : k ∈ fp m.ka m.kc ∨ k ∈ fp m.va m.vc) : z ≤ k ∧ k < w'.heap.size := hk.elim (h.rk.lt k) (h.rv.lt k)
theorem NdAt.new {w' : World} {tag : Nat → Nat} {z : Nat} {m : CN} (h : New5 w' z m) (bk : m.K.length * 8 ≤ 140737488351232) (bv : m.V.length * 8 ≤ 140737488351232) (bK : ∀ x ∈ m.K, x < 2 ^ 64) (bV : ∀ x ∈ m.V, x < 2 ^ 64) : NdAt w' (tag5 tag z m) m := by
  have rk := h.rk
  have rv := h.rv
  refine ⟨⟨rk.reads, rv.reads, rk.le, rv.le, bk, bv, rk.max, rv.max⟩, fun hx k hk => ?_, fun hx k hk => ?_, bK, bV⟩
  · have := rk.le
    have hm : k ∈ fp m.ka m.kc := by unfold fp; rw [if_neg (by omega)]; exact hk
    exact if_pos ⟨(rk.lt k hm).1, Or.inl hm⟩
  · have := rv.le
    have hm : k ∈ fp m.va m.vc := by unfold fp; rw [if_neg (by omega)]; exact hk
    exact if_pos ⟨(rv.lt k hm).1, Or.inr hm⟩
theorem Mv.five {tag tag' : Nat → Nat} {w w' : World} (g : Mv tag tag' w w') {z : Nat} {m : CN} (h : New5 w' z m) (hz : w.heap.size ≤ z) : Mv tag (tag5 tag' z m) w w' :=
  ⟨g.c, fun k hk => (tag5_old (by omega)).trans (g.o k hk), fun k hk => by
    unfold tag5
    rw [if_neg (fun q => by have := (h.lt q.2).2; omega)]
    exact g.d k hk⟩
theorem HasF.five {w0 w : World} {tag : Nat → Nat} {sb rb n : Nat} {N C : List UInt8} {Y : Nat → List UInt8} {u : Nat} (h : HasF w0 w tag sb rb n N C Y u) {z : Nat} {m : CN} (g : New5 w z m) (hz : ∀ k, z ≤ k → tag k = 4) : HasF w0 w (tag5 tag z m) sb rb n N C Y u := by
  obtain ⟨cb, ⟨db, gg, fa, cf, st, mb, la, cl, E, L, most, uses, hp, hr⟩, h1⟩ := h.k
  obtain ⟨nb, c2, sp, Fs, r1, r2⟩ := h.r
  have hk : ∀ k, tag k ≠ 4 → tag5 tag z m k = tag k := fun k hk => by
    unfold tag5
    rw [if_neg (fun q => hk (hz k q.1))]
  have h5 : ∀ k, tag5 tag z m k ≠ 2 → tag k ≠ 2 := fun k hk2 h2 => hk2 ((hk k (by omega)).trans h2)
  refine ⟨⟨nb, c2, sp, Fs, r1, fun k hm => (hk k (by have := r2 k hm; omega)).trans (r2 k hm)⟩, ⟨cb, ⟨db, gg, fa, cf, st, mb, la, cl, E, L, most, uses, hp.less (fun k q => ⟨q.1, h5 k q.2⟩), hr⟩, h1⟩, h.s0, (hk sb (by have := h.ts; omega)).trans h.ts, ⟨fun k hk0 => by rw [hk k (by have := h.l.lo k hk0; omega)]; exact h.l.lo k hk0, fun k hk0 => ?_⟩⟩
  unfold tag5
  rw [if_neg (fun q => by have := (g.lt q.2).2; omega)]
  exact h.l.hi k hk0
section
variable {w0 w : World} {tag : Nat → Nat} {sb rb n : Nat} {N C : List UInt8} {Y : Nat → List UInt8} {u : Nat}
theorem made_yesT (h : HasF w0 w tag sb rb n N C Y u) : Calls Tryz.prog 53 #[.pointer (some ⟨sb, 0, none⟩)] w fun e w' => e = .returned (.bool true) ∧ w = w' := by
  have s0 := h.s0
  go_enter Tryz.func53, Tryz.ntmps53
  go_wp2
  go_ret
  exact ⟨rfl, rfl⟩
theorem made_nilT (w : World) : Calls Tryz.prog 53 #[.pointer none] w fun e w' => e = .returned (.bool false) ∧ w = w' := by
  go_enter Tryz.func53, Tryz.ntmps53
  go_wp2
  go_ret
  exact ⟨rfl, rfl⟩
theorem asked_noT (a : Nat) (ha : 2147483647 < a) (h : HasF w0 w tag sb rb n N C Y u) : Calls Tryz.prog 46 #[.pointer (some ⟨sb, 0, none⟩), .int .u64 (a : Int)] w fun e w' => e = .returned (.int .i64 1) ∧ w = w' := by
  have hd : decide ((2147483647 : Int) < (a : Int)) = true := decide_eq_true (by omega)
  have hm := made_yesT h
  go_enter Tryz.func46, Tryz.ntmps46
  go_wp2_with (first | (go_at_call 53; refine hm.mono ?_; rintro e w' ⟨rfl, rfl⟩))
  go_ret
  exact ⟨rfl, rfl⟩
theorem asked_yesT (a : Nat) (ha : a ≤ 2147483647) (h : HasF w0 w tag sb rb n N C Y u) : Calls Tryz.prog 46 #[.pointer (some ⟨sb, 0, none⟩), .int .u64 (a : Int)] w fun e w' => e = .returned (.int .i64 0) ∧ w = w' := by
  have hd : decide ((2147483647 : Int) < (a : Int)) = false := decide_eq_false (by omega)
  have hm := made_yesT h
  go_enter Tryz.func46, Tryz.ntmps46
  go_wp2_with (first | (go_at_call 53; refine hm.mono ?_; rintro e w' ⟨rfl, rfl⟩))
  go_ret
  exact ⟨rfl, rfl⟩
theorem asked_nilT (a : Nat) (w : World) : Calls Tryz.prog 46 #[.pointer none, .int .u64 (a : Int)] w fun e w' => e = .returned (.int .i64 2) ∧ w = w' := by
  have hm := made_nilT w
  go_enter Tryz.func46, Tryz.ntmps46
  go_wp2_with (first | (go_at_call 53; refine hm.mono ?_; rintro e w' ⟨rfl, rfl⟩))
  go_ret
  exact ⟨rfl, rfl⟩
end
end Go.Proofs.YtdgkbicelnnfpaaGreatDoor
