/- Texts Txb, Zb, Zc, Zd, Ze, Zf, Zg, Yb, Aq of the library, joined. -/
import Derived.Test.YtoeijomelabbfaaGreatDoorM02
import Derived.Test.YtoeijomelabbfaaGreatDoorM07
import Derived.Test.YtoeijomelabbfaaGreatDoorM11
import Derived.Test.YtoeijomelabbfaaGreatDoorM15
import Derived.Test.YtoeijomelabbfaaGreatDoorM14
import Derived.Test.YtoeijomelabbfaaGreatDoorM19
import Derived.Test.YtoeijomelabbfaaGreatDoorM16
import Derived.ChangeKeysEq
/- Disks and caches in memory, each by its tag; steps gone through in turn. -/
namespace Go.Proofs.YtoeijomelabbfaaGreatDoor
set_option maxRecDepth 200000
open Go.RowKit Go.Maps
set_option linter.unusedVariables false
set_option linter.unusedSimpArgs false
attribute [local go_sem ↓] Go.wp_at_zero Go.wp_at_succ

/-- Nothing old has turned; the blocks that were there have the tag 0. -/
structure Base (w0 w : World) (tag : Nat → Nat) : Prop where
  c : Chg [] w0 w
  lo : ∀ k, k < w0.heap.size → tag k = 0
section
variable {w0 w w' : World} {tag tag' : Nat → Nat} {i j : Nat}
theorem Base.turn (h : Base w0 w tag) (t : Turn w0.heap.size tag tag' i w w') : Base w0 w' tag' := ⟨t.base h.c, fun k hk => (t.2 k (Nat.lt_of_lt_of_le hk h.c.size)).trans (h.lo k hk)⟩
theorem Base.still (h : Base w0 w tag) (t : Still tag tag' w w') : Base w0 w' tag' := h.turn (t.turn _ 1)
theorem Base.keep (h : Base w0 w tag) (c : Chg [] w w') : Base w0 w' tag := h.still (Still.of c)
theorem Still.trans {t1 t2 t3 : Nat → Nat} {a b c : World} (h : Still t1 t2 a b) (g : Still t2 t3 b c) : Still t1 t3 a c := ⟨h.1.then g.1, fun k hk => (g.2 k (Nat.lt_of_lt_of_le hk h.1.size)).trans (h.2 k hk)⟩
theorem Turn.trans {B : Nat} {t1 t2 t3 : Nat → Nat} {a b c : World} (h : Turn B t1 t2 i a b) (g : Turn B t2 t3 i b c) : Turn B t1 t3 i a c := by
  obtain ⟨⟨S, hS, h1⟩, h2⟩ := h
  obtain ⟨⟨T, hT, g1⟩, g2⟩ := g
  refine ⟨⟨S ++ T.filter (fun k => decide (k < a.heap.size)), hS.trans hT (fun k hk _ => List.mem_append_left _ hk) (fun k hk hlt => List.mem_append_right _ (List.mem_filter.2 ⟨hk, by simpa using hlt⟩)), fun k hk => ?_⟩, fun k hk => (g2 k (Nat.lt_of_lt_of_le hk hS.size)).trans (h2 k hk)⟩
  rcases List.mem_append.1 hk with h9 | h9
  · exact h1 k h9
  · obtain ⟨h8, h7⟩ := List.mem_filter.1 h9
    have h6 := g1 k h8
    rw [h2 k (by simpa using h7)] at h6
    exact h6
theorem Turn.then {B : Nat} {t1 t2 t3 : Nat → Nat} {a b c : World} (h : Turn B t1 t2 i a b) (g : Still t2 t3 b c) : Turn B t1 t3 i a c := h.trans (g.turn _ _)
theorem Still.size {a b : World} (h : Still tag tag' a b) : a.heap.size ≤ b.heap.size := h.1.size
theorem Turn.size {B : Nat} {a b : World} (h : Turn B tag tag' i a b) : a.heap.size ≤ b.heap.size := by
  obtain ⟨⟨S, hS, _⟩, _⟩ := h
  exact hS.size
theorem still_mark (tag : Nat → Nat) (i : Nat) (c : Chg [] w w') : Still tag (mark tag w.heap.size i) w w' := ⟨c, fun k hk => mark_old _ _ _ _ hk⟩
theorem Turn.reads {B : Nat} (t : Turn B tag tag' i w w') {ao : Option Addr} {xs : List Value} (h : Reads w ao xs) (hp : 0 < xs.length → ∀ k, k ∈ blk ao → tag k ≠ i) : Reads w' ao xs := by
  obtain ⟨⟨S, hS, h1⟩, _⟩ := t
  exact h.chg0 hS (fun hx k hk hm => hp hx k hk (h1 k hm).1)
theorem Turn.room {B C : Nat} (t : Turn B tag tag' i w w') {ao : Option Addr} {n c : Nat} {xs : List Value} (h : Room w C ao n c xs) (hp : ∀ k, k ∈ fp ao c → tag k ≠ i) : Room w' C ao n c xs := by
  obtain ⟨⟨S, hS, h1⟩, _⟩ := t
  exact h.chg hS (fun k hk hm => hp k hk (h1 k hm).1)
theorem Turn.cell1 {B : Nat} (t : Turn B tag tag' i w w') {p : Addr} {v : Value} (h : w.cell? p = some v) (hp : tag p.block ≠ i) : w'.cell? p = some v := by
  obtain ⟨⟨S, hS, h1⟩, _⟩ := t
  exact hS.cellv h (fun hm => hp (h1 _ hm).1)

/-! ### a disk -/
theorem RoomZ.base {z : Nat} {w : World} {B B' : Nat} {ao : Option Addr} {n c : Nat} {xs : List Value} (h : RoomZ z w B ao n c xs) (hB : B' ≤ B) : RoomZ z w B' ao n c xs :=
  ⟨h.len, h.le, h.max, fun hc => let ⟨b, o, e, h1, h2, h3⟩ := h.at_ hc; ⟨b, o, e, Nat.le_trans hB h1, h2, h3⟩⟩
theorem DevAt.base {w : World} {B B' db : Nat} {g : DG} {fa : Option Addr} {cf : Nat} {st : RS} (h : DevAt w B db g fa cf st) (hB : B' ≤ B) : DevAt w B' db g fa cf st :=
  ⟨h.c0, h.c1, h.c2, h.c3, h.c4, h.fz, h.rS.mono hB, h.rL.base hB, h.rN.mono hB, h.d1, h.d2, h.d3, h.f1, h.f2, h.f3, Nat.le_trans hB h.dB, h.lS, h.lL, h.lft, h.pos⟩
def HasDev (w0 w : World) (tag : Nat → Nat) (i db : Nat) (st : RS) : Prop := ∃ g fa cf, DevAt w w0.heap.size db g fa cf st ∧ Whole st ∧ ∀ k, k ∈ DF db g fa cf → tag k = i
theorem HasDev.sound {db : Nat} {st : RS} (h : HasDev w0 w tag i db st) : Sound st := by
  obtain ⟨g, fa, cf, d, hW, _⟩ := h
  exact ⟨hW, d.lS, d.lL⟩
theorem HasDev.pos {db : Nat} {st : RS} (h : HasDev w0 w tag i db st) : 0 < st.count ∧ st.count ≤ 1024 := by
  obtain ⟨g, fa, cf, d, hW, _⟩ := h
  have := d.pos
  have := hW.1
  have := hW.2
  omega
theorem HasDev.db {db : Nat} {st : RS} (h : HasDev w0 w tag i db st) : tag db = i ∧ db < w.heap.size := by
  obtain ⟨g, fa, cf, d, hW, ht⟩ := h
  exact ⟨ht db (by simp [DF]), (d.lt db (by simp [DF])).2⟩
theorem HasDev.stay {db : Nat} {st : RS} (h : HasDev w0 w tag j db st) (t : Turn w0.heap.size tag tag' i w w') (hij : i ≠ j) : HasDev w0 w' tag' j db st := by
  obtain ⟨g, fa, cf, d, hW, ht⟩ := h
  obtain ⟨⟨S, hS, h1⟩, h2⟩ := t
  exact ⟨g, fa, cf, d.chg hS (fun k hk hm => hij ((h1 k hm).1.symm.trans (ht k hk))), hW, fun k hk => (h2 k (d.lt k hk).2).trans (ht k hk)⟩
theorem HasDev.still {db : Nat} {st : RS} (h : HasDev w0 w tag j db st) (t : Still tag tag' w w') : HasDev w0 w' tag' j db st := h.stay (t.turn _ (j + 1)) (by omega)
theorem HasDev.step {db : Nat} {st' : RS} {g : DG} {fa fa' : Option Addr} {cf cf' : Nat} {S : List Nat} (hS : ∀ k, k ∈ S → k ∈ DF db g fa cf) (d0 : ∀ k, k ∈ DF db g fa cf → (w0.heap.size ≤ k ∧ k < w.heap.size) ∧ tag k = i)
    (d : DevAt w' w0.heap.size db g fa' cf' st') (hW : Whole st') (c : Chg S w w') (l : ∀ k, k ∈ DF db g fa' cf' → k ∈ DF db g fa cf ∨ w.heap.size ≤ k) : ∃ tag', HasDev w0 w' tag' i db st' ∧ Turn w0.heap.size tag tag' i w w' := by
  refine ⟨mark tag w.heap.size i, ⟨g, fa', cf', d, hW, fun k hk => ?_⟩, ⟨S, c, fun k hk => ⟨(d0 k (hS k hk)).2, (d0 k (hS k hk)).1.1⟩⟩, fun k hk => mark_old _ _ _ _ hk⟩
  by_cases hlt : k < w.heap.size
  · rw [mark_old _ _ _ _ hlt]
    rcases l k hk with h9 | h9
    · exact (d0 k h9).2
    · omega
  · exact mark_new _ _ _ _ (by omega)
end
section
variable {w0 w : World} {tag : Nat → Nat} {i db : Nat} {st : RS} (h : HasDev w0 w tag i db st)
include h
theorem v_write (hb : Chg [] w0 w) (z : Int) (hLb : st.L.length ≤ 1000000000) (ab : Option Addr) (nb cb : Nat) (b : List UInt8) (gb : Reads w ab (bts b)) (gn : b.length = nb) (gc : nb ≤ cb) (gm : cb ≤ 140737488355328) (hab : ∀ k, k ∈ blk ab → tag k ≠ i ∧ k < w.heap.size) :
    Calls Tryz.prog 41 #[.pointer (some ⟨db, 0, none⟩), .int .i64 z, .slice ab nb cb] w fun e w' => e = .returned (.int .i64 (write st z b).1) ∧ ∃ tag', HasDev w0 w' tag' i db (write st z b).2 ∧ Turn w0.heap.size tag tag' i w w' := by
  obtain ⟨g, fa, cf, d, hW, ht⟩ := h
  refine (dwrite_any z w0.heap.size db g fa cf st w d hW hb.size hLb ab nb cb b gb gn gc gm (fun k hk => ⟨fun hm => (hab k hk).1 (ht k hm), (hab k hk).2⟩)).mono ?_
  rintro e w' ⟨he, fa', cf', h2, hg2, hl2⟩
  exact ⟨he, HasDev.step (fun k hk => hk) (fun k hk => ⟨d.lt k hk, ht k hk⟩) h2 (write_whole z b hW) hg2 (DF_later hl2)⟩
theorem v_barrier : Calls Tryz.prog 42 #[.pointer (some ⟨db, 0, none⟩)] w fun e w' => e = .returned (.int .i64 (barrier st).1) ∧ ∃ tag', HasDev w0 w' tag' i db (barrier st).2 ∧ Turn w0.heap.size tag tag' i w w' := by
  obtain ⟨g, fa, cf, d, hW, ht⟩ := h
  refine (dbarrier_any w0.heap.size db g fa cf st w d).mono ?_
  rintro e w' ⟨he, fa', cf', h2, hg2, hl2⟩
  exact ⟨he, HasDev.step (fun k hk => DF_three hk) (fun k hk => ⟨d.lt k hk, ht k hk⟩) h2 (barrier_whole hW) hg2 (DF_later (fun k hk => Or.inl (hl2 k hk)))⟩
theorem v_crash (ap : Option Addr) (np cp : Nat) (ps : List UInt8) (gp : Reads w ap (bts ps)) (gn : ps.length = np) (hnp : np ≤ maxLen) (hap : ∀ k, k ∈ blk ap → tag k ≠ i) :
    Calls Tryz.prog 35 #[.pointer (some ⟨db, 0, none⟩), .slice ap np cp] w fun e w' => e = .returned (.tuple #[]) ∧ ∃ tag', HasDev w0 w' tag' i db (crash st ps) ∧ Turn w0.heap.size tag tag' i w w' := by
  obtain ⟨g, fa, cf, d, hW, ht⟩ := h
  refine (dcrash_any w0.heap.size db g fa cf st w d ap np cp ps gp gn hnp (fun k hk hm => hap k hk (ht k hm))).mono ?_
  rintro e w' ⟨he, h2, hg2⟩
  exact ⟨he, HasDev.step (fun k hk => DF_three hk) (fun k hk => ⟨d.lt k hk, ht k hk⟩) h2 (crash_whole ps hW) hg2 (DF_later (fun k hk => by rw [fp_zero] at hk; simp at hk))⟩
theorem v_fuse (z : Int) (hz : z < 9223372036854775808) : Calls Tryz.prog 33 #[.pointer (some ⟨db, 0, none⟩), .int .i64 z] w fun e w' => e = .returned (.tuple #[]) ∧ ∃ tag', HasDev w0 w' tag' i db { st with left := z.toNat } ∧ Turn w0.heap.size tag tag' i w w' := by
  obtain ⟨g, fa, cf, d, hW, ht⟩ := h
  refine (fuse_set z w0.heap.size db g fa cf st w d hz).mono ?_
  rintro e w' ⟨he, h2, hg2⟩
  exact ⟨he, HasDev.step (S := [db]) (fun k hk => by simp at hk; simp [DF, hk]) (fun k hk => ⟨d.lt k hk, ht k hk⟩) h2 hW hg2 (DF_later (fun k hk => Or.inl hk))⟩
theorem v_read (A : Nat) (hw : whyN st A = 0) : Calls Tryz.prog 47 #[.pointer (some ⟨db, 0, none⟩), .int .i64 A] w fun e w' => ∃ ao c, e = .returned (.tuple #[.slice ao 256 c, .int .i64 0]) ∧ Room w' w.heap.size ao 256 c (bts (reads st A 4)) ∧ Chg [] w w' := by
  obtain ⟨g, fa, cf, d, hW, ht⟩ := h
  exact dread_yes A w0.heap.size db g fa cf st w d hW hw
theorem v_read_no (z : Int) (hw : whyN st z ≠ 0) : Calls Tryz.prog 47 #[.pointer (some ⟨db, 0, none⟩), .int .i64 z] w fun e w' => e = .returned (.tuple #[.slice none 0 0, .int .i64 (whyN st z)]) ∧ w = w' := by
  obtain ⟨g, fa, cf, d, hW, ht⟩ := h
  exact dread_no z w0.heap.size db g fa cf st w d hW hw
theorem v_blocks : Calls Tryz.prog 48 #[.pointer (some ⟨db, 0, none⟩)] w fun e w' => e = .returned (.int .i64 st.count) ∧ w = w' := by
  obtain ⟨g, fa, cf, d, hW, ht⟩ := h
  exact blocks_any w0.heap.size db g fa cf st w d hW
theorem v_off : Calls Tryz.prog 60 #[.pointer (some ⟨db, 0, none⟩)] w fun e w' => e = .returned (.bool st.gone) ∧ w = w' := by
  obtain ⟨g, fa, cf, d, hW, ht⟩ := h
  exact off_any w0.heap.size db g fa cf st w d
end
theorem v_new (n : Nat) (hn : 1 ≤ n ∧ n ≤ 1024) (w0 w : World) (hb : Chg [] w0 w) (tag : Nat → Nat) (i : Nat) : Calls Tryz.prog 7 #[.int .i64 (n : Int)] w fun e w' => ∃ db, e = .returned (.tuple #[.pointer (some ⟨db, 0, none⟩), .int .i64 0]) ∧ ∃ tag', HasDev w0 w' tag' i db (RS.new n) ∧ Still tag tag' w w' := by
  refine (dnew_yes n (by omega) (by omega) w).mono ?_
  rintro e w' ⟨db, g, he, hd, hg⟩
  refine ⟨db, he, mark tag w.heap.size i, ⟨g, none, 0, ?_, new_whole n (by omega), fun k hk => mark_new _ _ _ _ (hd.lt k hk).1⟩, hg, fun k hk => mark_old _ _ _ _ hk⟩
  exact hd.base hb.size
/-! ### a cache over its disk -/
def HasPair (w0 w : World) (tag : Nat → Nat) (i db cb : Nat) (K : List KE) (st : RS) (most u : Nat) : Prop :=
  ∃ g fa cf mb la cl E L uses, Pair w0 w (fun k => k < w.heap.size ∧ tag k ≠ i) db g fa cf st cb mb la cl E L most uses ∧ L.map absE = K ∧ uses ≤ u
section
variable {w0 w w' : World} {tag tag' : Nat → Nat} {i j db cb : Nat} {K : List KE} {st : RS} {most u : Nat}
theorem pair_tag {g : DG} {fa : Option Addr} {cf : Nat} {mb : Nat} {la : Option Addr} {cl : Nat} {E L : List Ent} {uses : Nat} (h : Pair w0 w (fun k => k < w.heap.size ∧ tag k ≠ i) db g fa cf st cb mb la cl E L most uses) {k : Nat} (hk : k ∈ CF cb mb la cl E ∨ k ∈ DF db g fa cf) : tag k = i := by
  by_cases h9 : tag k = i
  · exact h9
  · rcases hk with hk | hk
    · exact absurd hk (h.r k ⟨(h.k.lt k hk).2, h9⟩).1
    · exact absurd hk (h.r k ⟨(h.d.lt k hk).2, h9⟩).2.1
theorem HasPair.mono (h : HasPair w0 w tag i db cb K st most u) {u' : Nat} (hu : u ≤ u') : HasPair w0 w tag i db cb K st most u' := by
  obtain ⟨g, fa, cf, mb, la, cl, E, L, uses, p, e, h1⟩ := h
  exact ⟨g, fa, cf, mb, la, cl, E, L, uses, p, e, Nat.le_trans h1 hu⟩
theorem HasPair.dev (h : HasPair w0 w tag i db cb K st most u) : HasDev w0 w tag i db st := by
  obtain ⟨g, fa, cf, mb, la, cl, E, L, uses, p, e, h1⟩ := h
  exact ⟨g, fa, cf, p.d, p.W, fun k hk => pair_tag p (Or.inr hk)⟩
theorem HasPair.chg (h : HasPair w0 w tag i db cb K st most u) : Chg [] w0 w := by
  obtain ⟨g, fa, cf, mb, la, cl, E, L, uses, p, e, h1⟩ := h
  exact p.c
theorem HasPair.stay (h : HasPair w0 w tag j db cb K st most u) (t : Turn w0.heap.size tag tag' i w w') (hij : i ≠ j) : HasPair w0 w' tag' j db cb K st most u := by
  obtain ⟨g, fa, cf, mb, la, cl, E, L, uses, p, e, h1⟩ := h
  obtain ⟨⟨S, hS, h2⟩, h3⟩ := t
  have hc : Chg (S.filter (fun k => decide (k < w.heap.size))) w w' := hS.mono (fun k hk hlt => List.mem_filter.2 ⟨hk, by simpa using hlt⟩)
  have h4 := p.chg hc (fun k hk => by
    obtain ⟨h8, h7⟩ := List.mem_filter.1 hk
    have := h2 k h8
    exact ⟨⟨by simpa using h7, by omega⟩, this.2⟩)
  refine ⟨g, fa, cf, mb, la, cl, E, L, uses, ⟨h4.d, h4.k, h4.u, h4.c, h4.W, h4.x, fun k hk => ?_⟩, e, h1⟩
  by_cases h9 : k < w.heap.size
  · rw [h3 k h9] at hk
    exact h4.r k ⟨h9, hk.2⟩
  · exact ⟨fun hm => by have := (p.k.lt k hm).2; omega, fun hm => by have := (p.d.lt k hm).2; omega, hk.1⟩
theorem HasPair.still (h : HasPair w0 w tag j db cb K st most u) (t : Still tag tag' w w') : HasPair w0 w' tag' j db cb K st most u := h.stay (t.turn _ (j + 1)) (by omega)
/-- The tags behind a call of the cache or its disk. -/
theorem pair_mark (hb : Base w0 w tag) (hi : i ≠ 0) {R' : Nat → Prop} {g : DG} {fa : Option Addr} {cf : Nat} {mb : Nat} {la : Option Addr} {cl : Nat} {E L : List Ent} {uses : Nat}
    (hp : Pair w0 w' R' db g fa cf st cb mb la cl E L most uses) (hR : ∀ k, k < w.heap.size → tag k ≠ i → R' k) (o : Off (fun k => k < w.heap.size ∧ tag k ≠ i) w w') :
    Pair w0 w' (fun k => k < w'.heap.size ∧ mark tag w.heap.size i k ≠ i) db g fa cf st cb mb la cl E L most uses ∧ Turn w0.heap.size tag (mark tag w.heap.size i) i w w' := by
  obtain ⟨S, hS, h1⟩ := o
  have hc : Chg (S.filter (fun k => decide (k < w.heap.size))) w w' := hS.mono (fun k hk hlt => List.mem_filter.2 ⟨hk, by simpa using hlt⟩)
  refine ⟨⟨hp.d, hp.k, hp.u, hp.c, hp.W, hp.x, fun k hk => ?_⟩, ⟨_, hc, fun k hk => ?_⟩, fun k hk => mark_old _ _ _ _ hk⟩
  · by_cases h9 : k < w.heap.size
    · rw [mark_old _ _ _ _ h9] at hk
      exact hp.r k (hR k h9 hk.2)
    · rw [mark_new _ _ _ _ (by omega)] at hk
      exact absurd rfl hk.2
  · obtain ⟨h8, h7⟩ := List.mem_filter.1 hk
    have h6 : k < w.heap.size := by simpa using h7
    have h5 : tag k = i := by
      by_cases h9 : tag k = i
      · exact h9
      · exact absurd ⟨h6, h9⟩ (h1 k h8)
    refine ⟨h5, ?_⟩
    by_cases h9 : w0.heap.size ≤ k
    · exact h9
    · have := hb.lo k (by omega); omega
end
section
variable {w0 w : World} {tag : Nat → Nat} {i db cb : Nat} {K : List KE} {st : RS} {most u : Nat} (h : HasPair w0 w tag i db cb K st most u) (hb : Base w0 w tag) (hi : i ≠ 0)
include h hb hi
theorem p_put (z : Int) (hu : u ≤ 1000000000000000) (hLb : st.L.length ≤ 1000000000) (ab : Option Addr) (n c : Nat) (b : List UInt8) (gb : Reads w ab (bts b)) (gn : b.length = n) (hab : ∀ k, k ∈ blk ab → tag k ≠ i ∧ k < w.heap.size) :
    Calls Tryz.prog 18 #[.pointer (some ⟨cb, 0, none⟩), .int .i64 z, .slice ab n c] w fun e w' => e = .returned (.int .i64 (kput most K st z b).1) ∧ ∃ tag', HasPair w0 w' tag' i db cb (kput most K st z b).2.1 (kput most K st z b).2.2 most (u + 1) ∧ Turn w0.heap.size tag tag' i w w' := by
  obtain ⟨g, fa, cf, mb, la, cl, E, L, uses, p, e, h1⟩ := h
  refine (pair_put w0 w _ db g fa cf st cb mb la cl E L most uses p K _ _ z ab n c b _ e rfl (by omega) hLb gb gn (fun k hk => Or.inl ⟨(hab k hk).2, (hab k hk).1⟩)).mono ?_
  rintro e w' ⟨he, fa', cf', la', cl', E', L', uses', p', e', h2, o⟩
  obtain ⟨q1, q2⟩ := pair_mark hb hi p' (fun k h1 h2 => ⟨h1, h2⟩) o
  exact ⟨he, _, ⟨g, fa', cf', mb, la', cl', E', L', uses', q1, e', by omega⟩, q2⟩
theorem p_flush (hLb : st.L.length ≤ 999990000) : Calls Tryz.prog 117 #[.pointer (some ⟨cb, 0, none⟩)] w fun e w' => e = .returned (.int .i64 (kflush K st).1) ∧ ∃ tag', HasPair w0 w' tag' i db cb (kflush K st).2.1 (kflush K st).2.2 most u ∧ Turn w0.heap.size tag tag' i w w' := by
  obtain ⟨g, fa, cf, mb, la, cl, E, L, uses, p, e, h1⟩ := h
  refine (pair_flush w0 w _ db g fa cf st cb mb la cl E L most uses p K _ _ _ e rfl hLb).mono ?_
  rintro e w' ⟨he, fa', cf', E', L', p', e', o⟩
  obtain ⟨q1, q2⟩ := pair_mark hb hi p' (fun k h1 h2 => ⟨h1, h2⟩) o
  exact ⟨he, _, ⟨g, fa', cf', mb, la, cl, E', L', uses, q1, e', h1⟩, q2⟩
theorem p_barrier : Calls Tryz.prog 42 #[.pointer (some ⟨db, 0, none⟩)] w fun e w' => e = .returned (.int .i64 (barrier st).1) ∧ ∃ tag', HasPair w0 w' tag' i db cb K (barrier st).2 most u ∧ Turn w0.heap.size tag tag' i w w' := by
  obtain ⟨g, fa, cf, mb, la, cl, E, L, uses, p, e, h1⟩ := h
  refine (pair_barrier w0 w _ db g fa cf st cb mb la cl E L most uses p).mono ?_
  rintro e1 w' ⟨he, fa', cf', p', o⟩
  obtain ⟨q1, q2⟩ := pair_mark hb hi p' (fun k h1 h2 => ⟨h1, h2⟩) o
  exact ⟨he, _, ⟨g, fa', cf', mb, la, cl, E, L, uses, q1, e, h1⟩, q2⟩
theorem p_write (z : Int) (hLb : st.L.length ≤ 1000000000) (ab : Option Addr) (nb cb' : Nat) (b : List UInt8) (gb : Reads w ab (bts b)) (gn : b.length = nb) (gc : nb ≤ cb') (gm : cb' ≤ 140737488355328) (hab : ∀ k, k ∈ blk ab → tag k ≠ i ∧ k < w.heap.size) :
    Calls Tryz.prog 41 #[.pointer (some ⟨db, 0, none⟩), .int .i64 z, .slice ab nb cb'] w fun e w' => e = .returned (.int .i64 (write st z b).1) ∧ ∃ tag', HasPair w0 w' tag' i db cb K (write st z b).2 most u ∧ Turn w0.heap.size tag tag' i w w' := by
  obtain ⟨g, fa, cf, mb, la, cl, E, L, uses, p, e, h1⟩ := h
  refine (pair_write w0 w _ db g fa cf st cb mb la cl E L most uses p z hLb ab nb cb' b gb gn gc gm (fun k hk => ⟨(hab k hk).2, (hab k hk).1⟩)).mono ?_
  rintro e1 w' ⟨he, fa', cf', p', o⟩
  obtain ⟨q1, q2⟩ := pair_mark hb hi p' (fun k h1 h2 => ⟨h1, h2⟩) o
  exact ⟨he, _, ⟨g, fa', cf', mb, la, cl, E, L, uses, q1, e, h1⟩, q2⟩
end
theorem v_cache {w0 w : World} {tag : Nat → Nat} {i db : Nat} {st : RS} (h : HasDev w0 w tag i db st) (hb : Base w0 w tag) (hi : i ≠ 0) (n : Nat) (hn : 1 ≤ n ∧ n ≤ 1024) : Calls Tryz.prog 49 #[.pointer (some ⟨db, 0, none⟩), .int .i64 (n : Int)] w fun e w' => ∃ cb, e = .returned (.tuple #[.pointer (some ⟨cb, 0, none⟩), .int .i64 0]) ∧ ∃ tag', HasPair w0 w' tag' i db cb [] st n 0 ∧ Still tag tag' w w' := by
  obtain ⟨g, fa, cf, d, hW, ht⟩ := h
  refine (cnew_yes n hn w0 w (fun k => k < w.heap.size ∧ tag k ≠ i) db g fa cf st d hb.c hW (fun k hk => ⟨fun hm => hk.2 (ht k hm), hk.1⟩)).mono ?_
  rintro e w' ⟨cb, mb, he, p, c⟩
  obtain ⟨q1, q2⟩ := pair_mark hb hi p (fun k h1 h2 => ⟨h1, h2⟩) (Off.keep c)
  exact ⟨cb, he, _, ⟨g, fa, cf, mb, none, 0, [], [], 0, q1, rfl, Nat.le_refl _⟩, c, q2.2⟩
/-! ### steps in turn -/
theorem runA_cons {α : Type} (f : α → Int × α) (r : List (α → Int × α)) (a : α) : runA (f :: r) a = if (f a).1 = 0 then runA r (f a).2 else f a := rfl
set_option maxHeartbeats 1000000 in
theorem inTurn_any {α : Type} (ao : Option Addr) (n c : Nat) (hc : n ≤ 1000) (vs : List Value) (fs : List (α → Int × α)) (J : Nat → α → World → Prop) (hn : vs.length = n) (hf : fs.length = n)
    (hs : ∀ (i : Nat) (v : Value) (f : α → Int × α), vs[i]? = some v → fs[i]? = some f → ∃ g lb, v = .func (.func g) lb #[] ∧ Enters Tryz.prog g ∧ ∀ a w, J i a w → Calls Tryz.prog g lb w fun e w' => e = .returned (.int .i64 (f a).1) ∧ J (i + 1) (f a).2 w')
    (hr : ∀ i a w, J i a w → Reads w ao vs) (a : α) (w : World) (h : J 0 a w) :
    Calls Tryz.prog 51 #[.slice ao n c] w fun e w' => ∃ j, j ≤ n ∧ e = .returned (.int .i64 (runA fs a).1) ∧ J j (runA fs a).2 w' := by
  have HN := mkHid hn
  have HF := mkHid hf
  clear hn hf
  go_enter Tryz.func51, Tryz.ntmps51
  go_wp2_with fail
  go_loopw [8] (fun iv wr => ∃ (k : Nat) (b : α), iv = .int .i64 k ∧ k ≤ n ∧ J k b wr ∧ runA (fs.drop k) b = runA fs a) (fun iv _ => n - (Go.RowKit.intOf iv).toNat)
  case atStart => exact ⟨0, a, rfl, Nat.zero_le _, h, rfl⟩
  case round =>
    obtain ⟨k, b, rfl, hk, hJ, hrun⟩ := hrel
    by_cases hlt : k < n
    · have d1 : decide (k < n) = true := decide_eq_true hlt
      have d2 : decide ((k : Int) < (n : Int)) = true := decide_eq_true (by omega)
      have hv := List.getElem?_eq_getElem (show k < vs.length by rw [HN.out]; exact hlt)
      obtain ⟨f, hfk⟩ : ∃ f, fs[k]? = some f := ⟨_, List.getElem?_eq_getElem (show k < fs.length by rw [HF.out]; exact hlt)⟩
      obtain ⟨hkl, hfe⟩ := List.getElem?_eq_some_iff.1 hfk
      obtain ⟨g, lb, ev, he, hstep⟩ := hs k _ _ hv hfk
      obtain ⟨xb, xo, rfl, ck, _⟩ := reads_lt (hr k b wr hJ) k _ hv
      rw [ev] at ck
      have eg : ∀ (args : Array Value) (w : World), (callFunc g args).run Tryz.prog w = .ok (.enter g args) w := he
      have cS := hstep b wr hJ
      rw [List.drop_eq_getElem_cons hkl, hfe, runA_cons] at hrun
      obtain ⟨v, hvv⟩ : ∃ v, (f b).1 = v := ⟨_, rfl⟩
      obtain ⟨b', hb'⟩ : ∃ b', (f b).2 = b' := ⟨_, rfl⟩
      have efb : f b = (v, b') := by rw [← hvv, ← hb']
      rw [efb] at cS hrun
      dsimp only at cS hrun
      have HR := mkHid hrun
      clear hrun hv hfk hfe ev he hstep hJ hvv hb' efb
      by_cases hv0 : v = 0
      · subst hv0
        have HR2 := mkHid HR.out
        go_wp2_with fail
        refine cS.mono ?_
        rintro e w1 ⟨rfl, hJ1⟩
        go_wp2_with fail
        exact ⟨⟨k + 1, b', by first | rfl | go_num, by omega, hJ1, by have := HR.out; simpa using this⟩, by simp [Go.RowKit.intOf]; omega⟩
      · have d3 : (v != 0) = true := by simpa using hv0
        have e := HR.out
        rw [if_neg hv0] at e
        have HE := mkHid e
        clear HR e hv0
        go_wp2_with fail
        refine cS.mono ?_
        rintro e w1 ⟨rfl, hJ1⟩
        go_wp2_with fail
        go_ret
        rw [← HE.out]
        exact ⟨k + 1, by omega, rfl, hJ1⟩
    · have e : k = n := by omega
      subst e
      have d1 : decide (k < k) = false := by simp
      have e : runA fs a = (0, b) := by rw [← hrun, List.drop_eq_nil_of_le (by rw [HF.out]; exact Nat.le_refl _)]; rfl
      have HE := mkHid e
      clear hrun e
      go_wp2_with fail
      go_ret
      rw [HE.out]
      exact ⟨k, Nat.le_refl _, rfl, hJ⟩
end Go.Proofs.YtoeijomelabbfaaGreatDoor

/- The reference: May, lay, number. -/
namespace Go.Proofs.YtoeijomelabbfaaGreatDoor
set_option maxRecDepth 200000
open Go.RowKit
set_option linter.unusedVariables false
set_option linter.unusedSimpArgs false
attribute [local go_sem ↓] Go.wp_at_zero Go.wp_at_succ

/-- A superblock's cells in a block. -/
structure SupAt (w : World) (b : Nat) (s : SB) : Prop where
  c0 : w.cell? ⟨b, 0, none⟩ = some (.int .u64 s.G)
  c1 : w.cell? ⟨b, 1, none⟩ = some (.int .i64 s.B)
  c2 : w.cell? ⟨b, 2, none⟩ = some (.int .u64 s.D)
  c3 : w.cell? ⟨b, 3, none⟩ = some (.int .u64 s.X)
theorem SupAt.keep {w w' : World} {b : Nat} {s : SB} {S : List Nat} (h : SupAt w b s) (g : Chg S w w') (hb : b ∉ S) : SupAt w' b s :=
  ⟨g.cellv h.c0 hb, g.cellv h.c1 hb, g.cellv h.c2 hb, g.cellv h.c3 hb⟩
def supObj (s : SB) : Obj := .cells #[.int .u64 s.G, .int .i64 s.B, .int .u64 s.D, .int .u64 s.X] 53
theorem sup_laid (w : World) (s : SB) : SupAt (w.alloc (supObj s)) w.heap.size s := by
  have hl := heap_alloc_last w (supObj s)
  have hc := fun j => cell_of_row _ w.heap.size j _ _ _ hl
  exact ⟨by rw [hc]; rfl, by rw [hc]; rfl, by rw [hc]; rfl, by rw [hc]; rfl⟩
end Go.Proofs.YtoeijomelabbfaaGreatDoor

/- The reference: lay, number. -/

namespace Go.Proofs.YtoeijomelabbfaaGreatDoor
set_option maxRecDepth 200000
open Go.RowKit
set_option linter.unusedVariables false
set_option linter.unusedSimpArgs false
attribute [local go_sem ↓] Go.wp_at_zero Go.wp_at_succ

theorem Own.in {w0 w : World} {b n : Nat} {l : List UInt8} (h : Own w0 w b n l) (hn : 0 < n) : w0.heap.size ≤ b ∧ b < w.heap.size := h.r.lt b (by rw [fp_some _ _ _ hn]; simp)
theorem Own.chg {w0 w w' : World} {b n : Nat} {l : List UInt8} (h : Own w0 w b n l) (g : Chg [b] w w') (hn : 0 < n) : Chg [] w0 w' :=
  h.g.trans g (fun _ h _ => h) (fun k hk hlt => by simp at hk; have := (h.in hn).1; omega)
/-- Bytes with others laid over them at a place. -/
def over (xs : List UInt8) (p : Nat) (ys : List UInt8) : List UInt8 := xs.take p ++ (ys ++ xs.drop (p + ys.length))
end Go.Proofs.YtoeijomelabbfaaGreatDoor

/- The reference: Put. -/
namespace Go.Proofs.YtoeijomelabbfaaGreatDoor
set_option maxRecDepth 200000
open Go.RowKit
set_option linter.unusedVariables false
set_option linter.unusedSimpArgs false
attribute [local go_sem ↓] Go.wp_at_zero Go.wp_at_succ

theorem wrap_of_may {s : SB} (h : s.may = true) : IntKind.u64.wrap s.B = (s.B.toNat : Int) ∧ s.B.toNat < 2 ^ 64 := by
  rw [SB.may_iff] at h
  refine ⟨?_, by omega⟩
  rw [IntKind.wrap_u64]
  omega
def f0 : List UInt8 := [99, 105, 115, 116]
end Go.Proofs.YtoeijomelabbfaaGreatDoor

/- The reference: Take. -/
namespace Go.Proofs.YtoeijomelabbfaaGreatDoor
set_option maxRecDepth 200000
open Go.RowKit
set_option linter.unusedVariables false
set_option linter.unusedSimpArgs false
attribute [local go_sem ↓] Go.wp_at_zero Go.wp_at_succ

/-- What a Take answers. -/
def STake (w : World) (l : List UInt8) (e : Ending) (w' : World) : Prop :=
  e = .returned (.tuple #[(takeS l).2.v, .int .i64 (takeS l).1]) ∧ Chg [] w w'
theorem stake_no {w w' : World} {l : List UInt8} (C : Nat) (hC : takeS l = (C, SB.none)) (g : Chg [] w w') : STake w l (.returned (.tuple #[.agg #[.int .u64 0, .int .i64 0, .int .u64 0, .int .u64 0], .int .i64 (C : Int)])) w' := ⟨by rw [hC]; rfl, g⟩
theorem take_short {l : List UInt8} (h : l.length < 64) : takeS l = (4, SB.none) := by unfold takeS; rw [if_pos h]
theorem take_long {l : List UInt8} (h : 64 < l.length) : takeS l = (3, SB.none) := by unfold takeS; rw [if_neg (by omega), if_pos h]
theorem take_none {l : List UInt8} (h : l.length = 64) (hn : ¬ ((readS l).may = true ∧ (readS l).form = l)) : takeS l = (23, SB.none) := by unfold takeS; rw [if_neg (by omega), if_neg (by omega), if_neg hn]
theorem take_yes {l : List UInt8} (h : l.length = 64) (hn : (readS l).may = true ∧ (readS l).form = l) : takeS l = (0, readS l) := by unfold takeS; rw [if_neg (by omega), if_neg (by omega), if_pos hn]
theorem four_chg (wr : World) (R : Nat) (x y z u : Value) : Chg [R] wr ((((wr.setCell ⟨R, 0, none⟩ x).setCell ⟨R, 1, none⟩ y).setCell ⟨R, 2, none⟩ z).setCell ⟨R, 3, none⟩ u) :=
  (((Chg.setCell wr ⟨R, 0, none⟩ x).trans (Chg.setCell _ ⟨R, 1, none⟩ y) (fun _ h _ => h) (fun _ h _ => h)).trans (Chg.setCell _ ⟨R, 2, none⟩ z) (fun _ h _ => h) (fun _ h _ => h)).trans (Chg.setCell _ ⟨R, 3, none⟩ u) (fun _ h _ => h) (fun _ h _ => h)
/-- A superblock's box in new memory, that may be written. -/
structure Res4 (w0 w : World) (b : Nat) : Prop where
  k0 : (w.cell? ⟨b, 0, none⟩).isSome = true
  k1 : (w.cell? ⟨b, 1, none⟩).isSome = true
  k2 : (w.cell? ⟨b, 2, none⟩).isSome = true
  k3 : (w.cell? ⟨b, 3, none⟩).isSome = true
  z0 : w.frozen? ⟨b, 0, none⟩ = false
  z1 : w.frozen? ⟨b, 1, none⟩ = false
  z2 : w.frozen? ⟨b, 2, none⟩ = false
  z3 : w.frozen? ⟨b, 3, none⟩ = false
  g : Chg [] w0 w
  nb : w0.heap.size ≤ b
theorem isSome_chg {S : List Nat} {w w' : World} {p : Addr} (h : (w.cell? p).isSome = true) (g : Chg S w w') (hn : p.block ∉ S) : (w'.cell? p).isSome = true := by
  obtain ⟨v, hv⟩ := Option.isSome_iff_exists.1 h
  rw [g.cellv hv hn]
  rfl
theorem frozen_chg {S : List Nat} {w w' : World} {p : Addr} (h : (w.cell? p).isSome = true) (z : w.frozen? p = false) (g : Chg S w w') (hn : p.block ∉ S) : w'.frozen? p = false := by
  obtain ⟨v, hv⟩ := Option.isSome_iff_exists.1 h
  rw [g.frozen (block_lt_of_cell hv) hn]
  exact z
theorem Res4.keep {w0 w w' : World} {b : Nat} (h : Res4 w0 w b) (g : Chg [] w w') : Res4 w0 w' b :=
  ⟨isSome_chg h.k0 g (by simp), isSome_chg h.k1 g (by simp), isSome_chg h.k2 g (by simp), isSome_chg h.k3 g (by simp), frozen_chg h.k0 h.z0 g (by simp), frozen_chg h.k1 h.z1 g (by simp), frozen_chg h.k2 h.z2 g (by simp), frozen_chg h.k3 h.z3 g (by simp), h.g.then g, h.nb⟩
theorem Res4.keep1 {w0 w w' : World} {b k : Nat} (h : Res4 w0 w b) (g : Chg [k] w w') (hk : w0.heap.size ≤ k) (hb : b ≠ k) : Res4 w0 w' b :=
  ⟨isSome_chg h.k0 g (by simpa using hb), isSome_chg h.k1 g (by simpa using hb), isSome_chg h.k2 g (by simpa using hb), isSome_chg h.k3 g (by simpa using hb), frozen_chg h.k0 h.z0 g (by simpa using hb), frozen_chg h.k1 h.z1 g (by simpa using hb), frozen_chg h.k2 h.z2 g (by simpa using hb), frozen_chg h.k3 h.z3 g (by simpa using hb), h.g.trans g (fun _ h _ => h) (fun q hq hlt => by simp at hq; omega), h.nb⟩
theorem res4_made (w0 w : World) (g : Chg [] w0 w) (x y z u : Value) : Res4 w0 (w.alloc (.cells #[x, y, z, u] 53)) w.heap.size := by
  have hl := heap_alloc_last w (.cells #[x, y, z, u] 53)
  have hc := fun j => cell_of_row _ w.heap.size j _ _ _ hl
  have hf := fun j => frozen_of_row _ w.heap.size j _ _ hl
  exact ⟨by rw [hc]; rfl, by rw [hc]; rfl, by rw [hc]; rfl, by rw [hc]; rfl, hf 0, hf 1, hf 2, hf 3, g.then (Chg.alloc [] w _), g.size⟩
theorem Res4.done {w0 w : World} {b : Nat} (h : Res4 w0 w b) (x y z u : Value) : Chg [] w0 ((((w.setCell ⟨b, 0, none⟩ x).setCell ⟨b, 1, none⟩ y).setCell ⟨b, 2, none⟩ z).setCell ⟨b, 3, none⟩ u) :=
  h.g.trans (four_chg w b x y z u) (fun _ h _ => h) (fun q hq hlt => by simp at hq; have := h.nb; omega)
end Go.Proofs.YtoeijomelabbfaaGreatDoor

/- The reference: Choose. -/
namespace Go.Proofs.YtoeijomelabbfaaGreatDoor
set_option maxRecDepth 200000
open Go.RowKit
set_option linter.unusedVariables false
set_option linter.unusedSimpArgs false
attribute [local go_sem ↓] Go.wp_at_zero Go.wp_at_succ

/-- What a Choose answers. -/
def SChoose (w : World) (l k : List UInt8) (e : Ending) (w' : World) : Prop :=
  e = .returned (.tuple #[(chooseS l k).1.v, .int .i64 (chooseS l k).2.1, .int .i64 (chooseS l k).2.2]) ∧ Chg [] w w'
theorem schoose_of {w w' : World} {l k : List UInt8} {s : SB} {i e : Nat} (h : chooseS l k = (s, i, e)) (g : Chg [] w w') : SChoose w l k (.returned (.tuple #[s.v, .int .i64 (i : Int), .int .i64 (e : Int)])) w' := by
  unfold SChoose
  rw [h]
  exact ⟨rfl, g⟩
end Go.Proofs.YtoeijomelabbfaaGreatDoor

/- What the program's calls are to answer (Sup); the law's awake, torn; arguments opened; bytes.Equal. -/
namespace Go.Proofs.YtoeijomelabbfaaGreatDoor
set_option maxRecDepth 200000
open Go.ChangeShapes Go.WideShapes Go.ChangeAt Go.RowKit
set_option linter.unusedVariables false
set_option linter.unusedSimpArgs false
attribute [local go_sem ↓] Go.wp_at_zero Go.wp_at_succ

/-- What the program's Put answers. -/
def PPut (w : World) (s : SB) (e : Ending) (w' : World) : Prop :=
  Chg [] w w' ∧ ((s.may = true ∧ ∃ b o c, e = .returned (.tuple #[.slice (some ⟨b, o, none⟩) 64 c, .int .i64 0]) ∧ Room w' w.heap.size (some ⟨b, o, none⟩) 64 c (bts s.form)) ∨ (s.may = false ∧ e = .returned (.tuple #[.slice none 0 0, .int .i64 1])))
/-- The numbers are such as the program has them. -/
def SB.Fits (s : SB) : Prop := s.G < 2 ^ 64 ∧ s.D < 2 ^ 64 ∧ s.X < 2 ^ 64 ∧ -9223372036854775808 ≤ s.B ∧ s.B < 9223372036854775808
theorem SB.fits_of_may {s : SB} (h : s.may = true) : s.Fits := by
  rw [SB.may_iff] at h
  exact ⟨by omega, by omega, by omega, by omega, by omega⟩
theorem SB.Fits.wide {s : SB} (h : s.Fits) : s.Wide := ⟨h.1, h.2.1, h.2.2.1⟩
structure Sup : Prop where
  may : ∀ (s : SB) (w : World), s.Fits → Calls Tryz.prog 92 #[s.v] w fun e w' => e = .returned (.bool s.may) ∧ Chg [] w w'
  put : ∀ (s : SB) (w : World), s.Fits → Calls Tryz.prog 162 #[s.v] w (PPut w s)
  take : ∀ (ao : Option Addr) (n c : Nat) (l : List UInt8) (w : World), Reads w ao (bts l) → l.length = n → n ≤ c → c ≤ maxLen → Calls Tryz.prog 166 #[.slice ao n c] w (STake w l)
  choose : ∀ (ao : Option Addr) (n c : Nat) (l : List UInt8) (bo : Option Addr) (m d : Nat) (k : List UInt8) (w : World), Reads w ao (bts l) → l.length = n → n ≤ c → c ≤ maxLen → Reads w bo (bts k) → k.length = m → m ≤ d → d ≤ maxLen → Calls Tryz.prog 129 #[.slice ao n c, .slice bo m d] w (SChoose w l k)

/-! ### the argument, opened -/
section
variable {H : Type} {enc : TypeId × Value → H} {P : Program} {w : World} {base : Nat} {spare : Nat → Bool} {held : Bool}
theorem trod_struct4 {t : TypeId} {f0 f1 f2 f3 : Field} {fuel : Nat} {cs : List Value} {x : DataW H × List MemPlace} (ht : P.underlying t = some (.struct #[f0, f1, f2, f3])) (h : DataW.trod enc P w base spare held fuel t cs = some x) :
    ∃ y0 y1 y2 y3 n, x = (.agg [y0.1, y1.1, y2.1, y3.1], y0.2 ++ (y1.2 ++ (y2.2 ++ y3.2))) ∧ cs.length = P.cellsOf t ∧ DataW.trod enc P w base spare held n f0.type ((cs.drop f0.offset).take (P.cellsOf f0.type)) = some y0 ∧
      DataW.trod enc P w base spare held n f1.type ((cs.drop f1.offset).take (P.cellsOf f1.type)) = some y1 ∧ DataW.trod enc P w base spare held n f2.type ((cs.drop f2.offset).take (P.cellsOf f2.type)) = some y2 ∧ DataW.trod enc P w base spare held n f3.type ((cs.drop f3.offset).take (P.cellsOf f3.type)) = some y3 := by
  obtain ⟨xs, n, _, rfl, hl, hlen, hf⟩ := DataW.trod_struct ht h
  match xs, hlen with
  | [y0, y1, y2, y3], _ => exact ⟨y0, y1, y2, y3, n, by simp, hl, by simpa using hf 0 f0 rfl, by simpa using hf 1 f1 rfl, by simpa using hf 2 f2 rfl, by simpa using hf 3 f3 rfl⟩
end
theorem wf_i64 {z : Int} (h : (Lit.int .i64 z).wf = true) : -9223372036854775808 ≤ z ∧ z < 9223372036854775808 := by
  have := Go.bounds_i64 h
  omega
end Go.Proofs.YtoeijomelabbfaaGreatDoor

/- The program's rises, May, slotOf. -/

namespace Go.Proofs.YtoeijomelabbfaaGreatDoor
set_option maxRecDepth 200000
open Go.RowKit
set_option linter.unusedVariables false
set_option linter.unusedSimpArgs false
attribute [local go_sem ↓] Go.wp_at_zero Go.wp_at_succ

def rs (n : Nat) : Bool := decide (1 ≤ n ∧ n < 4611686018427387904)
theorem rs_true {n : Nat} (h : rs n = true) : 1 ≤ n ∧ n < 4611686018427387904 := by simpa [rs] using h
theorem rs_false {n : Nat} (h : rs n = false) : ¬ (1 ≤ n ∧ n < 4611686018427387904) := by simpa [rs] using h
theorem rises_any (n : Nat) (w : World) : Calls Tryz.prog 149 #[.int .u64 n] w fun e w' => e = .returned (.bool (rs n)) ∧ w = w' := by
  by_cases h1 : 1 ≤ n
  · have d1 : decide ((1 : Int) ≤ (n : Int)) = true := decide_eq_true (by omega)
    have d1n : decide (1 ≤ n) = true := decide_eq_true (by omega)
    by_cases h2 : n < 4611686018427387904
    · have d2 : decide ((n : Int) ≤ 4611686018427387903) = true := decide_eq_true (by omega)
      have d2n : decide (n ≤ 4611686018427387903) = true := decide_eq_true (by omega)
      have : rs n = true := by simp [rs, h1, h2]
      rw [this]; clear this
      go_enter Tryz.func149, Tryz.ntmps149
      go_wp2
      go_ret
      exact ⟨rfl, rfl⟩
    · have d2 : decide ((n : Int) ≤ 4611686018427387903) = false := decide_eq_false (by omega)
      have d2n : decide (n ≤ 4611686018427387903) = false := decide_eq_false (by omega)
      have : rs n = false := by simp [rs]; omega
      rw [this]; clear this
      go_enter Tryz.func149, Tryz.ntmps149
      go_wp2
      go_ret
      exact ⟨rfl, rfl⟩
  · have d1 : decide ((1 : Int) ≤ (n : Int)) = false := decide_eq_false (by omega)
    have d1n : decide (1 ≤ n) = false := decide_eq_false (by omega)
    have : rs n = false := by simp [rs]; omega
    rw [this]; clear this
    go_enter Tryz.func149, Tryz.ntmps149
    go_wp2
    go_ret
    exact ⟨rfl, rfl⟩
theorem slotOf_any (s : SB) (w : World) : Calls Tryz.prog 167 #[s.v] w fun e w' => e = .returned (.int .i64 ((s.G % 2 : Nat) : Int)) ∧ Chg [] w w' := by
  obtain ⟨c0, c1, c2, c3⟩ := sup_laid w s
  have g0 := Chg.alloc [] w (supObj s)
  obtain ⟨G, B, D, X⟩ := s
  unfold SB.v supObj at *
  dsimp only at *
  go_enter Tryz.func167, Tryz.ntmps167
  go_wp2_with fail
  go_ret
  exact ⟨by simp, g0⟩

set_option maxHeartbeats 4000000 in
theorem may_any (s : SB) (w : World) : Calls Tryz.prog 92 #[s.v] w fun e w' => e = .returned (.bool s.may) ∧ Chg [] w w' := by
  obtain ⟨G, B, D, X⟩ := s
  have g0 := Chg.alloc [] w (supObj ⟨G, B, D, X⟩)
  have HS := sup_laid w ⟨G, B, D, X⟩
  obtain ⟨c0, c1, c2, c3⟩ := HS
  have no : ∀ r : Bool, SB.may ⟨G, B, D, X⟩ = r → ∀ w', Chg [] w w' → (Ending.returned (Value.bool r) = .returned (.bool (SB.may ⟨G, B, D, X⟩)) ∧ Chg [] w w') := fun r hr w' g => ⟨by rw [hr], g⟩
  have NO := mkHid no
  have hm := SB.may_iff ⟨G, B, D, X⟩
  unfold supObj at *
  unfold SB.v
  dsimp only at *
  have kg := rises_any G
  have kx := rises_any X
  cases r1 : rs G with
  | true =>
    rw [r1] at kg
    by_cases h5 : 16 ≤ B
    · have dh5 : decide ((16 : Int) ≤ B) = true := decide_eq_true (by omega)
      by_cases h6 : B ≤ 1024
      · have dh6 : decide (B ≤ (1024 : Int)) = true := decide_eq_true (by omega)
        by_cases h7 : (D : Int) < B
        · have dh7 : decide ((D : Int) < B) = true := decide_eq_true (by omega)
          cases r7 : rs X with
          | true =>
            rw [r7] at kx
            have hf : SB.may ⟨G, B, D, X⟩ = true := by rw [hm]; have := rs_true r1; have := rs_true r7; omega
            have HF := mkHid hf
            have KG := mkHid kg
            have KX := mkHid kx
            clear hf hm no kg kx
            go_enter Tryz.func92, Tryz.ntmps92
            go_wp2_with (first | (go_at_call 149; first | (refine (KG.out _).mono ?_; rintro e w2 ⟨rfl, rfl⟩) | (refine (KX.out _).mono ?_; rintro e w2 ⟨rfl, rfl⟩)))
            go_ret
            exact NO.out _ HF.out _ g0
          | false =>
            rw [r7] at kx
            have hf : SB.may ⟨G, B, D, X⟩ = false := by rw [← Bool.not_eq_true, hm]; have := rs_false r7; omega
            have HF := mkHid hf
            have KG := mkHid kg
            have KX := mkHid kx
            clear hf hm no kg kx
            go_enter Tryz.func92, Tryz.ntmps92
            go_wp2_with (first | (go_at_call 149; first | (refine (KG.out _).mono ?_; rintro e w2 ⟨rfl, rfl⟩) | (refine (KX.out _).mono ?_; rintro e w2 ⟨rfl, rfl⟩)))
            go_ret
            exact NO.out _ HF.out _ g0
        · have dh7 : decide ((D : Int) < B) = false := decide_eq_false (by omega)
          have hf : SB.may ⟨G, B, D, X⟩ = false := by rw [← Bool.not_eq_true, hm]; omega
          have HF := mkHid hf
          have KG := mkHid kg
          have KX := mkHid kx
          clear hf hm no kg kx
          go_enter Tryz.func92, Tryz.ntmps92
          go_wp2_with (first | (go_at_call 149; first | (refine (KG.out _).mono ?_; rintro e w2 ⟨rfl, rfl⟩) | (refine (KX.out _).mono ?_; rintro e w2 ⟨rfl, rfl⟩)))
          go_ret
          exact NO.out _ HF.out _ g0
      · have dh6 : decide (B ≤ (1024 : Int)) = false := decide_eq_false (by omega)
        have hf : SB.may ⟨G, B, D, X⟩ = false := by rw [← Bool.not_eq_true, hm]; omega
        have HF := mkHid hf
        have KG := mkHid kg
        have KX := mkHid kx
        clear hf hm no kg kx
        go_enter Tryz.func92, Tryz.ntmps92
        go_wp2_with (first | (go_at_call 149; first | (refine (KG.out _).mono ?_; rintro e w2 ⟨rfl, rfl⟩) | (refine (KX.out _).mono ?_; rintro e w2 ⟨rfl, rfl⟩)))
        go_ret
        exact NO.out _ HF.out _ g0
    · have dh5 : decide ((16 : Int) ≤ B) = false := decide_eq_false (by omega)
      have hf : SB.may ⟨G, B, D, X⟩ = false := by rw [← Bool.not_eq_true, hm]; omega
      have HF := mkHid hf
      have KG := mkHid kg
      have KX := mkHid kx
      clear hf hm no kg kx
      go_enter Tryz.func92, Tryz.ntmps92
      go_wp2_with (first | (go_at_call 149; first | (refine (KG.out _).mono ?_; rintro e w2 ⟨rfl, rfl⟩) | (refine (KX.out _).mono ?_; rintro e w2 ⟨rfl, rfl⟩)))
      go_ret
      exact NO.out _ HF.out _ g0
  | false =>
    rw [r1] at kg
    have hf : SB.may ⟨G, B, D, X⟩ = false := by rw [← Bool.not_eq_true, hm]; have := rs_false r1; omega
    have HF := mkHid hf
    have KG := mkHid kg
    have KX := mkHid kx
    clear hf hm no kg kx
    go_enter Tryz.func92, Tryz.ntmps92
    go_wp2_with (first | (go_at_call 149; first | (refine (KG.out _).mono ?_; rintro e w2 ⟨rfl, rfl⟩) | (refine (KX.out _).mono ?_; rintro e w2 ⟨rfl, rfl⟩)))
    go_ret
    exact NO.out _ HF.out _ g0
end Go.Proofs.YtoeijomelabbfaaGreatDoor

/- Arrays of bytes: held against one another as a whole; a slice as an array; an array as a slice. No program is named here. -/
namespace Go.Proofs.YtoeijomelabbfaaGreatDoor
set_option maxRecDepth 200000
open Go.RowKit
set_option linter.unusedVariables false
set_option linter.unusedSimpArgs false
section
variable {P : Program} (w : World)
theorem run_eqItems_bytes (d : Nat) {e : TypeId} (he : P.underlying e = some (.int .u8)) (hc : P.cellsOf e = 1) (l m : List UInt8) : ∀ is : List Nat, (∀ i ∈ is, i < l.length ∧ i < m.length) →
    (Op.eqItems (d + 1) e (P.cellsOf e) (bts l).toArray (bts m).toArray is).run P w = .ok (is.all fun i => l[i]? == m[i]?) w
  | [], _ => by simp [Op.eqItems]
  | i :: is, h => by
    have hp : P.plainKey e = true := by simp [Program.plainKey, he]
    obtain ⟨h1, h2⟩ := h i (by simp)
    have p1 := run_part_plain (P := P) w hp (xs := (bts l).toArray) (off := i) (v := .int .u8 (v8 l[i])) (by simpa using bts_get8 l i h1)
    have p2 := run_part_plain (P := P) w hp (xs := (bts m).toArray) (off := i) (v := .int .u8 (v8 m[i])) (by simpa using bts_get8 m i h2)
    have p3 := run_equalIn_int (P := P) w d e .u8 .u8 (v8 l[i]) (v8 m[i]) he
    have ih := run_eqItems_bytes d he hc l m is (fun j hj => h j (by simp [hj]))
    have e1 : (v8 l[i] == v8 m[i]) = (l[i]? == m[i]?) := by
      rw [List.getElem?_eq_getElem h1, List.getElem?_eq_getElem h2, Bool.eq_iff_iff]
      simp only [beq_iff_eq, Option.some.injEq, v8]
      constructor
      · intro h
        exact UInt8.toNat.inj (by omega)
      · intro h
        rw [h]
    simp only [Op.eqItems, hc, Nat.mul_one, Sem.run_bind, p1, p2, p3, Result.andThen_ok, List.all_cons]
    rw [e1]
    cases (l[i]? == m[i]?)
    · simp
    · rw [hc] at ih
      simp [ih]
theorem all_get (l m : List UInt8) (h : l.length = m.length) : ((List.range l.length).all fun i => l[i]? == m[i]?) = (l == m) := by
  rw [Bool.eq_iff_iff, List.all_eq_true, beq_iff_eq]
  constructor
  · intro h1
    apply List.ext_getElem? 
    intro i
    by_cases hi : i < l.length
    · simpa using h1 i (by simpa using hi)
    · rw [List.getElem?_eq_none (by omega), List.getElem?_eq_none (by omega)]
  · rintro rfl i _
    simp
theorem run_equalIn_bytes (d : Nat) {t e : TypeId} {n : Nat} (hu : P.underlying t = some (.array n e)) (he : P.underlying e = some (.int .u8)) (hc : P.cellsOf e = 1) (l m : List UInt8) (hl : l.length = n) (hm : m.length = n) :
    (Op.equalIn (d + 2) t (.agg (bts l).toArray) (.agg (bts m).toArray)).run P w = .ok (l == m) w := by
  obtain ⟨i, hi⟩ := info_of_underlying he
  rw [run_equalIn_array w (d + 1) _ _ hu hi, run_eqItems_bytes w d he hc l m _ (fun j hj => by simp at hj; omega), ← hl, all_get l m (by omega)]
theorem run_neq_bytes {t e : TypeId} {n : Nat} (hu : P.underlying t = some (.array n e)) (he : P.underlying e = some (.int .u8)) (hc : P.cellsOf e = 1) (l m : List UInt8) (hl : l.length = n) (hm : m.length = n) :
    (binOp .neq t (.agg (bts l).toArray) (.agg (bts m).toArray)).run P w = .ok (.bool (!(l == m))) w := by
  rw [run_neq_struct, run_equalIn_bytes w 9998 hu he hc l m hl hm, Result.andThen_ok]
theorem run_arrayAt_k {t e : TypeId} {n : Nat} (hu : P.underlying t = some (.array n e)) (a : Option Addr) (len c : Nat) (h : n ≤ len) : (Instr.arrayAt t (.slice a len c)).run P w = .ok (.pointer a) w := by
  simp only [Instr.arrayAt, Sem.run_bind, run_underlying hu, Result.andThen_ok]
  rw [if_neg (by omega)]
  rfl
end
end Go.Proofs.YtoeijomelabbfaaGreatDoor
