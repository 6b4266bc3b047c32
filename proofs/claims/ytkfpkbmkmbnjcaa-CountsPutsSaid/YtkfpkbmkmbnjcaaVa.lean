/- Counts as pages: what they are, and lists of pages in memory. -/
import Derived.Test.YtkfpkbmkmbnjcaaW
import Derived.Test.YtkfpkbmkmbnjcaaT
import Derived.Deep.QuietTactic
import Derived.BigQuiet
import Derived.RegionTactic
import Derived.Deep.RegionHeld3
import Derived.Deep.RegionLaw
import Derived.Deep.DeepCutAuto
import Derived.Deep.CutBlock
import Derived.Deep.DrawnRows
import Derived.WalkSpells
import Derived.WalkLawsBesides
namespace Go.Proofs.Ytkfpkbmkmbnjcaa
open Go.RowKit
set_option linter.unusedVariables false
set_option linter.unusedSimpArgs false
attribute [local go_sem ↓] Go.wp_at_zero Go.wp_at_succ

theorem eltP : Elt Try.prog 23 22 24 := Elt.mk (z := .slice none 0 0) Try.underlying23 (by kernel_rfl) (by kernel_rfl)
theorem Chg.drewN (w : World) (n : Nat) : Chg [] w (w.drewN n) := ⟨rfl, rfl, rfl, Nat.le_refl _, fun _ _ _ => rfl⟩
theorem ret_bool' {a b : Bool} (h : a = b) : Ending.returned (Value.bool a) = .returned (.bool b) := by rw [h]
theorem oneB : (Try.prog.info? 5).map (·.size) = some 1 := by kernel_rfl

/-! ### the numbers of pages, and what stands on them -/
def npg (n : Nat) : Nat := (n + 239) / 240
theorem npg_zero : npg 0 = 0 := rfl
theorem npg_lt {n i j : Nat} (h : 240 * i + j < n) (hj : j < 240) : i < npg n := by unfold npg; omega
theorem npg_step {k : Nat} (h : k % 240 = 0) : npg (k + 1) = npg k + 1 ∧ npg k = k / 240 := by unfold npg; omega
theorem npg_same {k : Nat} (h : k % 240 ≠ 0) : npg (k + 1) = npg k ∧ k / 240 < npg k := by unfold npg; omega
theorem npg_le (n : Nat) : npg n ≤ n := by unfold npg; omega
theorem npg_240 (n : Nat) : npg n * 240 ≤ n + 239 ∧ n ≤ npg n * 240 := by unfold npg; omega
/-- The pages ps have the first k of the counts L, noughts behind. -/
def IsPut (L : List UInt8) (k : Nat) (ps : List (List UInt8)) : Prop := ps.length = npg k ∧ ∀ (i : Nat) (p : List UInt8), ps[i]? = some p → p.length = 240 ∧ ∀ j, j < 240 → p[j]? = some (if 240 * i + j < k then (L[240 * i + j]?).getD 0 else 0)
theorem IsPut.unique {L : List UInt8} {k : Nat} {ps qs : List (List UInt8)} (h : IsPut L k ps) (g : IsPut L k qs) : ps = qs := by
  apply List.ext_getElem?
  intro i
  by_cases hi : i < npg k
  · have h1 : i < ps.length := by rw [h.1]; exact hi
    have g1 : i < qs.length := by rw [g.1]; exact hi
    rw [List.getElem?_eq_getElem h1, List.getElem?_eq_getElem g1]
    obtain ⟨a1, a2⟩ := h.2 i _ (List.getElem?_eq_getElem h1)
    obtain ⟨b1, b2⟩ := g.2 i _ (List.getElem?_eq_getElem g1)
    congr 1
    apply List.ext_getElem?
    intro j
    by_cases hj : j < 240
    · rw [a2 j hj, b2 j hj]
    · rw [List.getElem?_eq_none (by omega), List.getElem?_eq_none (by omega)]
  · rw [List.getElem?_eq_none (by rw [h.1]; omega), List.getElem?_eq_none (by rw [g.1]; omega)]
theorem IsPut.nil (L : List UInt8) : IsPut L 0 [] := ⟨rfl, fun i p h => by simp at h⟩
theorem IsPut.first {L : List UInt8} {k : Nat} {ps : List (List UInt8)} (h : IsPut L k ps) (hk : k % 240 = 0) {v : UInt8} (hv : L[k]? = some v) : IsPut L (k + 1) (ps ++ [(List.replicate 240 0).set 0 v]) := by
  obtain ⟨e1, e2⟩ := npg_step hk
  refine ⟨by rw [List.length_append, h.1, e1]; rfl, fun i p hp => ?_⟩
  rw [List.getElem?_append] at hp
  split at hp
  · rename_i hi
    rw [h.1] at hi
    obtain ⟨a1, a2⟩ := h.2 i p hp
    refine ⟨a1, fun j hj => ?_⟩
    rw [a2 j hj, if_pos (show 240 * i + j < k by omega), if_pos (show 240 * i + j < k + 1 by omega)]
  · rename_i hi
    rw [h.1] at hi hp
    have hi2 : i - npg k = 0 := by
      have := (List.getElem?_eq_some_iff.1 hp).1
      simp only [List.length_cons, List.length_nil] at this; omega
    rw [hi2] at hp
    simp only [List.getElem?_cons_zero, Option.some.injEq] at hp
    subst hp
    have hik : 240 * i = k := by omega
    refine ⟨by rw [List.length_set, List.length_replicate], fun j hj => ?_⟩
    by_cases h0 : j = 0
    · subst h0
      rw [List.getElem?_set_self (by rw [List.length_replicate]; omega), if_pos (by omega), Nat.add_zero, hik, hv]; rfl
    · rw [List.getElem?_set_ne (fun e => h0 e.symm), List.getElem?_replicate, if_pos hj, if_neg (by omega)]
theorem IsPut.more {L : List UInt8} {k : Nat} {ps : List (List UInt8)} (h : IsPut L k ps) (hk : k % 240 ≠ 0) {v : UInt8} (hv : L[k]? = some v) {p : List UInt8} (hp : ps[k / 240]? = some p) : IsPut L (k + 1) (ps.set (k / 240) (p.set (k % 240) v)) := by
  obtain ⟨e1, e2⟩ := npg_same hk
  refine ⟨by rw [List.length_set, h.1, e1], fun i q hq => ?_⟩
  by_cases hi : i = k / 240
  · subst hi
    rw [List.getElem?_set_self (List.getElem?_eq_some_iff.1 hp).1] at hq
    cases hq
    obtain ⟨a1, a2⟩ := h.2 _ p hp
    refine ⟨by simpa using a1, fun j hj => ?_⟩
    by_cases hj2 : j = k % 240
    · subst hj2
      rw [List.getElem?_set_self (by omega), if_pos (by omega), show 240 * (k / 240) + k % 240 = k by omega, hv]; rfl
    · rw [List.getElem?_set_ne (fun e => hj2 e.symm), a2 j hj]
      by_cases hlt : 240 * (k / 240) + j < k
      · rw [if_pos hlt, if_pos (by omega)]
      · rw [if_neg hlt, if_neg (by omega)]
  · rw [List.getElem?_set_ne (fun e => hi e.symm)] at hq
    obtain ⟨a1, a2⟩ := h.2 i q hq
    refine ⟨a1, fun j hj => ?_⟩
    rw [a2 j hj]
    by_cases hlt : 240 * i + j < k
    · rw [if_pos hlt, if_pos (by omega)]
    · rw [if_neg hlt, if_neg (by omega)]

/-! ### pages in memory -/
/-- A list of byte slices, read. -/
def RdPg (w : World) (ao : Option Addr) (ps : List (List UInt8)) : Prop := ∃ vs : List Value, vs.length = ps.length ∧ Reads w ao vs ∧ ∀ (i : Nat) (p : List UInt8), ps[i]? = some p → ∃ a c, vs[i]? = some (.slice a p.length c) ∧ p.length ≤ c ∧ p.length ≤ 140737488351232 ∧ Reads w a (bts p)
theorem RdPg.keep {w w' : World} {ao : Option Addr} {ps : List (List UInt8)} (h : RdPg w ao ps) (g : Chg [] w w') : RdPg w' ao ps := by
  obtain ⟨vs, h1, h2, h3⟩ := h
  refine ⟨vs, h1, h2.keep g, fun i p hp => ?_⟩
  obtain ⟨a, c, h4, h5, h6, h7⟩ := h3 i p hp
  exact ⟨a, c, h4, h5, h6, h7.keep g⟩
/-- The page at a place: its slice, and what it reads. -/
theorem RdPg.at_ {w : World} {ao : Option Addr} {ps : List (List UInt8)} (h : RdPg w ao ps) {i : Nat} {p : List UInt8} (hp : ps[i]? = some p) : ∃ b o a c, ao = some ⟨b, o, none⟩ ∧ w.cell? ⟨b, o + i, none⟩ = some (.slice a p.length c) ∧ p.length ≤ c ∧ p.length ≤ 140737488351232 ∧ Reads w a (bts p) := by
  obtain ⟨vs, h1, h2, h3⟩ := h
  obtain ⟨a, c, h4, h5, h6, h7⟩ := h3 i p hp
  obtain ⟨b, o, e, hc, _⟩ := reads_lt h2 i _ h4
  exact ⟨b, o, a, c, e, hc, h5, h6, h7⟩
def pv (b : Nat) : Value := .slice (some ⟨b, 0, none⟩) 240 240
/-- Pages of 240 bytes in blocks of their own (bs), the list apart from them; all may be written. -/
structure OPg (w : World) (B : Nat) (ao : Option Addr) (c : Nat) (bs : List Nat) (ps : List (List UInt8)) : Prop where
  ln : bs.length = ps.length
  r : Room w B ao ps.length c (bs.map pv)
  p : ∀ (i b : Nat) (p : List UInt8), bs[i]? = some b → ps[i]? = some p → Room w B (some ⟨b, 0, none⟩) 240 240 (bts p)
  nd : bs.Nodup
  ap : ∀ b, b ∈ bs → b ∉ fp ao c
section
variable {w w' : World} {B : Nat} {ao : Option Addr} {c : Nat} {bs : List Nat} {ps : List (List UInt8)}
theorem OPg.nil (w : World) (B : Nat) : OPg w B none 0 [] [] := ⟨rfl, Room.nil _ _ _, fun i b p h => by simp at h, List.nodup_nil, by simp⟩
theorem OPg.blt (h : OPg w B ao c bs ps) {i b : Nat} (hb : bs[i]? = some b) : B ≤ b ∧ b < w.heap.size := by
  have hi := (List.getElem?_eq_some_iff.1 hb).1
  have hp : ps[i]? = some (ps[i]'(by rw [← h.ln]; exact hi)) := List.getElem?_eq_getElem _
  exact (h.p i b _ hb hp).lt b (by rw [fp_some _ _ _ (by decide)]; simp)
theorem OPg.mlt (h : OPg w B ao c bs ps) {b : Nat} (hb : b ∈ bs) : B ≤ b ∧ b < w.heap.size := by
  obtain ⟨i, hi, rfl⟩ := List.getElem_of_mem hb
  exact h.blt (List.getElem?_eq_getElem hi)
theorem OPg.chg {S : List Nat} (h : OPg w B ao c bs ps) (g : Chg S w w') (h1 : ∀ k, k ∈ fp ao c → k ∉ S) (h2 : ∀ k, k ∈ bs → k ∉ S) : OPg w' B ao c bs ps :=
  ⟨h.ln, h.r.chg g h1, fun i b p hb hp => (h.p i b p hb hp).chg g (fun k hk => by rw [fp_some _ _ _ (by decide)] at hk; simp at hk; subst hk; exact h2 _ (List.mem_of_getElem? hb)), h.nd, h.ap⟩
theorem OPg.keep (h : OPg w B ao c bs ps) (g : Chg [] w w') : OPg w' B ao c bs ps := h.chg g (by simp) (by simp)
theorem OPg.mono {B' : Nat} (h : OPg w B ao c bs ps) (hB : B' ≤ B) : OPg w B' ao c bs ps := ⟨h.ln, h.r.mono hB, fun i b p hb hp => (h.p i b p hb hp).mono hB, h.nd, h.ap⟩
theorem OPg.read (h : OPg w B ao c bs ps) : RdPg w ao ps := by
  refine ⟨bs.map pv, by rw [List.length_map, h.ln], h.r.reads, fun i p hp => ?_⟩
  have hi := (List.getElem?_eq_some_iff.1 hp).1
  have hb : bs[i]? = some (bs[i]'(by rw [h.ln]; exact hi)) := List.getElem?_eq_getElem _
  have hr := h.p i _ p hb hp
  have hl := hr.len
  rw [bts_length] at hl
  refine ⟨some ⟨bs[i]'(by rw [h.ln]; exact hi), 0, none⟩, 240, ?_, by omega, by omega, hr.reads⟩
  rw [List.getElem?_map, hb, hl]; rfl
/-- One byte of one page is written. -/
theorem OPg.set (h : OPg w B ao c bs ps) {i b : Nat} {p : List UInt8} (hb : bs[i]? = some b) (hp : ps[i]? = some p) (j : Nat) (hj : j < 240) (v : UInt8) : OPg (w.setCell ⟨b, j, none⟩ (.int .u8 (v8 v))) B ao c bs (ps.set i (p.set j v)) ∧ Chg [b] w (w.setCell ⟨b, j, none⟩ (.int .u8 (v8 v))) := by
  have g := Chg.setCell w ⟨b, j, none⟩ (.int .u8 (v8 v))
  have hrr := h.r.chg g (fun k hk hm => by
    simp at hm
    subst hm
    exact h.ap _ (List.mem_of_getElem? hb) hk)
  refine ⟨⟨by rw [List.length_set]; exact h.ln, by rw [List.length_set]; exact hrr, fun i' b' p' hb' hp' => ?_, h.nd, h.ap⟩, g⟩
  · by_cases hi : i' = i
    · subst hi
      rw [hb] at hb'
      cases hb'
      rw [List.getElem?_set_self (List.getElem?_eq_some_iff.1 hp).1] at hp'
      cases hp'
      have := (h.p i' b p hb hp).set j hj (.int .u8 (v8 v))
      rw [bts_set, Nat.zero_add] at this
      exact this
    · rw [List.getElem?_set_ne (fun e => hi e.symm)] at hp'
      refine (h.p i' b' p' hb' hp').chg g (fun k hk hm => ?_)
      rw [fp_some _ _ _ (by decide)] at hk
      simp at hk hm
      subst hk hm
      exact hi ((List.getElem?_inj (List.getElem?_eq_some_iff.1 hb').1 h.nd).1 (hb'.trans hb.symm))
/-- One page more. -/
theorem OPg.snoc (h : OPg w B ao c bs ps) {wp : World} {b : Nat} {p : List UInt8} (gp : Chg [] w wp) (hp : Room wp B (some ⟨b, 0, none⟩) 240 240 (bts p)) (hnew : w.heap.size ≤ b) {a' : Option Addr} {c' : Nat} (hr : Room w' B a' (ps.length + 1) c' (bs.map pv ++ [pv b])) (g : Chg (fp ao c) wp w') (hf : fp a' c' = fp ao c ∨ ∃ k, wp.heap.size ≤ k ∧ fp a' c' = [k]) : OPg w' B a' c' (bs ++ [b]) (ps ++ [p]) := by
  have hbw : b < wp.heap.size := (hp.lt b (by rw [fp_some _ _ _ (by decide)]; simp)).2
  have hao : ∀ k, k ∈ fp ao c → k < w.heap.size := fun k hk => (h.r.lt k hk).2
  have hpg := gp.size
  have hnb : b ∉ fp ao c := fun hm => by have := hao b hm; omega
  refine ⟨by simp [h.ln], by simpa using hr, fun i b' p' hb' hp' => ?_, ?_, fun b' hb' hm => ?_⟩
  · rw [List.getElem?_append] at hb' hp'
    by_cases hi : i < bs.length
    · rw [if_pos hi] at hb'
      rw [if_pos (by rw [← h.ln]; exact hi)] at hp'
      exact ((h.p i b' p' hb' hp').chg gp (by simp)).chg g (fun k hk hm => by
        rw [fp_some _ _ _ (by decide)] at hk
        simp at hk
        subst hk
        exact h.ap _ (List.mem_of_getElem? hb') hm)
    · rw [if_neg hi] at hb'
      rw [if_neg (by rw [← h.ln]; exact hi)] at hp'
      have h0 : i - bs.length = 0 := by have := (List.getElem?_eq_some_iff.1 hb').1; simp at this; omega
      rw [h0] at hb'
      rw [← h.ln, h0] at hp'
      simp at hb' hp'
      subst hb' hp'
      exact hp.chg g (fun k hk hm => by rw [fp_some _ _ _ (by decide)] at hk; simp at hk; subst hk; exact hnb hm)
  · rw [List.nodup_append]
    refine ⟨h.nd, by simp, fun x hx y hy e => ?_⟩
    simp at hy
    subst hy e
    have := (h.mlt hx).2
    omega
  · rcases List.mem_append.1 hb' with hb' | hb'
    · have hlt := (h.mlt hb').2
      rcases hf with e | ⟨k, hk, e⟩
      · rw [e] at hm; exact h.ap b' hb' hm
      · rw [e] at hm; simp at hm; omega
    · simp at hb'
      subst hb'
      rcases hf with e | ⟨k, hk, e⟩
      · rw [e] at hm; exact hnb hm
      · rw [e] at hm; simp at hm; omega
end
end Go.Proofs.Ytkfpkbmkmbnjcaa
