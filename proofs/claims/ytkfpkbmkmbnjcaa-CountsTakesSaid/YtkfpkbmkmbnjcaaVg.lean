/- An argument that is a list of byte slices, opened; the law's own. -/
import Derived.Test.YtkfpkbmkmbnjcaaVf
import Derived.Test.YtkfpkbmkmbnjcaaE
import Derived.Lib.SmallJoins
import Derived.Deep.Slices
namespace Go.Proofs.Ytkfpkbmkmbnjcaa
open Go.ChangeShapes Go.WideShapes Go.ChangeAt Go.RowKit
set_option linter.unusedVariables false
set_option linter.unusedSimpArgs false
attribute [local go_sem ↓] Go.wp_at_zero Go.wp_at_succ

/-- A list of byte slices, opened. -/
theorem open_pages {H : Type} {enc : TypeId × Value → H} {base : Nat} (v : Value) (W : World) {d : DataW H} {p : List MemPlace} (k : DataW.Trod enc Try.prog W 0 (fun _ => true) true 23 v d p) (hv : Value.okWide Try.prog W .any base 23 v) (hs : Sized Try.prog 23 d) :
    ∃ a0 n0 c0 ps, v = .slice a0 n0 c0 ∧ n0 ≤ c0 ∧ c0 ≤ maxLen ∧ ps.length = n0 ∧ RdPg W a0 ps ∧ c0 * 24 ≤ 140737488351232 := by
  obtain ⟨a0, n0, c0, rfl⟩ := okWide_slice Try.underlying23 hv
  obtain ⟨m, hm⟩ := k
  rcases Deep.open_slice Try.underlying23 hm with ⟨hcs, hx⟩ | ⟨a, len, cap, mm, nn, D, Pl, hcs, _, hl, hmx, hme, hx, hel⟩
  · simp [Value.cells] at hcs
    obtain ⟨rfl, rfl, rfl⟩ := hcs
    exact ⟨none, 0, 0, [], rfl, Nat.le_refl _, Nat.zero_le _, rfl, ⟨[], rfl, Reads.nil _ _, fun i p h => by simp at h⟩, by omega⟩
  · simp [Value.cells] at hcs
    obtain ⟨rfl, rfl, rfl⟩ := hcs
    simp only [Prod.mk.injEq] at hx
    obtain ⟨rfl, _⟩ := hx
    simp only [if_true] at hme
    subst hme
    have hel' := hel
    have hone : ∀ i, i < n0 → ∃ q : (Option Addr × Nat) × List UInt8, W.cell? (a.add i) = some (.slice q.1.1 q.2.length q.1.2) ∧ q.2.length ≤ q.1.2 ∧ q.2.length ≤ 140737488351232 ∧ Reads W q.1.1 (bts q.2) := fun i hi => by
      obtain ⟨cs', h1, h2⟩ := hel i (by omega)
      have e1 : Try.prog.cellsOf 22 = 1 := by kernel_rfl
      rw [e1, Nat.mul_one] at h1
      obtain ⟨hcl, _, hcell⟩ := World.cells?_some h1
      match cs', hcl with
      | [u], _ =>
        have e0 := hcell 0 (by omega)
        have hu : ∃ aa ln cp, u = .slice aa ln cp := by
          rcases Deep.open_slice Try.underlying22 h2 with ⟨hcs, _⟩ | ⟨aa, ln, cp, _, _, _, _, hcs, _⟩
          · simp at hcs; exact ⟨_, _, _, hcs⟩
          · simp at hcs; exact ⟨_, _, _, hcs⟩
        obtain ⟨aa, ln, cp, rfl⟩ := hu
        obtain ⟨l, r1, r2, r3, r4, r5⟩ := opened_bytes Try.underlying22 Try.underlying5 (by kernel_rfl) (a := aa) (n := ln) (c := cp) ⟨nn, h2⟩
        have hse : Sized Try.prog 22 (D i) := hs.elem Try.underlying23 (List.mem_map.2 ⟨i, by simpa using hi, rfl⟩)
        have hsz := hse.slice (bytes := 1) Try.underlying22 (by kernel_rfl) r5
        subst r2
        refine ⟨((aa, cp), l), ?_, r3, by show l.length ≤ 140737488351232; omega, r1⟩
        have : (a.add i).add 0 = a.add i := by simp [Addr.add]
        rw [this] at e0
        simpa using e0
    haveI : Inhabited ((Option Addr × Nat) × List UInt8) := ⟨((none, 0), [])⟩
    obtain ⟨f, hf⟩ := Deep.choose_lt hone
    refine ⟨some a, n0, _, (List.range n0).map fun i => (f i).2, rfl, hl, hmx, by simp, ?_, hs.slice (bytes := 24) Try.underlying23 (by kernel_rfl) (Or.inr ⟨_, _, rfl, by simp; omega⟩)⟩
    refine ⟨(List.range n0).map fun i => .slice (f i).1.1 (f i).2.length (f i).1.2, by simp, fun h0 => ?_, fun i p hp => ?_⟩
    · simp at h0
      have h1 := (hf 0 h0).1
      have hspot : a.spot = none := by simpa [Addr.add] using World.cell?_spot h1
      obtain ⟨b, o, s⟩ := a
      simp at hspot
      subst hspot
      refine ⟨b, o, rfl, fun j u hu => ?_⟩
      have hj : j < n0 := by have := (List.getElem?_eq_some_iff.1 hu).1; simpa using this
      simp [hj] at hu
      have := (hf j hj).1
      rw [Addr.add_lit] at this
      rw [this, hu]
    · have hi : i < n0 := by have := (List.getElem?_eq_some_iff.1 hp).1; simpa using this
      simp [hi] at hp
      subst hp
      obtain ⟨h1, h2, h3, h4⟩ := hf i hi
      exact ⟨(f i).1.1, (f i).1.2, by simp [hi], h2, h3, h4⟩
end Go.Proofs.Ytkfpkbmkmbnjcaa
