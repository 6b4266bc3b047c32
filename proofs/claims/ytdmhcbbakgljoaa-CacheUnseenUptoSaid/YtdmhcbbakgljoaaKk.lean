/- CacheUnseen: the law's own row of slices. -/
import Derived.Test.YtdmhcbbakgljoaaKj
import Derived.Test.YtdmhcbbakgljoaaKf
namespace Go.Proofs.Ytdmhcbbakgljoaa
open Go.RowKit Go.Maps
set_option linter.unusedVariables false
set_option linter.unusedSimpArgs false
attribute [local go_sem ↓] Go.wp_at_zero Go.wp_at_succ

theorem within_at (k lo hi : Int) (l h : Nat) (e1 : lo = l) (e2 : hi = h) (h1 : l ≤ h) (h2 : h ≤ 1000) (hk : (Lit.int .i64 k).wf = true) (w : World) :
    Calls Try.prog 7 #[.int .i64 k, .int .i64 lo, .int .i64 hi] w fun e w' => ∃ m : Nat, e = .returned (.int .i64 (m : Int)) ∧ l ≤ m ∧ m ≤ h ∧ w = w' := by
  rw [e1, e2]
  exact within_any k l h h1 h2 hk w
/-- The law's array of slices: the first n lie at T, with the bytes V. -/
structure Nows (w : World) (xb n : Nat) (T : Nat → Option Addr) (C : Nat → Nat) (V : Nat → List UInt8) : Prop where
  at_ : ∀ j, j < n → w.cell? ⟨xb, j, none⟩ = some (.slice (T j) 256 (C j))
  fz : ∀ j, j < 24 → w.frozen? ⟨xb, j, none⟩ = false
  ex : ∀ j, j < 24 → ∃ v, w.cell? ⟨xb, j, none⟩ = some v
  rd : ∀ j, j < n → Reads w (T j) (bts (V j))
  ln : ∀ j, j < n → (V j).length = 256
  ne : ∀ j, j < n → ∀ k, k ∈ blk (T j) → k ≠ xb
def NR (xb n : Nat) (T : Nat → Option Addr) : Nat → Prop := fun k => k = xb ∨ ∃ j, j < n ∧ k ∈ blk (T j)
theorem Nows.off {w w' : World} {xb n : Nat} {T : Nat → Option Addr} {C : Nat → Nat} {V : Nat → List UInt8} (h : Nows w xb n T C V) {R : Nat → Prop} (o : Off R w w') (hR : ∀ k, NR xb n T k → R k) : Nows w' xb n T C V := by
  obtain ⟨S, c, hS⟩ := o
  have hx : xb ∉ S := fun hm => hS _ hm (hR _ (Or.inl rfl))
  refine ⟨fun j hj => c.cellv (h.at_ j hj) hx, fun j hj => ?_, fun j hj => ?_, fun j hj => (h.rd j hj).chg c (fun k hk hm => hS k hm (hR k (Or.inr ⟨j, hj, hk⟩))), h.ln, h.ne⟩
  · obtain ⟨v, hv⟩ := h.ex j hj
    exact (c.frozen (p := ⟨xb, j, none⟩) (block_lt_of_cell hv) hx).trans (h.fz j hj)
  · obtain ⟨v, hv⟩ := h.ex j hj
    exact ⟨v, c.cellv hv hx⟩
theorem Nows.keep {w w' : World} {xb n : Nat} {T : Nat → Option Addr} {C : Nat → Nat} {V : Nat → List UInt8} (h : Nows w xb n T C V) (c : Chg [] w w') : Nows w' xb n T C V := h.off (R := fun _ => True) (Off.keep c) (fun _ _ => trivial)
def upd {α : Type} (f : Nat → α) (a : Nat) (v : α) : Nat → α := fun j => if j = a then v else f j
theorem upd_same {α : Type} (f : Nat → α) (a : Nat) (v : α) : upd f a v a = v := by unfold upd; rw [if_pos rfl]
theorem upd_other {α : Type} (f : Nat → α) {a j : Nat} (v : α) (h : j ≠ a) : upd f a v j = f j := by unfold upd; rw [if_neg h]
/-- A slice is laid into the row. -/
theorem Nows.put {w : World} {xb n : Nat} {T : Nat → Option Addr} {C : Nat → Nat} {V : Nat → List UInt8} (h : Nows w xb n T C V) (a n' : Nat) (ha : a < 24) (hn : ∀ j, j < n' → j < n ∨ j = a) {ao : Option Addr} {c : Nat} {b : List UInt8} (gb : Reads w ao (bts b)) (hb : b.length = 256) (hne : ∀ k, k ∈ blk ao → k ≠ xb) :
    Nows (w.setCell ⟨xb, a, none⟩ (.slice ao 256 c)) xb n' (upd T a ao) (upd C a c) (upd V a b) := by
  have cS := Chg.setCell w ⟨xb, a, none⟩ (.slice ao 256 c)
  obtain ⟨u, hu⟩ := h.ex a ha
  refine ⟨fun j hj => ?_, fun j hj => by rw [World.frozen?_setCell]; exact h.fz j hj, fun j hj => ?_, fun j hj => ?_, fun j hj => ?_, fun j hj => ?_⟩
  · by_cases e : j = a
    · subst e
      rw [upd_same, upd_same]
      exact World.cell?_setCell_same _ _ _ hu
    · rw [upd_other _ _ e, upd_other _ _ e, World.cell?_setCell_other _ _ _ _ (by simp [e])]
      exact h.at_ j ((hn j hj).resolve_right e)
  · by_cases e : j = a
    · subst e
      exact ⟨_, World.cell?_setCell_same _ _ _ hu⟩
    · rw [World.cell?_setCell_other _ _ _ _ (by simp [e])]
      exact h.ex j hj
  · by_cases e : j = a
    · subst e
      rw [upd_same, upd_same]
      exact gb.chg cS (fun k hk hm => hne k hk (by simpa using hm))
    · rw [upd_other _ _ e, upd_other _ _ e]
      have hj' := (hn j hj).resolve_right e
      exact (h.rd j hj').chg cS (fun k hk hm => h.ne j hj' k hk (by simpa using hm))
  · by_cases e : j = a
    · subst e
      rw [upd_same]; exact hb
    · rw [upd_other _ _ e]; exact h.ln j ((hn j hj).resolve_right e)
  · by_cases e : j = a
    · subst e
      rw [upd_same]; exact hne
    · rw [upd_other _ _ e]; exact h.ne j ((hn j hj).resolve_right e)
theorem NR_put {xb n n' a : Nat} {T : Nat → Option Addr} {ao : Option Addr} (hn : ∀ j, j < n' → j < n ∨ j = a) {k : Nat} (h : NR xb n' (upd T a ao) k) : NR xb n T k ∨ k ∈ blk ao := by
  rcases h with h | ⟨j, hj, hk⟩
  · exact Or.inl (Or.inl h)
  · by_cases e : j = a
    · subst e
      rw [upd_same] at hk
      exact Or.inr hk
    · rw [upd_other _ _ e] at hk
      exact Or.inl (Or.inr ⟨j, (hn j hj).resolve_right e, hk⟩)
section
variable {w0 w w' : World} {xb n : Nat} {T : Nat → Option Addr} {db : Nat} {g : DG} {fa : Option Addr} {cf : Nat} {st : RS} {cb mb : Nat} {la : Option Addr} {cl : Nat} {E L : List Ent} {most uses : Nat}
/-- The row beside a cache: a slice that the law has is laid into it. -/
theorem Pair.lay {R : Nat → Prop} (h : Pair w0 w R db g fa cf st cb mb la cl E L most uses) (a n' : Nat) {ao : Option Addr} {v : Value} (hx : R xb ∧ w0.heap.size ≤ xb) (hR : ∀ k, NR xb n' (upd T a ao) k → R k) : Pair w0 (w.setCell ⟨xb, a, none⟩ v) (NR xb n' (upd T a ao)) db g fa cf st cb mb la cl E L most uses :=
  (h.chg (Chg.setCell w ⟨xb, a, none⟩ v) (fun k hk => by simp at hk; rw [hk]; exact hx)).less hR
end
end Go.Proofs.Ytdmhcbbakgljoaa
