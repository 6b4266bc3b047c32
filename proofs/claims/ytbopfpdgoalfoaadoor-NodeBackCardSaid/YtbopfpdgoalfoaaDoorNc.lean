/- The reference: May, Same, Own. -/
import Derived.Test.YtbopfpdgoalfoaaDoorNb
namespace Go.Proofs.YtbopfpdgoalfoaaDoor
open Go.RowKit
set_option linter.unusedVariables false
set_option linter.unusedSimpArgs false
attribute [local go_sem ↓] Go.wp_at_zero Go.wp_at_succ

/-- A node, as a value: its keys and values read as rows of numbers. -/
structure RdN (w : World) (ka : Option Addr) (kc : Nat) (va : Option Addr) (vc : Nat) (K V : List Nat) : Prop where
  rk : Reads w ka (uvs K)
  rv : Reads w va (uvs V)
  ck : K.length ≤ kc
  cv : V.length ≤ vc
  bk : K.length * 8 ≤ 140737488351232
  bv : V.length * 8 ≤ 140737488351232
  xk : kc ≤ maxLen
  xv : vc ≤ maxLen
theorem RdN.keep {w w' : World} {ka : Option Addr} {kc : Nat} {va : Option Addr} {vc : Nat} {K V : List Nat} (h : RdN w ka kc va vc K V) (g : Chg [] w w') : RdN w' ka kc va vc K V := ⟨h.rk.keep g, h.rv.keep g, h.ck, h.cv, h.bk, h.bv, h.xk, h.xv⟩
def nv (lf : Bool) (ka : Option Addr) (kl kc : Nat) (va : Option Addr) (vl vc : Nat) : Value := .agg #[.bool lf, .slice ka kl kc, .slice va vl vc]
theorem getD_of {L : List Nat} {i x : Nat} (h : L[i]? = some x) : L.getD i 0 = x := by rw [List.getD_eq_getElem?_getD, h]; rfl
theorem all_mono (f : Nat → Bool) {a b : Nat} (h : a ≤ b) (hb : (List.range b).all f = true) : (List.range a).all f = true := by
  rw [List.all_eq_true] at hb ⊢
  exact fun x hx => hb x (by simp at hx ⊢; omega)
theorem okAt_zero {K V : List Nat} {v : Nat} (hv : V[0]? = some v) : okAt K V 0 = decide (0 < v) := by unfold okAt; rw [getD_of hv]; simp
theorem okAt_succ {K V : List Nat} {h v y z : Nat} (hv : V[h + 1]? = some v) (hy : K[h + 1]? = some y) (hz : K[h]? = some z) : okAt K V (h + 1) = (decide (0 < v) && decide (z < y)) := by
  unfold okAt
  rw [getD_of hv, getD_of hy, show h + 1 - 1 = h by omega, getD_of hz]
  simp
end Go.Proofs.YtbopfpdgoalfoaaDoor
