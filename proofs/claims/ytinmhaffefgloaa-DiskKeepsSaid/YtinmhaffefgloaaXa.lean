/- append where the order is open: a row, an element. No program is named here. -/
import Derived.Test.YtinmhaffefgloaaW
namespace Go.Proofs.Ytinmhaffefgloaa
open Go.RowKit
set_option linter.unusedVariables false
set_option linter.unusedSimpArgs false

section
variable {P : Program} {ops : Array Oper} {o : Oper} {a : Act} {w : World} {K : Act → World → Prop} {Q : Exit → Act → World → Prop} {E : Prop}
theorem step_append_row (hg : o.guard = none) (s x : Operand) (t : TypeId) (ho : o.op = .call { callee := .builtin .append, args := #[s, x], argTypes := #[t, t] })
    (e : TypeId) (bytes : Nat) (helt : Elt P t e bytes)
    (B : Nat) (ao : Option Addr) (n c : Nat) (xs : List Value) (hs : a.eval s = .slice ao n c) (h : Room w B ao n c xs) (hB : B ≤ w.heap.size)
    (ax : Option Addr) (m cx : Nat) (news : List Value) (hxe : a.eval x = .slice ax m cx) (hx : Reads w ax news) (hm : news.length = m) (hone : ∀ u ∈ news, u.oneCell' = true)
    (h63 : n + m ≤ maxLen) (hbytes : (n + m) * bytes ≤ 140737488355328)
    (hK : ∀ ao' c' w', Room w' B ao' (n + m) c' (xs ++ news) → Chg (fp ao c) w w' → (fp ao' c' = fp ao c ∨ fp ao' c' = [w.heap.size]) → K (a.put o.dst (.slice ao' (n + m) c')) w') :
    if Region.wanted o (yielded ops a.tmps) = true then Oper.wp P o a w K Q else E := by
  have hw : Region.wanted o (yielded ops a.tmps) = true := by simp [Region.wanted, hg]
  rw [if_pos hw]
  obtain ⟨ao', c', w', hr, h2, h3, h4⟩ := run_append_k (P := P) w t o.type e bytes helt B ao n c xs h hB ax m cx news hx hm hone h63 hbytes
  unfold Oper.wp execOp
  simp only [ho, resolve, invoke, builtin, Sem.run_bind, Sem.run_pure, Result.andThen_ok, List.map_toArray, List.map_cons, List.map_nil, hs, hxe, hr]
  exact hK _ _ _ h2 h3 h4
theorem step_append_one (hg : o.guard = none) (s x : Operand) (t : TypeId) (ho : o.op = .call { callee := .builtin .append, args := #[s, x], argTypes := #[t, t] })
    (e : TypeId) (bytes : Nat) (helt : Elt P t e bytes)
    (B : Nat) (ao : Option Addr) (n c : Nat) (xs : List Value) (hs : a.eval s = .slice ao n c) (h : Room w B ao n c xs) (hB : B ≤ w.heap.size)
    (u : Value) (cx : Nat) (hxe : a.eval x = .slice (some ⟨w.heap.size, 0, none⟩) 1 cx) (hone : u.oneCell' = true)
    (h63 : n + 1 ≤ maxLen) (hbytes : (n + 1) * bytes ≤ 140737488355328)
    (hK : ∀ ao' c' w', Room w' B ao' (n + 1) c' (xs ++ [u]) → Chg (fp ao c) w w' → (fp ao' c' = fp ao c ∨ ∃ k, w.heap.size ≤ k ∧ fp ao' c' = [k]) → K (a.put o.dst (.slice ao' (n + 1) c')) w') :
    if Region.wanted o (yielded ops a.tmps) = true then Oper.wp P o a (w.alloc (.cells #[u] e)) K Q else E := by
  refine step_append_row hg s x t ho e bytes helt B ao n c xs hs (h.chg (Chg.alloc [] w _) (by simp)) (Nat.le_trans hB (Chg.alloc [] w _).size) (some ⟨w.heap.size, 0, none⟩) 1 cx [u] hxe (Reads.new w #[u] e) rfl (by intro x hx; simp at hx; rw [hx]; exact hone) h63 hbytes ?_
  intro ao' c' w' h2 h3 h4
  exact hK ao' c' w' h2 ((Chg.alloc [] w _).trans h3 (by simp) (fun _ h _ => h)) (h4.imp id fun h => ⟨_, by simp, h⟩)
end
end Go.Proofs.Ytinmhaffefgloaa
