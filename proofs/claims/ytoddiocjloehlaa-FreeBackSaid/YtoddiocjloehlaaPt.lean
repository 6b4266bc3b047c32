/- FreeBack. -/
import Derived.Test.YtoddiocjloehlaaPq
namespace Go.Proofs.Ytoddiocjloehlaa
open Go.ChangeShapes Go.WideShapes Go.ChangeAt Go.RowKit
set_option linter.unusedVariables false
set_option linter.unusedSimpArgs false
attribute [local go_sem ↓] Go.wp_at_zero Go.wp_at_succ

section
variable {P : Program} {ops : Array Oper} {o : Oper} {a : Act} {w : World} {K : Act → World → Prop} {Q : Exit → Act → World → Prop} {E : Prop}
theorem step_append_row (hg : o.guard = none) (s x : Operand) (t : TypeId) (ho : o.op = .call { callee := .builtin .append, args := #[s, x], argTypes := #[t, t] })
    (e : TypeId) (bytes : Nat) (helt : Elt P t e bytes)
    (B : Nat) (ao : Option Addr) (n c : Nat) (xs : List Value) (hs : a.eval s = .slice ao n c) (h : Room w B ao n c xs) (hB : B ≤ w.heap.size)
    (ax : Option Addr) (m cx : Nat) (news : List Value) (hxe : a.eval x = .slice ax m cx) (hx : Reads w ax news) (hm : news.length = m) (hone : ∀ u ∈ news, u.oneCell' = true)
    (h63 : n + m ≤ maxLen) (hbytes : (n + m) * bytes ≤ 140737488355328)
    (hK : ∀ ao' c' w', Room w' B ao' (n + m) c' (xs ++ news) → Chg (fp ao c) w w' → (fp ao' c' = fp ao c ∨ fp ao' c' = [w.heap.size]) → K (a.put o.dst (.slice ao' (n + m) c')) w') :
    if Region.wanted o (yielded ops a.tmps) = true then Oper.wp P o a w K Q else E := by
  have hw : Region.wanted o (yielded ops a.tmps) = true := by simp [Region.wanted, hg]
  rw [if_pos hw]
  obtain ⟨ao', c', w', hr, h2, h3, h4⟩ := run_append_k (P := P) w t o.type e bytes helt B ao n c xs h hB ax m cx news hx hm hone h63 hbytes
  unfold Oper.wp execOp
  simp only [ho, resolve, invoke, builtin, Sem.run_bind, Sem.run_pure, Result.andThen_ok, List.map_toArray, List.map_cons, List.map_nil, hs, hxe, hr]
  exact hK _ _ _ h2 h3 h4
/-- .. to an empty slice. -/
theorem step_append_row0 (hg : o.guard = none) (s x : Operand) (t : TypeId) (ho : o.op = .call { callee := .builtin .append, args := #[s, x], argTypes := #[t, t] })
    (e : TypeId) (bytes : Nat) (helt : Elt P t e bytes)
    (B : Nat) (ao : Option Addr) (hs : a.eval s = .slice ao 0 0) (hB : B ≤ w.heap.size)
    (ax : Option Addr) (m cx : Nat) (news : List Value) (hxe : a.eval x = .slice ax m cx) (hx : Reads w ax news) (hm : news.length = m) (hone : ∀ u ∈ news, u.oneCell' = true)
    (h63 : m ≤ maxLen) (hbytes : m * bytes ≤ 140737488355328)
    (hK : ∀ ao' c' w', Room w' B ao' m c' news → Chg [] w w' → K (a.put o.dst (.slice ao' m c')) w') :
    if Region.wanted o (yielded ops a.tmps) = true then Oper.wp P o a w K Q else E := by
  refine step_append_row hg s x t ho e bytes helt B ao 0 0 [] hs (Room.nil _ _ _) hB ax m cx news hxe hx hm hone (by rw [Nat.zero_add]; exact h63) (by rw [Nat.zero_add]; exact hbytes) ?_
  intro a' c' w' hr hg _
  rw [Nat.zero_add] at hr ⊢
  rw [List.nil_append] at hr
  exact hK a' c' w' hr (by rw [fp_zero] at hg; exact hg)
end
section
variable {H : Type} {enc : TypeId × Value → H} {P : Program} {w : World} {base : Nat} {spare : Nat → Bool} {held : Bool}
theorem trod_struct4 {t : TypeId} {f0 f1 f2 f3 : Field} {fuel : Nat} {cs : List Value} {x : DataW H × List MemPlace} (ht : P.underlying t = some (.struct #[f0, f1, f2, f3])) (h : DataW.trod enc P w base spare held fuel t cs = some x) :
    ∃ y0 y1 y2 y3 n, x = (.agg [y0.1, y1.1, y2.1, y3.1], y0.2 ++ (y1.2 ++ (y2.2 ++ y3.2))) ∧ cs.length = P.cellsOf t ∧ DataW.trod enc P w base spare held n f0.type ((cs.drop f0.offset).take (P.cellsOf f0.type)) = some y0 ∧
      DataW.trod enc P w base spare held n f1.type ((cs.drop f1.offset).take (P.cellsOf f1.type)) = some y1 ∧ DataW.trod enc P w base spare held n f2.type ((cs.drop f2.offset).take (P.cellsOf f2.type)) = some y2 ∧
      DataW.trod enc P w base spare held n f3.type ((cs.drop f3.offset).take (P.cellsOf f3.type)) = some y3 := by
  obtain ⟨xs, n, _, rfl, hl, hlen, hf⟩ := DataW.trod_struct ht h
  match xs, hlen with
  | [y0, y1, y2, y3], _ => exact ⟨y0, y1, y2, y3, n, by simp, hl, by simpa using hf 0 f0 rfl, by simpa using hf 1 f1 rfl, by simpa using hf 2 f2 rfl, by simpa using hf 3 f3 rfl⟩
end
/-- The argument, opened. -/
theorem open_back {H : Type} {enc : TypeId × Value → H} {base : Nat} (v : Value) (W : World) {d : DataW H} {p : List MemPlace} (k : DataW.Trod enc Try.prog W 0 (fun _ => true) true 48 v d p) (hv : Value.okWide Try.prog W .any base 48 v) (hs : Sized Try.prog 48 d) :
    ∃ z1 a1 n1 c1 l1 z2 a2 n2 c2 l2, v = .agg #[.int .i64 z1, .slice a1 n1 c1, .int .i64 z2, .slice a2 n2 c2] ∧ (Lit.int .i64 z1).wf = true ∧ (Lit.int .i64 z2).wf = true ∧ Reads W a1 (zvs l1) ∧ l1.length = n1 ∧ n1 ≤ c1 ∧ c1 * 8 ≤ 140737488351232 ∧ Reads W a2 (zvs l2) ∧ l2.length = n2 ∧ n2 ≤ c2 ∧ c2 * 8 ≤ 140737488351232 ∧ ∀ z ∈ l2, (Lit.int .i64 z).wf = true := by
  obtain ⟨cs, rfl, hsz⟩ := okWide_struct Try.underlying48 hv
  have e4 : Try.prog.cellsOf 48 = 4 := by kernel_rfl
  rw [e4] at hsz
  obtain ⟨m, hm⟩ := k
  obtain ⟨y0, y1, y2, y3, q, hx, hl2, h0, h1, h2, h3⟩ := trod_struct4 Try.underlying48 hm
  obtain ⟨cl, rfl⟩ : ∃ cl : List Value, cs = cl.toArray := ⟨cs.toList, by simp⟩
  match cl, hsz with
  | [v0, v1, v2, v3], _ =>
    have c3 : Try.prog.cellsOf 3 = 1 := by kernel_rfl
    have c32 : Try.prog.cellsOf 41 = 1 := by kernel_rfl
    simp only [c3, c32, Value.cells, List.drop_zero, List.drop_succ_cons, List.take_succ_cons, List.take_zero] at h0 h1 h2 h3
    obtain ⟨q0, r0, e0, wf0⟩ := DataW.trod_int Try.underlying3 h0
    obtain ⟨q2, r2, e2, wf2⟩ := DataW.trod_int Try.underlying3 h2
    obtain ⟨ba1, bl1, bc1, r1⟩ := Joins.slice_form Try.underlying41 h1
    obtain ⟨ba2, bl2, bc2, r3⟩ := Joins.slice_form Try.underlying41 h3
    simp at r0 r1 r2 r3
    subst r0 r1 r2 r3
    obtain ⟨l1, g1, gn1, gc1, gm1, gw1, gd1⟩ := opened_ints Try.underlying41 Try.underlying3 (by kernel_rfl) ⟨q, h1⟩
    obtain ⟨l2, g2, gn2, gc2, gm2, gw2, gd2⟩ := opened_ints Try.underlying41 Try.underlying3 (by kernel_rfl) ⟨q, h3⟩
    cases hx
    have s1 := (hs.field Try.underlying48 (j := 1) rfl rfl).slice (bytes := 8) Try.underlying41 (by kernel_rfl) gd1
    have s2 := (hs.field Try.underlying48 (j := 3) rfl rfl).slice (bytes := 8) Try.underlying41 (by kernel_rfl) gd2
    exact ⟨q0, ba1, bl1, bc1, l1, q2, ba2, bl2, bc2, l2, rfl, wf0, wf2, g1, gn1, gc1, s1, g2, gn2, gc2, s2, gw2⟩
end Go.Proofs.Ytoddiocjloehlaa
