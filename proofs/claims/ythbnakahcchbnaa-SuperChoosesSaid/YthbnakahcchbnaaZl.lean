/- The law's torn. -/
import Derived.Test.YthbnakahcchbnaaZk
namespace Go.Proofs.Ythbnakahcchbnaa
open Go.RowKit
set_option linter.unusedVariables false
set_option linter.unusedSimpArgs false
attribute [local go_sem ↓] Go.wp_at_zero Go.wp_at_succ

section
variable {P : Program} {ops : Array Oper} {o : Oper} {a : Act} {w : World} {K : Act → World → Prop} {Q : Exit → Act → World → Prop} {E : Prop}
theorem step_append_row (hg : o.guard = none) (s x : Operand) (t : TypeId) (ho : o.op = .call { callee := .builtin .append, args := #[s, x], argTypes := #[t, t] })
    (e : TypeId) (bytes : Nat) (helt : Elt P t e bytes)
    (B : Nat) (ao : Option Addr) (n c : Nat) (xs : List Value) (hs : a.eval s = .slice ao n c) (h : Room w B ao n c xs) (hB : B ≤ w.heap.size)
    (ax : Option Addr) (m cx : Nat) (news : List Value) (hxe : a.eval x = .slice ax m cx) (hx : Reads w ax news) (hm : news.length = m) (hone : ∀ u ∈ news, u.oneCell' = true)
    (h63 : n + m ≤ maxLen) (hbytes : (n + m) * bytes ≤ 140737488355328)
    (hK : ∀ ao' c' w', Room w' B ao' (n + m) c' (xs ++ news) → Chg (fp ao c) w w' → (fp ao' c' = fp ao c ∨ fp ao' c' = [w.heap.size]) → K (a.put o.dst (.slice ao' (n + m) c')) w') :
    if Region.wanted o (yielded ops a.tmps) = true then Oper.wp P o a w K Q else E := by
  have hw : Region.wanted o (yielded ops a.tmps) = true := by simp [Region.wanted, hg]
  rw [if_pos hw]
  obtain ⟨ao', c', w', hr, h2, h3, h4⟩ := run_append_k (P := P) w t o.type e bytes helt B ao n c xs h hB ax m cx news hx hm hone h63 hbytes
  unfold Oper.wp execOp
  simp only [ho, resolve, invoke, builtin, Sem.run_bind, Sem.run_pure, Result.andThen_ok, List.map_toArray, List.map_cons, List.map_nil, hs, hxe, hr]
  exact hK _ _ _ h2 h3 h4
end
set_option maxRecDepth 20000 in
set_option maxHeartbeats 2000000 in
theorem torn_any (ao : Option Addr) (c : Nat) (L : List UInt8) (bo : Option Addr) (d : Nat) (M : List UInt8) (q : Nat) (w : World) (h1 : Reads w ao (bts L)) (l1 : L.length = 64) (c1 : 64 ≤ c) (h2 : Reads w bo (bts M)) (l2 : M.length = 64) (c2 : 64 ≤ d) (hq : q ≤ 64) :
    Calls Try.prog 19 #[.slice ao 64 c, .slice bo 64 d, .int .i64 (q : Int)] w fun e w' => ∃ a x, e = .returned (.slice a 64 x) ∧ Room w' w.heap.size a 64 x (bts (L.take q ++ M.drop q)) ∧ Chg [] w w' := by
  have tk : ∀ u : World, (Instr.slice 25 (.slice ao 64 c) none (some (.int .i64 (q : Int))) none).run Try.prog u = .ok (.slice ao q c) u := fun u => run_take_k ao 64 c q Try.underlying25 oneB (by omega) u
  have fr : ∀ u : World, (Instr.slice 25 (.slice bo 64 d) (some (.int .i64 (q : Int))) none none).run Try.prog u = .ok (.slice (cut bo d q) (64 - q) (d - q)) u := fun u => run_from_k bo 64 d q Try.underlying25 oneB (by omega) u
  have ra : Reads w ao (bts (L.take q)) := by rw [← bts_take]; exact h1.take q
  have rb : Reads w (cut bo d q) (bts (M.drop q)) := by rw [← bts_drop]; exact h2.cut d q (by rw [bts_length]; omega)
  have Hl1 := mkHid (show (bts (L.take q)).length = q by rw [bts_length]; simp; omega)
  have Hl2 := mkHid (show (bts (M.drop q)).length = 64 - q by rw [bts_length]; simp; omega)
  have He := mkHid (show q + (64 - q) = 64 by omega)
  generalize cut bo d q = uu at *
  generalize hr : 64 - q = r at *
  have hr64 : r ≤ 64 := by omega
  clear hr h1 h2 l1 l2
  go_enter Try.func19, Try.ntmps19
  go_wp2_with fail
  go_region_law (first
    | (refine step_append_row rfl (.tmp 7) (.tmp 10) 25 rfl 5 1 eltB w.heap.size _ 0 0 [] rfl (Room.nil _ _ _) (Chg.alloc [] w.drew _).size ao q c (bts (L.take q)) rfl (ra.keep ((Chg.drew [] w).then (Chg.alloc [] _ _))) Hl1.out (bts_one _) (by unfold maxLen; omega) (by omega) ?_; intro a7 c7 w7 hr7 hg7 hf7; simp only [Nat.zero_add, List.nil_append] at hr7; have hV7 : Chg [] w w7 := ((Chg.drew [] w).then (Chg.alloc [] _ _)).then hg7)
    | (refine step_append_row rfl (.tmp 11) (.tmp 14) 25 rfl 5 1 eltB w.heap.size a7 q c7 _ rfl hr7 hV7.size uu r (d - q) (bts (M.drop q)) rfl (rb.keep hV7) Hl2.out (bts_one _) (by unfold maxLen; omega) (by omega) ?_; intro a8 c8 w8 hr8 hg8 hf8; have hV8 : Chg [] w w8 := hV7.own hg8 hr7))
  all_goals
    rw [He.out, ← bts_append] at hr8
    rw [He.out]
    go_wp2_with fail
    go_ret
    exact ⟨a8, c8, rfl, hr8, hV8⟩
end Go.Proofs.Ythbnakahcchbnaa
