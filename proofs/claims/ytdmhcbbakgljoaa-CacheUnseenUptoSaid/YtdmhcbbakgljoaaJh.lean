/- The cache beside its disk: one block goes, one comes. -/
import Derived.Test.YtdmhcbbakgljoaaJg
import Derived.Deep.RegionLaw
namespace Go.Proofs.Ytdmhcbbakgljoaa
open Go.RowKit Go.Maps
set_option linter.unusedVariables false
set_option linter.unusedSimpArgs false
attribute [local go_sem ↓] Go.wp_at_zero Go.wp_at_succ

/-! ### the map -/
theorem tight {w : World} {P : Program} {k : TypeId} {R : Value → Option (DataW Unit × List MemPlace)} {b n : Nat} {D : DataW Unit} (h : w.ownsMap P k R b n D) : w.ownsMap P k R b (Maps.size D) D := by
  obtain ⟨es, clock, hb, F, hs, rfl⟩ := h
  exact ⟨es, clock, hb, F, by simp [Maps.size, length_sorted], rfl⟩
theorem keyI (a : Nat) (ha : a < 1024) : keyOf Try.prog 3 (.int .i64 (a : Int)) = some (.int .i64 (a : Int)) := keyOf_int_mk Try.underlying3 (WalkArith.wf_i64 (by omega))
theorem isKey (a : Nat) (ha : a < 1024) : WideAt.IsKeyLit (.int .i64 (a : Int)) := trivial
theorem HeldAt.del {w w' : World} {mb : Nat} {E T : List Ent} {x : Ent} {D : DataW Unit} (h : HeldAt w mb E D) (p : E.Perm (x :: T)) (hn : ∀ e ∈ T, e.pl ≠ x.pl) (ho : w'.ownsMap Try.prog 3 ptrR mb E.length (D.del (.int .i64 x.pl))) : HeldAt w' mb T (D.del (.int .i64 x.pl)) := by
  have hx : Maps.has D (.int .i64 x.pl) = true := (h.y x (p.mem_iff.2 (by simp))).1
  have hs : Maps.size (D.del (.int .i64 x.pl)) = T.length := by
    have h1 := size_del (k := .int .i64 x.pl) (h.o.tidy (int_keyed Try.underlying3))
    rw [hx] at h1
    have h2 := h.s
    have h3 := p.length_eq
    simp at h1 h3
    omega
  have ho2 := tight ho
  rw [hs] at ho2
  refine ⟨ho2, hs, fun e he => ?_, fun z hz => ?_⟩
  · have hne : (Lit.int .i64 (e.pl : Int)) ≠ .int .i64 (x.pl : Int) := by
      intro h9
      simp at h9
      exact hn e he (by omega)
    have h1 := h.y e (p.mem_iff.2 (List.mem_cons_of_mem _ he))
    rw [has_del_other hne, atKey_del_other hne]
    exact h1
  · by_cases hzx : z = (x.pl : Int)
    · rw [hzx]; exact has_del_same
    · have hne : (Lit.int .i64 z) ≠ .int .i64 (x.pl : Int) := by simpa using hzx
      rw [has_del_other hne]
      refine h.n z fun e he => ?_
      rcases List.mem_cons.1 (p.mem_iff.1 he) with rfl | he
      · exact fun h9 => hzx h9.symm
      · exact hz e he
theorem HeldAt.put {w w' : World} {mb : Nat} {E : List Ent} {x : Ent} {D : DataW Unit} (h : HeldAt w mb E D) (hx : x.pl < 1024) (hn : ∀ e ∈ E, e.pl ≠ x.pl) (ho : w'.ownsMap Try.prog 3 ptrR mb (E.length + 1) (D.put (.int .i64 x.pl) (.lit (.int .u64 x.b)))) : HeldAt w' mb (E ++ [x]) (D.put (.int .i64 x.pl) (.lit (.int .u64 x.b))) := by
  have hhas : Maps.has D (.int .i64 x.pl) = false := h.n x.pl fun e he h9 => hn e he (by omega)
  have hs : Maps.size (D.put (.int .i64 x.pl) (.lit (.int .u64 x.b))) = (E ++ [x]).length := by
    rw [size_put (h.o.tidy (int_keyed Try.underlying3)), hhas, h.s]
    simp
  refine ⟨by rw [← hs]; exact tight ho, hs, fun e he => ?_, fun z hz => ?_⟩
  · rcases List.mem_append.1 he with he | he
    · have hne : (Lit.int .i64 (e.pl : Int)) ≠ .int .i64 (x.pl : Int) := by
        intro h9
        simp at h9
        exact hn e he (by omega)
      rw [has_put_other hne, atKey_put_other hne]
      exact h.y e he
    · simp at he
      subst he
      exact ⟨has_put_same h.o.isMap (isKey _ hx) _, atKey_put_same h.o.isMap (isKey _ hx) _ _⟩
  · have hzx : z ≠ (x.pl : Int) := fun h9 => hz x (by simp) h9.symm
    have hne : (Lit.int .i64 z) ≠ .int .i64 (x.pl : Int) := by simpa using hzx
    rw [has_put_other hne]
    exact h.n z fun e he => hz e (by simp [he])
theorem grown_chg {w w' : World} {b : Nat} (h : w.mapTurned w' b) : Chg [b] w w' := by simpa using Chg.grown h.grown
section
variable {P : Program} {ops : Array Oper} {rest : List Oper} {o : Oper} {a : Act} {w : World} {K : Act → World → Prop} {Q : Exit → Act → World → Prop} {X : Prop}
theorem step_delete (hg : o.guard = none) (m x : Operand) (t k : TypeId) (hop : o.op = Op.call { callee := Callee.builtin Builtin.delete, args := #[m, x], argTypes := #[t, k] })
    (e : TypeId) (Kd : Keyed P k) (ht : P.underlying t = some (.map k e)) (R : Value → Option (DataW Unit × List MemPlace)) (b n : Nat) (D : DataW Unit)
    (hm : a.eval m = .map (some b)) (hown : w.ownsMap P k R b n D) (kv : Value) (kl : Lit) (hx : a.eval x = kv) (hkey : keyOf P k kv = some kl)
    (hK : ∀ w', w'.ownsMap P k R b n (D.del kl) → w.mapTurned w' b → K (a.put o.dst (.tuple #[])) w') :
    if Region.wanted o (yielded ops a.tmps) = true then Oper.wp P o a w K Q else X := by
  have hw : Region.wanted o (yielded ops a.tmps) = true := by simp [Region.wanted, hg]
  rw [if_pos hw]
  obtain ⟨w', hrun, r1, r2⟩ := hown.drop Kd ht hkey o.type
  unfold Oper.wp execOp
  simp only [hop, resolve, invoke, builtin, Sem.run_bind, Sem.run_pure, Result.andThen_ok, List.map_toArray, List.map_cons, List.map_nil, hm, hx, hrun]
  exact hK _ r1 r2
theorem step_len (hg : o.guard = none) (m : Operand) (t : TypeId) (hop : o.op = Op.call { callee := Callee.builtin Builtin.len, args := #[m], argTypes := #[t] })
    (k e : TypeId) (ht : P.underlying t = some (.map k e)) (R : Value → Option (DataW Unit × List MemPlace)) (b n : Nat) (D : DataW Unit) (hm : a.eval m = .map (some b)) (hown : w.ownsMap P k R b n D)
    (hK : K (a.put o.dst (.int .i64 (Maps.size D))) w) : if Region.wanted o (yielded ops a.tmps) = true then Oper.wp P o a w K Q else X := by
  have hw : Region.wanted o (yielded ops a.tmps) = true := by simp [Region.wanted, hg]
  rw [if_pos hw]
  unfold Oper.wp execOp
  simp only [hop, resolve, invoke, builtin, Sem.run_bind, Sem.run_pure, Result.andThen_ok, List.map_toArray, List.map_cons, List.map_nil, hm, hown.len ht o.type]
  exact hK
end
/-- The least used block is the line's top. -/
theorem CacheAt.top {w : World} {B cb mb : Nat} {la : Option Addr} {cl : Nat} {E L : List Ent} {most uses db : Nat} (h : CacheAt w B cb mb la cl E L most uses db) (h0 : 0 < E.length) : ∃ T, L = E[0] :: T := by
  cases L with
  | nil => have := h.pm.length_eq; simp at this; rw [this] at h0; simp at h0
  | cons x T =>
    have hx : x ∈ E := h.pm.mem_iff.2 (by simp)
    have h0L : E[0] ∈ x :: T := h.pm.mem_iff.1 (List.getElem_mem h0)
    rcases List.mem_cons.1 h0L with e | he
    · exact ⟨T, by rw [e]⟩
    · have h1 := (List.pairwise_cons.1 h.so).1 _ he
      obtain ⟨i, hi, hix⟩ := List.getElem_of_mem hx
      have h2 := heap_top h.hp i hi
      rw [key_lt h0, key_lt hi, hix] at h2
      omega
/-- The top goes. -/
theorem cgo_any (B cb mb : Nat) (la : Option Addr) (cl : Nat) (E L : List Ent) (most uses db : Nat) (w : World) (h : CacheAt w B cb mb la cl E L most uses db) (x : Ent) (T : List Ent) (hL : L = x :: T) (w3 : World) (F : List Ent) (h4 : LineAt w3 B cb la cl F) (p4 : (F ++ [E[0]'(by have := h.pm.length_eq; rw [hL] at this; simp at this; omega)]).Perm E) (H4 : Heap F F.length) (g4 : Chg (LF cb la cl E) w w3) : True := trivial
end Go.Proofs.Ytdmhcbbakgljoaa
