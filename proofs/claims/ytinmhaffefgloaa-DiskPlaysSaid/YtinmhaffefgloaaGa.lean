/- slices.Clone at the disk's three types. -/
import Derived.Test.YtinmhaffefgloaaDf
namespace Go.Proofs.Ytinmhaffefgloaa
open Go.RowKit
set_option linter.unusedVariables false
set_option linter.unusedSimpArgs false

theorem wpList_append_zm {P : Program} (w : World) {ops : Array Oper} {rest : List Oper} {o : Oper} {a : Act} {Q : Exit → Act → World → Prop} (hgd : o.guard = none) (s x : Operand) (t : TypeId)
    (ho : o.op = .call { callee := .builtin .append, args := #[s, x], argTypes := #[t, t] })
    (e : TypeId) (z bytes : Nat) (hz0 : 0 < z) (helt : EltZ P t e z bytes)
    (B : Nat) (ao : Option Addr) (n c : Nat) (xs : List Value) (hs : a.eval s = .slice ao n c) (h : RoomZ z w B ao n c xs) (hB : B ≤ w.heap.size)
    (ax : Option Addr) (m cx : Nat) (news : List Value) (hxe : a.eval x = .slice ax m cx) (hx : Reads w ax news) (hm : news.length = m * z) (hone : ∀ u ∈ news, u.oneCell' = true)
    (h63 : n + m ≤ maxLen) (hbytes : (n + m) * bytes ≤ 140737488355328)
    (hK : ∀ ao' c' w', RoomZ z w' B ao' (n + m) c' (xs ++ news) → Chg (fp ao c) w w' → (fp ao' c' = fp ao c ∨ fp ao' c' = [w.heap.size]) → wpList P ops Q rest (a.put o.dst (.slice ao' (n + m) c')) w') : wpList P ops Q (o :: rest) a w := by
  refine wpList_plain hgd fun K hK' => ?_
  obtain ⟨ao', c', w', hr, h2, h3, h4⟩ := run_append_z (P := P) w t o.type e z bytes hz0 helt B ao n c xs h hB ax m cx news hx hm hone h63 hbytes
  unfold Oper.wp execOp
  simp only [ho, resolve, invoke, builtin, Sem.run_bind, Sem.run_pure, Result.andThen_ok, List.map_toArray, List.map_cons, List.map_nil, hs, hxe, hr]
  exact hK' _ _ (hK ao' c' w' h2 h3 h4)

theorem clone_bytes (p : Addr) (n c : Nat) (xs : List Value) (w : World) (g : Reads w (some p) xs) (gn : xs.length = n) (hone : ∀ u ∈ xs, u.oneCell' = true) (hn : n ≤ 1000000000) :
    Calls Try.prog 46 #[.slice (some p) n c] w fun e w' => ∃ a' c', e = .returned (.slice a' n c') ∧ Room w' w.heap.size a' n c' xs ∧ Chg [] w w' := by
  have hml : maxLen = 9223372036854775807 := rfl
  have heq := fun (w : World) (n c : Nat) => Lib.run_eql_slice_nil (P := Try.prog) w 32 5 (some p) n c 0 0 Try.underlying32
  simp only [Option.isNone_some] at heq
  go_enter Try.func46, Try.ntmps46
  go_wp2_with (first | (at_builtin; refine wpList_append_k _ rfl (.tmp 5) (.tmp 6) 32 rfl 5 1 eltB w.heap.size _ 0 0 [] rfl (Room.nil _ _ _) (by simp) (some p) n c xs rfl (g.keep (Chg.alloc [] w _)) gn hone (by omega) (by omega) ?_; intro a1 c1 w1 hr1 hg1 hf1; simp only [Nat.zero_add, List.nil_append] at hr1))
  go_ret
  exact ⟨a1, c1, rfl, hr1, (Chg.alloc [] w _).trans hg1 (fun _ h _ => h) (fun k h _ => by rw [fp_zero] at h; exact h)⟩
theorem clone_ints (p : Addr) (n c : Nat) (xs : List Value) (w : World) (g : Reads w (some p) xs) (gn : xs.length = n) (hone : ∀ u ∈ xs, u.oneCell' = true) (hn : n ≤ 1000000000) :
    Calls Try.prog 48 #[.slice (some p) n c] w fun e w' => ∃ a' c', e = .returned (.slice a' n c') ∧ Room w' w.heap.size a' n c' xs ∧ Chg [] w w' := by
  have hml : maxLen = 9223372036854775807 := rfl
  have heq := fun (w : World) (n c : Nat) => Lib.run_eql_slice_nil (P := Try.prog) w 56 3 (some p) n c 0 0 Try.underlying56
  simp only [Option.isNone_some] at heq
  go_enter Try.func48, Try.ntmps48
  go_wp2_with (first | (at_builtin; refine wpList_append_k _ rfl (.tmp 5) (.tmp 6) 56 rfl 3 8 eltN w.heap.size _ 0 0 [] rfl (Room.nil _ _ _) (by simp) (some p) n c xs rfl (g.keep (Chg.alloc [] w _)) gn hone (by omega) (by omega) ?_; intro a1 c1 w1 hr1 hg1 hf1; simp only [Nat.zero_add, List.nil_append] at hr1))
  go_ret
  exact ⟨a1, c1, rfl, hr1, (Chg.alloc [] w _).trans hg1 (fun _ h _ => h) (fun k h _ => by rw [fp_zero] at h; exact h)⟩
theorem clone_flies (ao : Option Addr) (n c : Nat) (xs : List Value) (w : World) (g : Reads w ao xs) (gn : xs.length = n * 65) (h0 : ao = none → n = 0 ∧ c = 0) (hone : ∀ u ∈ xs, u.oneCell' = true) (hn : n ≤ 1000000000) :
    Calls Try.prog 47 #[.slice ao n c] w fun e w' => ∃ a' c', e = .returned (.slice a' n c') ∧ RoomZ 65 w' w.heap.size a' n c' xs ∧ Chg [] w w' := by
  have hml : maxLen = 9223372036854775807 := rfl
  cases ao with
  | none =>
    obtain ⟨rfl, rfl⟩ := h0 rfl
    have hx : xs = [] := List.eq_nil_of_length_eq_zero (by simpa using gn)
    subst hx
    have heq := fun (w : World) (n c : Nat) => Lib.run_eql_slice_nil (P := Try.prog) w 57 75 none n c 0 0 Try.underlying57
    simp only [Option.isNone_none] at heq
    go_enter Try.func47, Try.ntmps47
    go_wp2_with fail
    go_ret
    exact ⟨none, 0, rfl, RoomZ.nil _ _ _ _, Chg.refl _ _⟩
  | some p =>
    have heq := fun (w : World) (n c : Nat) => Lib.run_eql_slice_nil (P := Try.prog) w 57 75 (some p) n c 0 0 Try.underlying57
    simp only [Option.isNone_some] at heq
    go_enter Try.func47, Try.ntmps47
    go_wp2_with (first | (at_builtin; refine wpList_append_zm _ rfl (.tmp 5) (.tmp 6) 57 rfl 75 65 72 (by decide) eltW w.heap.size _ 0 0 [] rfl (RoomZ.nil _ _ _ _) (by simp) (some p) n c xs rfl (g.keep (Chg.alloc [] w _)) gn hone (by omega) (by omega) ?_; intro a1 c1 w1 hr1 hg1 hf1; simp only [Nat.zero_add, List.nil_append] at hr1))
    go_ret
    exact ⟨a1, c1, rfl, hr1, (Chg.alloc [] w _).trans hg1 (fun _ h _ => h) (fun k h _ => by rw [fp_zero] at h; exact h)⟩
end Go.Proofs.Ytinmhaffefgloaa
