/- The reference: Copy. -/
import Derived.Test.YtppjjlooocigdaaUj
namespace Go.Proofs.Ytppjjlooocigdaa
open Go.RowKit
set_option linter.unusedVariables false
set_option linter.unusedSimpArgs false
attribute [local go_sem ↓] Go.wp_at_zero Go.wp_at_succ

section
variable {P : Program} {ops : Array Oper} {o : Oper} {a : Act} {w : World} {K : Act → World → Prop} {Q : Exit → Act → World → Prop} {E : Prop}
theorem step_append_row (hg : o.guard = none) (s x : Operand) (t : TypeId) (ho : o.op = .call { callee := .builtin .append, args := #[s, x], argTypes := #[t, t] })
    (e : TypeId) (bytes : Nat) (helt : Elt P t e bytes)
    (B : Nat) (ao : Option Addr) (n c : Nat) (xs : List Value) (hs : a.eval s = .slice ao n c) (h : Room w B ao n c xs) (hB : B ≤ w.heap.size)
    (ax : Option Addr) (m cx : Nat) (news : List Value) (hxe : a.eval x = .slice ax m cx) (hx : Reads w ax news) (hm : news.length = m) (hone : ∀ u ∈ news, u.oneCell' = true)
    (h63 : n + m ≤ maxLen) (hbytes : (n + m) * bytes ≤ 140737488355328)
    (hK : ∀ ao' c' w', Room w' B ao' (n + m) c' (xs ++ news) → Chg (fp ao c) w w' → (fp ao' c' = fp ao c ∨ fp ao' c' = [w.heap.size]) → K (a.put o.dst (.slice ao' (n + m) c')) w') :
    if Region.wanted o (yielded ops a.tmps) = true then Oper.wp P o a w K Q else E := by
  have hw : Region.wanted o (yielded ops a.tmps) = true := by simp [Region.wanted, hg]
  rw [if_pos hw]
  obtain ⟨ao', c', w', hr, h2, h3, h4⟩ := run_append_k (P := P) w t o.type e bytes helt B ao n c xs h hB ax m cx news hx hm hone h63 hbytes
  unfold Oper.wp execOp
  simp only [ho, resolve, invoke, builtin, Sem.run_bind, Sem.run_pure, Result.andThen_ok, List.map_toArray, List.map_cons, List.map_nil, hs, hxe, hr]
  exact hK _ _ _ h2 h3 h4
/-- .. to an empty slice, of one element at least. -/
theorem step_append_new (hg : o.guard = none) (s x : Operand) (t : TypeId) (ho : o.op = .call { callee := .builtin .append, args := #[s, x], argTypes := #[t, t] })
    (e : TypeId) (bytes : Nat) (helt : Elt P t e bytes)
    (B : Nat) (ao : Option Addr) (hs : a.eval s = .slice ao 0 0) (hB : B ≤ w.heap.size)
    (ax : Option Addr) (m cx : Nat) (news : List Value) (hxe : a.eval x = .slice ax m cx) (hx : Reads w ax news) (hm : news.length = m) (hone : ∀ u ∈ news, u.oneCell' = true) (h0 : 0 < m)
    (h63 : m ≤ maxLen) (hbytes : m * bytes ≤ 140737488355328)
    (hK : ∀ b o' c' w', Room w' B (some ⟨b, o', none⟩) m c' news → Chg [] w w' → b = w.heap.size → K (a.put o.dst (.slice (some ⟨b, o', none⟩) m c')) w') :
    if Region.wanted o (yielded ops a.tmps) = true then Oper.wp P o a w K Q else E := by
  refine step_append_row hg s x t ho e bytes helt B ao 0 0 [] hs (Room.nil _ _ _) hB ax m cx news hxe hx hm hone (by rw [Nat.zero_add]; exact h63) (by rw [Nat.zero_add]; exact hbytes) ?_
  intro a' c' w' hr hg hf
  rw [Nat.zero_add] at hr ⊢
  rw [List.nil_append] at hr
  have hle := hr.le
  obtain ⟨b, o', rfl, _⟩ := hr.at_ (by omega)
  rw [fp_zero, fp_some _ _ _ (by omega)] at hf
  exact hK b o' c' w' hr (by rw [fp_zero] at hg; exact hg) (by rcases hf with hf | hf <;> simp at hf; exact hf)
end
section
variable (B db b0 o0 k0 b1 o1 k1 b2 o2 k2 n : Nat) (N C : List UInt8) (w : World) (h : DAt w B db b0 o0 k0 b1 o1 k1 b2 o2 k2 n N C)
include h
set_option maxRecDepth 20000 in
theorem dcopy_any : Calls Try.prog 21 #[.pointer (some ⟨db, 0, none⟩)] w fun e w' => ∃ db' G', e = .returned (.pointer (some ⟨db', 0, none⟩)) ∧ DO w' w.heap.size db' G' n N C ∧ Chg [] w w' := by
  have c0 := h.c0
  have c1 := h.c1
  have c2 := h.c2
  have n0 := h.n0
  have nn := h.nn
  have hN : ∀ w1, Chg [] w w1 → Calls Try.prog 33 #[.slice (some ⟨b0, o0, none⟩) n k0] w1 fun e w' => ∃ b o k, e = .returned (.slice (some ⟨b, o, none⟩) n k) ∧ w1.heap.size ≤ b ∧ Room w' w.heap.size (some ⟨b, o, none⟩) n k (bts N) ∧ Chg [] w1 w' ∧ Chg [] w w' ∧ w'.cell? ⟨db, 0, none⟩ = some (.slice (some ⟨b0, o0, none⟩) n k0) ∧ w'.cell? ⟨db, 1, none⟩ = some (.slice (some ⟨b1, o1, none⟩) n k1) ∧ w'.cell? ⟨db, 2, none⟩ = some (.slice (some ⟨b2, o2, none⟩) n k2) := by
    intro w1 g
    refine (own_any _ n k0 N w1 (h.r0.reads.keep g) h.lN n0 nn).mono ?_
    rintro e w' ⟨b, o, k, he, hb, hr, hg⟩
    have g2 := g.then hg
    exact ⟨b, o, k, he, hb, hr.mono g.size, hg, g2, g2.cellv h.c0 (by simp), g2.cellv h.c1 (by simp), g2.cellv h.c2 (by simp)⟩
  have hC : ∀ w1, Chg [] w w1 → Calls Try.prog 33 #[.slice (some ⟨b1, o1, none⟩) n k1] w1 fun e w' => ∃ b o k, e = .returned (.slice (some ⟨b, o, none⟩) n k) ∧ w1.heap.size ≤ b ∧ Room w' w.heap.size (some ⟨b, o, none⟩) n k (bts C) ∧ Chg [] w1 w' ∧ Chg [] w w' ∧ w'.cell? ⟨db, 0, none⟩ = some (.slice (some ⟨b0, o0, none⟩) n k0) ∧ w'.cell? ⟨db, 1, none⟩ = some (.slice (some ⟨b1, o1, none⟩) n k1) ∧ w'.cell? ⟨db, 2, none⟩ = some (.slice (some ⟨b2, o2, none⟩) n k2) := by
    intro w1 g
    refine (own_any _ n k1 C w1 (h.r1.reads.keep g) h.lC n0 nn).mono ?_
    rintro e w' ⟨b, o, k, he, hb, hr, hg⟩
    have g2 := g.then hg
    exact ⟨b, o, k, he, hb, hr.mono g.size, hg, g2, g2.cellv h.c0 (by simp), g2.cellv h.c1 (by simp), g2.cellv h.c2 (by simp)⟩
  have hR : ∀ w1, Chg [] w w1 → Reads w1 (some ⟨b2, o2, none⟩) (bvs (newL N C)) := fun w1 g => h.r2.reads.keep g
  have hl : (bvs (newL N C)).length = n := h.r2.len
  have HN := mkHid hN
  have HC := mkHid hC
  have HR := mkHid hR
  have HL := mkHid hl
  clear hN hC hR hl h
  go_enter Try.func21, Try.ntmps21
  go_wp2_with fail
  go_region_held3 (fun u => u.cell? ⟨db, 0, none⟩ = some (.slice (some ⟨b0, o0, none⟩) n k0) ∧ u.cell? ⟨db, 1, none⟩ = some (.slice (some ⟨b1, o1, none⟩) n k1) ∧ u.cell? ⟨db, 2, none⟩ = some (.slice (some ⟨b2, o2, none⟩) n k2))
    (first | exact ⟨c0, c1, c2⟩ | exact ⟨ka0, ka1, ka2⟩ | exact ⟨kb0, kb1, kb2⟩ | exact ⟨kc0, kc1, kc2⟩ | exact ⟨(Chg.alloc [] _ _).cellv ka0 (by simp), (Chg.alloc [] _ _).cellv ka1 (by simp), (Chg.alloc [] _ _).cellv ka2 (by simp)⟩ | exact ⟨(Chg.alloc [] _ _).cellv kb0 (by simp), (Chg.alloc [] _ _).cellv kb1 (by simp), (Chg.alloc [] _ _).cellv kb2 (by simp)⟩ | exact ⟨(Chg.alloc [] _ _).cellv kc0 (by simp), (Chg.alloc [] _ _).cellv kc1 (by simp), (Chg.alloc [] _ _).cellv kc2 (by simp)⟩ | assumption)
    (first
    | (go_at_call_of 33 b0; refine (HN.out _ (by first | exact Chg.refl _ _ | exact Chg.drew _ _ | exact gcc)).mono ?_; rintro e wa ⟨x0, y0, z0, rfl, ha, ra, ga, gaa, ka0, ka1, ka2⟩)
    | (go_at_call_of 33 b1; refine (HC.out _ (by first | exact gaa | exact gcc)).mono ?_; rintro e wb ⟨x1, y1, z1, rfl, hb, rb, gb, gbb, kb0, kb1, kb2⟩)
    | (refine step_append_new rfl (.tmp 14) (.tmp 18) 63 rfl 4 1 eltO w.heap.size none rfl (by first | exact gbb.size | exact gaa.size | exact Nat.le_refl _) (some ⟨b2, o2, none⟩) n k2 (bvs (newL N C)) rfl (by first | exact HR.out _ gbb | exact HR.out _ gaa | exact HR.out _ (Chg.refl _ _) | exact HR.out _ (Chg.drew _ _)) HL.out (bvs_one _) n0 (by unfold maxLen; omega) (by omega) ?_
       intro x2 y2 z2 wc rc gc hc
       have gcc : Chg [] w wc := by first | exact gbb.then gc | exact gaa.then gc | exact gc | exact (Chg.drew [] w).then gc
       have kc0 := gcc.cellv c0 (by simp)
       have kc1 := gcc.cellv c1 (by simp)
       have kc2 := gcc.cellv c2 (by simp)))
  go_wp2_with fail
  go_ret
  have la := (room_lt ra n0).2
  have lb := (room_lt rb n0).2
  obtain ⟨q1, q2⟩ := dat_close (db := wc.heap.size) (t := 65) (N := N) (C := C) rfl gcc.size (room_chg (room_chg ra n0 gb (by simp)) n0 gc (by simp)) (room_chg rb n0 gc (by simp)) rc n0 nn (by omega) (by have := gb.size; omega) (by omega)
  rw [hc] at q1 q2
  exact ⟨_, _, rfl, q1, gcc.then q2⟩
end
end Go.Proofs.Ytppjjlooocigdaa
