/- Nodes and rows of numbers, as lib/node has them, for a seat without bytes. -/
import Derived.Test.YtlaeonemlodhmaaW
import Derived.Test.YtlaeonemlodhmaaO
import Derived.Test.YtlaeonemlodhmaaE
import Derived.Deep.QuietTactic
import Derived.BigQuiet
import Derived.RegionTactic
import Derived.Deep.RegionHeld3
import Derived.Deep.RegionLaw
import Derived.Deep.DeepCutAuto
import Derived.Deep.CutBlock
import Derived.Deep.DrawnRows
import Derived.WalkSpells
import Derived.WalkLawsBesides
namespace Go.Proofs.Ytlaeonemlodhmaa
open Go.ChangeShapes Go.WideShapes Go.ChangeAt Go.RowKit
set_option linter.unusedVariables false
set_option linter.unusedSimpArgs false
attribute [local go_sem ↓] Go.wp_at_zero Go.wp_at_succ

theorem Chg.drewN (w : World) (n : Nat) : Chg [] w (w.drewN n) := ⟨rfl, rfl, rfl, Nat.le_refl _, fun _ _ _ => rfl⟩
theorem ret_bool' {a b : Bool} (h : a = b) : Ending.returned (Value.bool a) = .returned (.bool b) := by rw [h]
theorem eltU : Elt Try.prog 22 25 8 := Elt.mk (z := .int .u64 0) Try.underlying22 (by kernel_rfl) (by kernel_rfl)
theorem wraps_u64 (n : Int) (h₀ : 0 ≤ n) (h₁ : n < 2 ^ 64) : IntKind.u64.wrap n = n := by
  rw [IntKind.wrap_u64]; exact Int.emod_eq_of_lt h₀ h₁
def uvs (L : List Nat) : List Value := L.map fun x : Nat => Value.int .u64 (x : Int)
theorem uvs_len (L : List Nat) : (uvs L).length = L.length := by simp [uvs]
theorem uvs_get {L : List Nat} {k x : Nat} (h : L[k]? = some x) : (uvs L)[k]? = some (.int .u64 (x : Int)) := by simp [uvs, h]
theorem uvs_append (L M : List Nat) : uvs (L ++ M) = uvs L ++ uvs M := by simp [uvs]
theorem uvs_set (L : List Nat) (k x : Nat) : (uvs L).set k (.int .u64 (x : Int)) = uvs (L.set k x) := by simp [uvs]
theorem uvs_one (L : List Nat) : ∀ u ∈ uvs L, u.oneCell' = true := by
  intro u hu
  obtain ⟨_, _, rfl⟩ := List.mem_map.1 hu
  rfl
/-- A node, as a value: its keys and values read as rows of numbers. -/
structure RdN (w : World) (ka : Option Addr) (kc : Nat) (va : Option Addr) (vc : Nat) (K V : List Nat) : Prop where
  rk : Reads w ka (uvs K)
  rv : Reads w va (uvs V)
  ck : K.length ≤ kc
  cv : V.length ≤ vc
  bk : K.length * 8 ≤ 140737488351232
  bv : V.length * 8 ≤ 140737488351232
  xk : kc ≤ maxLen
  xv : vc ≤ maxLen
theorem RdN.keep {w w' : World} {ka : Option Addr} {kc : Nat} {va : Option Addr} {vc : Nat} {K V : List Nat} (h : RdN w ka kc va vc K V) (g : Chg [] w w') : RdN w' ka kc va vc K V := ⟨h.rk.keep g, h.rv.keep g, h.ck, h.cv, h.bk, h.bv, h.xk, h.xv⟩
def nv (lf : Bool) (ka : Option Addr) (kl kc : Nat) (va : Option Addr) (vl vc : Nat) : Value := .agg #[.bool lf, .slice ka kl kc, .slice va vl vc]
theorem getD_of {L : List Nat} {i x : Nat} (h : L[i]? = some x) : L.getD i 0 = x := by rw [List.getD_eq_getElem?_getD, h]; rfl
def sameB (lf lf' : Bool) (K V K' V' : List Nat) : Bool := decide (lf = lf') && (decide (K = K') && decide (V = V'))
theorem take_iff {L M : List Nat} {k : Nat} (hl : k < L.length) (hm : k < M.length) (he : L.take k = M.take k) {x y : Nat} (hx : L[k]? = some x) (hy : M[k]? = some y) : L.take (k + 1) = M.take (k + 1) ↔ x = y := by
  rw [List.getElem?_eq_getElem hl] at hx
  rw [List.getElem?_eq_getElem hm] at hy
  cases hx; cases hy
  rw [List.take_succ_eq_append_getElem hl, List.take_succ_eq_append_getElem hm, he]
  exact ⟨fun h => by simpa using List.append_cancel_left h, fun h => by rw [h]⟩
theorem two_boxes (w : World) (x0 x1 x2 y0 y1 y2 : Value) (t : TypeId) : ((w.alloc (.cells #[x0, x1, x2] t)).alloc (.cells #[y0, y1, y2] t)).cell? ⟨w.heap.size, 1, none⟩ = some x1 ∧ ((w.alloc (.cells #[x0, x1, x2] t)).alloc (.cells #[y0, y1, y2] t)).cell? ⟨w.heap.size, 2, none⟩ = some x2 ∧
    ((w.alloc (.cells #[x0, x1, x2] t)).alloc (.cells #[y0, y1, y2] t)).cell? ⟨w.heap.size + 1, 1, none⟩ = some y1 ∧ ((w.alloc (.cells #[x0, x1, x2] t)).alloc (.cells #[y0, y1, y2] t)).cell? ⟨w.heap.size + 1, 2, none⟩ = some y2 := by
  have g := Chg.alloc [] (w.alloc (.cells #[x0, x1, x2] t)) (.cells #[y0, y1, y2] t)
  have hz : (w.alloc (.cells #[x0, x1, x2] t)).heap.size = w.heap.size + 1 := by simp
  have h2 := fun j => cell_of_row ((w.alloc (.cells #[x0, x1, x2] t)).alloc (.cells #[y0, y1, y2] t)) _ j _ _ _ (heap_alloc_last (w.alloc (.cells #[x0, x1, x2] t)) (.cells #[y0, y1, y2] t))
  rw [hz] at h2
  have h1 := fun j => cell_of_row (w.alloc (.cells #[x0, x1, x2] t)) _ j _ _ _ (heap_alloc_last w (.cells #[x0, x1, x2] t))
  exact ⟨g.cellv (h1 1) (by simp), g.cellv (h1 2) (by simp), h2 1, h2 2⟩
theorem two_boxes0 (w : World) (x0 x1 x2 y0 y1 y2 : Value) (t : TypeId) : ((w.alloc (.cells #[x0, x1, x2] t)).alloc (.cells #[y0, y1, y2] t)).cell? ⟨w.heap.size, 0, none⟩ = some x0 ∧ ((w.alloc (.cells #[x0, x1, x2] t)).alloc (.cells #[y0, y1, y2] t)).cell? ⟨w.heap.size + 1, 0, none⟩ = some y0 := by
  have g := Chg.alloc [] (w.alloc (.cells #[x0, x1, x2] t)) (.cells #[y0, y1, y2] t)
  have hz : (w.alloc (.cells #[x0, x1, x2] t)).heap.size = w.heap.size + 1 := by simp
  have h2 := cell_of_row ((w.alloc (.cells #[x0, x1, x2] t)).alloc (.cells #[y0, y1, y2] t)) _ 0 _ _ _ (heap_alloc_last (w.alloc (.cells #[x0, x1, x2] t)) (.cells #[y0, y1, y2] t))
  rw [hz] at h2
  have h1 := cell_of_row (w.alloc (.cells #[x0, x1, x2] t)) _ 0 _ _ _ (heap_alloc_last w (.cells #[x0, x1, x2] t))
  exact ⟨g.cellv h1 (by simp), h2⟩
theorem same_self (lf : Bool) (K V : List Nat) : sameB lf lf K V K V = true := by simp [sameB]
theorem lit_room (w : World) (B : Nat) (hB : B ≤ w.heap.size) (cs : Array Value) (e : TypeId) (xs : List Value) (n : Nat) (hc : cs.toList = xs) (hn : xs.length = n) (hx : n ≤ maxLen) : Room (w.alloc (.cells cs e)) B (some ⟨w.heap.size, 0, none⟩) n n xs := by
  have h2 : cs.size = n := by rw [← hn, ← hc]; simp
  have hf := fun j => frozen_of_row (w.alloc (.cells cs e)) w.heap.size j cs e (heap_alloc_last w (.cells cs e))
  have hcc := fun j => cell_of_row (w.alloc (.cells cs e)) w.heap.size j cs e (0, 0) (heap_alloc_last w (.cells cs e))
  refine ⟨hn, Nat.le_refl _, hx, fun _ => ⟨w.heap.size, 0, rfl, hB, fun j hj => ?_, fun j u hu => ?_⟩⟩
  · rw [Nat.zero_add]
    refine ⟨?_, hf j⟩
    rw [hcc, Array.getElem?_eq_getElem (by omega)]
    rfl
  · rw [Nat.zero_add, hcc]
    rw [← hc] at hu
    simpa using hu
/-- A node's cells, in the block that it was laid in. -/
theorem laid3 (w : World) (x y z : Value) (t : TypeId) : (w.alloc (.cells #[x, y, z] t)).cell? ⟨w.heap.size, 0, none⟩ = some x ∧ (w.alloc (.cells #[x, y, z] t)).cell? ⟨w.heap.size, 1, none⟩ = some y ∧ (w.alloc (.cells #[x, y, z] t)).cell? ⟨w.heap.size, 2, none⟩ = some z := by
  have hl := heap_alloc_last w (.cells #[x, y, z] t)
  have hc := fun j => cell_of_row _ w.heap.size j _ _ _ hl
  exact ⟨by rw [hc]; rfl, by rw [hc]; rfl, by rw [hc]; rfl⟩
theorem setN_other {w : World} {b i j : Nat} {u v : Value} (h : w.cell? ⟨b, j, none⟩ = some v) (hne : j ≠ i) : (w.setCell ⟨b, i, none⟩ u).cell? ⟨b, j, none⟩ = some v := by
  rw [World.cell?_setCell_other _ _ _ _ (by simp [hne])]
  exact h
theorem three (w0 wr : World) (R : Nat) (hR : w0.heap.size ≤ R) (g : Chg [] w0 wr) (x y z : Value) : Chg [] w0 (((wr.setCell ⟨R, 0, none⟩ x).setCell ⟨R, 1, none⟩ y).setCell ⟨R, 2, none⟩ z) := by
  have g2 : Chg [R] wr (((wr.setCell ⟨R, 0, none⟩ x).setCell ⟨R, 1, none⟩ y).setCell ⟨R, 2, none⟩ z) := ((Chg.setCell wr ⟨R, 0, none⟩ x).trans (Chg.setCell _ ⟨R, 1, none⟩ y) (fun _ h _ => h) (fun _ h _ => h)).trans (Chg.setCell _ ⟨R, 2, none⟩ z) (fun _ h _ => h) (fun _ h _ => h)
  exact g.trans g2 (by simp) (fun k hk hlt => by simp at hk; omega)
theorem three_chg (wr : World) (R : Nat) (x y z : Value) : Chg [R] wr (((wr.setCell ⟨R, 0, none⟩ x).setCell ⟨R, 1, none⟩ y).setCell ⟨R, 2, none⟩ z) :=
  ((Chg.setCell wr ⟨R, 0, none⟩ x).trans (Chg.setCell _ ⟨R, 1, none⟩ y) (fun _ h _ => h) (fun _ h _ => h)).trans (Chg.setCell _ ⟨R, 2, none⟩ z) (fun _ h _ => h) (fun _ h _ => h)
theorem start_there (w : World) : (w.alloc (.cells #[.bool false, .slice none 0 0, .slice none 0 0] 24)).there w.heap.size 0 3 := fun j hj => by
  refine ⟨?_, frozen_of_row _ _ _ _ _ (heap_alloc_last w _)⟩
  rw [cell_of_row _ _ _ _ _ _ (heap_alloc_last w _)]
  match j, hj with
  | 0, _ => rfl
  | 1, _ => rfl
  | 2, _ => rfl
section
variable {H : Type} {enc : TypeId × Value → H} {P : Program} {w : World} {base : Nat} {spare : Nat → Bool} {held : Bool}
theorem trod_struct3 {t : TypeId} {f0 f1 f2 : Field} {fuel : Nat} {cs : List Value} {x : DataW H × List MemPlace} (ht : P.underlying t = some (.struct #[f0, f1, f2])) (h : DataW.trod enc P w base spare held fuel t cs = some x) :
    ∃ y0 y1 y2 n, x = (.agg [y0.1, y1.1, y2.1], y0.2 ++ (y1.2 ++ y2.2)) ∧ cs.length = P.cellsOf t ∧ DataW.trod enc P w base spare held n f0.type ((cs.drop f0.offset).take (P.cellsOf f0.type)) = some y0 ∧
      DataW.trod enc P w base spare held n f1.type ((cs.drop f1.offset).take (P.cellsOf f1.type)) = some y1 ∧ DataW.trod enc P w base spare held n f2.type ((cs.drop f2.offset).take (P.cellsOf f2.type)) = some y2 := by
  obtain ⟨xs, n, _, rfl, hl, hlen, hf⟩ := DataW.trod_struct ht h
  match xs, hlen with
  | [y0, y1, y2], _ => exact ⟨y0, y1, y2, n, by simp, hl, by simpa using hf 0 f0 rfl, by simpa using hf 1 f1 rfl, by simpa using hf 2 f2 rfl⟩
end
theorem wf_u64 {z : Int} (h : (Lit.int .u64 z).wf = true) : 0 ≤ z ∧ z < 18446744073709551616 := by
  have := Go.bounds_u64 h
  omega
theorem uvs_of_ints (zs : List Int) (h : ∀ z ∈ zs, (Lit.int .u64 z).wf = true) : ∃ L : List Nat, zs.map (Value.int .u64) = uvs L ∧ L.length = zs.length ∧ ∀ x ∈ L, x < 2 ^ 64 := by
  refine ⟨zs.map Int.toNat, ?_, by simp, fun x hx => ?_⟩
  · simp only [uvs, List.map_map]
    apply List.map_congr_left
    intro z hz
    have := wf_u64 (h z hz)
    simp
    omega
  · obtain ⟨z, hz, rfl⟩ := List.mem_map.1 hx
    have := wf_u64 (h z hz)
    omega
/-- The argument, opened. -/
theorem open_node {H : Type} {enc : TypeId × Value → H} {base : Nat} (v : Value) (W : World) {d : DataW H} {p : List MemPlace} (k : DataW.Trod enc Try.prog W 0 (fun _ => true) true 24 v d p) (hv : Value.okWide Try.prog W .any base 24 v) (hs : Sized Try.prog 24 d) :
    ∃ lf ka kl kc va vl vc K V, v = .agg #[.bool lf, .slice ka kl kc, .slice va vl vc] ∧ RdN W ka kc va vc K V ∧ K.length = kl ∧ V.length = vl ∧ (∀ x ∈ K, x < 2 ^ 64) ∧ ∀ x ∈ V, x < 2 ^ 64 := by
  obtain ⟨cs, rfl, hsz⟩ := okWide_struct Try.underlying24 hv
  have e4 : Try.prog.cellsOf 24 = 3 := by kernel_rfl
  rw [e4] at hsz
  obtain ⟨m, hm⟩ := k
  obtain ⟨y0, y1, y2, q, hx, hl2, h0, h1, h2⟩ := trod_struct3 Try.underlying24 hm
  obtain ⟨cl, rfl⟩ : ∃ cl : List Value, cs = cl.toArray := ⟨cs.toList, by simp⟩
  match cl, hsz with
  | [v0, v1, v2], _ =>
    have c3 : Try.prog.cellsOf 4 = 1 := by kernel_rfl
    have c32 : Try.prog.cellsOf 22 = 1 := by kernel_rfl
    simp only [c3, c32, Value.cells, List.drop_zero, List.drop_succ_cons, List.take_succ_cons, List.take_zero] at h0 h1 h2
    obtain ⟨lf, r0, e0⟩ := DataW.trod_bool Try.underlying4 h0
    obtain ⟨ba1, bl1, bc1, r1⟩ := Joins.slice_form Try.underlying22 h1
    obtain ⟨ba2, bl2, bc2, r3⟩ := Joins.slice_form Try.underlying22 h2
    simp at r0 r1 r3
    subst r0 r1 r3
    obtain ⟨l1, g1, gn1, gc1, gm1, gw1, gd1⟩ := opened_ints Try.underlying22 Try.underlying25 (by kernel_rfl) ⟨q, h1⟩
    obtain ⟨l2, g2, gn2, gc2, gm2, gw2, gd2⟩ := opened_ints Try.underlying22 Try.underlying25 (by kernel_rfl) ⟨q, h2⟩
    cases hx
    have s1 := (hs.field Try.underlying24 (j := 1) rfl rfl).slice (bytes := 8) Try.underlying22 (by kernel_rfl) gd1
    have s2 := (hs.field Try.underlying24 (j := 2) rfl rfl).slice (bytes := 8) Try.underlying22 (by kernel_rfl) gd2
    obtain ⟨K, eK, lK, bK⟩ := uvs_of_ints l1 gw1
    obtain ⟨V, eV, lV, bV⟩ := uvs_of_ints l2 gw2
    rw [eK] at g1
    rw [eV] at g2
    exact ⟨lf, ba1, bl1, bc1, ba2, bl2, bc2, K, V, rfl, ⟨g1, g2, by omega, by omega, by omega, by omega, by unfold maxLen; omega, by unfold maxLen; omega⟩, by omega, by omega, bK, bV⟩
/-- A node in memory of its own. -/
def OwnRes (B : Nat) (lf : Bool) (K V : List Nat) (e : Ending) (w' : World) : Prop := ∃ ka kc va vc, e = .returned (.agg #[.bool lf, .slice ka K.length kc, .slice va V.length vc]) ∧ RdN w' ka kc va vc K V ∧ (∀ q, q ∈ fp ka kc → B ≤ q) ∧ ∀ q, q ∈ fp va vc → B ≤ q
theorem own_second {w2 w4 : World} {s R : Nat} {lf : Bool} {ka va : Option Addr} {kl kc vl vc : Nat} {a2 : Value} (hR : R ≠ s) (x0 : w2.cell? ⟨s, 0, none⟩ = some (.bool lf)) (x1 : w2.cell? ⟨s, 1, none⟩ = some (.slice ka kl kc)) (x2 : w2.cell? ⟨s, 2, none⟩ = some (.slice va vl vc)) (y2 : w2.frozen? ⟨s, 2, none⟩ = false) (t2 : w2.there R 0 3) (g4 : Chg [] (w2.setCell ⟨s, 1, none⟩ a2) w4) :
    w4.cell? ⟨s, 0, none⟩ = some (.bool lf) ∧ w4.cell? ⟨s, 1, none⟩ = some a2 ∧ w4.cell? ⟨s, 2, none⟩ = some (.slice va vl vc) ∧ w4.frozen? ⟨s, 2, none⟩ = false ∧ w4.there R 0 3 := by
  have h2 := setN_other (u := a2) x2 (show (2 : Nat) ≠ 1 by decide)
  exact ⟨g4.cellv (setN_other x0 (by decide)) (by simp), g4.cellv (World.cell?_setCell_same _ _ _ x1) (by simp), g4.cellv h2 (by simp), (g4.frozen (p := ⟨s, 2, none⟩) (block_lt_of_cell h2) (by simp)).trans ((World.frozen?_setCell ..).trans y2), there_chg (there_chg t2 (Chg.setCell w2 ⟨s, 1, none⟩ a2) (by simpa using hR)) g4 (by simp)⟩
theorem there3 {w : World} {R : Nat} (t : w.there R 0 3) : ∃ v0 v1 v2, w.cell? ⟨R, 0, none⟩ = some v0 ∧ w.cell? ⟨R, 1, none⟩ = some v1 ∧ w.cell? ⟨R, 2, none⟩ = some v2 ∧ w.frozen? ⟨R, 0, none⟩ = false ∧ w.frozen? ⟨R, 1, none⟩ = false ∧ w.frozen? ⟨R, 2, none⟩ = false := by
  obtain ⟨v0, r0⟩ := Option.isSome_iff_exists.1 (t 0 (by decide)).1
  obtain ⟨v1, r1⟩ := Option.isSome_iff_exists.1 (t 1 (by decide)).1
  obtain ⟨v2, r2⟩ := Option.isSome_iff_exists.1 (t 2 (by decide)).1
  have q0 := (t 0 (by decide)).2
  have q1 := (t 1 (by decide)).2
  have q2 := (t 2 (by decide)).2
  simp only [Nat.zero_add] at r0 r1 r2 q0 q1 q2
  exact ⟨v0, v1, v2, r0, r1, r2, q0, q1, q2⟩
end Go.Proofs.Ytlaeonemlodhmaa
