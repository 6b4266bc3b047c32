/- What a drawn region's slots hold: values, places, nodes; nodes of one pair; the reference's Join. -/
import Derived.Test.YtlaeonemlodhmaaIg
import Derived.Test.YtlaeonemlodhmaaM
namespace Go.Proofs.Ytlaeonemlodhmaa
open Go.RowKit
set_option linter.unusedVariables false
set_option linter.unusedSimpArgs false
attribute [local go_sem ↓] Go.wp_at_zero Go.wp_at_succ

def IsV (c : Value) : Pr := fun x _ _ _ => x = c
def IsBox : Pr := fun x lo hi u => x = .pointer (some ⟨lo, 0, none⟩) ∧ hi = lo + 1 ∧ u.there lo 0 3
def IsN (lf : Bool) (K V : List Nat) : Pr := fun x lo hi u => ∃ ka kc va vc, x = .agg #[.bool lf, .slice ka K.length kc, .slice va V.length vc] ∧ RmN u lo ka kc va vc K V ∧ (∀ q, q ∈ fp ka kc → q < hi) ∧ ∀ q, q ∈ fp va vc → q < hi
theorem keepV (c : Value) : Keeps (IsV c) := fun _ _ _ _ _ _ h => h
theorem keepB : Keeps IsBox := fun _ _ _ _ _ g h => ⟨h.1, h.2.1, there_chg h.2.2 g (by simp)⟩
theorem keepN (lf : Bool) (K V : List Nat) : Keeps (IsN lf K V) := fun _ _ _ _ _ g h => by
  obtain ⟨ka, kc, va, vc, e, r, a, b⟩ := h
  exact ⟨ka, kc, va, vc, e, r.keep g, a, b⟩
theorem isN_out {lf : Bool} {K V : List Nat} {x : Value} {w u : World} (h : NOut w.heap.size lf K V (.returned x) u) : IsN lf K V x w.heap.size u.heap.size u := by
  obtain ⟨ka, kc, va, vc, e, r⟩ := h
  cases e
  exact ⟨ka, kc, va, vc, rfl, r, fun q hq => (r.rk.lt q hq).2, fun q hq => (r.rv.lt q hq).2⟩
def depB (o : Oper) (j : Nat) : Bool := o.after.toList.any fun e => Region.binds .any e && decide (e.on = j)
theorem dep {o : Oper} {w : World} {l : List Pr} {v : Nat → Value} (hd : ∀ e ∈ o.after.toList, Region.binds .any e = true → ∃ lo hi, prAt l e.on (v e.on) lo hi w) (j : Nat) (h : depB o j = true) : ∃ lo hi, prAt l j (v j) lo hi w := by
  obtain ⟨e, he, h2⟩ := List.any_eq_true.1 h
  simp only [Bool.and_eq_true, decide_eq_true_eq] at h2
  have := hd e he h2.1
  rwa [h2.2] at this
theorem depV {c x : Value} {u : World} (h : ∃ lo hi, IsV c x lo hi u) : x = c := by
  obtain ⟨_, _, h⟩ := h
  exact h
/-- A value of its own in the node's place. -/
theorem RmN.put {w : World} {B : Nat} {ka : Option Addr} {kc : Nat} {va : Option Addr} {vc : Nat} {K V : List Nat} (h : RmN w B ka kc va vc K V) (R : Nat) (hR : R ∉ fp ka kc) (hR' : R ∉ fp va vc) (x y z : Value) : RmN (((w.setCell ⟨R, 0, none⟩ x).setCell ⟨R, 1, none⟩ y).setCell ⟨R, 2, none⟩ z) B ka kc va vc K V :=
  ⟨h.rk.chg (three_chg w R x y z) (fun q hq hm => by simp at hm; subst hm; exact hR hq), h.rv.chg (three_chg w R x y z) (fun q hq hm => by simp at hm; subst hm; exact hR' hq), h.dj⟩
theorem one_room (w : World) (x y : Nat) (a b c : Value) : RmN (((w.alloc (.cells #[a, b, c] 24)).alloc (.cells #[.int .u64 (x : Int)] 25)).alloc (.cells #[.int .u64 (y : Int)] 25)) w.heap.size (some ⟨w.heap.size + 1, 0, none⟩) 1 (some ⟨w.heap.size + 1 + 1, 0, none⟩) 1 [x] [y] := by
  have h1 := lit_room (w.alloc (.cells #[a, b, c] 24)) w.heap.size (by simp) #[.int .u64 (x : Int)] 25 (uvs [x]) 1 rfl rfl (by decide)
  have h2 := lit_room ((w.alloc (.cells #[a, b, c] 24)).alloc (.cells #[.int .u64 (x : Int)] 25)) w.heap.size (by simp; omega) #[.int .u64 (y : Int)] 25 (uvs [y]) 1 rfl rfl (by decide)
  have e1 : (w.alloc (.cells #[a, b, c] 24)).heap.size = w.heap.size + 1 := by simp
  have e2 : ((w.alloc (.cells #[a, b, c] 24)).alloc (.cells #[.int .u64 (x : Int)] 25)).heap.size = w.heap.size + 1 + 1 := by simp
  rw [e1] at h1
  rw [e2] at h2
  exact ⟨h1.chg (Chg.alloc [] _ _) (by simp), h2, fun q hq hm => by rw [fp_some _ _ _ (by decide)] at hq hm; simp at hq hm; omega⟩
set_option maxRecDepth 20000 in
theorem rone_any (x y : Nat) (w : World) : Calls Try.prog 42 #[.int .u64 (x : Int), .int .u64 (y : Int)] w fun e w' => NOut w.heap.size false [x] [y] e w' ∧ Chg [] w w' := by
  have h := one_room w x y (.bool false) (.slice (some ⟨w.heap.size + 1, 0, none⟩) 1 1) (.slice (some ⟨w.heap.size + 1 + 1, 0, none⟩) 1 1)
  have HH := mkHid h
  clear h
  go_enter Try.func42, Try.ntmps42
  go_wp2_with fail
  exact bodyPost_ret (v := .agg #[.bool false, .slice (some ⟨w.heap.size + 1, 0, none⟩) 1 1, .slice (some ⟨w.heap.size + 1 + 1, 0, none⟩) 1 1]) (by simp [results, Try.results42, go_sem]) rfl ⟨⟨_, _, _, _, rfl, HH.out⟩, ((Chg.alloc [] w _).then (Chg.alloc [] _ _)).then (Chg.alloc [] _ _)⟩
set_option maxRecDepth 20000 in
theorem pair_any (x y : Nat) (w : World) : Calls Try.prog 37 #[.int .u64 (x : Int), .int .u64 (y : Int)] w fun e w' => NOut w.heap.size false [x] [y] e w' ∧ Chg [] w w' := by
  have h := one_room w x y (.bool false) (.slice (some ⟨w.heap.size + 1, 0, none⟩) 1 1) (.slice (some ⟨w.heap.size + 1 + 1, 0, none⟩) 1 1)
  have HH := mkHid h
  clear h
  go_enter Try.func37, Try.ntmps37
  go_wp2_with fail
  exact bodyPost_ret (v := .agg #[.bool false, .slice (some ⟨w.heap.size + 1, 0, none⟩) 1 1, .slice (some ⟨w.heap.size + 1 + 1, 0, none⟩) 1 1]) (by simp [results, Try.results37, go_sem]) rfl ⟨⟨_, _, _, _, rfl, HH.out⟩, ((Chg.alloc [] w _).then (Chg.alloc [] _ _)).then (Chg.alloc [] _ _)⟩
/-- A node stored in a place. -/
theorem stored3 {w : World} {R : Nat} (t : w.there R 0 3) (x y z : Value) : (((w.setCell ⟨R, 0, none⟩ x).setCell ⟨R, 1, none⟩ y).setCell ⟨R, 2, none⟩ z).cell? ⟨R, 0, none⟩ = some x ∧ (((w.setCell ⟨R, 0, none⟩ x).setCell ⟨R, 1, none⟩ y).setCell ⟨R, 2, none⟩ z).cell? ⟨R, 1, none⟩ = some y ∧ (((w.setCell ⟨R, 0, none⟩ x).setCell ⟨R, 1, none⟩ y).setCell ⟨R, 2, none⟩ z).cell? ⟨R, 2, none⟩ = some z ∧
    (((w.setCell ⟨R, 0, none⟩ x).setCell ⟨R, 1, none⟩ y).setCell ⟨R, 2, none⟩ z).frozen? ⟨R, 1, none⟩ = false ∧ (((w.setCell ⟨R, 0, none⟩ x).setCell ⟨R, 1, none⟩ y).setCell ⟨R, 2, none⟩ z).frozen? ⟨R, 2, none⟩ = false := by
  obtain ⟨v0, v1, v2, r0, r1, r2, q0, q1, q2⟩ := there3 t
  refine ⟨setN_other (setN_other (World.cell?_setCell_same _ _ _ r0) (by decide)) (by decide), setN_other (World.cell?_setCell_same _ _ _ (setN_other r1 (by decide))) (by decide), World.cell?_setCell_same _ _ _ (setN_other (setN_other r2 (by decide)) (by decide)), ?_, ?_⟩
  · simp only [World.frozen?_setCell]; exact q1
  · simp only [World.frozen?_setCell]; exact q2
theorem rpart0_any (lf : Bool) (ka : Option Addr) (kl kc : Nat) (va : Option Addr) (vl vc : Nat) (K V : List Nat) (w : World) (h : RdN w ka kc va vc K V) (hk : K.length = kl) (hv : V.length = vl) (t : Nat) (htk : t ≤ kl) (htv : t ≤ vl) :
    Calls Try.prog 41 #[.agg #[.bool lf, .slice ka kl kc, .slice va vl vc], .int .i64 0, .int .i64 (t : Int)] w fun e w' => NOut w.heap.size lf (sub K 0 t) (sub V 0 t) e w' ∧ Chg [] w w' :=
  rpart_any lf ka kl kc va vl vc K V w h hk hv 0 t (Nat.zero_le _) htk htv
end Go.Proofs.Ytlaeonemlodhmaa
