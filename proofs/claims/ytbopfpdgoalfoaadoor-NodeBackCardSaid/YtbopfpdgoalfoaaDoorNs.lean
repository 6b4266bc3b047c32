/- Nodes as arguments; the reference's Own; bytes.Equal. -/
import Derived.Test.YtbopfpdgoalfoaaDoorNr
import Derived.Test.YtbopfpdgoalfoaaDoorE
namespace Go.Proofs.YtbopfpdgoalfoaaDoor
open Go.ChangeShapes Go.WideShapes Go.ChangeAt Go.RowKit
set_option linter.unusedVariables false
set_option linter.unusedSimpArgs false
attribute [local go_sem ↓] Go.wp_at_zero Go.wp_at_succ

section
variable {H : Type} {enc : TypeId × Value → H} {P : Program} {w : World} {base : Nat} {spare : Nat → Bool} {held : Bool}
theorem trod_struct3 {t : TypeId} {f0 f1 f2 : Field} {fuel : Nat} {cs : List Value} {x : DataW H × List MemPlace} (ht : P.underlying t = some (.struct #[f0, f1, f2])) (h : DataW.trod enc P w base spare held fuel t cs = some x) :
    ∃ y0 y1 y2 n, x = (.agg [y0.1, y1.1, y2.1], y0.2 ++ (y1.2 ++ y2.2)) ∧ cs.length = P.cellsOf t ∧ DataW.trod enc P w base spare held n f0.type ((cs.drop f0.offset).take (P.cellsOf f0.type)) = some y0 ∧
      DataW.trod enc P w base spare held n f1.type ((cs.drop f1.offset).take (P.cellsOf f1.type)) = some y1 ∧ DataW.trod enc P w base spare held n f2.type ((cs.drop f2.offset).take (P.cellsOf f2.type)) = some y2 := by
  obtain ⟨xs, n, _, rfl, hl, hlen, hf⟩ := DataW.trod_struct ht h
  match xs, hlen with
  | [y0, y1, y2], _ => exact ⟨y0, y1, y2, n, by simp, hl, by simpa using hf 0 f0 rfl, by simpa using hf 1 f1 rfl, by simpa using hf 2 f2 rfl⟩
end
theorem wf_u64 {z : Int} (h : (Lit.int .u64 z).wf = true) : 0 ≤ z ∧ z < 18446744073709551616 := by
  have := Go.bounds_u64 h
  omega
theorem uvs_of_ints (zs : List Int) (h : ∀ z ∈ zs, (Lit.int .u64 z).wf = true) : ∃ L : List Nat, zs.map (Value.int .u64) = uvs L ∧ L.length = zs.length ∧ ∀ x ∈ L, x < 2 ^ 64 := by
  refine ⟨zs.map Int.toNat, ?_, by simp, fun x hx => ?_⟩
  · simp only [uvs, List.map_map]
    apply List.map_congr_left
    intro z hz
    have := wf_u64 (h z hz)
    simp
    omega
  · obtain ⟨z, hz, rfl⟩ := List.mem_map.1 hx
    have := wf_u64 (h z hz)
    omega
/-- The argument, opened. -/
theorem open_node {H : Type} {enc : TypeId × Value → H} {base : Nat} (v : Value) (W : World) {d : DataW H} {p : List MemPlace} (k : DataW.Trod enc Tryd.prog W 0 (fun _ => true) true 24 v d p) (hv : Value.okWide Tryd.prog W .any base 24 v) (hs : Sized Tryd.prog 24 d) :
    ∃ lf ka kl kc va vl vc K V, v = .agg #[.bool lf, .slice ka kl kc, .slice va vl vc] ∧ RdN W ka kc va vc K V ∧ K.length = kl ∧ V.length = vl ∧ (∀ x ∈ K, x < 2 ^ 64) ∧ ∀ x ∈ V, x < 2 ^ 64 := by
  obtain ⟨cs, rfl, hsz⟩ := okWide_struct Tryd.underlying24 hv
  have e4 : Tryd.prog.cellsOf 24 = 3 := by kernel_rfl
  rw [e4] at hsz
  obtain ⟨m, hm⟩ := k
  obtain ⟨y0, y1, y2, q, hx, hl2, h0, h1, h2⟩ := trod_struct3 Tryd.underlying24 hm
  obtain ⟨cl, rfl⟩ : ∃ cl : List Value, cs = cl.toArray := ⟨cs.toList, by simp⟩
  match cl, hsz with
  | [v0, v1, v2], _ =>
    have c3 : Tryd.prog.cellsOf 4 = 1 := by kernel_rfl
    have c32 : Tryd.prog.cellsOf 22 = 1 := by kernel_rfl
    simp only [c3, c32, Value.cells, List.drop_zero, List.drop_succ_cons, List.take_succ_cons, List.take_zero] at h0 h1 h2
    obtain ⟨lf, r0, e0⟩ := DataW.trod_bool Tryd.underlying4 h0
    obtain ⟨ba1, bl1, bc1, r1⟩ := Joins.slice_form Tryd.underlying22 h1
    obtain ⟨ba2, bl2, bc2, r3⟩ := Joins.slice_form Tryd.underlying22 h2
    simp at r0 r1 r3
    subst r0 r1 r3
    obtain ⟨l1, g1, gn1, gc1, gm1, gw1, gd1⟩ := opened_ints Tryd.underlying22 Tryd.underlying38 (by kernel_rfl) ⟨q, h1⟩
    obtain ⟨l2, g2, gn2, gc2, gm2, gw2, gd2⟩ := opened_ints Tryd.underlying22 Tryd.underlying38 (by kernel_rfl) ⟨q, h2⟩
    cases hx
    have s1 := (hs.field Tryd.underlying24 (j := 1) rfl rfl).slice (bytes := 8) Tryd.underlying22 (by kernel_rfl) gd1
    have s2 := (hs.field Tryd.underlying24 (j := 2) rfl rfl).slice (bytes := 8) Tryd.underlying22 (by kernel_rfl) gd2
    obtain ⟨K, eK, lK, bK⟩ := uvs_of_ints l1 gw1
    obtain ⟨V, eV, lV, bV⟩ := uvs_of_ints l2 gw2
    rw [eK] at g1
    rw [eV] at g2
    exact ⟨lf, ba1, bl1, bc1, ba2, bl2, bc2, K, V, rfl, ⟨g1, g2, by omega, by omega, by omega, by omega, by unfold maxLen; omega, by unfold maxLen; omega⟩, by omega, by omega, bK, bV⟩
theorem beq_any (ao : Option Addr) (n c : Nat) (l : List UInt8) (bo : Option Addr) (m d : Nat) (k : List UInt8) (w : World) (h1 : Reads w ao (bts l)) (hn : l.length = n) (h2 : Reads w bo (bts k)) (hm : k.length = m) :
    Calls Tryd.prog 19 #[.slice ao n c, .slice bo m d] w fun e w' => e = .returned (.bool (decide (l = k))) ∧ w = w' := by
  have r1 := run_convert_k (P := Tryd.prog) w 25 5 9 Tryd.underlying25 Tryd.underlying5 Tryd.underlying9 ao n c l h1 hn
  have r2 := run_convert_k (P := Tryd.prog) w 25 5 9 Tryd.underlying25 Tryd.underlying5 Tryd.underlying9 bo m d k h2 hm
  go_enter Tryd.func19, Tryd.ntmps19
  go_wp2
  go_ret
  exact ⟨ret_bool' (by rw [Bool.eq_iff_iff]; simp), rfl⟩
/-- A node in memory of its own. -/
def OwnRes (B : Nat) (lf : Bool) (K V : List Nat) (e : Ending) (w' : World) : Prop := ∃ ka kc va vc, e = .returned (.agg #[.bool lf, .slice ka K.length kc, .slice va V.length vc]) ∧ RdN w' ka kc va vc K V ∧ (∀ q, q ∈ fp ka kc → B ≤ q) ∧ ∀ q, q ∈ fp va vc → B ≤ q
theorem own_second {w2 w4 : World} {s R : Nat} {lf : Bool} {ka va : Option Addr} {kl kc vl vc : Nat} {a2 : Value} (hR : R ≠ s) (x0 : w2.cell? ⟨s, 0, none⟩ = some (.bool lf)) (x1 : w2.cell? ⟨s, 1, none⟩ = some (.slice ka kl kc)) (x2 : w2.cell? ⟨s, 2, none⟩ = some (.slice va vl vc)) (y2 : w2.frozen? ⟨s, 2, none⟩ = false) (t2 : w2.there R 0 3) (g4 : Chg [] (w2.setCell ⟨s, 1, none⟩ a2) w4) :
    w4.cell? ⟨s, 0, none⟩ = some (.bool lf) ∧ w4.cell? ⟨s, 1, none⟩ = some a2 ∧ w4.cell? ⟨s, 2, none⟩ = some (.slice va vl vc) ∧ w4.frozen? ⟨s, 2, none⟩ = false ∧ w4.there R 0 3 := by
  have h2 := setN_other (u := a2) x2 (show (2 : Nat) ≠ 1 by decide)
  exact ⟨g4.cellv (setN_other x0 (by decide)) (by simp), g4.cellv (World.cell?_setCell_same _ _ _ x1) (by simp), g4.cellv h2 (by simp), (g4.frozen (p := ⟨s, 2, none⟩) (block_lt_of_cell h2) (by simp)).trans ((World.frozen?_setCell ..).trans y2), there_chg (there_chg t2 (Chg.setCell w2 ⟨s, 1, none⟩ a2) (by simpa using hR)) g4 (by simp)⟩
theorem there3 {w : World} {R : Nat} (t : w.there R 0 3) : ∃ v0 v1 v2, w.cell? ⟨R, 0, none⟩ = some v0 ∧ w.cell? ⟨R, 1, none⟩ = some v1 ∧ w.cell? ⟨R, 2, none⟩ = some v2 ∧ w.frozen? ⟨R, 0, none⟩ = false ∧ w.frozen? ⟨R, 1, none⟩ = false ∧ w.frozen? ⟨R, 2, none⟩ = false := by
  obtain ⟨v0, r0⟩ := Option.isSome_iff_exists.1 (t 0 (by decide)).1
  obtain ⟨v1, r1⟩ := Option.isSome_iff_exists.1 (t 1 (by decide)).1
  obtain ⟨v2, r2⟩ := Option.isSome_iff_exists.1 (t 2 (by decide)).1
  have q0 := (t 0 (by decide)).2
  have q1 := (t 1 (by decide)).2
  have q2 := (t 2 (by decide)).2
  simp only [Nat.zero_add] at r0 r1 r2 q0 q1 q2
  exact ⟨v0, v1, v2, r0, r1, r2, q0, q1, q2⟩
end Go.Proofs.YtbopfpdgoalfoaaDoor
