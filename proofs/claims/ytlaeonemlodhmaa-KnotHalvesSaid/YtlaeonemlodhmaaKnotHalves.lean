/- For all keys, made rising: the halves of Split and of Even differ by at most one pair, joined they are the node, or the two. No conditions. -/
import Derived.Test.YtlaeonemlodhmaaE
import Derived.Test.YtlaeonemlodhmaaH
import Derived.Test.YtlaeonemlodhmaaJb
import Derived.Lib.SmallJoins
import Derived.Deep.QuietTactic
import Derived.BigQuiet
import Derived.Deep.DeepCutAuto
import Derived.ProofKit
import Derived.OpenShut
import Derived.SizedLaws
import Derived.Carry
namespace Go.Proofs.Ytlaeonemlodhmaa.knotHalves
open Go.ChangeShapes Go.WideShapes Go.ChangeAt Go.RowKit
set_option linter.unusedVariables false

theorem walk (a0 : Option Addr) (n0 c0 : Nat) (l0 : List Int) (a1 : Option Addr) (n1 c1 : Nat) (l1 : List Int) (W : World) (g0 : Reads W a0 (l0.map (Value.int .u64))) (gn0 : l0.length = n0) (gc0 : n0 ≤ c0) (gr0 : c0 * 8 ≤ 140737488351232) (gw0 : ∀ z ∈ l0, (Lit.int .u64 z).wf = true) (g1 : Reads W a1 (l1.map (Value.int .u64))) (gn1 : l1.length = n1) (gc1 : n1 ≤ c1) (gr1 : c1 * 8 ≤ 140737488351232) (gw1 : ∀ z ∈ l1, (Lit.int .u64 z).wf = true) :
    Calls Try.prog 7 #[.slice a0 n0 c0, .slice a1 n1 c1] W fun e w' => e = .returned (.bool true) ∧ Below W.heap.size W w' := by
  obtain ⟨L0, e0, k0, -⟩ := uvs_of_ints l0 gw0
  obtain ⟨L1, e1, k1, -⟩ := uvs_of_ints l1 gw1
  rw [e0] at g0
  rw [e1] at g1
  refine (halves_core a0 n0 c0 L0 a1 n1 c1 L1 W g0 (k0.trans gn0) g1 (k1.trans gn1)).mono ?_
  rintro e w' ⟨h1, h2⟩
  exact ⟨h1, h2.below (Nat.le_refl _) (by simp)⟩

theorem own : ownKnob Try.prog.godebug = none := by kernel_rfl
theorem laidOut : laidOutB Try.prog = true := by kernel_rfl
set_option maxRecDepth 100000 in
theorem lifted (os : Os) (started : os.Started) (H : Type) (enc : TypeId × Value → H) :
    ReturnsInHanded {} Try.checked os 7 .any (Rows.knotHalvesSpec.pre6 enc Try.prog Try.f7 Rows.knotHalvesRow.domain false) (Rows.knotHalvesSpec.post enc Try.prog Try.f7 false true false false) := by
  refine returnsInHanded_of_change_sized (C := Try.checked) own started (by kernel_rfl) Try.func7
    (ChangeSpec.witness6 (enc := enc) (C := Try.checked) false ⟨#[], #[.slice none 0 0, .slice none 0 0], []⟩ 8 (by kernel_rfl) (by kernel_rfl) (by kernel_rfl) (by kernel_rfl)) ?_
  intro W base args ds gs before hval0 hW hcnd hsz0 _
  have hsz : (DataW.weightsEach Try.prog (Try.f7.params.toList ++ Rows.knotHalvesSpec.plain.varTypes Try.prog) (ds ++ gs)).all (· ≤ reachBytes) = true := hsz0
  have hval : ∀ (j : Nat) t v, Try.f7.params[j]? = some t → args[j]? = some v → Value.okWide Try.prog W .any base t v := hval0
  have hW' := hW
  obtain ⟨p, q, hA0, hV, rfl, hfz, hnd⟩ := hW
  have hA : DataW.TrodAll enc Try.prog W 0 (fun _ => true) true Try.f7.params.toList args.toList ds p := hA0
  rw [Try.params7] at hA hval hsz
  obtain ⟨v0, vs0, d0, ds0, p0, q0, hargs, rfl, rfl, h0, r0⟩ := trodAll_cons hA
  obtain ⟨v1, vs1, d1, ds1, p1, q1, rfl, rfl, rfl, h1, r1⟩ := trodAll_cons r0
  obtain ⟨rfl, rfl, rfl⟩ := trodAll_nil r1
  obtain rfl : args = #[v0, v1] := by cases args; simp_all
  obtain ⟨rfl, rfl⟩ := trodVars_none hV
  have k0 := h0
  have lt0 : ∀ x ∈ p0, x.block < W.heap.size := by obtain ⟨m, hm⟩ := k0; exact DataW.trod_lt m _ _ _ hm
  have k1 := h1
  have lt1 : ∀ x ∈ p1, x.block < W.heap.size := by obtain ⟨m, hm⟩ := k1; exact DataW.trod_lt m _ _ _ hm
  obtain ⟨a0, n0, c0, rfl⟩ := okWide_slice Try.underlying22 (hval 0 22 v0 rfl rfl)
  obtain ⟨l0, g0, gn0, gc0, gm0, gw0, gd0⟩ := opened_ints Try.underlying22 Try.underlying25 (by kernel_rfl) h0
  have gr0 := (sized_of hsz (j := 0) (t := 22) rfl rfl).slice Try.underlying22 (by kernel_rfl : Try.prog.bytesOf 25 = 8) gd0
  obtain ⟨a1, n1, c1, rfl⟩ := okWide_slice Try.underlying22 (hval 1 22 v1 rfl rfl)
  obtain ⟨l1, g1, gn1, gc1, gm1, gw1, gd1⟩ := opened_ints Try.underlying22 Try.underlying25 (by kernel_rfl) h1
  have gr1 := (sized_of hsz (j := 1) (t := 22) rfl rfl).slice Try.underlying22 (by kernel_rfl : Try.prog.bytesOf 25 = 8) gd1
  refine (walk a0 n0 c0 l0 a1 n1 c1 l1 W g0 gn0 gc0 gr0 gw0 g1 gn1 gc1 gr1 gw1).mono fun e W' ⟨he, bel⟩ => ?_
  subst he
  exact ⟨_, rfl, _, _, _, [], _, [], hW', trodAll_mk1 (shut_bool Try.underlying4 _), (trodAll_cons_mk (Below.trod laidOut (by kernel_rfl) (of_decide_eq_true (by kernel_rfl)) k0 bel lt0) (trodAll_cons_mk (Below.trod laidOut (by kernel_rfl) (of_decide_eq_true (by kernel_rfl)) k1 bel lt1) trodAll_mk0)), rfl, bel.frame _, fun h => by cases h⟩
theorem proved : Rows.KnotHalvesSaid :=
  OpenClaim.holds_of_wide 7 Try.f7 rfl rfl rfl rfl rfl rfl rfl ⟨rfl, rfl, rfl, rfl, rfl⟩ rfl rfl rfl rfl rfl (by kernel_rfl) Try.func7 (by kernel_rfl)
    (of_decide_eq_true (by kernel_rfl)) (by unfold Func.isWrapper; first | (rw [if_pos (by decide +kernel)]; kernel_rfl) | (rw [if_neg (by decide +kernel)]; exact ⟨rfl, rfl⟩))
    (fun os started H enc _ => lifted os started H enc)
#print axioms proved
end Go.Proofs.Ytlaeonemlodhmaa.knotHalves
