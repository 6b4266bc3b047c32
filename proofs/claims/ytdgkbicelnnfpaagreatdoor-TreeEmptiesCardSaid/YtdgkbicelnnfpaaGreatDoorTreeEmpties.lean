/- For every row of keys and every row of turns: what is put in can be taken out again in those turns, the root is 0 then, and behind a commit all is free that was free ahead; the arguments read as before. The row lists one table of the library (math/bits), tied to its text. No other condition. -/
import Derived.Test.YtdgkbicelnnfpaaGreatDoorM42
import Derived.Test.YtdgkbicelnnfpaaGreatDoorM02
import Derived.Test.YtdgkbicelnnfpaaGreatDoorM01
import Derived.Test.YtdgkbicelnnfpaaGreatDoorCards
import Derived.Test.YtdgkbicelnnfpaaGreatDoorTie
import Derived.ProofKit
import Derived.OpenShut
import Derived.SizedLaws
import Derived.Carry
import Derived.Deep.DeepHandedRow
import Derived.Lib.SmallJoins
namespace Go.Proofs.YtdgkbicelnnfpaaGreatDoor.treeEmpties
open Go.ChangeShapes Go.WideShapes Go.ChangeAt Go.RowKit
set_option linter.unusedVariables false
set_option linter.unusedSimpArgs false

theorem u16s_of (zs : List Int) (h : ∀ z ∈ zs, (Lit.int .u16 z).wf = true) : ∃ L : List Nat, zs.map (Value.int .u16) = L.map (fun x : Nat => Value.int .u16 (x : Int)) ∧ L.length = zs.length ∧ ∀ x, x ∈ L → x < 65536 := by
  have hz : ∀ z ∈ zs, 0 ≤ z ∧ z < 65536 := fun z hm => by
    have := h z hm
    simp [Lit.wf, IntKind.min, IntKind.max, IntKind.bits, IntKind.signed] at this
    omega
  refine ⟨zs.map Int.toNat, ?_, by simp, fun x hx => ?_⟩
  · rw [List.map_map]
    refine List.map_congr_left fun z hm => ?_
    have := hz z hm
    simp only [Function.comp]
    rw [Int.toNat_of_nonneg this.1]
  · obtain ⟨z, hm, rfl⟩ := List.mem_map.1 hx
    have := hz z hm
    omega
set_option maxRecDepth 200000 in
theorem walk {H : Type} {enc : TypeId × Value → H} {base : Nat} (v u : Value) (W : World) (hT : Tab W) {d : DataW H} {p : List MemPlace} (k : DataW.Trod enc Tryz.prog W 0 (fun _ => true) true 35 v d p) (hv : Value.okWide Tryz.prog W .any base 35 v) (hs : Sized Tryz.prog 35 d) {d2 : DataW H} {p2 : List MemPlace} (k2 : DataW.Trod enc Tryz.prog W 0 (fun _ => true) true 82 u d2 p2) (hv2 : Value.okWide Tryz.prog W .any base 82 u) (hs2 : Sized Tryz.prog 82 d2) :
    Calls Tryz.prog 6 #[v, u] W fun e w' => e = .returned (.bool true) ∧ Below W.heap.size W w' := by
  obtain ⟨ao, n, c, rfl⟩ := okWide_slice Tryz.underlying35 hv
  obtain ⟨bo, m, d, rfl⟩ := okWide_slice Tryz.underlying82 hv2
  obtain ⟨z1, g1, gn1, gc1, gm1, gw1, gd1⟩ := opened_ints Tryz.underlying35 Tryz.underlying34 (by kernel_rfl) k
  obtain ⟨z2, g2, gn2, gc2, gm2, gw2, gd2⟩ := opened_ints Tryz.underlying82 Tryz.underlying84 (by kernel_rfl) k2
  obtain ⟨K, eK, lK, bK⟩ := uvs_of_ints z1 gw1
  obtain ⟨L, eL, lL, bL⟩ := u16s_of z2 gw2
  rw [eK] at g1
  rw [eL] at g2
  obtain rfl : n = K.length := by omega
  obtain rfl : m = L.length := by omega
  refine (empties_core hT ao bo c d K L g1 g2 bK bL (by omega) (by omega)).mono ?_
  rintro e w' ⟨h1, h2⟩
  exact ⟨h1, h2.below (Nat.le_refl _) (by simp)⟩

theorem own : ownKnob Tryz.prog.godebug = none := by kernel_rfl
theorem laidOut : laidOutB Tryz.prog = true := by kernel_rfl
noncomputable def laidWorld (os : Os) : World :=
  { World.holding Tryz.prog os ⟨#[], #[], []⟩ with heap := (World.holding Tryz.prog os ⟨#[], #[], []⟩).heap.modify 0 fun
      | .cells _ t frozen => .cells #[.int .u8 0, .int .u8 1, .int .u8 28, .int .u8 2, .int .u8 29, .int .u8 14, .int .u8 24, .int .u8 3, .int .u8 30, .int .u8 22, .int .u8 20, .int .u8 15, .int .u8 25, .int .u8 17, .int .u8 4, .int .u8 8, .int .u8 31, .int .u8 27, .int .u8 13, .int .u8 23, .int .u8 21, .int .u8 19, .int .u8 16, .int .u8 7, .int .u8 26, .int .u8 12, .int .u8 18, .int .u8 6, .int .u8 11, .int .u8 5, .int .u8 10, .int .u8 9] t frozen
      | o => o }
theorem laid_met (os : Os) : laidMet Tryz.prog Rows.treeEmptiesRow.laid ((laidWorld os).forCall (fun _ _ => 0) ⟨#[], #[.slice none 0 0, .slice none 0 0], []⟩).memory :=
  laidMet_of_run' 8 (by kernel_rfl) (by kernel_rfl)
theorem reads (os : Os) {H : Type} (enc : TypeId × Value → H) : ∃ places, DataW.whole enc Tryz.prog ((laidWorld os).forCall (fun _ _ => 0) ⟨#[], #[.slice none 0 0, .slice none 0 0], []⟩).memory Tryz.f6.params.toList Rows.treeEmptiesSpec.vars false (#[.slice none 0 0, .slice none 0 0] : Array Value).toList 8 = some ([.nil, .nil], [], places) :=
  ⟨[], by kernel_rfl⟩
set_option maxRecDepth 100000 in
theorem lifted (os : Os) (started : os.Started) (H : Type) (enc : TypeId × Value → H) (F : Stop.Interp) :
    ReturnsInHanded {} Tryz.checked os 6 .any ((OpenSpec.ofChange Rows.treeEmptiesSpec).preRow enc Tryz.prog Tryz.f6 Rows.treeEmptiesRow.domain false Rows.treeEmptiesRow.laid) (((OpenSpec.ofChange Rows.treeEmptiesSpec).at F).post enc Tryz.prog Tryz.f6 false true false false) := by
  obtain ⟨places, hx⟩ := reads os enc
  refine returnsInHanded_of_row (C := Tryz.checked) (s := OpenSpec.ofChange Rows.treeEmptiesSpec) own started (by kernel_rfl) Tryz.func6
    (witness_row_at (enc := enc) (C := Tryz.checked) false (laidWorld os) #[.slice none 0 0, .slice none 0 0] rfl (by kernel_rfl) (by kernel_rfl) (by kernel_rfl)
      (OpenSpec.preRow_of_cond 8 hx (by kernel_rfl) (fun k hk => by cases hk) (by kernel_rfl) (laid_met os))) ?_
  intro W base args ds gs before hval0 hW _ _ hsz0 hL _ _
  have hT : Tab W := tab_of (by kernel_rfl) hL
  have hsz : (DataW.weightsEach Tryz.prog (Tryz.f6.params.toList ++ Rows.treeEmptiesSpec.plain.varTypes Tryz.prog) (ds ++ gs)).all (· ≤ reachBytes) = true := hsz0
  have hval : ∀ (j : Nat) t v, Tryz.f6.params[j]? = some t → args[j]? = some v → Value.okWide Tryz.prog W .any base t v := hval0
  have hW' := hW
  obtain ⟨p, q, hA0, hV, rfl, hfz, hnd⟩ := hW
  have hA : DataW.TrodAll enc Tryz.prog W 0 (fun _ => true) true Tryz.f6.params.toList args.toList ds p := hA0
  rw [Tryz.params6] at hA hval hsz
  obtain ⟨v0, vs0, d0, ds0, p0, q0, hargs, rfl, rfl, h0, r0⟩ := trodAll_cons hA
  obtain ⟨v1, vs1, d1, ds1, p1, q1, rfl, rfl, rfl, h1, r1⟩ := trodAll_cons r0
  obtain ⟨rfl, rfl, rfl⟩ := trodAll_nil r1
  obtain rfl : args = #[v0, v1] := by cases args; simp_all
  obtain ⟨rfl, rfl⟩ := trodVars_none hV
  have k0 := h0
  have lt0 : ∀ x ∈ p0, x.block < W.heap.size := by obtain ⟨m, hm⟩ := k0; exact DataW.trod_lt m _ _ _ hm
  have k1 := h1
  have lt1 : ∀ x ∈ p1, x.block < W.heap.size := by obtain ⟨m, hm⟩ := k1; exact DataW.trod_lt m _ _ _ hm
  refine (walk v0 v1 W hT k0 (hval 0 35 v0 rfl rfl) (sized_of hsz (j := 0) (t := 35) rfl rfl) k1 (hval 1 82 v1 rfl rfl) (sized_of hsz (j := 1) (t := 82) rfl rfl)).mono fun e W' ⟨he, bel⟩ => ?_
  subst he
  exact ⟨_, rfl, _, _, _, [], _, [], hW', trodAll_mk1 (shut_bool Tryz.underlying4 _), (trodAll_cons_mk (Below.trod laidOut (by kernel_rfl) (of_decide_eq_true (by kernel_rfl)) k0 bel lt0) (trodAll_cons_mk (Below.trod laidOut (by kernel_rfl) (of_decide_eq_true (by kernel_rfl)) k1 bel lt1) trodAll_mk0)), rfl, bel.frame _, fun h => by cases h⟩
theorem said : Rows.TreeEmptiesSaid :=
  OpenClaim.holds_of_cond 6 Tryz.f6 rfl rfl rfl rfl rfl rfl rfl ⟨rfl, rfl, rfl, rfl, rfl⟩ rfl rfl rfl rfl rfl (by kernel_rfl) Tryz.func6 (by kernel_rfl)
    (of_decide_eq_true (by kernel_rfl)) (by unfold Func.isWrapper; first | (rw [if_pos (by decide +kernel)]; kernel_rfl) | (rw [if_neg (by decide +kernel)]; exact ⟨rfl, rfl⟩))
    (fun os started H enc _ F => by rw [OpenClaim.pre_eq_preRow]; exact lifted os started H enc F)
theorem plain (f : FuncId) (fn : Func) (hf : Tryz.pinned.checked.prog.funcNamed Rows.treeEmptiesRow.func = some f) (hfn : Tryz.pinned.checked.prog.funcs[f]? = some fn) :
    true = Tryz.pinned.checked.prog.looks [] ∧ ∀ (j : Nat) t, fn.params[j]? = some t → Tryz.pinned.checked.prog.wantsStandIn t = false := by
  obtain rfl : f = 6 := Option.some.inj ((show Tryz.prog.funcNamed Rows.treeEmptiesRow.func = some 6 by kernel_rfl).symm.trans hf) |>.symm
  obtain rfl : fn = Tryz.f6 := (Option.some.inj (Tryz.func6.symm.trans hfn)).symm
  refine ⟨by kernel_rfl, fun j t ht => ?_⟩
  rw [Tryz.params6] at ht
  have hm := Array.mem_of_getElem? ht
  simp at hm
  have hall : Tryz.prog.wantsStandIn 35 = false ∧ Tryz.prog.wantsStandIn 82 = false := ⟨by kernel_rfl, by kernel_rfl⟩
  rcases hm with rfl | rfl
  · exact hall.1
  · exact hall.2
theorem proved : Rows.TreeEmptiesCardSaid :=
  Claim7.holds_tied_plain_at .later [] _ _ _ _ said (fun _ h => by cases h) (by kernel_rfl) (fun _ h => by cases h) treeEmpties_row_tie rfl ⟨rfl, rfl⟩ (by kernel_rfl) rfl plain (by kernel_rfl)
#print axioms proved
end Go.Proofs.YtdgkbicelnnfpaaGreatDoor.treeEmpties
