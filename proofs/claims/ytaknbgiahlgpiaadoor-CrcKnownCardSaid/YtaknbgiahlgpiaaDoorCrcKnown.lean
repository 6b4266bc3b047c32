/- The examples of the document for sums, alone, gone on with and joined. The row lists one table of the library (math/bits), tied to its text. No other condition. -/
import Derived.Test.YtaknbgiahlgpiaaDoorF
import Derived.Test.YtaknbgiahlgpiaaDoorG
import Derived.Test.YtaknbgiahlgpiaaDoorH
import Derived.Test.YtaknbgiahlgpiaaDoorCards
import Derived.Test.YtaknbgiahlgpiaaDoorTie
import Derived.ProofKit
import Derived.OpenShut
import Derived.SizedLaws
import Derived.Carry
import Derived.Deep.DeepHandedRow
import Derived.Lib.SmallJoins
import Derived.Deep.DeepCutAuto
namespace Go.Proofs.YtaknbgiahlgpiaaDoor.crcKnown
open Go.ChangeShapes Go.WideShapes Go.ChangeAt Go.RowKit
set_option linter.unusedVariables false
set_option linter.unusedSimpArgs false
theorem k1 : (v32 (it (8 * (5 : Int).toNat) (csum [49, 50, 51, 52]) ^^^ csum [53, 54, 55, 56, 57]) == 3808858755) = true := by decide +kernel
theorem k2 : (v32 (it (8 * (0 : Int).toNat) 7#32 ^^^ 0#32) == 7) = true := by decide +kernel
theorem k3 : (v32 (more 7#32 []) == 7) = true := by decide +kernel
theorem k4 (N M K : Nat) (h : N = M + K) : it N 1#32 ^^^ 2#32 = it M (it K 1#32 ^^^ 0#32) ^^^ 2#32 := by rw [BitVec.xor_zero, ← it_add, h]
theorem k5 : 8 * (9223372036854775807 : Int).toNat = 8 * (4611686018427387903 : Int).toNat + 8 * (4611686018427387904 : Int).toNat := by decide +kernel
theorem joined_as (x y : BitVec 32) (X Y : Int) (hX : X = v32 x) (hY : Y = v32 y) (z : Int) (hz : z < 9223372036854775808) (J : BitVec 32) (hJ : it (8 * z.toNat) x ^^^ y = J) (w : World) (hT : Tab w) :
    Calls Tryd.prog 15 #[.int .u32 X, .int .u32 Y, .int .i64 z] w fun e w' => e = .returned (.int .u32 (v32 J)) ∧ Chg [] w w' := by
  subst hJ
  exact joined_any x y X Y hX hY z hz w hT
set_option maxRecDepth 100000 in
set_option maxHeartbeats 1000000 in
theorem walk (w : World) (hT : Tab w) : Calls Tryd.prog 9 #[] w fun e w' => e = .returned (.bool true) ∧ Below w.heap.size w w' := by
  have hcv := fun (u : World) (C : Array Value) (n c : Nat) => Lib.run_convert_bytes_const (P := Tryd.prog) u 23 5 C n c Tryd.underlying23 Tryd.underlying5
  obtain ⟨A, hA⟩ : ∃ A, csum [49, 50, 51, 52] = A := ⟨_, rfl⟩
  obtain ⟨B, hB⟩ : ∃ B, csum [53, 54, 55, 56, 57] = B := ⟨_, rfl⟩
  have K1 := k1
  rw [hA, hB] at K1
  obtain ⟨J1, hJ1⟩ : ∃ J, it (8 * (5 : Int).toNat) A ^^^ B = J := ⟨_, rfl⟩
  rw [hJ1] at K1
  obtain ⟨J2, hJ2⟩ : ∃ J, it (8 * (0 : Int).toNat) 7#32 ^^^ 0#32 = J := ⟨_, rfl⟩
  have K2 := k2
  rw [hJ2] at K2
  obtain ⟨J3, hJ3⟩ : ∃ J, more 7#32 [] = J := ⟨_, rfl⟩
  have K3 := k3
  rw [hJ3] at K3
  obtain ⟨J4, hJ4⟩ : ∃ J, it (8 * (9223372036854775807 : Int).toNat) 1#32 ^^^ 2#32 = J := ⟨_, rfl⟩
  obtain ⟨J5, hJ5⟩ : ∃ J, it (8 * (4611686018427387904 : Int).toNat) 1#32 ^^^ 0#32 = J := ⟨_, rfl⟩
  obtain ⟨J6, hJ6⟩ : ∃ J, it (8 * (4611686018427387903 : Int).toNat) J5 ^^^ 2#32 = J := ⟨_, rfl⟩
  have hJ : J4 = J6 := by rw [← hJ4, ← hJ6, ← hJ5]; exact k4 _ _ _ k5
  subst hJ
  have HA := mkHid hA
  have HB := mkHid hB
  have H1 := mkHid hJ1
  have H2 := mkHid hJ2
  have H3 := mkHid hJ3
  have H4 := mkHid hJ4
  have H5 := mkHid hJ5
  have H6 := mkHid hJ6
  clear hA hB hJ1 hJ2 hJ3 hJ4 hJ5 hJ6
  go_enter Tryd.func9, Tryd.ntmps9
  go_wp2_with fail
  refine (sum_any _ 4 4 [49, 50, 51, 52] _ (hT.then (Chg.alloc [] _ _)) (reads_new w _ _ _ _ rfl) rfl (by decide)).mono ?_
  rintro e w1 ⟨rfl, hg1⟩
  rw [HA.out]
  have hT1 := hT.then hg1.behind
  go_wp2_with fail
  refine (sum_any _ 5 5 [53, 54, 55, 56, 57] _ (hT1.then (Chg.alloc [] _ _)) (reads_new w1 _ _ _ _ rfl) rfl (by decide)).mono ?_
  rintro e w2 ⟨rfl, hg2⟩
  rw [HB.out]
  have hT2 := hT1.then hg2.behind
  have hc2 := hg1.behind.then hg2.behind
  clear hg1 hg2 hT1
  go_wp2_with fail
  refine (joined_as A B _ _ rfl rfl 5 (by decide) J1 H1.out w2 hT2).mono ?_
  rintro e w3 ⟨rfl, hg3⟩
  have hT3 := hT2.then hg3
  go_wp2_with fail
  refine (joined_as 7#32 0#32 7 0 rfl rfl 0 (by decide) J2 H2.out w3 hT3).mono ?_
  rintro e w4 ⟨rfl, hg4⟩
  have hT4 := hT3.then hg4
  go_wp2_with fail
  refine (more_any 7#32 7 rfl none 0 0 [] w4 hT4 (Reads.nil _ _) rfl (by decide)).mono ?_
  rintro e w5 ⟨rfl, hg5⟩
  rw [H3.out]
  have hT5 := hT4.then hg5
  go_wp2_with fail
  refine (joined_as 1#32 2#32 1 2 rfl rfl 9223372036854775807 (by decide) J4 H4.out w5 hT5).mono ?_
  rintro e w6 ⟨rfl, hg6⟩
  have hT6 := hT5.then hg6
  go_wp2_with fail
  refine (joined_as 1#32 0#32 1 0 rfl rfl 4611686018427387904 (by decide) J5 H5.out w6 hT6).mono ?_
  rintro e w7 ⟨rfl, hg7⟩
  have hT7 := hT6.then hg7
  go_wp2_with fail
  refine (joined_as J5 2#32 _ 2 rfl rfl 4611686018427387903 (by decide) J4 H6.out w7 hT7).mono ?_
  rintro e w8 ⟨rfl, hg8⟩
  have hT8 := hT7.then hg8
  go_wp2_with fail
  refine (wakes_any w8 hT8).mono ?_
  rintro e w9 ⟨rfl, hg9⟩
  go_wp2_with fail
  go_ret
  exact ⟨rfl, (((((((hc2.then hg3).then hg4).then hg5).then hg6).then hg7).then hg8).then hg9).below (Nat.le_refl _) (by simp)⟩

theorem own : ownKnob Tryd.prog.godebug = none := by kernel_rfl
theorem laidOut : laidOutB Tryd.prog = true := by kernel_rfl
noncomputable def laidWorld (os : Os) : World :=
  { World.holding Tryd.prog os ⟨#[], #[], []⟩ with heap := (World.holding Tryd.prog os ⟨#[], #[], []⟩).heap.modify 0 fun
      | .cells _ t frozen => .cells #[.int .u8 0, .int .u8 1, .int .u8 28, .int .u8 2, .int .u8 29, .int .u8 14, .int .u8 24, .int .u8 3, .int .u8 30, .int .u8 22, .int .u8 20, .int .u8 15, .int .u8 25, .int .u8 17, .int .u8 4, .int .u8 8, .int .u8 31, .int .u8 27, .int .u8 13, .int .u8 23, .int .u8 21, .int .u8 19, .int .u8 16, .int .u8 7, .int .u8 26, .int .u8 12, .int .u8 18, .int .u8 6, .int .u8 11, .int .u8 5, .int .u8 10, .int .u8 9] t frozen
      | o => o }
theorem laid_met (os : Os) : laidMet Tryd.prog Rows.crcKnownRow.laid ((laidWorld os).forCall (fun _ _ => 0) ⟨#[], #[], []⟩).memory :=
  laidMet_of_run' 8 (by kernel_rfl) (by kernel_rfl)
theorem reads (os : Os) {H : Type} (enc : TypeId × Value → H) : ∃ places, DataW.whole enc Tryd.prog ((laidWorld os).forCall (fun _ _ => 0) ⟨#[], #[], []⟩).memory Tryd.f9.params.toList Rows.crcKnownSpec.vars false (#[] : Array Value).toList 8 = some ([], [], places) :=
  ⟨[], by kernel_rfl⟩
set_option maxRecDepth 100000 in
theorem lifted (os : Os) (started : os.Started) (H : Type) (enc : TypeId × Value → H) (F : Stop.Interp) :
    ReturnsInHanded {} Tryd.checked os 9 .any ((OpenSpec.ofChange Rows.crcKnownSpec).preRow enc Tryd.prog Tryd.f9 Rows.crcKnownRow.domain false Rows.crcKnownRow.laid) (((OpenSpec.ofChange Rows.crcKnownSpec).at F).post enc Tryd.prog Tryd.f9 false true false false) := by
  obtain ⟨places, hx⟩ := reads os enc
  refine returnsInHanded_of_row (C := Tryd.checked) (s := OpenSpec.ofChange Rows.crcKnownSpec) own started (by kernel_rfl) Tryd.func9
    (witness_row_at (enc := enc) (C := Tryd.checked) false (laidWorld os) #[] rfl (by kernel_rfl) (by kernel_rfl) (by kernel_rfl)
      (OpenSpec.preRow_of_cond 8 hx (by kernel_rfl) (fun k hk => by cases hk) (by kernel_rfl) (laid_met os))) ?_
  intro W base args ds gs before hval0 hW _ _ hsz0 hL _ _
  have hT : Tab W := tab_of (by kernel_rfl) hL
  have hsz : (DataW.weightsEach Tryd.prog (Tryd.f9.params.toList ++ Rows.crcKnownSpec.plain.varTypes Tryd.prog) (ds ++ gs)).all (· ≤ reachBytes) = true := hsz0
  have hval : ∀ (j : Nat) t v, Tryd.f9.params[j]? = some t → args[j]? = some v → Value.okWide Tryd.prog W .any base t v := hval0
  have hW' := hW
  obtain ⟨p, q, hA0, hV, rfl, hfz, hnd⟩ := hW
  have hA : DataW.TrodAll enc Tryd.prog W 0 (fun _ => true) true Tryd.f9.params.toList args.toList ds p := hA0
  rw [Tryd.params9] at hA hval hsz
  obtain ⟨rfl, rfl, rfl⟩ := trodAll_none hA
  obtain ⟨rfl, rfl⟩ := trodVars_none hV
  refine (walk  W hT ).mono fun e W' ⟨he, bel⟩ => ?_
  subst he
  exact ⟨_, rfl, _, _, _, [], _, [], hW', trodAll_mk1 (shut_bool Tryd.underlying4 _), trodAll_mk0, rfl, bel.frame _, fun h => by cases h⟩
theorem said : Rows.CrcKnownSaid :=
  OpenClaim.holds_of_cond 9 Tryd.f9 rfl rfl rfl rfl rfl rfl rfl ⟨rfl, rfl, rfl, rfl, rfl⟩ rfl rfl rfl rfl rfl (by kernel_rfl) Tryd.func9 (by kernel_rfl)
    (of_decide_eq_true (by kernel_rfl)) (by unfold Func.isWrapper; first | (rw [if_pos (by decide +kernel)]; kernel_rfl) | (rw [if_neg (by decide +kernel)]; exact ⟨rfl, rfl⟩))
    (fun os started H enc _ F => by rw [OpenClaim.pre_eq_preRow]; exact lifted os started H enc F)
theorem plain (f : FuncId) (fn : Func) (hf : Tryd.pinned.checked.prog.funcNamed Rows.crcKnownRow.func = some f) (hfn : Tryd.pinned.checked.prog.funcs[f]? = some fn) :
    false = Tryd.pinned.checked.prog.looks [] ∧ ∀ (j : Nat) t, fn.params[j]? = some t → Tryd.pinned.checked.prog.wantsStandIn t = false := by
  obtain rfl : f = 9 := Option.some.inj ((show Tryd.prog.funcNamed Rows.crcKnownRow.func = some 9 by kernel_rfl).symm.trans hf) |>.symm
  obtain rfl : fn = Tryd.f9 := (Option.some.inj (Tryd.func9.symm.trans hfn)).symm
  refine ⟨by kernel_rfl, fun j t ht => ?_⟩
  rw [Tryd.params9] at ht
  have hm := Array.mem_of_getElem? ht
  simp at hm
theorem proved : Rows.CrcKnownCardSaid :=
  Claim7.holds_tied_plain_at .later [] _ _ _ _ said (fun _ h => by cases h) (by kernel_rfl) (fun _ h => by cases h) crcKnown_row_tie rfl ⟨rfl, rfl⟩ (by kernel_rfl) rfl plain (by kernel_rfl)
#print axioms proved
end Go.Proofs.YtaknbgiahlgpiaaDoor.crcKnown
