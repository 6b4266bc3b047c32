/- The examples of the document for stamped blocks. The row lists one table of the library (math/bits), tied to its text. No other condition. -/
import Derived.Test.YtkhaapoekaijlaaDoorE
import Derived.Test.YtkhaapoekaijlaaDoorSe
import Derived.Test.YtkhaapoekaijlaaDoorCards
import Derived.Test.YtkhaapoekaijlaaDoorTie
import Derived.ProofKit
import Derived.OpenShut
import Derived.SizedLaws
import Derived.Carry
import Derived.Deep.DeepHandedRow
import Derived.Lib.SmallJoins
import Derived.Deep.DeepCutAuto
import Derived.Deep.RegionHeld3
namespace Go.Proofs.YtkhaapoekaijlaaDoor.stampKnown
open Go.ChangeShapes Go.WideShapes Go.ChangeAt Go.RowKit
set_option linter.unusedVariables false
set_option linter.unusedSimpArgs false
def zz : List UInt8 := List.replicate 240 0
theorem zz_len : zz.length ≤ 240 := by rw [zz, List.length_replicate]; decide
theorem long_at : (sealB zz 18446744073709551615 255)[240]? = some 255 ∧ (sealB zz 18446744073709551615 255)[247]? = some 255 ∧ (sealB zz 18446744073709551615 255)[248]? = some 0 ∧ (sealB zz 18446744073709551615 255)[251]? = some 255 := by
  refine ⟨?_, ?_, ?_, ?_⟩ <;> (rw [seal_get _ _ _ _ zz_len (by decide)]; decide +kernel)
set_option maxRecDepth 100000 in
set_option maxHeartbeats 1000000 in
theorem walk (w : World) (hT : Tab w) :
    Calls Tryd.prog 7 #[] w fun e w' => e = .returned (.bool true) ∧ Below w.heap.size w w' := by
  have hm1 : ∀ u : World, (Instr.makeSlice 22 (.int .i64 241) (.int .i64 241)).run Tryd.prog u = .ok (.slice (some ⟨u.heap.size, 0, none⟩) 241 241) (u.alloc (.cells (madeCells #[.int .u8 0] 241) 5)) := hmk 241 (by decide)
  have hm2 : ∀ u : World, (Instr.makeSlice 22 (.int .i64 240) (.int .i64 240)).run Tryd.prog u = .ok (.slice (some ⟨u.heap.size, 0, none⟩) 240 240) (u.alloc (.cells (madeCells #[.int .u8 0] 240) 5)) := hmk 240 (by decide)
  have hm3 : ∀ u : World, (Instr.makeSlice 22 (.int .i64 255) (.int .i64 255)).run Tryd.prog u = .ok (.slice (some ⟨u.heap.size, 0, none⟩) 255 255) (u.alloc (.cells (madeCells #[.int .u8 0] 255) 5)) := hmk 255 (by decide)
  have hm4 : ∀ u : World, (Instr.makeSlice 22 (.int .i64 257) (.int .i64 257)).run Tryd.prog u = .ok (.slice (some ⟨u.heap.size, 0, none⟩) 257 257) (u.alloc (.cells (madeCells #[.int .u8 0] 257) 5)) := hmk 257 (by decide)
  go_enter Tryd.func7, Tryd.ntmps7
  go_wp2_with fail
  refine (seal_long _ 241 241 0 0 _ (by decide)).mono ?_
  rintro e w1 ⟨rfl, rfl⟩
  have g1 := Chg.alloc [] w (.cells (madeCells #[.int .u8 0] 241) 5)
  generalize w.alloc (.cells (madeCells #[.int .u8 0] 241) 5) = w1 at g1 ⊢
  go_wp2_with fail
  have h2 := own_made 240 (by decide) w1
  refine (seal_any _ 240 240 zz (-1) 255 _ (hT.then (g1.then h2.g)) h2.r.reads rfl (by decide) (by decide)).mono ?_
  rintro e w2 ⟨ao, c, rfl, hr2, hg2⟩
  rw [show pn (-1) = 18446744073709551615 from rfl] at hr2
  have g2 := g1.then (h2.g.then hg2)
  obtain ⟨b, o, rfl, -, -, hc⟩ := hr2.at_ (by have := hr2.le; omega)
  obtain ⟨a1, a2, a3, a4⟩ := long_at
  have x1 := hc 240 (.int .u8 255) (by simp [bts, a1])
  have x2 := hc 247 (.int .u8 255) (by simp [bts, a2])
  have x3 := hc 248 (.int .u8 0) (by simp [bts, a3])
  have x4 := hc 251 (.int .u8 255) (by simp [bts, a4])
  have hle := hr2.le
  have hmx := hr2.max
  have r2 := hr2.reads
  have hlen := seal_length zz 18446744073709551615 255 zz_len
  have o1 := opens_seal zz 18446744073709551615 255 18446744073709551615 255 zz_len (by decide) (by decide)
  generalize sealB zz 18446744073709551615 255 = B at *
  clear hc hr2 a1 a2 a3 a4 h2 hg2
  go_wp2_with fail
  refine (open_yes _ 256 c B (-1) 255 18446744073709551615 rfl o1 _ (hT.then g2) r2 hlen hle hmx (by decide)).mono ?_
  rintro e w3 ⟨ap, cp, rfl, -, hg3⟩
  have g3 := g2.then hg3
  clear r2 o1
  go_wp2_with fail
  have h4 := own_made 255 (by decide) w3
  refine (open_no 4 (by decide) _ 255 255 (List.replicate 255 0) 0 0 0 rfl rfl _ (hT.then (g3.then h4.g)) h4.r.reads rfl (by decide) (by decide) (by decide)).mono ?_
  rintro e w4 ⟨rfl, hg4⟩
  have g4 := g3.then (h4.g.then hg4)
  have d4 := hg3.then (h4.g.then hg4)
  clear h4 hg4 hg3 g3
  go_wp2_with fail
  have h5 := own_made 257 (by decide) w4
  refine (open_no 3 (by decide) _ 257 257 (List.replicate 257 0) 0 0 0 rfl rfl _ (hT.then (g4.then h5.g)) h5.r.reads rfl (by decide) (by decide) (by decide)).mono ?_
  rintro e w5 ⟨rfl, hg5⟩
  have g5 := g4.then (h5.g.then hg5)
  have d5 := d4.then (h5.g.then hg5)
  have y1 := d5.cellv x1 (by simp)
  have y2 := d5.cellv x2 (by simp)
  have y3 := d5.cellv x3 (by simp)
  have y4 := d5.cellv x4 (by simp)
  clear h5 hg5 d4 g4 x1 x2 x3 x4
  go_wp2_with fail
  refine (wakes_any _ (hT.then g5)).mono ?_
  rintro e w6 ⟨rfl, hg6⟩
  go_wp2_with fail
  go_ret
  exact ⟨rfl, (g5.then hg6).below (Nat.le_refl _) (by simp)⟩

theorem own : ownKnob Tryd.prog.godebug = none := by kernel_rfl
theorem laidOut : laidOutB Tryd.prog = true := by kernel_rfl
noncomputable def laidWorld (os : Os) : World :=
  { World.holding Tryd.prog os ⟨#[], #[], []⟩ with heap := (World.holding Tryd.prog os ⟨#[], #[], []⟩).heap.modify 0 fun
      | .cells _ t frozen => .cells #[.int .u8 0, .int .u8 1, .int .u8 28, .int .u8 2, .int .u8 29, .int .u8 14, .int .u8 24, .int .u8 3, .int .u8 30, .int .u8 22, .int .u8 20, .int .u8 15, .int .u8 25, .int .u8 17, .int .u8 4, .int .u8 8, .int .u8 31, .int .u8 27, .int .u8 13, .int .u8 23, .int .u8 21, .int .u8 19, .int .u8 16, .int .u8 7, .int .u8 26, .int .u8 12, .int .u8 18, .int .u8 6, .int .u8 11, .int .u8 5, .int .u8 10, .int .u8 9] t frozen
      | o => o }
theorem laid_met (os : Os) : laidMet Tryd.prog Rows.stampKnownRow.laid ((laidWorld os).forCall (fun _ _ => 0) ⟨#[], #[], []⟩).memory :=
  laidMet_of_run' 8 (by kernel_rfl) (by kernel_rfl)
theorem reads (os : Os) {H : Type} (enc : TypeId × Value → H) : ∃ places, DataW.whole enc Tryd.prog ((laidWorld os).forCall (fun _ _ => 0) ⟨#[], #[], []⟩).memory Tryd.f7.params.toList Rows.stampKnownSpec.vars false (#[] : Array Value).toList 8 = some ([], [], places) :=
  ⟨[], by kernel_rfl⟩
set_option maxRecDepth 100000 in
theorem lifted (os : Os) (started : os.Started) (H : Type) (enc : TypeId × Value → H) (F : Stop.Interp) :
    ReturnsInHanded {} Tryd.checked os 7 .any ((OpenSpec.ofChange Rows.stampKnownSpec).preRow enc Tryd.prog Tryd.f7 Rows.stampKnownRow.domain false Rows.stampKnownRow.laid) (((OpenSpec.ofChange Rows.stampKnownSpec).at F).post enc Tryd.prog Tryd.f7 false true false false) := by
  obtain ⟨places, hx⟩ := reads os enc
  refine returnsInHanded_of_row (C := Tryd.checked) (s := OpenSpec.ofChange Rows.stampKnownSpec) own started (by kernel_rfl) Tryd.func7
    (witness_row_at (enc := enc) (C := Tryd.checked) false (laidWorld os) #[] rfl (by kernel_rfl) (by kernel_rfl) (by kernel_rfl)
      (OpenSpec.preRow_of_cond 8 hx (by kernel_rfl) (fun k hk => by cases hk) (by kernel_rfl) (laid_met os))) ?_
  intro W base args ds gs before hval0 hW _ _ hsz0 hL _ _
  have hT : Tab W := tab_of (by kernel_rfl) hL
  have hsz : (DataW.weightsEach Tryd.prog (Tryd.f7.params.toList ++ Rows.stampKnownSpec.plain.varTypes Tryd.prog) (ds ++ gs)).all (· ≤ reachBytes) = true := hsz0
  have hval : ∀ (j : Nat) t v, Tryd.f7.params[j]? = some t → args[j]? = some v → Value.okWide Tryd.prog W .any base t v := hval0
  have hW' := hW
  obtain ⟨p, q, hA0, hV, rfl, hfz, hnd⟩ := hW
  have hA : DataW.TrodAll enc Tryd.prog W 0 (fun _ => true) true Tryd.f7.params.toList args.toList ds p := hA0
  rw [Tryd.params7] at hA hval hsz
  obtain ⟨rfl, rfl, rfl⟩ := trodAll_none hA
  obtain ⟨rfl, rfl⟩ := trodVars_none hV
  refine (walk  W hT ).mono fun e W' ⟨he, bel⟩ => ?_
  subst he
  exact ⟨_, rfl, _, _, _, [], _, [], hW', trodAll_mk1 (shut_bool Tryd.underlying4 _), trodAll_mk0, rfl, bel.frame _, fun h => by cases h⟩
theorem said : Rows.StampKnownSaid :=
  OpenClaim.holds_of_cond 7 Tryd.f7 rfl rfl rfl rfl rfl rfl rfl ⟨rfl, rfl, rfl, rfl, rfl⟩ rfl rfl rfl rfl rfl (by kernel_rfl) Tryd.func7 (by kernel_rfl)
    (of_decide_eq_true (by kernel_rfl)) (by unfold Func.isWrapper; first | (rw [if_pos (by decide +kernel)]; kernel_rfl) | (rw [if_neg (by decide +kernel)]; exact ⟨rfl, rfl⟩))
    (fun os started H enc _ F => by rw [OpenClaim.pre_eq_preRow]; exact lifted os started H enc F)
theorem plain (f : FuncId) (fn : Func) (hf : Tryd.pinned.checked.prog.funcNamed Rows.stampKnownRow.func = some f) (hfn : Tryd.pinned.checked.prog.funcs[f]? = some fn) :
    false = Tryd.pinned.checked.prog.looks [] ∧ ∀ (j : Nat) t, fn.params[j]? = some t → Tryd.pinned.checked.prog.wantsStandIn t = false := by
  obtain rfl : f = 7 := Option.some.inj ((show Tryd.prog.funcNamed Rows.stampKnownRow.func = some 7 by kernel_rfl).symm.trans hf) |>.symm
  obtain rfl : fn = Tryd.f7 := (Option.some.inj (Tryd.func7.symm.trans hfn)).symm
  refine ⟨by kernel_rfl, fun j t ht => ?_⟩
  rw [Tryd.params7] at ht
  have hm := Array.mem_of_getElem? ht
  simp at hm
theorem proved : Rows.StampKnownCardSaid :=
  Claim7.holds_tied_plain_at .later [] _ _ _ _ said (fun _ h => by cases h) (by kernel_rfl) (fun _ h => by cases h) stampKnown_row_tie rfl ⟨rfl, rfl⟩ (by kernel_rfl) rfl plain (by kernel_rfl)
#print axioms proved
end Go.Proofs.YtkhaapoekaijlaaDoor.stampKnown
