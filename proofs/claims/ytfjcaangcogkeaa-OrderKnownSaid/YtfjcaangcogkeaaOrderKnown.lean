/- The examples of the document for numbers as bytes, and for a tape that no call made. No conditions. -/
import Derived.Test.YtfjcaangcogkeaaD
import Derived.Test.YtfjcaangcogkeaaE
import Derived.Test.YtfjcaangcogkeaaF
import Derived.Test.YtfjcaangcogkeaaG
import Derived.Lib.SmallJoins
import Derived.Deep.QuietTactic
import Derived.BigQuiet
import Derived.Deep.DeepCutAuto
import Derived.ProofKit
import Derived.OpenShut
import Derived.SizedLaws
import Derived.Carry
namespace Go.Proofs.Ytfjcaangcogkeaa.orderKnown
open Go.ChangeShapes Go.WideShapes Go.ChangeAt Go.RowKit
set_option linter.unusedVariables false

theorem push_nil (v : Value) (w : World) : Calls Try.prog 17 #[.pointer none, v] w fun e w' => e = .returned (.tuple #[]) ∧ w = w' := by
  go_enter Try.func17, Try.ntmps17
  go_wp2
  go_end0
  exact ⟨rfl, rfl⟩
theorem nums_nil (w : World) : Calls Try.prog 23 #[.pointer none, .bool true, .slice none 0 0] w (NonePost w) := by
  have h30 : ∀ w, Calls Try.prog 30 #[.pointer none, .func (.func 21) #[] #[], .slice none 0 0] w (NonePost w) := by
    intro w
    go_enter Try.func30, Try.ntmps30
    go_wp2_with (first | (go_at_call 26; refine (len_nil _).mono ?_; rintro e w' ⟨rfl, rfl⟩) | (go_at_call 32; refine (sum_yes none 0 0 [] 0 _ (Reads.nil _ _) rfl (by decide) (by omega) (by simp [allOk]) (by simp [sumI])).mono ?_; rintro e w' ⟨rfl, rfl⟩) | (go_at_call 21; refine (take_nil _ _).mono ?_; rintro e w' ⟨rfl, rfl⟩))
    go_ret2
    exact ⟨rfl, rfl⟩
  go_enter Try.func23, Try.ntmps23
  go_wp2_with (first | (go_at_call 30; refine (h30 _).mono ?_; rintro e w' ⟨rfl, rfl⟩))
  go_ret2
  exact ⟨rfl, rfl⟩
set_option maxHeartbeats 1000000 in
theorem walk (w : World) : Calls Try.prog 9 #[] w fun e w' => e = .returned (.bool true) ∧ Below w.heap.size w w' := by
  go_enter Try.func9, Try.ntmps9
  go_wp2_with (first | (go_at_call 17; refine (push_nil _ _).mono ?_; rintro e w' ⟨rfl, rfl⟩))
  refine (peek_nil _ _).mono ?_
  rintro e w1 ⟨rfl, rfl⟩
  go_wp2_with fail
  refine (take_nil _ _).mono ?_
  rintro e w1 ⟨rfl, rfl⟩
  go_wp2_with fail
  refine (nums_nil _).mono ?_
  rintro e w1 ⟨rfl, rfl⟩
  go_wp2_with fail
  refine (new_tape _).mono ?_
  rintro e w1 ⟨tb, rfl, ht1, hg1, hlt1⟩
  have hg1' := (Chg.alloc [] w _).then hg1
  go_wp2_with fail
  refine (peek_yes _ tb none 0 0 [] 0 w1 ht1 (by omega) (by omega)).mono ?_
  rintro e w2 ⟨ro, rc, rfl, hr2, hg2⟩
  have ht2 := ht1.chg hg2 (by simp)
  go_wp2_with fail
  refine (peek_no _ tb none 0 0 [] (-1) w2 ht2 (by omega)).mono ?_
  rintro e w3 ⟨rfl, rfl⟩
  go_wp2_with fail
  refine (nums_peek _ tb none 0 0 [] none 0 0 [] w2 ht2 (by omega) (Reads.nil _ _) rfl (by omega) (by simp [allOk]) (by simp [sumI]) (fun h => absurd h (by omega))).mono ?_
  rintro e w3 ⟨lo, lc, rfl, hr3, hg3⟩
  have ht3 := ht2.chg hg3 (by simp)
  have hg3' : Chg [] w w3 := (hg1'.then hg2).then hg3
  go_wp2_with fail
  refine (get_short _ 3 3 4 _ (by omega) (by omega) (by omega)).mono ?_
  rintro e w4 ⟨rfl, rfl⟩
  go_wp2_with fail
  refine (get_arg _ 0 0 0 _ (by decide)).mono ?_
  rintro e w4 ⟨rfl, rfl⟩
  have hmk : ∀ u : World, (Instr.makeSlice 22 (.int .i64 9) (.int .i64 9)).run Try.prog u = .ok (.slice (some ⟨u.heap.size, 0, none⟩) 9 9) (u.alloc (.cells (madeCells #[.int .u8 0] 9) 5)) := fun u => by
    obtain ⟨h1, i, z, h2, h3, h4, h5, h6⟩ := eltB
    have hz : z = .int .u8 0 := by
      have e : (Try.prog.info? 5).map (·.zero) = some (some (.int .u8 0)) := by kernel_rfl
      rw [h2] at e
      simp [h3] at e
      exact e
    have h := run_make (P := Try.prog) u 22 5 i z h1 h2 h3 .i64 .i64 9 9 (by omega) (by omega) (by rw [h5]; omega) (by omega)
    rw [hz] at h
    simpa [h4, Value.cells] using h
  go_wp2_with fail
  refine (get_arg _ 9 9 9 _ (by decide)).mono ?_
  rintro e w4 ⟨rfl, rfl⟩
  go_wp2_with (first | (go_at_call 13; refine (awake_any _).mono ?_; rintro e w5 ⟨rfl, hg5⟩) | (go_at_call 26; refine (len_nil _).mono ?_; rintro e w' ⟨rfl, rfl⟩))
  refine (put_all none 0 0 [] 256 1 w5 (Reads.nil _ _) rfl (by omega) (by decide)).mono ?_
  rintro e w6 ⟨po, pm, pc, rfl, hr6, hg6⟩
  have hpm : pm = 1 := by have := hr6.len; simpa [putB, okB, be, bts] using this.symm
  subst hpm
  have hcv := run_convert_k (P := Try.prog) w6 22 5 9 Try.underlying22 Try.underlying5 Try.underlying9 po 1 pc [0] hr6.reads rfl
  go_wp2_with fail
  refine (put_all none 0 0 [] 1 9 w6 (Reads.nil _ _) rfl (by omega) (by decide)).mono ?_
  rintro e w7 ⟨qo, qm, qc, rfl, hr7, hg7⟩
  have hqm : qm = 0 := by have := hr7.len; simpa [putB, okB, bts] using this.symm
  subst hqm
  go_wp2_with fail
  go_ret
  refine ⟨rfl, ?_⟩
  have hge : Chg [] w w7 := ((((hg3'.then (Chg.alloc [] _ _)).then (Chg.alloc [] _ _)).then hg5).then hg6).then hg7
  exact hge.below (Nat.le_refl _) (by simp)

theorem own : ownKnob Try.prog.godebug = none := by kernel_rfl
theorem laidOut : laidOutB Try.prog = true := by kernel_rfl
set_option maxRecDepth 100000 in
theorem lifted (os : Os) (started : os.Started) (H : Type) (enc : TypeId × Value → H) :
    ReturnsInHanded {} Try.checked os 9 .any (Rows.orderKnownSpec.pre6 enc Try.prog Try.f9 Rows.orderKnownRow.domain false) (Rows.orderKnownSpec.post enc Try.prog Try.f9 false true false false) := by
  refine returnsInHanded_of_change_sized (C := Try.checked) own started (by kernel_rfl) Try.func9
    (ChangeSpec.witness6 (enc := enc) (C := Try.checked) false ⟨#[], #[], []⟩ 8 (by kernel_rfl) (by kernel_rfl) (by kernel_rfl) (by kernel_rfl)) ?_
  intro W base args ds gs before hval0 hW hcnd hsz0 _
  have hsz : (DataW.weightsEach Try.prog (Try.f9.params.toList ++ Rows.orderKnownSpec.plain.varTypes Try.prog) (ds ++ gs)).all (· ≤ reachBytes) = true := hsz0
  have hval : ∀ (j : Nat) t v, Try.f9.params[j]? = some t → args[j]? = some v → Value.okWide Try.prog W .any base t v := hval0
  have hW' := hW
  obtain ⟨p, q, hA0, hV, rfl, hfz, hnd⟩ := hW
  have hA : DataW.TrodAll enc Try.prog W 0 (fun _ => true) true Try.f9.params.toList args.toList ds p := hA0
  rw [Try.params9] at hA hval hsz
  obtain ⟨rfl, rfl, rfl⟩ := trodAll_none hA
  obtain ⟨rfl, rfl⟩ := trodVars_none hV
  refine (walk  W ).mono fun e W' ⟨he, bel⟩ => ?_
  subst he
  exact ⟨_, rfl, _, _, _, [], _, [], hW', trodAll_mk1 (shut_bool Try.underlying4 _), trodAll_mk0, rfl, bel.frame _, fun h => by cases h⟩
theorem proved : Rows.OrderKnownSaid :=
  OpenClaim.holds_of_wide 9 Try.f9 rfl rfl rfl rfl rfl rfl rfl ⟨rfl, rfl, rfl, rfl, rfl⟩ rfl rfl rfl rfl rfl (by kernel_rfl) Try.func9 (by kernel_rfl)
    (of_decide_eq_true (by kernel_rfl)) (by unfold Func.isWrapper; first | (rw [if_pos (by decide +kernel)]; kernel_rfl) | (rw [if_neg (by decide +kernel)]; exact ⟨rfl, rfl⟩))
    (fun os started H enc _ => lifted os started H enc)
#print axioms proved
end Go.Proofs.Ytfjcaangcogkeaa.orderKnown
