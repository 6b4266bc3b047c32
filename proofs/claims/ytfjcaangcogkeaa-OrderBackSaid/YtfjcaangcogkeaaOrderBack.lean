/- What order.Put lays order.Get takes, and lesser numbers have lesser bytes: for every record of bytes, two numbers and a size. No conditions. -/
import Derived.Test.YtfjcaangcogkeaaD
import Derived.Test.YtfjcaangcogkeaaE
import Derived.Test.YtfjcaangcogkeaaF
import Derived.Test.YtfjcaangcogkeaaG
import Derived.Lib.SmallJoins
import Derived.Deep.QuietTactic
import Derived.BigQuiet
import Derived.Deep.DeepCutAuto
import Derived.ProofKit
import Derived.OpenShut
import Derived.SizedLaws
import Derived.Carry
namespace Go.Proofs.Ytfjcaangcogkeaa.orderBack
open Go.ChangeShapes Go.WideShapes Go.ChangeAt Go.RowKit
set_option linter.unusedVariables false
set_option maxRecDepth 100000 in
set_option maxHeartbeats 1000000 in
theorem walkYes (a0 : Option Addr) (n0 c0 : Nat) (l0 : List UInt8) (N M : Nat) (s : Nat) (w : World)
    (g0 : Reads w a0 (bts l0)) (gn0 : l0.length = n0) (gc0 : n0 ≤ c0) (gr0 : c0 * 1 ≤ 140737488351232) (hN : N < 2 ^ 64) (hM : M < 2 ^ 64) (h1 : 1 ≤ s) (h8 : s ≤ 8) :
    Calls Try.prog 6 #[.agg #[.slice a0 n0 c0, .int .u64 N, .int .u64 M, .int .i64 s]] w fun e w' => e = .returned (.bool true) ∧ Below w.heap.size w w' := by
  have hd1 : decide ((s : Int) < 1) = false := by simp; omega
  have hd2 : decide ((8 : Int) < (s : Int)) = false := by simp; omega
  obtain ⟨Nm, hNm⟩ : ∃ Nm, Nm = N % 256 ^ s := ⟨_, rfl⟩
  obtain ⟨Mm, hMm⟩ : ∃ Mm, Mm = M % 256 ^ s := ⟨_, rfl⟩
  have hmN := mask N s h1 h8
  have hmM := mask M s h1 h8
  rw [← hNm] at hmN
  rw [← hMm] at hmM
  have hp : 0 < 256 ^ s := Nat.pow_pos (by decide)
  have hNmlt : Nm < 256 ^ s := by rw [hNm]; exact Nat.mod_lt _ hp
  have hMmlt : Mm < 256 ^ s := by rw [hMm]; exact Nat.mod_lt _ hp
  have hNm64 : Nm < 2 ^ 64 := by rw [hNm]; exact Nat.lt_of_le_of_lt (Nat.mod_le _ _) hN
  have hMm64 : Mm < 2 ^ 64 := by rw [hMm]; exact Nat.lt_of_le_of_lt (Nat.mod_le _ _) hM
  have HNm := mkHid hNm
  clear hNm hMm hp
  go_enter Try.func6, Try.ntmps6
  go_wp2_with fail
  go_quiet (fail)
  go_wp2_with fail
  generalize hW1 : (w.alloc (.cells #[.slice a0 n0 c0, .int .u64 N, .int .u64 M, .int .i64 s] 54)).drewN nq = W1
  have hg1 : Chg [] w W1 := by subst hW1; exact (Chg.alloc [] _ _).then (Chg.drewN _ _)
  clear hW1
  refine (put_all a0 n0 c0 l0 N s W1 (g0.old hg1 (by simp)) gn0 (by omega) hN).mono ?_
  rintro e w2 ⟨ax, mx, cx, rfl, hr2, hg2⟩
  have hput : putB l0 N s = l0 ++ be N s := by simp [putB, okB]; omega
  rw [hput] at hr2
  have hmx : mx = n0 + s := by have := hr2.len; simp [bts_length, be_length] at this; omega
  subst hmx
  have hcx := hr2.le
  have hcm := hr2.max
  unfold maxLen at hcm
  have hsl := run_from_k (P := Try.prog) ax (n0 + s) cx n0 Try.underlying22 (by kernel_rfl) (by omega)
  go_wp2_with fail
  have hrd : Reads w2 (cut ax cx n0) (bts (be N s)) := by
    have := hr2.reads.cut cx n0 (by simp [bts_length, be_length]; omega)
    rw [bts_drop, ← gn0, List.drop_left] at this
    rw [← gn0]; exact this
  have hval : val ((be N s).take s) = Nm := by rw [List.take_of_length_le (by rw [be_length]; exact Nat.le_refl _), val_be, HNm.out]
  have Hval := mkHid hval
  clear hval
  refine (get_yes _ s (cx - n0) (be N s) s w2 hrd (be_length _ _) (by omega) (by unfold maxLen; omega) h1 h8 (Nat.le_refl _)).mono ?_
  rintro e w3 ⟨he, rfl⟩
  rw [Hval.out] at he
  subst he
  go_wp2_with fail
  refine (put_all none 0 0 [] Nm s w2 (Reads.nil _ _) rfl (by omega) hNm64).mono ?_
  rintro e w4 ⟨ay, my, cy, rfl, hr4, hg4⟩
  have hputn : putB [] Nm s = be Nm s := by simp [putB, okB]; omega
  rw [hputn] at hr4
  have hmy : my = s := by have := hr4.len; simp [bts_length, be_length] at this; omega
  subst hmy
  go_wp2_with fail
  refine (put_all none 0 0 [] Mm my w4 (Reads.nil _ _) rfl (by omega) hMm64).mono ?_
  rintro e w5 ⟨az, mz, cz, rfl, hr5, hg5⟩
  have hputm : putB [] Mm my = be Mm my := by simp [putB, okB]; omega
  rw [hputm] at hr5
  have hmz : mz = my := by have := hr5.len; simp [bts_length, be_length] at this; omega
  subst hmz
  have hr4' := hr4.chg hg5 (by simp)
  have hr4'' := fun w6 (h : Chg [] w5 w6) => hr4'.chg h (by simp)
  have hr5'' := fun w6 (h : Chg [] w5 w6) => hr5.chg h (by simp)
  have Hcmp := mkHid (compare_be Nm Mm mz)
  have Hinj := mkHid (be_inj Nm Mm mz)
  rw [Nat.mod_eq_of_lt hNmlt, Nat.mod_eq_of_lt hMmlt] at Hcmp Hinj
  clear hputn hputm hput hmN hmM
  go_wp2_with (first | (go_at_call 13; refine (awake_any _).mono ?_; rintro e w6 ⟨rfl, hg6⟩; have hr6 := hr4'' _ hg6; have hr7 := hr5'' _ hg6) | (go_at_call 27; refine (compare_any _ _ _ _ _ _ _ _ _ hr6.reads (be_length _ _) hr7.reads (be_length _ _)).mono ?_; rintro e w7 ⟨rfl, rfl⟩) | (go_at_call 11; refine (equal_any _ _ _ _ _ _ _ _ _ hr6.reads (be_length _ _) hr7.reads (be_length _ _)).mono ?_; rintro e w7 ⟨rfl, rfl⟩))
  · go_ret
    refine ⟨ret_bool ?_, ((((hg1.then hg2).then hg4).then hg5).then hg6).below (Nat.le_refl _) (by simp)⟩
    have h := Hinj.out
    rw [Bool.beq_eq_decide_eq, decide_eq_true_eq, Bool.eq_iff_iff]
    simp only [decide_eq_true_eq, beq_iff_eq, Int.natCast_inj]
    exact h.symm
  · exact absurd Hcmp.out.symm (by assumption)

theorem walkNo (a0 : Option Addr) (n0 c0 : Nat) (l0 : List UInt8) (N M : Nat) (z : Int) (w : World)
    (g0 : Reads w a0 (bts l0)) (gn0 : l0.length = n0) (gc0 : n0 ≤ c0) (gr0 : c0 * 1 ≤ 140737488351232) (hN : N < 2 ^ 64) (hz : ¬ (1 ≤ z ∧ z ≤ 8)) :
    Calls Try.prog 6 #[.agg #[.slice a0 n0 c0, .int .u64 N, .int .u64 M, .int .i64 z]] w fun e w' => e = .returned (.bool true) ∧ Below w.heap.size w w' := by
  have hd : decide (z < 1) = true ∨ decide (z < 1) = false ∧ decide ((8 : Int) < z) = true := by simp; omega
  have hok : okB z = false := (okB_false z).2 hz
  clear hz
  rcases hd with hd | ⟨hd, hd2⟩
  all_goals
    go_enter Try.func6, Try.ntmps6
    go_wp2_with fail
    go_quiet (fail)
    go_wp2_with fail
    generalize hW1 : (w.alloc (.cells #[.slice a0 n0 c0, .int .u64 N, .int .u64 M, .int .i64 z] 54)).drewN nq = W1
    have hg1 : Chg [] w W1 := by subst hW1; exact (Chg.alloc [] _ _).then (Chg.drewN _ _)
    clear hW1
    refine (put_all a0 n0 c0 l0 N z W1 (g0.old hg1 (by simp)) gn0 (by omega) hN).mono ?_
    rintro e w2 ⟨ax, mx, cx, rfl, hr2, hg2⟩
    have hput : putB l0 N z = l0 := by simp [putB, hok]
    rw [hput] at hr2
    have hmx : mx = n0 := by have := hr2.len; simp [bts_length] at this; omega
    subst hmx
    clear hput
    go_wp2_with (first | (go_at_call 13; refine (awake_any _).mono ?_; rintro e w6 ⟨rfl, hg6⟩))
    refine (equal_any _ _ _ l0 _ _ _ l0 w6 (hr2.chg hg6 (by simp)).reads gn0 (g0.old ((hg1.then hg2).then hg6) (by simp)) gn0).mono ?_
    rintro e w7 ⟨he, rfl⟩
    simp only [decide_true] at he
    subst he
    go_wp2_with fail
    go_ret
    exact ⟨rfl, ((hg1.then hg2).then hg6).below (Nat.le_refl _) (by simp)⟩

theorem walk {H : Type} {enc : TypeId × Value → H} {base : Nat} (v : Value) (W : World) {d : DataW H} {p : List MemPlace} (k : DataW.Trod enc Try.prog W 0 (fun _ => true) true 54 v d p) (hv : Value.okWide Try.prog W .any base 54 v) (hs : Sized Try.prog 54 d) :
    Calls Try.prog 6 #[v] W fun e w' => e = .returned (.bool true) ∧ Below W.heap.size W w' := by
  obtain ⟨v0, v1, v2, v3, y0, y1, y2, y3, n, rfl, rfl, rfl, h0, h1, h2, h3⟩ := Joins.open_agg4 Try.underlying54 (by kernel_rfl) (by kernel_rfl) hv k
  obtain ⟨a, l, c, e0⟩ := Joins.slice_form (t := 22) Try.underlying22 h0
  obtain ⟨N, e1, rfl, wN⟩ := DataW.trod_int Try.underlying23 h1
  obtain ⟨M, e2, rfl, wM⟩ := DataW.trod_int Try.underlying23 h2
  obtain ⟨z, e3, rfl, wz⟩ := DataW.trod_int Try.underlying3 h3
  simp at e0 e1 e2 e3
  subst e0 e1 e2 e3
  obtain ⟨l0, g, gn, gc, gm, gd⟩ := opened_bytes (t := 22) Try.underlying22 Try.underlying5 (by kernel_rfl) ⟨n, h0⟩
  have gr := (hs.field (t' := 22) (j := 0) Try.underlying54 rfl rfl).slice Try.underlying22 (by kernel_rfl : Try.prog.bytesOf 5 = 1) gd
  have bN := Go.bounds_u64 wN
  have bM := Go.bounds_u64 wM
  obtain ⟨N, rfl⟩ := Int.eq_ofNat_of_zero_le bN.1
  obtain ⟨M, rfl⟩ := Int.eq_ofNat_of_zero_le bM.1
  by_cases hz : 1 ≤ z ∧ z ≤ 8
  · obtain ⟨s, rfl⟩ := Int.eq_ofNat_of_zero_le (show 0 ≤ z by omega)
    exact walkYes a l c l0 N M s W g gn gc gr (by omega) (by omega) (by omega) (by omega)
  · exact walkNo a l c l0 N M z W g gn gc gr (by omega) hz

theorem own : ownKnob Try.prog.godebug = none := by kernel_rfl
theorem laidOut : laidOutB Try.prog = true := by kernel_rfl
set_option maxRecDepth 100000 in
theorem lifted (os : Os) (started : os.Started) (H : Type) (enc : TypeId × Value → H) :
    ReturnsInHanded {} Try.checked os 6 .any (Rows.orderBackSpec.pre6 enc Try.prog Try.f6 Rows.orderBackRow.domain false) (Rows.orderBackSpec.post enc Try.prog Try.f6 false true false false) := by
  refine returnsInHanded_of_change_sized (C := Try.checked) own started (by kernel_rfl) Try.func6
    (ChangeSpec.witness6 (enc := enc) (C := Try.checked) false ⟨#[], #[.agg #[.slice none 0 0, .int .u64 0, .int .u64 0, .int .i64 0]], []⟩ 8 (by kernel_rfl) (by kernel_rfl) (by kernel_rfl) (by kernel_rfl)) ?_
  intro W base args ds gs before hval0 hW hcnd hsz0 _
  have hsz : (DataW.weightsEach Try.prog (Try.f6.params.toList ++ Rows.orderBackSpec.plain.varTypes Try.prog) (ds ++ gs)).all (· ≤ reachBytes) = true := hsz0
  have hval : ∀ (j : Nat) t v, Try.f6.params[j]? = some t → args[j]? = some v → Value.okWide Try.prog W .any base t v := hval0
  have hW' := hW
  obtain ⟨p, q, hA0, hV, rfl, hfz, hnd⟩ := hW
  have hA : DataW.TrodAll enc Try.prog W 0 (fun _ => true) true Try.f6.params.toList args.toList ds p := hA0
  rw [Try.params6] at hA hval hsz
  obtain ⟨v0, vs0, d0, ds0, p0, q0, hargs, rfl, rfl, h0, r0⟩ := trodAll_cons hA
  obtain ⟨rfl, rfl, rfl⟩ := trodAll_nil r0
  obtain rfl : args = #[v0] := by cases args; simp_all
  obtain ⟨rfl, rfl⟩ := trodVars_none hV
  have k0 := h0
  have lt0 : ∀ x ∈ p0, x.block < W.heap.size := by obtain ⟨m, hm⟩ := k0; exact DataW.trod_lt m _ _ _ hm
  refine (walk v0 W k0 (hval 0 54 v0 rfl rfl) (sized_of hsz (j := 0) (t := 54) rfl rfl)).mono fun e W' ⟨he, bel⟩ => ?_
  subst he
  exact ⟨_, rfl, _, _, _, [], _, [], hW', trodAll_mk1 (shut_bool Try.underlying4 _), (trodAll_cons_mk (Below.trod laidOut (by kernel_rfl) (of_decide_eq_true (by kernel_rfl)) k0 bel lt0) trodAll_mk0), rfl, bel.frame _, fun h => by cases h⟩
theorem proved : Rows.OrderBackSaid :=
  OpenClaim.holds_of_wide 6 Try.f6 rfl rfl rfl rfl rfl rfl rfl ⟨rfl, rfl, rfl, rfl, rfl⟩ rfl rfl rfl rfl rfl (by kernel_rfl) Try.func6 (by kernel_rfl)
    (of_decide_eq_true (by kernel_rfl)) (by unfold Func.isWrapper; first | (rw [if_pos (by decide +kernel)]; kernel_rfl) | (rw [if_neg (by decide +kernel)]; exact ⟨rfl, rfl⟩))
    (fun os started H enc _ => lifted os started H enc)
#print axioms proved
end Go.Proofs.Ytfjcaangcogkeaa.orderBack
