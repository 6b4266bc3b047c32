/- For every byte slice, number and size, order.Put lays the bytes that the reference lays, in new memory; nothing that was there is changed. No conditions. -/
import Derived.Test.YtfjcaangcogkeaaD
import Derived.Test.YtfjcaangcogkeaaE
import Derived.Test.YtfjcaangcogkeaaF
import Derived.Test.YtfjcaangcogkeaaG
import Derived.Lib.SmallJoins
import Derived.Deep.QuietTactic
import Derived.BigQuiet
import Derived.Deep.DeepCutAuto
import Derived.ProofKit
import Derived.OpenShut
import Derived.SizedLaws
import Derived.Carry
namespace Go.Proofs.Ytfjcaangcogkeaa.orderPuts
open Go.ChangeShapes Go.WideShapes Go.ChangeAt Go.RowKit
set_option linter.unusedVariables false

set_option maxHeartbeats 1000000 in
theorem walk (a0 : Option Addr) (n0 c0 : Nat) (l0 : List UInt8) (N : Int) (z : Int) (w : World) (g : Reads w a0 (bts l0)) (gn : l0.length = n0) (gc : n0 ≤ c0) (gr : c0 * 1 ≤ 140737488351232) (gN : (Lit.int .u64 N).wf = true) (gz : (Lit.int .i64 z).wf = true) :
    Calls Try.prog 3 #[.slice a0 n0 c0, .int .u64 N, .int .i64 z] w fun e w' => e = .returned (.bool true) ∧ Below w.heap.size w w' := by
  have hN := Go.bounds_u64 gN
  obtain ⟨M, rfl⟩ := Int.eq_ofNat_of_zero_le hN.1
  have hM : M < 2 ^ 64 := by omega
  clear hN gN gz
  go_enter Try.func3, Try.ntmps3
  go_wp2_with (first | (at_builtin; refine wpList_append_k _ rfl (.tmp 12) (.tmp 13) 22 rfl 5 1 eltB w.heap.size _ 0 0 [] rfl (Room.nil _ _ _) (by simp) a0 n0 c0 (bts l0) rfl (g.chg (Chg.alloc [] _ _) (by simp)) (by rw [bts_length]; exact gn) (bts_one l0) (by unfold maxLen; omega) (by omega) ?_; intro ao2 c2 w2 hr2 hc2 hf2; have hc2' : Chg [] w w2 := (Chg.alloc [] _ _).then hc2; simp only [Nat.zero_add, List.nil_append] at hr2) | (at_builtin; refine wpList_append_1 w2 rfl (.tmp 14) (.tmp 15) 22 rfl 5 1 eltB w.heap.size ao2 n0 c2 _ rfl hr2 hc2'.size _ 1 rfl rfl (by unfold maxLen; omega) (by omega) ?_; intro ao3 c3 w3 hr3 hc3 hf3; have hle3 := hr3.le))
  obtain ⟨b3, o3, rfl, hcell3⟩ := hr3.reads (by simp)
  have g3 : Reads w3 (some ⟨b3, o3, none⟩) (bts l0) := by have := hr3.reads.take (bts l0).length; rwa [List.take_left] at this
  have h7 : w3.cell? ⟨b3, o3 + n0, none⟩ = some (.int .u8 7) := hcell3 n0 _ (by rw [List.getElem?_append_right (by rw [bts_length]; omega), bts_length, gn]; simp)
  have hb3 := block_lt_of_cell h7
  have hmax3 := hr3.max
  unfold maxLen at hmax3
  clear hcell3
  have hg3 : Chg [] w w3 := hc2'.own hc3 hr2
  refine (put_all _ n0 c3 l0 M z w3 g3 gn (by omega) hM).mono ?_
  rintro e w4 ⟨ax, mx, cx, rfl, hr4, hg4⟩
  go_wp2_with fail
  refine (refput_all a0 n0 c0 l0 M z w4 (g.old (hg3.then hg4) (by simp)) gn (by omega) hM).mono ?_
  rintro e w5 ⟨ay, my, cy, rfl, hr5, hg5⟩
  have hr4' := hr4.chg hg5 (by simp)
  have hlen4 : (putB l0 M z).length = mx := by have := hr4.len; rwa [bts_length] at this
  have hlen5 : (putB l0 M z).length = my := by have := hr5.len; rwa [bts_length] at this
  have H4 := mkHid hlen4
  have H5 := mkHid hlen5
  clear hlen4 hlen5
  have hg35 : Chg [] w3 w5 := hg4.then hg5
  have h75 := hg35.cellv h7 (by simp)
  go_wp2_with fail
  refine (equal_any _ _ _ _ _ _ _ _ w5 hr4'.reads H4.out hr5.reads H5.out).mono ?_
  rintro e w6 ⟨he, rfl⟩
  simp only [decide_true] at he
  subst he
  go_wp2_with fail
  refine (equal_any _ _ _ _ _ _ _ _ w5 (g3.old hg35 (by simp)) gn (g.old (hg3.then hg35) (by simp)) gn).mono ?_
  rintro e w6 ⟨he, rfl⟩
  simp only [decide_true] at he
  subst he
  have hmx := hr4.le
  have hmx2 := hr4.max
  unfold maxLen at hmx2
  go_wp2_with fail
  rw [bts_u8s] at hr4'
  go_loopw [46] (fun i wr => ∃ (k : Nat) (zs : List Int), k ≤ mx ∧ i = .int .i64 k ∧ Room wr w3.heap.size ax mx cx (u8s zs) ∧ Chg [] w3 wr) (fun i _ => mx - (intOf i).toNat)
  case atStart => exact ⟨0, _, Nat.zero_le _, rfl, hr4', hg35⟩
  case round =>
    obtain ⟨k, zs, hk, rfl, hrr, hgr⟩ := hrel
    by_cases hlt : k < mx
    · have hzl : zs.length = mx := by have := hrr.len; rwa [u8s_length] at this
      obtain ⟨bx, ox, rfl, hcr⟩ := hrr.reads (by rw [u8s_length]; omega)
      have hcell := hcr k _ (u8s_get zs k (by omega))
      have hfz := hrr.cell k hlt
      have hbx : w3.heap.size ≤ bx := (hrr.lt bx (by rw [fp_some _ _ _ (by omega)]; simp)).1
      clear hcr
      go_wp2_with fail
      go_roundw
      case rel =>
        exact (hrr.set8 k hlt _).elim fun zs' hz' => ⟨k + 1, zs', by omega, by go_num, hz', hgr.step (Chg.setCell _ _ _) (by simpa using hbx)⟩
      case measure => simp [intOf]; omega
    · have : k = mx := by omega
      subst this
      go_wp2_with (first | (go_at_call 13; refine (awake_any _).mono ?_; rintro e w7 ⟨rfl, hg7⟩))
      refine (equal_any _ _ _ _ _ _ _ _ w7 (g3.old (hgr.then hg7) (by simp)) gn (g.old ((hg3.then hgr).then hg7) (by simp)) gn).mono ?_
      rintro e w8 ⟨he, rfl⟩
      simp only [decide_true] at he
      subst he
      go_wp2_with fail
      go_ret
      exact ⟨rfl, ((hg3.then hgr).then hg7).below (Nat.le_refl _) (by simp)⟩

theorem own : ownKnob Try.prog.godebug = none := by kernel_rfl
theorem laidOut : laidOutB Try.prog = true := by kernel_rfl
set_option maxRecDepth 100000 in
theorem lifted (os : Os) (started : os.Started) (H : Type) (enc : TypeId × Value → H) :
    ReturnsInHanded {} Try.checked os 3 .any (Rows.orderPutsSpec.pre6 enc Try.prog Try.f3 Rows.orderPutsRow.domain false) (Rows.orderPutsSpec.post enc Try.prog Try.f3 false true false false) := by
  refine returnsInHanded_of_change_sized (C := Try.checked) own started (by kernel_rfl) Try.func3
    (ChangeSpec.witness6 (enc := enc) (C := Try.checked) false ⟨#[], #[.slice none 0 0, .int .u64 0, .int .i64 0], []⟩ 8 (by kernel_rfl) (by kernel_rfl) (by kernel_rfl) (by kernel_rfl)) ?_
  intro W base args ds gs before hval0 hW hcnd hsz0 _
  have hsz : (DataW.weightsEach Try.prog (Try.f3.params.toList ++ Rows.orderPutsSpec.plain.varTypes Try.prog) (ds ++ gs)).all (· ≤ reachBytes) = true := hsz0
  have hval : ∀ (j : Nat) t v, Try.f3.params[j]? = some t → args[j]? = some v → Value.okWide Try.prog W .any base t v := hval0
  have hW' := hW
  obtain ⟨p, q, hA0, hV, rfl, hfz, hnd⟩ := hW
  have hA : DataW.TrodAll enc Try.prog W 0 (fun _ => true) true Try.f3.params.toList args.toList ds p := hA0
  rw [Try.params3] at hA hval hsz
  obtain ⟨v0, vs0, d0, ds0, p0, q0, hargs, rfl, rfl, h0, r0⟩ := trodAll_cons hA
  obtain ⟨v1, vs1, d1, ds1, p1, q1, rfl, rfl, rfl, h1, r1⟩ := trodAll_cons r0
  obtain ⟨v2, vs2, d2, ds2, p2, q2, rfl, rfl, rfl, h2, r2⟩ := trodAll_cons r1
  obtain ⟨rfl, rfl, rfl⟩ := trodAll_nil r2
  obtain rfl : args = #[v0, v1, v2] := by cases args; simp_all
  obtain ⟨rfl, rfl⟩ := trodVars_none hV
  have k0 := h0
  have lt0 : ∀ x ∈ p0, x.block < W.heap.size := by obtain ⟨m, hm⟩ := k0; exact DataW.trod_lt m _ _ _ hm
  have k1 := h1
  have lt1 : ∀ x ∈ p1, x.block < W.heap.size := by obtain ⟨m, hm⟩ := k1; exact DataW.trod_lt m _ _ _ hm
  have k2 := h2
  have lt2 : ∀ x ∈ p2, x.block < W.heap.size := by obtain ⟨m, hm⟩ := k2; exact DataW.trod_lt m _ _ _ hm
  obtain ⟨a0, n0, c0, rfl⟩ := okWide_slice Try.underlying22 (hval 0 22 v0 rfl rfl)
  obtain ⟨l0, g0, gn0, gc0, gm0, gd0⟩ := opened_bytes Try.underlying22 Try.underlying5 (by kernel_rfl) h0
  have gr0 := (sized_of hsz (j := 0) (t := 22) rfl rfl).slice Try.underlying22 (by kernel_rfl : Try.prog.bytesOf 5 = 1) gd0
  obtain ⟨l1, rfl, rfl, rfl, g1⟩ := open_int Try.underlying23 (hval 1 23 v1 rfl rfl) h1
  obtain ⟨l2, rfl, rfl, rfl, g2⟩ := open_int Try.underlying3 (hval 2 3 v2 rfl rfl) h2
  refine (walk a0 n0 c0 l0 l1 l2 W g0 gn0 gc0 gr0 g1 g2).mono fun e W' ⟨he, bel⟩ => ?_
  subst he
  exact ⟨_, rfl, _, _, _, [], _, [], hW', trodAll_mk1 (shut_bool Try.underlying4 _), (trodAll_cons_mk (Below.trod laidOut (by kernel_rfl) (of_decide_eq_true (by kernel_rfl)) k0 bel lt0) (trodAll_cons_mk (shut_int Try.underlying23 g1) (trodAll_cons_mk (shut_int Try.underlying3 g2) trodAll_mk0))), rfl, bel.frame _, fun h => by cases h⟩
theorem proved : Rows.OrderPutsSaid :=
  OpenClaim.holds_of_wide 3 Try.f3 rfl rfl rfl rfl rfl rfl rfl ⟨rfl, rfl, rfl, rfl, rfl⟩ rfl rfl rfl rfl rfl (by kernel_rfl) Try.func3 (by kernel_rfl)
    (of_decide_eq_true (by kernel_rfl)) (by unfold Func.isWrapper; first | (rw [if_pos (by decide +kernel)]; kernel_rfl) | (rw [if_neg (by decide +kernel)]; exact ⟨rfl, rfl⟩))
    (fun os started H enc _ => lifted os started H enc)
#print axioms proved
end Go.Proofs.Ytfjcaangcogkeaa.orderPuts
