/- The sum of every text, alone and behind every sum, is the document's; the text stays. The row lists one table of the library (math/bits), tied to its text. No other condition. -/
import Derived.Test.YtaknbgiahlgpiaaDoorF
import Derived.Test.YtaknbgiahlgpiaaDoorG
import Derived.Test.YtaknbgiahlgpiaaDoorH
import Derived.Test.YtaknbgiahlgpiaaDoorCards
import Derived.Test.YtaknbgiahlgpiaaDoorTie
import Derived.ProofKit
import Derived.OpenShut
import Derived.SizedLaws
import Derived.Carry
import Derived.Deep.DeepHandedRow
import Derived.Lib.SmallJoins
import Derived.Deep.DeepCutAuto
namespace Go.Proofs.YtaknbgiahlgpiaaDoor.crcSums
open Go.ChangeShapes Go.WideShapes Go.ChangeAt Go.RowKit
set_option linter.unusedVariables false
set_option linter.unusedSimpArgs false
set_option maxHeartbeats 1000000 in
theorem walk (X : Int) (a0 : Option Addr) (n0 c0 : Nat) (l0 : List UInt8) (w : World) (hT : Tab w) (gX : (Lit.int .u32 X).wf = true) (g : Reads w a0 (bts l0)) (gn : l0.length = n0) (gc : n0 ≤ c0) (gr : c0 * 1 ≤ 140737488351232) :
    Calls Tryd.prog 3 #[.int .u32 X, .slice a0 n0 c0] w fun e w' => e = .returned (.bool true) ∧ Below w.heap.size w w' := by
  obtain ⟨x, rfl⟩ := v32_of gX
  have hm : n0 ≤ maxLen := by unfold maxLen; omega
  clear gX
  go_enter Tryd.func3, Tryd.ntmps3
  go_wp2_with (first | (at_builtin; refine wpList_append_k _ rfl (.const (.slice none 0 0)) (.tmp 7) 23 rfl 5 1 eltB w.heap.size _ 0 0 [] rfl (Room.nil _ _ _) (Nat.le_refl _) a0 n0 c0 (bts l0) rfl g (by rw [bts_length]; exact gn) (bts_one l0) (by unfold maxLen; omega) (by omega) ?_; intro ao1 c1 w1 hr1 hg1 hf1; simp only [Nat.zero_add, List.nil_append] at hr1))
  have hg1 : Chg [] w w1 := hg1
  have hT1 := hT.then hg1
  have r1 := hr1.reads
  have q1 := g.old hg1 rfl
  refine (sum_any ao1 n0 c1 l0 w1 hT1 r1 gn hm).mono ?_
  rintro e w2 ⟨rfl, hg2⟩
  have hT2 := hT1.then hg2
  have r2 := r1.old hg2 rfl
  have q2 := q1.old hg2 rfl
  go_wp2_with fail
  refine (refsum_any a0 n0 c0 l0 w2 q2 gn hm).mono ?_
  rintro e w3 ⟨rfl, rfl⟩
  go_wp2_with fail
  refine (more_any x _ rfl ao1 n0 c1 l0 w2 hT2 r2 gn hm).mono ?_
  rintro e w3 ⟨rfl, hg3⟩
  have hT3 := hT2.then hg3
  have r3 := r2.old hg3 rfl
  have q3 := q2.old hg3 rfl
  go_wp2_with fail
  refine (refmore_any x _ rfl a0 n0 c0 l0 w3 q3 gn hm).mono ?_
  rintro e w4 ⟨rfl, rfl⟩
  have hv1 := run_convert_k (P := Tryd.prog) w3 23 5 9 Tryd.underlying23 Tryd.underlying5 Tryd.underlying9 ao1 n0 c1 l0 r3 gn
  have hv2 := run_convert_k (P := Tryd.prog) w3 23 5 9 Tryd.underlying23 Tryd.underlying5 Tryd.underlying9 a0 n0 c0 l0 q3 gn
  have hse : ((⟨l0.toArray⟩ : ByteArray) == ⟨l0.toArray⟩) = true := by rw [string_eq]; simp
  go_wp2_with fail
  refine (wakes_any w3 hT3).mono ?_
  rintro e w4 ⟨rfl, hg4⟩
  go_wp2_with fail
  go_ret
  exact ⟨rfl, (((hg1.then hg2).then hg3).then hg4).below (Nat.le_refl _) (by simp)⟩

theorem own : ownKnob Tryd.prog.godebug = none := by kernel_rfl
theorem laidOut : laidOutB Tryd.prog = true := by kernel_rfl
noncomputable def laidWorld (os : Os) : World :=
  { World.holding Tryd.prog os ⟨#[], #[], []⟩ with heap := (World.holding Tryd.prog os ⟨#[], #[], []⟩).heap.modify 0 fun
      | .cells _ t frozen => .cells #[.int .u8 0, .int .u8 1, .int .u8 28, .int .u8 2, .int .u8 29, .int .u8 14, .int .u8 24, .int .u8 3, .int .u8 30, .int .u8 22, .int .u8 20, .int .u8 15, .int .u8 25, .int .u8 17, .int .u8 4, .int .u8 8, .int .u8 31, .int .u8 27, .int .u8 13, .int .u8 23, .int .u8 21, .int .u8 19, .int .u8 16, .int .u8 7, .int .u8 26, .int .u8 12, .int .u8 18, .int .u8 6, .int .u8 11, .int .u8 5, .int .u8 10, .int .u8 9] t frozen
      | o => o }
theorem laid_met (os : Os) : laidMet Tryd.prog Rows.crcSumsRow.laid ((laidWorld os).forCall (fun _ _ => 0) ⟨#[], #[.int .u32 0, .slice none 0 0], []⟩).memory :=
  laidMet_of_run' 8 (by kernel_rfl) (by kernel_rfl)
theorem reads (os : Os) {H : Type} (enc : TypeId × Value → H) : ∃ places, DataW.whole enc Tryd.prog ((laidWorld os).forCall (fun _ _ => 0) ⟨#[], #[.int .u32 0, .slice none 0 0], []⟩).memory Tryd.f3.params.toList Rows.crcSumsSpec.vars false (#[.int .u32 0, .slice none 0 0] : Array Value).toList 8 = some ([.lit (.int .u32 0), .nil], [], places) :=
  ⟨[], by kernel_rfl⟩
set_option maxRecDepth 100000 in
theorem lifted (os : Os) (started : os.Started) (H : Type) (enc : TypeId × Value → H) (F : Stop.Interp) :
    ReturnsInHanded {} Tryd.checked os 3 .any ((OpenSpec.ofChange Rows.crcSumsSpec).preRow enc Tryd.prog Tryd.f3 Rows.crcSumsRow.domain false Rows.crcSumsRow.laid) (((OpenSpec.ofChange Rows.crcSumsSpec).at F).post enc Tryd.prog Tryd.f3 false true false false) := by
  obtain ⟨places, hx⟩ := reads os enc
  refine returnsInHanded_of_row (C := Tryd.checked) (s := OpenSpec.ofChange Rows.crcSumsSpec) own started (by kernel_rfl) Tryd.func3
    (witness_row_at (enc := enc) (C := Tryd.checked) false (laidWorld os) #[.int .u32 0, .slice none 0 0] rfl (by kernel_rfl) (by kernel_rfl) (by kernel_rfl)
      (OpenSpec.preRow_of_cond 8 hx (by kernel_rfl) (fun k hk => by cases hk) (by kernel_rfl) (laid_met os))) ?_
  intro W base args ds gs before hval0 hW _ _ hsz0 hL _ _
  have hT : Tab W := tab_of (by kernel_rfl) hL
  have hsz : (DataW.weightsEach Tryd.prog (Tryd.f3.params.toList ++ Rows.crcSumsSpec.plain.varTypes Tryd.prog) (ds ++ gs)).all (· ≤ reachBytes) = true := hsz0
  have hval : ∀ (j : Nat) t v, Tryd.f3.params[j]? = some t → args[j]? = some v → Value.okWide Tryd.prog W .any base t v := hval0
  have hW' := hW
  obtain ⟨p, q, hA0, hV, rfl, hfz, hnd⟩ := hW
  have hA : DataW.TrodAll enc Tryd.prog W 0 (fun _ => true) true Tryd.f3.params.toList args.toList ds p := hA0
  rw [Tryd.params3] at hA hval hsz
  obtain ⟨v0, vs0, d0, ds0, p0, q0, hargs, rfl, rfl, h0, r0⟩ := trodAll_cons hA
  obtain ⟨v1, vs1, d1, ds1, p1, q1, rfl, rfl, rfl, h1, r1⟩ := trodAll_cons r0
  obtain ⟨rfl, rfl, rfl⟩ := trodAll_nil r1
  obtain rfl : args = #[v0, v1] := by cases args; simp_all
  obtain ⟨rfl, rfl⟩ := trodVars_none hV
  have k0 := h0
  have lt0 : ∀ x ∈ p0, x.block < W.heap.size := by obtain ⟨m, hm⟩ := k0; exact DataW.trod_lt m _ _ _ hm
  have k1 := h1
  have lt1 : ∀ x ∈ p1, x.block < W.heap.size := by obtain ⟨m, hm⟩ := k1; exact DataW.trod_lt m _ _ _ hm
  obtain ⟨l0, rfl, rfl, rfl, g0⟩ := open_int Tryd.underlying22 (hval 0 22 v0 rfl rfl) h0
  obtain ⟨a1, n1, c1, rfl⟩ := okWide_slice Tryd.underlying23 (hval 1 23 v1 rfl rfl)
  obtain ⟨l1, g1, gn1, gc1, gm1, gd1⟩ := opened_bytes Tryd.underlying23 Tryd.underlying5 (by kernel_rfl) h1
  have gr1 := (sized_of hsz (j := 1) (t := 23) rfl rfl).slice Tryd.underlying23 (by kernel_rfl : Tryd.prog.bytesOf 5 = 1) gd1
  refine (walk l0 a1 n1 c1 l1 W hT g0 g1 gn1 gc1 gr1).mono fun e W' ⟨he, bel⟩ => ?_
  subst he
  exact ⟨_, rfl, _, _, _, [], _, [], hW', trodAll_mk1 (shut_bool Tryd.underlying4 _), (trodAll_cons_mk (shut_int Tryd.underlying22 g0) (trodAll_cons_mk (Below.trod laidOut (by kernel_rfl) (of_decide_eq_true (by kernel_rfl)) k1 bel lt1) trodAll_mk0)), rfl, bel.frame _, fun h => by cases h⟩
theorem said : Rows.CrcSumsSaid :=
  OpenClaim.holds_of_cond 3 Tryd.f3 rfl rfl rfl rfl rfl rfl rfl ⟨rfl, rfl, rfl, rfl, rfl⟩ rfl rfl rfl rfl rfl (by kernel_rfl) Tryd.func3 (by kernel_rfl)
    (of_decide_eq_true (by kernel_rfl)) (by unfold Func.isWrapper; first | (rw [if_pos (by decide +kernel)]; kernel_rfl) | (rw [if_neg (by decide +kernel)]; exact ⟨rfl, rfl⟩))
    (fun os started H enc _ F => by rw [OpenClaim.pre_eq_preRow]; exact lifted os started H enc F)
theorem plain (f : FuncId) (fn : Func) (hf : Tryd.pinned.checked.prog.funcNamed Rows.crcSumsRow.func = some f) (hfn : Tryd.pinned.checked.prog.funcs[f]? = some fn) :
    false = Tryd.pinned.checked.prog.looks [] ∧ ∀ (j : Nat) t, fn.params[j]? = some t → Tryd.pinned.checked.prog.wantsStandIn t = false := by
  obtain rfl : f = 3 := Option.some.inj ((show Tryd.prog.funcNamed Rows.crcSumsRow.func = some 3 by kernel_rfl).symm.trans hf) |>.symm
  obtain rfl : fn = Tryd.f3 := (Option.some.inj (Tryd.func3.symm.trans hfn)).symm
  refine ⟨by kernel_rfl, fun j t ht => ?_⟩
  rw [Tryd.params3] at ht
  have hm := Array.mem_of_getElem? ht
  simp at hm
  have hall : Tryd.prog.wantsStandIn 22 = false ∧ Tryd.prog.wantsStandIn 23 = false := ⟨by kernel_rfl, by kernel_rfl⟩
  rcases hm with rfl | rfl
  · exact hall.1
  · exact hall.2
theorem proved : Rows.CrcSumsCardSaid :=
  Claim7.holds_tied_plain_at .later [] _ _ _ _ said (fun _ h => by cases h) (by kernel_rfl) (fun _ h => by cases h) crcSums_row_tie rfl ⟨rfl, rfl⟩ (by kernel_rfl) rfl plain (by kernel_rfl)
#print axioms proved
end Go.Proofs.YtaknbgiahlgpiaaDoor.crcSums
