/- For every block of bytes, every place and every kind: what is opened, sealed again, is the same block; bytes of another length are none. The row lists one table of the library (math/bits), tied to its text. No other condition. -/
import Derived.Test.YtkhaapoekaijlaaDoorE
import Derived.Test.YtkhaapoekaijlaaDoorSe
import Derived.Test.YtkhaapoekaijlaaDoorCards
import Derived.Test.YtkhaapoekaijlaaDoorTie
import Derived.ProofKit
import Derived.OpenShut
import Derived.SizedLaws
import Derived.Carry
import Derived.Deep.DeepHandedRow
import Derived.Lib.SmallJoins
import Derived.Deep.DeepCutAuto
import Derived.Deep.RegionHeld3
namespace Go.Proofs.YtkhaapoekaijlaaDoor.stampBack
open Go.ChangeShapes Go.WideShapes Go.ChangeAt Go.RowKit
set_option linter.unusedVariables false
set_option linter.unusedSimpArgs false
theorem seal_open (l : List UInt8) (p kd : Nat) (hp : p < 2 ^ 64) (hkd : kd < 2 ^ 32) (h : opens l p kd = 0) : l.length = 256 ∧ sealB (l.take 240) p kd = l := by
  unfold opens at h
  split at h
  · cases h
  split at h
  · cases h
  have hl : l.length = 256 := by omega
  split at h
  · cases h
  rename_i h3
  split at h
  · cases h
  rename_i h4
  split at h
  · cases h
  rename_i h5
  simp only [ne_eq, Decidable.not_not] at h3 h4 h5
  have e4 := (val_iff _ 8 p (by rw [List.length_take, List.length_drop]; omega) (by omega)).1 h4
  have e5 := (val_iff _ 4 kd (by rw [List.length_take, List.length_drop]; omega) (by omega)).1 h5
  have hS := (csum (l.take 252)).isLt
  have e3 := (val_iff _ 4 _ (by rw [List.length_take, List.length_drop]; omega) (by omega)).1 h3
  rw [List.take_of_length_le (by rw [List.length_drop]; omega)] at e3
  have hb : body (l.take 240) p kd = l.take 252 := by
    unfold body
    rw [List.length_take, show 240 - min 240 l.length = 0 by omega, List.replicate_zero, List.append_nil, ← e4, ← e5]
    have a1 : (l.drop 240).take 12 = (l.drop 240).take 8 ++ (l.drop 248).take 4 := by
      rw [show (12 : Nat) = 8 + 4 from rfl, List.take_add, List.drop_drop]
    have a2 : l.take 252 = l.take 240 ++ (l.drop 240).take 12 := by rw [show (252 : Nat) = 240 + 12 from rfl, List.take_add]
    rw [a2, a1]
  refine ⟨hl, ?_⟩
  unfold sealB
  rw [hb, ← e3, List.take_append_drop]
theorem nat_kind {x : Int} (h : (Lit.int .u8 x).wf = true) : ∃ kd : Nat, x = (kd : Int) ∧ kd < 256 := by
  have := wf_u8 h
  exact ⟨x.toNat, by omega, by omega⟩
set_option maxRecDepth 100000 in
set_option maxHeartbeats 1000000 in
theorem walk (a0 : Option Addr) (n0 c0 : Nat) (l0 : List UInt8) (k x : Int) (w : World) (hT : Tab w) (g : Reads w a0 (bts l0)) (gn : l0.length = n0) (gc : n0 ≤ c0) (gr : c0 * 1 ≤ 140737488351232) (gk : (Lit.int .i64 k).wf = true) (gx : (Lit.int .u8 x).wf = true) :
    Calls Tryd.prog 6 #[.slice a0 n0 c0, .int .i64 k, .int .u8 x] w fun e w' => e = .returned (.bool true) ∧ Below w.heap.size w w' := by
  obtain ⟨kd, rfl, hkd⟩ := nat_kind gx
  have hm : c0 ≤ maxLen := by unfold maxLen; omega
  clear gx gr
  by_cases c1 : n0 < 256
  · have ho : opens l0 (pn k) kd = 4 := by unfold opens; rw [if_pos (by omega)]
    have d1 : decide ((n0 : Int) < 256) = true := decide_eq_true (by omega)
    have d2 : decide ((256 : Int) < (n0 : Int)) = false := decide_eq_false (by omega)
    have d3 : ((n0 : Int) == 256) = false := by simp; omega
    go_enter Tryd.func6, Tryd.ntmps6
    go_wp2_with fail
    refine (open_no 4 (by decide) a0 n0 c0 l0 k kd _ rfl ho w hT g gn gc hm hkd).mono ?_
    rintro e w1 ⟨rfl, hg1⟩
    go_wp2_with fail
    refine (wakes_any _ (hT.then hg1)).mono ?_
    rintro e w2 ⟨rfl, hg2⟩
    go_wp2_with fail
    go_ret
    exact ⟨rfl, (hg1.then hg2).below (Nat.le_refl _) (by simp)⟩
  by_cases c2 : 256 < n0
  · have ho : opens l0 (pn k) kd = 3 := by unfold opens; rw [if_neg (by omega), if_pos (by omega)]
    have d1 : decide ((n0 : Int) < 256) = false := decide_eq_false (by omega)
    have d2 : decide ((256 : Int) < (n0 : Int)) = true := decide_eq_true (by omega)
    have d3 : ((n0 : Int) == 256) = false := by simp; omega
    go_enter Tryd.func6, Tryd.ntmps6
    go_wp2_with fail
    refine (open_no 3 (by decide) a0 n0 c0 l0 k kd _ rfl ho w hT g gn gc hm hkd).mono ?_
    rintro e w1 ⟨rfl, hg1⟩
    go_wp2_with fail
    refine (wakes_any _ (hT.then hg1)).mono ?_
    rintro e w2 ⟨rfl, hg2⟩
    go_wp2_with fail
    go_ret
    exact ⟨rfl, (hg1.then hg2).below (Nat.le_refl _) (by simp)⟩
  obtain rfl : n0 = 256 := by omega
  clear c1 c2
  by_cases h0 : opens l0 (pn k) kd = 0
  · have hpl := pn_lt k
    obtain ⟨-, hs⟩ := seal_open l0 (pn k) kd hpl (by omega) h0
    have Hs := mkHid hs
    have hl : (l0.take 240).length = 240 := by rw [List.length_take]; omega
    clear hs
    go_enter Tryd.func6, Tryd.ntmps6
    go_wp2_with fail
    refine (open_yes a0 256 c0 l0 k kd _ rfl h0 w hT g gn gc hm hkd).mono ?_
    rintro e w1 ⟨ap, cp, rfl, hrp, hg1⟩
    go_wp2_with fail
    refine (seal_any ap 240 cp (l0.take 240) k kd w1 (hT.then hg1) hrp.reads hl (by decide) hkd).mono ?_
    rintro e w2 ⟨aq, cq, rfl, hrs, hg2⟩
    rw [Hs.out] at hrs
    have hg12 := hg1.then hg2
    have hv1 := run_convert_k (P := Tryd.prog) w2 22 5 9 Tryd.underlying22 Tryd.underlying5 Tryd.underlying9 aq 256 cq l0 hrs.reads gn
    have hv2 := run_convert_k (P := Tryd.prog) w2 22 5 9 Tryd.underlying22 Tryd.underlying5 Tryd.underlying9 a0 256 c0 l0 (g.keep hg12) gn
    have hse : ((⟨l0.toArray⟩ : ByteArray) == ⟨l0.toArray⟩) = true := by rw [string_eq]; simp
    go_wp2_with fail
    refine (wakes_any w2 (hT.then hg12)).mono ?_
    rintro e w3 ⟨rfl, hg3⟩
    go_wp2_with fail
    go_ret
    exact ⟨rfl, (hg12.then hg3).below (Nat.le_refl _) (by simp)⟩
  · obtain ⟨C, hC⟩ : ∃ C, C = opens l0 (pn k) kd := ⟨_, rfl⟩
    have d1 : ((C : Int) == 0) = false := by simp; omega
    rw [← hC] at h0
    go_enter Tryd.func6, Tryd.ntmps6
    go_wp2_with fail
    refine (open_no C h0 a0 256 c0 l0 k kd _ rfl hC.symm w hT g gn gc hm hkd).mono ?_
    rintro e w1 ⟨rfl, hg1⟩
    go_wp2_with fail
    refine (wakes_any _ (hT.then hg1)).mono ?_
    rintro e w2 ⟨rfl, hg2⟩
    go_wp2_with fail
    go_ret
    exact ⟨rfl, (hg1.then hg2).below (Nat.le_refl _) (by simp)⟩

theorem own : ownKnob Tryd.prog.godebug = none := by kernel_rfl
theorem laidOut : laidOutB Tryd.prog = true := by kernel_rfl
noncomputable def laidWorld (os : Os) : World :=
  { World.holding Tryd.prog os ⟨#[], #[], []⟩ with heap := (World.holding Tryd.prog os ⟨#[], #[], []⟩).heap.modify 0 fun
      | .cells _ t frozen => .cells #[.int .u8 0, .int .u8 1, .int .u8 28, .int .u8 2, .int .u8 29, .int .u8 14, .int .u8 24, .int .u8 3, .int .u8 30, .int .u8 22, .int .u8 20, .int .u8 15, .int .u8 25, .int .u8 17, .int .u8 4, .int .u8 8, .int .u8 31, .int .u8 27, .int .u8 13, .int .u8 23, .int .u8 21, .int .u8 19, .int .u8 16, .int .u8 7, .int .u8 26, .int .u8 12, .int .u8 18, .int .u8 6, .int .u8 11, .int .u8 5, .int .u8 10, .int .u8 9] t frozen
      | o => o }
theorem laid_met (os : Os) : laidMet Tryd.prog Rows.stampBackRow.laid ((laidWorld os).forCall (fun _ _ => 0) ⟨#[], #[.slice none 0 0, .int .i64 0, .int .u8 0], []⟩).memory :=
  laidMet_of_run' 8 (by kernel_rfl) (by kernel_rfl)
theorem reads (os : Os) {H : Type} (enc : TypeId × Value → H) : ∃ places, DataW.whole enc Tryd.prog ((laidWorld os).forCall (fun _ _ => 0) ⟨#[], #[.slice none 0 0, .int .i64 0, .int .u8 0], []⟩).memory Tryd.f6.params.toList Rows.stampBackSpec.vars false (#[.slice none 0 0, .int .i64 0, .int .u8 0] : Array Value).toList 8 = some ([.nil, .lit (.int .i64 0), .lit (.int .u8 0)], [], places) :=
  ⟨[], by kernel_rfl⟩
set_option maxRecDepth 100000 in
theorem lifted (os : Os) (started : os.Started) (H : Type) (enc : TypeId × Value → H) (F : Stop.Interp) :
    ReturnsInHanded {} Tryd.checked os 6 .any ((OpenSpec.ofChange Rows.stampBackSpec).preRow enc Tryd.prog Tryd.f6 Rows.stampBackRow.domain false Rows.stampBackRow.laid) (((OpenSpec.ofChange Rows.stampBackSpec).at F).post enc Tryd.prog Tryd.f6 false true false false) := by
  obtain ⟨places, hx⟩ := reads os enc
  refine returnsInHanded_of_row (C := Tryd.checked) (s := OpenSpec.ofChange Rows.stampBackSpec) own started (by kernel_rfl) Tryd.func6
    (witness_row_at (enc := enc) (C := Tryd.checked) false (laidWorld os) #[.slice none 0 0, .int .i64 0, .int .u8 0] rfl (by kernel_rfl) (by kernel_rfl) (by kernel_rfl)
      (OpenSpec.preRow_of_cond 8 hx (by kernel_rfl) (fun k hk => by cases hk) (by kernel_rfl) (laid_met os))) ?_
  intro W base args ds gs before hval0 hW _ _ hsz0 hL _ _
  have hT : Tab W := tab_of (by kernel_rfl) hL
  have hsz : (DataW.weightsEach Tryd.prog (Tryd.f6.params.toList ++ Rows.stampBackSpec.plain.varTypes Tryd.prog) (ds ++ gs)).all (· ≤ reachBytes) = true := hsz0
  have hval : ∀ (j : Nat) t v, Tryd.f6.params[j]? = some t → args[j]? = some v → Value.okWide Tryd.prog W .any base t v := hval0
  have hW' := hW
  obtain ⟨p, q, hA0, hV, rfl, hfz, hnd⟩ := hW
  have hA : DataW.TrodAll enc Tryd.prog W 0 (fun _ => true) true Tryd.f6.params.toList args.toList ds p := hA0
  rw [Tryd.params6] at hA hval hsz
  obtain ⟨v0, vs0, d0, ds0, p0, q0, hargs, rfl, rfl, h0, r0⟩ := trodAll_cons hA
  obtain ⟨v1, vs1, d1, ds1, p1, q1, rfl, rfl, rfl, h1, r1⟩ := trodAll_cons r0
  obtain ⟨v2, vs2, d2, ds2, p2, q2, rfl, rfl, rfl, h2, r2⟩ := trodAll_cons r1
  obtain ⟨rfl, rfl, rfl⟩ := trodAll_nil r2
  obtain rfl : args = #[v0, v1, v2] := by cases args; simp_all
  obtain ⟨rfl, rfl⟩ := trodVars_none hV
  have k0 := h0
  have lt0 : ∀ x ∈ p0, x.block < W.heap.size := by obtain ⟨m, hm⟩ := k0; exact DataW.trod_lt m _ _ _ hm
  have k1 := h1
  have lt1 : ∀ x ∈ p1, x.block < W.heap.size := by obtain ⟨m, hm⟩ := k1; exact DataW.trod_lt m _ _ _ hm
  have k2 := h2
  have lt2 : ∀ x ∈ p2, x.block < W.heap.size := by obtain ⟨m, hm⟩ := k2; exact DataW.trod_lt m _ _ _ hm
  obtain ⟨a0, n0, c0, rfl⟩ := okWide_slice Tryd.underlying22 (hval 0 22 v0 rfl rfl)
  obtain ⟨l0, g0, gn0, gc0, gm0, gd0⟩ := opened_bytes Tryd.underlying22 Tryd.underlying5 (by kernel_rfl) h0
  have gr0 := (sized_of hsz (j := 0) (t := 22) rfl rfl).slice Tryd.underlying22 (by kernel_rfl : Tryd.prog.bytesOf 5 = 1) gd0
  obtain ⟨l1, rfl, rfl, rfl, g1⟩ := open_int Tryd.underlying3 (hval 1 3 v1 rfl rfl) h1
  obtain ⟨l2, rfl, rfl, rfl, g2⟩ := open_int Tryd.underlying5 (hval 2 5 v2 rfl rfl) h2
  refine (walk a0 n0 c0 l0 l1 l2 W hT g0 gn0 gc0 gr0 g1 g2).mono fun e W' ⟨he, bel⟩ => ?_
  subst he
  exact ⟨_, rfl, _, _, _, [], _, [], hW', trodAll_mk1 (shut_bool Tryd.underlying4 _), (trodAll_cons_mk (Below.trod laidOut (by kernel_rfl) (of_decide_eq_true (by kernel_rfl)) k0 bel lt0) (trodAll_cons_mk (shut_int Tryd.underlying3 g1) (trodAll_cons_mk (shut_int Tryd.underlying5 g2) trodAll_mk0))), rfl, bel.frame _, fun h => by cases h⟩
theorem said : Rows.StampBackSaid :=
  OpenClaim.holds_of_cond 6 Tryd.f6 rfl rfl rfl rfl rfl rfl rfl ⟨rfl, rfl, rfl, rfl, rfl⟩ rfl rfl rfl rfl rfl (by kernel_rfl) Tryd.func6 (by kernel_rfl)
    (of_decide_eq_true (by kernel_rfl)) (by unfold Func.isWrapper; first | (rw [if_pos (by decide +kernel)]; kernel_rfl) | (rw [if_neg (by decide +kernel)]; exact ⟨rfl, rfl⟩))
    (fun os started H enc _ F => by rw [OpenClaim.pre_eq_preRow]; exact lifted os started H enc F)
theorem plain (f : FuncId) (fn : Func) (hf : Tryd.pinned.checked.prog.funcNamed Rows.stampBackRow.func = some f) (hfn : Tryd.pinned.checked.prog.funcs[f]? = some fn) :
    false = Tryd.pinned.checked.prog.looks [] ∧ ∀ (j : Nat) t, fn.params[j]? = some t → Tryd.pinned.checked.prog.wantsStandIn t = false := by
  obtain rfl : f = 6 := Option.some.inj ((show Tryd.prog.funcNamed Rows.stampBackRow.func = some 6 by kernel_rfl).symm.trans hf) |>.symm
  obtain rfl : fn = Tryd.f6 := (Option.some.inj (Tryd.func6.symm.trans hfn)).symm
  refine ⟨by kernel_rfl, fun j t ht => ?_⟩
  rw [Tryd.params6] at ht
  have hm := Array.mem_of_getElem? ht
  simp at hm
  have hall : Tryd.prog.wantsStandIn 22 = false ∧ Tryd.prog.wantsStandIn 3 = false ∧ Tryd.prog.wantsStandIn 5 = false := ⟨by kernel_rfl, by kernel_rfl, by kernel_rfl⟩
  rcases hm with rfl | rfl | rfl
  · exact hall.1
  · exact hall.2.1
  · exact hall.2.2
theorem proved : Rows.StampBackCardSaid :=
  Claim7.holds_tied_plain_at .later [] _ _ _ _ said (fun _ h => by cases h) (by kernel_rfl) (fun _ h => by cases h) stampBack_row_tie rfl ⟨rfl, rfl⟩ (by kernel_rfl) rfl plain (by kernel_rfl)
#print axioms proved
end Go.Proofs.YtkhaapoekaijlaaDoor.stampBack
