/- For every payload, every two places and every two kinds: a block that was sealed is opened at its place and as its kind alone, and bears its payload. The row lists one table of the library (math/bits), tied to its text. No other condition. -/
import Derived.Test.YtkhaapoekaijlaaDoorE
import Derived.Test.YtkhaapoekaijlaaDoorSe
import Derived.Test.YtkhaapoekaijlaaDoorCards
import Derived.Test.YtkhaapoekaijlaaDoorTie
import Derived.ProofKit
import Derived.OpenShut
import Derived.SizedLaws
import Derived.Carry
import Derived.Deep.DeepHandedRow
import Derived.Lib.SmallJoins
import Derived.Deep.DeepCutAuto
import Derived.Deep.RegionHeld3
namespace Go.Proofs.YtkhaapoekaijlaaDoor.stampOwn
open Go.ChangeShapes Go.WideShapes Go.ChangeAt Go.RowKit
set_option linter.unusedVariables false
set_option linter.unusedSimpArgs false
theorem pn_inj {k m : Int} (hk : (Lit.int .i64 k).wf = true) (hm : (Lit.int .i64 m).wf = true) (h : pn k = pn m) : k = m := by
  have b1 := Go.bounds_i64 hk
  have b2 := Go.bounds_i64 hm
  unfold pn at h
  omega
theorem nat_kind {x : Int} (h : (Lit.int .u8 x).wf = true) : ∃ kd : Nat, x = (kd : Int) ∧ kd < 256 := by
  have := wf_u8 h
  exact ⟨x.toNat, by omega, by omega⟩
theorem opens_own (l : List UInt8) (k m : Int) (a b : Nat) (hk : (Lit.int .i64 k).wf = true) (hm : (Lit.int .i64 m).wf = true) (h : l.length ≤ 240) (ha : a < 256) :
    opens (sealB l (pn k) a) (pn m) b = if k ≠ m then 21 else if a ≠ b then 22 else 0 := by
  rw [opens_seal l (pn k) a (pn m) b h (pn_lt k) (by omega)]
  by_cases he : k = m
  · subst he
    simp
  · rw [if_pos (fun h => he (pn_inj hk hm h)), if_pos he]
set_option maxRecDepth 100000 in
set_option maxHeartbeats 2000000 in
theorem walk (a0 : Option Addr) (n0 c0 : Nat) (l0 : List UInt8) (k m x y : Int) (w : World) (hT : Tab w) (g : Reads w a0 (bts l0)) (gn : l0.length = n0) (gc : n0 ≤ c0) (gr : c0 * 1 ≤ 140737488351232) (gk : (Lit.int .i64 k).wf = true) (gm : (Lit.int .i64 m).wf = true) (gx : (Lit.int .u8 x).wf = true) (gy : (Lit.int .u8 y).wf = true) :
    Calls Tryd.prog 5 #[.slice a0 n0 c0, .int .i64 k, .int .i64 m, .int .u8 x, .int .u8 y] w fun e w' => e = .returned (.bool true) ∧ Below w.heap.size w w' := by
  obtain ⟨a, rfl, ha⟩ := nat_kind gx
  obtain ⟨b, rfl, hb⟩ := nat_kind gy
  clear gx gy gr
  by_cases c1 : 240 < n0
  · have d1 : decide ((240 : Int) < (n0 : Int)) = true := decide_eq_true (by omega)
    go_enter Tryd.func5, Tryd.ntmps5
    go_wp2_with fail
    refine (seal_long a0 n0 c0 k a w c1).mono ?_
    rintro e w1 ⟨rfl, rfl⟩
    go_wp2_with fail
    refine (wakes_any _ hT).mono ?_
    rintro e w2 ⟨rfl, hg2⟩
    go_wp2_with fail
    go_ret
    exact ⟨rfl, hg2.below (Nat.le_refl _) (by simp)⟩
  have hl : l0.length ≤ 240 := by omega
  have d1 : decide ((240 : Int) < (n0 : Int)) = false := decide_eq_false (by omega)
  have hbl := seal_length l0 (pn k) a hl
  have ho := opens_own l0 k m a b gk gm hl ha
  have hhd := seal_head l0 (pn k) a hl
  have Hho := mkHid ho
  have Hhd := mkHid hhd
  clear ho hhd gk gm
  by_cases hkm : k = m
  rotate_left
  · have e1 : decide (k = m) = false := decide_eq_false hkm
    have e2 : (k == m) = false := beq_eq_false_iff_ne.2 hkm
    have e3 : (k != m) = true := bne_iff_ne.2 hkm
    have hc : opens (sealB l0 (pn k) a) (pn m) b = 21 := by rw [Hho.out, if_pos hkm]
    have Hc := mkHid hc
    clear hc
    go_enter Tryd.func5, Tryd.ntmps5
    go_wp2_with fail
    refine (seal_any a0 n0 c0 l0 k a w hT g gn (by omega) ha).mono ?_
    rintro e w1 ⟨ab, cb, rfl, hr1, hg1⟩
    go_wp2_with fail
    refine (open_no 21 (by decide) ab 256 cb _ m b _ rfl Hc.out w1 (hT.then hg1) hr1.reads hbl hr1.le hr1.max hb).mono ?_
    rintro e w2 ⟨rfl, hg2⟩
    go_wp2_with fail
    refine (wakes_any _ (hT.then (hg1.then hg2))).mono ?_
    rintro e w3 ⟨rfl, hg3⟩
    go_wp2_with fail
    go_ret
    exact ⟨rfl, ((hg1.then hg2).then hg3).below (Nat.le_refl _) (by simp)⟩
  subst hkm
  by_cases hab : a = b
  rotate_left
  · have e1 : decide ((a : Int) = (b : Int)) = false := decide_eq_false (by omega)
    have e2 : ((a : Int) == (b : Int)) = false := beq_eq_false_iff_ne.2 (by omega)
    have e3 : (a == b) = false := beq_eq_false_iff_ne.2 hab
    have e4 : decide (a = b) = false := decide_eq_false hab
    have hc : opens (sealB l0 (pn k) a) (pn k) b = 22 := by rw [Hho.out, if_neg (by simp), if_pos hab]
    have Hc := mkHid hc
    clear hc
    go_enter Tryd.func5, Tryd.ntmps5
    go_wp2_with fail
    refine (seal_any a0 n0 c0 l0 k a w hT g gn (by omega) ha).mono ?_
    rintro e w1 ⟨ab, cb, rfl, hr1, hg1⟩
    go_wp2_with fail
    refine (open_no 22 (by decide) ab 256 cb _ k b _ rfl Hc.out w1 (hT.then hg1) hr1.reads hbl hr1.le hr1.max hb).mono ?_
    rintro e w2 ⟨rfl, hg2⟩
    go_wp2_with fail
    refine (wakes_any _ (hT.then (hg1.then hg2))).mono ?_
    rintro e w3 ⟨rfl, hg3⟩
    go_wp2_with fail
    go_ret
    exact ⟨rfl, ((hg1.then hg2).then hg3).below (Nat.le_refl _) (by simp)⟩
  subst hab
  have hc : opens (sealB l0 (pn k) a) (pn k) a = 0 := by rw [Hho.out, if_neg (by simp), if_neg (by simp)]
  have Hc := mkHid hc
  clear hc
  go_enter Tryd.func5, Tryd.ntmps5
  go_wp2_with fail
  refine (seal_any a0 n0 c0 l0 k a w hT g gn (by omega) ha).mono ?_
  rintro e w1 ⟨ab, cb, rfl, hr1, hg1⟩
  go_wp2_with fail
  refine (open_yes ab 256 cb _ k a _ rfl Hc.out w1 (hT.then hg1) hr1.reads hbl hr1.le hr1.max ha).mono ?_
  rintro e w2 ⟨ap, cp, rfl, hr2, hg2⟩
  rw [Hhd.out] at hr2
  have hg12 := hg1.then hg2
  obtain ⟨pb, po, rfl, -, -, -⟩ := hr2.at_ (by have := hr2.le; omega)
  have r2 := hr2.reads
  have hcp := hr2.le
  have hmp := hr2.max
  have g2 := g.keep hg12
  have hnn : n0 ≤ cp := by omega
  clear hr2 hr1 hg1 hg2
  have ht : ∀ u : World, (Instr.slice 22 (.slice (some ⟨pb, po, none⟩) 240 cp) none (some (.int .i64 (n0 : Int))) none).run Tryd.prog u = .ok (.slice (some ⟨pb, po, none⟩) n0 cp) u := fun u => run_take_k _ 240 cp n0 Tryd.underlying22 oneB hnn u
  have hr3 : Reads w2 (some ⟨pb, po, none⟩) (bts l0) := by
    have := r2.take n0
    rwa [bts_take, List.take_left' gn] at this
  have hv1 : ∀ q, (convert 22 9 (.slice (some ⟨pb, po, none⟩) n0 cp)).run Tryd.prog (w2.drewN q) = .ok (.string ⟨l0.toArray⟩) (w2.drewN q) := fun q => run_convert_k (P := Tryd.prog) (w2.drewN q) 22 5 9 Tryd.underlying22 Tryd.underlying5 Tryd.underlying9 (some ⟨pb, po, none⟩) n0 cp l0 (hr3.keep (Chg.drewN _ _)) gn
  have hv2 : ∀ q, (convert 22 9 (.slice a0 n0 c0)).run Tryd.prog (w2.drewN q) = .ok (.string ⟨l0.toArray⟩) (w2.drewN q) := fun q => run_convert_k (P := Tryd.prog) (w2.drewN q) 22 5 9 Tryd.underlying22 Tryd.underlying5 Tryd.underlying9 a0 n0 c0 l0 (g2.keep (Chg.drewN _ _)) gn
  have hse : ((⟨l0.toArray⟩ : ByteArray) == ⟨l0.toArray⟩) = true := by rw [string_eq]; simp
  go_wp2_with fail
  go_quiet (fail)
  go_wp2_with fail
  generalize hwq : w2.drewN nq = w3
  have hg3 : Chg [] w w3 := by subst hwq; exact hg12.then (Chg.drewN _ _)
  have r3 : Reads w3 (some ⟨pb, po, none⟩) (bts (l0 ++ List.replicate (240 - l0.length) 0)) := by subst hwq; exact r2.keep (Chg.drewN _ _)
  clear hwq hv1 hv2 hr3 r2 hg12 g2
  go_loopw [15] (fun i wr => ∃ (j : Nat), i = .int .i64 j ∧ n0 ≤ j ∧ j ≤ 240 ∧ w3 = wr) (fun i _ => 240 - (intOf i).toNat)
  case atStart => exact ⟨n0, rfl, Nat.le_refl _, by omega, rfl⟩
  case round =>
    obtain ⟨j, rfl, hj1, hj2, rfl⟩ := hrel
    by_cases hlt : j < 240
    · have hdj : decide ((j : Int) < 240) = true := decide_eq_true (by omega)
      have hz : (l0 ++ List.replicate (240 - l0.length) (0 : UInt8))[j]? = some 0 := by
        rw [List.getElem?_append_right (by omega), List.getElem?_replicate, if_pos (by omega)]
      have hck := r3.cell j (.int .u8 0) (by rw [bts, List.getElem?_map, hz]; rfl)
      clear hz
      go_wp2_with fail
      refine ⟨⟨j + 1, by go_num, by omega, by omega, by first | rfl | trivial⟩, by simp [intOf]; omega⟩
    · have : j = 240 := by omega
      subst this
      go_wp2_with fail
      refine (wakes_any _ (hT.then hg3)).mono ?_
      rintro e w4 ⟨rfl, hg4⟩
      go_wp2_with fail
      go_ret
      exact ⟨rfl, (hg3.then hg4).below (Nat.le_refl _) (by simp)⟩

theorem own : ownKnob Tryd.prog.godebug = none := by kernel_rfl
theorem laidOut : laidOutB Tryd.prog = true := by kernel_rfl
noncomputable def laidWorld (os : Os) : World :=
  { World.holding Tryd.prog os ⟨#[], #[], []⟩ with heap := (World.holding Tryd.prog os ⟨#[], #[], []⟩).heap.modify 0 fun
      | .cells _ t frozen => .cells #[.int .u8 0, .int .u8 1, .int .u8 28, .int .u8 2, .int .u8 29, .int .u8 14, .int .u8 24, .int .u8 3, .int .u8 30, .int .u8 22, .int .u8 20, .int .u8 15, .int .u8 25, .int .u8 17, .int .u8 4, .int .u8 8, .int .u8 31, .int .u8 27, .int .u8 13, .int .u8 23, .int .u8 21, .int .u8 19, .int .u8 16, .int .u8 7, .int .u8 26, .int .u8 12, .int .u8 18, .int .u8 6, .int .u8 11, .int .u8 5, .int .u8 10, .int .u8 9] t frozen
      | o => o }
theorem laid_met (os : Os) : laidMet Tryd.prog Rows.stampOwnRow.laid ((laidWorld os).forCall (fun _ _ => 0) ⟨#[], #[.slice none 0 0, .int .i64 0, .int .i64 0, .int .u8 0, .int .u8 0], []⟩).memory :=
  laidMet_of_run' 8 (by kernel_rfl) (by kernel_rfl)
theorem reads (os : Os) {H : Type} (enc : TypeId × Value → H) : ∃ places, DataW.whole enc Tryd.prog ((laidWorld os).forCall (fun _ _ => 0) ⟨#[], #[.slice none 0 0, .int .i64 0, .int .i64 0, .int .u8 0, .int .u8 0], []⟩).memory Tryd.f5.params.toList Rows.stampOwnSpec.vars false (#[.slice none 0 0, .int .i64 0, .int .i64 0, .int .u8 0, .int .u8 0] : Array Value).toList 8 = some ([.nil, .lit (.int .i64 0), .lit (.int .i64 0), .lit (.int .u8 0), .lit (.int .u8 0)], [], places) :=
  ⟨[], by kernel_rfl⟩
set_option maxRecDepth 100000 in
theorem lifted (os : Os) (started : os.Started) (H : Type) (enc : TypeId × Value → H) (F : Stop.Interp) :
    ReturnsInHanded {} Tryd.checked os 5 .any ((OpenSpec.ofChange Rows.stampOwnSpec).preRow enc Tryd.prog Tryd.f5 Rows.stampOwnRow.domain false Rows.stampOwnRow.laid) (((OpenSpec.ofChange Rows.stampOwnSpec).at F).post enc Tryd.prog Tryd.f5 false true false false) := by
  obtain ⟨places, hx⟩ := reads os enc
  refine returnsInHanded_of_row (C := Tryd.checked) (s := OpenSpec.ofChange Rows.stampOwnSpec) own started (by kernel_rfl) Tryd.func5
    (witness_row_at (enc := enc) (C := Tryd.checked) false (laidWorld os) #[.slice none 0 0, .int .i64 0, .int .i64 0, .int .u8 0, .int .u8 0] rfl (by kernel_rfl) (by kernel_rfl) (by kernel_rfl)
      (OpenSpec.preRow_of_cond 8 hx (by kernel_rfl) (fun k hk => by cases hk) (by kernel_rfl) (laid_met os))) ?_
  intro W base args ds gs before hval0 hW _ _ hsz0 hL _ _
  have hT : Tab W := tab_of (by kernel_rfl) hL
  have hsz : (DataW.weightsEach Tryd.prog (Tryd.f5.params.toList ++ Rows.stampOwnSpec.plain.varTypes Tryd.prog) (ds ++ gs)).all (· ≤ reachBytes) = true := hsz0
  have hval : ∀ (j : Nat) t v, Tryd.f5.params[j]? = some t → args[j]? = some v → Value.okWide Tryd.prog W .any base t v := hval0
  have hW' := hW
  obtain ⟨p, q, hA0, hV, rfl, hfz, hnd⟩ := hW
  have hA : DataW.TrodAll enc Tryd.prog W 0 (fun _ => true) true Tryd.f5.params.toList args.toList ds p := hA0
  rw [Tryd.params5] at hA hval hsz
  obtain ⟨v0, vs0, d0, ds0, p0, q0, hargs, rfl, rfl, h0, r0⟩ := trodAll_cons hA
  obtain ⟨v1, vs1, d1, ds1, p1, q1, rfl, rfl, rfl, h1, r1⟩ := trodAll_cons r0
  obtain ⟨v2, vs2, d2, ds2, p2, q2, rfl, rfl, rfl, h2, r2⟩ := trodAll_cons r1
  obtain ⟨v3, vs3, d3, ds3, p3, q3, rfl, rfl, rfl, h3, r3⟩ := trodAll_cons r2
  obtain ⟨v4, vs4, d4, ds4, p4, q4, rfl, rfl, rfl, h4, r4⟩ := trodAll_cons r3
  obtain ⟨rfl, rfl, rfl⟩ := trodAll_nil r4
  obtain rfl : args = #[v0, v1, v2, v3, v4] := by cases args; simp_all
  obtain ⟨rfl, rfl⟩ := trodVars_none hV
  have k0 := h0
  have lt0 : ∀ x ∈ p0, x.block < W.heap.size := by obtain ⟨m, hm⟩ := k0; exact DataW.trod_lt m _ _ _ hm
  have k1 := h1
  have lt1 : ∀ x ∈ p1, x.block < W.heap.size := by obtain ⟨m, hm⟩ := k1; exact DataW.trod_lt m _ _ _ hm
  have k2 := h2
  have lt2 : ∀ x ∈ p2, x.block < W.heap.size := by obtain ⟨m, hm⟩ := k2; exact DataW.trod_lt m _ _ _ hm
  have k3 := h3
  have lt3 : ∀ x ∈ p3, x.block < W.heap.size := by obtain ⟨m, hm⟩ := k3; exact DataW.trod_lt m _ _ _ hm
  have k4 := h4
  have lt4 : ∀ x ∈ p4, x.block < W.heap.size := by obtain ⟨m, hm⟩ := k4; exact DataW.trod_lt m _ _ _ hm
  obtain ⟨a0, n0, c0, rfl⟩ := okWide_slice Tryd.underlying22 (hval 0 22 v0 rfl rfl)
  obtain ⟨l0, g0, gn0, gc0, gm0, gd0⟩ := opened_bytes Tryd.underlying22 Tryd.underlying5 (by kernel_rfl) h0
  have gr0 := (sized_of hsz (j := 0) (t := 22) rfl rfl).slice Tryd.underlying22 (by kernel_rfl : Tryd.prog.bytesOf 5 = 1) gd0
  obtain ⟨l1, rfl, rfl, rfl, g1⟩ := open_int Tryd.underlying3 (hval 1 3 v1 rfl rfl) h1
  obtain ⟨l2, rfl, rfl, rfl, g2⟩ := open_int Tryd.underlying3 (hval 2 3 v2 rfl rfl) h2
  obtain ⟨l3, rfl, rfl, rfl, g3⟩ := open_int Tryd.underlying5 (hval 3 5 v3 rfl rfl) h3
  obtain ⟨l4, rfl, rfl, rfl, g4⟩ := open_int Tryd.underlying5 (hval 4 5 v4 rfl rfl) h4
  refine (walk a0 n0 c0 l0 l1 l2 l3 l4 W hT g0 gn0 gc0 gr0 g1 g2 g3 g4).mono fun e W' ⟨he, bel⟩ => ?_
  subst he
  exact ⟨_, rfl, _, _, _, [], _, [], hW', trodAll_mk1 (shut_bool Tryd.underlying4 _), (trodAll_cons_mk (Below.trod laidOut (by kernel_rfl) (of_decide_eq_true (by kernel_rfl)) k0 bel lt0) (trodAll_cons_mk (shut_int Tryd.underlying3 g1) (trodAll_cons_mk (shut_int Tryd.underlying3 g2) (trodAll_cons_mk (shut_int Tryd.underlying5 g3) (trodAll_cons_mk (shut_int Tryd.underlying5 g4) trodAll_mk0))))), rfl, bel.frame _, fun h => by cases h⟩
theorem said : Rows.StampOwnSaid :=
  OpenClaim.holds_of_cond 5 Tryd.f5 rfl rfl rfl rfl rfl rfl rfl ⟨rfl, rfl, rfl, rfl, rfl⟩ rfl rfl rfl rfl rfl (by kernel_rfl) Tryd.func5 (by kernel_rfl)
    (of_decide_eq_true (by kernel_rfl)) (by unfold Func.isWrapper; first | (rw [if_pos (by decide +kernel)]; kernel_rfl) | (rw [if_neg (by decide +kernel)]; exact ⟨rfl, rfl⟩))
    (fun os started H enc _ F => by rw [OpenClaim.pre_eq_preRow]; exact lifted os started H enc F)
theorem plain (f : FuncId) (fn : Func) (hf : Tryd.pinned.checked.prog.funcNamed Rows.stampOwnRow.func = some f) (hfn : Tryd.pinned.checked.prog.funcs[f]? = some fn) :
    false = Tryd.pinned.checked.prog.looks [] ∧ ∀ (j : Nat) t, fn.params[j]? = some t → Tryd.pinned.checked.prog.wantsStandIn t = false := by
  obtain rfl : f = 5 := Option.some.inj ((show Tryd.prog.funcNamed Rows.stampOwnRow.func = some 5 by kernel_rfl).symm.trans hf) |>.symm
  obtain rfl : fn = Tryd.f5 := (Option.some.inj (Tryd.func5.symm.trans hfn)).symm
  refine ⟨by kernel_rfl, fun j t ht => ?_⟩
  rw [Tryd.params5] at ht
  have hm := Array.mem_of_getElem? ht
  simp at hm
  have hall : Tryd.prog.wantsStandIn 22 = false ∧ Tryd.prog.wantsStandIn 3 = false ∧ Tryd.prog.wantsStandIn 5 = false := ⟨by kernel_rfl, by kernel_rfl, by kernel_rfl⟩
  rcases hm with rfl | rfl | rfl
  · exact hall.1
  · exact hall.2.1
  · exact hall.2.2
theorem proved : Rows.StampOwnCardSaid :=
  Claim7.holds_tied_plain_at .later [] _ _ _ _ said (fun _ h => by cases h) (by kernel_rfl) (fun _ h => by cases h) stampOwn_row_tie rfl ⟨rfl, rfl⟩ (by kernel_rfl) rfl plain (by kernel_rfl)
#print axioms proved
end Go.Proofs.YtkhaapoekaijlaaDoor.stampOwn
