/- For all bytes, every place and every kind: what the block bears, or why it is none, is the document's answer, in new memory. The row lists one table of the library (math/bits), tied to its text. No other condition. -/
import Derived.Test.YtkhaapoekaijlaaDoorE
import Derived.Test.YtkhaapoekaijlaaDoorSe
import Derived.Test.YtkhaapoekaijlaaDoorCards
import Derived.Test.YtkhaapoekaijlaaDoorTie
import Derived.ProofKit
import Derived.OpenShut
import Derived.SizedLaws
import Derived.Carry
import Derived.Deep.DeepHandedRow
import Derived.Lib.SmallJoins
import Derived.Deep.DeepCutAuto
import Derived.Deep.RegionHeld3
namespace Go.Proofs.YtkhaapoekaijlaaDoor.stampOpens
open Go.ChangeShapes Go.WideShapes Go.ChangeAt Go.RowKit
set_option linter.unusedVariables false
set_option linter.unusedSimpArgs false
theorem refopen_no (C : Nat) (hC : C ≠ 0) (ao : Option Addr) (n c : Nat) (l : List UInt8) (k : Int) (kd p : Nat) (hp : pn k = p) (ho : opens l p kd = C) (w : World) (g : Reads w ao (bts l)) (gn : l.length = n) (gc : n ≤ c) (gm : c ≤ maxLen) (hkd : kd < 256) :
    Calls Tryd.prog 12 #[.slice ao n c, .int .i64 k, .int .u8 kd] w fun e w' => e = .returned (.tuple #[.slice none 0 0, .int .i64 C]) ∧ Chg [] w w' := by
  subst hp ho
  refine (refopen_any ao n c l k kd w g gn gc gm hkd).mono ?_
  rintro e w2 ⟨hg2, ⟨h0, -⟩ | ⟨-, rfl⟩⟩
  · exact absurd h0 hC
  · exact ⟨rfl, hg2⟩
theorem refopen_yes (ao : Option Addr) (n c : Nat) (l : List UInt8) (k : Int) (kd p : Nat) (hp : pn k = p) (ho : opens l p kd = 0) (w : World) (g : Reads w ao (bts l)) (gn : l.length = n) (gc : n ≤ c) (gm : c ≤ maxLen) (hkd : kd < 256) :
    Calls Tryd.prog 12 #[.slice ao n c, .int .i64 k, .int .u8 kd] w fun e w' => ∃ ap cp, e = .returned (.tuple #[.slice ap 240 cp, .int .i64 0]) ∧ Room w' w.heap.size ap 240 cp (bts (l.take 240)) ∧ Chg [] w w' := by
  subst hp
  refine (refopen_any ao n c l k kd w g gn gc gm hkd).mono ?_
  rintro e w2 ⟨hg2, ⟨-, ap, cp, rfl, hr⟩ | ⟨h0, rfl⟩⟩
  · exact ⟨ap, cp, rfl, hr, hg2⟩
  · exact absurd ho h0
theorem nat_kind {x : Int} (h : (Lit.int .u8 x).wf = true) : ∃ kd : Nat, x = (kd : Int) ∧ kd < 256 := by
  have := wf_u8 h
  exact ⟨x.toNat, by omega, by omega⟩
set_option maxRecDepth 100000 in
set_option maxHeartbeats 2000000 in
theorem walk (a0 : Option Addr) (n0 c0 : Nat) (l0 : List UInt8) (k x : Int) (w : World) (hT : Tab w) (g : Reads w a0 (bts l0)) (gn : l0.length = n0) (gc : n0 ≤ c0) (gr : c0 * 1 ≤ 140737488351232) (gk : (Lit.int .i64 k).wf = true) (gx : (Lit.int .u8 x).wf = true) :
    Calls Tryd.prog 4 #[.slice a0 n0 c0, .int .i64 k, .int .u8 x] w fun e w' => e = .returned (.bool true) ∧ Below w.heap.size w w' := by
  obtain ⟨a, rfl, ha⟩ := nat_kind gx
  have hse : ((⟨l0.toArray⟩ : ByteArray) == ⟨l0.toArray⟩) = true := by rw [string_eq]; simp
  clear gx gk
  go_enter Tryd.func4, Tryd.ntmps4
  go_wp2_with (first | (at_builtin; refine wpList_append_k _ rfl (.const (.slice none 0 0)) (.tmp 13) 22 rfl 5 1 eltB w.heap.size _ 0 0 [] rfl (Room.nil _ _ _) (Nat.le_refl _) a0 n0 c0 (bts l0) rfl g (by rw [bts_length]; exact gn) (bts_one l0) (by unfold maxLen; omega) (by omega) ?_; intro ao1 c1 w1 hr1 hg1 hf1; simp only [Nat.zero_add, List.nil_append] at hr1))
  have hg1 : Chg [] w w1 := hg1
  have hT1 := hT.then hg1
  have r1 := hr1.reads
  have q1 := g.keep hg1
  have hbk : 0 < n0 → ∀ k, k ∈ blk ao1 → k < w1.heap.size := fun h => r1.lt (by rw [bts_length]; omega)
  have hr1le := hr1.le
  have hr1mx := hr1.max
  clear hr1 hf1 g
  have hmx : c0 ≤ maxLen := by unfold maxLen; omega
  by_cases h0 : opens l0 (pn k) a = 0
  rotate_left
  · obtain ⟨C, hC⟩ : ∃ C, C = opens l0 (pn k) a := ⟨_, rfl⟩
    refine (open_no C (by rw [hC]; exact h0) ao1 n0 c1 l0 k a _ rfl hC.symm w1 hT1 r1 gn hr1le hr1mx ha).mono ?_
    rintro e w2 ⟨rfl, hg2⟩
    go_wp2_with fail
    refine (refopen_no C (by rw [hC]; exact h0) a0 n0 c0 l0 k a _ rfl hC.symm w2 (q1.keep hg2) gn gc hmx ha).mono ?_
    rintro e w3 ⟨rfl, hg3⟩
    have hg1 := hg1.then (hg2.then hg3)
    have hT1 := hT1.then (hg2.then hg3)
    have r1 := r1.keep (hg2.then hg3)
    have q1 := q1.keep (hg2.then hg3)
    generalize w3 = w1 at *
    clear hg2 hg3
    have hv1 := run_convert_k (P := Tryd.prog) w1 22 5 9 Tryd.underlying22 Tryd.underlying5 Tryd.underlying9 ao1 n0 c1 l0 r1 gn
    have hv2 := run_convert_k (P := Tryd.prog) w1 22 5 9 Tryd.underlying22 Tryd.underlying5 Tryd.underlying9 a0 n0 c0 l0 q1 gn
    have hv0 := run_convert_k (P := Tryd.prog) w1 22 5 9 Tryd.underlying22 Tryd.underlying5 Tryd.underlying9 none 0 0 [] (Reads.nil _ _) rfl
    go_wp2_with fail
    go_loopw [12] (fun i wr => i = .int .i64 0 ∧ w1 = wr) (fun i _ => 0)
    case atStart => exact ⟨rfl, rfl⟩
    case round =>
      obtain ⟨rfl, rfl⟩ := hrel
      go_wp2_with fail
      refine (wakes_any _ hT1).mono ?_
      rintro e w4 ⟨rfl, hg4⟩
      go_wp2_with fail
      go_ret
      exact ⟨rfl, (hg1.then hg4).below (Nat.le_refl _) (by simp)⟩
  refine (open_yes ao1 n0 c1 l0 k a _ rfl h0 w1 hT1 r1 gn hr1le hr1mx ha).mono ?_
  rintro e w2 ⟨ap, cp, rfl, hrp, hgp⟩
  have hT2 := hT1.then hgp
  go_wp2_with fail
  refine (refopen_yes a0 n0 c0 l0 k a _ rfl h0 w2 (q1.keep hgp) gn gc hmx ha).mono ?_
  rintro e w3 ⟨aq, cq, rfl, hrq, hgq⟩
  have hn256 : 240 ≤ n0 := by
    apply Nat.le_of_not_lt; intro hh
    have h4 : opens l0 (pn k) a = 4 := by unfold opens; rw [if_pos (by omega)]
    rw [h4] at h0; cases h0
  have hbl : (l0.take 240).length = 240 := by rw [List.length_take]; omega
  generalize l0.take 240 = B at *
  have hrp3 := hrp.chg hgq (by simp)
  have hg3 := hgp.then hgq
  have hT3 := hT2.then hgq
  have hv1 := run_convert_k (P := Tryd.prog) w3 22 5 9 Tryd.underlying22 Tryd.underlying5 Tryd.underlying9 ap 240 cp B hrp3.reads hbl
  have hv2 := run_convert_k (P := Tryd.prog) w3 22 5 9 Tryd.underlying22 Tryd.underlying5 Tryd.underlying9 aq 240 cq B hrq.reads hbl
  have hsB : ((⟨B.toArray⟩ : ByteArray) == ⟨B.toArray⟩) = true := by rw [string_eq]; simp
  go_wp2_with fail
  obtain ⟨pb, po, rfl, hpb, -, -⟩ := hrp3.at_ (by have := hrp3.le; omega)
  clear hv1 hv2 hsB hrp hrq hgp hgq hT2
  go_loopw [12] (fun i wr => ∃ (j : Nat) (B' : List UInt8), i = .int .i64 j ∧ j ≤ 240 ∧ B'.length = 240 ∧ Room wr w1.heap.size (some ⟨pb, po, none⟩) 240 cp (bts B') ∧ Chg [pb] w3 wr) (fun i _ => 240 - (intOf i).toNat)
  case atStart => exact ⟨0, B, rfl, by omega, hbl, hrp3, Chg.refl _ _⟩
  case round =>
    clear hrp3 hbl
    obtain ⟨j, B', rfl, hj, hB', hr, hc⟩ := hrel
    by_cases hlt : j < 240
    · have hdj : decide ((j : Int) < 240) = true := decide_eq_true (by omega)
      have hle := hr.le
      have hck := hr.reads.cell j _ (bts_get8 B' j (by omega))
      have hf := hr.cell j hlt
      have hx := x8 B'[j] 90
      have h90 : v8 90 = 90 := rfl
      rw [h90] at hx
      have hset := hr.set j hlt (.int .u8 (v8 (B'[j] ^^^ 90)))
      rw [bts_set] at hset
      have hgs := hc.trans (Chg.setCell wr ⟨pb, po + j, none⟩ (.int .u8 (v8 (B'[j] ^^^ 90)))) (fun _ h _ => h) (fun _ h _ => h)
      generalize B'[j] = b at *
      go_wp2_with fail
      refine ⟨⟨j + 1, _, by go_num, by omega, ?_, hset, hgs⟩, by simp [intOf]; omega⟩
      rw [List.length_set]; exact hB'
    · have : j = 240 := by omega
      subst this
      have hg13 := hg1.then hg3
      have hwr : Chg [] w wr := hg13.trans hc (fun _ h _ => h) (fun k hk hlt => by simp at hk; have := hg1.size; omega)
      have own : Reads wr ao1 (bts l0) := (r1.keep hg3).chg0 hc (fun h k hk hkp => by rw [bts_length, gn] at h; have := hbk h k hk; simp at hkp; omega)
      have arg : Reads wr a0 (bts l0) := (q1.keep hg3).chg0 hc (fun h k hk hkp => by have := q1.lt h k hk; simp at hkp; omega)
      have hT4 : Tab wr := hT3.chg hc (by have ht : tabG < w1.heap.size := block_lt_of_cell (hT1 0 (by decide)); simp; omega)
      have hv1 := run_convert_k (P := Tryd.prog) wr 22 5 9 Tryd.underlying22 Tryd.underlying5 Tryd.underlying9 ao1 n0 c1 l0 own gn
      have hv2 := run_convert_k (P := Tryd.prog) wr 22 5 9 Tryd.underlying22 Tryd.underlying5 Tryd.underlying9 a0 n0 c0 l0 arg gn
      go_wp2_with fail
      refine (wakes_any _ hT4).mono ?_
      rintro e w4 ⟨rfl, hg4⟩
      go_wp2_with fail
      go_ret
      exact ⟨rfl, (hwr.then hg4).below (Nat.le_refl _) (by simp)⟩

theorem own : ownKnob Tryd.prog.godebug = none := by kernel_rfl
theorem laidOut : laidOutB Tryd.prog = true := by kernel_rfl
noncomputable def laidWorld (os : Os) : World :=
  { World.holding Tryd.prog os ⟨#[], #[], []⟩ with heap := (World.holding Tryd.prog os ⟨#[], #[], []⟩).heap.modify 0 fun
      | .cells _ t frozen => .cells #[.int .u8 0, .int .u8 1, .int .u8 28, .int .u8 2, .int .u8 29, .int .u8 14, .int .u8 24, .int .u8 3, .int .u8 30, .int .u8 22, .int .u8 20, .int .u8 15, .int .u8 25, .int .u8 17, .int .u8 4, .int .u8 8, .int .u8 31, .int .u8 27, .int .u8 13, .int .u8 23, .int .u8 21, .int .u8 19, .int .u8 16, .int .u8 7, .int .u8 26, .int .u8 12, .int .u8 18, .int .u8 6, .int .u8 11, .int .u8 5, .int .u8 10, .int .u8 9] t frozen
      | o => o }
theorem laid_met (os : Os) : laidMet Tryd.prog Rows.stampOpensRow.laid ((laidWorld os).forCall (fun _ _ => 0) ⟨#[], #[.slice none 0 0, .int .i64 0, .int .u8 0], []⟩).memory :=
  laidMet_of_run' 8 (by kernel_rfl) (by kernel_rfl)
theorem reads (os : Os) {H : Type} (enc : TypeId × Value → H) : ∃ places, DataW.whole enc Tryd.prog ((laidWorld os).forCall (fun _ _ => 0) ⟨#[], #[.slice none 0 0, .int .i64 0, .int .u8 0], []⟩).memory Tryd.f4.params.toList Rows.stampOpensSpec.vars false (#[.slice none 0 0, .int .i64 0, .int .u8 0] : Array Value).toList 8 = some ([.nil, .lit (.int .i64 0), .lit (.int .u8 0)], [], places) :=
  ⟨[], by kernel_rfl⟩
set_option maxRecDepth 100000 in
theorem lifted (os : Os) (started : os.Started) (H : Type) (enc : TypeId × Value → H) (F : Stop.Interp) :
    ReturnsInHanded {} Tryd.checked os 4 .any ((OpenSpec.ofChange Rows.stampOpensSpec).preRow enc Tryd.prog Tryd.f4 Rows.stampOpensRow.domain false Rows.stampOpensRow.laid) (((OpenSpec.ofChange Rows.stampOpensSpec).at F).post enc Tryd.prog Tryd.f4 false true false false) := by
  obtain ⟨places, hx⟩ := reads os enc
  refine returnsInHanded_of_row (C := Tryd.checked) (s := OpenSpec.ofChange Rows.stampOpensSpec) own started (by kernel_rfl) Tryd.func4
    (witness_row_at (enc := enc) (C := Tryd.checked) false (laidWorld os) #[.slice none 0 0, .int .i64 0, .int .u8 0] rfl (by kernel_rfl) (by kernel_rfl) (by kernel_rfl)
      (OpenSpec.preRow_of_cond 8 hx (by kernel_rfl) (fun k hk => by cases hk) (by kernel_rfl) (laid_met os))) ?_
  intro W base args ds gs before hval0 hW _ _ hsz0 hL _ _
  have hT : Tab W := tab_of (by kernel_rfl) hL
  have hsz : (DataW.weightsEach Tryd.prog (Tryd.f4.params.toList ++ Rows.stampOpensSpec.plain.varTypes Tryd.prog) (ds ++ gs)).all (· ≤ reachBytes) = true := hsz0
  have hval : ∀ (j : Nat) t v, Tryd.f4.params[j]? = some t → args[j]? = some v → Value.okWide Tryd.prog W .any base t v := hval0
  have hW' := hW
  obtain ⟨p, q, hA0, hV, rfl, hfz, hnd⟩ := hW
  have hA : DataW.TrodAll enc Tryd.prog W 0 (fun _ => true) true Tryd.f4.params.toList args.toList ds p := hA0
  rw [Tryd.params4] at hA hval hsz
  obtain ⟨v0, vs0, d0, ds0, p0, q0, hargs, rfl, rfl, h0, r0⟩ := trodAll_cons hA
  obtain ⟨v1, vs1, d1, ds1, p1, q1, rfl, rfl, rfl, h1, r1⟩ := trodAll_cons r0
  obtain ⟨v2, vs2, d2, ds2, p2, q2, rfl, rfl, rfl, h2, r2⟩ := trodAll_cons r1
  obtain ⟨rfl, rfl, rfl⟩ := trodAll_nil r2
  obtain rfl : args = #[v0, v1, v2] := by cases args; simp_all
  obtain ⟨rfl, rfl⟩ := trodVars_none hV
  have k0 := h0
  have lt0 : ∀ x ∈ p0, x.block < W.heap.size := by obtain ⟨m, hm⟩ := k0; exact DataW.trod_lt m _ _ _ hm
  have k1 := h1
  have lt1 : ∀ x ∈ p1, x.block < W.heap.size := by obtain ⟨m, hm⟩ := k1; exact DataW.trod_lt m _ _ _ hm
  have k2 := h2
  have lt2 : ∀ x ∈ p2, x.block < W.heap.size := by obtain ⟨m, hm⟩ := k2; exact DataW.trod_lt m _ _ _ hm
  obtain ⟨a0, n0, c0, rfl⟩ := okWide_slice Tryd.underlying22 (hval 0 22 v0 rfl rfl)
  obtain ⟨l0, g0, gn0, gc0, gm0, gd0⟩ := opened_bytes Tryd.underlying22 Tryd.underlying5 (by kernel_rfl) h0
  have gr0 := (sized_of hsz (j := 0) (t := 22) rfl rfl).slice Tryd.underlying22 (by kernel_rfl : Tryd.prog.bytesOf 5 = 1) gd0
  obtain ⟨l1, rfl, rfl, rfl, g1⟩ := open_int Tryd.underlying3 (hval 1 3 v1 rfl rfl) h1
  obtain ⟨l2, rfl, rfl, rfl, g2⟩ := open_int Tryd.underlying5 (hval 2 5 v2 rfl rfl) h2
  refine (walk a0 n0 c0 l0 l1 l2 W hT g0 gn0 gc0 gr0 g1 g2).mono fun e W' ⟨he, bel⟩ => ?_
  subst he
  exact ⟨_, rfl, _, _, _, [], _, [], hW', trodAll_mk1 (shut_bool Tryd.underlying4 _), (trodAll_cons_mk (Below.trod laidOut (by kernel_rfl) (of_decide_eq_true (by kernel_rfl)) k0 bel lt0) (trodAll_cons_mk (shut_int Tryd.underlying3 g1) (trodAll_cons_mk (shut_int Tryd.underlying5 g2) trodAll_mk0))), rfl, bel.frame _, fun h => by cases h⟩
theorem said : Rows.StampOpensSaid :=
  OpenClaim.holds_of_cond 4 Tryd.f4 rfl rfl rfl rfl rfl rfl rfl ⟨rfl, rfl, rfl, rfl, rfl⟩ rfl rfl rfl rfl rfl (by kernel_rfl) Tryd.func4 (by kernel_rfl)
    (of_decide_eq_true (by kernel_rfl)) (by unfold Func.isWrapper; first | (rw [if_pos (by decide +kernel)]; kernel_rfl) | (rw [if_neg (by decide +kernel)]; exact ⟨rfl, rfl⟩))
    (fun os started H enc _ F => by rw [OpenClaim.pre_eq_preRow]; exact lifted os started H enc F)
theorem plain (f : FuncId) (fn : Func) (hf : Tryd.pinned.checked.prog.funcNamed Rows.stampOpensRow.func = some f) (hfn : Tryd.pinned.checked.prog.funcs[f]? = some fn) :
    false = Tryd.pinned.checked.prog.looks [] ∧ ∀ (j : Nat) t, fn.params[j]? = some t → Tryd.pinned.checked.prog.wantsStandIn t = false := by
  obtain rfl : f = 4 := Option.some.inj ((show Tryd.prog.funcNamed Rows.stampOpensRow.func = some 4 by kernel_rfl).symm.trans hf) |>.symm
  obtain rfl : fn = Tryd.f4 := (Option.some.inj (Tryd.func4.symm.trans hfn)).symm
  refine ⟨by kernel_rfl, fun j t ht => ?_⟩
  rw [Tryd.params4] at ht
  have hm := Array.mem_of_getElem? ht
  simp at hm
  have hall : Tryd.prog.wantsStandIn 22 = false ∧ Tryd.prog.wantsStandIn 3 = false ∧ Tryd.prog.wantsStandIn 5 = false := ⟨by kernel_rfl, by kernel_rfl, by kernel_rfl⟩
  rcases hm with rfl | rfl | rfl
  · exact hall.1
  · exact hall.2.1
  · exact hall.2.2
theorem proved : Rows.StampOpensCardSaid :=
  Claim7.holds_tied_plain_at .later [] _ _ _ _ said (fun _ h => by cases h) (by kernel_rfl) (fun _ h => by cases h) stampOpens_row_tie rfl ⟨rfl, rfl⟩ (by kernel_rfl) rfl plain (by kernel_rfl)
#print axioms proved
end Go.Proofs.YtkhaapoekaijlaaDoor.stampOpens
