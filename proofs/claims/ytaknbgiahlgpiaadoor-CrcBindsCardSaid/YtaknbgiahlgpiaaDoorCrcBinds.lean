/- Two sums are joined in any brackets, for all sums and all lengths that together are a number. The row lists one table of the library (math/bits), tied to its text. No other condition. -/
import Derived.Test.YtaknbgiahlgpiaaDoorF
import Derived.Test.YtaknbgiahlgpiaaDoorG
import Derived.Test.YtaknbgiahlgpiaaDoorH
import Derived.Test.YtaknbgiahlgpiaaDoorCards
import Derived.Test.YtaknbgiahlgpiaaDoorTie
import Derived.ProofKit
import Derived.OpenShut
import Derived.SizedLaws
import Derived.Carry
import Derived.Deep.DeepHandedRow
import Derived.Lib.SmallJoins
import Derived.Deep.DeepCutAuto
import Derived.Test.YtaknbgiahlgpiaaDoorH
namespace Go.Proofs.YtaknbgiahlgpiaaDoor.crcBinds
open Go.ChangeShapes Go.WideShapes Go.ChangeAt Go.RowKit
set_option linter.unusedVariables false
set_option linter.unusedSimpArgs false
theorem bits_u64 (z : Int) (h1 : -9223372036854775808 ≤ z) (h2 : z ≤ 9223372036854775807) : ∃ N : Nat, N < 4611686018427387904 ∧ wrap64 (IntKind.u64.wrap z / 4) = (N : Int) :=
  ⟨(z % 18446744073709551616 / 4).toNat, by omega, by rw [IntKind.wrap_u64]; unfold wrap64; omega⟩
/-- What each of the worlds of a region bears. -/
theorem keep7 {W w w' : World} {b : Nat} {v0 v1 v2 : Value} (h : w.cell? ⟨b, 0, none⟩ = some v0 ∧ w.cell? ⟨b, 1, none⟩ = some v1 ∧ w.cell? ⟨b, 2, none⟩ = some v2 ∧ Tab w ∧ Chg [] W w) (g : Chg [] w w') :
    w'.cell? ⟨b, 0, none⟩ = some v0 ∧ w'.cell? ⟨b, 1, none⟩ = some v1 ∧ w'.cell? ⟨b, 2, none⟩ = some v2 ∧ Tab w' ∧ Chg [] W w' :=
  ⟨g.cellv h.1 (by simp), g.cellv h.2.1 (by simp), g.cellv h.2.2.1 (by simp), h.2.2.2.1.then g, h.2.2.2.2.then g⟩
set_option maxRecDepth 100000 in
set_option maxHeartbeats 400000 in
theorem core (x0 x1 x2 : BitVec 32) (n m : Int) (w : World) (hT : Tab w) (gn : (Lit.int .i64 n).wf = true) (gm : (Lit.int .i64 m).wf = true) :
    Calls Tryd.prog 7 #[.agg #[.int .u32 (v32 x0), .int .u32 (v32 x1), .int .u32 (v32 x2)], .int .i64 n, .int .i64 m] w fun e w' => e = .returned (.bool true) ∧ Below w.heap.size w w' := by
  have bn := Go.bounds_i64 gn
  have bm := Go.bounds_i64 gm
  obtain ⟨N, hN, hN2⟩ := bits_u64 n (by omega) (by omega)
  obtain ⟨M, hM, hM2⟩ := bits_u64 m (by omega) (by omega)
  clear gn gm bn bm
  obtain ⟨J1, hJ1⟩ : ∃ J, it (8 * (N : Int).toNat) x0 ^^^ x1 = J := ⟨_, rfl⟩
  obtain ⟨J2, hJ2⟩ : ∃ J, it (8 * (M : Int).toNat) J1 ^^^ x2 = J := ⟨_, rfl⟩
  obtain ⟨J3, hJ3⟩ : ∃ J, it (8 * (M : Int).toNat) x1 ^^^ x2 = J := ⟨_, rfl⟩
  obtain ⟨J4, hJ4⟩ : ∃ J, it (8 * ((N + M : Nat) : Int).toNat) x0 ^^^ J3 = J := ⟨_, rfl⟩
  have hJ5 : it (8 * (0 : Int).toNat) x0 ^^^ 0#32 = x0 := BitVec.xor_zero
  have hJ : J2 = J4 := by
    rw [← hJ4, ← hJ2, ← hJ3, ← hJ1, it_xor, ← it_add, BitVec.xor_assoc]
    congr 2
    simp only [Int.toNat_natCast]
    omega
  subst hJ
  have H1 := mkHid hJ1
  have H2 := mkHid hJ2
  have H3 := mkHid hJ3
  have H4 := mkHid hJ4
  have H5 := mkHid hJ5
  clear hJ1 hJ2 hJ3 hJ4 hJ5
  go_enter Tryd.func7, Tryd.ntmps7
  go_wp2_with fail
  simp only [hN2, hM2]
  generalize hb : w.heap.size = b
  generalize hW : w.alloc _ = W
  have c0 : W.cell? ⟨b, 0, none⟩ = some (.int .u32 (v32 x0)) := by subst hW hb; simp
  have c1 : W.cell? ⟨b, 1, none⟩ = some (.int .u32 (v32 x1)) := by subst hW hb; simp
  have c2 : W.cell? ⟨b, 2, none⟩ = some (.int .u32 (v32 x2)) := by subst hW hb; simp
  have hgW : Chg [] w W := by subst hW; exact Chg.alloc [] _ _
  clear hW hN2 hM2
  have hTW := hT.then hgW
  have ha1 : IntKind.i64.wrap ((N : Int) + (M : Int)) = ((N + M : Nat) : Int) := by rw [IntKind.wrap_i64]; omega
  have ha2 : wrap64 ((N : Int) + (M : Int)) = ((N + M : Nat) : Int) := by unfold wrap64; omega
  go_region_held3 (fun w' => w'.cell? ⟨b, 0, none⟩ = some (.int .u32 (v32 x0)) ∧ w'.cell? ⟨b, 1, none⟩ = some (.int .u32 (v32 x1)) ∧ w'.cell? ⟨b, 2, none⟩ = some (.int .u32 (v32 x2)) ∧ Tab w' ∧ Chg [] W w')
    (first | exact keep7 ⟨c0, c1, c2, hTW, Chg.refl _ _⟩ (Chg.drew _ _) | exact keep7 (by assumption) (by assumption))
    (first | (go_at_call_of 15 (v32 x0); refine (joined_as x0 x1 _ _ rfl rfl N (by omega) J1 H1.out _ (And.left (And.right (And.right (And.right (by assumption)))))).mono ?_; rintro e w1 ⟨rfl, hg1⟩) | (go_at_call_of 15 (v32 J1); refine (joined_as J1 x2 _ _ rfl rfl M (by omega) J2 H2.out _ (And.left (And.right (And.right (And.right (by assumption)))))).mono ?_; rintro e w2 ⟨rfl, hg2⟩))
  have hh : w2.cell? ⟨b, 0, none⟩ = some (.int .u32 (v32 x0)) ∧ w2.cell? ⟨b, 1, none⟩ = some (.int .u32 (v32 x1)) ∧ w2.cell? ⟨b, 2, none⟩ = some (.int .u32 (v32 x2)) ∧ Tab w2 ∧ Chg [] W w2 := by assumption
  clear hg1 hg2
  go_wp2_with fail
  go_region_held3 (fun w' => w'.cell? ⟨b, 0, none⟩ = some (.int .u32 (v32 x0)) ∧ w'.cell? ⟨b, 1, none⟩ = some (.int .u32 (v32 x1)) ∧ w'.cell? ⟨b, 2, none⟩ = some (.int .u32 (v32 x2)) ∧ Tab w' ∧ Chg [] W w')
    (first | exact keep7 hh (Chg.drew _ _) | exact keep7 (by assumption) (by assumption))
    (first | (go_at_call_of 15 (v32 x1); refine (joined_as x1 x2 _ _ rfl rfl M (by omega) J3 H3.out _ (And.left (And.right (And.right (And.right (by assumption)))))).mono ?_; rintro e w3 ⟨rfl, hg3⟩) | (go_at_call_of 15 (v32 J3); refine (joined_as x0 J3 _ _ rfl rfl ((N + M : Nat) : Int) (by omega) J2 H4.out _ (And.left (And.right (And.right (And.right (by assumption)))))).mono ?_; rintro e w4 ⟨rfl, hg4⟩))
  have hh4 : w4.cell? ⟨b, 0, none⟩ = some (.int .u32 (v32 x0)) ∧ w4.cell? ⟨b, 1, none⟩ = some (.int .u32 (v32 x1)) ∧ w4.cell? ⟨b, 2, none⟩ = some (.int .u32 (v32 x2)) ∧ Tab w4 ∧ Chg [] W w4 := by assumption
  clear hg3 hg4
  go_wp2_with fail
  go_region_held3 (fun w' => w'.cell? ⟨b, 0, none⟩ = some (.int .u32 (v32 x0)) ∧ w'.cell? ⟨b, 1, none⟩ = some (.int .u32 (v32 x1)) ∧ w'.cell? ⟨b, 2, none⟩ = some (.int .u32 (v32 x2)) ∧ Tab w' ∧ Chg [] W w')
    (first | exact keep7 hh4 (Chg.drew _ _) | exact keep7 (by assumption) (by assumption))
    (first | (go_at_call_of 15 (v32 x0); refine (joined_as x0 0#32 _ _ rfl rfl 0 (by omega) x0 H5.out _ (And.left (And.right (And.right (And.right (by assumption)))))).mono ?_; rintro e w5 ⟨rfl, hg5⟩) | (go_at_call 14; refine (wakes_any _ (And.left (And.right (And.right (And.right (by assumption)))))).mono ?_; rintro e w6 ⟨rfl, hg6⟩))
  have hh6 : w6.cell? ⟨b, 0, none⟩ = some (.int .u32 (v32 x0)) ∧ w6.cell? ⟨b, 1, none⟩ = some (.int .u32 (v32 x1)) ∧ w6.cell? ⟨b, 2, none⟩ = some (.int .u32 (v32 x2)) ∧ Tab w6 ∧ Chg [] W w6 := by assumption
  go_wp2_with fail
  go_ret
  exact ⟨rfl, (hgW.then hh6.2.2.2.2).below (Nat.le_refl _) (by simp)⟩
theorem walk {H : Type} {enc : TypeId × Value → H} {base : Nat} (v : Value) (n m : Int) (W : World) (hT : Tab W) {d : DataW H} {p : List MemPlace} (k : DataW.Trod enc Tryd.prog W 0 (fun _ => true) true 34 v d p) (hv : Value.okWide Tryd.prog W .any base 34 v) (hs : Sized Tryd.prog 34 d) (gn : (Lit.int .i64 n).wf = true) (gm : (Lit.int .i64 m).wf = true) :
    Calls Tryd.prog 7 #[v, .int .i64 n, .int .i64 m] W fun e w' => e = .returned (.bool true) ∧ Below W.heap.size W w' := by
  obtain ⟨zs, rfl, hl, hw⟩ := open_arr_ints Tryd.underlying34 Tryd.underlying22 (by kernel_rfl) (by kernel_rfl) hv k
  match zs, hl, hw with
  | [z0, z1, z2], _, hw =>
    obtain ⟨x0, rfl⟩ := v32_of (hw z0 (by simp))
    obtain ⟨x1, rfl⟩ := v32_of (hw z1 (by simp))
    obtain ⟨x2, rfl⟩ := v32_of (hw z2 (by simp))
    exact core x0 x1 x2 n m W hT gn gm

theorem own : ownKnob Tryd.prog.godebug = none := by kernel_rfl
theorem laidOut : laidOutB Tryd.prog = true := by kernel_rfl
noncomputable def laidWorld (os : Os) : World :=
  { World.holding Tryd.prog os ⟨#[], #[], []⟩ with heap := (World.holding Tryd.prog os ⟨#[], #[], []⟩).heap.modify 0 fun
      | .cells _ t frozen => .cells #[.int .u8 0, .int .u8 1, .int .u8 28, .int .u8 2, .int .u8 29, .int .u8 14, .int .u8 24, .int .u8 3, .int .u8 30, .int .u8 22, .int .u8 20, .int .u8 15, .int .u8 25, .int .u8 17, .int .u8 4, .int .u8 8, .int .u8 31, .int .u8 27, .int .u8 13, .int .u8 23, .int .u8 21, .int .u8 19, .int .u8 16, .int .u8 7, .int .u8 26, .int .u8 12, .int .u8 18, .int .u8 6, .int .u8 11, .int .u8 5, .int .u8 10, .int .u8 9] t frozen
      | o => o }
theorem laid_met (os : Os) : laidMet Tryd.prog Rows.crcBindsRow.laid ((laidWorld os).forCall (fun _ _ => 0) ⟨#[], #[.agg #[.int .u32 0, .int .u32 0, .int .u32 0], .int .i64 0, .int .i64 0], []⟩).memory :=
  laidMet_of_run' 8 (by kernel_rfl) (by kernel_rfl)
theorem reads (os : Os) {H : Type} (enc : TypeId × Value → H) : ∃ places, DataW.whole enc Tryd.prog ((laidWorld os).forCall (fun _ _ => 0) ⟨#[], #[.agg #[.int .u32 0, .int .u32 0, .int .u32 0], .int .i64 0, .int .i64 0], []⟩).memory Tryd.f7.params.toList Rows.crcBindsSpec.vars false (#[.agg #[.int .u32 0, .int .u32 0, .int .u32 0], .int .i64 0, .int .i64 0] : Array Value).toList 8 = some ([.agg [.lit (.int .u32 0), .lit (.int .u32 0), .lit (.int .u32 0)], .lit (.int .i64 0), .lit (.int .i64 0)], [], places) :=
  ⟨[], by kernel_rfl⟩
set_option maxRecDepth 100000 in
theorem lifted (os : Os) (started : os.Started) (H : Type) (enc : TypeId × Value → H) (F : Stop.Interp) :
    ReturnsInHanded {} Tryd.checked os 7 .any ((OpenSpec.ofChange Rows.crcBindsSpec).preRow enc Tryd.prog Tryd.f7 Rows.crcBindsRow.domain false Rows.crcBindsRow.laid) (((OpenSpec.ofChange Rows.crcBindsSpec).at F).post enc Tryd.prog Tryd.f7 false true false false) := by
  obtain ⟨places, hx⟩ := reads os enc
  refine returnsInHanded_of_row (C := Tryd.checked) (s := OpenSpec.ofChange Rows.crcBindsSpec) own started (by kernel_rfl) Tryd.func7
    (witness_row_at (enc := enc) (C := Tryd.checked) false (laidWorld os) #[.agg #[.int .u32 0, .int .u32 0, .int .u32 0], .int .i64 0, .int .i64 0] rfl (by kernel_rfl) (by kernel_rfl) (by kernel_rfl)
      (OpenSpec.preRow_of_cond 8 hx (by kernel_rfl) (fun k hk => by cases hk) (by kernel_rfl) (laid_met os))) ?_
  intro W base args ds gs before hval0 hW _ _ hsz0 hL _ _
  have hT : Tab W := tab_of (by kernel_rfl) hL
  have hsz : (DataW.weightsEach Tryd.prog (Tryd.f7.params.toList ++ Rows.crcBindsSpec.plain.varTypes Tryd.prog) (ds ++ gs)).all (· ≤ reachBytes) = true := hsz0
  have hval : ∀ (j : Nat) t v, Tryd.f7.params[j]? = some t → args[j]? = some v → Value.okWide Tryd.prog W .any base t v := hval0
  have hW' := hW
  obtain ⟨p, q, hA0, hV, rfl, hfz, hnd⟩ := hW
  have hA : DataW.TrodAll enc Tryd.prog W 0 (fun _ => true) true Tryd.f7.params.toList args.toList ds p := hA0
  rw [Tryd.params7] at hA hval hsz
  obtain ⟨v0, vs0, d0, ds0, p0, q0, hargs, rfl, rfl, h0, r0⟩ := trodAll_cons hA
  obtain ⟨v1, vs1, d1, ds1, p1, q1, rfl, rfl, rfl, h1, r1⟩ := trodAll_cons r0
  obtain ⟨v2, vs2, d2, ds2, p2, q2, rfl, rfl, rfl, h2, r2⟩ := trodAll_cons r1
  obtain ⟨rfl, rfl, rfl⟩ := trodAll_nil r2
  obtain rfl : args = #[v0, v1, v2] := by cases args; simp_all
  obtain ⟨rfl, rfl⟩ := trodVars_none hV
  have k0 := h0
  have lt0 : ∀ x ∈ p0, x.block < W.heap.size := by obtain ⟨m, hm⟩ := k0; exact DataW.trod_lt m _ _ _ hm
  have k1 := h1
  have lt1 : ∀ x ∈ p1, x.block < W.heap.size := by obtain ⟨m, hm⟩ := k1; exact DataW.trod_lt m _ _ _ hm
  have k2 := h2
  have lt2 : ∀ x ∈ p2, x.block < W.heap.size := by obtain ⟨m, hm⟩ := k2; exact DataW.trod_lt m _ _ _ hm
  obtain ⟨l1, rfl, rfl, rfl, g1⟩ := open_int Tryd.underlying3 (hval 1 3 v1 rfl rfl) h1
  obtain ⟨l2, rfl, rfl, rfl, g2⟩ := open_int Tryd.underlying3 (hval 2 3 v2 rfl rfl) h2
  refine (walk v0 l1 l2 W hT k0 (hval 0 34 v0 rfl rfl) (sized_of hsz (j := 0) (t := 34) rfl rfl) g1 g2).mono fun e W' ⟨he, bel⟩ => ?_
  subst he
  exact ⟨_, rfl, _, _, _, [], _, [], hW', trodAll_mk1 (shut_bool Tryd.underlying4 _), (trodAll_cons_mk (Below.trod laidOut (by kernel_rfl) (of_decide_eq_true (by kernel_rfl)) k0 bel lt0) (trodAll_cons_mk (shut_int Tryd.underlying3 g1) (trodAll_cons_mk (shut_int Tryd.underlying3 g2) trodAll_mk0))), rfl, bel.frame _, fun h => by cases h⟩
theorem said : Rows.CrcBindsSaid :=
  OpenClaim.holds_of_cond 7 Tryd.f7 rfl rfl rfl rfl rfl rfl rfl ⟨rfl, rfl, rfl, rfl, rfl⟩ rfl rfl rfl rfl rfl (by kernel_rfl) Tryd.func7 (by kernel_rfl)
    (of_decide_eq_true (by kernel_rfl)) (by unfold Func.isWrapper; first | (rw [if_pos (by decide +kernel)]; kernel_rfl) | (rw [if_neg (by decide +kernel)]; exact ⟨rfl, rfl⟩))
    (fun os started H enc _ F => by rw [OpenClaim.pre_eq_preRow]; exact lifted os started H enc F)
theorem plain (f : FuncId) (fn : Func) (hf : Tryd.pinned.checked.prog.funcNamed Rows.crcBindsRow.func = some f) (hfn : Tryd.pinned.checked.prog.funcs[f]? = some fn) :
    false = Tryd.pinned.checked.prog.looks [] ∧ ∀ (j : Nat) t, fn.params[j]? = some t → Tryd.pinned.checked.prog.wantsStandIn t = false := by
  obtain rfl : f = 7 := Option.some.inj ((show Tryd.prog.funcNamed Rows.crcBindsRow.func = some 7 by kernel_rfl).symm.trans hf) |>.symm
  obtain rfl : fn = Tryd.f7 := (Option.some.inj (Tryd.func7.symm.trans hfn)).symm
  refine ⟨by kernel_rfl, fun j t ht => ?_⟩
  rw [Tryd.params7] at ht
  have hm := Array.mem_of_getElem? ht
  simp at hm
  have hall : Tryd.prog.wantsStandIn 34 = false ∧ Tryd.prog.wantsStandIn 3 = false := ⟨by kernel_rfl, by kernel_rfl⟩
  rcases hm with rfl | rfl
  · exact hall.1
  · exact hall.2
theorem proved : Rows.CrcBindsCardSaid :=
  Claim7.holds_tied_plain_at .later [] _ _ _ _ said (fun _ h => by cases h) (by kernel_rfl) (fun _ h => by cases h) crcBinds_row_tie rfl ⟨rfl, rfl⟩ (by kernel_rfl) rfl plain (by kernel_rfl)
#print axioms proved
end Go.Proofs.YtaknbgiahlgpiaaDoor.crcBinds
