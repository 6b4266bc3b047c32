/- Up to 32 neighbouring bits that are turned, wherever they stand, are seen by the sum: for every text, every place and every turning. The row lists one table of the library (math/bits), tied to its text. No other condition. -/
import Derived.Test.YtaknbgiahlgpiaaDoorF
import Derived.Test.YtaknbgiahlgpiaaDoorG
import Derived.Test.YtaknbgiahlgpiaaDoorH
import Derived.Test.YtaknbgiahlgpiaaDoorCards
import Derived.Test.YtaknbgiahlgpiaaDoorTie
import Derived.ProofKit
import Derived.OpenShut
import Derived.SizedLaws
import Derived.Carry
import Derived.Deep.DeepHandedRow
import Derived.Lib.SmallJoins
import Derived.Deep.DeepCutAuto
import Derived.Deep.RegionHeld3
namespace Go.Proofs.YtaknbgiahlgpiaaDoor.crcTells
open Go.ChangeShapes Go.WideShapes Go.ChangeAt Go.RowKit
set_option linter.unusedVariables false
set_option linter.unusedSimpArgs false
theorem ret_true {a : Bool} (h : a = true) : Ending.returned (Value.bool a) = .returned (.bool true) := by rw [h]
def v8 (b : UInt8) : Int := (b.toNat : Int)
theorem x8 (a b : UInt8) : bits .xor .u8 (v8 a) (v8 b) = v8 (a ^^^ b) := by
  unfold v8
  have := a.toNat_lt
  have := b.toNat_lt
  rw [u8_xor_nat _ _ (by omega) (by omega), UInt8.toNat_xor]
theorem bts_get8 (l : List UInt8) (i : Nat) (h : i < l.length) : (bts l)[i]? = some (.int .u8 (v8 l[i])) := bts_get l i h
theorem bts_set (l : List UInt8) (i : Nat) (b : UInt8) : (bts l).set i (.int .u8 (v8 b)) = bts (l.set i b) := by simp [bts, v8]
theorem pow8 : ∀ r : Nat, r < 8 → (2 : Int) ^ r % 256 = v8 (UInt8.ofNat (2 ^ r)) := by decide +kernel
theorem Room.set {w : World} {B b o n c : Nat} {xs : List Value} (h : Room w B (some ⟨b, o, none⟩) n c xs) (i : Nat) (hi : i < n) (u : Value) : Room (w.setCell ⟨b, o + i, none⟩ u) B (some ⟨b, o, none⟩) n c (xs.set i u) := by
  refine ⟨by rw [List.length_set]; exact h.len, h.le, h.max, fun hc => ?_⟩
  obtain ⟨b', o', e, hB, hs, hv⟩ := h.at_ hc
  cases e
  have hle := h.le
  refine ⟨b, o, rfl, hB, fun j hj => ?_, fun j v hj => ?_⟩
  · refine ⟨?_, by rw [World.frozen?_setCell]; exact (hs j hj).2⟩
    by_cases hji : j = i
    · subst hji
      obtain ⟨v, hv⟩ := Option.isSome_iff_exists.1 (hs j hj).1
      rw [World.cell?_setCell_same _ _ _ hv]; rfl
    · rw [World.cell?_setCell_other _ _ _ _ (by simp)]
      exact (hs j hj).1
  · by_cases hji : j = i
    · subst hji
      obtain ⟨v', hv'⟩ := Option.isSome_iff_exists.1 (hs j (by omega)).1
      rw [World.cell?_setCell_same _ _ _ hv']
      have hl := h.len
      rw [List.getElem?_set_self (by omega)] at hj
      exact hj
    · rw [World.cell?_setCell_other _ _ _ _ (by simp)]
      rw [List.getElem?_set_ne (by omega)] at hj
      exact hv j v hj
theorem Room.cell {w : World} {B b o n c : Nat} {xs : List Value} (h : Room w B (some ⟨b, o, none⟩) n c xs) (i : Nat) (hi : i < n) : w.frozen? ⟨b, o + i, none⟩ = false := by
  obtain ⟨b', o', e, hB, hs, hv⟩ := h.at_ (by have := h.le; omega)
  cases e
  exact (hs i (by have := h.le; omega)).2
theorem first_of (z : Int) (n : Nat) (h1 : -9223372036854775808 ≤ z) (h2 : z ≤ 9223372036854775807) (hn : 0 < n) (hn2 : n ≤ 140737488351232) : ∃ F : Nat, F < 8 * n ∧ wrap64 ((IntKind.u64.wrap z).tmod (8 * (n : Int))) = (F : Int) := by
  have hu : 0 ≤ IntKind.u64.wrap z := by rw [IntKind.wrap_u64]; omega
  rw [Int.tmod_eq_emod_of_nonneg hu]
  have hp : 0 < 8 * (n : Int) := by omega
  have ha := Int.emod_nonneg (IntKind.u64.wrap z) (show 8 * (n : Int) ≠ 0 by omega)
  have hb := Int.emod_lt_of_pos (IntKind.u64.wrap z) hp
  refine ⟨(IntKind.u64.wrap z % (8 * (n : Int))).toNat, by omega, ?_⟩
  unfold wrap64
  omega
theorem test_bit (t : BitVec 32) (j : Nat) : bits .and .u32 (v32 t / 2 ^ j) 1 = if t.getLsbD j then 1 else 0 := by
  rw [shr32 t j (2 ^ j) (by simp), and1, BitVec.getLsbD_ushiftRight, Nat.add_zero]
/-- What each of the worlds of the last region bears. -/
structure KeptT (a0 ao : Option Addr) (l0 m : List UInt8) (W w : World) : Prop where
  tab : Tab w
  r0 : Reads w a0 (bts l0)
  rd : Reads w ao (bts m)
  chg : Chg [] W w
theorem keepT {a0 ao : Option Addr} {l0 m : List UInt8} {n c0 c : Nat} {W w w' : World} (hn : l0.length = n) (hm : m.length = n) (h : KeptT a0 ao l0 m W w) (g : Chg [] w w') :
    (convert 23 9 (.slice ao n c)).run Tryd.prog w' = .ok (.string ⟨m.toArray⟩) w' ∧ (convert 23 9 (.slice a0 n c0)).run Tryd.prog w' = .ok (.string ⟨l0.toArray⟩) w' ∧ KeptT a0 ao l0 m W w' := by
  have r1 := h.rd.old g rfl
  have r2 := h.r0.old g rfl
  exact ⟨run_convert_k (P := Tryd.prog) w' 23 5 9 Tryd.underlying23 Tryd.underlying5 Tryd.underlying9 ao n c m r1 hm, run_convert_k (P := Tryd.prog) w' 23 5 9 Tryd.underlying23 Tryd.underlying5 Tryd.underlying9 a0 n c0 l0 r2 hn, h.tab.then g, r2, r1, h.chg.then g⟩
set_option maxRecDepth 100000 in
set_option maxHeartbeats 400000 in
theorem walk (a0 : Option Addr) (n0 c0 : Nat) (l0 : List UInt8) (z T : Int) (w : World) (hT : Tab w) (g : Reads w a0 (bts l0)) (gn : l0.length = n0) (gc : n0 ≤ c0) (gr : c0 * 1 ≤ 140737488351232) (gz : (Lit.int .i64 z).wf = true) (gt : (Lit.int .u32 T).wf = true) :
    Calls Tryd.prog 5 #[.slice a0 n0 c0, .int .i64 z, .int .u32 T] w fun e w' => e = .returned (.bool true) ∧ Below w.heap.size w w' := by
  obtain ⟨t, rfl⟩ := v32_of gt
  have bz := Go.bounds_i64 gz
  have hml : maxLen = 9223372036854775807 := rfl
  clear gz gt
  by_cases hn : n0 = 0
  · subst hn
    go_enter Tryd.func5, Tryd.ntmps5
    go_wp2_with (first | (go_at_call 14; refine (wakes_any w hT).mono ?_; rintro e w1 ⟨rfl, hg1⟩))
    go_ret
    exact ⟨rfl, hg1.below (Nat.le_refl _) (by simp)⟩
  · obtain ⟨F, hF, hF2⟩ := first_of z n0 (by omega) (by omega) (by omega) (by omega)
    clear bz
    go_enter Tryd.func5, Tryd.ntmps5
    go_wp2_with (first | (at_builtin; refine wpList_append_k _ rfl (.const (.slice none 0 0)) (.tmp 15) 23 rfl 5 1 eltB w.heap.size _ 0 0 [] rfl (Room.nil _ _ _) (Nat.le_refl _) a0 n0 c0 (bts l0) rfl g (by rw [bts_length]; exact gn) (bts_one l0) (by omega) (by omega) ?_; intro ao1 c1 w1 hr1 hg1 hf1; simp only [Nat.zero_add, List.nil_append] at hr1))
    have hg1 : Chg [] w w1 := hg1
    simp only [hF2]
    clear hF2
    go_loopw [9, 10] (fun i _ wr => ∃ (j : Nat) (m : List UInt8) (M : BitVec 32), i = .int .i64 j ∧ j ≤ 32 ∧ Room wr w.heap.size ao1 n0 c1 (bts m) ∧ Turned l0 F j m M ∧ Chg [] w wr) (fun i _ _ => 32 - (intOf i).toNat)
    case atStart => exact ⟨0, l0, 0#32, rfl, by omega, hr1, Turned.start _ _, hg1⟩
    case round =>
      obtain ⟨j, m, M, rfl, hj, hr, ht, hg⟩ := hrel
      by_cases hlt : j < 32
      · have hb := test_bit t j
        cases hbit : t.getLsbD j
        · rw [hbit] at hb
          simp only [Bool.false_eq_true, if_false] at hb
          go_wp2_with fail
          exact ⟨⟨j + 1, m, M, by go_num, by omega, hr, ht.skip, hg⟩, by simp [intOf]; omega⟩
        · rw [hbit] at hb
          simp only [if_true] at hb
          obtain ⟨q, hq⟩ : ∃ q, q = (F + j) / 8 := ⟨_, rfl⟩
          obtain ⟨r, hr8⟩ : ∃ r, r = (F + j) % 8 := ⟨_, rfl⟩
          have hq1 : ((F : Int) + (j : Int)).tdiv 8 = (q : Int) := by rw [Int.tdiv_eq_ediv_of_nonneg (by omega)]; omega
          have hr1 : ((F : Int) + (j : Int)).tmod 8 = (r : Int) := by rw [Int.tmod_eq_emod_of_nonneg (by omega)]; omega
          clear hq1
          have HQ := mkHid (show ((F : Int) + (j : Int)) / 8 = (q : Int) by omega)
          have HR := mkHid (show ((F : Int) + (j : Int)) % 8 = (r : Int) by omega)
          clear hr1
          have Hq := mkHid hq
          have Hr := mkHid hr8
          have hrl : r < 8 := by omega
          clear hq hr8
          by_cases hqn : q < n0
          · have hmlen := ht.len
            obtain ⟨b1, o1, rfl, hcell⟩ := hr.reads (by rw [bts_length]; omega)
            have hqm : q < m.length := by rw [hmlen, gn]; exact hqn
            have hg8 := bts_get8 m q hqm
            have hck := hcell q _ hg8
            clear hg8
            have hfz := Room.cell hr q hqn
            have hle := hr.le
            have hbb : w.heap.size ≤ b1 := (hr.lt b1 (by rw [fp_some _ _ _ (by omega)]; simp)).1
            clear hcell
            obtain ⟨x, hx⟩ : ∃ x, x = m[q]'hqm := ⟨_, rfl⟩
            rw [← hx] at hck
            have hp := pow8 r hrl
            obtain ⟨y, hy⟩ : ∃ y, y = UInt8.ofNat (2 ^ r) := ⟨_, rfl⟩
            rw [← hy] at hp
            have Hy := mkHid hy
            clear hy
            have hx8 := x8 x y
            have Hx := mkHid hx
            have Hml := mkHid hmlen
            clear hx hmlen
            have hqd : decide (q < n0) = true := by simp; omega
            have hqi : (q : Int) < (n0 : Int) := by omega
            have Hqn := mkHid hqn
            clear hqn
            have hqw := HQ.out
            have hrw := HR.out
            go_wp2_with fail
            have hq := Hq.out
            have hqn := Hqn.out
            have hrm : Room (wr.setCell ⟨b1, o1 + q, none⟩ (.int .u8 (v8 (x ^^^ y)))) w.heap.size (some ⟨b1, o1, none⟩) n0 c1 (bts (flipAt m (F + j))) := by
              have h := Room.set hr q hqn (.int .u8 (v8 (x ^^^ y)))
              rw [bts_set] at h
              have e : flipAt m (F + j) = m.set q (x ^^^ y) := by
                unfold flipAt
                rw [← hq, ← Hr.out, ← Hy.out, Hx.out, List.getD_eq_getElem?_getD, List.getElem?_eq_getElem hqm]
                rfl
              rw [e]
              exact h
            exact ⟨⟨j + 1, flipAt m (F + j), M ^^^ tp j, by go_num, by omega, hrm, ht.flip hlt (by rw [gn]; omega), hg.trans (Chg.setCell _ _ _) (fun _ h _ => h) (fun k hk hlt => by simp at hk; omega)⟩, by simp [intOf]; omega⟩
          · have hqd : decide (q < n0) = false := by simp; omega
            have Hqn := mkHid hqn
            clear hqn
            have hqw := HQ.out
            have hrw := HR.out
            go_wp2_with fail
            exact ⟨⟨j + 1, m, M, by go_num, by omega, hr, ht.skip, hg⟩, by simp [intOf]; omega⟩
      · have : j = 32 := by omega
        subst this
        have hmlen := ht.len
        obtain ⟨A, hA⟩ : ∃ S, csum m = S := ⟨_, rfl⟩
        obtain ⟨C, hC⟩ : ∃ S, csum l0 = S := ⟨_, rfl⟩
        have hAC : (v32 A == v32 C) = decide (m = l0) := by
          rw [v32_beq, ← hA, ← hC]
          exact decide_eq_decide.2 ht.tells
        have HA := mkHid hA
        have HC := mkHid hC
        have Hgn := mkHid gn
        have Hmn := mkHid (show m.length = n0 by omega)
        have hnm : n0 ≤ maxLen := by omega
        have hk0 : KeptT a0 ao1 l0 m w wr := ⟨hT.then hg, g.old hg rfl, hr.reads, hg⟩
        clear hA hC hmlen gn
        have hd : (m = l0) ∨ ¬ (m = l0) := Classical.em _
        rcases hd with hd | hd
        · have hAC' : (v32 A == v32 C) = true := by rw [hAC]; exact decide_eq_true hd
          clear hAC
          go_wp2_with fail
          go_region_held3 (fun w' => (convert 23 9 (.slice ao1 n0 c1)).run Tryd.prog w' = .ok (.string ⟨m.toArray⟩) w' ∧ (convert 23 9 (.slice a0 n0 c0)).run Tryd.prog w' = .ok (.string ⟨l0.toArray⟩) w' ∧ KeptT a0 ao1 l0 m w w')
            (first | exact keepT Hgn.out Hmn.out hk0 (Chg.drew _ _) | exact keepT Hgn.out Hmn.out (And.right (And.right (by assumption))) (by assumption))
            (first | (go_at_call_of 10 ao1; refine (sum_as ao1 n0 c1 m A HA.out _ (KeptT.tab (And.right (And.right (by assumption)))) (KeptT.rd (And.right (And.right (by assumption)))) Hmn.out hnm).mono ?_; rintro e w2 ⟨rfl, hg2⟩) | (go_at_call_of 10 a0; refine (sum_as a0 n0 c0 l0 C HC.out _ (KeptT.tab (And.right (And.right (by assumption)))) (KeptT.r0 (And.right (And.right (by assumption)))) Hgn.out hnm).mono ?_; rintro e w3 ⟨rfl, hg3⟩) | (go_at_call 14; refine (wakes_any _ (KeptT.tab (And.right (And.right (by assumption))))).mono ?_; rintro e w4 ⟨rfl, hg4⟩))
          have hk4 : (convert 23 9 (.slice ao1 n0 c1)).run Tryd.prog w4 = .ok (.string ⟨m.toArray⟩) w4 ∧ (convert 23 9 (.slice a0 n0 c0)).run Tryd.prog w4 = .ok (.string ⟨l0.toArray⟩) w4 ∧ KeptT a0 ao1 l0 m w w4 := by assumption
          go_wp2_with fail
          go_ret
          exact ⟨rfl, hk4.2.2.chg.below (Nat.le_refl _) (by simp)⟩
        · have hAC' : (v32 A == v32 C) = false := by rw [hAC]; exact decide_eq_false hd
          clear hAC
          go_wp2_with fail
          go_region_held3 (fun w' => (convert 23 9 (.slice ao1 n0 c1)).run Tryd.prog w' = .ok (.string ⟨m.toArray⟩) w' ∧ (convert 23 9 (.slice a0 n0 c0)).run Tryd.prog w' = .ok (.string ⟨l0.toArray⟩) w' ∧ KeptT a0 ao1 l0 m w w')
            (first | exact keepT Hgn.out Hmn.out hk0 (Chg.drew _ _) | exact keepT Hgn.out Hmn.out (And.right (And.right (by assumption))) (by assumption))
            (first | (go_at_call_of 10 ao1; refine (sum_as ao1 n0 c1 m A HA.out _ (KeptT.tab (And.right (And.right (by assumption)))) (KeptT.rd (And.right (And.right (by assumption)))) Hmn.out hnm).mono ?_; rintro e w2 ⟨rfl, hg2⟩) | (go_at_call_of 10 a0; refine (sum_as a0 n0 c0 l0 C HC.out _ (KeptT.tab (And.right (And.right (by assumption)))) (KeptT.r0 (And.right (And.right (by assumption)))) Hgn.out hnm).mono ?_; rintro e w3 ⟨rfl, hg3⟩) | (go_at_call 14; refine (wakes_any _ (KeptT.tab (And.right (And.right (by assumption))))).mono ?_; rintro e w4 ⟨rfl, hg4⟩))
          have hk4 : (convert 23 9 (.slice ao1 n0 c1)).run Tryd.prog w4 = .ok (.string ⟨m.toArray⟩) w4 ∧ (convert 23 9 (.slice a0 n0 c0)).run Tryd.prog w4 = .ok (.string ⟨l0.toArray⟩) w4 ∧ KeptT a0 ao1 l0 m w w4 := by assumption
          go_wp2_with fail
          go_ret
          exact ⟨ret_true (by simp [hd]), hk4.2.2.chg.below (Nat.le_refl _) (by simp)⟩

theorem own : ownKnob Tryd.prog.godebug = none := by kernel_rfl
theorem laidOut : laidOutB Tryd.prog = true := by kernel_rfl
noncomputable def laidWorld (os : Os) : World :=
  { World.holding Tryd.prog os ⟨#[], #[], []⟩ with heap := (World.holding Tryd.prog os ⟨#[], #[], []⟩).heap.modify 0 fun
      | .cells _ t frozen => .cells #[.int .u8 0, .int .u8 1, .int .u8 28, .int .u8 2, .int .u8 29, .int .u8 14, .int .u8 24, .int .u8 3, .int .u8 30, .int .u8 22, .int .u8 20, .int .u8 15, .int .u8 25, .int .u8 17, .int .u8 4, .int .u8 8, .int .u8 31, .int .u8 27, .int .u8 13, .int .u8 23, .int .u8 21, .int .u8 19, .int .u8 16, .int .u8 7, .int .u8 26, .int .u8 12, .int .u8 18, .int .u8 6, .int .u8 11, .int .u8 5, .int .u8 10, .int .u8 9] t frozen
      | o => o }
theorem laid_met (os : Os) : laidMet Tryd.prog Rows.crcTellsRow.laid ((laidWorld os).forCall (fun _ _ => 0) ⟨#[], #[.slice none 0 0, .int .i64 0, .int .u32 0], []⟩).memory :=
  laidMet_of_run' 8 (by kernel_rfl) (by kernel_rfl)
theorem reads (os : Os) {H : Type} (enc : TypeId × Value → H) : ∃ places, DataW.whole enc Tryd.prog ((laidWorld os).forCall (fun _ _ => 0) ⟨#[], #[.slice none 0 0, .int .i64 0, .int .u32 0], []⟩).memory Tryd.f5.params.toList Rows.crcTellsSpec.vars false (#[.slice none 0 0, .int .i64 0, .int .u32 0] : Array Value).toList 8 = some ([.nil, .lit (.int .i64 0), .lit (.int .u32 0)], [], places) :=
  ⟨[], by kernel_rfl⟩
set_option maxRecDepth 100000 in
theorem lifted (os : Os) (started : os.Started) (H : Type) (enc : TypeId × Value → H) (F : Stop.Interp) :
    ReturnsInHanded {} Tryd.checked os 5 .any ((OpenSpec.ofChange Rows.crcTellsSpec).preRow enc Tryd.prog Tryd.f5 Rows.crcTellsRow.domain false Rows.crcTellsRow.laid) (((OpenSpec.ofChange Rows.crcTellsSpec).at F).post enc Tryd.prog Tryd.f5 false true false false) := by
  obtain ⟨places, hx⟩ := reads os enc
  refine returnsInHanded_of_row (C := Tryd.checked) (s := OpenSpec.ofChange Rows.crcTellsSpec) own started (by kernel_rfl) Tryd.func5
    (witness_row_at (enc := enc) (C := Tryd.checked) false (laidWorld os) #[.slice none 0 0, .int .i64 0, .int .u32 0] rfl (by kernel_rfl) (by kernel_rfl) (by kernel_rfl)
      (OpenSpec.preRow_of_cond 8 hx (by kernel_rfl) (fun k hk => by cases hk) (by kernel_rfl) (laid_met os))) ?_
  intro W base args ds gs before hval0 hW _ _ hsz0 hL _ _
  have hT : Tab W := tab_of (by kernel_rfl) hL
  have hsz : (DataW.weightsEach Tryd.prog (Tryd.f5.params.toList ++ Rows.crcTellsSpec.plain.varTypes Tryd.prog) (ds ++ gs)).all (· ≤ reachBytes) = true := hsz0
  have hval : ∀ (j : Nat) t v, Tryd.f5.params[j]? = some t → args[j]? = some v → Value.okWide Tryd.prog W .any base t v := hval0
  have hW' := hW
  obtain ⟨p, q, hA0, hV, rfl, hfz, hnd⟩ := hW
  have hA : DataW.TrodAll enc Tryd.prog W 0 (fun _ => true) true Tryd.f5.params.toList args.toList ds p := hA0
  rw [Tryd.params5] at hA hval hsz
  obtain ⟨v0, vs0, d0, ds0, p0, q0, hargs, rfl, rfl, h0, r0⟩ := trodAll_cons hA
  obtain ⟨v1, vs1, d1, ds1, p1, q1, rfl, rfl, rfl, h1, r1⟩ := trodAll_cons r0
  obtain ⟨v2, vs2, d2, ds2, p2, q2, rfl, rfl, rfl, h2, r2⟩ := trodAll_cons r1
  obtain ⟨rfl, rfl, rfl⟩ := trodAll_nil r2
  obtain rfl : args = #[v0, v1, v2] := by cases args; simp_all
  obtain ⟨rfl, rfl⟩ := trodVars_none hV
  have k0 := h0
  have lt0 : ∀ x ∈ p0, x.block < W.heap.size := by obtain ⟨m, hm⟩ := k0; exact DataW.trod_lt m _ _ _ hm
  have k1 := h1
  have lt1 : ∀ x ∈ p1, x.block < W.heap.size := by obtain ⟨m, hm⟩ := k1; exact DataW.trod_lt m _ _ _ hm
  have k2 := h2
  have lt2 : ∀ x ∈ p2, x.block < W.heap.size := by obtain ⟨m, hm⟩ := k2; exact DataW.trod_lt m _ _ _ hm
  obtain ⟨a0, n0, c0, rfl⟩ := okWide_slice Tryd.underlying23 (hval 0 23 v0 rfl rfl)
  obtain ⟨l0, g0, gn0, gc0, gm0, gd0⟩ := opened_bytes Tryd.underlying23 Tryd.underlying5 (by kernel_rfl) h0
  have gr0 := (sized_of hsz (j := 0) (t := 23) rfl rfl).slice Tryd.underlying23 (by kernel_rfl : Tryd.prog.bytesOf 5 = 1) gd0
  obtain ⟨l1, rfl, rfl, rfl, g1⟩ := open_int Tryd.underlying3 (hval 1 3 v1 rfl rfl) h1
  obtain ⟨l2, rfl, rfl, rfl, g2⟩ := open_int Tryd.underlying22 (hval 2 22 v2 rfl rfl) h2
  refine (walk a0 n0 c0 l0 l1 l2 W hT g0 gn0 gc0 gr0 g1 g2).mono fun e W' ⟨he, bel⟩ => ?_
  subst he
  exact ⟨_, rfl, _, _, _, [], _, [], hW', trodAll_mk1 (shut_bool Tryd.underlying4 _), (trodAll_cons_mk (Below.trod laidOut (by kernel_rfl) (of_decide_eq_true (by kernel_rfl)) k0 bel lt0) (trodAll_cons_mk (shut_int Tryd.underlying3 g1) (trodAll_cons_mk (shut_int Tryd.underlying22 g2) trodAll_mk0))), rfl, bel.frame _, fun h => by cases h⟩
theorem said : Rows.CrcTellsSaid :=
  OpenClaim.holds_of_cond 5 Tryd.f5 rfl rfl rfl rfl rfl rfl rfl ⟨rfl, rfl, rfl, rfl, rfl⟩ rfl rfl rfl rfl rfl (by kernel_rfl) Tryd.func5 (by kernel_rfl)
    (of_decide_eq_true (by kernel_rfl)) (by unfold Func.isWrapper; first | (rw [if_pos (by decide +kernel)]; kernel_rfl) | (rw [if_neg (by decide +kernel)]; exact ⟨rfl, rfl⟩))
    (fun os started H enc _ F => by rw [OpenClaim.pre_eq_preRow]; exact lifted os started H enc F)
theorem plain (f : FuncId) (fn : Func) (hf : Tryd.pinned.checked.prog.funcNamed Rows.crcTellsRow.func = some f) (hfn : Tryd.pinned.checked.prog.funcs[f]? = some fn) :
    false = Tryd.pinned.checked.prog.looks [] ∧ ∀ (j : Nat) t, fn.params[j]? = some t → Tryd.pinned.checked.prog.wantsStandIn t = false := by
  obtain rfl : f = 5 := Option.some.inj ((show Tryd.prog.funcNamed Rows.crcTellsRow.func = some 5 by kernel_rfl).symm.trans hf) |>.symm
  obtain rfl : fn = Tryd.f5 := (Option.some.inj (Tryd.func5.symm.trans hfn)).symm
  refine ⟨by kernel_rfl, fun j t ht => ?_⟩
  rw [Tryd.params5] at ht
  have hm := Array.mem_of_getElem? ht
  simp at hm
  have hall : Tryd.prog.wantsStandIn 23 = false ∧ Tryd.prog.wantsStandIn 3 = false ∧ Tryd.prog.wantsStandIn 22 = false := ⟨by kernel_rfl, by kernel_rfl, by kernel_rfl⟩
  rcases hm with rfl | rfl | rfl
  · exact hall.1
  · exact hall.2.1
  · exact hall.2.2
theorem proved : Rows.CrcTellsCardSaid :=
  Claim7.holds_tied_plain_at .later [] _ _ _ _ said (fun _ h => by cases h) (by kernel_rfl) (fun _ h => by cases h) crcTells_row_tie rfl ⟨rfl, rfl⟩ (by kernel_rfl) rfl plain (by kernel_rfl)
#print axioms proved
end Go.Proofs.YtaknbgiahlgpiaaDoor.crcTells
