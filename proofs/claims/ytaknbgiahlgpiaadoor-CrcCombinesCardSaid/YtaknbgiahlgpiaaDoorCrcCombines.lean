/- Of three texts, cut to the shortest one, the sums combined are the sum of the texts combined. The row lists one table of the library (math/bits), tied to its text. No other condition. -/
import Derived.Test.YtaknbgiahlgpiaaDoorF
import Derived.Test.YtaknbgiahlgpiaaDoorG
import Derived.Test.YtaknbgiahlgpiaaDoorH
import Derived.Test.YtaknbgiahlgpiaaDoorCards
import Derived.Test.YtaknbgiahlgpiaaDoorTie
import Derived.ProofKit
import Derived.OpenShut
import Derived.SizedLaws
import Derived.Carry
import Derived.Deep.DeepHandedRow
import Derived.Lib.SmallJoins
import Derived.Deep.DeepCutAuto
import Derived.Laws.Cover1
import Derived.Deep.RegionHeld3
import Derived.Deep.RegionLaw
namespace Go.Proofs.YtaknbgiahlgpiaaDoor.crcCombines
open Go.ChangeShapes Go.WideShapes Go.ChangeAt Go.RowKit
set_option linter.unusedVariables false
set_option linter.unusedSimpArgs false
def v8 (b : UInt8) : Int := (b.toNat : Int)
theorem x8 (a b : UInt8) : bits .xor .u8 (v8 a) (v8 b) = v8 (a ^^^ b) := by
  unfold v8
  have := a.toNat_lt
  have := b.toNat_lt
  rw [u8_xor_nat _ _ (by omega) (by omega), UInt8.toNat_xor]
theorem bts_get8 (l : List UInt8) (i : Nat) (h : i < l.length) : (bts l)[i]? = some (.int .u8 (v8 l[i])) := bts_get l i h
theorem zip_succ : ∀ (k : Nat) (a b c : List UInt8) (ha : k < a.length) (hb : k < b.length) (hc : k < c.length), zip3 (a.take (k + 1)) (b.take (k + 1)) (c.take (k + 1)) = zip3 (a.take k) (b.take k) (c.take k) ++ [a[k] ^^^ b[k] ^^^ c[k]]
  | 0, x :: a, y :: b, z :: c, _, _, _ => rfl
  | k + 1, x :: a, y :: b, z :: c, ha, hb, hc => by
    have := zip_succ k a b c (by simpa using ha) (by simpa using hb) (by simpa using hc)
    simp only [List.take_succ_cons, List.getElem_cons_succ, zip3, this, List.cons_append]
theorem keep3 {S : List Nat} {w w' : World} {p q r : Addr} {x y z : Value} (h : w.cell? p = some x ∧ w.cell? q = some y ∧ w.cell? r = some z) (g : Chg S w w') (hn : p.block ∉ S ∧ q.block ∉ S ∧ r.block ∉ S) :
    w'.cell? p = some x ∧ w'.cell? q = some y ∧ w'.cell? r = some z := ⟨g.cellv h.1 hn.1, g.cellv h.2.1 hn.2.1, g.cellv h.2.2 hn.2.2⟩
theorem step_append_1 {P : Program} {ops : Array Oper} {o : Oper} {a : Act} {w : World} {K : Act → World → Prop} {Q : Exit → Act → World → Prop} {E : Prop}
    (hg : o.guard = none) (s x : Operand) (t : TypeId) (ho : o.op = .call { callee := .builtin .append, args := #[s, x], argTypes := #[t, t] })
    (e : TypeId) (bytes : Nat) (helt : Elt P t e bytes)
    (B : Nat) (ao : Option Addr) (n c : Nat) (xs : List Value) (hs : a.eval s = .slice ao n c) (h : Room w B ao n c xs) (hB : B ≤ w.heap.size)
    (u : Value) (cx : Nat) (hxe : a.eval x = .slice (some ⟨w.heap.size, 0, none⟩) 1 cx) (hone : u.oneCell' = true)
    (h63 : n + 1 ≤ maxLen) (hbytes : (n + 1) * bytes ≤ 140737488355328)
    (hK : ∀ ao' c' w', Room w' B ao' (n + 1) c' (xs ++ [u]) → Chg (fp ao c) w w' → K (a.put o.dst (.slice ao' (n + 1) c')) w') :
    if Region.wanted o (yielded ops a.tmps) = true then Oper.wp P o a (w.alloc (.cells #[u] e)) K Q else E := by
  have hw : Region.wanted o (yielded ops a.tmps) = true := by simp [Region.wanted, hg]
  rw [if_pos hw]
  obtain ⟨ao', c', w', hr, h2, h3, _⟩ := run_append_k (P := P) (w.alloc (.cells #[u] e)) t o.type e bytes helt B ao n c xs (h.chg (Chg.alloc [] w _) (by simp)) (by simp; omega) (some ⟨w.heap.size, 0, none⟩) 1 cx [u] (Reads.new w #[u] e) rfl (by simpa using hone) h63 hbytes
  unfold Oper.wp execOp
  simp only [ho, resolve, invoke, builtin, Sem.run_bind, Sem.run_pure, Result.andThen_ok, List.map_toArray, List.map_cons, List.map_nil, hs, hxe, hr]
  exact hK _ _ _ h2 ((Chg.alloc [] w _).trans h3 (by simp) (fun k h _ => h))
theorem min3 (n0 n1 n2 : Nat) : ∃ n : Nat, n ≤ n0 ∧ n ≤ n1 ∧ n ≤ n2 ∧ ∀ w : World, (Builtin.min_ #[3, 3, 3] 3 #[.int .i64 n0, .int .i64 n1, .int .i64 n2]).run Tryd.prog w = .ok (.int .i64 n) w := by
  by_cases h1 : n1 < n0
  · by_cases h2 : n2 < n1
    · exact ⟨n2, by omega, by omega, by omega, fun w => by rw [run_min_int3]; simp; omega⟩
    · exact ⟨n1, by omega, by omega, by omega, fun w => by rw [run_min_int3]; simp; omega⟩
  · by_cases h2 : n2 < n0
    · exact ⟨n2, by omega, by omega, by omega, fun w => by rw [run_min_int3]; simp; omega⟩
    · exact ⟨n0, by omega, by omega, by omega, fun w => by rw [run_min_int3]; simp; omega⟩
/-- What each of the worlds of the last region bears. -/
structure KeptC (a0 a1 a2 : Option Addr) (l0 l1 l2 : List UInt8) (ao : Option Addr) (l : List UInt8) (W w : World) : Prop where
  tab : Tab w
  r0 : Reads w a0 (bts l0)
  r1 : Reads w a1 (bts l1)
  r2 : Reads w a2 (bts l2)
  rd : Reads w ao (bts l)
  chg : Chg [] W w
theorem KeptC.then {a0 a1 a2 : Option Addr} {l0 l1 l2 : List UInt8} {ao : Option Addr} {l : List UInt8} {W w w' : World} (h : KeptC a0 a1 a2 l0 l1 l2 ao l W w) (g : Chg [] w w') : KeptC a0 a1 a2 l0 l1 l2 ao l W w' :=
  ⟨h.tab.then g, h.r0.old g rfl, h.r1.old g rfl, h.r2.old g rfl, h.rd.old g rfl, h.chg.then g⟩
theorem run_take_k {P : Program} {t e : TypeId} (ao : Option Addr) (n c m : Nat) (ht : P.underlying t = some (.slice e)) (hs : (P.info? e).map (·.size) = some 1) (hc : m ≤ c) (w : World) :
    (Instr.slice t (.slice ao n c) none (some (.int .i64 (m : Int))) none).run P w = .ok (.slice ao m c) w := by
  have he : P.elem t = e := by simp [Program.elem, ht]
  rw [run_slice_h w t ao n c (by rw [he]; exact ht) .i64 (m : Int) (by omega) (by omega)]
  obtain ⟨i, hi, hi1⟩ := Option.map_eq_some_iff.1 hs
  cases ao <;> simp [sizeOf, typeInfo, he, hi, hi1, sliced, Addr.add]
theorem reads_lt {w : World} {ao : Option Addr} {xs : List Value} (g : Reads w ao xs) (j : Nat) (u : Value) (hu : xs[j]? = some u) : ∃ b o, ao = some ⟨b, o, none⟩ ∧ w.cell? ⟨b, o + j, none⟩ = some u ∧ b < w.heap.size := by
  obtain ⟨b, o, e, hc⟩ := g (by cases xs <;> simp at hu ⊢)
  exact ⟨b, o, e, hc j u hu, block_lt_of_cell (hc j u hu)⟩
set_option maxRecDepth 100000 in
set_option maxHeartbeats 1000000 in
theorem walk (a0 : Option Addr) (n0 c0 : Nat) (l0 : List UInt8) (a1 : Option Addr) (n1 c1 : Nat) (l1 : List UInt8) (a2 : Option Addr) (n2 c2 : Nat) (l2 : List UInt8) (w : World) (hT : Tab w)
    (g0 : Reads w a0 (bts l0)) (gn0 : l0.length = n0) (gc0 : n0 ≤ c0) (gr0 : c0 * 1 ≤ 140737488351232) (g1 : Reads w a1 (bts l1)) (gn1 : l1.length = n1) (gc1 : n1 ≤ c1) (gr1 : c1 * 1 ≤ 140737488351232) (g2 : Reads w a2 (bts l2)) (gn2 : l2.length = n2) (gc2 : n2 ≤ c2) (gr2 : c2 * 1 ≤ 140737488351232) :
    Calls Tryd.prog 8 #[.slice a0 n0 c0, .slice a1 n1 c1, .slice a2 n2 c2] w fun e w' => e = .returned (.bool true) ∧ Below w.heap.size w w' := by
  obtain ⟨n, hn0, hn1, hn2, hmin⟩ := min3 n0 n1 n2
  have hml : maxLen = 9223372036854775807 := rfl
  go_enter Tryd.func8, Tryd.ntmps8
  go_wp2_with fail
  go_loopw [8, 9] (fun s i wr => ∃ (k : Nat) (ao : Option Addr) (c : Nat), s = .slice ao k c ∧ i = .int .i64 k ∧ k ≤ n ∧ Room wr w.heap.size ao k c (bts (zip3 (l0.take k) (l1.take k) (l2.take k))) ∧ Chg [] w wr) (fun _ i _ => n - (intOf i).toNat)
  case atStart => exact ⟨0, none, 0, rfl, rfl, by omega, Room.nil _ _ _, Chg.refl _ _⟩
  case round =>
    obtain ⟨k, ao, c, rfl, rfl, hk, hr, hg⟩ := hrel
    by_cases hlt : k < n
    · obtain ⟨b0, o0, rfl, hc0, hb0⟩ := reads_lt g0 k _ (bts_get8 l0 k (by omega))
      obtain ⟨b1, o1, rfl, hc1, hb1⟩ := reads_lt g1 k _ (bts_get8 l1 k (by omega))
      obtain ⟨b2, o2, rfl, hc2, hb2⟩ := reads_lt g2 k _ (bts_get8 l2 k (by omega))
      have hz := zip_succ k l0 l1 l2 (by omega) (by omega) (by omega)
      obtain ⟨x, hx⟩ : ∃ x, x = l0[k]'(by omega) := ⟨_, rfl⟩
      obtain ⟨y, hy⟩ : ∃ y, y = l1[k]'(by omega) := ⟨_, rfl⟩
      obtain ⟨z, hzz⟩ : ∃ z, z = l2[k]'(by omega) := ⟨_, rfl⟩
      rw [← hx] at hc0 hz
      rw [← hy] at hc1 hz
      rw [← hzz] at hc2 hz
      have Hz := mkHid hz
      have d0 := hg.cellv hc0 (by simp)
      have d1 := hg.cellv hc1 (by simp)
      have d2 := hg.cellv hc2 (by simp)
      have hnm : b0 ∉ fp ao c ∧ b1 ∉ fp ao c ∧ b2 ∉ fp ao c := ⟨fun h => by have := (hr.lt _ h).1; omega, fun h => by have := (hr.lt _ h).1; omega, fun h => by have := (hr.lt _ h).1; omega⟩
      have Hnm := mkHid hnm
      have u1 := x8 x y
      have u2 := x8 (x ^^^ y) z
      clear hx hy hzz hz hc0 hc1 hc2 hnm
      have i0 : (k : Int) < (n0 : Int) := by omega
      have i1 : (k : Int) < (n1 : Int) := by omega
      have i2 : (k : Int) < (n2 : Int) := by omega
      have hbs := hg.size
      go_wp2_with fail
      go_region_held3 (fun w' => w'.cell? ⟨b0, o0 + k, none⟩ = some (.int .u8 (v8 x)) ∧ w'.cell? ⟨b1, o1 + k, none⟩ = some (.int .u8 (v8 y)) ∧ w'.cell? ⟨b2, o2 + k, none⟩ = some (.int .u8 (v8 z)))
        (first | exact keep3 ⟨d0, d1, d2⟩ (Chg.drew (fp ao c) _) Hnm.out | exact keep3 (by assumption) (Chg.alloc (fp ao c) _ _) Hnm.out | exact keep3 (keep3 ⟨d0, d1, d2⟩ (Chg.drew (fp ao c) _) Hnm.out) hg4 Hnm.out)
        (first | (refine step_append_1 rfl (.tmp 22) (.tmp 37) 23 rfl 5 1 eltB w.heap.size ao k c _ rfl (hr.chg (Chg.drew [] _) (by simp)) hbs (.int .u8 (v8 (x ^^^ y ^^^ z))) 1 rfl rfl (by omega) (by omega) ?_; intro ao4 c4 w4 hr4 hg4))
      clear d0 d1 d2 u1 u2 i0 i1 i2
      have hr4' : Room w4 w.heap.size ao4 (k + 1) c4 (bts (zip3 (l0.take (k + 1)) (l1.take (k + 1)) (l2.take (k + 1)))) := by rw [Hz.out, bts_append]; exact hr4
      have hgn : Chg [] w w4 := (hg.then (Chg.drew [] _)).own hg4 (hr.chg (Chg.drew [] _) (by simp))
      clear hr4
      go_wp2_with fail
      go_roundw
      case rel => exact ⟨k + 1, ao4, c4, rfl, by go_num, by omega, hr4', hgn⟩
      case measure => simp [intOf]; omega
    · have : k = n := by omega
      subst this
      have s0 := run_take_k (P := Tryd.prog) a0 n0 c0 k Tryd.underlying23 (by kernel_rfl) (by omega)
      have s1 := run_take_k (P := Tryd.prog) a1 n1 c1 k Tryd.underlying23 (by kernel_rfl) (by omega)
      have s2 := run_take_k (P := Tryd.prog) a2 n2 c2 k Tryd.underlying23 (by kernel_rfl) (by omega)
      have y0 : (l0.take k).length = k := by simp; omega
      have y1 : (l1.take k).length = k := by simp; omega
      have y2 : (l2.take k).length = k := by simp; omega
      have hc := csum_zip (l0.take k) (l1.take k) (l2.take k) (by omega) (by omega)
      have q0 := g0.take k
      have q1 := g1.take k
      have q2 := g2.take k
      rw [bts_take] at q0 q1 q2
      obtain ⟨m0, h0⟩ : ∃ m, l0.take k = m := ⟨_, rfl⟩
      obtain ⟨m1, h1⟩ : ∃ m, l1.take k = m := ⟨_, rfl⟩
      obtain ⟨m2, h2⟩ : ∃ m, l2.take k = m := ⟨_, rfl⟩
      rw [h0] at q0 y0 hc hr
      rw [h1] at q1 y1 hc hr
      rw [h2] at q2 y2 hc hr
      clear h0 h1 h2
      obtain ⟨m, hm⟩ : ∃ m, zip3 m0 m1 m2 = m := ⟨_, rfl⟩
      rw [hm] at hr hc
      have y := hr.len
      rw [bts_length] at y
      obtain ⟨A, hA⟩ : ∃ S, csum m0 = S := ⟨_, rfl⟩
      obtain ⟨B, hB⟩ : ∃ S, csum m1 = S := ⟨_, rfl⟩
      obtain ⟨C, hC⟩ : ∃ S, csum m2 = S := ⟨_, rfl⟩
      rw [hA, hB, hC] at hc
      have x1 := x32 A B
      have x2 := x32 (A ^^^ B) C
      have HA := mkHid hA
      have HB := mkHid hB
      have HC := mkHid hC
      have HS := mkHid hc
      have Y0 := mkHid y0
      have Y1 := mkHid y1
      have Y2 := mkHid y2
      have Y := mkHid y
      have hkm : k ≤ maxLen := by omega
      have hk0 : KeptC a0 a1 a2 m0 m1 m2 ao m w wr := ⟨hT.then hg, q0.old hg rfl, q1.old hg rfl, q2.old hg rfl, hr.reads, hg⟩
      clear hA hB hC hc y0 y1 y2 y hm q0 q1 q2
      go_wp2_with fail
      go_region_held3 (fun w' => KeptC a0 a1 a2 m0 m1 m2 ao m w w')
        (first | exact hk0.then (Chg.drew _ _) | exact KeptC.then (by assumption) (by assumption))
        (first | (go_at_call_of 10 ao; refine (sum_as ao k c m (A ^^^ B ^^^ C) HS.out _ (KeptC.tab (by assumption)) (KeptC.rd (by assumption)) Y.out hkm).mono ?_; rintro e w1 ⟨rfl, hg1⟩) | (go_at_call_of 10 a0; refine (sum_as a0 k c0 m0 A HA.out _ (KeptC.tab (by assumption)) (KeptC.r0 (by assumption)) Y0.out hkm).mono ?_; rintro e w2 ⟨rfl, hg2⟩) | (go_at_call_of 10 a1; refine (sum_as a1 k c1 m1 B HB.out _ (KeptC.tab (by assumption)) (KeptC.r1 (by assumption)) Y1.out hkm).mono ?_; rintro e w3 ⟨rfl, hg3⟩) | (go_at_call_of 10 a2; refine (sum_as a2 k c2 m2 C HC.out _ (KeptC.tab (by assumption)) (KeptC.r2 (by assumption)) Y2.out hkm).mono ?_; rintro e w4 ⟨rfl, hg4⟩) | (go_at_call 14; refine (wakes_any _ (KeptC.tab (by assumption))).mono ?_; rintro e w5 ⟨rfl, hg5⟩))
      have hk5 : KeptC a0 a1 a2 m0 m1 m2 ao m w w5 := by assumption
      go_wp2_with fail
      go_ret
      exact ⟨rfl, hk5.chg.below (Nat.le_refl _) (by simp)⟩

theorem own : ownKnob Tryd.prog.godebug = none := by kernel_rfl
theorem laidOut : laidOutB Tryd.prog = true := by kernel_rfl
noncomputable def laidWorld (os : Os) : World :=
  { World.holding Tryd.prog os ⟨#[], #[], []⟩ with heap := (World.holding Tryd.prog os ⟨#[], #[], []⟩).heap.modify 0 fun
      | .cells _ t frozen => .cells #[.int .u8 0, .int .u8 1, .int .u8 28, .int .u8 2, .int .u8 29, .int .u8 14, .int .u8 24, .int .u8 3, .int .u8 30, .int .u8 22, .int .u8 20, .int .u8 15, .int .u8 25, .int .u8 17, .int .u8 4, .int .u8 8, .int .u8 31, .int .u8 27, .int .u8 13, .int .u8 23, .int .u8 21, .int .u8 19, .int .u8 16, .int .u8 7, .int .u8 26, .int .u8 12, .int .u8 18, .int .u8 6, .int .u8 11, .int .u8 5, .int .u8 10, .int .u8 9] t frozen
      | o => o }
theorem laid_met (os : Os) : laidMet Tryd.prog Rows.crcCombinesRow.laid ((laidWorld os).forCall (fun _ _ => 0) ⟨#[], #[.slice none 0 0, .slice none 0 0, .slice none 0 0], []⟩).memory :=
  laidMet_of_run' 8 (by kernel_rfl) (by kernel_rfl)
theorem reads (os : Os) {H : Type} (enc : TypeId × Value → H) : ∃ places, DataW.whole enc Tryd.prog ((laidWorld os).forCall (fun _ _ => 0) ⟨#[], #[.slice none 0 0, .slice none 0 0, .slice none 0 0], []⟩).memory Tryd.f8.params.toList Rows.crcCombinesSpec.vars false (#[.slice none 0 0, .slice none 0 0, .slice none 0 0] : Array Value).toList 8 = some ([.nil, .nil, .nil], [], places) :=
  ⟨[], by kernel_rfl⟩
set_option maxRecDepth 100000 in
theorem lifted (os : Os) (started : os.Started) (H : Type) (enc : TypeId × Value → H) (F : Stop.Interp) :
    ReturnsInHanded {} Tryd.checked os 8 .any ((OpenSpec.ofChange Rows.crcCombinesSpec).preRow enc Tryd.prog Tryd.f8 Rows.crcCombinesRow.domain false Rows.crcCombinesRow.laid) (((OpenSpec.ofChange Rows.crcCombinesSpec).at F).post enc Tryd.prog Tryd.f8 false true false false) := by
  obtain ⟨places, hx⟩ := reads os enc
  refine returnsInHanded_of_row (C := Tryd.checked) (s := OpenSpec.ofChange Rows.crcCombinesSpec) own started (by kernel_rfl) Tryd.func8
    (witness_row_at (enc := enc) (C := Tryd.checked) false (laidWorld os) #[.slice none 0 0, .slice none 0 0, .slice none 0 0] rfl (by kernel_rfl) (by kernel_rfl) (by kernel_rfl)
      (OpenSpec.preRow_of_cond 8 hx (by kernel_rfl) (fun k hk => by cases hk) (by kernel_rfl) (laid_met os))) ?_
  intro W base args ds gs before hval0 hW _ _ hsz0 hL _ _
  have hT : Tab W := tab_of (by kernel_rfl) hL
  have hsz : (DataW.weightsEach Tryd.prog (Tryd.f8.params.toList ++ Rows.crcCombinesSpec.plain.varTypes Tryd.prog) (ds ++ gs)).all (· ≤ reachBytes) = true := hsz0
  have hval : ∀ (j : Nat) t v, Tryd.f8.params[j]? = some t → args[j]? = some v → Value.okWide Tryd.prog W .any base t v := hval0
  have hW' := hW
  obtain ⟨p, q, hA0, hV, rfl, hfz, hnd⟩ := hW
  have hA : DataW.TrodAll enc Tryd.prog W 0 (fun _ => true) true Tryd.f8.params.toList args.toList ds p := hA0
  rw [Tryd.params8] at hA hval hsz
  obtain ⟨v0, vs0, d0, ds0, p0, q0, hargs, rfl, rfl, h0, r0⟩ := trodAll_cons hA
  obtain ⟨v1, vs1, d1, ds1, p1, q1, rfl, rfl, rfl, h1, r1⟩ := trodAll_cons r0
  obtain ⟨v2, vs2, d2, ds2, p2, q2, rfl, rfl, rfl, h2, r2⟩ := trodAll_cons r1
  obtain ⟨rfl, rfl, rfl⟩ := trodAll_nil r2
  obtain rfl : args = #[v0, v1, v2] := by cases args; simp_all
  obtain ⟨rfl, rfl⟩ := trodVars_none hV
  have k0 := h0
  have lt0 : ∀ x ∈ p0, x.block < W.heap.size := by obtain ⟨m, hm⟩ := k0; exact DataW.trod_lt m _ _ _ hm
  have k1 := h1
  have lt1 : ∀ x ∈ p1, x.block < W.heap.size := by obtain ⟨m, hm⟩ := k1; exact DataW.trod_lt m _ _ _ hm
  have k2 := h2
  have lt2 : ∀ x ∈ p2, x.block < W.heap.size := by obtain ⟨m, hm⟩ := k2; exact DataW.trod_lt m _ _ _ hm
  obtain ⟨a0, n0, c0, rfl⟩ := okWide_slice Tryd.underlying23 (hval 0 23 v0 rfl rfl)
  obtain ⟨l0, g0, gn0, gc0, gm0, gd0⟩ := opened_bytes Tryd.underlying23 Tryd.underlying5 (by kernel_rfl) h0
  have gr0 := (sized_of hsz (j := 0) (t := 23) rfl rfl).slice Tryd.underlying23 (by kernel_rfl : Tryd.prog.bytesOf 5 = 1) gd0
  obtain ⟨a1, n1, c1, rfl⟩ := okWide_slice Tryd.underlying23 (hval 1 23 v1 rfl rfl)
  obtain ⟨l1, g1, gn1, gc1, gm1, gd1⟩ := opened_bytes Tryd.underlying23 Tryd.underlying5 (by kernel_rfl) h1
  have gr1 := (sized_of hsz (j := 1) (t := 23) rfl rfl).slice Tryd.underlying23 (by kernel_rfl : Tryd.prog.bytesOf 5 = 1) gd1
  obtain ⟨a2, n2, c2, rfl⟩ := okWide_slice Tryd.underlying23 (hval 2 23 v2 rfl rfl)
  obtain ⟨l2, g2, gn2, gc2, gm2, gd2⟩ := opened_bytes Tryd.underlying23 Tryd.underlying5 (by kernel_rfl) h2
  have gr2 := (sized_of hsz (j := 2) (t := 23) rfl rfl).slice Tryd.underlying23 (by kernel_rfl : Tryd.prog.bytesOf 5 = 1) gd2
  refine (walk a0 n0 c0 l0 a1 n1 c1 l1 a2 n2 c2 l2 W hT g0 gn0 gc0 gr0 g1 gn1 gc1 gr1 g2 gn2 gc2 gr2).mono fun e W' ⟨he, bel⟩ => ?_
  subst he
  exact ⟨_, rfl, _, _, _, [], _, [], hW', trodAll_mk1 (shut_bool Tryd.underlying4 _), (trodAll_cons_mk (Below.trod laidOut (by kernel_rfl) (of_decide_eq_true (by kernel_rfl)) k0 bel lt0) (trodAll_cons_mk (Below.trod laidOut (by kernel_rfl) (of_decide_eq_true (by kernel_rfl)) k1 bel lt1) (trodAll_cons_mk (Below.trod laidOut (by kernel_rfl) (of_decide_eq_true (by kernel_rfl)) k2 bel lt2) trodAll_mk0))), rfl, bel.frame _, fun h => by cases h⟩
theorem said : Rows.CrcCombinesSaid :=
  OpenClaim.holds_of_cond 8 Tryd.f8 rfl rfl rfl rfl rfl rfl rfl ⟨rfl, rfl, rfl, rfl, rfl⟩ rfl rfl rfl rfl rfl (by kernel_rfl) Tryd.func8 (by kernel_rfl)
    (of_decide_eq_true (by kernel_rfl)) (by unfold Func.isWrapper; first | (rw [if_pos (by decide +kernel)]; kernel_rfl) | (rw [if_neg (by decide +kernel)]; exact ⟨rfl, rfl⟩))
    (fun os started H enc _ F => by rw [OpenClaim.pre_eq_preRow]; exact lifted os started H enc F)
theorem plain (f : FuncId) (fn : Func) (hf : Tryd.pinned.checked.prog.funcNamed Rows.crcCombinesRow.func = some f) (hfn : Tryd.pinned.checked.prog.funcs[f]? = some fn) :
    false = Tryd.pinned.checked.prog.looks [] ∧ ∀ (j : Nat) t, fn.params[j]? = some t → Tryd.pinned.checked.prog.wantsStandIn t = false := by
  obtain rfl : f = 8 := Option.some.inj ((show Tryd.prog.funcNamed Rows.crcCombinesRow.func = some 8 by kernel_rfl).symm.trans hf) |>.symm
  obtain rfl : fn = Tryd.f8 := (Option.some.inj (Tryd.func8.symm.trans hfn)).symm
  refine ⟨by kernel_rfl, fun j t ht => ?_⟩
  rw [Tryd.params8] at ht
  have hm := Array.mem_of_getElem? ht
  simp at hm
  have hall : Tryd.prog.wantsStandIn 23 = false := by kernel_rfl
  subst hm
  exact hall
theorem proved : Rows.CrcCombinesCardSaid :=
  Claim7.holds_tied_plain_at .later [] _ _ _ _ said (fun _ h => by cases h) (by kernel_rfl) (fun _ h => by cases h) crcCombines_row_tie rfl ⟨rfl, rfl⟩ (by kernel_rfl) rfl plain (by kernel_rfl)
#print axioms proved
end Go.Proofs.YtaknbgiahlgpiaaDoor.crcCombines
