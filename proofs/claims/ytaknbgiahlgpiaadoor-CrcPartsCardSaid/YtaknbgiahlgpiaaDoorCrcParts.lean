/- A text in three parts has the sum of the whole, gone on with or joined in either brackets, for every text and every two places. The row lists one table of the library (math/bits), tied to its text. No other condition. -/
import Derived.Test.YtaknbgiahlgpiaaDoorF
import Derived.Test.YtaknbgiahlgpiaaDoorG
import Derived.Test.YtaknbgiahlgpiaaDoorH
import Derived.Test.YtaknbgiahlgpiaaDoorCards
import Derived.Test.YtaknbgiahlgpiaaDoorTie
import Derived.ProofKit
import Derived.OpenShut
import Derived.SizedLaws
import Derived.Carry
import Derived.Deep.DeepHandedRow
import Derived.Lib.SmallJoins
import Derived.Deep.DeepCutAuto
namespace Go.Proofs.YtaknbgiahlgpiaaDoor.crcParts
open Go.ChangeShapes Go.WideShapes Go.ChangeAt Go.RowKit
set_option linter.unusedVariables false
set_option linter.unusedSimpArgs false
theorem parts_more (x y z l : List UInt8) (h : l = x ++ (y ++ z)) : more (more (csum x) y) z = csum l := by
  rw [h, ← List.append_assoc, csum, csum, more_append, more_append]
theorem parts_left (x y z l : List UInt8) (h : l = x ++ (y ++ z)) : it (8 * z.length) (it (8 * y.length) (csum x) ^^^ csum y) ^^^ csum z = csum l := by
  rw [h, ← List.append_assoc, csum_append, csum_append]
theorem parts_right (x y z l : List UInt8) (h : l = x ++ (y ++ z)) : it (8 * (y.length + z.length)) (csum x) ^^^ (it (8 * z.length) (csum y) ^^^ csum z) = csum l := by
  rw [h, csum_append x, csum_append y, List.length_append]
theorem run_range_k {P : Program} {t e : TypeId} (ao : Option Addr) (n c l m : Nat) (H : Int) (hH : H = (l : Int) + (m : Int)) (ht : P.underlying t = some (.slice e)) (hs : (P.info? e).map (·.size) = some 1) (hc : l + m ≤ c) (w : World) :
    (Instr.slice t (.slice ao n c) (some (.int .i64 (l : Int))) (some (.int .i64 H)) none).run P w = .ok (.slice (cut ao c l) m (c - l)) w := by
  subst hH
  have he : P.elem t = e := by simp [Program.elem, ht]
  rw [run_slice_lh w t ao n c (by rw [he]; exact ht) .i64 .i64 (l : Int) ((l : Int) + (m : Int)) (by omega) (by omega) (by omega), he]
  obtain ⟨i, hi, hi1⟩ := Option.map_eq_some_iff.1 hs
  have e1 : ((l : Int) + (m : Int)).toNat = l + m := by omega
  simp [sizeOf, typeInfo, hi, hi1, sliced, cut, e1]
theorem run_take_k {P : Program} {t e : TypeId} (ao : Option Addr) (n c m : Nat) (ht : P.underlying t = some (.slice e)) (hs : (P.info? e).map (·.size) = some 1) (hc : m ≤ c) (w : World) :
    (Instr.slice t (.slice ao n c) none (some (.int .i64 (m : Int))) none).run P w = .ok (.slice ao m c) w := by
  have he : P.elem t = e := by simp [Program.elem, ht]
  rw [run_slice_h w t ao n c (by rw [he]; exact ht) .i64 (m : Int) (by omega) (by omega)]
  obtain ⟨i, hi, hi1⟩ := Option.map_eq_some_iff.1 hs
  cases ao <;> simp [sizeOf, typeInfo, he, hi, hi1, sliced, Addr.add]
theorem place (z : Int) (n : Nat) (h1 : -9223372036854775808 ≤ z) (h2 : z ≤ 9223372036854775807) (hn : n < 9223372036854775807) : ∃ I : Nat, I ≤ n ∧ wrap64 ((IntKind.u64.wrap z).tmod ((n : Int) + 1)) = (I : Int) := by
  have hu : 0 ≤ IntKind.u64.wrap z := by rw [IntKind.wrap_u64]; omega
  rw [Int.tmod_eq_emod_of_nonneg hu]
  have hp : 0 < (n : Int) + 1 := by omega
  have ha := Int.emod_nonneg (IntKind.u64.wrap z) (show (n : Int) + 1 ≠ 0 by omega)
  have hb := Int.emod_lt_of_pos (IntKind.u64.wrap z) hp
  refine ⟨(IntKind.u64.wrap z % ((n : Int) + 1)).toNat, by omega, ?_⟩
  unfold wrap64
  omega
theorem joined_nat (x y : BitVec 32) (X Y : Int) (hX : X = v32 x) (hY : Y = v32 y) (z : Int) (hz : z < 9223372036854775808) (N : Nat) (hN : z.toNat = N) (J : BitVec 32) (hJ : it (8 * N) x ^^^ y = J) (w : World) (hT : Tab w) :
    Calls Tryd.prog 15 #[.int .u32 X, .int .u32 Y, .int .i64 z] w fun e w' => e = .returned (.int .u32 (v32 J)) ∧ Chg [] w w' := by
  subst hN
  exact joined_as x y X Y hX hY z hz J hJ w hT
/-- What each of the worlds of a region bears. -/
structure Kept (a0 : Option Addr) (l0 : List UInt8) (W w : World) : Prop where
  tab : Tab w
  rd : Reads w a0 (bts l0)
  chg : Chg [] W w
theorem Kept.then {a0 : Option Addr} {l0 : List UInt8} {W w w' : World} (h : Kept a0 l0 W w) (g : Chg [] w w') : Kept a0 l0 W w' := ⟨h.tab.then g, h.rd.old g rfl, h.chg.then g⟩
theorem Kept.first {a0 : Option Addr} {l0 : List UInt8} {W w : World} (h : Kept a0 l0 W w) (I : Nat) : Reads w a0 (bts (l0.take I)) := by rw [← bts_take]; exact h.rd.take I
theorem Kept.last {a0 : Option Addr} {l0 : List UInt8} {W w : World} (h : Kept a0 l0 W w) (c K : Nat) (hc : l0.length ≤ c) : Reads w (cut a0 c K) (bts (l0.drop K)) := by rw [← bts_drop]; exact h.rd.cut c K (by rw [bts_length]; exact hc)
theorem Kept.mid {a0 : Option Addr} {l0 : List UInt8} {W w : World} (h : Kept a0 l0 W w) (c I m : Nat) (hc : l0.length ≤ c) : Reads w (cut a0 c I) (bts ((l0.drop I).take m)) := by rw [← bts_take]; exact (h.last c I hc).take m
set_option maxRecDepth 100000 in
set_option maxHeartbeats 1000000 in
theorem core (a0 : Option Addr) (n0 c0 : Nat) (l0 : List UInt8) (z0 z1 : Int) (w : World) (hT : Tab w) (g : Reads w a0 (bts l0)) (gn : l0.length = n0) (gc : n0 ≤ c0) (gr : c0 * 1 ≤ 140737488351232) (g0 : (Lit.int .i64 z0).wf = true) (g1 : (Lit.int .i64 z1).wf = true) :
    Calls Tryd.prog 6 #[.slice a0 n0 c0, .agg #[.int .i64 z0, .int .i64 z1]] w fun e w' => e = .returned (.bool true) ∧ Below w.heap.size w w' := by
  have b0 := Go.bounds_i64 g0
  have b1 := Go.bounds_i64 g1
  obtain ⟨I, hI, hI2⟩ := place z0 n0 (by omega) (by omega) (by omega)
  obtain ⟨K, hK, hK2⟩ := place z1 n0 (by omega) (by omega) (by omega)
  clear g0 g1 b0 b1
  obtain ⟨Ws, hWs⟩ : ∃ Ws, csum l0 = Ws := ⟨_, rfl⟩
  go_enter Tryd.func6, Tryd.ntmps6
  go_upto_if 34 with fail
  simp only [hI2, hK2]
  generalize hW : w.alloc _ = W
  have hgW : Chg [] w W := by subst hW; exact Chg.alloc [] _ _
  clear hW hI2 hK2
  go_cut [5, 6, 35, 36] (fun i k _ _ wx => ∃ I K : Nat, i = .int .i64 I ∧ k = .int .i64 K ∧ I ≤ K ∧ K ≤ n0 ∧ W = wx)
  case first =>
    by_cases h : K < I
    · go_wp2_with fail
      go_meet
      exact ⟨K, I, rfl, rfl, by omega, hI, rfl⟩
    · go_wp2_with fail
      go_meet
      exact ⟨I, K, rfl, rfl, by omega, hK, rfl⟩
  case rest =>
    obtain ⟨I, K, rfl, rfl, hIK, hKn, rfl⟩ := hcut
    obtain ⟨m, hm⟩ : ∃ m, I + m = K := ⟨K - I, by omega⟩
    have hml : maxLen = 9223372036854775807 := rfl
    have s1 := run_take_k (P := Tryd.prog) a0 n0 c0 I Tryd.underlying23 (by kernel_rfl) (by omega)
    have s2 := run_range_k (P := Tryd.prog) a0 n0 c0 I m ((K : Nat) : Int) (by omega) Tryd.underlying23 (by kernel_rfl) (by omega)
    have s3 := run_from_k (P := Tryd.prog) a0 n0 c0 K Tryd.underlying23 (by kernel_rfl) hKn
    have lx : (l0.take I).length = I := by simp; omega
    have ly : ((l0.drop I).take m).length = m := by simp; omega
    have lz : (l0.drop K).length = n0 - K := by simp; omega
    have hl : l0 = l0.take I ++ ((l0.drop I).take m ++ l0.drop K) := by rw [← hm, ← List.drop_drop, List.take_append_drop, List.take_append_drop]
    have hk0 : Kept a0 l0 W W := ⟨hT.then hgW, g.old hgW rfl, Chg.refl _ _⟩
    have eM := parts_more _ _ _ _ hl
    have eL := parts_left _ _ _ _ hl
    have eR := parts_right _ _ _ _ hl
    rw [lz, ly] at eL eR
    obtain ⟨x, hx⟩ : ∃ x, x = l0.take I := ⟨_, rfl⟩
    obtain ⟨y, hy⟩ : ∃ y, y = (l0.drop I).take m := ⟨_, rfl⟩
    obtain ⟨z, hz⟩ : ∃ z, z = l0.drop K := ⟨_, rfl⟩
    have rx := fun w' (h : Kept a0 l0 W w') => h.first I
    have ry := fun w' (h : Kept a0 l0 W w') => h.mid c0 I m (by omega)
    have rz := fun w' (h : Kept a0 l0 W w') => h.last c0 K (by omega)
    rw [← hx, ← hy, ← hz] at eM eL eR
    rw [← hx] at lx rx
    rw [← hy] at ly ry
    rw [← hz] at lz rz
    clear hl hx hy hz
    obtain ⟨X, hX⟩ : ∃ S, csum x = S := ⟨_, rfl⟩
    obtain ⟨Y, hY⟩ : ∃ S, csum y = S := ⟨_, rfl⟩
    obtain ⟨Z, hZ⟩ : ∃ S, csum z = S := ⟨_, rfl⟩
    obtain ⟨M, hM⟩ : ∃ S, more X y = S := ⟨_, rfl⟩
    obtain ⟨L, hL⟩ : ∃ S, it (8 * (m : Int).toNat) X ^^^ Y = S := ⟨_, rfl⟩
    obtain ⟨R, hR⟩ : ∃ S, it (8 * ((n0 - K : Nat) : Int).toNat) Y ^^^ Z = S := ⟨_, rfl⟩
    rw [hWs, hX, hM] at eM
    rw [hWs, hX, hY, hZ, show it (8 * m) X ^^^ Y = L from hL] at eL
    rw [hWs, hX, hY, hZ, show it (8 * (n0 - K)) Y ^^^ Z = R from hR, show m + (n0 - K) = n0 - I by omega] at eR
    have HX := mkHid hX
    have HY := mkHid hY
    have HZ := mkHid hZ
    have HM := mkHid hM
    have HL := mkHid hL
    have HR := mkHid hR
    have EM := mkHid eM
    have EL := mkHid eL
    have ER := mkHid eR
    have HW := mkHid hWs
    have LX := mkHid lx
    have LY := mkHid ly
    have LZ := mkHid lz
    have n1 : I ≤ maxLen := by omega
    have n2 : m ≤ maxLen := by omega
    have n3 : n0 - K ≤ maxLen := by omega
    have n4 : n0 ≤ maxLen := by omega
    have Hm := mkHid hm
    clear hX hY hZ hM hL hR eM eL eR hWs lx ly lz hm
    generalize hcy : cut a0 c0 I = ay at *
    generalize hcz : cut a0 c0 K = az at *
    go_wp2_with fail
    go_region_held3 (fun w' => Kept a0 l0 W w')
      (first | exact hk0.then (Chg.drew _ _) | exact Kept.then (by assumption) (by assumption))
      (first | (go_at_call_of 10 a0; refine (sum_as a0 I c0 x X HX.out _ (Kept.tab (by assumption)) (rx _ (by assumption)) LX.out n1).mono ?_; rintro e w1 ⟨rfl, hg1⟩) | (go_at_call_of 10 ay; refine (sum_as ay m (c0 - I) y Y HY.out _ (Kept.tab (by assumption)) (ry _ (by assumption)) LY.out n2).mono ?_; rintro e w2 ⟨rfl, hg2⟩) | (go_at_call_of 10 az; refine (sum_as az (n0 - K) (c0 - K) z Z HZ.out _ (Kept.tab (by assumption)) (rz _ (by assumption)) LZ.out n3).mono ?_; rintro e w3 ⟨rfl, hg3⟩))
    have hk3 : Kept a0 l0 W w3 := by assumption
    clear hg1 hg2 hg3
    go_wp2_with fail
    refine (sum_as a0 n0 c0 l0 Ws HW.out w3 hk3.tab hk3.rd gn n4).mono ?_
    rintro e w4 ⟨rfl, hg4⟩
    have hk4 := hk3.then hg4
    clear hk3 hg4
    go_wp2_with fail
    go_region_held3 (fun w' => Kept a0 l0 W w')
      (first | exact hk4.then (Chg.drew _ _) | exact Kept.then (by assumption) (by assumption))
      (first | (go_at_call_of 12 ay; refine (more_as X _ rfl ay m (c0 - I) y M HM.out _ (Kept.tab (by assumption)) (ry _ (by assumption)) LY.out n2).mono ?_; rintro e w5 ⟨rfl, hg5⟩) | (go_at_call_of 12 az; refine (more_as M _ rfl az (n0 - K) (c0 - K) z Ws EM.out _ (Kept.tab (by assumption)) (rz _ (by assumption)) LZ.out n3).mono ?_; rintro e w6 ⟨rfl, hg6⟩))
    have hk6 : Kept a0 l0 W w6 := by assumption
    clear hg5 hg6
    go_wp2_with fail
    have hm := Hm.out
    refine (joined_nat X Y _ _ rfl rfl _ (by omega) m (by omega) L HL.out w6 hk6.tab).mono ?_
    rintro e w7 ⟨rfl, hg7⟩
    have hk7 := hk6.then hg7
    go_wp2_with fail
    refine (joined_nat L Z _ _ rfl rfl _ (by omega) (n0 - K) (by omega) Ws EL.out w7 hk7.tab).mono ?_
    rintro e w8 ⟨rfl, hg8⟩
    have hk8 := hk7.then hg8
    go_wp2_with fail
    refine (joined_nat Y Z _ _ rfl rfl _ (by omega) (n0 - K) (by omega) R HR.out w8 hk8.tab).mono ?_
    rintro e w9 ⟨rfl, hg9⟩
    have hk9 := hk8.then hg9
    go_wp2_with fail
    refine (joined_nat X R _ _ rfl rfl _ (by omega) (n0 - I) (by omega) Ws ER.out w9 hk9.tab).mono ?_
    rintro e w10 ⟨rfl, hg10⟩
    have hk10 := hk9.then hg10
    clear hg7 hg8 hg9 hg10 hk6 hk7 hk8 hk9 hm
    go_wp2_with fail
    refine (wakes_any w10 hk10.tab).mono ?_
    rintro e w11 ⟨rfl, hg11⟩
    go_wp2_with fail
    go_ret
    exact ⟨rfl, ((hgW.then hk10.chg).then hg11).below (Nat.le_refl _) (by simp)⟩
theorem walk {H : Type} {enc : TypeId × Value → H} {base : Nat} (a0 : Option Addr) (n0 c0 : Nat) (l0 : List UInt8) (v : Value) (W : World) (hT : Tab W) (g : Reads W a0 (bts l0)) (gn : l0.length = n0) (gc : n0 ≤ c0) (gr : c0 * 1 ≤ 140737488351232) {d : DataW H} {p : List MemPlace} (k : DataW.Trod enc Tryd.prog W 0 (fun _ => true) true 32 v d p) (hv : Value.okWide Tryd.prog W .any base 32 v) (hs : Sized Tryd.prog 32 d) :
    Calls Tryd.prog 6 #[.slice a0 n0 c0, v] W fun e w' => e = .returned (.bool true) ∧ Below W.heap.size W w' := by
  obtain ⟨zs, rfl, hl, hw⟩ := open_arr_ints Tryd.underlying32 Tryd.underlying3 (by kernel_rfl) (by kernel_rfl) hv k
  match zs, hl, hw with
  | [z0, z1], _, hw => exact core a0 n0 c0 l0 z0 z1 W hT g gn gc gr (hw z0 (by simp)) (hw z1 (by simp))

theorem own : ownKnob Tryd.prog.godebug = none := by kernel_rfl
theorem laidOut : laidOutB Tryd.prog = true := by kernel_rfl
noncomputable def laidWorld (os : Os) : World :=
  { World.holding Tryd.prog os ⟨#[], #[], []⟩ with heap := (World.holding Tryd.prog os ⟨#[], #[], []⟩).heap.modify 0 fun
      | .cells _ t frozen => .cells #[.int .u8 0, .int .u8 1, .int .u8 28, .int .u8 2, .int .u8 29, .int .u8 14, .int .u8 24, .int .u8 3, .int .u8 30, .int .u8 22, .int .u8 20, .int .u8 15, .int .u8 25, .int .u8 17, .int .u8 4, .int .u8 8, .int .u8 31, .int .u8 27, .int .u8 13, .int .u8 23, .int .u8 21, .int .u8 19, .int .u8 16, .int .u8 7, .int .u8 26, .int .u8 12, .int .u8 18, .int .u8 6, .int .u8 11, .int .u8 5, .int .u8 10, .int .u8 9] t frozen
      | o => o }
theorem laid_met (os : Os) : laidMet Tryd.prog Rows.crcPartsRow.laid ((laidWorld os).forCall (fun _ _ => 0) ⟨#[], #[.slice none 0 0, .agg #[.int .i64 0, .int .i64 0]], []⟩).memory :=
  laidMet_of_run' 8 (by kernel_rfl) (by kernel_rfl)
theorem reads (os : Os) {H : Type} (enc : TypeId × Value → H) : ∃ places, DataW.whole enc Tryd.prog ((laidWorld os).forCall (fun _ _ => 0) ⟨#[], #[.slice none 0 0, .agg #[.int .i64 0, .int .i64 0]], []⟩).memory Tryd.f6.params.toList Rows.crcPartsSpec.vars false (#[.slice none 0 0, .agg #[.int .i64 0, .int .i64 0]] : Array Value).toList 8 = some ([.nil, .agg [.lit (.int .i64 0), .lit (.int .i64 0)]], [], places) :=
  ⟨[], by kernel_rfl⟩
set_option maxRecDepth 100000 in
theorem lifted (os : Os) (started : os.Started) (H : Type) (enc : TypeId × Value → H) (F : Stop.Interp) :
    ReturnsInHanded {} Tryd.checked os 6 .any ((OpenSpec.ofChange Rows.crcPartsSpec).preRow enc Tryd.prog Tryd.f6 Rows.crcPartsRow.domain false Rows.crcPartsRow.laid) (((OpenSpec.ofChange Rows.crcPartsSpec).at F).post enc Tryd.prog Tryd.f6 false true false false) := by
  obtain ⟨places, hx⟩ := reads os enc
  refine returnsInHanded_of_row (C := Tryd.checked) (s := OpenSpec.ofChange Rows.crcPartsSpec) own started (by kernel_rfl) Tryd.func6
    (witness_row_at (enc := enc) (C := Tryd.checked) false (laidWorld os) #[.slice none 0 0, .agg #[.int .i64 0, .int .i64 0]] rfl (by kernel_rfl) (by kernel_rfl) (by kernel_rfl)
      (OpenSpec.preRow_of_cond 8 hx (by kernel_rfl) (fun k hk => by cases hk) (by kernel_rfl) (laid_met os))) ?_
  intro W base args ds gs before hval0 hW _ _ hsz0 hL _ _
  have hT : Tab W := tab_of (by kernel_rfl) hL
  have hsz : (DataW.weightsEach Tryd.prog (Tryd.f6.params.toList ++ Rows.crcPartsSpec.plain.varTypes Tryd.prog) (ds ++ gs)).all (· ≤ reachBytes) = true := hsz0
  have hval : ∀ (j : Nat) t v, Tryd.f6.params[j]? = some t → args[j]? = some v → Value.okWide Tryd.prog W .any base t v := hval0
  have hW' := hW
  obtain ⟨p, q, hA0, hV, rfl, hfz, hnd⟩ := hW
  have hA : DataW.TrodAll enc Tryd.prog W 0 (fun _ => true) true Tryd.f6.params.toList args.toList ds p := hA0
  rw [Tryd.params6] at hA hval hsz
  obtain ⟨v0, vs0, d0, ds0, p0, q0, hargs, rfl, rfl, h0, r0⟩ := trodAll_cons hA
  obtain ⟨v1, vs1, d1, ds1, p1, q1, rfl, rfl, rfl, h1, r1⟩ := trodAll_cons r0
  obtain ⟨rfl, rfl, rfl⟩ := trodAll_nil r1
  obtain rfl : args = #[v0, v1] := by cases args; simp_all
  obtain ⟨rfl, rfl⟩ := trodVars_none hV
  have k0 := h0
  have lt0 : ∀ x ∈ p0, x.block < W.heap.size := by obtain ⟨m, hm⟩ := k0; exact DataW.trod_lt m _ _ _ hm
  have k1 := h1
  have lt1 : ∀ x ∈ p1, x.block < W.heap.size := by obtain ⟨m, hm⟩ := k1; exact DataW.trod_lt m _ _ _ hm
  obtain ⟨a0, n0, c0, rfl⟩ := okWide_slice Tryd.underlying23 (hval 0 23 v0 rfl rfl)
  obtain ⟨l0, g0, gn0, gc0, gm0, gd0⟩ := opened_bytes Tryd.underlying23 Tryd.underlying5 (by kernel_rfl) h0
  have gr0 := (sized_of hsz (j := 0) (t := 23) rfl rfl).slice Tryd.underlying23 (by kernel_rfl : Tryd.prog.bytesOf 5 = 1) gd0
  refine (walk a0 n0 c0 l0 v1 W hT g0 gn0 gc0 gr0 k1 (hval 1 32 v1 rfl rfl) (sized_of hsz (j := 1) (t := 32) rfl rfl)).mono fun e W' ⟨he, bel⟩ => ?_
  subst he
  exact ⟨_, rfl, _, _, _, [], _, [], hW', trodAll_mk1 (shut_bool Tryd.underlying4 _), (trodAll_cons_mk (Below.trod laidOut (by kernel_rfl) (of_decide_eq_true (by kernel_rfl)) k0 bel lt0) (trodAll_cons_mk (Below.trod laidOut (by kernel_rfl) (of_decide_eq_true (by kernel_rfl)) k1 bel lt1) trodAll_mk0)), rfl, bel.frame _, fun h => by cases h⟩
theorem said : Rows.CrcPartsSaid :=
  OpenClaim.holds_of_cond 6 Tryd.f6 rfl rfl rfl rfl rfl rfl rfl ⟨rfl, rfl, rfl, rfl, rfl⟩ rfl rfl rfl rfl rfl (by kernel_rfl) Tryd.func6 (by kernel_rfl)
    (of_decide_eq_true (by kernel_rfl)) (by unfold Func.isWrapper; first | (rw [if_pos (by decide +kernel)]; kernel_rfl) | (rw [if_neg (by decide +kernel)]; exact ⟨rfl, rfl⟩))
    (fun os started H enc _ F => by rw [OpenClaim.pre_eq_preRow]; exact lifted os started H enc F)
theorem plain (f : FuncId) (fn : Func) (hf : Tryd.pinned.checked.prog.funcNamed Rows.crcPartsRow.func = some f) (hfn : Tryd.pinned.checked.prog.funcs[f]? = some fn) :
    false = Tryd.pinned.checked.prog.looks [] ∧ ∀ (j : Nat) t, fn.params[j]? = some t → Tryd.pinned.checked.prog.wantsStandIn t = false := by
  obtain rfl : f = 6 := Option.some.inj ((show Tryd.prog.funcNamed Rows.crcPartsRow.func = some 6 by kernel_rfl).symm.trans hf) |>.symm
  obtain rfl : fn = Tryd.f6 := (Option.some.inj (Tryd.func6.symm.trans hfn)).symm
  refine ⟨by kernel_rfl, fun j t ht => ?_⟩
  rw [Tryd.params6] at ht
  have hm := Array.mem_of_getElem? ht
  simp at hm
  have hall : Tryd.prog.wantsStandIn 23 = false ∧ Tryd.prog.wantsStandIn 32 = false := ⟨by kernel_rfl, by kernel_rfl⟩
  rcases hm with rfl | rfl
  · exact hall.1
  · exact hall.2
theorem proved : Rows.CrcPartsCardSaid :=
  Claim7.holds_tied_plain_at .later [] _ _ _ _ said (fun _ h => by cases h) (by kernel_rfl) (fun _ h => by cases h) crcParts_row_tie rfl ⟨rfl, rfl⟩ (by kernel_rfl) rfl plain (by kernel_rfl)
#print axioms proved
end Go.Proofs.YtaknbgiahlgpiaaDoor.crcParts
