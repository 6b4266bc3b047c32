/- Texts Nr, Ns, Nu of the library, joined. -/
import Derived.Test.YtdgkbicelnnfpaaGreatDoorM01
import Derived.Test.YtdgkbicelnnfpaaGreatDoorM17
/- Package node: Take. -/
namespace Go.Proofs.YtdgkbicelnnfpaaGreatDoor
open Go.RowKit
set_option linter.unusedVariables false
set_option linter.unusedSimpArgs false
attribute [local go_sem ↓] Go.wp_at_zero Go.wp_at_succ

theorem three_chg (wr : World) (R : Nat) (x y z : Value) : Chg [R] wr (((wr.setCell ⟨R, 0, none⟩ x).setCell ⟨R, 1, none⟩ y).setCell ⟨R, 2, none⟩ z) :=
  ((Chg.setCell wr ⟨R, 0, none⟩ x).trans (Chg.setCell _ ⟨R, 1, none⟩ y) (fun _ h _ => h) (fun _ h _ => h)).trans (Chg.setCell _ ⟨R, 2, none⟩ z) (fun _ h _ => h) (fun _ h _ => h)
set_option maxRecDepth 20000 in
set_option maxHeartbeats 1000000 in
theorem take_any (ao : Option Addr) (n c : Nat) (l : List UInt8) (w : World) (hx : Reads w ao (bts l)) (hn : l.length = n) (hc : n ≤ c) (hm : c ≤ maxLen) :
    Calls Tryz.prog 52 #[.slice ao n c] w fun e w' => NodeRes w.heap.size e w' (takeN l) ∧ Chg [] w w' := by
  have t0 := start_there w
  have g0 := Chg.alloc [] w (.cells #[.bool false, .slice none 0 0, .slice none 0 0] 53)
  have hz0 : (w.alloc (.cells #[.bool false, .slice none 0 0, .slice none 0 0] 53)).heap.size = w.heap.size + 1 := by simp
  have hold : 0 < n → ∀ k, k ∈ blk ao → k < w.heap.size := fun hp => hx.lt (by rw [bts_length, hn]; exact hp)
  have g1 := Chg.alloc [] (w.alloc (.cells #[.bool false, .slice none 0 0, .slice none 0 0] 53)) (.cells #[.slice ao n c, .int .i64 0] 180)
  have hl1 := heap_alloc_last (w.alloc (.cells #[.bool false, .slice none 0 0, .slice none 0 0] 53)) (.cells #[.slice ao n c, .int .i64 0] 180)
  have hR : Rdr ((w.alloc (.cells #[.bool false, .slice none 0 0, .slice none 0 0] 53)).alloc (.cells #[.slice ao n c, .int .i64 0] 180)) (w.heap.size + 1) ao n c l 0 := by
    rw [hz0] at hl1
    refine ⟨?_, ?_, frozen_of_row _ _ _ _ _ hl1, frozen_of_row _ _ _ _ _ hl1, (hx.keep g0).keep g1, hn, hc, hm, fun hp k hk => by have := hold hp k hk; omega⟩
    · rw [cell_of_row _ _ _ _ _ _ hl1]; rfl
    · rw [cell_of_row _ _ _ _ _ _ hl1]; rfl
  have t1 := there_chg t0 g1 (by simp)
  have G1 := g0.then g1
  have hz1 : ((w.alloc (.cells #[.bool false, .slice none 0 0, .slice none 0 0] 53)).alloc (.cells #[.slice ao n c, .int .i64 0] 180)).heap.size = w.heap.size + 2 := by simp
  have HO := mkHid (And.intro hz1 hold)
  clear hz0 hz1 hold hl1 g0 g1 t0 hx hn
  go_enter Tryz.func52, Tryz.ntmps52
  go_wp2_with fail
  generalize (w.alloc (.cells #[.bool false, .slice none 0 0, .slice none 0 0] 53)).alloc (.cells #[.slice ao n c, .int .i64 0] 180) = w1 at *
  refine (taken_any w1 (w.heap.size + 1) ao n c l hR).mono ?_
  rintro e w2 ⟨lf, K, V, ka, va, kc, vc, a2, n2, c2, l2, er, rfl, rk, rv, dj, h2, g2, hend⟩
  have G2 : Chg [] w w2 := G1.trans g2 (by simp) (fun q hq hlt => by simp at hq; omega)
  have t2 := there_chg t1 g2 (by simp)
  have gA := Chg.alloc [] w2 (.cells #[.bool lf, .slice ka K.length kc, .slice va V.length vc] 53)
  have G3 := G2.then gA
  have t3 := there_chg t2 gA (by simp)
  have h3 := h2.keep gA (by simp) (by simp)
  have hsz : w1.heap.size ≤ w2.heap.size := g2.size
  have hb : w.heap.size + 2 ≤ w1.heap.size := by have := HO.out.1; omega
  have rk3 := rk.chg gA (by simp)
  have rv3 := rv.chg gA (by simp)
  have hl3 := heap_alloc_last w2 (.cells #[.bool lf, .slice ka K.length kc, .slice va V.length vc] 53)
  have d0 := cell_of_row _ w2.heap.size 0 _ _ _ hl3
  have d1 := cell_of_row _ w2.heap.size 1 _ _ _ hl3
  have d2 := cell_of_row _ w2.heap.size 2 _ _ _ hl3
  simp only [List.getElem?_toArray, List.getElem?_cons_succ, List.getElem?_cons_zero] at d0 d1 d2
  have HE := mkHid hend
  have HR := mkHid (And.intro rk3 (And.intro rv3 dj))
  have HS := mkHid (And.intro hsz hb)
  clear hl3 hend rk rv rk3 rv3 dj h2 g2 t2 t1 G1 G2 gA hR hsz hb
  have e0 := h3.c0
  have e1 := h3.c1
  have cO := noughts_any a2 n2 c2 l2 (w2.alloc (.cells #[.bool lf, .slice ka K.length kc, .slice va V.length vc] 53)) h3.rd h3.ln h3.le h3.mx
  obtain ⟨v0, r0⟩ := Option.isSome_iff_exists.1 (t3 0 (by decide)).1
  obtain ⟨v1, r1⟩ := Option.isSome_iff_exists.1 (t3 1 (by decide)).1
  obtain ⟨v2, r2⟩ := Option.isSome_iff_exists.1 (t3 2 (by decide)).1
  have q0 := (t3 0 (by decide)).2
  have q1 := (t3 1 (by decide)).2
  have q2 := (t3 2 (by decide)).2
  simp only [Nat.zero_add] at r0 r1 r2 q0 q1 q2
  clear t3 h3
  by_cases he : er = 0
  · subst he
    have hall := HE.out.1 rfl
    generalize hq : l2.all (· == 0) = q at *
    have HQ := mkHid hall
    clear hall hq HE
    cases q with
    | false =>
      go_wp2_with (first | (go_at_call 99; refine cO.mono ?_; rintro e w' ⟨rfl, rfl⟩))
      refine bodyPost_ret (v := .tuple #[.agg #[.bool false, .slice none 0 0, .slice none 0 0], .int .i64 5]) (by simp [results, Tryz.results52, go_sem, r0, r1, r2]) rfl ⟨?_, G3.trans (three_chg _ w.heap.size _ _ _) (by simp) (fun q hq hlt => by simp at hq; omega)⟩
      rw [HQ.out, if_neg (by decide)]
      exact NodeRes.none _ _ _
    | true =>
      go_wp2_with (first | (go_at_call 99; refine cO.mono ?_; rintro e w' ⟨rfl, rfl⟩))
      refine bodyPost_ret (v := .tuple #[.agg #[.bool lf, .slice ka K.length kc, .slice va V.length vc], .int .i64 0]) (by simp [results, Tryz.results52, go_sem, r0, r1, r2]) rfl ⟨?_, G3.trans (three_chg _ w.heap.size _ _ _) (by simp) (fun q hq hlt => by simp at hq; omega)⟩
      rw [HQ.out, if_pos trivial]
      obtain ⟨rk, rv, dj⟩ := HR.out
      obtain ⟨hsz, hb⟩ := HS.out
      exact ⟨ka, kc, va, vc, rfl, (rk.mono (by omega)).chg (three_chg _ w.heap.size _ _ _) (fun q hq hm => by have := (rk.lt q hq).1; simp at hm; omega), (rv.mono (by omega)).chg (three_chg _ w.heap.size _ _ _) (fun q hq hm => by have := (rv.lt q hq).1; simp at hm; omega), dj⟩
  · have hd : (er != 0) = true := by simp; exact he
    have hall := HE.out.2 he
    have HQ := mkHid hall
    clear hall HE cO
    go_wp2_with fail
    clear d0 d1 d2 e0
    generalize w2.alloc (.cells #[.bool lf, .slice ka K.length kc, .slice va V.length vc] 53) = w3 at *
    have r0d : w3.drew.cell? ⟨w.heap.size, 0, none⟩ = some v0 := r0
    have r1d : w3.drew.cell? ⟨w.heap.size, 1, none⟩ = some v1 := r1
    have r2d : w3.drew.cell? ⟨w.heap.size, 2, none⟩ = some v2 := r2
    have q0d : w3.drew.frozen? ⟨w.heap.size, 0, none⟩ = false := q0
    have q1d : w3.drew.frozen? ⟨w.heap.size, 1, none⟩ = false := q1
    have q2d : w3.drew.frozen? ⟨w.heap.size, 2, none⟩ = false := q2
    have e1d : w3.drew.cell? ⟨w.heap.size + 1, 1, none⟩ = some (.int .i64 er) := e1
    clear e1
    go_region_held3 (fun u => u.cell? ⟨w.heap.size + 1, 1, none⟩ = some (.int .i64 er)) (first | exact e1d | exact (three_chg w3.drew w.heap.size _ _ _).cellv e1d (by simp)) (fail)
    go_wp2_with fail
    refine bodyPost_ret (v := .tuple #[.agg #[.bool false, .slice none 0 0, .slice none 0 0], .int .i64 er]) (by simp [results, Tryz.results52, go_sem, r0, r1, r2]) rfl ⟨?_, (G3.then (Chg.drew [] w3)).trans (three_chg _ w.heap.size _ _ _) (by simp) (fun q hq hlt => by simp at hq; omega)⟩
    rw [HQ.out]
    exact NodeRes.none _ _ _
end Go.Proofs.YtdgkbicelnnfpaaGreatDoor

/- Nodes as arguments; the reference's Own; bytes.Equal. -/



namespace Go.Proofs.YtdgkbicelnnfpaaGreatDoor
set_option maxRecDepth 200000
open Go.ChangeShapes Go.WideShapes Go.ChangeAt Go.RowKit
set_option linter.unusedVariables false
set_option linter.unusedSimpArgs false
attribute [local go_sem ↓] Go.wp_at_zero Go.wp_at_succ

section
variable {H : Type} {enc : TypeId × Value → H} {P : Program} {w : World} {base : Nat} {spare : Nat → Bool} {held : Bool}
theorem trod_struct3 {t : TypeId} {f0 f1 f2 : Field} {fuel : Nat} {cs : List Value} {x : DataW H × List MemPlace} (ht : P.underlying t = some (.struct #[f0, f1, f2])) (h : DataW.trod enc P w base spare held fuel t cs = some x) :
    ∃ y0 y1 y2 n, x = (.agg [y0.1, y1.1, y2.1], y0.2 ++ (y1.2 ++ y2.2)) ∧ cs.length = P.cellsOf t ∧ DataW.trod enc P w base spare held n f0.type ((cs.drop f0.offset).take (P.cellsOf f0.type)) = some y0 ∧
      DataW.trod enc P w base spare held n f1.type ((cs.drop f1.offset).take (P.cellsOf f1.type)) = some y1 ∧ DataW.trod enc P w base spare held n f2.type ((cs.drop f2.offset).take (P.cellsOf f2.type)) = some y2 := by
  obtain ⟨xs, n, _, rfl, hl, hlen, hf⟩ := DataW.trod_struct ht h
  match xs, hlen with
  | [y0, y1, y2], _ => exact ⟨y0, y1, y2, n, by simp, hl, by simpa using hf 0 f0 rfl, by simpa using hf 1 f1 rfl, by simpa using hf 2 f2 rfl⟩
end
theorem wf_u64 {z : Int} (h : (Lit.int .u64 z).wf = true) : 0 ≤ z ∧ z < 18446744073709551616 := by
  have := Go.bounds_u64 h
  omega
theorem uvs_of_ints (zs : List Int) (h : ∀ z ∈ zs, (Lit.int .u64 z).wf = true) : ∃ L : List Nat, zs.map (Value.int .u64) = uvs L ∧ L.length = zs.length ∧ ∀ x ∈ L, x < 2 ^ 64 := by
  refine ⟨zs.map Int.toNat, ?_, by simp, fun x hx => ?_⟩
  · simp only [uvs, List.map_map]
    apply List.map_congr_left
    intro z hz
    have := wf_u64 (h z hz)
    simp
    omega
  · obtain ⟨z, hz, rfl⟩ := List.mem_map.1 hx
    have := wf_u64 (h z hz)
    omega
/-- The argument, opened. -/
theorem open_node {H : Type} {enc : TypeId × Value → H} {base : Nat} (v : Value) (W : World) {d : DataW H} {p : List MemPlace} (k : DataW.Trod enc Tryz.prog W 0 (fun _ => true) true 53 v d p) (hv : Value.okWide Tryz.prog W .any base 53 v) (hs : Sized Tryz.prog 53 d) :
    ∃ lf ka kl kc va vl vc K V, v = .agg #[.bool lf, .slice ka kl kc, .slice va vl vc] ∧ RdN W ka kc va vc K V ∧ K.length = kl ∧ V.length = vl ∧ (∀ x ∈ K, x < 2 ^ 64) ∧ ∀ x ∈ V, x < 2 ^ 64 := by
  obtain ⟨cs, rfl, hsz⟩ := okWide_struct Tryz.underlying53 hv
  have e4 : Tryz.prog.cellsOf 53 = 3 := by kernel_rfl
  rw [e4] at hsz
  obtain ⟨m, hm⟩ := k
  obtain ⟨y0, y1, y2, q, hx, hl2, h0, h1, h2⟩ := trod_struct3 Tryz.underlying53 hm
  obtain ⟨cl, rfl⟩ : ∃ cl : List Value, cs = cl.toArray := ⟨cs.toList, by simp⟩
  match cl, hsz with
  | [v0, v1, v2], _ =>
    have c3 : Tryz.prog.cellsOf 4 = 1 := by kernel_rfl
    have c32 : Tryz.prog.cellsOf 35 = 1 := by kernel_rfl
    simp only [c3, c32, Value.cells, List.drop_zero, List.drop_succ_cons, List.take_succ_cons, List.take_zero] at h0 h1 h2
    obtain ⟨lf, r0, e0⟩ := DataW.trod_bool Tryz.underlying4 h0
    obtain ⟨ba1, bl1, bc1, r1⟩ := Joins.slice_form Tryz.underlying35 h1
    obtain ⟨ba2, bl2, bc2, r3⟩ := Joins.slice_form Tryz.underlying35 h2
    simp at r0 r1 r3
    subst r0 r1 r3
    obtain ⟨l1, g1, gn1, gc1, gm1, gw1, gd1⟩ := opened_ints Tryz.underlying35 Tryz.underlying34 (by kernel_rfl) ⟨q, h1⟩
    obtain ⟨l2, g2, gn2, gc2, gm2, gw2, gd2⟩ := opened_ints Tryz.underlying35 Tryz.underlying34 (by kernel_rfl) ⟨q, h2⟩
    cases hx
    have s1 := (hs.field Tryz.underlying53 (j := 1) rfl rfl).slice (bytes := 8) Tryz.underlying35 (by kernel_rfl) gd1
    have s2 := (hs.field Tryz.underlying53 (j := 2) rfl rfl).slice (bytes := 8) Tryz.underlying35 (by kernel_rfl) gd2
    obtain ⟨K, eK, lK, bK⟩ := uvs_of_ints l1 gw1
    obtain ⟨V, eV, lV, bV⟩ := uvs_of_ints l2 gw2
    rw [eK] at g1
    rw [eV] at g2
    exact ⟨lf, ba1, bl1, bc1, ba2, bl2, bc2, K, V, rfl, ⟨g1, g2, by omega, by omega, by omega, by omega, by unfold maxLen; omega, by unfold maxLen; omega⟩, by omega, by omega, bK, bV⟩
theorem there3 {w : World} {R : Nat} (t : w.there R 0 3) : ∃ v0 v1 v2, w.cell? ⟨R, 0, none⟩ = some v0 ∧ w.cell? ⟨R, 1, none⟩ = some v1 ∧ w.cell? ⟨R, 2, none⟩ = some v2 ∧ w.frozen? ⟨R, 0, none⟩ = false ∧ w.frozen? ⟨R, 1, none⟩ = false ∧ w.frozen? ⟨R, 2, none⟩ = false := by
  obtain ⟨v0, r0⟩ := Option.isSome_iff_exists.1 (t 0 (by decide)).1
  obtain ⟨v1, r1⟩ := Option.isSome_iff_exists.1 (t 1 (by decide)).1
  obtain ⟨v2, r2⟩ := Option.isSome_iff_exists.1 (t 2 (by decide)).1
  have q0 := (t 0 (by decide)).2
  have q1 := (t 1 (by decide)).2
  have q2 := (t 2 (by decide)).2
  simp only [Nat.zero_add] at r0 r1 r2 q0 q1 q2
  exact ⟨v0, v1, v2, r0, r1, r2, q0, q1, q2⟩
end Go.Proofs.YtdgkbicelnnfpaaGreatDoor

/- Forms and what bytes say: each the other's inverse; a form that is cut. -/
namespace Go.Proofs.YtdgkbicelnnfpaaGreatDoor
open Go.RowKit
set_option linter.unusedVariables false
set_option linter.unusedSimpArgs false

theorem val_be8 {x : Nat} (h : x < 2 ^ 64) : val (be x 8) = x := by
  rw [val_be]; exact Nat.mod_eq_of_lt (by simpa using h)
theorem be8_take {x : Nat} (r : List UInt8) : (be x 8 ++ r).take 8 = be x 8 := by
  rw [List.take_append_of_le_length (by rw [be_length]; exact Nat.le_refl _)]
  exact List.take_of_length_le (by rw [be_length]; exact Nat.le_refl _)
theorem be8_drop {x : Nat} (r : List UInt8) : (be x 8 ++ r).drop 8 = r := by
  rw [List.drop_append_of_le_length (by rw [be_length]; exact Nat.le_refl _), List.drop_of_length_le (by rw [be_length]; exact Nat.le_refl _)]
  rfl
theorem be8_len {x : Nat} (r : List UInt8) : ¬ (be x 8 ++ r).length < 8 := by rw [List.length_append, be_length]; omega
theorem takeK_pair {c x y : Nat} {K V : List Nat} {r : List UInt8} (hx : x < 2 ^ 64) (hy : y < 2 ^ 64) (hl : lowK K x = false) (h0 : y ≠ 0) : takeK (c + 1) K V (be x 8 ++ (be y 8 ++ r)) = takeK c (K ++ [x]) (V ++ [y]) r := by
  rw [takeK_succ, if_neg (be8_len _), be8_take, val_be8 hx, if_neg (by rw [hl]; decide), be8_drop, takeV_eq, if_neg (be8_len _), be8_take, val_be8 hy, if_neg h0, be8_drop]
/-- Keys that rise behind those ahead, and values that are none of them 0. -/
def Follows : List Nat → List Nat → List Nat → Prop
  | K0, k :: K, v :: V => lowK K0 k = false ∧ v ≠ 0 ∧ k < 2 ^ 64 ∧ v < 2 ^ 64 ∧ Follows (K0 ++ [k]) K V
  | _, [], [] => True
  | _, _, _ => False
theorem Follows.len : ∀ {K0 K V : List Nat}, Follows K0 K V → V.length = K.length
  | _, [], [], _ => rfl
  | K0, k :: K, v :: V, h => by
    unfold Follows at h
    have := h.2.2.2.2.len
    simp [this]
  | _, [], _ :: _, h => by simp [Follows] at h
  | _, _ :: _, [], h => by simp [Follows] at h
theorem take_pairs : ∀ {K0 V0 K V : List Nat} (r : List UInt8), Follows K0 K V → takeK K.length K0 V0 (pairsN K V ++ r) = takeK 0 (K0 ++ K) (V0 ++ V) r
  | K0, V0, [], [], r, _ => by simp [pairsN]
  | K0, V0, k :: K, v :: V, r, h => by
    unfold Follows at h
    obtain ⟨h1, h2, h3, h4, h5⟩ := h
    rw [pairsN, List.append_assoc, List.append_assoc, List.length_cons, takeK_pair h3 h4 h1 h2, take_pairs r h5]
    simp
  | _, _, [], _ :: _, _, h => by simp [Follows] at h
  | _, _, _ :: _, [], _, h => by simp [Follows] at h
/-- A node that may be. -/
theorem follows_of {K V : List Nat} (hm : mayB K V = true) (bK : ∀ x ∈ K, x < 2 ^ 64) (bV : ∀ x ∈ V, x < 2 ^ 64) : Follows [] K V := by
  obtain ⟨l1, l2, l3⟩ := may_len hm
  have hall : (List.range K.length).all (okAt K V) = true := by
    unfold mayB at hm
    simp only [Bool.and_eq_true] at hm
    exact hm.2
  have key : ∀ (m i : Nat), K.length = i + m → Follows (K.take i) (K.drop i) (V.drop i) := by
    intro m
    induction m with
    | zero =>
      intro i hi
      rw [List.drop_of_length_le (by omega), List.drop_of_length_le (by omega)]
      simp [Follows]
    | succ m ih =>
      intro i hi
      have hk : i < K.length := by omega
      have hv : i < V.length := by omega
      have ho := ok_at (K := K) (V := V) (i := i) (List.getElem?_eq_getElem hk) (List.getElem?_eq_getElem hv)
      have ho2 : okAt K V i = true := (List.all_eq_true.1 hall) i (by simp; omega)
      rw [ho2] at ho
      have ho3 := ho.symm
      simp only [Bool.and_eq_true, Bool.not_eq_true', pointsB] at ho3
      rw [List.drop_eq_getElem_cons hk, List.drop_eq_getElem_cons hv]
      unfold Follows
      refine ⟨ho3.1, by simpa using ho3.2, bK _ (List.getElem_mem _), bV _ (List.getElem_mem _), ?_⟩
      have := ih (i + 1) (by omega)
      rwa [List.take_succ_eq_append_getElem hk] at this
  simpa using key K.length 0 (by omega)
theorem len_byte {n : Nat} (h : n ≤ 8) : (UInt8.ofNat n).toNat = n := by simp; omega
theorem mark_kind (lf : Bool) : ¬ ((if lf = true then (1 : UInt8) else 0) ≠ 0 ∧ (if lf = true then (1 : UInt8) else 0) ≠ 1) ∧ decide ((if lf = true then (1 : UInt8) else 0) = 1) = lf := by cases lf <;> decide
/-- A form, and bytes behind it. -/
theorem take_form {lf : Bool} {K V : List Nat} (hm : mayB K V = true) (bK : ∀ x ∈ K, x < 2 ^ 64) (bV : ∀ x ∈ V, x < 2 ^ 64) (z : List UInt8) : takeN (formN lf K V ++ z) = if z.all (· == 0) then (0, lf, K, V) else (5, false, [], []) := by
  obtain ⟨l1, l2, l3⟩ := may_len hm
  unfold formN
  rw [List.cons_append, List.cons_append, takeN_cons, if_neg (mark_kind lf).1]
  dsimp only
  rw [len_byte l2, if_neg (by omega), take_pairs z (follows_of hm bK bV), takeK_zero, (mark_kind lf).2]
  cases z.all (· == 0) <;> simp
theorem val_bound {l : List UInt8} : val (l.take 8) < 2 ^ 64 := Nat.lt_of_lt_of_le (val_lt _) (by
  have h9 : (l.take 8).length ≤ 8 := by rw [List.length_take]; omega
  exact Nat.le_trans (Nat.pow_le_pow_right (by decide) h9) (by decide))
theorem val_inj : ∀ {a b : List UInt8}, a.length = b.length → val a = val b → a = b
  | [], [], _, _ => rfl
  | x :: a, y :: b, hl, h => by
    have hl2 : a.length = b.length := by simpa using hl
    rw [val_cons, val_cons, hl2] at h
    have h1 := val_lt a
    have h2 := val_lt b
    rw [hl2] at h1
    have hp : 0 < 256 ^ b.length := Nat.pow_pos (by decide)
    have e1 : x.toNat = y.toNat := by
      have q1 : (x.toNat * 256 ^ b.length + val a) / 256 ^ b.length = x.toNat := by
        rw [Nat.mul_comm, Nat.mul_add_div hp, Nat.div_eq_of_lt h1, Nat.add_zero]
      have q2 : (y.toNat * 256 ^ b.length + val b) / 256 ^ b.length = y.toNat := by
        rw [Nat.mul_comm, Nat.mul_add_div hp, Nat.div_eq_of_lt h2, Nat.add_zero]
      rw [← q1, ← q2, h]
    rw [e1] at h
    have e2 := val_inj hl2 (Nat.add_left_cancel h)
    rw [UInt8.toNat_inj.1 e1, e2]
  | [], _ :: _, hl, _ => by simp at hl
  | _ :: _, [], hl, _ => by simp at hl
theorem be_val {l : List UInt8} (h : ¬ l.length < 8) : l = be (val (l.take 8)) 8 ++ l.drop 8 := by
  have e : l.take 8 = be (val (l.take 8)) 8 := val_inj (by rw [be_length, List.length_take]; omega) (by rw [val_be8 val_bound])
  rw [← e, List.take_append_drop]
/-- What was taken. -/
theorem took : ∀ (c : Nat) (K0 V0 : List Nat) (l : List UInt8) (K2 V2 : List Nat), takeK c K0 V0 l = (0, K2, V2) → ∃ K V z, K2 = K0 ++ K ∧ V2 = V0 ++ V ∧ K.length = c ∧ Follows K0 K V ∧ l = pairsN K V ++ z ∧ z.all (· == 0) = true
  | 0, K0, V0, l, K2, V2, h => by
    rw [takeK_zero] at h
    cases hz : l.all (· == 0) with
    | true =>
      rw [hz, if_pos rfl] at h
      simp at h
      exact ⟨[], [], l, by simp [h.1], by simp [h.2], rfl, by simp [Follows], by simp [pairsN], hz⟩
    | false =>
      rw [hz, if_neg (by decide)] at h
      simp at h
  | c + 1, K0, V0, l, K2, V2, h => by
    rw [takeK_succ] at h
    by_cases h8 : l.length < 8
    · rw [if_pos h8] at h; simp at h
    · rw [if_neg h8] at h
      cases hl : lowK K0 (val (l.take 8)) with
      | true => rw [hl, if_pos rfl] at h; simp at h
      | false =>
        rw [hl, if_neg (by decide), takeV_eq] at h
        by_cases h9 : (l.drop 8).length < 8
        · rw [if_pos h9] at h; simp at h
        · rw [if_neg h9] at h
          by_cases h0 : val ((l.drop 8).take 8) = 0
          · rw [if_pos h0] at h; simp at h
          · rw [if_neg h0] at h
            obtain ⟨K, V, z, e1, e2, e3, e4, e5, e6⟩ := took c _ _ _ _ _ h
            refine ⟨val (l.take 8) :: K, val ((l.drop 8).take 8) :: V, z, by simp [e1], by simp [e2], by simp [e3], ?_, ?_, e6⟩
            · unfold Follows
              exact ⟨hl, h0, val_bound, val_bound, e4⟩
            · rw [pairsN, List.append_assoc, List.append_assoc, ← e5, ← be_val h9, ← be_val h8]
theorem Follows.all : ∀ {K0 V0 K V : List Nat}, V0.length = K0.length → (List.range K0.length).all (okAt (K0 ++ K) (V0 ++ V)) = true → Follows K0 K V → (List.range (K0 ++ K).length).all (okAt (K0 ++ K) (V0 ++ V)) = true
  | K0, V0, [], [], _, h, _ => by simpa using h
  | K0, V0, k :: K, v :: V, hl, h, hf => by
    unfold Follows at hf
    obtain ⟨h1, h2, h3, h4, h5⟩ := hf
    have ek : K0 ++ k :: K = (K0 ++ [k]) ++ K := by simp
    have ev : V0 ++ v :: V = (V0 ++ [v]) ++ V := by simp
    have hx : (K0 ++ k :: K)[K0.length]? = some k := by simp
    have hy : (V0 ++ v :: V)[K0.length]? = some v := by rw [← hl]; simp
    have ho := ok_at hx hy
    rw [List.take_left, h1] at ho
    have ho2 : okAt (K0 ++ k :: K) (V0 ++ v :: V) K0.length = true := by rw [ho]; simp [pointsB, h2]
    have hnext : (List.range (K0 ++ [k]).length).all (okAt (K0 ++ k :: K) (V0 ++ v :: V)) = true := by
      rw [List.length_append, List.length_singleton, all_range_succ, h, ho2]; rfl
    rw [ek, ev] at hnext ⊢
    exact Follows.all (by simp [hl]) hnext h5
  | _, _, [], _ :: _, _, _, h => by simp [Follows] at h
  | _, _, _ :: _, [], _, _, h => by simp [Follows] at h
theorem Follows.bounds : ∀ {K0 K V : List Nat}, Follows K0 K V → (∀ x ∈ K, x < 2 ^ 64) ∧ ∀ x ∈ V, x < 2 ^ 64
  | _, [], [], _ => ⟨by simp, by simp⟩
  | K0, k :: K, v :: V, hf => by
    unfold Follows at hf
    obtain ⟨h1, h2, h3, h4, h5⟩ := hf
    obtain ⟨b1, b2⟩ := h5.bounds
    exact ⟨fun x hx => (List.mem_cons.1 hx).elim (fun e => e ▸ h3) (b1 x), fun x hx => (List.mem_cons.1 hx).elim (fun e => e ▸ h4) (b2 x)⟩
  | _, [], _ :: _, h => by simp [Follows] at h
  | _, _ :: _, [], h => by simp [Follows] at h
/-- Bytes that say a node begin with its form; behind it are noughts. -/
theorem took_node {l : List UInt8} {lf : Bool} {K V : List Nat} (h : takeN l = (0, lf, K, V)) : mayB K V = true ∧ (∀ x ∈ K, x < 2 ^ 64) ∧ (∀ x ∈ V, x < 2 ^ 64) ∧ ∃ z, l = formN lf K V ++ z ∧ z.all (· == 0) = true := by
  match l, h with
  | [], h => simp [takeN] at h
  | a :: r, h =>
    rw [takeN_cons] at h
    by_cases ha : a ≠ 0 ∧ a ≠ 1
    · rw [if_pos ha] at h; simp at h
    · rw [if_neg ha] at h
      match r, h with
      | [], h => simp at h
      | b :: s, h =>
        dsimp only at h
        by_cases hb : b.toNat = 0 ∨ 8 < b.toNat
        · rw [if_pos hb] at h; simp at h
        · rw [if_neg hb] at h
          by_cases h0 : (takeK b.toNat [] [] s).1 = 0
          · rw [if_pos h0] at h
            simp only [Prod.mk.injEq] at h
            obtain ⟨_, e1, e2⟩ := h
            have e3 : takeK b.toNat [] [] s = (0, K, V) := by rw [← h0, ← e2]
            obtain ⟨K', V', z, q1, q2, q3, q4, q5, q6⟩ := took _ _ _ _ _ _ e3
            rw [List.nil_append] at q1 q2
            subst q1 q2
            have hbd := q4.bounds
            have hlen := q4.len
            have hall := Follows.all (K0 := []) (V0 := []) rfl (by simp) q4
            simp only [List.nil_append] at hall
            refine ⟨?_, hbd.1, hbd.2, z, ?_, q6⟩
            · unfold mayB
              rw [hall, hlen, decide_eq_true rfl, decide_eq_true (show 1 ≤ K.length by omega), decide_eq_true (show K.length ≤ 8 by omega)]
              rfl
            · unfold formN
              rw [List.cons_append, List.cons_append, ← q5]
              have eb : UInt8.ofNat K.length = b := by rw [q3]; exact UInt8.toNat_inj.1 (by simp)
              have ea : (if lf = true then (1 : UInt8) else 0) = a := by
                have ha2 : a = 0 ∨ a = 1 := by
                  by_cases e : a = 0
                  · exact Or.inl e
                  · exact Or.inr (Decidable.not_not.1 fun e1 => ha ⟨e, e1⟩)
                rcases ha2 with rfl | rfl
                · rw [← e1]; decide
                · rw [← e1]; decide
              rw [ea, eb]
          · rw [if_neg h0] at h
            simp only [Prod.mk.injEq] at h
            exact absurd h.1 h0
theorem took_not {l : List UInt8} {e : Int} {lf : Bool} {K V : List Nat} (h : takeN l = (e, lf, K, V)) (he : e ≠ 0) : lf = false ∧ K = [] ∧ V = [] := by
  match l, h with
  | [], h => simp [takeN] at h; simp [h]
  | a :: r, h =>
    rw [takeN_cons] at h
    by_cases ha : a ≠ 0 ∧ a ≠ 1
    · rw [if_pos ha] at h; simp at h; simp [h]
    · rw [if_neg ha] at h
      match r, h with
      | [], h => simp at h; simp [h]
      | b :: s, h =>
        dsimp only at h
        by_cases hb : b.toNat = 0 ∨ 8 < b.toNat
        · rw [if_pos hb] at h; simp at h; simp [h]
        · rw [if_neg hb] at h
          by_cases h0 : (takeK b.toNat [] [] s).1 = 0
          · rw [if_pos h0] at h
            simp only [Prod.mk.injEq] at h
            exact absurd h.1.symm he
          · rw [if_neg h0] at h
            simp only [Prod.mk.injEq] at h
            exact ⟨h.2.1.symm, h.2.2.1.symm, h.2.2.2.symm⟩
end Go.Proofs.YtdgkbicelnnfpaaGreatDoor
