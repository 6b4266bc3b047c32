/- Nodes as arguments; the reference's Own; bytes.Equal. -/
import Derived.Test.YtbopfpdgoalfoaaNr
import Derived.Test.YtbopfpdgoalfoaaNi
import Derived.Test.YtbopfpdgoalfoaaE
namespace Go.Proofs.Ytbopfpdgoalfoaa
open Go.ChangeShapes Go.WideShapes Go.ChangeAt Go.RowKit
set_option linter.unusedVariables false
set_option linter.unusedSimpArgs false
attribute [local go_sem ↓] Go.wp_at_zero Go.wp_at_succ

section
variable {H : Type} {enc : TypeId × Value → H} {P : Program} {w : World} {base : Nat} {spare : Nat → Bool} {held : Bool}
theorem trod_struct3 {t : TypeId} {f0 f1 f2 : Field} {fuel : Nat} {cs : List Value} {x : DataW H × List MemPlace} (ht : P.underlying t = some (.struct #[f0, f1, f2])) (h : DataW.trod enc P w base spare held fuel t cs = some x) :
    ∃ y0 y1 y2 n, x = (.agg [y0.1, y1.1, y2.1], y0.2 ++ (y1.2 ++ y2.2)) ∧ cs.length = P.cellsOf t ∧ DataW.trod enc P w base spare held n f0.type ((cs.drop f0.offset).take (P.cellsOf f0.type)) = some y0 ∧
      DataW.trod enc P w base spare held n f1.type ((cs.drop f1.offset).take (P.cellsOf f1.type)) = some y1 ∧ DataW.trod enc P w base spare held n f2.type ((cs.drop f2.offset).take (P.cellsOf f2.type)) = some y2 := by
  obtain ⟨xs, n, _, rfl, hl, hlen, hf⟩ := DataW.trod_struct ht h
  match xs, hlen with
  | [y0, y1, y2], _ => exact ⟨y0, y1, y2, n, by simp, hl, by simpa using hf 0 f0 rfl, by simpa using hf 1 f1 rfl, by simpa using hf 2 f2 rfl⟩
end
theorem wf_u64 {z : Int} (h : (Lit.int .u64 z).wf = true) : 0 ≤ z ∧ z < 18446744073709551616 := by
  have := Go.bounds_u64 h
  omega
theorem uvs_of_ints (zs : List Int) (h : ∀ z ∈ zs, (Lit.int .u64 z).wf = true) : ∃ L : List Nat, zs.map (Value.int .u64) = uvs L ∧ L.length = zs.length ∧ ∀ x ∈ L, x < 2 ^ 64 := by
  refine ⟨zs.map Int.toNat, ?_, by simp, fun x hx => ?_⟩
  · simp only [uvs, List.map_map]
    apply List.map_congr_left
    intro z hz
    have := wf_u64 (h z hz)
    simp
    omega
  · obtain ⟨z, hz, rfl⟩ := List.mem_map.1 hx
    have := wf_u64 (h z hz)
    omega
/-- The argument, opened. -/
theorem open_node {H : Type} {enc : TypeId × Value → H} {base : Nat} (v : Value) (W : World) {d : DataW H} {p : List MemPlace} (k : DataW.Trod enc Try.prog W 0 (fun _ => true) true 24 v d p) (hv : Value.okWide Try.prog W .any base 24 v) (hs : Sized Try.prog 24 d) :
    ∃ lf ka kl kc va vl vc K V, v = .agg #[.bool lf, .slice ka kl kc, .slice va vl vc] ∧ RdN W ka kc va vc K V ∧ K.length = kl ∧ V.length = vl ∧ (∀ x ∈ K, x < 2 ^ 64) ∧ ∀ x ∈ V, x < 2 ^ 64 := by
  obtain ⟨cs, rfl, hsz⟩ := okWide_struct Try.underlying24 hv
  have e4 : Try.prog.cellsOf 24 = 3 := by kernel_rfl
  rw [e4] at hsz
  obtain ⟨m, hm⟩ := k
  obtain ⟨y0, y1, y2, q, hx, hl2, h0, h1, h2⟩ := trod_struct3 Try.underlying24 hm
  obtain ⟨cl, rfl⟩ : ∃ cl : List Value, cs = cl.toArray := ⟨cs.toList, by simp⟩
  match cl, hsz with
  | [v0, v1, v2], _ =>
    have c3 : Try.prog.cellsOf 4 = 1 := by kernel_rfl
    have c32 : Try.prog.cellsOf 22 = 1 := by kernel_rfl
    simp only [c3, c32, Value.cells, List.drop_zero, List.drop_succ_cons, List.take_succ_cons, List.take_zero] at h0 h1 h2
    obtain ⟨lf, r0, e0⟩ := DataW.trod_bool Try.underlying4 h0
    obtain ⟨ba1, bl1, bc1, r1⟩ := Joins.slice_form Try.underlying22 h1
    obtain ⟨ba2, bl2, bc2, r3⟩ := Joins.slice_form Try.underlying22 h2
    simp at r0 r1 r3
    subst r0 r1 r3
    obtain ⟨l1, g1, gn1, gc1, gm1, gw1, gd1⟩ := opened_ints Try.underlying22 Try.underlying40 (by kernel_rfl) ⟨q, h1⟩
    obtain ⟨l2, g2, gn2, gc2, gm2, gw2, gd2⟩ := opened_ints Try.underlying22 Try.underlying40 (by kernel_rfl) ⟨q, h2⟩
    cases hx
    have s1 := (hs.field Try.underlying24 (j := 1) rfl rfl).slice (bytes := 8) Try.underlying22 (by kernel_rfl) gd1
    have s2 := (hs.field Try.underlying24 (j := 2) rfl rfl).slice (bytes := 8) Try.underlying22 (by kernel_rfl) gd2
    obtain ⟨K, eK, lK, bK⟩ := uvs_of_ints l1 gw1
    obtain ⟨V, eV, lV, bV⟩ := uvs_of_ints l2 gw2
    rw [eK] at g1
    rw [eV] at g2
    exact ⟨lf, ba1, bl1, bc1, ba2, bl2, bc2, K, V, rfl, ⟨g1, g2, by omega, by omega, by omega, by omega, by unfold maxLen; omega, by unfold maxLen; omega⟩, by omega, by omega, bK, bV⟩
theorem beq_any (ao : Option Addr) (n c : Nat) (l : List UInt8) (bo : Option Addr) (m d : Nat) (k : List UInt8) (w : World) (h1 : Reads w ao (bts l)) (hn : l.length = n) (h2 : Reads w bo (bts k)) (hm : k.length = m) :
    Calls Try.prog 12 #[.slice ao n c, .slice bo m d] w fun e w' => e = .returned (.bool (decide (l = k))) ∧ w = w' := by
  have r1 := run_convert_k (P := Try.prog) w 26 5 9 Try.underlying26 Try.underlying5 Try.underlying9 ao n c l h1 hn
  have r2 := run_convert_k (P := Try.prog) w 26 5 9 Try.underlying26 Try.underlying5 Try.underlying9 bo m d k h2 hm
  go_enter Try.func12, Try.ntmps12
  go_wp2
  go_ret
  exact ⟨ret_bool' (by rw [Bool.eq_iff_iff]; simp), rfl⟩
/-- A node in memory of its own. -/
def OwnRes (B : Nat) (lf : Bool) (K V : List Nat) (e : Ending) (w' : World) : Prop := ∃ ka kc va vc, e = .returned (.agg #[.bool lf, .slice ka K.length kc, .slice va V.length vc]) ∧ RdN w' ka kc va vc K V ∧ (∀ q, q ∈ fp ka kc → B ≤ q) ∧ ∀ q, q ∈ fp va vc → B ≤ q
theorem own_second {w2 w4 : World} {s R : Nat} {lf : Bool} {ka va : Option Addr} {kl kc vl vc : Nat} {a2 : Value} (hR : R ≠ s) (x0 : w2.cell? ⟨s, 0, none⟩ = some (.bool lf)) (x1 : w2.cell? ⟨s, 1, none⟩ = some (.slice ka kl kc)) (x2 : w2.cell? ⟨s, 2, none⟩ = some (.slice va vl vc)) (y2 : w2.frozen? ⟨s, 2, none⟩ = false) (t2 : w2.there R 0 3) (g4 : Chg [] (w2.setCell ⟨s, 1, none⟩ a2) w4) :
    w4.cell? ⟨s, 0, none⟩ = some (.bool lf) ∧ w4.cell? ⟨s, 1, none⟩ = some a2 ∧ w4.cell? ⟨s, 2, none⟩ = some (.slice va vl vc) ∧ w4.frozen? ⟨s, 2, none⟩ = false ∧ w4.there R 0 3 := by
  have h2 := setN_other (u := a2) x2 (show (2 : Nat) ≠ 1 by decide)
  exact ⟨g4.cellv (setN_other x0 (by decide)) (by simp), g4.cellv (World.cell?_setCell_same _ _ _ x1) (by simp), g4.cellv h2 (by simp), (g4.frozen (p := ⟨s, 2, none⟩) (block_lt_of_cell h2) (by simp)).trans ((World.frozen?_setCell ..).trans y2), there_chg (there_chg t2 (Chg.setCell w2 ⟨s, 1, none⟩ a2) (by simpa using hR)) g4 (by simp)⟩
theorem there3 {w : World} {R : Nat} (t : w.there R 0 3) : ∃ v0 v1 v2, w.cell? ⟨R, 0, none⟩ = some v0 ∧ w.cell? ⟨R, 1, none⟩ = some v1 ∧ w.cell? ⟨R, 2, none⟩ = some v2 ∧ w.frozen? ⟨R, 0, none⟩ = false ∧ w.frozen? ⟨R, 1, none⟩ = false ∧ w.frozen? ⟨R, 2, none⟩ = false := by
  obtain ⟨v0, r0⟩ := Option.isSome_iff_exists.1 (t 0 (by decide)).1
  obtain ⟨v1, r1⟩ := Option.isSome_iff_exists.1 (t 1 (by decide)).1
  obtain ⟨v2, r2⟩ := Option.isSome_iff_exists.1 (t 2 (by decide)).1
  have q0 := (t 0 (by decide)).2
  have q1 := (t 1 (by decide)).2
  have q2 := (t 2 (by decide)).2
  simp only [Nat.zero_add] at r0 r1 r2 q0 q1 q2
  exact ⟨v0, v1, v2, r0, r1, r2, q0, q1, q2⟩
set_option maxRecDepth 20000 in
set_option maxHeartbeats 1000000 in
theorem own_any (lf : Bool) (ka : Option Addr) (kl kc : Nat) (va : Option Addr) (vl vc : Nat) (K V : List Nat) (w : World) (h : RdN w ka kc va vc K V) (hk : K.length = kl) (hv : V.length = vl) :
    Calls Try.prog 8 #[.agg #[.bool lf, .slice ka kl kc, .slice va vl vc]] w fun e w' => OwnRes w.heap.size lf K V e w' ∧ Chg [] w w' := by
  have hk1 : kl ≤ maxLen ∧ kl * 8 ≤ 140737488355328 := by have := h.bk; unfold maxLen; omega
  have hv1 : vl ≤ maxLen ∧ vl * 8 ≤ 140737488355328 := by have := h.bv; unfold maxLen; omega
  have hbk := h.bk
  have hbv := h.bv
  have g0 := Chg.alloc [] w (.cells #[.bool lf, .slice ka kl kc, .slice va vl vc] 24)
  have hl := heap_alloc_last w (.cells #[.bool lf, .slice ka kl kc, .slice va vl vc] 24)
  have g1 := Chg.alloc [] (w.alloc (.cells #[.bool lf, .slice ka kl kc, .slice va vl vc] 24)) (.cells #[.bool false, .slice none 0 0, .slice none 0 0] 24)
  have t1 := start_there (w.alloc (.cells #[.bool lf, .slice ka kl kc, .slice va vl vc] 24))
  have hz : (w.alloc (.cells #[.bool lf, .slice ka kl kc, .slice va vl vc] 24)).heap.size = w.heap.size + 1 := by simp
  rw [hz] at t1
  have c0 := cell_of_row _ w.heap.size 0 _ _ _ hl
  have c1 := cell_of_row _ w.heap.size 1 _ _ _ hl
  have c2 := cell_of_row _ w.heap.size 2 _ _ _ hl
  have f1 := frozen_of_row _ w.heap.size 1 _ _ hl
  have f2 := frozen_of_row _ w.heap.size 2 _ _ hl
  simp only [List.getElem?_toArray, List.getElem?_cons_succ, List.getElem?_cons_zero] at c0 c1 c2
  have d0 := g1.cellv c0 (by simp)
  have d1 := g1.cellv c1 (by simp)
  have d2 := g1.cellv c2 (by simp)
  have e1 := (g1.frozen (p := ⟨w.heap.size, 1, none⟩) (block_lt_of_cell c1) (by simp)).trans f1
  have e2 := (g1.frozen (p := ⟨w.heap.size, 2, none⟩) (block_lt_of_cell c2) (by simp)).trans f2
  have hG := g0.then g1
  have hzz : w.heap.size + 2 ≤ ((w.alloc (.cells #[.bool lf, .slice ka kl kc, .slice va vl vc] 24)).alloc (.cells #[.bool false, .slice none 0 0, .slice none 0 0] 24)).heap.size := by simp
  have HH := mkHid h
  have HU := mkHid (show (uvs K).length = kl ∧ (uvs V).length = vl by rw [uvs_len, uvs_len]; exact ⟨hk, hv⟩)
  have HKV := mkHid (And.intro hk hv)
  have hsz : ((w.alloc (.cells #[.bool lf, .slice ka kl kc, .slice va vl vc] 24)).alloc (.cells #[.bool false, .slice none 0 0, .slice none 0 0] 24)).heap.size = w.heap.size + 2 := by simp
  have HSZ := mkHid hsz
  have hk2 : 0 + kl ≤ maxLen ∧ (0 + kl) * 8 ≤ 140737488355328 := by rw [Nat.zero_add]; exact hk1
  have hv2 : 0 + vl ≤ maxLen ∧ (0 + vl) * 8 ≤ 140737488355328 := by rw [Nat.zero_add]; exact hv1
  clear hl hz c0 c1 c2 f1 f2 g0 g1 hk hv h hsz hk1 hv1 hbk hbv
  have hs : w.heap.size ≤ ((w.alloc (.cells #[.bool lf, .slice ka kl kc, .slice va vl vc] 24)).alloc (.cells #[.bool false, .slice none 0 0, .slice none 0 0] 24)).heap.size := by have := HSZ.out; omega
  have HS := mkHid hs
  clear hs hzz
  go_enter Try.func8, Try.ntmps8
  go_wp2_with (first
    | (at_builtin
       refine wpList_append_k _ rfl (.tmp 5) (.tmp 7) 22 rfl 40 8 eltU w.heap.size none 0 0 [] rfl (Room.nil _ _ _) HS.out ka kl kc (uvs K) rfl (HH.out.keep hG).rk HU.out.1 (uvs_one _) hk2.1 hk2.2 ?_
       intro a2 k2 w2 r2 g2 f2
       rw [fp_none] at g2
       have x0 := g2.cellv d0 (by simp)
       have x1 := g2.cellv d1 (by simp)
       have x2 := g2.cellv d2 (by simp)
       have y1 := (g2.frozen (p := ⟨w.heap.size, 1, none⟩) (block_lt_of_cell d1) (by simp)).trans e1
       have y2 := (g2.frozen (p := ⟨w.heap.size, 2, none⟩) (block_lt_of_cell d2) (by simp)).trans e2
       have t2 := there_chg t1 g2 (by simp)
       have G2 := hG.then g2
       have q3 := fun v => G2.trans (Chg.setCell w2 ⟨w.heap.size, 1, none⟩ v) (U := []) (by simp) (fun q hq hlt => by simp at hq; omega)
       rw [Nat.zero_add, List.nil_append] at r2
       have HX := mkHid (And.intro r2 (And.intro f2 (And.intro t2 (And.intro q3 (And.intro g2.size x0)))))
       clear d0 d1 d2 e1 e2 t1 hG r2 f2 t2 q3 g2 G2 x0)
    | (at_builtin
       refine wpList_append_k _ rfl (.tmp 10) (.tmp 12) 22 rfl 40 8 eltU w.heap.size none 0 0 [] rfl (Room.nil _ _ _) (HX.out.2.2.2.1 _).size va vl vc (uvs V) rfl (HH.out.keep (HX.out.2.2.2.1 _)).rv HU.out.2 (uvs_one _) hv2.1 hv2.2 ?_
       intro a4 k4 w4 r4 g4 f4
       rw [fp_none] at g4
       obtain ⟨z0, z1, z2, u2, t4⟩ := own_second (by omega) HX.out.2.2.2.2.2 x1 x2 y2 HX.out.2.2.1 g4
       obtain ⟨v0, v1, v2, r0, r1, r2, q0, q1, q2⟩ := there3 t4
       rw [Nat.zero_add, List.nil_append] at r4
       have HY := mkHid (And.intro r4 (And.intro f4 g4))
       clear x1 x2 y1 y2 t4 r4 f4 g4))
  obtain ⟨p2, pf2, -, pq3, psz, -⟩ := HX.out
  obtain ⟨p4, pf4, pg4⟩ := HY.out
  have hs2 := HSZ.out
  have gA := Chg.setCell w2 ⟨w.heap.size, 1, none⟩ (.slice a2 kl k2)
  have gB := Chg.setCell w4 ⟨w.heap.size, 2, none⟩ (.slice a4 vl k4)
  have gC := three_chg (w4.setCell ⟨w.heap.size, 2, none⟩ (.slice a4 vl k4)) (w.heap.size + 1) (.bool lf) (.slice a2 kl k2) (.slice a4 vl k4)
  have szA : (w2.setCell ⟨w.heap.size, 1, none⟩ (.slice a2 kl k2)).heap.size = w2.heap.size := by simp
  have m2 : ∀ q, q ∈ fp a2 k2 → w.heap.size + 2 ≤ q := fun q hq => by
    rcases pf2 with e | e
    · rw [e, fp_none] at hq; simp at hq
    · rw [e] at hq; simp at hq; omega
  have m4 : ∀ q, q ∈ fp a4 k4 → w.heap.size + 2 ≤ q := fun q hq => by
    rcases pf4 with e | e
    · rw [e, fp_none] at hq; simp at hq
    · rw [e, szA] at hq; simp only [List.mem_singleton] at hq; omega
  have R2 := (((p2.chg gA (fun q hq hm => by have := m2 q hq; simp at hm; omega)).chg pg4 (by simp)).chg gB (fun q hq hm => by have := m2 q hq; simp at hm; omega)).chg gC (fun q hq hm => by have := m2 q hq; simp at hm; omega)
  have R4 := (p4.chg gB (fun q hq hm => by have := m4 q hq; simp at hm; omega)).chg gC (fun q hq hm => by have := m4 q hq; simp at hm; omega)
  have gD := (((pq3 (.slice a2 kl k2)).then pg4).trans gB (U := []) (by simp) (fun q hq hlt => by simp at hq; omega)).trans gC (U := []) (by simp) (fun q hq hlt => by simp at hq; omega)
  refine bodyPost_ret (v := .agg #[.bool lf, .slice a2 kl k2, .slice a4 vl k4]) (by simp [results, Try.results8, go_sem, r0, r1, r2]) rfl ⟨?_, gD⟩
  obtain ⟨hk, hv⟩ := HKV.out
  refine ⟨a2, k2, a4, k4, by rw [hk, hv], ⟨R2.reads, R4.reads, by rw [hk]; exact R2.le, by rw [hv]; exact R4.le, HH.out.bk, HH.out.bv, R2.max, R4.max⟩, fun q hq => by have := m2 q hq; omega, fun q hq => by have := m4 q hq; omega⟩
end Go.Proofs.Ytbopfpdgoalfoaa
