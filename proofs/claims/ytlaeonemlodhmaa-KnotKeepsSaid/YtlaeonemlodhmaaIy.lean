/- KnotChanges. -/
import Derived.Test.YtlaeonemlodhmaaIv
import Derived.Test.YtlaeonemlodhmaaIu
import Derived.Test.YtlaeonemlodhmaaIr
import Derived.Test.YtlaeonemlodhmaaIk
namespace Go.Proofs.Ytlaeonemlodhmaa
open Go.ChangeShapes Go.WideShapes Go.ChangeAt Go.RowKit
set_option linter.unusedVariables false
set_option linter.unusedSimpArgs false
attribute [local go_sem ↓] Go.wp_at_zero Go.wp_at_succ

/-- A pair and a place, opened. -/
theorem open_pair {H : Type} {enc : TypeId × Value → H} {base : Nat} (v : Value) (W : World) {d : DataW H} {p : List MemPlace} (k : DataW.Trod enc Try.prog W 0 (fun _ => true) true 32 v d p) (hv : Value.okWide Try.prog W .any base 32 v) :
    ∃ (z : Int) (x y : Nat), v = .agg #[.int .i64 z, .int .u64 (x : Int), .int .u64 (y : Int)] := by
  obtain ⟨cs, rfl, hsz⟩ := okWide_struct Try.underlying32 hv
  have e4 : Try.prog.cellsOf 32 = 3 := by kernel_rfl
  rw [e4] at hsz
  obtain ⟨m, hm⟩ := k
  obtain ⟨y0, y1, y2, q, hx, hl2, h0, h1, h2⟩ := trod_struct3 Try.underlying32 hm
  obtain ⟨cl, rfl⟩ : ∃ cl : List Value, cs = cl.toArray := ⟨cs.toList, by simp⟩
  match cl, hsz with
  | [v0, v1, v2], _ =>
    have c3 : Try.prog.cellsOf 3 = 1 := by kernel_rfl
    have c32 : Try.prog.cellsOf 25 = 1 := by kernel_rfl
    simp only [c3, c32, Value.cells, List.drop_zero, List.drop_succ_cons, List.take_succ_cons, List.take_zero] at h0 h1 h2
    obtain ⟨q0, r0, _, wf0⟩ := DataW.trod_int Try.underlying3 h0
    obtain ⟨q1, r1, _, wf1⟩ := DataW.trod_int Try.underlying25 h1
    obtain ⟨q2, r2, _, wf2⟩ := DataW.trod_int Try.underlying25 h2
    simp at r0 r1 r2
    subst r0 r1 r2
    have b1 := wf_u64 wf1
    have b2 := wf_u64 wf2
    exact ⟨q0, q1.toNat, q2.toNat, by rw [Int.toNat_of_nonneg b1.1, Int.toNat_of_nonneg b2.1]⟩
theorem wr_of {w : World} {B : Nat} {a : Option Addr} {c : Nat} {L : List Nat} (h : Room w B a L.length c (uvs L)) : Wr w a L.length := fun hn => by
  obtain ⟨b, o, e, hB, hs, hv⟩ := h.at_ (by have := h.le; omega)
  refine ⟨b, o, e, fun j hj => ⟨?_, (hs j (by have := h.le; omega)).2⟩⟩
  obtain ⟨x, hx⟩ : ∃ x, L[j]? = some x := ⟨_, List.getElem?_eq_getElem hj⟩
  exact ⟨_, hv j _ (uvs_get hx)⟩
theorem wb_fp {a : Option Addr} {n c q : Nat} (h : n ≤ c) (hq : q ∈ wb a n) : q ∈ fp a c := by
  unfold wb at hq
  unfold fp
  split at hq
  · simp at hq
  · rw [if_neg (by omega)]; exact hq
/-- What was there before all that turned. -/
theorem cell_old {w w' : World} {S : List Nat} (g : Chg S w w') (hS : ∀ q ∈ S, w.heap.size ≤ q) {p : Addr} {v : Value} (h : w.cell? p = some v) : w'.cell? p = some v :=
  g.cellv h (fun hm => by have := hS _ hm; have := block_lt_of_cell h; omega)
theorem RdN.old {w w' : World} {S : List Nat} {ka : Option Addr} {kc : Nat} {va : Option Addr} {vc : Nat} {K V : List Nat} (h : RdN w ka kc va vc K V) (g : Chg S w w') (hS : ∀ q ∈ S, w.heap.size ≤ q) : RdN w' ka kc va vc K V :=
  ⟨h.rk.old g hS, h.rv.old g hS, h.ck, h.cv, h.bk, h.bv, h.xk, h.xv⟩
/-- A node whose blocks lie within bounds. -/
structure Lies (w : World) (lo hi : Nat) (ka : Option Addr) (kc : Nat) (va : Option Addr) (vc : Nat) (K V : List Nat) : Prop where
  rm : RmN w lo ka kc va vc K V
  bk : ∀ q, q ∈ fp ka kc → q < hi
  bv : ∀ q, q ∈ fp va vc → q < hi
theorem Lies.chg {w w' : World} {lo hi lo' hi' : Nat} {ka : Option Addr} {kc : Nat} {va : Option Addr} {vc : Nat} {K V : List Nat} (h : Lies w lo hi ka kc va vc K V) {S : List Nat} (g : Chg S w w') (hS : ∀ q ∈ S, lo' ≤ q ∧ q < hi') (d : hi ≤ lo' ∨ hi' ≤ lo) : Lies w' lo hi ka kc va vc K V := by
  refine ⟨⟨h.rm.rk.chg g (fun q hq hm => ?_), h.rm.rv.chg g (fun q hq hm => ?_), h.rm.dj⟩, h.bk, h.bv⟩
  · have := h.bk q hq; have := (h.rm.rk.lt q hq).1; have := hS q hm; omega
  · have := h.bv q hq; have := (h.rm.rv.lt q hq).1; have := hS q hm; omega
theorem Lies.wbs {w : World} {lo hi : Nat} {ka : Option Addr} {kc : Nat} {va : Option Addr} {vc : Nat} {K V : List Nat} (h : Lies w lo hi ka kc va vc K V) : ∀ q ∈ wb ka K.length ++ wb va V.length, lo ≤ q ∧ q < hi := fun q hq => by
  rcases List.mem_append.1 hq with hq | hq
  · have hq := wb_fp h.rm.rk.le hq
    exact ⟨(h.rm.rk.lt q hq).1, h.bk q hq⟩
  · have hq := wb_fp h.rm.rv.le hq
    exact ⟨(h.rm.rv.lt q hq).1, h.bv q hq⟩
/-- spoil of such a node. -/
theorem spoil_lies (lf : Bool) {w : World} {lo hi : Nat} {ka : Option Addr} {kc : Nat} {va : Option Addr} {vc : Nat} {K V : List Nat} (h : Lies w lo hi ka kc va vc K V) (hk : K.length ≤ 1000000000) (hv : V.length ≤ 1000000000) : Calls Try.prog 23 #[.agg #[.bool lf, .slice ka K.length kc, .slice va V.length vc]] w fun e w' => e = .returned (.tuple #[]) ∧ (∃ S, Chg S w w' ∧ ∀ q ∈ S, lo ≤ q ∧ q < hi) ∧ Turn64 w w' := by
  refine (spoil_any lf ka K.length kc va V.length vc w (wr_of h.rm.rk) (wr_of h.rm.rv) hk hv).mono ?_
  rintro e w' ⟨rfl, g, t⟩
  exact ⟨rfl, ⟨_, g, h.wbs⟩, t⟩
theorem same_as (lf : Bool) (ka : Option Addr) (kc : Nat) (va : Option Addr) (vc : Nat) (ka' : Option Addr) (kc' : Nat) (va' : Option Addr) (vc' : Nat) (K V : List Nat) (n m : Nat) (w : World) (h : RdN w ka kc va vc K V) (h' : RdN w ka' kc' va' vc' K V) (hn : K.length = n) (hm : V.length = m) :
    Calls Try.prog 19 #[.agg #[.bool lf, .slice ka n kc, .slice va m vc], .agg #[.bool lf, .slice ka' n kc', .slice va' m vc']] w fun e w' => e = .returned (.bool true) ∧ Chg [] w w' := by
  have := rsame_any lf ka n kc va m vc K V lf ka' n kc' va' m vc' K V w h hn hm h' hn hm
  rwa [same_self] at this
theorem ins_len {P a x : Nat} {L : List Nat} (hP : P ≤ L.length) (ha : a ≤ P) : (insL P a x L).length = P + 1 := by
  unfold insL
  simp only [List.length_append, List.length_cons, List.length_nil]
  rw [sub_len (by omega), sub_len (by omega)]; omega
theorem setO_len {z : Int} {x P : Nat} {L : List Nat} (hP : P ≤ L.length) : (setO z x P L).length = P := by
  unfold setO
  split
  · unfold setL
    simp only [List.length_append, List.length_cons, List.length_nil]
    rw [sub_len (by omega), sub_len (by omega)]; omega
  · rw [sub_len (by omega)]; omega
theorem remO_len {z : Int} {P : Nat} {L : List Nat} (hP : P ≤ L.length) : (remO z P L).length ≤ P := by
  unfold remO
  split
  · unfold remL
    simp only [List.length_append]
    rw [sub_len (by omega), sub_len (by omega)]; omega
  · rw [sub_len (by omega)]; omega
theorem step15 {a0 a1 a2 a3 a4 a5 a6 a7 a8 a9 a10 a11 a12 a13 a14 : Addr} {v0 v1 v2 v3 v4 v5 v6 v7 v8 v9 v10 v11 v12 v13 v14 : Value} {W u u' : World} (h : u.cell? a0 = some v0 ∧ u.cell? a1 = some v1 ∧ u.cell? a2 = some v2 ∧ u.cell? a3 = some v3 ∧ u.cell? a4 = some v4 ∧ u.cell? a5 = some v5 ∧ u.cell? a6 = some v6 ∧ u.cell? a7 = some v7 ∧ u.cell? a8 = some v8 ∧ u.cell? a9 = some v9 ∧ u.cell? a10 = some v10 ∧ u.cell? a11 = some v11 ∧ u.cell? a12 = some v12 ∧ u.cell? a13 = some v13 ∧ u.cell? a14 = some v14 ∧ Chg [] W u) (g : Chg [] u u') : u'.cell? a0 = some v0 ∧ u'.cell? a1 = some v1 ∧ u'.cell? a2 = some v2 ∧ u'.cell? a3 = some v3 ∧ u'.cell? a4 = some v4 ∧ u'.cell? a5 = some v5 ∧ u'.cell? a6 = some v6 ∧ u'.cell? a7 = some v7 ∧ u'.cell? a8 = some v8 ∧ u'.cell? a9 = some v9 ∧ u'.cell? a10 = some v10 ∧ u'.cell? a11 = some v11 ∧ u'.cell? a12 = some v12 ∧ u'.cell? a13 = some v13 ∧ u'.cell? a14 = some v14 ∧ Chg [] W u' :=
  ⟨g.cellv h.1 (by simp), g.cellv h.2.1 (by simp), g.cellv h.2.2.1 (by simp), g.cellv h.2.2.2.1 (by simp), g.cellv h.2.2.2.2.1 (by simp), g.cellv h.2.2.2.2.2.1 (by simp), g.cellv h.2.2.2.2.2.2.1 (by simp), g.cellv h.2.2.2.2.2.2.2.1 (by simp), g.cellv h.2.2.2.2.2.2.2.2.1 (by simp), g.cellv h.2.2.2.2.2.2.2.2.2.1 (by simp), g.cellv h.2.2.2.2.2.2.2.2.2.2.1 (by simp), g.cellv h.2.2.2.2.2.2.2.2.2.2.2.1 (by simp), g.cellv h.2.2.2.2.2.2.2.2.2.2.2.2.1 (by simp), g.cellv h.2.2.2.2.2.2.2.2.2.2.2.2.2.1 (by simp), g.cellv h.2.2.2.2.2.2.2.2.2.2.2.2.2.2.1 (by simp), h.2.2.2.2.2.2.2.2.2.2.2.2.2.2.2.then g⟩
theorem pick15 {p0 p1 p2 p3 p4 p5 p6 p7 p8 p9 p10 p11 p12 p13 p14 q : Prop} (h : p0 ∧ p1 ∧ p2 ∧ p3 ∧ p4 ∧ p5 ∧ p6 ∧ p7 ∧ p8 ∧ p9 ∧ p10 ∧ p11 ∧ p12 ∧ p13 ∧ p14 ∧ q) : q := h.2.2.2.2.2.2.2.2.2.2.2.2.2.2.2
theorem step9 {a0 a1 a2 a3 a4 a5 a6 a7 a8 : Addr} {v0 v1 v2 v3 v4 v5 v6 v7 v8 : Value} {W u u' : World} (h : u.cell? a0 = some v0 ∧ u.cell? a1 = some v1 ∧ u.cell? a2 = some v2 ∧ u.cell? a3 = some v3 ∧ u.cell? a4 = some v4 ∧ u.cell? a5 = some v5 ∧ u.cell? a6 = some v6 ∧ u.cell? a7 = some v7 ∧ u.cell? a8 = some v8 ∧ Chg [] W u) (g : Chg [] u u') : u'.cell? a0 = some v0 ∧ u'.cell? a1 = some v1 ∧ u'.cell? a2 = some v2 ∧ u'.cell? a3 = some v3 ∧ u'.cell? a4 = some v4 ∧ u'.cell? a5 = some v5 ∧ u'.cell? a6 = some v6 ∧ u'.cell? a7 = some v7 ∧ u'.cell? a8 = some v8 ∧ Chg [] W u' :=
  ⟨g.cellv h.1 (by simp), g.cellv h.2.1 (by simp), g.cellv h.2.2.1 (by simp), g.cellv h.2.2.2.1 (by simp), g.cellv h.2.2.2.2.1 (by simp), g.cellv h.2.2.2.2.2.1 (by simp), g.cellv h.2.2.2.2.2.2.1 (by simp), g.cellv h.2.2.2.2.2.2.2.1 (by simp), g.cellv h.2.2.2.2.2.2.2.2.1 (by simp), h.2.2.2.2.2.2.2.2.2.then g⟩
theorem pick9 {p0 p1 p2 p3 p4 p5 p6 p7 p8 q : Prop} (h : p0 ∧ p1 ∧ p2 ∧ p3 ∧ p4 ∧ p5 ∧ p6 ∧ p7 ∧ p8 ∧ q) : q := h.2.2.2.2.2.2.2.2.2
theorem Lies.keep' {w w' : World} {lo hi : Nat} {ka : Option Addr} {kc : Nat} {va : Option Addr} {vc : Nat} {K V : List Nat} (h : Lies w lo hi ka kc va vc K V) (g : Chg [] w w') : Lies w' lo hi ka kc va vc K V := ⟨h.rm.keep g, h.bk, h.bv⟩
theorem off_box {f g q : Nat} (d : g ≤ q ∨ q + 1 ≤ f) (p : Nat) (h1 : f ≤ p) (h2 : p < g) : p ≠ q := by omega
theorem box_ne {q r : Nat} (d : q + 1 ≤ r ∨ r + 1 ≤ q) : q ≠ r := by omega
theorem keepst {w w' : World} {R : Nat} {x y z : Value} (h : w.cell? ⟨R, 0, none⟩ = some x ∧ w.cell? ⟨R, 1, none⟩ = some y ∧ w.cell? ⟨R, 2, none⟩ = some z ∧ w.frozen? ⟨R, 1, none⟩ = false ∧ w.frozen? ⟨R, 2, none⟩ = false) {S : List Nat} (g : Chg S w w') (hn : R ∉ S) : w'.cell? ⟨R, 0, none⟩ = some x ∧ w'.cell? ⟨R, 1, none⟩ = some y ∧ w'.cell? ⟨R, 2, none⟩ = some z ∧ w'.frozen? ⟨R, 1, none⟩ = false ∧ w'.frozen? ⟨R, 2, none⟩ = false :=
  ⟨g.cellv h.1 hn, g.cellv h.2.1 hn, g.cellv h.2.2.1 hn, (g.frozen (p := ⟨R, 1, none⟩) (block_lt_of_cell h.2.1) hn).trans h.2.2.2.1, (g.frozen (p := ⟨R, 2, none⟩) (block_lt_of_cell h.2.2.1) hn).trans h.2.2.2.2⟩
set_option maxRecDepth 100000 in
set_option maxHeartbeats 8000000 in
theorem changes_core (lf : Bool) (ka : Option Addr) (kl kc : Nat) (va : Option Addr) (vl vc : Nat) (K V : List Nat) (z : Int) (x y : Nat) (w : World) (h : RdN w ka kc va vc K V) (hk : K.length = kl) (hv : V.length = vl) :
    Calls Try.prog 4 #[.agg #[.bool lf, .slice ka kl kc, .slice va vl vc], .agg #[.int .i64 z, .int .u64 (x : Int), .int .u64 (y : Int)]] w fun e w' => e = .returned (.bool true) ∧ Chg [] w w' := by
  obtain ⟨w1, hw1⟩ : ∃ w1, w1 = ((w.alloc (.cells #[.bool lf, .slice ka kl kc, .slice va vl vc] 24)).alloc (.cells #[.int .i64 z, .int .u64 (x : Int), .int .u64 (y : Int)] 32)) := ⟨_, rfl⟩
  have a0 : w1.cell? ⟨w.heap.size, 0, none⟩ = some (.bool lf) := by rw [hw1]; simp [go_sem]
  have a1 : w1.cell? ⟨w.heap.size, 1, none⟩ = some (.slice ka kl kc) := by rw [hw1]; simp [go_sem]
  have a2 : w1.cell? ⟨w.heap.size, 2, none⟩ = some (.slice va vl vc) := by rw [hw1]; simp [go_sem]
  have p0 : w1.cell? ⟨w.heap.size + 1, 0, none⟩ = some (.int .i64 z) := by rw [hw1]; simp [go_sem]
  have p1 : w1.cell? ⟨w.heap.size + 1, 1, none⟩ = some (.int .u64 (x : Int)) := by rw [hw1]; simp [go_sem]
  have p2 : w1.cell? ⟨w.heap.size + 1, 2, none⟩ = some (.int .u64 (y : Int)) := by rw [hw1]; simp [go_sem]
  have g0 : Chg [] w w1 := by rw [hw1]; exact (Chg.alloc [] w _).then (Chg.alloc [] _ _)
  have hz : w1.heap.size = w.heap.size + 2 := by rw [hw1]; simp
  have HE := mkHid (And.intro a0 (And.intro a1 (And.intro a2 (And.intro p0 (And.intro p1 (And.intro p2 (And.intro g0 (hz))))))))
  clear a0 a1 a2 p0 p1 p2 g0 hz
  have HH := mkHid h
  have HKV := mkHid (And.intro hk hv)
  clear h hk hv
  go_enter Try.func4, Try.ntmps4
  go_wp2_with fail
  rw [← hw1]
  clear hw1
  obtain ⟨a0, a1, a2, p0, p1, p2, g0, hz⟩ := HE.out
  clear HE
  obtain ⟨pb, hpb⟩ : ∃ b, w.heap.size + 1 = b := ⟨_, rfl⟩
  rw [hpb] at p0 p1 p2 ⊢
  have HR := mkHid (show w.heap.size + 1 = pb ∧ pb + 1 = w1.heap.size by omega)
  clear hz hpb
  go_wp2_with fail
  refine (awake_any w1).mono ?_
  rintro e w2 ⟨rfl, g2⟩
  have x0 := g2.cellv a0 (by simp)
  have x1 := g2.cellv a1 (by simp)
  have x2 := g2.cellv a2 (by simp)
  have y0 := g2.cellv p0 (by simp)
  have y1 := g2.cellv p1 (by simp)
  have y2 := g2.cellv p2 (by simp)
  have G2 := g0.then g2
  clear a0 a1 a2 p0 p1 p2 g2 g0
  go_wp2_with fail
  refine (long_any lf ka kl kc va vl vc w2).mono ?_
  rintro e w3 ⟨rfl, g3⟩
  have a0 := g3.cellv x0 (by simp)
  have a1 := g3.cellv x1 (by simp)
  have a2 := g3.cellv x2 (by simp)
  have p0 := g3.cellv y0 (by simp)
  have p1 := g3.cellv y1 (by simp)
  have p2 := g3.cellv y2 (by simp)
  have G3 := G2.then g3
  clear x0 x1 x2 y0 y1 y2 g3 G2
  cases hlong : (decide (3000 < kl) || decide (3000 < vl)) with
  | true =>
    clear hlong
    go_wp2_with fail
    go_ret
    exact ⟨rfl, G3⟩
  | false =>
    have hkl : kl ≤ 3000 ∧ vl ≤ 3000 := by
      simp only [Bool.or_eq_false_iff, decide_eq_false_iff_not] at hlong
      omega
    clear hlong
    have hnp : np K V ≤ 3000 := by have := np_le (K := K) (V := V); have := HKV.out; omega
    have hlP : np K V ≤ K.length ∧ np K V ≤ V.length := np_le
    go_wp2_with fail
    refine (own_any lf ka kl kc va vl vc K V w3 (HH.out.keep G3) HKV.out.1 HKV.out.2).mono ?_
    rintro e w4 ⟨⟨oa, oc, ob, od, rfl, hO, -, -⟩, g4⟩
    rw [HKV.out.1, HKV.out.2]
    have n5 := Chg.alloc [] w4 (.cells #[.bool lf, .slice oa kl oc, .slice ob vl od] 24)
    obtain ⟨o0, o1, o2⟩ := laid3 w4 (.bool lf) (.slice oa kl oc) (.slice ob vl od) 24
    have g5 := g4.then n5
    have x0 := g5.cellv a0 (by simp)
    have x1 := g5.cellv a1 (by simp)
    have x2 := g5.cellv a2 (by simp)
    have y0 := g5.cellv p0 (by simp)
    have y1 := g5.cellv p1 (by simp)
    have y2 := g5.cellv p2 (by simp)
    have G5 := G3.then g5
    have hO5 := hO.keep n5
    clear a0 a1 a2 p0 p1 p2 g4 n5 g5 hO G3
    have HX := mkHid (And.intro x0 (And.intro x1 (And.intro x2 (And.intro y0 (And.intro y1 (And.intro y2 (And.intro o0 (And.intro o1 (And.intro o2 (And.intro G5 hO5))))))))))
    clear x0 x1 x2 y0 y1 y2 o0 o1 o2 G5 hO5
    go_wp2_with fail
    obtain ⟨a0, a1, a2, p0, p1, p2, o0, o1, o2, G5, hO⟩ := HX.out
    clear HX
    generalize w4.alloc (.cells #[.bool lf, .slice oa kl oc, .slice ob vl od] 24) = w5 at *
    generalize w4.heap.size = qb at *
    have cI := fun (u : World) (g : Chg [] w5 u) => insert_any lf oa kl oc ob vl od K V u (hO.keep g) HKV.out.1 HKV.out.2 z x y (by omega)
    have cS := fun (u : World) (g : Chg [] w5 u) => set_any lf oa kl oc ob vl od K V u (hO.keep g) HKV.out.1 HKV.out.2 z x y (by omega)
    have cR := fun (u : World) (g : Chg [] w5 u) => remove_any lf oa kl oc ob vl od K V u (hO.keep g) HKV.out.1 HKV.out.2 z (by omega)
    have rI := fun (u : World) (h : RdN u ka kc va vc K V) => rinsert_any lf ka kl kc va vl vc K V u h HKV.out.1 HKV.out.2 (by omega) z x y
    have rS := fun (u : World) (h : RdN u ka kc va vc K V) => rset_any lf ka kl kc va vl vc K V u h HKV.out.1 HKV.out.2 (by omega) z x y
    have rR := fun (u : World) (h : RdN u ka kc va vc K V) => rremove_any lf ka kl kc va vl vc K V u h HKV.out.1 HKV.out.2 (by omega) z
    have hcl := clamp_le z (np K V)
    have L1 := ins_len (x := x) (L := K) hlP.1 hcl
    have L2 := ins_len (x := y) (L := V) hlP.2 hcl
    have L3 := setO_len (z := z) (x := x) (L := K) hlP.1
    have L4 := setO_len (z := z) (x := y) (L := V) hlP.2
    have L5 := remO_len (z := z) (L := K) hlP.1
    have L6 := remO_len (z := z) (L := V) hlP.2
    generalize insL (np K V) (clampN z (np K V)) x K = XI at *
    generalize insL (np K V) (clampN z (np K V)) y V = YI at *
    generalize setO z x (np K V) K = XS at *
    generalize setO z y (np K V) V = YS at *
    generalize remO z (np K V) K = XR at *
    generalize remO z (np K V) V = YR at *
    have HL := mkHid (show XI.length ≤ 4000 ∧ YI.length ≤ 4000 ∧ XS.length ≤ 4000 ∧ YS.length ≤ 4000 ∧ XR.length ≤ 4000 ∧ YR.length ≤ 4000 by omega)
    clear L1 L2 L3 L4 L5 L6 hcl
    have CI := mkHid cI
    have CS := mkHid cS
    have CR := mkHid cR
    have RI := mkHid rI
    have RS := mkHid rS
    have RR := mkHid rR
    have HO := mkHid (And.intro (HH.out.keep G5) hO)
    clear cI cS cR rI rS rR hO
    refine region_made 23 [IsV (.agg #[.bool lf, .slice oa kl oc, .slice ob vl od]), IsV (.pointer (some ⟨pb, 0, none⟩)), IsV (.int .i64 z), IsV (.pointer (some ⟨pb, 1, none⟩)), IsV (.int .u64 (x : Int)), IsV (.pointer (some ⟨pb, 2, none⟩)), IsV (.int .u64 (y : Int)), IsN lf (XI) (YI), IsV (.agg #[.bool lf, .slice oa kl oc, .slice ob vl od]), IsV (.pointer (some ⟨pb, 0, none⟩)), IsV (.int .i64 z), IsV (.pointer (some ⟨pb, 1, none⟩)), IsV (.int .u64 (x : Int)), IsV (.pointer (some ⟨pb, 2, none⟩)), IsV (.int .u64 (y : Int)), IsN lf (XS) (YS), IsV (.agg #[.bool lf, .slice oa kl oc, .slice ob vl od]), IsV (.pointer (some ⟨pb, 0, none⟩)), IsV (.int .i64 z), IsN lf (XR) (YR), IsBox, IsBox, IsBox] (by kernel_rfl) (by kernel_rfl) (by kernel_rfl) (by decide) (of_decide_eq_true (by kernel_rfl)) ⟨keepV _, keepV _, keepV _, keepV _, keepV _, keepV _, keepV _, keepN _ _ _, keepV _, keepV _, keepV _, keepV _, keepV _, keepV _, keepV _, keepN _ _ _, keepV _, keepV _, keepV _, keepN _ _ _, keepB, keepB, keepB, trivial⟩ ?_ ?_
    · refine ⟨?_, ?_, ?_, ?_, ?_, ?_, ?_, ?_, ?_, ?_, ?_, ?_, ?_, ?_, ?_, ?_, ?_, ?_, ?_, ?_, ?_, ?_, ?_, trivial⟩
      · intro v u hg hd K hK
        have hz := (Chg.drew [] w5).then hg
        have x0 := hz.cellv o0 (by simp)
        have x1 := hz.cellv o1 (by simp)
        have x2 := hz.cellv o2 (by simp)
        clear hd
        have hk := hK.out (.agg #[.bool lf, .slice oa kl oc, .slice ob vl od]) u (Chg.refl _ _) rfl
        clear hK
        simp only [List.toList_toArray, List.take_succ_cons, List.take_zero, List.drop_succ_cons, List.drop_zero, putAll, Act.put, List.setIfInBounds_toArray, List.set_cons_zero, List.set_cons_succ, Nat.zero_add, Nat.reduceAdd] at hk ⊢
        go_simp
        exact hk
      · intro v u hg hd K hK
        clear hd
        have hk := hK.out (.pointer (some ⟨pb, 0, none⟩)) u (Chg.refl _ _) rfl
        clear hK
        simp only [List.toList_toArray, List.take_succ_cons, List.take_zero, List.drop_succ_cons, List.drop_zero, putAll, Act.put, List.setIfInBounds_toArray, List.set_cons_zero, List.set_cons_succ, Nat.zero_add, Nat.reduceAdd] at hk ⊢
        go_simp
        exact hk
      · intro v u hg hd K hK
        have h1 : ∃ lo hi, IsV (.pointer (some ⟨pb, 0, none⟩)) (v 1) lo hi u := dep hd 1 (by kernel_rfl)
        have e1 : v 1 = .pointer (some ⟨pb, 0, none⟩) := depV h1
        have hz := (Chg.drew [] w5).then hg
        have x0 := hz.cellv p0 (by simp)
        clear hd
        have hk := hK.out (.int .i64 z) u (Chg.refl _ _) rfl
        clear hK
        simp only [List.toList_toArray, List.take_succ_cons, List.take_zero, List.drop_succ_cons, List.drop_zero, putAll, Act.put, List.setIfInBounds_toArray, List.set_cons_zero, List.set_cons_succ, Nat.zero_add, Nat.reduceAdd, e1] at hk ⊢
        go_simp
        exact hk
      · intro v u hg hd K hK
        clear hd
        have hk := hK.out (.pointer (some ⟨pb, 1, none⟩)) u (Chg.refl _ _) rfl
        clear hK
        simp only [List.toList_toArray, List.take_succ_cons, List.take_zero, List.drop_succ_cons, List.drop_zero, putAll, Act.put, List.setIfInBounds_toArray, List.set_cons_zero, List.set_cons_succ, Nat.zero_add, Nat.reduceAdd] at hk ⊢
        go_simp
        exact hk
      · intro v u hg hd K hK
        have h3 : ∃ lo hi, IsV (.pointer (some ⟨pb, 1, none⟩)) (v 3) lo hi u := dep hd 3 (by kernel_rfl)
        have e3 : v 3 = .pointer (some ⟨pb, 1, none⟩) := depV h3
        have hz := (Chg.drew [] w5).then hg
        have x1 := hz.cellv p1 (by simp)
        clear hd
        have hk := hK.out (.int .u64 (x : Int)) u (Chg.refl _ _) rfl
        clear hK
        simp only [List.toList_toArray, List.take_succ_cons, List.take_zero, List.drop_succ_cons, List.drop_zero, putAll, Act.put, List.setIfInBounds_toArray, List.set_cons_zero, List.set_cons_succ, Nat.zero_add, Nat.reduceAdd, e3] at hk ⊢
        go_simp
        exact hk
      · intro v u hg hd K hK
        clear hd
        have hk := hK.out (.pointer (some ⟨pb, 2, none⟩)) u (Chg.refl _ _) rfl
        clear hK
        simp only [List.toList_toArray, List.take_succ_cons, List.take_zero, List.drop_succ_cons, List.drop_zero, putAll, Act.put, List.setIfInBounds_toArray, List.set_cons_zero, List.set_cons_succ, Nat.zero_add, Nat.reduceAdd] at hk ⊢
        go_simp
        exact hk
      · intro v u hg hd K hK
        have h5 : ∃ lo hi, IsV (.pointer (some ⟨pb, 2, none⟩)) (v 5) lo hi u := dep hd 5 (by kernel_rfl)
        have e5 : v 5 = .pointer (some ⟨pb, 2, none⟩) := depV h5
        have hz := (Chg.drew [] w5).then hg
        have x2 := hz.cellv p2 (by simp)
        clear hd
        have hk := hK.out (.int .u64 (y : Int)) u (Chg.refl _ _) rfl
        clear hK
        simp only [List.toList_toArray, List.take_succ_cons, List.take_zero, List.drop_succ_cons, List.drop_zero, putAll, Act.put, List.setIfInBounds_toArray, List.set_cons_zero, List.set_cons_succ, Nat.zero_add, Nat.reduceAdd, e5] at hk ⊢
        go_simp
        exact hk
      · intro v u hg hd K hK
        have h0 : ∃ lo hi, IsV (.agg #[.bool lf, .slice oa kl oc, .slice ob vl od]) (v 0) lo hi u := dep hd 0 (by kernel_rfl)
        have e0 : v 0 = .agg #[.bool lf, .slice oa kl oc, .slice ob vl od] := depV h0
        have h2 : ∃ lo hi, IsV (.int .i64 z) (v 2) lo hi u := dep hd 2 (by kernel_rfl)
        have e2 : v 2 = .int .i64 z := depV h2
        have h4 : ∃ lo hi, IsV (.int .u64 (x : Int)) (v 4) lo hi u := dep hd 4 (by kernel_rfl)
        have e4 : v 4 = .int .u64 (x : Int) := depV h4
        have h6 : ∃ lo hi, IsV (.int .u64 (y : Int)) (v 6) lo hi u := dep hd 6 (by kernel_rfl)
        have e6 : v 6 = .int .u64 (y : Int) := depV h6
        clear hd
        simp only [List.toList_toArray, List.take_succ_cons, List.take_zero, List.drop_succ_cons, List.drop_zero, putAll, Act.put, List.setIfInBounds_toArray, List.set_cons_zero, List.set_cons_succ, Nat.zero_add, Nat.reduceAdd, e0, e2, e4, e6] at hK ⊢
        go_simp
        refine (CI.out u ((Chg.drew [] w5).then hg)).mono ?_
        rintro e u' ⟨⟨qa, qc, qa', qc', rfl, hr⟩, g'⟩
        have hk := hK.out (_) u' g' (isN_out ⟨_, _, _, _, rfl, hr⟩)
        exact hk
      · intro v u hg hd K hK
        have hz := (Chg.drew [] w5).then hg
        have x0 := hz.cellv o0 (by simp)
        have x1 := hz.cellv o1 (by simp)
        have x2 := hz.cellv o2 (by simp)
        clear hd
        have hk := hK.out (.agg #[.bool lf, .slice oa kl oc, .slice ob vl od]) u (Chg.refl _ _) rfl
        clear hK
        simp only [List.toList_toArray, List.take_succ_cons, List.take_zero, List.drop_succ_cons, List.drop_zero, putAll, Act.put, List.setIfInBounds_toArray, List.set_cons_zero, List.set_cons_succ, Nat.zero_add, Nat.reduceAdd] at hk ⊢
        go_simp
        exact hk
      · intro v u hg hd K hK
        clear hd
        have hk := hK.out (.pointer (some ⟨pb, 0, none⟩)) u (Chg.refl _ _) rfl
        clear hK
        simp only [List.toList_toArray, List.take_succ_cons, List.take_zero, List.drop_succ_cons, List.drop_zero, putAll, Act.put, List.setIfInBounds_toArray, List.set_cons_zero, List.set_cons_succ, Nat.zero_add, Nat.reduceAdd] at hk ⊢
        go_simp
        exact hk
      · intro v u hg hd K hK
        have h9 : ∃ lo hi, IsV (.pointer (some ⟨pb, 0, none⟩)) (v 9) lo hi u := dep hd 9 (by kernel_rfl)
        have e9 : v 9 = .pointer (some ⟨pb, 0, none⟩) := depV h9
        have hz := (Chg.drew [] w5).then hg
        have x0 := hz.cellv p0 (by simp)
        clear hd
        have hk := hK.out (.int .i64 z) u (Chg.refl _ _) rfl
        clear hK
        simp only [List.toList_toArray, List.take_succ_cons, List.take_zero, List.drop_succ_cons, List.drop_zero, putAll, Act.put, List.setIfInBounds_toArray, List.set_cons_zero, List.set_cons_succ, Nat.zero_add, Nat.reduceAdd, e9] at hk ⊢
        go_simp
        exact hk
      · intro v u hg hd K hK
        clear hd
        have hk := hK.out (.pointer (some ⟨pb, 1, none⟩)) u (Chg.refl _ _) rfl
        clear hK
        simp only [List.toList_toArray, List.take_succ_cons, List.take_zero, List.drop_succ_cons, List.drop_zero, putAll, Act.put, List.setIfInBounds_toArray, List.set_cons_zero, List.set_cons_succ, Nat.zero_add, Nat.reduceAdd] at hk ⊢
        go_simp
        exact hk
      · intro v u hg hd K hK
        have h11 : ∃ lo hi, IsV (.pointer (some ⟨pb, 1, none⟩)) (v 11) lo hi u := dep hd 11 (by kernel_rfl)
        have e11 : v 11 = .pointer (some ⟨pb, 1, none⟩) := depV h11
        have hz := (Chg.drew [] w5).then hg
        have x1 := hz.cellv p1 (by simp)
        clear hd
        have hk := hK.out (.int .u64 (x : Int)) u (Chg.refl _ _) rfl
        clear hK
        simp only [List.toList_toArray, List.take_succ_cons, List.take_zero, List.drop_succ_cons, List.drop_zero, putAll, Act.put, List.setIfInBounds_toArray, List.set_cons_zero, List.set_cons_succ, Nat.zero_add, Nat.reduceAdd, e11] at hk ⊢
        go_simp
        exact hk
      · intro v u hg hd K hK
        clear hd
        have hk := hK.out (.pointer (some ⟨pb, 2, none⟩)) u (Chg.refl _ _) rfl
        clear hK
        simp only [List.toList_toArray, List.take_succ_cons, List.take_zero, List.drop_succ_cons, List.drop_zero, putAll, Act.put, List.setIfInBounds_toArray, List.set_cons_zero, List.set_cons_succ, Nat.zero_add, Nat.reduceAdd] at hk ⊢
        go_simp
        exact hk
      · intro v u hg hd K hK
        have h13 : ∃ lo hi, IsV (.pointer (some ⟨pb, 2, none⟩)) (v 13) lo hi u := dep hd 13 (by kernel_rfl)
        have e13 : v 13 = .pointer (some ⟨pb, 2, none⟩) := depV h13
        have hz := (Chg.drew [] w5).then hg
        have x2 := hz.cellv p2 (by simp)
        clear hd
        have hk := hK.out (.int .u64 (y : Int)) u (Chg.refl _ _) rfl
        clear hK
        simp only [List.toList_toArray, List.take_succ_cons, List.take_zero, List.drop_succ_cons, List.drop_zero, putAll, Act.put, List.setIfInBounds_toArray, List.set_cons_zero, List.set_cons_succ, Nat.zero_add, Nat.reduceAdd, e13] at hk ⊢
        go_simp
        exact hk
      · intro v u hg hd K hK
        have h8 : ∃ lo hi, IsV (.agg #[.bool lf, .slice oa kl oc, .slice ob vl od]) (v 8) lo hi u := dep hd 8 (by kernel_rfl)
        have e8 : v 8 = .agg #[.bool lf, .slice oa kl oc, .slice ob vl od] := depV h8
        have h10 : ∃ lo hi, IsV (.int .i64 z) (v 10) lo hi u := dep hd 10 (by kernel_rfl)
        have e10 : v 10 = .int .i64 z := depV h10
        have h12 : ∃ lo hi, IsV (.int .u64 (x : Int)) (v 12) lo hi u := dep hd 12 (by kernel_rfl)
        have e12 : v 12 = .int .u64 (x : Int) := depV h12
        have h14 : ∃ lo hi, IsV (.int .u64 (y : Int)) (v 14) lo hi u := dep hd 14 (by kernel_rfl)
        have e14 : v 14 = .int .u64 (y : Int) := depV h14
        clear hd
        simp only [List.toList_toArray, List.take_succ_cons, List.take_zero, List.drop_succ_cons, List.drop_zero, putAll, Act.put, List.setIfInBounds_toArray, List.set_cons_zero, List.set_cons_succ, Nat.zero_add, Nat.reduceAdd, e8, e10, e12, e14] at hK ⊢
        go_simp
        refine (CS.out u ((Chg.drew [] w5).then hg)).mono ?_
        rintro e u' ⟨⟨qa, qc, qa', qc', rfl, hr⟩, g'⟩
        have hk := hK.out (_) u' g' (isN_out ⟨_, _, _, _, rfl, hr⟩)
        exact hk
      · intro v u hg hd K hK
        have hz := (Chg.drew [] w5).then hg
        have x0 := hz.cellv o0 (by simp)
        have x1 := hz.cellv o1 (by simp)
        have x2 := hz.cellv o2 (by simp)
        clear hd
        have hk := hK.out (.agg #[.bool lf, .slice oa kl oc, .slice ob vl od]) u (Chg.refl _ _) rfl
        clear hK
        simp only [List.toList_toArray, List.take_succ_cons, List.take_zero, List.drop_succ_cons, List.drop_zero, putAll, Act.put, List.setIfInBounds_toArray, List.set_cons_zero, List.set_cons_succ, Nat.zero_add, Nat.reduceAdd] at hk ⊢
        go_simp
        exact hk
      · intro v u hg hd K hK
        clear hd
        have hk := hK.out (.pointer (some ⟨pb, 0, none⟩)) u (Chg.refl _ _) rfl
        clear hK
        simp only [List.toList_toArray, List.take_succ_cons, List.take_zero, List.drop_succ_cons, List.drop_zero, putAll, Act.put, List.setIfInBounds_toArray, List.set_cons_zero, List.set_cons_succ, Nat.zero_add, Nat.reduceAdd] at hk ⊢
        go_simp
        exact hk
      · intro v u hg hd K hK
        have h17 : ∃ lo hi, IsV (.pointer (some ⟨pb, 0, none⟩)) (v 17) lo hi u := dep hd 17 (by kernel_rfl)
        have e17 : v 17 = .pointer (some ⟨pb, 0, none⟩) := depV h17
        have hz := (Chg.drew [] w5).then hg
        have x0 := hz.cellv p0 (by simp)
        clear hd
        have hk := hK.out (.int .i64 z) u (Chg.refl _ _) rfl
        clear hK
        simp only [List.toList_toArray, List.take_succ_cons, List.take_zero, List.drop_succ_cons, List.drop_zero, putAll, Act.put, List.setIfInBounds_toArray, List.set_cons_zero, List.set_cons_succ, Nat.zero_add, Nat.reduceAdd, e17] at hk ⊢
        go_simp
        exact hk
      · intro v u hg hd K hK
        have h16 : ∃ lo hi, IsV (.agg #[.bool lf, .slice oa kl oc, .slice ob vl od]) (v 16) lo hi u := dep hd 16 (by kernel_rfl)
        have e16 : v 16 = .agg #[.bool lf, .slice oa kl oc, .slice ob vl od] := depV h16
        have h18 : ∃ lo hi, IsV (.int .i64 z) (v 18) lo hi u := dep hd 18 (by kernel_rfl)
        have e18 : v 18 = .int .i64 z := depV h18
        clear hd
        simp only [List.toList_toArray, List.take_succ_cons, List.take_zero, List.drop_succ_cons, List.drop_zero, putAll, Act.put, List.setIfInBounds_toArray, List.set_cons_zero, List.set_cons_succ, Nat.zero_add, Nat.reduceAdd, e16, e18] at hK ⊢
        go_simp
        refine (CR.out u ((Chg.drew [] w5).then hg)).mono ?_
        rintro e u' ⟨⟨qa, qc, qa', qc', rfl, hr⟩, g'⟩
        have hk := hK.out (_) u' g' (isN_out ⟨_, _, _, _, rfl, hr⟩)
        exact hk
      · intro v u hg hd K hK
        clear hd
        have hk := hK.out (.pointer (some ⟨u.heap.size, 0, none⟩)) _ (Chg.alloc [] u (.cells #[.bool false, .slice none 0 0, .slice none 0 0] 24)) ⟨rfl, by simp, start_there u⟩
        clear hK
        simp only [List.toList_toArray, List.take_succ_cons, List.take_zero, List.drop_succ_cons, List.drop_zero, putAll, Act.put, List.setIfInBounds_toArray, List.set_cons_zero, List.set_cons_succ, Nat.zero_add, Nat.reduceAdd] at hk ⊢
        go_simp
        exact hk
      · intro v u hg hd K hK
        clear hd
        have hk := hK.out (.pointer (some ⟨u.heap.size, 0, none⟩)) _ (Chg.alloc [] u (.cells #[.bool false, .slice none 0 0, .slice none 0 0] 24)) ⟨rfl, by simp, start_there u⟩
        clear hK
        simp only [List.toList_toArray, List.take_succ_cons, List.take_zero, List.drop_succ_cons, List.drop_zero, putAll, Act.put, List.setIfInBounds_toArray, List.set_cons_zero, List.set_cons_succ, Nat.zero_add, Nat.reduceAdd] at hk ⊢
        go_simp
        exact hk
      · intro v u hg hd K hK
        clear hd
        have hk := hK.out (.pointer (some ⟨u.heap.size, 0, none⟩)) _ (Chg.alloc [] u (.cells #[.bool false, .slice none 0 0, .slice none 0 0] 24)) ⟨rfl, by simp, start_there u⟩
        clear hK
        simp only [List.toList_toArray, List.take_succ_cons, List.take_zero, List.drop_succ_cons, List.drop_zero, putAll, Act.put, List.setIfInBounds_toArray, List.set_cons_zero, List.set_cons_succ, Nat.zero_add, Nat.reduceAdd] at hk ⊢
        go_simp
        exact hk
    · intro v u lo hi hg hall hbd hdj
      have e0 : v 0 = .agg #[.bool lf, .slice oa kl oc, .slice ob vl od] := hall 0 (by decide)
      have e1 : v 1 = .pointer (some ⟨pb, 0, none⟩) := hall 1 (by decide)
      have e2 : v 2 = .int .i64 z := hall 2 (by decide)
      have e3 : v 3 = .pointer (some ⟨pb, 1, none⟩) := hall 3 (by decide)
      have e4 : v 4 = .int .u64 (x : Int) := hall 4 (by decide)
      have e5 : v 5 = .pointer (some ⟨pb, 2, none⟩) := hall 5 (by decide)
      have e6 : v 6 = .int .u64 (y : Int) := hall 6 (by decide)
      have e8 : v 8 = .agg #[.bool lf, .slice oa kl oc, .slice ob vl od] := hall 8 (by decide)
      have e9 : v 9 = .pointer (some ⟨pb, 0, none⟩) := hall 9 (by decide)
      have e10 : v 10 = .int .i64 z := hall 10 (by decide)
      have e11 : v 11 = .pointer (some ⟨pb, 1, none⟩) := hall 11 (by decide)
      have e12 : v 12 = .int .u64 (x : Int) := hall 12 (by decide)
      have e13 : v 13 = .pointer (some ⟨pb, 2, none⟩) := hall 13 (by decide)
      have e14 : v 14 = .int .u64 (y : Int) := hall 14 (by decide)
      have e16 : v 16 = .agg #[.bool lf, .slice oa kl oc, .slice ob vl od] := hall 16 (by decide)
      have e17 : v 17 = .pointer (some ⟨pb, 0, none⟩) := hall 17 (by decide)
      have e18 : v 18 = .int .i64 z := hall 18 (by decide)
      obtain ⟨kA, cA, vA, dA, e7, rA, mA, lA⟩ : IsN lf XI YI (v 7) (lo 7) (hi 7) u := hall 7 (by decide)
      obtain ⟨e20, h20, t20⟩ : IsBox (v 20) (lo 20) (hi 20) u := hall 20 (by decide)
      obtain ⟨kS, cS, vS, dS, e15, rS, mS, lS⟩ : IsN lf XS YS (v 15) (lo 15) (hi 15) u := hall 15 (by decide)
      obtain ⟨e21, h21, t21⟩ : IsBox (v 21) (lo 21) (hi 21) u := hall 21 (by decide)
      obtain ⟨kR, cR, vR, dR, e19, rR, mR, lR⟩ : IsN lf XR YR (v 19) (lo 19) (hi 19) u := hall 19 (by decide)
      obtain ⟨e22, h22, t22⟩ : IsBox (v 22) (lo 22) (hi 22) u := hall 22 (by decide)
      have b7 := (hbd 7 (by decide)).1
      have d7x15 := hdj 7 15 (by decide) (by decide) (by decide)
      have d7x19 := hdj 7 19 (by decide) (by decide) (by decide)
      have d7x20 := hdj 7 20 (by decide) (by decide) (by decide)
      have d7x21 := hdj 7 21 (by decide) (by decide) (by decide)
      have d7x22 := hdj 7 22 (by decide) (by decide) (by decide)
      have b15 := (hbd 15 (by decide)).1
      have d15x19 := hdj 15 19 (by decide) (by decide) (by decide)
      have d15x20 := hdj 15 20 (by decide) (by decide) (by decide)
      have d15x21 := hdj 15 21 (by decide) (by decide) (by decide)
      have d15x22 := hdj 15 22 (by decide) (by decide) (by decide)
      have b19 := (hbd 19 (by decide)).1
      have d19x20 := hdj 19 20 (by decide) (by decide) (by decide)
      have d19x21 := hdj 19 21 (by decide) (by decide) (by decide)
      have d19x22 := hdj 19 22 (by decide) (by decide) (by decide)
      have b20 := (hbd 20 (by decide)).1
      have d20x21 := hdj 20 21 (by decide) (by decide) (by decide)
      have d20x22 := hdj 20 22 (by decide) (by decide) (by decide)
      have b21 := (hbd 21 (by decide)).1
      have d21x22 := hdj 21 22 (by decide) (by decide) (by decide)
      have b22 := (hbd 22 (by decide)).1
      rw [h20] at d7x20 d15x20 d19x20 d20x21 d20x22
      rw [h21] at d7x21 d15x21 d19x21 d20x21 d21x22
      rw [h22] at d7x22 d15x22 d19x22 d20x22 d21x22
      generalize lo 20 = qA at *
      generalize lo 21 = qS at *
      generalize lo 22 = qR at *
      generalize lo 7 = fA at *
      generalize hi 7 = gA at *
      generalize lo 15 = fS at *
      generalize hi 15 = gS at *
      generalize lo 19 = fR at *
      generalize hi 19 = gR at *
      have n7x20 := off_box d7x20
      have n7x21 := off_box d7x21
      have n7x22 := off_box d7x22
      have n15x20 := off_box d15x20
      have n15x21 := off_box d15x21
      have n15x22 := off_box d15x22
      have n19x20 := off_box d19x20
      have n19x21 := off_box d19x21
      have n19x22 := off_box d19x22
      have n20x21 := box_ne d20x21
      have n20x22 := box_ne d20x22
      have n21x22 := box_ne d21x22
      have HD := mkHid (show (gA ≤ fS ∨ gS ≤ fA) ∧ (gA ≤ fR ∨ gR ≤ fA) ∧ (gS ≤ fR ∨ gR ≤ fS) ∧ w5.heap.size ≤ fA ∧ w5.heap.size ≤ fS ∧ w5.heap.size ≤ fR from ⟨d7x15, d7x19, d15x19, b7, b15, b19⟩)
      clear d7x15 d7x19 d7x20 d7x21 d7x22 d15x19 d15x20 d15x21 d15x22 d19x20 d19x21 d19x22 d20x21 d20x22 d21x22 hall hbd hdj
      have gU := (Chg.drew [] w5).then hg
      have zA := three_chg u qA (.bool lf) (.slice kA XI.length cA) (.slice vA YI.length dA)
      have sA := stored3 t20 (.bool lf) (.slice kA XI.length cA) (.slice vA YI.length dA)
      obtain ⟨uA, huA⟩ : ∃ u9, u9 = ((u.setCell ⟨qA, 0, none⟩ (.bool lf)).setCell ⟨qA, 1, none⟩ (.slice kA XI.length cA)).setCell ⟨qA, 2, none⟩ (.slice vA YI.length dA) := ⟨_, rfl⟩
      rw [← huA] at zA sA
      have t21 := there_chg t21 zA (fun hm => n20x21 (List.mem_singleton.1 hm).symm)
      have t22 := there_chg t22 zA (fun hm => n20x22 (List.mem_singleton.1 hm).symm)
      have zS := three_chg uA qS (.bool lf) (.slice kS XS.length cS) (.slice vS YS.length dS)
      have sS := stored3 t21 (.bool lf) (.slice kS XS.length cS) (.slice vS YS.length dS)
      obtain ⟨uS, huS⟩ : ∃ u9, u9 = ((uA.setCell ⟨qS, 0, none⟩ (.bool lf)).setCell ⟨qS, 1, none⟩ (.slice kS XS.length cS)).setCell ⟨qS, 2, none⟩ (.slice vS YS.length dS) := ⟨_, rfl⟩
      rw [← huS] at zS sS
      have t22 := there_chg t22 zS (fun hm => n21x22 (List.mem_singleton.1 hm).symm)
      have sA := keepst sA zS (fun hm => n20x21 (List.mem_singleton.1 hm))
      have zR := three_chg uS qR (.bool lf) (.slice kR XR.length cR) (.slice vR YR.length dR)
      have sR := stored3 t22 (.bool lf) (.slice kR XR.length cR) (.slice vR YR.length dR)
      obtain ⟨uR, huR⟩ : ∃ u9, u9 = ((uS.setCell ⟨qR, 0, none⟩ (.bool lf)).setCell ⟨qR, 1, none⟩ (.slice kR XR.length cR)).setCell ⟨qR, 2, none⟩ (.slice vR YR.length dR) := ⟨_, rfl⟩
      rw [← huR] at zR sR
      have sA := keepst sA zR (fun hm => n20x22 (List.mem_singleton.1 hm))
      have sS := keepst sS zR (fun hm => n21x22 (List.mem_singleton.1 hm))
      have L7 : Lies uR fA gA kA cA vA dA XI YI := ⟨⟨(((rA.rk.chg zA (fun q hq hm => n7x20 q (rA.rk.lt q hq).1 (mA q hq) (List.mem_singleton.1 hm))).chg zS (fun q hq hm => n7x21 q (rA.rk.lt q hq).1 (mA q hq) (List.mem_singleton.1 hm))).chg zR (fun q hq hm => n7x22 q (rA.rk.lt q hq).1 (mA q hq) (List.mem_singleton.1 hm))), (((rA.rv.chg zA (fun q hq hm => n7x20 q (rA.rv.lt q hq).1 (lA q hq) (List.mem_singleton.1 hm))).chg zS (fun q hq hm => n7x21 q (rA.rv.lt q hq).1 (lA q hq) (List.mem_singleton.1 hm))).chg zR (fun q hq hm => n7x22 q (rA.rv.lt q hq).1 (lA q hq) (List.mem_singleton.1 hm))), rA.dj⟩, mA, lA⟩
      have L15 : Lies uR fS gS kS cS vS dS XS YS := ⟨⟨(((rS.rk.chg zA (fun q hq hm => n15x20 q (rS.rk.lt q hq).1 (mS q hq) (List.mem_singleton.1 hm))).chg zS (fun q hq hm => n15x21 q (rS.rk.lt q hq).1 (mS q hq) (List.mem_singleton.1 hm))).chg zR (fun q hq hm => n15x22 q (rS.rk.lt q hq).1 (mS q hq) (List.mem_singleton.1 hm))), (((rS.rv.chg zA (fun q hq hm => n15x20 q (rS.rv.lt q hq).1 (lS q hq) (List.mem_singleton.1 hm))).chg zS (fun q hq hm => n15x21 q (rS.rv.lt q hq).1 (lS q hq) (List.mem_singleton.1 hm))).chg zR (fun q hq hm => n15x22 q (rS.rv.lt q hq).1 (lS q hq) (List.mem_singleton.1 hm))), rS.dj⟩, mS, lS⟩
      have L19 : Lies uR fR gR kR cR vR dR XR YR := ⟨⟨(((rR.rk.chg zA (fun q hq hm => n19x20 q (rR.rk.lt q hq).1 (mR q hq) (List.mem_singleton.1 hm))).chg zS (fun q hq hm => n19x21 q (rR.rk.lt q hq).1 (mR q hq) (List.mem_singleton.1 hm))).chg zR (fun q hq hm => n19x22 q (rR.rk.lt q hq).1 (mR q hq) (List.mem_singleton.1 hm))), (((rR.rv.chg zA (fun q hq hm => n19x20 q (rR.rv.lt q hq).1 (lR q hq) (List.mem_singleton.1 hm))).chg zS (fun q hq hm => n19x21 q (rR.rv.lt q hq).1 (lR q hq) (List.mem_singleton.1 hm))).chg zR (fun q hq hm => n19x22 q (rR.rv.lt q hq).1 (lR q hq) (List.mem_singleton.1 hm))), rR.dj⟩, mR, lR⟩
      have g6 := ((gU.trans zA (U := []) (by simp) (fun q hq hlt => by rw [List.mem_singleton.1 hq] at hlt; omega)).trans zS (U := []) (by simp) (fun q hq hlt => by rw [List.mem_singleton.1 hq] at hlt; omega)).trans zR (U := []) (by simp) (fun q hq hlt => by rw [List.mem_singleton.1 hq] at hlt; omega)
      have HL3 := mkHid (And.intro L7 (And.intro L15 (And.intro L19 (And.intro sA (And.intro sS (And.intro sR g6))))))
      obtain ⟨A0, A1, A2, i0, i1, i2, j0, j1, j2⟩ := there3 t20
      obtain ⟨S0, S1, S2, i3, i4, i5, j3, j4, j5⟩ := there3 t21
      obtain ⟨R0, R1, R2, i6, i7, i8, j6, j7, j8⟩ := there3 t22
      clear L7 L15 L19 sA sS sR g6 zA zS zR gU t20 t21 t22 rA rS rR mA mS mR lA lS lR hg n7x20 n7x21 n7x22 n15x20 n15x21 n15x22 n19x20 n19x21 n19x22 n20x21 n20x22 n21x22 b7 b15 b19 b20 b21 b22 h20 h21 h22
      have o09 := o0
      have o19 := o1
      have o29 := o2
      clear o0 o1 o2
      simp only [List.toList_toArray, List.take_succ_cons, List.take_zero, List.drop_succ_cons, List.drop_zero, putAll, Act.put, List.setIfInBounds_toArray, List.set_cons_zero, List.set_cons_succ, Nat.zero_add, Nat.reduceAdd, e0, e1, e2, e3, e4, e5, e6, e7, e8, e9, e10, e11, e12, e13, e14, e15, e16, e17, e18, e19, e20, e21, e22]
      have hA9 := huA.symm
      have hS9 := huS.symm
      have hR9 := huR.symm
      clear huA huS huR
      go_wp2_with fail
      have w6d : True := trivial
      obtain ⟨w6, hw6⟩ : ∃ w6, w6 = uR := ⟨_, rfl⟩
      subst hw6
      clear w6d i0 i1 i2 i3 i4 i5 i6 i7 i8 j0 j1 j2 j3 j4 j5 j6 j7 j8 hA9 hS9 hR9
      obtain ⟨L7, L15, L19, ⟨y0, y1, y2, -, -⟩, ⟨s0, s1, s2, -, -⟩, ⟨r0, r1, r2, -, -⟩, g6⟩ := HL3.out
      clear HL3
      have n0 := g6.cellv a0 (by simp)
      have n1 := g6.cellv a1 (by simp)
      have n2 := g6.cellv a2 (by simp)
      have m0 := g6.cellv p0 (by simp)
      have m1 := g6.cellv p1 (by simp)
      have m2 := g6.cellv p2 (by simp)
      have hb := HL.out
      have bA : XI.length * 8 ≤ 140737488351232 ∧ YI.length * 8 ≤ 140737488351232 := by omega
      have bS : XS.length * 8 ≤ 140737488351232 ∧ YS.length * 8 ≤ 140737488351232 := by omega
      have bR : XR.length * 8 ≤ 140737488351232 ∧ YR.length * 8 ≤ 140737488351232 := by omega
      clear hb
      have hN := HO.out.1.keep g6
      have HA := mkHid (L7.rm.rd bA.1 bA.2)
      have HS := mkHid (L15.rm.rd bS.1 bS.2)
      have HRR := mkHid (L19.rm.rd bR.1 bR.2)
      have HN := mkHid hN
      have HLS := mkHid (And.intro L7 (And.intro L15 (And.intro L19 g6)))
      clear hN L7 L15 L19 g6
      go_region_held3 (fun u => u.cell? ⟨w.heap.size, 0, none⟩ = some (.bool lf) ∧ u.cell? ⟨w.heap.size, 1, none⟩ = some (.slice ka kl kc) ∧ u.cell? ⟨w.heap.size, 2, none⟩ = some (.slice va vl vc) ∧ u.cell? ⟨pb, 0, none⟩ = some (.int .i64 z) ∧ u.cell? ⟨pb, 1, none⟩ = some (.int .u64 (x : Int)) ∧ u.cell? ⟨pb, 2, none⟩ = some (.int .u64 (y : Int)) ∧ u.cell? ⟨qA, 0, none⟩ = some (.bool lf) ∧ u.cell? ⟨qA, 1, none⟩ = some (.slice kA XI.length cA) ∧ u.cell? ⟨qA, 2, none⟩ = some (.slice vA YI.length dA) ∧ u.cell? ⟨qS, 0, none⟩ = some (.bool lf) ∧ u.cell? ⟨qS, 1, none⟩ = some (.slice kS XS.length cS) ∧ u.cell? ⟨qS, 2, none⟩ = some (.slice vS YS.length dS) ∧ u.cell? ⟨qR, 0, none⟩ = some (.bool lf) ∧ u.cell? ⟨qR, 1, none⟩ = some (.slice kR XR.length cR) ∧ u.cell? ⟨qR, 2, none⟩ = some (.slice vR YR.length dR) ∧ Chg [] w6 u)
        (first | exact ⟨(Chg.drew [] _).cellv n0 (by simp), (Chg.drew [] _).cellv n1 (by simp), (Chg.drew [] _).cellv n2 (by simp), (Chg.drew [] _).cellv m0 (by simp), (Chg.drew [] _).cellv m1 (by simp), (Chg.drew [] _).cellv m2 (by simp), (Chg.drew [] _).cellv y0 (by simp), (Chg.drew [] _).cellv y1 (by simp), (Chg.drew [] _).cellv y2 (by simp), (Chg.drew [] _).cellv s0 (by simp), (Chg.drew [] _).cellv s1 (by simp), (Chg.drew [] _).cellv s2 (by simp), (Chg.drew [] _).cellv r0 (by simp), (Chg.drew [] _).cellv r1 (by simp), (Chg.drew [] _).cellv r2 (by simp), Chg.drew [] _⟩ | exact step15 (by assumption) (by assumption) | assumption)
        (first
        | (go_at_call 20; refine (RI.out _ (HN.out.keep (pick15 (by assumption)))).mono ?_; rintro e z1 ⟨⟨ra1, rc1, rv1, rd1, rfl, hr1⟩, gg1⟩)
        | (go_at_call_of 19 ra1; refine (same_as lf kA cA vA dA ra1 rc1 rv1 rd1 XI YI XI.length YI.length _ (HA.out.keep (pick15 (by assumption))) (hr1.rd bA.1 bA.2) rfl rfl).mono ?_; rintro e z2 ⟨rfl, gg2⟩)
        | (go_at_call 21; refine (RS.out _ (HN.out.keep (pick15 (by assumption)))).mono ?_; rintro e z3 ⟨⟨ra3, rc3, rv3, rd3, rfl, hr3⟩, gg3⟩)
        | (go_at_call_of 19 ra3; refine (same_as lf kS cS vS dS ra3 rc3 rv3 rd3 XS YS XS.length YS.length _ (HS.out.keep (pick15 (by assumption))) (hr3.rd bS.1 bS.2) rfl rfl).mono ?_; rintro e z4 ⟨rfl, gg4⟩)
        | (go_at_call 22; refine (RR.out _ (HN.out.keep (pick15 (by assumption)))).mono ?_; rintro e z5 ⟨⟨ra5, rc5, rv5, rd5, rfl, hr5⟩, gg5⟩)
        | (go_at_call_of 19 ra5; refine (same_as lf kR cR vR dR ra5 rc5 rv5 rd5 XR YR XR.length YR.length _ (HRR.out.keep (pick15 (by assumption))) (hr5.rd bR.1 bR.2) rfl rfl).mono ?_; rintro e z6 ⟨rfl, gg6⟩))
      have hZ : z6.cell? ⟨w.heap.size, 0, none⟩ = some (.bool lf) ∧ z6.cell? ⟨w.heap.size, 1, none⟩ = some (.slice ka kl kc) ∧ z6.cell? ⟨w.heap.size, 2, none⟩ = some (.slice va vl vc) ∧ z6.cell? ⟨pb, 0, none⟩ = some (.int .i64 z) ∧ z6.cell? ⟨pb, 1, none⟩ = some (.int .u64 (x : Int)) ∧ z6.cell? ⟨pb, 2, none⟩ = some (.int .u64 (y : Int)) ∧ z6.cell? ⟨qA, 0, none⟩ = some (.bool lf) ∧ z6.cell? ⟨qA, 1, none⟩ = some (.slice kA XI.length cA) ∧ z6.cell? ⟨qA, 2, none⟩ = some (.slice vA YI.length dA) ∧ z6.cell? ⟨qS, 0, none⟩ = some (.bool lf) ∧ z6.cell? ⟨qS, 1, none⟩ = some (.slice kS XS.length cS) ∧ z6.cell? ⟨qS, 2, none⟩ = some (.slice vS YS.length dS) ∧ z6.cell? ⟨qR, 0, none⟩ = some (.bool lf) ∧ z6.cell? ⟨qR, 1, none⟩ = some (.slice kR XR.length cR) ∧ z6.cell? ⟨qR, 2, none⟩ = some (.slice vR YR.length dR) ∧ Chg [] w6 z6 := by assumption
      clear n0 n1 n2 m0 m1 m2 y0 y1 y2 s0 s1 s2 r0 r1 r2
      obtain ⟨n0, n1, n2, m0, m1, m2, y0, y1, y2, s0, s1, s2, r0, r1, r2, g7⟩ := hZ
      have hb := HL.out
      have L7 := HLS.out.1.keep' g7
      have L15 := HLS.out.2.1.keep' g7
      have L19 := HLS.out.2.2.1.keep' g7
      have g67 := HLS.out.2.2.2.then g7
      have cSp := spoil_lies lf L7 (by omega) (by omega)
      have HSP := mkHid cSp
      have HL8 := mkHid (And.intro L15 (And.intro L19 g67))
      clear cSp L7 L15 L19 g67 g7 hb
      go_wp2_with fail
      refine HSP.out.mono ?_
      rintro e w8 ⟨rfl, ⟨S8, g8, hS8⟩, t8⟩
      clear HSP
      obtain ⟨dd1, dd2, dd3, fa, fs, fr⟩ := HD.out
      have L15 := HL8.out.1.chg g8 hS8 dd1.symm
      have L19 := HL8.out.2.1.chg g8 hS8 dd2.symm
      have G8 := HL8.out.2.2.trans g8 (U := S8) (by simp) (fun _ h _ => h)
      have hs8 : ∀ q ∈ S8, w5.heap.size ≤ q := fun q hq => Nat.le_trans fa (hS8 q hq).1
      clear n0 n1 n2 m0 m1 m2 y0 y1 y2
      have n0 := cell_old G8 hs8 a0
      have n1 := cell_old G8 hs8 a1
      have n2 := cell_old G8 hs8 a2
      have m0 := cell_old G8 hs8 p0
      have m1 := cell_old G8 hs8 p1
      have m2 := cell_old G8 hs8 p2
      have u0 := t8.bool s0
      have u1 := t8.slice s1
      have u2 := t8.slice s2
      have v0 := t8.bool r0
      have v1 := t8.slice r1
      have v2 := t8.slice r2
      clear s0 s1 s2 r0 r1 r2 t8
      have HN8 := mkHid (HO.out.1.old G8 hs8)
      have HS8 := mkHid (L15.rm.rd bS.1 bS.2)
      have HL9 := mkHid (And.intro L15 (And.intro L19 (And.intro G8 hs8)))
      clear L15 L19 G8 hs8 g8 hS8 HL8 HLS
      go_wp2_with fail
      go_region_held3 (fun u => u.cell? ⟨w.heap.size, 0, none⟩ = some (.bool lf) ∧ u.cell? ⟨w.heap.size, 1, none⟩ = some (.slice ka kl kc) ∧ u.cell? ⟨w.heap.size, 2, none⟩ = some (.slice va vl vc) ∧ u.cell? ⟨pb, 0, none⟩ = some (.int .i64 z) ∧ u.cell? ⟨pb, 1, none⟩ = some (.int .u64 (x : Int)) ∧ u.cell? ⟨pb, 2, none⟩ = some (.int .u64 (y : Int)) ∧ u.cell? ⟨qS, 0, none⟩ = some (.bool lf) ∧ u.cell? ⟨qS, 1, none⟩ = some (.slice kS XS.length cS) ∧ u.cell? ⟨qS, 2, none⟩ = some (.slice vS YS.length dS) ∧ Chg [] w8 u)
        (first | exact ⟨(Chg.drew [] _).cellv n0 (by simp), (Chg.drew [] _).cellv n1 (by simp), (Chg.drew [] _).cellv n2 (by simp), (Chg.drew [] _).cellv m0 (by simp), (Chg.drew [] _).cellv m1 (by simp), (Chg.drew [] _).cellv m2 (by simp), (Chg.drew [] _).cellv u0 (by simp), (Chg.drew [] _).cellv u1 (by simp), (Chg.drew [] _).cellv u2 (by simp), Chg.drew [] _⟩ | exact step9 (by assumption) (by assumption) | assumption)
        (first
        | (go_at_call 21; refine (RS.out _ (HN8.out.keep (pick9 (by assumption)))).mono ?_; rintro e z7 ⟨⟨ra7, rc7, rv7, rd7, rfl, hr7⟩, gg7⟩)
        | (go_at_call_of 19 ra7; refine (same_as lf kS cS vS dS ra7 rc7 rv7 rd7 XS YS XS.length YS.length _ (HS8.out.keep (pick9 (by assumption))) (hr7.rd bS.1 bS.2) rfl rfl).mono ?_; rintro e z8 ⟨rfl, gg8⟩))
      have hZ : z8.cell? ⟨w.heap.size, 0, none⟩ = some (.bool lf) ∧ z8.cell? ⟨w.heap.size, 1, none⟩ = some (.slice ka kl kc) ∧ z8.cell? ⟨w.heap.size, 2, none⟩ = some (.slice va vl vc) ∧ z8.cell? ⟨pb, 0, none⟩ = some (.int .i64 z) ∧ z8.cell? ⟨pb, 1, none⟩ = some (.int .u64 (x : Int)) ∧ z8.cell? ⟨pb, 2, none⟩ = some (.int .u64 (y : Int)) ∧ z8.cell? ⟨qS, 0, none⟩ = some (.bool lf) ∧ z8.cell? ⟨qS, 1, none⟩ = some (.slice kS XS.length cS) ∧ z8.cell? ⟨qS, 2, none⟩ = some (.slice vS YS.length dS) ∧ Chg [] w8 z8 := by assumption
      clear n0 n1 n2 m0 m1 m2 u0 u1 u2
      obtain ⟨-, -, -, -, -, -, u0, u1, u2, g9⟩ := hZ
      have r0 := g9.cellv v0 (by simp)
      have r1 := g9.cellv v1 (by simp)
      have r2 := g9.cellv v2 (by simp)
      clear v0 v1 v2
      have hb := HL.out
      have L15 := HL9.out.1.keep' g9
      have L19 := HL9.out.2.1.keep' g9
      have G9 := HL9.out.2.2.1.then g9
      have cSp := spoil_lies lf L15 (by omega) (by omega)
      have HSP := mkHid cSp
      have HL10 := mkHid (And.intro L19 G9)
      clear cSp L15 L19 G9 g9 hb
      go_wp2_with fail
      refine HSP.out.mono ?_
      rintro e w10 ⟨rfl, ⟨S10, g10, hS10⟩, t10⟩
      clear HSP
      have L19 := HL10.out.1.chg g10 hS10 dd3.symm
      have G10 := HL10.out.2.trans g10 (U := S8 ++ S10) (fun q h _ => List.mem_append_left _ h) (fun q h _ => List.mem_append_right _ h)
      have v0 := t10.bool r0
      have v1 := t10.slice r1
      have v2 := t10.slice r2
      clear r0 r1 r2 t10 u0 u1 u2
      have hb := HL.out
      have cSp := spoil_lies lf L19 (by omega) (by omega)
      have HSP := mkHid cSp
      have HL11 := mkHid (And.intro G10 hS10)
      clear cSp L19 G10 hb hS10
      go_wp2_with fail
      refine HSP.out.mono ?_
      rintro e w11 ⟨rfl, ⟨S11, g11, hS11⟩, t11⟩
      clear HSP t11
      have G11 := HL11.out.1.trans g11 (U := S8 ++ S10 ++ S11) (fun q h _ => List.mem_append_left _ h) (fun q h _ => List.mem_append_right _ h)
      have hs11 : ∀ q ∈ S8 ++ S10 ++ S11, w5.heap.size ≤ q := fun q hq => by
        rcases List.mem_append.1 hq with hq | hq
        · rcases List.mem_append.1 hq with hq | hq
          · exact HL9.out.2.2.2 q hq
          · exact Nat.le_trans fs (HL11.out.2 q hq).1
        · exact Nat.le_trans fr (hS11 q hq).1
      have n0 := cell_old G11 hs11 a0
      have n1 := cell_old G11 hs11 a1
      have n2 := cell_old G11 hs11 a2
      have m0 := cell_old G11 hs11 o09
      have m1 := cell_old G11 hs11 o19
      have m2 := cell_old G11 hs11 o29
      have cE := same_as lf oa oc ob od ka kc va vc K V kl vl w11 (HO.out.2.old G11 hs11) (HO.out.1.old G11 hs11) HKV.out.1 HKV.out.2
      have HE2 := mkHid cE
      have HG := mkHid (G5.trans G11 (U := []) (by simp) (fun q hq hlt => by have := hs11 q hq; have := G5.size; omega))
      clear cE G11 hs11 g11 hS11 g10 v0 v1 v2
      go_wp2_with fail
      refine HE2.out.mono ?_
      rintro e w12 ⟨rfl, g12⟩
      go_wp2_with fail
      go_ret
      exact ⟨rfl, HG.out.then g12⟩
end Go.Proofs.Ytlaeonemlodhmaa
