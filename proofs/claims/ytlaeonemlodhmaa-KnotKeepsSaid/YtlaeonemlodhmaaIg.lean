/- Nodes in new memory; the reference's Part. -/
import Derived.Test.YtlaeonemlodhmaaIc
import Derived.Test.YtlaeonemlodhmaaRv
namespace Go.Proofs.Ytlaeonemlodhmaa
open Go.RowKit
set_option linter.unusedVariables false
set_option linter.unusedSimpArgs false
attribute [local go_sem ↓] Go.wp_at_zero Go.wp_at_succ

/-- A node whose lists lie in memory of their own, from block B on. -/
structure RmN (w : World) (B : Nat) (ka : Option Addr) (kc : Nat) (va : Option Addr) (vc : Nat) (K V : List Nat) : Prop where
  rk : Room w B ka K.length kc (uvs K)
  rv : Room w B va V.length vc (uvs V)
  dj : ∀ q, q ∈ fp ka kc → q ∉ fp va vc
/-- What a call answers that makes a node. -/
def NOut (B : Nat) (lf : Bool) (K V : List Nat) (e : Ending) (w' : World) : Prop := ∃ ka kc va vc, e = .returned (.agg #[.bool lf, .slice ka K.length kc, .slice va V.length vc]) ∧ RmN w' B ka kc va vc K V
theorem RmN.chg {w w' : World} {S : List Nat} {B : Nat} {ka : Option Addr} {kc : Nat} {va : Option Addr} {vc : Nat} {K V : List Nat} (h : RmN w B ka kc va vc K V) (g : Chg S w w') (hS : ∀ q, q ∈ S → q < B) : RmN w' B ka kc va vc K V :=
  ⟨h.rk.chg g (fun q hq hm => by have := (h.rk.lt q hq).1; have := hS q hm; omega), h.rv.chg g (fun q hq hm => by have := (h.rv.lt q hq).1; have := hS q hm; omega), h.dj⟩
theorem RmN.keep {w w' : World} {B : Nat} {ka : Option Addr} {kc : Nat} {va : Option Addr} {vc : Nat} {K V : List Nat} (h : RmN w B ka kc va vc K V) (g : Chg [] w w') : RmN w' B ka kc va vc K V := h.chg g (by simp)
theorem RmN.mono {w : World} {B B' : Nat} {ka : Option Addr} {kc : Nat} {va : Option Addr} {vc : Nat} {K V : List Nat} (h : RmN w B ka kc va vc K V) (hB : B' ≤ B) : RmN w B' ka kc va vc K V := ⟨h.rk.mono hB, h.rv.mono hB, h.dj⟩
theorem RmN.rd {w : World} {B : Nat} {ka : Option Addr} {kc : Nat} {va : Option Addr} {vc : Nat} {K V : List Nat} (h : RmN w B ka kc va vc K V) (bk : K.length * 8 ≤ 140737488351232) (bv : V.length * 8 ≤ 140737488351232) : RdN w ka kc va vc K V :=
  ⟨h.rk.reads, h.rv.reads, h.rk.le, h.rv.le, bk, bv, h.rk.max, h.rv.max⟩
/-- The pairs from one place to another. -/
def sub (L : List Nat) (f t : Nat) : List Nat := (L.take t).drop f
theorem sub_len {L : List Nat} {f t : Nat} (h : t ≤ L.length) : (sub L f t).length = t - f := by unfold sub; rw [List.length_drop, List.length_take, Nat.min_eq_left h]
theorem sub_nil (L : List Nat) (f : Nat) : sub L f f = [] := by unfold sub; exact List.drop_eq_nil_of_le (by rw [List.length_take]; exact Nat.min_le_left _ _)
theorem sub_snoc {L : List Nat} {f i y : Nat} (hf : f ≤ i) (hy : L[i]? = some y) : sub L f i ++ [y] = sub L f (i + 1) := by
  obtain ⟨hl, rfl⟩ := List.getElem?_eq_some_iff.1 hy
  unfold sub
  rw [List.take_succ_eq_append_getElem hl, List.drop_append_of_le_length (by rw [List.length_take]; omega)]
theorem sub_zero (L : List Nat) (t : Nat) : sub L 0 t = L.take t := rfl

/-- The node that a Part builds at nb, and the place R of its answer. -/
structure NBlk (w : World) (R nb B : Nat) (lf : Bool) (ka : Option Addr) (kc : Nat) (va : Option Addr) (vc : Nat) (K V : List Nat) : Prop where
  c0 : w.cell? ⟨nb, 0, none⟩ = some (.bool lf)
  c1 : w.cell? ⟨nb, 1, none⟩ = some (.slice ka K.length kc)
  c2 : w.cell? ⟨nb, 2, none⟩ = some (.slice va V.length vc)
  f1 : w.frozen? ⟨nb, 1, none⟩ = false
  f2 : w.frozen? ⟨nb, 2, none⟩ = false
  rk : Room w B ka K.length kc (uvs K)
  rv : Room w B va V.length vc (uvs V)
  dj : ∀ q, q ∈ fp ka kc → q ∉ fp va vc
  th : w.there R 0 3
  hR : R < B
  hn : nb < B
  ne : R ≠ nb
  hB : B ≤ w.heap.size
/-- A key more. -/
theorem NBlk.key {w w3 : World} {R nb B : Nat} {lf : Bool} {ka : Option Addr} {kc : Nat} {va : Option Addr} {vc : Nat} {K V : List Nat} (h : NBlk w R nb B lf ka kc va vc K V) {x : Nat} {a' : Option Addr} {c' : Nat} (r : Room w3 B a' (K.length + 1) c' (uvs K ++ [.int .u64 (x : Int)])) (g : Chg (fp ka kc) w w3) (hf : fp a' c' = fp ka kc ∨ ∃ k, w.heap.size ≤ k ∧ fp a' c' = [k]) :
    NBlk (w3.setCell ⟨nb, 1, none⟩ (.slice a' (K.length + 1) c')) R nb B lf a' c' va vc (K ++ [x]) V := by
  have g4 : Chg [nb] w3 (w3.setCell ⟨nb, 1, none⟩ (.slice a' (K.length + 1) c')) := Chg.setCell w3 ⟨nb, 1, none⟩ _
  have d1 : nb ∉ fp ka kc := fun hm => by have := (h.rk.lt nb hm).1; have := h.hn; omega
  have d2 : R ∉ fp ka kc := fun hm => by have := (h.rk.lt R hm).1; have := h.hR; omega
  have d3 : nb ∉ fp a' c' := fun hm => by have := (r.lt nb hm).1; have := h.hn; omega
  have d4 : nb ∉ fp va vc := fun hm => by have := (h.rv.lt nb hm).1; have := h.hn; omega
  have e : (K ++ [x]).length = K.length + 1 := by simp
  have eu : uvs (K ++ [x]) = uvs K ++ [.int .u64 (x : Int)] := by rw [uvs_append]; rfl
  refine ⟨setN_other (g.cellv h.c0 d1) (by decide), ?_, setN_other (g.cellv h.c2 d1) (by decide), ?_, ?_, ?_, ?_, ?_, there_chg (there_chg h.th g d2) g4 (by simpa using h.ne), h.hR, h.hn, h.ne, Nat.le_trans h.hB (Nat.le_trans g.size g4.size)⟩
  · rw [e]; exact World.cell?_setCell_same _ _ _ (g.cellv h.c1 d1)
  · rw [World.frozen?_setCell]; exact (g.frozen (p := ⟨nb, 1, none⟩) (block_lt_of_cell h.c1) d1).trans h.f1
  · rw [World.frozen?_setCell]; exact (g.frozen (p := ⟨nb, 2, none⟩) (block_lt_of_cell h.c2) d1).trans h.f2
  · rw [e, eu]; exact r.chg g4 (fun k hk hm => by simp at hm; subst hm; exact d3 hk)
  · exact (h.rv.chg g (fun k hk hm => h.dj k hm hk)).chg g4 (fun k hk hm => by simp at hm; subst hm; exact d4 hk)
  · intro q hq
    rcases hf with e1 | ⟨k, h1, e1⟩
    · rw [e1] at hq; exact h.dj q hq
    · rw [e1] at hq; simp at hq; subst hq
      exact fun hm => by have := (h.rv.lt _ hm).2; omega
/-- A value more. -/
theorem NBlk.value {w w3 : World} {R nb B : Nat} {lf : Bool} {ka : Option Addr} {kc : Nat} {va : Option Addr} {vc : Nat} {K V : List Nat} (h : NBlk w R nb B lf ka kc va vc K V) {x : Nat} {a' : Option Addr} {c' : Nat} (r : Room w3 B a' (V.length + 1) c' (uvs V ++ [.int .u64 (x : Int)])) (g : Chg (fp va vc) w w3) (hf : fp a' c' = fp va vc ∨ ∃ k, w.heap.size ≤ k ∧ fp a' c' = [k]) :
    NBlk (w3.setCell ⟨nb, 2, none⟩ (.slice a' (V.length + 1) c')) R nb B lf ka kc a' c' K (V ++ [x]) := by
  have g4 : Chg [nb] w3 (w3.setCell ⟨nb, 2, none⟩ (.slice a' (V.length + 1) c')) := Chg.setCell w3 ⟨nb, 2, none⟩ _
  have d1 : nb ∉ fp va vc := fun hm => by have := (h.rv.lt nb hm).1; have := h.hn; omega
  have d2 : R ∉ fp va vc := fun hm => by have := (h.rv.lt R hm).1; have := h.hR; omega
  have d3 : nb ∉ fp a' c' := fun hm => by have := (r.lt nb hm).1; have := h.hn; omega
  have d4 : nb ∉ fp ka kc := fun hm => by have := (h.rk.lt nb hm).1; have := h.hn; omega
  have e : (V ++ [x]).length = V.length + 1 := by simp
  have eu : uvs (V ++ [x]) = uvs V ++ [.int .u64 (x : Int)] := by rw [uvs_append]; rfl
  refine ⟨setN_other (g.cellv h.c0 d1) (by decide), setN_other (g.cellv h.c1 d1) (by decide), ?_, ?_, ?_, ?_, ?_, ?_, there_chg (there_chg h.th g d2) g4 (by simpa using h.ne), h.hR, h.hn, h.ne, Nat.le_trans h.hB (Nat.le_trans g.size g4.size)⟩
  · rw [e]; exact World.cell?_setCell_same _ _ _ (g.cellv h.c2 d1)
  · rw [World.frozen?_setCell]; exact (g.frozen (p := ⟨nb, 1, none⟩) (block_lt_of_cell h.c1) d1).trans h.f1
  · rw [World.frozen?_setCell]; exact (g.frozen (p := ⟨nb, 2, none⟩) (block_lt_of_cell h.c2) d1).trans h.f2
  · exact (h.rk.chg g (fun k hk hm => h.dj k hk hm)).chg g4 (fun k hk hm => by simp at hm; subst hm; exact d4 hk)
  · rw [e, eu]; exact r.chg g4 (fun k hk hm => by simp at hm; subst hm; exact d3 hk)
  · intro q hq
    rcases hf with e1 | ⟨k, h1, e1⟩
    · rw [e1]; exact h.dj q hq
    · rw [e1]; simp
      exact fun hm => by have := (h.rk.lt _ hq).2; omega
/-- What turned since the call began. -/
theorem NBlk.turned {w0 w w3 : World} {R nb B : Nat} {lf : Bool} {ka : Option Addr} {kc : Nat} {va : Option Addr} {vc : Nat} {K V : List Nat} (h : NBlk w R nb B lf ka kc va vc K V) (g0 : Chg [] w0 w) (hw : w0.heap.size ≤ nb) {S : List Nat} (g : Chg S w w3) (hS : ∀ k, k ∈ S → w0.heap.size ≤ k) (i : Nat) (v : Value) : Chg [] w0 (w3.setCell ⟨nb, i, none⟩ v) :=
  Chg.trans (T := [nb]) (show Chg [] w0 w3 from g0.trans g (by simp) (fun k hk hlt => by have := hS k hk; omega)) (Chg.setCell w3 ⟨nb, i, none⟩ v) (by simp) (fun k hk hlt => by simp at hk; omega)
theorem start_node (w : World) (lf : Bool) : NBlk ((w.alloc (.cells #[.bool false, .slice none 0 0, .slice none 0 0] 24)).alloc (.cells #[.bool lf, .slice none 0 0, .slice none 0 0] 24)) w.heap.size (w.heap.size + 1) (w.heap.size + 2) lf none 0 none 0 [] [] := by
  have e : (w.alloc (.cells #[.bool false, .slice none 0 0, .slice none 0 0] 24)).heap.size = w.heap.size + 1 := by simp
  have hl := heap_alloc_last (w.alloc (.cells #[.bool false, .slice none 0 0, .slice none 0 0] 24)) (.cells #[.bool lf, .slice none 0 0, .slice none 0 0] 24)
  rw [e] at hl
  have hc := fun j => cell_of_row _ (w.heap.size + 1) j _ _ _ hl
  have hf := fun j => frozen_of_row _ (w.heap.size + 1) j _ _ hl
  have ht : (w.alloc (.cells #[.bool false, .slice none 0 0, .slice none 0 0] 24)).there w.heap.size 0 3 := fun j hj => by
    refine ⟨?_, frozen_of_row _ _ _ _ _ (heap_alloc_last w _)⟩
    rw [cell_of_row _ _ _ _ _ _ (heap_alloc_last w _)]
    match j, hj with
    | 0, _ => rfl
    | 1, _ => rfl
    | 2, _ => rfl
  refine ⟨by rw [hc]; rfl, by rw [hc]; rfl, by rw [hc]; rfl, hf 1, hf 2, Room.nil _ _ _, Room.nil _ _ _, fun q hq => by simp [fp_zero] at hq, there_chg ht (Chg.alloc [] _ _) (by simp), by omega, by omega, by omega, by simp⟩
theorem step_append_2 {P : Program} {ops : Array Oper} {o : Oper} {a : Act} {w : World} {K : Act → World → Prop} {Q : Exit → Act → World → Prop} {E : Prop}
    (hg : o.guard = none) (s x : Operand) (t : TypeId) (ho : o.op = .call { callee := .builtin .append, args := #[s, x], argTypes := #[t, t] })
    (e : TypeId) (bytes : Nat) (helt : Elt P t e bytes)
    (B : Nat) (ao : Option Addr) (n c : Nat) (xs : List Value) (hs : a.eval s = .slice ao n c) (h : Room w B ao n c xs) (hB : B ≤ w.heap.size)
    (u : Value) (cx : Nat) (hxe : a.eval x = .slice (some ⟨w.heap.size, 0, none⟩) 1 cx) (hone : u.oneCell' = true)
    (h63 : n + 1 ≤ maxLen) (hbytes : (n + 1) * bytes ≤ 140737488355328)
    (hK : ∀ ao' c' w', Room w' B ao' (n + 1) c' (xs ++ [u]) → Chg (fp ao c) w w' → (fp ao' c' = fp ao c ∨ fp ao' c' = [w.heap.size + 1]) → K (a.put o.dst (.slice ao' (n + 1) c')) w') :
    if Region.wanted o (yielded ops a.tmps) = true then Oper.wp P o a (w.alloc (.cells #[u] e)) K Q else E := by
  have hw : Region.wanted o (yielded ops a.tmps) = true := by simp [Region.wanted, hg]
  rw [if_pos hw]
  obtain ⟨ao', c', w', hr, h2, h3, h4⟩ := run_append_k (P := P) (w.alloc (.cells #[u] e)) t o.type e bytes helt B ao n c xs (h.chg (Chg.alloc [] w _) (by simp)) (by simp; omega) (some ⟨w.heap.size, 0, none⟩) 1 cx [u] (Reads.new w #[u] e) rfl (by simpa using hone) h63 hbytes
  unfold Oper.wp execOp
  simp only [ho, resolve, invoke, builtin, Sem.run_bind, Sem.run_pure, Result.andThen_ok, List.map_toArray, List.map_cons, List.map_nil, hs, hxe, hr]
  exact hK _ _ _ h2 ((Chg.alloc [] w _).trans h3 (by simp) (fun k h _ => h)) (by simpa using h4)

theorem NBlk.keep {w w' : World} {R nb B : Nat} {lf : Bool} {ka : Option Addr} {kc : Nat} {va : Option Addr} {vc : Nat} {K V : List Nat} (h : NBlk w R nb B lf ka kc va vc K V) (g : Chg [] w w') : NBlk w' R nb B lf ka kc va vc K V :=
  ⟨g.cellv h.c0 (by simp), g.cellv h.c1 (by simp), g.cellv h.c2 (by simp), (g.frozen (p := ⟨nb, 1, none⟩) (block_lt_of_cell h.c1) (by simp)).trans h.f1, (g.frozen (p := ⟨nb, 2, none⟩) (block_lt_of_cell h.c2) (by simp)).trans h.f2, h.rk.chg g (by simp), h.rv.chg g (by simp), h.dj, there_chg h.th g (by simp), h.hR, h.hn, h.ne, Nat.le_trans h.hB g.size⟩
theorem NBlk.out {w wr : World} {R nb B : Nat} {lf : Bool} {ka : Option Addr} {kc : Nat} {va : Option Addr} {vc : Nat} {K V : List Nat} (h : NBlk wr R nb B lf ka kc va vc K V) (hb : w.heap.size ≤ B) (x y z : Value) : NOut w.heap.size lf K V (.returned (.agg #[.bool lf, .slice ka K.length kc, .slice va V.length vc])) (((wr.setCell ⟨R, 0, none⟩ x).setCell ⟨R, 1, none⟩ y).setCell ⟨R, 2, none⟩ z) := by
  have g := three_chg wr R x y z
  exact ⟨ka, kc, va, vc, rfl, ((show RmN wr B ka kc va vc K V from ⟨h.rk, h.rv, h.dj⟩).chg g (fun q hq => by simp at hq; have := h.hR; omega)).mono hb⟩
theorem keep3 {a0 a1 a2 : Addr} {v0 v1 v2 : Value} {S : List Nat} {u u' : World} (h : u.cell? a0 = some v0 ∧ u.cell? a1 = some v1 ∧ u.cell? a2 = some v2) (g : Chg S u u') (n0 : a0.block ∉ S) (n1 : a1.block ∉ S) (n2 : a2.block ∉ S) : u'.cell? a0 = some v0 ∧ u'.cell? a1 = some v1 ∧ u'.cell? a2 = some v2 :=
  ⟨g.cellv h.1 n0, g.cellv h.2.1 n1, g.cellv h.2.2 n2⟩
set_option maxRecDepth 20000 in
set_option maxHeartbeats 2000000 in
theorem rpart_any (lf : Bool) (ka : Option Addr) (kl kc : Nat) (va : Option Addr) (vl vc : Nat) (K V : List Nat) (w : World) (h : RdN w ka kc va vc K V) (hk : K.length = kl) (hv : V.length = vl) (f t : Nat) (hft : f ≤ t) (htk : t ≤ kl) (htv : t ≤ vl) :
    Calls Try.prog 41 #[.agg #[.bool lf, .slice ka kl kc, .slice va vl vc], .int .i64 (f : Int), .int .i64 (t : Int)] w fun e w' => NOut w.heap.size lf (sub K f t) (sub V f t) e w' ∧ Chg [] w w' := by
  have hkc := h.ck
  have hvc := h.cv
  have hbk := h.bk
  have hbv := h.bv
  have g0 := Chg.alloc [] w (.cells #[.bool lf, .slice ka kl kc, .slice va vl vc] 24)
  obtain ⟨c0, c1, c2⟩ := laid3 w (.bool lf) (.slice ka kl kc) (.slice va vl vc) 24
  have h1 := h.keep g0
  have hz : (w.alloc (.cells #[.bool lf, .slice ka kl kc, .slice va vl vc] 24)).heap.size = w.heap.size + 1 := by simp
  have hkm : kl ≤ 17592186043904 := by omega
  have hvm : vl ≤ 17592186043904 := by omega
  have HC := mkHid (And.intro c0 (And.intro c1 c2))
  have HK := mkHid hk
  have HV := mkHid hv
  have HZ := mkHid hz
  clear c0 c1 c2 hk hv h hz hbk hbv hkc hvc
  go_enter Try.func41, Try.ntmps41
  go_wp2_with fail
  generalize w.alloc (.cells #[.bool lf, .slice ka kl kc, .slice va vl vc] 24) = w1 at *
  obtain ⟨c0, c1, c2⟩ := HC.out
  have N0 := start_node w1 lf
  have G0 : Chg [] w1 ((w1.alloc (.cells #[.bool false, .slice none 0 0, .slice none 0 0] 24)).alloc (.cells #[.bool lf, .slice none 0 0, .slice none 0 0] 24)) := (Chg.alloc [] w1 _).then (Chg.alloc [] _ _)
  rw [HZ.out] at N0
  obtain ⟨R, hR⟩ : ∃ R, w.heap.size + 1 = R := ⟨_, rfl⟩
  rw [hR] at N0 ⊢
  obtain ⟨nb, hnb⟩ : ∃ nb, R + 1 = nb := ⟨_, rfl⟩
  obtain ⟨B, hB⟩ : ∃ B, R + 2 = B := ⟨_, rfl⟩
  rw [hnb, hB] at N0
  rw [hnb]
  obtain ⟨b, hb⟩ : ∃ b, w.heap.size = b := ⟨_, rfl⟩
  have HB := mkHid (show w.heap.size = b ∧ w1.heap.size = R ∧ R = b + 1 ∧ nb = b + 2 ∧ B = b + 3 by have := HZ.out; omega)
  rw [hb] at c0 c1 c2 ⊢
  clear hR hnb hB hb HC HZ
  generalize (w1.alloc (.cells #[.bool false, .slice none 0 0, .slice none 0 0] 24)).alloc (.cells #[.bool lf, .slice none 0 0, .slice none 0 0] 24) = w2 at *
  go_loopw [8] (fun iv wr => ∃ (i : Nat) (a : Option Addr) (c : Nat) (a' : Option Addr) (c' : Nat), iv = .int .i64 i ∧ f ≤ i ∧ i ≤ t ∧ NBlk wr R nb B lf a c a' c' (sub K f i) (sub V f i) ∧ Chg [] w1 wr) (fun iv _ => t - (intOf iv).toNat)
  case atStart => exact ⟨f, none, 0, none, 0, rfl, Nat.le_refl _, hft, by rw [sub_nil, sub_nil]; exact N0, G0⟩
  case round =>
    clear N0 G0
    obtain ⟨i, a, c, a', c', rfl, hfi, hit, hN, hg⟩ := hrel
    by_cases hlt : i < t
    · have d1 : decide (i < t) = true := decide_eq_true hlt
      have d2 : decide ((i : Int) < (t : Int)) = true := decide_eq_true (by omega)
      have hik : (i : Int) < (kl : Int) := by omega
      have hiv : (i : Int) < (vl : Int) := by omega
      have hikn : i < kl := by omega
      have hivn : i < vl := by omega
      obtain ⟨y, hy⟩ : ∃ y, K[i]? = some y := ⟨_, List.getElem?_eq_getElem (by rw [HK.out]; exact hikn)⟩
      obtain ⟨z, hz⟩ : ∃ z, V[i]? = some z := ⟨_, List.getElem?_eq_getElem (by rw [HV.out]; exact hivn)⟩
      obtain ⟨kb, ko, rfl, ek, lk⟩ := reads_lt h1.rk i _ (uvs_get hy)
      obtain ⟨vb, vo, rfl, ev, lv⟩ := reads_lt h1.rv i _ (uvs_get hz)
      have sK := sub_snoc hfi hy
      have sV := sub_snoc hfi hz
      have lK : (sub K f i).length ≤ 17592186043903 := by rw [sub_len (by rw [HK.out]; omega)]; omega
      have lV : (sub V f i).length ≤ 17592186043903 := by rw [sub_len (by rw [HV.out]; omega)]; omega
      generalize sub K f i = L at *
      generalize sub V f i = M at *
      have bdk : L.length + 1 ≤ maxLen ∧ (L.length + 1) * 8 ≤ 140737488355328 := by unfold maxLen; omega
      have bdv : M.length + 1 ≤ maxLen ∧ (M.length + 1) * 8 ≤ 140737488355328 := by unfold maxLen; omega
      have gd := hg.then (Chg.drew [] wr)
      have ND := hN.keep (Chg.drew [] wr)
      have e1 := gd.cellv c1 (by simp)
      have e2 := gd.cellv c2 (by simp)
      have e3 := gd.cellv ek (by simp)
      have e4 := gd.cellv ev (by simp)
      have HS := mkHid (And.intro sK sV)
      have HE := mkHid (And.intro ek ev)
      have HKB := mkHid (show kb < B ∧ vb < B ∧ b < B ∧ nb < B by have := HB.out; omega)
      have HLL := mkHid (And.intro lK lV)
      have HBD := mkHid (And.intro bdk bdv)
      clear sK sV hy hz ek ev lk lv hN lK lV bdk bdv
      go_wp2_with fail
      have nfk : nb ∉ fp a c := fun hm => by have := (ND.rk.lt _ hm).1; have := HKB.out; omega
      have bfk : b ∉ fp a c := fun hm => by have := (ND.rk.lt _ hm).1; have := HKB.out; omega
      have kfk : kb ∉ fp a c := fun hm => by have := (ND.rk.lt _ hm).1; have := HKB.out; omega
      refine walks_begin (fun u => u.cell? ⟨nb, 1, none⟩ = some (.slice a L.length c) ∧ u.cell? ⟨b, 1, none⟩ = some (.slice (some ⟨kb, ko, none⟩) kl kc) ∧ u.cell? ⟨kb, ko + i, none⟩ = some (.int .u64 (y : Int))) 10 (by kernel_rfl) (by kernel_rfl) ?_
      have hS0 : (fun u : World => u.cell? ⟨nb, 1, none⟩ = some (.slice a L.length c) ∧ u.cell? ⟨b, 1, none⟩ = some (.slice (some ⟨kb, ko, none⟩) kl kc) ∧ u.cell? ⟨kb, ko + i, none⟩ = some (.int .u64 (y : Int))) _ := ⟨ND.c1, e1, e3⟩
      refine walks_take 0 (oi := { dst := some 18, op := _, type := _, pos := _, after := _, guard := none }) (v := ?_) rfl (by kernel_rfl) (fun _ _ _ h => h) (Or.inl ⟨by rfl, ?_⟩) (by assumption) ?_
      rotate_left
      · intro u hSu
        try dsimp only at hSu
        go_simp
        try with_reducible rfl
      try simp only [Act.put, List.setIfInBounds_toArray, List.set_cons_zero, List.set_cons_succ]
      refine walks_take 1 (oi := { dst := some 19, op := _, type := _, pos := _, after := _, guard := none }) (v := ?_) rfl (by kernel_rfl) (fun _ _ _ h => h) (Or.inl ⟨by rfl, ?_⟩) (by assumption) ?_
      rotate_left
      · intro u hSu
        try dsimp only at hSu
        go_simp
        try with_reducible rfl
      try simp only [Act.put, List.setIfInBounds_toArray, List.set_cons_zero, List.set_cons_succ]
      refine walks_take 2 (oi := { dst := some 20, op := _, type := _, pos := _, after := _, guard := none }) (v := ?_) rfl (by kernel_rfl) (fun _ _ _ h => h) (Or.inl ⟨by rfl, ?_⟩) (by assumption) ?_
      rotate_left
      · intro u hSu
        try dsimp only at hSu
        go_simp
        try with_reducible rfl
      try simp only [Act.put, List.setIfInBounds_toArray, List.set_cons_zero, List.set_cons_succ]
      refine walks_take 3 (oi := { dst := some 21, op := _, type := _, pos := _, after := _, guard := none }) (v := ?_) rfl (by kernel_rfl) (fun _ _ _ h => h) (Or.inl ⟨by rfl, ?_⟩) (by assumption) ?_
      rotate_left
      · intro u hSu
        try dsimp only at hSu
        go_simp
        try with_reducible rfl
      try simp only [Act.put, List.setIfInBounds_toArray, List.set_cons_zero, List.set_cons_succ]
      refine walks_take 4 (oi := { dst := some 22, op := _, type := _, pos := _, after := _, guard := none }) (v := ?_) rfl (by kernel_rfl) (fun _ _ _ h => h) (Or.inl ⟨by rfl, ?_⟩) (by assumption) ?_
      rotate_left
      · intro u hSu
        try dsimp only at hSu
        go_simp
        try with_reducible rfl
      try simp only [Act.put, List.setIfInBounds_toArray, List.set_cons_zero, List.set_cons_succ]
      refine walks_take 5 (oi := { dst := some 23, op := _, type := _, pos := _, after := _, guard := none }) (v := ?_) rfl (by kernel_rfl) (fun _ _ _ h => h) (Or.inl ⟨by rfl, ?_⟩) (by assumption) ?_
      rotate_left
      · intro u hSu
        try dsimp only at hSu
        go_simp
        try with_reducible rfl
      try simp only [Act.put, List.setIfInBounds_toArray, List.set_cons_zero, List.set_cons_succ]
      refine walks_take 6 (oi := { dst := some 24, op := _, type := _, pos := _, after := _, guard := none }) (v := ?_) rfl (by kernel_rfl) (fun _ _ _ h => h) (Or.inl ⟨by rfl, ?_⟩) (by assumption) ?_
      rotate_left
      · intro u hSu
        try dsimp only at hSu
        go_simp
        try with_reducible rfl
      try simp only [Act.put, List.setIfInBounds_toArray, List.set_cons_zero, List.set_cons_succ]
      refine walks_one 7 (o := { dst := some 25, op := _, type := _, pos := _, after := _, guard := none }) rfl (by decide) (by kernel_rfl) ?_
      intro K9 hK9
      go_simp
      have hS1 := keep3 hS0 (Chg.alloc [] _ (.cells #[.int .u64 (y : Int)] 25)) (by simp) (by simp) (by simp)
      refine hK9.out _ _ hS1 ?_
      clear hK9 K9
      try simp only [Act.put, List.setIfInBounds_toArray, List.set_cons_zero, List.set_cons_succ]
      refine walks_one 8 (o := { dst := some 26, op := _, type := _, pos := _, after := _, guard := none }) rfl (by decide) (by kernel_rfl) ?_
      intro K9 hK9
      refine step_append_2 rfl (.tmp 19) (.tmp 25) 22 rfl 25 8 eltU B a L.length c (uvs L) rfl ND.rk ND.hB (.int .u64 (y : Int)) 1 rfl rfl HBD.out.1.1 HBD.out.1.2 ?_
      intro a5 c5 w5 r5 g5 hf5
      have hS2 := keep3 hS0 g5 nfk bfk kfk
      have k5 := hS2.1
      have f5 := (g5.frozen (p := ⟨nb, 1, none⟩) (block_lt_of_cell ND.c1) nfk).trans ND.f1
      refine hK9.out _ _ hS2 ?_
      clear hK9 K9
      try simp only [Act.put, List.setIfInBounds_toArray, List.set_cons_zero, List.set_cons_succ]
      refine walks_take 9 (oi := { dst := some 27, op := _, type := _, pos := _, after := _, guard := none }) (v := ?_) rfl (by kernel_rfl) (fun _ _ _ h => h) (Or.inl ⟨by rfl, ?_⟩) (by assumption) ?_
      rotate_left
      · intro u hSu
        try dsimp only at hSu
        go_simp
        try with_reducible rfl
      try simp only [Act.put, List.setIfInBounds_toArray, List.set_cons_zero, List.set_cons_succ]
      refine walks_last 10 (o := { dst := none, op := _, type := _, pos := _, after := _, guard := none }) rfl (by kernel_rfl) (by kernel_rfl) (by decide) ?_
      intro K9 hK9
      go_simp
      refine hK9.out _ _ ?_
      clear hK9 K9
      try simp only [Act.put, List.setIfInBounds_toArray, List.set_cons_zero, List.set_cons_succ]
      have N5 := ND.key r5 g5 (hf5.imp id (fun e => ⟨_, Nat.le_succ _, e⟩))
      have Q5 : Chg [] w1 (w5.setCell ⟨nb, 1, none⟩ (.slice a5 (L.length + 1) c5)) := ND.turned gd (by have := HB.out; omega) g5 (fun q hq => by have := (ND.rk.lt q hq).1; have := HB.out; omega) 1 _
      clear hS0 hS1 hS2 k5 f5 ND r5 g5 hf5 nfk bfk kfk e1 e2 e3 e4 gd hg
      generalize w5.setCell ⟨nb, 1, none⟩ (.slice a5 (L.length + 1) c5) = w6 at *
      have gd := Q5.then (Chg.drew [] w6)
      have ND := N5.keep (Chg.drew [] w6)
      have e2 := gd.cellv c2 (by simp)
      have e4 := gd.cellv HE.out.2 (by simp)
      clear c0 c1
      go_wp2_with fail
      have nfk : nb ∉ fp a' c' := fun hm => by have := (ND.rv.lt _ hm).1; have := HKB.out; omega
      have bfk : b ∉ fp a' c' := fun hm => by have := (ND.rv.lt _ hm).1; have := HKB.out; omega
      have kfk : vb ∉ fp a' c' := fun hm => by have := (ND.rv.lt _ hm).1; have := HKB.out; omega
      refine walks_begin (fun u => u.cell? ⟨nb, 2, none⟩ = some (.slice a' M.length c') ∧ u.cell? ⟨b, 2, none⟩ = some (.slice (some ⟨vb, vo, none⟩) vl vc) ∧ u.cell? ⟨vb, vo + i, none⟩ = some (.int .u64 (z : Int))) 10 (by kernel_rfl) (by kernel_rfl) ?_
      have hS0 : (fun u : World => u.cell? ⟨nb, 2, none⟩ = some (.slice a' M.length c') ∧ u.cell? ⟨b, 2, none⟩ = some (.slice (some ⟨vb, vo, none⟩) vl vc) ∧ u.cell? ⟨vb, vo + i, none⟩ = some (.int .u64 (z : Int))) _ := ⟨ND.c2, e2, e4⟩
      refine walks_take 0 (oi := { dst := some 28, op := _, type := _, pos := _, after := _, guard := none }) (v := ?_) rfl (by kernel_rfl) (fun _ _ _ h => h) (Or.inl ⟨by rfl, ?_⟩) (by assumption) ?_
      rotate_left
      · intro u hSu
        try dsimp only at hSu
        go_simp
        try with_reducible rfl
      try simp only [Act.put, List.setIfInBounds_toArray, List.set_cons_zero, List.set_cons_succ]
      refine walks_take 1 (oi := { dst := some 29, op := _, type := _, pos := _, after := _, guard := none }) (v := ?_) rfl (by kernel_rfl) (fun _ _ _ h => h) (Or.inl ⟨by rfl, ?_⟩) (by assumption) ?_
      rotate_left
      · intro u hSu
        try dsimp only at hSu
        go_simp
        try with_reducible rfl
      try simp only [Act.put, List.setIfInBounds_toArray, List.set_cons_zero, List.set_cons_succ]
      refine walks_take 2 (oi := { dst := some 30, op := _, type := _, pos := _, after := _, guard := none }) (v := ?_) rfl (by kernel_rfl) (fun _ _ _ h => h) (Or.inl ⟨by rfl, ?_⟩) (by assumption) ?_
      rotate_left
      · intro u hSu
        try dsimp only at hSu
        go_simp
        try with_reducible rfl
      try simp only [Act.put, List.setIfInBounds_toArray, List.set_cons_zero, List.set_cons_succ]
      refine walks_take 3 (oi := { dst := some 31, op := _, type := _, pos := _, after := _, guard := none }) (v := ?_) rfl (by kernel_rfl) (fun _ _ _ h => h) (Or.inl ⟨by rfl, ?_⟩) (by assumption) ?_
      rotate_left
      · intro u hSu
        try dsimp only at hSu
        go_simp
        try with_reducible rfl
      try simp only [Act.put, List.setIfInBounds_toArray, List.set_cons_zero, List.set_cons_succ]
      refine walks_take 4 (oi := { dst := some 32, op := _, type := _, pos := _, after := _, guard := none }) (v := ?_) rfl (by kernel_rfl) (fun _ _ _ h => h) (Or.inl ⟨by rfl, ?_⟩) (by assumption) ?_
      rotate_left
      · intro u hSu
        try dsimp only at hSu
        go_simp
        try with_reducible rfl
      try simp only [Act.put, List.setIfInBounds_toArray, List.set_cons_zero, List.set_cons_succ]
      refine walks_take 5 (oi := { dst := some 33, op := _, type := _, pos := _, after := _, guard := none }) (v := ?_) rfl (by kernel_rfl) (fun _ _ _ h => h) (Or.inl ⟨by rfl, ?_⟩) (by assumption) ?_
      rotate_left
      · intro u hSu
        try dsimp only at hSu
        go_simp
        try with_reducible rfl
      try simp only [Act.put, List.setIfInBounds_toArray, List.set_cons_zero, List.set_cons_succ]
      refine walks_take 6 (oi := { dst := some 34, op := _, type := _, pos := _, after := _, guard := none }) (v := ?_) rfl (by kernel_rfl) (fun _ _ _ h => h) (Or.inl ⟨by rfl, ?_⟩) (by assumption) ?_
      rotate_left
      · intro u hSu
        try dsimp only at hSu
        go_simp
        try with_reducible rfl
      try simp only [Act.put, List.setIfInBounds_toArray, List.set_cons_zero, List.set_cons_succ]
      refine walks_one 7 (o := { dst := some 35, op := _, type := _, pos := _, after := _, guard := none }) rfl (by decide) (by kernel_rfl) ?_
      intro K9 hK9
      go_simp
      have hS1 := keep3 hS0 (Chg.alloc [] _ (.cells #[.int .u64 (z : Int)] 25)) (by simp) (by simp) (by simp)
      refine hK9.out _ _ hS1 ?_
      clear hK9 K9
      try simp only [Act.put, List.setIfInBounds_toArray, List.set_cons_zero, List.set_cons_succ]
      refine walks_one 8 (o := { dst := some 36, op := _, type := _, pos := _, after := _, guard := none }) rfl (by decide) (by kernel_rfl) ?_
      intro K9 hK9
      refine step_append_2 rfl (.tmp 29) (.tmp 35) 22 rfl 25 8 eltU B a' M.length c' (uvs M) rfl ND.rv ND.hB (.int .u64 (z : Int)) 1 rfl rfl HBD.out.2.1 HBD.out.2.2 ?_
      intro a5 c5 w5 r5 g5 hf5
      have hS2 := keep3 hS0 g5 nfk bfk kfk
      have k5 := hS2.1
      have f5 := (g5.frozen (p := ⟨nb, 2, none⟩) (block_lt_of_cell ND.c2) nfk).trans ND.f2
      refine hK9.out _ _ hS2 ?_
      clear hK9 K9
      try simp only [Act.put, List.setIfInBounds_toArray, List.set_cons_zero, List.set_cons_succ]
      refine walks_take 9 (oi := { dst := some 37, op := _, type := _, pos := _, after := _, guard := none }) (v := ?_) rfl (by kernel_rfl) (fun _ _ _ h => h) (Or.inl ⟨by rfl, ?_⟩) (by assumption) ?_
      rotate_left
      · intro u hSu
        try dsimp only at hSu
        go_simp
        try with_reducible rfl
      try simp only [Act.put, List.setIfInBounds_toArray, List.set_cons_zero, List.set_cons_succ]
      refine walks_last 10 (o := { dst := none, op := _, type := _, pos := _, after := _, guard := none }) rfl (by kernel_rfl) (by kernel_rfl) (by decide) ?_
      intro K9 hK9
      go_simp
      refine hK9.out _ _ ?_
      clear hK9 K9
      try simp only [Act.put, List.setIfInBounds_toArray, List.set_cons_zero, List.set_cons_succ]
      have N7 := ND.value r5 g5 (hf5.imp id (fun e => ⟨_, Nat.le_succ _, e⟩))
      have Q7 : Chg [] w1 (w5.setCell ⟨nb, 2, none⟩ (.slice a5 (M.length + 1) c5)) := ND.turned gd (by have := HB.out; omega) g5 (fun q hq => by have := (ND.rv.lt q hq).1; have := HB.out; omega) 2 _
      rw [HS.out.1, HS.out.2] at N7
      clear hS0 hS1 hS2 k5 f5 ND r5 g5 hf5 nfk bfk kfk e2 e4 gd N5 Q5
      generalize w5.setCell ⟨nb, 2, none⟩ (.slice a5 (M.length + 1) c5) = w7 at *
      go_wp2_with fail
      exact ⟨⟨i + 1, _, _, _, _, by first | rfl | go_num, by omega, by omega, N7, Q7⟩, by simp [intOf]; omega⟩
    · have hie : i = t := by omega
      subst hie
      have d1 : decide (i < i) = false := decide_eq_false hlt
      have d2 : decide ((i : Int) < (i : Int)) = false := decide_eq_false (by omega)
      have n0 := hN.c0
      have n1 := hN.c1
      have n2 := hN.c2
      obtain ⟨v0, v1, v2, r0, r1, r2, q0, q1, q2⟩ := there3 hN.th
      have HNN := mkHid (And.intro hN hg)
      clear hN hg c0 c1 c2
      go_wp2_with fail
      refine bodyPost_ret (v := .agg #[.bool lf, .slice a (sub K f i).length c, .slice a' (sub V f i).length c']) (by simp [results, Try.results41, go_sem, r0, r1, r2]) rfl ⟨HNN.out.1.out (by have := HB.out; omega) _ _ _, three w wr R (by have := HB.out; omega) (g0.then HNN.out.2) _ _ _⟩
end Go.Proofs.Ytlaeonemlodhmaa
