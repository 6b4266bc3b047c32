/- The law's examples: awake. -/
import Derived.Test.YtbopfpdgoalfoaaDoorNu
namespace Go.Proofs.YtbopfpdgoalfoaaDoor
open Go.RowKit
set_option linter.unusedVariables false
set_option linter.unusedSimpArgs false
attribute [local go_sem ↓] Go.wp_at_zero Go.wp_at_succ

section
variable {P : Program} (w : World)
theorem run_append_r (t ty e : TypeId) (bytes : Nat) (helt : Elt P t e bytes)
    (B : Nat) (ao : Option Addr) (n c : Nat) (xs : List Value) (h : Room w B ao n c xs) (hB : B ≤ w.heap.size)
    (ax : Option Addr) (m cx : Nat) (news : List Value) (hx : Reads w ax news) (hm : news.length = m) (hone : ∀ u ∈ news, u.oneCell' = true)
    (h63 : n + m ≤ maxLen) (hbytes : (n + m) * bytes ≤ 140737488355328) :
    ∃ ao' c' w', (Builtin.append_ #[t, t] ty #[.slice ao n c, .slice ax m cx]).run P w = .ok (.slice ao' (n + m) c') w' ∧ Room w' B ao' (n + m) c' (xs ++ news) ∧ Chg (fp ao c) w w' ∧ (fp ao' c' = fp ao c ∨ fp ao' c' = [w.heap.size]) ∧ Reads w' ao xs := by
  obtain ⟨ht, i, z, hi, hz, hsize, hby, hzs⟩ := helt
  subst hby
  have hlen : (xs ++ news).length = n + m := by rw [List.length_append, h.len, hm]
  have hml : maxLen = 9223372036854775807 := rfl
  have hf : ∀ w0 : World, w0.heap = w.heap → (Builtin.firstCells i.size m (.slice ax m cx)).run P w0 = .ok news.toArray w0 := by
    intro w0 hw0
    cases ax with
    | none =>
      have : news = [] := by
        cases hn : news with
        | nil => rfl
        | cons u r => obtain ⟨b, o, e, _⟩ := hx (by rw [hn]; simp); cases e
      subst this
      rw [run_firstCells_none]
    | some ad =>
      refine run_firstCells_some (P := P) w0 i.size m ad m cx news (by simp [hsize, hm]) (fun j u hu => ?_)
      have := hx.addr ad rfl j u hu
      simpa [World.cell?, hw0] using this
  by_cases hroom : n + m ≤ c
  · by_cases hc : c = 0
    · subst hc
      have hn0 : n = 0 := by omega
      have hm0 : m = 0 := by omega
      subst hn0 hm0
      have hx0 : xs = [] := List.eq_nil_of_length_eq_zero h.len
      have hnn : news = [] := List.eq_nil_of_length_eq_zero hm
      subst hx0 hnn
      refine ⟨ao, 0, w, ?_, h, Chg.refl _ _, Or.inl rfl, h.reads⟩
      have := hf w rfl
      cases ao <;> simp [Builtin.append_, run_underlying ht, sizeOf, typeInfo, hi, Builtin.lenOf, this, storeCells]
    · obtain ⟨b, o, rfl, hBb, hs, hv⟩ := h.at_ (by omega)
      have hcell : ∀ j, j < news.length → (w.cell? ⟨b, o + n * i.size + 0 + j, none⟩).isSome = true := fun j hj => by
        have := (hs (n + j) (by omega)).1
        rwa [hsize, Nat.mul_one, Nat.add_zero, Nat.add_assoc]
      have hfr : ∀ j, j < news.length → w.frozen? ⟨b, o + n * i.size + 0 + j, none⟩ = false := fun j hj => by
        have := (hs (n + j) (by omega)).2
        rwa [hsize, Nat.mul_one, Nat.add_zero, Nat.add_assoc]
      have hst := run_storeCells_cells (P := P) b (o + n * i.size) news 0 w hcell hfr hone
      refine ⟨some ⟨b, o, none⟩, c, w.setCells b (o + n) news, ?_, ⟨hlen, hroom, h.max, fun _ => ⟨b, o, rfl, hBb, fun j hj => ?_, fun j u hu => ?_⟩⟩, by rw [fp_some _ _ _ (by omega)]; exact Chg.setCells b news (o + n) w, Or.inl rfl, fun _ => ⟨b, o, rfl, fun j u hu => by
        have hj := (List.getElem?_eq_some_iff.1 hu).1
        rw [World.cell?_setCells_out b news (o + n) w _ (fun _ _ => by have := h.len; simp; omega)]
        exact hv j u hu⟩⟩
      · simp only [Nat.add_zero] at hst
        have := hf w rfl
        simp [Builtin.append_, run_underlying ht, sizeOf, typeInfo, hi, Builtin.lenOf, hroom, this, Addr.add_lit, hst]
        simp [hsize]
      · obtain ⟨h1, h2⟩ := hs j hj
        refine ⟨?_, by rw [World.frozen?_setCells]; exact h2⟩
        by_cases hin : n ≤ j ∧ j < n + news.length
        · have := World.cell?_setCells_in b news (o + n) w (fun k hk => by rw [Nat.add_assoc]; exact (hs (n + k) (by omega)).1) (j - n) (by omega)
          rw [show o + n + (j - n) = o + j by omega] at this
          rw [this]; rfl
        · rw [World.cell?_setCells_out b news (o + n) w _ (fun _ _ => by simp; omega)]
          exact h1
      · by_cases hj : j < n
        · rw [List.getElem?_append_left (by rw [h.len]; exact hj)] at hu
          rw [World.cell?_setCells_out b news (o + n) w _ (fun _ _ => by simp; omega)]
          exact hv j u hu
        · rw [List.getElem?_append_right (by rw [h.len]; omega), h.len] at hu
          have hjn : j - n < news.length := (List.getElem?_eq_some_iff.1 hu).1
          have := World.cell?_setCells_in b news (o + n) w (fun k hk => by rw [Nat.add_assoc]; exact (hs (n + k) (by omega)).1) (j - n) hjn
          rw [show o + n + (j - n) = o + j by omega] at this
          rw [this]
          rw [List.getElem?_eq_getElem hjn] at hu
          exact hu
  · have hfo : (Builtin.firstCells i.size n (.slice ao n c)).run P w.drew = .ok xs.toArray w.drew := by
      cases ao with
      | none =>
        have hc : c = 0 := by
          rcases Nat.eq_zero_or_pos c with h0 | h0
          · exact h0
          · obtain ⟨b, o, e, _⟩ := h.at_ h0; cases e
        have : xs = [] := List.eq_nil_of_length_eq_zero (by have := h.len; have := h.le; omega)
        subst this
        rw [run_firstCells_none]
      | some ad =>
        exact run_firstCells_some (P := P) w.drew i.size n ad n c xs (by simp [hsize, h.len]) (fun j u hu => by simpa using h.reads.addr ad rfl j u hu)
    have hfn := hf w.drew rfl
    have hge := grownCap_ge w (n + m) c e
    have hcm := grownCap_le_maxLen w (n + m) c e h63
    have h63' : ¬ (9223372036854775807 < ((n : Int) + (m : Int))) := by omega
    have h48' : ¬ (281474976710656 < Builtin.nextslicecap (n + m) c * i.bytes) := by have := growslice_fits (old := c) (need := n + m) (by omega) hbytes; omega
    refine ⟨some ⟨w.heap.size, 0, none⟩, grownCap w (n + m) c e, w.drew.alloc (.cells (xs.toArray ++ news.toArray ++ Builtin.zeroCells z.cells (grownCap w (n + m) c e - (n + m))) e), ?_, ?_, ⟨rfl, rfl, rfl, by simp, fun k hk _ => Below.heap_alloc w.drew _ k hk⟩, Or.inr (fp_some _ _ _ (by omega)), h.reads.chg (S := []) ⟨rfl, rfl, rfl, by simp, fun k hk _ => Below.heap_alloc w.drew _ k hk⟩ (by simp)⟩
    · simp [Builtin.append_, run_underlying ht, sizeOf, typeInfo, zeroValue, hi, hz, Builtin.lenOf, hroom, h63', h48', Question.forced, hfn, hfo, newRow, grownCap]
      congr 2
      apply Array.ext'
      simp [List.append_assoc]
    · refine Room.of_owns (e := e) ⟨by rw [hlen]; simp, .inr ⟨w.heap.size, _, _, rfl, hB, heap_alloc_new w.drew _, hge, hcm, ?_, ?_⟩⟩
      · simp only [Array.size_append, List.size_toArray, size_zeroCells, hzs, h.len, hm]
        omega
      · simp only [Array.toList_append, List.append_assoc]
        rw [← List.append_assoc, Nat.mul_one, ← hlen]
        exact List.take_left
end
theorem wpList_append_r {P : Program} (w : World) {ops : Array Oper} {rest : List Oper} {o : Oper} {a : Act} {Q : Exit → Act → World → Prop} (hgd : o.guard = none) (s x : Operand) (t : TypeId)
    (ho : o.op = .call { callee := .builtin .append, args := #[s, x], argTypes := #[t, t] })
    (e : TypeId) (bytes : Nat) (helt : Elt P t e bytes)
    (B : Nat) (ao : Option Addr) (n c : Nat) (xs : List Value) (hs : a.eval s = .slice ao n c) (h : Room w B ao n c xs) (hB : B ≤ w.heap.size)
    (ax : Option Addr) (m cx : Nat) (news : List Value) (hxe : a.eval x = .slice ax m cx) (hx : Reads w ax news) (hm : news.length = m) (hone : ∀ u ∈ news, u.oneCell' = true)
    (h63 : n + m ≤ maxLen) (hbytes : (n + m) * bytes ≤ 140737488355328)
    (hK : ∀ ao' c' w', Room w' B ao' (n + m) c' (xs ++ news) → Chg (fp ao c) w w' → (fp ao' c' = fp ao c ∨ fp ao' c' = [w.heap.size]) → Reads w' ao xs → wpList P ops Q rest (a.put o.dst (.slice ao' (n + m) c')) w') : wpList P ops Q (o :: rest) a w := by
  refine wpList_plain hgd fun K hK' => ?_
  obtain ⟨ao', c', w', hr, h2, h3, h4, h5⟩ := run_append_r (P := P) w t o.type e bytes helt B ao n c xs h hB ax m cx news hx hm hone h63 hbytes
  unfold Oper.wp execOp
  simp only [ho, resolve, invoke, builtin, Sem.run_bind, Sem.run_pure, Result.andThen_ok, List.map_toArray, List.map_cons, List.map_nil, hs, hxe, hr]
  exact hK' _ _ (hK ao' c' w' h2 h3 h4 h5)

theorem lit_room (w : World) (B : Nat) (hB : B ≤ w.heap.size) (cs : Array Value) (e : TypeId) (xs : List Value) (n : Nat) (hc : cs.toList = xs) (hn : xs.length = n) (hx : n ≤ maxLen) : Room (w.alloc (.cells cs e)) B (some ⟨w.heap.size, 0, none⟩) n n xs := by
  have h2 : cs.size = n := by rw [← hn, ← hc]; simp
  have hf := fun j => frozen_of_row (w.alloc (.cells cs e)) w.heap.size j cs e (heap_alloc_last w (.cells cs e))
  have hcc := fun j => cell_of_row (w.alloc (.cells cs e)) w.heap.size j cs e (0, 0) (heap_alloc_last w (.cells cs e))
  refine ⟨hn, Nat.le_refl _, hx, fun _ => ⟨w.heap.size, 0, rfl, hB, fun j hj => ?_, fun j u hu => ?_⟩⟩
  · rw [Nat.zero_add]
    refine ⟨?_, hf j⟩
    rw [hcc, Array.getElem?_eq_getElem (by omega)]
    rfl
  · rw [Nat.zero_add, hcc]
    rw [← hc] at hu
    simpa using hu
def leafForm : List UInt8 := formN true [5] [7]
theorem leaf_may : mayB [5] [7] = true := by decide +kernel
theorem leaf_form : formN true [5] [7] = [1, 1, 0, 0, 0, 0, 0, 0, 0, 5, 0, 0, 0, 0, 0, 0, 0, 7] := by decide +kernel
theorem leaf_bK : ∀ x ∈ [5], x < 2 ^ 64 := by decide
theorem leaf_bV : ∀ x ∈ [7], x < 2 ^ 64 := by decide
theorem leaf_take0 : takeN (formN true [5] [7] ++ [0]) = (0, true, [5], [7]) := by rw [take_form leaf_may leaf_bK leaf_bV]; rfl
theorem leaf_take1 : takeN (formN true [5] [7] ++ [1]) = (5, false, [], []) := by rw [take_form leaf_may leaf_bK leaf_bV]; rfl
theorem same_self (lf : Bool) (K V : List Nat) : sameB lf lf K V K V = true := by simp [sameB]
theorem leaf_start (w : World) : RdN (((w.alloc (.cells #[.int .u64 5] 38)).alloc (.cells #[.int .u64 7] 38)).alloc (.cells #[.bool true, .slice (some ⟨w.heap.size, 0, none⟩) 1 1, .slice (some ⟨w.heap.size + 1, 0, none⟩) 1 1] 24)) (some ⟨w.heap.size, 0, none⟩) 1 (some ⟨w.heap.size + 1, 0, none⟩) 1 [5] [7] ∧
    Chg [] w (((w.alloc (.cells #[.int .u64 5] 38)).alloc (.cells #[.int .u64 7] 38)).alloc (.cells #[.bool true, .slice (some ⟨w.heap.size, 0, none⟩) 1 1, .slice (some ⟨w.heap.size + 1, 0, none⟩) 1 1] 24)) ∧
    (((w.alloc (.cells #[.int .u64 5] 38)).alloc (.cells #[.int .u64 7] 38)).alloc (.cells #[.bool true, .slice (some ⟨w.heap.size, 0, none⟩) 1 1, .slice (some ⟨w.heap.size + 1, 0, none⟩) 1 1] 24)).cell? ⟨w.heap.size + 1 + 1, 0, none⟩ = some (.bool true) ∧
    (((w.alloc (.cells #[.int .u64 5] 38)).alloc (.cells #[.int .u64 7] 38)).alloc (.cells #[.bool true, .slice (some ⟨w.heap.size, 0, none⟩) 1 1, .slice (some ⟨w.heap.size + 1, 0, none⟩) 1 1] 24)).cell? ⟨w.heap.size + 1 + 1, 1, none⟩ = some (.slice (some ⟨w.heap.size, 0, none⟩) 1 1) ∧
    (((w.alloc (.cells #[.int .u64 5] 38)).alloc (.cells #[.int .u64 7] 38)).alloc (.cells #[.bool true, .slice (some ⟨w.heap.size, 0, none⟩) 1 1, .slice (some ⟨w.heap.size + 1, 0, none⟩) 1 1] 24)).cell? ⟨w.heap.size + 1 + 1, 2, none⟩ = some (.slice (some ⟨w.heap.size + 1, 0, none⟩) 1 1) := by
  have p1 := lit_room w w.heap.size (Nat.le_refl _) #[.int .u64 5] 38 (uvs [5]) 1 rfl rfl (by decide)
  have g1 := Chg.alloc [] w (.cells #[.int .u64 5] 38)
  have z1 : (w.alloc (.cells #[.int .u64 5] 38)).heap.size = w.heap.size + 1 := by simp
  have p2 := lit_room (w.alloc (.cells #[.int .u64 5] 38)) w.heap.size g1.size #[.int .u64 7] 38 (uvs [7]) 1 rfl rfl (by decide)
  rw [z1] at p2
  have g2 := Chg.alloc [] (w.alloc (.cells #[.int .u64 5] 38)) (.cells #[.int .u64 7] 38)
  have q1 := p1.chg g2 (by simp)
  have z2 : ((w.alloc (.cells #[.int .u64 5] 38)).alloc (.cells #[.int .u64 7] 38)).heap.size = w.heap.size + 1 + 1 := by simp
  generalize (w.alloc (.cells #[.int .u64 5] 38)).alloc (.cells #[.int .u64 7] 38) = w2 at *
  have g3 := Chg.alloc [] w2 (.cells #[.bool true, .slice (some ⟨w.heap.size, 0, none⟩) 1 1, .slice (some ⟨w.heap.size + 1, 0, none⟩) 1 1] 24)
  have hl := heap_alloc_last w2 (.cells #[.bool true, .slice (some ⟨w.heap.size, 0, none⟩) 1 1, .slice (some ⟨w.heap.size + 1, 0, none⟩) 1 1] 24)
  rw [z2] at hl
  have hc := fun j => cell_of_row _ (w.heap.size + 1 + 1) j _ _ _ hl
  exact ⟨⟨(q1.chg g3 (by simp)).reads, (p2.chg g3 (by simp)).reads, by decide, by decide, by decide, by decide, by decide, by decide⟩, (g1.then g2).then g3, by rw [hc]; rfl, by rw [hc]; rfl, by rw [hc]; rfl⟩
theorem want_start (w : World) : Room ((w.alloc (.cells #[.int .u8 1, .int .u8 1, .int .u8 0, .int .u8 0, .int .u8 0, .int .u8 0, .int .u8 0, .int .u8 0, .int .u8 0, .int .u8 5] 5)).alloc (.cells #[.int .u8 0, .int .u8 0, .int .u8 0, .int .u8 0, .int .u8 0, .int .u8 0, .int .u8 0, .int .u8 7] 5)) w.heap.size (some ⟨w.heap.size, 0, none⟩) 10 10 (bts [1, 1, 0, 0, 0, 0, 0, 0, 0, 5]) ∧
    Reads ((w.alloc (.cells #[.int .u8 1, .int .u8 1, .int .u8 0, .int .u8 0, .int .u8 0, .int .u8 0, .int .u8 0, .int .u8 0, .int .u8 0, .int .u8 5] 5)).alloc (.cells #[.int .u8 0, .int .u8 0, .int .u8 0, .int .u8 0, .int .u8 0, .int .u8 0, .int .u8 0, .int .u8 7] 5)) (some ⟨w.heap.size + 1, 0, none⟩) (bts [0, 0, 0, 0, 0, 0, 0, 7]) ∧
    Chg [] w ((w.alloc (.cells #[.int .u8 1, .int .u8 1, .int .u8 0, .int .u8 0, .int .u8 0, .int .u8 0, .int .u8 0, .int .u8 0, .int .u8 0, .int .u8 5] 5)).alloc (.cells #[.int .u8 0, .int .u8 0, .int .u8 0, .int .u8 0, .int .u8 0, .int .u8 0, .int .u8 0, .int .u8 7] 5)) ∧ w.heap.size ≤ ((w.alloc (.cells #[.int .u8 1, .int .u8 1, .int .u8 0, .int .u8 0, .int .u8 0, .int .u8 0, .int .u8 0, .int .u8 0, .int .u8 0, .int .u8 5] 5)).alloc (.cells #[.int .u8 0, .int .u8 0, .int .u8 0, .int .u8 0, .int .u8 0, .int .u8 0, .int .u8 0, .int .u8 7] 5)).heap.size := by
  have p1 := lit_room w w.heap.size (Nat.le_refl _) #[.int .u8 1, .int .u8 1, .int .u8 0, .int .u8 0, .int .u8 0, .int .u8 0, .int .u8 0, .int .u8 0, .int .u8 0, .int .u8 5] 5 (bts [1, 1, 0, 0, 0, 0, 0, 0, 0, 5]) 10 rfl rfl (by decide)
  have g1 := Chg.alloc [] w (.cells #[.int .u8 1, .int .u8 1, .int .u8 0, .int .u8 0, .int .u8 0, .int .u8 0, .int .u8 0, .int .u8 0, .int .u8 0, .int .u8 5] 5)
  have z1 : (w.alloc (.cells #[.int .u8 1, .int .u8 1, .int .u8 0, .int .u8 0, .int .u8 0, .int .u8 0, .int .u8 0, .int .u8 0, .int .u8 0, .int .u8 5] 5)).heap.size = w.heap.size + 1 := by simp
  generalize w.alloc (.cells #[.int .u8 1, .int .u8 1, .int .u8 0, .int .u8 0, .int .u8 0, .int .u8 0, .int .u8 0, .int .u8 0, .int .u8 0, .int .u8 5] 5) = w1 at *
  have p2 := lit_room w1 w.heap.size g1.size #[.int .u8 0, .int .u8 0, .int .u8 0, .int .u8 0, .int .u8 0, .int .u8 0, .int .u8 0, .int .u8 7] 5 (bts [0, 0, 0, 0, 0, 0, 0, 7]) 8 rfl rfl (by decide)
  rw [z1] at p2
  have g2 := Chg.alloc [] w1 (.cells #[.int .u8 0, .int .u8 0, .int .u8 0, .int .u8 0, .int .u8 0, .int .u8 0, .int .u8 0, .int .u8 7] 5)
  exact ⟨p1.chg g2 (by simp), p2.reads, g1.then g2, (g1.then g2).size⟩
theorem want_form : bts [1, 1, 0, 0, 0, 0, 0, 0, 0, 5] ++ bts [0, 0, 0, 0, 0, 0, 0, 7] = bts (formN true [5] [7]) := by rw [leaf_form]; rfl
set_option maxRecDepth 20000 in
set_option maxHeartbeats 4000000 in
theorem awake_any (w : World) : Calls Tryd.prog 8 #[] w fun e w' => e = .returned (.bool true) ∧ Chg [] w w' := by
  have hS := leaf_start w
  have HS := mkHid hS
  clear hS
  go_enter Tryd.func8, Tryd.ntmps8
  go_wp2_with fail
  obtain ⟨hN, hg3, d0, d1, d2⟩ := HS.out
  clear HS
  generalize ((w.alloc (.cells #[.int .u64 5] 38)).alloc (.cells #[.int .u64 7] 38)).alloc (.cells #[.bool true, .slice (some ⟨w.heap.size, 0, none⟩) 1 1, .slice (some ⟨w.heap.size + 1, 0, none⟩) 1 1] 24) = w3 at *
  generalize (some ⟨w.heap.size, 0, none⟩ : Option Addr) = ka at *
  generalize (some ⟨w.heap.size + 1, 0, none⟩ : Option Addr) = va at *
  generalize w.heap.size + 1 + 1 = lb at *
  refine (put_node true ka 1 1 va 1 1 [5] [7] w3 hN rfl rfl leaf_bK leaf_bV leaf_may).mono ?_
  rintro e w4 ⟨a1, c1, rfl, r1, g1⟩
  have hl : (formN true [5] [7]).length = 18 := by rw [leaf_form]; rfl
  rw [hl] at r1 ⊢
  have e0 := g1.cellv d0 (by simp)
  have e1 := g1.cellv d1 (by simp)
  have e2 := g1.cellv d2 (by simp)
  have hN4 := hN.keep g1
  have hg4 := hg3.then g1
  have WS := mkHid (want_start w4)
  have wf := want_form
  have t0 := leaf_take0
  have t1 := leaf_take1
  generalize formN true [5] [7] = F at *
  have HF := mkHid (And.intro hl (And.intro wf (And.intro t0 t1)))
  have H1 := mkHid r1
  have hsz : w3.heap.size ≤ w4.heap.size := g1.size
  have HD := mkHid (And.intro hN (And.intro d0 (And.intro d1 (And.intro d2 hg3))))
  have G1 := mkHid g1
  clear d0 d1 d2 hN hg3 g1 hl wf t0 t1 r1 hN4 hg4
  go_wp2_with (first
    | (at_builtin; refine wpList_append_r _ rfl (.tmp 17) (.tmp 18) 25 rfl 5 1 eltB w4.heap.size (some ⟨w4.heap.size, 0, none⟩) 10 10 (bts [1, 1, 0, 0, 0, 0, 0, 0, 0, 5]) rfl WS.out.1 WS.out.2.2.2 (some ⟨w4.heap.size + 1, 0, none⟩) 8 8 (bts [0, 0, 0, 0, 0, 0, 0, 7]) rfl WS.out.2.1 rfl (bts_one _) (by decide) (by decide) ?_; intro a5 c5 w5 r5 g5 f5 _; rw [HF.out.2.1] at r5; have G5 := WS.out.2.2.1.own g5 WS.out.1; have e50 := G5.cellv e0 (by simp); have e51 := G5.cellv e1 (by simp); have e52 := G5.cellv e2 (by simp); have H5 := mkHid (And.intro r5 G5); clear r5 g5 f5 e0 e1 e2 G5)
    | (at_builtin; refine wpList_append_r _ rfl (.tmp 21) (.tmp 22) 25 rfl 5 1 eltB w3.heap.size a1 18 c1 (bts F) rfl (H1.out.chg (H5.out.2.then (Chg.alloc [] w5 (.cells #[.int .u8 0] 5))) (by simp)) (Nat.le_trans hsz (H5.out.2.then (Chg.alloc [] w5 (.cells #[.int .u8 0] 5))).size) (some ⟨w5.heap.size, 0, none⟩) 1 1 (bts [0]) rfl (lit_room w5 w5.heap.size (Nat.le_refl _) #[.int .u8 0] 5 (bts [0]) 1 rfl rfl (by decide)).reads rfl (bts_one _) (by decide) (by decide) ?_; intro a6 c6 w6 r6 g6 f6 k6))
  have Q6 : Chg [] w3 w6 := ((G1.out.then H5.out.2).then (Chg.alloc [] w5 (.cells #[.int .u8 0] 5))).own g6 (H1.out.chg (H5.out.2.then (Chg.alloc [] w5 (.cells #[.int .u8 0] 5))) (by simp))
  have m5 := (H5.out.1.chg (Chg.alloc [] w5 (.cells #[.int .u8 0] 5)) (by simp)).chg g6 (fun q hq hm => by have := (H1.out.lt q hm).2; have := (H5.out.1.lt q hq).1; omega)
  have hr6 : Reads w6 a6 (bts (F ++ [0])) := by rw [bts_append]; exact r6.reads
  have hc6 := r6.le
  have hm6 := r6.max
  have z46 : w4.heap.size ≤ w6.heap.size := Nat.le_trans (H5.out.2.then (Chg.alloc [] w5 (.cells #[.int .u8 0] 5))).size g6.size
  clear r6 g6 f6 e50 e51 e52
  refine (take_any a6 19 c6 (F ++ [0]) w6 hr6 (by simp [HF.out.1]) hc6 hm6).mono ?_
  rintro e w7 ⟨hres, g7⟩
  rw [HF.out.2.2.1] at hres
  obtain ⟨k1, k1c, v1, v1c, he, rk7, rv7, -⟩ := hres
  simp only [List.length_cons, List.length_nil, Nat.zero_add] at he rk7 rv7
  subst he
  have Q7 := Q6.then g7
  have m5' := m5.chg g7 (by simp)
  have k7 := k6.keep g7
  have gN := Chg.alloc [] w7 (.cells #[.bool true, .slice k1 1 k1c, .slice v1 1 v1c] 24)
  have hzN : (w7.alloc (.cells #[.bool true, .slice k1 1 k1c, .slice v1 1 v1c] 24)).heap.size = w7.heap.size + 1 := by simp
  have hlN := heap_alloc_last w7 (.cells #[.bool true, .slice k1 1 k1c, .slice v1 1 v1c] 24)
  have x0 := cell_of_row _ w7.heap.size 0 _ _ _ hlN
  have x1 := cell_of_row _ w7.heap.size 1 _ _ _ hlN
  have x2 := cell_of_row _ w7.heap.size 2 _ _ _ hlN
  simp only [List.getElem?_toArray, List.getElem?_cons_succ, List.getElem?_cons_zero] at x0 x1 x2
  have gL := Chg.alloc [] (w7.alloc (.cells #[.bool true, .slice k1 1 k1c, .slice v1 1 v1c] 24)) (.cells #[.int .u8 1] 5)
  have l8 := (lit_room (w7.alloc (.cells #[.bool true, .slice k1 1 k1c, .slice v1 1 v1c] 24)) 0 (Nat.zero_le _) #[.int .u8 1] 5 (bts [1]) 1 rfl rfl (by decide)).reads
  rw [hzN] at l8
  have gNL := gN.then gL
  have nN : RdN (w7.alloc (.cells #[.bool true, .slice k1 1 k1c, .slice v1 1 v1c] 24)) k1 k1c v1 v1c [5] [7] := ⟨(rk7.chg gN (by simp)).reads, (rv7.chg gN (by simp)).reads, rk7.le, rv7.le, by decide, by decide, rk7.max, rv7.max⟩
  have HX := mkHid (And.intro Q7 (And.intro gN (And.intro gNL (And.intro l8 (And.intro nN (And.intro m5' k7))))))
  have HXC := mkHid (And.intro x0 (And.intro x1 x2))
  have h48 : w4.heap.size ≤ ((w7.alloc (.cells #[.bool true, .slice k1 1 k1c, .slice v1 1 v1c] 24)).alloc (.cells #[.int .u8 1] 5)).heap.size := by
    have := gNL.size; have := g7.size; omega
  have HRM := mkHid (And.intro rk7 (And.intro rv7 (And.intro m5 (And.intro z46 g7.size))))
  clear x0 x1 x2 gN hlN gL l8 gNL nN m5' k7 Q7 Q6 m5 hr6 hc6 hm6 k6 g7 rk7 rv7 hzN z46
  have H48 := mkHid h48
  clear h48
  go_wp2_with (at_builtin; refine wpList_append_r _ rfl (.tmp 28) (.tmp 29) 25 rfl 5 1 eltB w4.heap.size a5 18 c5 (bts F) rfl (HX.out.2.2.2.2.2.1.chg HX.out.2.2.1 (by simp)) H48.out (some ⟨w7.heap.size + 1, 0, none⟩) 1 1 (bts [1]) rfl HX.out.2.2.2.1 rfl (bts_one _) (by decide) (by decide) ?_; intro a8 c8 w8 r8 g8 f8 k8)
  obtain ⟨Q7, gN, gNL, -, nN, m5', k7⟩ := HX.out
  obtain ⟨x0, x1, x2⟩ := HXC.out
  obtain ⟨rk7, rv7, m5, z46, z67⟩ := HRM.out
  obtain ⟨hN, d0, d1, d2, hg3⟩ := HD.out
  have lt1 := H1.out.lt
  have lt5 := m5.lt
  have ltk := rk7.lt
  have ltv := rv7.lt
  have hlb : lb < w3.heap.size := block_lt_of_cell d0
  have blk1 : ∀ q, q ∈ blk a1 → q ∈ fp a1 c1 := fun q hq => by unfold fp; rw [if_neg (by have := H1.out.le; omega)]; exact hq
  have Q8 : Chg [] w3 w8 := (Q7.then gNL).trans g8 (by simp) (fun q hq hlt => by have := (lt5 q hq).1; omega)
  have ra1 : Reads w8 a1 (bts F) := (k7.keep gNL).chg g8 (fun q hq hm => by have := (lt1 q (blk1 q hq)).2; have := (lt5 q hm).1; omega)
  have gL := Chg.alloc [] (w7.alloc (.cells #[.bool true, .slice k1 1 k1c, .slice v1 1 v1c] 24)) (.cells #[.int .u8 1] 5)
  have n5 : ∀ q, w6.heap.size ≤ q → q ∉ fp a5 c5 := fun q hq hm => by have := (lt5 q hm).2; omega
  have y0 := (gL.cellv x0 (by simp))
  have y1 := (gL.cellv x1 (by simp))
  have y2 := (gL.cellv x2 (by simp))
  have u0 := g8.cellv y0 (n5 _ z67)
  have u1 := g8.cellv y1 (n5 _ z67)
  have u2 := g8.cellv y2 (n5 _ z67)
  have nk := (rk7.chg gNL (by simp)).chg g8 (fun q hq => n5 q (ltk q hq).1)
  have nv := (rv7.chg gNL (by simp)).chg g8 (fun q hq => n5 q (ltv q hq).1)
  have nN8 : RdN w8 k1 k1c v1 v1c [5] [7] := ⟨nk.reads, nv.reads, nk.le, nv.le, by decide, by decide, nk.max, nv.max⟩
  have hN8 := hN.keep Q8
  have v0 := Q8.cellv d0 (by simp)
  have v1' := Q8.cellv d1 (by simp)
  have v2 := Q8.cellv d2 (by simp)
  have G8 := hg3.then Q8
  have hr8 : Reads w8 a8 (bts (F ++ [1])) := by rw [bts_append]; exact r8.reads
  have hc8 := r8.le
  have hm8 := r8.max
  clear Q7 gN gNL nN m5' k7 x0 x1 x2 rk7 rv7 m5 z46 z67 hN d0 d1 d2 hg3 lt1 lt5 ltk ltv hlb blk1 Q8 gL n5 y0 y1 y2 nk nv g8 f8 r8 HX HXC HRM HD H48 H5 H1 G1 WS hsz
  refine (take_any a8 19 c8 (F ++ [1]) w8 hr8 (by simp [HF.out.1]) hc8 hm8).mono ?_
  rintro e w9 ⟨hres, g9⟩
  rw [HF.out.2.2.2] at hres
  obtain ⟨ea, eac, eb, ebc, he, rk9, rv9, -⟩ := hres
  simp only [List.length_nil] at he rk9 rv9
  subst he
  have gZ := g9.then (Chg.alloc [] w9 (.cells #[.bool false, .slice ea 0 eac, .slice eb 0 ebc] 24))
  have s0 := gZ.cellv u0 (by simp)
  have s1 := gZ.cellv u1 (by simp)
  have s2 := gZ.cellv u2 (by simp)
  have p0 := gZ.cellv v0 (by simp)
  have p1 := gZ.cellv v1' (by simp)
  have p2 := gZ.cellv v2 (by simp)
  have GZ := G8.then gZ
  have cB := beq_any a1 18 c1 F a5 18 c5 F _ (ra1.keep gZ) HF.out.1 (k8.keep gZ) HF.out.1
  have cR := rsame_any true k1 1 k1c v1 1 v1c [5] [7] true ka 1 1 va 1 1 [5] [7] _ (nN8.keep gZ) rfl rfl (hN8.keep gZ) rfl rfl
  have NZ := mkHid (And.intro (nN8.keep gZ) (And.intro (hN8.keep gZ) GZ))
  rw [decide_eq_true rfl] at cB
  rw [same_self] at cR
  clear u0 u1 u2 v0 v1' v2 g9 ra1 k8 nN8 hN8 hr8 hc8 hm8 G8 GZ rk9 rv9 gZ
  go_wp2_with (first
    | (go_at_call 19; refine cB.mono ?_; rintro e w' ⟨rfl, rfl⟩)
    | (go_at_call 6; refine cR.mono ?_; rintro e wa ⟨rfl, ga⟩; have t0 := ga.cellv s0 (by simp); have t1 := ga.cellv s1 (by simp); have t2 := ga.cellv s2 (by simp); have o0 := ga.cellv p0 (by simp); have o1 := ga.cellv p1 (by simp); have o2 := ga.cellv p2 (by simp); clear s0 s1 s2 p0 p1 p2)
    | (go_at_call 20; refine (same_any true k1 1 k1c v1 1 v1c [5] [7] true ka 1 1 va 1 1 [5] [7] _ (NZ.out.1.keep ga) rfl rfl (NZ.out.2.1.keep ga) rfl rfl).mono ?_; rw [same_self]; rintro e wb ⟨rfl, gb⟩))
  go_ret
  exact ⟨rfl, (NZ.out.2.2.then ga).then gb⟩
end Go.Proofs.YtbopfpdgoalfoaaDoor
