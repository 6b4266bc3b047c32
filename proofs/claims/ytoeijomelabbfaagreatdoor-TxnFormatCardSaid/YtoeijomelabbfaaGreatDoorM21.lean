/- Texts X, Y, Yc, Yd, Ye, Yf of the library, joined. -/
import Derived.Test.YtoeijomelabbfaaGreatDoorM20
import Derived.Test.YtoeijomelabbfaaGreatDoorM15
import Derived.Test.YtoeijomelabbfaaGreatDoorRows
import Derived.Test.YtoeijomelabbfaaGreatDoorM02
import Derived.Lib.SlBytesConst
/- append(s, make([]T, m)...) where there is no room. No program is named here. -/
namespace Go.Proofs.YtoeijomelabbfaaGreatDoor
set_option maxRecDepth 200000
open Go.RowKit
set_option linter.unusedVariables false
set_option linter.unusedSimpArgs false

theorem zeroCells_one (z : Value) (m : Nat) : (Builtin.zeroCells #[z] m).toList = List.replicate m z := by
  simp [Builtin.zeroCells]
  apply List.ext_getElem
  · simp
  · intro i h1 h2
    simp [Nat.mod_one]
section
variable {P : Program} (w : World)
theorem run_append_zeros (t tn ty e : TypeId) (bytes : Nat) (helt : Elt P t e bytes) (z : Value) (hz0 : (P.info? e).map (·.zero) = some (some z)) (hzc : z.cells = #[z]) (kn k : IntKind) (htn : P.underlying tn = some (.int kn))
    (B : Nat) (ao : Option Addr) (n c : Nat) (xs : List Value) (h : Room w B ao n c xs) (hB : B ≤ w.heap.size) (m : Nat) (hroom : c < n + m) (hm : 0 < m)
    (h63 : n + m ≤ maxLen) (hbytes : (n + m) * bytes ≤ 140737488355328) :
    ∃ ao' c' w', (Builtin.append_ #[t, tn] ty #[.slice ao n c, .int k (m : Int)]).run P w = .ok (.slice ao' (n + m) c') w' ∧ Room w' B ao' (n + m) c' (xs ++ List.replicate m z) ∧ Chg [] w w' ∧ fp ao' c' = [w.heap.size] := by
  obtain ⟨ht, i, v, hi, hz, hsize, hby, hzs⟩ := helt
  subst hby
  have hv : v = z := by
    rw [hi] at hz0
    simp [hz] at hz0
    exact hz0
  subst hv
  have hlen : (xs ++ List.replicate m v).length = n + m := by rw [List.length_append, h.len, List.length_replicate]
  have hml : maxLen = 9223372036854775807 := rfl
  have hnr : ¬ (n + m ≤ c) := by omega
  have hfo : (Builtin.firstCells i.size n (.slice ao n c)).run P w.drew = .ok xs.toArray w.drew := by
    cases ao with
    | none =>
      have hc : c = 0 := by
        rcases Nat.eq_zero_or_pos c with h0 | h0
        · exact h0
        · obtain ⟨b, o, e, _⟩ := h.at_ h0; cases e
      have : xs = [] := List.eq_nil_of_length_eq_zero (by have := h.len; have := h.le; omega)
      subst this
      rw [run_firstCells_none]
    | some ad =>
      exact run_firstCells_some (P := P) w.drew i.size n ad n c xs (by simp [hsize, h.len]) (fun j u hu => by simpa using h.reads.addr ad rfl j u hu)
  have hge := grownCap_ge w (n + m) c e
  have hcm := grownCap_le_maxLen w (n + m) c e h63
  have hw : IntKind.i64.wrap (m : Int) = m := by rw [IntKind.wrap_i64]; omega
  have hneg : ¬ ((m : Int) < 0) := by omega
  have h63' : ¬ (9223372036854775807 < ((n : Int) + (m : Int))) := by omega
  have hmb : m * i.bytes ≤ 140737488355328 := Nat.le_trans (Nat.mul_le_mul_right _ (by omega)) hbytes
  have h48i : ¬ (281474976710656 < (m : Int) * (i.bytes : Int)) := by
    rw [← Int.natCast_mul]
    omega
  have hm0 : ¬ (m = 0) := by omega
  have h48' : ¬ (281474976710656 < Builtin.nextslicecap (n + m) c * i.bytes) := by have := growslice_fits (old := c) (need := n + m) (by omega) hbytes; omega
  refine ⟨some ⟨w.heap.size, 0, none⟩, grownCap w (n + m) c e, w.drew.alloc (.cells (xs.toArray ++ Builtin.zeroCells v.cells m ++ Builtin.zeroCells v.cells (grownCap w (n + m) c e - (n + m))) e), ?_, ?_, ⟨rfl, rfl, rfl, by simp, fun k hk _ => Below.heap_alloc w.drew _ k hk⟩, fp_some _ _ _ (by omega)⟩
  · simp [Builtin.append_, run_underlying ht, run_underlying htn, sizeOf, typeInfo, zeroValue, hi, hz, Builtin.lenOf, hnr, hw, hneg, h63', h48', h48i, hm0, hsize, asInt, asIntOf, Question.forced, hfo, newRow, grownCap]
    rw [hsize] at hfo
    simp [hfo]
  · refine Room.of_owns (e := e) ⟨by rw [hlen]; simp, .inr ⟨w.heap.size, _, _, rfl, hB, heap_alloc_new w.drew _, hge, hcm, ?_, ?_⟩⟩
    · simp only [Array.size_append, List.size_toArray, size_zeroCells, hzs, h.len]
      omega
    · simp only [Array.toList_append, List.append_assoc]
      rw [← List.append_assoc, hzc, zeroCells_one, Nat.mul_one, ← hlen]
      exact List.take_left
end
end Go.Proofs.YtoeijomelabbfaaGreatDoor

/- append(s, make([]T, m)...), whether there is room or not. No program is named here. -/
namespace Go.Proofs.YtoeijomelabbfaaGreatDoor
set_option maxRecDepth 200000
open Go.RowKit
set_option linter.unusedVariables false
set_option linter.unusedSimpArgs false

section
variable {P : Program} (w : World)
theorem run_append_zeros_in (t tn ty e : TypeId) (bytes : Nat) (helt : Elt P t e bytes) (z : Value) (hz0 : (P.info? e).map (·.zero) = some (some z)) (hzc : z.cells = #[z]) (hz1 : z.oneCell' = true) (kn k : IntKind) (htn : P.underlying tn = some (.int kn))
    (B : Nat) (ao : Option Addr) (n c : Nat) (xs : List Value) (h : Room w B ao n c xs) (hB : B ≤ w.heap.size) (m : Nat) (hroom : n + m ≤ c)
    (h63 : n + m ≤ maxLen) (hbytes : (n + m) * bytes ≤ 140737488355328) :
    ∃ w', (Builtin.append_ #[t, tn] ty #[.slice ao n c, .int k (m : Int)]).run P w = .ok (.slice ao (n + m) c) w' ∧ Room w' B ao (n + m) c (xs ++ List.replicate m z) ∧ Chg (fp ao c) w w' := by
  obtain ⟨ht, i, v, hi, hz, hsize, hby, hzs⟩ := helt
  subst hby
  have hv : v = z := by
    rw [hi] at hz0
    simp [hz] at hz0
    exact hz0
  subst hv
  have hml : maxLen = 9223372036854775807 := rfl
  have hw : IntKind.i64.wrap (m : Int) = m := by rw [IntKind.wrap_i64]; omega
  have hneg : ¬ ((m : Int) < 0) := by omega
  have hmb : m * i.bytes ≤ 140737488355328 := Nat.le_trans (Nat.mul_le_mul_right _ (by omega)) hbytes
  have h48i : ¬ (281474976710656 < (m : Int) * (i.bytes : Int)) := by
    rw [← Int.natCast_mul]
    omega
  by_cases hm0 : m = 0
  · subst hm0
    refine ⟨w, ?_, by simpa using h, Chg.refl _ _⟩
    have hw0 : IntKind.i64.wrap 0 = 0 := by decide
    cases ao <;> simp [Builtin.append_, run_underlying ht, run_underlying htn, sizeOf, typeInfo, zeroValue, hi, hz, Builtin.lenOf, hw0, asInt, asIntOf, storeCells, h.le]
  · obtain ⟨b, o, rfl, hBb, hs, hv⟩ := h.at_ (by omega)
    have hnl : (List.replicate m v).length = m := by simp
    have hlen : (xs ++ List.replicate m v).length = n + m := by rw [List.length_append, h.len, hnl]
    have hcell : ∀ j, j < (List.replicate m v).length → (w.cell? ⟨b, o + n * i.size + 0 + j, none⟩).isSome = true := fun j hj => by
      have := (hs (n + j) (by omega)).1
      rwa [hsize, Nat.mul_one, Nat.add_zero, Nat.add_assoc]
    have hfr : ∀ j, j < (List.replicate m v).length → w.frozen? ⟨b, o + n * i.size + 0 + j, none⟩ = false := fun j hj => by
      have := (hs (n + j) (by omega)).2
      rwa [hsize, Nat.mul_one, Nat.add_zero, Nat.add_assoc]
    have hst := run_storeCells_cells (P := P) b (o + n * i.size) (List.replicate m v) 0 w hcell hfr (fun u hu => by rw [List.eq_of_mem_replicate hu]; exact hz1)
    have hzl : (Builtin.zeroCells v.cells m).toList = List.replicate m v := by rw [hzc, zeroCells_one]
    refine ⟨w.setCells b (o + n) (List.replicate m v), ?_, ⟨hlen, hroom, h.max, fun _ => ⟨b, o, rfl, hBb, fun j hj => ?_, fun j u hu => ?_⟩⟩, by rw [fp_some _ _ _ (by omega)]; exact Chg.setCells b (List.replicate m v) (o + n) w⟩
    · simp only [Nat.add_zero] at hst
      simp [Builtin.append_, run_underlying ht, run_underlying htn, sizeOf, typeInfo, zeroValue, hi, hz, Builtin.lenOf, hroom, hw, hneg, h48i, hm0, asInt, asIntOf, Addr.add_lit, hzl]
      simp only [hsize, Nat.mul_one] at hst
      simp [hst, hsize, hm0]
    · obtain ⟨h1, h2⟩ := hs j hj
      refine ⟨?_, by rw [World.frozen?_setCells]; exact h2⟩
      by_cases hin : n ≤ j ∧ j < n + (List.replicate m v).length
      · have := World.cell?_setCells_in b (List.replicate m v) (o + n) w (fun k hk => by rw [Nat.add_assoc]; exact (hs (n + k) (by omega)).1) (j - n) (by omega)
        rw [show o + n + (j - n) = o + j by omega] at this
        rw [this]; rfl
      · rw [World.cell?_setCells_out b (List.replicate m v) (o + n) w _ (fun _ _ => by simp; simp at hin; omega)]
        exact h1
    · by_cases hj : j < n
      · rw [List.getElem?_append_left (by rw [h.len]; exact hj)] at hu
        rw [World.cell?_setCells_out b (List.replicate m v) (o + n) w _ (fun _ _ => by simp; omega)]
        exact hv j u hu
      · rw [List.getElem?_append_right (by rw [h.len]; omega), h.len] at hu
        have hjn : j - n < (List.replicate m v).length := (List.getElem?_eq_some_iff.1 hu).1
        have := World.cell?_setCells_in b (List.replicate m v) (o + n) w (fun k hk => by rw [Nat.add_assoc]; exact (hs (n + k) (by omega)).1) (j - n) hjn
        rw [show o + n + (j - n) = o + j by omega] at this
        rw [this]
        rw [List.getElem?_eq_getElem hjn] at hu
        exact hu
/-- Both ways. -/
theorem run_append_zeros_k (t tn ty e : TypeId) (bytes : Nat) (helt : Elt P t e bytes) (z : Value) (hz0 : (P.info? e).map (·.zero) = some (some z)) (hzc : z.cells = #[z]) (hz1 : z.oneCell' = true) (kn k : IntKind) (htn : P.underlying tn = some (.int kn))
    (B : Nat) (ao : Option Addr) (n c : Nat) (xs : List Value) (h : Room w B ao n c xs) (hB : B ≤ w.heap.size) (m : Nat)
    (h63 : n + m ≤ maxLen) (hbytes : (n + m) * bytes ≤ 140737488355328) :
    ∃ ao' c' w', (Builtin.append_ #[t, tn] ty #[.slice ao n c, .int k (m : Int)]).run P w = .ok (.slice ao' (n + m) c') w' ∧ Room w' B ao' (n + m) c' (xs ++ List.replicate m z) ∧ Chg (fp ao c) w w' ∧ (fp ao' c' = fp ao c ∨ fp ao' c' = [w.heap.size]) := by
  by_cases hroom : n + m ≤ c
  · obtain ⟨w', h1, h2, h3⟩ := run_append_zeros_in w t tn ty e bytes helt z hz0 hzc hz1 kn k htn B ao n c xs h hB m hroom h63 hbytes
    exact ⟨ao, c, w', h1, h2, h3, .inl rfl⟩
  · have := h.le
    obtain ⟨ao', c', w', h1, h2, h3, h4⟩ := run_append_zeros w t tn ty e bytes helt z hz0 hzc kn k htn B ao n c xs h hB m (by omega) (by omega) h63 hbytes
    exact ⟨ao', c', w', h1, h2, h3.mono (by simp), .inr h4⟩
end
theorem wpList_append_zeros_k {P : Program} (w : World) {ops : Array Oper} {rest : List Oper} {o : Oper} {a : Act} {Q : Exit → Act → World → Prop} (hgd : o.guard = none) (s x : Operand) (t tn : TypeId)
    (ho : o.op = .call { callee := .builtin .append, args := #[s, x], argTypes := #[t, tn] })
    (e : TypeId) (bytes : Nat) (helt : Elt P t e bytes) (z : Value) (hz0 : (P.info? e).map (·.zero) = some (some z)) (hzc : z.cells = #[z]) (hz1 : z.oneCell' = true) (kn k : IntKind) (htn : P.underlying tn = some (.int kn))
    (B : Nat) (ao : Option Addr) (n c : Nat) (xs : List Value) (hs : a.eval s = .slice ao n c) (h : Room w B ao n c xs) (hB : B ≤ w.heap.size) (m : Nat) (hxe : a.eval x = .int k (m : Int))
    (h63 : n + m ≤ maxLen) (hbytes : (n + m) * bytes ≤ 140737488355328)
    (hK : ∀ ao' c' w', Room w' B ao' (n + m) c' (xs ++ List.replicate m z) → Chg (fp ao c) w w' → (fp ao' c' = fp ao c ∨ fp ao' c' = [w.heap.size]) → wpList P ops Q rest (a.put o.dst (.slice ao' (n + m) c')) w') : wpList P ops Q (o :: rest) a w := by
  refine wpList_plain hgd fun K hK' => ?_
  obtain ⟨ao', c', w', hr, h2, h3, h4⟩ := run_append_zeros_k (P := P) w t tn o.type e bytes helt z hz0 hzc hz1 kn k htn B ao n c xs h hB m h63 hbytes
  unfold Oper.wp execOp
  simp only [ho, resolve, invoke, builtin, Sem.run_bind, Sem.run_pure, Result.andThen_ok, List.map_toArray, List.map_cons, List.map_nil, hs, hxe, hr]
  exact hK' _ _ (hK ao' c' w' h2 h3 h4)
section
variable {P : Program} {ops : Array Oper} {o : Oper} {a : Act} {w : World} {K : Act → World → Prop} {Q : Exit → Act → World → Prop} {E : Prop}
end
end Go.Proofs.YtoeijomelabbfaaGreatDoor

/- The program's laid. -/
namespace Go.Proofs.YtoeijomelabbfaaGreatDoor
set_option maxRecDepth 200000
open Go.RowKit
set_option linter.unusedVariables false
set_option linter.unusedSimpArgs false
attribute [local go_sem ↓] Go.wp_at_zero Go.wp_at_succ

theorem wt64 : WideT Tryz.prog 233 (bts (List.replicate 64 0)) := ⟨⟨_, Tryz.underlying233, rfl⟩, by kernel_rfl⟩
/-- A form's beginning: the letters and k numbers. -/
def pre (L : List Nat) (k : Nat) : List UInt8 := f0 ++ (L.take k).flatMap fun x => be x 8
theorem pre_zero (L : List Nat) : pre L 0 = f0 := by simp [pre]
theorem pre_succ (L : List Nat) (k x : Nat) (h : L[k]? = some x) : pre L (k + 1) = pre L k ++ be x 8 := by
  unfold pre
  rw [List.take_add_one, h]
  simp
theorem pre_length (L : List Nat) (k : Nat) (h : k ≤ L.length) : (pre L k).length = 4 + 8 * k := by
  induction k with
  | zero => simp [pre, f0]
  | succ k ih =>
    rw [pre_succ L k L[k] (by simp), List.length_append, ih (by omega), be_length]
    omega
theorem pre_form (s : SB) : (pre [s.G, s.B.toNat, s.D, s.X] 4 ++ List.replicate 20 0) ++ be s.G 8 = s.form := by simp [pre, SB.form, f0]
theorem index4 (x y z u k q : Nat) (h : [x, y, z, u][k]? = some q) (w : World) : (Instr.index 251 (.agg #[.int .u64 (x : Int), .int .u64 (y : Int), .int .u64 (z : Int), .int .u64 (u : Int)]) (.int .i64 k)).run Tryz.prog w = .ok (.int .u64 (q : Int)) w := by
  have hk : k = 0 ∨ k = 1 ∨ k = 2 ∨ k = 3 := by
    have := (List.getElem?_eq_some_iff.1 h).1
    simp at this
    omega
  have hz := Tryz.sizeOf51
  rcases hk with rfl | rfl | rfl | rfl <;> (simp only [List.getElem?_cons_zero, List.getElem?_cons_succ, Option.some.injEq] at h; subst h; simp [Instr.index, run_underlying Tryz.underlying251, asIntOf, go_sem, hz])
set_option maxRecDepth 20000 in
set_option maxHeartbeats 2000000 in
theorem form_any (s : SB) (hm : s.may = true) (w : World) : Calls Tryz.prog 191 #[s.v] w fun e w' => e = .returned (.agg (bts s.form).toArray) ∧ Chg [] w w' := by
  obtain ⟨hB, hB64⟩ := wrap_of_may hm
  have hw := SB.wide_of_may hm
  obtain ⟨c0, c1, c2, c3⟩ := sup_laid w s
  have g0 := Chg.alloc [] w (supObj s)
  have hpf := pre_form s
  have hfl := SB.form_length s
  obtain ⟨G, B, D, X⟩ := s
  obtain ⟨wg, wd, wx⟩ := hw
  unfold SB.v supObj at *
  dsimp only at *
  generalize SB.form ⟨G, B, D, X⟩ = F at *
  generalize hN : B.toNat = N at *
  have kc := fun (w : World) (C : Array Value) (n c : Nat) => Lib.run_convert_bytes_const (P := Tryz.prog) w 41 5 C n c Tryz.underlying41 Tryz.underlying5
  clear hm hN
  go_enter Tryz.func191, Tryz.ntmps191
  go_wp2_with (first
    | (refine wpList_alloc_w rfl 233 rfl (bts (List.replicate 64 0)) wt64 ?_; intro w2 hb2 hg2 hz2; clear hz2; have e0 := hg2.cellv c0 (by simp); have e1 := hg2.cellv c1 (by simp); have e2 := hg2.cellv c2 (by simp); have e3 := hg2.cellv c3 (by simp); have L1 := Chg.alloc [] w2 (.cells #[.int .u8 99, .int .u8 105, .int .u8 115, .int .u8 116] 5 (4, 5)); have d0 := L1.cellv e0 (by simp); have d1 := L1.cellv e1 (by simp); have d2 := L1.cellv e2 (by simp); have d3 := L1.cellv e3 (by simp)))
  have lr := reads_new w2 #[.int .u8 99, .int .u8 105, .int .u8 115, .int .u8 116] 5 (4, 5) f0 rfl
  have b2 := hb2.keep L1
  have x0 := d0
  have G3 := (g0.then hg2).then L1
  have wz : (w.alloc (.cells #[.int .u64 (G : Int), .int .i64 B, .int .u64 (D : Int), .int .u64 (X : Int)] 53)).heap.size = w.heap.size + 1 := by simp
  rw [wz] at b2
  clear c0 c1 c2 c3 e0 e1 e2 e3 d0 d1 d2 d3 L1 hg2 hb2 g0 wz kc
  generalize World.alloc w2 _ = w3 at *
  generalize (some ⟨w2.heap.size, 0, none⟩ : Option Addr) = la at *
  generalize hob : w.heap.size + 1 = ob at *
  have HOB := mkHid (show w.heap.size ≤ ob by omega)
  clear hob
  generalize w.heap.size = sb at x0 ⊢
  have hL : ∀ k, k < 4 → ∃ x, [G, N, D, X][k]? = some x ∧ x < 2 ^ 64 := fun k hk => by
    have : k = 0 ∨ k = 1 ∨ k = 2 ∨ k = 3 := by omega
    rcases this with rfl | rfl | rfl | rfl
    · exact ⟨G, rfl, wg⟩
    · exact ⟨N, rfl, hB64⟩
    · exact ⟨D, rfl, wd⟩
    · exact ⟨X, rfl, wx⟩
  have hLl : ([G, N, D, X] : List Nat).length = 4 := rfl
  have hix := index4 G N D X
  generalize [G, N, D, X] = L at *
  have HP := mkHid (And.intro hpf hfl)
  clear hpf hfl
  go_loopw [3, 18] (fun sv iv wr => ∃ (k : Nat) (ao : Option Addr) (cc : Nat), k ≤ 4 ∧ iv = .int .i64 k ∧ sv = .slice ao (4 + 8 * k) cc ∧ Reads wr ao (bts (pre L k)) ∧ Chg [] w3 wr ∧ (0 < k → Room wr w3.heap.size ao (4 + 8 * k) cc (bts (pre L k)))) (fun _ iv _ => 4 - (Go.RowKit.intOf iv).toNat)
  case atStart => exact ⟨0, la, 4, by omega, rfl, rfl, by rw [pre_zero]; exact lr, Chg.refl _ _, fun h => absurd h (by omega)⟩
  case round =>
    clear lr
    obtain ⟨k, ao, cc, hk, rfl, rfl, hrd, hgr, hroom⟩ := hrel
    by_cases hlt : k < 4
    · have dk : decide ((k : Int) < 4) = true := decide_eq_true (by omega)
      have dk2 : decide (k < 4) = true := decide_eq_true hlt
      obtain ⟨x, hx, hx64⟩ := hL k hlt
      have hxi := hix k x hx
      have hlp := pre_length L k (by omega)
      have HK := mkHid (And.intro hx (And.intro hroom hlp))
      clear hroom hx hlp hL hix
      go_wp2_with fail
      refine (put_any ao (4 + 8 * k) cc (bts (pre L k)) x 8 wr hrd (by rw [bts_length]; exact HK.out.2.2) (bts_one _) (by omega) (by decide) (by decide) hx64).mono ?_
      rintro e w5 ⟨a5, c5, rfl, r5, g5⟩
      rw [← bts_append, ← pre_succ L k x HK.out.1] at r5 ⊢
      have hl5 : (bts (pre L (k + 1))).length = 4 + 8 * (k + 1) := by rw [bts_length]; exact pre_length L (k + 1) (by omega)
      rw [hl5] at r5 ⊢
      clear hl5
      go_wp2_with fail
      exact ⟨⟨k + 1, a5, c5, by omega, by go_num, rfl, r5.reads, hgr.then g5, fun _ => r5.mono hgr.size⟩, by simp [Go.RowKit.intOf]; omega⟩
    · obtain rfl : k = 4 := by omega
      have R36 : Room wr w3.heap.size ao 36 cc (bts (pre L 4)) := hroom (by decide)
      have hsz := hgr.size
      clear hroom hL hrd
      go_wp2_with (at_builtin; refine wpList_append_zeros_k _ rfl (.tmp 25) (.const (.int .i64 20)) 41 3 rfl 5 1 eltB (.int .u8 0) (by kernel_rfl) rfl rfl .i64 .i64 Tryz.underlying3 w3.heap.size ao 36 cc (bts (pre L 4)) rfl R36 hsz 20 rfl (by decide) (by decide) ?_; intro a6 c6 w6 r6 g6 f6; have G6 := hgr.own g6 R36; have x6 := G6.cellv x0 (by simp))
      rw [← bts_rep, ← bts_append] at r6
      refine (put_any a6 56 c6 (bts (pre L 4 ++ List.replicate 20 0)) G 8 w6 r6.reads r6.len (bts_one _) (by decide) (by decide) (by decide) wg).mono ?_
      rintro e w7 ⟨a7, c7, rfl, r7, g7⟩
      rw [← bts_append, HP.out.1] at r7 ⊢
      have hl7 : (bts F).length = 64 := by rw [bts_length]; exact HP.out.2
      rw [hl7] at r7 ⊢
      obtain ⟨b7, o7, rfl, n7, -, v7⟩ := r7.at_ (by have := r7.le; omega)
      have hA : ∀ u : World, (Instr.arrayAt 233 (.slice (some ⟨b7, o7, none⟩) 64 c7)).run Tryz.prog u = .ok (.pointer (some ⟨b7, o7, none⟩)) u := fun u => run_arrayAt_k u Tryz.underlying233 _ 64 c7 (by decide)
      have G7 := G6.then g7
      have b7' := b2.keep G7
      have hone := bts_one F
      have HZ := mkHid hl7
      clear hl7 x6 r6 g6 f6 g7 G6 hgr R36
      go_wp2_with (first
        | (refine wpList_load_w rfl 233 (.tmp 31) rfl _ wt64 b7 o7 (bts F) v7 HZ.out rfl ?_)
        | (refine wpList_store_w rfl 233 (.tmp 2) (.tmp 32) rfl _ wt64 ob (bts (List.replicate 64 0)) (bts F) b7' rfl HZ.out hone rfl rfl ?_; intro w8 hb8 g8 hz8))
      refine bodyPost_ret (v := .agg (bts F).toArray) (results_cell_row rfl _ _ ob 233 _ _ _ rfl hb8 Tryz.underlying233 rfl (wt64.size (by have := HZ.out; simp only [List.size_toArray]; rw [this]; simp [bts_length]))) rfl ⟨rfl, ?_⟩
      exact (G3.then G7).trans g8 (fun _ h _ => h) (fun q hq hlt => by simp at hq; have := HOB.out; omega)
end Go.Proofs.YtoeijomelabbfaaGreatDoor

/- The program's Put. -/
namespace Go.Proofs.YtoeijomelabbfaaGreatDoor
set_option maxRecDepth 200000
open Go.RowKit
set_option linter.unusedVariables false
set_option linter.unusedSimpArgs false
attribute [local go_sem ↓] Go.wp_at_zero Go.wp_at_succ

theorem room_of_blk {w : World} {b B : Nat} {t : TypeId} {l : List UInt8} (h : Blk w b t (bts l)) (hB : B ≤ b) (hl : l.length ≤ 1000) : Room w B (some ⟨b, 0, none⟩) l.length l.length (bts l) := by
  refine ⟨bts_length l, Nat.le_refl _, by unfold maxLen; omega, fun _ => ⟨b, 0, rfl, hB, fun j hj => ?_, fun j u hu => ?_⟩⟩
  · refine ⟨?_, h.frozen _⟩
    rw [Nat.zero_add, h.cell j (.int .u8 (v8 l[j])) (bts_get8 l j hj)]
    rfl
  · rw [Nat.zero_add]
    exact h.cell j u hu
set_option maxRecDepth 20000 in
set_option maxHeartbeats 2000000 in
theorem put_sup (s : SB) (w : World) (hs : s.Fits) : Calls Tryz.prog 162 #[s.v] w (PPut w s) := by
  obtain ⟨c0, c1, c2, c3⟩ := sup_laid w s
  have g0 := Chg.alloc [] w (supObj s)
  have hmay := may_any s
  have hform := form_any s
  have hfl := SB.form_length s
  cases hm : s.may with
  | false =>
    rw [hm] at hmay
    unfold PPut
    rw [hm]
    unfold SB.v supObj at *
    clear hform hm hs
    go_enter Tryz.func162, Tryz.ntmps162
    go_wp2_with fail
    generalize w.alloc _ = w1 at *
    refine (hmay w1).mono ?_
    rintro e w2 ⟨rfl, g2⟩
    go_wp2_with fail
    go_ret2
    exact ⟨g0.then g2, .inr ⟨trivial, rfl⟩⟩
  | true =>
    rw [hm] at hmay
    replace hform := hform hm
    unfold PPut
    rw [hm]
    obtain ⟨G, B, D, X⟩ := s
    unfold SB.v supObj at *
    dsimp only at *
    generalize SB.form ⟨G, B, D, X⟩ = F at *
    have HFL := mkHid hfl
    clear hm hs hfl
    go_enter Tryz.func162, Tryz.ntmps162
    go_wp2_with fail
    generalize w.alloc _ = w1 at *
    generalize hnb : w.heap.size = nb at *
    have HNB := mkHid hnb
    clear hnb
    refine (hmay w1).mono ?_
    rintro e w2 ⟨rfl, g2⟩
    replace c0 := g2.cellv c0 (by simp)
    replace c1 := g2.cellv c1 (by simp)
    replace c2 := g2.cellv c2 (by simp)
    replace c3 := g2.cellv c3 (by simp)
    go_wp2_with fail
    refine (hform w2).mono ?_
    rintro e w3 ⟨rfl, g3⟩
    have hl64 : (bts F).length = 64 := by rw [bts_length]; exact HFL.out
    have hone := bts_one F
    have HZ := mkHid hl64
    have G3 := (g0.then g2).then g3
    clear hl64 hmay hform g0 g2 g3 c0 c1 c2 c3
    go_wp2_with (first
      | (refine wpList_alloc_w rfl 233 rfl (bts (List.replicate 64 0)) wt64 ?_; intro w4 hb4 g4 hz4; clear hz4)
      | (refine wpList_store_w rfl 233 (.tmp 4) (.tmp 9) rfl _ wt64 w3.heap.size (bts (List.replicate 64 0)) (bts F) hb4 rfl HZ.out hone rfl rfl ?_; intro w5 hb5 g5 hz5; clear hz5))
    go_ret2
    have hr := room_of_blk hb5 G3.size (by rw [HFL.out]; decide)
    rw [HFL.out] at hr
    exact ⟨(G3.then g4).trans g5 (fun _ h _ => h) (fun q hq hlt => by simp at hq; have := G3.size; omega), .inl ⟨trivial, w3.heap.size, 0, 64, rfl, hr⟩⟩
end Go.Proofs.YtoeijomelabbfaaGreatDoor

/- The program's reader, taken. -/
namespace Go.Proofs.YtoeijomelabbfaaGreatDoor
set_option maxRecDepth 200000
open Go.RowKit
set_option linter.unusedVariables false
set_option linter.unusedSimpArgs false
attribute [local go_sem ↓] Go.wp_at_zero Go.wp_at_succ

/-- A reader in block rb: its bytes from place p on. -/
structure Rd (w : World) (rb : Nat) (ao : Option Addr) (n c : Nat) (l : List UInt8) : Prop where
  c0 : w.cell? ⟨rb, 0, none⟩ = some (.slice ao n c)
  z0 : w.frozen? ⟨rb, 0, none⟩ = false
  rd : Reads w ao (bts l)
  len : l.length = n
  le : n ≤ c
  max : c ≤ maxLen
  off : 0 < n → ∀ k, k ∈ blk ao → k ≠ rb
set_option maxRecDepth 20000 in
theorem number_any (rb : Nat) (ao : Option Addr) (n c : Nat) (l : List UInt8) (w : World) (h : Rd w rb ao n c l) (h8 : 8 ≤ n) :
    Calls Tryz.prog 193 #[.pointer (some ⟨rb, 0, none⟩)] w fun e w' => e = .returned (.int .u64 (num l 0)) ∧ Rd w' rb (cut ao c 8) (n - 8) (c - 8) (l.drop 8) ∧ Chg [rb] w w' := by
  have fr : ∀ u : World, (Instr.slice 41 (.slice ao n c) (some (.int .i64 8)) none none).run Tryz.prog u = .ok (.slice (cut ao c 8) (n - 8) (c - 8)) u := fun u => run_from_k ao n c 8 Tryz.underlying41 oneB h8 u
  have hget := get_yes ao n c l 8 w h.rd h.len h.le h.max (by decide) (by decide) h8
  have c0 := h.c0
  have z0 := h.z0
  have H := mkHid h
  clear h
  go_enter Tryz.func193, Tryz.ntmps193
  go_wp2_with (first | (go_at_call 205; refine hget.mono ?_; rintro e w' ⟨rfl, rfl⟩))
  have hs := World.cell?_setCell_same w ⟨rb, 0, none⟩ (.slice (cut ao c 8) (n - 8) (c - 8)) c0
  have g := Chg.setCell w ⟨rb, 0, none⟩ (.slice (cut ao c 8) (n - 8) (c - 8))
  go_ret
  have hle := H.out.le
  have hmx := H.out.max
  have hln := H.out.len
  refine ⟨by simp [num], ⟨hs, by rw [World.frozen?_setCell]; exact z0, ?_, by simp [hln], by omega, by omega, fun hp k hk => by rw [blk_cut] at hk; exact H.out.off (by omega) k hk⟩, g⟩
  have := ((H.out.rd.cut c 8 (by rw [bts_length]; omega))).chg0 g (fun hp k hk => by
    rw [blk_cut] at hk
    have := H.out.off (by omega) k hk
    simpa using this)
  rwa [bts_drop] at this
end Go.Proofs.YtoeijomelabbfaaGreatDoor

/- The program's told. -/
namespace Go.Proofs.YtoeijomelabbfaaGreatDoor
set_option maxRecDepth 200000
open Go.RowKit
set_option linter.unusedVariables false
set_option linter.unusedSimpArgs false
attribute [local go_sem ↓] Go.wp_at_zero Go.wp_at_succ

theorem num_drop0 (l : List UInt8) (k : Nat) : num (l.drop k) 0 = num l k := by simp [num]
/-- The superblock that the program takes: Blocks is wrapped. -/
def readI (l : List UInt8) : SB := ⟨num l 4, IntKind.i64.wrap (num l 12 : Int), num l 20, num l 28⟩
theorem wrap64_eq (x : Int) : wrap64 x = IntKind.i64.wrap x := by rw [IntKind.wrap_i64]; simp only [wrap64]
theorem may_blocks (G D X q : Nat) (hq : q < 2 ^ 64) (W : Int) (hW : W = ((q : Int) + 9223372036854775808) % 18446744073709551616 - 9223372036854775808) : SB.may ⟨G, W, D, X⟩ = SB.may ⟨G, q, D, X⟩ ∧ (SB.may ⟨G, q, D, X⟩ = true → W = q) := by
  by_cases hb : q < 9223372036854775808
  · have e : W = q := by omega
    rw [e]
    exact ⟨rfl, fun _ => rfl⟩
  · have f1 : SB.may ⟨G, W, D, X⟩ = false := by
      rw [← Bool.not_eq_true, SB.may_iff]
      dsimp only
      omega
    have f2 : SB.may ⟨G, q, D, X⟩ = false := by
      rw [← Bool.not_eq_true, SB.may_iff]
      dsimp only
      omega
    rw [f1, f2]
    exact ⟨rfl, fun h => by cases h⟩
theorem readI_may (l : List UInt8) : (readI l).may = (readS l).may ∧ ((readS l).may = true → readI l = readS l) := by
  have hl := num_lt l 12
  have h := may_blocks (num l 4) (num l 20) (num l 28) (num l 12) hl _ (IntKind.wrap_i64 (num l 12 : Int))
  refine ⟨h.1, fun hm => ?_⟩
  have := h.2 hm
  unfold readI readS
  rw [this]
theorem Rd.keep {w w' : World} {rb : Nat} {ao : Option Addr} {n c : Nat} {l : List UInt8} (h : Rd w rb ao n c l) (g : Chg [] w w') : Rd w' rb ao n c l :=
  ⟨g.cellv h.c0 (by simp), by rw [g.frozen (block_lt_of_cell h.c0) (by simp)]; exact h.z0, h.rd.keep g, h.len, h.le, h.max, h.off⟩
/-- A superblock's box in new memory, where S may have turned. -/
structure Res4S (S : List Nat) (w0 w : World) (b : Nat) : Prop where
  k0 : (w.cell? ⟨b, 0, none⟩).isSome = true
  k1 : (w.cell? ⟨b, 1, none⟩).isSome = true
  k2 : (w.cell? ⟨b, 2, none⟩).isSome = true
  k3 : (w.cell? ⟨b, 3, none⟩).isSome = true
  z0 : w.frozen? ⟨b, 0, none⟩ = false
  z1 : w.frozen? ⟨b, 1, none⟩ = false
  z2 : w.frozen? ⟨b, 2, none⟩ = false
  z3 : w.frozen? ⟨b, 3, none⟩ = false
  g : Chg S w0 w
  nb : w0.heap.size ≤ b
  off : b ∉ S
theorem Res4S.keep {S : List Nat} {w0 w w' : World} {b : Nat} (h : Res4S S w0 w b) (g : Chg S w w') : Res4S S w0 w' b :=
  ⟨isSome_chg h.k0 g h.off, isSome_chg h.k1 g h.off, isSome_chg h.k2 g h.off, isSome_chg h.k3 g h.off, frozen_chg h.k0 h.z0 g h.off, frozen_chg h.k1 h.z1 g h.off, frozen_chg h.k2 h.z2 g h.off, frozen_chg h.k3 h.z3 g h.off, h.g.trans g (fun _ h _ => h) (fun _ h _ => h), h.nb, h.off⟩
theorem Res4S.of {w0 w : World} {b : Nat} (h : Res4 w0 w b) (S : List Nat) (hb : b ∉ S) : Res4S S w0 w b :=
  ⟨h.k0, h.k1, h.k2, h.k3, h.z0, h.z1, h.z2, h.z3, h.g.trans (Chg.refl [] w) (fun _ h _ => by simp at h) (fun _ h _ => by simp at h), h.nb, hb⟩
theorem Res4S.done {S : List Nat} {w0 w : World} {b : Nat} (h : Res4S S w0 w b) (x y z u : Value) : Chg S w0 ((((w.setCell ⟨b, 0, none⟩ x).setCell ⟨b, 1, none⟩ y).setCell ⟨b, 2, none⟩ z).setCell ⟨b, 3, none⟩ u) :=
  h.g.trans (four_chg w b x y z u) (fun _ h _ => h) (fun q hq hlt => by simp at hq; have := h.nb; omega)
set_option maxRecDepth 20000 in
set_option maxHeartbeats 2000000 in
theorem stold_any (rb : Nat) (ao : Option Addr) (c : Nat) (l : List UInt8) (w : World) (h : Rd w rb ao 60 c (l.drop 4)) :
    Calls Tryz.prog 192 #[.pointer (some ⟨rb, 0, none⟩), .func (.func 193) #[] #[]] w fun e w' => e = .returned (readI l).v ∧ Chg [rb] w w' := by
  have g0 := Chg.alloc [] w (.cells #[.int .u64 0, .int .i64 0, .int .u64 0, .int .u64 0] 53)
  have hlt := block_lt_of_cell h.c0
  have hres := Res4S.of (res4_made w w (Chg.refl [] w) (.int .u64 0) (.int .i64 0) (.int .u64 0) (.int .u64 0)) [rb] (by simp only [List.mem_singleton]; exact fun e => by rw [← e] at hlt; exact absurd hlt (Nat.lt_irrefl _))
  have hR := h.keep g0
  go_enter Tryz.func192, Tryz.ntmps192
  go_wp2_with fail
  clear h hlt g0
  generalize w.alloc _ = w1 at *
  generalize hnb : w.heap.size = nb at *
  clear hnb
  refine (number_any rb _ _ _ _ w1 hR (by decide)).mono ?_
  rintro e w2 ⟨rfl, r2, g2⟩
  replace hres := hres.keep g2
  clear hR g2
  go_wp2_with fail
  refine (number_any rb _ _ _ _ w2 r2 (by decide)).mono ?_
  rintro e w3 ⟨rfl, r3, g3⟩
  replace hres := hres.keep g3
  clear r2 g3
  go_wp2_with fail
  refine (number_any rb _ _ _ _ w3 r3 (by decide)).mono ?_
  rintro e w4 ⟨rfl, r4, g4⟩
  replace hres := hres.keep g4
  clear r3 g4
  go_wp2_with fail
  refine (number_any rb _ _ _ _ w4 r4 (by decide)).mono ?_
  rintro e w5 ⟨rfl, r5, g5⟩
  replace hres := hres.keep g5
  clear r4 g5 r5
  simp only [List.drop_drop, num_drop0, Nat.reduceAdd]
  generalize hW : IntKind.i64.wrap (num l 12 : Int) = W at *
  have hI : readI l = ⟨num l 4, W, num l 20, num l 28⟩ := by unfold readI; rw [hW]
  have HI := mkHid hI
  clear hI
  obtain ⟨v0, k0⟩ := Option.isSome_iff_exists.1 hres.k0
  obtain ⟨v1, k1⟩ := Option.isSome_iff_exists.1 hres.k1
  obtain ⟨v2, k2⟩ := Option.isSome_iff_exists.1 hres.k2
  obtain ⟨v3, k3⟩ := Option.isSome_iff_exists.1 hres.k3
  have z0 := hres.z0
  have z1 := hres.z1
  have z2 := hres.z2
  have z3 := hres.z3
  have HRES := mkHid hres
  clear hres
  go_wp2_with fail
  refine bodyPost_ret (v := .agg #[.int .u64 (num l 4 : Int), .int .i64 W, .int .u64 (num l 20 : Int), .int .u64 (num l 28 : Int)]) (by simp [results, Tryz.results192, go_sem, k0, k1, k2, k3]; try rw [wrap64_eq]; try exact hW) rfl ⟨by rw [HI.out]; rfl, HRES.out.done _ _ _ _⟩
end Go.Proofs.YtoeijomelabbfaaGreatDoor
