/- The cache beside its disk: New, Drop, Held. -/
import Derived.Test.YtdmhcbbakgljoaaJq
namespace Go.Proofs.Ytdmhcbbakgljoaa
open Go.RowKit Go.Maps Go.ChangeMaps Go.MapKept
set_option linter.unusedVariables false
set_option linter.unusedSimpArgs false
attribute [local go_sem ↓] Go.wp_at_zero Go.wp_at_succ

theorem cnew_nil (n : Int) (w : World) : Calls Try.prog 9 #[.pointer none, .int .i64 n] w fun e w' => e = .returned (.tuple #[.pointer none, .int .i64 2]) ∧ w = w' := by
  have cB : Calls Try.prog 25 #[.pointer none] w fun e w' => e = .returned (.int .i64 0) ∧ w = w' := by
    go_enter Try.func25, Try.ntmps25
    go_wp2_with (first | (go_at_call 42; refine (made_nil _).mono ?_; rintro e w' ⟨rfl, rfl⟩))
    go_ret
    exact ⟨rfl, rfl⟩
  go_enter Try.func9, Try.ntmps9
  go_wp2_with (first | (go_at_call 25; refine cB.mono ?_; rintro e w' ⟨rfl, rfl⟩))
  go_ret2
  exact ⟨rfl, rfl⟩
/-- A disk that no call made. -/
theorem cnew_zero (db : Nat) (n : Int) (w : World) (c0 : w.cell? ⟨db, 0, none⟩ = some (.slice none 0 0)) : Calls Try.prog 9 #[.pointer (some ⟨db, 0, none⟩), .int .i64 n] w fun e w' => e = .returned (.tuple #[.pointer none, .int .i64 2]) ∧ w = w' := by
  have cM : Calls Try.prog 42 #[.pointer (some ⟨db, 0, none⟩)] w fun e w' => e = .returned (.bool false) ∧ w = w' := by
    go_enter Try.func42, Try.ntmps42
    go_wp2
    go_ret
    exact ⟨rfl, rfl⟩
  have cB : Calls Try.prog 25 #[.pointer (some ⟨db, 0, none⟩)] w fun e w' => e = .returned (.int .i64 0) ∧ w = w' := by
    go_enter Try.func25, Try.ntmps25
    go_wp2_with (first | (go_at_call 42; refine cM.mono ?_; rintro e w' ⟨rfl, rfl⟩))
    go_ret
    exact ⟨rfl, rfl⟩
  go_enter Try.func9, Try.ntmps9
  go_wp2_with (first | (go_at_call 25; refine cB.mono ?_; rintro e w' ⟨rfl, rfl⟩))
  go_ret2
  exact ⟨rfl, rfl⟩
section
variable (B db : Nat) (g : DG) (fa : Option Addr) (cf : Nat) (st : RS) (w : World) (h : DevAt w B db g fa cf st) (hW : Whole st)
include h hW
theorem cnew_arg (n : Int) (hn : n < 1 ∨ 1024 < n) : Calls Try.prog 9 #[.pointer (some ⟨db, 0, none⟩), .int .i64 n] w fun e w' => e = .returned (.tuple #[.pointer none, .int .i64 1]) ∧ w = w' := by
  have hc : 0 < st.count := by have := hW.1; have := h.pos; omega
  have h1 : ((st.count : Int) == 0) = false := beq_eq_false_iff_ne.2 (by omega)
  have h1' : (st.count == 0) = false := beq_eq_false_iff_ne.2 (by omega)
  by_cases hn1 : n < 1
  · have hd : decide (n < 1) = true := decide_eq_true hn1
    go_enter Try.func9, Try.ntmps9
    go_wp2_with (first | (go_at_call 25; refine (blocks_any B db g fa cf st w h hW).mono ?_; rintro e w' ⟨rfl, rfl⟩))
    go_ret2
    exact ⟨rfl, rfl⟩
  · have hd : decide (n < 1) = false := decide_eq_false hn1
    have hd2 : decide ((1024 : Int) < n) = true := decide_eq_true (by omega)
    go_enter Try.func9, Try.ntmps9
    go_wp2_with (first | (go_at_call 25; refine (blocks_any B db g fa cf st w h hW).mono ?_; rintro e w' ⟨rfl, rfl⟩))
    go_ret2
    exact ⟨rfl, rfl⟩
theorem cnew_raw (n : Nat) (hn : 1 ≤ n ∧ n ≤ 1024) (hB : B ≤ w.heap.size) : Calls Try.prog 9 #[.pointer (some ⟨db, 0, none⟩), .int .i64 (n : Int)] w fun e w' => ∃ cb mb, e = .returned (.tuple #[.pointer (some ⟨cb, 0, none⟩), .int .i64 0]) ∧ CacheAt w' B cb mb none 0 [] [] n 0 db ∧ Chg [] w w' ∧ w.heap.size ≤ cb ∧ w.heap.size ≤ mb := by
  have hc : 0 < st.count := by have := hW.1; have := h.pos; omega
  have h1 : ((st.count : Int) == 0) = false := beq_eq_false_iff_ne.2 (by omega)
  have h1' : (st.count == 0) = false := beq_eq_false_iff_ne.2 (by omega)
  have hd : decide ((n : Int) < 1) = false := decide_eq_false (by omega)
  have hd2 : decide ((1024 : Int) < (n : Int)) = false := decide_eq_false (by omega)
  have hmm := @run_makeMap Try.prog
  go_enter Try.func9, Try.ntmps9
  go_wp2_with (first | (go_at_call 25; refine (blocks_any B db g fa cf st w h hW).mono ?_; rintro e w' ⟨rfl, rfl⟩))
  go_ret2
  have z1 : (w.alloc (.map #[] 0)).heap.size = w.heap.size + 1 := by simp
  have m1 := World.ownsMap_made w Try.prog 3 ptrR
  have g1 : Chg [] w (w.alloc (.map #[] 0)) := Chg.alloc [] w _
  generalize w.alloc (.map #[] 0) = w1 at *
  have hcl := fun j => cell_of_row (w1.alloc (.cells #[.pointer (some ⟨db, 0, none⟩), .int .i64 (n : Int), .map (some w.heap.size), .slice none 0 0, .int .u64 0] 59)) w1.heap.size j _ _ _ (heap_alloc_last w1 _)
  have hfz := fun j => frozen_of_row (w1.alloc (.cells #[.pointer (some ⟨db, 0, none⟩), .int .i64 (n : Int), .map (some w.heap.size), .slice none 0 0, .int .u64 0] 59)) w1.heap.size j _ _ (heap_alloc_last w1 _)
  rw [z1] at hcl hfz
  have g2 := Chg.alloc [] w1 (.cells #[.pointer (some ⟨db, 0, none⟩), .int .i64 (n : Int), .map (some w.heap.size), .slice none 0 0, .int .u64 0] 59)
  have hH1 : HeldAt w1 w.heap.size [] (.map []) := ⟨m1, rfl, fun e he => by simp at he, fun z _ => rfl⟩
  refine ⟨w.heap.size + 1, w.heap.size, rfl, ⟨hcl 0, hcl 1, hcl 2, hcl 4, hfz 4, ⟨hcl 3, hfz 3, Room.nil _ _ _, fun i hi => by simp at hi, fun e he => by simp at he, by simp, fun e he => by simp at he, fun e he => by simp at he, by simp [fp_zero], fun e he => by simp at he, by omega, by simp⟩, fun k _ hk => by simp at hk, ⟨_, hH1.chg g2 (by simp)⟩, List.Perm.refl _, List.Pairwise.nil, fun e he => by simp at he, by simp, fun e he => by simp at he, by simp, hn, by simp [LF, fp_zero], hB⟩, g1.then g2, by omega, Nat.le_refl _⟩
end
/-- A new cache over a disk that a law holds. -/
theorem cnew_yes (n : Nat) (hn : 1 ≤ n ∧ n ≤ 1024) (w0 w : World) (R : Nat → Prop) (db : Nat) (g : DG) (fa : Option Addr) (cf : Nat) (st : RS) (d : DevAt w w0.heap.size db g fa cf st) (c : Chg [] w0 w) (hW : Whole st) (hr : ∀ k, R k → k ∉ DF db g fa cf ∧ k < w.heap.size) :
    Calls Try.prog 9 #[.pointer (some ⟨db, 0, none⟩), .int .i64 (n : Int)] w fun e w' => ∃ cb mb, e = .returned (.tuple #[.pointer (some ⟨cb, 0, none⟩), .int .i64 0]) ∧ Pair w0 w' R db g fa cf st cb mb none 0 [] [] n 0 ∧ Chg [] w w' := by
  refine (cnew_raw w0.heap.size db g fa cf st w d hW n hn c.size).mono ?_
  rintro e w' ⟨cb, mb, he, k, gk, hcb, hmb⟩
  have hCF : ∀ q, q ∈ CF cb mb none 0 [] → w.heap.size ≤ q := fun q hq => by
    simp only [CF, LF, fp_zero, List.map_nil, List.append_nil, List.mem_cons, List.not_mem_nil, or_false] at hq
    rcases hq with rfl | rfl <;> assumption
  exact ⟨cb, mb, he, ⟨d.keep gk, k, fun e he => by simp at he, c.then gk, hW, fun q hq hm => by have := hCF q hq; have := (d.lt q hm).2; omega, fun q hq => ⟨fun hm => by have := hCF q hm; have := (hr q hq).2; omega, (hr q hq).1, Nat.lt_of_lt_of_le (hr q hq).2 gk.size⟩⟩, gk⟩
theorem clear_map {w : World} {k : TypeId} {R : Value → Option (DataW Unit × List MemPlace)} {b n : Nat} {D : DataW Unit} (h : w.ownsMap Try.prog k R b n D) : ∃ w', (∀ ty, (Builtin.clear_ #[54] ty #[.map (some b)]).run Try.prog w = .ok (.tuple #[]) w') ∧ w'.ownsMap Try.prog k R b 0 (.map []) ∧ w.mapTurned w' b := by
  obtain ⟨es, clock, hb, F, hs, rfl⟩ := h
  refine ⟨setBlock w b (.map #[] clock), fun ty => ?_, ⟨#[], clock, heap_setBlock_same hb _, ⟨by simp, stamped_empty clock, by simp⟩, Nat.le_refl _, rfl⟩, ⟨es, clock, #[], clock, hb, rfl⟩⟩
  simp [Builtin.clear_, run_underlying Try.underlying54, MapKept.run_getObj_map hb, MapKept.run_setObj_map _ hb, Result.andThen]
  rfl
theorem wpList_clear_map {w : World} {ops : Array Oper} {rest : List Oper} {o : Oper} {a : Act} {Q : Exit → Act → World → Prop} (hgd : o.guard = none) (x : Operand) (ho : o.op = .call { callee := .builtin .clear, args := #[x], argTypes := #[54] })
    {k : TypeId} {R : Value → Option (DataW Unit × List MemPlace)} {b n : Nat} {D : DataW Unit} (h : w.ownsMap Try.prog k R b n D) (hx : a.eval x = .map (some b))
    (hK : ∀ w', w'.ownsMap Try.prog k R b 0 (.map []) → w.mapTurned w' b → wpList Try.prog ops Q rest (a.put o.dst (.tuple #[])) w') : wpList Try.prog ops Q (o :: rest) a w := by
  refine wpList_plain hgd fun K hK2 => ?_
  obtain ⟨w', hrun, h1, h2⟩ := clear_map h
  unfold Oper.wp execOp
  simp only [ho, resolve, invoke, builtin, Sem.run_bind, Sem.run_pure, Result.andThen_ok, List.map_toArray, List.map_cons, List.map_nil, hx, hrun]
  exact hK2 _ _ (hK w' h1 h2)
theorem cdrop_any (w0 w : World) (R : Nat → Prop) (db : Nat) (g : DG) (fa : Option Addr) (cf : Nat) (st : RS) (cb mb : Nat) (la : Option Addr) (cl : Nat) (E L : List Ent) (most uses : Nat) (h : Pair w0 w R db g fa cf st cb mb la cl E L most uses) :
    Calls Try.prog 15 #[.pointer (some ⟨cb, 0, none⟩)] w fun e w' => e = .returned (.tuple #[]) ∧ Pair w0 w' R db g fa cf st cb mb none 0 [] [] most uses ∧ Off R w w' := by
  have c0 := h.k.c0
  have c2 := h.k.c2
  have c3 := h.k.ln.c3
  have f3 := h.k.ln.f3
  obtain ⟨D, hD⟩ := h.k.hd
  have hcm : cb ∉ [mb] := by
    simp
    intro e
    exact h.k.mF (by rw [← e]; simp [LF])
  have hmc : mb ≠ cb := fun e => hcm (by simp [e])
  go_enter Try.func15, Try.ntmps15
  go_wp2_with (first
    | (go_at_call 31; refine (cmade_yes cb db w c0).mono ?_; rintro e w' ⟨rfl, rfl⟩)
    | (refine wpList_clear_map rfl (.tmp 7) rfl hD.o rfl ?_; intro w1 ho1 hm1; have c31 := (grown_chg hm1).cellv c3 hcm; have f31 := ((grown_chg hm1).frozen (p := ⟨cb, 3, none⟩) (block_lt_of_cell c3) hcm).trans f3))
  go_end0
  have g1 := grown_chg hm1
  have g2 : Chg [cb] w1 (w1.setCell ⟨cb, 3, none⟩ (.slice none 0 0)) := Chg.setCell w1 ⟨cb, 3, none⟩ _
  have gA : Chg (CF cb mb la cl E ++ DF db g fa cf) w (w1.setCell ⟨cb, 3, none⟩ (.slice none 0 0)) := g1.trans g2 (fun k hk _ => by simp at hk; simp [CF, hk]) (fun k hk _ => by simp at hk; simp [CF, LF, hk])
  have gC : Chg (CF cb mb la cl E) w (w1.setCell ⟨cb, 3, none⟩ (.slice none 0 0)) := g1.trans g2 (fun k hk _ => by simp at hk; simp [CF, hk]) (fun k hk _ => by simp at hk; simp [CF, LF, hk])
  have hcell : ∀ j v, j ≠ 3 → w.cell? ⟨cb, j, none⟩ = some v → (w1.setCell ⟨cb, 3, none⟩ (.slice none 0 0)).cell? ⟨cb, j, none⟩ = some v := fun j v hj hv => set_other' (g1.cellv hv hcm) hj
  have hH1 : HeldAt w1 mb [] (.map []) := ⟨ho1, rfl, fun e he => by simp at he, fun z _ => rfl⟩
  have hCF : ∀ q, q ∈ CF cb mb none 0 [] → q ∈ CF cb mb la cl E := fun q hq => by
    simp only [CF, LF, fp_zero, List.map_nil, List.append_nil, List.mem_cons, List.not_mem_nil, or_false] at hq
    simp only [CF, LF, List.mem_cons]
    rcases hq with hq | hq
    · exact Or.inl hq
    · exact Or.inr (Or.inl hq)
  refine ⟨rfl, h.go (h.d.chg gC (fun k hk hm => h.x k hm hk)) ⟨hcell 0 _ (by decide) c0, hcell 1 _ (by decide) h.k.c1, hcell 2 _ (by decide) c2, hcell 4 _ (by decide) h.k.c4, ?_, ⟨World.cell?_setCell_same _ _ _ c31, by rw [World.frozen?_setCell]; exact f31, Room.nil _ _ _, fun i hi => by simp at hi, fun e he => by simp at he, by simp, fun e he => by simp at he, fun e he => by simp at he, by simp [fp_zero], fun e he => by simp at he, h.k.ln.cB, by simp⟩, fun k _ hk => by simp at hk, ⟨_, hH1.chg g2 (by simpa using hmc)⟩, List.Perm.refl _, List.Pairwise.nil, fun e he => by simp at he, by simp, fun e he => by simp at he, by simp, h.k.mo, by simp [LF, fp_zero, hmc], h.k.mB⟩ (fun e he => by simp at he) gA h.W (fun k hk => h.x k (hCF k hk)) (fun k hk => Or.inl (hCF k hk)) (fun k hk => Or.inl hk), h.off gA⟩
  rw [World.frozen?_setCell]
  exact (g1.frozen (p := ⟨cb, 4, none⟩) (show cb < w.heap.size from block_lt_of_cell c0) hcm).trans h.k.f4
end Go.Proofs.Ytdmhcbbakgljoaa
