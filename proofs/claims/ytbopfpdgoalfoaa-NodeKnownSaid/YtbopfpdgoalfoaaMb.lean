/- NodeKnown: nine grows by a key and a value, in whatever order the two rows are made. -/
import Derived.Test.YtbopfpdgoalfoaaNw
import Derived.Test.YtbopfpdgoalfoaaO
namespace Go.Proofs.Ytbopfpdgoalfoaa
open Go.RowKit
set_option linter.unusedVariables false
set_option linter.unusedSimpArgs false

/-- nine, k rounds on, in block nb. -/
structure Nine (w : World) (nb B k : Nat) (ka : Option Addr) (kc : Nat) (va : Option Addr) (vc : Nat) : Prop where
  c0 : w.cell? ⟨nb, 0, none⟩ = some (.bool false)
  c1 : w.cell? ⟨nb, 1, none⟩ = some (.slice ka k kc)
  c2 : w.cell? ⟨nb, 2, none⟩ = some (.slice va k vc)
  f1 : w.frozen? ⟨nb, 1, none⟩ = false
  f2 : w.frozen? ⟨nb, 2, none⟩ = false
  rk : Room w B ka k kc (uvs (List.range k))
  rv : Room w B va k vc (uvs (List.replicate k 1))
  dj : ∀ q, q ∈ fp ka kc → q ∉ fp va vc
  hb : nb < B
  hB : B ≤ w.heap.size
theorem nine_start (w : World) : Nine (w.alloc (.cells #[.bool false, .slice none 0 0, .slice none 0 0] 24)) w.heap.size (w.heap.size + 1) 0 none 0 none 0 := by
  obtain ⟨x0, x1, x2⟩ := laid3 w (.bool false) (.slice none 0 0) (.slice none 0 0) 24
  have hf := fun j => frozen_of_row _ w.heap.size j _ _ (heap_alloc_last w (.cells #[.bool false, .slice none 0 0, .slice none 0 0] 24))
  exact ⟨x0, x1, x2, hf 1, hf 2, Room.nil _ _ _, Room.nil _ _ _, fun q hq => by simp [fp_zero] at hq, by omega, by simp⟩

/-! ### one round -/
def curS (d : Bool) (x y : Value) : Value := bif d then x else y
def plus (k : Nat) (d : Bool) : Nat := bif d then k + 1 else k
section
variable (nb B k : Nat) (ka : Option Addr) (kc : Nat) (va : Option Addr) (vc : Nat) (w0 : World)
/-- Where the round stands: which of the calls that make memory, and of the stores, are done. -/
structure St (d4 d5 d8 d9 d11 d13 : Bool) (v4 v5 v8 v9 : Value) (u : World) : Prop where
  chg : Chg (nb :: (fp ka kc ++ fp va vc)) w0 u
  c0 : u.cell? ⟨nb, 0, none⟩ = some (.bool false)
  c1 : u.cell? ⟨nb, 1, none⟩ = some (curS d11 v5 (.slice ka k kc))
  c2 : u.cell? ⟨nb, 2, none⟩ = some (curS d13 v9 (.slice va k vc))
  f1 : u.frozen? ⟨nb, 1, none⟩ = false
  f2 : u.frozen? ⟨nb, 2, none⟩ = false
  kv : ∃ a c a' c', curS d5 v5 (.slice ka k kc) = .slice a (plus k d5) c ∧ curS d9 v9 (.slice va k vc) = .slice a' (plus k d9) c' ∧ Room u B a (plus k d5) c (uvs (List.range (plus k d5))) ∧
    Room u B a' (plus k d9) c' (uvs (List.replicate (plus k d9) 1)) ∧ (∀ q, q ∈ fp a c → q ∉ fp a' c') ∧ (d5 = false → a = ka ∧ c = kc) ∧ (d9 = false → a' = va ∧ c' = vc)
  e4 : d4 = true → d5 = false → ∃ b, v4 = .slice (some ⟨b, 0, none⟩) 1 1 ∧ Reads u (some ⟨b, 0, none⟩) [.int .u64 (k : Int)]
  e8 : d8 = true → d9 = false → ∃ b, v8 = .slice (some ⟨b, 0, none⟩) 1 1 ∧ Reads u (some ⟨b, 0, none⟩) [.int .u64 1] ∧ (d5 = false → b ∉ fp ka kc)
  hb : nb < B
  hB : B ≤ u.heap.size
variable {nb B k ka kc va vc w0}
theorem Nine.st (h : Nine w0 nb B k ka kc va vc) (v4 v5 v8 v9 : Value) {u : World} (g : Chg [] w0 u) : St nb B k ka kc va vc w0 false false false false false false v4 v5 v8 v9 u :=
  ⟨g.mono (by simp), g.cellv h.c0 (by simp), g.cellv h.c1 (by simp), g.cellv h.c2 (by simp), (g.frozen (p := ⟨nb, 1, none⟩) (block_lt_of_cell h.c1) (by simp)).trans h.f1, (g.frozen (p := ⟨nb, 2, none⟩) (block_lt_of_cell h.c2) (by simp)).trans h.f2,
   ⟨ka, kc, va, vc, rfl, rfl, h.rk.chg g (by simp), h.rv.chg g (by simp), h.dj, fun _ => ⟨rfl, rfl⟩, fun _ => ⟨rfl, rfl⟩⟩, fun e => (by cases e), fun e => (by cases e), h.hb, Nat.le_trans h.hB g.size⟩
section
variable {d4 d5 d8 d9 d11 d13 : Bool} {v4 v5 v8 v9 : Value} {u : World}
theorem St.keep (h : St nb B k ka kc va vc w0 d4 d5 d8 d9 d11 d13 v4 v5 v8 v9 u) {u' : World} (g : Chg [] u u') : St nb B k ka kc va vc w0 d4 d5 d8 d9 d11 d13 v4 v5 v8 v9 u' := by
  obtain ⟨a, c, a', c', e1, e2, r1, r2, dj, x1, x2⟩ := h.kv
  refine ⟨h.chg.then g, g.cellv h.c0 (by simp), g.cellv h.c1 (by simp), g.cellv h.c2 (by simp), (g.frozen (p := ⟨nb, 1, none⟩) (block_lt_of_cell h.c1) (by simp)).trans h.f1, (g.frozen (p := ⟨nb, 2, none⟩) (block_lt_of_cell h.c2) (by simp)).trans h.f2,
    ⟨a, c, a', c', e1, e2, r1.chg g (by simp), r2.chg g (by simp), dj, x1, x2⟩, fun p q => ?_, fun p q => ?_, h.hb, Nat.le_trans h.hB g.size⟩
  · obtain ⟨b, e, r⟩ := h.e4 p q
    exact ⟨b, e, r.keep g⟩
  · obtain ⟨b, e, r, n⟩ := h.e8 p q
    exact ⟨b, e, r.keep g, n⟩
/-- A key, laid. -/
theorem St.key (h : St nb B k ka kc va vc w0 d4 d5 d8 d9 d11 d13 v4 v5 v8 v9 u) (t : TypeId) : St nb B k ka kc va vc w0 true d5 d8 d9 d11 d13 (.slice (some ⟨u.heap.size, 0, none⟩) 1 1) v5 v8 v9 (u.alloc (.cells #[.int .u64 (k : Int)] t)) := by
  have h' := h.keep (Chg.alloc [] u (.cells #[.int .u64 (k : Int)] t))
  exact ⟨h'.chg, h'.c0, h'.c1, h'.c2, h'.f1, h'.f2, h'.kv, fun _ _ => ⟨_, rfl, Reads.new u #[.int .u64 (k : Int)] t⟩, h'.e8, h'.hb, h'.hB⟩
/-- A value, laid. -/
theorem St.val (h : St nb B k ka kc va vc w0 d4 d5 d8 d9 d11 d13 v4 v5 v8 v9 u) (t : TypeId) : St nb B k ka kc va vc w0 d4 d5 true d9 d11 d13 v4 v5 (.slice (some ⟨u.heap.size, 0, none⟩) 1 1) v9 (u.alloc (.cells #[.int .u64 1] t)) := by
  have h' := h.keep (Chg.alloc [] u (.cells #[.int .u64 1] t))
  refine ⟨h'.chg, h'.c0, h'.c1, h'.c2, h'.f1, h'.f2, h'.kv, h'.e4, fun _ _ => ⟨_, rfl, Reads.new u #[.int .u64 1] t, fun e hm => ?_⟩, h'.hb, h'.hB⟩
  obtain ⟨a, c, a', c', e1, e2, r1, r2, dj, x1, x2⟩ := h.kv
  obtain ⟨rfl, rfl⟩ := x1 e
  have := (r1.lt _ hm).2
  omega
end
section
variable {d4 d8 : Bool} {v4 v5 v8 v9 : Value} {u : World}
/-- The keys, one more. -/
theorem St.keys (h : St nb B k ka kc va vc w0 true false d8 false false false v4 v5 v8 v9 u) {P : Program} {t e ty : TypeId} (helt : Elt P t e 8) (hk : k ≤ 9) :
    ∃ b, v4 = .slice (some ⟨b, 0, none⟩) 1 1 ∧ ∃ x u', (Builtin.append_ #[t, t] ty #[.slice ka k kc, v4]).run P u = .ok x u' ∧ St nb B k ka kc va vc w0 true true d8 false false false v4 x v8 v9 u' := by
  obtain ⟨b, rfl, r4⟩ := h.e4 rfl rfl
  obtain ⟨a, c, a', c', e1, e2, r1, r2, dj, x1, x2⟩ := h.kv
  obtain ⟨rfl, rfl⟩ := x1 rfl
  obtain ⟨rfl, rfl⟩ := x2 rfl
  simp only [plus, cond_false] at r1 r2
  obtain ⟨ao, co, u', hr, h2, h3, h4⟩ := run_append_k (P := P) u t ty e 8 helt B a k c _ r1 h.hB (some ⟨b, 0, none⟩) 1 1 _ r4 rfl (by simp [Value.oneCell']) (by unfold maxLen; omega) (by omega)
  refine ⟨b, rfl, _, u', hr, ?_⟩
  have hin : ∀ q, q ∈ fp a c → B ≤ q := fun q hq => (r1.lt q hq).1
  have hnb : nb ∉ fp a c := fun hm => by have := hin nb hm; have := h.hb; omega
  have hdj : ∀ q, q ∈ fp a' c' → q ∉ fp a c := fun q hq hm => dj q hm hq
  refine ⟨h.chg.trans h3 (fun _ h _ => h) (fun q hq _ => List.mem_cons_of_mem _ (List.mem_append_left _ hq)), h3.cellv h.c0 hnb, h3.cellv h.c1 hnb, h3.cellv h.c2 hnb, (h3.frozen (p := ⟨nb, 1, none⟩) (block_lt_of_cell h.c1) hnb).trans h.f1, (h3.frozen (p := ⟨nb, 2, none⟩) (block_lt_of_cell h.c2) hnb).trans h.f2, ⟨ao, co, a', c', rfl, rfl, ?_, r2.chg h3 hdj, ?_, fun e => (by cases e), fun _ => ⟨rfl, rfl⟩⟩, fun _ e => (by cases e), fun p q => ?_, h.hb, Nat.le_trans h.hB h3.size⟩
  · have e : uvs (List.range (k + 1)) = uvs (List.range k) ++ [.int .u64 (k : Int)] := by rw [List.range_succ, uvs_append]; rfl
    show Room u' B ao (k + 1) co (uvs (List.range (k + 1)))
    rw [e]
    exact h2
  · intro q hq hm
    rcases h4 with h4 | h4
    · rw [h4] at hq
      exact dj q hq hm
    · rw [h4] at hq
      have := (r2.lt q hm).2
      simp at hq
      omega
  · obtain ⟨b', e, r8, hn⟩ := h.e8 p q
    exact ⟨b', e, r8.chg h3 (fun q hq hm => by simp [blk] at hq; subst hq; exact hn rfl hm), fun e => (by cases e)⟩
/-- The values, one more. -/
theorem St.vals (h : St nb B k ka kc va vc w0 d4 true true false false false v4 v5 v8 v9 u) {P : Program} {t e ty : TypeId} (helt : Elt P t e 8) (hk : k ≤ 9) :
    ∃ b, v8 = .slice (some ⟨b, 0, none⟩) 1 1 ∧ ∃ x u', (Builtin.append_ #[t, t] ty #[.slice va k vc, v8]).run P u = .ok x u' ∧ St nb B k ka kc va vc w0 d4 true true true false false v4 v5 v8 x u' := by
  obtain ⟨b, rfl, r8, -⟩ := h.e8 rfl rfl
  obtain ⟨a, c, a', c', e1, e2, r1, r2, dj, x1, x2⟩ := h.kv
  obtain ⟨rfl, rfl⟩ := x2 rfl
  simp only [plus, cond_false, cond_true] at r1 r2
  obtain ⟨ao, co, u', hr, h2, h3, h4⟩ := run_append_k (P := P) u t ty e 8 helt B a' k c' _ r2 h.hB (some ⟨b, 0, none⟩) 1 1 _ r8 rfl (by simp [Value.oneCell']) (by unfold maxLen; omega) (by omega)
  refine ⟨b, rfl, _, u', hr, ?_⟩
  have hin : ∀ q, q ∈ fp a' c' → B ≤ q := fun q hq => (r2.lt q hq).1
  have hnb : nb ∉ fp a' c' := fun hm => by have := hin nb hm; have := h.hb; omega
  refine ⟨h.chg.trans h3 (fun _ h _ => h) (fun q hq _ => List.mem_cons_of_mem _ (List.mem_append_right _ hq)), h3.cellv h.c0 hnb, h3.cellv h.c1 hnb, h3.cellv h.c2 hnb, (h3.frozen (p := ⟨nb, 1, none⟩) (block_lt_of_cell h.c1) hnb).trans h.f1, (h3.frozen (p := ⟨nb, 2, none⟩) (block_lt_of_cell h.c2) hnb).trans h.f2, ⟨a, c, ao, co, e1, rfl, r1.chg h3 dj, ?_, ?_, fun e => (by cases e), fun e => (by cases e)⟩, fun _ e => (by cases e), fun _ e => (by cases e), h.hb, Nat.le_trans h.hB h3.size⟩
  · have e : uvs (List.replicate (k + 1) 1) = uvs (List.replicate k 1) ++ [.int .u64 1] := by rw [List.replicate_succ', uvs_append]; rfl
    show Room u' B ao (k + 1) co (uvs (List.replicate (k + 1) 1))
    rw [e]
    exact h2
  · intro q hq hm
    rcases h4 with h4 | h4
    · rw [h4] at hm
      exact dj q hq hm
    · rw [h4] at hm
      have := (r1.lt q hq).2
      simp at hm
      omega
/-- The keys, stored. -/
theorem St.put1 (h : St nb B k ka kc va vc w0 d4 true d8 true false false v4 v5 v8 v9 u) : St nb B k ka kc va vc w0 d4 true d8 true true false v4 v5 v8 v9 (u.setCell ⟨nb, 1, none⟩ v5) := by
  obtain ⟨a, c, a', c', e1, e2, r1, r2, dj, x1, x2⟩ := h.kv
  have g := Chg.setCell u ⟨nb, 1, none⟩ v5
  refine ⟨h.chg.trans g (fun _ h _ => h) (by simp), ?_, World.cell?_setCell_same _ _ _ h.c1, ?_, by rw [World.frozen?_setCell]; exact h.f1, by rw [World.frozen?_setCell]; exact h.f2, ⟨a, c, a', c', e1, e2, r1.chg g (fun q hq hm => by have := (r1.lt q hq).1; have := h.hb; simp at hm; omega), r2.chg g (fun q hq hm => by have := (r2.lt q hq).1; have := h.hb; simp at hm; omega), dj, x1, x2⟩, fun _ e => (by cases e), fun _ e => (by cases e), h.hb, Nat.le_trans h.hB g.size⟩
  · rw [World.cell?_setCell_other _ _ _ _ (by simp)]; exact h.c0
  · rw [World.cell?_setCell_other _ _ _ _ (by simp)]; exact h.c2
/-- The values, stored. -/
theorem St.put2 (h : St nb B k ka kc va vc w0 d4 true d8 true true false v4 v5 v8 v9 u) : St nb B k ka kc va vc w0 d4 true d8 true true true v4 v5 v8 v9 (u.setCell ⟨nb, 2, none⟩ v9) := by
  obtain ⟨a, c, a', c', e1, e2, r1, r2, dj, x1, x2⟩ := h.kv
  have g := Chg.setCell u ⟨nb, 2, none⟩ v9
  refine ⟨h.chg.trans g (fun _ h _ => h) (by simp), ?_, ?_, World.cell?_setCell_same _ _ _ h.c2, by rw [World.frozen?_setCell]; exact h.f1, by rw [World.frozen?_setCell]; exact h.f2, ⟨a, c, a', c', e1, e2, r1.chg g (fun q hq hm => by have := (r1.lt q hq).1; have := h.hb; simp at hm; omega), r2.chg g (fun q hq hm => by have := (r2.lt q hq).1; have := h.hb; simp at hm; omega), dj, x1, x2⟩, fun _ e => (by cases e), fun _ e => (by cases e), h.hb, Nat.le_trans h.hB g.size⟩
  · rw [World.cell?_setCell_other _ _ _ _ (by simp)]; exact h.c0
  · rw [World.cell?_setCell_other _ _ _ _ (by simp)]; exact h.c1
/-- All is done. -/
theorem St.nine (h : St nb B k ka kc va vc w0 d4 true d8 true true true v4 v5 v8 v9 u) : ∃ a c a' c', Nine u nb B (k + 1) a c a' c' := by
  obtain ⟨a, c, a', c', e1, e2, r1, r2, dj, x1, x2⟩ := h.kv
  simp only [curS, plus, cond_true] at e1 e2 r1 r2
  have h1 := h.c1
  have h2 := h.c2
  simp only [curS, cond_true] at h1 h2
  rw [e1] at h1
  rw [e2] at h2
  exact ⟨a, c, a', c', h.c0, h1, h2, h.f1, h.f2, r1, r2, dj, h.hb, h.hB⟩
end
end
/-! ### the region -/
def PF (nb k : Nat) (ka : Option Addr) (kc : Nat) (va : Option Addr) (vc : Nat) : Nat → Value → Prop
  | 0, v => v = .pointer (some ⟨nb, 1, none⟩)
  | 1, v => v = .slice ka k kc
  | 2, v => v = .int .i64 (k : Int)
  | 3, v => v = .int .u64 (k : Int)
  | 6, v => v = .pointer (some ⟨nb, 2, none⟩)
  | 7, v => v = .slice va k vc
  | 10, v => v = .pointer (some ⟨nb, 1, none⟩)
  | 12, v => v = .pointer (some ⟨nb, 2, none⟩)
  | _, _ => True
structure IR (nb B k : Nat) (ka : Option Addr) (kc : Nat) (va : Option Addr) (vc : Nat) (w0 : World) (d : Nat → Bool) (v : Nat → Value) (u : World) : Prop where
  pf : ∀ i, d i = true → PF nb k ka kc va vc i (v i)
  st : St nb B k ka kc va vc w0 (d 4) (d 5) (d 8) (d 9) (d 11) (d 13) (v 4) (v 5) (v 8) (v 9) u
  o9 : d 9 = true → d 5 = true
  o11 : d 11 = true → d 9 = true ∧ d 1 = true ∧ d 7 = true
  o13 : d 13 = true → d 11 = true
section
variable {nb B k : Nat} {ka : Option Addr} {kc : Nat} {va : Option Addr} {vc : Nat} {w0 : World} {d : Nat → Bool} {v : Nat → Value} {u : World}
theorem setd_other (d : Nat → Bool) {k j : Nat} (h : j ≠ k) : setd d k j = d j := if_neg h
theorem setd_same (d : Nat → Bool) (k : Nat) : setd d k k = true := if_pos rfl
theorem IR.pfs (h : IR nb B k ka kc va vc w0 d v u) (j : Nat) (x : Value) (hx : PF nb k ka kc va vc j x) : ∀ i, setd d j i = true → PF nb k ka kc va vc i (upd v j x i) := fun i hi => by
  by_cases hij : i = j
  · subst hij; rw [upd_same]; exact hx
  · rw [setd_other d hij] at hi
    rw [upd_other v x hij]
    exact h.pf i hi
theorem IR.pure (h : IR nb B k ka kc va vc w0 d v u) (j : Nat) (x : Value) (hx : PF nb k ka kc va vc j x) (hj : j ≠ 4 ∧ j ≠ 5 ∧ j ≠ 8 ∧ j ≠ 9 ∧ j ≠ 11 ∧ j ≠ 13) : IR nb B k ka kc va vc w0 (setd d j) (upd v j x) u := by
  obtain ⟨h4, h5, h8, h9, h11, h13⟩ := hj
  have up : ∀ i, d i = true → setd d j i = true := fun i hi => by
    unfold setd
    split
    · rfl
    · exact hi
  refine ⟨h.pfs j x hx, ?_, ?_, ?_, ?_⟩
  · rw [setd_other d (Ne.symm h4), setd_other d (Ne.symm h5), setd_other d (Ne.symm h8), setd_other d (Ne.symm h9), setd_other d (Ne.symm h11), setd_other d (Ne.symm h13), upd_other v x (Ne.symm h4), upd_other v x (Ne.symm h5), upd_other v x (Ne.symm h8), upd_other v x (Ne.symm h9)]
    exact h.st
  · rw [setd_other d (Ne.symm h9)]; exact fun e => up 5 (h.o9 e)
  · rw [setd_other d (Ne.symm h11)]; exact fun e => ⟨up 9 (h.o11 e).1, up 1 (h.o11 e).2.1, up 7 (h.o11 e).2.2⟩
  · rw [setd_other d (Ne.symm h13)]; exact fun e => up 11 (h.o13 e)
/-- What is not done yet. -/
theorem IR.not1 (h : IR nb B k ka kc va vc w0 d v u) (h1 : d 1 = false) : d 11 = false := by
  cases e : d 11 with
  | false => rfl
  | true => rw [(h.o11 e).2.1] at h1; exact h1
theorem IR.not7 (h : IR nb B k ka kc va vc w0 d v u) (h1 : d 7 = false) : d 13 = false := by
  cases e : d 13 with
  | false => rfl
  | true => rw [(h.o11 (h.o13 e)).2.2] at h1; exact h1
theorem IR.not9 (h : IR nb B k ka kc va vc w0 d v u) (h9 : d 9 = false) : d 11 = false ∧ d 13 = false := by
  have e11 : d 11 = false := by
    cases e : d 11 with
    | false => rfl
    | true => rw [(h.o11 e).1] at h9; exact h9
  refine ⟨e11, ?_⟩
  cases e : d 13 with
  | false => rfl
  | true => rw [h.o13 e] at e11; exact e11
theorem IR.not5 (h : IR nb B k ka kc va vc w0 d v u) (h5 : d 5 = false) : d 9 = false := by
  cases e : d 9 with
  | false => rfl
  | true => rw [h.o9 e] at h5; exact h5
theorem IR.key (h : IR nb B k ka kc va vc w0 d v u) (t : TypeId) : IR nb B k ka kc va vc w0 (setd d 4) (upd v 4 (.slice (some ⟨u.heap.size, 0, none⟩) 1 1)) (u.alloc (.cells #[.int .u64 (k : Int)] t)) :=
  ⟨h.pfs 4 _ trivial, h.st.key t, h.o9, h.o11, h.o13⟩
theorem IR.val (h : IR nb B k ka kc va vc w0 d v u) (t : TypeId) : IR nb B k ka kc va vc w0 (setd d 8) (upd v 8 (.slice (some ⟨u.heap.size, 0, none⟩) 1 1)) (u.alloc (.cells #[.int .u64 1] t)) :=
  ⟨h.pfs 8 _ trivial, h.st.val t, h.o9, h.o11, h.o13⟩
theorem IR.keys (h : IR nb B k ka kc va vc w0 d v u) {P : Program} {t e ty : TypeId} (helt : Elt P t e 8) (hk : k ≤ 9) (h4 : d 4 = true) (h5 : d 5 = false) :
    ∃ x u', (Builtin.append_ #[t, t] ty #[.slice ka k kc, v 4]).run P u = .ok x u' ∧ IR nb B k ka kc va vc w0 (setd d 5) (upd v 5 x) u' := by
  have e9 := h.not5 h5
  obtain ⟨e11, e13⟩ := h.not9 e9
  have hs := h.st
  rw [h4, h5, e9, e11, e13] at hs
  obtain ⟨b, e, x, u', hr, hn⟩ := hs.keys (ty := ty) helt hk
  refine ⟨x, u', hr, h.pfs 5 x trivial, ?_, fun _ => setd_same d 5, fun e => ?_, h.o13⟩
  · show St nb B k ka kc va vc w0 (d 4) (setd d 5 5) (d 8) (d 9) (d 11) (d 13) (v 4) (upd v 5 x 5) (v 8) (v 9) u'
    rw [h4, setd_same, upd_same, e9, e11, e13]
    exact hn
  · have : d 11 = true := e
    rw [e11] at this
    cases this
theorem IR.vals (h : IR nb B k ka kc va vc w0 d v u) {P : Program} {t e ty : TypeId} (helt : Elt P t e 8) (hk : k ≤ 9) (h5 : d 5 = true) (h8 : d 8 = true) (h9 : d 9 = false) :
    ∃ x u', (Builtin.append_ #[t, t] ty #[.slice va k vc, v 8]).run P u = .ok x u' ∧ IR nb B k ka kc va vc w0 (setd d 9) (upd v 9 x) u' := by
  obtain ⟨e11, e13⟩ := h.not9 h9
  have hs := h.st
  rw [h5, h8, h9, e11, e13] at hs
  obtain ⟨b, e, x, u', hr, hn⟩ := hs.vals (ty := ty) helt hk
  refine ⟨x, u', hr, h.pfs 9 x trivial, ?_, fun _ => h5, fun e => ?_, h.o13⟩
  · show St nb B k ka kc va vc w0 (d 4) (d 5) (d 8) (setd d 9 9) (d 11) (d 13) (v 4) (v 5) (v 8) (upd v 9 x 9) u'
    rw [h5, h8, setd_same, upd_same, e11, e13]
    exact hn
  · have : d 11 = true := e
    rw [e11] at this
    cases this
theorem IR.put1 (h : IR nb B k ka kc va vc w0 d v u) (x : Value) (h5 : d 5 = true) (h9 : d 9 = true) (h1 : d 1 = true) (h7 : d 7 = true) (h11 : d 11 = false) : IR nb B k ka kc va vc w0 (setd d 11) (upd v 11 x) (u.setCell ⟨nb, 1, none⟩ (v 5)) := by
  have e13 : d 13 = false := by
    cases e : d 13 with
    | false => rfl
    | true => rw [h.o13 e] at h11; exact h11
  have hs := h.st
  rw [h5, h9, h11, e13] at hs
  refine ⟨h.pfs 11 x trivial, ?_, h.o9, fun _ => ⟨h9, h1, h7⟩, fun _ => setd_same d 11⟩
  show St nb B k ka kc va vc w0 (d 4) (d 5) (d 8) (d 9) (setd d 11 11) (d 13) (v 4) (v 5) (v 8) (v 9) _
  rw [h5, h9, setd_same, e13]
  exact hs.put1
theorem IR.put2 (h : IR nb B k ka kc va vc w0 d v u) (x : Value) (h11 : d 11 = true) (h13 : d 13 = false) : IR nb B k ka kc va vc w0 (setd d 13) (upd v 13 x) (u.setCell ⟨nb, 2, none⟩ (v 9)) := by
  have e9 := (h.o11 h11).1
  have e5 := h.o9 e9
  have hs := h.st
  rw [e5, e9, h11, h13] at hs
  refine ⟨h.pfs 13 x trivial, ?_, h.o9, h.o11, fun _ => h11⟩
  show St nb B k ka kc va vc w0 (d 4) (d 5) (d 8) (d 9) (d 11) (setd d 13 13) (v 4) (v 5) (v 8) (v 9) _
  rw [e5, e9, h11, setd_same]
  exact hs.put2
theorem IR.nine (h : IR nb B k ka kc va vc w0 d v u) (hd : ∀ i, i < 14 → d i = true) : ∃ a c a' c', Nine u nb B (k + 1) a c a' c' := by
  have hs := h.st
  rw [hd 5 (by decide), hd 9 (by decide), hd 11 (by decide), hd 13 (by decide)] at hs
  exact hs.nine
theorem IR.v5 (h : IR nb B k ka kc va vc w0 d v u) (h5 : d 5 = true) : ∃ a c, v 5 = .slice a (k + 1) c := by
  obtain ⟨a, c, a', c', e1, e2, r1, r2, dj, x1, x2⟩ := h.st.kv
  rw [h5] at e1
  exact ⟨a, c, e1⟩
theorem IR.v9 (h : IR nb B k ka kc va vc w0 d v u) (h9 : d 9 = true) : ∃ a c, v 9 = .slice a (k + 1) c := by
  obtain ⟨a, c, a', c', e1, e2, r1, r2, dj, x1, x2⟩ := h.st.kv
  rw [h9] at e2
  exact ⟨a', c', e2⟩
end
theorem oper_append_run {P : Program} {o : Oper} {a : Act} {w : World} {K : Act → World → Prop} {Q : Exit → Act → World → Prop} (s x : Operand) (t : TypeId)
    (ho : o.op = .call { callee := .builtin .append, args := #[s, x], argTypes := #[t, t] }) (sv xv : Value) (hs : a.eval s = sv) (hx : a.eval x = xv) (r : Value) (u : World) (hr : (Builtin.append_ #[t, t] o.type #[sv, xv]).run P w = .ok r u) (hK : K (a.put o.dst r) u) : Oper.wp P o a w K Q := by
  unfold Oper.wp execOp
  simp only [ho, resolve, invoke, builtin, Sem.run_bind, Sem.run_pure, Result.andThen_ok, List.map_toArray, List.map_cons, List.map_nil, hs, hx, hr]
  exact hK
theorem rd_none {w : World} : RdN w none 0 none 0 [] [] := ⟨Reads.nil _ _, Reads.nil _ _, by decide, by decide, by decide, by decide, by decide, by decide⟩
theorem rd_two (w : World) (t : TypeId) (cs ds : Array Value) (L M : List Nat) (n m : Nat) (h1 : cs.toList = uvs L) (h2 : ds.toList = uvs M) (hn : L.length = n) (hm : M.length = m) (n9 : n ≤ 9) (m9 : m ≤ 9) :
    RdN ((w.alloc (.cells cs t)).alloc (.cells ds t)) (some ⟨w.heap.size, 0, none⟩) n (some ⟨w.heap.size + 1, 0, none⟩) m L M := by
  have r1 := (lit_room w 0 (Nat.zero_le _) cs t (uvs L) n h1 (by rw [uvs_len]; exact hn) (by unfold maxLen; omega)).chg (Chg.alloc [] _ (.cells ds t)) (by simp)
  have r2 := lit_room (w.alloc (.cells cs t)) 0 (Nat.zero_le _) ds t (uvs M) m h2 (by rw [uvs_len]; exact hm) (by unfold maxLen; omega)
  rw [show (w.alloc (.cells cs t)).heap.size = w.heap.size + 1 by simp] at r2
  exact ⟨r1.reads, r2.reads, by omega, by omega, by omega, by omega, by unfold maxLen; omega, by unfold maxLen; omega⟩
theorem rd_one (w : World) (t : TypeId) (cs : Array Value) (L : List Nat) (n : Nat) (h1 : cs.toList = uvs L) (hn : L.length = n) (n9 : n ≤ 9) : RdN (w.alloc (.cells cs t)) (some ⟨w.heap.size, 0, none⟩) n none 0 L [] := by
  have r1 := lit_room w 0 (Nat.zero_le _) cs t (uvs L) n h1 (by rw [uvs_len]; exact hn) (by unfold maxLen; omega)
  exact ⟨r1.reads, Reads.nil _ _, by omega, by decide, by omega, by decide, by unfold maxLen; omega, by decide⟩
end Go.Proofs.Ytbopfpdgoalfoaa
