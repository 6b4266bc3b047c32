/- A region in the body of a loop over a function (a round) is walked as any region is, where it holds no defer and no loop over a function. No program is named here. -/
import Derived.RangeFuncNested
import Derived.RangeFuncBound
import Derived.RangeFuncCalls
import Derived.RangeFuncLeaves
import Derived.Deep.RegionHeld3
import Derived.OrdersIn
import Derived.Shelf.RegionOpen
import Derived.OwnWalkIn
import Derived.TacticsInMore
import Derived.LoopNIn
import Derived.LoopIn
import Derived.RangeFuncBox
import Derived.Test.YtkfpkbmkmbnjcaaK
import Derived.Test.YtkfpkbmkmbnjcaaRv
namespace Go.Proofs.Ytkfpkbmkmbnjcaa
open Go.RowKit
set_option linter.unusedVariables false
set_option linter.unusedSimpArgs false

/-- The fence that lets all by, in round l. -/
abbrev wideR (l : Nat) : Fence := Fence.wide.inRound l

theorem calls_up {n l : Nat} {P : Program} {f : FuncId} {args : Array Value} {w : World} {R : Ending → World → Prop} (h : Calls P f args w R) : CallsIn (wideR l) n P f args w R :=
  CallsIn.inRound l (callsIn_wide.2 h)
theorem rows_up {n l : Nat} {P : Program} {row : String} {args : Array Value} {w : World} {R : Value → World → Prop} (h : Rows P row args w R) : RowsIn (wideR l) n P row args w R :=
  fun c cs _ => let ⟨v, w', r, s⟩ := h c cs; ⟨v, w', r, stepsIn_wide.2 s⟩

/-- No operation is a defer. -/
def noDefer (ops : List Oper) : Bool := ops.all fun o => match o.op with
  | .defer _ => false
  | _ => true
theorem noDefer_spec {ops : List Oper} (h : noDefer ops = true) : ∀ o ∈ ops, ∀ c, o.op ≠ .defer c := by
  intro o ho c e
  have := List.all_eq_true.1 h o ho
  rw [e] at this
  simp at this

theorem oper_up {n l : Nat} {P : Program} {o : Oper} {a : Act} {w : World} {next : Act → World → Prop} {Q : Exit → Act → World → Prop} (hd : ∀ c, o.op ≠ .defer c) (hL : ¬ LetsOut Q) (h : o.wp P a w next Q) : o.wpIn (wideR l) n P a w next Q := by
  refine ⟨fun _ _ => trivial, ?_⟩
  rw [Oper.semAt_eq _ _ _ hd]
  unfold Oper.wp at h
  generalize (execOp a.eval o).run P w = r at *
  cases r with
  | ok x w' =>
    cases x <;> simp only [Oper.upon, Oper.uponIn] at h ⊢ <;>
      first
        | exact h
        | exact ⟨fun e => by simp [Fence.wide] at e, calls_up h⟩
        | exact ⟨fun e => by simp [Fence.wide] at e, rows_up h⟩
        | exact h.elim
  | halt x w' => cases x <;> simp only [Oper.upon, Oper.uponIn] at h ⊢ <;> exact h

theorem list_up {n l : Nat} {P : Program} {ops : Array Oper} {Q : Exit → Act → World → Prop} (hL : ¬ LetsOut Q) : ∀ (L : List Oper) (a : Act) (w : World), (∀ o ∈ L, ∀ c, o.op ≠ .defer c) → wpList P ops Q L a w → wpListIn (wideR l) n P ops Q L a w
  | [], a, w, _, h => h
  | o :: rest, a, w, hd, h => by
    unfold wpList at h
    unfold wpListIn
    split
    · rename_i hw
      rw [if_pos hw] at h
      rcases h with h | ⟨_, h⟩
      · exact oper_up (hd o (by simp)) hL (Oper.wp_mono (fun a w h => list_up hL rest a w (fun o ho => hd o (by simp [ho])) h) h)
      · exact absurd h hL
    · rename_i hw
      rw [if_neg hw] at h
      exact ⟨fun _ _ => trivial, list_up hL rest _ w (fun o ho => hd o (by simp [ho])) h⟩

theorem opAt_up {n l : Nat} {P : Program} {ops : Array Oper} {Q : Exit → Act → World → Prop} (hL : ¬ LetsOut Q) (hd : ∀ o ∈ ops.toList, ∀ c, o.op ≠ .defer c) {i : Nat} {K : Act → World → Prop} {a : Act} {w : World} (h : wpOp P ops Q i K a w) : wpOpIn (wideR l) n P ops Q i K a w := by
  unfold wpOp at h
  unfold wpOpIn
  cases ho : ops[i]? with
  | none => simpa [ho] using h
  | some o =>
    simp only [ho] at h ⊢
    have hm : o ∈ ops.toList := by
      obtain ⟨hi, e⟩ := Array.getElem?_eq_some_iff.1 ho
      rw [← e]
      simp
    split
    · rename_i hw
      rw [if_pos hw] at h
      rcases h with h | ⟨_, h⟩
      · exact oper_up (hd o hm) hL h
      · exact absurd h hL
    · rename_i hw
      rw [if_neg hw] at h
      exact ⟨fun _ _ => trivial, h⟩

theorem any_up {n l : Nat} {P : Program} {ops : Array Oper} {Q : Exit → Act → World → Prop} {md : Region.Mode} (hL : ¬ LetsOut Q) (hd : ∀ o ∈ ops.toList, ∀ c, o.op ≠ .defer c) : ∀ (fuel : Nat) (listed : Array Bool) (a : Act) (w : World), wpAny P md ops Q fuel listed a w → wpAnyIn (wideR l) n P md ops Q fuel listed a w
  | 0, _, _, _, h => h
  | fuel + 1, _, _, _, h => ⟨h.1, fun i hi => opAt_up hL hd (wpOp_mono (fun a w h => any_up hL hd fuel _ a w h) (h.2 i hi))⟩

/-- A region in a round that does not draw its order: walked as any. -/
theorem region_up {n l id : Nat} {P : Program} {L : List Oper} {Q : Exit → Act → World → Prop} {a : Act} {w : World} (hd : noDefer L = true) (hL : ¬ LetsOut Q) (h : wpList P L.toArray Q L a w) : (Code.region id L.toArray false).wpIn (wideR l) n P Q a w :=
  wpIn_region_lit (list_up hL L a w (noDefer_spec hd) h)

/-- A region in a round that draws its order: S holds behind each operation. -/
theorem region_up_held {n l id : Nat} {P : Program} {L : List Oper} {Q : Exit → Act → World → Prop} {S : World → Prop} {a : Act} {w : World} (hd : noDefer L = true) (hm : P.follows .mixedOrders = true) (hL : ¬ LetsOut Q) (h0 : S w.drew) (h : S w.drew → wpAnyH P .any L.toArray Q S L.toArray.size (Array.replicate L.toArray.size false) a w.drew) : (Code.region id L.toArray true).wpIn (wideR l) n P Q a w :=
  wpIn_region_any hm (any_up hL (by simpa using noDefer_spec hd) _ _ _ _ (wpAny_of_held _ _ _ _ (h h0)))

/-- The same, any order. -/
theorem region_up_any {n l id : Nat} {P : Program} {L : List Oper} {Q : Exit → Act → World → Prop} {a : Act} {w : World} (hd : noDefer L = true) (hm : P.follows .mixedOrders = true) (hL : ¬ LetsOut Q) (h : wpAny P .any L.toArray Q L.toArray.size (Array.replicate L.toArray.size false) a w.drew) : (Code.region id L.toArray true).wpIn (wideR l) n P Q a w :=
  wpIn_region_any hm (any_up hL (by simpa using noDefer_spec hd) _ _ _ _ h)

/-- What a body that ends keeps: all that is no cells, from B on. -/
theorem Chg.keepsFrom {S : List Nat} {W W' : World} (g : Chg S W W') (B : Nat) (hS : ∀ k, k ∈ S → ∀ o, W.heap[k]? = some o → o.isCells = true) : KeepsFrom B W W' :=
  ⟨g.size, fun k o _ hk ho => (g.block k (Array.getElem?_eq_some_iff.1 hk).1 (fun hm => by have := hS k hm o hk; rw [ho] at this; cases this)).trans hk⟩
theorem isCells_of_cell {W : World} {p : Addr} {v : Value} (h : W.cell? p = some v) : ∀ o, W.heap[p.block]? = some o → o.isCells = true := by
  intro o ho
  unfold World.cell? at h
  rw [ho] at h
  cases o <;> simp at h ⊢ <;> rfl

/-! ### what the loop's own book-keeping turns: no cells, from B on -/
def Side (B : Nat) (W W' : World) : Prop := ∃ S : List Nat, Chg S W W' ∧ ∀ k, k ∈ S → B ≤ k ∧ ∀ o, W.heap[k]? = some o → o.isCells = false
section
variable {B : Nat} {W W' : World}
theorem Side.putObj {D : Nat} {o : Obj} (o' : Obj) (hD : B ≤ D) (h : W.heap[D]? = some o) (ho : o.isCells = false) : Side B W (W.putObj D o') :=
  ⟨[D], Chg.grown (row := some D) (grownBy_putObj' W D o'), fun k hk => by
    simp at hk
    subst hk
    exact ⟨hD, fun o'' h' => by rw [h] at h'; cases h'; exact ho⟩⟩
theorem Side.not {S : List Nat} (hS : ∀ k, k ∈ S → B ≤ k ∧ ∀ o, W.heap[k]? = some o → o.isCells = false) {p : Addr} {v : Value} (hc : W.cell? p = some v) : p.block ∉ S := fun hm => by
  have hlt := block_lt_of_cell hc
  have h1 := isCells_of_cell hc _ (Array.getElem?_eq_getElem hlt)
  rw [(hS _ hm).2 _ (Array.getElem?_eq_getElem hlt)] at h1
  cases h1
theorem Side.cell (h : Side B W W') {p : Addr} {v : Value} (hc : W.cell? p = some v) : W'.cell? p = some v := by
  obtain ⟨S, g, hS⟩ := h
  exact g.cellv hc (Side.not hS hc)
theorem Side.boxed (h : Side B W W') {b : Nat} {t : TypeId} {v : Value} (hb : Boxed W b t v) : Boxed W' b t v := by
  obtain ⟨S, g, hS⟩ := h
  exact (g.block b hb.lt (Side.not hS hb.cell)).trans hb
theorem Side.chg (h : Side B W W') {T : List Nat} {w0 : World} (g : Chg T w0 W) (hB : w0.heap.size ≤ B) : Chg T w0 W' := by
  obtain ⟨S, k, hS⟩ := h
  exact g.trans k (fun _ h _ => h) (fun i hi hlt => by have := (hS i hi).1; omega)
theorem Side.reads (h : Side B W W') {ao : Option Addr} {xs : List Value} (r : Reads W ao xs) : Reads W' ao xs := by
  intro hx
  obtain ⟨b, o, e, hc⟩ := r hx
  exact ⟨b, o, e, fun j u hu => h.cell (hc j u hu)⟩
theorem Side.fp {S : List Nat} (hS : ∀ k, k ∈ S → B ≤ k ∧ ∀ o, W.heap[k]? = some o → o.isCells = false) {B' : Nat} {ao : Option Addr} {n c : Nat} {xs : List Value} (r : Room W B' ao n c xs) : ∀ k, k ∈ fp ao c → k ∉ S := by
  intro k hk hm
  by_cases h0 : c = 0
  · subst h0; simp [fp_zero] at hk
  · obtain ⟨b, o, rfl, _, h1, _⟩ := r.at_ (by omega)
    rw [fp_some _ _ _ (by omega)] at hk
    simp at hk
    subst hk
    obtain ⟨v, hv⟩ := Option.isSome_iff_exists.1 (h1 0 (by omega)).1
    exact Side.not hS hv hm
theorem Side.room (h : Side B W W') {B' : Nat} {ao : Option Addr} {n c : Nat} {xs : List Value} (r : Room W B' ao n c xs) : Room W' B' ao n c xs := by
  obtain ⟨S, g, hS⟩ := h
  exact r.chg g (Side.fp hS r)
end
theorem ownFrom_side {β : Type} {B : Nat} {I : β → World → Prop} (h : ∀ s W W', I s W → Side B W W' → I s W') : OwnFrom B I := fun s W W' row hs hg hr =>
  h s W W' hs ⟨row.toList, Chg.grown hg, fun k hk => by
    cases row with
    | none => simp at hk
    | some r =>
      simp at hk
      subst hk
      obtain ⟨h1, o, h2, h3⟩ := hr k rfl
      exact ⟨h1, fun o' h' => by rw [h2] at h'; cases h'; exact h3⟩⟩
theorem Boxed.chg {W W' : World} {S : List Nat} {b : Nat} {t : TypeId} {v : Value} (h : Boxed W b t v) (g : Chg S W W') (hn : b ∉ S) : Boxed W' b t v := (g.block b h.lt hn).trans h
theorem Boxed.cells {W : World} {b : Nat} {t : TypeId} {v : Value} (h : Boxed W b t v) : ∀ o, W.heap[b]? = some o → o.isCells = true := isCells_of_cell (p := ⟨b, 0, none⟩) h.cell

theorem Room.cells {W : World} {B : Nat} {ao : Option Addr} {n c : Nat} {xs : List Value} (r : Room W B ao n c xs) : ∀ k, k ∈ fp ao c → ∀ o, W.heap[k]? = some o → o.isCells = true := by
  intro k hk
  by_cases h0 : c = 0
  · subst h0; simp [fp_zero] at hk
  · obtain ⟨b, o, rfl, _, h1, _⟩ := r.at_ (by omega)
    rw [fp_some _ _ _ (by omega)] at hk
    simp at hk
    subst hk
    obtain ⟨v, hv⟩ := Option.isSome_iff_exists.1 (h1 0 (by omega)).1
    exact isCells_of_cell hv
/-- A region in a round that draws its order and ends with a store to what it loads. -/
theorem walks_up {n l id : Nat} {P : Program} {L : List Oper} {Q : Exit → Act → World → Prop} {a : Act} {w : World} (S : World → Prop) (m : Nat) (hd : noDefer L = true) (hm : P.follows .mixedOrders = true) (hL : ¬ LetsOut Q) (hz : L.toArray.size = m + 1)
    (h : Walks P .any L.toArray Q S m (m + 1) (Array.replicate (m + 1) false) a w.drew) : (Code.region id L.toArray true).wpIn (wideR l) n P Q a w := by
  refine region_up_any hd hm hL ?_
  rw [hz]
  exact Whichever.any _ _ _ _ (h ⟨by simp [hz], fun j oj _ hl => (by rw [getD_replicate_false] at hl; cases hl), fun t _ ht => getD_in (by simp; omega) (getD_replicate_false _ _)⟩)
theorem wpListIn_make_k {F : Fence} {n : Nat} {P : Program} (w : World) {ops : Array Oper} {rest : List Oper} {o : Oper} {a : Act} {Q : Exit → Act → World → Prop}
    (hg : o.guard = none) (l c : Operand) (t : TypeId) (hop : o.op = Op.makeSlice t l c)
    (e : TypeId) (bytes : Nat) (helt : Elt P t e bytes)
    (B : Nat) (kl kc : IntKind) (C : Int) (N : Nat) (hl : a.eval l = .int kl 0) (hc : a.eval c = .int kc C) (hC : C = (N : Int)) (b2 : bytes * N ≤ 281474976710656) (b3 : N ≤ maxLen) (hB : B ≤ w.heap.size)
    (hK : ∀ w', Room w' B (some ⟨w.heap.size, 0, none⟩) 0 N [] → Chg [] w w' → wpListIn F n P ops Q rest (a.put o.dst (.slice (some ⟨w.heap.size, 0, none⟩) 0 N)) w') :
    wpListIn F n P ops Q (o :: rest) a w := by
  obtain ⟨h1, i, z, h2, h3, h4, h5, _⟩ := helt
  exact wpListIn_make_own w hg l c t hop B e i z 1 h1 h2 h3 h4 kl kc C N hl hc hC (by rw [h5]; exact b2) b3 hB
    (fun w' h g => hK w' (Room.of_owns h) (by simpa using Chg.grown g))
theorem step_append_2 {P : Program} {ops : Array Oper} {o : Oper} {a : Act} {w : World} {K : Act → World → Prop} {Q : Exit → Act → World → Prop} {E : Prop}
    (hg : o.guard = none) (s x : Operand) (t : TypeId) (ho : o.op = .call { callee := .builtin .append, args := #[s, x], argTypes := #[t, t] })
    (e : TypeId) (bytes : Nat) (helt : Elt P t e bytes)
    (B : Nat) (ao : Option Addr) (n c : Nat) (xs : List Value) (hs : a.eval s = .slice ao n c) (h : Room w B ao n c xs) (hB : B ≤ w.heap.size)
    (u : Value) (cx : Nat) (hxe : a.eval x = .slice (some ⟨w.heap.size, 0, none⟩) 1 cx) (hone : u.oneCell' = true)
    (h63 : n + 1 ≤ maxLen) (hbytes : (n + 1) * bytes ≤ 140737488355328)
    (hK : ∀ ao' c' w', Room w' B ao' (n + 1) c' (xs ++ [u]) → Chg (fp ao c) w w' → (fp ao' c' = fp ao c ∨ fp ao' c' = [w.heap.size + 1]) → K (a.put o.dst (.slice ao' (n + 1) c')) w') :
    if Region.wanted o (yielded ops a.tmps) = true then Oper.wp P o a (w.alloc (.cells #[u] e)) K Q else E := by
  have hw : Region.wanted o (yielded ops a.tmps) = true := by simp [Region.wanted, hg]
  rw [if_pos hw]
  obtain ⟨ao', c', w', hr, h2, h3, h4⟩ := run_append_k (P := P) (w.alloc (.cells #[u] e)) t o.type e bytes helt B ao n c xs (h.chg (Chg.alloc [] w _) (by simp)) (by simp; omega) (some ⟨w.heap.size, 0, none⟩) 1 cx [u] (Reads.new w #[u] e) rfl (by simpa using hone) h63 hbytes
  unfold Oper.wp execOp
  simp only [ho, resolve, invoke, builtin, Sem.run_bind, Sem.run_pure, Result.andThen_ok, List.map_toArray, List.map_cons, List.map_nil, hs, hxe, hr]
  exact hK _ _ _ h2 ((Chg.alloc [] w _).trans h3 (by simp) (fun k h _ => h)) (by simpa using h4)

end Go.Proofs.Ytkfpkbmkmbnjcaa
