/- A region that draws its order and whose last operation, in whatever order, ends what the reads lean on (x.f = append(x.f, v)): the condition S is asked behind each operation but that one. No program is named here. -/
import Derived.OrdersHeld
import Derived.StillTail
import Derived.Tactics
import Derived.WalkKit
namespace Go.Proofs.Ytlaeonemlodhmaa
open Go.RowKit
set_option linter.unusedVariables false

section
variable {P : Program} {ops : Array Oper} {Q : Exit → Act → World → Prop} {md : Region.Mode} {S : World → Prop} {m : Nat}
/-- Whatever order is drawn from here on: S holds behind each operation ahead of number m. -/
def Whichever (P : Program) (md : Region.Mode) (ops : Array Oper) (Q : Exit → Act → World → Prop) (S : World → Prop) (m : Nat) : Nat → Array Bool → Act → World → Prop
  | 0, done, a, w => Region.ready md ops done = [] ∧ Q .normal a w
  | n + 1, done, a, w => (Region.ready md ops done = [] → Q .normal a w) ∧ ∀ i ∈ Region.ready md ops done,
      wpOp P ops Q i (fun b u => (i < m → S u) ∧ Whichever P md ops Q S m n (done.setIfInBounds i true) b u) a w
theorem Whichever.any : ∀ (n : Nat) (done : Array Bool) (a : Act) (w : World), Whichever P md ops Q S m n done a w → wpAny P md ops Q n done a w
  | 0, _, _, _, h => h
  | n + 1, _, _, _, h => ⟨h.1, fun i hi => wpOp_mono (fun b u k => Whichever.any n _ b u k.2) (h.2 i hi)⟩
theorem still_ready {i j : Nat} {oj : Oper} {done : Array Bool} (hi : i ∈ Region.ready md ops done) (hj : j ∈ Region.ready md ops done) (hoj : ops[j]? = some oj) : ∀ e ∈ oj.after, Region.binds md e = true → e.on ≠ i := by
  intro e he hb heq
  have hun := (mem_ready.1 hi).1
  obtain ⟨_, o', ho', hall⟩ := mem_ready.1 hj
  cases Option.some.inj (hoj.symm.trans ho')
  have h1 := hall e he hb
  rw [heq, getD_both hun] at h1
  cases h1
theorem Whichever.first {i : Nat} {oi : Oper} {v : Value} (hi : ops[i]? = some oi) (him : i < m) (hm : ops.size = m + 1) (hs : Region.sinkB md ops m = true) (hc : Region.chainB md ops m = true) (hsel : ∀ (j : Nat) (o : Oper) cs b, ops[j]? = some o → o.op ≠ .select cs b)
    (hQ : ∀ c a w, Q (.panic c) (a.put oi.dst v) w → Q (.panic c) a w) : ∀ (n : Nat) (done : Array Bool) (a : Act) (w : World), HeadInv md ops m done →
      (∀ j oj, ops[j]? = some oj → j ≠ i → done.getD j true = false → (∀ e ∈ oj.after, Region.binds md e = true → e.on ≠ i) → oi.apart ops oj = true) →
      i ∈ Region.ready md ops done → YieldsIf P ops S oi v a → S w → Whichever P md ops Q S m n (done.setIfInBounds i true) (a.put oi.dst v) w → Whichever P md ops Q S m (n + 1) done a w := by
  intro n
  induction n with
  | zero =>
    intro done a w _ _ hr hy hS H
    refine ⟨fun h => absurd hr (by rw [h]; simp), fun j hj => ?_⟩
    by_cases hji : j = i
    · subst hji
      exact hy.wpOp hi hS ⟨fun _ => hS, H⟩
    · exact absurd (ready_mono hj hji) (by rw [H.1]; simp)
  | succ n ih =>
    intro done a w inv hfree hr hy hS H
    refine ⟨fun h => absurd hr (by rw [h]; simp), fun j hj => ?_⟩
    by_cases hji : j = i
    · subst hji
      exact hy.wpOp hi hS ⟨fun _ => hS, H⟩
    · obtain ⟨hjun, oj, hoj, _⟩ := mem_ready.1 hj
      have hjs : j < ops.size := (Array.getElem?_eq_some_iff.1 hoj).1
      have hjm : j < m := by
        rcases Nat.lt_or_ge j m with h | h
        · exact h
        · exact absurd hj (tail_waits hs hc (by omega) inv (m - i) i rfl him (mem_ready.1 hr).1 j h)
      have h2 := wpOp_putIf hoj (hfree j oj hoj hji hjun (still_ready hr hj hoj)) (fun cs b => hsel i oi cs b hi) (fun cs b => hsel j oj cs b hoj) hQ hy (H.2 j (ready_mono hj hji))
      have hfree' : ∀ k ok, ops[k]? = some ok → k ≠ i → (done.setIfInBounds j true).getD k true = false → (∀ e ∈ ok.after, Region.binds md e = true → e.on ≠ i) → oi.apart ops ok = true := fun k ok hk hki hun hno => by
        refine hfree k ok hk hki ?_ hno
        by_cases hjk : j = k
        · rw [← hjk]; exact hjun
        · rwa [getD_set_ne true hjk] at hun
      refine wpOp_mono (fun b u k => ⟨fun _ => k.2.1 hjm, ih (done.setIfInBounds j true) b u (inv.set hj hjm) hfree' (ready_mono hr (Ne.symm hji)) k.1 (k.2.1 hjm) ?_⟩) h2
      rw [Array.setIfInBounds_comm _ _ hji]
      exact k.2.2
/-- What the walk stands at. -/
def Walks (P : Program) (md : Region.Mode) (ops : Array Oper) (Q : Exit → Act → World → Prop) (S : World → Prop) (m n : Nat) (done : Array Bool) (a : Act) (w : World) : Prop :=
  HeadInv md ops m done → Whichever P md ops Q S m n done a w
/-- Number i is taken first: a load of S's cells, or what asks nothing of the world. -/
theorem walks_take {n : Nat} {done : Array Bool} {a : Act} {w : World} (i : Nat) {oi : Oper} {v : Value} (hi : ops[i]? = some oi) (hB : (decide (i < m) && decide (ops.size = m + 1) && Region.sinkB md ops m && Region.chainB md ops m && Region.noSelect ops && Region.free md ops done i && (Region.ready md ops done).contains i) = true)
    (hQ : ∀ c a w, Q (.panic c) (a.put oi.dst v) w → Q (.panic c) a w) (hy : YieldsIf P ops S oi v a) (hS : S w)
    (h : Walks P md ops Q S m n (done.setIfInBounds i true) (a.put oi.dst v) w) : Walks P md ops Q S m (n + 1) done a w := fun inv => by
  simp only [Bool.and_eq_true, decide_eq_true_eq] at hB
  obtain ⟨⟨⟨⟨⟨⟨him, hm⟩, hs⟩, hc⟩, hsel⟩, hf⟩, hr⟩ := hB
  have hr' : i ∈ Region.ready md ops done := by simpa using hr
  exact Whichever.first hi him hm hs hc (Region.noSelect_spec hsel) hQ n done a w inv (Region.free_spec hi hf) hr' hy hS (h (inv.set hr' him))
/-- One operation alone may come up: it is carried out. -/
theorem walks_one {n : Nat} {done : Array Bool} {a : Act} {w : World} (i : Nat) {o : Oper} (hi : ops[i]? = some o) (him : i < m) (hr : Region.ready md ops done = [i])
    (h : ∀ K : Act → World → Prop, Hid (∀ b u, S u → Walks P md ops Q S m n (done.setIfInBounds i true) b u → K b u) → if Region.wanted o (yielded ops a.tmps) = true then Oper.wp P o a w K Q else K (a.put o.dst undef) w) : Walks P md ops Q S m (n + 1) done a w := fun inv => by
  refine ⟨fun h0 => absurd h0 (by rw [hr]; simp), fun j hj => ?_⟩
  rw [hr] at hj
  obtain rfl : j = i := by simpa using hj
  have inv' := inv.set (i := j) (by rw [hr]; simp) him
  have h1 := h (fun b u => (j < m → S u) ∧ Whichever P md ops Q S m n (done.setIfInBounds j true) b u) (fun b u hS hW => ⟨fun _ => hS, hW inv'⟩)
  unfold wpOp
  simp only [hi]
  by_cases hw : Region.wanted o (yielded ops a.tmps) = true
  · rw [if_pos hw] at h1 ⊢
    exact Or.inl h1
  · rw [if_neg hw] at h1 ⊢
    exact h1
/-- The last one. -/
theorem walks_last {n : Nat} {done : Array Bool} {a : Act} {w : World} (i : Nat) {o : Oper} (hi : ops[i]? = some o) (hr : Region.ready md ops done = [i]) (hr2 : Region.ready md ops (done.setIfInBounds i true) = []) (him : m ≤ i)
    (h : ∀ K : Act → World → Prop, Hid (∀ b u, Q .normal b u → K b u) → if Region.wanted o (yielded ops a.tmps) = true then Oper.wp P o a w K Q else K (a.put o.dst undef) w) : Walks P md ops Q S m (n + 1) done a w := fun inv => by
  refine ⟨fun h0 => absurd h0 (by rw [hr]; simp), fun j hj => ?_⟩
  rw [hr] at hj
  obtain rfl : j = i := by simpa using hj
  have fin : ∀ n b u, Q .normal b u → Whichever P md ops Q S m n (done.setIfInBounds j true) b u := fun n b u hq => by
    cases n with
    | zero => exact ⟨hr2, hq⟩
    | succ n => exact ⟨fun _ => hq, by rw [hr2]; simp⟩
  have h1 := h (fun b u => (j < m → S u) ∧ Whichever P md ops Q S m n (done.setIfInBounds j true) b u) (fun b u hq => ⟨fun h => by omega, fin n b u hq⟩)
  unfold wpOp
  simp only [hi]
  by_cases hw : Region.wanted o (yielded ops a.tmps) = true
  · rw [if_pos hw] at h1 ⊢
    exact Or.inl h1
  · rw [if_neg hw] at h1 ⊢
    exact h1
/-- The beginning. -/
theorem walks_begin {id : Nat} {a : Act} {w : World} (S : World → Prop) (m : Nat) (hm : P.follows .mixedOrders = true) (hz : ops.size = m + 1)
    (h : Walks P .any ops Q S m (m + 1) (Array.replicate (m + 1) false) a w.drew) : (Code.region id ops true).wp P Q a w := by
  refine wp_region_any hm ?_
  rw [hz]
  exact Whichever.any _ _ _ _ (h ⟨by simp [hz], fun j oj _ hl => (by rw [getD_replicate_false] at hl; cases hl), fun t _ ht => getD_in (by simp; omega) (getD_replicate_false _ _)⟩)
end
end Go.Proofs.Ytlaeonemlodhmaa
