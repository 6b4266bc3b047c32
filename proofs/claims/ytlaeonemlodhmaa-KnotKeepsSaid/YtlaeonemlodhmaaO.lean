/- A region that draws its order, by what holds of each slot that has come up (an invariant in place of a branch for each order). No program is named here. -/
import Derived.Test.YtlaeonemlodhmaaK
import Derived.Test.YtlaeonemlodhmaaY
import Derived.OrdersHeld
import Derived.StillTail
import Derived.Tactics
import Derived.WalkKit
namespace Go.Proofs.Ytlaeonemlodhmaa
open Go.RowKit
set_option linter.unusedVariables false
set_option linter.unusedSimpArgs false

def upd (v : Nat → Value) (k : Nat) (x : Value) : Nat → Value := fun j => if j = k then x else v j
theorem upd_same (v : Nat → Value) (k : Nat) (x : Value) : upd v k x k = x := if_pos rfl
theorem upd_other (v : Nat → Value) {k j : Nat} (x : Value) (h : j ≠ k) : upd v k x j = v j := if_neg h
section
variable {P : Program} {ops : Array Oper} {Q : Exit → Act → World → Prop}
/-- Each waits for those ahead of it alone; none is guarded. -/
def lowB (ops : Array Oper) : Bool := (List.range ops.size).all fun j => ((ops[j]?).map fun o => o.guard.isNone && o.after.all fun e => decide (e.on < j)).getD true
theorem lowB_spec (h : lowB ops = true) {j : Nat} {o : Oper} (ho : ops[j]? = some o) : o.guard = none ∧ ∀ e ∈ o.after, e.on < j := by
  have hj := (Array.getElem?_eq_some_iff.1 ho).1
  have h1 := List.all_eq_true.1 h j (List.mem_range.2 hj)
  simp only [ho, Option.map_some, Option.getD_some, Bool.and_eq_true, Option.isNone_iff_eq_none, Array.all_eq_true_iff_forall_mem, decide_eq_true_eq] at h1
  exact h1
theorem ready_none (hl : lowB ops = true) {md : Region.Mode} {done : Array Bool} (hz : done.size = ops.size) (hr : Region.ready md ops done = []) : ∀ j, j < ops.size → done.getD j false = true := by
  intro j
  induction j using Nat.strongRecOn with
  | _ j ih =>
    intro hj
    cases hd : done.getD j false with
    | true => rfl
    | false =>
      have hm : j ∈ Region.ready md ops done := mem_ready.2 ⟨getD_in (by omega) hd, ops[j], Array.getElem?_eq_getElem hj, fun e he hb => by
        have := (lowB_spec hl (Array.getElem?_eq_getElem hj)).2 e he
        exact ih e.on this (by omega)⟩
      rw [hr] at hm
      cases hm
/-- One operation more, in whatever order. -/
def StepIs (P : Program) (Q : Exit → Act → World → Prop) (I : Array Bool → (Nat → Value) → World → Prop) (fr : (Nat → Value) → Act) (m : Nat) (i : Nat) (o : Oper) : Prop :=
  ∀ done v w, done.size = m → done.getD i false = false → (∀ e ∈ o.after.toList, Region.binds .any e = true → done.getD e.on false = true) → I done v w →
    ∀ K : Act → World → Prop, Hid (∀ x u, I (done.setIfInBounds i true) (upd v i x) u → K (fr (upd v i x)) u) → Oper.wp P o (fr v) w K Q
def StepsFrom (P : Program) (Q : Exit → Act → World → Prop) (I : Array Bool → (Nat → Value) → World → Prop) (fr : (Nat → Value) → Act) (m : Nat) : Nat → List Oper → Prop
  | _, [] => True
  | k, o :: l => StepIs P Q I fr m k o ∧ StepsFrom P Q I fr m (k + 1) l
theorem steps_get {I : Array Bool → (Nat → Value) → World → Prop} {fr : (Nat → Value) → Act} {m : Nat} : ∀ {l : List Oper} {k : Nat}, StepsFrom P Q I fr m k l → ∀ {i : Nat} {o : Oper}, l[i]? = some o → StepIs P Q I fr m (k + i) o
  | [], _, _, _, _, h => by simp at h
  | a :: l, k, hs, 0, o, h => by simp at h; subst h; exact hs.1
  | a :: l, k, hs, i + 1, o, h => by
    have := steps_get hs.2 (i := i) (by simpa using h)
    rwa [show k + 1 + i = k + (i + 1) by omega] at this
theorem any_inv (I : Array Bool → (Nat → Value) → World → Prop) (fr : (Nat → Value) → Act) (hl : lowB ops = true) (hs : StepsFrom P Q I fr ops.size 0 ops.toList)
    (fin : ∀ done v w, (∀ j, j < ops.size → done.getD j false = true) → I done v w → Q .normal (fr v) w) :
    ∀ (n : Nat) (done : Array Bool) (v : Nat → Value) (w : World), done.size = ops.size → (∃ L : List Nat, L.length ≤ n ∧ ∀ j, j < ops.size → done.getD j false = false → j ∈ L) → I done v w → wpAny P .any ops Q n done (fr v) w := by
  intro n
  induction n with
  | zero =>
    rintro done v w hz ⟨L, hL, hm⟩ hI
    have hL0 : L = [] := List.eq_nil_of_length_eq_zero (by omega)
    subst hL0
    have hall : ∀ j, j < ops.size → done.getD j false = true := fun j hj => by
      cases hd : done.getD j false with
      | true => rfl
      | false => exact absurd (hm j hj hd) (by simp)
    refine ⟨?_, fin done v w hall hI⟩
    cases hr : Region.ready .any ops done with
    | nil => rfl
    | cons i r =>
      have hi : i ∈ Region.ready .any ops done := by rw [hr]; simp
      obtain ⟨h1, o, ho, _⟩ := mem_ready.1 hi
      have := hall i (Array.getElem?_eq_some_iff.1 ho).1
      rw [getD_both h1] at this
      cases this
  | succ n ih =>
    rintro done v w hz ⟨L, hL, hm⟩ hI
    refine ⟨fun hr => fin done v w (ready_none hl hz hr) hI, fun i hi => ?_⟩
    obtain ⟨h1, o, ho, hd⟩ := mem_ready.1 hi
    have hio := (Array.getElem?_eq_some_iff.1 ho).1
    have hst := steps_get hs (i := i) (o := o) (by simpa using ho)
    rw [Nat.zero_add] at hst
    have hw := hst done v w hz (getD_both h1) (fun e he => hd e (by simpa using he)) hI (wpAny P .any ops Q n (done.setIfInBounds i true)) (fun x u hI' => ih _ _ _ (by simpa using hz) ⟨L.erase i, by
      have := List.length_erase_of_mem (hm i hio (getD_both h1)); have := List.length_pos_of_mem (hm i hio (getD_both h1)); omega, fun j hj hdj => by
      have hji : j ≠ i := fun e => by subst e; simp [hz, hio] at hdj
      rw [getD_set_ne false (Ne.symm hji)] at hdj
      exact (List.mem_erase_of_ne hji).2 (hm j hj hdj)⟩ hI')
    unfold wpOp
    simp only [ho]
    rw [if_pos (by simp [Region.wanted, (lowB_spec hl ho).1])]
    exact Or.inl hw
/-- The region, by an invariant. -/
theorem region_inv {id : Nat} {w : World} (I : Array Bool → (Nat → Value) → World → Prop) (fr : (Nat → Value) → Act) (v0 : Nat → Value) (hm : P.follows .mixedOrders = true) (hl : lowB ops = true)
    (h0 : I (Array.replicate ops.size false) v0 w.drew) (hs : StepsFrom P Q I fr ops.size 0 ops.toList)
    (fin : ∀ done v w, (∀ j, j < ops.size → done.getD j false = true) → I done v w → Q .normal (fr v) w) : (Code.region id ops true).wp P Q (fr v0) w :=
  wp_region_any hm (any_inv I fr hl hs fin ops.size _ v0 w.drew (by simp) ⟨List.range ops.size, by simp, fun j hj _ => List.mem_range.2 hj⟩ h0)

/-! ### where nothing is turned that the slots speak of -/
def SlotIs (P : Program) (Q : Exit → Act → World → Prop) (F : Nat → Value → World → Prop) (fr : (Nat → Value) → Act) (i : Nat) (o : Oper) : Prop :=
  ∀ v w, (∀ e ∈ o.after.toList, Region.binds .any e = true → F e.on (v e.on) w) → ∀ K : Act → World → Prop, Hid (∀ x u, F i x u → Chg [] w u → K (fr (upd v i x)) u) → Oper.wp P o (fr v) w K Q
def SlotsFrom (P : Program) (Q : Exit → Act → World → Prop) (F : Nat → Value → World → Prop) (fr : (Nat → Value) → Act) : Nat → List Oper → Prop
  | _, [] => True
  | k, o :: l => SlotIs P Q F fr k o ∧ SlotsFrom P Q F fr (k + 1) l
theorem slots_steps {F : Nat → Value → World → Prop} {fr : (Nat → Value) → Act} {w0 : World} {m : Nat} (hF : ∀ i x w u, Chg [] w u → F i x w → F i x u) : ∀ {l : List Oper} {k : Nat}, SlotsFrom P Q F fr k l →
    StepsFrom P Q (fun done v w => Chg [] w0 w ∧ ∀ i, done.getD i false = true → F i (v i) w) fr m k l
  | [], _, _ => trivial
  | o :: l, k, hs => ⟨fun done v w hz hu hd hI K hK => hs.1 v w (fun e he hb => hI.2 _ (hd e he hb)) K (mkHid fun x u hx hg => hK.out x u ⟨hI.1.then hg, fun i hi => by
      by_cases hik : i = k
      · subst hik; rw [upd_same]; exact hx
      · rw [getD_set_ne false (Ne.symm hik)] at hi
        rw [upd_other v x hik]
        exact hF _ _ _ _ hg (hI.2 i hi)⟩), slots_steps hF hs.2⟩
theorem region_slots {id : Nat} {w : World} (F : Nat → Value → World → Prop) (fr : (Nat → Value) → Act) (v0 : Nat → Value) (hm : P.follows .mixedOrders = true) (hl : lowB ops = true) (hF : ∀ i x w u, Chg [] w u → F i x w → F i x u)
    (hs : SlotsFrom P Q F fr 0 ops.toList) (fin : ∀ v u, Chg [] w u → (∀ j, j < ops.size → F j (v j) u) → Q .normal (fr v) u) : (Code.region id ops true).wp P Q (fr v0) w :=
  region_inv (fun done v u => Chg [] w u ∧ ∀ i, done.getD i false = true → F i (v i) u) fr v0 hm hl ⟨Chg.drew [] w, fun i hi => by rw [getD_replicate_false] at hi; cases hi⟩ (slots_steps hF hs)
    (fun done v u hd hI => fin v u hI.1 fun j hj => hI.2 j (hd j hj))
end
/-! ### what is done, as a function -/
def setd (d : Nat → Bool) (k : Nat) : Nat → Bool := fun j => if j = k then true else d j
section
variable {P : Program} {ops : Array Oper} {Q : Exit → Act → World → Prop}
def MoveIs (P : Program) (Q : Exit → Act → World → Prop) (I : (Nat → Bool) → (Nat → Value) → World → Prop) (fr : (Nat → Value) → Act) (i : Nat) (o : Oper) : Prop :=
  ∀ d v w, d i = false → (∀ e ∈ o.after.toList, Region.binds .any e = true → d e.on = true) → I d v w →
    ∀ K : Act → World → Prop, Hid (∀ x u, I (setd d i) (upd v i x) u → K (fr (upd v i x)) u) → Oper.wp P o (fr v) w K Q
def MovesFrom (P : Program) (Q : Exit → Act → World → Prop) (I : (Nat → Bool) → (Nat → Value) → World → Prop) (fr : (Nat → Value) → Act) : Nat → List Oper → Prop
  | _, [] => True
  | k, o :: l => MoveIs P Q I fr k o ∧ MovesFrom P Q I fr (k + 1) l
theorem moves_steps {I : (Nat → Bool) → (Nat → Value) → World → Prop} {fr : (Nat → Value) → Act} {m : Nat} : ∀ {l : List Oper} {k : Nat}, k + l.length ≤ m → MovesFrom P Q I fr k l → StepsFrom P Q (fun done v w => I (fun j => done.getD j false) v w) fr m k l
  | [], _, _, _ => trivial
  | o :: l, k, hm, hs => ⟨fun done v w hz hu hd hI K hK => hs.1 _ v w hu hd hI K (mkHid fun x u hx => hK.out x u (by
      have e : (fun j => (done.setIfInBounds k true).getD j false) = setd (fun j => done.getD j false) k := by
        funext j
        unfold setd
        by_cases hjk : j = k
        · subst hjk
          have : j < done.size := by rw [hz]; simp at hm; omega
          simp [this]
        · rw [if_neg hjk, getD_set_ne false (Ne.symm hjk)]
      show I (fun j => (done.setIfInBounds k true).getD j false) _ _
      rw [e]
      exact hx)), moves_steps (by simp at hm; omega) hs.2⟩
/-- The region, by an invariant on what is done, what stands in each slot, and the world. -/
theorem region_moves {id : Nat} {w : World} (I : (Nat → Bool) → (Nat → Value) → World → Prop) (fr : (Nat → Value) → Act) (v0 : Nat → Value) (hm : P.follows .mixedOrders = true) (hl : lowB ops = true)
    (h0 : I (fun _ => false) v0 w.drew) (hs : MovesFrom P Q I fr 0 ops.toList)
    (fin : ∀ d v w, (∀ j, j < ops.size → d j = true) → I d v w → Q .normal (fr v) w) : (Code.region id ops true).wp P Q (fr v0) w :=
  region_inv (fun done v w => I (fun j => done.getD j false) v w) fr v0 hm hl (by
    have e : (fun j => (Array.replicate ops.size false).getD j false) = fun _ => false := funext fun j => getD_replicate_false _ _
    show I (fun j => (Array.replicate ops.size false).getD j false) _ _
    rw [e]
    exact h0) (moves_steps (by simp) hs) (fun done v w hd hI => fin _ v w hd hI)
end
/-! ### appends that make a row of their own -/
section
variable {P : Program} (w : World)
theorem run_append_new (t ty e : TypeId) (bytes : Nat) (helt : Elt P t e bytes)
    (B : Nat) (ao : Option Addr) (n c : Nat) (xs : List Value) (hxs : Reads w ao xs) (hn : xs.length = n) (hB : B ≤ w.heap.size)
    (ax : Option Addr) (m cx : Nat) (news : List Value) (hx : Reads w ax news) (hm : news.length = m) (hno : c < n + m)
    (h63 : n + m ≤ maxLen) (hbytes : (n + m) * bytes ≤ 140737488355328) :
    ∃ c' w', (Builtin.append_ #[t, t] ty #[.slice ao n c, .slice ax m cx]).run P w = .ok (.slice (some ⟨w.heap.size, 0, none⟩) (n + m) c') w' ∧ Room w' B (some ⟨w.heap.size, 0, none⟩) (n + m) c' (xs ++ news) ∧ Chg [] w w' := by
  obtain ⟨ht, i, z, hi, hz, hsize, hby, hzs⟩ := helt
  subst hby
  have hlen : (xs ++ news).length = n + m := by rw [List.length_append, hn, hm]
  have hml : maxLen = 9223372036854775807 := rfl
  have hf : ∀ (w0 : World) (ao : Option Addr) (n c : Nat) (xs : List Value), w0.heap = w.heap → Reads w ao xs → xs.length = n → (Builtin.firstCells i.size n (.slice ao n c)).run P w0 = .ok xs.toArray w0 := by
    intro w0 ao n c xs hw0 hx hm
    cases ao with
    | none =>
      have : xs = [] := by
        cases hn : xs with
        | nil => rfl
        | cons u r => obtain ⟨b, o, e, _⟩ := hx (by rw [hn]; simp); cases e
      subst this
      rw [run_firstCells_none]
    | some ad =>
      refine run_firstCells_some (P := P) w0 i.size n ad n c xs (by simp [hsize, hm]) (fun j u hu => ?_)
      have := hx.addr ad rfl j u hu
      simpa [World.cell?, hw0] using this
  have hroom : ¬ n + m ≤ c := by omega
  have hfo := hf w.drew ao n c xs rfl hxs hn
  have hfn := hf w.drew ax m cx news rfl hx hm
  have hge := grownCap_ge w (n + m) c e
  have hcm := grownCap_le_maxLen w (n + m) c e h63
  have h63' : ¬ (9223372036854775807 < ((n : Int) + (m : Int))) := by omega
  have h48' : ¬ (281474976710656 < Builtin.nextslicecap (n + m) c * i.bytes) := by have := growslice_fits (old := c) (need := n + m) (by omega) hbytes; omega
  refine ⟨grownCap w (n + m) c e, w.drew.alloc (.cells (xs.toArray ++ news.toArray ++ Builtin.zeroCells z.cells (grownCap w (n + m) c e - (n + m))) e), ?_, ?_, ⟨rfl, rfl, rfl, by simp, fun k hk _ => Below.heap_alloc w.drew _ k hk⟩⟩
  · simp [Builtin.append_, run_underlying ht, sizeOf, typeInfo, zeroValue, hi, hz, Builtin.lenOf, hroom, h63', h48', Question.forced, hfn, hfo, newRow, grownCap]
    congr 2
    apply Array.ext'
    simp [List.append_assoc]
  · refine Room.of_owns (e := e) ⟨by rw [hlen]; simp, .inr ⟨w.heap.size, _, _, rfl, hB, heap_alloc_new w.drew _, hge, hcm, ?_, ?_⟩⟩
    · simp only [Array.size_append, List.size_toArray, size_zeroCells, hzs, hn, hm]
      omega
    · simp only [Array.toList_append, List.append_assoc]
      rw [← List.append_assoc, Nat.mul_one, ← hlen]
      exact List.take_left
end
theorem oper_append_new {P : Program} {o : Oper} {a : Act} {w : World} {K : Act → World → Prop} {Q : Exit → Act → World → Prop} (s x : Operand) (t : TypeId)
    (ho : o.op = .call { callee := .builtin .append, args := #[s, x], argTypes := #[t, t] })
    (e : TypeId) (bytes : Nat) (helt : Elt P t e bytes)
    (B : Nat) (ao : Option Addr) (n c : Nat) (xs : List Value) (hs : a.eval s = .slice ao n c) (h : Reads w ao xs) (hn : xs.length = n) (hB : B ≤ w.heap.size)
    (ax : Option Addr) (m cx : Nat) (news : List Value) (hxe : a.eval x = .slice ax m cx) (hx : Reads w ax news) (hm : news.length = m) (hno : c < n + m)
    (h63 : n + m ≤ maxLen) (hbytes : (n + m) * bytes ≤ 140737488355328)
    (hK : ∀ c' w', Room w' B (some ⟨w.heap.size, 0, none⟩) (n + m) c' (xs ++ news) → Chg [] w w' → K (a.put o.dst (.slice (some ⟨w.heap.size, 0, none⟩) (n + m) c')) w') : Oper.wp P o a w K Q := by
  obtain ⟨c', w', hr, h2, h3⟩ := run_append_new (P := P) w t o.type e bytes helt B ao n c xs h hn hB ax m cx news hx hm hno h63 hbytes
  unfold Oper.wp execOp
  simp only [ho, resolve, invoke, builtin, Sem.run_bind, Sem.run_pure, Result.andThen_ok, List.map_toArray, List.map_cons, List.map_nil, hs, hxe, hr]
  exact hK _ _ h2 h3
theorem oper_append_zeros_new {P : Program} {o : Oper} {a : Act} {w : World} {K : Act → World → Prop} {Q : Exit → Act → World → Prop} (s x : Operand) (t tn : TypeId)
    (ho : o.op = .call { callee := .builtin .append, args := #[s, x], argTypes := #[t, tn] })
    (e : TypeId) (bytes : Nat) (helt : Elt P t e bytes) (z : Value) (hz0 : (P.info? e).map (·.zero) = some (some z)) (hzc : z.cells = #[z]) (kn k : IntKind) (htn : P.underlying tn = some (.int kn))
    (B : Nat) (ao : Option Addr) (n c : Nat) (xs : List Value) (hs : a.eval s = .slice ao n c) (h : Room w B ao n c xs) (hB : B ≤ w.heap.size) (m : Nat) (hxe : a.eval x = .int k (m : Int)) (hno : c < n + m)
    (h63 : n + m ≤ maxLen) (hbytes : (n + m) * bytes ≤ 140737488355328)
    (hK : ∀ ao' c' w', Room w' B ao' (n + m) c' (xs ++ List.replicate m z) → Chg [] w w' → fp ao' c' = [w.heap.size] → K (a.put o.dst (.slice ao' (n + m) c')) w') : Oper.wp P o a w K Q := by
  obtain ⟨ao', c', w', hr, h2, h3, h4⟩ := run_append_zeros (P := P) w t tn o.type e bytes helt z hz0 hzc kn k htn B ao n c xs h hB m hno (by have := h.le; omega) h63 hbytes
  unfold Oper.wp execOp
  simp only [ho, resolve, invoke, builtin, Sem.run_bind, Sem.run_pure, Result.andThen_ok, List.map_toArray, List.map_cons, List.map_nil, hs, hxe, hr]
  exact hK _ _ _ h2 h3 h4
end Go.Proofs.Ytlaeonemlodhmaa
