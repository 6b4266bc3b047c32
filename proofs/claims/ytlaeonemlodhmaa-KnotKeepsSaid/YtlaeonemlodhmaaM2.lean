/- As lib/base/M; here an operation may turn blocks of its own choice (an append in place), which nobody else speaks of. No program is named here. -/
import Derived.Test.YtlaeonemlodhmaaM
namespace Go.Proofs.Ytlaeonemlodhmaa
open Go.RowKit
set_option linter.unusedVariables false
set_option linter.unusedSimpArgs false

section
variable {P : Program} {ops : Array Oper} {Q : Exit → Act → World → Prop}
/-- One operation: T says what each may turn; nothing but what the others may turn has turned so far. -/
def TurnIs (P : Program) (Q : Exit → Act → World → Prop) (w0 : World) (l : List Pr) (T : Nat → List Nat) (m : Nat) (fr : (Nat → Value) → Act) (i : Nat) (o : Oper) : Prop :=
  ∀ v w, (∀ S : List Nat, (∀ j, j < m → j ≠ i → ∀ q ∈ T j, q ∈ S) → Chg S w0 w) → (∀ e ∈ o.after.toList, Region.binds .any e = true → ∃ lo hi, prAt l e.on (v e.on) lo hi w) → ∀ K : Act → World → Prop, Hid (∀ x u, Chg (T i) w u → prAt l i x w.heap.size u.heap.size u → K ((fr v).put o.dst x) u) → Oper.wp P o (fr v) w K Q
def TurnFrom (P : Program) (Q : Exit → Act → World → Prop) (w0 : World) (l : List Pr) (T : Nat → List Nat) (m : Nat) (fr : (Nat → Value) → Act) : Nat → List Oper → Prop
  | _, [] => True
  | k, o :: r => TurnIs P Q w0 l T m fr k o ∧ TurnFrom P Q w0 l T m fr (k + 1) r
theorem turn_get {w0 : World} {l : List Pr} {T : Nat → List Nat} {m : Nat} {fr : (Nat → Value) → Act} : ∀ {r : List Oper} {k : Nat}, TurnFrom P Q w0 l T m fr k r → ∀ {i : Nat} {o : Oper}, r[i]? = some o → TurnIs P Q w0 l T m fr (k + i) o
  | [], _, _, _, _, h => by simp at h
  | a :: r, k, hs, 0, o, h => by simp at h; subst h; exact hs.1
  | a :: r, k, hs, i + 1, o, h => by
    have := turn_get hs.2 (i := i) (by simpa using h)
    rwa [show k + 1 + i = k + (i + 1) by omega] at this
/-- What may have turned. -/
def dn (T : Nat → List Nat) (m : Nat) (done : Array Bool) : List Nat := (List.range m).flatMap fun j => if done.getD j false = true then T j else []
theorem mem_dn {T : Nat → List Nat} {m : Nat} {done : Array Bool} {q : Nat} : q ∈ dn T m done ↔ ∃ j, j < m ∧ done.getD j false = true ∧ q ∈ T j := by
  unfold dn
  simp only [List.mem_flatMap, List.mem_range]
  constructor
  · rintro ⟨j, hj, h⟩
    split at h
    · rename_i hd; exact ⟨j, hj, hd, h⟩
    · simp at h
  · rintro ⟨j, hj, hd, h⟩
    exact ⟨j, hj, by rw [if_pos hd]; exact h⟩
/-- The region. -/
theorem region_turns {id : Nat} {a : Act} {w : World} (m : Nat) (l : List Pr) (hm : P.follows .mixedOrders = true) (hl : lowB ops = true) (hb : lastB ops m = true) (hms : m ≤ ops.size) (hnd : ((ops.toList.take m).map (·.dst)).Nodup) (T : Nat → List Nat)
    (hk : ∀ i j, i < m → j < m → i ≠ j → ∀ x lo hi u u', w.heap.size ≤ lo → Chg (T i) u u' → prAt l j x lo hi u → prAt l j x lo hi u')
    (hs : TurnFrom P Q w.drew l T m (fun v => putAll (ops.toList.take m) 0 v a) 0 (ops.toList.take m))
    (fin : ∀ (v : Nat → Value) (u : World) (lo hi : Nat → Nat), (∀ S : List Nat, (∀ j, j < m → ∀ q ∈ T j, q ∈ S) → Chg S w.drew u) → (∀ i, i < m → prAt l i (v i) (lo i) (hi i) u) → (∀ i, i < m → w.heap.size ≤ lo i ∧ hi i ≤ u.heap.size) → (∀ i j, i < m → j < m → i ≠ j → hi i ≤ lo j ∨ hi j ≤ lo i) → wpList P ops Q (ops.toList.drop m) (putAll (ops.toList.take m) 0 v a) u) : (Code.region id ops true).wp P Q a w := by
  have key : ∀ (n : Nat) (done : Array Bool) (v : Nat → Value) (u : World), done.size = ops.size → Closed ops done → (∃ L : List Nat, L.length ≤ n ∧ ∀ j, j < ops.size → done.getD j false = false → j ∈ L) → (∀ j, m ≤ j → j < ops.size → done.getD j false = false) → Chg (dn T m done) w.drew u →
      (∃ lo hi : Nat → Nat, (∀ i, i < m → done.getD i false = true → prAt l i (v i) (lo i) (hi i) u ∧ w.heap.size ≤ lo i ∧ hi i ≤ u.heap.size) ∧ ∀ i j, i < m → j < m → done.getD i false = true → done.getD j false = true → i ≠ j → hi i ≤ lo j ∨ hi j ≤ lo i) → wpAny P .any ops Q n done (putAll (ops.toList.take m) 0 v a) u := by
    intro n
    induction n with
    | zero =>
      rintro done v u hz hc ⟨L, hL, hLm⟩ htl hg ⟨lo, hi, hA, hD⟩
      have hL0 : L = [] := List.eq_nil_of_length_eq_zero (by omega)
      subst hL0
      have hall : ∀ j, j < ops.size → done.getD j false = true := fun j hj => by
        cases hd : done.getD j false with
        | true => rfl
        | false => exact absurd (hLm j hj hd) (by simp)
      have hmz : m = ops.size := by
        rcases Nat.lt_or_ge m ops.size with h | h
        · have h1 := hall m h
          rw [htl m (Nat.le_refl _) h] at h1
          cases h1
        · omega
      exact tail_list hl hb _ m 0 done _ u (Nat.le_refl _) rfl (by simp; omega) hz hc (fun j hj => hall j (by omega)) htl (fin v u lo hi (fun S hS => hg.mono fun q hq _ => by obtain ⟨j, hj, _, hq⟩ := mem_dn.1 hq; exact hS j hj q hq) (fun i hi' => (hA i hi' (hall i (by omega))).1) (fun i hi' => (hA i hi' (hall i (by omega))).2) fun i j hi' hj' hne => hD i j hi' hj' (hall i (by omega)) (hall j (by omega)) hne)
    | succ n ih =>
      rintro done v u hz hc ⟨L, hL, hLm⟩ htl hg ⟨lo, hi, hA, hD⟩
      by_cases hall : ∀ j, j < m → done.getD j false = true
      · refine tail_list hl hb _ m (n + 1) done _ u (Nat.le_refl _) rfl ?_ hz hc hall htl (fin v u lo hi (fun S hS => hg.mono fun q hq _ => by obtain ⟨j, hj, _, hq⟩ := mem_dn.1 hq; exact hS j hj q hq) (fun i hi' => (hA i hi' (hall i hi')).1) (fun i hi' => (hA i hi' (hall i hi')).2) fun i j hi' hj' hne => hD i j hi' hj' (hall i hi') (hall j hj') hne)
        have h3 := nodup_len (l := List.range' m (ops.size - m)) (L := L) (List.nodup_range' ..) (fun j hj => by
          simp only [List.mem_range'_1] at hj
          exact hLm j (by omega) (htl j hj.1 (by omega)))
        simp at h3
        simp
        omega
      · refine ⟨fun hr => absurd (fun j hj => ready_none hl hz hr j (by omega)) hall, fun i hir => ?_⟩
        obtain ⟨h1, o, ho, hd⟩ := mem_ready.1 hir
        have hio := (Array.getElem?_eq_some_iff.1 ho).1
        have him : i < m := by
          rcases Nat.lt_or_ge i m with h | h
          · exact h
          · exact absurd (fun j hj => reach_done hc 6 i o j ho hd (lastB_spec hb ho h j (by omega))) hall
        have hoi : (ops.toList.take m)[i]? = some o := by rw [List.getElem?_take, if_pos him]; simpa using ho
        have hst := turn_get hs hoi
        rw [Nat.zero_add] at hst
        have hw := hst v u (fun S hS => hg.mono fun q hq _ => by
            obtain ⟨j, hj, hdj, hq⟩ := mem_dn.1 hq
            exact hS j hj (fun e => by rw [e, getD_both h1] at hdj; cases hdj) q hq) (fun e he hbd => by
          have he' : e ∈ o.after := by simpa using he
          have hlt : e.on < m := Nat.lt_trans ((lowB_spec hl ho).2 e he') him
          exact ⟨lo e.on, hi e.on, (hA e.on hlt (hd e he' hbd)).1⟩) (wpAny P .any ops Q n (done.setIfInBounds i true)) (fun x u' hgu hx => by
          have hput := putAll_set (v := v) (k := 0) (a := a) x hnd hoi
          rw [Nat.zero_add] at hput
          rw [hput]
          refine ih _ _ u' (by simpa using hz) (hc.set (by omega) ho hd) ⟨L.erase i, by
            have := List.length_erase_of_mem (hLm i hio (getD_both h1)); have := List.length_pos_of_mem (hLm i hio (getD_both h1)); omega, fun j hj hdj => by
            have hji : j ≠ i := fun e => by subst e; simp [hz, hio] at hdj
            rw [getD_set_ne false (Ne.symm hji)] at hdj
            exact (List.mem_erase_of_ne hji).2 (hLm j hj hdj)⟩ (fun j hj hjs => by rw [getD_set_ne false (by omega)]; exact htl j hj hjs) (hg.trans hgu (fun q hq _ => by
            obtain ⟨j, hj, hdj, hq⟩ := mem_dn.1 hq
            refine mem_dn.2 ⟨j, hj, ?_, hq⟩
            by_cases hji : j = i
            · subst hji; simp [hz, hio]
            · rw [getD_set_ne false (Ne.symm hji)]; exact hdj) (fun q hq _ => mem_dn.2 ⟨i, him, by simp [hz, hio], hq⟩))
            ⟨fun j => if j = i then u.heap.size else lo j, fun j => if j = i then u'.heap.size else hi j, fun j hj hdj => ?_, fun j k hj hk' hdj hdk hne => ?_⟩
          · by_cases hji : j = i
            · subst hji
              simp only [if_pos rfl]
              rw [upd_same]
              exact ⟨hx, hg.size, Nat.le_refl _⟩
            · simp only [if_neg hji]
              rw [getD_set_ne false (Ne.symm hji)] at hdj
              rw [upd_other v x hji]
              obtain ⟨q1, q2, q3⟩ := hA j hj hdj
              exact ⟨hk i j him hj (Ne.symm hji) _ _ _ _ _ q2 hgu q1, q2, Nat.le_trans q3 hgu.size⟩
          · by_cases hji : j = i
            · by_cases hki : k = i
              · exact absurd (hji.trans hki.symm) hne
              · simp only [if_pos hji, if_neg hki]
                rw [getD_set_ne false (Ne.symm hki)] at hdk
                exact Or.inr (hA k hk' hdk).2.2
            · by_cases hki : k = i
              · simp only [if_neg hji, if_pos hki]
                rw [getD_set_ne false (Ne.symm hji)] at hdj
                exact Or.inl (hA j hj hdj).2.2
              · simp only [if_neg hji, if_neg hki]
                rw [getD_set_ne false (Ne.symm hji)] at hdj
                rw [getD_set_ne false (Ne.symm hki)] at hdk
                exact hD j k hj hk' hdj hdk hne)
        unfold wpOp
        simp only [ho]
        rw [if_pos (by simp [Region.wanted, (lowB_spec hl ho).1])]
        exact Or.inl hw
  have h0 := key ops.size (Array.replicate ops.size false) (slots a (ops.toList.take m)) w.drew (by simp) (fun j o _ hj => (by rw [getD_replicate_false] at hj; cases hj)) ⟨List.range ops.size, by simp, fun j hj _ => List.mem_range.2 hj⟩ (fun j _ _ => getD_replicate_false _ _) (Chg.refl _ _)
    ⟨fun _ => 0, fun _ => 0, fun i _ h => (by rw [getD_replicate_false] at h; cases h), fun i j _ _ h _ _ => (by rw [getD_replicate_false] at h; cases h)⟩
  rw [putAll_slots a (slots a (ops.toList.take m)) (fun i o ho => by simp [slots, ho])] at h0
  exact wp_region_any hm h0
end
end Go.Proofs.Ytlaeonemlodhmaa
