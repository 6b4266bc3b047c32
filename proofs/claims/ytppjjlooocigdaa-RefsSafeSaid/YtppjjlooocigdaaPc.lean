/- heap.up, heap.down over the places of a space. -/
import Derived.Test.YtppjjlooocigdaaPb
namespace Go.Proofs.Ytppjjlooocigdaa
open Go.RowKit
set_option linter.unusedVariables false
set_option linter.unusedSimpArgs false
attribute [local go_sem ↓] Go.wp_at_zero Go.wp_at_succ

def key (E : List Nat) (k : Nat) : Nat := E.getD k 0
theorem key_lt {E : List Nat} {k : Nat} (h : k < E.length) : key E k = E[k] := by simp [key, h]
theorem key_swp (E : List Nat) (i j : Nat) (hi : i < E.length) (hj : j < E.length) (k : Nat) (hk : k < E.length) : key (swp E i j hi hj) k = if k = j then key E i else if k = i then key E j else key E k := by
  rw [key_lt (by rw [swp_len]; exact hk), swp_get, key_lt hi, key_lt hj, key_lt hk]
/-- The first n are a heap. -/
def Heap (E : List Nat) (n : Nat) : Prop := ∀ k, 0 < k → k < n → key E ((k - 1) / 2) ≤ key E k
/-- .. but at the spot j, which may be too small. -/
def UpOk (E : List Nat) (j n : Nat) : Prop := (∀ k, 0 < k → k < n → k ≠ j → key E ((k - 1) / 2) ≤ key E k) ∧ ∀ k, 0 < k → k < n → (k - 1) / 2 = j → 0 < j → key E ((j - 1) / 2) ≤ key E k
/-- .. but at the spot i, which may be anything. -/
def DownOk (E : List Nat) (i n : Nat) : Prop := (∀ k, 0 < k → k < n → k ≠ i → (k - 1) / 2 ≠ i → key E ((k - 1) / 2) ≤ key E k) ∧ ∀ k, 0 < k → k < n → (k - 1) / 2 = i → 0 < i → key E ((i - 1) / 2) ≤ key E k
theorem up_swp {E : List Nat} {i j n : Nat} (hn : n ≤ E.length) (h : UpOk E j n) (hj0 : 0 < j) (hjn : j < n) (hj : j < E.length) (hij : i = (j - 1) / 2) (hi : i < E.length) (hlt : key E j < key E i) : UpOk (swp E i j hi hj) i n := by
  obtain ⟨h1, h2⟩ := h
  subst hij
  have hk := key_swp E ((j - 1) / 2) j hi hj
  generalize hE' : swp E ((j - 1) / 2) j hi hj = E' at hk ⊢
  clear hE'
  refine ⟨fun k k0 kn ki => ?_, fun k k0 kn kp i0 => ?_⟩
  · rw [hk ((k - 1) / 2) (by omega), hk k (by omega)]
    by_cases a : k = j
    · subst a
      rw [if_neg (by omega), if_pos rfl, if_pos rfl]
      omega
    · rw [if_neg a, if_neg ki]
      by_cases b : (k - 1) / 2 = j
      · rw [if_pos b]
        exact h2 k k0 kn b hj0
      · rw [if_neg b]
        by_cases c : (k - 1) / 2 = (j - 1) / 2
        · rw [if_pos c]
          have := h1 k k0 kn a
          rw [c] at this
          omega
        · rw [if_neg c]
          exact h1 k k0 kn a
  · rw [hk (((j - 1) / 2 - 1) / 2) (by omega), hk k (by omega), if_neg (by omega), if_neg (by omega)]
    have hp := h1 ((j - 1) / 2) i0 (by omega) (by omega)
    by_cases a : k = j
    · rw [if_pos a]
      exact hp
    · rw [if_neg a, if_neg (by omega)]
      have := h1 k k0 kn a
      rw [kp] at this
      omega
theorem up_end {E : List Nat} {j n : Nat} (h : UpOk E j n) (hj : j = 0 ∨ key E ((j - 1) / 2) ≤ key E j) : Heap E n := by
  intro k k0 kn
  by_cases a : k = j
  · rcases hj with hj | hj
    · omega
    · rw [a]; exact hj
  · exact h.1 k k0 kn a
theorem down_swp {E : List Nat} {i j n : Nat} (h : DownOk E i n) (hn : n ≤ E.length) (hj : j < n) (hp : (j - 1) / 2 = i) (hj0 : 0 < j) (hlt : key E j < key E i) (hmin : ∀ k, 0 < k → k < n → (k - 1) / 2 = i → key E j ≤ key E k) :
    DownOk (swp E i j (by omega) (by omega)) j n ∧ key (swp E i j (by omega) (by omega)) ((j - 1) / 2) ≤ key (swp E i j (by omega) (by omega)) j := by
  obtain ⟨h1, h2⟩ := h
  have hi : i < E.length := by omega
  have hk := key_swp E i j hi (by omega)
  generalize hE' : swp E i j hi (by omega) = E' at hk ⊢
  clear hE'
  refine ⟨⟨fun k k0 kn ki kp => ?_, fun k k0 kn kp j0 => ?_⟩, ?_⟩
  · rw [hk ((k - 1) / 2) (by omega), hk k (by omega), if_neg kp, if_neg ki]
    by_cases a : k = i
    · rw [if_pos a, if_neg (by omega)]
      subst a
      exact h2 j hj0 hj hp k0
    · rw [if_neg a]
      by_cases b : (k - 1) / 2 = i
      · rw [if_pos b]
        exact hmin k k0 kn b
      · rw [if_neg b]
        exact h1 k k0 kn a b
  · rw [hk ((j - 1) / 2) (by omega), hk k (by omega), if_neg (by omega), if_pos hp, if_neg (by omega), if_neg (by omega)]
    have := h1 k k0 kn (by omega) (by omega)
    rw [kp] at this
    exact this
  · rw [hk ((j - 1) / 2) (by omega), hk j (by omega), if_neg (by omega), if_pos hp, if_pos rfl]
    omega
theorem down_end {E : List Nat} {i n : Nat} (h : DownOk E i n) (hmin : ∀ k, 0 < k → k < n → (k - 1) / 2 = i → key E i ≤ key E k) : UpOk E i n := by
  refine ⟨fun k k0 kn ki => ?_, h.2⟩
  by_cases a : (k - 1) / 2 = i
  · rw [a]; exact hmin k k0 kn a
  · exact h.1 k k0 kn ki a
theorem heap_top {E : List Nat} {n : Nat} (h : Heap E n) : ∀ k, k < n → key E 0 ≤ key E k := by
  intro k
  induction k using Nat.strongRecOn with
  | _ k ih =>
    intro hk
    by_cases a : k = 0
    · rw [a]; exact Nat.le_refl _
    · exact Nat.le_trans (ih ((k - 1) / 2) (by omega) (by omega)) (h k (by omega) hk)

theorem less_key (i j : Nat) (b : Bool) (B pb : Nat) (la : Option Addr) (cl : Nat) (sa : Option Addr) (cs m : Nat) (E : List Nat) (w : World) (h : PlAt w B pb la cl sa cs m E) (hi : i < E.length) (hj : j < E.length) (hb : decide (key E i < key E j) = b) :
    Calls Try.prog 77 #[.pointer (some ⟨pb, 0, none⟩), .int .i64 i, .int .i64 j] w fun e w' => e = .returned (.bool b) ∧ Chg [] w w' := by
  rw [← hb, key_lt hi, key_lt hj]
  exact less_any B pb la cl sa cs m E w h i j hi hj
set_option maxRecDepth 20000 in
theorem up_any (j0 n : Nat) (B pb : Nat) (la : Option Addr) (cl : Nat) (sa : Option Addr) (cs m : Nat) (E : List Nat) (w : World) (h : PlAt w B pb la cl sa cs m E) (hn : n ≤ E.length) (hj : j0 < n) (hu : UpOk E j0 n) :
    Calls Try.prog 59 #[.iface 70 (.pointer (some ⟨pb, 0, none⟩)), .int .i64 j0] w fun e w' => e = .returned (.tuple #[]) ∧ ∃ E', PlAt w' B pb la cl sa cs m E' ∧ E'.Perm E ∧ Heap E' n ∧ (∀ k, n ≤ k → E'[k]? = E[k]?) ∧ Chg (fp la cl ++ fp sa cs) w w' := by
  have hsm := h.le
  have hnn := h.nn
  go_enter Try.func59, Try.ntmps59
  go_wp2
  go_loopw [1] (fun v wr => ∃ (j : Nat) (D : List Nat), v = .int .i64 j ∧ j < n ∧ PlAt wr B pb la cl sa cs m D ∧ D.Perm E ∧ UpOk D j n ∧ (∀ k, n ≤ k → D[k]? = E[k]?) ∧ Chg (fp la cl ++ fp sa cs) w wr) (fun v _ => (intOf v).toNat)
  case atStart => exact ⟨j0, E, rfl, hj, h, List.Perm.refl _, hu, fun _ _ => rfl, Chg.refl _ _⟩
  case round =>
    obtain ⟨j, D, rfl, hjn, hD, hp, hU, hout, hc⟩ := hrel
    have hlen := hp.length_eq
    by_cases hj0 : j = 0
    · subst hj0
      have hH := up_end hU (Or.inl rfl)
      go_wp2
      go_end0
      exact ⟨rfl, D, hD, hp, hH, hout, hc⟩
    · obtain ⟨m1, rfl⟩ : ∃ m, j = m + 1 := ⟨j - 1, by omega⟩
      obtain ⟨p, hp2⟩ : ∃ p, p = m1 / 2 := ⟨_, rfl⟩
      have hq : (m1 : Int) / 2 = (p : Int) := by omega
      have hpm : p < m1 + 1 := by omega
      have hmb : m1 < 100000 := by omega
      have Hp := mkHid hp2
      clear hp2
      have HU := mkHid hU
      have HL := mkHid hlen
      have HO := mkHid hout
      clear hU hlen hout
      have mL := fun u => meth_less u ⟨pb, 0, none⟩
      have mS := fun u => meth_swap u ⟨pb, 0, none⟩
      have hDp : p < D.length := by have := HL.out; omega
      have hDm : m1 + 1 < D.length := by have := HL.out; omega
      have hne : ((p : Int) == (m1 : Int) + 1) = false := beq_eq_false_iff_ne.2 (by omega)
      by_cases hlt : key D (m1 + 1) < key D p
      · have lA := less_key (m1 + 1) p true B pb la cl sa cs m D wr hD hDm hDp (decide_eq_true hlt)
        go_wp2_with (first | (go_at_call 77; refine lA.mono ?_; rintro e w2 ⟨rfl, hg2⟩; have hD2 := hD.keep hg2) | (go_at_call 80; refine (swap_any p (m1 + 1) B pb la cl sa cs m D w2 hD2 hDp hDm).mono ?_; rintro e w3 ⟨rfl, hD3, hg3⟩))
        have hU3 := up_swp (i := p) (j := m1 + 1) (by have := HL.out; omega) HU.out (by omega) hjn hDm (by rw [Hp.out, Nat.add_sub_cancel]) hDp hlt
        refine ⟨⟨p, _, rfl, by omega, hD3, (swp_perm D p (m1 + 1) hDp hDm).trans hp, hU3, fun k hk => ?_, (hc.then hg2).trans hg3 (fun _ h _ => h) (fun k hk _ => hk)⟩, by simp [intOf]; omega⟩
        rw [← HO.out k hk]
        unfold swp
        rw [List.getElem?_set_ne (by omega), List.getElem?_set_ne (by omega)]
      · have lA := less_key (m1 + 1) p false B pb la cl sa cs m D wr hD hDm hDp (decide_eq_false hlt)
        have hH := up_end (E := D) (j := m1 + 1) HU.out (Or.inr (by simp only [Nat.add_sub_cancel, ← Hp.out]; omega))
        have HH := mkHid hH
        clear hH
        go_wp2_with (first | (go_at_call 77; refine lA.mono ?_; rintro e w2 ⟨rfl, hg2⟩))
        go_end0
        exact ⟨rfl, D, hD.keep hg2, hp, HH.out, HO.out, hc.then hg2⟩
set_option maxRecDepth 20000 in
set_option maxHeartbeats 2000000 in
theorem down_any (i0 n : Nat) (B pb : Nat) (la : Option Addr) (cl : Nat) (sa : Option Addr) (cs m : Nat) (E : List Nat) (w : World) (h : PlAt w B pb la cl sa cs m E) (hn : n ≤ E.length) (hi : i0 ≤ 100000) (hu : DownOk E i0 n) :
    Calls Try.prog 58 #[.iface 70 (.pointer (some ⟨pb, 0, none⟩)), .int .i64 i0, .int .i64 n] w fun e w' => ∃ (b : Bool) (E' : List Nat), e = .returned (.bool b) ∧ PlAt w' B pb la cl sa cs m E' ∧ E'.Perm E ∧ (∀ k, n ≤ k → E'[k]? = E[k]?) ∧ (b = true → Heap E' n) ∧ (b = false → UpOk E' i0 n) ∧ Chg (fp la cl ++ fp sa cs) w w' := by
  have hsm : E.length ≤ 1024 := Nat.le_trans h.le h.nn
  go_enter Try.func58, Try.ntmps58
  go_wp2
  go_loopw [7] (fun v wr => ∃ (i : Nat) (D : List Nat), v = .int .i64 i ∧ i0 ≤ i ∧ i ≤ 100000 ∧ PlAt wr B pb la cl sa cs m D ∧ D.Perm E ∧ DownOk D i n ∧ (∀ k, n ≤ k → D[k]? = E[k]?) ∧ (i0 < i → 0 < i ∧ i < n ∧ key D ((i - 1) / 2) ≤ key D i) ∧ Chg (fp la cl ++ fp sa cs) w wr) (fun v _ => 100000 - (intOf v).toNat)
  case atStart => exact ⟨i0, E, rfl, Nat.le_refl _, hi, h, List.Perm.refl _, hu, fun _ _ => rfl, fun h => absurd h (Nat.lt_irrefl _), Chg.refl _ _⟩
  case round =>
    obtain ⟨i, D, rfl, hi0, hib, hD, hp, hU, hout, hpar, hc⟩ := hrel
    have hlen := hp.length_eq
    by_cases hj : 2 * i + 1 < n
    · obtain ⟨j1, hj1⟩ : ∃ j1, j1 = 2 * i + 1 := ⟨_, rfl⟩
      rw [← hj1] at hj
      have e1 : 2 * (i : Int) + 1 = (j1 : Int) := by omega
      have J1 := mkHid hj1
      have hDi : i < D.length := by omega
      have hD1 : j1 < D.length := by omega
      have d1 : decide (n ≤ j1) = false := decide_eq_false (by omega)
      have d1' : decide ((n : Int) ≤ (j1 : Int)) = false := decide_eq_false (by omega)
      have d2 : decide ((j1 : Int) < 0) = false := decide_eq_false (by omega)
      have hj1b : j1 < 100000 := by omega
      have mL := fun u => meth_less u ⟨pb, 0, none⟩
      have mS := fun u => meth_swap u ⟨pb, 0, none⟩
      -- the lesser child, and what comes of it
      have stop : ∀ J, J < n → 0 < J → (J - 1) / 2 = i → (∀ k, 0 < k → k < n → (k - 1) / 2 = i → key D J ≤ key D k) → ¬ key D J < key D i → (decide (i0 < i) = true → Heap D n) ∧ (decide (i0 < i) = false → UpOk D i0 n) := by
        intro J a1 a2 a3 a4 a5
        have hup : UpOk D i n := down_end hU (fun k k0 kn kp => by have := a4 k k0 kn kp; omega)
        refine ⟨fun h1 => ?_, fun h1 => ?_⟩
        · obtain ⟨h2, h3, h4⟩ := hpar (by simpa using h1)
          intro k k0 kn
          by_cases a : k = i
          · rw [a]; exact h4
          · exact hup.1 k k0 kn a
        · have : i0 = i := by simp at h1; omega
          rw [this]; exact hup
      have goes : ∀ J (hJ : J < D.length), J < n → 0 < J → (J - 1) / 2 = i → (∀ k, 0 < k → k < n → (k - 1) / 2 = i → key D J ≤ key D k) → key D J < key D i →
          (swp D i J hDi hJ).Perm E ∧ DownOk (swp D i J hDi hJ) J n ∧ (∀ k, n ≤ k → (swp D i J hDi hJ)[k]? = E[k]?) ∧ key (swp D i J hDi hJ) ((J - 1) / 2) ≤ key (swp D i J hDi hJ) J := by
        intro J hJ a1 a2 a3 a4 a5
        obtain ⟨b1, b2⟩ := down_swp hU (by omega) a1 a3 a2 a5 a4
        refine ⟨(swp_perm D i J hDi hJ).trans hp, b1, fun k hk => ?_, b2⟩
        rw [← hout k hk]
        unfold swp
        rw [List.getElem?_set_ne (by omega), List.getElem?_set_ne (by omega)]
      have Stop := mkHid stop
      have Goes := mkHid goes
      have HL := mkHid hlen
      have HO := mkHid hout
      clear stop goes hU hout hpar hlen hj1
      by_cases hj2 : j1 + 1 < n
      · have hD2 : j1 + 1 < D.length := by have := HL.out; omega
        have d3 : decide (j1 + 1 < n) = true := decide_eq_true hj2
        have d3' : decide ((j1 : Int) + 1 < (n : Int)) = true := decide_eq_true (by omega)
        by_cases hlt : key D (j1 + 1) < key D j1
        · have hmin : ∀ k, 0 < k → k < n → (k - 1) / 2 = i → key D (j1 + 1) ≤ key D k := fun k k0 kn kp => by
            have : k = j1 ∨ k = j1 + 1 := by have := J1.out; omega
            rcases this with rfl | rfl <;> omega
          have Hm := mkHid hmin
          clear hmin
          by_cases hgo : key D (j1 + 1) < key D i
          · have tok : True := trivial
            go_wp2_with (first | (go_at_call 77; have _t := tok; refine (less_key (j1 + 1) j1 true B pb la cl sa cs m D wr hD hD2 hD1 (decide_eq_true hlt)).mono ?_; rintro e w2 ⟨rfl, hg2⟩; clear tok; have hE2 := hD.keep hg2) | (go_at_call 77; refine (less_key (j1 + 1) i true B pb la cl sa cs m D w2 hE2 hD2 hDi (decide_eq_true hgo)).mono ?_; rintro e w3 ⟨rfl, hg3⟩; have hE3 := hE2.keep hg3) | (go_at_call 80; refine (swap_any i (j1 + 1) B pb la cl sa cs m D w3 hE3 hDi hD2).mono ?_; rintro e w4 ⟨rfl, hE4, hg4⟩))
            obtain ⟨p1, p2, p3, p4⟩ := Goes.out (j1 + 1) hD2 hj2 (by omega) (by have := J1.out; omega) Hm.out hgo
            have h9 := J1.out
            exact ⟨⟨j1 + 1, _, by first | rfl | go_num, by omega, by omega, hE4, p1, p2, p3, fun _ => ⟨by omega, hj2, p4⟩, ((hc.then hg2).then hg3).trans hg4 (fun _ h _ => h) (fun k hk _ => hk)⟩, by simp [intOf]; omega⟩
          · have tok : True := trivial
            go_wp2_with (first | (go_at_call 77; have _t := tok; refine (less_key (j1 + 1) j1 true B pb la cl sa cs m D wr hD hD2 hD1 (decide_eq_true hlt)).mono ?_; rintro e w2 ⟨rfl, hg2⟩; clear tok; have hE2 := hD.keep hg2) | (go_at_call 77; refine (less_key (j1 + 1) i false B pb la cl sa cs m D w2 hE2 hD2 hDi (decide_eq_false hgo)).mono ?_; rintro e w3 ⟨rfl, hg3⟩; have hE3 := hE2.keep hg3))
            go_ret
            obtain ⟨p1, p2⟩ := Stop.out (j1 + 1) hj2 (by omega) (by have := J1.out; omega) Hm.out hgo
            exact ⟨decide (i0 < i), D, rfl, hE3, hp, HO.out, p1, p2, (hc.then hg2).then hg3⟩
        · have hmin : ∀ k, 0 < k → k < n → (k - 1) / 2 = i → key D (j1) ≤ key D k := fun k k0 kn kp => by
            have : k = j1 ∨ k = j1 + 1 := by have := J1.out; omega
            rcases this with rfl | rfl <;> omega
          have Hm := mkHid hmin
          clear hmin
          by_cases hgo : key D (j1) < key D i
          · have tok : True := trivial
            go_wp2_with (first | (go_at_call 77; have _t := tok; refine (less_key (j1 + 1) j1 false B pb la cl sa cs m D wr hD hD2 hD1 (decide_eq_false hlt)).mono ?_; rintro e w2 ⟨rfl, hg2⟩; clear tok; have hE2 := hD.keep hg2) | (go_at_call 77; refine (less_key (j1) i true B pb la cl sa cs m D w2 hE2 hD1 hDi (decide_eq_true hgo)).mono ?_; rintro e w3 ⟨rfl, hg3⟩; have hE3 := hE2.keep hg3) | (go_at_call 80; refine (swap_any i (j1) B pb la cl sa cs m D w3 hE3 hDi hD1).mono ?_; rintro e w4 ⟨rfl, hE4, hg4⟩))
            obtain ⟨p1, p2, p3, p4⟩ := Goes.out (j1) hD1 hj (by omega) (by have := J1.out; omega) Hm.out hgo
            have h9 := J1.out
            exact ⟨⟨j1, _, by first | rfl | go_num, by omega, by omega, hE4, p1, p2, p3, fun _ => ⟨by omega, hj, p4⟩, ((hc.then hg2).then hg3).trans hg4 (fun _ h _ => h) (fun k hk _ => hk)⟩, by simp [intOf]; omega⟩
          · have tok : True := trivial
            go_wp2_with (first | (go_at_call 77; have _t := tok; refine (less_key (j1 + 1) j1 false B pb la cl sa cs m D wr hD hD2 hD1 (decide_eq_false hlt)).mono ?_; rintro e w2 ⟨rfl, hg2⟩; clear tok; have hE2 := hD.keep hg2) | (go_at_call 77; refine (less_key (j1) i false B pb la cl sa cs m D w2 hE2 hD1 hDi (decide_eq_false hgo)).mono ?_; rintro e w3 ⟨rfl, hg3⟩; have hE3 := hE2.keep hg3))
            go_ret
            obtain ⟨p1, p2⟩ := Stop.out (j1) hj (by omega) (by have := J1.out; omega) Hm.out hgo
            exact ⟨decide (i0 < i), D, rfl, hE3, hp, HO.out, p1, p2, (hc.then hg2).then hg3⟩
      · have d3 : decide (j1 + 1 < n) = false := decide_eq_false hj2
        have d3' : decide ((j1 : Int) + 1 < (n : Int)) = false := decide_eq_false (by omega)
        have hmin : ∀ k, 0 < k → k < n → (k - 1) / 2 = i → key D (j1) ≤ key D k := fun k k0 kn kp => by
          have : k = j1 := by have := J1.out; omega
          rw [this]; exact Nat.le_refl _
        have Hm := mkHid hmin
        clear hmin
        by_cases hgo : key D (j1) < key D i
        · go_wp2_with (first | (go_at_call 77; refine (less_key (j1) i true B pb la cl sa cs m D wr hD hD1 hDi (decide_eq_true hgo)).mono ?_; rintro e w3 ⟨rfl, hg3⟩; have hE3 := hD.keep hg3) | (go_at_call 80; refine (swap_any i (j1) B pb la cl sa cs m D w3 hE3 hDi hD1).mono ?_; rintro e w4 ⟨rfl, hE4, hg4⟩))
          obtain ⟨p1, p2, p3, p4⟩ := Goes.out (j1) hD1 hj (by omega) (by have := J1.out; omega) Hm.out hgo
          have h9 := J1.out
          exact ⟨⟨j1, _, by first | rfl | go_num, by omega, by omega, hE4, p1, p2, p3, fun _ => ⟨by omega, hj, p4⟩, ((hc).then hg3).trans hg4 (fun _ h _ => h) (fun k hk _ => hk)⟩, by simp [intOf]; omega⟩
        · go_wp2_with (first | (go_at_call 77; refine (less_key (j1) i false B pb la cl sa cs m D wr hD hD1 hDi (decide_eq_false hgo)).mono ?_; rintro e w3 ⟨rfl, hg3⟩; have hE3 := hD.keep hg3))
          go_ret
          obtain ⟨p1, p2⟩ := Stop.out (j1) hj (by omega) (by have := J1.out; omega) Hm.out hgo
          exact ⟨decide (i0 < i), D, rfl, hE3, hp, HO.out, p1, p2, (hc).then hg3⟩
    · have hfin : Heap D n ∨ i0 = i := by
        rcases Nat.lt_or_ge i0 i with h1 | h1
        · left
          obtain ⟨h2, h3, h4⟩ := hpar h1
          intro k k0 kn
          by_cases a : k = i
          · rw [a]; exact h4
          · exact hU.1 k k0 kn a (by omega)
        · right; omega
      have hup : UpOk D i n := down_end hU (fun k k0 kn kp => by omega)
      have Hf := mkHid hfin
      have Hu := mkHid hup
      have Ho := mkHid hout
      clear hfin hup hout hU hpar hlen
      have hd : decide ((n : Int) ≤ 2 * (i : Int) + 1) = true := decide_eq_true (by omega)
      go_wp2_with fail
      go_ret
      exact ⟨decide (i0 < i), D, rfl, hD, hp, Ho.out, fun h1 => Hf.out.resolve_right (by simp at h1; omega), fun h1 => by
        have : i0 = i := by simp at h1; omega
        rw [this]; exact Hu.out, hc⟩
end Go.Proofs.Ytppjjlooocigdaa
