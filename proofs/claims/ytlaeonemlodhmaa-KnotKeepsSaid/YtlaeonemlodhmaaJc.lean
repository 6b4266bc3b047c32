/- KnotKeeps: what rising keys say; the calls. -/
import Derived.Test.YtlaeonemlodhmaaJb
namespace Go.Proofs.Ytlaeonemlodhmaa
open Go.RowKit
set_option linter.unusedVariables false
set_option linter.unusedSimpArgs false

theorem tw_iff {p : Nat → Bool} (hm : ∀ y z, y ≤ z → p z = true → p y = true) : ∀ {L : List Nat}, Rising L → ∀ {i y : Nat}, L[i]? = some y → (i < (L.takeWhile p).length ↔ p y = true)
  | [], _, i, y, h => by simp at h
  | a :: t, hR, 0, y, h => by
    simp at h
    subst h
    cases hp : p a <;> simp [List.takeWhile_cons, hp]
  | a :: t, hR, i + 1, y, h => by
    have hc := List.pairwise_cons.1 hR
    have ht : t[i]? = some y := by simpa using h
    have hlt := hc.1 y (List.mem_of_getElem? ht)
    cases hp : p a with
    | true =>
      have ih := tw_iff hm (L := t) hc.2 ht
      simp only [List.takeWhile_cons, hp, if_true, List.length_cons]
      rw [← ih]
      omega
    | false =>
      simp only [List.takeWhile_cons, hp, List.length_nil]
      constructor
      · intro h0; simp at h0
      · intro hy
        have := hm a y (by omega) hy
        rw [hp] at this
        cases this
theorem run_iff {p : Nat → Bool} (hm : ∀ y z, y ≤ z → p z = true → p y = true) {L O : List Nat} {k : Nat} (hL : L.length = k) (hO : O.length = k) (hR : Rising L) {i y : Nat} (hy : L[i]? = some y) : i < runN p L O ↔ p y = true := by
  have e : L.take (np L O) = L := by unfold np; rw [hL, hO, Nat.min_self, ← hL, List.take_length]
  unfold runN
  rw [e]
  exact tw_iff hm hR hy
theorem np_k {L O : List Nat} {k : Nat} (hL : L.length = k) (hO : O.length = k) : np L O = k := by unfold np; omega
theorem find_facts {L O : List Nat} {k x : Nat} (hL : L.length = k) (hO : O.length = k) (hR : Rising L) : findN x L O ≤ k ∧ ∀ i y, L[i]? = some y → (i < findN x L O ↔ y < x) := by
  refine ⟨by have := run_le (fun j => decide (j < x)) L O; rw [np_k hL hO] at this; exact this, fun i y hy => ?_⟩
  have := run_iff (p := fun j => decide (j < x)) (fun y z h1 h2 => by simp at h2 ⊢; omega) hL hO hR hy
  simpa [findN] using this
theorem child_facts {L O : List Nat} {k x : Nat} (hL : L.length = k) (hO : O.length = k) (hR : Rising L) (hk : 0 < k) : childN x L O < k ∧ (∀ y, L[childN x L O]? = some y → x < y → childN x L O = 0) ∧ ∀ y, L[childN x L O + 1]? = some y → x < y := by
  have h1 := run_le (fun j => decide (j ≤ x)) L O
  rw [np_k hL hO] at h1
  have hI := fun {i y : Nat} (hy : L[i]? = some y) => run_iff (p := fun j => decide (j ≤ x)) (fun y z h1 h2 => by simp at h2 ⊢; omega) hL hO hR hy
  unfold childN
  generalize runN (fun k => decide (k ≤ x)) L O = r at *
  refine ⟨by omega, fun y hy hx => ?_, fun y hy => ?_⟩
  · have := hI hy
    simp at this
    omega
  · have := hI hy
    simp at this
    omega
/-- A list in three parts. -/
theorem parts3 {A D : List Nat} {v p q : Nat} (hA : A.length = p) (hD : p + 1 + D.length = q) : sub (A ++ ([v] ++ D)) 0 p = A ∧ sub (A ++ ([v] ++ D)) (p + 1) q = D ∧ (A ++ ([v] ++ D))[p]? = some v ∧ (A ++ ([v] ++ D)).length = q := by
  subst hA
  refine ⟨?_, ?_, ?_, ?_⟩
  · unfold sub; rw [List.drop_zero]; exact List.take_left
  · unfold sub
    rw [List.take_of_length_le (by simp; omega), ← List.append_assoc]
    exact List.drop_left' (by simp)
  · rw [List.getElem?_append_right (Nat.le_refl _)]; simp
  · simp; omega
theorem whole {L : List Nat} {p k x : Nat} (hL : L.length = k) (hx : L[p]? = some x) : sub L 0 p ++ ([x] ++ sub L (p + 1) k) = L := by
  obtain ⟨hl, rfl⟩ := List.getElem?_eq_some_iff.1 hx
  unfold sub
  rw [List.drop_zero, ← hL, List.take_length]
  have h1 := List.take_append_drop p L
  rw [List.drop_eq_getElem_cons hl] at h1
  exact h1
theorem out_rd {B : Nat} {lf : Bool} {K V : List Nat} {e : Ending} {w' : World} (h : NOut B lf K V e w') {n : Nat} (hn : K.length = n) (hm : V.length = n) (hb : n ≤ 100000) : ∃ ka kc va vc, e = .returned (.agg #[.bool lf, .slice ka n kc, .slice va n vc]) ∧ RdN w' ka kc va vc K V := by
  obtain ⟨ka, kc, va, vc, rfl, r⟩ := h
  exact ⟨ka, kc, va, vc, by rw [hn, hm], r.rd (by omega) (by omega)⟩
theorem set_as (ka : Option Addr) (kc : Nat) (va : Option Addr) (vc : Nat) (K V : List Nat) (k p x y : Nat) (X Y : List Nat) (w : World) (h : RdN w ka kc va vc K V) (hk : K.length = k) (hv : V.length = k) (hp : p < k) (hb : k ≤ 1000) (eX : sub K 0 p ++ ([x] ++ sub K (p + 1) k) = X) (eY : sub V 0 p ++ ([y] ++ sub V (p + 1) k) = Y) :
    Calls Try.prog 17 #[.agg #[.bool false, .slice ka k kc, .slice va k vc], .int .i64 (p : Int), .int .u64 (x : Int), .int .u64 (y : Int)] w fun e w' => (∃ ra rc rb rd, e = .returned (.agg #[.bool false, .slice ra k rc, .slice rb k rd]) ∧ RdN w' ra rc rb rd X Y) ∧ Chg [] w w' := by
  have e := np_k hk hv
  have hc := set_any false ka k kc va k vc K V w h hk hv (p : Int) x y (by omega)
  have hX : setO (p : Int) x k K = X := by rw [← eX]; unfold setO; rw [if_pos (by omega)]; rfl
  have hY : setO (p : Int) y k V = Y := by rw [← eY]; unfold setO; rw [if_pos (by omega)]; rfl
  have a1 : (sub K 0 p).length = p := by rw [sub_len (by omega)]; omega
  have a2 : (sub V 0 p).length = p := by rw [sub_len (by omega)]; omega
  have a3 : p + 1 + (sub K (p + 1) k).length = k := by rw [sub_len (by omega)]; omega
  have a4 : p + 1 + (sub V (p + 1) k).length = k := by rw [sub_len (by omega)]; omega
  have l1 := (parts3 (v := x) a1 a3).2.2.2
  have l2 := (parts3 (v := y) a2 a4).2.2.2
  rw [eX] at l1
  rw [eY] at l2
  rw [e, hX, hY] at hc
  refine hc.mono ?_
  rintro e w' ⟨h1, g⟩
  exact ⟨out_rd h1 l1 l2 (by omega), g⟩
theorem insert_as (ka : Option Addr) (kc : Nat) (va : Option Addr) (vc : Nat) (K V : List Nat) (k p k1 x y : Nat) (X Y : List Nat) (w : World) (h : RdN w ka kc va vc K V) (hk : K.length = k) (hv : V.length = k) (hp : p ≤ k) (hk1 : k + 1 = k1) (hb : k ≤ 1000) (eX : sub K 0 p ++ ([x] ++ sub K p k) = X) (eY : sub V 0 p ++ ([y] ++ sub V p k) = Y) :
    Calls Try.prog 16 #[.agg #[.bool false, .slice ka k kc, .slice va k vc], .int .i64 (p : Int), .int .u64 (x : Int), .int .u64 (y : Int)] w fun e w' => (∃ ra rc rb rd, e = .returned (.agg #[.bool false, .slice ra k1 rc, .slice rb k1 rd]) ∧ RdN w' ra rc rb rd X Y) ∧ Chg [] w w' := by
  have e := np_k hk hv
  have hc := insert_any false ka k kc va k vc K V w h hk hv (p : Int) x y (by omega)
  have e2 : clampN (p : Int) k = p := by unfold clampN; rw [if_neg (by omega), if_neg (by omega)]; omega
  have a1 : (sub K 0 p).length = p := by rw [sub_len (by omega)]; omega
  have a2 : (sub V 0 p).length = p := by rw [sub_len (by omega)]; omega
  have a3 : p + 1 + (sub K p k).length = k1 := by rw [sub_len (by omega)]; omega
  have a4 : p + 1 + (sub V p k).length = k1 := by rw [sub_len (by omega)]; omega
  have l1 := (parts3 (v := x) a1 a3).2.2.2
  have l2 := (parts3 (v := y) a2 a4).2.2.2
  rw [eX] at l1
  rw [eY] at l2
  rw [e, e2, show insL k p x K = X from eX, show insL k p y V = Y from eY] at hc
  refine hc.mono ?_
  rintro e w' ⟨h1, g⟩
  exact ⟨out_rd h1 l1 l2 (by omega), g⟩
theorem remove_as (ka : Option Addr) (kc : Nat) (va : Option Addr) (vc : Nat) (K V : List Nat) (k p k1 : Nat) (X Y : List Nat) (w : World) (h : RdN w ka kc va vc K V) (hk : K.length = k1) (hv : V.length = k1) (hp : p ≤ k) (hk1 : k + 1 = k1) (hb : k ≤ 1000) (eX : sub K 0 p ++ sub K (p + 1) k1 = X) (eY : sub V 0 p ++ sub V (p + 1) k1 = Y) (lX : X.length = k) (lY : Y.length = k) :
    Calls Try.prog 18 #[.agg #[.bool false, .slice ka k1 kc, .slice va k1 vc], .int .i64 (p : Int)] w fun e w' => (∃ ra rc rb rd, e = .returned (.agg #[.bool false, .slice ra k rc, .slice rb k rd]) ∧ RdN w' ra rc rb rd X Y) ∧ Chg [] w w' := by
  have e := np_k hk hv
  have hc := remove_any false ka k1 kc va k1 vc K V w h hk hv (p : Int) (by omega)
  have hX : remO (p : Int) k1 K = X := by rw [← eX]; unfold remO; rw [if_pos (by omega)]; rfl
  have hY : remO (p : Int) k1 V = Y := by rw [← eY]; unfold remO; rw [if_pos (by omega)]; rfl
  rw [e, hX, hY] at hc
  refine hc.mono ?_
  rintro e w' ⟨h1, g⟩
  exact ⟨out_rd h1 lX lY (by omega), g⟩
theorem finds_as (ka : Option Addr) (kc : Nat) (va : Option Addr) (vc : Nat) (K V : List Nat) (k p x : Nat) (b : Bool) (w : World) (h : RdN w ka kc va vc K V) (hk : K.length = k) (hv : V.length = k) (hp : findN x K V = p) (hb : isN x K V = b) : Calls Try.prog 9 #[.agg #[.bool false, .slice ka k kc, .slice va k vc], .int .u64 (x : Int)] w fun e w' => e = .returned (.tuple #[.int .i64 (p : Int), .bool b]) ∧ Chg [] w w' := by
  have := find_any false ka k kc va k vc K V w h hk hv x
  rw [hp, hb] at this
  exact this
theorem childs_as (ka : Option Addr) (kc : Nat) (va : Option Addr) (vc : Nat) (K V : List Nat) (k c x : Nat) (w : World) (h : RdN w ka kc va vc K V) (hk : K.length = k) (hv : V.length = k) (hc : childN x K V = c) : Calls Try.prog 12 #[.agg #[.bool false, .slice ka k kc, .slice va k vc], .int .u64 (x : Int)] w fun e w' => e = .returned (.int .i64 (c : Int)) ∧ Chg [] w w' := by
  have := child_any false ka k kc va k vc K V w h hk hv x
  rw [hc] at this
  exact this
/-- What is put in stands there. -/
theorem ins_facts {L O : List Nat} {k k1 p x y : Nat} (hL : L.length = k) (hO : O.length = k) (hR : Rising L) (hp : p ≤ k) (hk1 : k + 1 = k1) (hI : ∀ i z, L[i]? = some z → (i < p ↔ z < x)) (hne : ∀ z, L[p]? = some z → x < z) {X Y : List Nat} (eX : sub L 0 p ++ ([x] ++ sub L p k) = X) (eY : sub O 0 p ++ ([y] ++ sub O p k) = Y) :
    Rising X ∧ X.length = k1 ∧ Y.length = k1 ∧ X[p]? = some x ∧ Y[p]? = some y ∧ findN x X Y = p ∧ isN x X Y = true ∧ sub X 0 p ++ sub X (p + 1) k1 = L ∧ sub Y 0 p ++ sub Y (p + 1) k1 = O := by
  have a1 : (sub L 0 p).length = p := by rw [sub_len (by omega)]; omega
  have a2 : (sub O 0 p).length = p := by rw [sub_len (by omega)]; omega
  have a3 : p + 1 + (sub L p k).length = k1 := by rw [sub_len (by omega)]; omega
  have a4 : p + 1 + (sub O p k).length = k1 := by rw [sub_len (by omega)]; omega
  obtain ⟨x1, x2, x3, x4⟩ := parts3 (v := x) a1 a3
  obtain ⟨y1, y2, y3, y4⟩ := parts3 (v := y) a2 a4
  have hlow : ∀ z ∈ sub L 0 p, z < x := fun z hz => by
    obtain ⟨i, hi⟩ := List.mem_iff_getElem?.1 hz
    have hip : i < p := by have := (List.getElem?_eq_some_iff.1 hi).1; omega
    unfold sub at hi
    rw [List.drop_zero, List.getElem?_take, if_pos hip] at hi
    exact (hI i z hi).1 hip
  have hhi : ∀ z ∈ L.drop p, x < z := by
    by_cases h : p < k
    · obtain ⟨q, hq⟩ : ∃ q, L[p]? = some q := ⟨_, List.getElem?_eq_getElem (by omega)⟩
      exact above_drop hR hq (hne q hq)
    · rw [List.drop_eq_nil_of_le (by omega)]; simp
  have hRX := ins_rising hR hlow hhi
  rw [← sub_self hL] at hRX
  rw [eX] at x1 x2 x3 x4 hRX
  rw [eY] at y1 y2 y3 y4
  have hF := find_facts (x := x) x4 y4 hRX
  have hfp : findN x X Y = p := by
    have h1 := (hF.2 p x x3)
    have h2 : ¬ p < findN x X Y := fun h => by have := h1.1 h; omega
    by_cases h3 : findN x X Y < p
    · exfalso
      have hl : findN x X Y < (sub L 0 p).length := by omega
      obtain ⟨q, hq⟩ : ∃ q, (sub L 0 p)[findN x X Y]? = some q := ⟨_, List.getElem?_eq_getElem hl⟩
      have hg2 : X[findN x X Y]? = some q := by
        generalize findN x X Y = r at *
        rw [← eX, List.getElem?_append_left hl]
        exact hq
      have hq2 : X[p]? = some x := x3
      have hqx := hlow q (List.mem_of_getElem? hq)
      generalize hr : findN x X Y = r at *
      have hI2 := hI r q (by
        have e0 : (sub L 0 p)[r]? = L[r]? := by unfold sub; rw [List.drop_zero, List.getElem?_take, if_pos h3]
        rw [← e0]; exact hq)
      have h5 := (hF.2 r q hg2).2 hqx
      omega
    · omega
  refine ⟨hRX, x4, y4, x3, y3, hfp, ?_, ?_, ?_⟩
  · have := is_at (x := x) (K := X) (V := Y) (y := x) (by rw [hfp, np_k x4 y4]; omega) (by rw [hfp]; exact x3)
    rw [this]
    simp
  · rw [x1, x2]; exact sub_join hL hp
  · rw [y1, y2]; exact sub_join hO hp
/-- What is changed, changed back. -/
theorem set_facts {L O : List Nat} {k p x z y : Nat} (hL : L.length = k) (hO : O.length = k) (hp : p < k) (hx : L[p]? = some x) (hz : O[p]? = some z) {Y : List Nat} (eY : sub O 0 p ++ ([y] ++ sub O (p + 1) k) = Y) :
    sub L 0 p ++ ([x] ++ sub L (p + 1) k) = L ∧ Y.length = k ∧ Y[p]? = some y ∧ sub Y 0 p ++ ([z] ++ sub Y (p + 1) k) = O := by
  have a2 : (sub O 0 p).length = p := by rw [sub_len (by omega)]; omega
  have a4 : p + 1 + (sub O (p + 1) k).length = k := by rw [sub_len (by omega)]; omega
  obtain ⟨y1, y2, y3, y4⟩ := parts3 (v := y) a2 a4
  rw [eY] at y1 y2 y3 y4
  refine ⟨whole hL hx, y4, y3, ?_⟩
  rw [y1, y2]
  exact whole hO hz
end Go.Proofs.Ytlaeonemlodhmaa
