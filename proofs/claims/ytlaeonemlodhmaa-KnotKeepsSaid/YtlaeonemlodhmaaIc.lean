/- How far keys go that are such; the reference's Pairs, Find, Child. -/
import Derived.Test.YtlaeonemlodhmaaIb
namespace Go.Proofs.Ytlaeonemlodhmaa
open Go.RowKit
set_option linter.unusedVariables false
set_option linter.unusedSimpArgs false
attribute [local go_sem ↓] Go.wp_at_zero Go.wp_at_succ

/-- How many pairs. -/
def np (K V : List Nat) : Nat := min K.length V.length
/-- How many pairs, from the first one on, have such keys. -/
def runN (p : Nat → Bool) (K V : List Nat) : Nat := ((K.take (np K V)).takeWhile p).length
/-- Where a key stands or is to be put; whether it stands there. -/
def findN (x : Nat) (K V : List Nat) : Nat := runN (fun k => decide (k < x)) K V
def isN (x : Nat) (K V : List Nat) : Bool := decide ((K.take (np K V))[findN x K V]? = some x)
def childN (x : Nat) (K V : List Nat) : Nat := runN (fun k => decide (k ≤ x)) K V - 1
theorem tw_le {L : List Nat} {p : Nat → Bool} : (L.takeWhile p).length ≤ L.length := (List.takeWhile_sublist p).length_le
theorem tw_step {p : Nat → Bool} : ∀ {L : List Nat} {k y : Nat}, k ≤ (L.takeWhile p).length → L[k]? = some y → p y = true → k + 1 ≤ (L.takeWhile p).length
  | [], k, y, _, h, _ => by simp at h
  | a :: L, 0, y, _, h, hp => by
    simp at h
    subst h
    simp [List.takeWhile_cons, hp]
  | a :: L, k + 1, y, hk, h, hp => by
    simp only [List.getElem?_cons_succ] at h
    rw [List.takeWhile_cons] at hk ⊢
    split at hk
    · rename_i ha
      rw [if_pos ha]
      have := tw_step (L := L) (k := k) (by simp at hk; omega) h hp
      simp; omega
    · simp at hk
theorem tw_stop {p : Nat → Bool} : ∀ {L : List Nat} {k y : Nat}, k ≤ (L.takeWhile p).length → L[k]? = some y → p y = false → (L.takeWhile p).length = k
  | [], k, y, _, h, _ => by simp at h
  | a :: L, 0, y, _, h, hp => by
    simp at h
    subst h
    simp [List.takeWhile_cons, hp]
  | a :: L, k + 1, y, hk, h, hp => by
    simp only [List.getElem?_cons_succ] at h
    rw [List.takeWhile_cons] at hk ⊢
    split at hk
    · rename_i ha
      rw [if_pos ha]
      have := tw_stop (L := L) (k := k) (by simp at hk; omega) h hp
      simp; omega
    · simp at hk
theorem np_le {K V : List Nat} : np K V ≤ K.length ∧ np K V ≤ V.length := ⟨Nat.min_le_left _ _, Nat.min_le_right _ _⟩
theorem take_np {K V : List Nat} {k : Nat} (h : k < np K V) : (K.take (np K V))[k]? = K[k]? := by rw [List.getElem?_take, if_pos h]
theorem run_le (p : Nat → Bool) (K V : List Nat) : runN p K V ≤ np K V := Nat.le_trans tw_le (by rw [List.length_take]; exact Nat.min_le_left _ _)
theorem run_step {p : Nat → Bool} {K V : List Nat} {k y : Nat} (hk : k ≤ runN p K V) (hlt : k < np K V) (hy : K[k]? = some y) (hp : p y = true) : k + 1 ≤ runN p K V := tw_step hk (by rw [take_np hlt]; exact hy) hp
theorem run_stop {p : Nat → Bool} {K V : List Nat} {k y : Nat} (hk : k ≤ runN p K V) (hlt : k < np K V) (hy : K[k]? = some y) (hp : p y = false) : runN p K V = k := tw_stop hk (by rw [take_np hlt]; exact hy) hp
theorem run_end {p : Nat → Bool} {K V : List Nat} {k : Nat} (hk : k ≤ runN p K V) (hlt : ¬ k < np K V) : runN p K V = k := by have := run_le p K V; omega
theorem is_end {x : Nat} {K V : List Nat} (h : ¬ findN x K V < np K V) : isN x K V = false := by
  unfold isN
  rw [decide_eq_false]
  intro he
  rw [List.getElem?_take, if_neg h] at he
  cases he
theorem is_at {x : Nat} {K V : List Nat} {y : Nat} (h : findN x K V < np K V) (hy : K[findN x K V]? = some y) : isN x K V = decide (y = x) := by
  unfold isN
  rw [take_np h, hy]
  simp
theorem min_np {kl vl : Nat} {K V : List Nat} (hk : K.length = kl) (hv : V.length = vl) : min kl vl = np K V := by unfold np; rw [hk, hv]

theorem step3 {a0 a1 a2 : Addr} {v0 v1 v2 : Value} {W u u' : World} (h : u.cell? a0 = some v0 ∧ u.cell? a1 = some v1 ∧ u.cell? a2 = some v2 ∧ Chg [] W u) (g : Chg [] u u') : u'.cell? a0 = some v0 ∧ u'.cell? a1 = some v1 ∧ u'.cell? a2 = some v2 ∧ Chg [] W u' :=
  ⟨g.cellv h.1 (by simp), g.cellv h.2.1 (by simp), g.cellv h.2.2.1 (by simp), h.2.2.2.then g⟩
theorem step4 {a0 a1 a2 a3 : Addr} {v0 v1 v2 v3 : Value} {W u u' : World} (h : u.cell? a0 = some v0 ∧ u.cell? a1 = some v1 ∧ u.cell? a2 = some v2 ∧ u.cell? a3 = some v3 ∧ Chg [] W u) (g : Chg [] u u') : u'.cell? a0 = some v0 ∧ u'.cell? a1 = some v1 ∧ u'.cell? a2 = some v2 ∧ u'.cell? a3 = some v3 ∧ Chg [] W u' :=
  ⟨g.cellv h.1 (by simp), g.cellv h.2.1 (by simp), g.cellv h.2.2.1 (by simp), g.cellv h.2.2.2.1 (by simp), h.2.2.2.2.then g⟩
theorem pick3 {p0 p1 p2 q : Prop} (h : p0 ∧ p1 ∧ p2 ∧ q) : q := h.2.2.2
theorem pick4 {p0 p1 p2 p3 q : Prop} (h : p0 ∧ p1 ∧ p2 ∧ p3 ∧ q) : q := h.2.2.2.2

set_option maxRecDepth 20000 in
theorem rpairs_any (lf : Bool) (ka : Option Addr) (kl kc : Nat) (va : Option Addr) (vl vc : Nat) (P : Nat) (hP : min kl vl = P) (w : World) : Calls Try.prog 34 #[.agg #[.bool lf, .slice ka kl kc, .slice va vl vc]] w fun e w' => e = .returned (.int .i64 (P : Int)) ∧ Chg [] w w' := by
  by_cases h : kl < vl
  · obtain rfl : kl = P := by omega
    have d1 : decide (kl < vl) = true := decide_eq_true h
    have d2 : decide ((kl : Int) < (vl : Int)) = true := decide_eq_true (by omega)
    clear hP
    go_enter Try.func34, Try.ntmps34
    go_wp2_with fail
    go_ret
    exact ⟨rfl, Chg.alloc [] _ _⟩
  · obtain rfl : vl = P := by omega
    have d1 : decide (kl < vl) = false := decide_eq_false h
    have d2 : decide ((kl : Int) < (vl : Int)) = false := decide_eq_false (by omega)
    clear hP
    go_enter Try.func34, Try.ntmps34
    go_wp2_with fail
    go_ret
    exact ⟨rfl, Chg.alloc [] _ _⟩
set_option maxRecDepth 20000 in
theorem pairs_any (lf : Bool) (ka : Option Addr) (kl kc : Nat) (va : Option Addr) (vl vc : Nat) (P : Nat) (hP : min kl vl = P) (w : World) : Calls Try.prog 33 #[.agg #[.bool lf, .slice ka kl kc, .slice va vl vc]] w fun e w' => e = .returned (.int .i64 (P : Int)) ∧ Chg [] w w' := by
  by_cases h : kl ≤ vl
  · obtain rfl : kl = P := by omega
    have d1 : decide (kl ≤ vl) = true := decide_eq_true h
    have d2 : decide ((kl : Int) ≤ (vl : Int)) = true := decide_eq_true (by omega)
    have d3 : ((kl : Int) ≤ (vl : Int)) = True := eq_true (by omega)
    clear hP
    go_enter Try.func33, Try.ntmps33
    go_wp2_with fail
    go_ret
    exact ⟨ret_int (by omega), Chg.alloc [] _ _⟩
  · obtain rfl : vl = P := by omega
    have d1 : decide (kl ≤ vl) = false := decide_eq_false h
    have d2 : decide ((kl : Int) ≤ (vl : Int)) = false := decide_eq_false (by omega)
    have d3 : ((kl : Int) ≤ (vl : Int)) = False := eq_false (by omega)
    clear hP
    go_enter Try.func33, Try.ntmps33
    go_wp2_with fail
    go_ret
    exact ⟨ret_int (by omega), Chg.alloc [] _ _⟩
set_option maxRecDepth 20000 in
set_option maxHeartbeats 1000000 in
theorem rfind_any (lf : Bool) (ka : Option Addr) (kl kc : Nat) (va : Option Addr) (vl vc : Nat) (K V : List Nat) (w : World) (h : RdN w ka kc va vc K V) (hk : K.length = kl) (hv : V.length = vl) (x : Nat) :
    Calls Try.prog 10 #[.agg #[.bool lf, .slice ka kl kc, .slice va vl vc], .int .u64 (x : Int)] w fun e w' => e = .returned (.tuple #[.int .i64 (findN x K V : Nat), .bool (isN x K V)]) ∧ Chg [] w w' := by
  have hkc := h.ck
  have hbk := h.bk
  have g0 := Chg.alloc [] w (.cells #[.bool lf, .slice ka kl kc, .slice va vl vc] 24)
  obtain ⟨c0, c1, c2⟩ := laid3 w (.bool lf) (.slice ka kl kc) (.slice va vl vc) 24
  have h1 := h.keep g0
  obtain ⟨P, hP⟩ : ∃ P, np K V = P := ⟨_, rfl⟩
  have cP := rpairs_any lf ka kl kc va vl vc P (by rw [min_np hk hv, hP])
  have hPk : P ≤ kl := by rw [← hP, ← hk]; exact np_le.1
  have hklb : kl ≤ 140737488351232 := by omega
  have HC := mkHid (And.intro c0 (And.intro c1 c2))
  have HP := mkHid hP
  have HK := mkHid hk
  clear c0 c1 c2 hk hv h hP
  go_enter Try.func10, Try.ntmps10
  go_wp2_with fail
  generalize w.alloc (.cells #[.bool lf, .slice ka kl kc, .slice va vl vc] 24) = w1 at *
  generalize w.heap.size = b at *
  obtain ⟨c0, c1, c2⟩ := HC.out
  go_loopw [6] (fun iv wr => ∃ k : Nat, iv = .int .i64 k ∧ k ≤ findN x K V ∧ k ≤ P ∧ Chg [] w1 wr) (fun iv _ => P - (intOf iv).toNat)
  case atStart => exact ⟨0, rfl, Nat.zero_le _, Nat.zero_le _, Chg.refl _ _⟩
  case round =>
    obtain ⟨k, rfl, hkr, hkP, hg⟩ := hrel
    have x0 := hg.cellv c0 (by simp)
    have x1 := hg.cellv c1 (by simp)
    have x2 := hg.cellv c2 (by simp)
    have hr := h1.keep hg
    by_cases hlt : k < P
    · have d1 : decide (k < P) = true := decide_eq_true hlt
      have d2 : decide ((k : Int) < (P : Int)) = true := decide_eq_true (by omega)
      have hkl : k < kl := by omega
      obtain ⟨y, hy⟩ : ∃ y, K[k]? = some y := ⟨_, List.getElem?_eq_getElem (by rw [HK.out]; exact hkl)⟩
      obtain ⟨kb, ko, rfl, ck, _⟩ := reads_lt hr.rk k _ (uvs_get hy)
      by_cases hyx : y < x
      · have e1 : decide (y < x) = true := decide_eq_true hyx
        have e2 : decide ((y : Int) < (x : Int)) = true := decide_eq_true (by omega)
        have hs : k + 1 ≤ findN x K V := run_step hkr (by rw [HP.out]; exact hlt) hy e1
        clear hr hy
        go_wp2_with fail
        refine (cP wr).mono ?_
        rintro e w2 ⟨rfl, g2⟩
        have y1 := g2.cellv x1 (by simp)
        have ck2 := g2.cellv ck (by simp)
        have hg2 := hg.then g2
        clear x0 x1 x2 ck
        go_wp2_with fail
        exact ⟨⟨k + 1, by first | rfl | go_num, hs, by omega, hg2⟩, by simp [intOf]; omega⟩
      · have e1 : decide (y < x) = false := decide_eq_false hyx
        have e2 : decide ((y : Int) < (x : Int)) = false := decide_eq_false (by omega)
        have hs : findN x K V = k := run_stop hkr (by rw [HP.out]; exact hlt) hy e1
        have hi : isN x K V = decide (y = x) := is_at (by rw [hs, HP.out]; exact hlt) (by rw [hs]; exact hy)
        have HS := mkHid hs
        have HI := mkHid hi
        clear hr hy hs hi
        go_wp2_with fail
        refine (cP wr).mono ?_
        rintro e w2 ⟨rfl, g2⟩
        have y0 := g2.cellv x0 (by simp)
        have y1 := g2.cellv x1 (by simp)
        have y2 := g2.cellv x2 (by simp)
        have ck2 := g2.cellv ck (by simp)
        have hg2 := hg.then g2
        clear x0 x1 x2 ck
        by_cases hxy : y = x
        · have e3 : ((y : Int) == (x : Int)) = true := by simp; omega
          have e4 : (y == x) = true := by simp; omega
          have HX := mkHid hxy
          clear hxy
          go_wp2_with fail
          go_region_held3 (fun u => u.cell? ⟨b, 0, none⟩ = some (.bool lf) ∧ u.cell? ⟨b, 1, none⟩ = some (.slice (some ⟨kb, ko, none⟩) kl kc) ∧ u.cell? ⟨b, 2, none⟩ = some (.slice va vl vc) ∧ u.cell? ⟨kb, ko + k, none⟩ = some (.int .u64 (y : Int)) ∧ Chg [] w1 u)
            (first | exact ⟨(Chg.drew [] _).cellv y0 (by simp), (Chg.drew [] _).cellv y1 (by simp), (Chg.drew [] _).cellv y2 (by simp), (Chg.drew [] _).cellv ck2 (by simp), hg2.then (Chg.drew [] _)⟩ | exact step4 (by assumption) (by assumption) | assumption)
            (first | (go_at_call 34; refine (cP _).mono ?_; rintro e w3 ⟨rfl, g3⟩))
          have hg4 : Chg [] w1 w3 := pick4 (by assumption)
          go_wp2_with fail
          go_ret2
          rw [HS.out, HI.out, decide_eq_true HX.out]
          exact ⟨rfl, g0.then hg4⟩
        · have e3 : ((y : Int) == (x : Int)) = false := by simp; omega
          have e4 : (y == x) = false := by simp; omega
          have HX := mkHid hxy
          clear hxy
          go_wp2_with fail
          go_region_held3 (fun u => u.cell? ⟨b, 0, none⟩ = some (.bool lf) ∧ u.cell? ⟨b, 1, none⟩ = some (.slice (some ⟨kb, ko, none⟩) kl kc) ∧ u.cell? ⟨b, 2, none⟩ = some (.slice va vl vc) ∧ u.cell? ⟨kb, ko + k, none⟩ = some (.int .u64 (y : Int)) ∧ Chg [] w1 u)
            (first | exact ⟨(Chg.drew [] _).cellv y0 (by simp), (Chg.drew [] _).cellv y1 (by simp), (Chg.drew [] _).cellv y2 (by simp), (Chg.drew [] _).cellv ck2 (by simp), hg2.then (Chg.drew [] _)⟩ | exact step4 (by assumption) (by assumption) | assumption)
            (first | (go_at_call 34; refine (cP _).mono ?_; rintro e w3 ⟨rfl, g3⟩))
          have hg4 : Chg [] w1 w3 := pick4 (by assumption)
          go_wp2_with fail
          go_ret2
          rw [HS.out, HI.out, decide_eq_false HX.out]
          exact ⟨rfl, g0.then hg4⟩
    · have hke : k = P := by omega
      have HKE := mkHid hke
      clear hke
      have d1 : decide (k < P) = false := decide_eq_false hlt
      have d2 : decide ((k : Int) < (P : Int)) = false := decide_eq_false (by omega)
      have hs : findN x K V = k := run_end hkr (by rw [HP.out]; exact hlt)
      have hi : isN x K V = false := is_end (by rw [hs, HP.out]; exact hlt)
      have HS := mkHid hs
      have HI := mkHid hi
      clear hr hs hi
      go_wp2_with fail
      refine (cP wr).mono ?_
      rintro e w2 ⟨rfl, g2⟩
      have y0 := g2.cellv x0 (by simp)
      have y1 := g2.cellv x1 (by simp)
      have y2 := g2.cellv x2 (by simp)
      have hg2 := hg.then g2
      clear x0 x1 x2
      go_wp2_with fail
      refine wp_region_held_drew (S := fun u => u.cell? ⟨b, 0, none⟩ = some (.bool lf) ∧ u.cell? ⟨b, 1, none⟩ = some (.slice ka kl kc) ∧ u.cell? ⟨b, 2, none⟩ = some (.slice va vl vc) ∧ Chg [] w1 u) (by kernel_rfl) ?_ (fun hH => ?_)
      · exact ⟨(Chg.drew [] _).cellv y0 (by simp), (Chg.drew [] _).cellv y1 (by simp), (Chg.drew [] _).cellv y2 (by simp), hg2.then (Chg.drew [] _)⟩
      refine wpAnyH_take (i := 0) (oi := { dst := some 22, op := _, type := _, pos := _, after := _, guard := none }) (v := ?_) rfl (by kernel_rfl) (by kernel_rfl) (by kernel_rfl) (fun _ _ _ h => h) (Or.inl ⟨by rfl, ?_⟩) hH ?_
      rotate_left
      · intro u hSu
        try dsimp only at hSu
        go_simp
        try with_reducible rfl
      try simp only [Act.put, List.setIfInBounds_toArray, List.set_cons_zero, List.set_cons_succ]
      refine wpAnyH_take (i := 1) (oi := { dst := some 23, op := _, type := _, pos := _, after := _, guard := none }) (v := ?_) rfl (by kernel_rfl) (by kernel_rfl) (by kernel_rfl) (fun _ _ _ h => h) (Or.inl ⟨by rfl, ?_⟩) hH ?_
      rotate_left
      · intro u hSu
        try dsimp only at hSu
        go_simp
        try with_reducible rfl
      try simp only [Act.put, List.setIfInBounds_toArray, List.set_cons_zero, List.set_cons_succ]
      refine wpAnyH_take (i := 2) (oi := { dst := some 24, op := _, type := _, pos := _, after := _, guard := none }) (v := ?_) rfl (by kernel_rfl) (by kernel_rfl) (by kernel_rfl) (fun _ _ _ h => h) (Or.inl ⟨by rfl, ?_⟩) hH ?_
      rotate_left
      · intro u hSu
        try dsimp only at hSu
        go_simp
        try with_reducible rfl
      try simp only [Act.put, List.setIfInBounds_toArray, List.set_cons_zero, List.set_cons_succ]
      refine wpAnyH_ready (rs := [3]) (by kernel_rfl) (by simp) ?_
      refine AllReadyH.cons (o := { dst := some 25, op := _, type := _, pos := _, after := _, guard := none }) rfl (fun K hK => ?_) AllReadyH.nil
      go_simp
      go_at_call 34
      refine (cP _).mono ?_
      rintro e w3 ⟨rfl, g3⟩
      have hS3 := step3 hH g3
      clear hH
      refine hK.out _ _ hS3 (fun hH => ?_)
      clear hK K
      try simp only [Act.put, List.setIfInBounds_toArray, List.set_cons_zero, List.set_cons_succ]
      refine wpAnyH_take (i := 4) (oi := { dst := some 26, op := _, type := _, pos := _, after := _, guard := none }) (v := ?_) rfl (by kernel_rfl) (by kernel_rfl) (by kernel_rfl) (fun _ _ _ h => h) (Or.inl ⟨by rfl, ?_⟩) hH ?_
      rotate_left
      · intro u hSu
        try dsimp only at hSu
        go_simp
        try with_reducible rfl
      try simp only [Act.put, List.setIfInBounds_toArray, List.set_cons_zero, List.set_cons_succ]
      refine wpAnyH_take (i := 5) (oi := { dst := some 27, op := _, type := _, pos := _, after := _, guard := none }) (v := ?_) rfl (by kernel_rfl) (by kernel_rfl) (by kernel_rfl) (fun _ _ _ h => h) (Or.inl ⟨by rfl, ?_⟩) hH ?_
      rotate_left
      · intro u hSu
        try dsimp only at hSu
        go_simp
        try with_reducible rfl
      try simp only [Act.put, List.setIfInBounds_toArray, List.set_cons_zero, List.set_cons_succ]
      refine wpAnyH_take (i := 6) (oi := { dst := some 28, op := _, type := _, pos := _, after := _, guard := some (5, true) }) (v := undef) rfl (by kernel_rfl) (by kernel_rfl) (by kernel_rfl) (fun _ _ _ h => h) (Or.inr ⟨by rfl, rfl⟩) hH ?_
      try simp only [Act.put, List.setIfInBounds_toArray, List.set_cons_zero, List.set_cons_succ]
      refine wpAnyH_take (i := 7) (oi := { dst := some 29, op := _, type := _, pos := _, after := _, guard := some (5, true) }) (v := undef) rfl (by kernel_rfl) (by kernel_rfl) (by kernel_rfl) (fun _ _ _ h => h) (Or.inr ⟨by rfl, rfl⟩) hH ?_
      try simp only [Act.put, List.setIfInBounds_toArray, List.set_cons_zero, List.set_cons_succ]
      refine wpAnyH_take (i := 8) (oi := { dst := some 30, op := _, type := _, pos := _, after := _, guard := some (5, true) }) (v := undef) rfl (by kernel_rfl) (by kernel_rfl) (by kernel_rfl) (fun _ _ _ h => h) (Or.inr ⟨by rfl, rfl⟩) hH ?_
      try simp only [Act.put, List.setIfInBounds_toArray, List.set_cons_zero, List.set_cons_succ]
      refine wpAnyH_take (i := 9) (oi := { dst := some 31, op := _, type := _, pos := _, after := _, guard := some (5, true) }) (v := undef) rfl (by kernel_rfl) (by kernel_rfl) (by kernel_rfl) (fun _ _ _ h => h) (Or.inr ⟨by rfl, rfl⟩) hH ?_
      try simp only [Act.put, List.setIfInBounds_toArray, List.set_cons_zero, List.set_cons_succ]
      refine wpAnyH_take (i := 10) (oi := { dst := some 32, op := _, type := _, pos := _, after := _, guard := some (5, true) }) (v := undef) rfl (by kernel_rfl) (by kernel_rfl) (by kernel_rfl) (fun _ _ _ h => h) (Or.inr ⟨by rfl, rfl⟩) hH ?_
      try simp only [Act.put, List.setIfInBounds_toArray, List.set_cons_zero, List.set_cons_succ]
      refine wpAnyH_take (i := 11) (oi := { dst := some 33, op := _, type := _, pos := _, after := _, guard := some (5, true) }) (v := undef) rfl (by kernel_rfl) (by kernel_rfl) (by kernel_rfl) (fun _ _ _ h => h) (Or.inr ⟨by rfl, rfl⟩) hH ?_
      try simp only [Act.put, List.setIfInBounds_toArray, List.set_cons_zero, List.set_cons_succ]
      refine wpAnyH_take (i := 12) (oi := { dst := some 34, op := _, type := _, pos := _, after := _, guard := some (5, true) }) (v := undef) rfl (by kernel_rfl) (by kernel_rfl) (by kernel_rfl) (fun _ _ _ h => h) (Or.inr ⟨by rfl, rfl⟩) hH ?_
      try simp only [Act.put, List.setIfInBounds_toArray, List.set_cons_zero, List.set_cons_succ]
      refine wpAnyH_take (i := 13) (oi := { dst := some 35, op := _, type := _, pos := _, after := _, guard := none }) (v := ?_) rfl (by kernel_rfl) (by kernel_rfl) (by kernel_rfl) (fun _ _ _ h => h) (Or.inl ⟨by rfl, ?_⟩) hH ?_
      rotate_left
      · intro u hSu
        try dsimp only at hSu
        go_simp
        try with_reducible rfl
      try simp only [Act.put, List.setIfInBounds_toArray, List.set_cons_zero, List.set_cons_succ]
      refine wpAnyH_take (i := 14) (oi := { dst := some 4, op := _, type := _, pos := _, after := _, guard := none }) (v := ?_) rfl (by kernel_rfl) (by kernel_rfl) (by kernel_rfl) (fun _ _ _ h => h) (Or.inl ⟨by rfl, ?_⟩) hH ?_
      rotate_left
      · intro u hSu
        try dsimp only at hSu
        go_simp
        try with_reducible rfl
      try simp only [Act.put, List.setIfInBounds_toArray, List.set_cons_zero, List.set_cons_succ]
      refine wpAnyH_take (i := 15) (oi := { dst := some 5, op := _, type := _, pos := _, after := _, guard := none }) (v := ?_) rfl (by kernel_rfl) (by kernel_rfl) (by kernel_rfl) (fun _ _ _ h => h) (Or.inl ⟨by rfl, ?_⟩) hH ?_
      rotate_left
      · intro u hSu
        try dsimp only at hSu
        go_simp
        try with_reducible rfl
      try simp only [Act.put, List.setIfInBounds_toArray, List.set_cons_zero, List.set_cons_succ]
      refine wpAnyH_done (by kernel_rfl) ?_ _
      have hg4 : Chg [] w1 w3 := pick3 hS3
      go_wp2_with fail
      go_ret2
      rw [HS.out, HI.out]
      exact ⟨rfl, g0.then hg4⟩
end Go.Proofs.Ytlaeonemlodhmaa
