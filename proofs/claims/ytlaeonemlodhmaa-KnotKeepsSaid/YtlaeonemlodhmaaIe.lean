/- Find, Child of the package; the reference's Child. -/
import Derived.Test.YtlaeonemlodhmaaId
namespace Go.Proofs.Ytlaeonemlodhmaa
open Go.RowKit
set_option linter.unusedVariables false
set_option linter.unusedSimpArgs false
attribute [local go_sem ↓] Go.wp_at_zero Go.wp_at_succ

theorem step5 {a0 a1 a2 a3 a4 : Addr} {v0 v1 v2 v3 v4 : Value} {W u u' : World} (h : u.cell? a0 = some v0 ∧ u.cell? a1 = some v1 ∧ u.cell? a2 = some v2 ∧ u.cell? a3 = some v3 ∧ u.cell? a4 = some v4 ∧ Chg [] W u) (g : Chg [] u u') : u'.cell? a0 = some v0 ∧ u'.cell? a1 = some v1 ∧ u'.cell? a2 = some v2 ∧ u'.cell? a3 = some v3 ∧ u'.cell? a4 = some v4 ∧ Chg [] W u' :=
  ⟨g.cellv h.1 (by simp), g.cellv h.2.1 (by simp), g.cellv h.2.2.1 (by simp), g.cellv h.2.2.2.1 (by simp), g.cellv h.2.2.2.2.1 (by simp), h.2.2.2.2.2.then g⟩
theorem pick5 {p0 p1 p2 p3 p4 q : Prop} (h : p0 ∧ p1 ∧ p2 ∧ p3 ∧ p4 ∧ q) : q := h.2.2.2.2.2
/-- A node and one value more, laid. -/
theorem laid31 (w : World) (x y z u : Value) (t s : TypeId) : ((w.alloc (.cells #[x, y, z] t)).alloc (.cells #[u] s)).cell? ⟨w.heap.size, 0, none⟩ = some x ∧ ((w.alloc (.cells #[x, y, z] t)).alloc (.cells #[u] s)).cell? ⟨w.heap.size, 1, none⟩ = some y ∧ ((w.alloc (.cells #[x, y, z] t)).alloc (.cells #[u] s)).cell? ⟨w.heap.size, 2, none⟩ = some z ∧ ((w.alloc (.cells #[x, y, z] t)).alloc (.cells #[u] s)).cell? ⟨w.heap.size + 1, 0, none⟩ = some u := by
  obtain ⟨h0, h1, h2⟩ := laid3 w x y z t
  have g := Chg.alloc [] (w.alloc (.cells #[x, y, z] t)) (.cells #[u] s)
  refine ⟨g.cellv h0 (by simp), g.cellv h1 (by simp), g.cellv h2 (by simp), ?_⟩
  have hz : (w.alloc (.cells #[x, y, z] t)).heap.size = w.heap.size + 1 := by simp
  have hl := cell_of_row _ _ 0 _ _ _ (heap_alloc_last (w.alloc (.cells #[x, y, z] t)) (.cells #[u] s))
  rw [hz] at hl
  rw [hl]; rfl
set_option maxRecDepth 20000 in
set_option maxHeartbeats 1000000 in
theorem find_any (lf : Bool) (ka : Option Addr) (kl kc : Nat) (va : Option Addr) (vl vc : Nat) (K V : List Nat) (w : World) (h : RdN w ka kc va vc K V) (hk : K.length = kl) (hv : V.length = vl) (x : Nat) :
    Calls Try.prog 9 #[.agg #[.bool lf, .slice ka kl kc, .slice va vl vc], .int .u64 (x : Int)] w fun e w' => e = .returned (.tuple #[.int .i64 (findN x K V : Nat), .bool (isN x K V)]) ∧ Chg [] w w' := by
  have hkc := h.ck
  have hbk := h.bk
  have g0 : Chg [] w ((w.alloc (.cells #[.bool lf, .slice ka kl kc, .slice va vl vc] 24)).alloc (.cells #[.int .u64 (x : Int)] 25)) := (Chg.alloc [] w _).then (Chg.alloc [] _ _)
  obtain ⟨c0, c1, c2, c3⟩ := laid31 w (.bool lf) (.slice ka kl kc) (.slice va vl vc) (.int .u64 (x : Int)) 24 25
  have h1 := h.keep g0
  obtain ⟨P, hP⟩ : ∃ P, np K V = P := ⟨_, rfl⟩
  have cP := pairs_any lf ka kl kc va vl vc P (by rw [min_np hk hv, hP])
  have hPk : P ≤ kl := by rw [← hP, ← hk]; exact np_le.1
  have hklb : kl ≤ 140737488351232 := by omega
  have HC := mkHid (And.intro c0 (And.intro c1 (And.intro c2 c3)))
  have HP := mkHid hP
  have HK := mkHid hk
  have HV := mkHid hv
  clear c0 c1 c2 c3 hk hv h hP
  go_enter Try.func9, Try.ntmps9
  go_wp2_with fail
  generalize (w.alloc (.cells #[.bool lf, .slice ka kl kc, .slice va vl vc] 24)).alloc (.cells #[.int .u64 (x : Int)] 25) = w1 at *
  generalize w.heap.size + 1 = xb at *
  generalize w.heap.size = b at *
  obtain ⟨c0, c1, c2, c3⟩ := HC.out
  go_wp2_with fail
  refine (run_find lf ka kl kc va vl vc K V w1 h1 HK.out HV.out x xb c3).mono ?_
  rintro e w2 ⟨rfl, g2⟩
  have x0 := g2.cellv c0 (by simp)
  have x1 := g2.cellv c1 (by simp)
  have x2 := g2.cellv c2 (by simp)
  have x3 := g2.cellv c3 (by simp)
  have hr := h1.keep g2
  have gA := g0.then g2
  obtain ⟨k, hkf⟩ : ∃ k, findN x K V = k := ⟨_, rfl⟩
  have hkP : k ≤ P := by rw [← hkf, ← HP.out]; exact run_le _ _ _
  rw [hkf]
  have HF := mkHid hkf
  clear c0 c1 c2 c3 HC hkf
  by_cases hlt : k < P
  · have d1 : decide (k < P) = true := decide_eq_true hlt
    have d2 : decide ((k : Int) < (P : Int)) = true := decide_eq_true (by omega)
    have hkl : k < kl := by omega
    obtain ⟨y, hy⟩ : ∃ y, K[k]? = some y := ⟨_, List.getElem?_eq_getElem (by rw [HK.out]; exact hkl)⟩
    obtain ⟨kb, ko, rfl, ck, _⟩ := reads_lt hr.rk k _ (uvs_get hy)
    have hi : isN x K V = decide (y = x) := is_at (by rw [HF.out, HP.out]; exact hlt) (by rw [HF.out]; exact hy)
    have HI := mkHid hi
    clear hr hy hi
    by_cases hxy : y = x
    · have e3 : ((y : Int) == (x : Int)) = true := by simp; omega
      have e4 : (y == x) = true := by simp; omega
      have HX := mkHid hxy
      clear hxy
      go_wp2_with fail
      go_region_held3 (fun u => u.cell? ⟨b, 0, none⟩ = some (.bool lf) ∧ u.cell? ⟨b, 1, none⟩ = some (.slice (some ⟨kb, ko, none⟩) kl kc) ∧ u.cell? ⟨b, 2, none⟩ = some (.slice va vl vc) ∧ u.cell? ⟨kb, ko + k, none⟩ = some (.int .u64 (y : Int)) ∧ u.cell? ⟨xb, 0, none⟩ = some (.int .u64 (x : Int)) ∧ Chg [] w1 u)
        (first | exact ⟨(Chg.drew [] _).cellv x0 (by simp), (Chg.drew [] _).cellv x1 (by simp), (Chg.drew [] _).cellv x2 (by simp), (Chg.drew [] _).cellv ck (by simp), (Chg.drew [] _).cellv x3 (by simp), g2.then (Chg.drew [] _)⟩ | exact step5 (by assumption) (by assumption) | assumption)
        (first | (go_at_call 33; refine (cP _).mono ?_; rintro e w3 ⟨rfl, g3⟩))
      have hg4 : Chg [] w1 w3 := pick5 (by assumption)
      go_wp2_with fail
      go_ret2
      rw [HF.out, HI.out, decide_eq_true HX.out]
      exact ⟨rfl, g0.then hg4⟩
    · have e3 : ((y : Int) == (x : Int)) = false := by simp; omega
      have e4 : (y == x) = false := by simp; omega
      have HX := mkHid hxy
      clear hxy
      go_wp2_with fail
      go_region_held3 (fun u => u.cell? ⟨b, 0, none⟩ = some (.bool lf) ∧ u.cell? ⟨b, 1, none⟩ = some (.slice (some ⟨kb, ko, none⟩) kl kc) ∧ u.cell? ⟨b, 2, none⟩ = some (.slice va vl vc) ∧ u.cell? ⟨kb, ko + k, none⟩ = some (.int .u64 (y : Int)) ∧ u.cell? ⟨xb, 0, none⟩ = some (.int .u64 (x : Int)) ∧ Chg [] w1 u)
        (first | exact ⟨(Chg.drew [] _).cellv x0 (by simp), (Chg.drew [] _).cellv x1 (by simp), (Chg.drew [] _).cellv x2 (by simp), (Chg.drew [] _).cellv ck (by simp), (Chg.drew [] _).cellv x3 (by simp), g2.then (Chg.drew [] _)⟩ | exact step5 (by assumption) (by assumption) | assumption)
        (first | (go_at_call 33; refine (cP _).mono ?_; rintro e w3 ⟨rfl, g3⟩))
      have hg4 : Chg [] w1 w3 := pick5 (by assumption)
      go_wp2_with fail
      go_ret2
      rw [HF.out, HI.out, decide_eq_false HX.out]
      exact ⟨rfl, g0.then hg4⟩
  · have d1 : decide (k < P) = false := decide_eq_false hlt
    have d2 : decide ((k : Int) < (P : Int)) = false := decide_eq_false (by omega)
    have hi : isN x K V = false := is_end (by rw [HF.out, HP.out]; exact hlt)
    have HI := mkHid hi
    clear hr hi
    go_wp2_with fail
    refine wp_region_held_drew (S := fun u => u.cell? ⟨b, 0, none⟩ = some (.bool lf) ∧ u.cell? ⟨b, 1, none⟩ = some (.slice ka kl kc) ∧ u.cell? ⟨b, 2, none⟩ = some (.slice va vl vc) ∧ Chg [] w1 u) (by kernel_rfl) ?_ (fun hH => ?_)
    · exact ⟨(Chg.drew [] _).cellv x0 (by simp), (Chg.drew [] _).cellv x1 (by simp), (Chg.drew [] _).cellv x2 (by simp), g2.then (Chg.drew [] _)⟩
    refine wpAnyH_take (i := 0) (oi := { dst := some 10, op := _, type := _, pos := _, after := _, guard := none }) (v := ?_) rfl (by kernel_rfl) (by kernel_rfl) (by kernel_rfl) (fun _ _ _ h => h) (Or.inl ⟨by rfl, ?_⟩) hH ?_
    rotate_left
    · intro u hSu
      try dsimp only at hSu
      go_simp
      try with_reducible rfl
    try simp only [Act.put, List.setIfInBounds_toArray, List.set_cons_zero, List.set_cons_succ]
    refine wpAnyH_take (i := 1) (oi := { dst := some 11, op := _, type := _, pos := _, after := _, guard := none }) (v := ?_) rfl (by kernel_rfl) (by kernel_rfl) (by kernel_rfl) (fun _ _ _ h => h) (Or.inl ⟨by rfl, ?_⟩) hH ?_
    rotate_left
    · intro u hSu
      try dsimp only at hSu
      go_simp
      try with_reducible rfl
    try simp only [Act.put, List.setIfInBounds_toArray, List.set_cons_zero, List.set_cons_succ]
    refine wpAnyH_take (i := 2) (oi := { dst := some 12, op := _, type := _, pos := _, after := _, guard := none }) (v := ?_) rfl (by kernel_rfl) (by kernel_rfl) (by kernel_rfl) (fun _ _ _ h => h) (Or.inl ⟨by rfl, ?_⟩) hH ?_
    rotate_left
    · intro u hSu
      try dsimp only at hSu
      go_simp
      try with_reducible rfl
    try simp only [Act.put, List.setIfInBounds_toArray, List.set_cons_zero, List.set_cons_succ]
    refine wpAnyH_ready (rs := [3]) (by kernel_rfl) (by simp) ?_
    refine AllReadyH.cons (o := { dst := some 13, op := _, type := _, pos := _, after := _, guard := none }) rfl (fun K hK => ?_) AllReadyH.nil
    go_simp
    go_at_call 33
    refine (cP _).mono ?_
    rintro e w3 ⟨rfl, g3⟩
    have hS3 := step3 hH g3
    clear hH
    refine hK.out _ _ hS3 (fun hH => ?_)
    clear hK K
    try simp only [Act.put, List.setIfInBounds_toArray, List.set_cons_zero, List.set_cons_succ]
    refine wpAnyH_take (i := 4) (oi := { dst := some 14, op := _, type := _, pos := _, after := _, guard := none }) (v := ?_) rfl (by kernel_rfl) (by kernel_rfl) (by kernel_rfl) (fun _ _ _ h => h) (Or.inl ⟨by rfl, ?_⟩) hH ?_
    rotate_left
    · intro u hSu
      try dsimp only at hSu
      go_simp
      try with_reducible rfl
    try simp only [Act.put, List.setIfInBounds_toArray, List.set_cons_zero, List.set_cons_succ]
    refine wpAnyH_take (i := 5) (oi := { dst := some 15, op := _, type := _, pos := _, after := _, guard := none }) (v := ?_) rfl (by kernel_rfl) (by kernel_rfl) (by kernel_rfl) (fun _ _ _ h => h) (Or.inl ⟨by rfl, ?_⟩) hH ?_
    rotate_left
    · intro u hSu
      try dsimp only at hSu
      go_simp
      try with_reducible rfl
    try simp only [Act.put, List.setIfInBounds_toArray, List.set_cons_zero, List.set_cons_succ]
    refine wpAnyH_take (i := 6) (oi := { dst := some 16, op := _, type := _, pos := _, after := _, guard := some (5, true) }) (v := undef) rfl (by kernel_rfl) (by kernel_rfl) (by kernel_rfl) (fun _ _ _ h => h) (Or.inr ⟨by rfl, rfl⟩) hH ?_
    try simp only [Act.put, List.setIfInBounds_toArray, List.set_cons_zero, List.set_cons_succ]
    refine wpAnyH_take (i := 7) (oi := { dst := some 17, op := _, type := _, pos := _, after := _, guard := some (5, true) }) (v := undef) rfl (by kernel_rfl) (by kernel_rfl) (by kernel_rfl) (fun _ _ _ h => h) (Or.inr ⟨by rfl, rfl⟩) hH ?_
    try simp only [Act.put, List.setIfInBounds_toArray, List.set_cons_zero, List.set_cons_succ]
    refine wpAnyH_take (i := 8) (oi := { dst := some 18, op := _, type := _, pos := _, after := _, guard := some (5, true) }) (v := undef) rfl (by kernel_rfl) (by kernel_rfl) (by kernel_rfl) (fun _ _ _ h => h) (Or.inr ⟨by rfl, rfl⟩) hH ?_
    try simp only [Act.put, List.setIfInBounds_toArray, List.set_cons_zero, List.set_cons_succ]
    refine wpAnyH_take (i := 9) (oi := { dst := some 19, op := _, type := _, pos := _, after := _, guard := some (5, true) }) (v := undef) rfl (by kernel_rfl) (by kernel_rfl) (by kernel_rfl) (fun _ _ _ h => h) (Or.inr ⟨by rfl, rfl⟩) hH ?_
    try simp only [Act.put, List.setIfInBounds_toArray, List.set_cons_zero, List.set_cons_succ]
    refine wpAnyH_take (i := 10) (oi := { dst := some 20, op := _, type := _, pos := _, after := _, guard := some (5, true) }) (v := undef) rfl (by kernel_rfl) (by kernel_rfl) (by kernel_rfl) (fun _ _ _ h => h) (Or.inr ⟨by rfl, rfl⟩) hH ?_
    try simp only [Act.put, List.setIfInBounds_toArray, List.set_cons_zero, List.set_cons_succ]
    refine wpAnyH_take (i := 11) (oi := { dst := some 21, op := _, type := _, pos := _, after := _, guard := some (5, true) }) (v := undef) rfl (by kernel_rfl) (by kernel_rfl) (by kernel_rfl) (fun _ _ _ h => h) (Or.inr ⟨by rfl, rfl⟩) hH ?_
    try simp only [Act.put, List.setIfInBounds_toArray, List.set_cons_zero, List.set_cons_succ]
    refine wpAnyH_take (i := 12) (oi := { dst := some 22, op := _, type := _, pos := _, after := _, guard := some (5, true) }) (v := undef) rfl (by kernel_rfl) (by kernel_rfl) (by kernel_rfl) (fun _ _ _ h => h) (Or.inr ⟨by rfl, rfl⟩) hH ?_
    try simp only [Act.put, List.setIfInBounds_toArray, List.set_cons_zero, List.set_cons_succ]
    refine wpAnyH_take (i := 13) (oi := { dst := some 23, op := _, type := _, pos := _, after := _, guard := none }) (v := ?_) rfl (by kernel_rfl) (by kernel_rfl) (by kernel_rfl) (fun _ _ _ h => h) (Or.inl ⟨by rfl, ?_⟩) hH ?_
    rotate_left
    · intro u hSu
      try dsimp only at hSu
      go_simp
      try with_reducible rfl
    try simp only [Act.put, List.setIfInBounds_toArray, List.set_cons_zero, List.set_cons_succ]
    refine wpAnyH_take (i := 14) (oi := { dst := some 4, op := _, type := _, pos := _, after := _, guard := none }) (v := ?_) rfl (by kernel_rfl) (by kernel_rfl) (by kernel_rfl) (fun _ _ _ h => h) (Or.inl ⟨by rfl, ?_⟩) hH ?_
    rotate_left
    · intro u hSu
      try dsimp only at hSu
      go_simp
      try with_reducible rfl
    try simp only [Act.put, List.setIfInBounds_toArray, List.set_cons_zero, List.set_cons_succ]
    refine wpAnyH_take (i := 15) (oi := { dst := some 5, op := _, type := _, pos := _, after := _, guard := none }) (v := ?_) rfl (by kernel_rfl) (by kernel_rfl) (by kernel_rfl) (fun _ _ _ h => h) (Or.inl ⟨by rfl, ?_⟩) hH ?_
    rotate_left
    · intro u hSu
      try dsimp only at hSu
      go_simp
      try with_reducible rfl
    try simp only [Act.put, List.setIfInBounds_toArray, List.set_cons_zero, List.set_cons_succ]
    refine wpAnyH_done (by kernel_rfl) ?_ _
    have hg4 : Chg [] w1 w3 := pick3 hS3
    go_wp2_with fail
    go_ret2
    rw [HF.out, HI.out]
    exact ⟨rfl, g0.then hg4⟩
set_option maxRecDepth 20000 in
theorem child_any (lf : Bool) (ka : Option Addr) (kl kc : Nat) (va : Option Addr) (vl vc : Nat) (K V : List Nat) (w : World) (h : RdN w ka kc va vc K V) (hk : K.length = kl) (hv : V.length = vl) (x : Nat) :
    Calls Try.prog 12 #[.agg #[.bool lf, .slice ka kl kc, .slice va vl vc], .int .u64 (x : Int)] w fun e w' => e = .returned (.int .i64 (childN x K V : Nat)) ∧ Chg [] w w' := by
  have hkc := h.ck
  have hbk := h.bk
  have g0 : Chg [] w ((w.alloc (.cells #[.bool lf, .slice ka kl kc, .slice va vl vc] 24)).alloc (.cells #[.int .u64 (x : Int)] 25)) := (Chg.alloc [] w _).then (Chg.alloc [] _ _)
  obtain ⟨c0, c1, c2, c3⟩ := laid31 w (.bool lf) (.slice ka kl kc) (.slice va vl vc) (.int .u64 (x : Int)) 24 25
  have h1 := h.keep g0
  obtain ⟨P, hP⟩ : ∃ P, np K V = P := ⟨_, rfl⟩
  have cP := pairs_any lf ka kl kc va vl vc P (by rw [min_np hk hv, hP])
  have hPk : P ≤ kl := by rw [← hP, ← hk]; exact np_le.1
  have hklb : kl ≤ 140737488351232 := by omega
  have HC := mkHid (And.intro c0 (And.intro c1 (And.intro c2 c3)))
  have HP := mkHid hP
  have HK := mkHid hk
  have HV := mkHid hv
  clear c0 c1 c2 c3 hk hv h hP
  unfold childN
  obtain ⟨k, hkf⟩ : ∃ k, runN (fun k => decide (k ≤ x)) K V = k := ⟨_, rfl⟩
  have hkP : k ≤ P := by rw [← hkf, ← HP.out]; exact run_le _ _ _
  rw [hkf]
  have HF := mkHid hkf
  clear hkf
  by_cases h0 : k = 0
  · have HZ := mkHid h0
    have f1 : ((k : Int) - 1 ≤ 0) = True := eq_true (by omega)
    have f2 : ((0 : Int) ≤ (k : Int) - 1) = False := eq_false (by omega)
    have f3 : ((k : Int) ≤ 1) = True := eq_true (by omega)
    have f4 : ((1 : Int) ≤ (k : Int)) = False := eq_false (by omega)
    clear h0
    go_enter Try.func12, Try.ntmps12
    go_wp2_with fail
    generalize (w.alloc (.cells #[.bool lf, .slice ka kl kc, .slice va vl vc] 24)).alloc (.cells #[.int .u64 (x : Int)] 25) = w1 at *
    generalize w.heap.size + 1 = xb at *
    generalize w.heap.size = b at *
    obtain ⟨c0, c1, c2, c3⟩ := HC.out
    go_wp2_with fail
    refine (run_child lf ka kl kc va vl vc K V w1 h1 HK.out HV.out x xb c3).mono ?_
    rw [HF.out]
    rintro e w2 ⟨rfl, g2⟩
    go_wp2_with fail
    all_goals
      go_ret
      exact ⟨ret_int (by have := HZ.out; omega), g0.then g2⟩
  · have f1 : ((0 : Int) ≤ (k : Int) - 1) = True := eq_true (by omega)
    have f2 : ((1 : Int) ≤ (k : Int)) = True := eq_true (by omega)
    have f3 : (1 ≤ k) = True := eq_true (by omega)
    have hk1 : 1 ≤ k := by omega
    clear h0
    by_cases h9 : k = 1
    · have HZ := mkHid h9
      have f5 : ((k : Int) - 1 ≤ 0) = True := eq_true (by omega)
      have f6 : ((k : Int) ≤ 1) = True := eq_true (by omega)
      clear h9
      go_enter Try.func12, Try.ntmps12
      go_wp2_with fail
      generalize (w.alloc (.cells #[.bool lf, .slice ka kl kc, .slice va vl vc] 24)).alloc (.cells #[.int .u64 (x : Int)] 25) = w1 at *
      generalize w.heap.size + 1 = xb at *
      generalize w.heap.size = b at *
      obtain ⟨c0, c1, c2, c3⟩ := HC.out
      go_wp2_with fail
      refine (run_child lf ka kl kc va vl vc K V w1 h1 HK.out HV.out x xb c3).mono ?_
      rw [HF.out]
      rintro e w2 ⟨rfl, g2⟩
      go_wp2_with fail
      all_goals
        go_ret
        exact ⟨ret_int (by have := HZ.out; omega), g0.then g2⟩
    · have HZ := mkHid h9
      have f5 : ((k : Int) - 1 ≤ 0) = False := eq_false (by omega)
      have f6 : ((k : Int) ≤ 1) = False := eq_false (by omega)
      clear h9
      go_enter Try.func12, Try.ntmps12
      go_wp2_with fail
      generalize (w.alloc (.cells #[.bool lf, .slice ka kl kc, .slice va vl vc] 24)).alloc (.cells #[.int .u64 (x : Int)] 25) = w1 at *
      generalize w.heap.size + 1 = xb at *
      generalize w.heap.size = b at *
      obtain ⟨c0, c1, c2, c3⟩ := HC.out
      go_wp2_with fail
      refine (run_child lf ka kl kc va vl vc K V w1 h1 HK.out HV.out x xb c3).mono ?_
      rw [HF.out]
      rintro e w2 ⟨rfl, g2⟩
      go_wp2_with fail
      all_goals
        go_ret
        exact ⟨ret_int (by have := HZ.out; omega), g0.then g2⟩
end Go.Proofs.Ytlaeonemlodhmaa
