/- The program's Take. -/
import Derived.Test.YthbnakahcchbnaaYf
namespace Go.Proofs.Ythbnakahcchbnaa
open Go.RowKit
set_option linter.unusedVariables false
set_option linter.unusedSimpArgs false
attribute [local go_sem ↓] Go.wp_at_zero Go.wp_at_succ

theorem wide64 (a : Addr) : loadCellsFrom a 0 64 #[] = wideLoad a 64 := rfl
attribute [local go_sem ↓] wide64
attribute [local go_sem] run_wide
theorem last6 {p0 p1 p2 p3 p4 p5 q : Prop} (h : p0 ∧ p1 ∧ p2 ∧ p3 ∧ p4 ∧ p5 ∧ q) : q := h.2.2.2.2.2.2
theorem there_chg' {w w' : World} {b o n : Nat} {cs : List Value} (h : w.rangeAt b o cs) (hn : cs.length = n) (g : Chg [] w w') : thereB w' b o n = true ∧ cellsAt w' b o n = cs := there_of_range (range_chg h g (by simp)) hn
set_option maxRecDepth 20000 in
set_option maxHeartbeats 2000000 in
theorem take_sup (ao : Option Addr) (n c : Nat) (l : List UInt8) (w : World) (h : Reads w ao (bts l)) (hl : l.length = n) (hc : n ≤ c) (hm : c ≤ maxLen) :
    Calls Try.prog 15 #[.slice ao n c] w (STake w l) := by
  have g0 := Chg.alloc [] w (.cells #[.int .u64 0, .int .i64 0, .int .u64 0, .int .u64 0] 24)
  by_cases c1 : n < 64
  · have d1 : decide ((n : Int) < 64) = true := decide_eq_true (by omega)
    have hno := fun w' g => stake_no (w := w) (w' := w') 4 (take_short (l := l) (by omega)) g
    have HNO := mkHid hno
    clear hno c1 hl hc
    go_enter Try.func15, Try.ntmps15
    go_wp2_with fail
    exact bodyPost_ret (v := .tuple #[.agg #[.int .u64 0, .int .i64 0, .int .u64 0, .int .u64 0], .int .i64 4]) (by simp [results, Try.results15, go_sem]) rfl (HNO.out _ g0)
  have d1 : decide ((n : Int) < 64) = false := decide_eq_false (by omega)
  by_cases c2 : 64 < n
  · have d2 : decide ((64 : Int) < (n : Int)) = true := decide_eq_true (by omega)
    have hno := fun w' g => stake_no (w := w) (w' := w') 3 (take_long (l := l) (by omega)) g
    have HNO := mkHid hno
    clear hno c1 c2 hl hc
    go_enter Try.func15, Try.ntmps15
    go_wp2_with fail
    exact bodyPost_ret (v := .tuple #[.agg #[.int .u64 0, .int .i64 0, .int .u64 0, .int .u64 0], .int .i64 3]) (by simp [results, Try.results15, go_sem]) rfl (HNO.out _ g0)
  obtain rfl : n = 64 := by omega
  clear c1 c2 d1
  have hres := res4_made w w (Chg.refl [] w) (.int .u64 0) (.int .i64 0) (.int .u64 0) (.int .u64 0)
  have hrd := h.keep g0
  have hno := fun (hn : ¬ ((readS l).may = true ∧ (readS l).form = l)) w' g => stake_no (w := w) (w' := w') 23 (take_none hl hn) g
  have hyes : (readS l).may = true ∧ (readS l).form = l → ∀ w', Chg [] w w' → STake w l (.returned (.tuple #[(readS l).v, .int .i64 0])) w' := fun hn w' g => ⟨by rw [take_yes hl hn]; rfl, g⟩
  have HNO := mkHid hno
  have HYES := mkHid hyes
  obtain ⟨b, o, rfl, hrg⟩ := hrd (by rw [bts_length]; omega)
  have hA : ∀ u : World, (Instr.arrayAt 48 (.slice (some ⟨b, o, none⟩) 64 c)).run Try.prog u = .ok (.pointer (some ⟨b, o, none⟩)) u := fun u => run_arrayAt_k u Try.underlying48 _ 64 c (by decide)
  have hl64 : (bts l).length = 64 := by rw [bts_length, hl]
  have hone := bts_one l
  have HZ := mkHid hl64
  clear hno hyes h g0 hrd hl64
  go_enter Try.func15, Try.ntmps15
  have wz : (w.alloc (.cells #[.int .u64 0, .int .i64 0, .int .u64 0, .int .u64 0] 24)).heap.size = w.heap.size + 1 := by simp
  go_wp2_with (first
    | (refine wpList_load_w rfl 48 (.tmp 17) rfl _ wt64 b o (bts l) hrg HZ.out rfl ?_)
    | (refine wpList_alloc_w rfl 48 rfl (bts (List.replicate 64 0)) wt64 ?_; intro w2 hb2 g2 z2; rw [wz] at z2)
    | (refine wpList_store_w rfl 48 (.tmp 4) (.tmp 18) rfl _ wt64 _ (bts (List.replicate 64 0)) (bts l) hb2 rfl HZ.out hone rfl rfl ?_; intro w3 hb3 g3 z3; rw [wz] at hb3 g3; clear hb2))
  have G3 : Chg [] (w.alloc (.cells #[.int .u64 0, .int .i64 0, .int .u64 0, .int .u64 0] 24)) w3 := g2.trans g3 (fun _ h _ => h) (fun q hq hlt => by simp at hq; rw [wz] at hlt; omega)
  have H3 := mkHid (show w3.heap.size = w.heap.size + 1 + 1 by omega)
  replace hres := hres.keep G3
  clear g2 g3 z2 z3 G3 hA hrg wz
  generalize hfb : w.heap.size + 1 = fb at *
  have HFB := mkHid hfb
  clear hfb
  have r4 : Reads w3 (some ⟨fb, 4, none⟩) (bts (l.drop 4)) := by
    have := (show Reads w3 (some ⟨fb, 0, none⟩) (bts l) from fun _ => ⟨fb, 0, rfl, hb3.range⟩).cut 64 4 (by rw [bts_length]; omega)
    rwa [bts_drop] at this
  have g4 := Chg.alloc [] w3 (.cells #[.slice (some ⟨fb, 4, none⟩) 60 60] 55)
  have hl4 := heap_alloc_last w3 (.cells #[.slice (some ⟨fb, 4, none⟩) 60 60] 55)
  have hR : Rd (w3.alloc (.cells #[.slice (some ⟨fb, 4, none⟩) 60 60] 55)) w3.heap.size (some ⟨fb, 4, none⟩) 60 60 (l.drop 4) :=
    ⟨by rw [cell_of_row _ _ _ _ _ _ hl4]; rfl, frozen_of_row _ _ _ _ _ hl4, r4.keep g4, by simp [hl], by decide, by decide, fun _ k hk => by
      have h1 := H3.out
      have h3 := HFB.out
      have h2 : fb = k := by simpa [blk, eq_comm] using hk
      omega⟩
  have hb4 := hb3.keep g4
  replace hres := hres.keep g4
  have h4s : (w3.alloc (.cells #[.slice (some ⟨fb, 4, none⟩) 60 60] 55)).heap.size = w3.heap.size + 1 := by simp
  clear g4 hl4 r4 hb3
  go_wp2_with fail
  have e31 : w3.heap.size = fb + 1 := by have := H3.out; have := HFB.out; omega
  rw [e31] at hR h4s
  clear e31
  generalize hrb : fb + 1 = rb at *
  have HRB := mkHid hrb
  clear hrb
  generalize w3.alloc _ = w4 at *
  refine (told_any rb _ 60 l w4 hR).mono ?_
  rintro e w5 ⟨he, g5⟩
  subst he
  have hb5 := hb4.chg g5 (by have h1 := HRB.out; simp only [List.mem_singleton]; omega)
  replace hres := hres.keep1 g5 (by have h1 := HRB.out; have h2 := HFB.out; omega) (by have h1 := HRB.out; have h2 := HFB.out; omega)
  clear hb4 g5 hR h4s H3 hone
  obtain ⟨hmay, hsame⟩ := readI_may l
  have hmayany := may_any (readI l)
  have hform := form_any (readI l)
  obtain ⟨c0, c1, c2, c3⟩ := sup_laid w5 (readI l)
  have g6 := Chg.alloc [] w5 (supObj (readI l))
  rcases hS : readI l with ⟨G, B, D, X⟩
  rw [hS] at hmay hsame hmayany hform c0 c1 c2 c3 g6
  unfold SB.v supObj at *
  dsimp only at *
  replace hres := hres.keep g6
  replace hb5 := hb5.keep g6
  clear g6
  go_wp2_with fail
  generalize w5.alloc _ = w6 at *
  generalize w5.heap.size = sb at *
  have hS6 : ∀ u, Chg [] w6 u → (u.cell? ⟨sb, 0, none⟩ = some (.int .u64 (G : Int)) ∧ u.cell? ⟨sb, 1, none⟩ = some (.int .i64 B) ∧ u.cell? ⟨sb, 2, none⟩ = some (.int .u64 (D : Int)) ∧ u.cell? ⟨sb, 3, none⟩ = some (.int .u64 (X : Int)) ∧ thereB u fb 0 64 = true ∧ cellsAt u fb 0 64 = bts l ∧ Chg [] w6 u) := fun u g =>
    ⟨g.cellv c0 (by simp), g.cellv c1 (by simp), g.cellv c2 (by simp), g.cellv c3 (by simp), (there_chg' hb5.range (by rw [bts_length, hl]) g).1, (there_chg' hb5.range (by rw [bts_length, hl]) g).2, g⟩
  have HS6 := mkHid hS6
  clear hS6 hb5 c0 c1 c2 c3
  cases hq : SB.may ⟨G, B, D, X⟩ with
  | false =>
    rw [hq] at hmayany hmay
    have hno := HNO.out (fun hh => by rw [← hmay] at hh; exact absurd hh.1 (by simp))
    have HN := mkHid hno
    have HM := mkHid hmayany
    clear hno HNO HYES hmay hsame hform hS hq hmayany
    refine wp_region_noPanic ?_
    refine wp_region_held_drew (S := (fun u => u.cell? ⟨sb, 0, none⟩ = some (.int .u64 (G : Int)) ∧ u.cell? ⟨sb, 1, none⟩ = some (.int .i64 B) ∧ u.cell? ⟨sb, 2, none⟩ = some (.int .u64 (D : Int)) ∧ u.cell? ⟨sb, 3, none⟩ = some (.int .u64 (X : Int)) ∧ thereB u fb 0 64 = true ∧ cellsAt u fb 0 64 = bts l ∧ Chg [] w6 u)) (by kernel_rfl) ?_ (fun hH => ?_)
    · exact (HS6.out _ (Chg.drew [] _))
    refine wpAnyH_take (i := 0) (oi := { dst := some 23, op := _, type := _, pos := _, after := _, guard := none }) (v := ?_) rfl (by kernel_rfl) (by kernel_rfl) (by kernel_rfl) (fun _ _ _ h => h) (Or.inl ⟨by rfl, ?_⟩) hH ?_
    rotate_left
    · intro u hSu
      try dsimp only at hSu
      go_simp
      try with_reducible rfl
    try simp only [Act.put, List.setIfInBounds_toArray, List.set_cons_zero, List.set_cons_succ]
    refine wpAnyH_ready (rs := [1]) (by kernel_rfl) (by simp) ?_
    refine AllReadyH.cons (o := { dst := some 24, op := _, type := _, pos := _, after := _, guard := none }) rfl (fun K hK => ?_) AllReadyH.nil
    go_simp
    refine (HM.out _).mono ?_
    rintro e w7 ⟨rfl, g7⟩
    try go_wp2_with fail
    clear hH
    refine hK.out _ _ (HS6.out _ ((Chg.drew [] _).then g7)) (fun hH => ?_)
    clear hK K
    try simp only [Act.put, List.setIfInBounds_toArray, List.set_cons_zero, List.set_cons_succ]
    refine wpAnyH_take (i := 2) (oi := { dst := some 25, op := _, type := _, pos := _, after := _, guard := none }) (v := ?_) rfl (by kernel_rfl) (by kernel_rfl) (by kernel_rfl) (fun _ _ _ h => h) (Or.inl ⟨by rfl, ?_⟩) hH ?_
    rotate_left
    · intro u hSu
      try dsimp only at hSu
      go_simp
      try with_reducible rfl
    try simp only [Act.put, List.setIfInBounds_toArray, List.set_cons_zero, List.set_cons_succ]
    refine wpAnyH_take (i := 3) (oi := { dst := some 26, op := _, type := _, pos := _, after := _, guard := none }) (v := ?_) rfl (by kernel_rfl) (by kernel_rfl) (by kernel_rfl) (fun _ _ _ h => h) (Or.inl ⟨by rfl, ?_⟩) hH ?_
    rotate_left
    · intro u hSu
      try dsimp only at hSu
      go_simp
      try with_reducible rfl
    try simp only [Act.put, List.setIfInBounds_toArray, List.set_cons_zero, List.set_cons_succ]
    refine wpAnyH_take (i := 4) (oi := { dst := some 27, op := _, type := _, pos := _, after := _, guard := some (3, false) }) (v := undef) rfl (by kernel_rfl) (by kernel_rfl) (by kernel_rfl) (fun _ _ _ h => h) (Or.inr ⟨by rfl, rfl⟩) hH ?_
    try simp only [Act.put, List.setIfInBounds_toArray, List.set_cons_zero, List.set_cons_succ]
    refine wpAnyH_take (i := 5) (oi := { dst := some 28, op := _, type := _, pos := _, after := _, guard := some (3, false) }) (v := undef) rfl (by kernel_rfl) (by kernel_rfl) (by kernel_rfl) (fun _ _ _ h => h) (Or.inr ⟨by rfl, rfl⟩) hH ?_
    try simp only [Act.put, List.setIfInBounds_toArray, List.set_cons_zero, List.set_cons_succ]
    refine wpAnyH_take (i := 6) (oi := { dst := some 29, op := _, type := _, pos := _, after := _, guard := some (3, false) }) (v := undef) rfl (by kernel_rfl) (by kernel_rfl) (by kernel_rfl) (fun _ _ _ h => h) (Or.inr ⟨by rfl, rfl⟩) hH ?_
    try simp only [Act.put, List.setIfInBounds_toArray, List.set_cons_zero, List.set_cons_succ]
    refine wpAnyH_take (i := 7) (oi := { dst := some 30, op := _, type := _, pos := _, after := _, guard := some (3, false) }) (v := undef) rfl (by kernel_rfl) (by kernel_rfl) (by kernel_rfl) (fun _ _ _ h => h) (Or.inr ⟨by rfl, rfl⟩) hH ?_
    try simp only [Act.put, List.setIfInBounds_toArray, List.set_cons_zero, List.set_cons_succ]
    refine wpAnyH_take (i := 8) (oi := { dst := some 31, op := _, type := _, pos := _, after := _, guard := none }) (v := ?_) rfl (by kernel_rfl) (by kernel_rfl) (by kernel_rfl) (fun _ _ _ h => h) (Or.inl ⟨by rfl, ?_⟩) hH ?_
    rotate_left
    · intro u hSu
      try dsimp only at hSu
      go_simp
      try with_reducible rfl
    try simp only [Act.put, List.setIfInBounds_toArray, List.set_cons_zero, List.set_cons_succ]
    refine wpAnyH_done (by kernel_rfl) ?_ _
    refine NoPanic.normal ?_
    replace hres := hres.keep ((Chg.drew [] _).then g7)
    obtain ⟨v0, k0⟩ := Option.isSome_iff_exists.1 hres.k0
    obtain ⟨v1, k1⟩ := Option.isSome_iff_exists.1 hres.k1
    obtain ⟨v2, k2⟩ := Option.isSome_iff_exists.1 hres.k2
    obtain ⟨v3, k3⟩ := Option.isSome_iff_exists.1 hres.k3
    have z0 := hres.z0
    have z1 := hres.z1
    have z2 := hres.z2
    have z3 := hres.z3
    have HRES := mkHid hres
    clear hres
    go_wp2_with fail
    refine bodyPost_ret (v := .tuple #[.agg #[.int .u64 0, .int .i64 0, .int .u64 0, .int .u64 0], .int .i64 23]) (by simp [results, Try.results15, go_sem, k0, k1, k2, k3]) rfl ?_
    exact HN.out _ (HRES.out.done _ _ _ _)
  | true =>
    rw [hq] at hmayany hmay
    replace hform := hform hq
    have hS' : (⟨G, B, D, X⟩ : SB) = readS l := hsame hmay.symm
    have hneq := fun u => run_neq_bytes (P := Try.prog) u Try.underlying48 Try.underlying5 (by kernel_rfl) (SB.form ⟨G, B, D, X⟩) l (SB.form_length _) hl
    rw [← hS'] at HNO HYES
    generalize SB.form ⟨G, B, D, X⟩ = F at *
    have HM := mkHid hmayany
    have HFM := mkHid hform
    clear hmay hsame hform hS hmayany hS' hl
    by_cases hf : F = l
    · have hy := HYES.out ⟨hq, hf⟩
      have HY := mkHid hy
      have hd : (F == l) = true := by simpa using hf
      clear hf hy HYES HNO hq
      refine wp_region_noPanic ?_
      refine wp_region_held_drew (S := (fun u => u.cell? ⟨sb, 0, none⟩ = some (.int .u64 (G : Int)) ∧ u.cell? ⟨sb, 1, none⟩ = some (.int .i64 B) ∧ u.cell? ⟨sb, 2, none⟩ = some (.int .u64 (D : Int)) ∧ u.cell? ⟨sb, 3, none⟩ = some (.int .u64 (X : Int)) ∧ thereB u fb 0 64 = true ∧ cellsAt u fb 0 64 = bts l ∧ Chg [] w6 u)) (by kernel_rfl) ?_ (fun hH => ?_)
      · exact (HS6.out _ (Chg.drew [] _))
      refine wpAnyH_take (i := 0) (oi := { dst := some 23, op := _, type := _, pos := _, after := _, guard := none }) (v := ?_) rfl (by kernel_rfl) (by kernel_rfl) (by kernel_rfl) (fun _ _ _ h => h) (Or.inl ⟨by rfl, ?_⟩) hH ?_
      rotate_left
      · intro u hSu
        try dsimp only at hSu
        go_simp
        try with_reducible rfl
      try simp only [Act.put, List.setIfInBounds_toArray, List.set_cons_zero, List.set_cons_succ]
      refine wpAnyH_ready (rs := [1]) (by kernel_rfl) (by simp) ?_
      refine AllReadyH.cons (o := { dst := some 24, op := _, type := _, pos := _, after := _, guard := none }) rfl (fun K hK => ?_) AllReadyH.nil
      go_simp
      refine (HM.out _).mono ?_
      rintro e w7 ⟨rfl, g7⟩
      try go_wp2_with fail
      clear hH
      refine hK.out _ _ (HS6.out _ ((Chg.drew [] _).then g7)) (fun hH => ?_)
      clear hK K
      try simp only [Act.put, List.setIfInBounds_toArray, List.set_cons_zero, List.set_cons_succ]
      refine wpAnyH_take (i := 2) (oi := { dst := some 25, op := _, type := _, pos := _, after := _, guard := none }) (v := ?_) rfl (by kernel_rfl) (by kernel_rfl) (by kernel_rfl) (fun _ _ _ h => h) (Or.inl ⟨by rfl, ?_⟩) hH ?_
      rotate_left
      · intro u hSu
        try dsimp only at hSu
        go_simp
        try with_reducible rfl
      try simp only [Act.put, List.setIfInBounds_toArray, List.set_cons_zero, List.set_cons_succ]
      refine wpAnyH_take (i := 3) (oi := { dst := some 26, op := _, type := _, pos := _, after := _, guard := none }) (v := ?_) rfl (by kernel_rfl) (by kernel_rfl) (by kernel_rfl) (fun _ _ _ h => h) (Or.inl ⟨by rfl, ?_⟩) hH ?_
      rotate_left
      · intro u hSu
        try dsimp only at hSu
        go_simp
        try with_reducible rfl
      try simp only [Act.put, List.setIfInBounds_toArray, List.set_cons_zero, List.set_cons_succ]
      refine wpAnyH_take (i := 4) (oi := { dst := some 27, op := _, type := _, pos := _, after := _, guard := some (3, false) }) (v := ?_) rfl (by kernel_rfl) (by kernel_rfl) (by kernel_rfl) (fun _ _ _ h => h) (Or.inl ⟨by rfl, ?_⟩) hH ?_
      rotate_left
      · intro u hSu
        try dsimp only at hSu
        go_simp
        try with_reducible rfl
      try simp only [Act.put, List.setIfInBounds_toArray, List.set_cons_zero, List.set_cons_succ]
      refine wpAnyH_take (i := 6) (oi := { dst := some 29, op := _, type := _, pos := _, after := _, guard := some (3, false) }) (v := ?_) rfl (by kernel_rfl) (by kernel_rfl) (by kernel_rfl) (fun _ _ _ h => h) (Or.inl ⟨by rfl, ?_⟩) hH ?_
      rotate_left
      · intro u hSu
        try dsimp only at hSu
        go_simp
        try with_reducible rfl
      try simp only [Act.put, List.setIfInBounds_toArray, List.set_cons_zero, List.set_cons_succ]
      refine wpAnyH_ready (rs := [5]) (by kernel_rfl) (by simp) ?_
      refine AllReadyH.cons (o := { dst := some 28, op := _, type := _, pos := _, after := _, guard := some (3, false) }) rfl (fun K hK => ?_) AllReadyH.nil
      go_simp
      refine (HFM.out _).mono ?_
      rintro e w8 ⟨rfl, g8⟩
      try go_wp2_with fail
      clear hH
      refine hK.out _ _ (HS6.out _ (((Chg.drew [] _).then g7).then g8)) (fun hH => ?_)
      clear hK K
      try simp only [Act.put, List.setIfInBounds_toArray, List.set_cons_zero, List.set_cons_succ]
      refine wpAnyH_take (i := 7) (oi := { dst := some 30, op := _, type := _, pos := _, after := _, guard := some (3, false) }) (v := ?_) rfl (by kernel_rfl) (by kernel_rfl) (by kernel_rfl) (fun _ _ _ h => h) (Or.inl ⟨by rfl, ?_⟩) hH ?_
      rotate_left
      · intro u hSu
        try dsimp only at hSu
        go_simp
        try with_reducible rfl
      try simp only [Act.put, List.setIfInBounds_toArray, List.set_cons_zero, List.set_cons_succ]
      refine wpAnyH_take (i := 8) (oi := { dst := some 31, op := _, type := _, pos := _, after := _, guard := none }) (v := ?_) rfl (by kernel_rfl) (by kernel_rfl) (by kernel_rfl) (fun _ _ _ h => h) (Or.inl ⟨by rfl, ?_⟩) hH ?_
      rotate_left
      · intro u hSu
        try dsimp only at hSu
        go_simp
        try with_reducible rfl
      try simp only [Act.put, List.setIfInBounds_toArray, List.set_cons_zero, List.set_cons_succ]
      refine wpAnyH_done (by kernel_rfl) ?_ _
      refine NoPanic.normal ?_
      obtain ⟨c0, c1, c2, c3, -, -, -⟩ := HS6.out _ (((Chg.drew [] _).then g7).then g8)
      replace hres := hres.keep (((Chg.drew [] _).then g7).then g8)
      obtain ⟨v0, k0⟩ := Option.isSome_iff_exists.1 hres.k0
      obtain ⟨v1, k1⟩ := Option.isSome_iff_exists.1 hres.k1
      obtain ⟨v2, k2⟩ := Option.isSome_iff_exists.1 hres.k2
      obtain ⟨v3, k3⟩ := Option.isSome_iff_exists.1 hres.k3
      have z0 := hres.z0
      have z1 := hres.z1
      have z2 := hres.z2
      have z3 := hres.z3
      have HRES := mkHid hres
      clear hres
      go_wp2_with fail
      refine bodyPost_ret (v := .tuple #[.agg #[.int .u64 (G : Int), .int .i64 B, .int .u64 (D : Int), .int .u64 (X : Int)], .int .i64 0]) (by simp [results, Try.results15, go_sem, k0, k1, k2, k3]) rfl ?_
      exact HY.out _ (HRES.out.done _ _ _ _)
    · have hno := HNO.out (fun hh => hf hh.2)
      have HN := mkHid hno
      have hd : (F == l) = false := by simpa using hf
      clear hf hno HYES HNO hq
      refine wp_region_noPanic ?_
      refine wp_region_held_drew (S := (fun u => u.cell? ⟨sb, 0, none⟩ = some (.int .u64 (G : Int)) ∧ u.cell? ⟨sb, 1, none⟩ = some (.int .i64 B) ∧ u.cell? ⟨sb, 2, none⟩ = some (.int .u64 (D : Int)) ∧ u.cell? ⟨sb, 3, none⟩ = some (.int .u64 (X : Int)) ∧ thereB u fb 0 64 = true ∧ cellsAt u fb 0 64 = bts l ∧ Chg [] w6 u)) (by kernel_rfl) ?_ (fun hH => ?_)
      · exact (HS6.out _ (Chg.drew [] _))
      refine wpAnyH_take (i := 0) (oi := { dst := some 23, op := _, type := _, pos := _, after := _, guard := none }) (v := ?_) rfl (by kernel_rfl) (by kernel_rfl) (by kernel_rfl) (fun _ _ _ h => h) (Or.inl ⟨by rfl, ?_⟩) hH ?_
      rotate_left
      · intro u hSu
        try dsimp only at hSu
        go_simp
        try with_reducible rfl
      try simp only [Act.put, List.setIfInBounds_toArray, List.set_cons_zero, List.set_cons_succ]
      refine wpAnyH_ready (rs := [1]) (by kernel_rfl) (by simp) ?_
      refine AllReadyH.cons (o := { dst := some 24, op := _, type := _, pos := _, after := _, guard := none }) rfl (fun K hK => ?_) AllReadyH.nil
      go_simp
      refine (HM.out _).mono ?_
      rintro e w7 ⟨rfl, g7⟩
      try go_wp2_with fail
      clear hH
      refine hK.out _ _ (HS6.out _ ((Chg.drew [] _).then g7)) (fun hH => ?_)
      clear hK K
      try simp only [Act.put, List.setIfInBounds_toArray, List.set_cons_zero, List.set_cons_succ]
      refine wpAnyH_take (i := 2) (oi := { dst := some 25, op := _, type := _, pos := _, after := _, guard := none }) (v := ?_) rfl (by kernel_rfl) (by kernel_rfl) (by kernel_rfl) (fun _ _ _ h => h) (Or.inl ⟨by rfl, ?_⟩) hH ?_
      rotate_left
      · intro u hSu
        try dsimp only at hSu
        go_simp
        try with_reducible rfl
      try simp only [Act.put, List.setIfInBounds_toArray, List.set_cons_zero, List.set_cons_succ]
      refine wpAnyH_take (i := 3) (oi := { dst := some 26, op := _, type := _, pos := _, after := _, guard := none }) (v := ?_) rfl (by kernel_rfl) (by kernel_rfl) (by kernel_rfl) (fun _ _ _ h => h) (Or.inl ⟨by rfl, ?_⟩) hH ?_
      rotate_left
      · intro u hSu
        try dsimp only at hSu
        go_simp
        try with_reducible rfl
      try simp only [Act.put, List.setIfInBounds_toArray, List.set_cons_zero, List.set_cons_succ]
      refine wpAnyH_take (i := 4) (oi := { dst := some 27, op := _, type := _, pos := _, after := _, guard := some (3, false) }) (v := ?_) rfl (by kernel_rfl) (by kernel_rfl) (by kernel_rfl) (fun _ _ _ h => h) (Or.inl ⟨by rfl, ?_⟩) hH ?_
      rotate_left
      · intro u hSu
        try dsimp only at hSu
        go_simp
        try with_reducible rfl
      try simp only [Act.put, List.setIfInBounds_toArray, List.set_cons_zero, List.set_cons_succ]
      refine wpAnyH_take (i := 6) (oi := { dst := some 29, op := _, type := _, pos := _, after := _, guard := some (3, false) }) (v := ?_) rfl (by kernel_rfl) (by kernel_rfl) (by kernel_rfl) (fun _ _ _ h => h) (Or.inl ⟨by rfl, ?_⟩) hH ?_
      rotate_left
      · intro u hSu
        try dsimp only at hSu
        go_simp
        try with_reducible rfl
      try simp only [Act.put, List.setIfInBounds_toArray, List.set_cons_zero, List.set_cons_succ]
      refine wpAnyH_ready (rs := [5]) (by kernel_rfl) (by simp) ?_
      refine AllReadyH.cons (o := { dst := some 28, op := _, type := _, pos := _, after := _, guard := some (3, false) }) rfl (fun K hK => ?_) AllReadyH.nil
      go_simp
      refine (HFM.out _).mono ?_
      rintro e w8 ⟨rfl, g8⟩
      try go_wp2_with fail
      clear hH
      refine hK.out _ _ (HS6.out _ (((Chg.drew [] _).then g7).then g8)) (fun hH => ?_)
      clear hK K
      try simp only [Act.put, List.setIfInBounds_toArray, List.set_cons_zero, List.set_cons_succ]
      refine wpAnyH_take (i := 7) (oi := { dst := some 30, op := _, type := _, pos := _, after := _, guard := some (3, false) }) (v := ?_) rfl (by kernel_rfl) (by kernel_rfl) (by kernel_rfl) (fun _ _ _ h => h) (Or.inl ⟨by rfl, ?_⟩) hH ?_
      rotate_left
      · intro u hSu
        try dsimp only at hSu
        go_simp
        try with_reducible rfl
      try simp only [Act.put, List.setIfInBounds_toArray, List.set_cons_zero, List.set_cons_succ]
      refine wpAnyH_take (i := 8) (oi := { dst := some 31, op := _, type := _, pos := _, after := _, guard := none }) (v := ?_) rfl (by kernel_rfl) (by kernel_rfl) (by kernel_rfl) (fun _ _ _ h => h) (Or.inl ⟨by rfl, ?_⟩) hH ?_
      rotate_left
      · intro u hSu
        try dsimp only at hSu
        go_simp
        try with_reducible rfl
      try simp only [Act.put, List.setIfInBounds_toArray, List.set_cons_zero, List.set_cons_succ]
      refine wpAnyH_done (by kernel_rfl) ?_ _
      refine NoPanic.normal ?_
      replace hres := hres.keep (((Chg.drew [] _).then g7).then g8)
      obtain ⟨v0, k0⟩ := Option.isSome_iff_exists.1 hres.k0
      obtain ⟨v1, k1⟩ := Option.isSome_iff_exists.1 hres.k1
      obtain ⟨v2, k2⟩ := Option.isSome_iff_exists.1 hres.k2
      obtain ⟨v3, k3⟩ := Option.isSome_iff_exists.1 hres.k3
      have z0 := hres.z0
      have z1 := hres.z1
      have z2 := hres.z2
      have z3 := hres.z3
      have HRES := mkHid hres
      clear hres
      go_wp2_with fail
      refine bodyPost_ret (v := .tuple #[.agg #[.int .u64 0, .int .i64 0, .int .u64 0, .int .u64 0], .int .i64 23]) (by simp [results, Try.results15, go_sem, k0, k1, k2, k3]) rfl ?_
      exact HN.out _ (HRES.out.done _ _ _ _)
end Go.Proofs.Ythbnakahcchbnaa
