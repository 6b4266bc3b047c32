/- Texts Yg, Yh of the library, joined. -/
import Derived.Test.YtoeijomelabbfaaGreatDoorM21
/- The program's Take. -/
namespace Go.Proofs.YtoeijomelabbfaaGreatDoor
set_option maxRecDepth 200000
open Go.RowKit
set_option linter.unusedVariables false
set_option linter.unusedSimpArgs false
attribute [local go_sem ↓] Go.wp_at_zero Go.wp_at_succ

theorem wide64 (a : Addr) : loadCellsFrom a 0 64 #[] = wideLoad a 64 := rfl
attribute [local go_sem ↓] wide64
attribute [local go_sem] run_wide
theorem there_chg' {w w' : World} {b o n : Nat} {cs : List Value} (h : w.rangeAt b o cs) (hn : cs.length = n) (g : Chg [] w w') : thereB w' b o n = true ∧ cellsAt w' b o n = cs := there_of_range (range_chg h g (by simp)) hn
set_option maxRecDepth 20000 in
set_option maxHeartbeats 2000000 in
theorem take_sup (ao : Option Addr) (n c : Nat) (l : List UInt8) (w : World) (h : Reads w ao (bts l)) (hl : l.length = n) (hc : n ≤ c) (hm : c ≤ maxLen) :
    Calls Tryz.prog 166 #[.slice ao n c] w (STake w l) := by
  have g0 := Chg.alloc [] w (.cells #[.int .u64 0, .int .i64 0, .int .u64 0, .int .u64 0] 53)
  by_cases c1 : n < 64
  · have d1 : decide ((n : Int) < 64) = true := decide_eq_true (by omega)
    have hno := fun w' g => stake_no (w := w) (w' := w') 4 (take_short (l := l) (by omega)) g
    have HNO := mkHid hno
    clear hno c1 hl hc
    go_enter Tryz.func166, Tryz.ntmps166
    go_wp2_with fail
    exact bodyPost_ret (v := .tuple #[.agg #[.int .u64 0, .int .i64 0, .int .u64 0, .int .u64 0], .int .i64 4]) (by simp [results, Tryz.results166, go_sem]) rfl (HNO.out _ g0)
  have d1 : decide ((n : Int) < 64) = false := decide_eq_false (by omega)
  by_cases c2 : 64 < n
  · have d2 : decide ((64 : Int) < (n : Int)) = true := decide_eq_true (by omega)
    have hno := fun w' g => stake_no (w := w) (w' := w') 3 (take_long (l := l) (by omega)) g
    have HNO := mkHid hno
    clear hno c1 c2 hl hc
    go_enter Tryz.func166, Tryz.ntmps166
    go_wp2_with fail
    exact bodyPost_ret (v := .tuple #[.agg #[.int .u64 0, .int .i64 0, .int .u64 0, .int .u64 0], .int .i64 3]) (by simp [results, Tryz.results166, go_sem]) rfl (HNO.out _ g0)
  obtain rfl : n = 64 := by omega
  clear c1 c2 d1
  have hres := res4_made w w (Chg.refl [] w) (.int .u64 0) (.int .i64 0) (.int .u64 0) (.int .u64 0)
  have hrd := h.keep g0
  have hno := fun (hn : ¬ ((readS l).may = true ∧ (readS l).form = l)) w' g => stake_no (w := w) (w' := w') 23 (take_none hl hn) g
  have hyes : (readS l).may = true ∧ (readS l).form = l → ∀ w', Chg [] w w' → STake w l (.returned (.tuple #[(readS l).v, .int .i64 0])) w' := fun hn w' g => ⟨by rw [take_yes hl hn]; rfl, g⟩
  have HNO := mkHid hno
  have HYES := mkHid hyes
  obtain ⟨b, o, rfl, hrg⟩ := hrd (by rw [bts_length]; omega)
  have hA : ∀ u : World, (Instr.arrayAt 233 (.slice (some ⟨b, o, none⟩) 64 c)).run Tryz.prog u = .ok (.pointer (some ⟨b, o, none⟩)) u := fun u => run_arrayAt_k u Tryz.underlying233 _ 64 c (by decide)
  have hl64 : (bts l).length = 64 := by rw [bts_length, hl]
  have hone := bts_one l
  have HZ := mkHid hl64
  clear hno hyes h g0 hrd hl64
  go_enter Tryz.func166, Tryz.ntmps166
  have wz : (w.alloc (.cells #[.int .u64 0, .int .i64 0, .int .u64 0, .int .u64 0] 53)).heap.size = w.heap.size + 1 := by simp
  go_wp2_with (first
    | (refine wpList_load_w rfl 233 (.tmp 17) rfl _ wt64 b o (bts l) hrg HZ.out rfl ?_)
    | (refine wpList_alloc_w rfl 233 rfl (bts (List.replicate 64 0)) wt64 ?_; intro w2 hb2 g2 z2; rw [wz] at z2)
    | (refine wpList_store_w rfl 233 (.tmp 4) (.tmp 18) rfl _ wt64 _ (bts (List.replicate 64 0)) (bts l) hb2 rfl HZ.out hone rfl rfl ?_; intro w3 hb3 g3 z3; rw [wz] at hb3 g3; clear hb2))
  have G3 : Chg [] (w.alloc (.cells #[.int .u64 0, .int .i64 0, .int .u64 0, .int .u64 0] 53)) w3 := g2.trans g3 (fun _ h _ => h) (fun q hq hlt => by simp at hq; rw [wz] at hlt; omega)
  have H3 := mkHid (show w3.heap.size = w.heap.size + 1 + 1 by omega)
  replace hres := hres.keep G3
  clear g2 g3 z2 z3 G3 hA hrg wz
  generalize hfb : w.heap.size + 1 = fb at *
  have HFB := mkHid hfb
  clear hfb
  have r4 : Reads w3 (some ⟨fb, 4, none⟩) (bts (l.drop 4)) := by
    have := (show Reads w3 (some ⟨fb, 0, none⟩) (bts l) from fun _ => ⟨fb, 0, rfl, hb3.range⟩).cut 64 4 (by rw [bts_length]; omega)
    rwa [bts_drop] at this
  have g4 := Chg.alloc [] w3 (.cells #[.slice (some ⟨fb, 4, none⟩) 60 60] 238)
  have hl4 := heap_alloc_last w3 (.cells #[.slice (some ⟨fb, 4, none⟩) 60 60] 238)
  have hR : Rd (w3.alloc (.cells #[.slice (some ⟨fb, 4, none⟩) 60 60] 238)) w3.heap.size (some ⟨fb, 4, none⟩) 60 60 (l.drop 4) :=
    ⟨by rw [cell_of_row _ _ _ _ _ _ hl4]; rfl, frozen_of_row _ _ _ _ _ hl4, r4.keep g4, by simp [hl], by decide, by decide, fun _ k hk => by
      have h1 := H3.out
      have h3 := HFB.out
      have h2 : fb = k := by simpa [blk, eq_comm] using hk
      omega⟩
  have hb4 := hb3.keep g4
  replace hres := hres.keep g4
  have h4s : (w3.alloc (.cells #[.slice (some ⟨fb, 4, none⟩) 60 60] 238)).heap.size = w3.heap.size + 1 := by simp
  clear g4 hl4 r4 hb3
  go_wp2_with fail
  have e31 : w3.heap.size = fb + 1 := by have := H3.out; have := HFB.out; omega
  rw [e31] at hR h4s
  clear e31
  generalize hrb : fb + 1 = rb at *
  have HRB := mkHid hrb
  clear hrb
  generalize w3.alloc _ = w4 at *
  refine (stold_any rb _ 60 l w4 hR).mono ?_
  rintro e w5 ⟨he, g5⟩
  subst he
  have hb5 := hb4.chg g5 (by have h1 := HRB.out; simp only [List.mem_singleton]; omega)
  replace hres := hres.keep1 g5 (by have h1 := HRB.out; have h2 := HFB.out; omega) (by have h1 := HRB.out; have h2 := HFB.out; omega)
  clear hb4 g5 hR h4s H3 hone
  obtain ⟨hmay, hsame⟩ := readI_may l
  have hmayany := may_any (readI l)
  have hform := form_any (readI l)
  obtain ⟨c0, c1, c2, c3⟩ := sup_laid w5 (readI l)
  have g6 := Chg.alloc [] w5 (supObj (readI l))
  rcases hS : readI l with ⟨G, B, D, X⟩
  rw [hS] at hmay hsame hmayany hform c0 c1 c2 c3 g6
  unfold SB.v supObj at *
  dsimp only at *
  replace hres := hres.keep g6
  replace hb5 := hb5.keep g6
  clear g6
  go_wp2_with fail
  generalize w5.alloc _ = w6 at *
  generalize w5.heap.size = sb at *
  have hS6 : ∀ u, Chg [] w6 u → (u.cell? ⟨sb, 0, none⟩ = some (.int .u64 (G : Int)) ∧ u.cell? ⟨sb, 1, none⟩ = some (.int .i64 B) ∧ u.cell? ⟨sb, 2, none⟩ = some (.int .u64 (D : Int)) ∧ u.cell? ⟨sb, 3, none⟩ = some (.int .u64 (X : Int)) ∧ thereB u fb 0 64 = true ∧ cellsAt u fb 0 64 = bts l ∧ Chg [] w6 u) := fun u g =>
    ⟨g.cellv c0 (by simp), g.cellv c1 (by simp), g.cellv c2 (by simp), g.cellv c3 (by simp), (there_chg' hb5.range (by rw [bts_length, hl]) g).1, (there_chg' hb5.range (by rw [bts_length, hl]) g).2, g⟩
  have HS6 := mkHid hS6
  clear hS6 hb5 c0 c1 c2 c3
  cases hq : SB.may ⟨G, B, D, X⟩ with
  | false =>
    rw [hq] at hmayany hmay
    have hno := HNO.out (fun hh => by rw [← hmay] at hh; exact absurd hh.1 (by simp))
    have HN := mkHid hno
    have HM := mkHid hmayany
    clear hno HNO HYES hmay hsame hform hS hq hmayany
    refine wp_region_noPanic ?_
    refine wp_region_held_drew (S := (fun u => u.cell? ⟨sb, 0, none⟩ = some (.int .u64 (G : Int)) ∧ u.cell? ⟨sb, 1, none⟩ = some (.int .i64 B) ∧ u.cell? ⟨sb, 2, none⟩ = some (.int .u64 (D : Int)) ∧ u.cell? ⟨sb, 3, none⟩ = some (.int .u64 (X : Int)) ∧ thereB u fb 0 64 = true ∧ cellsAt u fb 0 64 = bts l ∧ Chg [] w6 u)) (by kernel_rfl) ?_ (fun hH => ?_)
    · exact (HS6.out _ (Chg.drew [] _))
    refine wpAnyH_take (i := 0) (oi := { dst := some 23, op := _, type := _, pos := _, after := _, guard := none }) (v := ?_) rfl (by kernel_rfl) (by kernel_rfl) (by kernel_rfl) (fun _ _ _ h => h) (Or.inl ⟨by rfl, ?_⟩) hH ?_
    rotate_left
    · intro u hSu
      try dsimp only at hSu
      go_simp
      try with_reducible rfl
    try simp only [Act.put, List.setIfInBounds_toArray, List.set_cons_zero, List.set_cons_succ]
    refine wpAnyH_ready (rs := [1]) (by kernel_rfl) (by simp) ?_
    refine AllReadyH.cons (o := { dst := some 24, op := _, type := _, pos := _, after := _, guard := none }) rfl (fun K hK => ?_) AllReadyH.nil
    go_simp
    refine (HM.out _).mono ?_
    rintro e w7 ⟨rfl, g7⟩
    try go_wp2_with fail
    clear hH
    refine hK.out _ _ (HS6.out _ ((Chg.drew [] _).then g7)) (fun hH => ?_)
    clear hK K
    try simp only [Act.put, List.setIfInBounds_toArray, List.set_cons_zero, List.set_cons_succ]
    refine wpAnyH_take (i := 2) (oi := { dst := some 25, op := _, type := _, pos := _, after := _, guard := none }) (v := ?_) rfl (by kernel_rfl) (by kernel_rfl) (by kernel_rfl) (fun _ _ _ h => h) (Or.inl ⟨by rfl, ?_⟩) hH ?_
    rotate_left
    · intro u hSu
      try dsimp only at hSu
      go_simp
      try with_reducible rfl
    try simp only [Act.put, List.setIfInBounds_toArray, List.set_cons_zero, List.set_cons_succ]
    refine wpAnyH_take (i := 3) (oi := { dst := some 26, op := _, type := _, pos := _, after := _, guard := none }) (v := ?_) rfl (by kernel_rfl) (by kernel_rfl) (by kernel_rfl) (fun _ _ _ h => h) (Or.inl ⟨by rfl, ?_⟩) hH ?_
    rotate_left
    · intro u hSu
      try dsimp only at hSu
      go_simp
      try with_reducible rfl
    try simp only [Act.put, List.setIfInBounds_toArray, List.set_cons_zero, List.set_cons_succ]
    refine wpAnyH_take (i := 4) (oi := { dst := some 27, op := _, type := _, pos := _, after := _, guard := some (3, false) }) (v := undef) rfl (by kernel_rfl) (by kernel_rfl) (by kernel_rfl) (fun _ _ _ h => h) (Or.inr ⟨by rfl, rfl⟩) hH ?_
    try simp only [Act.put, List.setIfInBounds_toArray, List.set_cons_zero, List.set_cons_succ]
    refine wpAnyH_take (i := 5) (oi := { dst := some 28, op := _, type := _, pos := _, after := _, guard := some (3, false) }) (v := undef) rfl (by kernel_rfl) (by kernel_rfl) (by kernel_rfl) (fun _ _ _ h => h) (Or.inr ⟨by rfl, rfl⟩) hH ?_
    try simp only [Act.put, List.setIfInBounds_toArray, List.set_cons_zero, List.set_cons_succ]
    refine wpAnyH_take (i := 6) (oi := { dst := some 29, op := _, type := _, pos := _, after := _, guard := some (3, false) }) (v := undef) rfl (by kernel_rfl) (by kernel_rfl) (by kernel_rfl) (fun _ _ _ h => h) (Or.inr ⟨by rfl, rfl⟩) hH ?_
    try simp only [Act.put, List.setIfInBounds_toArray, List.set_cons_zero, List.set_cons_succ]
    refine wpAnyH_take (i := 7) (oi := { dst := some 30, op := _, type := _, pos := _, after := _, guard := some (3, false) }) (v := undef) rfl (by kernel_rfl) (by kernel_rfl) (by kernel_rfl) (fun _ _ _ h => h) (Or.inr ⟨by rfl, rfl⟩) hH ?_
    try simp only [Act.put, List.setIfInBounds_toArray, List.set_cons_zero, List.set_cons_succ]
    refine wpAnyH_take (i := 8) (oi := { dst := some 31, op := _, type := _, pos := _, after := _, guard := none }) (v := ?_) rfl (by kernel_rfl) (by kernel_rfl) (by kernel_rfl) (fun _ _ _ h => h) (Or.inl ⟨by rfl, ?_⟩) hH ?_
    rotate_left
    · intro u hSu
      try dsimp only at hSu
      go_simp
      try with_reducible rfl
    try simp only [Act.put, List.setIfInBounds_toArray, List.set_cons_zero, List.set_cons_succ]
    refine wpAnyH_done (by kernel_rfl) ?_ _
    refine NoPanic.normal ?_
    replace hres := hres.keep ((Chg.drew [] _).then g7)
    obtain ⟨v0, k0⟩ := Option.isSome_iff_exists.1 hres.k0
    obtain ⟨v1, k1⟩ := Option.isSome_iff_exists.1 hres.k1
    obtain ⟨v2, k2⟩ := Option.isSome_iff_exists.1 hres.k2
    obtain ⟨v3, k3⟩ := Option.isSome_iff_exists.1 hres.k3
    have z0 := hres.z0
    have z1 := hres.z1
    have z2 := hres.z2
    have z3 := hres.z3
    have HRES := mkHid hres
    clear hres
    go_wp2_with fail
    refine bodyPost_ret (v := .tuple #[.agg #[.int .u64 0, .int .i64 0, .int .u64 0, .int .u64 0], .int .i64 23]) (by simp [results, Tryz.results166, go_sem, k0, k1, k2, k3]) rfl ?_
    exact HN.out _ (HRES.out.done _ _ _ _)
  | true =>
    rw [hq] at hmayany hmay
    replace hform := hform hq
    have hS' : (⟨G, B, D, X⟩ : SB) = readS l := hsame hmay.symm
    have hneq := fun u => run_neq_bytes (P := Tryz.prog) u Tryz.underlying233 Tryz.underlying5 (by kernel_rfl) (SB.form ⟨G, B, D, X⟩) l (SB.form_length _) hl
    rw [← hS'] at HNO HYES
    generalize SB.form ⟨G, B, D, X⟩ = F at *
    have HM := mkHid hmayany
    have HFM := mkHid hform
    clear hmay hsame hform hS hmayany hS' hl
    by_cases hf : F = l
    · have hy := HYES.out ⟨hq, hf⟩
      have HY := mkHid hy
      have hd : (F == l) = true := by simpa using hf
      clear hf hy HYES HNO hq
      refine wp_region_noPanic ?_
      refine wp_region_held_drew (S := (fun u => u.cell? ⟨sb, 0, none⟩ = some (.int .u64 (G : Int)) ∧ u.cell? ⟨sb, 1, none⟩ = some (.int .i64 B) ∧ u.cell? ⟨sb, 2, none⟩ = some (.int .u64 (D : Int)) ∧ u.cell? ⟨sb, 3, none⟩ = some (.int .u64 (X : Int)) ∧ thereB u fb 0 64 = true ∧ cellsAt u fb 0 64 = bts l ∧ Chg [] w6 u)) (by kernel_rfl) ?_ (fun hH => ?_)
      · exact (HS6.out _ (Chg.drew [] _))
      refine wpAnyH_take (i := 0) (oi := { dst := some 23, op := _, type := _, pos := _, after := _, guard := none }) (v := ?_) rfl (by kernel_rfl) (by kernel_rfl) (by kernel_rfl) (fun _ _ _ h => h) (Or.inl ⟨by rfl, ?_⟩) hH ?_
      rotate_left
      · intro u hSu
        try dsimp only at hSu
        go_simp
        try with_reducible rfl
      try simp only [Act.put, List.setIfInBounds_toArray, List.set_cons_zero, List.set_cons_succ]
      refine wpAnyH_ready (rs := [1]) (by kernel_rfl) (by simp) ?_
      refine AllReadyH.cons (o := { dst := some 24, op := _, type := _, pos := _, after := _, guard := none }) rfl (fun K hK => ?_) AllReadyH.nil
      go_simp
      refine (HM.out _).mono ?_
      rintro e w7 ⟨rfl, g7⟩
      try go_wp2_with fail
      clear hH
      refine hK.out _ _ (HS6.out _ ((Chg.drew [] _).then g7)) (fun hH => ?_)
      clear hK K
      try simp only [Act.put, List.setIfInBounds_toArray, List.set_cons_zero, List.set_cons_succ]
      refine wpAnyH_take (i := 2) (oi := { dst := some 25, op := _, type := _, pos := _, after := _, guard := none }) (v := ?_) rfl (by kernel_rfl) (by kernel_rfl) (by kernel_rfl) (fun _ _ _ h => h) (Or.inl ⟨by rfl, ?_⟩) hH ?_
      rotate_left
      · intro u hSu
        try dsimp only at hSu
        go_simp
        try with_reducible rfl
      try simp only [Act.put, List.setIfInBounds_toArray, List.set_cons_zero, List.set_cons_succ]
      refine wpAnyH_take (i := 3) (oi := { dst := some 26, op := _, type := _, pos := _, after := _, guard := none }) (v := ?_) rfl (by kernel_rfl) (by kernel_rfl) (by kernel_rfl) (fun _ _ _ h => h) (Or.inl ⟨by rfl, ?_⟩) hH ?_
      rotate_left
      · intro u hSu
        try dsimp only at hSu
        go_simp
        try with_reducible rfl
      try simp only [Act.put, List.setIfInBounds_toArray, List.set_cons_zero, List.set_cons_succ]
      refine wpAnyH_take (i := 4) (oi := { dst := some 27, op := _, type := _, pos := _, after := _, guard := some (3, false) }) (v := ?_) rfl (by kernel_rfl) (by kernel_rfl) (by kernel_rfl) (fun _ _ _ h => h) (Or.inl ⟨by rfl, ?_⟩) hH ?_
      rotate_left
      · intro u hSu
        try dsimp only at hSu
        go_simp
        try with_reducible rfl
      try simp only [Act.put, List.setIfInBounds_toArray, List.set_cons_zero, List.set_cons_succ]
      refine wpAnyH_take (i := 6) (oi := { dst := some 29, op := _, type := _, pos := _, after := _, guard := some (3, false) }) (v := ?_) rfl (by kernel_rfl) (by kernel_rfl) (by kernel_rfl) (fun _ _ _ h => h) (Or.inl ⟨by rfl, ?_⟩) hH ?_
      rotate_left
      · intro u hSu
        try dsimp only at hSu
        go_simp
        try with_reducible rfl
      try simp only [Act.put, List.setIfInBounds_toArray, List.set_cons_zero, List.set_cons_succ]
      refine wpAnyH_ready (rs := [5]) (by kernel_rfl) (by simp) ?_
      refine AllReadyH.cons (o := { dst := some 28, op := _, type := _, pos := _, after := _, guard := some (3, false) }) rfl (fun K hK => ?_) AllReadyH.nil
      go_simp
      refine (HFM.out _).mono ?_
      rintro e w8 ⟨rfl, g8⟩
      try go_wp2_with fail
      clear hH
      refine hK.out _ _ (HS6.out _ (((Chg.drew [] _).then g7).then g8)) (fun hH => ?_)
      clear hK K
      try simp only [Act.put, List.setIfInBounds_toArray, List.set_cons_zero, List.set_cons_succ]
      refine wpAnyH_take (i := 7) (oi := { dst := some 30, op := _, type := _, pos := _, after := _, guard := some (3, false) }) (v := ?_) rfl (by kernel_rfl) (by kernel_rfl) (by kernel_rfl) (fun _ _ _ h => h) (Or.inl ⟨by rfl, ?_⟩) hH ?_
      rotate_left
      · intro u hSu
        try dsimp only at hSu
        go_simp
        try with_reducible rfl
      try simp only [Act.put, List.setIfInBounds_toArray, List.set_cons_zero, List.set_cons_succ]
      refine wpAnyH_take (i := 8) (oi := { dst := some 31, op := _, type := _, pos := _, after := _, guard := none }) (v := ?_) rfl (by kernel_rfl) (by kernel_rfl) (by kernel_rfl) (fun _ _ _ h => h) (Or.inl ⟨by rfl, ?_⟩) hH ?_
      rotate_left
      · intro u hSu
        try dsimp only at hSu
        go_simp
        try with_reducible rfl
      try simp only [Act.put, List.setIfInBounds_toArray, List.set_cons_zero, List.set_cons_succ]
      refine wpAnyH_done (by kernel_rfl) ?_ _
      refine NoPanic.normal ?_
      obtain ⟨c0, c1, c2, c3, -, -, -⟩ := HS6.out _ (((Chg.drew [] _).then g7).then g8)
      replace hres := hres.keep (((Chg.drew [] _).then g7).then g8)
      obtain ⟨v0, k0⟩ := Option.isSome_iff_exists.1 hres.k0
      obtain ⟨v1, k1⟩ := Option.isSome_iff_exists.1 hres.k1
      obtain ⟨v2, k2⟩ := Option.isSome_iff_exists.1 hres.k2
      obtain ⟨v3, k3⟩ := Option.isSome_iff_exists.1 hres.k3
      have z0 := hres.z0
      have z1 := hres.z1
      have z2 := hres.z2
      have z3 := hres.z3
      have HRES := mkHid hres
      clear hres
      go_wp2_with fail
      refine bodyPost_ret (v := .tuple #[.agg #[.int .u64 (G : Int), .int .i64 B, .int .u64 (D : Int), .int .u64 (X : Int)], .int .i64 0]) (by simp [results, Tryz.results166, go_sem, k0, k1, k2, k3]) rfl ?_
      exact HY.out _ (HRES.out.done _ _ _ _)
    · have hno := HNO.out (fun hh => hf hh.2)
      have HN := mkHid hno
      have hd : (F == l) = false := by simpa using hf
      clear hf hno HYES HNO hq
      refine wp_region_noPanic ?_
      refine wp_region_held_drew (S := (fun u => u.cell? ⟨sb, 0, none⟩ = some (.int .u64 (G : Int)) ∧ u.cell? ⟨sb, 1, none⟩ = some (.int .i64 B) ∧ u.cell? ⟨sb, 2, none⟩ = some (.int .u64 (D : Int)) ∧ u.cell? ⟨sb, 3, none⟩ = some (.int .u64 (X : Int)) ∧ thereB u fb 0 64 = true ∧ cellsAt u fb 0 64 = bts l ∧ Chg [] w6 u)) (by kernel_rfl) ?_ (fun hH => ?_)
      · exact (HS6.out _ (Chg.drew [] _))
      refine wpAnyH_take (i := 0) (oi := { dst := some 23, op := _, type := _, pos := _, after := _, guard := none }) (v := ?_) rfl (by kernel_rfl) (by kernel_rfl) (by kernel_rfl) (fun _ _ _ h => h) (Or.inl ⟨by rfl, ?_⟩) hH ?_
      rotate_left
      · intro u hSu
        try dsimp only at hSu
        go_simp
        try with_reducible rfl
      try simp only [Act.put, List.setIfInBounds_toArray, List.set_cons_zero, List.set_cons_succ]
      refine wpAnyH_ready (rs := [1]) (by kernel_rfl) (by simp) ?_
      refine AllReadyH.cons (o := { dst := some 24, op := _, type := _, pos := _, after := _, guard := none }) rfl (fun K hK => ?_) AllReadyH.nil
      go_simp
      refine (HM.out _).mono ?_
      rintro e w7 ⟨rfl, g7⟩
      try go_wp2_with fail
      clear hH
      refine hK.out _ _ (HS6.out _ ((Chg.drew [] _).then g7)) (fun hH => ?_)
      clear hK K
      try simp only [Act.put, List.setIfInBounds_toArray, List.set_cons_zero, List.set_cons_succ]
      refine wpAnyH_take (i := 2) (oi := { dst := some 25, op := _, type := _, pos := _, after := _, guard := none }) (v := ?_) rfl (by kernel_rfl) (by kernel_rfl) (by kernel_rfl) (fun _ _ _ h => h) (Or.inl ⟨by rfl, ?_⟩) hH ?_
      rotate_left
      · intro u hSu
        try dsimp only at hSu
        go_simp
        try with_reducible rfl
      try simp only [Act.put, List.setIfInBounds_toArray, List.set_cons_zero, List.set_cons_succ]
      refine wpAnyH_take (i := 3) (oi := { dst := some 26, op := _, type := _, pos := _, after := _, guard := none }) (v := ?_) rfl (by kernel_rfl) (by kernel_rfl) (by kernel_rfl) (fun _ _ _ h => h) (Or.inl ⟨by rfl, ?_⟩) hH ?_
      rotate_left
      · intro u hSu
        try dsimp only at hSu
        go_simp
        try with_reducible rfl
      try simp only [Act.put, List.setIfInBounds_toArray, List.set_cons_zero, List.set_cons_succ]
      refine wpAnyH_take (i := 4) (oi := { dst := some 27, op := _, type := _, pos := _, after := _, guard := some (3, false) }) (v := ?_) rfl (by kernel_rfl) (by kernel_rfl) (by kernel_rfl) (fun _ _ _ h => h) (Or.inl ⟨by rfl, ?_⟩) hH ?_
      rotate_left
      · intro u hSu
        try dsimp only at hSu
        go_simp
        try with_reducible rfl
      try simp only [Act.put, List.setIfInBounds_toArray, List.set_cons_zero, List.set_cons_succ]
      refine wpAnyH_take (i := 6) (oi := { dst := some 29, op := _, type := _, pos := _, after := _, guard := some (3, false) }) (v := ?_) rfl (by kernel_rfl) (by kernel_rfl) (by kernel_rfl) (fun _ _ _ h => h) (Or.inl ⟨by rfl, ?_⟩) hH ?_
      rotate_left
      · intro u hSu
        try dsimp only at hSu
        go_simp
        try with_reducible rfl
      try simp only [Act.put, List.setIfInBounds_toArray, List.set_cons_zero, List.set_cons_succ]
      refine wpAnyH_ready (rs := [5]) (by kernel_rfl) (by simp) ?_
      refine AllReadyH.cons (o := { dst := some 28, op := _, type := _, pos := _, after := _, guard := some (3, false) }) rfl (fun K hK => ?_) AllReadyH.nil
      go_simp
      refine (HFM.out _).mono ?_
      rintro e w8 ⟨rfl, g8⟩
      try go_wp2_with fail
      clear hH
      refine hK.out _ _ (HS6.out _ (((Chg.drew [] _).then g7).then g8)) (fun hH => ?_)
      clear hK K
      try simp only [Act.put, List.setIfInBounds_toArray, List.set_cons_zero, List.set_cons_succ]
      refine wpAnyH_take (i := 7) (oi := { dst := some 30, op := _, type := _, pos := _, after := _, guard := some (3, false) }) (v := ?_) rfl (by kernel_rfl) (by kernel_rfl) (by kernel_rfl) (fun _ _ _ h => h) (Or.inl ⟨by rfl, ?_⟩) hH ?_
      rotate_left
      · intro u hSu
        try dsimp only at hSu
        go_simp
        try with_reducible rfl
      try simp only [Act.put, List.setIfInBounds_toArray, List.set_cons_zero, List.set_cons_succ]
      refine wpAnyH_take (i := 8) (oi := { dst := some 31, op := _, type := _, pos := _, after := _, guard := none }) (v := ?_) rfl (by kernel_rfl) (by kernel_rfl) (by kernel_rfl) (fun _ _ _ h => h) (Or.inl ⟨by rfl, ?_⟩) hH ?_
      rotate_left
      · intro u hSu
        try dsimp only at hSu
        go_simp
        try with_reducible rfl
      try simp only [Act.put, List.setIfInBounds_toArray, List.set_cons_zero, List.set_cons_succ]
      refine wpAnyH_done (by kernel_rfl) ?_ _
      refine NoPanic.normal ?_
      replace hres := hres.keep (((Chg.drew [] _).then g7).then g8)
      obtain ⟨v0, k0⟩ := Option.isSome_iff_exists.1 hres.k0
      obtain ⟨v1, k1⟩ := Option.isSome_iff_exists.1 hres.k1
      obtain ⟨v2, k2⟩ := Option.isSome_iff_exists.1 hres.k2
      obtain ⟨v3, k3⟩ := Option.isSome_iff_exists.1 hres.k3
      have z0 := hres.z0
      have z1 := hres.z1
      have z2 := hres.z2
      have z3 := hres.z3
      have HRES := mkHid hres
      clear hres
      go_wp2_with fail
      refine bodyPost_ret (v := .tuple #[.agg #[.int .u64 0, .int .i64 0, .int .u64 0, .int .u64 0], .int .i64 23]) (by simp [results, Tryz.results166, go_sem, k0, k1, k2, k3]) rfl ?_
      exact HN.out _ (HRES.out.done _ _ _ _)
end Go.Proofs.YtoeijomelabbfaaGreatDoor

/- The program's Choose. -/
namespace Go.Proofs.YtoeijomelabbfaaGreatDoor
set_option maxRecDepth 200000
open Go.RowKit
set_option linter.unusedVariables false
set_option linter.unusedSimpArgs false
attribute [local go_sem ↓] Go.wp_at_zero Go.wp_at_succ

/-- What the program holds for the last one behind a slot. -/
def pickS (l : List UInt8) (slot : Nat) (cur : SB) : SB := if (takeS l).1 = 0 ∧ (takeS l).2.G % 2 = slot ∧ cur.G < (takeS l).2.G then (takeS l).2 else cur
def lastS (l k : List UInt8) : Nat → SB
  | 0 => SB.none
  | 1 => pickS l 0 SB.none
  | _ => pickS k 1 (pickS l 0 SB.none)
theorem choose_last (l k : List UInt8) : chooseS l k = if (lastS l k 2).G = 0 then (SB.none, 0, 23) else (lastS l k 2, (lastS l k 2).G % 2, 0) := by
  have ha : ((takeS l).1 = 0 ∧ 1 ≤ (takeS l).2.G) ∨ ((takeS l).1 ≠ 0 ∧ (takeS l).2.G = 0) := by
    rcases take_cases l with ⟨h1, h2, -⟩ | ⟨h1, h2, -⟩
    · exact .inl ⟨h1, ((SB.may_iff _).1 h2).1⟩
    · exact .inr ⟨h1, by rw [h2]; rfl⟩
  have hb : ((takeS k).1 = 0 ∧ 1 ≤ (takeS k).2.G) ∨ ((takeS k).1 ≠ 0 ∧ (takeS k).2.G = 0) := by
    rcases take_cases k with ⟨h1, h2, -⟩ | ⟨h1, h2, -⟩
    · exact .inl ⟨h1, ((SB.may_iff _).1 h2).1⟩
    · exact .inr ⟨h1, by rw [h2]; rfl⟩
  have hz : SB.none.G = 0 := rfl
  show chooseS l k = (if (pickS k 1 (pickS l 0 SB.none)).G = 0 then (SB.none, 0, 23) else (pickS k 1 (pickS l 0 SB.none), (pickS k 1 (pickS l 0 SB.none)).G % 2, 0))
  by_cases p1 : (takeS l).1 = 0 ∧ (takeS l).2.G % 2 = 0
  · have q1 : inSlot (takeS l) 0 = true := by simp [inSlot, p1.1, p1.2]
    have e1 : pickS l 0 SB.none = (takeS l).2 := if_pos ⟨p1.1, p1.2, by omega⟩
    rw [e1]
    by_cases p2 : (takeS k).1 = 0 ∧ (takeS k).2.G % 2 = 1
    · have q2 : inSlot (takeS k) 1 = true := by simp [inSlot, p2.1, p2.2]
      by_cases p3 : (takeS k).2.G < (takeS l).2.G
      · have e2 : pickS k 1 (takeS l).2 = (takeS l).2 := if_neg (by omega)
        have e3 : chooseS l k = ((takeS l).2, 0, 0) := if_pos ⟨q1, .inr p3⟩
        rw [e2, e3, if_neg (by omega), p1.2]
      · have e2 : pickS k 1 (takeS l).2 = (takeS k).2 := if_pos ⟨p2.1, p2.2, by omega⟩
        have e3 : chooseS l k = ((takeS k).2, 1, 0) := by unfold chooseS; rw [if_neg (by rw [q2]; simp; omega), if_pos q2]
        rw [e2, e3, if_neg (by omega), p2.2]
    · have q2 : inSlot (takeS k) 1 = false := by rw [← Bool.not_eq_true]; simpa [inSlot] using p2
      have e2 : pickS k 1 (takeS l).2 = (takeS l).2 := if_neg (by omega)
      have e3 : chooseS l k = ((takeS l).2, 0, 0) := if_pos ⟨q1, .inl q2⟩
      rw [e2, e3, if_neg (by omega), p1.2]
  · have q1 : inSlot (takeS l) 0 = false := by rw [← Bool.not_eq_true]; simpa [inSlot] using p1
    have e1 : pickS l 0 SB.none = SB.none := if_neg (by omega)
    rw [e1]
    by_cases p2 : (takeS k).1 = 0 ∧ (takeS k).2.G % 2 = 1
    · have q2 : inSlot (takeS k) 1 = true := by simp [inSlot, p2.1, p2.2]
      have e2 : pickS k 1 SB.none = (takeS k).2 := if_pos ⟨p2.1, p2.2, by omega⟩
      have e3 : chooseS l k = ((takeS k).2, 1, 0) := by unfold chooseS; rw [if_neg (by rw [q1]; simp), if_pos q2]
      rw [e2, e3, if_neg (by omega), p2.2]
    · have q2 : inSlot (takeS k) 1 = false := by rw [← Bool.not_eq_true]; simpa [inSlot] using p2
      have e2 : pickS k 1 SB.none = SB.none := if_neg (by omega)
      have e3 : chooseS l k = (SB.none, 0, 23) := by unfold chooseS; rw [if_neg (by rw [q1]; simp), if_neg (by rw [q2]; simp)]
      rw [e2, e3, if_pos hz]
/-- A superblock in a block that may be written. -/
structure SupW (w : World) (b : Nat) (s : SB) : Prop where
  at_ : SupAt w b s
  z0 : w.frozen? ⟨b, 0, none⟩ = false
  z1 : w.frozen? ⟨b, 1, none⟩ = false
  z2 : w.frozen? ⟨b, 2, none⟩ = false
  z3 : w.frozen? ⟨b, 3, none⟩ = false
theorem SupW.keep {S : List Nat} {w w' : World} {b : Nat} {s : SB} (h : SupW w b s) (g : Chg S w w') (hb : b ∉ S) : SupW w' b s :=
  ⟨h.at_.keep g hb, by rw [g.frozen (block_lt_of_cell h.at_.c0) hb]; exact h.z0, by rw [g.frozen (block_lt_of_cell h.at_.c1) hb]; exact h.z1, by rw [g.frozen (block_lt_of_cell h.at_.c2) hb]; exact h.z2, by rw [g.frozen (block_lt_of_cell h.at_.c3) hb]; exact h.z3⟩
theorem supW_new (w : World) (s : SB) : SupW (w.alloc (supObj s)) w.heap.size s := by
  have hl := heap_alloc_last w (supObj s)
  have hf := fun j => frozen_of_row _ w.heap.size j _ _ hl
  exact ⟨sup_laid w s, hf 0, hf 1, hf 2, hf 3⟩
theorem four_sup {w : World} {b : Nat} {s : SB} (h : SupW w b s) (t : SB) : SupW ((((w.setCell ⟨b, 0, none⟩ (.int .u64 t.G)).setCell ⟨b, 1, none⟩ (.int .i64 t.B)).setCell ⟨b, 2, none⟩ (.int .u64 t.D)).setCell ⟨b, 3, none⟩ (.int .u64 t.X)) b t := by
  have c0 := h.at_.c0
  have c1 := h.at_.c1
  have c2 := h.at_.c2
  have c3 := h.at_.c3
  have z0 := h.z0
  have z1 := h.z1
  have z2 := h.z2
  have z3 := h.z3
  refine ⟨⟨?_, ?_, ?_, ?_⟩, ?_, ?_, ?_, ?_⟩ <;> simp [go_sem, c0, c1, c2, c3, z0, z1, z2, z3]
theorem index2 (s0 s1 : Value) (w : World) (a : Option Addr) (n c : Nat) (b : Option Addr) (m d : Nat) (h0 : s0 = .slice a n c) (h1 : s1 = .slice b m d) :
    (Instr.index 113 (.agg #[s0, s1]) (.int .i64 (0 : Int))).run Tryz.prog w = .ok s0 w ∧ (Instr.index 113 (.agg #[s0, s1]) (.int .i64 (1 : Int))).run Tryz.prog w = .ok s1 w := by
  have hz := Tryz.sizeOf41
  subst h0 h1
  constructor <;> simp [Instr.index, run_underlying Tryz.underlying113, asIntOf, go_sem, hz]
/-- What a round goes by: the slice at a place. -/
structure Turn2 (w : World) (A : Value) (l k : List UInt8) (j : Nat) (ao : Option Addr) (n c : Nat) (x : List UInt8) : Prop where
  ix : ∀ u : World, (Instr.index 113 A (.int .i64 (j : Int))).run Tryz.prog u = .ok (.slice ao n c) u
  rd : Reads w ao (bts x)
  len : x.length = n
  le : n ≤ c
  max : c ≤ maxLen
  next : lastS l k (j + 1) = pickS x j (lastS l k j)
set_option maxRecDepth 20000 in
set_option maxHeartbeats 4000000 in
theorem choose_sup (ao : Option Addr) (n c : Nat) (l : List UInt8) (bo : Option Addr) (m d : Nat) (k : List UInt8) (w : World) (h : Reads w ao (bts l)) (hl : l.length = n) (hc : n ≤ c) (hm : c ≤ maxLen) (h2 : Reads w bo (bts k)) (hk : k.length = m) (hd : m ≤ d) (hm2 : d ≤ maxLen) :
    Calls Tryz.prog 129 #[.slice ao n c, .slice bo m d] w (SChoose w l k) := by
  have hturn : ∀ j, j < 2 → ∃ a q e x, Turn2 w (.agg #[.slice ao n c, .slice bo m d]) l k j a q e x := by
    intro j hj
    have : j = 0 ∨ j = 1 := by omega
    rcases this with rfl | rfl
    · exact ⟨ao, n, c, l, fun u => (index2 _ _ u _ _ _ _ _ _ rfl rfl).1, h, hl, hc, hm, rfl⟩
    · exact ⟨bo, m, d, k, fun u => (index2 _ _ u _ _ _ _ _ _ rfl rfl).2, h2, hk, hd, hm2, rfl⟩
  have hcl := choose_last l k
  have hend : ∀ s i e, chooseS l k = (s, i, e) → ∀ w', Chg [] w w' → SChoose w l k (.returned (.tuple #[s.v, .int .i64 (i : Int), .int .i64 (e : Int)])) w' := fun s i e he w' g => schoose_of he g
  have HEND := mkHid hend
  have HCL := mkHid hcl
  have hres := res4_made w w (Chg.refl [] w) (.int .u64 0) (.int .i64 0) (.int .u64 0) (.int .u64 0)
  have g1 := Chg.alloc [] (w.alloc (.cells #[.int .u64 0, .int .i64 0, .int .u64 0, .int .u64 0] 53)) (.cells #[.int .u64 0, .int .i64 0, .int .u64 0, .int .u64 0] 53)
  have hsw := supW_new (w.alloc (.cells #[.int .u64 0, .int .i64 0, .int .u64 0, .int .u64 0] 53)) SB.none
  have wz : (w.alloc (.cells #[.int .u64 0, .int .i64 0, .int .u64 0, .int .u64 0] 53)).heap.size = w.heap.size + 1 := by simp
  rw [wz] at hsw
  replace hres := hres.keep g1
  change SupW ((w.alloc (.cells #[.int .u64 0, .int .i64 0, .int .u64 0, .int .u64 0] 53)).alloc (.cells #[.int .u64 0, .int .i64 0, .int .u64 0, .int .u64 0] 53)) (w.heap.size + 1) (lastS l k 0) at hsw
  clear hend hcl h hl hc hm h2 hk hd hm2 g1 wz
  generalize hA : (.agg #[.slice ao n c, .slice bo m d] : Value) = A at hturn
  go_enter Tryz.func129, Tryz.ntmps129
  go_wp2_with fail
  clear hA
  generalize World.alloc (w.alloc _) _ = w1 at *
  generalize hnb : w.heap.size = nb at *
  have HNB := mkHid hnb
  clear hnb
  go_loopw [15] (fun iv wr => ∃ j : Nat, j ≤ 2 ∧ iv = .int .i64 j ∧ SupW wr (nb + 1) (lastS l k j) ∧ Res4 w wr nb) (fun iv _ => 2 - (Go.RowKit.intOf iv).toNat)
  case atStart => exact ⟨0, by omega, rfl, hsw, hres⟩
  case round =>
    clear hsw hres
    obtain ⟨j, hj, rfl, hsw, hres⟩ := hrel
    by_cases hlt : j < 2
    · have dk : decide ((j : Int) < 2) = true := decide_eq_true (by omega)
      have dk2 : decide (j < 2) = true := decide_eq_true hlt
      obtain ⟨a, q, e, x, ht⟩ := hturn j hlt
      have hix := ht.ix
      have htake := take_sup a q e x wr (ht.rd.keep hres.g) ht.len ht.le ht.max
      have hnext := ht.next
      have HC := mkHid (And.intro hnext (And.intro hlt hj))
      clear ht hturn hnext hj HEND HCL
      go_wp2_with fail
      refine htake.mono ?_
      rintro e1 w2 ⟨he, g2⟩
      subst he
      clear htake hix
      have hp : ∀ E G B D X, takeS x = (E, ⟨G, B, D, X⟩) → lastS l k (j + 1) = if E = 0 ∧ G % 2 = j ∧ (lastS l k j).G < G then ⟨G, B, D, X⟩ else lastS l k j := fun E G B D X hx => by rw [HC.out.1]; unfold pickS; rw [hx]
      obtain ⟨⟨E, ⟨G, B, D, X⟩⟩, hx⟩ : ∃ t, takeS x = t := ⟨_, rfl⟩
      have hp2 := hp E G B D X hx
      rw [hx]
      clear hp hx
      generalize lastS l k j = cur at *
      generalize hnx : lastS l k (j + 1) = nx at *
      have HNX := mkHid hnx
      clear hnx
      obtain ⟨CG, CB, CD, CX⟩ := cur
      unfold SB.v
      dsimp only at hp2 ⊢
      have so := slotOf_any ⟨G, B, D, X⟩
      obtain ⟨d0, d1, d2, d3⟩ := sup_laid w2 ⟨G, B, D, X⟩
      have g3 := Chg.alloc [] w2 (supObj ⟨G, B, D, X⟩)
      unfold SB.v supObj at *
      dsimp only at *
      replace hres := hres.keep (g2.then g3)
      replace hsw := hsw.keep (g2.then g3) (by simp)
      clear g2 g3
      obtain ⟨⟨c0, c1, c2, c3⟩, x0, x1, x2, x3⟩ := id hsw
      dsimp only at c0 c1 c2 c3
      have HSW := mkHid hsw
      have HRES := mkHid hres
      clear hsw hres
      by_cases e0 : E = 0
      · have de : ((E : Int) == 0) = true := by simp; omega
        have SO := mkHid so
        clear so
        by_cases pj : G % 2 = j
        · by_cases lt : CG < G
          · have dj1 : (((G % 2 : Nat) : Int) == (j : Int)) = true := by simp; omega
            have dj2 : ((G : Int) % 2 == (j : Int)) = true := by simp; omega
            have dj3 : (G % 2 == j) = true := by simp [pj]
            have dl1 : decide ((CG : Int) < (G : Int)) = true := decide_eq_true (by omega)
            have dl2 : decide (CG < G) = true := decide_eq_true lt
            have hq : nx = ⟨G, B, D, X⟩ := by rw [hp2, if_pos ⟨e0, pj, lt⟩]
            have HQ := mkHid hq
            clear e0 pj lt hp2 hq
            go_wp2_with fail
            refine (SO.out _).mono ?_
            rintro e1 w4 ⟨rfl, g4⟩
            replace d0 := g4.cellv d0 (by simp)
            replace d1 := g4.cellv d1 (by simp)
            replace d2 := g4.cellv d2 (by simp)
            replace d3 := g4.cellv d3 (by simp)
            have hsw4 := HSW.out.keep g4 (by simp)
            have hres4 := HRES.out.keep g4
            clear c0 c1 c2 c3 x0 x1 x2 x3 g4
            obtain ⟨⟨c0, c1, c2, c3⟩, x0, x1, x2, x3⟩ := id hsw4
            dsimp only at c0 c1 c2 c3
            have hsw5 := four_sup hsw4 ⟨G, B, D, X⟩
            have hres5 := hres4.keep1 (four_chg w4 (nb + 1) (.int .u64 (G : Int)) (.int .i64 B) (.int .u64 (D : Int)) (.int .u64 (X : Int))) (by have := HNB.out; omega) (by omega)
            have HSW5 := mkHid hsw5
            have HRES5 := mkHid hres5
            clear hsw4 hres4 hsw5 hres5 HSW HRES
            go_wp2_with fail
            exact ⟨⟨j + 1, by have := HC.out.2.1; omega, by go_num, by rw [HNX.out, HQ.out]; exact HSW5.out, HRES5.out⟩, by have := HC.out.2.1; simp [Go.RowKit.intOf]; omega⟩
          · have dj1 : (((G % 2 : Nat) : Int) == (j : Int)) = true := by simp; omega
            have dj2 : ((G : Int) % 2 == (j : Int)) = true := by simp; omega
            have dj3 : (G % 2 == j) = true := by simp [pj]
            have dl1 : decide ((CG : Int) < (G : Int)) = false := decide_eq_false (by omega)
            have dl2 : decide (CG < G) = false := decide_eq_false lt
            have hq : nx = ⟨CG, CB, CD, CX⟩ := by rw [hp2, if_neg (fun hh => lt hh.2.2)]
            have HQ := mkHid hq
            clear e0 pj lt hp2 hq
            go_wp2_with fail
            refine (SO.out _).mono ?_
            rintro e1 w4 ⟨rfl, g4⟩
            replace d0 := g4.cellv d0 (by simp)
            replace c0 := g4.cellv c0 (by simp)
            have hsw4 := HSW.out.keep g4 (by simp)
            have hres4 := HRES.out.keep g4
            clear g4
            go_wp2_with fail
            exact ⟨⟨j + 1, by have := HC.out.2.1; omega, by go_num, by rw [HNX.out, HQ.out]; exact hsw4, hres4⟩, by have := HC.out.2.1; simp [Go.RowKit.intOf]; omega⟩
        · have dj1 : (((G % 2 : Nat) : Int) == (j : Int)) = false := by simp; omega
          have dj2 : ((G : Int) % 2 == (j : Int)) = false := by simp; omega
          have dj3 : (G % 2 == j) = false := by simp [pj]
          have hq : nx = ⟨CG, CB, CD, CX⟩ := by rw [hp2, if_neg (fun hh => pj hh.2.1)]
          have HQ := mkHid hq
          clear e0 pj hp2 hq
          go_wp2_with fail
          refine (SO.out _).mono ?_
          rintro e1 w4 ⟨rfl, g4⟩
          have hsw4 := HSW.out.keep g4 (by simp)
          have hres4 := HRES.out.keep g4
          clear g4
          go_wp2_with fail
          exact ⟨⟨j + 1, by have := HC.out.2.1; omega, by go_num, by rw [HNX.out, HQ.out]; exact hsw4, hres4⟩, by have := HC.out.2.1; simp [Go.RowKit.intOf]; omega⟩
      · have de : ((E : Int) == 0) = false := by simp; omega
        have hq : nx = ⟨CG, CB, CD, CX⟩ := by rw [hp2, if_neg (fun hh => e0 hh.1)]
        have HQ := mkHid hq
        clear e0 hp2 hq so
        go_wp2_with fail
        exact ⟨⟨j + 1, by have := HC.out.2.1; omega, by go_num, by rw [HNX.out, HQ.out]; exact HSW.out, HRES.out⟩, by have := HC.out.2.1; simp [Go.RowKit.intOf]; omega⟩
    · obtain rfl : j = 2 := by omega
      have hcl := HCL.out
      generalize lastS l k 2 = cur at *
      obtain ⟨CG, CB, CD, CX⟩ := cur
      have so := slotOf_any ⟨CG, CB, CD, CX⟩
      obtain ⟨⟨c0, c1, c2, c3⟩, x0, x1, x2, x3⟩ := id hsw
      unfold SB.v at so
      dsimp only at *
      obtain ⟨v0, k0⟩ := Option.isSome_iff_exists.1 hres.k0
      obtain ⟨v1, k1⟩ := Option.isSome_iff_exists.1 hres.k1
      obtain ⟨v2, k2⟩ := Option.isSome_iff_exists.1 hres.k2
      obtain ⟨v3, k3⟩ := Option.isSome_iff_exists.1 hres.k3
      have z0 := hres.z0
      have z1 := hres.z1
      have z2 := hres.z2
      have z3 := hres.z3
      by_cases hz : CG = 0
      · have d0 : ((CG : Int) == 0) = true := by simp; omega
        have d1 : (CG == 0) = true := by simp [hz]
        rw [if_pos hz] at hcl
        have hfin := HEND.out _ _ _ hcl _ (hres.done (.int .u64 0) (.int .i64 0) (.int .u64 0) (.int .u64 0))
        have HFIN := mkHid hfin
        clear hcl hz hfin hsw hres so x0 x1 x2 x3 HCL HEND hlt hj
        go_wp2_with fail
        exact bodyPost_ret (v := .tuple #[.agg #[.int .u64 0, .int .i64 0, .int .u64 0, .int .u64 0], .int .i64 0, .int .i64 23]) (by simp [results, Tryz.results129, go_sem, k0, k1, k2, k3]) rfl HFIN.out
      · have d0 : ((CG : Int) == 0) = false := by simp; omega
        have d1 : (CG == 0) = false := by simp [hz]
        rw [if_neg hz] at hcl
        have HE := mkHid (HEND.out _ _ _ hcl)
        have HRES := mkHid hres
        have SO := mkHid so
        clear hcl hz hres hsw so x0 x1 x2 x3 HCL HEND hlt hj
        go_wp2_with fail
        refine wp_region_noPanic ?_
        refine wp_region_held_drew (S := (fun u => u.cell? ⟨nb + 1, 0, none⟩ = some (.int .u64 (CG : Int)) ∧ u.cell? ⟨nb + 1, 1, none⟩ = some (.int .i64 CB) ∧ u.cell? ⟨nb + 1, 2, none⟩ = some (.int .u64 (CD : Int)) ∧ u.cell? ⟨nb + 1, 3, none⟩ = some (.int .u64 (CX : Int)))) (by kernel_rfl) ?_ (fun hH => ?_)
        · exact ⟨(Chg.drew [] _).cellv c0 (by simp), (Chg.drew [] _).cellv c1 (by simp), (Chg.drew [] _).cellv c2 (by simp), (Chg.drew [] _).cellv c3 (by simp)⟩
        refine wpAnyH_take (i := 0) (oi := { dst := some 45, op := _, type := _, pos := _, after := _, guard := none }) (v := ?_) rfl (by kernel_rfl) (by kernel_rfl) (by kernel_rfl) (fun _ _ _ h => h) (Or.inl ⟨by rfl, ?_⟩) hH ?_
        rotate_left
        · intro u hSu
          try dsimp only at hSu
          go_simp
          try with_reducible rfl
        try simp only [Act.put, List.setIfInBounds_toArray, List.set_cons_zero, List.set_cons_succ]
        refine wpAnyH_take (i := 1) (oi := { dst := some 46, op := _, type := _, pos := _, after := _, guard := none }) (v := ?_) rfl (by kernel_rfl) (by kernel_rfl) (by kernel_rfl) (fun _ _ _ h => h) (Or.inl ⟨by rfl, ?_⟩) hH ?_
        rotate_left
        · intro u hSu
          try dsimp only at hSu
          go_simp
          try with_reducible rfl
        try simp only [Act.put, List.setIfInBounds_toArray, List.set_cons_zero, List.set_cons_succ]
        refine wpAnyH_ready (rs := [2]) (by kernel_rfl) (by simp) ?_
        refine AllReadyH.cons (o := { dst := some 47, op := _, type := _, pos := _, after := _, guard := none }) rfl (fun K hK => ?_) AllReadyH.nil
        go_simp
        refine (SO.out _).mono ?_
        rintro e w5 ⟨rfl, g5⟩
        have gg := (Chg.drew [] _).then g5
        have hres5 := HRES.out.keep gg
        clear k0 k1 k2 k3 z0 z1 z2 z3
        obtain ⟨v0, k0⟩ := Option.isSome_iff_exists.1 hres5.k0
        obtain ⟨v1, k1⟩ := Option.isSome_iff_exists.1 hres5.k1
        obtain ⟨v2, k2⟩ := Option.isSome_iff_exists.1 hres5.k2
        obtain ⟨v3, k3⟩ := Option.isSome_iff_exists.1 hres5.k3
        have z0 := hres5.z0
        have z1 := hres5.z1
        have z2 := hres5.z2
        have z3 := hres5.z3
        have HRES5 := mkHid hres5
        have GG := mkHid gg
        clear hres5 gg g5
        try go_wp2_with fail
        clear hH
        refine hK.out _ _ ⟨GG.out.cellv c0 (by simp), GG.out.cellv c1 (by simp), GG.out.cellv c2 (by simp), GG.out.cellv c3 (by simp)⟩ (fun hH => ?_)
        clear hK K
        try simp only [Act.put, List.setIfInBounds_toArray, List.set_cons_zero, List.set_cons_succ]
        refine wpAnyH_ready (rs := [3]) (by kernel_rfl) (by simp) ?_
        refine AllReadyH.cons (o := { dst := none, op := _, type := _, pos := _, after := _, guard := none }) rfl (fun K hK => ?_) AllReadyH.nil
        go_simp
        clear hH
        refine hK.out _ _ ⟨(four_chg _ nb _ _ _ _).cellv (GG.out.cellv c0 (by simp)) (by simp), (four_chg _ nb _ _ _ _).cellv (GG.out.cellv c1 (by simp)) (by simp), (four_chg _ nb _ _ _ _).cellv (GG.out.cellv c2 (by simp)) (by simp), (four_chg _ nb _ _ _ _).cellv (GG.out.cellv c3 (by simp)) (by simp)⟩ (fun hH => ?_)
        clear hK K
        try simp only [Act.put, List.setIfInBounds_toArray, List.set_cons_zero, List.set_cons_succ]
        refine wpAnyH_take (i := 4) (oi := { dst := some 5, op := _, type := _, pos := _, after := _, guard := none }) (v := ?_) rfl (by kernel_rfl) (by kernel_rfl) (by kernel_rfl) (fun _ _ _ h => h) (Or.inl ⟨by rfl, ?_⟩) hH ?_
        rotate_left
        · intro u hSu
          try dsimp only at hSu
          go_simp
          try with_reducible rfl
        try simp only [Act.put, List.setIfInBounds_toArray, List.set_cons_zero, List.set_cons_succ]
        refine wpAnyH_take (i := 5) (oi := { dst := some 6, op := _, type := _, pos := _, after := _, guard := none }) (v := ?_) rfl (by kernel_rfl) (by kernel_rfl) (by kernel_rfl) (fun _ _ _ h => h) (Or.inl ⟨by rfl, ?_⟩) hH ?_
        rotate_left
        · intro u hSu
          try dsimp only at hSu
          go_simp
          try with_reducible rfl
        try simp only [Act.put, List.setIfInBounds_toArray, List.set_cons_zero, List.set_cons_succ]
        refine wpAnyH_done (by kernel_rfl) ?_ _
        refine NoPanic.normal ?_
        try go_wp2_with fail
        exact bodyPost_ret (v := .tuple #[.agg #[.int .u64 (CG : Int), .int .i64 CB, .int .u64 (CD : Int), .int .u64 (CX : Int)], .int .i64 ((CG % 2 : Nat) : Int), .int .i64 0]) (by simp [results, Tryz.results129, go_sem, k0, k1, k2, k3]) rfl (HE.out _ (HRES5.out.done _ _ _ _))
end Go.Proofs.YtoeijomelabbfaaGreatDoor
