/- KnotKeeps. -/
import Derived.Test.YtlaeonemlodhmaaJc
namespace Go.Proofs.Ytlaeonemlodhmaa
open Go.RowKit
set_option linter.unusedVariables false
set_option linter.unusedSimpArgs false
attribute [local go_sem ↓] Go.wp_at_zero Go.wp_at_succ

theorem find_ways {L O : List Nat} {k p x : Nat} (hL : L.length = k) (hO : O.length = k) (hR : Rising L) (hp : findN x L O = p) : (p < k ∧ L[p]? = some x ∧ isN x L O = true) ∨ (p < k ∧ (∃ q, L[p]? = some q ∧ x < q) ∧ isN x L O = false) ∨ (p = k ∧ isN x L O = false) := by
  have hF := find_facts (x := x) hL hO hR
  rw [hp] at hF
  have hn := np_k hL hO
  by_cases h : p < k
  · obtain ⟨q, hq⟩ : ∃ q, L[p]? = some q := ⟨_, List.getElem?_eq_getElem (by omega)⟩
    have h1 := is_at (x := x) (K := L) (V := O) (y := q) (by rw [hp, hn]; exact h) (by rw [hp]; exact hq)
    have h2 := hF.2 p q hq
    by_cases he : q = x
    · subst he
      exact Or.inl ⟨h, hq, by rw [h1]; simp⟩
    · exact Or.inr (Or.inl ⟨h, ⟨q, hq, by omega⟩, by rw [h1]; exact decide_eq_false he⟩)
  · exact Or.inr (Or.inr ⟨by omega, is_end (by rw [hp, hn]; exact h)⟩)
theorem hold8 {a0 a1 a2 a3 a4 a5 a6 a7 : Addr} {v0 v1 v2 v3 v4 v5 v6 v7 : Value} {W u u' : World} (h : u.cell? a0 = some v0 ∧ u.cell? a1 = some v1 ∧ u.cell? a2 = some v2 ∧ u.cell? a3 = some v3 ∧ u.cell? a4 = some v4 ∧ u.cell? a5 = some v5 ∧ u.cell? a6 = some v6 ∧ u.cell? a7 = some v7 ∧ Chg [] W u) (g : Chg [] u u') : u'.cell? a0 = some v0 ∧ u'.cell? a1 = some v1 ∧ u'.cell? a2 = some v2 ∧ u'.cell? a3 = some v3 ∧ u'.cell? a4 = some v4 ∧ u'.cell? a5 = some v5 ∧ u'.cell? a6 = some v6 ∧ u'.cell? a7 = some v7 ∧ Chg [] W u' := by
  obtain ⟨h0, h1, h2, h3, h4, h5, h6, h7, hc⟩ := h
  exact ⟨g.cellv h0 (by simp), g.cellv h1 (by simp), g.cellv h2 (by simp), g.cellv h3 (by simp), g.cellv h4 (by simp), g.cellv h5 (by simp), g.cellv h6 (by simp), g.cellv h7 (by simp), hc.then g⟩
theorem chgOf8 {a0 a1 a2 a3 a4 a5 a6 a7 : Addr} {v0 v1 v2 v3 v4 v5 v6 v7 : Value} {W u : World} (h : u.cell? a0 = some v0 ∧ u.cell? a1 = some v1 ∧ u.cell? a2 = some v2 ∧ u.cell? a3 = some v3 ∧ u.cell? a4 = some v4 ∧ u.cell? a5 = some v5 ∧ u.cell? a6 = some v6 ∧ u.cell? a7 = some v7 ∧ Chg [] W u) : Chg [] W u := h.2.2.2.2.2.2.2.2
theorem hold7 {a0 a1 a2 a3 a4 a5 a6 : Addr} {v0 v1 v2 v3 v4 v5 v6 : Value} {W u u' : World} (h : u.cell? a0 = some v0 ∧ u.cell? a1 = some v1 ∧ u.cell? a2 = some v2 ∧ u.cell? a3 = some v3 ∧ u.cell? a4 = some v4 ∧ u.cell? a5 = some v5 ∧ u.cell? a6 = some v6 ∧ Chg [] W u) (g : Chg [] u u') : u'.cell? a0 = some v0 ∧ u'.cell? a1 = some v1 ∧ u'.cell? a2 = some v2 ∧ u'.cell? a3 = some v3 ∧ u'.cell? a4 = some v4 ∧ u'.cell? a5 = some v5 ∧ u'.cell? a6 = some v6 ∧ Chg [] W u' := by
  obtain ⟨h0, h1, h2, h3, h4, h5, h6, hc⟩ := h
  exact ⟨g.cellv h0 (by simp), g.cellv h1 (by simp), g.cellv h2 (by simp), g.cellv h3 (by simp), g.cellv h4 (by simp), g.cellv h5 (by simp), g.cellv h6 (by simp), hc.then g⟩
theorem chgOf7 {a0 a1 a2 a3 a4 a5 a6 : Addr} {v0 v1 v2 v3 v4 v5 v6 : Value} {W u : World} (h : u.cell? a0 = some v0 ∧ u.cell? a1 = some v1 ∧ u.cell? a2 = some v2 ∧ u.cell? a3 = some v3 ∧ u.cell? a4 = some v4 ∧ u.cell? a5 = some v5 ∧ u.cell? a6 = some v6 ∧ Chg [] W u) : Chg [] W u := h.2.2.2.2.2.2.2
theorem rising_lt {L : List Nat} (h : Rising L) {j a b : Nat} (ha : L[j]? = some a) (hb : L[j + 1]? = some b) : a < b := by
  obtain ⟨h1, rfl⟩ := List.getElem?_eq_some_iff.1 ha
  obtain ⟨h2, rfl⟩ := List.getElem?_eq_some_iff.1 hb
  exact List.pairwise_iff_getElem.1 h j (j + 1) h1 h2 (by omega)
set_option maxRecDepth 100000 in
set_option maxHeartbeats 16000000 in
theorem keeps_core (ao : Option Addr) (n c : Nat) (XS : List Nat) (x : Nat) (w : World) (h : Reads w ao (uvs XS)) (hn : XS.length = n) :
    Calls Try.prog 6 #[.slice ao n c, .int .u64 (x : Int)] w fun e w' => e = .returned (.bool true) ∧ Chg [] w w' := by
  have HH := mkHid (And.intro h hn)
  clear h hn
  go_enter Try.func6, Try.ntmps6
  go_wp2_with fail
  obtain ⟨w0, hw0⟩ : ∃ x, x = w := ⟨_, rfl⟩
  rw [← hw0] at HH ⊢
  have G := Chg.refl [] w0
  refine (rising_as ao n c XS w0 HH.out.1 HH.out.2).mono ?_
  rintro e u1 ⟨⟨k, L, ka, kc, va, vc, rfl, hR, hk, hk2, RN⟩, gc⟩
  obtain ⟨w1, hw1⟩ : ∃ x, x = (u1.alloc (.cells #[.bool false, .slice ka k kc, .slice va k vc] 24)) := ⟨_, rfl⟩
  have gu : Chg [] u1 w1 := by rw [hw1]; exact Chg.alloc [] _ _
  have gn := gc.then gu
  replace G := G.then gn
  have BN : Bx w1 (u1.heap.size) (.bool false) (.slice ka k kc) (.slice va k vc) := by rw [hw1]; exact ⟨by simp [go_sem], by simp [go_sem], by simp [go_sem]⟩
  replace RN := RN.keep gu
  clear gc gu gn
  have hw1' := hw1.symm
  clear hw1
  have a0 := BN.c0
  have a1 := BN.c1
  have a2 := BN.c2
  go_wp2_with fail
  clear hw1'
  clear a0 a1 a2
  generalize u1.heap.size = nb at *
  have lo := ones_len k
  obtain ⟨O, hO⟩ : ∃ x, ones k = x := ⟨_, rfl⟩
  rw [hO] at lo RN
  clear hO
  obtain ⟨p, hp⟩ : ∃ p, findN x L O = p := ⟨_, rfl⟩
  have hF := find_facts (x := x) hk lo hR
  rw [hp] at hF
  obtain ⟨hpk, hI⟩ := hF
  obtain ⟨cc, hcc⟩ : ∃ c, childN x L O = c := ⟨_, rfl⟩
  have HK := mkHid (show Rising L ∧ L.length = k ∧ O.length = k ∧ findN x L O = p ∧ childN x L O = cc ∧ (∀ i y, L[i]? = some y → (i < p ↔ y < x)) from ⟨hR, hk, lo, hp, hcc, hI⟩)
  have hw := find_ways hk lo hR hp
  clear hR hk lo hp hcc hI
  rcases hw with ⟨hlt, hq, hb⟩ | ⟨hlt, ⟨q, hq, hxq⟩, hb⟩ | ⟨heq, hb⟩
  · refine (finds_as ka kc va vc L O k p x true w1 RN HK.out.2.1 HK.out.2.2.1 HK.out.2.2.2.1 hb).mono ?_
    rintro e w2 ⟨rfl, gc⟩
    replace BN := BN.keep gc
    replace RN := RN.keep gc
    replace G := G.then gc
    clear gc
    clear hb
    go_wp2_with fail
    refine (awake_any w2).mono ?_
    rintro e w3 ⟨rfl, gc⟩
    replace BN := BN.keep gc
    replace RN := RN.keep gc
    replace G := G.then gc
    clear gc
    have a0 := BN.c0
    have a1 := BN.c1
    have a2 := BN.c2
    have f1 : decide ((p : Int) < 0) = false := decide_eq_false (by omega)
    have f2 : decide ((p : Int) > (k : Int)) = false := decide_eq_false (by omega)
    have f3 : decide ((k : Int) < (p : Int)) = false := decide_eq_false (by omega)
    have f4 : decide (k < p) = false := decide_eq_false (by omega)
    go_wp2_with fail
    clear f1 f2 f3 f4
    go_loopw [40] (fun iv wz => ∃ i : Nat, iv = .int .i64 i ∧ i ≤ k ∧ w3 = wz) (fun iv _ => k - (intOf iv).toNat)
    case atStart => exact ⟨0, rfl, Nat.zero_le _, rfl⟩
    case round =>
      obtain ⟨i, rfl, hik, rfl⟩ := hrel
      by_cases hil : i < k
      · have d1 : decide (i < k) = true := decide_eq_true hil
        have d2 : decide ((i : Int) < (k : Int)) = true := decide_eq_true (by omega)
        obtain ⟨y, hy⟩ : ∃ y, L[i]? = some y := ⟨_, List.getElem?_eq_getElem (by have := HK.out.2.1; omega)⟩
        have hiy := HK.out.2.2.2.2.2 i y hy
        obtain ⟨xb, xo, rfl, c1, _⟩ := reads_lt RN.rk i _ (uvs_get hy)
        have c2 := RN.rk.cell p _ (uvs_get hq)
        have e1 : decide (p < k) = true := decide_eq_true hlt
        have e2 : decide ((p : Int) < (k : Int)) = true := decide_eq_true (by omega)
        have hlt2 : (p : Int) < (k : Int) := by omega
        have e3 : ((x : Int) == (x : Int)) = true := by simp
        clear hy
        by_cases hip : i < p
        · have g1 : decide (i < p) = true := decide_eq_true (by omega)
          have g2 : decide ((i : Int) < (p : Int)) = true := decide_eq_true (by omega)
          have g3 : decide (y < x) = true := decide_eq_true (by omega)
          have g4 : decide ((y : Int) < (x : Int)) = true := decide_eq_true (by omega)
          clear hiy
          go_wp2_with fail
          exact ⟨⟨i + 1, by go_num, by omega, by first | rfl | trivial⟩, by simp [intOf]; omega⟩
        · have g1 : decide (i < p) = false := decide_eq_false (by omega)
          have g2 : decide ((i : Int) < (p : Int)) = false := decide_eq_false (by omega)
          have g3 : decide (y < x) = false := decide_eq_false (by omega)
          have g4 : decide ((y : Int) < (x : Int)) = false := decide_eq_false (by omega)
          clear hiy
          go_wp2_with fail
          exact ⟨⟨i + 1, by go_num, by omega, by first | rfl | trivial⟩, by simp [intOf]; omega⟩
      · have d1 : decide (i < k) = false := decide_eq_false hil
        have d2 : decide ((i : Int) < (k : Int)) = false := decide_eq_false (by omega)
        go_wp2_with fail
        refine (childs_as ka kc va vc L O k cc x w3 RN HK.out.2.1 HK.out.2.2.1 HK.out.2.2.2.2.1).mono ?_
        rintro e w4 ⟨rfl, gc⟩
        clear a0 a1 a2
        replace BN := BN.keep gc
        replace RN := RN.keep gc
        replace G := G.then gc
        clear gc
        have a0 := BN.c0
        have a1 := BN.c1
        have a2 := BN.c2
        have hk0 : 0 < k := by omega
        have hch := child_facts (x := x) HK.out.2.1 HK.out.2.2.1 HK.out.1 hk0
        rw [HK.out.2.2.2.2.1] at hch
        obtain ⟨hck, hc0, hc1⟩ := hch
        obtain ⟨y, hy⟩ : ∃ y, L[cc]? = some y := ⟨_, List.getElem?_eq_getElem (by have := HK.out.2.1; omega)⟩
        have hcy := hc0 y hy
        obtain ⟨xb, xo, rfl, c1, _⟩ := reads_lt RN.rk cc _ (uvs_get hy)
        have f1 : decide ((k : Int) > 0) = true := decide_eq_true (by omega)
        have f1' : decide (0 < (k : Int)) = true := decide_eq_true (by omega)
        have f1q : decide (0 < k) = true := decide_eq_true hk0
        have f2 : decide ((cc : Int) < 0) = false := decide_eq_false (by omega)
        have f3 : decide ((cc : Int) ≥ (k : Int)) = false := decide_eq_false (by omega)
        have f4 : decide ((k : Int) ≤ (cc : Int)) = false := decide_eq_false (by omega)
        have f5 : decide (k ≤ cc) = false := decide_eq_false (by omega)
        have f6 : (cc : Int) < (k : Int) := by omega
        obtain ⟨c9, hc9⟩ : ∃ a, cc + 1 = a := ⟨_, rfl⟩
        have f7 : (cc : Int) + 1 = (c9 : Int) := by omega
        have f8 : IntKind.i64.wrap (c9 : Int) = (c9 : Int) := by rw [IntKind.wrap_i64]; omega
        rw [hc9] at hc1
        clear hc0 hy
        by_cases hxy : x < y
        · have g1 : decide ((y : Int) > (x : Int)) = true := decide_eq_true (by omega)
          have g2 : decide ((x : Int) < (y : Int)) = true := decide_eq_true (by omega)
          have g3 : decide (x < y) = true := decide_eq_true (by omega)
          have hcz := hcy hxy
          have g4 : decide ((cc : Int) > 0) = false := decide_eq_false (by omega)
          have g5 : decide (0 < (cc : Int)) = false := decide_eq_false (by omega)
          have g6 : decide (0 < cc) = false := decide_eq_false (by omega)
          clear hcz
          clear hcy
          by_cases hck1 : c9 < k
          · have g7 : decide ((c9 : Int) < (k : Int)) = true := decide_eq_true (by omega)
            have g8 : decide (c9 < k) = true := decide_eq_true hck1
            have g9 : (c9 : Int) < (k : Int) := by omega
            obtain ⟨z1, hz1⟩ : ∃ z, L[c9]? = some z := ⟨_, List.getElem?_eq_getElem (by have := HK.out.2.1; omega)⟩
            have hxz := hc1 z1 hz1
            have c2 := RN.rk.cell c9 _ (uvs_get hz1)
            have i1 : decide ((z1 : Int) ≤ (x : Int)) = false := decide_eq_false (by omega)
            have i2 : decide (z1 ≤ x) = false := decide_eq_false (by omega)
            have HC9 := mkHid (And.intro hc9 hxz)
            clear hz1 hc1 hc9 hxz
            go_wp2_with fail
            clear f1 f1' f1q f2 f3 f4 f5 f6 f7 f8 g1 g2 g3 g7 g8 g9 i1 i2 c1 c2
            obtain ⟨z, hz⟩ : ∃ z, O[p]? = some z := ⟨_, List.getElem?_eq_getElem (by have := HK.out.2.2.1; omega)⟩
            obtain ⟨V1, hV1⟩ : ∃ y, sub O 0 p ++ ([7] ++ sub O (p + 1) k) = y := ⟨_, rfl⟩
            have hsf := set_facts HK.out.2.1 HK.out.2.2.1 hlt hq hz hV1
            have HSF := mkHid (And.intro hsf (And.intro hV1 hz))
            clear hsf hV1 hz
            refine (set_as (some ⟨xb, xo, none⟩) kc va vc L O k p x 7 L V1 w4 RN HK.out.2.1 HK.out.2.2.1 hlt (by omega) HSF.out.1.1 HSF.out.2.1).mono ?_
            rintro e u5 ⟨⟨ra, rc, rb, rd, rfl, RM⟩, gc⟩
            obtain ⟨w5, hw5⟩ : ∃ x, x = (u5.alloc (.cells #[.bool false, .slice ra k rc, .slice rb k rd] 24)) := ⟨_, rfl⟩
            have gu : Chg [] u5 w5 := by rw [hw5]; exact Chg.alloc [] _ _
            have gn := gc.then gu
            replace BN := BN.keep gn
            replace RN := RN.keep gn
            replace G := G.then gn
            have BM : Bx w5 (u5.heap.size) (.bool false) (.slice ra k rc) (.slice rb k rd) := by rw [hw5]; exact ⟨by simp [go_sem], by simp [go_sem], by simp [go_sem]⟩
            replace RM := RM.keep gu
            clear gc gu gn
            have hw5' := hw5.symm
            clear hw5
            go_wp2_with fail
            clear hw5'
            generalize u5.heap.size = mb at *
            obtain ⟨yb, yo, rfl, cy, _⟩ := reads_lt RM.rv p _ (uvs_get HSF.out.1.2.2.1)
            obtain ⟨zb, zo, rfl, cz, _⟩ := reads_lt RN.rv p _ (uvs_get HSF.out.2.2)
            have b1 : ((k : Int) == (k : Int)) = true := by simp
            have hlt2 : (p : Int) < (k : Int) := by omega
            refine wp_region_held_drew (S := fun u => u.cell? ⟨mb, 0, none⟩ = some (.bool false) ∧ u.cell? ⟨mb, 1, none⟩ = some (.slice ra k rc) ∧ u.cell? ⟨mb, 2, none⟩ = some (.slice (some ⟨yb, yo, none⟩) k rd) ∧ u.cell? ⟨nb, 0, none⟩ = some (.bool false) ∧ u.cell? ⟨nb, 1, none⟩ = some (.slice (some ⟨xb, xo, none⟩) k kc) ∧ u.cell? ⟨nb, 2, none⟩ = some (.slice (some ⟨zb, zo, none⟩) k vc) ∧ u.cell? ⟨yb, yo + p, none⟩ = some (.int .u64 ((7 : Nat) : Int)) ∧ u.cell? ⟨zb, zo + p, none⟩ = some (.int .u64 (z : Int)) ∧ Chg [] w5 u) (by kernel_rfl) ?_ (fun hH => ?_)
            · exact ⟨(Chg.drew [] _).cellv BM.c0 (by simp), (Chg.drew [] _).cellv BM.c1 (by simp), (Chg.drew [] _).cellv BM.c2 (by simp), (Chg.drew [] _).cellv BN.c0 (by simp), (Chg.drew [] _).cellv BN.c1 (by simp), (Chg.drew [] _).cellv BN.c2 (by simp), (Chg.drew [] _).cellv cy (by simp), (Chg.drew [] _).cellv cz (by simp), Chg.drew [] _⟩
            refine wpAnyH_take (i := 0) (oi := { dst := some 125, op := _, type := _, pos := _, after := _, guard := none }) (v := ?_) rfl (by kernel_rfl) (by kernel_rfl) (by kernel_rfl) (fun _ _ _ h => h) (Or.inl ⟨by rfl, ?_⟩) hH ?_
            rotate_left
            · intro u hSu
              try dsimp only at hSu
              go_simp
              try with_reducible rfl
            try simp only [Act.put, List.setIfInBounds_toArray, List.set_cons_zero, List.set_cons_succ]
            refine wpAnyH_take (i := 1) (oi := { dst := some 126, op := _, type := _, pos := _, after := _, guard := none }) (v := ?_) rfl (by kernel_rfl) (by kernel_rfl) (by kernel_rfl) (fun _ _ _ h => h) (Or.inl ⟨by rfl, ?_⟩) hH ?_
            rotate_left
            · intro u hSu
              try dsimp only at hSu
              go_simp
              try with_reducible rfl
            try simp only [Act.put, List.setIfInBounds_toArray, List.set_cons_zero, List.set_cons_succ]
            refine wpAnyH_take (i := 2) (oi := { dst := some 127, op := _, type := _, pos := _, after := _, guard := none }) (v := ?_) rfl (by kernel_rfl) (by kernel_rfl) (by kernel_rfl) (fun _ _ _ h => h) (Or.inl ⟨by rfl, ?_⟩) hH ?_
            rotate_left
            · intro u hSu
              try dsimp only at hSu
              go_simp
              try with_reducible rfl
            try simp only [Act.put, List.setIfInBounds_toArray, List.set_cons_zero, List.set_cons_succ]
            refine wpAnyH_take (i := 3) (oi := { dst := some 128, op := _, type := _, pos := _, after := _, guard := none }) (v := ?_) rfl (by kernel_rfl) (by kernel_rfl) (by kernel_rfl) (fun _ _ _ h => h) (Or.inl ⟨by rfl, ?_⟩) hH ?_
            rotate_left
            · intro u hSu
              try dsimp only at hSu
              go_simp
              try with_reducible rfl
            try simp only [Act.put, List.setIfInBounds_toArray, List.set_cons_zero, List.set_cons_succ]
            refine wpAnyH_take (i := 4) (oi := { dst := some 129, op := _, type := _, pos := _, after := _, guard := none }) (v := ?_) rfl (by kernel_rfl) (by kernel_rfl) (by kernel_rfl) (fun _ _ _ h => h) (Or.inl ⟨by rfl, ?_⟩) hH ?_
            rotate_left
            · intro u hSu
              try dsimp only at hSu
              go_simp
              try with_reducible rfl
            try simp only [Act.put, List.setIfInBounds_toArray, List.set_cons_zero, List.set_cons_succ]
            refine wpAnyH_take (i := 5) (oi := { dst := some 130, op := _, type := _, pos := _, after := _, guard := none }) (v := ?_) rfl (by kernel_rfl) (by kernel_rfl) (by kernel_rfl) (fun _ _ _ h => h) (Or.inl ⟨by rfl, ?_⟩) hH ?_
            rotate_left
            · intro u hSu
              try dsimp only at hSu
              go_simp
              try with_reducible rfl
            try simp only [Act.put, List.setIfInBounds_toArray, List.set_cons_zero, List.set_cons_succ]
            refine wpAnyH_take (i := 6) (oi := { dst := some 131, op := _, type := _, pos := _, after := _, guard := none }) (v := ?_) rfl (by kernel_rfl) (by kernel_rfl) (by kernel_rfl) (fun _ _ _ h => h) (Or.inl ⟨by rfl, ?_⟩) hH ?_
            rotate_left
            · intro u hSu
              try dsimp only at hSu
              go_simp
              try with_reducible rfl
            try simp only [Act.put, List.setIfInBounds_toArray, List.set_cons_zero, List.set_cons_succ]
            refine wpAnyH_take (i := 7) (oi := { dst := some 132, op := _, type := _, pos := _, after := _, guard := some (6, true) }) (v := ?_) rfl (by kernel_rfl) (by kernel_rfl) (by kernel_rfl) (fun _ _ _ h => h) (Or.inl ⟨by rfl, ?_⟩) hH ?_
            rotate_left
            · intro u hSu
              try dsimp only at hSu
              go_simp
              try with_reducible rfl
            try simp only [Act.put, List.setIfInBounds_toArray, List.set_cons_zero, List.set_cons_succ]
            refine wpAnyH_take (i := 8) (oi := { dst := some 133, op := _, type := _, pos := _, after := _, guard := some (6, true) }) (v := ?_) rfl (by kernel_rfl) (by kernel_rfl) (by kernel_rfl) (fun _ _ _ h => h) (Or.inl ⟨by rfl, ?_⟩) hH ?_
            rotate_left
            · intro u hSu
              try dsimp only at hSu
              go_simp
              try with_reducible rfl
            try simp only [Act.put, List.setIfInBounds_toArray, List.set_cons_zero, List.set_cons_succ]
            refine wpAnyH_take (i := 9) (oi := { dst := some 134, op := _, type := _, pos := _, after := _, guard := some (6, true) }) (v := ?_) rfl (by kernel_rfl) (by kernel_rfl) (by kernel_rfl) (fun _ _ _ h => h) (Or.inl ⟨by rfl, ?_⟩) hH ?_
            rotate_left
            · intro u hSu
              try dsimp only at hSu
              go_simp
              try with_reducible rfl
            try simp only [Act.put, List.setIfInBounds_toArray, List.set_cons_zero, List.set_cons_succ]
            refine wpAnyH_take (i := 10) (oi := { dst := some 135, op := _, type := _, pos := _, after := _, guard := some (6, true) }) (v := ?_) rfl (by kernel_rfl) (by kernel_rfl) (by kernel_rfl) (fun _ _ _ h => h) (Or.inl ⟨by rfl, ?_⟩) hH ?_
            rotate_left
            · intro u hSu
              try dsimp only at hSu
              go_simp
              try with_reducible rfl
            try simp only [Act.put, List.setIfInBounds_toArray, List.set_cons_zero, List.set_cons_succ]
            refine wpAnyH_take (i := 11) (oi := { dst := some 136, op := _, type := _, pos := _, after := _, guard := some (6, true) }) (v := ?_) rfl (by kernel_rfl) (by kernel_rfl) (by kernel_rfl) (fun _ _ _ h => h) (Or.inl ⟨by rfl, ?_⟩) hH ?_
            rotate_left
            · intro u hSu
              try dsimp only at hSu
              go_simp
              try with_reducible rfl
            try simp only [Act.put, List.setIfInBounds_toArray, List.set_cons_zero, List.set_cons_succ]
            refine wpAnyH_take (i := 12) (oi := { dst := some 137, op := _, type := _, pos := _, after := _, guard := some (6, true) }) (v := ?_) rfl (by kernel_rfl) (by kernel_rfl) (by kernel_rfl) (fun _ _ _ h => h) (Or.inl ⟨by rfl, ?_⟩) hH ?_
            rotate_left
            · intro u hSu
              try dsimp only at hSu
              go_simp
              try with_reducible rfl
            try simp only [Act.put, List.setIfInBounds_toArray, List.set_cons_zero, List.set_cons_succ]
            refine wpAnyH_take (i := 13) (oi := { dst := some 138, op := _, type := _, pos := _, after := _, guard := some (6, true) }) (v := ?_) rfl (by kernel_rfl) (by kernel_rfl) (by kernel_rfl) (fun _ _ _ h => h) (Or.inl ⟨by rfl, ?_⟩) hH ?_
            rotate_left
            · intro u hSu
              try dsimp only at hSu
              go_simp
              try with_reducible rfl
            try simp only [Act.put, List.setIfInBounds_toArray, List.set_cons_zero, List.set_cons_succ]
            refine wpAnyH_take (i := 14) (oi := { dst := some 139, op := _, type := _, pos := _, after := _, guard := none }) (v := ?_) rfl (by kernel_rfl) (by kernel_rfl) (by kernel_rfl) (fun _ _ _ h => h) (Or.inl ⟨by rfl, ?_⟩) hH ?_
            rotate_left
            · intro u hSu
              try dsimp only at hSu
              go_simp
              try with_reducible rfl
            try simp only [Act.put, List.setIfInBounds_toArray, List.set_cons_zero, List.set_cons_succ]
            refine wpAnyH_take (i := 15) (oi := { dst := some 140, op := _, type := _, pos := _, after := _, guard := none }) (v := ?_) rfl (by kernel_rfl) (by kernel_rfl) (by kernel_rfl) (fun _ _ _ h => h) (Or.inl ⟨by rfl, ?_⟩) hH ?_
            rotate_left
            · intro u hSu
              try dsimp only at hSu
              go_simp
              try with_reducible rfl
            try simp only [Act.put, List.setIfInBounds_toArray, List.set_cons_zero, List.set_cons_succ]
            refine wpAnyH_take (i := 16) (oi := { dst := some 141, op := _, type := _, pos := _, after := _, guard := some (15, true) }) (v := ?_) rfl (by kernel_rfl) (by kernel_rfl) (by kernel_rfl) (fun _ _ _ h => h) (Or.inl ⟨by rfl, ?_⟩) hH ?_
            rotate_left
            · intro u hSu
              try dsimp only at hSu
              go_simp
              try with_reducible rfl
            try simp only [Act.put, List.setIfInBounds_toArray, List.set_cons_zero, List.set_cons_succ]
            refine wpAnyH_take (i := 17) (oi := { dst := some 142, op := _, type := _, pos := _, after := _, guard := some (15, true) }) (v := ?_) rfl (by kernel_rfl) (by kernel_rfl) (by kernel_rfl) (fun _ _ _ h => h) (Or.inl ⟨by rfl, ?_⟩) hH ?_
            rotate_left
            · intro u hSu
              try dsimp only at hSu
              go_simp
              try with_reducible rfl
            try simp only [Act.put, List.setIfInBounds_toArray, List.set_cons_zero, List.set_cons_succ]
            refine wpAnyH_take (i := 18) (oi := { dst := some 143, op := _, type := _, pos := _, after := _, guard := some (15, true) }) (v := ?_) rfl (by kernel_rfl) (by kernel_rfl) (by kernel_rfl) (fun _ _ _ h => h) (Or.inl ⟨by rfl, ?_⟩) hH ?_
            rotate_left
            · intro u hSu
              try dsimp only at hSu
              go_simp
              try with_reducible rfl
            try simp only [Act.put, List.setIfInBounds_toArray, List.set_cons_zero, List.set_cons_succ]
            refine wpAnyH_take (i := 19) (oi := { dst := some 144, op := _, type := _, pos := _, after := _, guard := some (15, true) }) (v := ?_) rfl (by kernel_rfl) (by kernel_rfl) (by kernel_rfl) (fun _ _ _ h => h) (Or.inl ⟨by rfl, ?_⟩) hH ?_
            rotate_left
            · intro u hSu
              try dsimp only at hSu
              go_simp
              try with_reducible rfl
            try simp only [Act.put, List.setIfInBounds_toArray, List.set_cons_zero, List.set_cons_succ]
            refine wpAnyH_take (i := 20) (oi := { dst := some 145, op := _, type := _, pos := _, after := _, guard := some (15, true) }) (v := ?_) rfl (by kernel_rfl) (by kernel_rfl) (by kernel_rfl) (fun _ _ _ h => h) (Or.inl ⟨by rfl, ?_⟩) hH ?_
            rotate_left
            · intro u hSu
              try dsimp only at hSu
              go_simp
              try with_reducible rfl
            try simp only [Act.put, List.setIfInBounds_toArray, List.set_cons_zero, List.set_cons_succ]
            refine wpAnyH_take (i := 21) (oi := { dst := some 146, op := _, type := _, pos := _, after := _, guard := some (15, true) }) (v := ?_) rfl (by kernel_rfl) (by kernel_rfl) (by kernel_rfl) (fun _ _ _ h => h) (Or.inl ⟨by rfl, ?_⟩) hH ?_
            rotate_left
            · intro u hSu
              try dsimp only at hSu
              go_simp
              try with_reducible rfl
            try simp only [Act.put, List.setIfInBounds_toArray, List.set_cons_zero, List.set_cons_succ]
            refine wpAnyH_take (i := 22) (oi := { dst := some 147, op := _, type := _, pos := _, after := _, guard := some (15, true) }) (v := ?_) rfl (by kernel_rfl) (by kernel_rfl) (by kernel_rfl) (fun _ _ _ h => h) (Or.inl ⟨by rfl, ?_⟩) hH ?_
            rotate_left
            · intro u hSu
              try dsimp only at hSu
              go_simp
              try with_reducible rfl
            try simp only [Act.put, List.setIfInBounds_toArray, List.set_cons_zero, List.set_cons_succ]
            refine wpAnyH_take (i := 23) (oi := { dst := some 148, op := _, type := _, pos := _, after := _, guard := some (15, true) }) (v := ?_) rfl (by kernel_rfl) (by kernel_rfl) (by kernel_rfl) (fun _ _ _ h => h) (Or.inl ⟨by rfl, ?_⟩) hH ?_
            rotate_left
            · intro u hSu
              try dsimp only at hSu
              go_simp
              try with_reducible rfl
            try simp only [Act.put, List.setIfInBounds_toArray, List.set_cons_zero, List.set_cons_succ]
            refine wpAnyH_take (i := 25) (oi := { dst := some 150, op := _, type := _, pos := _, after := _, guard := some (15, true) }) (v := ?_) rfl (by kernel_rfl) (by kernel_rfl) (by kernel_rfl) (fun _ _ _ h => h) (Or.inl ⟨by rfl, ?_⟩) hH ?_
            rotate_left
            · intro u hSu
              try dsimp only at hSu
              go_simp
              try with_reducible rfl
            try simp only [Act.put, List.setIfInBounds_toArray, List.set_cons_zero, List.set_cons_succ]
            refine wpAnyH_ready (rs := [24]) (by kernel_rfl) (by simp) ?_
            refine AllReadyH.cons (o := { dst := some 149, op := _, type := _, pos := _, after := _, guard := some (15, true) }) rfl (fun K hK => ?_) AllReadyH.nil
            go_simp
            refine (set_as ra rc (some ⟨yb, yo, none⟩) rd L V1 k p x z L O _ (RM.keep (chgOf8 hH)) HK.out.2.1 HSF.out.1.2.1 hlt (by omega) HSF.out.1.1 HSF.out.1.2.2.2).mono ?_
            rintro e u24 ⟨⟨sa, sc, sb2, sd, rfl, RS⟩, g24⟩
            have hS24 := hold8 hH g24
            clear hH
            refine hK.out _ _ hS24 (fun hH => ?_)
            clear hK K
            try simp only [Act.put, List.setIfInBounds_toArray, List.set_cons_zero, List.set_cons_succ]
            refine wpAnyH_ready (rs := [26]) (by kernel_rfl) (by simp) ?_
            refine AllReadyH.cons (o := { dst := some 151, op := _, type := _, pos := _, after := _, guard := some (15, true) }) rfl (fun K hK => ?_) AllReadyH.nil
            go_simp
            refine (same_as false sa sc sb2 sd (some ⟨xb, xo, none⟩) kc (some ⟨zb, zo, none⟩) vc L O k k _ RS (RN.keep (chgOf8 hH)) HK.out.2.1 HK.out.2.2.1).mono ?_
            rintro e u26 ⟨rfl, g26⟩
            have hS26 := hold8 hH g26
            clear hH
            refine hK.out _ _ hS26 (fun hH => ?_)
            clear hK K
            try simp only [Act.put, List.setIfInBounds_toArray, List.set_cons_zero, List.set_cons_succ]
            refine wpAnyH_take (i := 27) (oi := { dst := some 152, op := _, type := _, pos := _, after := _, guard := none }) (v := ?_) rfl (by kernel_rfl) (by kernel_rfl) (by kernel_rfl) (fun _ _ _ h => h) (Or.inl ⟨by rfl, ?_⟩) hH ?_
            rotate_left
            · intro u hSu
              try dsimp only at hSu
              go_simp
              try with_reducible rfl
            try simp only [Act.put, List.setIfInBounds_toArray, List.set_cons_zero, List.set_cons_succ]
            refine wpAnyH_take (i := 28) (oi := { dst := some 4, op := _, type := _, pos := _, after := _, guard := none }) (v := ?_) rfl (by kernel_rfl) (by kernel_rfl) (by kernel_rfl) (fun _ _ _ h => h) (Or.inl ⟨by rfl, ?_⟩) hH ?_
            rotate_left
            · intro u hSu
              try dsimp only at hSu
              go_simp
              try with_reducible rfl
            try simp only [Act.put, List.setIfInBounds_toArray, List.set_cons_zero, List.set_cons_succ]
            refine wpAnyH_done (by kernel_rfl) ?_ _
            have gE := chgOf8 hS26
            go_wp2_with fail
            go_ret
            exact ⟨rfl, hw0 ▸ G.then gE⟩
          · have g7 : decide ((c9 : Int) < (k : Int)) = false := decide_eq_false (by omega)
            have g8 : decide (c9 < k) = false := decide_eq_false hck1
            have HC9 := mkHid hc9
            clear hc1 hc9
            go_wp2_with fail
            clear f1 f1' f1q f2 f3 f4 f5 f6 f7 f8 g1 g2 g3 g7 g8 c1
            obtain ⟨z, hz⟩ : ∃ z, O[p]? = some z := ⟨_, List.getElem?_eq_getElem (by have := HK.out.2.2.1; omega)⟩
            obtain ⟨V1, hV1⟩ : ∃ y, sub O 0 p ++ ([7] ++ sub O (p + 1) k) = y := ⟨_, rfl⟩
            have hsf := set_facts HK.out.2.1 HK.out.2.2.1 hlt hq hz hV1
            have HSF := mkHid (And.intro hsf (And.intro hV1 hz))
            clear hsf hV1 hz
            refine (set_as (some ⟨xb, xo, none⟩) kc va vc L O k p x 7 L V1 w4 RN HK.out.2.1 HK.out.2.2.1 hlt (by omega) HSF.out.1.1 HSF.out.2.1).mono ?_
            rintro e u5 ⟨⟨ra, rc, rb, rd, rfl, RM⟩, gc⟩
            obtain ⟨w5, hw5⟩ : ∃ x, x = (u5.alloc (.cells #[.bool false, .slice ra k rc, .slice rb k rd] 24)) := ⟨_, rfl⟩
            have gu : Chg [] u5 w5 := by rw [hw5]; exact Chg.alloc [] _ _
            have gn := gc.then gu
            replace BN := BN.keep gn
            replace RN := RN.keep gn
            replace G := G.then gn
            have BM : Bx w5 (u5.heap.size) (.bool false) (.slice ra k rc) (.slice rb k rd) := by rw [hw5]; exact ⟨by simp [go_sem], by simp [go_sem], by simp [go_sem]⟩
            replace RM := RM.keep gu
            clear gc gu gn
            have hw5' := hw5.symm
            clear hw5
            go_wp2_with fail
            clear hw5'
            generalize u5.heap.size = mb at *
            obtain ⟨yb, yo, rfl, cy, _⟩ := reads_lt RM.rv p _ (uvs_get HSF.out.1.2.2.1)
            obtain ⟨zb, zo, rfl, cz, _⟩ := reads_lt RN.rv p _ (uvs_get HSF.out.2.2)
            have b1 : ((k : Int) == (k : Int)) = true := by simp
            have hlt2 : (p : Int) < (k : Int) := by omega
            refine wp_region_held_drew (S := fun u => u.cell? ⟨mb, 0, none⟩ = some (.bool false) ∧ u.cell? ⟨mb, 1, none⟩ = some (.slice ra k rc) ∧ u.cell? ⟨mb, 2, none⟩ = some (.slice (some ⟨yb, yo, none⟩) k rd) ∧ u.cell? ⟨nb, 0, none⟩ = some (.bool false) ∧ u.cell? ⟨nb, 1, none⟩ = some (.slice (some ⟨xb, xo, none⟩) k kc) ∧ u.cell? ⟨nb, 2, none⟩ = some (.slice (some ⟨zb, zo, none⟩) k vc) ∧ u.cell? ⟨yb, yo + p, none⟩ = some (.int .u64 ((7 : Nat) : Int)) ∧ u.cell? ⟨zb, zo + p, none⟩ = some (.int .u64 (z : Int)) ∧ Chg [] w5 u) (by kernel_rfl) ?_ (fun hH => ?_)
            · exact ⟨(Chg.drew [] _).cellv BM.c0 (by simp), (Chg.drew [] _).cellv BM.c1 (by simp), (Chg.drew [] _).cellv BM.c2 (by simp), (Chg.drew [] _).cellv BN.c0 (by simp), (Chg.drew [] _).cellv BN.c1 (by simp), (Chg.drew [] _).cellv BN.c2 (by simp), (Chg.drew [] _).cellv cy (by simp), (Chg.drew [] _).cellv cz (by simp), Chg.drew [] _⟩
            refine wpAnyH_take (i := 0) (oi := { dst := some 125, op := _, type := _, pos := _, after := _, guard := none }) (v := ?_) rfl (by kernel_rfl) (by kernel_rfl) (by kernel_rfl) (fun _ _ _ h => h) (Or.inl ⟨by rfl, ?_⟩) hH ?_
            rotate_left
            · intro u hSu
              try dsimp only at hSu
              go_simp
              try with_reducible rfl
            try simp only [Act.put, List.setIfInBounds_toArray, List.set_cons_zero, List.set_cons_succ]
            refine wpAnyH_take (i := 1) (oi := { dst := some 126, op := _, type := _, pos := _, after := _, guard := none }) (v := ?_) rfl (by kernel_rfl) (by kernel_rfl) (by kernel_rfl) (fun _ _ _ h => h) (Or.inl ⟨by rfl, ?_⟩) hH ?_
            rotate_left
            · intro u hSu
              try dsimp only at hSu
              go_simp
              try with_reducible rfl
            try simp only [Act.put, List.setIfInBounds_toArray, List.set_cons_zero, List.set_cons_succ]
            refine wpAnyH_take (i := 2) (oi := { dst := some 127, op := _, type := _, pos := _, after := _, guard := none }) (v := ?_) rfl (by kernel_rfl) (by kernel_rfl) (by kernel_rfl) (fun _ _ _ h => h) (Or.inl ⟨by rfl, ?_⟩) hH ?_
            rotate_left
            · intro u hSu
              try dsimp only at hSu
              go_simp
              try with_reducible rfl
            try simp only [Act.put, List.setIfInBounds_toArray, List.set_cons_zero, List.set_cons_succ]
            refine wpAnyH_take (i := 3) (oi := { dst := some 128, op := _, type := _, pos := _, after := _, guard := none }) (v := ?_) rfl (by kernel_rfl) (by kernel_rfl) (by kernel_rfl) (fun _ _ _ h => h) (Or.inl ⟨by rfl, ?_⟩) hH ?_
            rotate_left
            · intro u hSu
              try dsimp only at hSu
              go_simp
              try with_reducible rfl
            try simp only [Act.put, List.setIfInBounds_toArray, List.set_cons_zero, List.set_cons_succ]
            refine wpAnyH_take (i := 4) (oi := { dst := some 129, op := _, type := _, pos := _, after := _, guard := none }) (v := ?_) rfl (by kernel_rfl) (by kernel_rfl) (by kernel_rfl) (fun _ _ _ h => h) (Or.inl ⟨by rfl, ?_⟩) hH ?_
            rotate_left
            · intro u hSu
              try dsimp only at hSu
              go_simp
              try with_reducible rfl
            try simp only [Act.put, List.setIfInBounds_toArray, List.set_cons_zero, List.set_cons_succ]
            refine wpAnyH_take (i := 5) (oi := { dst := some 130, op := _, type := _, pos := _, after := _, guard := none }) (v := ?_) rfl (by kernel_rfl) (by kernel_rfl) (by kernel_rfl) (fun _ _ _ h => h) (Or.inl ⟨by rfl, ?_⟩) hH ?_
            rotate_left
            · intro u hSu
              try dsimp only at hSu
              go_simp
              try with_reducible rfl
            try simp only [Act.put, List.setIfInBounds_toArray, List.set_cons_zero, List.set_cons_succ]
            refine wpAnyH_take (i := 6) (oi := { dst := some 131, op := _, type := _, pos := _, after := _, guard := none }) (v := ?_) rfl (by kernel_rfl) (by kernel_rfl) (by kernel_rfl) (fun _ _ _ h => h) (Or.inl ⟨by rfl, ?_⟩) hH ?_
            rotate_left
            · intro u hSu
              try dsimp only at hSu
              go_simp
              try with_reducible rfl
            try simp only [Act.put, List.setIfInBounds_toArray, List.set_cons_zero, List.set_cons_succ]
            refine wpAnyH_take (i := 7) (oi := { dst := some 132, op := _, type := _, pos := _, after := _, guard := some (6, true) }) (v := ?_) rfl (by kernel_rfl) (by kernel_rfl) (by kernel_rfl) (fun _ _ _ h => h) (Or.inl ⟨by rfl, ?_⟩) hH ?_
            rotate_left
            · intro u hSu
              try dsimp only at hSu
              go_simp
              try with_reducible rfl
            try simp only [Act.put, List.setIfInBounds_toArray, List.set_cons_zero, List.set_cons_succ]
            refine wpAnyH_take (i := 8) (oi := { dst := some 133, op := _, type := _, pos := _, after := _, guard := some (6, true) }) (v := ?_) rfl (by kernel_rfl) (by kernel_rfl) (by kernel_rfl) (fun _ _ _ h => h) (Or.inl ⟨by rfl, ?_⟩) hH ?_
            rotate_left
            · intro u hSu
              try dsimp only at hSu
              go_simp
              try with_reducible rfl
            try simp only [Act.put, List.setIfInBounds_toArray, List.set_cons_zero, List.set_cons_succ]
            refine wpAnyH_take (i := 9) (oi := { dst := some 134, op := _, type := _, pos := _, after := _, guard := some (6, true) }) (v := ?_) rfl (by kernel_rfl) (by kernel_rfl) (by kernel_rfl) (fun _ _ _ h => h) (Or.inl ⟨by rfl, ?_⟩) hH ?_
            rotate_left
            · intro u hSu
              try dsimp only at hSu
              go_simp
              try with_reducible rfl
            try simp only [Act.put, List.setIfInBounds_toArray, List.set_cons_zero, List.set_cons_succ]
            refine wpAnyH_take (i := 10) (oi := { dst := some 135, op := _, type := _, pos := _, after := _, guard := some (6, true) }) (v := ?_) rfl (by kernel_rfl) (by kernel_rfl) (by kernel_rfl) (fun _ _ _ h => h) (Or.inl ⟨by rfl, ?_⟩) hH ?_
            rotate_left
            · intro u hSu
              try dsimp only at hSu
              go_simp
              try with_reducible rfl
            try simp only [Act.put, List.setIfInBounds_toArray, List.set_cons_zero, List.set_cons_succ]
            refine wpAnyH_take (i := 11) (oi := { dst := some 136, op := _, type := _, pos := _, after := _, guard := some (6, true) }) (v := ?_) rfl (by kernel_rfl) (by kernel_rfl) (by kernel_rfl) (fun _ _ _ h => h) (Or.inl ⟨by rfl, ?_⟩) hH ?_
            rotate_left
            · intro u hSu
              try dsimp only at hSu
              go_simp
              try with_reducible rfl
            try simp only [Act.put, List.setIfInBounds_toArray, List.set_cons_zero, List.set_cons_succ]
            refine wpAnyH_take (i := 12) (oi := { dst := some 137, op := _, type := _, pos := _, after := _, guard := some (6, true) }) (v := ?_) rfl (by kernel_rfl) (by kernel_rfl) (by kernel_rfl) (fun _ _ _ h => h) (Or.inl ⟨by rfl, ?_⟩) hH ?_
            rotate_left
            · intro u hSu
              try dsimp only at hSu
              go_simp
              try with_reducible rfl
            try simp only [Act.put, List.setIfInBounds_toArray, List.set_cons_zero, List.set_cons_succ]
            refine wpAnyH_take (i := 13) (oi := { dst := some 138, op := _, type := _, pos := _, after := _, guard := some (6, true) }) (v := ?_) rfl (by kernel_rfl) (by kernel_rfl) (by kernel_rfl) (fun _ _ _ h => h) (Or.inl ⟨by rfl, ?_⟩) hH ?_
            rotate_left
            · intro u hSu
              try dsimp only at hSu
              go_simp
              try with_reducible rfl
            try simp only [Act.put, List.setIfInBounds_toArray, List.set_cons_zero, List.set_cons_succ]
            refine wpAnyH_take (i := 14) (oi := { dst := some 139, op := _, type := _, pos := _, after := _, guard := none }) (v := ?_) rfl (by kernel_rfl) (by kernel_rfl) (by kernel_rfl) (fun _ _ _ h => h) (Or.inl ⟨by rfl, ?_⟩) hH ?_
            rotate_left
            · intro u hSu
              try dsimp only at hSu
              go_simp
              try with_reducible rfl
            try simp only [Act.put, List.setIfInBounds_toArray, List.set_cons_zero, List.set_cons_succ]
            refine wpAnyH_take (i := 15) (oi := { dst := some 140, op := _, type := _, pos := _, after := _, guard := none }) (v := ?_) rfl (by kernel_rfl) (by kernel_rfl) (by kernel_rfl) (fun _ _ _ h => h) (Or.inl ⟨by rfl, ?_⟩) hH ?_
            rotate_left
            · intro u hSu
              try dsimp only at hSu
              go_simp
              try with_reducible rfl
            try simp only [Act.put, List.setIfInBounds_toArray, List.set_cons_zero, List.set_cons_succ]
            refine wpAnyH_take (i := 16) (oi := { dst := some 141, op := _, type := _, pos := _, after := _, guard := some (15, true) }) (v := ?_) rfl (by kernel_rfl) (by kernel_rfl) (by kernel_rfl) (fun _ _ _ h => h) (Or.inl ⟨by rfl, ?_⟩) hH ?_
            rotate_left
            · intro u hSu
              try dsimp only at hSu
              go_simp
              try with_reducible rfl
            try simp only [Act.put, List.setIfInBounds_toArray, List.set_cons_zero, List.set_cons_succ]
            refine wpAnyH_take (i := 17) (oi := { dst := some 142, op := _, type := _, pos := _, after := _, guard := some (15, true) }) (v := ?_) rfl (by kernel_rfl) (by kernel_rfl) (by kernel_rfl) (fun _ _ _ h => h) (Or.inl ⟨by rfl, ?_⟩) hH ?_
            rotate_left
            · intro u hSu
              try dsimp only at hSu
              go_simp
              try with_reducible rfl
            try simp only [Act.put, List.setIfInBounds_toArray, List.set_cons_zero, List.set_cons_succ]
            refine wpAnyH_take (i := 18) (oi := { dst := some 143, op := _, type := _, pos := _, after := _, guard := some (15, true) }) (v := ?_) rfl (by kernel_rfl) (by kernel_rfl) (by kernel_rfl) (fun _ _ _ h => h) (Or.inl ⟨by rfl, ?_⟩) hH ?_
            rotate_left
            · intro u hSu
              try dsimp only at hSu
              go_simp
              try with_reducible rfl
            try simp only [Act.put, List.setIfInBounds_toArray, List.set_cons_zero, List.set_cons_succ]
            refine wpAnyH_take (i := 19) (oi := { dst := some 144, op := _, type := _, pos := _, after := _, guard := some (15, true) }) (v := ?_) rfl (by kernel_rfl) (by kernel_rfl) (by kernel_rfl) (fun _ _ _ h => h) (Or.inl ⟨by rfl, ?_⟩) hH ?_
            rotate_left
            · intro u hSu
              try dsimp only at hSu
              go_simp
              try with_reducible rfl
            try simp only [Act.put, List.setIfInBounds_toArray, List.set_cons_zero, List.set_cons_succ]
            refine wpAnyH_take (i := 20) (oi := { dst := some 145, op := _, type := _, pos := _, after := _, guard := some (15, true) }) (v := ?_) rfl (by kernel_rfl) (by kernel_rfl) (by kernel_rfl) (fun _ _ _ h => h) (Or.inl ⟨by rfl, ?_⟩) hH ?_
            rotate_left
            · intro u hSu
              try dsimp only at hSu
              go_simp
              try with_reducible rfl
            try simp only [Act.put, List.setIfInBounds_toArray, List.set_cons_zero, List.set_cons_succ]
            refine wpAnyH_take (i := 21) (oi := { dst := some 146, op := _, type := _, pos := _, after := _, guard := some (15, true) }) (v := ?_) rfl (by kernel_rfl) (by kernel_rfl) (by kernel_rfl) (fun _ _ _ h => h) (Or.inl ⟨by rfl, ?_⟩) hH ?_
            rotate_left
            · intro u hSu
              try dsimp only at hSu
              go_simp
              try with_reducible rfl
            try simp only [Act.put, List.setIfInBounds_toArray, List.set_cons_zero, List.set_cons_succ]
            refine wpAnyH_take (i := 22) (oi := { dst := some 147, op := _, type := _, pos := _, after := _, guard := some (15, true) }) (v := ?_) rfl (by kernel_rfl) (by kernel_rfl) (by kernel_rfl) (fun _ _ _ h => h) (Or.inl ⟨by rfl, ?_⟩) hH ?_
            rotate_left
            · intro u hSu
              try dsimp only at hSu
              go_simp
              try with_reducible rfl
            try simp only [Act.put, List.setIfInBounds_toArray, List.set_cons_zero, List.set_cons_succ]
            refine wpAnyH_take (i := 23) (oi := { dst := some 148, op := _, type := _, pos := _, after := _, guard := some (15, true) }) (v := ?_) rfl (by kernel_rfl) (by kernel_rfl) (by kernel_rfl) (fun _ _ _ h => h) (Or.inl ⟨by rfl, ?_⟩) hH ?_
            rotate_left
            · intro u hSu
              try dsimp only at hSu
              go_simp
              try with_reducible rfl
            try simp only [Act.put, List.setIfInBounds_toArray, List.set_cons_zero, List.set_cons_succ]
            refine wpAnyH_take (i := 25) (oi := { dst := some 150, op := _, type := _, pos := _, after := _, guard := some (15, true) }) (v := ?_) rfl (by kernel_rfl) (by kernel_rfl) (by kernel_rfl) (fun _ _ _ h => h) (Or.inl ⟨by rfl, ?_⟩) hH ?_
            rotate_left
            · intro u hSu
              try dsimp only at hSu
              go_simp
              try with_reducible rfl
            try simp only [Act.put, List.setIfInBounds_toArray, List.set_cons_zero, List.set_cons_succ]
            refine wpAnyH_ready (rs := [24]) (by kernel_rfl) (by simp) ?_
            refine AllReadyH.cons (o := { dst := some 149, op := _, type := _, pos := _, after := _, guard := some (15, true) }) rfl (fun K hK => ?_) AllReadyH.nil
            go_simp
            refine (set_as ra rc (some ⟨yb, yo, none⟩) rd L V1 k p x z L O _ (RM.keep (chgOf8 hH)) HK.out.2.1 HSF.out.1.2.1 hlt (by omega) HSF.out.1.1 HSF.out.1.2.2.2).mono ?_
            rintro e u24 ⟨⟨sa, sc, sb2, sd, rfl, RS⟩, g24⟩
            have hS24 := hold8 hH g24
            clear hH
            refine hK.out _ _ hS24 (fun hH => ?_)
            clear hK K
            try simp only [Act.put, List.setIfInBounds_toArray, List.set_cons_zero, List.set_cons_succ]
            refine wpAnyH_ready (rs := [26]) (by kernel_rfl) (by simp) ?_
            refine AllReadyH.cons (o := { dst := some 151, op := _, type := _, pos := _, after := _, guard := some (15, true) }) rfl (fun K hK => ?_) AllReadyH.nil
            go_simp
            refine (same_as false sa sc sb2 sd (some ⟨xb, xo, none⟩) kc (some ⟨zb, zo, none⟩) vc L O k k _ RS (RN.keep (chgOf8 hH)) HK.out.2.1 HK.out.2.2.1).mono ?_
            rintro e u26 ⟨rfl, g26⟩
            have hS26 := hold8 hH g26
            clear hH
            refine hK.out _ _ hS26 (fun hH => ?_)
            clear hK K
            try simp only [Act.put, List.setIfInBounds_toArray, List.set_cons_zero, List.set_cons_succ]
            refine wpAnyH_take (i := 27) (oi := { dst := some 152, op := _, type := _, pos := _, after := _, guard := none }) (v := ?_) rfl (by kernel_rfl) (by kernel_rfl) (by kernel_rfl) (fun _ _ _ h => h) (Or.inl ⟨by rfl, ?_⟩) hH ?_
            rotate_left
            · intro u hSu
              try dsimp only at hSu
              go_simp
              try with_reducible rfl
            try simp only [Act.put, List.setIfInBounds_toArray, List.set_cons_zero, List.set_cons_succ]
            refine wpAnyH_take (i := 28) (oi := { dst := some 4, op := _, type := _, pos := _, after := _, guard := none }) (v := ?_) rfl (by kernel_rfl) (by kernel_rfl) (by kernel_rfl) (fun _ _ _ h => h) (Or.inl ⟨by rfl, ?_⟩) hH ?_
            rotate_left
            · intro u hSu
              try dsimp only at hSu
              go_simp
              try with_reducible rfl
            try simp only [Act.put, List.setIfInBounds_toArray, List.set_cons_zero, List.set_cons_succ]
            refine wpAnyH_done (by kernel_rfl) ?_ _
            have gE := chgOf8 hS26
            go_wp2_with fail
            go_ret
            exact ⟨rfl, hw0 ▸ G.then gE⟩
        · have g1 : decide ((y : Int) > (x : Int)) = false := decide_eq_false (by omega)
          have g2 : decide ((x : Int) < (y : Int)) = false := decide_eq_false (by omega)
          have g3 : decide (x < y) = false := decide_eq_false (by omega)
          clear hcy
          by_cases hck1 : c9 < k
          · have g7 : decide ((c9 : Int) < (k : Int)) = true := decide_eq_true (by omega)
            have g8 : decide (c9 < k) = true := decide_eq_true hck1
            have g9 : (c9 : Int) < (k : Int) := by omega
            obtain ⟨z1, hz1⟩ : ∃ z, L[c9]? = some z := ⟨_, List.getElem?_eq_getElem (by have := HK.out.2.1; omega)⟩
            have hxz := hc1 z1 hz1
            have c2 := RN.rk.cell c9 _ (uvs_get hz1)
            have i1 : decide ((z1 : Int) ≤ (x : Int)) = false := decide_eq_false (by omega)
            have i2 : decide (z1 ≤ x) = false := decide_eq_false (by omega)
            have HC9 := mkHid (And.intro hc9 hxz)
            clear hz1 hc1 hc9 hxz
            go_wp2_with fail
            clear f1 f1' f1q f2 f3 f4 f5 f6 f7 f8 g1 g2 g3 g7 g8 g9 i1 i2 c1 c2
            obtain ⟨z, hz⟩ : ∃ z, O[p]? = some z := ⟨_, List.getElem?_eq_getElem (by have := HK.out.2.2.1; omega)⟩
            obtain ⟨V1, hV1⟩ : ∃ y, sub O 0 p ++ ([7] ++ sub O (p + 1) k) = y := ⟨_, rfl⟩
            have hsf := set_facts HK.out.2.1 HK.out.2.2.1 hlt hq hz hV1
            have HSF := mkHid (And.intro hsf (And.intro hV1 hz))
            clear hsf hV1 hz
            refine (set_as (some ⟨xb, xo, none⟩) kc va vc L O k p x 7 L V1 w4 RN HK.out.2.1 HK.out.2.2.1 hlt (by omega) HSF.out.1.1 HSF.out.2.1).mono ?_
            rintro e u5 ⟨⟨ra, rc, rb, rd, rfl, RM⟩, gc⟩
            obtain ⟨w5, hw5⟩ : ∃ x, x = (u5.alloc (.cells #[.bool false, .slice ra k rc, .slice rb k rd] 24)) := ⟨_, rfl⟩
            have gu : Chg [] u5 w5 := by rw [hw5]; exact Chg.alloc [] _ _
            have gn := gc.then gu
            replace BN := BN.keep gn
            replace RN := RN.keep gn
            replace G := G.then gn
            have BM : Bx w5 (u5.heap.size) (.bool false) (.slice ra k rc) (.slice rb k rd) := by rw [hw5]; exact ⟨by simp [go_sem], by simp [go_sem], by simp [go_sem]⟩
            replace RM := RM.keep gu
            clear gc gu gn
            have hw5' := hw5.symm
            clear hw5
            go_wp2_with fail
            clear hw5'
            generalize u5.heap.size = mb at *
            obtain ⟨yb, yo, rfl, cy, _⟩ := reads_lt RM.rv p _ (uvs_get HSF.out.1.2.2.1)
            obtain ⟨zb, zo, rfl, cz, _⟩ := reads_lt RN.rv p _ (uvs_get HSF.out.2.2)
            have b1 : ((k : Int) == (k : Int)) = true := by simp
            have hlt2 : (p : Int) < (k : Int) := by omega
            refine wp_region_held_drew (S := fun u => u.cell? ⟨mb, 0, none⟩ = some (.bool false) ∧ u.cell? ⟨mb, 1, none⟩ = some (.slice ra k rc) ∧ u.cell? ⟨mb, 2, none⟩ = some (.slice (some ⟨yb, yo, none⟩) k rd) ∧ u.cell? ⟨nb, 0, none⟩ = some (.bool false) ∧ u.cell? ⟨nb, 1, none⟩ = some (.slice (some ⟨xb, xo, none⟩) k kc) ∧ u.cell? ⟨nb, 2, none⟩ = some (.slice (some ⟨zb, zo, none⟩) k vc) ∧ u.cell? ⟨yb, yo + p, none⟩ = some (.int .u64 ((7 : Nat) : Int)) ∧ u.cell? ⟨zb, zo + p, none⟩ = some (.int .u64 (z : Int)) ∧ Chg [] w5 u) (by kernel_rfl) ?_ (fun hH => ?_)
            · exact ⟨(Chg.drew [] _).cellv BM.c0 (by simp), (Chg.drew [] _).cellv BM.c1 (by simp), (Chg.drew [] _).cellv BM.c2 (by simp), (Chg.drew [] _).cellv BN.c0 (by simp), (Chg.drew [] _).cellv BN.c1 (by simp), (Chg.drew [] _).cellv BN.c2 (by simp), (Chg.drew [] _).cellv cy (by simp), (Chg.drew [] _).cellv cz (by simp), Chg.drew [] _⟩
            refine wpAnyH_take (i := 0) (oi := { dst := some 125, op := _, type := _, pos := _, after := _, guard := none }) (v := ?_) rfl (by kernel_rfl) (by kernel_rfl) (by kernel_rfl) (fun _ _ _ h => h) (Or.inl ⟨by rfl, ?_⟩) hH ?_
            rotate_left
            · intro u hSu
              try dsimp only at hSu
              go_simp
              try with_reducible rfl
            try simp only [Act.put, List.setIfInBounds_toArray, List.set_cons_zero, List.set_cons_succ]
            refine wpAnyH_take (i := 1) (oi := { dst := some 126, op := _, type := _, pos := _, after := _, guard := none }) (v := ?_) rfl (by kernel_rfl) (by kernel_rfl) (by kernel_rfl) (fun _ _ _ h => h) (Or.inl ⟨by rfl, ?_⟩) hH ?_
            rotate_left
            · intro u hSu
              try dsimp only at hSu
              go_simp
              try with_reducible rfl
            try simp only [Act.put, List.setIfInBounds_toArray, List.set_cons_zero, List.set_cons_succ]
            refine wpAnyH_take (i := 2) (oi := { dst := some 127, op := _, type := _, pos := _, after := _, guard := none }) (v := ?_) rfl (by kernel_rfl) (by kernel_rfl) (by kernel_rfl) (fun _ _ _ h => h) (Or.inl ⟨by rfl, ?_⟩) hH ?_
            rotate_left
            · intro u hSu
              try dsimp only at hSu
              go_simp
              try with_reducible rfl
            try simp only [Act.put, List.setIfInBounds_toArray, List.set_cons_zero, List.set_cons_succ]
            refine wpAnyH_take (i := 3) (oi := { dst := some 128, op := _, type := _, pos := _, after := _, guard := none }) (v := ?_) rfl (by kernel_rfl) (by kernel_rfl) (by kernel_rfl) (fun _ _ _ h => h) (Or.inl ⟨by rfl, ?_⟩) hH ?_
            rotate_left
            · intro u hSu
              try dsimp only at hSu
              go_simp
              try with_reducible rfl
            try simp only [Act.put, List.setIfInBounds_toArray, List.set_cons_zero, List.set_cons_succ]
            refine wpAnyH_take (i := 4) (oi := { dst := some 129, op := _, type := _, pos := _, after := _, guard := none }) (v := ?_) rfl (by kernel_rfl) (by kernel_rfl) (by kernel_rfl) (fun _ _ _ h => h) (Or.inl ⟨by rfl, ?_⟩) hH ?_
            rotate_left
            · intro u hSu
              try dsimp only at hSu
              go_simp
              try with_reducible rfl
            try simp only [Act.put, List.setIfInBounds_toArray, List.set_cons_zero, List.set_cons_succ]
            refine wpAnyH_take (i := 5) (oi := { dst := some 130, op := _, type := _, pos := _, after := _, guard := none }) (v := ?_) rfl (by kernel_rfl) (by kernel_rfl) (by kernel_rfl) (fun _ _ _ h => h) (Or.inl ⟨by rfl, ?_⟩) hH ?_
            rotate_left
            · intro u hSu
              try dsimp only at hSu
              go_simp
              try with_reducible rfl
            try simp only [Act.put, List.setIfInBounds_toArray, List.set_cons_zero, List.set_cons_succ]
            refine wpAnyH_take (i := 6) (oi := { dst := some 131, op := _, type := _, pos := _, after := _, guard := none }) (v := ?_) rfl (by kernel_rfl) (by kernel_rfl) (by kernel_rfl) (fun _ _ _ h => h) (Or.inl ⟨by rfl, ?_⟩) hH ?_
            rotate_left
            · intro u hSu
              try dsimp only at hSu
              go_simp
              try with_reducible rfl
            try simp only [Act.put, List.setIfInBounds_toArray, List.set_cons_zero, List.set_cons_succ]
            refine wpAnyH_take (i := 7) (oi := { dst := some 132, op := _, type := _, pos := _, after := _, guard := some (6, true) }) (v := ?_) rfl (by kernel_rfl) (by kernel_rfl) (by kernel_rfl) (fun _ _ _ h => h) (Or.inl ⟨by rfl, ?_⟩) hH ?_
            rotate_left
            · intro u hSu
              try dsimp only at hSu
              go_simp
              try with_reducible rfl
            try simp only [Act.put, List.setIfInBounds_toArray, List.set_cons_zero, List.set_cons_succ]
            refine wpAnyH_take (i := 8) (oi := { dst := some 133, op := _, type := _, pos := _, after := _, guard := some (6, true) }) (v := ?_) rfl (by kernel_rfl) (by kernel_rfl) (by kernel_rfl) (fun _ _ _ h => h) (Or.inl ⟨by rfl, ?_⟩) hH ?_
            rotate_left
            · intro u hSu
              try dsimp only at hSu
              go_simp
              try with_reducible rfl
            try simp only [Act.put, List.setIfInBounds_toArray, List.set_cons_zero, List.set_cons_succ]
            refine wpAnyH_take (i := 9) (oi := { dst := some 134, op := _, type := _, pos := _, after := _, guard := some (6, true) }) (v := ?_) rfl (by kernel_rfl) (by kernel_rfl) (by kernel_rfl) (fun _ _ _ h => h) (Or.inl ⟨by rfl, ?_⟩) hH ?_
            rotate_left
            · intro u hSu
              try dsimp only at hSu
              go_simp
              try with_reducible rfl
            try simp only [Act.put, List.setIfInBounds_toArray, List.set_cons_zero, List.set_cons_succ]
            refine wpAnyH_take (i := 10) (oi := { dst := some 135, op := _, type := _, pos := _, after := _, guard := some (6, true) }) (v := ?_) rfl (by kernel_rfl) (by kernel_rfl) (by kernel_rfl) (fun _ _ _ h => h) (Or.inl ⟨by rfl, ?_⟩) hH ?_
            rotate_left
            · intro u hSu
              try dsimp only at hSu
              go_simp
              try with_reducible rfl
            try simp only [Act.put, List.setIfInBounds_toArray, List.set_cons_zero, List.set_cons_succ]
            refine wpAnyH_take (i := 11) (oi := { dst := some 136, op := _, type := _, pos := _, after := _, guard := some (6, true) }) (v := ?_) rfl (by kernel_rfl) (by kernel_rfl) (by kernel_rfl) (fun _ _ _ h => h) (Or.inl ⟨by rfl, ?_⟩) hH ?_
            rotate_left
            · intro u hSu
              try dsimp only at hSu
              go_simp
              try with_reducible rfl
            try simp only [Act.put, List.setIfInBounds_toArray, List.set_cons_zero, List.set_cons_succ]
            refine wpAnyH_take (i := 12) (oi := { dst := some 137, op := _, type := _, pos := _, after := _, guard := some (6, true) }) (v := ?_) rfl (by kernel_rfl) (by kernel_rfl) (by kernel_rfl) (fun _ _ _ h => h) (Or.inl ⟨by rfl, ?_⟩) hH ?_
            rotate_left
            · intro u hSu
              try dsimp only at hSu
              go_simp
              try with_reducible rfl
            try simp only [Act.put, List.setIfInBounds_toArray, List.set_cons_zero, List.set_cons_succ]
            refine wpAnyH_take (i := 13) (oi := { dst := some 138, op := _, type := _, pos := _, after := _, guard := some (6, true) }) (v := ?_) rfl (by kernel_rfl) (by kernel_rfl) (by kernel_rfl) (fun _ _ _ h => h) (Or.inl ⟨by rfl, ?_⟩) hH ?_
            rotate_left
            · intro u hSu
              try dsimp only at hSu
              go_simp
              try with_reducible rfl
            try simp only [Act.put, List.setIfInBounds_toArray, List.set_cons_zero, List.set_cons_succ]
            refine wpAnyH_take (i := 14) (oi := { dst := some 139, op := _, type := _, pos := _, after := _, guard := none }) (v := ?_) rfl (by kernel_rfl) (by kernel_rfl) (by kernel_rfl) (fun _ _ _ h => h) (Or.inl ⟨by rfl, ?_⟩) hH ?_
            rotate_left
            · intro u hSu
              try dsimp only at hSu
              go_simp
              try with_reducible rfl
            try simp only [Act.put, List.setIfInBounds_toArray, List.set_cons_zero, List.set_cons_succ]
            refine wpAnyH_take (i := 15) (oi := { dst := some 140, op := _, type := _, pos := _, after := _, guard := none }) (v := ?_) rfl (by kernel_rfl) (by kernel_rfl) (by kernel_rfl) (fun _ _ _ h => h) (Or.inl ⟨by rfl, ?_⟩) hH ?_
            rotate_left
            · intro u hSu
              try dsimp only at hSu
              go_simp
              try with_reducible rfl
            try simp only [Act.put, List.setIfInBounds_toArray, List.set_cons_zero, List.set_cons_succ]
            refine wpAnyH_take (i := 16) (oi := { dst := some 141, op := _, type := _, pos := _, after := _, guard := some (15, true) }) (v := ?_) rfl (by kernel_rfl) (by kernel_rfl) (by kernel_rfl) (fun _ _ _ h => h) (Or.inl ⟨by rfl, ?_⟩) hH ?_
            rotate_left
            · intro u hSu
              try dsimp only at hSu
              go_simp
              try with_reducible rfl
            try simp only [Act.put, List.setIfInBounds_toArray, List.set_cons_zero, List.set_cons_succ]
            refine wpAnyH_take (i := 17) (oi := { dst := some 142, op := _, type := _, pos := _, after := _, guard := some (15, true) }) (v := ?_) rfl (by kernel_rfl) (by kernel_rfl) (by kernel_rfl) (fun _ _ _ h => h) (Or.inl ⟨by rfl, ?_⟩) hH ?_
            rotate_left
            · intro u hSu
              try dsimp only at hSu
              go_simp
              try with_reducible rfl
            try simp only [Act.put, List.setIfInBounds_toArray, List.set_cons_zero, List.set_cons_succ]
            refine wpAnyH_take (i := 18) (oi := { dst := some 143, op := _, type := _, pos := _, after := _, guard := some (15, true) }) (v := ?_) rfl (by kernel_rfl) (by kernel_rfl) (by kernel_rfl) (fun _ _ _ h => h) (Or.inl ⟨by rfl, ?_⟩) hH ?_
            rotate_left
            · intro u hSu
              try dsimp only at hSu
              go_simp
              try with_reducible rfl
            try simp only [Act.put, List.setIfInBounds_toArray, List.set_cons_zero, List.set_cons_succ]
            refine wpAnyH_take (i := 19) (oi := { dst := some 144, op := _, type := _, pos := _, after := _, guard := some (15, true) }) (v := ?_) rfl (by kernel_rfl) (by kernel_rfl) (by kernel_rfl) (fun _ _ _ h => h) (Or.inl ⟨by rfl, ?_⟩) hH ?_
            rotate_left
            · intro u hSu
              try dsimp only at hSu
              go_simp
              try with_reducible rfl
            try simp only [Act.put, List.setIfInBounds_toArray, List.set_cons_zero, List.set_cons_succ]
            refine wpAnyH_take (i := 20) (oi := { dst := some 145, op := _, type := _, pos := _, after := _, guard := some (15, true) }) (v := ?_) rfl (by kernel_rfl) (by kernel_rfl) (by kernel_rfl) (fun _ _ _ h => h) (Or.inl ⟨by rfl, ?_⟩) hH ?_
            rotate_left
            · intro u hSu
              try dsimp only at hSu
              go_simp
              try with_reducible rfl
            try simp only [Act.put, List.setIfInBounds_toArray, List.set_cons_zero, List.set_cons_succ]
            refine wpAnyH_take (i := 21) (oi := { dst := some 146, op := _, type := _, pos := _, after := _, guard := some (15, true) }) (v := ?_) rfl (by kernel_rfl) (by kernel_rfl) (by kernel_rfl) (fun _ _ _ h => h) (Or.inl ⟨by rfl, ?_⟩) hH ?_
            rotate_left
            · intro u hSu
              try dsimp only at hSu
              go_simp
              try with_reducible rfl
            try simp only [Act.put, List.setIfInBounds_toArray, List.set_cons_zero, List.set_cons_succ]
            refine wpAnyH_take (i := 22) (oi := { dst := some 147, op := _, type := _, pos := _, after := _, guard := some (15, true) }) (v := ?_) rfl (by kernel_rfl) (by kernel_rfl) (by kernel_rfl) (fun _ _ _ h => h) (Or.inl ⟨by rfl, ?_⟩) hH ?_
            rotate_left
            · intro u hSu
              try dsimp only at hSu
              go_simp
              try with_reducible rfl
            try simp only [Act.put, List.setIfInBounds_toArray, List.set_cons_zero, List.set_cons_succ]
            refine wpAnyH_take (i := 23) (oi := { dst := some 148, op := _, type := _, pos := _, after := _, guard := some (15, true) }) (v := ?_) rfl (by kernel_rfl) (by kernel_rfl) (by kernel_rfl) (fun _ _ _ h => h) (Or.inl ⟨by rfl, ?_⟩) hH ?_
            rotate_left
            · intro u hSu
              try dsimp only at hSu
              go_simp
              try with_reducible rfl
            try simp only [Act.put, List.setIfInBounds_toArray, List.set_cons_zero, List.set_cons_succ]
            refine wpAnyH_take (i := 25) (oi := { dst := some 150, op := _, type := _, pos := _, after := _, guard := some (15, true) }) (v := ?_) rfl (by kernel_rfl) (by kernel_rfl) (by kernel_rfl) (fun _ _ _ h => h) (Or.inl ⟨by rfl, ?_⟩) hH ?_
            rotate_left
            · intro u hSu
              try dsimp only at hSu
              go_simp
              try with_reducible rfl
            try simp only [Act.put, List.setIfInBounds_toArray, List.set_cons_zero, List.set_cons_succ]
            refine wpAnyH_ready (rs := [24]) (by kernel_rfl) (by simp) ?_
            refine AllReadyH.cons (o := { dst := some 149, op := _, type := _, pos := _, after := _, guard := some (15, true) }) rfl (fun K hK => ?_) AllReadyH.nil
            go_simp
            refine (set_as ra rc (some ⟨yb, yo, none⟩) rd L V1 k p x z L O _ (RM.keep (chgOf8 hH)) HK.out.2.1 HSF.out.1.2.1 hlt (by omega) HSF.out.1.1 HSF.out.1.2.2.2).mono ?_
            rintro e u24 ⟨⟨sa, sc, sb2, sd, rfl, RS⟩, g24⟩
            have hS24 := hold8 hH g24
            clear hH
            refine hK.out _ _ hS24 (fun hH => ?_)
            clear hK K
            try simp only [Act.put, List.setIfInBounds_toArray, List.set_cons_zero, List.set_cons_succ]
            refine wpAnyH_ready (rs := [26]) (by kernel_rfl) (by simp) ?_
            refine AllReadyH.cons (o := { dst := some 151, op := _, type := _, pos := _, after := _, guard := some (15, true) }) rfl (fun K hK => ?_) AllReadyH.nil
            go_simp
            refine (same_as false sa sc sb2 sd (some ⟨xb, xo, none⟩) kc (some ⟨zb, zo, none⟩) vc L O k k _ RS (RN.keep (chgOf8 hH)) HK.out.2.1 HK.out.2.2.1).mono ?_
            rintro e u26 ⟨rfl, g26⟩
            have hS26 := hold8 hH g26
            clear hH
            refine hK.out _ _ hS26 (fun hH => ?_)
            clear hK K
            try simp only [Act.put, List.setIfInBounds_toArray, List.set_cons_zero, List.set_cons_succ]
            refine wpAnyH_take (i := 27) (oi := { dst := some 152, op := _, type := _, pos := _, after := _, guard := none }) (v := ?_) rfl (by kernel_rfl) (by kernel_rfl) (by kernel_rfl) (fun _ _ _ h => h) (Or.inl ⟨by rfl, ?_⟩) hH ?_
            rotate_left
            · intro u hSu
              try dsimp only at hSu
              go_simp
              try with_reducible rfl
            try simp only [Act.put, List.setIfInBounds_toArray, List.set_cons_zero, List.set_cons_succ]
            refine wpAnyH_take (i := 28) (oi := { dst := some 4, op := _, type := _, pos := _, after := _, guard := none }) (v := ?_) rfl (by kernel_rfl) (by kernel_rfl) (by kernel_rfl) (fun _ _ _ h => h) (Or.inl ⟨by rfl, ?_⟩) hH ?_
            rotate_left
            · intro u hSu
              try dsimp only at hSu
              go_simp
              try with_reducible rfl
            try simp only [Act.put, List.setIfInBounds_toArray, List.set_cons_zero, List.set_cons_succ]
            refine wpAnyH_done (by kernel_rfl) ?_ _
            have gE := chgOf8 hS26
            go_wp2_with fail
            go_ret
            exact ⟨rfl, hw0 ▸ G.then gE⟩
          · have g7 : decide ((c9 : Int) < (k : Int)) = false := decide_eq_false (by omega)
            have g8 : decide (c9 < k) = false := decide_eq_false hck1
            have HC9 := mkHid hc9
            clear hc1 hc9
            go_wp2_with fail
            clear f1 f1' f1q f2 f3 f4 f5 f6 f7 f8 g1 g2 g3 g7 g8 c1
            obtain ⟨z, hz⟩ : ∃ z, O[p]? = some z := ⟨_, List.getElem?_eq_getElem (by have := HK.out.2.2.1; omega)⟩
            obtain ⟨V1, hV1⟩ : ∃ y, sub O 0 p ++ ([7] ++ sub O (p + 1) k) = y := ⟨_, rfl⟩
            have hsf := set_facts HK.out.2.1 HK.out.2.2.1 hlt hq hz hV1
            have HSF := mkHid (And.intro hsf (And.intro hV1 hz))
            clear hsf hV1 hz
            refine (set_as (some ⟨xb, xo, none⟩) kc va vc L O k p x 7 L V1 w4 RN HK.out.2.1 HK.out.2.2.1 hlt (by omega) HSF.out.1.1 HSF.out.2.1).mono ?_
            rintro e u5 ⟨⟨ra, rc, rb, rd, rfl, RM⟩, gc⟩
            obtain ⟨w5, hw5⟩ : ∃ x, x = (u5.alloc (.cells #[.bool false, .slice ra k rc, .slice rb k rd] 24)) := ⟨_, rfl⟩
            have gu : Chg [] u5 w5 := by rw [hw5]; exact Chg.alloc [] _ _
            have gn := gc.then gu
            replace BN := BN.keep gn
            replace RN := RN.keep gn
            replace G := G.then gn
            have BM : Bx w5 (u5.heap.size) (.bool false) (.slice ra k rc) (.slice rb k rd) := by rw [hw5]; exact ⟨by simp [go_sem], by simp [go_sem], by simp [go_sem]⟩
            replace RM := RM.keep gu
            clear gc gu gn
            have hw5' := hw5.symm
            clear hw5
            go_wp2_with fail
            clear hw5'
            generalize u5.heap.size = mb at *
            obtain ⟨yb, yo, rfl, cy, _⟩ := reads_lt RM.rv p _ (uvs_get HSF.out.1.2.2.1)
            obtain ⟨zb, zo, rfl, cz, _⟩ := reads_lt RN.rv p _ (uvs_get HSF.out.2.2)
            have b1 : ((k : Int) == (k : Int)) = true := by simp
            have hlt2 : (p : Int) < (k : Int) := by omega
            refine wp_region_held_drew (S := fun u => u.cell? ⟨mb, 0, none⟩ = some (.bool false) ∧ u.cell? ⟨mb, 1, none⟩ = some (.slice ra k rc) ∧ u.cell? ⟨mb, 2, none⟩ = some (.slice (some ⟨yb, yo, none⟩) k rd) ∧ u.cell? ⟨nb, 0, none⟩ = some (.bool false) ∧ u.cell? ⟨nb, 1, none⟩ = some (.slice (some ⟨xb, xo, none⟩) k kc) ∧ u.cell? ⟨nb, 2, none⟩ = some (.slice (some ⟨zb, zo, none⟩) k vc) ∧ u.cell? ⟨yb, yo + p, none⟩ = some (.int .u64 ((7 : Nat) : Int)) ∧ u.cell? ⟨zb, zo + p, none⟩ = some (.int .u64 (z : Int)) ∧ Chg [] w5 u) (by kernel_rfl) ?_ (fun hH => ?_)
            · exact ⟨(Chg.drew [] _).cellv BM.c0 (by simp), (Chg.drew [] _).cellv BM.c1 (by simp), (Chg.drew [] _).cellv BM.c2 (by simp), (Chg.drew [] _).cellv BN.c0 (by simp), (Chg.drew [] _).cellv BN.c1 (by simp), (Chg.drew [] _).cellv BN.c2 (by simp), (Chg.drew [] _).cellv cy (by simp), (Chg.drew [] _).cellv cz (by simp), Chg.drew [] _⟩
            refine wpAnyH_take (i := 0) (oi := { dst := some 125, op := _, type := _, pos := _, after := _, guard := none }) (v := ?_) rfl (by kernel_rfl) (by kernel_rfl) (by kernel_rfl) (fun _ _ _ h => h) (Or.inl ⟨by rfl, ?_⟩) hH ?_
            rotate_left
            · intro u hSu
              try dsimp only at hSu
              go_simp
              try with_reducible rfl
            try simp only [Act.put, List.setIfInBounds_toArray, List.set_cons_zero, List.set_cons_succ]
            refine wpAnyH_take (i := 1) (oi := { dst := some 126, op := _, type := _, pos := _, after := _, guard := none }) (v := ?_) rfl (by kernel_rfl) (by kernel_rfl) (by kernel_rfl) (fun _ _ _ h => h) (Or.inl ⟨by rfl, ?_⟩) hH ?_
            rotate_left
            · intro u hSu
              try dsimp only at hSu
              go_simp
              try with_reducible rfl
            try simp only [Act.put, List.setIfInBounds_toArray, List.set_cons_zero, List.set_cons_succ]
            refine wpAnyH_take (i := 2) (oi := { dst := some 127, op := _, type := _, pos := _, after := _, guard := none }) (v := ?_) rfl (by kernel_rfl) (by kernel_rfl) (by kernel_rfl) (fun _ _ _ h => h) (Or.inl ⟨by rfl, ?_⟩) hH ?_
            rotate_left
            · intro u hSu
              try dsimp only at hSu
              go_simp
              try with_reducible rfl
            try simp only [Act.put, List.setIfInBounds_toArray, List.set_cons_zero, List.set_cons_succ]
            refine wpAnyH_take (i := 3) (oi := { dst := some 128, op := _, type := _, pos := _, after := _, guard := none }) (v := ?_) rfl (by kernel_rfl) (by kernel_rfl) (by kernel_rfl) (fun _ _ _ h => h) (Or.inl ⟨by rfl, ?_⟩) hH ?_
            rotate_left
            · intro u hSu
              try dsimp only at hSu
              go_simp
              try with_reducible rfl
            try simp only [Act.put, List.setIfInBounds_toArray, List.set_cons_zero, List.set_cons_succ]
            refine wpAnyH_take (i := 4) (oi := { dst := some 129, op := _, type := _, pos := _, after := _, guard := none }) (v := ?_) rfl (by kernel_rfl) (by kernel_rfl) (by kernel_rfl) (fun _ _ _ h => h) (Or.inl ⟨by rfl, ?_⟩) hH ?_
            rotate_left
            · intro u hSu
              try dsimp only at hSu
              go_simp
              try with_reducible rfl
            try simp only [Act.put, List.setIfInBounds_toArray, List.set_cons_zero, List.set_cons_succ]
            refine wpAnyH_take (i := 5) (oi := { dst := some 130, op := _, type := _, pos := _, after := _, guard := none }) (v := ?_) rfl (by kernel_rfl) (by kernel_rfl) (by kernel_rfl) (fun _ _ _ h => h) (Or.inl ⟨by rfl, ?_⟩) hH ?_
            rotate_left
            · intro u hSu
              try dsimp only at hSu
              go_simp
              try with_reducible rfl
            try simp only [Act.put, List.setIfInBounds_toArray, List.set_cons_zero, List.set_cons_succ]
            refine wpAnyH_take (i := 6) (oi := { dst := some 131, op := _, type := _, pos := _, after := _, guard := none }) (v := ?_) rfl (by kernel_rfl) (by kernel_rfl) (by kernel_rfl) (fun _ _ _ h => h) (Or.inl ⟨by rfl, ?_⟩) hH ?_
            rotate_left
            · intro u hSu
              try dsimp only at hSu
              go_simp
              try with_reducible rfl
            try simp only [Act.put, List.setIfInBounds_toArray, List.set_cons_zero, List.set_cons_succ]
            refine wpAnyH_take (i := 7) (oi := { dst := some 132, op := _, type := _, pos := _, after := _, guard := some (6, true) }) (v := ?_) rfl (by kernel_rfl) (by kernel_rfl) (by kernel_rfl) (fun _ _ _ h => h) (Or.inl ⟨by rfl, ?_⟩) hH ?_
            rotate_left
            · intro u hSu
              try dsimp only at hSu
              go_simp
              try with_reducible rfl
            try simp only [Act.put, List.setIfInBounds_toArray, List.set_cons_zero, List.set_cons_succ]
            refine wpAnyH_take (i := 8) (oi := { dst := some 133, op := _, type := _, pos := _, after := _, guard := some (6, true) }) (v := ?_) rfl (by kernel_rfl) (by kernel_rfl) (by kernel_rfl) (fun _ _ _ h => h) (Or.inl ⟨by rfl, ?_⟩) hH ?_
            rotate_left
            · intro u hSu
              try dsimp only at hSu
              go_simp
              try with_reducible rfl
            try simp only [Act.put, List.setIfInBounds_toArray, List.set_cons_zero, List.set_cons_succ]
            refine wpAnyH_take (i := 9) (oi := { dst := some 134, op := _, type := _, pos := _, after := _, guard := some (6, true) }) (v := ?_) rfl (by kernel_rfl) (by kernel_rfl) (by kernel_rfl) (fun _ _ _ h => h) (Or.inl ⟨by rfl, ?_⟩) hH ?_
            rotate_left
            · intro u hSu
              try dsimp only at hSu
              go_simp
              try with_reducible rfl
            try simp only [Act.put, List.setIfInBounds_toArray, List.set_cons_zero, List.set_cons_succ]
            refine wpAnyH_take (i := 10) (oi := { dst := some 135, op := _, type := _, pos := _, after := _, guard := some (6, true) }) (v := ?_) rfl (by kernel_rfl) (by kernel_rfl) (by kernel_rfl) (fun _ _ _ h => h) (Or.inl ⟨by rfl, ?_⟩) hH ?_
            rotate_left
            · intro u hSu
              try dsimp only at hSu
              go_simp
              try with_reducible rfl
            try simp only [Act.put, List.setIfInBounds_toArray, List.set_cons_zero, List.set_cons_succ]
            refine wpAnyH_take (i := 11) (oi := { dst := some 136, op := _, type := _, pos := _, after := _, guard := some (6, true) }) (v := ?_) rfl (by kernel_rfl) (by kernel_rfl) (by kernel_rfl) (fun _ _ _ h => h) (Or.inl ⟨by rfl, ?_⟩) hH ?_
            rotate_left
            · intro u hSu
              try dsimp only at hSu
              go_simp
              try with_reducible rfl
            try simp only [Act.put, List.setIfInBounds_toArray, List.set_cons_zero, List.set_cons_succ]
            refine wpAnyH_take (i := 12) (oi := { dst := some 137, op := _, type := _, pos := _, after := _, guard := some (6, true) }) (v := ?_) rfl (by kernel_rfl) (by kernel_rfl) (by kernel_rfl) (fun _ _ _ h => h) (Or.inl ⟨by rfl, ?_⟩) hH ?_
            rotate_left
            · intro u hSu
              try dsimp only at hSu
              go_simp
              try with_reducible rfl
            try simp only [Act.put, List.setIfInBounds_toArray, List.set_cons_zero, List.set_cons_succ]
            refine wpAnyH_take (i := 13) (oi := { dst := some 138, op := _, type := _, pos := _, after := _, guard := some (6, true) }) (v := ?_) rfl (by kernel_rfl) (by kernel_rfl) (by kernel_rfl) (fun _ _ _ h => h) (Or.inl ⟨by rfl, ?_⟩) hH ?_
            rotate_left
            · intro u hSu
              try dsimp only at hSu
              go_simp
              try with_reducible rfl
            try simp only [Act.put, List.setIfInBounds_toArray, List.set_cons_zero, List.set_cons_succ]
            refine wpAnyH_take (i := 14) (oi := { dst := some 139, op := _, type := _, pos := _, after := _, guard := none }) (v := ?_) rfl (by kernel_rfl) (by kernel_rfl) (by kernel_rfl) (fun _ _ _ h => h) (Or.inl ⟨by rfl, ?_⟩) hH ?_
            rotate_left
            · intro u hSu
              try dsimp only at hSu
              go_simp
              try with_reducible rfl
            try simp only [Act.put, List.setIfInBounds_toArray, List.set_cons_zero, List.set_cons_succ]
            refine wpAnyH_take (i := 15) (oi := { dst := some 140, op := _, type := _, pos := _, after := _, guard := none }) (v := ?_) rfl (by kernel_rfl) (by kernel_rfl) (by kernel_rfl) (fun _ _ _ h => h) (Or.inl ⟨by rfl, ?_⟩) hH ?_
            rotate_left
            · intro u hSu
              try dsimp only at hSu
              go_simp
              try with_reducible rfl
            try simp only [Act.put, List.setIfInBounds_toArray, List.set_cons_zero, List.set_cons_succ]
            refine wpAnyH_take (i := 16) (oi := { dst := some 141, op := _, type := _, pos := _, after := _, guard := some (15, true) }) (v := ?_) rfl (by kernel_rfl) (by kernel_rfl) (by kernel_rfl) (fun _ _ _ h => h) (Or.inl ⟨by rfl, ?_⟩) hH ?_
            rotate_left
            · intro u hSu
              try dsimp only at hSu
              go_simp
              try with_reducible rfl
            try simp only [Act.put, List.setIfInBounds_toArray, List.set_cons_zero, List.set_cons_succ]
            refine wpAnyH_take (i := 17) (oi := { dst := some 142, op := _, type := _, pos := _, after := _, guard := some (15, true) }) (v := ?_) rfl (by kernel_rfl) (by kernel_rfl) (by kernel_rfl) (fun _ _ _ h => h) (Or.inl ⟨by rfl, ?_⟩) hH ?_
            rotate_left
            · intro u hSu
              try dsimp only at hSu
              go_simp
              try with_reducible rfl
            try simp only [Act.put, List.setIfInBounds_toArray, List.set_cons_zero, List.set_cons_succ]
            refine wpAnyH_take (i := 18) (oi := { dst := some 143, op := _, type := _, pos := _, after := _, guard := some (15, true) }) (v := ?_) rfl (by kernel_rfl) (by kernel_rfl) (by kernel_rfl) (fun _ _ _ h => h) (Or.inl ⟨by rfl, ?_⟩) hH ?_
            rotate_left
            · intro u hSu
              try dsimp only at hSu
              go_simp
              try with_reducible rfl
            try simp only [Act.put, List.setIfInBounds_toArray, List.set_cons_zero, List.set_cons_succ]
            refine wpAnyH_take (i := 19) (oi := { dst := some 144, op := _, type := _, pos := _, after := _, guard := some (15, true) }) (v := ?_) rfl (by kernel_rfl) (by kernel_rfl) (by kernel_rfl) (fun _ _ _ h => h) (Or.inl ⟨by rfl, ?_⟩) hH ?_
            rotate_left
            · intro u hSu
              try dsimp only at hSu
              go_simp
              try with_reducible rfl
            try simp only [Act.put, List.setIfInBounds_toArray, List.set_cons_zero, List.set_cons_succ]
            refine wpAnyH_take (i := 20) (oi := { dst := some 145, op := _, type := _, pos := _, after := _, guard := some (15, true) }) (v := ?_) rfl (by kernel_rfl) (by kernel_rfl) (by kernel_rfl) (fun _ _ _ h => h) (Or.inl ⟨by rfl, ?_⟩) hH ?_
            rotate_left
            · intro u hSu
              try dsimp only at hSu
              go_simp
              try with_reducible rfl
            try simp only [Act.put, List.setIfInBounds_toArray, List.set_cons_zero, List.set_cons_succ]
            refine wpAnyH_take (i := 21) (oi := { dst := some 146, op := _, type := _, pos := _, after := _, guard := some (15, true) }) (v := ?_) rfl (by kernel_rfl) (by kernel_rfl) (by kernel_rfl) (fun _ _ _ h => h) (Or.inl ⟨by rfl, ?_⟩) hH ?_
            rotate_left
            · intro u hSu
              try dsimp only at hSu
              go_simp
              try with_reducible rfl
            try simp only [Act.put, List.setIfInBounds_toArray, List.set_cons_zero, List.set_cons_succ]
            refine wpAnyH_take (i := 22) (oi := { dst := some 147, op := _, type := _, pos := _, after := _, guard := some (15, true) }) (v := ?_) rfl (by kernel_rfl) (by kernel_rfl) (by kernel_rfl) (fun _ _ _ h => h) (Or.inl ⟨by rfl, ?_⟩) hH ?_
            rotate_left
            · intro u hSu
              try dsimp only at hSu
              go_simp
              try with_reducible rfl
            try simp only [Act.put, List.setIfInBounds_toArray, List.set_cons_zero, List.set_cons_succ]
            refine wpAnyH_take (i := 23) (oi := { dst := some 148, op := _, type := _, pos := _, after := _, guard := some (15, true) }) (v := ?_) rfl (by kernel_rfl) (by kernel_rfl) (by kernel_rfl) (fun _ _ _ h => h) (Or.inl ⟨by rfl, ?_⟩) hH ?_
            rotate_left
            · intro u hSu
              try dsimp only at hSu
              go_simp
              try with_reducible rfl
            try simp only [Act.put, List.setIfInBounds_toArray, List.set_cons_zero, List.set_cons_succ]
            refine wpAnyH_take (i := 25) (oi := { dst := some 150, op := _, type := _, pos := _, after := _, guard := some (15, true) }) (v := ?_) rfl (by kernel_rfl) (by kernel_rfl) (by kernel_rfl) (fun _ _ _ h => h) (Or.inl ⟨by rfl, ?_⟩) hH ?_
            rotate_left
            · intro u hSu
              try dsimp only at hSu
              go_simp
              try with_reducible rfl
            try simp only [Act.put, List.setIfInBounds_toArray, List.set_cons_zero, List.set_cons_succ]
            refine wpAnyH_ready (rs := [24]) (by kernel_rfl) (by simp) ?_
            refine AllReadyH.cons (o := { dst := some 149, op := _, type := _, pos := _, after := _, guard := some (15, true) }) rfl (fun K hK => ?_) AllReadyH.nil
            go_simp
            refine (set_as ra rc (some ⟨yb, yo, none⟩) rd L V1 k p x z L O _ (RM.keep (chgOf8 hH)) HK.out.2.1 HSF.out.1.2.1 hlt (by omega) HSF.out.1.1 HSF.out.1.2.2.2).mono ?_
            rintro e u24 ⟨⟨sa, sc, sb2, sd, rfl, RS⟩, g24⟩
            have hS24 := hold8 hH g24
            clear hH
            refine hK.out _ _ hS24 (fun hH => ?_)
            clear hK K
            try simp only [Act.put, List.setIfInBounds_toArray, List.set_cons_zero, List.set_cons_succ]
            refine wpAnyH_ready (rs := [26]) (by kernel_rfl) (by simp) ?_
            refine AllReadyH.cons (o := { dst := some 151, op := _, type := _, pos := _, after := _, guard := some (15, true) }) rfl (fun K hK => ?_) AllReadyH.nil
            go_simp
            refine (same_as false sa sc sb2 sd (some ⟨xb, xo, none⟩) kc (some ⟨zb, zo, none⟩) vc L O k k _ RS (RN.keep (chgOf8 hH)) HK.out.2.1 HK.out.2.2.1).mono ?_
            rintro e u26 ⟨rfl, g26⟩
            have hS26 := hold8 hH g26
            clear hH
            refine hK.out _ _ hS26 (fun hH => ?_)
            clear hK K
            try simp only [Act.put, List.setIfInBounds_toArray, List.set_cons_zero, List.set_cons_succ]
            refine wpAnyH_take (i := 27) (oi := { dst := some 152, op := _, type := _, pos := _, after := _, guard := none }) (v := ?_) rfl (by kernel_rfl) (by kernel_rfl) (by kernel_rfl) (fun _ _ _ h => h) (Or.inl ⟨by rfl, ?_⟩) hH ?_
            rotate_left
            · intro u hSu
              try dsimp only at hSu
              go_simp
              try with_reducible rfl
            try simp only [Act.put, List.setIfInBounds_toArray, List.set_cons_zero, List.set_cons_succ]
            refine wpAnyH_take (i := 28) (oi := { dst := some 4, op := _, type := _, pos := _, after := _, guard := none }) (v := ?_) rfl (by kernel_rfl) (by kernel_rfl) (by kernel_rfl) (fun _ _ _ h => h) (Or.inl ⟨by rfl, ?_⟩) hH ?_
            rotate_left
            · intro u hSu
              try dsimp only at hSu
              go_simp
              try with_reducible rfl
            try simp only [Act.put, List.setIfInBounds_toArray, List.set_cons_zero, List.set_cons_succ]
            refine wpAnyH_done (by kernel_rfl) ?_ _
            have gE := chgOf8 hS26
            go_wp2_with fail
            go_ret
            exact ⟨rfl, hw0 ▸ G.then gE⟩
  · refine (finds_as ka kc va vc L O k p x false w1 RN HK.out.2.1 HK.out.2.2.1 HK.out.2.2.2.1 hb).mono ?_
    rintro e w2 ⟨rfl, gc⟩
    replace BN := BN.keep gc
    replace RN := RN.keep gc
    replace G := G.then gc
    clear gc
    clear hb
    go_wp2_with fail
    refine (awake_any w2).mono ?_
    rintro e w3 ⟨rfl, gc⟩
    replace BN := BN.keep gc
    replace RN := RN.keep gc
    replace G := G.then gc
    clear gc
    have a0 := BN.c0
    have a1 := BN.c1
    have a2 := BN.c2
    have f1 : decide ((p : Int) < 0) = false := decide_eq_false (by omega)
    have f2 : decide ((p : Int) > (k : Int)) = false := decide_eq_false (by omega)
    have f3 : decide ((k : Int) < (p : Int)) = false := decide_eq_false (by omega)
    have f4 : decide (k < p) = false := decide_eq_false (by omega)
    go_wp2_with fail
    clear f1 f2 f3 f4
    go_loopw [40] (fun iv wz => ∃ i : Nat, iv = .int .i64 i ∧ i ≤ k ∧ w3 = wz) (fun iv _ => k - (intOf iv).toNat)
    case atStart => exact ⟨0, rfl, Nat.zero_le _, rfl⟩
    case round =>
      obtain ⟨i, rfl, hik, rfl⟩ := hrel
      by_cases hil : i < k
      · have d1 : decide (i < k) = true := decide_eq_true hil
        have d2 : decide ((i : Int) < (k : Int)) = true := decide_eq_true (by omega)
        obtain ⟨y, hy⟩ : ∃ y, L[i]? = some y := ⟨_, List.getElem?_eq_getElem (by have := HK.out.2.1; omega)⟩
        have hiy := HK.out.2.2.2.2.2 i y hy
        obtain ⟨xb, xo, rfl, c1, _⟩ := reads_lt RN.rk i _ (uvs_get hy)
        have c2 := RN.rk.cell p _ (uvs_get hq)
        have e1 : decide (p < k) = true := decide_eq_true hlt
        have e2 : decide ((p : Int) < (k : Int)) = true := decide_eq_true (by omega)
        have hlt2 : (p : Int) < (k : Int) := by omega
        have e3 : ((q : Int) == (x : Int)) = false := by rw [beq_eq_false_iff_ne]; omega
        have e4 : decide ((q : Int) = (x : Int)) = false := decide_eq_false (by omega)
        have e5 : (q == x) = false := by rw [beq_eq_false_iff_ne]; omega
        clear hy
        by_cases hip : i < p
        · have g1 : decide (i < p) = true := decide_eq_true (by omega)
          have g2 : decide ((i : Int) < (p : Int)) = true := decide_eq_true (by omega)
          have g3 : decide (y < x) = true := decide_eq_true (by omega)
          have g4 : decide ((y : Int) < (x : Int)) = true := decide_eq_true (by omega)
          clear hiy
          go_wp2_with fail
          exact ⟨⟨i + 1, by go_num, by omega, by first | rfl | trivial⟩, by simp [intOf]; omega⟩
        · have g1 : decide (i < p) = false := decide_eq_false (by omega)
          have g2 : decide ((i : Int) < (p : Int)) = false := decide_eq_false (by omega)
          have g3 : decide (y < x) = false := decide_eq_false (by omega)
          have g4 : decide ((y : Int) < (x : Int)) = false := decide_eq_false (by omega)
          clear hiy
          go_wp2_with fail
          exact ⟨⟨i + 1, by go_num, by omega, by first | rfl | trivial⟩, by simp [intOf]; omega⟩
      · have d1 : decide (i < k) = false := decide_eq_false hil
        have d2 : decide ((i : Int) < (k : Int)) = false := decide_eq_false (by omega)
        go_wp2_with fail
        refine (childs_as ka kc va vc L O k cc x w3 RN HK.out.2.1 HK.out.2.2.1 HK.out.2.2.2.2.1).mono ?_
        rintro e w4 ⟨rfl, gc⟩
        clear a0 a1 a2
        replace BN := BN.keep gc
        replace RN := RN.keep gc
        replace G := G.then gc
        clear gc
        have a0 := BN.c0
        have a1 := BN.c1
        have a2 := BN.c2
        have hk0 : 0 < k := by omega
        have hch := child_facts (x := x) HK.out.2.1 HK.out.2.2.1 HK.out.1 hk0
        rw [HK.out.2.2.2.2.1] at hch
        obtain ⟨hck, hc0, hc1⟩ := hch
        obtain ⟨y, hy⟩ : ∃ y, L[cc]? = some y := ⟨_, List.getElem?_eq_getElem (by have := HK.out.2.1; omega)⟩
        have hcy := hc0 y hy
        obtain ⟨xb, xo, rfl, c1, _⟩ := reads_lt RN.rk cc _ (uvs_get hy)
        have f1 : decide ((k : Int) > 0) = true := decide_eq_true (by omega)
        have f1' : decide (0 < (k : Int)) = true := decide_eq_true (by omega)
        have f1q : decide (0 < k) = true := decide_eq_true hk0
        have f2 : decide ((cc : Int) < 0) = false := decide_eq_false (by omega)
        have f3 : decide ((cc : Int) ≥ (k : Int)) = false := decide_eq_false (by omega)
        have f4 : decide ((k : Int) ≤ (cc : Int)) = false := decide_eq_false (by omega)
        have f5 : decide (k ≤ cc) = false := decide_eq_false (by omega)
        have f6 : (cc : Int) < (k : Int) := by omega
        obtain ⟨c9, hc9⟩ : ∃ a, cc + 1 = a := ⟨_, rfl⟩
        have f7 : (cc : Int) + 1 = (c9 : Int) := by omega
        have f8 : IntKind.i64.wrap (c9 : Int) = (c9 : Int) := by rw [IntKind.wrap_i64]; omega
        rw [hc9] at hc1
        clear hc0 hy
        by_cases hxy : x < y
        · have g1 : decide ((y : Int) > (x : Int)) = true := decide_eq_true (by omega)
          have g2 : decide ((x : Int) < (y : Int)) = true := decide_eq_true (by omega)
          have g3 : decide (x < y) = true := decide_eq_true (by omega)
          have hcz := hcy hxy
          have g4 : decide ((cc : Int) > 0) = false := decide_eq_false (by omega)
          have g5 : decide (0 < (cc : Int)) = false := decide_eq_false (by omega)
          have g6 : decide (0 < cc) = false := decide_eq_false (by omega)
          clear hcz
          clear hcy
          by_cases hck1 : c9 < k
          · have g7 : decide ((c9 : Int) < (k : Int)) = true := decide_eq_true (by omega)
            have g8 : decide (c9 < k) = true := decide_eq_true hck1
            have g9 : (c9 : Int) < (k : Int) := by omega
            obtain ⟨z1, hz1⟩ : ∃ z, L[c9]? = some z := ⟨_, List.getElem?_eq_getElem (by have := HK.out.2.1; omega)⟩
            have hxz := hc1 z1 hz1
            have c2 := RN.rk.cell c9 _ (uvs_get hz1)
            have i1 : decide ((z1 : Int) ≤ (x : Int)) = false := decide_eq_false (by omega)
            have i2 : decide (z1 ≤ x) = false := decide_eq_false (by omega)
            have HC9 := mkHid (And.intro hc9 hxz)
            clear hz1 hc1 hc9 hxz
            go_wp2_with fail
            clear f1 f1' f1q f2 f3 f4 f5 f6 f7 f8 g1 g2 g3 g7 g8 g9 i1 i2 c1 c2
            obtain ⟨k1, hk1⟩ : ∃ k1, k + 1 = k1 := ⟨_, rfl⟩
            obtain ⟨X, hX⟩ : ∃ y, sub L 0 p ++ ([x] ++ sub L p k) = y := ⟨_, rfl⟩
            obtain ⟨Y, hY⟩ : ∃ y, sub O 0 p ++ ([7] ++ sub O p k) = y := ⟨_, rfl⟩
            have hif := ins_facts HK.out.2.1 HK.out.2.2.1 HK.out.1 hpk hk1 HK.out.2.2.2.2.2 (fun z hz => by rw [hq] at hz; cases hz; exact hxq) hX hY
            have HIF := mkHid (And.intro hif (And.intro hX hY))
            clear hif hX hY
            refine (insert_as (some ⟨xb, xo, none⟩) kc va vc L O k p k1 x 7 X Y w4 RN HK.out.2.1 HK.out.2.2.1 hpk hk1 (by omega) HIF.out.2.1 HIF.out.2.2).mono ?_
            rintro e u5 ⟨⟨ra, rc, rb, rd, rfl, RM⟩, gc⟩
            obtain ⟨w5, hw5⟩ : ∃ x, x = (u5.alloc (.cells #[.bool false, .slice ra k1 rc, .slice rb k1 rd] 24)) := ⟨_, rfl⟩
            have gu : Chg [] u5 w5 := by rw [hw5]; exact Chg.alloc [] _ _
            have gn := gc.then gu
            replace BN := BN.keep gn
            replace RN := RN.keep gn
            replace G := G.then gn
            have BM : Bx w5 (u5.heap.size) (.bool false) (.slice ra k1 rc) (.slice rb k1 rd) := by rw [hw5]; exact ⟨by simp [go_sem], by simp [go_sem], by simp [go_sem]⟩
            replace RM := RM.keep gu
            clear gc gu gn
            have hw5' := hw5.symm
            clear hw5
            have a0 := BM.c0
            have a1 := BM.c1
            have a2 := BM.c2
            go_wp2_with fail
            clear hw5'
            clear a0 a1 a2
            generalize u5.heap.size = mb at *
            refine (finds_as ra rc rb rd X Y k1 p x true w5 RM HIF.out.1.2.1 HIF.out.1.2.2.1 HIF.out.1.2.2.2.2.2.1 HIF.out.1.2.2.2.2.2.2.1).mono ?_
            rintro e w6 ⟨rfl, gc⟩
            replace BN := BN.keep gc
            replace RN := RN.keep gc
            replace BM := BM.keep gc
            replace RM := RM.keep gc
            replace G := G.then gc
            clear gc
            obtain ⟨yb, yo, rfl, cy, _⟩ := reads_lt RM.rv p _ (uvs_get HIF.out.1.2.2.2.2.1)
            go_wp2_with fail
            go_loopw [15] (fun iv wz => ∃ i : Nat, iv = .int .i64 i ∧ 1 ≤ i ∧ i ≤ k1 ∧ Chg [] w6 wz) (fun iv _ => k1 - (intOf iv).toNat)
            case atStart => exact ⟨1, rfl, Nat.le_refl _, by omega, Chg.refl _ _⟩
            case round =>
              obtain ⟨i, rfl, hi1, hik, gz⟩ := hrel
              replace BN := BN.keep gz
              replace RN := RN.keep gz
              replace BM := BM.keep gz
              replace RM := RM.keep gz
              replace G := G.then gz
              replace cy := gz.cellv cy (by simp)
              have a0 := BM.c0
              have a1 := BM.c1
              have a2 := BM.c2
              by_cases hil : i < k1
              · have d1 : decide (i < k1) = true := decide_eq_true hil
                have d2 : decide ((i : Int) < (k1 : Int)) = true := decide_eq_true (by omega)
                obtain ⟨j, rfl⟩ : ∃ j, i = j + 1 := ⟨i - 1, by omega⟩
                obtain ⟨y1, hy1⟩ : ∃ y, X[j]? = some y := ⟨_, List.getElem?_eq_getElem (by have := HIF.out.1.2.1; omega)⟩
                obtain ⟨y2, hy2⟩ : ∃ y, X[j + 1]? = some y := ⟨_, List.getElem?_eq_getElem (by have := HIF.out.1.2.1; omega)⟩
                have hyy := rising_lt HIF.out.1.1 hy1 hy2
                obtain ⟨xb, xo, rfl, c1, _⟩ := reads_lt RM.rk j _ (uvs_get hy1)
                have c2 := RM.rk.cell (j + 1) _ (uvs_get hy2)
                obtain ⟨i, hi⟩ : ∃ i, j + 1 = i := ⟨_, rfl⟩
                rw [hi] at d1 d2 c2 hil hi1 hik ⊢
                have q1 : (i : Int) - 1 = (j : Int) := by omega
                have q2 : IntKind.i64.wrap (j : Int) = (j : Int) := by rw [IntKind.wrap_i64]; omega
                have q3 : j < k1 := by omega
                have q4 : (j : Int) < (k1 : Int) := by omega
                have q5 : (i : Int) < (k1 : Int) := by omega
                have d3 : decide ((y1 : Int) ≥ (y2 : Int)) = false := decide_eq_false (by omega)
                have d4 : decide ((y2 : Int) ≤ (y1 : Int)) = false := decide_eq_false (by omega)
                have d5 : decide (y2 ≤ y1) = false := decide_eq_false (by omega)
                have HI := mkHid hi
                clear hi hyy hy1 hy2
                go_wp2_with fail
                go_quiet (fail)
                have gq : Chg [] wr (wr.drewN nq) := ⟨rfl, rfl, rfl, Nat.le_refl _, fun _ _ _ => rfl⟩
                have gz2 := gz.then gq
                clear gq q1 q2
                go_wp2_with fail
                exact ⟨⟨i + 1, by go_num, by omega, by omega, gz2⟩, by simp [intOf]; omega⟩
              · have d1 : decide (i < k1) = false := decide_eq_false hil
                have d2 : decide ((i : Int) < (k1 : Int)) = false := decide_eq_false (by omega)
                go_wp2_with fail
                have b1 : ((p : Int) == (p : Int)) = true := by simp
                have hlt1 : p < k1 := by omega
                have hlt2 : (p : Int) < (k1 : Int) := by omega
                refine wp_region_held_drew (S := fun u => u.cell? ⟨mb, 0, none⟩ = some (.bool false) ∧ u.cell? ⟨mb, 1, none⟩ = some (.slice ra k1 rc) ∧ u.cell? ⟨mb, 2, none⟩ = some (.slice (some ⟨yb, yo, none⟩) k1 rd) ∧ u.cell? ⟨nb, 0, none⟩ = some (.bool false) ∧ u.cell? ⟨nb, 1, none⟩ = some (.slice (some ⟨xb, xo, none⟩) k kc) ∧ u.cell? ⟨nb, 2, none⟩ = some (.slice va k vc) ∧ u.cell? ⟨yb, yo + p, none⟩ = some (.int .u64 ((7 : Nat) : Int)) ∧ Chg [] wr u) (by kernel_rfl) ?_ (fun hH => ?_)
                · exact ⟨(Chg.drew [] _).cellv BM.c0 (by simp), (Chg.drew [] _).cellv BM.c1 (by simp), (Chg.drew [] _).cellv BM.c2 (by simp), (Chg.drew [] _).cellv BN.c0 (by simp), (Chg.drew [] _).cellv BN.c1 (by simp), (Chg.drew [] _).cellv BN.c2 (by simp), (Chg.drew [] _).cellv cy (by simp), Chg.drew [] _⟩
                refine wpAnyH_take (i := 0) (oi := { dst := some 182, op := _, type := _, pos := _, after := _, guard := none }) (v := ?_) rfl (by kernel_rfl) (by kernel_rfl) (by kernel_rfl) (fun _ _ _ h => h) (Or.inl ⟨by rfl, ?_⟩) hH ?_
                rotate_left
                · intro u hSu
                  try dsimp only at hSu
                  go_simp
                  try with_reducible rfl
                try simp only [Act.put, List.setIfInBounds_toArray, List.set_cons_zero, List.set_cons_succ]
                refine wpAnyH_take (i := 1) (oi := { dst := some 183, op := _, type := _, pos := _, after := _, guard := none }) (v := ?_) rfl (by kernel_rfl) (by kernel_rfl) (by kernel_rfl) (fun _ _ _ h => h) (Or.inl ⟨by rfl, ?_⟩) hH ?_
                rotate_left
                · intro u hSu
                  try dsimp only at hSu
                  go_simp
                  try with_reducible rfl
                try simp only [Act.put, List.setIfInBounds_toArray, List.set_cons_zero, List.set_cons_succ]
                refine wpAnyH_take (i := 2) (oi := { dst := some 184, op := _, type := _, pos := _, after := _, guard := some (1, true) }) (v := ?_) rfl (by kernel_rfl) (by kernel_rfl) (by kernel_rfl) (fun _ _ _ h => h) (Or.inl ⟨by rfl, ?_⟩) hH ?_
                rotate_left
                · intro u hSu
                  try dsimp only at hSu
                  go_simp
                  try with_reducible rfl
                try simp only [Act.put, List.setIfInBounds_toArray, List.set_cons_zero, List.set_cons_succ]
                refine wpAnyH_take (i := 3) (oi := { dst := some 185, op := _, type := _, pos := _, after := _, guard := some (1, true) }) (v := ?_) rfl (by kernel_rfl) (by kernel_rfl) (by kernel_rfl) (fun _ _ _ h => h) (Or.inl ⟨by rfl, ?_⟩) hH ?_
                rotate_left
                · intro u hSu
                  try dsimp only at hSu
                  go_simp
                  try with_reducible rfl
                try simp only [Act.put, List.setIfInBounds_toArray, List.set_cons_zero, List.set_cons_succ]
                refine wpAnyH_take (i := 4) (oi := { dst := some 186, op := _, type := _, pos := _, after := _, guard := some (1, true) }) (v := ?_) rfl (by kernel_rfl) (by kernel_rfl) (by kernel_rfl) (fun _ _ _ h => h) (Or.inl ⟨by rfl, ?_⟩) hH ?_
                rotate_left
                · intro u hSu
                  try dsimp only at hSu
                  go_simp
                  try with_reducible rfl
                try simp only [Act.put, List.setIfInBounds_toArray, List.set_cons_zero, List.set_cons_succ]
                refine wpAnyH_take (i := 5) (oi := { dst := some 187, op := _, type := _, pos := _, after := _, guard := none }) (v := ?_) rfl (by kernel_rfl) (by kernel_rfl) (by kernel_rfl) (fun _ _ _ h => h) (Or.inl ⟨by rfl, ?_⟩) hH ?_
                rotate_left
                · intro u hSu
                  try dsimp only at hSu
                  go_simp
                  try with_reducible rfl
                try simp only [Act.put, List.setIfInBounds_toArray, List.set_cons_zero, List.set_cons_succ]
                refine wpAnyH_take (i := 6) (oi := { dst := some 188, op := _, type := _, pos := _, after := _, guard := none }) (v := ?_) rfl (by kernel_rfl) (by kernel_rfl) (by kernel_rfl) (fun _ _ _ h => h) (Or.inl ⟨by rfl, ?_⟩) hH ?_
                rotate_left
                · intro u hSu
                  try dsimp only at hSu
                  go_simp
                  try with_reducible rfl
                try simp only [Act.put, List.setIfInBounds_toArray, List.set_cons_zero, List.set_cons_succ]
                refine wpAnyH_take (i := 7) (oi := { dst := some 189, op := _, type := _, pos := _, after := _, guard := some (6, true) }) (v := ?_) rfl (by kernel_rfl) (by kernel_rfl) (by kernel_rfl) (fun _ _ _ h => h) (Or.inl ⟨by rfl, ?_⟩) hH ?_
                rotate_left
                · intro u hSu
                  try dsimp only at hSu
                  go_simp
                  try with_reducible rfl
                try simp only [Act.put, List.setIfInBounds_toArray, List.set_cons_zero, List.set_cons_succ]
                refine wpAnyH_take (i := 8) (oi := { dst := some 190, op := _, type := _, pos := _, after := _, guard := some (6, true) }) (v := ?_) rfl (by kernel_rfl) (by kernel_rfl) (by kernel_rfl) (fun _ _ _ h => h) (Or.inl ⟨by rfl, ?_⟩) hH ?_
                rotate_left
                · intro u hSu
                  try dsimp only at hSu
                  go_simp
                  try with_reducible rfl
                try simp only [Act.put, List.setIfInBounds_toArray, List.set_cons_zero, List.set_cons_succ]
                refine wpAnyH_take (i := 9) (oi := { dst := some 191, op := _, type := _, pos := _, after := _, guard := some (6, true) }) (v := ?_) rfl (by kernel_rfl) (by kernel_rfl) (by kernel_rfl) (fun _ _ _ h => h) (Or.inl ⟨by rfl, ?_⟩) hH ?_
                rotate_left
                · intro u hSu
                  try dsimp only at hSu
                  go_simp
                  try with_reducible rfl
                try simp only [Act.put, List.setIfInBounds_toArray, List.set_cons_zero, List.set_cons_succ]
                refine wpAnyH_take (i := 10) (oi := { dst := some 192, op := _, type := _, pos := _, after := _, guard := some (6, true) }) (v := ?_) rfl (by kernel_rfl) (by kernel_rfl) (by kernel_rfl) (fun _ _ _ h => h) (Or.inl ⟨by rfl, ?_⟩) hH ?_
                rotate_left
                · intro u hSu
                  try dsimp only at hSu
                  go_simp
                  try with_reducible rfl
                try simp only [Act.put, List.setIfInBounds_toArray, List.set_cons_zero, List.set_cons_succ]
                refine wpAnyH_take (i := 11) (oi := { dst := some 193, op := _, type := _, pos := _, after := _, guard := some (6, true) }) (v := ?_) rfl (by kernel_rfl) (by kernel_rfl) (by kernel_rfl) (fun _ _ _ h => h) (Or.inl ⟨by rfl, ?_⟩) hH ?_
                rotate_left
                · intro u hSu
                  try dsimp only at hSu
                  go_simp
                  try with_reducible rfl
                try simp only [Act.put, List.setIfInBounds_toArray, List.set_cons_zero, List.set_cons_succ]
                refine wpAnyH_take (i := 12) (oi := { dst := some 194, op := _, type := _, pos := _, after := _, guard := some (6, true) }) (v := ?_) rfl (by kernel_rfl) (by kernel_rfl) (by kernel_rfl) (fun _ _ _ h => h) (Or.inl ⟨by rfl, ?_⟩) hH ?_
                rotate_left
                · intro u hSu
                  try dsimp only at hSu
                  go_simp
                  try with_reducible rfl
                try simp only [Act.put, List.setIfInBounds_toArray, List.set_cons_zero, List.set_cons_succ]
                refine wpAnyH_take (i := 13) (oi := { dst := some 195, op := _, type := _, pos := _, after := _, guard := none }) (v := ?_) rfl (by kernel_rfl) (by kernel_rfl) (by kernel_rfl) (fun _ _ _ h => h) (Or.inl ⟨by rfl, ?_⟩) hH ?_
                rotate_left
                · intro u hSu
                  try dsimp only at hSu
                  go_simp
                  try with_reducible rfl
                try simp only [Act.put, List.setIfInBounds_toArray, List.set_cons_zero, List.set_cons_succ]
                refine wpAnyH_take (i := 14) (oi := { dst := some 196, op := _, type := _, pos := _, after := _, guard := none }) (v := ?_) rfl (by kernel_rfl) (by kernel_rfl) (by kernel_rfl) (fun _ _ _ h => h) (Or.inl ⟨by rfl, ?_⟩) hH ?_
                rotate_left
                · intro u hSu
                  try dsimp only at hSu
                  go_simp
                  try with_reducible rfl
                try simp only [Act.put, List.setIfInBounds_toArray, List.set_cons_zero, List.set_cons_succ]
                refine wpAnyH_take (i := 15) (oi := { dst := some 197, op := _, type := _, pos := _, after := _, guard := some (14, true) }) (v := ?_) rfl (by kernel_rfl) (by kernel_rfl) (by kernel_rfl) (fun _ _ _ h => h) (Or.inl ⟨by rfl, ?_⟩) hH ?_
                rotate_left
                · intro u hSu
                  try dsimp only at hSu
                  go_simp
                  try with_reducible rfl
                try simp only [Act.put, List.setIfInBounds_toArray, List.set_cons_zero, List.set_cons_succ]
                refine wpAnyH_take (i := 16) (oi := { dst := some 198, op := _, type := _, pos := _, after := _, guard := some (14, true) }) (v := ?_) rfl (by kernel_rfl) (by kernel_rfl) (by kernel_rfl) (fun _ _ _ h => h) (Or.inl ⟨by rfl, ?_⟩) hH ?_
                rotate_left
                · intro u hSu
                  try dsimp only at hSu
                  go_simp
                  try with_reducible rfl
                try simp only [Act.put, List.setIfInBounds_toArray, List.set_cons_zero, List.set_cons_succ]
                refine wpAnyH_take (i := 18) (oi := { dst := some 200, op := _, type := _, pos := _, after := _, guard := some (14, true) }) (v := ?_) rfl (by kernel_rfl) (by kernel_rfl) (by kernel_rfl) (fun _ _ _ h => h) (Or.inl ⟨by rfl, ?_⟩) hH ?_
                rotate_left
                · intro u hSu
                  try dsimp only at hSu
                  go_simp
                  try with_reducible rfl
                try simp only [Act.put, List.setIfInBounds_toArray, List.set_cons_zero, List.set_cons_succ]
                refine wpAnyH_ready (rs := [17]) (by kernel_rfl) (by simp) ?_
                refine AllReadyH.cons (o := { dst := some 199, op := _, type := _, pos := _, after := _, guard := some (14, true) }) rfl (fun K hK => ?_) AllReadyH.nil
                go_simp
                refine (remove_as ra rc (some ⟨yb, yo, none⟩) rd X Y k p k1 L O _ (RM.keep (chgOf7 hH)) HIF.out.1.2.1 HIF.out.1.2.2.1 hpk hk1 (by omega) HIF.out.1.2.2.2.2.2.2.2.1 HIF.out.1.2.2.2.2.2.2.2.2 HK.out.2.1 HK.out.2.2.1).mono ?_
                rintro e u17 ⟨⟨sa, sc, sb2, sd, rfl, RS⟩, g17⟩
                have hS17 := hold7 hH g17
                clear hH
                refine hK.out _ _ hS17 (fun hH => ?_)
                clear hK K
                try simp only [Act.put, List.setIfInBounds_toArray, List.set_cons_zero, List.set_cons_succ]
                refine wpAnyH_ready (rs := [19]) (by kernel_rfl) (by simp) ?_
                refine AllReadyH.cons (o := { dst := some 201, op := _, type := _, pos := _, after := _, guard := some (14, true) }) rfl (fun K hK => ?_) AllReadyH.nil
                go_simp
                refine (same_as false sa sc sb2 sd (some ⟨xb, xo, none⟩) kc va vc L O k k _ RS (RN.keep (chgOf7 hH)) HK.out.2.1 HK.out.2.2.1).mono ?_
                rintro e u19 ⟨rfl, g19⟩
                have hS19 := hold7 hH g19
                clear hH
                refine hK.out _ _ hS19 (fun hH => ?_)
                clear hK K
                try simp only [Act.put, List.setIfInBounds_toArray, List.set_cons_zero, List.set_cons_succ]
                refine wpAnyH_take (i := 20) (oi := { dst := some 202, op := _, type := _, pos := _, after := _, guard := none }) (v := ?_) rfl (by kernel_rfl) (by kernel_rfl) (by kernel_rfl) (fun _ _ _ h => h) (Or.inl ⟨by rfl, ?_⟩) hH ?_
                rotate_left
                · intro u hSu
                  try dsimp only at hSu
                  go_simp
                  try with_reducible rfl
                try simp only [Act.put, List.setIfInBounds_toArray, List.set_cons_zero, List.set_cons_succ]
                refine wpAnyH_take (i := 21) (oi := { dst := some 4, op := _, type := _, pos := _, after := _, guard := none }) (v := ?_) rfl (by kernel_rfl) (by kernel_rfl) (by kernel_rfl) (fun _ _ _ h => h) (Or.inl ⟨by rfl, ?_⟩) hH ?_
                rotate_left
                · intro u hSu
                  try dsimp only at hSu
                  go_simp
                  try with_reducible rfl
                try simp only [Act.put, List.setIfInBounds_toArray, List.set_cons_zero, List.set_cons_succ]
                refine wpAnyH_done (by kernel_rfl) ?_ _
                have gE := chgOf7 hS19
                go_wp2_with fail
                go_ret
                exact ⟨rfl, hw0 ▸ G.then gE⟩
          · have g7 : decide ((c9 : Int) < (k : Int)) = false := decide_eq_false (by omega)
            have g8 : decide (c9 < k) = false := decide_eq_false hck1
            have HC9 := mkHid hc9
            clear hc1 hc9
            go_wp2_with fail
            clear f1 f1' f1q f2 f3 f4 f5 f6 f7 f8 g1 g2 g3 g7 g8 c1
            obtain ⟨k1, hk1⟩ : ∃ k1, k + 1 = k1 := ⟨_, rfl⟩
            obtain ⟨X, hX⟩ : ∃ y, sub L 0 p ++ ([x] ++ sub L p k) = y := ⟨_, rfl⟩
            obtain ⟨Y, hY⟩ : ∃ y, sub O 0 p ++ ([7] ++ sub O p k) = y := ⟨_, rfl⟩
            have hif := ins_facts HK.out.2.1 HK.out.2.2.1 HK.out.1 hpk hk1 HK.out.2.2.2.2.2 (fun z hz => by rw [hq] at hz; cases hz; exact hxq) hX hY
            have HIF := mkHid (And.intro hif (And.intro hX hY))
            clear hif hX hY
            refine (insert_as (some ⟨xb, xo, none⟩) kc va vc L O k p k1 x 7 X Y w4 RN HK.out.2.1 HK.out.2.2.1 hpk hk1 (by omega) HIF.out.2.1 HIF.out.2.2).mono ?_
            rintro e u5 ⟨⟨ra, rc, rb, rd, rfl, RM⟩, gc⟩
            obtain ⟨w5, hw5⟩ : ∃ x, x = (u5.alloc (.cells #[.bool false, .slice ra k1 rc, .slice rb k1 rd] 24)) := ⟨_, rfl⟩
            have gu : Chg [] u5 w5 := by rw [hw5]; exact Chg.alloc [] _ _
            have gn := gc.then gu
            replace BN := BN.keep gn
            replace RN := RN.keep gn
            replace G := G.then gn
            have BM : Bx w5 (u5.heap.size) (.bool false) (.slice ra k1 rc) (.slice rb k1 rd) := by rw [hw5]; exact ⟨by simp [go_sem], by simp [go_sem], by simp [go_sem]⟩
            replace RM := RM.keep gu
            clear gc gu gn
            have hw5' := hw5.symm
            clear hw5
            have a0 := BM.c0
            have a1 := BM.c1
            have a2 := BM.c2
            go_wp2_with fail
            clear hw5'
            clear a0 a1 a2
            generalize u5.heap.size = mb at *
            refine (finds_as ra rc rb rd X Y k1 p x true w5 RM HIF.out.1.2.1 HIF.out.1.2.2.1 HIF.out.1.2.2.2.2.2.1 HIF.out.1.2.2.2.2.2.2.1).mono ?_
            rintro e w6 ⟨rfl, gc⟩
            replace BN := BN.keep gc
            replace RN := RN.keep gc
            replace BM := BM.keep gc
            replace RM := RM.keep gc
            replace G := G.then gc
            clear gc
            obtain ⟨yb, yo, rfl, cy, _⟩ := reads_lt RM.rv p _ (uvs_get HIF.out.1.2.2.2.2.1)
            go_wp2_with fail
            go_loopw [15] (fun iv wz => ∃ i : Nat, iv = .int .i64 i ∧ 1 ≤ i ∧ i ≤ k1 ∧ Chg [] w6 wz) (fun iv _ => k1 - (intOf iv).toNat)
            case atStart => exact ⟨1, rfl, Nat.le_refl _, by omega, Chg.refl _ _⟩
            case round =>
              obtain ⟨i, rfl, hi1, hik, gz⟩ := hrel
              replace BN := BN.keep gz
              replace RN := RN.keep gz
              replace BM := BM.keep gz
              replace RM := RM.keep gz
              replace G := G.then gz
              replace cy := gz.cellv cy (by simp)
              have a0 := BM.c0
              have a1 := BM.c1
              have a2 := BM.c2
              by_cases hil : i < k1
              · have d1 : decide (i < k1) = true := decide_eq_true hil
                have d2 : decide ((i : Int) < (k1 : Int)) = true := decide_eq_true (by omega)
                obtain ⟨j, rfl⟩ : ∃ j, i = j + 1 := ⟨i - 1, by omega⟩
                obtain ⟨y1, hy1⟩ : ∃ y, X[j]? = some y := ⟨_, List.getElem?_eq_getElem (by have := HIF.out.1.2.1; omega)⟩
                obtain ⟨y2, hy2⟩ : ∃ y, X[j + 1]? = some y := ⟨_, List.getElem?_eq_getElem (by have := HIF.out.1.2.1; omega)⟩
                have hyy := rising_lt HIF.out.1.1 hy1 hy2
                obtain ⟨xb, xo, rfl, c1, _⟩ := reads_lt RM.rk j _ (uvs_get hy1)
                have c2 := RM.rk.cell (j + 1) _ (uvs_get hy2)
                obtain ⟨i, hi⟩ : ∃ i, j + 1 = i := ⟨_, rfl⟩
                rw [hi] at d1 d2 c2 hil hi1 hik ⊢
                have q1 : (i : Int) - 1 = (j : Int) := by omega
                have q2 : IntKind.i64.wrap (j : Int) = (j : Int) := by rw [IntKind.wrap_i64]; omega
                have q3 : j < k1 := by omega
                have q4 : (j : Int) < (k1 : Int) := by omega
                have q5 : (i : Int) < (k1 : Int) := by omega
                have d3 : decide ((y1 : Int) ≥ (y2 : Int)) = false := decide_eq_false (by omega)
                have d4 : decide ((y2 : Int) ≤ (y1 : Int)) = false := decide_eq_false (by omega)
                have d5 : decide (y2 ≤ y1) = false := decide_eq_false (by omega)
                have HI := mkHid hi
                clear hi hyy hy1 hy2
                go_wp2_with fail
                go_quiet (fail)
                have gq : Chg [] wr (wr.drewN nq) := ⟨rfl, rfl, rfl, Nat.le_refl _, fun _ _ _ => rfl⟩
                have gz2 := gz.then gq
                clear gq q1 q2
                go_wp2_with fail
                exact ⟨⟨i + 1, by go_num, by omega, by omega, gz2⟩, by simp [intOf]; omega⟩
              · have d1 : decide (i < k1) = false := decide_eq_false hil
                have d2 : decide ((i : Int) < (k1 : Int)) = false := decide_eq_false (by omega)
                go_wp2_with fail
                have b1 : ((p : Int) == (p : Int)) = true := by simp
                have hlt1 : p < k1 := by omega
                have hlt2 : (p : Int) < (k1 : Int) := by omega
                refine wp_region_held_drew (S := fun u => u.cell? ⟨mb, 0, none⟩ = some (.bool false) ∧ u.cell? ⟨mb, 1, none⟩ = some (.slice ra k1 rc) ∧ u.cell? ⟨mb, 2, none⟩ = some (.slice (some ⟨yb, yo, none⟩) k1 rd) ∧ u.cell? ⟨nb, 0, none⟩ = some (.bool false) ∧ u.cell? ⟨nb, 1, none⟩ = some (.slice (some ⟨xb, xo, none⟩) k kc) ∧ u.cell? ⟨nb, 2, none⟩ = some (.slice va k vc) ∧ u.cell? ⟨yb, yo + p, none⟩ = some (.int .u64 ((7 : Nat) : Int)) ∧ Chg [] wr u) (by kernel_rfl) ?_ (fun hH => ?_)
                · exact ⟨(Chg.drew [] _).cellv BM.c0 (by simp), (Chg.drew [] _).cellv BM.c1 (by simp), (Chg.drew [] _).cellv BM.c2 (by simp), (Chg.drew [] _).cellv BN.c0 (by simp), (Chg.drew [] _).cellv BN.c1 (by simp), (Chg.drew [] _).cellv BN.c2 (by simp), (Chg.drew [] _).cellv cy (by simp), Chg.drew [] _⟩
                refine wpAnyH_take (i := 0) (oi := { dst := some 182, op := _, type := _, pos := _, after := _, guard := none }) (v := ?_) rfl (by kernel_rfl) (by kernel_rfl) (by kernel_rfl) (fun _ _ _ h => h) (Or.inl ⟨by rfl, ?_⟩) hH ?_
                rotate_left
                · intro u hSu
                  try dsimp only at hSu
                  go_simp
                  try with_reducible rfl
                try simp only [Act.put, List.setIfInBounds_toArray, List.set_cons_zero, List.set_cons_succ]
                refine wpAnyH_take (i := 1) (oi := { dst := some 183, op := _, type := _, pos := _, after := _, guard := none }) (v := ?_) rfl (by kernel_rfl) (by kernel_rfl) (by kernel_rfl) (fun _ _ _ h => h) (Or.inl ⟨by rfl, ?_⟩) hH ?_
                rotate_left
                · intro u hSu
                  try dsimp only at hSu
                  go_simp
                  try with_reducible rfl
                try simp only [Act.put, List.setIfInBounds_toArray, List.set_cons_zero, List.set_cons_succ]
                refine wpAnyH_take (i := 2) (oi := { dst := some 184, op := _, type := _, pos := _, after := _, guard := some (1, true) }) (v := ?_) rfl (by kernel_rfl) (by kernel_rfl) (by kernel_rfl) (fun _ _ _ h => h) (Or.inl ⟨by rfl, ?_⟩) hH ?_
                rotate_left
                · intro u hSu
                  try dsimp only at hSu
                  go_simp
                  try with_reducible rfl
                try simp only [Act.put, List.setIfInBounds_toArray, List.set_cons_zero, List.set_cons_succ]
                refine wpAnyH_take (i := 3) (oi := { dst := some 185, op := _, type := _, pos := _, after := _, guard := some (1, true) }) (v := ?_) rfl (by kernel_rfl) (by kernel_rfl) (by kernel_rfl) (fun _ _ _ h => h) (Or.inl ⟨by rfl, ?_⟩) hH ?_
                rotate_left
                · intro u hSu
                  try dsimp only at hSu
                  go_simp
                  try with_reducible rfl
                try simp only [Act.put, List.setIfInBounds_toArray, List.set_cons_zero, List.set_cons_succ]
                refine wpAnyH_take (i := 4) (oi := { dst := some 186, op := _, type := _, pos := _, after := _, guard := some (1, true) }) (v := ?_) rfl (by kernel_rfl) (by kernel_rfl) (by kernel_rfl) (fun _ _ _ h => h) (Or.inl ⟨by rfl, ?_⟩) hH ?_
                rotate_left
                · intro u hSu
                  try dsimp only at hSu
                  go_simp
                  try with_reducible rfl
                try simp only [Act.put, List.setIfInBounds_toArray, List.set_cons_zero, List.set_cons_succ]
                refine wpAnyH_take (i := 5) (oi := { dst := some 187, op := _, type := _, pos := _, after := _, guard := none }) (v := ?_) rfl (by kernel_rfl) (by kernel_rfl) (by kernel_rfl) (fun _ _ _ h => h) (Or.inl ⟨by rfl, ?_⟩) hH ?_
                rotate_left
                · intro u hSu
                  try dsimp only at hSu
                  go_simp
                  try with_reducible rfl
                try simp only [Act.put, List.setIfInBounds_toArray, List.set_cons_zero, List.set_cons_succ]
                refine wpAnyH_take (i := 6) (oi := { dst := some 188, op := _, type := _, pos := _, after := _, guard := none }) (v := ?_) rfl (by kernel_rfl) (by kernel_rfl) (by kernel_rfl) (fun _ _ _ h => h) (Or.inl ⟨by rfl, ?_⟩) hH ?_
                rotate_left
                · intro u hSu
                  try dsimp only at hSu
                  go_simp
                  try with_reducible rfl
                try simp only [Act.put, List.setIfInBounds_toArray, List.set_cons_zero, List.set_cons_succ]
                refine wpAnyH_take (i := 7) (oi := { dst := some 189, op := _, type := _, pos := _, after := _, guard := some (6, true) }) (v := ?_) rfl (by kernel_rfl) (by kernel_rfl) (by kernel_rfl) (fun _ _ _ h => h) (Or.inl ⟨by rfl, ?_⟩) hH ?_
                rotate_left
                · intro u hSu
                  try dsimp only at hSu
                  go_simp
                  try with_reducible rfl
                try simp only [Act.put, List.setIfInBounds_toArray, List.set_cons_zero, List.set_cons_succ]
                refine wpAnyH_take (i := 8) (oi := { dst := some 190, op := _, type := _, pos := _, after := _, guard := some (6, true) }) (v := ?_) rfl (by kernel_rfl) (by kernel_rfl) (by kernel_rfl) (fun _ _ _ h => h) (Or.inl ⟨by rfl, ?_⟩) hH ?_
                rotate_left
                · intro u hSu
                  try dsimp only at hSu
                  go_simp
                  try with_reducible rfl
                try simp only [Act.put, List.setIfInBounds_toArray, List.set_cons_zero, List.set_cons_succ]
                refine wpAnyH_take (i := 9) (oi := { dst := some 191, op := _, type := _, pos := _, after := _, guard := some (6, true) }) (v := ?_) rfl (by kernel_rfl) (by kernel_rfl) (by kernel_rfl) (fun _ _ _ h => h) (Or.inl ⟨by rfl, ?_⟩) hH ?_
                rotate_left
                · intro u hSu
                  try dsimp only at hSu
                  go_simp
                  try with_reducible rfl
                try simp only [Act.put, List.setIfInBounds_toArray, List.set_cons_zero, List.set_cons_succ]
                refine wpAnyH_take (i := 10) (oi := { dst := some 192, op := _, type := _, pos := _, after := _, guard := some (6, true) }) (v := ?_) rfl (by kernel_rfl) (by kernel_rfl) (by kernel_rfl) (fun _ _ _ h => h) (Or.inl ⟨by rfl, ?_⟩) hH ?_
                rotate_left
                · intro u hSu
                  try dsimp only at hSu
                  go_simp
                  try with_reducible rfl
                try simp only [Act.put, List.setIfInBounds_toArray, List.set_cons_zero, List.set_cons_succ]
                refine wpAnyH_take (i := 11) (oi := { dst := some 193, op := _, type := _, pos := _, after := _, guard := some (6, true) }) (v := ?_) rfl (by kernel_rfl) (by kernel_rfl) (by kernel_rfl) (fun _ _ _ h => h) (Or.inl ⟨by rfl, ?_⟩) hH ?_
                rotate_left
                · intro u hSu
                  try dsimp only at hSu
                  go_simp
                  try with_reducible rfl
                try simp only [Act.put, List.setIfInBounds_toArray, List.set_cons_zero, List.set_cons_succ]
                refine wpAnyH_take (i := 12) (oi := { dst := some 194, op := _, type := _, pos := _, after := _, guard := some (6, true) }) (v := ?_) rfl (by kernel_rfl) (by kernel_rfl) (by kernel_rfl) (fun _ _ _ h => h) (Or.inl ⟨by rfl, ?_⟩) hH ?_
                rotate_left
                · intro u hSu
                  try dsimp only at hSu
                  go_simp
                  try with_reducible rfl
                try simp only [Act.put, List.setIfInBounds_toArray, List.set_cons_zero, List.set_cons_succ]
                refine wpAnyH_take (i := 13) (oi := { dst := some 195, op := _, type := _, pos := _, after := _, guard := none }) (v := ?_) rfl (by kernel_rfl) (by kernel_rfl) (by kernel_rfl) (fun _ _ _ h => h) (Or.inl ⟨by rfl, ?_⟩) hH ?_
                rotate_left
                · intro u hSu
                  try dsimp only at hSu
                  go_simp
                  try with_reducible rfl
                try simp only [Act.put, List.setIfInBounds_toArray, List.set_cons_zero, List.set_cons_succ]
                refine wpAnyH_take (i := 14) (oi := { dst := some 196, op := _, type := _, pos := _, after := _, guard := none }) (v := ?_) rfl (by kernel_rfl) (by kernel_rfl) (by kernel_rfl) (fun _ _ _ h => h) (Or.inl ⟨by rfl, ?_⟩) hH ?_
                rotate_left
                · intro u hSu
                  try dsimp only at hSu
                  go_simp
                  try with_reducible rfl
                try simp only [Act.put, List.setIfInBounds_toArray, List.set_cons_zero, List.set_cons_succ]
                refine wpAnyH_take (i := 15) (oi := { dst := some 197, op := _, type := _, pos := _, after := _, guard := some (14, true) }) (v := ?_) rfl (by kernel_rfl) (by kernel_rfl) (by kernel_rfl) (fun _ _ _ h => h) (Or.inl ⟨by rfl, ?_⟩) hH ?_
                rotate_left
                · intro u hSu
                  try dsimp only at hSu
                  go_simp
                  try with_reducible rfl
                try simp only [Act.put, List.setIfInBounds_toArray, List.set_cons_zero, List.set_cons_succ]
                refine wpAnyH_take (i := 16) (oi := { dst := some 198, op := _, type := _, pos := _, after := _, guard := some (14, true) }) (v := ?_) rfl (by kernel_rfl) (by kernel_rfl) (by kernel_rfl) (fun _ _ _ h => h) (Or.inl ⟨by rfl, ?_⟩) hH ?_
                rotate_left
                · intro u hSu
                  try dsimp only at hSu
                  go_simp
                  try with_reducible rfl
                try simp only [Act.put, List.setIfInBounds_toArray, List.set_cons_zero, List.set_cons_succ]
                refine wpAnyH_take (i := 18) (oi := { dst := some 200, op := _, type := _, pos := _, after := _, guard := some (14, true) }) (v := ?_) rfl (by kernel_rfl) (by kernel_rfl) (by kernel_rfl) (fun _ _ _ h => h) (Or.inl ⟨by rfl, ?_⟩) hH ?_
                rotate_left
                · intro u hSu
                  try dsimp only at hSu
                  go_simp
                  try with_reducible rfl
                try simp only [Act.put, List.setIfInBounds_toArray, List.set_cons_zero, List.set_cons_succ]
                refine wpAnyH_ready (rs := [17]) (by kernel_rfl) (by simp) ?_
                refine AllReadyH.cons (o := { dst := some 199, op := _, type := _, pos := _, after := _, guard := some (14, true) }) rfl (fun K hK => ?_) AllReadyH.nil
                go_simp
                refine (remove_as ra rc (some ⟨yb, yo, none⟩) rd X Y k p k1 L O _ (RM.keep (chgOf7 hH)) HIF.out.1.2.1 HIF.out.1.2.2.1 hpk hk1 (by omega) HIF.out.1.2.2.2.2.2.2.2.1 HIF.out.1.2.2.2.2.2.2.2.2 HK.out.2.1 HK.out.2.2.1).mono ?_
                rintro e u17 ⟨⟨sa, sc, sb2, sd, rfl, RS⟩, g17⟩
                have hS17 := hold7 hH g17
                clear hH
                refine hK.out _ _ hS17 (fun hH => ?_)
                clear hK K
                try simp only [Act.put, List.setIfInBounds_toArray, List.set_cons_zero, List.set_cons_succ]
                refine wpAnyH_ready (rs := [19]) (by kernel_rfl) (by simp) ?_
                refine AllReadyH.cons (o := { dst := some 201, op := _, type := _, pos := _, after := _, guard := some (14, true) }) rfl (fun K hK => ?_) AllReadyH.nil
                go_simp
                refine (same_as false sa sc sb2 sd (some ⟨xb, xo, none⟩) kc va vc L O k k _ RS (RN.keep (chgOf7 hH)) HK.out.2.1 HK.out.2.2.1).mono ?_
                rintro e u19 ⟨rfl, g19⟩
                have hS19 := hold7 hH g19
                clear hH
                refine hK.out _ _ hS19 (fun hH => ?_)
                clear hK K
                try simp only [Act.put, List.setIfInBounds_toArray, List.set_cons_zero, List.set_cons_succ]
                refine wpAnyH_take (i := 20) (oi := { dst := some 202, op := _, type := _, pos := _, after := _, guard := none }) (v := ?_) rfl (by kernel_rfl) (by kernel_rfl) (by kernel_rfl) (fun _ _ _ h => h) (Or.inl ⟨by rfl, ?_⟩) hH ?_
                rotate_left
                · intro u hSu
                  try dsimp only at hSu
                  go_simp
                  try with_reducible rfl
                try simp only [Act.put, List.setIfInBounds_toArray, List.set_cons_zero, List.set_cons_succ]
                refine wpAnyH_take (i := 21) (oi := { dst := some 4, op := _, type := _, pos := _, after := _, guard := none }) (v := ?_) rfl (by kernel_rfl) (by kernel_rfl) (by kernel_rfl) (fun _ _ _ h => h) (Or.inl ⟨by rfl, ?_⟩) hH ?_
                rotate_left
                · intro u hSu
                  try dsimp only at hSu
                  go_simp
                  try with_reducible rfl
                try simp only [Act.put, List.setIfInBounds_toArray, List.set_cons_zero, List.set_cons_succ]
                refine wpAnyH_done (by kernel_rfl) ?_ _
                have gE := chgOf7 hS19
                go_wp2_with fail
                go_ret
                exact ⟨rfl, hw0 ▸ G.then gE⟩
        · have g1 : decide ((y : Int) > (x : Int)) = false := decide_eq_false (by omega)
          have g2 : decide ((x : Int) < (y : Int)) = false := decide_eq_false (by omega)
          have g3 : decide (x < y) = false := decide_eq_false (by omega)
          clear hcy
          by_cases hck1 : c9 < k
          · have g7 : decide ((c9 : Int) < (k : Int)) = true := decide_eq_true (by omega)
            have g8 : decide (c9 < k) = true := decide_eq_true hck1
            have g9 : (c9 : Int) < (k : Int) := by omega
            obtain ⟨z1, hz1⟩ : ∃ z, L[c9]? = some z := ⟨_, List.getElem?_eq_getElem (by have := HK.out.2.1; omega)⟩
            have hxz := hc1 z1 hz1
            have c2 := RN.rk.cell c9 _ (uvs_get hz1)
            have i1 : decide ((z1 : Int) ≤ (x : Int)) = false := decide_eq_false (by omega)
            have i2 : decide (z1 ≤ x) = false := decide_eq_false (by omega)
            have HC9 := mkHid (And.intro hc9 hxz)
            clear hz1 hc1 hc9 hxz
            go_wp2_with fail
            clear f1 f1' f1q f2 f3 f4 f5 f6 f7 f8 g1 g2 g3 g7 g8 g9 i1 i2 c1 c2
            obtain ⟨k1, hk1⟩ : ∃ k1, k + 1 = k1 := ⟨_, rfl⟩
            obtain ⟨X, hX⟩ : ∃ y, sub L 0 p ++ ([x] ++ sub L p k) = y := ⟨_, rfl⟩
            obtain ⟨Y, hY⟩ : ∃ y, sub O 0 p ++ ([7] ++ sub O p k) = y := ⟨_, rfl⟩
            have hif := ins_facts HK.out.2.1 HK.out.2.2.1 HK.out.1 hpk hk1 HK.out.2.2.2.2.2 (fun z hz => by rw [hq] at hz; cases hz; exact hxq) hX hY
            have HIF := mkHid (And.intro hif (And.intro hX hY))
            clear hif hX hY
            refine (insert_as (some ⟨xb, xo, none⟩) kc va vc L O k p k1 x 7 X Y w4 RN HK.out.2.1 HK.out.2.2.1 hpk hk1 (by omega) HIF.out.2.1 HIF.out.2.2).mono ?_
            rintro e u5 ⟨⟨ra, rc, rb, rd, rfl, RM⟩, gc⟩
            obtain ⟨w5, hw5⟩ : ∃ x, x = (u5.alloc (.cells #[.bool false, .slice ra k1 rc, .slice rb k1 rd] 24)) := ⟨_, rfl⟩
            have gu : Chg [] u5 w5 := by rw [hw5]; exact Chg.alloc [] _ _
            have gn := gc.then gu
            replace BN := BN.keep gn
            replace RN := RN.keep gn
            replace G := G.then gn
            have BM : Bx w5 (u5.heap.size) (.bool false) (.slice ra k1 rc) (.slice rb k1 rd) := by rw [hw5]; exact ⟨by simp [go_sem], by simp [go_sem], by simp [go_sem]⟩
            replace RM := RM.keep gu
            clear gc gu gn
            have hw5' := hw5.symm
            clear hw5
            have a0 := BM.c0
            have a1 := BM.c1
            have a2 := BM.c2
            go_wp2_with fail
            clear hw5'
            clear a0 a1 a2
            generalize u5.heap.size = mb at *
            refine (finds_as ra rc rb rd X Y k1 p x true w5 RM HIF.out.1.2.1 HIF.out.1.2.2.1 HIF.out.1.2.2.2.2.2.1 HIF.out.1.2.2.2.2.2.2.1).mono ?_
            rintro e w6 ⟨rfl, gc⟩
            replace BN := BN.keep gc
            replace RN := RN.keep gc
            replace BM := BM.keep gc
            replace RM := RM.keep gc
            replace G := G.then gc
            clear gc
            obtain ⟨yb, yo, rfl, cy, _⟩ := reads_lt RM.rv p _ (uvs_get HIF.out.1.2.2.2.2.1)
            go_wp2_with fail
            go_loopw [15] (fun iv wz => ∃ i : Nat, iv = .int .i64 i ∧ 1 ≤ i ∧ i ≤ k1 ∧ Chg [] w6 wz) (fun iv _ => k1 - (intOf iv).toNat)
            case atStart => exact ⟨1, rfl, Nat.le_refl _, by omega, Chg.refl _ _⟩
            case round =>
              obtain ⟨i, rfl, hi1, hik, gz⟩ := hrel
              replace BN := BN.keep gz
              replace RN := RN.keep gz
              replace BM := BM.keep gz
              replace RM := RM.keep gz
              replace G := G.then gz
              replace cy := gz.cellv cy (by simp)
              have a0 := BM.c0
              have a1 := BM.c1
              have a2 := BM.c2
              by_cases hil : i < k1
              · have d1 : decide (i < k1) = true := decide_eq_true hil
                have d2 : decide ((i : Int) < (k1 : Int)) = true := decide_eq_true (by omega)
                obtain ⟨j, rfl⟩ : ∃ j, i = j + 1 := ⟨i - 1, by omega⟩
                obtain ⟨y1, hy1⟩ : ∃ y, X[j]? = some y := ⟨_, List.getElem?_eq_getElem (by have := HIF.out.1.2.1; omega)⟩
                obtain ⟨y2, hy2⟩ : ∃ y, X[j + 1]? = some y := ⟨_, List.getElem?_eq_getElem (by have := HIF.out.1.2.1; omega)⟩
                have hyy := rising_lt HIF.out.1.1 hy1 hy2
                obtain ⟨xb, xo, rfl, c1, _⟩ := reads_lt RM.rk j _ (uvs_get hy1)
                have c2 := RM.rk.cell (j + 1) _ (uvs_get hy2)
                obtain ⟨i, hi⟩ : ∃ i, j + 1 = i := ⟨_, rfl⟩
                rw [hi] at d1 d2 c2 hil hi1 hik ⊢
                have q1 : (i : Int) - 1 = (j : Int) := by omega
                have q2 : IntKind.i64.wrap (j : Int) = (j : Int) := by rw [IntKind.wrap_i64]; omega
                have q3 : j < k1 := by omega
                have q4 : (j : Int) < (k1 : Int) := by omega
                have q5 : (i : Int) < (k1 : Int) := by omega
                have d3 : decide ((y1 : Int) ≥ (y2 : Int)) = false := decide_eq_false (by omega)
                have d4 : decide ((y2 : Int) ≤ (y1 : Int)) = false := decide_eq_false (by omega)
                have d5 : decide (y2 ≤ y1) = false := decide_eq_false (by omega)
                have HI := mkHid hi
                clear hi hyy hy1 hy2
                go_wp2_with fail
                go_quiet (fail)
                have gq : Chg [] wr (wr.drewN nq) := ⟨rfl, rfl, rfl, Nat.le_refl _, fun _ _ _ => rfl⟩
                have gz2 := gz.then gq
                clear gq q1 q2
                go_wp2_with fail
                exact ⟨⟨i + 1, by go_num, by omega, by omega, gz2⟩, by simp [intOf]; omega⟩
              · have d1 : decide (i < k1) = false := decide_eq_false hil
                have d2 : decide ((i : Int) < (k1 : Int)) = false := decide_eq_false (by omega)
                go_wp2_with fail
                have b1 : ((p : Int) == (p : Int)) = true := by simp
                have hlt1 : p < k1 := by omega
                have hlt2 : (p : Int) < (k1 : Int) := by omega
                refine wp_region_held_drew (S := fun u => u.cell? ⟨mb, 0, none⟩ = some (.bool false) ∧ u.cell? ⟨mb, 1, none⟩ = some (.slice ra k1 rc) ∧ u.cell? ⟨mb, 2, none⟩ = some (.slice (some ⟨yb, yo, none⟩) k1 rd) ∧ u.cell? ⟨nb, 0, none⟩ = some (.bool false) ∧ u.cell? ⟨nb, 1, none⟩ = some (.slice (some ⟨xb, xo, none⟩) k kc) ∧ u.cell? ⟨nb, 2, none⟩ = some (.slice va k vc) ∧ u.cell? ⟨yb, yo + p, none⟩ = some (.int .u64 ((7 : Nat) : Int)) ∧ Chg [] wr u) (by kernel_rfl) ?_ (fun hH => ?_)
                · exact ⟨(Chg.drew [] _).cellv BM.c0 (by simp), (Chg.drew [] _).cellv BM.c1 (by simp), (Chg.drew [] _).cellv BM.c2 (by simp), (Chg.drew [] _).cellv BN.c0 (by simp), (Chg.drew [] _).cellv BN.c1 (by simp), (Chg.drew [] _).cellv BN.c2 (by simp), (Chg.drew [] _).cellv cy (by simp), Chg.drew [] _⟩
                refine wpAnyH_take (i := 0) (oi := { dst := some 182, op := _, type := _, pos := _, after := _, guard := none }) (v := ?_) rfl (by kernel_rfl) (by kernel_rfl) (by kernel_rfl) (fun _ _ _ h => h) (Or.inl ⟨by rfl, ?_⟩) hH ?_
                rotate_left
                · intro u hSu
                  try dsimp only at hSu
                  go_simp
                  try with_reducible rfl
                try simp only [Act.put, List.setIfInBounds_toArray, List.set_cons_zero, List.set_cons_succ]
                refine wpAnyH_take (i := 1) (oi := { dst := some 183, op := _, type := _, pos := _, after := _, guard := none }) (v := ?_) rfl (by kernel_rfl) (by kernel_rfl) (by kernel_rfl) (fun _ _ _ h => h) (Or.inl ⟨by rfl, ?_⟩) hH ?_
                rotate_left
                · intro u hSu
                  try dsimp only at hSu
                  go_simp
                  try with_reducible rfl
                try simp only [Act.put, List.setIfInBounds_toArray, List.set_cons_zero, List.set_cons_succ]
                refine wpAnyH_take (i := 2) (oi := { dst := some 184, op := _, type := _, pos := _, after := _, guard := some (1, true) }) (v := ?_) rfl (by kernel_rfl) (by kernel_rfl) (by kernel_rfl) (fun _ _ _ h => h) (Or.inl ⟨by rfl, ?_⟩) hH ?_
                rotate_left
                · intro u hSu
                  try dsimp only at hSu
                  go_simp
                  try with_reducible rfl
                try simp only [Act.put, List.setIfInBounds_toArray, List.set_cons_zero, List.set_cons_succ]
                refine wpAnyH_take (i := 3) (oi := { dst := some 185, op := _, type := _, pos := _, after := _, guard := some (1, true) }) (v := ?_) rfl (by kernel_rfl) (by kernel_rfl) (by kernel_rfl) (fun _ _ _ h => h) (Or.inl ⟨by rfl, ?_⟩) hH ?_
                rotate_left
                · intro u hSu
                  try dsimp only at hSu
                  go_simp
                  try with_reducible rfl
                try simp only [Act.put, List.setIfInBounds_toArray, List.set_cons_zero, List.set_cons_succ]
                refine wpAnyH_take (i := 4) (oi := { dst := some 186, op := _, type := _, pos := _, after := _, guard := some (1, true) }) (v := ?_) rfl (by kernel_rfl) (by kernel_rfl) (by kernel_rfl) (fun _ _ _ h => h) (Or.inl ⟨by rfl, ?_⟩) hH ?_
                rotate_left
                · intro u hSu
                  try dsimp only at hSu
                  go_simp
                  try with_reducible rfl
                try simp only [Act.put, List.setIfInBounds_toArray, List.set_cons_zero, List.set_cons_succ]
                refine wpAnyH_take (i := 5) (oi := { dst := some 187, op := _, type := _, pos := _, after := _, guard := none }) (v := ?_) rfl (by kernel_rfl) (by kernel_rfl) (by kernel_rfl) (fun _ _ _ h => h) (Or.inl ⟨by rfl, ?_⟩) hH ?_
                rotate_left
                · intro u hSu
                  try dsimp only at hSu
                  go_simp
                  try with_reducible rfl
                try simp only [Act.put, List.setIfInBounds_toArray, List.set_cons_zero, List.set_cons_succ]
                refine wpAnyH_take (i := 6) (oi := { dst := some 188, op := _, type := _, pos := _, after := _, guard := none }) (v := ?_) rfl (by kernel_rfl) (by kernel_rfl) (by kernel_rfl) (fun _ _ _ h => h) (Or.inl ⟨by rfl, ?_⟩) hH ?_
                rotate_left
                · intro u hSu
                  try dsimp only at hSu
                  go_simp
                  try with_reducible rfl
                try simp only [Act.put, List.setIfInBounds_toArray, List.set_cons_zero, List.set_cons_succ]
                refine wpAnyH_take (i := 7) (oi := { dst := some 189, op := _, type := _, pos := _, after := _, guard := some (6, true) }) (v := ?_) rfl (by kernel_rfl) (by kernel_rfl) (by kernel_rfl) (fun _ _ _ h => h) (Or.inl ⟨by rfl, ?_⟩) hH ?_
                rotate_left
                · intro u hSu
                  try dsimp only at hSu
                  go_simp
                  try with_reducible rfl
                try simp only [Act.put, List.setIfInBounds_toArray, List.set_cons_zero, List.set_cons_succ]
                refine wpAnyH_take (i := 8) (oi := { dst := some 190, op := _, type := _, pos := _, after := _, guard := some (6, true) }) (v := ?_) rfl (by kernel_rfl) (by kernel_rfl) (by kernel_rfl) (fun _ _ _ h => h) (Or.inl ⟨by rfl, ?_⟩) hH ?_
                rotate_left
                · intro u hSu
                  try dsimp only at hSu
                  go_simp
                  try with_reducible rfl
                try simp only [Act.put, List.setIfInBounds_toArray, List.set_cons_zero, List.set_cons_succ]
                refine wpAnyH_take (i := 9) (oi := { dst := some 191, op := _, type := _, pos := _, after := _, guard := some (6, true) }) (v := ?_) rfl (by kernel_rfl) (by kernel_rfl) (by kernel_rfl) (fun _ _ _ h => h) (Or.inl ⟨by rfl, ?_⟩) hH ?_
                rotate_left
                · intro u hSu
                  try dsimp only at hSu
                  go_simp
                  try with_reducible rfl
                try simp only [Act.put, List.setIfInBounds_toArray, List.set_cons_zero, List.set_cons_succ]
                refine wpAnyH_take (i := 10) (oi := { dst := some 192, op := _, type := _, pos := _, after := _, guard := some (6, true) }) (v := ?_) rfl (by kernel_rfl) (by kernel_rfl) (by kernel_rfl) (fun _ _ _ h => h) (Or.inl ⟨by rfl, ?_⟩) hH ?_
                rotate_left
                · intro u hSu
                  try dsimp only at hSu
                  go_simp
                  try with_reducible rfl
                try simp only [Act.put, List.setIfInBounds_toArray, List.set_cons_zero, List.set_cons_succ]
                refine wpAnyH_take (i := 11) (oi := { dst := some 193, op := _, type := _, pos := _, after := _, guard := some (6, true) }) (v := ?_) rfl (by kernel_rfl) (by kernel_rfl) (by kernel_rfl) (fun _ _ _ h => h) (Or.inl ⟨by rfl, ?_⟩) hH ?_
                rotate_left
                · intro u hSu
                  try dsimp only at hSu
                  go_simp
                  try with_reducible rfl
                try simp only [Act.put, List.setIfInBounds_toArray, List.set_cons_zero, List.set_cons_succ]
                refine wpAnyH_take (i := 12) (oi := { dst := some 194, op := _, type := _, pos := _, after := _, guard := some (6, true) }) (v := ?_) rfl (by kernel_rfl) (by kernel_rfl) (by kernel_rfl) (fun _ _ _ h => h) (Or.inl ⟨by rfl, ?_⟩) hH ?_
                rotate_left
                · intro u hSu
                  try dsimp only at hSu
                  go_simp
                  try with_reducible rfl
                try simp only [Act.put, List.setIfInBounds_toArray, List.set_cons_zero, List.set_cons_succ]
                refine wpAnyH_take (i := 13) (oi := { dst := some 195, op := _, type := _, pos := _, after := _, guard := none }) (v := ?_) rfl (by kernel_rfl) (by kernel_rfl) (by kernel_rfl) (fun _ _ _ h => h) (Or.inl ⟨by rfl, ?_⟩) hH ?_
                rotate_left
                · intro u hSu
                  try dsimp only at hSu
                  go_simp
                  try with_reducible rfl
                try simp only [Act.put, List.setIfInBounds_toArray, List.set_cons_zero, List.set_cons_succ]
                refine wpAnyH_take (i := 14) (oi := { dst := some 196, op := _, type := _, pos := _, after := _, guard := none }) (v := ?_) rfl (by kernel_rfl) (by kernel_rfl) (by kernel_rfl) (fun _ _ _ h => h) (Or.inl ⟨by rfl, ?_⟩) hH ?_
                rotate_left
                · intro u hSu
                  try dsimp only at hSu
                  go_simp
                  try with_reducible rfl
                try simp only [Act.put, List.setIfInBounds_toArray, List.set_cons_zero, List.set_cons_succ]
                refine wpAnyH_take (i := 15) (oi := { dst := some 197, op := _, type := _, pos := _, after := _, guard := some (14, true) }) (v := ?_) rfl (by kernel_rfl) (by kernel_rfl) (by kernel_rfl) (fun _ _ _ h => h) (Or.inl ⟨by rfl, ?_⟩) hH ?_
                rotate_left
                · intro u hSu
                  try dsimp only at hSu
                  go_simp
                  try with_reducible rfl
                try simp only [Act.put, List.setIfInBounds_toArray, List.set_cons_zero, List.set_cons_succ]
                refine wpAnyH_take (i := 16) (oi := { dst := some 198, op := _, type := _, pos := _, after := _, guard := some (14, true) }) (v := ?_) rfl (by kernel_rfl) (by kernel_rfl) (by kernel_rfl) (fun _ _ _ h => h) (Or.inl ⟨by rfl, ?_⟩) hH ?_
                rotate_left
                · intro u hSu
                  try dsimp only at hSu
                  go_simp
                  try with_reducible rfl
                try simp only [Act.put, List.setIfInBounds_toArray, List.set_cons_zero, List.set_cons_succ]
                refine wpAnyH_take (i := 18) (oi := { dst := some 200, op := _, type := _, pos := _, after := _, guard := some (14, true) }) (v := ?_) rfl (by kernel_rfl) (by kernel_rfl) (by kernel_rfl) (fun _ _ _ h => h) (Or.inl ⟨by rfl, ?_⟩) hH ?_
                rotate_left
                · intro u hSu
                  try dsimp only at hSu
                  go_simp
                  try with_reducible rfl
                try simp only [Act.put, List.setIfInBounds_toArray, List.set_cons_zero, List.set_cons_succ]
                refine wpAnyH_ready (rs := [17]) (by kernel_rfl) (by simp) ?_
                refine AllReadyH.cons (o := { dst := some 199, op := _, type := _, pos := _, after := _, guard := some (14, true) }) rfl (fun K hK => ?_) AllReadyH.nil
                go_simp
                refine (remove_as ra rc (some ⟨yb, yo, none⟩) rd X Y k p k1 L O _ (RM.keep (chgOf7 hH)) HIF.out.1.2.1 HIF.out.1.2.2.1 hpk hk1 (by omega) HIF.out.1.2.2.2.2.2.2.2.1 HIF.out.1.2.2.2.2.2.2.2.2 HK.out.2.1 HK.out.2.2.1).mono ?_
                rintro e u17 ⟨⟨sa, sc, sb2, sd, rfl, RS⟩, g17⟩
                have hS17 := hold7 hH g17
                clear hH
                refine hK.out _ _ hS17 (fun hH => ?_)
                clear hK K
                try simp only [Act.put, List.setIfInBounds_toArray, List.set_cons_zero, List.set_cons_succ]
                refine wpAnyH_ready (rs := [19]) (by kernel_rfl) (by simp) ?_
                refine AllReadyH.cons (o := { dst := some 201, op := _, type := _, pos := _, after := _, guard := some (14, true) }) rfl (fun K hK => ?_) AllReadyH.nil
                go_simp
                refine (same_as false sa sc sb2 sd (some ⟨xb, xo, none⟩) kc va vc L O k k _ RS (RN.keep (chgOf7 hH)) HK.out.2.1 HK.out.2.2.1).mono ?_
                rintro e u19 ⟨rfl, g19⟩
                have hS19 := hold7 hH g19
                clear hH
                refine hK.out _ _ hS19 (fun hH => ?_)
                clear hK K
                try simp only [Act.put, List.setIfInBounds_toArray, List.set_cons_zero, List.set_cons_succ]
                refine wpAnyH_take (i := 20) (oi := { dst := some 202, op := _, type := _, pos := _, after := _, guard := none }) (v := ?_) rfl (by kernel_rfl) (by kernel_rfl) (by kernel_rfl) (fun _ _ _ h => h) (Or.inl ⟨by rfl, ?_⟩) hH ?_
                rotate_left
                · intro u hSu
                  try dsimp only at hSu
                  go_simp
                  try with_reducible rfl
                try simp only [Act.put, List.setIfInBounds_toArray, List.set_cons_zero, List.set_cons_succ]
                refine wpAnyH_take (i := 21) (oi := { dst := some 4, op := _, type := _, pos := _, after := _, guard := none }) (v := ?_) rfl (by kernel_rfl) (by kernel_rfl) (by kernel_rfl) (fun _ _ _ h => h) (Or.inl ⟨by rfl, ?_⟩) hH ?_
                rotate_left
                · intro u hSu
                  try dsimp only at hSu
                  go_simp
                  try with_reducible rfl
                try simp only [Act.put, List.setIfInBounds_toArray, List.set_cons_zero, List.set_cons_succ]
                refine wpAnyH_done (by kernel_rfl) ?_ _
                have gE := chgOf7 hS19
                go_wp2_with fail
                go_ret
                exact ⟨rfl, hw0 ▸ G.then gE⟩
          · have g7 : decide ((c9 : Int) < (k : Int)) = false := decide_eq_false (by omega)
            have g8 : decide (c9 < k) = false := decide_eq_false hck1
            have HC9 := mkHid hc9
            clear hc1 hc9
            go_wp2_with fail
            clear f1 f1' f1q f2 f3 f4 f5 f6 f7 f8 g1 g2 g3 g7 g8 c1
            obtain ⟨k1, hk1⟩ : ∃ k1, k + 1 = k1 := ⟨_, rfl⟩
            obtain ⟨X, hX⟩ : ∃ y, sub L 0 p ++ ([x] ++ sub L p k) = y := ⟨_, rfl⟩
            obtain ⟨Y, hY⟩ : ∃ y, sub O 0 p ++ ([7] ++ sub O p k) = y := ⟨_, rfl⟩
            have hif := ins_facts HK.out.2.1 HK.out.2.2.1 HK.out.1 hpk hk1 HK.out.2.2.2.2.2 (fun z hz => by rw [hq] at hz; cases hz; exact hxq) hX hY
            have HIF := mkHid (And.intro hif (And.intro hX hY))
            clear hif hX hY
            refine (insert_as (some ⟨xb, xo, none⟩) kc va vc L O k p k1 x 7 X Y w4 RN HK.out.2.1 HK.out.2.2.1 hpk hk1 (by omega) HIF.out.2.1 HIF.out.2.2).mono ?_
            rintro e u5 ⟨⟨ra, rc, rb, rd, rfl, RM⟩, gc⟩
            obtain ⟨w5, hw5⟩ : ∃ x, x = (u5.alloc (.cells #[.bool false, .slice ra k1 rc, .slice rb k1 rd] 24)) := ⟨_, rfl⟩
            have gu : Chg [] u5 w5 := by rw [hw5]; exact Chg.alloc [] _ _
            have gn := gc.then gu
            replace BN := BN.keep gn
            replace RN := RN.keep gn
            replace G := G.then gn
            have BM : Bx w5 (u5.heap.size) (.bool false) (.slice ra k1 rc) (.slice rb k1 rd) := by rw [hw5]; exact ⟨by simp [go_sem], by simp [go_sem], by simp [go_sem]⟩
            replace RM := RM.keep gu
            clear gc gu gn
            have hw5' := hw5.symm
            clear hw5
            have a0 := BM.c0
            have a1 := BM.c1
            have a2 := BM.c2
            go_wp2_with fail
            clear hw5'
            clear a0 a1 a2
            generalize u5.heap.size = mb at *
            refine (finds_as ra rc rb rd X Y k1 p x true w5 RM HIF.out.1.2.1 HIF.out.1.2.2.1 HIF.out.1.2.2.2.2.2.1 HIF.out.1.2.2.2.2.2.2.1).mono ?_
            rintro e w6 ⟨rfl, gc⟩
            replace BN := BN.keep gc
            replace RN := RN.keep gc
            replace BM := BM.keep gc
            replace RM := RM.keep gc
            replace G := G.then gc
            clear gc
            obtain ⟨yb, yo, rfl, cy, _⟩ := reads_lt RM.rv p _ (uvs_get HIF.out.1.2.2.2.2.1)
            go_wp2_with fail
            go_loopw [15] (fun iv wz => ∃ i : Nat, iv = .int .i64 i ∧ 1 ≤ i ∧ i ≤ k1 ∧ Chg [] w6 wz) (fun iv _ => k1 - (intOf iv).toNat)
            case atStart => exact ⟨1, rfl, Nat.le_refl _, by omega, Chg.refl _ _⟩
            case round =>
              obtain ⟨i, rfl, hi1, hik, gz⟩ := hrel
              replace BN := BN.keep gz
              replace RN := RN.keep gz
              replace BM := BM.keep gz
              replace RM := RM.keep gz
              replace G := G.then gz
              replace cy := gz.cellv cy (by simp)
              have a0 := BM.c0
              have a1 := BM.c1
              have a2 := BM.c2
              by_cases hil : i < k1
              · have d1 : decide (i < k1) = true := decide_eq_true hil
                have d2 : decide ((i : Int) < (k1 : Int)) = true := decide_eq_true (by omega)
                obtain ⟨j, rfl⟩ : ∃ j, i = j + 1 := ⟨i - 1, by omega⟩
                obtain ⟨y1, hy1⟩ : ∃ y, X[j]? = some y := ⟨_, List.getElem?_eq_getElem (by have := HIF.out.1.2.1; omega)⟩
                obtain ⟨y2, hy2⟩ : ∃ y, X[j + 1]? = some y := ⟨_, List.getElem?_eq_getElem (by have := HIF.out.1.2.1; omega)⟩
                have hyy := rising_lt HIF.out.1.1 hy1 hy2
                obtain ⟨xb, xo, rfl, c1, _⟩ := reads_lt RM.rk j _ (uvs_get hy1)
                have c2 := RM.rk.cell (j + 1) _ (uvs_get hy2)
                obtain ⟨i, hi⟩ : ∃ i, j + 1 = i := ⟨_, rfl⟩
                rw [hi] at d1 d2 c2 hil hi1 hik ⊢
                have q1 : (i : Int) - 1 = (j : Int) := by omega
                have q2 : IntKind.i64.wrap (j : Int) = (j : Int) := by rw [IntKind.wrap_i64]; omega
                have q3 : j < k1 := by omega
                have q4 : (j : Int) < (k1 : Int) := by omega
                have q5 : (i : Int) < (k1 : Int) := by omega
                have d3 : decide ((y1 : Int) ≥ (y2 : Int)) = false := decide_eq_false (by omega)
                have d4 : decide ((y2 : Int) ≤ (y1 : Int)) = false := decide_eq_false (by omega)
                have d5 : decide (y2 ≤ y1) = false := decide_eq_false (by omega)
                have HI := mkHid hi
                clear hi hyy hy1 hy2
                go_wp2_with fail
                go_quiet (fail)
                have gq : Chg [] wr (wr.drewN nq) := ⟨rfl, rfl, rfl, Nat.le_refl _, fun _ _ _ => rfl⟩
                have gz2 := gz.then gq
                clear gq q1 q2
                go_wp2_with fail
                exact ⟨⟨i + 1, by go_num, by omega, by omega, gz2⟩, by simp [intOf]; omega⟩
              · have d1 : decide (i < k1) = false := decide_eq_false hil
                have d2 : decide ((i : Int) < (k1 : Int)) = false := decide_eq_false (by omega)
                go_wp2_with fail
                have b1 : ((p : Int) == (p : Int)) = true := by simp
                have hlt1 : p < k1 := by omega
                have hlt2 : (p : Int) < (k1 : Int) := by omega
                refine wp_region_held_drew (S := fun u => u.cell? ⟨mb, 0, none⟩ = some (.bool false) ∧ u.cell? ⟨mb, 1, none⟩ = some (.slice ra k1 rc) ∧ u.cell? ⟨mb, 2, none⟩ = some (.slice (some ⟨yb, yo, none⟩) k1 rd) ∧ u.cell? ⟨nb, 0, none⟩ = some (.bool false) ∧ u.cell? ⟨nb, 1, none⟩ = some (.slice (some ⟨xb, xo, none⟩) k kc) ∧ u.cell? ⟨nb, 2, none⟩ = some (.slice va k vc) ∧ u.cell? ⟨yb, yo + p, none⟩ = some (.int .u64 ((7 : Nat) : Int)) ∧ Chg [] wr u) (by kernel_rfl) ?_ (fun hH => ?_)
                · exact ⟨(Chg.drew [] _).cellv BM.c0 (by simp), (Chg.drew [] _).cellv BM.c1 (by simp), (Chg.drew [] _).cellv BM.c2 (by simp), (Chg.drew [] _).cellv BN.c0 (by simp), (Chg.drew [] _).cellv BN.c1 (by simp), (Chg.drew [] _).cellv BN.c2 (by simp), (Chg.drew [] _).cellv cy (by simp), Chg.drew [] _⟩
                refine wpAnyH_take (i := 0) (oi := { dst := some 182, op := _, type := _, pos := _, after := _, guard := none }) (v := ?_) rfl (by kernel_rfl) (by kernel_rfl) (by kernel_rfl) (fun _ _ _ h => h) (Or.inl ⟨by rfl, ?_⟩) hH ?_
                rotate_left
                · intro u hSu
                  try dsimp only at hSu
                  go_simp
                  try with_reducible rfl
                try simp only [Act.put, List.setIfInBounds_toArray, List.set_cons_zero, List.set_cons_succ]
                refine wpAnyH_take (i := 1) (oi := { dst := some 183, op := _, type := _, pos := _, after := _, guard := none }) (v := ?_) rfl (by kernel_rfl) (by kernel_rfl) (by kernel_rfl) (fun _ _ _ h => h) (Or.inl ⟨by rfl, ?_⟩) hH ?_
                rotate_left
                · intro u hSu
                  try dsimp only at hSu
                  go_simp
                  try with_reducible rfl
                try simp only [Act.put, List.setIfInBounds_toArray, List.set_cons_zero, List.set_cons_succ]
                refine wpAnyH_take (i := 2) (oi := { dst := some 184, op := _, type := _, pos := _, after := _, guard := some (1, true) }) (v := ?_) rfl (by kernel_rfl) (by kernel_rfl) (by kernel_rfl) (fun _ _ _ h => h) (Or.inl ⟨by rfl, ?_⟩) hH ?_
                rotate_left
                · intro u hSu
                  try dsimp only at hSu
                  go_simp
                  try with_reducible rfl
                try simp only [Act.put, List.setIfInBounds_toArray, List.set_cons_zero, List.set_cons_succ]
                refine wpAnyH_take (i := 3) (oi := { dst := some 185, op := _, type := _, pos := _, after := _, guard := some (1, true) }) (v := ?_) rfl (by kernel_rfl) (by kernel_rfl) (by kernel_rfl) (fun _ _ _ h => h) (Or.inl ⟨by rfl, ?_⟩) hH ?_
                rotate_left
                · intro u hSu
                  try dsimp only at hSu
                  go_simp
                  try with_reducible rfl
                try simp only [Act.put, List.setIfInBounds_toArray, List.set_cons_zero, List.set_cons_succ]
                refine wpAnyH_take (i := 4) (oi := { dst := some 186, op := _, type := _, pos := _, after := _, guard := some (1, true) }) (v := ?_) rfl (by kernel_rfl) (by kernel_rfl) (by kernel_rfl) (fun _ _ _ h => h) (Or.inl ⟨by rfl, ?_⟩) hH ?_
                rotate_left
                · intro u hSu
                  try dsimp only at hSu
                  go_simp
                  try with_reducible rfl
                try simp only [Act.put, List.setIfInBounds_toArray, List.set_cons_zero, List.set_cons_succ]
                refine wpAnyH_take (i := 5) (oi := { dst := some 187, op := _, type := _, pos := _, after := _, guard := none }) (v := ?_) rfl (by kernel_rfl) (by kernel_rfl) (by kernel_rfl) (fun _ _ _ h => h) (Or.inl ⟨by rfl, ?_⟩) hH ?_
                rotate_left
                · intro u hSu
                  try dsimp only at hSu
                  go_simp
                  try with_reducible rfl
                try simp only [Act.put, List.setIfInBounds_toArray, List.set_cons_zero, List.set_cons_succ]
                refine wpAnyH_take (i := 6) (oi := { dst := some 188, op := _, type := _, pos := _, after := _, guard := none }) (v := ?_) rfl (by kernel_rfl) (by kernel_rfl) (by kernel_rfl) (fun _ _ _ h => h) (Or.inl ⟨by rfl, ?_⟩) hH ?_
                rotate_left
                · intro u hSu
                  try dsimp only at hSu
                  go_simp
                  try with_reducible rfl
                try simp only [Act.put, List.setIfInBounds_toArray, List.set_cons_zero, List.set_cons_succ]
                refine wpAnyH_take (i := 7) (oi := { dst := some 189, op := _, type := _, pos := _, after := _, guard := some (6, true) }) (v := ?_) rfl (by kernel_rfl) (by kernel_rfl) (by kernel_rfl) (fun _ _ _ h => h) (Or.inl ⟨by rfl, ?_⟩) hH ?_
                rotate_left
                · intro u hSu
                  try dsimp only at hSu
                  go_simp
                  try with_reducible rfl
                try simp only [Act.put, List.setIfInBounds_toArray, List.set_cons_zero, List.set_cons_succ]
                refine wpAnyH_take (i := 8) (oi := { dst := some 190, op := _, type := _, pos := _, after := _, guard := some (6, true) }) (v := ?_) rfl (by kernel_rfl) (by kernel_rfl) (by kernel_rfl) (fun _ _ _ h => h) (Or.inl ⟨by rfl, ?_⟩) hH ?_
                rotate_left
                · intro u hSu
                  try dsimp only at hSu
                  go_simp
                  try with_reducible rfl
                try simp only [Act.put, List.setIfInBounds_toArray, List.set_cons_zero, List.set_cons_succ]
                refine wpAnyH_take (i := 9) (oi := { dst := some 191, op := _, type := _, pos := _, after := _, guard := some (6, true) }) (v := ?_) rfl (by kernel_rfl) (by kernel_rfl) (by kernel_rfl) (fun _ _ _ h => h) (Or.inl ⟨by rfl, ?_⟩) hH ?_
                rotate_left
                · intro u hSu
                  try dsimp only at hSu
                  go_simp
                  try with_reducible rfl
                try simp only [Act.put, List.setIfInBounds_toArray, List.set_cons_zero, List.set_cons_succ]
                refine wpAnyH_take (i := 10) (oi := { dst := some 192, op := _, type := _, pos := _, after := _, guard := some (6, true) }) (v := ?_) rfl (by kernel_rfl) (by kernel_rfl) (by kernel_rfl) (fun _ _ _ h => h) (Or.inl ⟨by rfl, ?_⟩) hH ?_
                rotate_left
                · intro u hSu
                  try dsimp only at hSu
                  go_simp
                  try with_reducible rfl
                try simp only [Act.put, List.setIfInBounds_toArray, List.set_cons_zero, List.set_cons_succ]
                refine wpAnyH_take (i := 11) (oi := { dst := some 193, op := _, type := _, pos := _, after := _, guard := some (6, true) }) (v := ?_) rfl (by kernel_rfl) (by kernel_rfl) (by kernel_rfl) (fun _ _ _ h => h) (Or.inl ⟨by rfl, ?_⟩) hH ?_
                rotate_left
                · intro u hSu
                  try dsimp only at hSu
                  go_simp
                  try with_reducible rfl
                try simp only [Act.put, List.setIfInBounds_toArray, List.set_cons_zero, List.set_cons_succ]
                refine wpAnyH_take (i := 12) (oi := { dst := some 194, op := _, type := _, pos := _, after := _, guard := some (6, true) }) (v := ?_) rfl (by kernel_rfl) (by kernel_rfl) (by kernel_rfl) (fun _ _ _ h => h) (Or.inl ⟨by rfl, ?_⟩) hH ?_
                rotate_left
                · intro u hSu
                  try dsimp only at hSu
                  go_simp
                  try with_reducible rfl
                try simp only [Act.put, List.setIfInBounds_toArray, List.set_cons_zero, List.set_cons_succ]
                refine wpAnyH_take (i := 13) (oi := { dst := some 195, op := _, type := _, pos := _, after := _, guard := none }) (v := ?_) rfl (by kernel_rfl) (by kernel_rfl) (by kernel_rfl) (fun _ _ _ h => h) (Or.inl ⟨by rfl, ?_⟩) hH ?_
                rotate_left
                · intro u hSu
                  try dsimp only at hSu
                  go_simp
                  try with_reducible rfl
                try simp only [Act.put, List.setIfInBounds_toArray, List.set_cons_zero, List.set_cons_succ]
                refine wpAnyH_take (i := 14) (oi := { dst := some 196, op := _, type := _, pos := _, after := _, guard := none }) (v := ?_) rfl (by kernel_rfl) (by kernel_rfl) (by kernel_rfl) (fun _ _ _ h => h) (Or.inl ⟨by rfl, ?_⟩) hH ?_
                rotate_left
                · intro u hSu
                  try dsimp only at hSu
                  go_simp
                  try with_reducible rfl
                try simp only [Act.put, List.setIfInBounds_toArray, List.set_cons_zero, List.set_cons_succ]
                refine wpAnyH_take (i := 15) (oi := { dst := some 197, op := _, type := _, pos := _, after := _, guard := some (14, true) }) (v := ?_) rfl (by kernel_rfl) (by kernel_rfl) (by kernel_rfl) (fun _ _ _ h => h) (Or.inl ⟨by rfl, ?_⟩) hH ?_
                rotate_left
                · intro u hSu
                  try dsimp only at hSu
                  go_simp
                  try with_reducible rfl
                try simp only [Act.put, List.setIfInBounds_toArray, List.set_cons_zero, List.set_cons_succ]
                refine wpAnyH_take (i := 16) (oi := { dst := some 198, op := _, type := _, pos := _, after := _, guard := some (14, true) }) (v := ?_) rfl (by kernel_rfl) (by kernel_rfl) (by kernel_rfl) (fun _ _ _ h => h) (Or.inl ⟨by rfl, ?_⟩) hH ?_
                rotate_left
                · intro u hSu
                  try dsimp only at hSu
                  go_simp
                  try with_reducible rfl
                try simp only [Act.put, List.setIfInBounds_toArray, List.set_cons_zero, List.set_cons_succ]
                refine wpAnyH_take (i := 18) (oi := { dst := some 200, op := _, type := _, pos := _, after := _, guard := some (14, true) }) (v := ?_) rfl (by kernel_rfl) (by kernel_rfl) (by kernel_rfl) (fun _ _ _ h => h) (Or.inl ⟨by rfl, ?_⟩) hH ?_
                rotate_left
                · intro u hSu
                  try dsimp only at hSu
                  go_simp
                  try with_reducible rfl
                try simp only [Act.put, List.setIfInBounds_toArray, List.set_cons_zero, List.set_cons_succ]
                refine wpAnyH_ready (rs := [17]) (by kernel_rfl) (by simp) ?_
                refine AllReadyH.cons (o := { dst := some 199, op := _, type := _, pos := _, after := _, guard := some (14, true) }) rfl (fun K hK => ?_) AllReadyH.nil
                go_simp
                refine (remove_as ra rc (some ⟨yb, yo, none⟩) rd X Y k p k1 L O _ (RM.keep (chgOf7 hH)) HIF.out.1.2.1 HIF.out.1.2.2.1 hpk hk1 (by omega) HIF.out.1.2.2.2.2.2.2.2.1 HIF.out.1.2.2.2.2.2.2.2.2 HK.out.2.1 HK.out.2.2.1).mono ?_
                rintro e u17 ⟨⟨sa, sc, sb2, sd, rfl, RS⟩, g17⟩
                have hS17 := hold7 hH g17
                clear hH
                refine hK.out _ _ hS17 (fun hH => ?_)
                clear hK K
                try simp only [Act.put, List.setIfInBounds_toArray, List.set_cons_zero, List.set_cons_succ]
                refine wpAnyH_ready (rs := [19]) (by kernel_rfl) (by simp) ?_
                refine AllReadyH.cons (o := { dst := some 201, op := _, type := _, pos := _, after := _, guard := some (14, true) }) rfl (fun K hK => ?_) AllReadyH.nil
                go_simp
                refine (same_as false sa sc sb2 sd (some ⟨xb, xo, none⟩) kc va vc L O k k _ RS (RN.keep (chgOf7 hH)) HK.out.2.1 HK.out.2.2.1).mono ?_
                rintro e u19 ⟨rfl, g19⟩
                have hS19 := hold7 hH g19
                clear hH
                refine hK.out _ _ hS19 (fun hH => ?_)
                clear hK K
                try simp only [Act.put, List.setIfInBounds_toArray, List.set_cons_zero, List.set_cons_succ]
                refine wpAnyH_take (i := 20) (oi := { dst := some 202, op := _, type := _, pos := _, after := _, guard := none }) (v := ?_) rfl (by kernel_rfl) (by kernel_rfl) (by kernel_rfl) (fun _ _ _ h => h) (Or.inl ⟨by rfl, ?_⟩) hH ?_
                rotate_left
                · intro u hSu
                  try dsimp only at hSu
                  go_simp
                  try with_reducible rfl
                try simp only [Act.put, List.setIfInBounds_toArray, List.set_cons_zero, List.set_cons_succ]
                refine wpAnyH_take (i := 21) (oi := { dst := some 4, op := _, type := _, pos := _, after := _, guard := none }) (v := ?_) rfl (by kernel_rfl) (by kernel_rfl) (by kernel_rfl) (fun _ _ _ h => h) (Or.inl ⟨by rfl, ?_⟩) hH ?_
                rotate_left
                · intro u hSu
                  try dsimp only at hSu
                  go_simp
                  try with_reducible rfl
                try simp only [Act.put, List.setIfInBounds_toArray, List.set_cons_zero, List.set_cons_succ]
                refine wpAnyH_done (by kernel_rfl) ?_ _
                have gE := chgOf7 hS19
                go_wp2_with fail
                go_ret
                exact ⟨rfl, hw0 ▸ G.then gE⟩
  · have HEQ := mkHid heq
    clear heq
    refine (finds_as ka kc va vc L O k p x false w1 RN HK.out.2.1 HK.out.2.2.1 HK.out.2.2.2.1 hb).mono ?_
    rintro e w2 ⟨rfl, gc⟩
    replace BN := BN.keep gc
    replace RN := RN.keep gc
    replace G := G.then gc
    clear gc
    clear hb
    go_wp2_with fail
    refine (awake_any w2).mono ?_
    rintro e w3 ⟨rfl, gc⟩
    replace BN := BN.keep gc
    replace RN := RN.keep gc
    replace G := G.then gc
    clear gc
    have a0 := BN.c0
    have a1 := BN.c1
    have a2 := BN.c2
    have f1 : decide ((p : Int) < 0) = false := decide_eq_false (by omega)
    have f2 : decide ((p : Int) > (k : Int)) = false := decide_eq_false (by omega)
    have f3 : decide ((k : Int) < (p : Int)) = false := decide_eq_false (by omega)
    have f4 : decide (k < p) = false := decide_eq_false (by omega)
    go_wp2_with fail
    clear f1 f2 f3 f4
    go_loopw [40] (fun iv wz => ∃ i : Nat, iv = .int .i64 i ∧ i ≤ k ∧ w3 = wz) (fun iv _ => k - (intOf iv).toNat)
    case atStart => exact ⟨0, rfl, Nat.zero_le _, rfl⟩
    case round =>
      obtain ⟨i, rfl, hik, rfl⟩ := hrel
      by_cases hil : i < k
      · have d1 : decide (i < k) = true := decide_eq_true hil
        have d2 : decide ((i : Int) < (k : Int)) = true := decide_eq_true (by omega)
        obtain ⟨y, hy⟩ : ∃ y, L[i]? = some y := ⟨_, List.getElem?_eq_getElem (by have := HK.out.2.1; omega)⟩
        have hiy := HK.out.2.2.2.2.2 i y hy
        obtain ⟨xb, xo, rfl, c1, _⟩ := reads_lt RN.rk i _ (uvs_get hy)
        have e1 : decide (p < k) = false := decide_eq_false (by have := HEQ.out; omega)
        have e2 : decide ((p : Int) < (k : Int)) = false := decide_eq_false (by have := HEQ.out; omega)
        clear hy
        by_cases hip : i < p
        · have g1 : decide (i < p) = true := decide_eq_true (by omega)
          have g2 : decide ((i : Int) < (p : Int)) = true := decide_eq_true (by omega)
          have g3 : decide (y < x) = true := decide_eq_true (by omega)
          have g4 : decide ((y : Int) < (x : Int)) = true := decide_eq_true (by omega)
          clear hiy
          go_wp2_with fail
          exact ⟨⟨i + 1, by go_num, by omega, by first | rfl | trivial⟩, by simp [intOf]; omega⟩
        · have g1 : decide (i < p) = false := decide_eq_false (by omega)
          have g2 : decide ((i : Int) < (p : Int)) = false := decide_eq_false (by omega)
          have g3 : decide (y < x) = false := decide_eq_false (by omega)
          have g4 : decide ((y : Int) < (x : Int)) = false := decide_eq_false (by omega)
          clear hiy
          go_wp2_with fail
          exact ⟨⟨i + 1, by go_num, by omega, by first | rfl | trivial⟩, by simp [intOf]; omega⟩
      · have d1 : decide (i < k) = false := decide_eq_false hil
        have d2 : decide ((i : Int) < (k : Int)) = false := decide_eq_false (by omega)
        go_wp2_with fail
        refine (childs_as ka kc va vc L O k cc x w3 RN HK.out.2.1 HK.out.2.2.1 HK.out.2.2.2.2.1).mono ?_
        rintro e w4 ⟨rfl, gc⟩
        clear a0 a1 a2
        replace BN := BN.keep gc
        replace RN := RN.keep gc
        replace G := G.then gc
        clear gc
        have a0 := BN.c0
        have a1 := BN.c1
        have a2 := BN.c2
        by_cases hk0 : 0 < k
        · have hch := child_facts (x := x) HK.out.2.1 HK.out.2.2.1 HK.out.1 hk0
          rw [HK.out.2.2.2.2.1] at hch
          obtain ⟨hck, hc0, hc1⟩ := hch
          obtain ⟨y, hy⟩ : ∃ y, L[cc]? = some y := ⟨_, List.getElem?_eq_getElem (by have := HK.out.2.1; omega)⟩
          have hcy := hc0 y hy
          obtain ⟨xb, xo, rfl, c1, _⟩ := reads_lt RN.rk cc _ (uvs_get hy)
          have f1 : decide ((k : Int) > 0) = true := decide_eq_true (by omega)
          have f1' : decide (0 < (k : Int)) = true := decide_eq_true (by omega)
          have f1q : decide (0 < k) = true := decide_eq_true hk0
          have f2 : decide ((cc : Int) < 0) = false := decide_eq_false (by omega)
          have f3 : decide ((cc : Int) ≥ (k : Int)) = false := decide_eq_false (by omega)
          have f4 : decide ((k : Int) ≤ (cc : Int)) = false := decide_eq_false (by omega)
          have f5 : decide (k ≤ cc) = false := decide_eq_false (by omega)
          have f6 : (cc : Int) < (k : Int) := by omega
          obtain ⟨c9, hc9⟩ : ∃ a, cc + 1 = a := ⟨_, rfl⟩
          have f7 : (cc : Int) + 1 = (c9 : Int) := by omega
          have f8 : IntKind.i64.wrap (c9 : Int) = (c9 : Int) := by rw [IntKind.wrap_i64]; omega
          rw [hc9] at hc1
          clear hc0 hy
          by_cases hxy : x < y
          · have g1 : decide ((y : Int) > (x : Int)) = true := decide_eq_true (by omega)
            have g2 : decide ((x : Int) < (y : Int)) = true := decide_eq_true (by omega)
            have g3 : decide (x < y) = true := decide_eq_true (by omega)
            have hcz := hcy hxy
            have g4 : decide ((cc : Int) > 0) = false := decide_eq_false (by omega)
            have g5 : decide (0 < (cc : Int)) = false := decide_eq_false (by omega)
            have g6 : decide (0 < cc) = false := decide_eq_false (by omega)
            clear hcz
            clear hcy
            by_cases hck1 : c9 < k
            · have g7 : decide ((c9 : Int) < (k : Int)) = true := decide_eq_true (by omega)
              have g8 : decide (c9 < k) = true := decide_eq_true hck1
              have g9 : (c9 : Int) < (k : Int) := by omega
              obtain ⟨z1, hz1⟩ : ∃ z, L[c9]? = some z := ⟨_, List.getElem?_eq_getElem (by have := HK.out.2.1; omega)⟩
              have hxz := hc1 z1 hz1
              have c2 := RN.rk.cell c9 _ (uvs_get hz1)
              have i1 : decide ((z1 : Int) ≤ (x : Int)) = false := decide_eq_false (by omega)
              have i2 : decide (z1 ≤ x) = false := decide_eq_false (by omega)
              have HC9 := mkHid (And.intro hc9 hxz)
              clear hz1 hc1 hc9 hxz
              go_wp2_with fail
              clear f1 f1' f1q f2 f3 f4 f5 f6 f7 f8 g1 g2 g3 g7 g8 g9 i1 i2 c1 c2
              obtain ⟨k1, hk1⟩ : ∃ k1, k + 1 = k1 := ⟨_, rfl⟩
              obtain ⟨X, hX⟩ : ∃ y, sub L 0 p ++ ([x] ++ sub L p k) = y := ⟨_, rfl⟩
              obtain ⟨Y, hY⟩ : ∃ y, sub O 0 p ++ ([7] ++ sub O p k) = y := ⟨_, rfl⟩
              have hif := ins_facts HK.out.2.1 HK.out.2.2.1 HK.out.1 hpk hk1 HK.out.2.2.2.2.2 (fun z hz => by have := (List.getElem?_eq_some_iff.1 hz).1; have := HK.out.2.1; have := HEQ.out; omega) hX hY
              have HIF := mkHid (And.intro hif (And.intro hX hY))
              clear hif hX hY
              refine (insert_as (some ⟨xb, xo, none⟩) kc va vc L O k p k1 x 7 X Y w4 RN HK.out.2.1 HK.out.2.2.1 hpk hk1 (by omega) HIF.out.2.1 HIF.out.2.2).mono ?_
              rintro e u5 ⟨⟨ra, rc, rb, rd, rfl, RM⟩, gc⟩
              obtain ⟨w5, hw5⟩ : ∃ x, x = (u5.alloc (.cells #[.bool false, .slice ra k1 rc, .slice rb k1 rd] 24)) := ⟨_, rfl⟩
              have gu : Chg [] u5 w5 := by rw [hw5]; exact Chg.alloc [] _ _
              have gn := gc.then gu
              replace BN := BN.keep gn
              replace RN := RN.keep gn
              replace G := G.then gn
              have BM : Bx w5 (u5.heap.size) (.bool false) (.slice ra k1 rc) (.slice rb k1 rd) := by rw [hw5]; exact ⟨by simp [go_sem], by simp [go_sem], by simp [go_sem]⟩
              replace RM := RM.keep gu
              clear gc gu gn
              have hw5' := hw5.symm
              clear hw5
              have a0 := BM.c0
              have a1 := BM.c1
              have a2 := BM.c2
              go_wp2_with fail
              clear hw5'
              clear a0 a1 a2
              generalize u5.heap.size = mb at *
              refine (finds_as ra rc rb rd X Y k1 p x true w5 RM HIF.out.1.2.1 HIF.out.1.2.2.1 HIF.out.1.2.2.2.2.2.1 HIF.out.1.2.2.2.2.2.2.1).mono ?_
              rintro e w6 ⟨rfl, gc⟩
              replace BN := BN.keep gc
              replace RN := RN.keep gc
              replace BM := BM.keep gc
              replace RM := RM.keep gc
              replace G := G.then gc
              clear gc
              obtain ⟨yb, yo, rfl, cy, _⟩ := reads_lt RM.rv p _ (uvs_get HIF.out.1.2.2.2.2.1)
              go_wp2_with fail
              go_loopw [15] (fun iv wz => ∃ i : Nat, iv = .int .i64 i ∧ 1 ≤ i ∧ i ≤ k1 ∧ Chg [] w6 wz) (fun iv _ => k1 - (intOf iv).toNat)
              case atStart => exact ⟨1, rfl, Nat.le_refl _, by omega, Chg.refl _ _⟩
              case round =>
                obtain ⟨i, rfl, hi1, hik, gz⟩ := hrel
                replace BN := BN.keep gz
                replace RN := RN.keep gz
                replace BM := BM.keep gz
                replace RM := RM.keep gz
                replace G := G.then gz
                replace cy := gz.cellv cy (by simp)
                have a0 := BM.c0
                have a1 := BM.c1
                have a2 := BM.c2
                by_cases hil : i < k1
                · have d1 : decide (i < k1) = true := decide_eq_true hil
                  have d2 : decide ((i : Int) < (k1 : Int)) = true := decide_eq_true (by omega)
                  obtain ⟨j, rfl⟩ : ∃ j, i = j + 1 := ⟨i - 1, by omega⟩
                  obtain ⟨y1, hy1⟩ : ∃ y, X[j]? = some y := ⟨_, List.getElem?_eq_getElem (by have := HIF.out.1.2.1; omega)⟩
                  obtain ⟨y2, hy2⟩ : ∃ y, X[j + 1]? = some y := ⟨_, List.getElem?_eq_getElem (by have := HIF.out.1.2.1; omega)⟩
                  have hyy := rising_lt HIF.out.1.1 hy1 hy2
                  obtain ⟨xb, xo, rfl, c1, _⟩ := reads_lt RM.rk j _ (uvs_get hy1)
                  have c2 := RM.rk.cell (j + 1) _ (uvs_get hy2)
                  obtain ⟨i, hi⟩ : ∃ i, j + 1 = i := ⟨_, rfl⟩
                  rw [hi] at d1 d2 c2 hil hi1 hik ⊢
                  have q1 : (i : Int) - 1 = (j : Int) := by omega
                  have q2 : IntKind.i64.wrap (j : Int) = (j : Int) := by rw [IntKind.wrap_i64]; omega
                  have q3 : j < k1 := by omega
                  have q4 : (j : Int) < (k1 : Int) := by omega
                  have q5 : (i : Int) < (k1 : Int) := by omega
                  have d3 : decide ((y1 : Int) ≥ (y2 : Int)) = false := decide_eq_false (by omega)
                  have d4 : decide ((y2 : Int) ≤ (y1 : Int)) = false := decide_eq_false (by omega)
                  have d5 : decide (y2 ≤ y1) = false := decide_eq_false (by omega)
                  have HI := mkHid hi
                  clear hi hyy hy1 hy2
                  go_wp2_with fail
                  go_quiet (fail)
                  have gq : Chg [] wr (wr.drewN nq) := ⟨rfl, rfl, rfl, Nat.le_refl _, fun _ _ _ => rfl⟩
                  have gz2 := gz.then gq
                  clear gq q1 q2
                  go_wp2_with fail
                  exact ⟨⟨i + 1, by go_num, by omega, by omega, gz2⟩, by simp [intOf]; omega⟩
                · have d1 : decide (i < k1) = false := decide_eq_false hil
                  have d2 : decide ((i : Int) < (k1 : Int)) = false := decide_eq_false (by omega)
                  go_wp2_with fail
                  have b1 : ((p : Int) == (p : Int)) = true := by simp
                  have hlt1 : p < k1 := by omega
                  have hlt2 : (p : Int) < (k1 : Int) := by omega
                  refine wp_region_held_drew (S := fun u => u.cell? ⟨mb, 0, none⟩ = some (.bool false) ∧ u.cell? ⟨mb, 1, none⟩ = some (.slice ra k1 rc) ∧ u.cell? ⟨mb, 2, none⟩ = some (.slice (some ⟨yb, yo, none⟩) k1 rd) ∧ u.cell? ⟨nb, 0, none⟩ = some (.bool false) ∧ u.cell? ⟨nb, 1, none⟩ = some (.slice (some ⟨xb, xo, none⟩) k kc) ∧ u.cell? ⟨nb, 2, none⟩ = some (.slice va k vc) ∧ u.cell? ⟨yb, yo + p, none⟩ = some (.int .u64 ((7 : Nat) : Int)) ∧ Chg [] wr u) (by kernel_rfl) ?_ (fun hH => ?_)
                  · exact ⟨(Chg.drew [] _).cellv BM.c0 (by simp), (Chg.drew [] _).cellv BM.c1 (by simp), (Chg.drew [] _).cellv BM.c2 (by simp), (Chg.drew [] _).cellv BN.c0 (by simp), (Chg.drew [] _).cellv BN.c1 (by simp), (Chg.drew [] _).cellv BN.c2 (by simp), (Chg.drew [] _).cellv cy (by simp), Chg.drew [] _⟩
                  refine wpAnyH_take (i := 0) (oi := { dst := some 182, op := _, type := _, pos := _, after := _, guard := none }) (v := ?_) rfl (by kernel_rfl) (by kernel_rfl) (by kernel_rfl) (fun _ _ _ h => h) (Or.inl ⟨by rfl, ?_⟩) hH ?_
                  rotate_left
                  · intro u hSu
                    try dsimp only at hSu
                    go_simp
                    try with_reducible rfl
                  try simp only [Act.put, List.setIfInBounds_toArray, List.set_cons_zero, List.set_cons_succ]
                  refine wpAnyH_take (i := 1) (oi := { dst := some 183, op := _, type := _, pos := _, after := _, guard := none }) (v := ?_) rfl (by kernel_rfl) (by kernel_rfl) (by kernel_rfl) (fun _ _ _ h => h) (Or.inl ⟨by rfl, ?_⟩) hH ?_
                  rotate_left
                  · intro u hSu
                    try dsimp only at hSu
                    go_simp
                    try with_reducible rfl
                  try simp only [Act.put, List.setIfInBounds_toArray, List.set_cons_zero, List.set_cons_succ]
                  refine wpAnyH_take (i := 2) (oi := { dst := some 184, op := _, type := _, pos := _, after := _, guard := some (1, true) }) (v := ?_) rfl (by kernel_rfl) (by kernel_rfl) (by kernel_rfl) (fun _ _ _ h => h) (Or.inl ⟨by rfl, ?_⟩) hH ?_
                  rotate_left
                  · intro u hSu
                    try dsimp only at hSu
                    go_simp
                    try with_reducible rfl
                  try simp only [Act.put, List.setIfInBounds_toArray, List.set_cons_zero, List.set_cons_succ]
                  refine wpAnyH_take (i := 3) (oi := { dst := some 185, op := _, type := _, pos := _, after := _, guard := some (1, true) }) (v := ?_) rfl (by kernel_rfl) (by kernel_rfl) (by kernel_rfl) (fun _ _ _ h => h) (Or.inl ⟨by rfl, ?_⟩) hH ?_
                  rotate_left
                  · intro u hSu
                    try dsimp only at hSu
                    go_simp
                    try with_reducible rfl
                  try simp only [Act.put, List.setIfInBounds_toArray, List.set_cons_zero, List.set_cons_succ]
                  refine wpAnyH_take (i := 4) (oi := { dst := some 186, op := _, type := _, pos := _, after := _, guard := some (1, true) }) (v := ?_) rfl (by kernel_rfl) (by kernel_rfl) (by kernel_rfl) (fun _ _ _ h => h) (Or.inl ⟨by rfl, ?_⟩) hH ?_
                  rotate_left
                  · intro u hSu
                    try dsimp only at hSu
                    go_simp
                    try with_reducible rfl
                  try simp only [Act.put, List.setIfInBounds_toArray, List.set_cons_zero, List.set_cons_succ]
                  refine wpAnyH_take (i := 5) (oi := { dst := some 187, op := _, type := _, pos := _, after := _, guard := none }) (v := ?_) rfl (by kernel_rfl) (by kernel_rfl) (by kernel_rfl) (fun _ _ _ h => h) (Or.inl ⟨by rfl, ?_⟩) hH ?_
                  rotate_left
                  · intro u hSu
                    try dsimp only at hSu
                    go_simp
                    try with_reducible rfl
                  try simp only [Act.put, List.setIfInBounds_toArray, List.set_cons_zero, List.set_cons_succ]
                  refine wpAnyH_take (i := 6) (oi := { dst := some 188, op := _, type := _, pos := _, after := _, guard := none }) (v := ?_) rfl (by kernel_rfl) (by kernel_rfl) (by kernel_rfl) (fun _ _ _ h => h) (Or.inl ⟨by rfl, ?_⟩) hH ?_
                  rotate_left
                  · intro u hSu
                    try dsimp only at hSu
                    go_simp
                    try with_reducible rfl
                  try simp only [Act.put, List.setIfInBounds_toArray, List.set_cons_zero, List.set_cons_succ]
                  refine wpAnyH_take (i := 7) (oi := { dst := some 189, op := _, type := _, pos := _, after := _, guard := some (6, true) }) (v := ?_) rfl (by kernel_rfl) (by kernel_rfl) (by kernel_rfl) (fun _ _ _ h => h) (Or.inl ⟨by rfl, ?_⟩) hH ?_
                  rotate_left
                  · intro u hSu
                    try dsimp only at hSu
                    go_simp
                    try with_reducible rfl
                  try simp only [Act.put, List.setIfInBounds_toArray, List.set_cons_zero, List.set_cons_succ]
                  refine wpAnyH_take (i := 8) (oi := { dst := some 190, op := _, type := _, pos := _, after := _, guard := some (6, true) }) (v := ?_) rfl (by kernel_rfl) (by kernel_rfl) (by kernel_rfl) (fun _ _ _ h => h) (Or.inl ⟨by rfl, ?_⟩) hH ?_
                  rotate_left
                  · intro u hSu
                    try dsimp only at hSu
                    go_simp
                    try with_reducible rfl
                  try simp only [Act.put, List.setIfInBounds_toArray, List.set_cons_zero, List.set_cons_succ]
                  refine wpAnyH_take (i := 9) (oi := { dst := some 191, op := _, type := _, pos := _, after := _, guard := some (6, true) }) (v := ?_) rfl (by kernel_rfl) (by kernel_rfl) (by kernel_rfl) (fun _ _ _ h => h) (Or.inl ⟨by rfl, ?_⟩) hH ?_
                  rotate_left
                  · intro u hSu
                    try dsimp only at hSu
                    go_simp
                    try with_reducible rfl
                  try simp only [Act.put, List.setIfInBounds_toArray, List.set_cons_zero, List.set_cons_succ]
                  refine wpAnyH_take (i := 10) (oi := { dst := some 192, op := _, type := _, pos := _, after := _, guard := some (6, true) }) (v := ?_) rfl (by kernel_rfl) (by kernel_rfl) (by kernel_rfl) (fun _ _ _ h => h) (Or.inl ⟨by rfl, ?_⟩) hH ?_
                  rotate_left
                  · intro u hSu
                    try dsimp only at hSu
                    go_simp
                    try with_reducible rfl
                  try simp only [Act.put, List.setIfInBounds_toArray, List.set_cons_zero, List.set_cons_succ]
                  refine wpAnyH_take (i := 11) (oi := { dst := some 193, op := _, type := _, pos := _, after := _, guard := some (6, true) }) (v := ?_) rfl (by kernel_rfl) (by kernel_rfl) (by kernel_rfl) (fun _ _ _ h => h) (Or.inl ⟨by rfl, ?_⟩) hH ?_
                  rotate_left
                  · intro u hSu
                    try dsimp only at hSu
                    go_simp
                    try with_reducible rfl
                  try simp only [Act.put, List.setIfInBounds_toArray, List.set_cons_zero, List.set_cons_succ]
                  refine wpAnyH_take (i := 12) (oi := { dst := some 194, op := _, type := _, pos := _, after := _, guard := some (6, true) }) (v := ?_) rfl (by kernel_rfl) (by kernel_rfl) (by kernel_rfl) (fun _ _ _ h => h) (Or.inl ⟨by rfl, ?_⟩) hH ?_
                  rotate_left
                  · intro u hSu
                    try dsimp only at hSu
                    go_simp
                    try with_reducible rfl
                  try simp only [Act.put, List.setIfInBounds_toArray, List.set_cons_zero, List.set_cons_succ]
                  refine wpAnyH_take (i := 13) (oi := { dst := some 195, op := _, type := _, pos := _, after := _, guard := none }) (v := ?_) rfl (by kernel_rfl) (by kernel_rfl) (by kernel_rfl) (fun _ _ _ h => h) (Or.inl ⟨by rfl, ?_⟩) hH ?_
                  rotate_left
                  · intro u hSu
                    try dsimp only at hSu
                    go_simp
                    try with_reducible rfl
                  try simp only [Act.put, List.setIfInBounds_toArray, List.set_cons_zero, List.set_cons_succ]
                  refine wpAnyH_take (i := 14) (oi := { dst := some 196, op := _, type := _, pos := _, after := _, guard := none }) (v := ?_) rfl (by kernel_rfl) (by kernel_rfl) (by kernel_rfl) (fun _ _ _ h => h) (Or.inl ⟨by rfl, ?_⟩) hH ?_
                  rotate_left
                  · intro u hSu
                    try dsimp only at hSu
                    go_simp
                    try with_reducible rfl
                  try simp only [Act.put, List.setIfInBounds_toArray, List.set_cons_zero, List.set_cons_succ]
                  refine wpAnyH_take (i := 15) (oi := { dst := some 197, op := _, type := _, pos := _, after := _, guard := some (14, true) }) (v := ?_) rfl (by kernel_rfl) (by kernel_rfl) (by kernel_rfl) (fun _ _ _ h => h) (Or.inl ⟨by rfl, ?_⟩) hH ?_
                  rotate_left
                  · intro u hSu
                    try dsimp only at hSu
                    go_simp
                    try with_reducible rfl
                  try simp only [Act.put, List.setIfInBounds_toArray, List.set_cons_zero, List.set_cons_succ]
                  refine wpAnyH_take (i := 16) (oi := { dst := some 198, op := _, type := _, pos := _, after := _, guard := some (14, true) }) (v := ?_) rfl (by kernel_rfl) (by kernel_rfl) (by kernel_rfl) (fun _ _ _ h => h) (Or.inl ⟨by rfl, ?_⟩) hH ?_
                  rotate_left
                  · intro u hSu
                    try dsimp only at hSu
                    go_simp
                    try with_reducible rfl
                  try simp only [Act.put, List.setIfInBounds_toArray, List.set_cons_zero, List.set_cons_succ]
                  refine wpAnyH_take (i := 18) (oi := { dst := some 200, op := _, type := _, pos := _, after := _, guard := some (14, true) }) (v := ?_) rfl (by kernel_rfl) (by kernel_rfl) (by kernel_rfl) (fun _ _ _ h => h) (Or.inl ⟨by rfl, ?_⟩) hH ?_
                  rotate_left
                  · intro u hSu
                    try dsimp only at hSu
                    go_simp
                    try with_reducible rfl
                  try simp only [Act.put, List.setIfInBounds_toArray, List.set_cons_zero, List.set_cons_succ]
                  refine wpAnyH_ready (rs := [17]) (by kernel_rfl) (by simp) ?_
                  refine AllReadyH.cons (o := { dst := some 199, op := _, type := _, pos := _, after := _, guard := some (14, true) }) rfl (fun K hK => ?_) AllReadyH.nil
                  go_simp
                  refine (remove_as ra rc (some ⟨yb, yo, none⟩) rd X Y k p k1 L O _ (RM.keep (chgOf7 hH)) HIF.out.1.2.1 HIF.out.1.2.2.1 hpk hk1 (by omega) HIF.out.1.2.2.2.2.2.2.2.1 HIF.out.1.2.2.2.2.2.2.2.2 HK.out.2.1 HK.out.2.2.1).mono ?_
                  rintro e u17 ⟨⟨sa, sc, sb2, sd, rfl, RS⟩, g17⟩
                  have hS17 := hold7 hH g17
                  clear hH
                  refine hK.out _ _ hS17 (fun hH => ?_)
                  clear hK K
                  try simp only [Act.put, List.setIfInBounds_toArray, List.set_cons_zero, List.set_cons_succ]
                  refine wpAnyH_ready (rs := [19]) (by kernel_rfl) (by simp) ?_
                  refine AllReadyH.cons (o := { dst := some 201, op := _, type := _, pos := _, after := _, guard := some (14, true) }) rfl (fun K hK => ?_) AllReadyH.nil
                  go_simp
                  refine (same_as false sa sc sb2 sd (some ⟨xb, xo, none⟩) kc va vc L O k k _ RS (RN.keep (chgOf7 hH)) HK.out.2.1 HK.out.2.2.1).mono ?_
                  rintro e u19 ⟨rfl, g19⟩
                  have hS19 := hold7 hH g19
                  clear hH
                  refine hK.out _ _ hS19 (fun hH => ?_)
                  clear hK K
                  try simp only [Act.put, List.setIfInBounds_toArray, List.set_cons_zero, List.set_cons_succ]
                  refine wpAnyH_take (i := 20) (oi := { dst := some 202, op := _, type := _, pos := _, after := _, guard := none }) (v := ?_) rfl (by kernel_rfl) (by kernel_rfl) (by kernel_rfl) (fun _ _ _ h => h) (Or.inl ⟨by rfl, ?_⟩) hH ?_
                  rotate_left
                  · intro u hSu
                    try dsimp only at hSu
                    go_simp
                    try with_reducible rfl
                  try simp only [Act.put, List.setIfInBounds_toArray, List.set_cons_zero, List.set_cons_succ]
                  refine wpAnyH_take (i := 21) (oi := { dst := some 4, op := _, type := _, pos := _, after := _, guard := none }) (v := ?_) rfl (by kernel_rfl) (by kernel_rfl) (by kernel_rfl) (fun _ _ _ h => h) (Or.inl ⟨by rfl, ?_⟩) hH ?_
                  rotate_left
                  · intro u hSu
                    try dsimp only at hSu
                    go_simp
                    try with_reducible rfl
                  try simp only [Act.put, List.setIfInBounds_toArray, List.set_cons_zero, List.set_cons_succ]
                  refine wpAnyH_done (by kernel_rfl) ?_ _
                  have gE := chgOf7 hS19
                  go_wp2_with fail
                  go_ret
                  exact ⟨rfl, hw0 ▸ G.then gE⟩
            · have g7 : decide ((c9 : Int) < (k : Int)) = false := decide_eq_false (by omega)
              have g8 : decide (c9 < k) = false := decide_eq_false hck1
              have HC9 := mkHid hc9
              clear hc1 hc9
              go_wp2_with fail
              clear f1 f1' f1q f2 f3 f4 f5 f6 f7 f8 g1 g2 g3 g7 g8 c1
              obtain ⟨k1, hk1⟩ : ∃ k1, k + 1 = k1 := ⟨_, rfl⟩
              obtain ⟨X, hX⟩ : ∃ y, sub L 0 p ++ ([x] ++ sub L p k) = y := ⟨_, rfl⟩
              obtain ⟨Y, hY⟩ : ∃ y, sub O 0 p ++ ([7] ++ sub O p k) = y := ⟨_, rfl⟩
              have hif := ins_facts HK.out.2.1 HK.out.2.2.1 HK.out.1 hpk hk1 HK.out.2.2.2.2.2 (fun z hz => by have := (List.getElem?_eq_some_iff.1 hz).1; have := HK.out.2.1; have := HEQ.out; omega) hX hY
              have HIF := mkHid (And.intro hif (And.intro hX hY))
              clear hif hX hY
              refine (insert_as (some ⟨xb, xo, none⟩) kc va vc L O k p k1 x 7 X Y w4 RN HK.out.2.1 HK.out.2.2.1 hpk hk1 (by omega) HIF.out.2.1 HIF.out.2.2).mono ?_
              rintro e u5 ⟨⟨ra, rc, rb, rd, rfl, RM⟩, gc⟩
              obtain ⟨w5, hw5⟩ : ∃ x, x = (u5.alloc (.cells #[.bool false, .slice ra k1 rc, .slice rb k1 rd] 24)) := ⟨_, rfl⟩
              have gu : Chg [] u5 w5 := by rw [hw5]; exact Chg.alloc [] _ _
              have gn := gc.then gu
              replace BN := BN.keep gn
              replace RN := RN.keep gn
              replace G := G.then gn
              have BM : Bx w5 (u5.heap.size) (.bool false) (.slice ra k1 rc) (.slice rb k1 rd) := by rw [hw5]; exact ⟨by simp [go_sem], by simp [go_sem], by simp [go_sem]⟩
              replace RM := RM.keep gu
              clear gc gu gn
              have hw5' := hw5.symm
              clear hw5
              have a0 := BM.c0
              have a1 := BM.c1
              have a2 := BM.c2
              go_wp2_with fail
              clear hw5'
              clear a0 a1 a2
              generalize u5.heap.size = mb at *
              refine (finds_as ra rc rb rd X Y k1 p x true w5 RM HIF.out.1.2.1 HIF.out.1.2.2.1 HIF.out.1.2.2.2.2.2.1 HIF.out.1.2.2.2.2.2.2.1).mono ?_
              rintro e w6 ⟨rfl, gc⟩
              replace BN := BN.keep gc
              replace RN := RN.keep gc
              replace BM := BM.keep gc
              replace RM := RM.keep gc
              replace G := G.then gc
              clear gc
              obtain ⟨yb, yo, rfl, cy, _⟩ := reads_lt RM.rv p _ (uvs_get HIF.out.1.2.2.2.2.1)
              go_wp2_with fail
              go_loopw [15] (fun iv wz => ∃ i : Nat, iv = .int .i64 i ∧ 1 ≤ i ∧ i ≤ k1 ∧ Chg [] w6 wz) (fun iv _ => k1 - (intOf iv).toNat)
              case atStart => exact ⟨1, rfl, Nat.le_refl _, by omega, Chg.refl _ _⟩
              case round =>
                obtain ⟨i, rfl, hi1, hik, gz⟩ := hrel
                replace BN := BN.keep gz
                replace RN := RN.keep gz
                replace BM := BM.keep gz
                replace RM := RM.keep gz
                replace G := G.then gz
                replace cy := gz.cellv cy (by simp)
                have a0 := BM.c0
                have a1 := BM.c1
                have a2 := BM.c2
                by_cases hil : i < k1
                · have d1 : decide (i < k1) = true := decide_eq_true hil
                  have d2 : decide ((i : Int) < (k1 : Int)) = true := decide_eq_true (by omega)
                  obtain ⟨j, rfl⟩ : ∃ j, i = j + 1 := ⟨i - 1, by omega⟩
                  obtain ⟨y1, hy1⟩ : ∃ y, X[j]? = some y := ⟨_, List.getElem?_eq_getElem (by have := HIF.out.1.2.1; omega)⟩
                  obtain ⟨y2, hy2⟩ : ∃ y, X[j + 1]? = some y := ⟨_, List.getElem?_eq_getElem (by have := HIF.out.1.2.1; omega)⟩
                  have hyy := rising_lt HIF.out.1.1 hy1 hy2
                  obtain ⟨xb, xo, rfl, c1, _⟩ := reads_lt RM.rk j _ (uvs_get hy1)
                  have c2 := RM.rk.cell (j + 1) _ (uvs_get hy2)
                  obtain ⟨i, hi⟩ : ∃ i, j + 1 = i := ⟨_, rfl⟩
                  rw [hi] at d1 d2 c2 hil hi1 hik ⊢
                  have q1 : (i : Int) - 1 = (j : Int) := by omega
                  have q2 : IntKind.i64.wrap (j : Int) = (j : Int) := by rw [IntKind.wrap_i64]; omega
                  have q3 : j < k1 := by omega
                  have q4 : (j : Int) < (k1 : Int) := by omega
                  have q5 : (i : Int) < (k1 : Int) := by omega
                  have d3 : decide ((y1 : Int) ≥ (y2 : Int)) = false := decide_eq_false (by omega)
                  have d4 : decide ((y2 : Int) ≤ (y1 : Int)) = false := decide_eq_false (by omega)
                  have d5 : decide (y2 ≤ y1) = false := decide_eq_false (by omega)
                  have HI := mkHid hi
                  clear hi hyy hy1 hy2
                  go_wp2_with fail
                  go_quiet (fail)
                  have gq : Chg [] wr (wr.drewN nq) := ⟨rfl, rfl, rfl, Nat.le_refl _, fun _ _ _ => rfl⟩
                  have gz2 := gz.then gq
                  clear gq q1 q2
                  go_wp2_with fail
                  exact ⟨⟨i + 1, by go_num, by omega, by omega, gz2⟩, by simp [intOf]; omega⟩
                · have d1 : decide (i < k1) = false := decide_eq_false hil
                  have d2 : decide ((i : Int) < (k1 : Int)) = false := decide_eq_false (by omega)
                  go_wp2_with fail
                  have b1 : ((p : Int) == (p : Int)) = true := by simp
                  have hlt1 : p < k1 := by omega
                  have hlt2 : (p : Int) < (k1 : Int) := by omega
                  refine wp_region_held_drew (S := fun u => u.cell? ⟨mb, 0, none⟩ = some (.bool false) ∧ u.cell? ⟨mb, 1, none⟩ = some (.slice ra k1 rc) ∧ u.cell? ⟨mb, 2, none⟩ = some (.slice (some ⟨yb, yo, none⟩) k1 rd) ∧ u.cell? ⟨nb, 0, none⟩ = some (.bool false) ∧ u.cell? ⟨nb, 1, none⟩ = some (.slice (some ⟨xb, xo, none⟩) k kc) ∧ u.cell? ⟨nb, 2, none⟩ = some (.slice va k vc) ∧ u.cell? ⟨yb, yo + p, none⟩ = some (.int .u64 ((7 : Nat) : Int)) ∧ Chg [] wr u) (by kernel_rfl) ?_ (fun hH => ?_)
                  · exact ⟨(Chg.drew [] _).cellv BM.c0 (by simp), (Chg.drew [] _).cellv BM.c1 (by simp), (Chg.drew [] _).cellv BM.c2 (by simp), (Chg.drew [] _).cellv BN.c0 (by simp), (Chg.drew [] _).cellv BN.c1 (by simp), (Chg.drew [] _).cellv BN.c2 (by simp), (Chg.drew [] _).cellv cy (by simp), Chg.drew [] _⟩
                  refine wpAnyH_take (i := 0) (oi := { dst := some 182, op := _, type := _, pos := _, after := _, guard := none }) (v := ?_) rfl (by kernel_rfl) (by kernel_rfl) (by kernel_rfl) (fun _ _ _ h => h) (Or.inl ⟨by rfl, ?_⟩) hH ?_
                  rotate_left
                  · intro u hSu
                    try dsimp only at hSu
                    go_simp
                    try with_reducible rfl
                  try simp only [Act.put, List.setIfInBounds_toArray, List.set_cons_zero, List.set_cons_succ]
                  refine wpAnyH_take (i := 1) (oi := { dst := some 183, op := _, type := _, pos := _, after := _, guard := none }) (v := ?_) rfl (by kernel_rfl) (by kernel_rfl) (by kernel_rfl) (fun _ _ _ h => h) (Or.inl ⟨by rfl, ?_⟩) hH ?_
                  rotate_left
                  · intro u hSu
                    try dsimp only at hSu
                    go_simp
                    try with_reducible rfl
                  try simp only [Act.put, List.setIfInBounds_toArray, List.set_cons_zero, List.set_cons_succ]
                  refine wpAnyH_take (i := 2) (oi := { dst := some 184, op := _, type := _, pos := _, after := _, guard := some (1, true) }) (v := ?_) rfl (by kernel_rfl) (by kernel_rfl) (by kernel_rfl) (fun _ _ _ h => h) (Or.inl ⟨by rfl, ?_⟩) hH ?_
                  rotate_left
                  · intro u hSu
                    try dsimp only at hSu
                    go_simp
                    try with_reducible rfl
                  try simp only [Act.put, List.setIfInBounds_toArray, List.set_cons_zero, List.set_cons_succ]
                  refine wpAnyH_take (i := 3) (oi := { dst := some 185, op := _, type := _, pos := _, after := _, guard := some (1, true) }) (v := ?_) rfl (by kernel_rfl) (by kernel_rfl) (by kernel_rfl) (fun _ _ _ h => h) (Or.inl ⟨by rfl, ?_⟩) hH ?_
                  rotate_left
                  · intro u hSu
                    try dsimp only at hSu
                    go_simp
                    try with_reducible rfl
                  try simp only [Act.put, List.setIfInBounds_toArray, List.set_cons_zero, List.set_cons_succ]
                  refine wpAnyH_take (i := 4) (oi := { dst := some 186, op := _, type := _, pos := _, after := _, guard := some (1, true) }) (v := ?_) rfl (by kernel_rfl) (by kernel_rfl) (by kernel_rfl) (fun _ _ _ h => h) (Or.inl ⟨by rfl, ?_⟩) hH ?_
                  rotate_left
                  · intro u hSu
                    try dsimp only at hSu
                    go_simp
                    try with_reducible rfl
                  try simp only [Act.put, List.setIfInBounds_toArray, List.set_cons_zero, List.set_cons_succ]
                  refine wpAnyH_take (i := 5) (oi := { dst := some 187, op := _, type := _, pos := _, after := _, guard := none }) (v := ?_) rfl (by kernel_rfl) (by kernel_rfl) (by kernel_rfl) (fun _ _ _ h => h) (Or.inl ⟨by rfl, ?_⟩) hH ?_
                  rotate_left
                  · intro u hSu
                    try dsimp only at hSu
                    go_simp
                    try with_reducible rfl
                  try simp only [Act.put, List.setIfInBounds_toArray, List.set_cons_zero, List.set_cons_succ]
                  refine wpAnyH_take (i := 6) (oi := { dst := some 188, op := _, type := _, pos := _, after := _, guard := none }) (v := ?_) rfl (by kernel_rfl) (by kernel_rfl) (by kernel_rfl) (fun _ _ _ h => h) (Or.inl ⟨by rfl, ?_⟩) hH ?_
                  rotate_left
                  · intro u hSu
                    try dsimp only at hSu
                    go_simp
                    try with_reducible rfl
                  try simp only [Act.put, List.setIfInBounds_toArray, List.set_cons_zero, List.set_cons_succ]
                  refine wpAnyH_take (i := 7) (oi := { dst := some 189, op := _, type := _, pos := _, after := _, guard := some (6, true) }) (v := ?_) rfl (by kernel_rfl) (by kernel_rfl) (by kernel_rfl) (fun _ _ _ h => h) (Or.inl ⟨by rfl, ?_⟩) hH ?_
                  rotate_left
                  · intro u hSu
                    try dsimp only at hSu
                    go_simp
                    try with_reducible rfl
                  try simp only [Act.put, List.setIfInBounds_toArray, List.set_cons_zero, List.set_cons_succ]
                  refine wpAnyH_take (i := 8) (oi := { dst := some 190, op := _, type := _, pos := _, after := _, guard := some (6, true) }) (v := ?_) rfl (by kernel_rfl) (by kernel_rfl) (by kernel_rfl) (fun _ _ _ h => h) (Or.inl ⟨by rfl, ?_⟩) hH ?_
                  rotate_left
                  · intro u hSu
                    try dsimp only at hSu
                    go_simp
                    try with_reducible rfl
                  try simp only [Act.put, List.setIfInBounds_toArray, List.set_cons_zero, List.set_cons_succ]
                  refine wpAnyH_take (i := 9) (oi := { dst := some 191, op := _, type := _, pos := _, after := _, guard := some (6, true) }) (v := ?_) rfl (by kernel_rfl) (by kernel_rfl) (by kernel_rfl) (fun _ _ _ h => h) (Or.inl ⟨by rfl, ?_⟩) hH ?_
                  rotate_left
                  · intro u hSu
                    try dsimp only at hSu
                    go_simp
                    try with_reducible rfl
                  try simp only [Act.put, List.setIfInBounds_toArray, List.set_cons_zero, List.set_cons_succ]
                  refine wpAnyH_take (i := 10) (oi := { dst := some 192, op := _, type := _, pos := _, after := _, guard := some (6, true) }) (v := ?_) rfl (by kernel_rfl) (by kernel_rfl) (by kernel_rfl) (fun _ _ _ h => h) (Or.inl ⟨by rfl, ?_⟩) hH ?_
                  rotate_left
                  · intro u hSu
                    try dsimp only at hSu
                    go_simp
                    try with_reducible rfl
                  try simp only [Act.put, List.setIfInBounds_toArray, List.set_cons_zero, List.set_cons_succ]
                  refine wpAnyH_take (i := 11) (oi := { dst := some 193, op := _, type := _, pos := _, after := _, guard := some (6, true) }) (v := ?_) rfl (by kernel_rfl) (by kernel_rfl) (by kernel_rfl) (fun _ _ _ h => h) (Or.inl ⟨by rfl, ?_⟩) hH ?_
                  rotate_left
                  · intro u hSu
                    try dsimp only at hSu
                    go_simp
                    try with_reducible rfl
                  try simp only [Act.put, List.setIfInBounds_toArray, List.set_cons_zero, List.set_cons_succ]
                  refine wpAnyH_take (i := 12) (oi := { dst := some 194, op := _, type := _, pos := _, after := _, guard := some (6, true) }) (v := ?_) rfl (by kernel_rfl) (by kernel_rfl) (by kernel_rfl) (fun _ _ _ h => h) (Or.inl ⟨by rfl, ?_⟩) hH ?_
                  rotate_left
                  · intro u hSu
                    try dsimp only at hSu
                    go_simp
                    try with_reducible rfl
                  try simp only [Act.put, List.setIfInBounds_toArray, List.set_cons_zero, List.set_cons_succ]
                  refine wpAnyH_take (i := 13) (oi := { dst := some 195, op := _, type := _, pos := _, after := _, guard := none }) (v := ?_) rfl (by kernel_rfl) (by kernel_rfl) (by kernel_rfl) (fun _ _ _ h => h) (Or.inl ⟨by rfl, ?_⟩) hH ?_
                  rotate_left
                  · intro u hSu
                    try dsimp only at hSu
                    go_simp
                    try with_reducible rfl
                  try simp only [Act.put, List.setIfInBounds_toArray, List.set_cons_zero, List.set_cons_succ]
                  refine wpAnyH_take (i := 14) (oi := { dst := some 196, op := _, type := _, pos := _, after := _, guard := none }) (v := ?_) rfl (by kernel_rfl) (by kernel_rfl) (by kernel_rfl) (fun _ _ _ h => h) (Or.inl ⟨by rfl, ?_⟩) hH ?_
                  rotate_left
                  · intro u hSu
                    try dsimp only at hSu
                    go_simp
                    try with_reducible rfl
                  try simp only [Act.put, List.setIfInBounds_toArray, List.set_cons_zero, List.set_cons_succ]
                  refine wpAnyH_take (i := 15) (oi := { dst := some 197, op := _, type := _, pos := _, after := _, guard := some (14, true) }) (v := ?_) rfl (by kernel_rfl) (by kernel_rfl) (by kernel_rfl) (fun _ _ _ h => h) (Or.inl ⟨by rfl, ?_⟩) hH ?_
                  rotate_left
                  · intro u hSu
                    try dsimp only at hSu
                    go_simp
                    try with_reducible rfl
                  try simp only [Act.put, List.setIfInBounds_toArray, List.set_cons_zero, List.set_cons_succ]
                  refine wpAnyH_take (i := 16) (oi := { dst := some 198, op := _, type := _, pos := _, after := _, guard := some (14, true) }) (v := ?_) rfl (by kernel_rfl) (by kernel_rfl) (by kernel_rfl) (fun _ _ _ h => h) (Or.inl ⟨by rfl, ?_⟩) hH ?_
                  rotate_left
                  · intro u hSu
                    try dsimp only at hSu
                    go_simp
                    try with_reducible rfl
                  try simp only [Act.put, List.setIfInBounds_toArray, List.set_cons_zero, List.set_cons_succ]
                  refine wpAnyH_take (i := 18) (oi := { dst := some 200, op := _, type := _, pos := _, after := _, guard := some (14, true) }) (v := ?_) rfl (by kernel_rfl) (by kernel_rfl) (by kernel_rfl) (fun _ _ _ h => h) (Or.inl ⟨by rfl, ?_⟩) hH ?_
                  rotate_left
                  · intro u hSu
                    try dsimp only at hSu
                    go_simp
                    try with_reducible rfl
                  try simp only [Act.put, List.setIfInBounds_toArray, List.set_cons_zero, List.set_cons_succ]
                  refine wpAnyH_ready (rs := [17]) (by kernel_rfl) (by simp) ?_
                  refine AllReadyH.cons (o := { dst := some 199, op := _, type := _, pos := _, after := _, guard := some (14, true) }) rfl (fun K hK => ?_) AllReadyH.nil
                  go_simp
                  refine (remove_as ra rc (some ⟨yb, yo, none⟩) rd X Y k p k1 L O _ (RM.keep (chgOf7 hH)) HIF.out.1.2.1 HIF.out.1.2.2.1 hpk hk1 (by omega) HIF.out.1.2.2.2.2.2.2.2.1 HIF.out.1.2.2.2.2.2.2.2.2 HK.out.2.1 HK.out.2.2.1).mono ?_
                  rintro e u17 ⟨⟨sa, sc, sb2, sd, rfl, RS⟩, g17⟩
                  have hS17 := hold7 hH g17
                  clear hH
                  refine hK.out _ _ hS17 (fun hH => ?_)
                  clear hK K
                  try simp only [Act.put, List.setIfInBounds_toArray, List.set_cons_zero, List.set_cons_succ]
                  refine wpAnyH_ready (rs := [19]) (by kernel_rfl) (by simp) ?_
                  refine AllReadyH.cons (o := { dst := some 201, op := _, type := _, pos := _, after := _, guard := some (14, true) }) rfl (fun K hK => ?_) AllReadyH.nil
                  go_simp
                  refine (same_as false sa sc sb2 sd (some ⟨xb, xo, none⟩) kc va vc L O k k _ RS (RN.keep (chgOf7 hH)) HK.out.2.1 HK.out.2.2.1).mono ?_
                  rintro e u19 ⟨rfl, g19⟩
                  have hS19 := hold7 hH g19
                  clear hH
                  refine hK.out _ _ hS19 (fun hH => ?_)
                  clear hK K
                  try simp only [Act.put, List.setIfInBounds_toArray, List.set_cons_zero, List.set_cons_succ]
                  refine wpAnyH_take (i := 20) (oi := { dst := some 202, op := _, type := _, pos := _, after := _, guard := none }) (v := ?_) rfl (by kernel_rfl) (by kernel_rfl) (by kernel_rfl) (fun _ _ _ h => h) (Or.inl ⟨by rfl, ?_⟩) hH ?_
                  rotate_left
                  · intro u hSu
                    try dsimp only at hSu
                    go_simp
                    try with_reducible rfl
                  try simp only [Act.put, List.setIfInBounds_toArray, List.set_cons_zero, List.set_cons_succ]
                  refine wpAnyH_take (i := 21) (oi := { dst := some 4, op := _, type := _, pos := _, after := _, guard := none }) (v := ?_) rfl (by kernel_rfl) (by kernel_rfl) (by kernel_rfl) (fun _ _ _ h => h) (Or.inl ⟨by rfl, ?_⟩) hH ?_
                  rotate_left
                  · intro u hSu
                    try dsimp only at hSu
                    go_simp
                    try with_reducible rfl
                  try simp only [Act.put, List.setIfInBounds_toArray, List.set_cons_zero, List.set_cons_succ]
                  refine wpAnyH_done (by kernel_rfl) ?_ _
                  have gE := chgOf7 hS19
                  go_wp2_with fail
                  go_ret
                  exact ⟨rfl, hw0 ▸ G.then gE⟩
          · have g1 : decide ((y : Int) > (x : Int)) = false := decide_eq_false (by omega)
            have g2 : decide ((x : Int) < (y : Int)) = false := decide_eq_false (by omega)
            have g3 : decide (x < y) = false := decide_eq_false (by omega)
            clear hcy
            by_cases hck1 : c9 < k
            · have g7 : decide ((c9 : Int) < (k : Int)) = true := decide_eq_true (by omega)
              have g8 : decide (c9 < k) = true := decide_eq_true hck1
              have g9 : (c9 : Int) < (k : Int) := by omega
              obtain ⟨z1, hz1⟩ : ∃ z, L[c9]? = some z := ⟨_, List.getElem?_eq_getElem (by have := HK.out.2.1; omega)⟩
              have hxz := hc1 z1 hz1
              have c2 := RN.rk.cell c9 _ (uvs_get hz1)
              have i1 : decide ((z1 : Int) ≤ (x : Int)) = false := decide_eq_false (by omega)
              have i2 : decide (z1 ≤ x) = false := decide_eq_false (by omega)
              have HC9 := mkHid (And.intro hc9 hxz)
              clear hz1 hc1 hc9 hxz
              go_wp2_with fail
              clear f1 f1' f1q f2 f3 f4 f5 f6 f7 f8 g1 g2 g3 g7 g8 g9 i1 i2 c1 c2
              obtain ⟨k1, hk1⟩ : ∃ k1, k + 1 = k1 := ⟨_, rfl⟩
              obtain ⟨X, hX⟩ : ∃ y, sub L 0 p ++ ([x] ++ sub L p k) = y := ⟨_, rfl⟩
              obtain ⟨Y, hY⟩ : ∃ y, sub O 0 p ++ ([7] ++ sub O p k) = y := ⟨_, rfl⟩
              have hif := ins_facts HK.out.2.1 HK.out.2.2.1 HK.out.1 hpk hk1 HK.out.2.2.2.2.2 (fun z hz => by have := (List.getElem?_eq_some_iff.1 hz).1; have := HK.out.2.1; have := HEQ.out; omega) hX hY
              have HIF := mkHid (And.intro hif (And.intro hX hY))
              clear hif hX hY
              refine (insert_as (some ⟨xb, xo, none⟩) kc va vc L O k p k1 x 7 X Y w4 RN HK.out.2.1 HK.out.2.2.1 hpk hk1 (by omega) HIF.out.2.1 HIF.out.2.2).mono ?_
              rintro e u5 ⟨⟨ra, rc, rb, rd, rfl, RM⟩, gc⟩
              obtain ⟨w5, hw5⟩ : ∃ x, x = (u5.alloc (.cells #[.bool false, .slice ra k1 rc, .slice rb k1 rd] 24)) := ⟨_, rfl⟩
              have gu : Chg [] u5 w5 := by rw [hw5]; exact Chg.alloc [] _ _
              have gn := gc.then gu
              replace BN := BN.keep gn
              replace RN := RN.keep gn
              replace G := G.then gn
              have BM : Bx w5 (u5.heap.size) (.bool false) (.slice ra k1 rc) (.slice rb k1 rd) := by rw [hw5]; exact ⟨by simp [go_sem], by simp [go_sem], by simp [go_sem]⟩
              replace RM := RM.keep gu
              clear gc gu gn
              have hw5' := hw5.symm
              clear hw5
              have a0 := BM.c0
              have a1 := BM.c1
              have a2 := BM.c2
              go_wp2_with fail
              clear hw5'
              clear a0 a1 a2
              generalize u5.heap.size = mb at *
              refine (finds_as ra rc rb rd X Y k1 p x true w5 RM HIF.out.1.2.1 HIF.out.1.2.2.1 HIF.out.1.2.2.2.2.2.1 HIF.out.1.2.2.2.2.2.2.1).mono ?_
              rintro e w6 ⟨rfl, gc⟩
              replace BN := BN.keep gc
              replace RN := RN.keep gc
              replace BM := BM.keep gc
              replace RM := RM.keep gc
              replace G := G.then gc
              clear gc
              obtain ⟨yb, yo, rfl, cy, _⟩ := reads_lt RM.rv p _ (uvs_get HIF.out.1.2.2.2.2.1)
              go_wp2_with fail
              go_loopw [15] (fun iv wz => ∃ i : Nat, iv = .int .i64 i ∧ 1 ≤ i ∧ i ≤ k1 ∧ Chg [] w6 wz) (fun iv _ => k1 - (intOf iv).toNat)
              case atStart => exact ⟨1, rfl, Nat.le_refl _, by omega, Chg.refl _ _⟩
              case round =>
                obtain ⟨i, rfl, hi1, hik, gz⟩ := hrel
                replace BN := BN.keep gz
                replace RN := RN.keep gz
                replace BM := BM.keep gz
                replace RM := RM.keep gz
                replace G := G.then gz
                replace cy := gz.cellv cy (by simp)
                have a0 := BM.c0
                have a1 := BM.c1
                have a2 := BM.c2
                by_cases hil : i < k1
                · have d1 : decide (i < k1) = true := decide_eq_true hil
                  have d2 : decide ((i : Int) < (k1 : Int)) = true := decide_eq_true (by omega)
                  obtain ⟨j, rfl⟩ : ∃ j, i = j + 1 := ⟨i - 1, by omega⟩
                  obtain ⟨y1, hy1⟩ : ∃ y, X[j]? = some y := ⟨_, List.getElem?_eq_getElem (by have := HIF.out.1.2.1; omega)⟩
                  obtain ⟨y2, hy2⟩ : ∃ y, X[j + 1]? = some y := ⟨_, List.getElem?_eq_getElem (by have := HIF.out.1.2.1; omega)⟩
                  have hyy := rising_lt HIF.out.1.1 hy1 hy2
                  obtain ⟨xb, xo, rfl, c1, _⟩ := reads_lt RM.rk j _ (uvs_get hy1)
                  have c2 := RM.rk.cell (j + 1) _ (uvs_get hy2)
                  obtain ⟨i, hi⟩ : ∃ i, j + 1 = i := ⟨_, rfl⟩
                  rw [hi] at d1 d2 c2 hil hi1 hik ⊢
                  have q1 : (i : Int) - 1 = (j : Int) := by omega
                  have q2 : IntKind.i64.wrap (j : Int) = (j : Int) := by rw [IntKind.wrap_i64]; omega
                  have q3 : j < k1 := by omega
                  have q4 : (j : Int) < (k1 : Int) := by omega
                  have q5 : (i : Int) < (k1 : Int) := by omega
                  have d3 : decide ((y1 : Int) ≥ (y2 : Int)) = false := decide_eq_false (by omega)
                  have d4 : decide ((y2 : Int) ≤ (y1 : Int)) = false := decide_eq_false (by omega)
                  have d5 : decide (y2 ≤ y1) = false := decide_eq_false (by omega)
                  have HI := mkHid hi
                  clear hi hyy hy1 hy2
                  go_wp2_with fail
                  go_quiet (fail)
                  have gq : Chg [] wr (wr.drewN nq) := ⟨rfl, rfl, rfl, Nat.le_refl _, fun _ _ _ => rfl⟩
                  have gz2 := gz.then gq
                  clear gq q1 q2
                  go_wp2_with fail
                  exact ⟨⟨i + 1, by go_num, by omega, by omega, gz2⟩, by simp [intOf]; omega⟩
                · have d1 : decide (i < k1) = false := decide_eq_false hil
                  have d2 : decide ((i : Int) < (k1 : Int)) = false := decide_eq_false (by omega)
                  go_wp2_with fail
                  have b1 : ((p : Int) == (p : Int)) = true := by simp
                  have hlt1 : p < k1 := by omega
                  have hlt2 : (p : Int) < (k1 : Int) := by omega
                  refine wp_region_held_drew (S := fun u => u.cell? ⟨mb, 0, none⟩ = some (.bool false) ∧ u.cell? ⟨mb, 1, none⟩ = some (.slice ra k1 rc) ∧ u.cell? ⟨mb, 2, none⟩ = some (.slice (some ⟨yb, yo, none⟩) k1 rd) ∧ u.cell? ⟨nb, 0, none⟩ = some (.bool false) ∧ u.cell? ⟨nb, 1, none⟩ = some (.slice (some ⟨xb, xo, none⟩) k kc) ∧ u.cell? ⟨nb, 2, none⟩ = some (.slice va k vc) ∧ u.cell? ⟨yb, yo + p, none⟩ = some (.int .u64 ((7 : Nat) : Int)) ∧ Chg [] wr u) (by kernel_rfl) ?_ (fun hH => ?_)
                  · exact ⟨(Chg.drew [] _).cellv BM.c0 (by simp), (Chg.drew [] _).cellv BM.c1 (by simp), (Chg.drew [] _).cellv BM.c2 (by simp), (Chg.drew [] _).cellv BN.c0 (by simp), (Chg.drew [] _).cellv BN.c1 (by simp), (Chg.drew [] _).cellv BN.c2 (by simp), (Chg.drew [] _).cellv cy (by simp), Chg.drew [] _⟩
                  refine wpAnyH_take (i := 0) (oi := { dst := some 182, op := _, type := _, pos := _, after := _, guard := none }) (v := ?_) rfl (by kernel_rfl) (by kernel_rfl) (by kernel_rfl) (fun _ _ _ h => h) (Or.inl ⟨by rfl, ?_⟩) hH ?_
                  rotate_left
                  · intro u hSu
                    try dsimp only at hSu
                    go_simp
                    try with_reducible rfl
                  try simp only [Act.put, List.setIfInBounds_toArray, List.set_cons_zero, List.set_cons_succ]
                  refine wpAnyH_take (i := 1) (oi := { dst := some 183, op := _, type := _, pos := _, after := _, guard := none }) (v := ?_) rfl (by kernel_rfl) (by kernel_rfl) (by kernel_rfl) (fun _ _ _ h => h) (Or.inl ⟨by rfl, ?_⟩) hH ?_
                  rotate_left
                  · intro u hSu
                    try dsimp only at hSu
                    go_simp
                    try with_reducible rfl
                  try simp only [Act.put, List.setIfInBounds_toArray, List.set_cons_zero, List.set_cons_succ]
                  refine wpAnyH_take (i := 2) (oi := { dst := some 184, op := _, type := _, pos := _, after := _, guard := some (1, true) }) (v := ?_) rfl (by kernel_rfl) (by kernel_rfl) (by kernel_rfl) (fun _ _ _ h => h) (Or.inl ⟨by rfl, ?_⟩) hH ?_
                  rotate_left
                  · intro u hSu
                    try dsimp only at hSu
                    go_simp
                    try with_reducible rfl
                  try simp only [Act.put, List.setIfInBounds_toArray, List.set_cons_zero, List.set_cons_succ]
                  refine wpAnyH_take (i := 3) (oi := { dst := some 185, op := _, type := _, pos := _, after := _, guard := some (1, true) }) (v := ?_) rfl (by kernel_rfl) (by kernel_rfl) (by kernel_rfl) (fun _ _ _ h => h) (Or.inl ⟨by rfl, ?_⟩) hH ?_
                  rotate_left
                  · intro u hSu
                    try dsimp only at hSu
                    go_simp
                    try with_reducible rfl
                  try simp only [Act.put, List.setIfInBounds_toArray, List.set_cons_zero, List.set_cons_succ]
                  refine wpAnyH_take (i := 4) (oi := { dst := some 186, op := _, type := _, pos := _, after := _, guard := some (1, true) }) (v := ?_) rfl (by kernel_rfl) (by kernel_rfl) (by kernel_rfl) (fun _ _ _ h => h) (Or.inl ⟨by rfl, ?_⟩) hH ?_
                  rotate_left
                  · intro u hSu
                    try dsimp only at hSu
                    go_simp
                    try with_reducible rfl
                  try simp only [Act.put, List.setIfInBounds_toArray, List.set_cons_zero, List.set_cons_succ]
                  refine wpAnyH_take (i := 5) (oi := { dst := some 187, op := _, type := _, pos := _, after := _, guard := none }) (v := ?_) rfl (by kernel_rfl) (by kernel_rfl) (by kernel_rfl) (fun _ _ _ h => h) (Or.inl ⟨by rfl, ?_⟩) hH ?_
                  rotate_left
                  · intro u hSu
                    try dsimp only at hSu
                    go_simp
                    try with_reducible rfl
                  try simp only [Act.put, List.setIfInBounds_toArray, List.set_cons_zero, List.set_cons_succ]
                  refine wpAnyH_take (i := 6) (oi := { dst := some 188, op := _, type := _, pos := _, after := _, guard := none }) (v := ?_) rfl (by kernel_rfl) (by kernel_rfl) (by kernel_rfl) (fun _ _ _ h => h) (Or.inl ⟨by rfl, ?_⟩) hH ?_
                  rotate_left
                  · intro u hSu
                    try dsimp only at hSu
                    go_simp
                    try with_reducible rfl
                  try simp only [Act.put, List.setIfInBounds_toArray, List.set_cons_zero, List.set_cons_succ]
                  refine wpAnyH_take (i := 7) (oi := { dst := some 189, op := _, type := _, pos := _, after := _, guard := some (6, true) }) (v := ?_) rfl (by kernel_rfl) (by kernel_rfl) (by kernel_rfl) (fun _ _ _ h => h) (Or.inl ⟨by rfl, ?_⟩) hH ?_
                  rotate_left
                  · intro u hSu
                    try dsimp only at hSu
                    go_simp
                    try with_reducible rfl
                  try simp only [Act.put, List.setIfInBounds_toArray, List.set_cons_zero, List.set_cons_succ]
                  refine wpAnyH_take (i := 8) (oi := { dst := some 190, op := _, type := _, pos := _, after := _, guard := some (6, true) }) (v := ?_) rfl (by kernel_rfl) (by kernel_rfl) (by kernel_rfl) (fun _ _ _ h => h) (Or.inl ⟨by rfl, ?_⟩) hH ?_
                  rotate_left
                  · intro u hSu
                    try dsimp only at hSu
                    go_simp
                    try with_reducible rfl
                  try simp only [Act.put, List.setIfInBounds_toArray, List.set_cons_zero, List.set_cons_succ]
                  refine wpAnyH_take (i := 9) (oi := { dst := some 191, op := _, type := _, pos := _, after := _, guard := some (6, true) }) (v := ?_) rfl (by kernel_rfl) (by kernel_rfl) (by kernel_rfl) (fun _ _ _ h => h) (Or.inl ⟨by rfl, ?_⟩) hH ?_
                  rotate_left
                  · intro u hSu
                    try dsimp only at hSu
                    go_simp
                    try with_reducible rfl
                  try simp only [Act.put, List.setIfInBounds_toArray, List.set_cons_zero, List.set_cons_succ]
                  refine wpAnyH_take (i := 10) (oi := { dst := some 192, op := _, type := _, pos := _, after := _, guard := some (6, true) }) (v := ?_) rfl (by kernel_rfl) (by kernel_rfl) (by kernel_rfl) (fun _ _ _ h => h) (Or.inl ⟨by rfl, ?_⟩) hH ?_
                  rotate_left
                  · intro u hSu
                    try dsimp only at hSu
                    go_simp
                    try with_reducible rfl
                  try simp only [Act.put, List.setIfInBounds_toArray, List.set_cons_zero, List.set_cons_succ]
                  refine wpAnyH_take (i := 11) (oi := { dst := some 193, op := _, type := _, pos := _, after := _, guard := some (6, true) }) (v := ?_) rfl (by kernel_rfl) (by kernel_rfl) (by kernel_rfl) (fun _ _ _ h => h) (Or.inl ⟨by rfl, ?_⟩) hH ?_
                  rotate_left
                  · intro u hSu
                    try dsimp only at hSu
                    go_simp
                    try with_reducible rfl
                  try simp only [Act.put, List.setIfInBounds_toArray, List.set_cons_zero, List.set_cons_succ]
                  refine wpAnyH_take (i := 12) (oi := { dst := some 194, op := _, type := _, pos := _, after := _, guard := some (6, true) }) (v := ?_) rfl (by kernel_rfl) (by kernel_rfl) (by kernel_rfl) (fun _ _ _ h => h) (Or.inl ⟨by rfl, ?_⟩) hH ?_
                  rotate_left
                  · intro u hSu
                    try dsimp only at hSu
                    go_simp
                    try with_reducible rfl
                  try simp only [Act.put, List.setIfInBounds_toArray, List.set_cons_zero, List.set_cons_succ]
                  refine wpAnyH_take (i := 13) (oi := { dst := some 195, op := _, type := _, pos := _, after := _, guard := none }) (v := ?_) rfl (by kernel_rfl) (by kernel_rfl) (by kernel_rfl) (fun _ _ _ h => h) (Or.inl ⟨by rfl, ?_⟩) hH ?_
                  rotate_left
                  · intro u hSu
                    try dsimp only at hSu
                    go_simp
                    try with_reducible rfl
                  try simp only [Act.put, List.setIfInBounds_toArray, List.set_cons_zero, List.set_cons_succ]
                  refine wpAnyH_take (i := 14) (oi := { dst := some 196, op := _, type := _, pos := _, after := _, guard := none }) (v := ?_) rfl (by kernel_rfl) (by kernel_rfl) (by kernel_rfl) (fun _ _ _ h => h) (Or.inl ⟨by rfl, ?_⟩) hH ?_
                  rotate_left
                  · intro u hSu
                    try dsimp only at hSu
                    go_simp
                    try with_reducible rfl
                  try simp only [Act.put, List.setIfInBounds_toArray, List.set_cons_zero, List.set_cons_succ]
                  refine wpAnyH_take (i := 15) (oi := { dst := some 197, op := _, type := _, pos := _, after := _, guard := some (14, true) }) (v := ?_) rfl (by kernel_rfl) (by kernel_rfl) (by kernel_rfl) (fun _ _ _ h => h) (Or.inl ⟨by rfl, ?_⟩) hH ?_
                  rotate_left
                  · intro u hSu
                    try dsimp only at hSu
                    go_simp
                    try with_reducible rfl
                  try simp only [Act.put, List.setIfInBounds_toArray, List.set_cons_zero, List.set_cons_succ]
                  refine wpAnyH_take (i := 16) (oi := { dst := some 198, op := _, type := _, pos := _, after := _, guard := some (14, true) }) (v := ?_) rfl (by kernel_rfl) (by kernel_rfl) (by kernel_rfl) (fun _ _ _ h => h) (Or.inl ⟨by rfl, ?_⟩) hH ?_
                  rotate_left
                  · intro u hSu
                    try dsimp only at hSu
                    go_simp
                    try with_reducible rfl
                  try simp only [Act.put, List.setIfInBounds_toArray, List.set_cons_zero, List.set_cons_succ]
                  refine wpAnyH_take (i := 18) (oi := { dst := some 200, op := _, type := _, pos := _, after := _, guard := some (14, true) }) (v := ?_) rfl (by kernel_rfl) (by kernel_rfl) (by kernel_rfl) (fun _ _ _ h => h) (Or.inl ⟨by rfl, ?_⟩) hH ?_
                  rotate_left
                  · intro u hSu
                    try dsimp only at hSu
                    go_simp
                    try with_reducible rfl
                  try simp only [Act.put, List.setIfInBounds_toArray, List.set_cons_zero, List.set_cons_succ]
                  refine wpAnyH_ready (rs := [17]) (by kernel_rfl) (by simp) ?_
                  refine AllReadyH.cons (o := { dst := some 199, op := _, type := _, pos := _, after := _, guard := some (14, true) }) rfl (fun K hK => ?_) AllReadyH.nil
                  go_simp
                  refine (remove_as ra rc (some ⟨yb, yo, none⟩) rd X Y k p k1 L O _ (RM.keep (chgOf7 hH)) HIF.out.1.2.1 HIF.out.1.2.2.1 hpk hk1 (by omega) HIF.out.1.2.2.2.2.2.2.2.1 HIF.out.1.2.2.2.2.2.2.2.2 HK.out.2.1 HK.out.2.2.1).mono ?_
                  rintro e u17 ⟨⟨sa, sc, sb2, sd, rfl, RS⟩, g17⟩
                  have hS17 := hold7 hH g17
                  clear hH
                  refine hK.out _ _ hS17 (fun hH => ?_)
                  clear hK K
                  try simp only [Act.put, List.setIfInBounds_toArray, List.set_cons_zero, List.set_cons_succ]
                  refine wpAnyH_ready (rs := [19]) (by kernel_rfl) (by simp) ?_
                  refine AllReadyH.cons (o := { dst := some 201, op := _, type := _, pos := _, after := _, guard := some (14, true) }) rfl (fun K hK => ?_) AllReadyH.nil
                  go_simp
                  refine (same_as false sa sc sb2 sd (some ⟨xb, xo, none⟩) kc va vc L O k k _ RS (RN.keep (chgOf7 hH)) HK.out.2.1 HK.out.2.2.1).mono ?_
                  rintro e u19 ⟨rfl, g19⟩
                  have hS19 := hold7 hH g19
                  clear hH
                  refine hK.out _ _ hS19 (fun hH => ?_)
                  clear hK K
                  try simp only [Act.put, List.setIfInBounds_toArray, List.set_cons_zero, List.set_cons_succ]
                  refine wpAnyH_take (i := 20) (oi := { dst := some 202, op := _, type := _, pos := _, after := _, guard := none }) (v := ?_) rfl (by kernel_rfl) (by kernel_rfl) (by kernel_rfl) (fun _ _ _ h => h) (Or.inl ⟨by rfl, ?_⟩) hH ?_
                  rotate_left
                  · intro u hSu
                    try dsimp only at hSu
                    go_simp
                    try with_reducible rfl
                  try simp only [Act.put, List.setIfInBounds_toArray, List.set_cons_zero, List.set_cons_succ]
                  refine wpAnyH_take (i := 21) (oi := { dst := some 4, op := _, type := _, pos := _, after := _, guard := none }) (v := ?_) rfl (by kernel_rfl) (by kernel_rfl) (by kernel_rfl) (fun _ _ _ h => h) (Or.inl ⟨by rfl, ?_⟩) hH ?_
                  rotate_left
                  · intro u hSu
                    try dsimp only at hSu
                    go_simp
                    try with_reducible rfl
                  try simp only [Act.put, List.setIfInBounds_toArray, List.set_cons_zero, List.set_cons_succ]
                  refine wpAnyH_done (by kernel_rfl) ?_ _
                  have gE := chgOf7 hS19
                  go_wp2_with fail
                  go_ret
                  exact ⟨rfl, hw0 ▸ G.then gE⟩
            · have g7 : decide ((c9 : Int) < (k : Int)) = false := decide_eq_false (by omega)
              have g8 : decide (c9 < k) = false := decide_eq_false hck1
              have HC9 := mkHid hc9
              clear hc1 hc9
              go_wp2_with fail
              clear f1 f1' f1q f2 f3 f4 f5 f6 f7 f8 g1 g2 g3 g7 g8 c1
              obtain ⟨k1, hk1⟩ : ∃ k1, k + 1 = k1 := ⟨_, rfl⟩
              obtain ⟨X, hX⟩ : ∃ y, sub L 0 p ++ ([x] ++ sub L p k) = y := ⟨_, rfl⟩
              obtain ⟨Y, hY⟩ : ∃ y, sub O 0 p ++ ([7] ++ sub O p k) = y := ⟨_, rfl⟩
              have hif := ins_facts HK.out.2.1 HK.out.2.2.1 HK.out.1 hpk hk1 HK.out.2.2.2.2.2 (fun z hz => by have := (List.getElem?_eq_some_iff.1 hz).1; have := HK.out.2.1; have := HEQ.out; omega) hX hY
              have HIF := mkHid (And.intro hif (And.intro hX hY))
              clear hif hX hY
              refine (insert_as (some ⟨xb, xo, none⟩) kc va vc L O k p k1 x 7 X Y w4 RN HK.out.2.1 HK.out.2.2.1 hpk hk1 (by omega) HIF.out.2.1 HIF.out.2.2).mono ?_
              rintro e u5 ⟨⟨ra, rc, rb, rd, rfl, RM⟩, gc⟩
              obtain ⟨w5, hw5⟩ : ∃ x, x = (u5.alloc (.cells #[.bool false, .slice ra k1 rc, .slice rb k1 rd] 24)) := ⟨_, rfl⟩
              have gu : Chg [] u5 w5 := by rw [hw5]; exact Chg.alloc [] _ _
              have gn := gc.then gu
              replace BN := BN.keep gn
              replace RN := RN.keep gn
              replace G := G.then gn
              have BM : Bx w5 (u5.heap.size) (.bool false) (.slice ra k1 rc) (.slice rb k1 rd) := by rw [hw5]; exact ⟨by simp [go_sem], by simp [go_sem], by simp [go_sem]⟩
              replace RM := RM.keep gu
              clear gc gu gn
              have hw5' := hw5.symm
              clear hw5
              have a0 := BM.c0
              have a1 := BM.c1
              have a2 := BM.c2
              go_wp2_with fail
              clear hw5'
              clear a0 a1 a2
              generalize u5.heap.size = mb at *
              refine (finds_as ra rc rb rd X Y k1 p x true w5 RM HIF.out.1.2.1 HIF.out.1.2.2.1 HIF.out.1.2.2.2.2.2.1 HIF.out.1.2.2.2.2.2.2.1).mono ?_
              rintro e w6 ⟨rfl, gc⟩
              replace BN := BN.keep gc
              replace RN := RN.keep gc
              replace BM := BM.keep gc
              replace RM := RM.keep gc
              replace G := G.then gc
              clear gc
              obtain ⟨yb, yo, rfl, cy, _⟩ := reads_lt RM.rv p _ (uvs_get HIF.out.1.2.2.2.2.1)
              go_wp2_with fail
              go_loopw [15] (fun iv wz => ∃ i : Nat, iv = .int .i64 i ∧ 1 ≤ i ∧ i ≤ k1 ∧ Chg [] w6 wz) (fun iv _ => k1 - (intOf iv).toNat)
              case atStart => exact ⟨1, rfl, Nat.le_refl _, by omega, Chg.refl _ _⟩
              case round =>
                obtain ⟨i, rfl, hi1, hik, gz⟩ := hrel
                replace BN := BN.keep gz
                replace RN := RN.keep gz
                replace BM := BM.keep gz
                replace RM := RM.keep gz
                replace G := G.then gz
                replace cy := gz.cellv cy (by simp)
                have a0 := BM.c0
                have a1 := BM.c1
                have a2 := BM.c2
                by_cases hil : i < k1
                · have d1 : decide (i < k1) = true := decide_eq_true hil
                  have d2 : decide ((i : Int) < (k1 : Int)) = true := decide_eq_true (by omega)
                  obtain ⟨j, rfl⟩ : ∃ j, i = j + 1 := ⟨i - 1, by omega⟩
                  obtain ⟨y1, hy1⟩ : ∃ y, X[j]? = some y := ⟨_, List.getElem?_eq_getElem (by have := HIF.out.1.2.1; omega)⟩
                  obtain ⟨y2, hy2⟩ : ∃ y, X[j + 1]? = some y := ⟨_, List.getElem?_eq_getElem (by have := HIF.out.1.2.1; omega)⟩
                  have hyy := rising_lt HIF.out.1.1 hy1 hy2
                  obtain ⟨xb, xo, rfl, c1, _⟩ := reads_lt RM.rk j _ (uvs_get hy1)
                  have c2 := RM.rk.cell (j + 1) _ (uvs_get hy2)
                  obtain ⟨i, hi⟩ : ∃ i, j + 1 = i := ⟨_, rfl⟩
                  rw [hi] at d1 d2 c2 hil hi1 hik ⊢
                  have q1 : (i : Int) - 1 = (j : Int) := by omega
                  have q2 : IntKind.i64.wrap (j : Int) = (j : Int) := by rw [IntKind.wrap_i64]; omega
                  have q3 : j < k1 := by omega
                  have q4 : (j : Int) < (k1 : Int) := by omega
                  have q5 : (i : Int) < (k1 : Int) := by omega
                  have d3 : decide ((y1 : Int) ≥ (y2 : Int)) = false := decide_eq_false (by omega)
                  have d4 : decide ((y2 : Int) ≤ (y1 : Int)) = false := decide_eq_false (by omega)
                  have d5 : decide (y2 ≤ y1) = false := decide_eq_false (by omega)
                  have HI := mkHid hi
                  clear hi hyy hy1 hy2
                  go_wp2_with fail
                  go_quiet (fail)
                  have gq : Chg [] wr (wr.drewN nq) := ⟨rfl, rfl, rfl, Nat.le_refl _, fun _ _ _ => rfl⟩
                  have gz2 := gz.then gq
                  clear gq q1 q2
                  go_wp2_with fail
                  exact ⟨⟨i + 1, by go_num, by omega, by omega, gz2⟩, by simp [intOf]; omega⟩
                · have d1 : decide (i < k1) = false := decide_eq_false hil
                  have d2 : decide ((i : Int) < (k1 : Int)) = false := decide_eq_false (by omega)
                  go_wp2_with fail
                  have b1 : ((p : Int) == (p : Int)) = true := by simp
                  have hlt1 : p < k1 := by omega
                  have hlt2 : (p : Int) < (k1 : Int) := by omega
                  refine wp_region_held_drew (S := fun u => u.cell? ⟨mb, 0, none⟩ = some (.bool false) ∧ u.cell? ⟨mb, 1, none⟩ = some (.slice ra k1 rc) ∧ u.cell? ⟨mb, 2, none⟩ = some (.slice (some ⟨yb, yo, none⟩) k1 rd) ∧ u.cell? ⟨nb, 0, none⟩ = some (.bool false) ∧ u.cell? ⟨nb, 1, none⟩ = some (.slice (some ⟨xb, xo, none⟩) k kc) ∧ u.cell? ⟨nb, 2, none⟩ = some (.slice va k vc) ∧ u.cell? ⟨yb, yo + p, none⟩ = some (.int .u64 ((7 : Nat) : Int)) ∧ Chg [] wr u) (by kernel_rfl) ?_ (fun hH => ?_)
                  · exact ⟨(Chg.drew [] _).cellv BM.c0 (by simp), (Chg.drew [] _).cellv BM.c1 (by simp), (Chg.drew [] _).cellv BM.c2 (by simp), (Chg.drew [] _).cellv BN.c0 (by simp), (Chg.drew [] _).cellv BN.c1 (by simp), (Chg.drew [] _).cellv BN.c2 (by simp), (Chg.drew [] _).cellv cy (by simp), Chg.drew [] _⟩
                  refine wpAnyH_take (i := 0) (oi := { dst := some 182, op := _, type := _, pos := _, after := _, guard := none }) (v := ?_) rfl (by kernel_rfl) (by kernel_rfl) (by kernel_rfl) (fun _ _ _ h => h) (Or.inl ⟨by rfl, ?_⟩) hH ?_
                  rotate_left
                  · intro u hSu
                    try dsimp only at hSu
                    go_simp
                    try with_reducible rfl
                  try simp only [Act.put, List.setIfInBounds_toArray, List.set_cons_zero, List.set_cons_succ]
                  refine wpAnyH_take (i := 1) (oi := { dst := some 183, op := _, type := _, pos := _, after := _, guard := none }) (v := ?_) rfl (by kernel_rfl) (by kernel_rfl) (by kernel_rfl) (fun _ _ _ h => h) (Or.inl ⟨by rfl, ?_⟩) hH ?_
                  rotate_left
                  · intro u hSu
                    try dsimp only at hSu
                    go_simp
                    try with_reducible rfl
                  try simp only [Act.put, List.setIfInBounds_toArray, List.set_cons_zero, List.set_cons_succ]
                  refine wpAnyH_take (i := 2) (oi := { dst := some 184, op := _, type := _, pos := _, after := _, guard := some (1, true) }) (v := ?_) rfl (by kernel_rfl) (by kernel_rfl) (by kernel_rfl) (fun _ _ _ h => h) (Or.inl ⟨by rfl, ?_⟩) hH ?_
                  rotate_left
                  · intro u hSu
                    try dsimp only at hSu
                    go_simp
                    try with_reducible rfl
                  try simp only [Act.put, List.setIfInBounds_toArray, List.set_cons_zero, List.set_cons_succ]
                  refine wpAnyH_take (i := 3) (oi := { dst := some 185, op := _, type := _, pos := _, after := _, guard := some (1, true) }) (v := ?_) rfl (by kernel_rfl) (by kernel_rfl) (by kernel_rfl) (fun _ _ _ h => h) (Or.inl ⟨by rfl, ?_⟩) hH ?_
                  rotate_left
                  · intro u hSu
                    try dsimp only at hSu
                    go_simp
                    try with_reducible rfl
                  try simp only [Act.put, List.setIfInBounds_toArray, List.set_cons_zero, List.set_cons_succ]
                  refine wpAnyH_take (i := 4) (oi := { dst := some 186, op := _, type := _, pos := _, after := _, guard := some (1, true) }) (v := ?_) rfl (by kernel_rfl) (by kernel_rfl) (by kernel_rfl) (fun _ _ _ h => h) (Or.inl ⟨by rfl, ?_⟩) hH ?_
                  rotate_left
                  · intro u hSu
                    try dsimp only at hSu
                    go_simp
                    try with_reducible rfl
                  try simp only [Act.put, List.setIfInBounds_toArray, List.set_cons_zero, List.set_cons_succ]
                  refine wpAnyH_take (i := 5) (oi := { dst := some 187, op := _, type := _, pos := _, after := _, guard := none }) (v := ?_) rfl (by kernel_rfl) (by kernel_rfl) (by kernel_rfl) (fun _ _ _ h => h) (Or.inl ⟨by rfl, ?_⟩) hH ?_
                  rotate_left
                  · intro u hSu
                    try dsimp only at hSu
                    go_simp
                    try with_reducible rfl
                  try simp only [Act.put, List.setIfInBounds_toArray, List.set_cons_zero, List.set_cons_succ]
                  refine wpAnyH_take (i := 6) (oi := { dst := some 188, op := _, type := _, pos := _, after := _, guard := none }) (v := ?_) rfl (by kernel_rfl) (by kernel_rfl) (by kernel_rfl) (fun _ _ _ h => h) (Or.inl ⟨by rfl, ?_⟩) hH ?_
                  rotate_left
                  · intro u hSu
                    try dsimp only at hSu
                    go_simp
                    try with_reducible rfl
                  try simp only [Act.put, List.setIfInBounds_toArray, List.set_cons_zero, List.set_cons_succ]
                  refine wpAnyH_take (i := 7) (oi := { dst := some 189, op := _, type := _, pos := _, after := _, guard := some (6, true) }) (v := ?_) rfl (by kernel_rfl) (by kernel_rfl) (by kernel_rfl) (fun _ _ _ h => h) (Or.inl ⟨by rfl, ?_⟩) hH ?_
                  rotate_left
                  · intro u hSu
                    try dsimp only at hSu
                    go_simp
                    try with_reducible rfl
                  try simp only [Act.put, List.setIfInBounds_toArray, List.set_cons_zero, List.set_cons_succ]
                  refine wpAnyH_take (i := 8) (oi := { dst := some 190, op := _, type := _, pos := _, after := _, guard := some (6, true) }) (v := ?_) rfl (by kernel_rfl) (by kernel_rfl) (by kernel_rfl) (fun _ _ _ h => h) (Or.inl ⟨by rfl, ?_⟩) hH ?_
                  rotate_left
                  · intro u hSu
                    try dsimp only at hSu
                    go_simp
                    try with_reducible rfl
                  try simp only [Act.put, List.setIfInBounds_toArray, List.set_cons_zero, List.set_cons_succ]
                  refine wpAnyH_take (i := 9) (oi := { dst := some 191, op := _, type := _, pos := _, after := _, guard := some (6, true) }) (v := ?_) rfl (by kernel_rfl) (by kernel_rfl) (by kernel_rfl) (fun _ _ _ h => h) (Or.inl ⟨by rfl, ?_⟩) hH ?_
                  rotate_left
                  · intro u hSu
                    try dsimp only at hSu
                    go_simp
                    try with_reducible rfl
                  try simp only [Act.put, List.setIfInBounds_toArray, List.set_cons_zero, List.set_cons_succ]
                  refine wpAnyH_take (i := 10) (oi := { dst := some 192, op := _, type := _, pos := _, after := _, guard := some (6, true) }) (v := ?_) rfl (by kernel_rfl) (by kernel_rfl) (by kernel_rfl) (fun _ _ _ h => h) (Or.inl ⟨by rfl, ?_⟩) hH ?_
                  rotate_left
                  · intro u hSu
                    try dsimp only at hSu
                    go_simp
                    try with_reducible rfl
                  try simp only [Act.put, List.setIfInBounds_toArray, List.set_cons_zero, List.set_cons_succ]
                  refine wpAnyH_take (i := 11) (oi := { dst := some 193, op := _, type := _, pos := _, after := _, guard := some (6, true) }) (v := ?_) rfl (by kernel_rfl) (by kernel_rfl) (by kernel_rfl) (fun _ _ _ h => h) (Or.inl ⟨by rfl, ?_⟩) hH ?_
                  rotate_left
                  · intro u hSu
                    try dsimp only at hSu
                    go_simp
                    try with_reducible rfl
                  try simp only [Act.put, List.setIfInBounds_toArray, List.set_cons_zero, List.set_cons_succ]
                  refine wpAnyH_take (i := 12) (oi := { dst := some 194, op := _, type := _, pos := _, after := _, guard := some (6, true) }) (v := ?_) rfl (by kernel_rfl) (by kernel_rfl) (by kernel_rfl) (fun _ _ _ h => h) (Or.inl ⟨by rfl, ?_⟩) hH ?_
                  rotate_left
                  · intro u hSu
                    try dsimp only at hSu
                    go_simp
                    try with_reducible rfl
                  try simp only [Act.put, List.setIfInBounds_toArray, List.set_cons_zero, List.set_cons_succ]
                  refine wpAnyH_take (i := 13) (oi := { dst := some 195, op := _, type := _, pos := _, after := _, guard := none }) (v := ?_) rfl (by kernel_rfl) (by kernel_rfl) (by kernel_rfl) (fun _ _ _ h => h) (Or.inl ⟨by rfl, ?_⟩) hH ?_
                  rotate_left
                  · intro u hSu
                    try dsimp only at hSu
                    go_simp
                    try with_reducible rfl
                  try simp only [Act.put, List.setIfInBounds_toArray, List.set_cons_zero, List.set_cons_succ]
                  refine wpAnyH_take (i := 14) (oi := { dst := some 196, op := _, type := _, pos := _, after := _, guard := none }) (v := ?_) rfl (by kernel_rfl) (by kernel_rfl) (by kernel_rfl) (fun _ _ _ h => h) (Or.inl ⟨by rfl, ?_⟩) hH ?_
                  rotate_left
                  · intro u hSu
                    try dsimp only at hSu
                    go_simp
                    try with_reducible rfl
                  try simp only [Act.put, List.setIfInBounds_toArray, List.set_cons_zero, List.set_cons_succ]
                  refine wpAnyH_take (i := 15) (oi := { dst := some 197, op := _, type := _, pos := _, after := _, guard := some (14, true) }) (v := ?_) rfl (by kernel_rfl) (by kernel_rfl) (by kernel_rfl) (fun _ _ _ h => h) (Or.inl ⟨by rfl, ?_⟩) hH ?_
                  rotate_left
                  · intro u hSu
                    try dsimp only at hSu
                    go_simp
                    try with_reducible rfl
                  try simp only [Act.put, List.setIfInBounds_toArray, List.set_cons_zero, List.set_cons_succ]
                  refine wpAnyH_take (i := 16) (oi := { dst := some 198, op := _, type := _, pos := _, after := _, guard := some (14, true) }) (v := ?_) rfl (by kernel_rfl) (by kernel_rfl) (by kernel_rfl) (fun _ _ _ h => h) (Or.inl ⟨by rfl, ?_⟩) hH ?_
                  rotate_left
                  · intro u hSu
                    try dsimp only at hSu
                    go_simp
                    try with_reducible rfl
                  try simp only [Act.put, List.setIfInBounds_toArray, List.set_cons_zero, List.set_cons_succ]
                  refine wpAnyH_take (i := 18) (oi := { dst := some 200, op := _, type := _, pos := _, after := _, guard := some (14, true) }) (v := ?_) rfl (by kernel_rfl) (by kernel_rfl) (by kernel_rfl) (fun _ _ _ h => h) (Or.inl ⟨by rfl, ?_⟩) hH ?_
                  rotate_left
                  · intro u hSu
                    try dsimp only at hSu
                    go_simp
                    try with_reducible rfl
                  try simp only [Act.put, List.setIfInBounds_toArray, List.set_cons_zero, List.set_cons_succ]
                  refine wpAnyH_ready (rs := [17]) (by kernel_rfl) (by simp) ?_
                  refine AllReadyH.cons (o := { dst := some 199, op := _, type := _, pos := _, after := _, guard := some (14, true) }) rfl (fun K hK => ?_) AllReadyH.nil
                  go_simp
                  refine (remove_as ra rc (some ⟨yb, yo, none⟩) rd X Y k p k1 L O _ (RM.keep (chgOf7 hH)) HIF.out.1.2.1 HIF.out.1.2.2.1 hpk hk1 (by omega) HIF.out.1.2.2.2.2.2.2.2.1 HIF.out.1.2.2.2.2.2.2.2.2 HK.out.2.1 HK.out.2.2.1).mono ?_
                  rintro e u17 ⟨⟨sa, sc, sb2, sd, rfl, RS⟩, g17⟩
                  have hS17 := hold7 hH g17
                  clear hH
                  refine hK.out _ _ hS17 (fun hH => ?_)
                  clear hK K
                  try simp only [Act.put, List.setIfInBounds_toArray, List.set_cons_zero, List.set_cons_succ]
                  refine wpAnyH_ready (rs := [19]) (by kernel_rfl) (by simp) ?_
                  refine AllReadyH.cons (o := { dst := some 201, op := _, type := _, pos := _, after := _, guard := some (14, true) }) rfl (fun K hK => ?_) AllReadyH.nil
                  go_simp
                  refine (same_as false sa sc sb2 sd (some ⟨xb, xo, none⟩) kc va vc L O k k _ RS (RN.keep (chgOf7 hH)) HK.out.2.1 HK.out.2.2.1).mono ?_
                  rintro e u19 ⟨rfl, g19⟩
                  have hS19 := hold7 hH g19
                  clear hH
                  refine hK.out _ _ hS19 (fun hH => ?_)
                  clear hK K
                  try simp only [Act.put, List.setIfInBounds_toArray, List.set_cons_zero, List.set_cons_succ]
                  refine wpAnyH_take (i := 20) (oi := { dst := some 202, op := _, type := _, pos := _, after := _, guard := none }) (v := ?_) rfl (by kernel_rfl) (by kernel_rfl) (by kernel_rfl) (fun _ _ _ h => h) (Or.inl ⟨by rfl, ?_⟩) hH ?_
                  rotate_left
                  · intro u hSu
                    try dsimp only at hSu
                    go_simp
                    try with_reducible rfl
                  try simp only [Act.put, List.setIfInBounds_toArray, List.set_cons_zero, List.set_cons_succ]
                  refine wpAnyH_take (i := 21) (oi := { dst := some 4, op := _, type := _, pos := _, after := _, guard := none }) (v := ?_) rfl (by kernel_rfl) (by kernel_rfl) (by kernel_rfl) (fun _ _ _ h => h) (Or.inl ⟨by rfl, ?_⟩) hH ?_
                  rotate_left
                  · intro u hSu
                    try dsimp only at hSu
                    go_simp
                    try with_reducible rfl
                  try simp only [Act.put, List.setIfInBounds_toArray, List.set_cons_zero, List.set_cons_succ]
                  refine wpAnyH_done (by kernel_rfl) ?_ _
                  have gE := chgOf7 hS19
                  go_wp2_with fail
                  go_ret
                  exact ⟨rfl, hw0 ▸ G.then gE⟩
        · have f1 : decide ((k : Int) > 0) = false := decide_eq_false (by omega)
          have f1' : decide (0 < (k : Int)) = false := decide_eq_false (by omega)
          have f1q : decide (0 < k) = false := decide_eq_false (by omega)
          have HK0 := mkHid hk0
          clear hk0
          go_wp2_with fail
          clear f1 f1' f1q
          obtain ⟨k1, hk1⟩ : ∃ k1, k + 1 = k1 := ⟨_, rfl⟩
          obtain ⟨X, hX⟩ : ∃ y, sub L 0 p ++ ([x] ++ sub L p k) = y := ⟨_, rfl⟩
          obtain ⟨Y, hY⟩ : ∃ y, sub O 0 p ++ ([7] ++ sub O p k) = y := ⟨_, rfl⟩
          have hif := ins_facts HK.out.2.1 HK.out.2.2.1 HK.out.1 hpk hk1 HK.out.2.2.2.2.2 (fun z hz => by have := (List.getElem?_eq_some_iff.1 hz).1; have := HK.out.2.1; have := HEQ.out; omega) hX hY
          have HIF := mkHid (And.intro hif (And.intro hX hY))
          clear hif hX hY
          refine (insert_as ka kc va vc L O k p k1 x 7 X Y w4 RN HK.out.2.1 HK.out.2.2.1 hpk hk1 (by omega) HIF.out.2.1 HIF.out.2.2).mono ?_
          rintro e u5 ⟨⟨ra, rc, rb, rd, rfl, RM⟩, gc⟩
          obtain ⟨w5, hw5⟩ : ∃ x, x = (u5.alloc (.cells #[.bool false, .slice ra k1 rc, .slice rb k1 rd] 24)) := ⟨_, rfl⟩
          have gu : Chg [] u5 w5 := by rw [hw5]; exact Chg.alloc [] _ _
          have gn := gc.then gu
          replace BN := BN.keep gn
          replace RN := RN.keep gn
          replace G := G.then gn
          have BM : Bx w5 (u5.heap.size) (.bool false) (.slice ra k1 rc) (.slice rb k1 rd) := by rw [hw5]; exact ⟨by simp [go_sem], by simp [go_sem], by simp [go_sem]⟩
          replace RM := RM.keep gu
          clear gc gu gn
          have hw5' := hw5.symm
          clear hw5
          have a0 := BM.c0
          have a1 := BM.c1
          have a2 := BM.c2
          go_wp2_with fail
          clear hw5'
          clear a0 a1 a2
          generalize u5.heap.size = mb at *
          refine (finds_as ra rc rb rd X Y k1 p x true w5 RM HIF.out.1.2.1 HIF.out.1.2.2.1 HIF.out.1.2.2.2.2.2.1 HIF.out.1.2.2.2.2.2.2.1).mono ?_
          rintro e w6 ⟨rfl, gc⟩
          replace BN := BN.keep gc
          replace RN := RN.keep gc
          replace BM := BM.keep gc
          replace RM := RM.keep gc
          replace G := G.then gc
          clear gc
          obtain ⟨yb, yo, rfl, cy, _⟩ := reads_lt RM.rv p _ (uvs_get HIF.out.1.2.2.2.2.1)
          go_wp2_with fail
          go_loopw [15] (fun iv wz => ∃ i : Nat, iv = .int .i64 i ∧ 1 ≤ i ∧ i ≤ k1 ∧ Chg [] w6 wz) (fun iv _ => k1 - (intOf iv).toNat)
          case atStart => exact ⟨1, rfl, Nat.le_refl _, by omega, Chg.refl _ _⟩
          case round =>
            obtain ⟨i, rfl, hi1, hik, gz⟩ := hrel
            replace BN := BN.keep gz
            replace RN := RN.keep gz
            replace BM := BM.keep gz
            replace RM := RM.keep gz
            replace G := G.then gz
            replace cy := gz.cellv cy (by simp)
            have a0 := BM.c0
            have a1 := BM.c1
            have a2 := BM.c2
            by_cases hil : i < k1
            · have d1 : decide (i < k1) = true := decide_eq_true hil
              have d2 : decide ((i : Int) < (k1 : Int)) = true := decide_eq_true (by omega)
              obtain ⟨j, rfl⟩ : ∃ j, i = j + 1 := ⟨i - 1, by omega⟩
              obtain ⟨y1, hy1⟩ : ∃ y, X[j]? = some y := ⟨_, List.getElem?_eq_getElem (by have := HIF.out.1.2.1; omega)⟩
              obtain ⟨y2, hy2⟩ : ∃ y, X[j + 1]? = some y := ⟨_, List.getElem?_eq_getElem (by have := HIF.out.1.2.1; omega)⟩
              have hyy := rising_lt HIF.out.1.1 hy1 hy2
              obtain ⟨xb, xo, rfl, c1, _⟩ := reads_lt RM.rk j _ (uvs_get hy1)
              have c2 := RM.rk.cell (j + 1) _ (uvs_get hy2)
              obtain ⟨i, hi⟩ : ∃ i, j + 1 = i := ⟨_, rfl⟩
              rw [hi] at d1 d2 c2 hil hi1 hik ⊢
              have q1 : (i : Int) - 1 = (j : Int) := by omega
              have q2 : IntKind.i64.wrap (j : Int) = (j : Int) := by rw [IntKind.wrap_i64]; omega
              have q3 : j < k1 := by omega
              have q4 : (j : Int) < (k1 : Int) := by omega
              have q5 : (i : Int) < (k1 : Int) := by omega
              have d3 : decide ((y1 : Int) ≥ (y2 : Int)) = false := decide_eq_false (by omega)
              have d4 : decide ((y2 : Int) ≤ (y1 : Int)) = false := decide_eq_false (by omega)
              have d5 : decide (y2 ≤ y1) = false := decide_eq_false (by omega)
              have HI := mkHid hi
              clear hi hyy hy1 hy2
              go_wp2_with fail
              go_quiet (fail)
              have gq : Chg [] wr (wr.drewN nq) := ⟨rfl, rfl, rfl, Nat.le_refl _, fun _ _ _ => rfl⟩
              have gz2 := gz.then gq
              clear gq q1 q2
              go_wp2_with fail
              exact ⟨⟨i + 1, by go_num, by omega, by omega, gz2⟩, by simp [intOf]; omega⟩
            · have d1 : decide (i < k1) = false := decide_eq_false hil
              have d2 : decide ((i : Int) < (k1 : Int)) = false := decide_eq_false (by omega)
              go_wp2_with fail
              have b1 : ((p : Int) == (p : Int)) = true := by simp
              have hlt1 : p < k1 := by omega
              have hlt2 : (p : Int) < (k1 : Int) := by omega
              refine wp_region_held_drew (S := fun u => u.cell? ⟨mb, 0, none⟩ = some (.bool false) ∧ u.cell? ⟨mb, 1, none⟩ = some (.slice ra k1 rc) ∧ u.cell? ⟨mb, 2, none⟩ = some (.slice (some ⟨yb, yo, none⟩) k1 rd) ∧ u.cell? ⟨nb, 0, none⟩ = some (.bool false) ∧ u.cell? ⟨nb, 1, none⟩ = some (.slice ka k kc) ∧ u.cell? ⟨nb, 2, none⟩ = some (.slice va k vc) ∧ u.cell? ⟨yb, yo + p, none⟩ = some (.int .u64 ((7 : Nat) : Int)) ∧ Chg [] wr u) (by kernel_rfl) ?_ (fun hH => ?_)
              · exact ⟨(Chg.drew [] _).cellv BM.c0 (by simp), (Chg.drew [] _).cellv BM.c1 (by simp), (Chg.drew [] _).cellv BM.c2 (by simp), (Chg.drew [] _).cellv BN.c0 (by simp), (Chg.drew [] _).cellv BN.c1 (by simp), (Chg.drew [] _).cellv BN.c2 (by simp), (Chg.drew [] _).cellv cy (by simp), Chg.drew [] _⟩
              refine wpAnyH_take (i := 0) (oi := { dst := some 182, op := _, type := _, pos := _, after := _, guard := none }) (v := ?_) rfl (by kernel_rfl) (by kernel_rfl) (by kernel_rfl) (fun _ _ _ h => h) (Or.inl ⟨by rfl, ?_⟩) hH ?_
              rotate_left
              · intro u hSu
                try dsimp only at hSu
                go_simp
                try with_reducible rfl
              try simp only [Act.put, List.setIfInBounds_toArray, List.set_cons_zero, List.set_cons_succ]
              refine wpAnyH_take (i := 1) (oi := { dst := some 183, op := _, type := _, pos := _, after := _, guard := none }) (v := ?_) rfl (by kernel_rfl) (by kernel_rfl) (by kernel_rfl) (fun _ _ _ h => h) (Or.inl ⟨by rfl, ?_⟩) hH ?_
              rotate_left
              · intro u hSu
                try dsimp only at hSu
                go_simp
                try with_reducible rfl
              try simp only [Act.put, List.setIfInBounds_toArray, List.set_cons_zero, List.set_cons_succ]
              refine wpAnyH_take (i := 2) (oi := { dst := some 184, op := _, type := _, pos := _, after := _, guard := some (1, true) }) (v := ?_) rfl (by kernel_rfl) (by kernel_rfl) (by kernel_rfl) (fun _ _ _ h => h) (Or.inl ⟨by rfl, ?_⟩) hH ?_
              rotate_left
              · intro u hSu
                try dsimp only at hSu
                go_simp
                try with_reducible rfl
              try simp only [Act.put, List.setIfInBounds_toArray, List.set_cons_zero, List.set_cons_succ]
              refine wpAnyH_take (i := 3) (oi := { dst := some 185, op := _, type := _, pos := _, after := _, guard := some (1, true) }) (v := ?_) rfl (by kernel_rfl) (by kernel_rfl) (by kernel_rfl) (fun _ _ _ h => h) (Or.inl ⟨by rfl, ?_⟩) hH ?_
              rotate_left
              · intro u hSu
                try dsimp only at hSu
                go_simp
                try with_reducible rfl
              try simp only [Act.put, List.setIfInBounds_toArray, List.set_cons_zero, List.set_cons_succ]
              refine wpAnyH_take (i := 4) (oi := { dst := some 186, op := _, type := _, pos := _, after := _, guard := some (1, true) }) (v := ?_) rfl (by kernel_rfl) (by kernel_rfl) (by kernel_rfl) (fun _ _ _ h => h) (Or.inl ⟨by rfl, ?_⟩) hH ?_
              rotate_left
              · intro u hSu
                try dsimp only at hSu
                go_simp
                try with_reducible rfl
              try simp only [Act.put, List.setIfInBounds_toArray, List.set_cons_zero, List.set_cons_succ]
              refine wpAnyH_take (i := 5) (oi := { dst := some 187, op := _, type := _, pos := _, after := _, guard := none }) (v := ?_) rfl (by kernel_rfl) (by kernel_rfl) (by kernel_rfl) (fun _ _ _ h => h) (Or.inl ⟨by rfl, ?_⟩) hH ?_
              rotate_left
              · intro u hSu
                try dsimp only at hSu
                go_simp
                try with_reducible rfl
              try simp only [Act.put, List.setIfInBounds_toArray, List.set_cons_zero, List.set_cons_succ]
              refine wpAnyH_take (i := 6) (oi := { dst := some 188, op := _, type := _, pos := _, after := _, guard := none }) (v := ?_) rfl (by kernel_rfl) (by kernel_rfl) (by kernel_rfl) (fun _ _ _ h => h) (Or.inl ⟨by rfl, ?_⟩) hH ?_
              rotate_left
              · intro u hSu
                try dsimp only at hSu
                go_simp
                try with_reducible rfl
              try simp only [Act.put, List.setIfInBounds_toArray, List.set_cons_zero, List.set_cons_succ]
              refine wpAnyH_take (i := 7) (oi := { dst := some 189, op := _, type := _, pos := _, after := _, guard := some (6, true) }) (v := ?_) rfl (by kernel_rfl) (by kernel_rfl) (by kernel_rfl) (fun _ _ _ h => h) (Or.inl ⟨by rfl, ?_⟩) hH ?_
              rotate_left
              · intro u hSu
                try dsimp only at hSu
                go_simp
                try with_reducible rfl
              try simp only [Act.put, List.setIfInBounds_toArray, List.set_cons_zero, List.set_cons_succ]
              refine wpAnyH_take (i := 8) (oi := { dst := some 190, op := _, type := _, pos := _, after := _, guard := some (6, true) }) (v := ?_) rfl (by kernel_rfl) (by kernel_rfl) (by kernel_rfl) (fun _ _ _ h => h) (Or.inl ⟨by rfl, ?_⟩) hH ?_
              rotate_left
              · intro u hSu
                try dsimp only at hSu
                go_simp
                try with_reducible rfl
              try simp only [Act.put, List.setIfInBounds_toArray, List.set_cons_zero, List.set_cons_succ]
              refine wpAnyH_take (i := 9) (oi := { dst := some 191, op := _, type := _, pos := _, after := _, guard := some (6, true) }) (v := ?_) rfl (by kernel_rfl) (by kernel_rfl) (by kernel_rfl) (fun _ _ _ h => h) (Or.inl ⟨by rfl, ?_⟩) hH ?_
              rotate_left
              · intro u hSu
                try dsimp only at hSu
                go_simp
                try with_reducible rfl
              try simp only [Act.put, List.setIfInBounds_toArray, List.set_cons_zero, List.set_cons_succ]
              refine wpAnyH_take (i := 10) (oi := { dst := some 192, op := _, type := _, pos := _, after := _, guard := some (6, true) }) (v := ?_) rfl (by kernel_rfl) (by kernel_rfl) (by kernel_rfl) (fun _ _ _ h => h) (Or.inl ⟨by rfl, ?_⟩) hH ?_
              rotate_left
              · intro u hSu
                try dsimp only at hSu
                go_simp
                try with_reducible rfl
              try simp only [Act.put, List.setIfInBounds_toArray, List.set_cons_zero, List.set_cons_succ]
              refine wpAnyH_take (i := 11) (oi := { dst := some 193, op := _, type := _, pos := _, after := _, guard := some (6, true) }) (v := ?_) rfl (by kernel_rfl) (by kernel_rfl) (by kernel_rfl) (fun _ _ _ h => h) (Or.inl ⟨by rfl, ?_⟩) hH ?_
              rotate_left
              · intro u hSu
                try dsimp only at hSu
                go_simp
                try with_reducible rfl
              try simp only [Act.put, List.setIfInBounds_toArray, List.set_cons_zero, List.set_cons_succ]
              refine wpAnyH_take (i := 12) (oi := { dst := some 194, op := _, type := _, pos := _, after := _, guard := some (6, true) }) (v := ?_) rfl (by kernel_rfl) (by kernel_rfl) (by kernel_rfl) (fun _ _ _ h => h) (Or.inl ⟨by rfl, ?_⟩) hH ?_
              rotate_left
              · intro u hSu
                try dsimp only at hSu
                go_simp
                try with_reducible rfl
              try simp only [Act.put, List.setIfInBounds_toArray, List.set_cons_zero, List.set_cons_succ]
              refine wpAnyH_take (i := 13) (oi := { dst := some 195, op := _, type := _, pos := _, after := _, guard := none }) (v := ?_) rfl (by kernel_rfl) (by kernel_rfl) (by kernel_rfl) (fun _ _ _ h => h) (Or.inl ⟨by rfl, ?_⟩) hH ?_
              rotate_left
              · intro u hSu
                try dsimp only at hSu
                go_simp
                try with_reducible rfl
              try simp only [Act.put, List.setIfInBounds_toArray, List.set_cons_zero, List.set_cons_succ]
              refine wpAnyH_take (i := 14) (oi := { dst := some 196, op := _, type := _, pos := _, after := _, guard := none }) (v := ?_) rfl (by kernel_rfl) (by kernel_rfl) (by kernel_rfl) (fun _ _ _ h => h) (Or.inl ⟨by rfl, ?_⟩) hH ?_
              rotate_left
              · intro u hSu
                try dsimp only at hSu
                go_simp
                try with_reducible rfl
              try simp only [Act.put, List.setIfInBounds_toArray, List.set_cons_zero, List.set_cons_succ]
              refine wpAnyH_take (i := 15) (oi := { dst := some 197, op := _, type := _, pos := _, after := _, guard := some (14, true) }) (v := ?_) rfl (by kernel_rfl) (by kernel_rfl) (by kernel_rfl) (fun _ _ _ h => h) (Or.inl ⟨by rfl, ?_⟩) hH ?_
              rotate_left
              · intro u hSu
                try dsimp only at hSu
                go_simp
                try with_reducible rfl
              try simp only [Act.put, List.setIfInBounds_toArray, List.set_cons_zero, List.set_cons_succ]
              refine wpAnyH_take (i := 16) (oi := { dst := some 198, op := _, type := _, pos := _, after := _, guard := some (14, true) }) (v := ?_) rfl (by kernel_rfl) (by kernel_rfl) (by kernel_rfl) (fun _ _ _ h => h) (Or.inl ⟨by rfl, ?_⟩) hH ?_
              rotate_left
              · intro u hSu
                try dsimp only at hSu
                go_simp
                try with_reducible rfl
              try simp only [Act.put, List.setIfInBounds_toArray, List.set_cons_zero, List.set_cons_succ]
              refine wpAnyH_take (i := 18) (oi := { dst := some 200, op := _, type := _, pos := _, after := _, guard := some (14, true) }) (v := ?_) rfl (by kernel_rfl) (by kernel_rfl) (by kernel_rfl) (fun _ _ _ h => h) (Or.inl ⟨by rfl, ?_⟩) hH ?_
              rotate_left
              · intro u hSu
                try dsimp only at hSu
                go_simp
                try with_reducible rfl
              try simp only [Act.put, List.setIfInBounds_toArray, List.set_cons_zero, List.set_cons_succ]
              refine wpAnyH_ready (rs := [17]) (by kernel_rfl) (by simp) ?_
              refine AllReadyH.cons (o := { dst := some 199, op := _, type := _, pos := _, after := _, guard := some (14, true) }) rfl (fun K hK => ?_) AllReadyH.nil
              go_simp
              refine (remove_as ra rc (some ⟨yb, yo, none⟩) rd X Y k p k1 L O _ (RM.keep (chgOf7 hH)) HIF.out.1.2.1 HIF.out.1.2.2.1 hpk hk1 (by omega) HIF.out.1.2.2.2.2.2.2.2.1 HIF.out.1.2.2.2.2.2.2.2.2 HK.out.2.1 HK.out.2.2.1).mono ?_
              rintro e u17 ⟨⟨sa, sc, sb2, sd, rfl, RS⟩, g17⟩
              have hS17 := hold7 hH g17
              clear hH
              refine hK.out _ _ hS17 (fun hH => ?_)
              clear hK K
              try simp only [Act.put, List.setIfInBounds_toArray, List.set_cons_zero, List.set_cons_succ]
              refine wpAnyH_ready (rs := [19]) (by kernel_rfl) (by simp) ?_
              refine AllReadyH.cons (o := { dst := some 201, op := _, type := _, pos := _, after := _, guard := some (14, true) }) rfl (fun K hK => ?_) AllReadyH.nil
              go_simp
              refine (same_as false sa sc sb2 sd ka kc va vc L O k k _ RS (RN.keep (chgOf7 hH)) HK.out.2.1 HK.out.2.2.1).mono ?_
              rintro e u19 ⟨rfl, g19⟩
              have hS19 := hold7 hH g19
              clear hH
              refine hK.out _ _ hS19 (fun hH => ?_)
              clear hK K
              try simp only [Act.put, List.setIfInBounds_toArray, List.set_cons_zero, List.set_cons_succ]
              refine wpAnyH_take (i := 20) (oi := { dst := some 202, op := _, type := _, pos := _, after := _, guard := none }) (v := ?_) rfl (by kernel_rfl) (by kernel_rfl) (by kernel_rfl) (fun _ _ _ h => h) (Or.inl ⟨by rfl, ?_⟩) hH ?_
              rotate_left
              · intro u hSu
                try dsimp only at hSu
                go_simp
                try with_reducible rfl
              try simp only [Act.put, List.setIfInBounds_toArray, List.set_cons_zero, List.set_cons_succ]
              refine wpAnyH_take (i := 21) (oi := { dst := some 4, op := _, type := _, pos := _, after := _, guard := none }) (v := ?_) rfl (by kernel_rfl) (by kernel_rfl) (by kernel_rfl) (fun _ _ _ h => h) (Or.inl ⟨by rfl, ?_⟩) hH ?_
              rotate_left
              · intro u hSu
                try dsimp only at hSu
                go_simp
                try with_reducible rfl
              try simp only [Act.put, List.setIfInBounds_toArray, List.set_cons_zero, List.set_cons_succ]
              refine wpAnyH_done (by kernel_rfl) ?_ _
              have gE := chgOf7 hS19
              go_wp2_with fail
              go_ret
              exact ⟨rfl, hw0 ▸ G.then gE⟩
end Go.Proofs.Ytlaeonemlodhmaa
