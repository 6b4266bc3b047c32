/- Texts Tw, Ty, Tz of the library, joined. -/
import Derived.Test.YtdgkbicelnnfpaaGreatDoorM18
import Derived.Test.YtdgkbicelnnfpaaGreatDoorM15
import Derived.Test.YtdgkbicelnnfpaaGreatDoorM30
import Derived.Deep.RegionLaw
/- awake. -/
namespace Go.Proofs.YtdgkbicelnnfpaaGreatDoor
set_option maxRecDepth 200000
open Go.RowKit
set_option linter.unusedVariables false
set_option linter.unusedSimpArgs false
attribute [local go_sem ↓] Go.wp_at_zero Go.wp_at_succ

def okI (r : Out (List UInt8 × (Nat → Option Nd) × Nat × Nat × Bool)) : List UInt8 × (Nat → Option Nd) × Nat × Nat × Bool := match r with | .ok r => r | _ => ([], fun _ => none, 0, 0, false)
def isI (r : Out (List UInt8 × (Nat → Option Nd) × Nat × Nat × Bool)) (t o : Nat) (h : Bool) : Bool := match r with | .ok r => r.2.2.1 == t && r.2.2.2.1 == o && r.2.2.2.2 == h | _ => false
theorem isI_ok {r : Out (List UInt8 × (Nat → Option Nd) × Nat × Nat × Bool)} {t o : Nat} {h : Bool} (e : isI r t o h = true) : r = .ok ((okI r).1, (okI r).2.1, t, o, h) := by
  match r, e with
  | .ok (a, b, c, d, f), e =>
    simp only [isI, Bool.and_eq_true, beq_iff_eq] at e
    obtain ⟨⟨rfl, rfl⟩, rfl⟩ := e
    rfl
  | .stuck, e => cases e
  | .full, e => cases e
def aw0 : Out (List UInt8 × (Nat → Option Nd) × Nat × Nat × Bool) := insertA (cnt0 40) (cnt0 40) (fun _ => none) 0 5 1
def awN1 : List UInt8 := (okI aw0).1
def awN2 : List UInt8 := (incN awN1 2).2
def awN3 : List UInt8 := (incN awN2 1).2
def aw3 : Out (List UInt8 × (Nat → Option Nd) × Nat × Nat × Bool) := insertA awN3 (cnt0 40) (okI aw0).2.1 2 5 1
theorem aw0_ok : isI aw0 2 0 false = true := by decide +kernel
theorem aw1_ok : (incN awN1 2).1 = 0 := by decide +kernel
theorem aw2_ok : (incN awN2 1).1 = 0 := by decide +kernel
theorem aw3_ok : isI aw3 3 1 true = true := by decide +kernel
theorem aw4_ok : lookA (okI aw3).2.1 2 5 = some (1, true) := by decide +kernel
theorem aw5_ok : lookA (okI aw3).2.1 3 6 = some (0, false) := by decide +kernel
set_option maxHeartbeats 2000000 in
theorem awake_yes {w : World} (hT : Tab w) : Calls Tryz.prog 8 #[] w fun e w' => e = .returned (.bool true) ∧ Chg [] w w' := by
  have cM : Calls Tryz.prog 9 #[.int .i64 40, .int .i64 4] w (MadeOut w [] 40) := made_bench [] 40 4 (by omega) (by omega) w
  go_enter Tryz.func8, Tryz.ntmps8
  go_wp2_with fail
  refine cM.mono ?_
  rintro e w1 ⟨xb, sb, rb, rfl, x0, x1, hxb, tag, t4, -, h1⟩
  have lx := block_lt_of_cell x0
  have c1 : Calls Tryz.prog 23 #[.pointer (some ⟨sb, 0, none⟩), .int .u64 0, .int .u64 5, .int .u64 1] w1 (InsOut w w1 tag sb rb 40 (cnt0 40) 4000 awN1 (okI aw0).2.1 2 0 false) := insert_ok hT h1 0 5 1 (by omega) (by omega) (by omega) (by omega) _ _ 2 0 false (isI_ok aw0_ok)
  clear cM
  go_wp2_with fail
  refine c1.mono ?_
  rintro e w2 ⟨he, tag2, h2, m2⟩
  have he : e = .returned (.tuple #[.int .u64 2, .int .u64 0, .bool false, .int .i64 0]) := he
  subst he
  have x0 := m2.cellv x0 (kt4 t4)
  have x1 := m2.cellv x1 (kt4 t4)
  have t4 := m2.four t4 lx
  have lx := block_lt_of_cell x0
  have c2 := x_inc h2 2 (0, awN2) (Prod.ext aw1_ok rfl)
  dsimp only at c2
  clear c1 m2
  go_wp2_with fail
  refine c2.mono ?_
  rintro e w3 ⟨rfl, tag3, h3, m3⟩
  have x0 := m3.cellv x0 (kt4 t4)
  have x1 := m3.cellv x1 (kt4 t4)
  have t4 := m3.four t4 lx
  have lx := block_lt_of_cell x0
  have c3 := x_inc h3 1 (0, awN3) (Prod.ext aw2_ok rfl)
  dsimp only at c3
  clear c2 m3
  go_wp2_with fail
  refine c3.mono ?_
  rintro e w4 ⟨rfl, tag4, h4, m4⟩
  have x0 := m4.cellv x0 (kt4 t4)
  have x1 := m4.cellv x1 (kt4 t4)
  have t4 := m4.four t4 lx
  have lx := block_lt_of_cell x0
  have c4 : Calls Tryz.prog 23 #[.pointer (some ⟨sb, 0, none⟩), .int .u64 2, .int .u64 5, .int .u64 1] w4 (InsOut w w4 tag4 sb rb 40 (cnt0 40) 8000 (okI aw3).1 (okI aw3).2.1 3 1 true) := insert_ok hT h4 2 5 1 (by omega) (by omega) (by omega) (by omega) _ _ 3 1 true (isI_ok aw3_ok)
  clear c3 m4
  go_wp2_with fail
  refine c4.mono ?_
  rintro e w5 ⟨he, tag5, h5, m5⟩
  have he : e = .returned (.tuple #[.int .u64 3, .int .u64 1, .bool true, .int .i64 0]) := he
  subst he
  have x0 := m5.cellv x0 (kt4 t4)
  have x1 := m5.cellv x1 (kt4 t4)
  have t4 := m5.four t4 lx
  have lx := block_lt_of_cell x0
  have c5 : Calls Tryz.prog 26 #[.pointer (some ⟨sb, 0, none⟩), .int .u64 2, .int .u64 5] w5 (LookOut w w5 tag5 sb rb 40 (okI aw3).1 (cnt0 40) (okI aw3).2.1 8012 1 true) := lookup_any hT h5 2 5 (by omega) 1 true aw4_ok
  clear c4 m5
  go_wp2_with fail
  refine c5.mono ?_
  rintro e w6 ⟨he, tag6, h6, m6⟩
  have he : e = .returned (.tuple #[.int .u64 1, .bool true, .int .i64 0]) := he
  subst he
  have x0 := m6.cellv x0 (kt4 t4)
  have x1 := m6.cellv x1 (kt4 t4)
  have t4 := m6.four t4 lx
  have c6 : Calls Tryz.prog 26 #[.pointer (some ⟨sb, 0, none⟩), .int .u64 3, .int .u64 6] w6 (LookOut w w6 tag6 sb rb 40 (okI aw3).1 (cnt0 40) (okI aw3).2.1 8024 0 false) := lookup_any hT h6 3 6 (by omega) 0 false aw5_ok
  clear c5 m6
  go_wp2_with fail
  refine c6.mono ?_
  rintro e w7 ⟨he, tag7, h7, m7⟩
  have he : e = .returned (.tuple #[.int .u64 0, .bool false, .int .i64 0]) := he
  subst he
  clear c6
  go_wp2_with fail
  go_ret
  exact ⟨rfl, h7.chg⟩
end Go.Proofs.YtdgkbicelnnfpaaGreatDoor

/- What a shelf says: Save, Load and Make, as the law asks them. -/
namespace Go.Proofs.YtdgkbicelnnfpaaGreatDoor
set_option maxRecDepth 200000
open Go.RowKit
set_option linter.unusedVariables false
set_option linter.unusedSimpArgs false
attribute [local go_sem ↓] Go.wp_at_zero Go.wp_at_succ
section
variable {w0 w : World} {tag : Nat → Nat} {sb rb n : Nat} {N C : List UInt8} {X : Nat → Option Nd} {u : Nat}
def svE (n a : Nat) (K V : List Nat) : Int := if 2147483647 < a then 1 else if mayB K V = false then 1 else if n ≤ a then 6 else 0
def svX (X : Nat → Option Nd) (n a : Nat) (m : Nd) : Nat → Option Nd := if svE n a m.K m.V = 0 then putX X a m else X
theorem save_says (hT : Tab w0) (h : HasX w0 w tag sb rb n N C X u) (a : Nat) (ha : a < 2 ^ 64) (hu : u ≤ 100000000) (q : CN) (hq : NdAt w tag q) : Calls Tryz.prog 16 #[.pointer (some ⟨sb, 0, none⟩), .int .u64 (a : Int), q.val] w fun e w' => e = .returned (.int .i64 (svE n a q.K q.V)) ∧ ∃ tag', HasX w0 w' tag' sb rb n N C (svX X n a q.nd) (u + 1) ∧ Mv tag tag' w w' := by
  by_cases c0 : svE n a q.K q.V = 0
  · have hs : 2147483647 ≥ a ∧ mayB q.K q.V = true ∧ a < n := by
      unfold svE at c0
      by_cases c1 : 2147483647 < a
      · rw [if_pos c1] at c0; cases c0
      · rw [if_neg c1] at c0
        by_cases c2 : mayB q.K q.V = false
        · rw [if_pos c2] at c0; cases c0
        · rw [if_neg c2] at c0
          by_cases c3 : n ≤ a
          · rw [if_pos c3] at c0; cases c0
          · exact ⟨by omega, by simpa using c2, by omega⟩
    refine (save_x hT h a hs.2.2 hu q hq hs.2.1).mono ?_
    rintro e w' ⟨he, tag', h3, h4⟩
    refine ⟨by rw [c0]; exact he, tag', ?_, h4⟩
    unfold svX
    rw [if_pos (show svE n a q.nd.K q.nd.V = 0 from c0)]
    exact h3
  · obtain ⟨Y, h1, h2⟩ := h
    refine (save_any hT h1 a ha hu q hq _ rfl).mono ?_
    rintro e w' ⟨he, tag', h3, h4⟩
    have hs : saveN Y n a q.nd = (svE n a q.K q.V, Y) := by
      unfold saveN
      unfold svE at c0 ⊢
      unfold CN.nd
      dsimp only
      by_cases c1 : 2147483647 < a
      · rw [if_pos c1, if_pos c1]
      · rw [if_neg c1] at c0
        rw [if_neg c1, if_neg c1]
        by_cases c2 : mayB q.K q.V = false
        · rw [if_pos c2, if_pos c2]
        · rw [if_neg c2] at c0
          rw [if_neg c2, if_neg c2]
          by_cases c3 : n ≤ a
          · rw [if_pos c3, if_pos c3]
          · rw [if_neg c3] at c0; exact absurd rfl c0
    rw [hs] at he h3
    refine ⟨he, tag', ?_, h4⟩
    unfold svX
    rw [if_neg (show ¬ svE n a q.nd.K q.nd.V = 0 from c0)]
    exact ⟨Y, h3, h2⟩
def LoadSays (w0 w : World) (tag : Nat → Nat) (sb rb n : Nat) (N C : List UInt8) (X : Nat → Option Nd) (u a : Nat) (e : Ending) (w' : World) : Prop :=
  ∃ (m : CN) (f : Int), e = .returned (.tuple #[m.val, .int .i64 f]) ∧ (2147483647 < a → f = 1) ∧ (¬ 2147483647 < a → n ≤ a → f = 6) ∧ (∀ q, X a = some q → f = 0 ∧ m.nd = q) ∧ ∃ tag', HasX w0 w' tag' sb rb n N C X u ∧ Mv tag tag' w w' ∧ NdAt w' tag' m
theorem load_says (hT : Tab w0) (h : HasX w0 w tag sb rb n N C X u) (a : Nat) (ha : a < 2 ^ 64) (hu : u ≤ 100000000) : Calls Tryz.prog 17 #[.pointer (some ⟨sb, 0, none⟩), .int .u64 (a : Int)] w (LoadSays w0 w tag sb rb n N C X (u + 1) a) := by
  cases hx : X a with
  | some m =>
    have hl := h.lt hx
    have hn := h.lens
    refine (load_x hT h a m hx hu).mono ?_
    rintro e w' ⟨q, he, hq, tag', h3, h4, h5⟩
    exact ⟨q, 0, he, fun c => by omega, fun _ c => by omega, fun q' hq' => ⟨rfl, by cases hx.symm.trans hq'; exact hq⟩, tag', h3, h4, h5⟩
  | none =>
    obtain ⟨Y, h1, h2⟩ := h
    refine (load_any hT h1 a ha hu _ rfl).mono ?_
    rintro e w' ⟨q, he, hq, tag', h3, h4, h5⟩
    refine ⟨q, _, he, fun c => ?_, fun c1 c2 => ?_, fun q' hq' => (by rw [hx] at hq'; cases hq'), tag', ⟨Y, h3, h2⟩, h4, h5⟩
    · unfold loadN; rw [if_pos c]
    · unfold loadN; rw [if_neg c1, if_pos c2]
theorem make_no (h : HasX w0 w tag sb rb n N C X u) (q : CN) (hq : NdAt w tag q) (hm : mayB q.K q.V = false) : Calls Tryz.prog 18 #[.pointer (some ⟨sb, 0, none⟩), q.val] w fun e w' => e = .returned (.tuple #[.int .u64 0, .int .i64 1]) ∧ Chg [] w w' := by
  obtain ⟨lf, ka, kc, va, vc, K, V⟩ := q
  unfold CN.val
  dsimp only at hm ⊢
  have g0 := Chg.alloc [] w (.cells #[.bool lf, .slice ka K.length kc, .slice va V.length vc] 53)
  have h0 := h.keep g0
  have q0 := hq.keep g0
  obtain ⟨e0, e1, e2⟩ := laid3 w (.bool lf) (.slice ka K.length kc) (.slice va V.length vc) 53
  have cM := made_x h0
  have cN := nmay h0 ⟨lf, ka, kc, va, vc, K, V⟩ q0
  rw [hm] at cN
  unfold CN.val at cN
  try dsimp only at cN
  go_enter Tryz.func18, Tryz.ntmps18
  go_wp2_with fail
  generalize (w.alloc (.cells #[.bool lf, .slice ka K.length kc, .slice va V.length vc] 53)) = w1 at *
  refine cM.mono ?_
  rintro e w' ⟨rfl, rfl⟩
  go_wp2_with fail
  refine cN.mono ?_
  rintro e w2 ⟨rfl, g2⟩
  go_wp2_with fail
  go_ret2
  exact ⟨rfl, g0.then g2⟩
end
end Go.Proofs.YtdgkbicelnnfpaaGreatDoor

/- ShelfSays: its call. -/
namespace Go.Proofs.YtdgkbicelnnfpaaGreatDoor
set_option maxRecDepth 200000
open Go.RowKit
set_option linter.unusedVariables false
set_option linter.unusedSimpArgs false
attribute [local go_sem ↓] Go.wp_at_zero Go.wp_at_succ
theorem Low.kt {w0 w : World} {tag : Nat → Nat} (h : Low w0 w tag) {k : Nat} (hk : k < w0.heap.size) : Kt tag k := by
  have := h.lo k hk
  exact ⟨by omega, by omega⟩
theorem nb_of (y : Int) : ∃ nb : Nat, wrap64 (8 + wrap64 ((IntKind.u64.wrap y).tmod 30)) = (nb : Int) ∧ 8 ≤ nb ∧ nb < 38 := by
  have h0 : 0 ≤ IntKind.u64.wrap y := by simp [IntKind.wrap, IntKind.bits, IntKind.signed]; omega
  generalize IntKind.u64.wrap y = x at *
  have h1 : x.tmod 30 = x % 30 := Int.tmod_eq_emod_of_nonneg h0
  rw [h1]
  have h2 : 0 ≤ x % 30 ∧ x % 30 < 30 := by omega
  generalize x % 30 = z at *
  refine ⟨(8 + z).toNat, ?_, by omega, by omega⟩
  rw [Go.IntWalk.wrap64_in z (by omega), Go.IntWalk.wrap64_in (8 + z) (by omega)]
  omega
theorem al_of : ∀ nb : Nat, nb < 38 → 8 ≤ nb → (allocN (cnt0 nb) (cnt0 nb)).1 = 2 ∧ (allocN (cnt0 nb) (cnt0 nb)).2.1 = 0 ∧ newN (allocN (cnt0 nb) (cnt0 nb)).2.2 (cnt0 nb) 2 = true ∧ cntN (allocN (cnt0 nb) (cnt0 nb)).2.2 2 = 1 := by decide +kernel
theorem same_all (lf : Bool) (K V : List Nat) : sameB lf lf K V K V = true := by simp [sameB]
set_option maxHeartbeats 4000000 in
theorem says_core {w : World} (hT : Tab w) (q : CN) (hr : RdN w q.ka q.kc q.va q.vc q.K q.V) (bK : ∀ x ∈ q.K, x < 2 ^ 64) (bV : ∀ x ∈ q.V, x < 2 ^ 64) (a : Nat) (ha : a < 2 ^ 64) (y : Int) :
    Calls Tryz.prog 4 #[q.val, .int .u64 (a : Int), .int .i64 y] w fun e w' => e = .returned (.bool true) ∧ Chg [] w w' := by
  obtain ⟨lf, ka, kc, va, vc, K, V⟩ := q
  unfold CN.val
  dsimp only at hr bK bV ⊢
  have g0 := Chg.alloc [] w (.cells #[.bool lf, .slice ka K.length kc, .slice va V.length vc] 53)
  have cA := awake_yes (hT.then g0)
  obtain ⟨e0, e1, e2⟩ := laid3 w (.bool lf) (.slice ka K.length kc) (.slice va V.length vc) 53
  have hzb : w.heap.size < (w.alloc (.cells #[.bool lf, .slice ka K.length kc, .slice va V.length vc] 53)).heap.size := by simp
  go_enter Tryz.func4, Tryz.ntmps4
  go_wp2_with fail
  generalize (w.alloc (.cells #[.bool lf, .slice ka K.length kc, .slice va V.length vc] 53)) = w1 at *
  refine cA.mono ?_
  rintro e w2 ⟨rfl, g2⟩
  have g02 := g0.then g2
  have f0 := g2.cellv e0 (by simp)
  have f1 := g2.cellv e1 (by simp)
  have f2 := g2.cellv e2 (by simp)
  have hz2 : w.heap.size < w2.heap.size := Nat.lt_of_lt_of_le hzb g2.size
  have r2 := hr.keep g02
  have hT2 := hT.then g02
  clear cA g0 g2 e0 e1 e2 hzb
  obtain ⟨nb, hnb, n8, n38⟩ := nb_of y
  have cB : Calls Tryz.prog 9 #[.int .i64 (nb : Int), .int .i64 2] w2 (MadeOut w2 (blk ka ++ blk va) nb) := made_bench (blk ka ++ blk va) nb 2 (by omega) (by omega) w2
  go_wp2_with fail
  rw [hnb]
  refine cB.mono ?_
  rintro e w3 ⟨xb, sb, rb, rfl, x0, x1, hxb, tag, t4, t5, h3⟩
  have g3 := h3.chg
  have q3 : NdAt w3 tag ⟨lf, ka, kc, va, vc, K, V⟩ := ⟨r2.keep g3, fun hx k hk => t5 k (List.mem_append_left _ hk) (reads_ltT r2.rk (by simpa [uvs_len] using hx) k hk), fun hx k hk => t5 k (List.mem_append_right _ hk) (reads_ltT r2.rv (by simpa [uvs_len] using hx) k hk), bK, bV⟩
  have kb := h3.low.kt hz2
  have f0 := g3.cellv f0 (by simp)
  have f1 := g3.cellv f1 (by simp)
  have f2 := g3.cellv f2 (by simp)
  have cY := rmay_any lf ka K.length kc va V.length vc K V w3 q3.rd rfl rfl
  clear cB t5 r2 bK bV hz2
  go_wp2_with fail
  refine cY.mono ?_
  rintro e w4 ⟨rfl, g4⟩
  have h4 := h3.keep g4
  have q4 := q3.keep g4
  have f0 := g4.cellv f0 (by simp)
  have f1 := g4.cellv f1 (by simp)
  have f2 := g4.cellv f2 (by simp)
  have x0 := g4.cellv x0 (by simp)
  have x1 := g4.cellv x1 (by simp)
  have lx := block_lt_of_cell x0
  have lb := block_lt_of_cell f0
  have g04 := (g02.then g3).then g4
  obtain ⟨E0, hE0⟩ : ∃ z, svE nb a K V = z := ⟨_, rfl⟩
  obtain ⟨X1, hX1⟩ : ∃ z, svX (fun _ => none) nb a ⟨lf, K, V⟩ = z := ⟨_, rfl⟩
  have HS : Hid (∀ w', Chg [] w4 w' → Calls Tryz.prog 16 #[.pointer (some ⟨sb, 0, none⟩), .int .u64 (a : Int), .agg #[.bool lf, .slice ka K.length kc, .slice va V.length vc]] w' fun e w'' => e = .returned (.int .i64 E0) ∧ ∃ tag', HasX w2 w'' tag' sb rb nb (cnt0 nb) (cnt0 nb) X1 1 ∧ Mv tag tag' w' w'') := mkHid fun w' g => by
    subst hE0 hX1
    exact save_says hT2 (h4.keep g) a ha (by omega) ⟨lf, ka, kc, va, vc, K, V⟩ (q4.keep g)
  clear cY h3 q3 g3 g4
  have HD4 := mkHid (And.intro hE0 hX1)
  clear hE0 hX1
  go_wp2_with fail
  go_region_law (first
    | (go_simp; go_at_call 16; refine (HS.out _ (by first | exact Chg.drew [] _ | exact Chg.refl [] _ | exact (Chg.drew [] _).then (Chg.drew [] _))).mono ?_; rintro e w5 ⟨rfl, tag5, h5, m5⟩))
  all_goals
    have M5 := (Mv.made (Chg.drew [] w4) h4.hi).trans m5
    have q5 := q4.mv M5
    have f0 := M5.cellv f0 kb
    have f1 := M5.cellv f1 kb
    have f2 := M5.cellv f2 kb
    have x0 := M5.cellv x0 (kt4 t4)
    have x1 := M5.cellv x1 (kt4 t4)
    have t4 := M5.four t4 lx
    have kb := M5.kt kb lb
    have lx := block_lt_of_cell x0
    have lb := block_lt_of_cell f0
    have cL := load_says hT2 h5 a ha (by omega)
    clear m5 M5 h4 q4 HS
    go_wp2_with fail
    refine cL.mono ?_
    rintro e w6 ⟨⟨lf2, ka2, kc2, va2, vc2, K2, V2⟩, F0, rfl, hF1, hF2, hF3, tag6, h6, m6, n6⟩
    have q6 := q5.mv m6
    have f0 := m6.cellv f0 kb
    have f1 := m6.cellv f1 kb
    have f2 := m6.cellv f2 kb
    have x0 := m6.cellv x0 (kt4 t4)
    have x1 := m6.cellv x1 (kt4 t4)
    have t4 := m6.four t4 lx
    have kb := m6.kt kb lb
    have g6 := Chg.alloc [] w6 (.cells #[.bool lf2, .slice ka2 K2.length kc2, .slice va2 V2.length vc2] 53)
    obtain ⟨c0, c1, c2⟩ := laid3 w6 (.bool lf2) (.slice ka2 K2.length kc2) (.slice va2 V2.length vc2) 53
    have h7 := h6.keep g6
    have q7 := q6.keep g6
    have n7 := n6.keep g6
    have f0 := g6.cellv f0 (by simp)
    have f1 := g6.cellv f1 (by simp)
    have f2 := g6.cellv f2 (by simp)
    have x0 := g6.cellv x0 (by simp)
    have x1 := g6.cellv x1 (by simp)
    have lx := block_lt_of_cell x0
    have lb := block_lt_of_cell f0
    have cb4 := h6.hi w6.heap.size (Nat.le_refl _)
    have HF := mkHid (And.intro hF1 (And.intro hF2 hF3))
    unfold CN.val
    try dsimp only
    clear cL m6 h6 q6 n6 g6 hF1 hF2 hF3 h5 q5
    go_wp2_with fail
    generalize (w6.alloc (.cells #[.bool lf2, .slice ka2 K2.length kc2, .slice va2 V2.length vc2] 53)) = w7 at *
    have hwn : IntKind.u64.wrap (nb : Int) = (nb : Int) := wraps_u64 _ (by omega) (by omega)
    by_cases hm : mayB K V = true
    · obtain ⟨a1, a2, a3, a4⟩ := al_of nb n38 n8
      obtain ⟨N2, hN2⟩ : ∃ z, (allocN (cnt0 nb) (cnt0 nb)).2.2 = z := ⟨_, rfl⟩
      have hmk : makeA (cnt0 nb) (cnt0 nb) X1 ⟨lf, K, V⟩ = .ok (N2, putX X1 2 ⟨lf, K, V⟩, 2) := by
        unfold makeA
        rw [if_neg (by simp [hm]), if_neg (by simp [a2]), a1, hN2]
        rfl
      rw [hN2] at a3 a4
      have HM : Hid (∀ w', Chg [] w7 w' → Calls Tryz.prog 18 #[.pointer (some ⟨sb, 0, none⟩), .agg #[.bool lf, .slice ka K.length kc, .slice va V.length vc]] w' fun e w'' => e = .returned (.tuple #[.int .u64 2, .int .i64 0]) ∧ ∃ tag', HasX w2 w'' tag' sb rb nb N2 (cnt0 nb) (putX X1 2 ⟨lf, K, V⟩) 3 ∧ Mv tag6 tag' w7 w'') := mkHid fun w' g => by
        refine (make_any hT2 (h7.keep g) ⟨lf, ka, kc, va, vc, K, V⟩ (q7.keep g) (by omega) _ hmk (by simp)).mono ?_
        rintro e w'' ⟨he, -, tag', h3, m3⟩
        exact ⟨he, tag', h3, (Mv.made g h7.hi).trans m3⟩
      clear hmk a1 a2 hN2
      rw [hm]
      go_region_law (first
        | (go_simp; go_at_call 18; refine (HM.out _ (by first | exact Chg.drew [] _ | exact Chg.refl [] _ | exact (Chg.drew [] _).then (Chg.drew [] _))).mono ?_; rintro e w8 ⟨rfl, tag8, h8, m8⟩))
      all_goals
        have q8 := q7.mv m8
        have n8 := n7.mv m8
        have f0 := m8.cellv f0 kb
        have f1 := m8.cellv f1 kb
        have f2 := m8.cellv f2 kb
        have c0 := m8.cellv c0 (kt4 cb4)
        have c1 := m8.cellv c1 (kt4 cb4)
        have c2 := m8.cellv c2 (kt4 cb4)
        have x0 := m8.cellv x0 (kt4 t4)
        have x1 := m8.cellv x1 (kt4 t4)
        have t4 := m8.four t4 lx
        have kb := m8.kt kb lb
        have lx := block_lt_of_cell x0
        have lb := block_lt_of_cell f0
        clear h7 q7 n7 m8 HM
        by_cases k1 : 2147483647 < a
        · have e1 : E0 = 1 := by
            have hE := HD4.out.1
            unfold svE at hE
            rw [if_pos k1] at hE
            exact hE.symm
          have e2 : F0 = 1 := HF.out.1 k1
          clear HF HD4
          subst e1 e2
          have d1 : decide ((a : Int) > 2147483647) = true := decide_eq_true (by omega)
          have d1a : decide ((2147483647 : Int) < (a : Int)) = true := decide_eq_true (by omega)
          have d1b : decide (2147483647 < a) = true := decide_eq_true (by omega)
          have cK := load_x hT2 h8 2 ⟨lf, K, V⟩ (by simp [putX]) (by omega)
          go_wp2_with fail
          refine cK.mono ?_
          rintro e wa ⟨⟨lf3, ka3, kc3, va3, vc3, K3, V3⟩, rfl, hq3, taga, hxa, ma, na⟩
          obtain ⟨E1, E2, E3⟩ : lf3 = lf ∧ K3 = K ∧ V3 = V := by unfold CN.nd at hq3; cases hq3; exact ⟨rfl, rfl, rfl⟩
          clear hq3
          subst lf3
          subst K3
          subst V3
          have ga := Chg.alloc [] wa (.cells #[.bool lf, .slice ka3 K.length kc3, .slice va3 V.length vc3] 53)
          obtain ⟨b0, b1, b2⟩ := laid3 wa (.bool lf) (.slice ka3 K.length kc3) (.slice va3 V.length vc3) 53
          have qb := (q8.mv ma).keep ga
          have hb := hxa.keep ga
          have nb9 := na.keep ga
          have f0 := ga.cellv (ma.cellv f0 kb) (by simp)
          have f1 := ga.cellv (ma.cellv f1 kb) (by simp)
          have f2 := ga.cellv (ma.cellv f2 kb) (by simp)
          have x0 := ga.cellv (ma.cellv x0 (kt4 t4)) (by simp)
          have x1 := ga.cellv (ma.cellv x1 (kt4 t4)) (by simp)
          have cS := rsame_any lf ka3 K.length kc3 va3 V.length vc3 K V lf ka K.length kc va V.length vc K V _ nb9.rd rfl rfl qb.rd rfl rfl
          rw [same_all] at cS
          unfold CN.val
          try dsimp only
          clear cK ma na hxa q8 h8 n8 ga c0 c1 c2
          go_wp2_with fail
          generalize (wa.alloc (.cells #[.bool lf, .slice ka3 K.length kc3, .slice va3 V.length vc3] 53)) = wb at *
          refine cS.mono ?_
          rintro e wc ⟨rfl, gc⟩
          have hc := hb.keep gc
          have x0 := gc.cellv x0 (by simp)
          have x1 := gc.cellv x1 (by simp)
          have cF := x_fresh hc 2
          have cC := x_count hc 2
          rw [a3] at cF
          rw [a4] at cC
          clear cS f0 f1 f2 b0 b1 b2
          go_wp2_with fail
          refine cF.mono ?_
          rintro e w' ⟨rfl, rfl⟩
          go_wp2_with fail
          refine cC.mono ?_
          rintro e w' ⟨rfl, rfl⟩
          go_wp2_with fail
          go_ret
          exact ⟨rfl, g02.then hc.chg⟩
        · by_cases k2 : nb ≤ a
          · have e1 : E0 = 6 := by
              have hE := HD4.out.1
              unfold svE at hE
              rw [if_neg k1, if_neg (by simp [hm]), if_pos k2] at hE
              exact hE.symm
            have e2 : F0 = 6 := HF.out.2.1 k1 k2
            clear HF HD4
            subst e1 e2
            have d1 : decide ((a : Int) > 2147483647) = false := decide_eq_false (by omega)
            have d1a : decide ((2147483647 : Int) < (a : Int)) = false := decide_eq_false (by omega)
            have d1b : decide (2147483647 < a) = false := decide_eq_false (by omega)
            have d2 : decide ((a : Int) ≥ (nb : Int)) = true := decide_eq_true (by omega)
            have d2a : decide ((nb : Int) ≤ (a : Int)) = true := decide_eq_true (by omega)
            have d2b : decide (nb ≤ a) = true := decide_eq_true (by omega)
            have cK := load_x hT2 h8 2 ⟨lf, K, V⟩ (by simp [putX]) (by omega)
            go_wp2_with fail
            refine cK.mono ?_
            rintro e wa ⟨⟨lf3, ka3, kc3, va3, vc3, K3, V3⟩, rfl, hq3, taga, hxa, ma, na⟩
            obtain ⟨E1, E2, E3⟩ : lf3 = lf ∧ K3 = K ∧ V3 = V := by unfold CN.nd at hq3; cases hq3; exact ⟨rfl, rfl, rfl⟩
            clear hq3
            subst lf3
            subst K3
            subst V3
            have ga := Chg.alloc [] wa (.cells #[.bool lf, .slice ka3 K.length kc3, .slice va3 V.length vc3] 53)
            obtain ⟨b0, b1, b2⟩ := laid3 wa (.bool lf) (.slice ka3 K.length kc3) (.slice va3 V.length vc3) 53
            have qb := (q8.mv ma).keep ga
            have hb := hxa.keep ga
            have nb9 := na.keep ga
            have f0 := ga.cellv (ma.cellv f0 kb) (by simp)
            have f1 := ga.cellv (ma.cellv f1 kb) (by simp)
            have f2 := ga.cellv (ma.cellv f2 kb) (by simp)
            have x0 := ga.cellv (ma.cellv x0 (kt4 t4)) (by simp)
            have x1 := ga.cellv (ma.cellv x1 (kt4 t4)) (by simp)
            have cS := rsame_any lf ka3 K.length kc3 va3 V.length vc3 K V lf ka K.length kc va V.length vc K V _ nb9.rd rfl rfl qb.rd rfl rfl
            rw [same_all] at cS
            unfold CN.val
            try dsimp only
            clear cK ma na hxa q8 h8 n8 ga c0 c1 c2
            go_wp2_with fail
            generalize (wa.alloc (.cells #[.bool lf, .slice ka3 K.length kc3, .slice va3 V.length vc3] 53)) = wb at *
            refine cS.mono ?_
            rintro e wc ⟨rfl, gc⟩
            have hc := hb.keep gc
            have x0 := gc.cellv x0 (by simp)
            have x1 := gc.cellv x1 (by simp)
            have cF := x_fresh hc 2
            have cC := x_count hc 2
            rw [a3] at cF
            rw [a4] at cC
            clear cS f0 f1 f2 b0 b1 b2
            go_wp2_with fail
            refine cF.mono ?_
            rintro e w' ⟨rfl, rfl⟩
            go_wp2_with fail
            refine cC.mono ?_
            rintro e w' ⟨rfl, rfl⟩
            go_wp2_with fail
            go_ret
            exact ⟨rfl, g02.then hc.chg⟩
          · have hE := HD4.out.1
            unfold svE at hE
            rw [if_neg k1, if_neg (by simp [hm]), if_neg k2] at hE
            have hX := HD4.out.2
            have hz : svE nb a K V = 0 := by
              unfold svE
              rw [if_neg k1, if_neg (by simp [hm]), if_neg k2]
            unfold svX at hX
            rw [if_pos hz] at hX
            obtain ⟨e2, e3⟩ := HF.out.2.2 ⟨lf, K, V⟩ (by rw [← hX]; simp [putX])
            obtain ⟨E1, E2, E3⟩ : lf2 = lf ∧ K2 = K ∧ V2 = V := by unfold CN.nd at e3; cases e3; exact ⟨rfl, rfl, rfl⟩
            clear e3
            subst lf2
            subst K2
            subst V2
            clear HF HD4 hX
            subst hE e2
            have d1 : decide ((a : Int) > 2147483647) = false := decide_eq_false (by omega)
            have d1a : decide ((2147483647 : Int) < (a : Int)) = false := decide_eq_false (by omega)
            have d1b : decide (2147483647 < a) = false := decide_eq_false (by omega)
            have d2 : decide ((a : Int) ≥ (nb : Int)) = false := decide_eq_false (by omega)
            have d2a : decide ((nb : Int) ≤ (a : Int)) = false := decide_eq_false (by omega)
            have d2b : decide (nb ≤ a) = false := decide_eq_false (by omega)
            have cZ := rsame_any lf ka2 K.length kc2 va2 V.length vc2 K V lf ka K.length kc va V.length vc K V w8 n8.rd rfl rfl q8.rd rfl rfl
            rw [same_all] at cZ
            go_wp2_with fail
            refine cZ.mono ?_
            rintro e w9 ⟨rfl, g9⟩
            have h8 := h8.keep g9
            have q8 := q8.keep g9
            have n8 := n8.keep g9
            have f0 := g9.cellv f0 (by simp)
            have f1 := g9.cellv f1 (by simp)
            have f2 := g9.cellv f2 (by simp)
            have x0 := g9.cellv x0 (by simp)
            have x1 := g9.cellv x1 (by simp)
            clear cZ g9
            have cK := load_x hT2 h8 2 ⟨lf, K, V⟩ (by simp [putX]) (by omega)
            go_wp2_with fail
            refine cK.mono ?_
            rintro e wa ⟨⟨lf3, ka3, kc3, va3, vc3, K3, V3⟩, rfl, hq3, taga, hxa, ma, na⟩
            obtain ⟨E1, E2, E3⟩ : lf3 = lf ∧ K3 = K ∧ V3 = V := by unfold CN.nd at hq3; cases hq3; exact ⟨rfl, rfl, rfl⟩
            clear hq3
            subst lf3
            subst K3
            subst V3
            have ga := Chg.alloc [] wa (.cells #[.bool lf, .slice ka3 K.length kc3, .slice va3 V.length vc3] 53)
            obtain ⟨b0, b1, b2⟩ := laid3 wa (.bool lf) (.slice ka3 K.length kc3) (.slice va3 V.length vc3) 53
            have qb := (q8.mv ma).keep ga
            have hb := hxa.keep ga
            have nb9 := na.keep ga
            have f0 := ga.cellv (ma.cellv f0 kb) (by simp)
            have f1 := ga.cellv (ma.cellv f1 kb) (by simp)
            have f2 := ga.cellv (ma.cellv f2 kb) (by simp)
            have x0 := ga.cellv (ma.cellv x0 (kt4 t4)) (by simp)
            have x1 := ga.cellv (ma.cellv x1 (kt4 t4)) (by simp)
            have cS := rsame_any lf ka3 K.length kc3 va3 V.length vc3 K V lf ka K.length kc va V.length vc K V _ nb9.rd rfl rfl qb.rd rfl rfl
            rw [same_all] at cS
            unfold CN.val
            try dsimp only
            clear cK ma na hxa q8 h8 n8 ga c0 c1 c2
            go_wp2_with fail
            generalize (wa.alloc (.cells #[.bool lf, .slice ka3 K.length kc3, .slice va3 V.length vc3] 53)) = wb at *
            refine cS.mono ?_
            rintro e wc ⟨rfl, gc⟩
            have hc := hb.keep gc
            have x0 := gc.cellv x0 (by simp)
            have x1 := gc.cellv x1 (by simp)
            have cF := x_fresh hc 2
            have cC := x_count hc 2
            rw [a3] at cF
            rw [a4] at cC
            clear cS f0 f1 f2 b0 b1 b2
            go_wp2_with fail
            refine cF.mono ?_
            rintro e w' ⟨rfl, rfl⟩
            go_wp2_with fail
            refine cC.mono ?_
            rintro e w' ⟨rfl, rfl⟩
            go_wp2_with fail
            go_ret
            exact ⟨rfl, g02.then hc.chg⟩
    · have hm : mayB K V = false := by simpa using hm
      have HM : Hid (∀ w', Chg [] w7 w' → Calls Tryz.prog 18 #[.pointer (some ⟨sb, 0, none⟩), .agg #[.bool lf, .slice ka K.length kc, .slice va V.length vc]] w' fun e w'' => e = .returned (.tuple #[.int .u64 0, .int .i64 1]) ∧ Chg [] w7 w'') := mkHid fun w' g => by
        refine (make_no (h7.keep g) ⟨lf, ka, kc, va, vc, K, V⟩ (q7.keep g) hm).mono ?_
        rintro e w'' ⟨he, g'⟩
        exact ⟨he, g.then g'⟩
      have e1 : E0 = 1 := by
        have hE := HD4.out.1
        unfold svE at hE
        by_cases k1 : 2147483647 < a
        · rw [if_pos k1] at hE; exact hE.symm
        · rw [if_neg k1, if_pos hm] at hE; exact hE.symm
      clear HD4
      subst e1
      rw [hm]
      go_region_law (first
        | (go_simp; go_at_call 18; refine (HM.out _ (by first | exact Chg.drew [] _ | exact Chg.refl [] _ | exact (Chg.drew [] _).then (Chg.drew [] _))).mono ?_; rintro e w8 ⟨rfl, g8⟩))
      all_goals
        by_cases k1 : 2147483647 < a
        · have e2 : F0 = 1 := HF.out.1 k1
          clear HF
          subst e2
          have d1 : decide ((a : Int) > 2147483647) = true := decide_eq_true (by omega)
          have d1a : decide ((2147483647 : Int) < (a : Int)) = true := decide_eq_true (by omega)
          have d1b : decide (2147483647 < a) = true := decide_eq_true (by omega)
          go_wp2_with fail
          go_ret
          exact ⟨rfl, (g02.then h7.chg).then g8⟩
        · clear HF
          have d1 : decide ((a : Int) > 2147483647) = false := decide_eq_false (by omega)
          have d1a : decide ((2147483647 : Int) < (a : Int)) = false := decide_eq_false (by omega)
          have d1b : decide (2147483647 < a) = false := decide_eq_false (by omega)
          go_wp2_with fail
          go_ret
          exact ⟨rfl, (g02.then h7.chg).then g8⟩
end Go.Proofs.YtdgkbicelnnfpaaGreatDoor
