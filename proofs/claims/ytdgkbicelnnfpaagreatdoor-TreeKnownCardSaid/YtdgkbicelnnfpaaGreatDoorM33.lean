/- Texts Tzc, Tzd of the library, joined. -/
import Derived.Test.YtdgkbicelnnfpaaGreatDoorM17
import Derived.Test.YtdgkbicelnnfpaaGreatDoorM14
import Derived.Test.YtdgkbicelnnfpaaGreatDoorM32
import Derived.Deep.RegionLaw
/- TreeKnown: its call. -/
namespace Go.Proofs.YtdgkbicelnnfpaaGreatDoor
set_option maxRecDepth 200000
open Go.RowKit
set_option linter.unusedVariables false
set_option linter.unusedSimpArgs false
attribute [local go_sem ↓] Go.wp_at_zero Go.wp_at_succ

/-- Counts, nodes and the root behind so many keys. -/
def knS : Nat → List UInt8 × (Nat → Option Nd) × Nat
  | 0 => (cnt0 60, fun _ => none, 0)
  | i + 1 =>
    let s := knS i
    let a := allocN s.1 (cnt0 60)
    let r := okI (insertA a.2.2 (cnt0 60) s.2.1 s.2.2 (10 * i) a.1.toNat)
    (r.1, r.2.1, r.2.2.1)
def knB (i : Nat) : Bool :=
  let s := knS i
  let a := allocN s.1 (cnt0 60)
  let t := (knS (i + 1)).2.2
  decide (a.2.1 = 0) && decide (0 ≤ a.1) && decide (a.1 < 60) && isI (insertA a.2.2 (cnt0 60) s.2.1 s.2.2 (10 * i) a.1.toNat) t 0 false && decide (t < 60) && (if i = 0 then t != s.2.2 else if i < 8 then t == s.2.2 else t != s.2.2)
theorem kn_ok : (List.range 9).all knB = true := by decide +kernel
theorem kn_step {i : Nat} (hi : i < 9) {N : List UInt8} {X : Nat → Option Nd} {rt : Nat} (h : knS i = (N, X, rt)) :
    ∃ (v : Nat) (N1 N2 : List UInt8) (X2 : Nat → Option Nd) (rt2 : Nat), allocN N (cnt0 60) = ((v : Int), 0, N1) ∧ v < 60 ∧ insertA N1 (cnt0 60) X rt (10 * i) v = .ok (N2, X2, rt2, 0, false) ∧ knS (i + 1) = (N2, X2, rt2) ∧ rt2 < 60 ∧ ((i = 0 ∧ rt2 ≠ rt) ∨ (0 < i ∧ i < 8 ∧ rt2 = rt) ∨ (i = 8 ∧ rt2 ≠ rt)) := by
  have h1 := List.all_eq_true.1 kn_ok i (List.mem_range.2 hi)
  unfold knB at h1
  rw [h] at h1
  dsimp only at h1
  rcases hal : allocN N (cnt0 60) with ⟨v, er, N1⟩
  rw [hal] at h1
  dsimp only at h1
  simp only [Bool.and_eq_true, decide_eq_true_eq] at h1
  obtain ⟨⟨⟨⟨⟨e1, e2⟩, e3⟩, e4⟩, e5⟩, e6⟩ := h1
  have e7 := isI_ok e4
  have hk : knS (i + 1) = ((okI (insertA N1 (cnt0 60) X rt (10 * i) v.toNat)).1, (okI (insertA N1 (cnt0 60) X rt (10 * i) v.toNat)).2.1, (okI (insertA N1 (cnt0 60) X rt (10 * i) v.toNat)).2.2.1) := by
    show ((okI (insertA (allocN (knS i).1 (cnt0 60)).2.2 (cnt0 60) (knS i).2.1 (knS i).2.2 (10 * i) (allocN (knS i).1 (cnt0 60)).1.toNat)).1, _, _) = _
    rw [h]
    dsimp only
    rw [hal]
  refine ⟨v.toNat, N1, (okI (insertA N1 (cnt0 60) X rt (10 * i) v.toNat)).1, (okI (insertA N1 (cnt0 60) X rt (10 * i) v.toNat)).2.1, (knS (i + 1)).2.2, ?_, by omega, e7, ?_, e5, ?_⟩
  · rw [Int.toNat_of_nonneg e2, e1]
  · rw [hk]
  · by_cases h0 : i = 0
    · rw [if_pos h0] at e6
      exact Or.inl ⟨h0, by simpa using e6⟩
    · rw [if_neg h0] at e6
      by_cases h8 : i < 8
      · rw [if_pos h8] at e6
        exact Or.inr (Or.inl ⟨by omega, h8, by simpa using e6⟩)
      · rw [if_neg h8] at e6
        exact Or.inr (Or.inr ⟨by omega, by simpa using e6⟩)
def knL : Bool := match (knS 9).2.1 (knS 9).2.2 with
  | some m => m.lf == false && m.K == [0, 50] && m.V.length == 2
  | none => false
theorem knL_ok : knL = true := by decide +kernel
theorem knR_ok : lookA (knS 9).2.1 (knS 9).2.2 5 = some (0, false) := by decide +kernel
end Go.Proofs.YtdgkbicelnnfpaaGreatDoor

/- TreeKnown: its call, walked. -/
namespace Go.Proofs.YtdgkbicelnnfpaaGreatDoor
set_option maxRecDepth 200000
open Go.RowKit
set_option linter.unusedVariables false
set_option linter.unusedSimpArgs false
attribute [local go_sem ↓] Go.wp_at_zero Go.wp_at_succ

theorem kn_last {N : List UInt8} {X : Nat → Option Nd} {rt : Nat} (h : knS 9 = (N, X, rt)) : ∃ V2, X rt = some ⟨false, [0, 50], V2⟩ ∧ V2.length = 2 := by
  have h1 := knL_ok
  unfold knL at h1
  rw [h] at h1
  dsimp only at h1
  cases hx : X rt with
  | none => rw [hx] at h1; cases h1
  | some m =>
    rw [hx] at h1
    obtain ⟨lf, K, V⟩ := m
    simp only [Bool.and_eq_true, beq_iff_eq] at h1
    obtain ⟨⟨rfl, rfl⟩, h3⟩ := h1
    exact ⟨V, rfl, h3⟩
set_option maxHeartbeats 4000000 in
theorem known_core {w : World} (hT : Tab w) : Calls Tryz.prog 7 #[] w fun e w' => e = .returned (.bool true) ∧ Chg [] w w' := by
  have cM : Calls Tryz.prog 9 #[.int .i64 60, .int .i64 3] w (MadeOut w [] 60) := made_bench [] 60 3 (by omega) (by omega) w
  go_enter Tryz.func7, Tryz.ntmps7
  go_wp2_with fail
  refine cM.mono ?_
  rintro e w1 ⟨xb, sb, rb, rfl, x0, x1, hxb, tag, t4, -, h1⟩
  have cA := awake_yes (hT.then h1.chg)
  clear cM
  go_wp2_with fail
  refine cA.mono ?_
  rintro e w2 ⟨rfl, g2⟩
  have H1 := mkHid (And.intro (h1.keep g2) (And.intro (g2.cellv x0 (by simp)) (And.intro (g2.cellv x1 (by simp)) t4)))
  clear cA h1 g2 x0 x1 t4
  go_wp2_with fail
  go_loopw [2, 3, 4, 5, 6, 7, 8, 9, 48] (fun root _ _ _ _ _ _ _ key wr => ∃ (k rt : Nat) (N : List UInt8) (X : Nat → Option Nd) (tg : Nat → Nat), key = .int .u64 k ∧ root = .int .u64 rt ∧ k ≤ 9 ∧ rt < 60 ∧ knS k = (N, X, rt) ∧ HasX w wr tg sb rb 60 N (cnt0 60) X (5000 * k) ∧ tg xb = 4 ∧ wr.cell? ⟨xb, 0, none⟩ = some (.pointer (some ⟨rb, 0, none⟩)) ∧ wr.cell? ⟨xb, 1, none⟩ = some (.pointer (some ⟨sb, 0, none⟩))) (fun _ _ _ _ _ _ _ _ key _ => 9 - natAt key)
  case atStart =>
    obtain ⟨h2, x0, x1, t4⟩ := H1.out
    exact ⟨0, 0, _, _, tag, rfl, rfl, by omega, by omega, rfl, h2, t4, x0, x1⟩
  case round =>
    obtain ⟨k, rt, N, X, tg, rfl, rfl, hk, hrt, hS, hX, tx, y0, y1⟩ := hrel
    by_cases hlt : k < 9
    · have dlt : decide ((k : Int) < 9) = true := decide_eq_true (by omega)
      obtain ⟨v, N1, N2, X2, rt2, hal, hv, hin, hS2, hrt2, hcase⟩ := kn_step hlt hS
      have cL := x_alloc hX _ hal
      dsimp only at cL
      have hmul : IntKind.u64.wrap (10 * (k : Int)) = ((10 * k : Nat) : Int) := by rw [Go.IntWalk.u64_in _ (by omega)]; omega
      have hcv : IntKind.u64.wrap (v : Int) = (v : Int) := Go.IntWalk.u64_in _ (by omega)
      have lx := block_lt_of_cell y0
      have hc : (decide ((k : Int) < 8) = true ∧ ((rt2 : Int) == (rt : Int)) = false ∧ decide ((k : Int) > 0) = false ∧ decide (0 < (k : Int)) = false ∧ decide (0 < k) = false) ∨ (decide ((k : Int) < 8) = true ∧ ((rt2 : Int) == (rt : Int)) = true ∧ decide ((k : Int) > 0) = true ∧ decide (0 < (k : Int)) = true ∧ decide (0 < k) = true) ∨ (decide ((k : Int) < 8) = false ∧ ((rt2 : Int) == (rt : Int)) = false ∧ decide ((k : Int) > 0) = true ∧ decide (0 < (k : Int)) = true ∧ decide (0 < k) = true) := by
        rcases hcase with ⟨h1, h2⟩ | ⟨h1, h2, h3⟩ | ⟨h1, h2⟩
        · exact Or.inl ⟨decide_eq_true (by omega), by simp; omega, decide_eq_false (by omega), decide_eq_false (by omega), decide_eq_false (by omega)⟩
        · exact Or.inr (Or.inl ⟨decide_eq_true (by omega), by simp; omega, decide_eq_true (by omega), decide_eq_true (by omega), decide_eq_true (by omega)⟩)
        · exact Or.inr (Or.inr ⟨decide_eq_false (by omega), by simp; omega, decide_eq_true (by omega), decide_eq_true (by omega), decide_eq_true (by omega)⟩)
      have HC := mkHid hc
      clear hc hcase
      go_wp2_with fail
      refine cL.mono ?_
      rintro e w3 ⟨rfl, tg3, h3, m3⟩
      have z0 := m3.cellv y0 (kt4 tx)
      have z1 := m3.cellv y1 (kt4 tx)
      have tx3 := m3.four tx lx
      have lx := block_lt_of_cell z0
      have cI := insert_ok hT h3 rt (10 * k) v (by omega) (by omega) (by omega) (by omega) N2 X2 rt2 0 false hin
      clear cL m3 y0 y1
      go_wp2_with fail
      refine cI.mono ?_
      rintro e w4 ⟨rfl, tg4, h4, m4⟩
      have y0 := m4.cellv z0 (kt4 tx3)
      have y1 := m4.cellv z1 (kt4 tx3)
      have tx4 := m4.four tx3 lx
      have H4 := mkHid (And.intro hS2 (And.intro h4 (And.intro tx4 (And.intro y0 y1))))
      clear cI m4 z0 z1 h3 hX hS y0 y1 hS2 h4 tx4 hin hal
      rcases HC.out with ⟨d1, d2, d3, d4, d5⟩ | ⟨d1, d2, d3, d4, d5⟩ | ⟨d1, d2, d3, d4, d5⟩
      all_goals
        go_wp2_with fail
        go_roundw
        case rel =>
          obtain ⟨hS2, h4, tx4, y0, y1⟩ := H4.out
          exact ⟨k + 1, rt2, N2, X2, tg4, by go_num, rfl, by omega, hrt2, hS2, h4.mono (by omega), tx4, y0, y1⟩
        case measure => simp [natAt]; omega
    · have dlt : decide ((k : Int) < 9) = false := decide_eq_false (by omega)
      obtain rfl : k = 9 := by omega
      obtain ⟨V2, hm, hV2⟩ := kn_last hS
      have cL := load_x hT hX rt _ hm (by omega)
      have lx := block_lt_of_cell y0
      go_wp2_with fail
      refine cL.mono ?_
      rintro e w3 ⟨q, rfl, hq, tg3, h3, m3, n3⟩
      have z1 := m3.cellv y1 (kt4 tx)
      have HS := mkHid hS
      obtain ⟨lf, ka, kc, va, vc, K, V⟩ := q
      unfold CN.nd at hq
      dsimp only at hq
      injection hq with q1 q2 q3
      subst q1 q2 q3
      obtain ⟨kb, ko, hka, hc⟩ := n3.rd.rk (by simp [uvs])
      dsimp only at hka
      have c0 := hc 0 _ (uvs_get (show ([0, 50] : List Nat)[0]? = some 0 from rfl))
      have c1 := hc 1 _ (uvs_get (show ([0, 50] : List Nat)[1]? = some 50 from rfl))
      subst hka
      rw [Nat.add_zero] at c0
      have tn : tg3 w3.heap.size = 4 := h3.hi _ (Nat.le_refl _)
      have hnl : w3.heap.size < (w3.alloc (.cells #[.bool false, .slice (some ⟨kb, ko, none⟩) 2 kc, .slice va 2 vc] 53)).heap.size := by simp
      have H3 := mkHid (h3.keep (Chg.alloc [] w3 (.cells #[.bool false, .slice (some ⟨kb, ko, none⟩) 2 kc, .slice va 2 vc] 53)))
      clear cL m3 y0 y1 hX hS h3 hc n3 hm
      have gN := Chg.alloc [] w3 (.cells #[.bool false, .slice (some ⟨kb, ko, none⟩) 2 kc, .slice va 2 vc] 53)
      have k0 := gN.cellv c0 (by simp)
      have k1 := gN.cellv c1 (by simp)
      have k2 := gN.cellv z1 (by simp)
      obtain ⟨l0, l1, l2⟩ := laid3 w3 (.bool false) (.slice (some ⟨kb, ko, none⟩) 2 kc) (.slice va 2 vc) 53
      unfold CN.val
      simp only [List.length_cons, List.length_nil, Nat.zero_add, Nat.reduceAdd, hV2]
      go_wp2_with fail
      generalize (w3.alloc (.cells #[.bool false, .slice (some ⟨kb, ko, none⟩) 2 kc, .slice va 2 vc] 53)) = w4 at *
      generalize hnb : w3.heap.size = nb at *
      have HNB := mkHid hnb
      clear hnb c0 c1 z1 gN k0 k1
      have h4 := H3.out
      have c1 : Calls Tryz.prog 23 #[.pointer (some ⟨sb, 0, none⟩), .int .u64 (rt : Int), .int .u64 1, .int .u64 0] w4 (fun e w' => e = .returned (.tuple #[.int .u64 0, .int .u64 0, .bool false, .int .i64 1]) ∧ Chg [] w4 w') := insert_noval h4 rt 1
      clear h4
      refine c1.mono ?_
      rintro e w5 ⟨rfl, g5⟩
      clear c1
      have c2 : Calls Tryz.prog 17 #[.pointer none, .int .u64 2] w5 (fun e w' => e = .returned (.tuple #[.agg #[.bool false, .slice none 0 0, .slice none 0 0], .int .i64 2]) ∧ Chg [] w5 w') := load_nil 2 w5
      go_wp2_with fail
      refine c2.mono ?_
      rintro e w6 ⟨rfl, g6⟩
      clear c2
      have g56 := g5.then g6
      clear g5 g6
      have g7 := g56.then (Chg.alloc [] w6 (.cells #[.bool false, .slice none 0 0, .slice none 0 0] 53))
      clear g56
      go_wp2_with fail
      generalize (w6.alloc (.cells #[.bool false, .slice none 0 0, .slice none 0 0] 53)) = w7 at *
      have c3 : Calls Tryz.prog 31 #[.pointer none, .int .u64 2] w7 (fun e w' => e = .returned (.tuple #[.int .u64 0, .agg #[.bool false, .slice none 0 0, .slice none 0 0], .int .i64 2]) ∧ Chg [] w7 w') := shadow_nil 2 w7
      refine c3.mono ?_
      rintro e w8 ⟨rfl, g8⟩
      clear c3
      have g9 := (g7.then g8).then (Chg.alloc [] w8 (.cells #[.bool false, .slice none 0 0, .slice none 0 0] 53))
      have i0 := g9.cellv l0 (by simp)
      have i1 := g9.cellv l1 (by simp)
      have i2 := g9.cellv l2 (by simp)
      clear g7 g8
      go_wp2_with fail
      generalize (w8.alloc (.cells #[.bool false, .slice none 0 0, .slice none 0 0] 53)) = w9 at *
      have c4 : Calls Tryz.prog 18 #[.pointer none, .agg #[.bool false, .slice (some ⟨kb, ko, none⟩) 2 kc, .slice va 2 vc]] w9 (fun e w' => e = .returned (.tuple #[.int .u64 0, .int .i64 2]) ∧ Chg [] w9 w') := make_nil false _ _ w9
      refine c4.mono ?_
      rintro e w10 ⟨rfl, g10⟩
      clear c4
      have c5 : Calls Tryz.prog 26 #[.pointer none, .int .u64 0, .int .u64 1] w10 (fun e w' => e = .returned (.tuple #[.int .u64 0, .bool false, .int .i64 2]) ∧ Chg [] w10 w') := lookup_nil 0 1 w10
      go_wp2_with fail
      refine c5.mono ?_
      rintro e w11 ⟨rfl, g11⟩
      clear c5
      have c6 : Calls Tryz.prog 23 #[.pointer none, .int .u64 0, .int .u64 1, .int .u64 1] w11 (fun e w' => e = .returned (.tuple #[.int .u64 0, .int .u64 0, .bool false, .int .i64 2]) ∧ Chg [] w11 w') := insert_nil 0 1 1 w11
      go_wp2_with fail
      refine c6.mono ?_
      rintro e w12 ⟨rfl, g12⟩
      clear c6
      have c7 : Calls Tryz.prog 25 #[.pointer none, .int .u64 0, .int .u64 1] w12 (fun e w' => e = .returned (.tuple #[.int .u64 0, .int .u64 0, .bool false, .int .i64 2]) ∧ Chg [] w12 w') := remove_nil 0 1 w12
      go_wp2_with fail
      refine c7.mono ?_
      rintro e w13 ⟨rfl, g13⟩
      clear c7
      have g := (((g9.then g10).then g11).then g12).then g13
      clear g10 g11 g12 g13 g9 i0 i1 i2
      have h13 := H3.out.keep g
      have i0 := g.cellv l0 (by simp)
      have i1 := g.cellv l1 (by simp)
      have i2 := g.cellv l2 (by simp)
      have i3 := g.cellv k2 (by simp)
      have c8 : Calls Tryz.prog 25 #[.pointer (some ⟨sb, 0, none⟩), .int .u64 (rt : Int), .int .u64 5] w13 (fun e w' => e = .returned (.tuple #[.int .u64 (rt : Int), .int .u64 0, .bool false, .int .i64 0]) ∧ ∃ (tag' : Nat → Nat), HasX w w' tag' sb rb 60 N (cnt0 60) X (5000 * 9 + 1 + 12) ∧ Mv tg3 tag' w13 w') := remove_absent hT h13 rt 5 (by omega) 0 (by
        have h9 := knR_ok
        rw [HS.out] at h9
        exact h9)
      clear h13
      go_wp2_with fail
      refine c8.mono ?_
      rintro e w14 ⟨rfl, tg14, h14, m14⟩
      clear c8
      have j0 := m14.cellv i0 (kt4 tn)
      have j1 := m14.cellv i1 (kt4 tn)
      have j2 := m14.cellv i2 (kt4 tn)
      have HC := mkHid h14.chg
      have c9 : Calls Tryz.prog 16 #[.pointer none, .int .u64 2, .agg #[.bool false, .slice (some ⟨kb, ko, none⟩) 2 kc, .slice va 2 vc]] w14 (fun e w' => e = .returned (.int .i64 2) ∧ Chg [] w14 w') := save_nil 2 false _ _ w14
      clear h14 m14 i0 i1 i2 i3 g l0 l1 l2
      go_wp2_with fail
      refine c9.mono ?_
      rintro e w15 ⟨rfl, g15⟩
      clear c9
      have c10 := tnew_nil w15
      go_wp2_with fail
      refine c10.mono ?_
      rintro e w16 ⟨rfl, rfl⟩
      go_wp2_with fail
      go_ret
      exact ⟨rfl, HC.out.then g15⟩
end Go.Proofs.YtdgkbicelnnfpaaGreatDoor
