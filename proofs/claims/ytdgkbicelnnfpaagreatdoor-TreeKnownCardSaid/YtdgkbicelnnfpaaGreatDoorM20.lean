/- Texts Tg, Ig, M of the library, joined. -/
import Derived.Test.YtdgkbicelnnfpaaGreatDoorM18
import Derived.Test.YtdgkbicelnnfpaaGreatDoorM16
import Derived.Test.YtdgkbicelnnfpaaGreatDoorM19
/- shadow: a block that may be changed. -/
namespace Go.Proofs.YtdgkbicelnnfpaaGreatDoor
set_option maxRecDepth 200000
open Go.RowKit
set_option linter.unusedVariables false
set_option linter.unusedSimpArgs false
attribute [local go_sem ↓] Go.wp_at_zero Go.wp_at_succ

def natAt : Value → Nat
  | .int _ q => q.toNat
  | _ => 0
/-- What comes of a call: nothing is said; no room; this. -/
inductive Out (α : Type) where
  | stuck : Out α
  | full : Out α
  | ok : α → Out α
def incAll : List UInt8 → List Nat → Option (List UInt8)
  | N, [] => some N
  | N, v :: r => if (incN N (blkI v)).1 = 0 then incAll (incN N (blkI v)).2 r else none
def shadowA (N C : List UInt8) (X : Nat → Option Nd) (a : Nat) : Out (List UInt8 × (Nat → Option Nd) × Nat × Nd) :=
  match X a with
  | none => .stuck
  | some m =>
    if newN N C (a : Int) = true ∧ cntN N (a : Int) = 1 then .ok (N, X, a, m) else
    if (allocN N C).2.1 ≠ 0 then .full else
    match (if 1 < cntN (allocN N C).2.2 (a : Int) then incAll (allocN N C).2.2 m.V else some (allocN N C).2.2) with
    | none => .stuck
    | some N2 => if (decN N2 (a : Int)).2.1 ≠ 0 then .stuck else .ok ((decN N2 (a : Int)).2.2, putX X (allocN N C).1.toNat m, (allocN N C).1.toNat, m)
/-- A step, as a value. -/
def stepV (t : Nat) (x y : CN) (p : Int) : Value := .agg #[.int .u64 (t : Int), .bool x.lf, .slice x.ka x.K.length x.kc, .slice x.va x.V.length x.vc, .bool y.lf, .slice y.ka y.K.length y.kc, .slice y.va y.V.length y.vc, .int .i64 p]
def ShPost (w0 w : World) (tag : Nat → Nat) (sb rb n : Nat) (C : List UInt8) (u : Nat) (r : Out (List UInt8 × (Nat → Option Nd) × Nat × Nd)) (e : Ending) (w' : World) : Prop :=
  match r with
  | .stuck => True
  | .full => e = Thrown 8 ∧ ∃ tag' N' X', HasX w0 w' tag' sb rb n N' C X' u ∧ Mv tag tag' w w'
  | .ok (N', X', t, m) => ∃ q : CN, e = .returned (stepV t q q 0) ∧ q.nd = m ∧ t < n ∧ ∃ tag', HasX w0 w' tag' sb rb n N' C X' u ∧ Mv tag tag' w w' ∧ NdAt w' tag' q
theorem blk_int {a : Nat} (h : a ≤ 2147483647) : blkI a = (a : Int) := by unfold blkI; rw [if_neg (by omega)]
/-- A step's block, new. -/
def stepZ : Array Value := #[.int .u64 0, .bool false, .slice none 0 0, .slice none 0 0, .bool false, .slice none 0 0, .slice none 0 0, .int .i64 0]
theorem new8 (w : World) (t : TypeId) : (w.alloc (.cells stepZ t)).there w.heap.size 0 8 := fun j hj => by
  refine ⟨?_, frozen_of_row _ _ _ _ _ (heap_alloc_last w _)⟩
  rw [cell_of_row _ _ _ _ _ _ (heap_alloc_last w _), Nat.zero_add]
  match j, hj with
  | 0, _ => rfl
  | 1, _ => rfl
  | 2, _ => rfl
  | 3, _ => rfl
  | 4, _ => rfl
  | 5, _ => rfl
  | 6, _ => rfl
  | 7, _ => rfl
theorem cells8 {w : World} {b : Nat} (h : w.there b 0 8) : (∃ v0 v1 v2 v3 v4 v5 v6 v7, w.cell? ⟨b, 0, none⟩ = some v0 ∧ w.cell? ⟨b, 1, none⟩ = some v1 ∧ w.cell? ⟨b, 2, none⟩ = some v2 ∧ w.cell? ⟨b, 3, none⟩ = some v3 ∧ w.cell? ⟨b, 4, none⟩ = some v4 ∧ w.cell? ⟨b, 5, none⟩ = some v5 ∧ w.cell? ⟨b, 6, none⟩ = some v6 ∧ w.cell? ⟨b, 7, none⟩ = some v7) ∧
    w.frozen? ⟨b, 0, none⟩ = false ∧ w.frozen? ⟨b, 1, none⟩ = false ∧ w.frozen? ⟨b, 2, none⟩ = false ∧ w.frozen? ⟨b, 3, none⟩ = false ∧ w.frozen? ⟨b, 4, none⟩ = false ∧ w.frozen? ⟨b, 5, none⟩ = false ∧ w.frozen? ⟨b, 6, none⟩ = false ∧ w.frozen? ⟨b, 7, none⟩ = false := by
  have f : ∀ j, j < 8 → ∃ v, w.cell? ⟨b, j, none⟩ = some v := fun j hj => by
    obtain ⟨v, r⟩ := Option.isSome_iff_exists.1 (h j hj).1
    rw [Nat.zero_add] at r
    exact ⟨v, r⟩
  have g : ∀ j, j < 8 → w.frozen? ⟨b, j, none⟩ = false := fun j hj => by
    have := (h j hj).2
    rwa [Nat.zero_add] at this
  obtain ⟨v0, r0⟩ := f 0 (by decide)
  obtain ⟨v1, r1⟩ := f 1 (by decide)
  obtain ⟨v2, r2⟩ := f 2 (by decide)
  obtain ⟨v3, r3⟩ := f 3 (by decide)
  obtain ⟨v4, r4⟩ := f 4 (by decide)
  obtain ⟨v5, r5⟩ := f 5 (by decide)
  obtain ⟨v6, r6⟩ := f 6 (by decide)
  obtain ⟨v7, r7⟩ := f 7 (by decide)
  exact ⟨⟨v0, v1, v2, v3, v4, v5, v6, v7, r0, r1, r2, r3, r4, r5, r6, r7⟩, g 0 (by decide), g 1 (by decide), g 2 (by decide), g 3 (by decide), g 4 (by decide), g 5 (by decide), g 6 (by decide), g 7 (by decide)⟩
theorem there_lt {w : World} {b o n : Nat} (h : w.there b o n) (hn : 0 < n) : b < w.heap.size := by
  obtain ⟨v, r⟩ := Option.isSome_iff_exists.1 (h 0 hn).1
  exact block_lt_of_cell r
theorem eight_chg (w : World) (b : Nat) (x0 x1 x2 x3 x4 x5 x6 x7 : Value) : Chg [b] w ((((((((w.setCell ⟨b, 0, none⟩ x0).setCell ⟨b, 1, none⟩ x1).setCell ⟨b, 2, none⟩ x2).setCell ⟨b, 3, none⟩ x3).setCell ⟨b, 4, none⟩ x4).setCell ⟨b, 5, none⟩ x5).setCell ⟨b, 6, none⟩ x6).setCell ⟨b, 7, none⟩ x7) := by
  have f : ∀ {a c : World} (i : Nat) (x : Value), Chg [b] a c → Chg [b] a (c.setCell ⟨b, i, none⟩ x) := fun i x g => g.trans (Chg.setCell _ ⟨b, i, none⟩ x) (fun _ h _ => h) (fun _ h _ => h)
  exact f 7 x7 (f 6 x6 (f 5 x5 (f 4 x4 (f 3 x3 (f 2 x2 (f 1 x1 (Chg.setCell w ⟨b, 0, none⟩ x0)))))))
section
variable {w0 w : World} {tag : Nat → Nat} {sb rb n : Nat} {N C : List UInt8} {X : Nat → Option Nd} {u : Nat}
set_option maxHeartbeats 4000000 in
theorem shadow_any (hT : Tab w0) (h : HasX w0 w tag sb rb n N C X u) (a : Nat) (hu : u ≤ 90000000) (r : Out (List UInt8 × (Nat → Option Nd) × Nat × Nd)) (hr : shadowA N C X a = r) (hne : r ≠ .stuck) :
    Calls Tryz.prog 72 #[.pointer (some ⟨sb, 0, none⟩), .int .u64 (a : Int)] w (ShPost w0 w tag sb rb n C (u + 2) r) := by
  unfold shadowA at hr
  cases hX : X a with
  | none => rw [hX] at hr; exact absurd hr.symm hne
  | some m =>
  rw [hX] at hr
  dsimp only at hr
  obtain ⟨hlt, hgood⟩ := h.lt hX
  obtain ⟨lN, lC, n0, nn⟩ := h.lens
  have g0 := Chg.alloc [] w (.cells stepZ 139)
  have h0 := h.keep g0
  have t0 := new8 w 139
  have tb : tag w.heap.size = 4 := h.hi _ (Nat.le_refl _)
  have M0 := Mv.made g0 h.hi
  have hz0 : (w.alloc (.cells stepZ 139)).heap.size = w.heap.size + 1 := by simp
  have cL := load_x hT h0 a m hX (by omega)
  have cB := block_no a
  rw [blk_int (by omega)] at cB
  have HT := mkHid hT
  have HL := mkHid (And.intro lN lC)
  have HX := mkHid hX
  have HM := mkHid hr
  clear hr hX lN lC hT
  go_enter Tryz.func72, Tryz.ntmps72
  go_wp2_with fail
  unfold stepZ at cL h0 t0 M0 hz0 g0
  generalize (w.alloc (.cells #[.int .u64 0, .bool false, .slice none 0 0, .slice none 0 0, .bool false, .slice none 0 0, .slice none 0 0, .int .i64 0] 139)) = w1 at *
  refine cL.mono ?_
  rintro e w2 ⟨⟨lf, ka, kc, va, vc, K, V⟩, rfl, hqm, tag2, h2, m2, q2⟩
  subst hqm
  unfold CN.val
  dsimp only
  go_wp2_with fail
  refine (surenode_ok lf ka K.length kc va V.length vc w2).mono ?_
  rintro e w3 ⟨rfl, g3⟩
  have hlo3 := g3.size
  have hlo2 := m2.size
  have tb2 := m2.four tb (by omega)
  have h3 := h2.keep g3
  have M3 := (M0.trans m2).then g3
  have t3 := there_chg (m2.there t0 tb) g3 (by simp)
  have q3 := q2.keep g3
  have g4 := Chg.alloc [] w3 (.cells #[.bool lf, .slice ka K.length kc, .slice va V.length vc] 53)
  have h4 := h3.keep g4
  have M4 := M3.then g4
  have t4 := there_chg t3 g4 (by simp)
  have q4 := q3.keep g4
  have b5 : tag2 w3.heap.size = 4 := h3.hi _ (Nat.le_refl _)
  obtain ⟨e0, e1, e2⟩ := laid3 w3 (.bool lf) (.slice ka K.length kc) (.slice va V.length vc) 53
  have hz4 : w3.heap.size < (w3.alloc (.cells #[.bool lf, .slice ka K.length kc, .slice va V.length vc] 53)).heap.size := by simp
  have hzb : w.heap.size < w3.heap.size := by omega
  clear h2 m2 q2 g3 h3 M3 t3 q3 g4 M0 h0 t0 cL g0 hz0 hlo3 hlo2
  go_wp2_with fail
  generalize (w3.alloc (.cells #[.bool lf, .slice ka K.length kc, .slice va V.length vc] 53)) = w4 at *
  generalize w3.heap.size = c at *
  refine (cB w4).mono ?_
  rintro e w' ⟨rfl, rfl⟩
  have cF := x_fresh h4 (a : Int)
  have cC := x_count h4 (a : Int)
  have s4 := h4.s0
  have hM := HM.out
  generalize hf : newN N C (a : Int) = fr at *
  generalize hcn : cntN N (a : Int) = cn at *
  have HF := mkHid (And.intro hf hcn)
  clear hf hcn HM
  by_cases hc : fr = true ∧ cn = 1
  · obtain ⟨rfl, rfl⟩ := hc
    rw [if_pos ⟨rfl, rfl⟩] at hM
    subst hM
    obtain ⟨⟨v0, v1, v2, v3, v4, v5, v6, v7, r0, r1, r2, r3, r4, r5, r6, r7⟩, f0, f1, f2, f3, f4, f5, f6, f7⟩ := cells8 t4
    go_wp2_with (first
      | (go_at_call 20; refine cF.mono ?_; rintro e w' ⟨rfl, rfl⟩)
      | (go_at_call 21; refine cC.mono ?_; rintro e w' ⟨rfl, rfl⟩))
    refine bodyPost_ret (v := stepV a ⟨lf, ka, kc, va, vc, K, V⟩ ⟨lf, ka, kc, va, vc, K, V⟩ 0) (by simp [results, Tryz.results72, go_sem, r0, r1, r2, r3, r4, r5, r6, r7, stepV]) rfl ?_
    have G := eight_chg w4 w.heap.size (.int .u64 (a : Int)) (.bool lf) (.slice ka K.length kc) (.slice va V.length vc) (.bool lf) (.slice ka K.length kc) (.slice va V.length vc) (.int .i64 0)
    have hS : ∀ k, k ∈ [w.heap.size] → tag2 k = 4 := fun k hk => by simp at hk; subst hk; exact tb2
    exact ⟨⟨lf, ka, kc, va, vc, K, V⟩, rfl, rfl, hlt, tag2, (h4.wrote G hS).mono (by omega), M4.wrote G (fun k hk => by simp at hk; omega), q4.wrote G hS⟩
  · rw [if_neg hc] at hM
    have cA := x_alloc h4 (allocN N C) rfl
    have hg : fr = false ∨ (fr = true ∧ (cn == 1) = false) := by
      by_cases h1 : fr = true
      · exact Or.inr ⟨h1, by simpa using fun h2 => hc ⟨h1, h2⟩⟩
      · exact Or.inl (by simpa using h1)
    clear hc
    have HA : Hid (∀ t N', allocN N C = (t, 0, N') → ∃ x : Nat, t = (x : Int) ∧ x < n) := mkHid fun t N' h9 => by
      obtain ⟨x, h1, h2, -⟩ := alloc_ok HL.out.1 HL.out.2 h9
      exact ⟨x, h1, h2⟩
    have HE : Hid (∀ t e N', allocN N C = (t, e, N') → e ≠ 0 → e = 8) := mkHid fun t e N' h9 he => (alloc_no h9 he).2.1
    obtain ⟨al, hal⟩ : ∃ al, al = allocN N C := ⟨_, rfl⟩
    rw [← hal] at hM cA HA HE
    obtain ⟨t, er, N1⟩ := al
    have HAl := mkHid hal
    have HMM := mkHid hM
    clear hal hM
    rcases hg with rfl | ⟨rfl, hg⟩
    all_goals
      go_wp2_with (first
        | (go_at_call 20; refine cF.mono ?_; rintro e w' ⟨rfl, rfl⟩)
        | (go_at_call 21; refine cC.mono ?_; rintro e w' ⟨rfl, rfl⟩))
      refine cA.mono ?_
      rintro e w5 ⟨rfl, tag5, h5, m5⟩
      dsimp only
      have hsz5 := m5.size
      have t5 := m5.there t4 tb2
      have tb5 := m5.four tb2 (by omega)
      have b55 := m5.four b5 hz4
      have q5 := q4.mv m5
      have M5 := M4.trans m5
      have e05 := m5.cellv e0 (kt4 b5)
      have e15 := m5.cellv e1 (kt4 b5)
      have e25 := m5.cellv e2 (kt4 b5)
      have hz5 : c < w5.heap.size := by omega
      clear h4 q4 t4 tb2 b5 M4 e0 e1 e2 m5 cF cC cA
      by_cases her : er = 0
      · subst her
        obtain ⟨x, rfl, hx⟩ := HA.out t N1 rfl
        have hcx : IntKind.u64.wrap (x : Int) = (x : Int) := wraps_u64 _ (by omega) (by omega)
        have cC := x_count h5 (a : Int)
        have s5 := h5.s0
        go_wp2_with fail
        refine (sureint_ok (x : Int) w5).mono ?_
        rintro e w' ⟨rfl, rfl⟩
        have hM := HMM.out
        rw [if_neg (by simp)] at hM
        generalize hc1 : cntN N1 (a : Int) = c1 at *
        by_cases hg1 : 1 < c1
        · have hd : decide (1 < c1) = true := decide_eq_true hg1
          rw [if_pos hg1] at hM
          go_wp2_with (first | (go_at_call 21; refine cC.mono ?_; rintro e w' ⟨rfl, rfl⟩))
          cases hia : incAll N1 V with
          | none => rw [show (CN.nd ⟨lf, ka, kc, va, vc, K, V⟩).V = V from rfl, hia] at hM; exact absurd hM.symm hne
          | some N2 =>
          rw [show (CN.nd ⟨lf, ka, kc, va, vc, K, V⟩).V = V from rfl, hia] at hM
          dsimp only at hM
          have hmx := q5.rd.xv
          have hlv : V.length ≤ vc := q5.rd.cv
          unfold maxLen at hmx
          have HW := mkHid hM
          have HI := mkHid hia
          have HD := mkHid hd
          clear hM hia hd cC s5
          go_loopw [9, 56] (fun _ i wr => ∃ (k : Nat) (Nk : List UInt8) (tg : Nat → Nat), i = .int .i64 k ∧ k ≤ V.length ∧ incAll Nk (V.drop k) = some N2 ∧ HasX w0 wr tg sb rb n Nk C X (u + 1) ∧ Mv tag tg w wr ∧ NdAt wr tg ⟨lf, ka, kc, va, vc, K, V⟩ ∧ wr.there w.heap.size 0 8 ∧ tg w.heap.size = 4 ∧ tg c = 4 ∧ c < wr.heap.size ∧ wr.cell? ⟨c, 0, none⟩ = some (.bool lf) ∧ wr.cell? ⟨c, 1, none⟩ = some (.slice ka K.length kc) ∧ wr.cell? ⟨c, 2, none⟩ = some (.slice va V.length vc)) (fun _ i _ => V.length - natAt i)
          case atStart => exact ⟨0, N1, tag5, rfl, by omega, by rw [List.drop_zero]; exact HI.out, h5, M5, q5, t5, tb5, b55, hz5, e05, e15, e25⟩
          case round =>
            obtain ⟨k, Nk, tg, rfl, hk, hinc, h6, M6, q6, t6, tb6, b56, hz6, e06, e16, e26⟩ := hrel
            have HK := mkHid hinc
            clear hinc
            have hrv := q6.rd.rv
            by_cases hlt2 : k < V.length
            · have hget : V[k]? = some V[k] := List.getElem?_eq_getElem hlt2
              have hdr : V.drop k = V[k] :: V.drop (k + 1) := List.drop_eq_getElem_cons hlt2
              obtain ⟨vb, vo, rfl, hcell⟩ := hrv (by simpa [uvs_len] using Nat.lt_of_le_of_lt (Nat.zero_le k) hlt2)
              have hx1 := hcell k _ (uvs_get hget)
              have hinc := HK.out
              rw [hdr] at hinc
              unfold incAll at hinc
              obtain ⟨vk, hvk⟩ : ∃ y, y = V[k] := ⟨_, rfl⟩
              rw [← hvk] at hx1 hinc
              obtain ⟨⟨ie, Ni⟩, hin⟩ : ∃ q, incN Nk (blkI vk) = q := ⟨_, rfl⟩
              rw [hin] at hinc
              dsimp only at hinc
              by_cases hie : ie = 0
              · subst hie
                rw [if_pos rfl] at hinc
                have HN := mkHid hin
                have HI2 := mkHid hinc
                have HVK := mkHid hvk
                have s6 := h6.s0
                clear hin hinc hvk hdr hget hcell
                go_wp2_with fail
                go_region_law (first
                  | (go_simp; go_at_call 121; refine (block_no vk _).mono ?_; rintro e w' ⟨rfl, rfl⟩)
                  | (go_simp; go_at_call 27; refine (x_inc (h6.keep (by first | exact Chg.refl [] _ | exact Chg.drew [] _ | exact (Chg.drew [] _).then (Chg.drew [] _))) (blkI vk) (0, Ni) HN.out).mono ?_; rintro e w' ⟨rfl, tag', h', m'⟩)
                  | (go_simp; go_at_call 123; refine (must_ok _).mono ?_; rintro e w' ⟨rfl, rfl⟩))
                all_goals
                  have hmm : Mv tg tag' wr w' := (Mv.made (Chg.drew [] wr) h6.hi).trans m'
                  go_wp2_with fail
                  go_roundw
                  case rel => exact ⟨k + 1, Ni, tag', by go_num, by omega, HI2.out, h', M6.trans hmm, q6.mv hmm, hmm.there t6 tb6, hmm.four tb6 (by have := M6.size; omega), hmm.four b56 hz6, by have := hmm.size; omega, hmm.cellv e06 (kt4 b56), hmm.cellv e16 (kt4 b56), hmm.cellv e26 (kt4 b56)⟩
                  case measure => simp [natAt]; omega
              · rw [if_neg hie] at hinc
                exact absurd hinc (by simp)
            · have hN2 : Nk = N2 := by
                have := HK.out
                rw [List.drop_of_length_le (by omega)] at this
                simpa [incAll] using this
              subst hN2
              have hM := HW.out
              clear hrv
              go_wp2_with fail
              by_cases hd2 : (decN Nk (a : Int)).2.1 = 0
              · rw [if_neg (by simpa using hd2)] at hM
                obtain ⟨⟨bb, ee, N3⟩, hdec⟩ : ∃ q, decN Nk (a : Int) = q := ⟨_, rfl⟩
                rw [hdec] at hM hd2
                dsimp only at hd2
                subst hd2
                have cLs := less_x h6 a (by omega) bb N3 (by rw [blk_int (by omega)]; exact hdec)
                have HRR := mkHid hM
                clear hM hdec
                go_wp2_with fail
                refine cLs.mono ?_
                rintro e w7 ⟨rfl, tag7, h7, m7⟩
                have hsz7 := m7.size
                have e07 := m7.cellv e06 (kt4 b56)
                have e17 := m7.cellv e16 (kt4 b56)
                have e27 := m7.cellv e26 (kt4 b56)
                have b57 := m7.four b56 (by omega)
                have t7 := m7.there t6 tb6
                have tb7 := m7.four tb6 (by omega)
                have q7 := q6.mv m7
                have M7 := M6.trans m7
                have cS := save_x HT.out h7 x hx (by omega) ⟨lf, ka, kc, va, vc, K, V⟩ q7 hgood.1
                unfold CN.val at cS
                dsimp only at cS
                clear h6 m7 e06 e16 e26 t6 tb6 q6 M6
                go_wp2_with fail
                refine cS.mono ?_
                rintro e w8 ⟨rfl, tag8, h8, m8⟩
                have e08 := m8.cellv e07 (kt4 b57)
                have e18 := m8.cellv e17 (kt4 b57)
                have e28 := m8.cellv e27 (kt4 b57)
                have t8 := m8.there t7 tb7
                have tb8 := m8.four tb7 (by omega)
                have q8 := q7.mv m8
                have M8 := M7.trans m8
                obtain ⟨⟨v0, v1, v2, v3, v4, v5, v6, v7, r0, r1, r2, r3, r4, r5, r6, r7⟩, f0, f1, f2, f3, f4, f5, f6, f7⟩ := cells8 t8
                go_wp2_with (first | (go_at_call 123; refine (must_ok _).mono ?_; rintro e w' ⟨rfl, rfl⟩))
                have hr := HRR.out
                subst hr
                refine bodyPost_ret (v := stepV x ⟨lf, ka, kc, va, vc, K, V⟩ ⟨lf, ka, kc, va, vc, K, V⟩ 0) (by simp [results, Tryz.results72, go_sem, r0, r1, r2, r3, r4, r5, r6, r7, stepV]) rfl ?_
                have G := eight_chg w8 w.heap.size (.int .u64 (x : Int)) (.bool lf) (.slice ka K.length kc) (.slice va V.length vc) (.bool lf) (.slice ka K.length kc) (.slice va V.length vc) (.int .i64 0)
                have hS : ∀ k, k ∈ [w.heap.size] → tag8 k = 4 := fun k hk => by simp at hk; subst hk; exact tb8
                exact ⟨⟨lf, ka, kc, va, vc, K, V⟩, rfl, rfl, hx, tag8, (h8.wrote G hS).mono (by omega), M8.wrote G (fun k hk => by simp at hk; omega), q8.wrote G hS⟩
              · rw [if_pos hd2] at hM
                exact absurd hM.symm hne
        · have hd : decide (1 < c1) = false := decide_eq_false hg1
          rw [if_neg hg1] at hM
          dsimp only at hM
          go_wp2_with (first | (go_at_call 21; refine cC.mono ?_; rintro e w' ⟨rfl, rfl⟩))
          rename HasX w0 w5 tag5 sb rb n _ C X _ => h6
          rename w5.there w.heap.size 0 8 => t6
          rename tag5 w.heap.size = 4 => tb6
          rename tag5 c = 4 => b56
          rename NdAt w5 tag5 _ => q6
          rename Mv tag tag5 w w5 => M6
          rename w5.cell? ⟨c, 0, none⟩ = _ => e06
          rename w5.cell? ⟨c, 1, none⟩ = _ => e16
          rename w5.cell? ⟨c, 2, none⟩ = _ => e26
          generalize N1 = N2 at *
          by_cases hd2 : (decN N2 (a : Int)).2.1 = 0
          · rw [if_neg (by simpa using hd2)] at hM
            obtain ⟨⟨bb, ee, N3⟩, hdec⟩ : ∃ q, decN N2 (a : Int) = q := ⟨_, rfl⟩
            rw [hdec] at hM hd2
            dsimp only at hd2
            subst hd2
            have cLs := less_x h6 a (by omega) bb N3 (by rw [blk_int (by omega)]; exact hdec)
            have HRR := mkHid hM
            clear hM hdec
            go_wp2_with fail
            refine cLs.mono ?_
            rintro e w7 ⟨rfl, tag7, h7, m7⟩
            have hsz7 := m7.size
            have e07 := m7.cellv e06 (kt4 b56)
            have e17 := m7.cellv e16 (kt4 b56)
            have e27 := m7.cellv e26 (kt4 b56)
            have b57 := m7.four b56 (by omega)
            have t7 := m7.there t6 tb6
            have tb7 := m7.four tb6 (by omega)
            have q7 := q6.mv m7
            have M7 := M6.trans m7
            have cS := save_x HT.out h7 x hx (by omega) ⟨lf, ka, kc, va, vc, K, V⟩ q7 hgood.1
            unfold CN.val at cS
            dsimp only at cS
            clear h6 m7 e06 e16 e26 t6 tb6 q6 M6
            go_wp2_with fail
            refine cS.mono ?_
            rintro e w8 ⟨rfl, tag8, h8, m8⟩
            have e08 := m8.cellv e07 (kt4 b57)
            have e18 := m8.cellv e17 (kt4 b57)
            have e28 := m8.cellv e27 (kt4 b57)
            have t8 := m8.there t7 tb7
            have tb8 := m8.four tb7 (by omega)
            have q8 := q7.mv m8
            have M8 := M7.trans m8
            obtain ⟨⟨v0, v1, v2, v3, v4, v5, v6, v7, r0, r1, r2, r3, r4, r5, r6, r7⟩, f0, f1, f2, f3, f4, f5, f6, f7⟩ := cells8 t8
            go_wp2_with (first | (go_at_call 123; refine (must_ok _).mono ?_; rintro e w' ⟨rfl, rfl⟩))
            have hr := HRR.out
            subst hr
            refine bodyPost_ret (v := stepV x ⟨lf, ka, kc, va, vc, K, V⟩ ⟨lf, ka, kc, va, vc, K, V⟩ 0) (by simp [results, Tryz.results72, go_sem, r0, r1, r2, r3, r4, r5, r6, r7, stepV]) rfl ?_
            have G := eight_chg w8 w.heap.size (.int .u64 (x : Int)) (.bool lf) (.slice ka K.length kc) (.slice va V.length vc) (.bool lf) (.slice ka K.length kc) (.slice va V.length vc) (.int .i64 0)
            have hS : ∀ k, k ∈ [w.heap.size] → tag8 k = 4 := fun k hk => by simp at hk; subst hk; exact tb8
            exact ⟨⟨lf, ka, kc, va, vc, K, V⟩, rfl, rfl, hx, tag8, (h8.wrote G hS).mono (by omega), M8.wrote G (fun k hk => by simp at hk; omega), q8.wrote G hS⟩
          · rw [if_pos hd2] at hM
            exact absurd hM.symm hne
      · have h8 := HE.out t er N1 rfl her
        subst h8
        go_wp2_with fail
        refine (sureint_no t 8 (by decide) w5).mono ?_
        rintro e w' ⟨rfl, rfl⟩
        have hM := HMM.out
        rw [if_pos (by decide)] at hM
        subst hM
        refine end_thrown rfl ⟨rfl, tag5, N1, X, h5.mono (by omega), M5⟩
end
end Go.Proofs.YtdgkbicelnnfpaaGreatDoor

/- Nodes in new memory; the reference's Part. -/
namespace Go.Proofs.YtdgkbicelnnfpaaGreatDoor
open Go.RowKit
set_option linter.unusedVariables false
set_option linter.unusedSimpArgs false
attribute [local go_sem ↓] Go.wp_at_zero Go.wp_at_succ

/-- A node whose lists lie in memory of their own, from block B on. -/
structure RmN (w : World) (B : Nat) (ka : Option Addr) (kc : Nat) (va : Option Addr) (vc : Nat) (K V : List Nat) : Prop where
  rk : Room w B ka K.length kc (uvs K)
  rv : Room w B va V.length vc (uvs V)
  dj : ∀ q, q ∈ fp ka kc → q ∉ fp va vc
/-- What a call answers that makes a node. -/
def NOut (B : Nat) (lf : Bool) (K V : List Nat) (e : Ending) (w' : World) : Prop := ∃ ka kc va vc, e = .returned (.agg #[.bool lf, .slice ka K.length kc, .slice va V.length vc]) ∧ RmN w' B ka kc va vc K V
theorem RmN.chg {w w' : World} {S : List Nat} {B : Nat} {ka : Option Addr} {kc : Nat} {va : Option Addr} {vc : Nat} {K V : List Nat} (h : RmN w B ka kc va vc K V) (g : Chg S w w') (hS : ∀ q, q ∈ S → q < B) : RmN w' B ka kc va vc K V :=
  ⟨h.rk.chg g (fun q hq hm => by have := (h.rk.lt q hq).1; have := hS q hm; omega), h.rv.chg g (fun q hq hm => by have := (h.rv.lt q hq).1; have := hS q hm; omega), h.dj⟩
theorem RmN.keep {w w' : World} {B : Nat} {ka : Option Addr} {kc : Nat} {va : Option Addr} {vc : Nat} {K V : List Nat} (h : RmN w B ka kc va vc K V) (g : Chg [] w w') : RmN w' B ka kc va vc K V := h.chg g (by simp)
theorem RmN.mono {w : World} {B B' : Nat} {ka : Option Addr} {kc : Nat} {va : Option Addr} {vc : Nat} {K V : List Nat} (h : RmN w B ka kc va vc K V) (hB : B' ≤ B) : RmN w B' ka kc va vc K V := ⟨h.rk.mono hB, h.rv.mono hB, h.dj⟩
theorem RmN.rd {w : World} {B : Nat} {ka : Option Addr} {kc : Nat} {va : Option Addr} {vc : Nat} {K V : List Nat} (h : RmN w B ka kc va vc K V) (bk : K.length * 8 ≤ 140737488351232) (bv : V.length * 8 ≤ 140737488351232) : RdN w ka kc va vc K V :=
  ⟨h.rk.reads, h.rv.reads, h.rk.le, h.rv.le, bk, bv, h.rk.max, h.rv.max⟩
/-- The pairs from one place to another. -/
def sub (L : List Nat) (f t : Nat) : List Nat := (L.take t).drop f
theorem sub_zero (L : List Nat) (t : Nat) : sub L 0 t = L.take t := rfl

theorem NBlk.keep {w w' : World} {R nb B : Nat} {lf : Bool} {ka : Option Addr} {kc : Nat} {va : Option Addr} {vc : Nat} {K V : List Nat} (h : NBlk w R nb B lf ka kc va vc K V) (g : Chg [] w w') : NBlk w' R nb B lf ka kc va vc K V :=
  ⟨g.cellv h.c0 (by simp), g.cellv h.c1 (by simp), g.cellv h.c2 (by simp), (g.frozen (p := ⟨nb, 1, none⟩) (block_lt_of_cell h.c1) (by simp)).trans h.f1, (g.frozen (p := ⟨nb, 2, none⟩) (block_lt_of_cell h.c2) (by simp)).trans h.f2, h.rk.chg g (by simp), h.rv.chg g (by simp), h.dj, there_chg h.th g (by simp), h.hR, h.hn, h.ne, Nat.le_trans h.hB g.size⟩
theorem NBlk.out {w wr : World} {R nb B : Nat} {lf : Bool} {ka : Option Addr} {kc : Nat} {va : Option Addr} {vc : Nat} {K V : List Nat} (h : NBlk wr R nb B lf ka kc va vc K V) (hb : w.heap.size ≤ B) (x y z : Value) : NOut w.heap.size lf K V (.returned (.agg #[.bool lf, .slice ka K.length kc, .slice va V.length vc])) (((wr.setCell ⟨R, 0, none⟩ x).setCell ⟨R, 1, none⟩ y).setCell ⟨R, 2, none⟩ z) := by
  have g := three_chg wr R x y z
  exact ⟨ka, kc, va, vc, rfl, ((show RmN wr B ka kc va vc K V from ⟨h.rk, h.rv, h.dj⟩).chg g (fun q hq => by simp at hq; have := h.hR; omega)).mono hb⟩
end Go.Proofs.YtdgkbicelnnfpaaGreatDoor

/- A region that draws its order and makes memory (calls, variables) wherever it likes, and whose stores come last, each behind all others: one goal, by what holds of each slot. No program is named here. -/
namespace Go.Proofs.YtdgkbicelnnfpaaGreatDoor
open Go.RowKit
set_option linter.unusedVariables false
set_option linter.unusedSimpArgs false

/-- Values put into their slots. -/
def putAll : List Oper → Nat → (Nat → Value) → Act → Act
  | [], _, _, a => a
  | o :: l, k, v, a => putAll l (k + 1) v (a.put o.dst (v k))
theorem put_same (a : Act) (d : Option Tmp) (x y : Value) : (a.put d x).put d y = a.put d y := by
  cases d with
  | none => rfl
  | some d => simp [Act.put]
theorem put_swap (a : Act) {d e : Option Tmp} (h : d ≠ e) (x y : Value) : (a.put d x).put e y = (a.put e y).put d x := by
  cases d with
  | none => cases e <;> rfl
  | some d => cases e with
    | none => rfl
    | some e =>
      have hne : d ≠ e := fun he => h (by rw [he])
      simp only [Act.put]
      rw [Array.setIfInBounds_comm _ _ hne]
theorem putAll_congr {v v' : Nat → Value} : ∀ {l : List Oper} {k : Nat} {a : Act}, (∀ j, k ≤ j → v j = v' j) → putAll l k v a = putAll l k v' a
  | [], _, _, _ => rfl
  | o :: l, k, a, h => by
    unfold putAll
    rw [h k (Nat.le_refl _)]
    exact putAll_congr fun j hj => h j (by omega)
theorem putAll_put {v : Nat → Value} {d : Option Tmp} (x : Value) : ∀ {l : List Oper} {k : Nat} {a : Act}, (∀ o ∈ l, o.dst ≠ d) → (putAll l k v a).put d x = putAll l k v (a.put d x)
  | [], _, _, _ => rfl
  | o :: l, k, a, h => by
    unfold putAll
    rw [putAll_put x fun o' ho => h o' (List.mem_cons_of_mem _ ho), put_swap _ (h o (List.mem_cons_self ..))]
theorem putAll_set {v : Nat → Value} (x : Value) : ∀ {l : List Oper} {k i : Nat} {o : Oper} {a : Act}, (l.map (·.dst)).Nodup → l[i]? = some o → (putAll l k v a).put o.dst x = putAll l k (updK v (k + i) x) a
  | [], _, _, _, _, _, h => by simp at h
  | o' :: l, k, 0, o, a, hn, h => by
    simp at h
    subst h
    unfold putAll
    simp only [List.map_cons, List.nodup_cons] at hn
    rw [putAll_put x fun p hp he => hn.1 (List.mem_map.2 ⟨p, hp, he⟩), put_same]
    simp only [Nat.add_zero, upd_same]
    exact putAll_congr fun j hj => (upd_other v x (by omega)).symm
  | o' :: l, k, i + 1, o, a, hn, h => by
    simp only [List.getElem?_cons_succ] at h
    simp only [List.map_cons, List.nodup_cons] at hn
    unfold putAll
    have hu := upd_other v (k := k + (i + 1)) x (show k ≠ k + (i + 1) by omega)
    rw [putAll_set x hn.2 h, show k + 1 + i = k + (i + 1) by omega, hu]
/-- What stands in an operation's slot. -/
def slotOf (a : Act) (o : Oper) : Value := match o.dst with
  | some d => a.tmps.getD d undef
  | none => undef
theorem put_slot (a : Act) (o : Oper) : a.put o.dst (slotOf a o) = a := by
  unfold slotOf
  cases o.dst with
  | none => rfl
  | some d =>
    simp only [Act.put]
    by_cases hd : d < a.tmps.size
    · have : a.tmps.setIfInBounds d (a.tmps.getD d undef) = a.tmps := by
        apply Array.ext
        · simp
        · intro i h1 h2
          rw [Array.getElem_setIfInBounds]
          split
          · rename_i he
            subst he
            simp [Array.getD, hd]
          · rfl
      rw [this]
    · rw [Array.setIfInBounds_eq_of_size_le (Nat.le_of_not_lt hd)]
def slots (a : Act) (l : List Oper) (i : Nat) : Value := ((l[i]?).map (slotOf a)).getD undef
theorem putAll_slots (a : Act) (v : Nat → Value) : ∀ {l : List Oper} {k : Nat}, (∀ i o, l[i]? = some o → v (k + i) = slotOf a o) → putAll l k v a = a
  | [], _, _ => rfl
  | o :: l, k, h => by
    unfold putAll
    rw [show v k = slotOf a o from h 0 o rfl, put_slot]
    exact putAll_slots a v fun i o' ho => by rw [show k + 1 + i = k + (i + 1) by omega]; exact h (i + 1) o' (by simpa using ho)

theorem nodup_len : ∀ {l L : List Nat}, l.Nodup → (∀ x ∈ l, x ∈ L) → l.length ≤ L.length
  | [], L, _, _ => Nat.zero_le _
  | x :: l, L, hn, h => by
    have hx := h x (by simp)
    have h1 := nodup_len (L := L.erase x) (List.nodup_cons.1 hn).2 (fun y hy => (List.mem_erase_of_ne (fun e : y = x => (List.nodup_cons.1 hn).1 (by rw [← e]; exact hy))).2 (h y (by simp [hy])))
    have h2 := List.length_erase_of_mem hx
    have h3 := List.length_pos_of_mem hx
    simp
    omega
/-- What holds of a slot's value: the value, the first block that its operation made, the first one behind them, the world. -/
abbrev Pr := Value → Nat → Nat → World → Prop
def Keeps (p : Pr) : Prop := ∀ x lo hi u u', Chg [] u u' → p x lo hi u → p x lo hi u'
def prAt (l : List Pr) (i : Nat) : Pr := l.getD i fun _ _ _ _ => True
def AllKeep : List Pr → Prop
  | [] => True
  | p :: l => Keeps p ∧ AllKeep l
theorem AllKeep.get : ∀ {l : List Pr}, AllKeep l → ∀ i, Keeps (prAt l i)
  | [], _, i => fun _ _ _ _ _ _ _ => by simp [prAt]
  | p :: l, h, 0 => h.1
  | p :: l, h, i + 1 => AllKeep.get h.2 i
section
variable {P : Program} {ops : Array Oper} {Q : Exit → Act → World → Prop}
def MadeIs (P : Program) (Q : Exit → Act → World → Prop) (w0 : World) (l : List Pr) (fr : (Nat → Value) → Act) (i : Nat) (o : Oper) : Prop :=
  ∀ v w, Chg [] w0 w → (∀ e ∈ o.after.toList, Region.binds .any e = true → ∃ lo hi, prAt l e.on (v e.on) lo hi w) → ∀ K : Act → World → Prop, Hid (∀ x u, Chg [] w u → prAt l i x w.heap.size u.heap.size u → K ((fr v).put o.dst x) u) → Oper.wp P o (fr v) w K Q
def MadeFrom (P : Program) (Q : Exit → Act → World → Prop) (w0 : World) (l : List Pr) (fr : (Nat → Value) → Act) : Nat → List Oper → Prop
  | _, [] => True
  | k, o :: r => MadeIs P Q w0 l fr k o ∧ MadeFrom P Q w0 l fr (k + 1) r
theorem made_get {w0 : World} {l : List Pr} {fr : (Nat → Value) → Act} : ∀ {r : List Oper} {k : Nat}, MadeFrom P Q w0 l fr k r → ∀ {i : Nat} {o : Oper}, r[i]? = some o → MadeIs P Q w0 l fr (k + i) o
  | [], _, _, _, _, h => by simp at h
  | a :: r, k, hs, 0, o, h => by simp at h; subst h; exact hs.1
  | a :: r, k, hs, i + 1, o, h => by
    have := made_get hs.2 (i := i) (by simpa using h)
    rwa [show k + 1 + i = k + (i + 1) by omega] at this
/-- Number j waits for number i, through others or by itself. -/
def reach (ops : Array Oper) : Nat → Nat → Nat → Bool
  | 0, _, _ => false
  | f + 1, j, i => ((ops[j]?).map fun o => (o.after.any fun e => Region.binds .any e && decide (e.on = i)) || (o.after.any fun e => Region.binds .any e && reach ops f e.on i)).getD false
/-- What is done has what it waits for done. -/
def Closed (ops : Array Oper) (done : Array Bool) : Prop := ∀ j o, ops[j]? = some o → done.getD j false = true → ∀ e ∈ o.after, Region.binds .any e = true → done.getD e.on false = true
theorem reach_done {done : Array Bool} (hc : Closed ops done) : ∀ (f j : Nat) (o : Oper) (i : Nat), ops[j]? = some o → (∀ e ∈ o.after, Region.binds .any e = true → done.getD e.on false = true) → reach ops f j i = true → done.getD i false = true
  | 0, _, _, _, _, _, h => by simp [reach] at h
  | f + 1, j, o, i, ho, hd, h => by
    unfold reach at h
    simp only [ho, Option.map_some, Option.getD_some, Bool.or_eq_true] at h
    rcases h with h | h
    · rw [Array.any_eq_true] at h
      obtain ⟨k, hk, h3⟩ := h
      simp only [Bool.and_eq_true, decide_eq_true_eq] at h3
      have := hd _ (Array.getElem_mem hk) h3.1
      rwa [h3.2] at this
    · rw [Array.any_eq_true] at h
      obtain ⟨k, hk, h3⟩ := h
      simp only [Bool.and_eq_true] at h3
      have hdn := hd _ (Array.getElem_mem hk) h3.1
      cases ho2 : ops[(o.after[k]).on]? with
      | none =>
        cases f with
        | zero => simp [reach] at h3
        | succ f => have h4 := h3.2; unfold reach at h4; simp [ho2] at h4
      | some o2 => exact reach_done hc f _ o2 i ho2 (hc _ o2 ho2 hdn) h3.2
theorem Closed.set {done : Array Bool} (hc : Closed ops done) {i : Nat} {o : Oper} (hi : i < done.size) (ho : ops[i]? = some o) (hd : ∀ e ∈ o.after, Region.binds .any e = true → done.getD e.on false = true) : Closed ops (done.setIfInBounds i true) := by
  intro j oj hoj hj e he hb
  by_cases hei : e.on = i
  · rw [hei]; simp [hi]
  · rw [getD_set_ne false (Ne.symm hei)]
    by_cases hji : j = i
    · subst hji
      cases ho.symm.trans hoj
      exact hd e he hb
    · rw [getD_set_ne false (Ne.symm hji)] at hj
      exact hc j oj hoj hj e he hb
/-- The last ones wait for all ahead of them. -/
def lastB (ops : Array Oper) (m : Nat) : Bool := (List.range ops.size).all fun j => decide (j < m) || (List.range j).all fun i => reach ops 6 j i
theorem lastB_spec {m : Nat} (h : lastB ops m = true) {j : Nat} {o : Oper} (ho : ops[j]? = some o) (hj : m ≤ j) : ∀ i, i < j → reach ops 6 j i = true := by
  intro i hi
  have hjs := (Array.getElem?_eq_some_iff.1 ho).1
  have h1 := List.all_eq_true.1 h j (List.mem_range.2 hjs)
  simp only [Bool.or_eq_true, decide_eq_true_eq] at h1
  rcases h1 with h1 | h1
  · omega
  · exact List.all_eq_true.1 h1 i (List.mem_range.2 hi)
/-- From number k on one behind the other. -/
theorem tail_list (hl : lowB ops = true) {m : Nat} (hb : lastB ops m = true) : ∀ (r : List Oper) (k n : Nat) (done : Array Bool) (a : Act) (w : World), m ≤ k → ops.toList.drop k = r → r.length ≤ n → done.size = ops.size → Closed ops done → (∀ j, j < k → done.getD j false = true) → (∀ j, k ≤ j → j < ops.size → done.getD j false = false) → wpList P ops Q r a w → wpAny P .any ops Q n done a w := by
  intro r
  induction r with
  | nil =>
    intro k n done a w hk hr hn hz hc h1 h2 h
    have hks : ops.size ≤ k := by
      have := congrArg List.length hr
      simp at this
      omega
    have hnone : ∀ i, i ∉ Region.ready .any ops done := fun i hi => by
      obtain ⟨h3, o, ho, _⟩ := mem_ready.1 hi
      have := h1 i (Nat.lt_of_lt_of_le (Array.getElem?_eq_some_iff.1 ho).1 hks)
      rw [getD_both h3] at this
      cases this
    cases n with
    | zero => exact ⟨List.eq_nil_iff_forall_not_mem.2 hnone, h⟩
    | succ n => exact ⟨fun _ => h, fun i hi => absurd hi (hnone i)⟩
  | cons o r ih =>
    intro k n done a w hk hr hn hz hc h1 h2 h
    have hks : k < ops.size := by
      have := congrArg List.length hr
      simp at this
      omega
    have hok : ops[k]? = some o := by
      have := congrArg (·[0]?) hr
      simpa using this
    have hdr : ops.toList.drop (k + 1) = r := by
      have := congrArg List.tail hr
      simpa using this
    obtain ⟨n, rfl⟩ : ∃ n', n = n' + 1 := ⟨n - 1, by simp at hn; omega⟩
    have hin : k ∈ Region.ready .any ops done := mem_ready.2 ⟨getD_in (by omega) (h2 k (Nat.le_refl _) hks), o, hok, fun e he hb' => h1 _ ((lowB_spec hl hok).2 e he)⟩
    refine ⟨fun h0 => absurd hin (by rw [h0]; simp), fun i hi => ?_⟩
    obtain ⟨h3, o', ho', hd⟩ := mem_ready.1 hi
    have his := (Array.getElem?_eq_some_iff.1 ho').1
    have hge : k ≤ i := by
      rcases Nat.lt_or_ge i k with hlt | hge
      · have := h1 i hlt
        rw [getD_both h3] at this
        cases this
      · exact hge
    have hik : i = k := by
      rcases Nat.lt_or_ge k i with hlt | hge'
      · have := reach_done hc 6 i o' k ho' hd (lastB_spec hb ho' (by omega) k hlt)
        rw [h2 k (Nat.le_refl _) hks] at this
        cases this
      · omega
    subst hik
    cases hok.symm.trans ho'
    have next : ∀ b u, wpList P ops Q r b u → wpAny P .any ops Q n (done.setIfInBounds i true) b u := fun b u hw =>
      ih (i + 1) n _ b u (by omega) hdr (by simp at hn; omega) (by simpa using hz) (hc.set (by omega) hok hd) (fun j hj => by
        by_cases hji : j = i
        · subst hji; simp [hz, hks]
        · rw [getD_set_ne false (Ne.symm hji)]; exact h1 j (by omega)) (fun j hj hjs => by
        rw [getD_set_ne false (by omega)]; exact h2 j (by omega) hjs) hw
    unfold wpOp
    simp only [hok]
    have h' : (if Region.wanted o (yielded ops a.tmps) = true then o.wp P a w (wpList P ops Q r) Q ∨ (o.asks P a w ∧ LetsOut Q) else wpList P ops Q r (a.put o.dst undef) w) := h
    split at h'
    · rename_i hw
      rw [if_pos hw]
      rcases h' with h' | h'
      · exact Or.inl (Oper.wp_mono next h')
      · exact Or.inr h'
    · rename_i hw
      rw [if_neg hw]
      exact next _ _ h'
/-- The region. -/
theorem region_made {id : Nat} {a : Act} {w : World} (m : Nat) (l : List Pr) (hm : P.follows .mixedOrders = true) (hl : lowB ops = true) (hb : lastB ops m = true) (hms : m ≤ ops.size) (hnd : ((ops.toList.take m).map (·.dst)).Nodup) (hk : AllKeep l)
    (hs : MadeFrom P Q w.drew l (fun v => putAll (ops.toList.take m) 0 v a) 0 (ops.toList.take m))
    (fin : ∀ (v : Nat → Value) (u : World) (lo hi : Nat → Nat), Chg [] w.drew u → (∀ i, i < m → prAt l i (v i) (lo i) (hi i) u) → (∀ i, i < m → w.heap.size ≤ lo i ∧ hi i ≤ u.heap.size) → (∀ i j, i < m → j < m → i ≠ j → hi i ≤ lo j ∨ hi j ≤ lo i) → wpList P ops Q (ops.toList.drop m) (putAll (ops.toList.take m) 0 v a) u) : (Code.region id ops true).wp P Q a w := by
  have key : ∀ (n : Nat) (done : Array Bool) (v : Nat → Value) (u : World), done.size = ops.size → Closed ops done → (∃ L : List Nat, L.length ≤ n ∧ ∀ j, j < ops.size → done.getD j false = false → j ∈ L) → (∀ j, m ≤ j → j < ops.size → done.getD j false = false) → Chg [] w.drew u →
      (∃ lo hi : Nat → Nat, (∀ i, i < m → done.getD i false = true → prAt l i (v i) (lo i) (hi i) u ∧ w.heap.size ≤ lo i ∧ hi i ≤ u.heap.size) ∧ ∀ i j, i < m → j < m → done.getD i false = true → done.getD j false = true → i ≠ j → hi i ≤ lo j ∨ hi j ≤ lo i) → wpAny P .any ops Q n done (putAll (ops.toList.take m) 0 v a) u := by
    intro n
    induction n with
    | zero =>
      rintro done v u hz hc ⟨L, hL, hLm⟩ htl hg ⟨lo, hi, hA, hD⟩
      have hL0 : L = [] := List.eq_nil_of_length_eq_zero (by omega)
      subst hL0
      have hall : ∀ j, j < ops.size → done.getD j false = true := fun j hj => by
        cases hd : done.getD j false with
        | true => rfl
        | false => exact absurd (hLm j hj hd) (by simp)
      have hmz : m = ops.size := by
        rcases Nat.lt_or_ge m ops.size with h | h
        · have h1 := hall m h
          rw [htl m (Nat.le_refl _) h] at h1
          cases h1
        · omega
      exact tail_list hl hb _ m 0 done _ u (Nat.le_refl _) rfl (by simp; omega) hz hc (fun j hj => hall j (by omega)) htl (fin v u lo hi hg (fun i hi' => (hA i hi' (hall i (by omega))).1) (fun i hi' => (hA i hi' (hall i (by omega))).2) fun i j hi' hj' hne => hD i j hi' hj' (hall i (by omega)) (hall j (by omega)) hne)
    | succ n ih =>
      rintro done v u hz hc ⟨L, hL, hLm⟩ htl hg ⟨lo, hi, hA, hD⟩
      by_cases hall : ∀ j, j < m → done.getD j false = true
      · refine tail_list hl hb _ m (n + 1) done _ u (Nat.le_refl _) rfl ?_ hz hc hall htl (fin v u lo hi hg (fun i hi' => (hA i hi' (hall i hi')).1) (fun i hi' => (hA i hi' (hall i hi')).2) fun i j hi' hj' hne => hD i j hi' hj' (hall i hi') (hall j hj') hne)
        have h3 := nodup_len (l := List.range' m (ops.size - m)) (L := L) (List.nodup_range' ..) (fun j hj => by
          simp only [List.mem_range'_1] at hj
          exact hLm j (by omega) (htl j hj.1 (by omega)))
        simp at h3
        simp
        omega
      · refine ⟨fun hr => absurd (fun j hj => ready_none hl hz hr j (by omega)) hall, fun i hir => ?_⟩
        obtain ⟨h1, o, ho, hd⟩ := mem_ready.1 hir
        have hio := (Array.getElem?_eq_some_iff.1 ho).1
        have him : i < m := by
          rcases Nat.lt_or_ge i m with h | h
          · exact h
          · exact absurd (fun j hj => reach_done hc 6 i o j ho hd (lastB_spec hb ho h j (by omega))) hall
        have hoi : (ops.toList.take m)[i]? = some o := by rw [List.getElem?_take, if_pos him]; simpa using ho
        have hst := made_get hs hoi
        rw [Nat.zero_add] at hst
        have hw := hst v u hg (fun e he hbd => by
          have he' : e ∈ o.after := by simpa using he
          have hlt : e.on < m := Nat.lt_trans ((lowB_spec hl ho).2 e he') him
          exact ⟨lo e.on, hi e.on, (hA e.on hlt (hd e he' hbd)).1⟩) (wpAny P .any ops Q n (done.setIfInBounds i true)) (fun x u' hgu hx => by
          have hput := putAll_set (v := v) (k := 0) (a := a) x hnd hoi
          rw [Nat.zero_add] at hput
          rw [hput]
          refine ih _ _ u' (by simpa using hz) (hc.set (by omega) ho hd) ⟨L.erase i, by
            have := List.length_erase_of_mem (hLm i hio (getD_both h1)); have := List.length_pos_of_mem (hLm i hio (getD_both h1)); omega, fun j hj hdj => by
            have hji : j ≠ i := fun e => by subst e; simp [hz, hio] at hdj
            rw [getD_set_ne false (Ne.symm hji)] at hdj
            exact (List.mem_erase_of_ne hji).2 (hLm j hj hdj)⟩ (fun j hj hjs => by rw [getD_set_ne false (by omega)]; exact htl j hj hjs) (hg.then hgu)
            ⟨fun j => if j = i then u.heap.size else lo j, fun j => if j = i then u'.heap.size else hi j, fun j hj hdj => ?_, fun j k hj hk' hdj hdk hne => ?_⟩
          · by_cases hji : j = i
            · subst hji
              simp only [if_pos rfl]
              rw [upd_same]
              exact ⟨hx, hg.size, Nat.le_refl _⟩
            · simp only [if_neg hji]
              rw [getD_set_ne false (Ne.symm hji)] at hdj
              rw [upd_other v x hji]
              obtain ⟨q1, q2, q3⟩ := hA j hj hdj
              exact ⟨hk.get j _ _ _ _ _ hgu q1, q2, Nat.le_trans q3 hgu.size⟩
          · by_cases hji : j = i
            · by_cases hki : k = i
              · exact absurd (hji.trans hki.symm) hne
              · simp only [if_pos hji, if_neg hki]
                rw [getD_set_ne false (Ne.symm hki)] at hdk
                exact Or.inr (hA k hk' hdk).2.2
            · by_cases hki : k = i
              · simp only [if_neg hji, if_pos hki]
                rw [getD_set_ne false (Ne.symm hji)] at hdj
                exact Or.inl (hA j hj hdj).2.2
              · simp only [if_neg hji, if_neg hki]
                rw [getD_set_ne false (Ne.symm hji)] at hdj
                rw [getD_set_ne false (Ne.symm hki)] at hdk
                exact hD j k hj hk' hdj hdk hne)
        unfold wpOp
        simp only [ho]
        rw [if_pos (by simp [Region.wanted, (lowB_spec hl ho).1])]
        exact Or.inl hw
  have h0 := key ops.size (Array.replicate ops.size false) (slots a (ops.toList.take m)) w.drew (by simp) (fun j o _ hj => (by rw [getD_replicate_false] at hj; cases hj)) ⟨List.range ops.size, by simp, fun j hj _ => List.mem_range.2 hj⟩ (fun j _ _ => getD_replicate_false _ _) (Chg.refl _ _)
    ⟨fun _ => 0, fun _ => 0, fun i _ h => (by rw [getD_replicate_false] at h; cases h), fun i j _ _ h _ _ => (by rw [getD_replicate_false] at h; cases h)⟩
  rw [putAll_slots a (slots a (ops.toList.take m)) (fun i o ho => by simp [slots, ho])] at h0
  exact wp_region_any hm h0
end
end Go.Proofs.YtdgkbicelnnfpaaGreatDoor
