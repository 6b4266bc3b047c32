/- alike: Refs and the reference tell the same. -/
import Derived.Test.YtppjjlooocigdaaUo
namespace Go.Proofs.Ytppjjlooocigdaa
open Go.RowKit
set_option linter.unusedVariables false
set_option linter.unusedSimpArgs false
attribute [local go_sem ↓] Go.wp_at_zero Go.wp_at_succ

theorem cnt_neg (N : List UInt8) : cntN N (-1) = 0 := by unfold cntN isIn; simp
theorem cnt_end {N : List UInt8} {n : Nat} (h : N.length = n) : cntN N (n : Int) = 0 := by unfold cntN; rw [if_neg (by rw [isIn_no h (by omega)]; decide)]
theorem new_neg (N C : List UInt8) : newN N C (-1) = false := by unfold newN isIn; simp
theorem new_end {N C : List UInt8} {n : Nat} (h : N.length = n) : newN N C (n : Int) = false := by unfold newN; rw [isIn_no h (by omega)]; rfl
theorem cnt_at {N : List UInt8} {n x : Nat} {a : UInt8} {m : Nat} (h : N.length = n) (hx : x < n) (ha : N[x]? = some a) (hm : a.toNat = m) : cntN N (x : Int) = (m : Int) := by unfold cntN; rw [if_pos (isIn_yes h hx), at0_of ha, hm]
theorem new_at {N C : List UInt8} {n x : Nat} {a b : UInt8} (h : N.length = n) (hx : x < n) (ha : N[x]? = some a) (hb : C[x]? = some b) : newN N C (x : Int) = (a != 0 && b == 0) := by unfold newN; rw [isIn_yes h hx, at0_of ha, at0_of hb]; rfl
set_option maxRecDepth 20000 in
theorem alike_any (B rb nb cb sb : Nat) (Fs : List Nat) (n : Nat) (N C : List UInt8) (w : World) (h : RfsAt w B rb nb cb sb Fs n N C) (db b0 o0 k0 b1 o1 k1 b2 o2 k2 : Nat) (g : DAt w B db b0 o0 k0 b1 o1 k1 b2 o2 k2 n N C) :
    Calls Try.prog 23 #[.pointer (some ⟨rb, 0, none⟩), .pointer (some ⟨db, 0, none⟩)] w fun e w' => e = .returned (.bool true) ∧ Chg [] w w' := by
  have n0 := h.n0
  have nn := h.nn
  go_enter Try.func23, Try.ntmps23
  go_wp2_with fail
  refine (rcounts_any B rb nb cb sb Fs n N C w h).mono ?_
  rintro e w1 ⟨b, rfl, hb, hr, hg⟩
  have g1 : DAt w1 B db b0 o0 k0 b1 o1 k1 b2 o2 k2 n N C := g.chg hg (by simp)
  have x0 := g1.c0
  have cE := equal_any (some ⟨b, 0, none⟩) n n N (some ⟨b0, o0, none⟩) n k0 N w1 hr.reads h.lN g1.r0.reads h.lN
  rw [decide_eq_true rfl] at cE
  have cF := rfree_any B rb nb cb sb Fs n N C w1 (h.keep hg)
  have cG := dfreeno_any B db b0 o0 k0 b1 o1 k1 b2 o2 k2 n N C w1 g1
  have hle : (freeL (freeI N C)).length ≤ n := by have := freeL_le (freeI N C); rw [freeI_len h.lN h.lC] at this; exact this
  generalize (freeL (freeI N C)).length = q at *
  have v1 : ((q : Int) != (q : Int)) = false := by simp
  have v2 : (q != q) = false := by simp
  go_wp2_with (first | (go_at_call 28; refine cE.mono ?_; rintro e w2 ⟨rfl, rfl⟩) | (go_at_call 25; refine cF.mono ?_; rintro e w2 ⟨rfl, rfl⟩) | (go_at_call 43; refine cG.mono ?_; rintro e w2 ⟨rfl, rfl⟩))
  clear cE cF cG
  go_loopw [28] (fun v wr => ∃ (k : Nat) (xs : List UInt8), v = .int .i64 k ∧ k ≤ n ∧ Room wr w.heap.size (some ⟨b, 0, none⟩) n n (bts xs) ∧ Chg [b] w wr) (fun v _ => n - (intOf v).toNat)
  case atStart => exact ⟨0, N, rfl, Nat.zero_le _, hr, hg.mono (by simp)⟩
  case round =>
    clear hr x0 g1 v1 v2
    obtain ⟨k, xs, rfl, hk, hr, hg2⟩ := hrel
    have hR : RfsAt wr B rb nb cb sb Fs n N C := h.chg hg2 (fun p hp hm => by simp at hm; have := (h.lt p hp).2; omega)
    have hD : DAt wr B db b0 o0 k0 b1 o1 k1 b2 o2 k2 n N C := g.chg hg2 (fun p hp hm => by simp at hm; have := (g.lt p hp).2; omega)
    have x0 := hD.c0
    have x2 := hD.c2
    by_cases hlt : k < n
    · have hd : decide (k < n) = true := decide_eq_true hlt
      have hd2 : decide ((k : Int) < (n : Int)) = true := decide_eq_true (by omega)
      obtain ⟨a, m, ha, hm, hm2⟩ := byte_at h.lN hlt
      obtain ⟨a2, m2, ha2, hm3, hm4⟩ := byte_at h.lC hlt
      have y0 := hD.r0.read ha hm
      have y2 := hD.r2.reads.cell k _ (bvs_get (newL_get ha ha2))
      have cC := fun (u : World) (gu : Chg [] wr u) => rcount_any B rb nb cb sb Fs n N C u (hR.keep gu) (k : Int)
      have cN := fun (u : World) (gu : Chg [] wr u) => rfresh_any B rb nb cb sb Fs n N C u (hR.keep gu) (k : Int)
      rw [cnt_at h.lN hlt ha hm] at cC
      rw [new_at h.lN hlt ha ha2] at cN
      generalize (a != 0 && a2 == 0) = f at *
      have v1 : ((m : Int) != (m : Int)) = false := by simp
      have v2 : (m != m) = false := by simp
      have lx : xs.length = n := by have := hr.len; rwa [bts_length] at this
      obtain ⟨x, mx, hx, hmx, hmx2⟩ := byte_at lx hlt
      have z0 : wr.cell? ⟨b, k, none⟩ = some (.int .u8 (v8 x)) := by
        have := hr.reads.cell k _ (bts_at hx rfl)
        rw [Nat.zero_add] at this
        exact this
      have zf := hr.cell k hlt
      rw [Nat.zero_add] at zf
      have hxor : bits .xor .u8 (v8 x) 255 = v8 (x ^^^ 255) := x8 x 255
      have HM := mkHid hr
      have CC := mkHid cC
      have CN := mkHid cN
      clear ha hm ha2 hm3 hx hmx cC cN hr hR hD
      go_wp2_with fail
      go_quiet ((first | (go_at_call 29; exact Calls.quiet_of_same ((CC.out _ (by first | exact Chg.refl _ _ | exact Chg.drewN _ _)).mono fun _ _ h => ⟨h.1, h.2.symm⟩)) | (go_at_call 27; exact Calls.quiet_of_same ((CN.out _ (by first | exact Chg.refl _ _ | exact Chg.drewN _ _)).mono fun _ _ h => ⟨h.1, h.2.symm⟩))))
      have gq := Chg.drewN wr nq
      have hrq := HM.out.chg gq (by simp)
      have z1 := gq.cellv z0 (by simp)
      have zf1 := (gq.frozen (p := ⟨b, k, none⟩) (block_lt_of_cell z0) (by simp)).trans zf
      have hg3 := hg2.then gq
      clear z0 zf gq CC CN x0 x2 y0 y2 hg2
      generalize wr.drewN nq = wq at *
      have hset := hrq.set k hlt (.int .u8 (v8 (x ^^^ 255)))
      rw [bts_set, Nat.zero_add] at hset
      have hgs := Chg.setCell wq ⟨b, k, none⟩ (.int .u8 (v8 (x ^^^ 255)))
      have HS := mkHid hset
      clear hset hrq
      go_wp2_with fail
      exact ⟨⟨k + 1, _, by first | rfl | go_num, by omega, HS.out, hg3.trans hgs (fun _ h _ => h) (fun p hp _ => hp)⟩, by simp [intOf]; omega⟩
    · have hkn : k = n := by omega
      subst hkn
      have hd : decide (k < k) = false := by simp
      have e1 := rcount_any B rb nb cb sb Fs k N C wr hR (-1)
      have e2 := rcount_any B rb nb cb sb Fs k N C wr hR (k : Int)
      have e3 := rfresh_any B rb nb cb sb Fs k N C wr hR (-1)
      have e4 := rfresh_any B rb nb cb sb Fs k N C wr hR (k : Int)
      rw [cnt_neg] at e1
      rw [cnt_end h.lN] at e2
      rw [new_neg] at e3
      rw [new_end h.lN] at e4
      clear hr
      go_wp2_with fail
      refine e1.mono ?_
      rintro e w2 ⟨rfl, rfl⟩
      go_wp2_with fail
      refine e2.mono ?_
      rintro e w2 ⟨rfl, rfl⟩
      go_wp2_with fail
      refine e3.mono ?_
      rintro e w2 ⟨rfl, rfl⟩
      go_wp2_with fail
      refine e4.mono ?_
      rintro e w2 ⟨rfl, rfl⟩
      go_wp2_with fail
      go_ret
      exact ⟨rfl, (Chg.refl [] w).trans hg2 (by simp) (fun p hp hlt => by simp at hp; omega)⟩
theorem alike_has {B : Nat} {w : World} {tag : Nat → Nat} {i j rb db n : Nat} {N C : List UInt8} (h : HasR B w tag i rb n N C) (g : HasD B w tag j db n N C) :
    Calls Try.prog 23 #[.pointer (some ⟨rb, 0, none⟩), .pointer (some ⟨db, 0, none⟩)] w fun e w' => e = .returned (.bool true) ∧ Chg [] w w' := by
  obtain ⟨nb, cb, sb, Fs, h1, _⟩ := h
  obtain ⟨G, ⟨b0, o0, k0, b1, o1, k1, b2, o2, k2, g1, rfl⟩, _⟩ := g
  exact alike_any B rb nb cb sb Fs n N C w h1 db b0 o0 k0 b1 o1 k1 b2 o2 k2 g1
end Go.Proofs.Ytppjjlooocigdaa
