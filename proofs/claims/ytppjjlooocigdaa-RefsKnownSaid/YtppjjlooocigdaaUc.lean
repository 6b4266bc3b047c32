/- Refs: Alloc, Inc, Dec. -/
import Derived.Test.YtppjjlooocigdaaUb
namespace Go.Proofs.Ytppjjlooocigdaa
open Go.RowKit
set_option linter.unusedVariables false
set_option linter.unusedSimpArgs false
attribute [local go_sem ↓] Go.wp_at_zero Go.wp_at_succ

/-- What a call has made of Refs. -/
def RStep (w w' : World) (B rb nb cb sb : Nat) (Fs : List Nat) (n : Nat) (N C : List UInt8) : Prop := ∃ Fs', RfsAt w' B rb nb cb sb Fs' n N C ∧ Chg (rb :: nb :: cb :: Fs) w w' ∧ ∀ k, k ∈ Fs' → k ∈ Fs ∨ w.heap.size ≤ k
section
variable {w w1 w2 : World} {B rb nb cb sb : Nat} {Fs : List Nat} {n : Nat} {N C : List UInt8}
theorem RStep.refl (h : RfsAt w B rb nb cb sb Fs n N C) : RStep w w B rb nb cb sb Fs n N C := ⟨Fs, h, Chg.refl _ _, fun _ h => Or.inl h⟩
/-- A count was written, then the space went a step. -/
theorem RfsAt.count (h : RfsAt w B rb nb cb sb Fs n N C) (x : Nat) (hx : x < n) (v : UInt8) (k : Int) (hk : (v.toNat : Int) = k) (st : SpAt (w.setCell ⟨nb, x, none⟩ (.int .u8 k)) B sb Fs (freeI N C) → Step (w.setCell ⟨nb, x, none⟩ (.int .u8 k)) w2 B sb Fs (freeI (N.set x v) C)) : RStep w w2 B rb nb cb sb Fs n (N.set x v) C := by
  subst hk
  have g1 := Chg.setCell w ⟨nb, x, none⟩ (.int .u8 (v.toNat : Int))
  have hs := h.rn.set x hx (.int .u8 (v8 v))
  rw [Nat.zero_add, bts_set] at hs
  have hs1 : Room (w.setCell ⟨nb, x, none⟩ (.int .u8 (v.toNat : Int))) B (some ⟨nb, 0, none⟩) n n (bts (N.set x v)) := hs
  clear hs
  obtain ⟨Fs', h1, h2, h3⟩ := st (h.sp.chg g1 (fun k hk hm => by simp at hm; subst hm; exact h.d5 hk))
  have hz : (w.setCell ⟨nb, x, none⟩ (.int .u8 (v.toNat : Int))).heap.size = w.heap.size := by simp
  rw [hz] at h3
  have g : Chg (nb :: Fs) w w2 := g1.trans h2 (fun k hk _ => by simp at hk; simp [hk]) (fun k hk _ => by simp [hk])
  have hn : ∀ k, k < w.heap.size → k ∉ Fs → k ∉ Fs' := fun k h4 h5 h6 => (h3 k h6).elim h5 (fun h7 => by omega)
  have e1 : rb ∉ nb :: Fs := by simp; exact ⟨h.d1, h.d4⟩
  have e2 : cb ∉ nb :: Fs := by simp; exact ⟨fun e => h.d3 e.symm, h.d6⟩
  refine ⟨Fs', ⟨g.cellv h.c0 e1, g.cellv h.c1 e1, g.cellv h.c2 e1, fun j => (g.frozen (p := ⟨rb, j, none⟩) (show rb < w.heap.size from h.ltr) e1).trans (h.fz j),
    hs1.chg h2 (fun k hk => by rw [fp_some _ _ _ h.n0] at hk; simp at hk; subst hk; exact h.d5), h.rc.chg g (fun k hk => by rw [fp_some _ _ _ h.n0] at hk; simp at hk; subst hk; exact e2), h1, h.n0, h.nn, h.rB, h.d1, h.d2, h.d3, hn _ h.ltr h.d4, hn _ h.ltn.2 h.d5, hn _ h.ltc.2 h.d6⟩,
    g.mono (fun k hk _ => by simp at hk; simp; rcases hk with hk | hk <;> simp [hk]), h3⟩
end
theorem u8_succ {a : UInt8} {m : Nat} (h : a.toNat = m) (hm : m < 255) : (((a + 1).toNat : Nat) : Int) = (m : Int) + 1 := by
  rw [UInt8.toNat_add, h]
  have : (1 : UInt8).toNat = 1 := rfl
  rw [this]
  omega
theorem u8_pred {a : UInt8} {m : Nat} (h : a.toNat = m) (hm : 0 < m) : (((a - 1).toNat : Nat) : Int) = (m : Int) - 1 := by
  have h1 := a.toNat_lt
  rw [UInt8.toNat_sub]
  have : (1 : UInt8).toNat = 1 := rfl
  rw [this, h]
  omega
section
variable (B rb nb cb sb : Nat) (Fs : List Nat) (n : Nat) (N C : List UInt8) (w : World) (h : RfsAt w B rb nb cb sb Fs n N C)
include h
theorem rmore_full (x : Nat) (hx : x < n) (a : UInt8) (ha : N[x]? = some a) (hm : a.toNat = 255) : Calls Try.prog 38 #[.pointer (some ⟨rb, 0, none⟩), .int .i64 (x : Int)] w fun e w' => e = .returned (.int .i64 8) ∧ w = w' := by
  have c0 := h.c0
  have ci := h.rn.read ha hm
  rw [Nat.zero_add] at ci
  clear ha hm
  go_enter Try.func38, Try.ntmps38
  go_wp2
  go_ret
  exact ⟨rfl, rfl⟩
theorem rmore_any (x : Nat) (hx : x < n) (a : UInt8) (m : Nat) (ha : N[x]? = some a) (hm : a.toNat = m) (h0 : 0 < m) (hm2 : m < 255) : Calls Try.prog 38 #[.pointer (some ⟨rb, 0, none⟩), .int .i64 (x : Int)] w fun e w' => e = .returned (.int .i64 0) ∧ RStep w w' B rb nb cb sb Fs n (N.set x (a + 1)) C := by
  have c0 := h.c0
  have ci := h.rn.read ha hm
  have hfz := h.rn.cell x hx
  rw [Nat.zero_add] at ci hfz
  have hne : ((m : Int) == 255) = false := beq_eq_false_iff_ne.2 (by omega)
  have hne2 : (m == 255) = false := beq_eq_false_iff_ne.2 (by omega)
  have hpost : RStep w (w.setCell ⟨nb, x, none⟩ (.int .u8 ((m : Int) + 1))) B rb nb cb sb Fs n (N.set x (a + 1)) C := by
    refine h.count x hx (a + 1) _ (u8_succ hm hm2) (fun hs => ?_)
    obtain ⟨b, hb⟩ : ∃ b, C[x]? = some b := ⟨_, List.getElem?_eq_getElem (by rw [h.lC]; exact hx)⟩
    have e : freeI (N.set x (a + 1)) C = freeI N C := by
      rw [freeI_set ha hb]
      refine bool_set_same ?_
      rw [freeI_get ha hb]
      have e1 : (a == 0) = false := by simpa using fun e => by have := (u8_nat hm 0).1 e; simp at this; omega
      have e2 : (a + 1 == 0) = false := by
        have := u8_succ hm hm2
        simpa using fun e => by rw [e] at this; simp at this; omega
      rw [e1, e2]
    rw [e]
    exact Step.refl hs
  have HP := mkHid hpost
  clear ha hm hpost
  go_enter Try.func38, Try.ntmps38
  go_wp2
  go_ret
  exact ⟨rfl, HP.out⟩
theorem rless_any (x : Nat) (hx : x < n) (a : UInt8) (m : Nat) (ha : N[x]? = some a) (hm : a.toNat = m) (h0 : 0 < m) : Calls Try.prog 40 #[.pointer (some ⟨rb, 0, none⟩), .int .i64 (x : Int)] w fun e w' => e = .returned (.int .i64 0) ∧ RStep w w' B rb nb cb sb Fs n (N.set x (a - 1)) C := by
  have hd1 : rb ≠ nb := h.d1
  have hd3 : cb ≠ nb := fun e => h.d3 e.symm
  obtain ⟨b, k, hb, hk, hk2⟩ := byte_at h.lC hx
  have ci := h.rn.read ha hm
  have cj := h.rc.read hb hk
  have hfz := h.rn.cell x hx
  rw [Nat.zero_add] at ci hfz cj
  have g1 := Chg.setCell w ⟨nb, x, none⟩ (.int .u8 ((m : Int) - 1))
  have c0 := h.c0
  have e1 : (a == 0) = false := by simpa using fun e => by have := (u8_nat hm 0).1 e; simp at this; omega
  have hfa := freeI_get ha hb
  rw [e1, Bool.false_and] at hfa
  have hbound : m ≤ 255 := by have := a.toNat_lt; omega
  have hcount := fun (w2 : World) => h.count (w2 := w2) x hx (a - 1) _ (u8_pred hm h0)
  rw [freeI_set ha hb] at hcount
  have hsp := h.sp.chg g1 (fun q hq hq2 => by simp at hq2; subst hq2; exact h.d5 hq)
  have ci2 : (w.setCell ⟨nb, x, none⟩ (.int .u8 ((m : Int) - 1))).cell? ⟨nb, x, none⟩ = some (.int .u8 ((m : Int) - 1)) := World.cell?_setCell_same _ _ _ ci
  have c02 := g1.cellv c0 (by simpa using hd1)
  have c12 := g1.cellv h.c1 (by simpa using hd1)
  have c22 := g1.cellv h.c2 (by simpa using hd1)
  have cj2 := g1.cellv cj (by simpa using hd3)
  by_cases hz : m = 1 ∧ k = 0
  · obtain ⟨hm1, hk0⟩ := hz
    have e2 : (a - 1 == 0 && b == 0) = true := by
      have h1 := u8_pred hm h0
      have h2 : a - 1 = 0 := UInt8.toNat_inj.1 (by show (a - 1).toNat = 0; omega)
      have h3 : b = 0 := (u8_nat hk 0).2 hk0
      rw [h2, h3]; rfl
    rw [e2] at hcount
    have cG := give_any (x : Int) B sb Fs _ _ hsp
    have e3 : giveN (freeI N C) (x : Int) = (0, (freeI N C).set x true) := by
      have hl := freeI_len h.lN h.lC
      unfold giveN
      rw [if_neg (by omega), Int.toNat_natCast, hfa, if_neg (by simp)]
    rw [e3] at cG
    have hq : ((m : Int) - 1 == 0) = true := by simp; omega
    have hq2 : ((m : Int) == 1) = true := by simp; omega
    have hq3 : ((k : Int) == 0) = true := by simp; omega
    have hq4 : (k == 0) = true := by simp; omega
    have hmle : 1 ≤ m := h0
    clear hm1 hk0
    have HC := mkHid hcount
    clear ha hm hb hk hcount e1 e2 e3 hfa hsp
    generalize (freeI N C).set x true = I2 at *
    go_enter Try.func40, Try.ntmps40
    go_wp2_with (first | (go_at_call 51; refine cG.mono ?_; rintro e w2 ⟨rfl, hs⟩))
    go_ret
    exact ⟨rfl, HC.out _ (fun _ => hs)⟩
  · have e2 : (a - 1 == 0 && b == 0) = false := by
      have h1 := u8_pred hm h0
      rw [Bool.and_eq_false_iff]
      by_cases hm1 : m = 1
      · right
        simpa using fun e => hz ⟨hm1, by have := (u8_nat hk 0).1 e; simpa using this⟩
      · left
        simpa using fun e => by rw [e] at h1; simp at h1; omega
    rw [e2, bool_set_same hfa] at hcount
    have hpost := hcount _ (fun hs => Step.refl hs)
    have HP := mkHid hpost
    have hB : ((m : Int) - 1 == 0) = decide (m = 1) := by rw [Bool.eq_iff_iff]; simp; omega
    by_cases hm1 : m = 1
    · have hk0 : ((k : Int) == 0) = false := beq_eq_false_iff_ne.2 (by omega)
      have hk1 : (k == 0) = false := beq_eq_false_iff_ne.2 (by omega)
      have hq : ((m : Int) - 1 == 0) = true := by simp; omega
      have hq2 : ((m : Int) == 1) = true := by simp; omega
      clear ha hm hb hk hcount e1 e2 hfa hsp hpost hz hB hm1
      go_enter Try.func40, Try.ntmps40
      go_wp2
      go_ret
      exact ⟨rfl, HP.out⟩
    · have hq : ((m : Int) - 1 == 0) = false := beq_eq_false_iff_ne.2 (by omega)
      have hq2 : ((m : Int) == 1) = false := beq_eq_false_iff_ne.2 (by omega)
      clear ha hm hb hk hcount e1 e2 hfa hsp hpost hz hB
      go_enter Try.func40, Try.ntmps40
      go_wp2
      go_ret
      exact ⟨rfl, HP.out⟩
end
end Go.Proofs.Ytppjjlooocigdaa
