/- The law's own: a list of byte slices in memory of its own. -/
import Derived.Test.YtkfpkbmkmbnjcaaVg
namespace Go.Proofs.Ytkfpkbmkmbnjcaa
open Go.RowKit
set_option linter.unusedVariables false
set_option linter.unusedSimpArgs false
attribute [local go_sem ↓] Go.wp_at_zero Go.wp_at_succ

theorem RdPg.old {S : List Nat} {w w' : World} {ao : Option Addr} {ps : List (List UInt8)} (h : RdPg w ao ps) (g : Chg S w w') (hS : ∀ k, k ∈ S → w.heap.size ≤ k) : RdPg w' ao ps := by
  obtain ⟨vs, h1, h2, h3⟩ := h
  refine ⟨vs, h1, h2.old g hS, fun i p hp => ?_⟩
  obtain ⟨a, c, h4, h5, h6, h7⟩ := h3 i p hp
  exact ⟨a, c, h4, h5, h6, h7.old g hS⟩
/-- The first k of the slices ps are copied. -/
def Copied (w : World) (B : Nat) (ao : Option Addr) (k c : Nat) (ps : List (List UInt8)) : Prop := ∃ vs, Room w B ao k c vs ∧ (∀ u ∈ vs, u.oneCell' = true) ∧ ∀ (i : Nat) (p : List UInt8), i < k → ps[i]? = some p → ∃ a c', vs[i]? = some (.slice a p.length c') ∧ p.length ≤ c' ∧ p.length ≤ 140737488351232 ∧ Reads w a (bts p) ∧ (0 < p.length → ∀ q, q ∈ blk a → q ∉ fp ao c)
theorem Copied.start (w : World) (B : Nat) (ps : List (List UInt8)) : Copied w B none 0 0 ps := ⟨[], Room.nil _ _ _, by simp, fun i p h => by omega⟩
theorem Copied.read {w : World} {B : Nat} {ao : Option Addr} {c : Nat} {ps : List (List UInt8)} (h : Copied w B ao ps.length c ps) : RdPg w ao ps := by
  obtain ⟨vs, h1, _, h2⟩ := h
  refine ⟨vs, h1.len, h1.reads, fun i p hp => ?_⟩
  obtain ⟨a, c', h3, h4, h5, h6, _⟩ := h2 i p (List.getElem?_eq_some_iff.1 hp).1 hp
  exact ⟨a, c', h3, h4, h5, h6⟩
theorem Copied.snoc {w w1 w2 : World} {B : Nat} {ao : Option Addr} {k c : Nat} {ps : List (List UInt8)} (hB : B ≤ w.heap.size) {vs : List Value} (hr : Room w B ao k c vs) (h1 : ∀ u ∈ vs, u.oneCell' = true) (h2 : ∀ (i : Nat) (p : List UInt8), i < k → ps[i]? = some p → ∃ a c', vs[i]? = some (.slice a p.length c') ∧ p.length ≤ c' ∧ p.length ≤ 140737488351232 ∧ Reads w a (bts p) ∧ (0 < p.length → ∀ q, q ∈ blk a → q ∉ fp ao c))
    {p : List UInt8} (hp : ps[k]? = some p) (hpl : p.length ≤ 140737488351232) {a1 : Option Addr} {c1 : Nat} (g1 : Chg [] w w1) (hr1 : Room w1 w.heap.size a1 p.length c1 (bts p)) {a2 : Option Addr} {c2 : Nat} (hr2 : Room w2 B a2 (k + 1) c2 (vs ++ [.slice a1 p.length c1])) (g2 : Chg (fp ao c) w1 w2) (hf : fp a2 c2 = fp ao c ∨ ∃ q, w1.heap.size ≤ q ∧ fp a2 c2 = [q]) : Copied w2 B a2 (k + 1) c2 ps := by
  have hfp : ∀ q, q ∈ fp ao c → q < w.heap.size := fun q hq => (hr.lt q hq).2
  have hz := g1.size
  refine ⟨_, hr2, ?_, fun i q hi hq => ?_⟩
  · intro u hu
    rcases List.mem_append.1 hu with hu | hu
    · exact h1 u hu
    · simp at hu; subst hu; rfl
  · by_cases hik : i < k
    · obtain ⟨a, c', e1, e2, e3, e4, e5⟩ := h2 i q hik hq
      refine ⟨a, c', by rw [List.getElem?_append_left (by rw [hr.len]; exact hik)]; exact e1, e2, e3, (e4.keep g1).chg0 g2 (fun h0 => e5 (by rwa [bts_length] at h0)), fun h0 x hx hm => ?_⟩
      have hlt := e4.lt (by rw [bts_length]; exact h0) x hx
      rcases hf with e | ⟨y, hy, e⟩
      · rw [e] at hm; exact e5 h0 x hx hm
      · rw [e] at hm; simp at hm; omega
    · have hik2 : i = k := by omega
      subst hik2
      rw [hp] at hq
      cases hq
      have key : 0 < p.length → ∀ x, x ∈ blk a1 → w.heap.size ≤ x ∧ x < w1.heap.size := fun h0 x hx => by
        have hc1 : c1 ≠ 0 := by have := hr1.le; omega
        exact hr1.lt x (by unfold fp; rw [if_neg hc1]; exact hx)
      refine ⟨a1, c1, by rw [List.getElem?_append_right (by rw [hr.len]; exact Nat.le_refl _), hr.len, Nat.sub_self]; rfl, hr1.le, hpl, hr1.reads.chg0 g2 (fun h0 x hx hm => ?_), fun h0 x hx hm => ?_⟩
      · rw [bts_length] at h0
        have := key h0 x hx
        have := hfp x hm
        omega
      · have := key h0 x hx
        rcases hf with e | ⟨y, hy, e⟩
        · rw [e] at hm; have := hfp x hm; omega
        · rw [e] at hm; simp at hm; omega
set_option maxRecDepth 20000 in
set_option maxHeartbeats 1000000 in
theorem own_any (a0 : Option Addr) (np ca : Nat) (ps : List (List UInt8)) (w : World) (h : RdPg w a0 ps) (hnp : ps.length = np) (hb : np * 24 ≤ 140737488351232) : Calls Try.prog 15 #[.slice a0 np ca] w fun e w' => ∃ ao c, e = .returned (.slice ao np c) ∧ RdPg w' ao ps ∧ Chg [] w w' := by
  go_enter Try.func15, Try.ntmps15
  go_wp2_with fail
  go_loopw [3, 4] (fun lv iv wr => ∃ (k : Nat) (ao : Option Addr) (c : Nat), iv = .int .i64 k ∧ lv = .slice ao k c ∧ k ≤ np ∧ Copied wr w.heap.size ao k c ps ∧ Chg [] w wr) (fun _ iv _ => np - (intOf iv).toNat)
  case atStart => exact ⟨0, none, 0, rfl, rfl, Nat.zero_le _, Copied.start _ _ _, Chg.refl _ _⟩
  case round =>
    obtain ⟨k, ao, c, rfl, rfl, hk, hC, hg⟩ := hrel
    by_cases hlt : k < np
    · have hd : decide (k < np) = true := decide_eq_true hlt
      have hd2 : decide ((k : Int) < (np : Int)) = true := decide_eq_true (by omega)
      obtain ⟨vs, hr, hv1, hv2⟩ := hC
      have hkp : k < ps.length := by omega
      have hp := List.getElem?_eq_getElem hkp
      obtain ⟨b, o, a, ca', rfl, hc, hlc, hpl, hrd⟩ := (h.keep hg).at_ hp
      generalize ps[k] = p at *
      have hBw := hg.size
      have hl : (bts p).length = p.length := bts_length p
      have hmx : 0 + p.length ≤ maxLen := by unfold maxLen; omega
      have hmx2 : k + 1 ≤ maxLen := by unfold maxLen; omega
      have HP := mkHid hp
      have HV := mkHid hv2
      clear hp hv2 hnp
      go_wp2_with (first
        | (at_builtin; refine wpList_append_k _ rfl (.const (.slice none 0 0)) (.tmp 15) 22 rfl 5 1 eltB wr.heap.size none 0 0 [] rfl (Room.nil _ _ _) (Nat.le_refl _) a p.length ca' (bts p) rfl hrd hl (bts_one _) hmx (by omega) ?_; intro a1 c1 w1 hr1 hg1 hf1; simp only [Nat.zero_add, List.nil_append, fp_none] at hr1 hg1; have hr1' := hr.chg hg1 (by simp); have hBw1 := Nat.le_trans hBw hg1.size)
        | (at_builtin; refine wpList_append_1 _ rfl (.tmp 11) (.tmp 17) 23 rfl 22 24 eltP w.heap.size ao k c vs rfl hr1' hBw1 (.slice a1 p.length c1) 1 rfl rfl hmx2 (by omega) ?_; intro a2 c2 w2 hr2 hg2 hf2))
      refine ⟨⟨k + 1, a2, c2, by first | rfl | go_num, rfl, by omega, Copied.snoc hBw hr hv1 HV.out HP.out hpl hg1 hr1 hr2 hg2 hf2, (hg.then hg1).trans hg2 (by simp) (fun q hq hlt9 => by have := (hr.lt q hq).1; omega)⟩, by simp [intOf]; omega⟩
    · have hkn : k = np := by omega
      subst hkn
      have hd : decide (k < k) = false := by simp
      have HC := mkHid hC
      have HN := mkHid hnp
      clear hC hnp
      go_wp2_with fail
      go_ret
      have hC := HC.out
      rw [← HN.out] at hC
      exact ⟨ao, c, rfl, hC.read, hg⟩
end Go.Proofs.Ytkfpkbmkmbnjcaa
