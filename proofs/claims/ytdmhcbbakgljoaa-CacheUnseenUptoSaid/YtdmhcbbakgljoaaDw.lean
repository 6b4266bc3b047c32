/- The program's disk: what its calls leave whole; none; what they do where the power stays. -/
import Derived.Test.YtdmhcbbakgljoaaDh
namespace Go.Proofs.Ytdmhcbbakgljoaa
open Go.RowKit
set_option linter.unusedVariables false
set_option linter.unusedSimpArgs false

theorem powered_nil (w : World) : Calls Try.prog 39 #[.pointer none] w fun e w' => e = .returned (.int .i64 2) ∧ w = w' := by
  go_enter Try.func39, Try.ntmps39
  go_wp2_with (first | (go_at_call 42; refine (made_nil _).mono ?_; rintro e w' ⟨rfl, rfl⟩))
  go_ret
  exact ⟨rfl, rfl⟩
theorem asked_nil (z : Int) (w : World) : Calls Try.prog 36 #[.pointer none, .int .i64 z] w fun e w' => e = .returned (.int .i64 2) ∧ w = w' := by
  go_enter Try.func36, Try.ntmps36
  go_wp2_with (first | (go_at_call 39; refine (powered_nil _).mono ?_; rintro e w' ⟨rfl, rfl⟩))
  go_ret
  exact ⟨rfl, rfl⟩
theorem blocks_nil (w : World) : Calls Try.prog 25 #[.pointer none] w fun e w' => e = .returned (.int .i64 0) ∧ w = w' := by
  go_enter Try.func25, Try.ntmps25
  go_wp2_with (first | (go_at_call 42; refine (made_nil _).mono ?_; rintro e w' ⟨rfl, rfl⟩))
  go_ret
  exact ⟨rfl, rfl⟩
theorem blk_mem {ao : Option Addr} {n c : Nat} {w : World} {B : Nat} {xs : List Value} (h : Room w B ao n c xs) (hn : 0 < n) : ∀ k, k ∈ blk ao → k ∈ fp ao c := by
  intro k hk
  unfold fp
  rw [if_neg (by have := h.le; omega)]
  exact hk
theorem DF_three {db : Nat} {g : DG} {fa : Option Addr} {cf : Nat} {k : Nat} (hk : k ∈ [g.lb, g.nb, db]) : k ∈ DF db g fa cf := by
  simp only [List.mem_cons, List.not_mem_nil, or_false] at hk
  simp only [DF, List.mem_cons]
  rcases hk with hk | hk | hk
  · exact Or.inr (Or.inl hk)
  · exact Or.inr (Or.inr (Or.inl hk))
  · exact Or.inl hk
theorem burn_whole {st : RS} (h : Whole st) : Whole (burn st).2 := by
  unfold burn
  split
  · exact h
  · split <;> exact h
theorem write_whole {st : RS} (z : Int) (b : List UInt8) (h : Whole st) : Whole (write st z b).2 := by
  unfold write
  split
  · exact h
  · split
    · exact h
    · split
      · exact burn_whole h
      · exact burn_whole h
theorem barrier_whole {st : RS} (h : Whole st) : Whole (barrier st).2 := by
  unfold barrier
  split
  · exact h
  · split
    · exact burn_whole h
    · have := burn_whole h
      exact ⟨by show (settle (burn st).2.S (burn st).2.L).length = _; rw [settle_len]; exact this.1, this.2⟩
theorem crash_whole {st : RS} (ps : List UInt8) (h : Whole st) : Whole (crash st ps) := ⟨by show (torn st.S _).length = _; rw [torn_len]; exact h.1, h.2⟩
theorem write_plain (st : RS) (j : Nat) (b : List UInt8) (hg : st.gone = false) (hl : st.left = 0) (hj : j < st.count) (hb : b.length = 256) : write st j b = (0, { st with L := st.L ++ flies j b 4 }) := by
  have h1 : ¬ ((j : Int) < 0 ∨ (st.count : Int) ≤ (j : Int)) := by omega
  have h2 : burn st = (false, st) := by unfold burn; rw [if_pos hl]
  unfold write whyN
  rw [hg, h2]
  simp only [Bool.false_eq_true, if_false, h1, hb, ne_eq, not_true_eq_false, Int.toNat_natCast, hg]
theorem barrier_plain (st : RS) (hg : st.gone = false) (hl : st.left = 0) : barrier st = (0, { st with S := settle st.S st.L, L := [] }) := by
  have h2 : burn st = (false, st) := by unfold burn; rw [if_pos hl]
  unfold barrier
  simp [hg, h2]
theorem torn_snoc (S : List (List UInt8)) (L : List (Nat × List UInt8)) (f : Nat × List UInt8) (P : List UInt8) :
    torn S ((L ++ [f]).zip P) = if h : L.length < P.length then tear (torn S (L.zip P)) (f, P[L.length]) else torn S (L.zip P) := by
  have e : ∀ (L : List (Nat × List UInt8)) (P : List UInt8), (L ++ [f]).zip P = L.zip P ++ (if h : L.length < P.length then [(f, P[L.length])] else []) := by
    intro L
    induction L with
    | nil =>
      intro P
      cases P <;> simp
    | cons x r ih =>
      intro P
      cases P with
      | nil => simp
      | cons p P =>
        simp only [List.cons_append, List.zip_cons_cons, ih P, List.length_cons, List.getElem_cons_succ, Nat.add_lt_add_iff_right]
  rw [e L P]
  split
  · unfold torn
    rw [List.foldl_append]
    rfl
  · rw [List.append_nil]
theorem flies_len (A : Nat) (b : List UInt8) (n : Nat) : (flies A b n).length = n := by simp [flies]
theorem cur_calm (st : RS) (h : st.L = []) (s : Nat) : cur st s = st.S.getD s [] := by unfold cur; rw [h]; rfl
theorem reads_part (st : RS) (A j : Nat) (hj : j < 4) (hs : 4 * A + 4 ≤ st.S.length) (hS : ∀ l ∈ st.S, l.length = 64) (hL : ∀ f ∈ st.L, f.2.length = 64) : ((reads st A 4).drop (64 * j)).take 64 = cur st (4 * A + j) := by
  have e : ∀ n, n ≤ 4 → j < n → ((reads st A n).drop (64 * j)).take 64 = cur st (4 * A + j) := by
    intro n
    induction n with
    | zero => intro _ h; omega
    | succ n ih =>
      intro h4 hjn
      rw [reads_succ]
      have hl := reads_len st A n (by omega) hS hL
      by_cases h : j < n
      · rw [List.drop_append_of_le_length (by omega), List.take_append_of_le_length (by rw [List.length_drop]; omega)]
        exact ih (by omega) h
      · have hjn2 : j = n := by omega
        subst hjn2
        rw [← hl, List.drop_left, List.take_of_length_le (by rw [cur_len st _ (by omega) hS hL]; omega)]
  exact e 4 (by omega) hj

end Go.Proofs.Ytdmhcbbakgljoaa
