/- A disk's sectors in one row of bytes, its writes in one row of cells, the newest write of each sector. No program is named here. -/
import Derived.Test.YtdmhcbbakgljoaaQ
import Derived.Test.YtdmhcbbakgljoaaW
namespace Go.Proofs.Ytdmhcbbakgljoaa
open Go.RowKit
set_option linter.unusedVariables false
set_option linter.unusedSimpArgs false

/-! ### sectors in one row -/
theorem flat_len : ∀ (S : List (List UInt8)), (∀ l ∈ S, l.length = 64) → S.flatten.length = 64 * S.length
  | [], _ => rfl
  | l :: r, h => by
    have ih := flat_len r (fun m hm => h m (by simp [hm]))
    have := h l (by simp)
    simp only [List.flatten_cons, List.length_append, List.length_cons, ih, this]
    omega
theorem flat_get : ∀ (S : List (List UInt8)) (s : Nat) (hs : s < S.length), (∀ l ∈ S, l.length = 64) → (S.flatten.drop (64 * s)).take 64 = S[s]
  | l :: r, 0, _, h => by
    have := h l (by simp)
    simp only [Nat.mul_zero, List.drop_zero, List.flatten_cons, List.getElem_cons_zero]
    rw [← this, List.take_left]
  | l :: r, s + 1, hs, h => by
    have h1 := h l (by simp)
    have ih := flat_get r s (by simpa using hs) (fun m hm => h m (by simp [hm]))
    simp only [List.flatten_cons, List.getElem_cons_succ]
    rw [show 64 * (s + 1) = l.length + 64 * s by omega, List.drop_length_add_append]
    exact ih
theorem flat_set : ∀ (S : List (List UInt8)) (s : Nat) (hs : s < S.length) (m : List UInt8), (∀ l ∈ S, l.length = 64) → (S.set s m).flatten = S.flatten.take (64 * s) ++ (m ++ S.flatten.drop (64 * s + 64))
  | l :: r, 0, _, m, h => by
    have := h l (by simp)
    simp only [List.set_cons_zero, List.flatten_cons, Nat.mul_zero, List.take_zero, List.nil_append, Nat.zero_add]
    rw [← this, List.drop_left]
  | l :: r, s + 1, hs, m, h => by
    have h1 := h l (by simp)
    have ih := flat_set r s (by simpa using hs) m (fun m hm => h m (by simp [hm]))
    simp only [List.set_cons_succ, List.flatten_cons, ih]
    rw [show 64 * (s + 1) = l.length + 64 * s by omega, List.take_length_add_append, Nat.add_assoc, List.drop_length_add_append, List.append_assoc]
theorem laid_mem {S : List (List UInt8)} {s : Nat} {l : List UInt8} {n : Nat} (hS : ∀ m ∈ S, m.length = 64) (hs : s < S.length) (hl : l.length = 64) (hn : n ≤ 64) : ∀ m ∈ laid S s l n, m.length = 64 := by
  intro m hm
  unfold laid at hm
  rcases List.mem_or_eq_of_mem_set hm with h | rfl
  · exact hS m h
  · have : (S.getD s []).length = 64 := by
      rw [List.getD_eq_getElem?_getD, List.getElem?_eq_getElem hs]
      exact hS _ (List.getElem_mem hs)
    simp only [List.length_append, List.length_take, List.length_drop, this, hl]
    omega
theorem flat_laid {S : List (List UInt8)} {s : Nat} {l : List UInt8} {n : Nat} (hS : ∀ m ∈ S, m.length = 64) (hs : s < S.length) (hl : l.length = 64) (hn : n ≤ 64) :
    (laid S s l n).flatten = S.flatten.take (64 * s) ++ (l.take n ++ S.flatten.drop (64 * s + n)) := by
  unfold laid
  rw [flat_set S s hs _ hS]
  congr 1
  rw [List.append_assoc]
  congr 1
  have e : S.getD s [] = (S.flatten.drop (64 * s)).take 64 := by
    rw [flat_get S s hs hS, List.getD_eq_getElem?_getD, List.getElem?_eq_getElem hs]
    rfl
  rw [e, List.drop_take, List.drop_drop]
  have e2 : S.flatten.drop (64 * s + 64) = (S.flatten.drop (64 * s + n)).drop (64 - n) := by rw [List.drop_drop]; congr 1; omega
  rw [e2, List.take_append_drop]
theorem laid_none (S : List (List UInt8)) (s : Nat) (l : List UInt8) (hs : s < S.length) : laid S s l 0 = S := by
  unfold laid
  simp only [List.take_zero, List.nil_append, List.drop_zero]
  rw [List.getD_eq_getElem?_getD, List.getElem?_eq_getElem hs]
  simp

/-! ### writes in one row -/
def flyV (f : Nat × List UInt8) : List Value := .int .i64 f.1 :: bts f.2
def flyC (L : List (Nat × List UInt8)) : List Value := L.flatMap flyV
theorem flyV_one (f : Nat × List UInt8) : ∀ u ∈ flyV f, u.oneCell' = true := by
  intro u hu
  rcases List.mem_cons.1 hu with rfl | hu
  · rfl
  · exact bts_one _ u hu
theorem flyV_len {f : Nat × List UInt8} (h : f.2.length = 64) : (flyV f).length = 65 := by simp [flyV, bts_length, h]
theorem flyC_snoc (L : List (Nat × List UInt8)) (f : Nat × List UInt8) : flyC (L ++ [f]) = flyC L ++ flyV f := by simp [flyC]
theorem flyC_one (L : List (Nat × List UInt8)) : ∀ u ∈ flyC L, u.oneCell' = true := by
  intro u hu
  obtain ⟨f, _, hf⟩ := List.mem_flatMap.1 hu
  exact flyV_one f u hf
theorem flyC_len : ∀ (L : List (Nat × List UInt8)), (∀ f ∈ L, f.2.length = 64) → (flyC L).length = L.length * 65
  | [], _ => rfl
  | f :: r, h => by
    have ih := flyC_len r (fun m hm => h m (by simp [hm]))
    have := flyV_len (h f (by simp))
    show (flyV f ++ flyC r).length = _
    rw [List.length_append, ih, this, List.length_cons]
    omega
theorem flyC_get : ∀ (L : List (Nat × List UInt8)) (k : Nat) (hk : k < L.length), (∀ f ∈ L, f.2.length = 64) → ∀ (j : Nat) (u : Value), (flyV L[k])[j]? = some u → (flyC L)[k * 65 + j]? = some u
  | f :: r, 0, _, h, j, u, hu => by
    have h1 : j < (flyV f).length := (List.getElem?_eq_some_iff.1 hu).1
    show (flyV f ++ flyC r)[0 * 65 + j]? = some u
    rw [show 0 * 65 + j = j by omega, List.getElem?_append_left h1]
    exact hu
  | f :: r, k + 1, hk, h, j, u, hu => by
    have h1 := flyV_len (h f (by simp))
    show (flyV f ++ flyC r)[(k + 1) * 65 + j]? = some u
    rw [List.getElem?_append_right (by omega), h1, show (k + 1) * 65 + j - 65 = k * 65 + j by omega]
    exact flyC_get r k (by simpa using hk) (fun m hm => h m (by simp [hm])) j u hu

/-! ### the newest write of a sector -/
def newR : List (Nat × List UInt8) → Nat → Nat
  | [], _ => 0
  | f :: r, s => if f.1 = s then r.length + 1 else newR r s
def newOf (L : List (Nat × List UInt8)) (s : Nat) : Nat := newR L.reverse s
theorem newOf_nil (s : Nat) : newOf [] s = 0 := rfl
theorem newOf_snoc (L : List (Nat × List UInt8)) (f : Nat × List UInt8) (s : Nat) : newOf (L ++ [f]) s = if f.1 = s then L.length + 1 else newOf L s := by simp [newOf, newR]
theorem lastOf_snoc (k : Nat) (b : List UInt8) (L : List (Nat × List UInt8)) (f : Nat × List UInt8) : lastOf k b (L ++ [f]) = if f.1 = k then f.2 else lastOf k b L := by simp [lastOf, List.foldl_append]
theorem newR_parts (s : Nat) : ∀ (R : List (Nat × List UInt8)), (newR R s = 0 ∧ ∀ b, lastOf s b R.reverse = b) ∨ ∃ n l, newR R s = n + 1 ∧ R.reverse[n]? = some (s, l) ∧ ∀ b, lastOf s b R.reverse = l
  | [] => Or.inl ⟨rfl, fun _ => rfl⟩
  | f :: r => by
    by_cases h : f.1 = s
    · refine Or.inr ⟨r.length, f.2, by simp [newR, h], ?_, fun b => ?_⟩
      · rw [List.reverse_cons, List.getElem?_append_right (by simp)]
        simp [← h]
      · rw [List.reverse_cons, lastOf_snoc, if_pos h]
    · rcases newR_parts s r with ⟨h1, h2⟩ | ⟨n, l, h1, h2, h3⟩
      · exact Or.inl ⟨by simp [newR, h, h1], fun b => by rw [List.reverse_cons, lastOf_snoc, if_neg h]; exact h2 b⟩
      · refine Or.inr ⟨n, l, by simp [newR, h, h1], ?_, fun b => by rw [List.reverse_cons, lastOf_snoc, if_neg h]; exact h3 b⟩
        rw [List.reverse_cons, List.getElem?_append_left (List.getElem?_eq_some_iff.1 h2).1]
        exact h2
theorem newOf_parts (L : List (Nat × List UInt8)) (s : Nat) : (newOf L s = 0 ∧ ∀ b, lastOf s b L = b) ∨ ∃ n l, newOf L s = n + 1 ∧ L[n]? = some (s, l) ∧ ∀ b, lastOf s b L = l := by
  have := newR_parts s L.reverse
  simp only [List.reverse_reverse] at this
  exact this
theorem newOf_le (L : List (Nat × List UInt8)) (s : Nat) : newOf L s ≤ L.length := by
  rcases newOf_parts L s with ⟨h, _⟩ | ⟨n, l, h, h2, _⟩
  · omega
  · have := (List.getElem?_eq_some_iff.1 h2).1
    omega
def newC (n : Nat) (L : List (Nat × List UInt8)) : List Value := (List.range n).map fun s => .int .i64 (newOf L s : Nat)
theorem newC_len (n : Nat) (L : List (Nat × List UInt8)) : (newC n L).length = n := by simp [newC]
theorem newC_get (n : Nat) (L : List (Nat × List UInt8)) (s : Nat) (h : s < n) : (newC n L)[s]? = some (.int .i64 (newOf L s : Nat)) := by simp [newC, h]
theorem newC_nil (n : Nat) : newC n [] = List.replicate n (.int .i64 0) := by
  apply List.ext_getElem?
  intro i
  by_cases h : i < n
  · rw [newC_get n [] i h]
    simp [h, newOf_nil]
  · rw [List.getElem?_eq_none (by rw [newC_len]; omega), List.getElem?_eq_none (by simp; omega)]
theorem newC_snoc (n : Nat) (L : List (Nat × List UInt8)) (f : Nat × List UInt8) : (newC n L).set f.1 (.int .i64 ((L.length + 1 : Nat) : Int)) = newC n (L ++ [f]) := by
  apply List.ext_getElem?
  intro i
  by_cases h : i < n
  · rw [newC_get n _ i h, newOf_snoc]
    by_cases hf : f.1 = i
    · subst hf
      rw [List.getElem?_set_self (by rw [newC_len]; exact h), if_pos rfl]
    · rw [List.getElem?_set_ne hf, newC_get n L i h, if_neg hf]
  · rw [List.getElem?_eq_none (by rw [List.length_set, newC_len]; omega), List.getElem?_eq_none (by rw [newC_len]; omega)]
theorem newC_one (n : Nat) (L : List (Nat × List UInt8)) : ∀ u ∈ newC n L, u.oneCell' = true := by
  intro u hu
  obtain ⟨_, _, rfl⟩ := List.mem_map.1 hu
  rfl
end Go.Proofs.Ytdmhcbbakgljoaa
