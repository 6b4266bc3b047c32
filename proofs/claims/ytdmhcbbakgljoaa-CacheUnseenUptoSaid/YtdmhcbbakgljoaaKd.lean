/- What a disk reads behind a block's write; the blocks that a cache of clean ones holds. -/
import Derived.Test.YtdmhcbbakgljoaaKa
namespace Go.Proofs.Ytdmhcbbakgljoaa
open Go.RowKit Go.Maps
set_option linter.unusedVariables false
set_option linter.unusedSimpArgs false

theorem flies_four (A : Nat) (b : List UInt8) : flies A b 4 = [(4 * A + 0, secOf b 0), (4 * A + 1, secOf b 1), (4 * A + 2, secOf b 2), (4 * A + 3, secOf b 3)] := rfl
theorem lastOf_flies (s A : Nat) (b x : List UInt8) : lastOf s x (flies A b 4) = if s < 4 * A ∨ 4 * A + 4 ≤ s then x else secOf b (s - 4 * A) := by
  rw [flies_four]
  unfold lastOf
  simp only [List.foldl_cons, List.foldl_nil]
  by_cases h : s < 4 * A ∨ 4 * A + 4 ≤ s
  · rw [if_pos h, if_neg (by omega), if_neg (by omega), if_neg (by omega), if_neg (by omega)]
  · rw [if_neg h]
    have : s = 4 * A ∨ s = 4 * A + 1 ∨ s = 4 * A + 2 ∨ s = 4 * A + 3 := by omega
    rcases this with rfl | rfl | rfl | rfl
    · simp
    · simp
    · simp
    · simp
theorem lastOf_append (s : Nat) (x : List UInt8) (L M : List (Nat × List UInt8)) : lastOf s x (L ++ M) = lastOf s (lastOf s x L) M := by
  unfold lastOf
  rw [List.foldl_append]
theorem cur_written (st : RS) (A : Nat) (b : List UInt8) (s : Nat) : cur { st with L := st.L ++ flies A b 4 } s = if s < 4 * A ∨ 4 * A + 4 ≤ s then cur st s else secOf b (s - 4 * A) := by
  unfold cur
  rw [lastOf_append, lastOf_flies]
theorem reads_four (st : RS) (a : Nat) : reads st a 4 = cur st (4 * a + 0) ++ (cur st (4 * a + 1) ++ (cur st (4 * a + 2) ++ (cur st (4 * a + 3) ++ []))) := rfl
theorem sec_four (b : List UInt8) (h : b.length = 256) : secOf b 0 ++ (secOf b 1 ++ (secOf b 2 ++ (secOf b 3 ++ []))) = b := by
  have e : ∀ j k : Nat, j + 64 = k → b.drop j = (b.drop j).take 64 ++ b.drop k := fun j k e => by
    have := (List.take_append_drop 64 (b.drop j)).symm
    rwa [List.drop_drop, e] at this
  have e3 : (b.drop 192).take 64 = b.drop 192 := List.take_of_length_le (by rw [List.length_drop]; omega)
  unfold secOf
  show (b.drop 0).take 64 ++ ((b.drop 64).take 64 ++ ((b.drop 128).take 64 ++ ((b.drop 192).take 64 ++ []))) = b
  rw [List.append_nil, e3, ← e 128 192 rfl, ← e 64 128 rfl, ← e 0 64 rfl, List.drop_zero]
theorem reads_written (st : RS) (A a : Nat) (b : List UInt8) (h : b.length = 256) : reads { st with L := st.L ++ flies A b 4 } a 4 = if a = A then b else reads st a 4 := by
  rw [reads_four, cur_written, cur_written, cur_written, cur_written]
  by_cases e : a = A
  · rw [if_pos e, e, if_neg (by omega), if_neg (by omega), if_neg (by omega), if_neg (by omega), Nat.add_sub_cancel_left, Nat.add_sub_cancel_left, Nat.add_sub_cancel_left, Nat.add_sub_cancel_left]
    exact sec_four b h
  · rw [if_neg e, if_pos (by omega), if_pos (by omega), if_pos (by omega), if_pos (by omega), reads_four]
theorem new_reads (n a : Nat) (h : a < n) : reads (RS.new n) a 4 = zeroB := by
  have e : ∀ s, s < 4 * n → cur (RS.new n) s = zero64 := fun s hs => by
    rw [cur_calm _ rfl]
    show (List.replicate (4 * n) zero64).getD s [] = zero64
    simp [List.getD, hs]
  rw [reads_four, e _ (by omega), e _ (by omega), e _ (by omega), e _ (by omega)]
  decide +kernel
/-- A clean block of zeros. -/
def e0 (a : Nat) : KE := ⟨a, zeroB, false⟩
theorem e0_find (HL : List Nat) (a : Nat) (h : a ∈ HL) : kfind (HL.map e0) a = some (e0 a) := by
  unfold kfind
  induction HL with
  | nil => cases h
  | cons x r ih =>
    rw [List.map_cons, List.find?_cons]
    by_cases e : x = a
    · subst e
      simp [e0]
    · have : ((e0 x).pl == a) = false := by simpa [e0] using e
      rw [this]
      exact ih ((List.mem_cons.1 h).resolve_left (fun e9 => e e9.symm))
theorem e0_none (HL : List Nat) (a : Nat) (h : a ∉ HL) : kfind (HL.map e0) a = none := by
  unfold kfind
  rw [List.find?_eq_none]
  intro x hx
  obtain ⟨y, hy, rfl⟩ := List.mem_map.1 hx
  simp only [e0, beq_iff_eq]
  intro e
  exact h (e ▸ hy)
theorem e0_drop (HL : List Nat) (a : Nat) : kdrop (HL.map e0) a = (HL.filter (fun x => x != a)).map e0 := by
  unfold kdrop
  rw [List.filter_map]
  rfl
theorem e0_room (n : Nat) (hn : 1 ≤ n) (HL : List Nat) (st : RS) (hl : HL.length ≤ n) : kroom n (HL.map e0) st = (0, (if HL.length < n then HL else HL.tail).map e0, st) := by
  by_cases h : HL.length < n
  · rw [kroom_room (by simpa using h), if_pos h]
  · rw [if_neg h]
    cases HL with
    | nil => simp at hl h; omega
    | cons x r =>
      have hw : kwrote (e0 x) st = (0, st) := rfl
      rw [List.map_cons, kroom_ok (by simp at h ⊢; omega) (by rw [hw]), hw]
      rfl
def hnext (n : Nat) (HL : List Nat) (a : Nat) : List Nat := if n < (HL.filter (fun x => x != a) ++ [a]).length then (HL.filter (fun x => x != a) ++ [a]).drop 1 else HL.filter (fun x => x != a) ++ [a]
theorem hnext_len (n : Nat) (HL : List Nat) (a : Nat) (hl : HL.length ≤ n) : (hnext n HL a).length ≤ n := by
  unfold hnext
  have h1 : (HL.filter (fun x => x != a)).length ≤ HL.length := List.length_filter_le _ _
  split
  · rw [List.length_drop, List.length_append, List.length_singleton]
    omega
  · omega
theorem hnext_mem (n : Nat) (HL : List Nat) (a : Nat) {x : Nat} (h : x ∈ hnext n HL a) : x ∈ HL ∨ x = a := by
  unfold hnext at h
  have h1 : x ∈ HL.filter (fun x => x != a) ++ [a] := by
    split at h
    · exact List.mem_of_mem_drop h
    · exact h
  rcases List.mem_append.1 h1 with h2 | h2
  · exact Or.inl ((List.mem_filter.1 h2).1)
  · exact Or.inr (by simpa using h2)
theorem filter_short (HL : List Nat) (a : Nat) (h : a ∈ HL) : (HL.filter (fun x => x != a)).length < HL.length := by
  rcases Nat.lt_or_ge (HL.filter (fun x => x != a)).length HL.length with h1 | h1
  · exact h1
  · have h2 := List.length_filter_le (fun x => x != a) HL
    have h3 := (List.length_filter_eq_length_iff.1 (Nat.le_antisymm h2 h1)) a h
    simp at h3
theorem hold_get (n : Nat) (hn : 1 ≤ n) (HL : List Nat) (hl : HL.length ≤ n) (a : Nat) (ha : a < 16) : kget n (HL.map e0) (RS.new 16) (a : Int) = (0, zeroB, (hnext n HL a).map e0, RS.new 16) := by
  have hw : whyN (RS.new 16) (a : Int) = 0 := by
    unfold whyN
    rw [if_neg (by decide), if_neg (by show ¬ ((a : Int) < 0 ∨ ((16 : Nat) : Int) ≤ (a : Int)); omega)]
  by_cases h : a ∈ HL
  · rw [get_held n a _ _ hw (e0 a) (e0_find HL a h), e0_drop]
    have h1 : (HL.filter (fun x => x != a)).length < HL.length := filter_short HL a h
    unfold hnext
    rw [if_neg (by rw [List.length_append, List.length_singleton]; omega), List.map_append]
    rfl
  · have h0 : HL.filter (fun x => x != a) = HL := List.filter_eq_self.2 (fun x hx => by simp; exact fun e => h (e ▸ hx))
    unfold kget
    rw [if_neg (by simp [hw]), Int.toNat_natCast, e0_none HL a h]
    simp only
    rw [e0_room n hn HL _ hl, if_pos rfl, new_reads 16 a ha]
    unfold hnext
    rw [h0]
    by_cases h2 : HL.length < n
    · rw [if_pos h2, if_neg (by rw [List.length_append, List.length_singleton]; omega), List.map_append]
      rfl
    · rw [if_neg h2, if_pos (by rw [List.length_append, List.length_singleton]; omega)]
      have h3 : (HL ++ [a]).drop 1 = HL.tail ++ [a] := by
        cases HL with
        | nil => simp at h2; omega
        | cons x r => rfl
      rw [h3, List.map_append]
      rfl
/-- The disk of which the first k blocks were written. -/
def holdW (B : List UInt8) (k : Nat) : RS := { RS.new 16 with L := (List.range k).flatMap (fun a => flies a B 4) }
theorem holdW_len (B : List UInt8) (k : Nat) : (holdW B k).L.length = 4 * k := by
  show ((List.range k).flatMap (fun a => flies a B 4)).length = 4 * k
  induction k with
  | zero => rfl
  | succ k ih => rw [List.range_succ, List.flatMap_append, List.length_append, ih, List.flatMap_singleton, flies_len]; omega
theorem holdW_succ (B : List UInt8) (k : Nat) : holdW B (k + 1) = { holdW B k with L := (holdW B k).L ++ flies k B 4 } := by
  unfold holdW
  rw [List.range_succ, List.flatMap_append, List.flatMap_singleton]
theorem holdW_write (B : List UInt8) (hB : B.length = 256) (k : Nat) (hk : k < 16) : write (holdW B k) (k : Int) B = (0, holdW B (k + 1)) := by
  rw [holdW_succ]
  exact write_plain (holdW B k) k B rfl rfl hk hB
theorem holdW_reads (B : List UInt8) (hB : B.length = 256) (k a : Nat) (ha : a < 16) : reads (holdW B k) a 4 = if a < k then B else zeroB := by
  induction k with
  | zero => rw [if_neg (by omega)]; exact new_reads 16 a ha
  | succ k ih =>
    rw [holdW_succ, reads_written _ _ _ _ hB, ih]
    by_cases e : a = k
    · rw [if_pos e, if_pos (by omega)]
    · rw [if_neg e]
      by_cases h : a < k
      · rw [if_pos h, if_pos (by omega)]
      · rw [if_neg h, if_neg (by omega)]
theorem holdW_why (B : List UInt8) (a : Nat) (ha : a < 16) : whyN (holdW B 16) (a : Int) = 0 := by
  unfold whyN
  rw [if_neg (by show ¬ (false = true); decide), if_neg (by show ¬ ((a : Int) < 0 ∨ ((16 : Nat) : Int) ≤ (a : Int)); omega)]
theorem held_get (B : List UInt8) (n : Nat) (HL : List Nat) (a : Nat) (ha : a < 16) (h : a ∈ HL) : kget n (HL.map e0) (holdW B 16) (a : Int) = (0, zeroB, (HL.filter (fun x => x != a) ++ [a]).map e0, holdW B 16) := by
  rw [get_held n a _ _ (holdW_why B a ha) (e0 a) (e0_find HL a h), e0_drop, List.map_append]
  rfl
theorem other_get (B : List UInt8) (hB : B.length = 256) (n : Nat) (hn : 1 ≤ n) (HL : List Nat) (hl : HL.length ≤ n) (a : Nat) (ha : a < 16) (h : a ∉ HL) : ∃ K', kget n (HL.map e0) (holdW B 16) (a : Int) = (0, B, K', holdW B 16) := by
  unfold kget
  rw [if_neg (by simp [holdW_why B a ha]), Int.toNat_natCast, e0_none HL a h]
  simp only
  rw [e0_room n hn HL _ hl, if_pos rfl, holdW_reads B hB 16 a ha, if_pos ha]
  exact ⟨_, rfl⟩
theorem turn_mem (HL : List Nat) (a : Nat) (h : a ∈ HL) (x : Nat) : x ∈ HL.filter (fun x => x != a) ++ [a] ↔ x ∈ HL := by
  simp only [List.mem_append, List.mem_filter, bne_iff_ne, ne_eq, List.mem_singleton]
  constructor
  · rintro (⟨h1, _⟩ | rfl)
    · exact h1
    · exact h
  · intro h1
    by_cases e : x = a
    · exact Or.inr e
    · exact Or.inl ⟨h1, e⟩
theorem turn_len (HL : List Nat) (a : Nat) (h : a ∈ HL) : (HL.filter (fun x => x != a) ++ [a]).length ≤ HL.length := by
  have h1 : (HL.filter (fun x => x != a)).length < HL.length := filter_short HL a h
  rw [List.length_append, List.length_singleton]
  omega
end Go.Proofs.Ytdmhcbbakgljoaa
