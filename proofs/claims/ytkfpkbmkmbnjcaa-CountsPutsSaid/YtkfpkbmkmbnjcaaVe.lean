/- What pages bear; the reference: Take. -/
import Derived.Test.YtkfpkbmkmbnjcaaVd
namespace Go.Proofs.Ytkfpkbmkmbnjcaa
open Go.RowKit
set_option linter.unusedVariables false
set_option linter.unusedSimpArgs false
attribute [local go_sem ↓] Go.wp_at_zero Go.wp_at_succ

/-! ### pages of 240 bytes as one row -/
def all240 (ps : List (List UInt8)) : Bool := ps.all (fun p => p.length == 240)
theorem all240_iff {ps : List (List UInt8)} : all240 ps = true ↔ ∀ (i : Nat) (p : List UInt8), ps[i]? = some p → p.length = 240 := by
  unfold all240
  rw [List.all_eq_true]
  constructor
  · intro h i p hp
    simpa using h p (List.mem_of_getElem? hp)
  · intro h p hp
    obtain ⟨i, hi, rfl⟩ := List.getElem_of_mem hp
    simpa using h i _ (List.getElem?_eq_getElem hi)
theorem flat_len : ∀ {ps : List (List UInt8)}, all240 ps = true → ps.flatten.length = 240 * ps.length
  | [], _ => rfl
  | p :: r, h => by
    unfold all240 at h
    rw [List.all_cons, Bool.and_eq_true] at h
    have h1 : p.length = 240 := by simpa using h.1
    have h2 := flat_len (ps := r) h.2
    rw [List.flatten_cons, List.length_append, h2, h1, List.length_cons]
    omega
theorem flat_get : ∀ {ps : List (List UInt8)} (i j : Nat) (p : List UInt8), all240 ps = true → ps[i]? = some p → j < 240 → ps.flatten[240 * i + j]? = p[j]?
  | [], i, j, p, _, hp, _ => by simp at hp
  | q :: r, 0, j, p, h, hp, hj => by
    unfold all240 at h
    rw [List.all_cons, Bool.and_eq_true] at h
    have h1 : q.length = 240 := by simpa using h.1
    simp only [List.getElem?_cons_zero, Option.some.injEq] at hp
    subst hp
    rw [List.flatten_cons, List.getElem?_append_left (by omega), Nat.mul_zero, Nat.zero_add]
  | q :: r, i + 1, j, p, h, hp, hj => by
    unfold all240 at h
    rw [List.all_cons, Bool.and_eq_true] at h
    have h1 : q.length = 240 := by simpa using h.1
    simp only [List.getElem?_cons_succ] at hp
    rw [List.flatten_cons, List.getElem?_append_right (by omega), h1, show 240 * (i + 1) + j - 240 = 240 * i + j by omega]
    exact flat_get i j p h.2 hp hj
/-- What is taken: an error, or 0 and the counts. -/
def takeN (ps : List (List UInt8)) (z : Int) : Int × List UInt8 :=
  if z < 0 ∨ 1024 < z then (1, []) else if ps.length < npg z.toNat then (4, []) else if npg z.toNat < ps.length then (3, [])
  else if all240 ps = true then (if (ps.flatten.drop z.toNat).all (· == 0) = true then (0, ps.flatten.take z.toNat) else (5, [])) else (5, [])
theorem drop_zero {l : List UInt8} {n : Nat} : (l.drop n).all (· == 0) = true ↔ ∀ (i : Nat) (a : UInt8), n ≤ i → l[i]? = some a → a = 0 := by
  rw [List.all_eq_true]
  constructor
  · intro h i a hi ha
    have : a ∈ l.drop n := List.mem_iff_getElem?.2 ⟨i - n, by rw [List.getElem?_drop, show n + (i - n) = i by omega]; exact ha⟩
    simpa using h a this
  · intro h a ha
    obtain ⟨i, hi⟩ := List.mem_iff_getElem?.1 ha
    rw [List.getElem?_drop] at hi
    simpa using h _ a (by omega) hi
theorem take_out {ps : List (List UInt8)} {z : Int} (h : z < 0 ∨ 1024 < z) : takeN ps z = (1, []) := if_pos h
/-- What is put is taken as it was. -/
theorem put_take {L : List UInt8} {n : Nat} {ps : List (List UInt8)} (hL : L.length = n) (hn : n ≤ 1024) (h : IsPut L n ps) : takeN ps (n : Int) = (0, L) := by
  have ha : all240 ps = true := all240_iff.2 fun i p hp => (h.2 i p hp).1
  have hfl := flat_len ha
  have key : ∀ i, i < 240 * ps.length → ps.flatten[i]? = some (if i < n then (L[i]?).getD 0 else 0) := by
    intro i hi
    have hq : i / 240 < ps.length := by omega
    have hp := List.getElem?_eq_getElem hq
    have h1 := flat_get (i / 240) (i % 240) _ ha hp (by omega)
    rw [(h.2 _ _ hp).2 _ (by omega), show 240 * (i / 240) + i % 240 = i by omega] at h1
    exact h1
  have hpl := h.1
  have hbd := npg_240 n
  unfold takeN
  rw [if_neg (by omega), Int.toNat_natCast, if_neg (by omega), if_neg (by omega), if_pos ha, if_pos (drop_zero.2 fun i a hi hia => ?_)]
  · congr 1
    apply List.ext_getElem?
    intro i
    rw [List.getElem?_take]
    split
    · rename_i hi
      rw [key i (by omega), if_pos hi, List.getElem?_eq_getElem (by omega)]; rfl
    · rw [List.getElem?_eq_none (by omega)]
  · have hlt := (List.getElem?_eq_some_iff.1 hia).1
    rw [key i (by omega), if_neg (by omega)] at hia
    cases hia; rfl
/-- What is taken is put as it was. -/
theorem take_put {ps : List (List UInt8)} {z : Int} {out : List UInt8} (h : takeN ps z = (0, out)) : (out.length : Int) = z ∧ IsPut out out.length ps ∧ out.length ≤ 1024 := by
  unfold takeN at h
  by_cases h1 : z < 0 ∨ 1024 < z
  · rw [if_pos h1] at h; simp at h
  · rw [if_neg h1] at h
    obtain ⟨n, rfl⟩ : ∃ n : Nat, z = (n : Int) := ⟨z.toNat, by omega⟩
    rw [Int.toNat_natCast] at h
    split at h
    · simp at h
    · split at h
      · simp at h
      · split at h
        · rename_i h2 h3 ha
          split at h
          · rename_i hz
            have hout : out = ps.flatten.take n := by simpa using h.symm
            have hfl := flat_len ha
            have hbd := npg_240 n
            have hpl : ps.length = npg n := by omega
            have hol : out.length = n := by rw [hout, List.length_take]; omega
            refine ⟨by omega, ?_, by omega⟩
            rw [hol]
            refine ⟨hpl, fun i p hp => ⟨all240_iff.1 ha i p hp, fun j hj => ?_⟩⟩
            rw [← flat_get i j p ha hp hj]
            have hi := (List.getElem?_eq_some_iff.1 hp).1
            have hlt : 240 * i + j < ps.flatten.length := by omega
            by_cases hn : 240 * i + j < n
            · rw [if_pos hn, hout, List.getElem?_take, if_pos hn, List.getElem?_eq_getElem hlt]; rfl
            · rw [if_neg hn]
              have := drop_zero.1 hz (240 * i + j) _ (by omega) (List.getElem?_eq_getElem hlt)
              rw [List.getElem?_eq_getElem hlt, this]
          · simp at h
        · simp at h
theorem take_ok_of {ps : List (List UInt8)} {z : Int} : (takeN ps z).1 = 0 ∨ (takeN ps z).2 = [] := by
  unfold takeN
  repeat (first | (split; · exact Or.inr rfl) | (split; · exact Or.inl rfl) | exact Or.inr rfl | exact Or.inl rfl | split)
end Go.Proofs.Ytkfpkbmkmbnjcaa
