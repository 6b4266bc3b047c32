/- The landed code: Take, what its rounds say. -/
import Derived.Test.YtkfpkbmkmbnjcaaVl
namespace Go.Proofs.Ytkfpkbmkmbnjcaa
open Go.RowKit
set_option linter.unusedVariables false
set_option linter.unusedSimpArgs false

theorem equal_any (ao : Option Addr) (n c : Nat) (l : List UInt8) (bo : Option Addr) (m d : Nat) (k : List UInt8) (w : World) (h1 : Reads w ao (bts l)) (hn : l.length = n) (h2 : Reads w bo (bts k)) (hm : k.length = m) :
    Calls Try.prog 20 #[.slice ao n c, .slice bo m d] w fun e w' => e = .returned (.bool (decide (l = k))) ∧ w = w' := by
  have r1 := run_convert_k (P := Try.prog) w 22 5 9 Try.underlying22 Try.underlying5 Try.underlying9 ao n c l h1 hn
  have r2 := run_convert_k (P := Try.prog) w 22 5 9 Try.underlying22 Try.underlying5 Try.underlying9 bo m d k h2 hm
  go_enter Try.func20, Try.ntmps20
  go_wp2
  go_ret
  exact ⟨ret_bool' (by rw [Bool.eq_iff_iff]; simp), rfl⟩

/-- The bytes of a page. -/
theorem page_bytes {L : List UInt8} {n x : Nat} (h : L.length = n) (hx : x < npg n) (j : Nat) (hj : j < 240) : (pageOf (partL L n x))[j]? = some (if 240 * x + j < n then (L[240 * x + j]?).getD 0 else 0) := by
  rw [pageOf_get partL_le j hj]
  have hp := plen_in hx
  congr 1
  by_cases hjn : 240 * x + j < n
  · have hjp : j < plen n x := by unfold plen; split <;> omega
    rw [if_pos hjn]
    unfold partL
    rw [List.getElem?_take_of_lt hjp, List.getElem?_drop]
  · rw [if_neg hjn]
    have : plen n x ≤ j := by unfold plen; unfold npg at hx; split <;> omega
    rw [List.getElem?_eq_none (by have := partL_len h hx; omega)]; rfl
theorem isPut_get {L : List UInt8} {n : Nat} {ps : List (List UInt8)} (h : IsPut L n ps) (hL : L.length = n) {x : Nat} (hx : x < npg n) {p : List UInt8} (hp : ps[x]? = some p) : p = pageOf (partL L n x) := by
  obtain ⟨h1, h2⟩ := h.2 x p hp
  apply List.ext_getElem?
  intro j
  by_cases hj : j < 240
  · rw [h2 j hj, page_bytes hL hx j hj]
  · rw [List.getElem?_eq_none (by omega), List.getElem?_eq_none (by rw [pageOf_len partL_le]; omega)]
theorem isPut_of {L : List UInt8} {n : Nat} {ps : List (List UInt8)} (hL : L.length = n) (hl : ps.length = npg n) (h : ∀ x, x < npg n → ps[x]? = some (pageOf (partL L n x))) : IsPut L n ps := by
  refine ⟨hl, fun i p hp => ?_⟩
  have hi := (List.getElem?_eq_some_iff.1 hp).1
  rw [h i (by omega)] at hp
  cases hp
  exact ⟨pageOf_len partL_le, fun j hj => page_bytes hL (by omega) j hj⟩
/-- A page that its counts do not make: an error. -/
theorem take_bad {ps : List (List UInt8)} {n x : Nat} {p : List UInt8} (hl : ps.length = npg n) (hn : n ≤ 1024) (hx : x < npg n) (hp : ps[x]? = some p) (hbad : p.length = 240 → p ≠ pageOf (p.take (plen n x))) : takeN ps (n : Int) = (5, []) := by
  have h1 : takeN ps (n : Int) = (5, []) ∨ ∃ out, takeN ps (n : Int) = (0, out) := by
    unfold takeN
    rw [if_neg (by omega), Int.toNat_natCast, if_neg (by omega), if_neg (by omega)]
    split
    · split
      · exact Or.inr ⟨_, rfl⟩
      · exact Or.inl rfl
    · exact Or.inl rfl
  rcases h1 with h1 | ⟨out, h1⟩
  · exact h1
  · obtain ⟨h2, h3, _⟩ := take_put h1
    have hol : out.length = n := by omega
    rw [hol] at h3
    have h4 := isPut_get h3 hol hx hp
    have h5 : p.length = 240 := by rw [h4]; exact pageOf_len partL_le
    exfalso
    refine hbad h5 ?_
    have h6 : p.take (plen n x) = partL out n x := by
      rw [h4]
      unfold pageOf
      rw [List.take_append_of_le_length (by rw [partL_len hol hx]; omega), List.take_of_length_le (by rw [partL_len hol hx]; omega)]
    rw [h6]
    exact h4
/-- What copying a page's head into its part leaves. -/
def laidL (M : List UInt8) (n x : Nat) (p : List UInt8) : List UInt8 := M.take (240 * x) ++ (p.take (plen n x) ++ M.drop (240 * x + (p.take (plen n x)).length))
theorem laid_len {M : List UInt8} {n x : Nat} (p : List UInt8) (h : M.length = n) (hx : x < npg n) : (laidL M n x p).length = n := by
  have := plen_in hx
  have h1 : (p.take (plen n x)).length ≤ plen n x := by rw [List.length_take]; omega
  unfold laidL
  rw [List.length_append, List.length_append, List.length_drop, List.length_take]
  omega
theorem laid_same {M : List UInt8} {n x : Nat} {p : List UInt8} (h : M.length = n) (hx : x < npg n) (hp : plen n x ≤ p.length) : partL (laidL M n x p) n x = p.take (plen n x) := by
  have := plen_in hx
  have h1 : (p.take (plen n x)).length = plen n x := by rw [List.length_take]; omega
  have h2 : (M.take (240 * x)).length = 240 * x := by rw [List.length_take]; omega
  unfold partL laidL
  rw [List.drop_append_of_le_length (by omega), List.drop_of_length_le (by omega), List.nil_append, List.take_append_of_le_length (by omega), List.take_of_length_le (by omega)]
theorem laid_other {M : List UInt8} {n x y : Nat} {p : List UInt8} (h : M.length = n) (hx : x < npg n) (hy : y < npg n) (hp : plen n x ≤ p.length) (hne : y ≠ x) : partL (laidL M n x p) n y = partL M n y := by
  have h1 := plen_in hx
  have h3 := plen_in hy
  have h5 : (p.take (plen n x)).length = plen n x := by rw [List.length_take]; omega
  have h2 : (M.take (240 * x)).length = 240 * x := by rw [List.length_take]; omega
  have h6 := plen_le n x
  have h7 := plen_le n y
  unfold partL
  apply List.ext_getElem?
  intro j
  rw [List.getElem?_take, List.getElem?_take]
  split
  · rename_i hj
    rw [List.getElem?_drop, List.getElem?_drop]
    unfold laidL
    rcases Nat.lt_or_gt_of_ne hne with hlt | hlt
    · rw [List.getElem?_append_left (by omega), List.getElem?_take_of_lt (by omega)]
    · have h8 : 240 * x + plen n x ≤ 240 * y + j := by omega
      rw [List.getElem?_append_right (by omega), h2, List.getElem?_append_right (by omega), List.getElem?_drop, h5]
      congr 1
      omega
  · rfl
end Go.Proofs.Ytkfpkbmkmbnjcaa
