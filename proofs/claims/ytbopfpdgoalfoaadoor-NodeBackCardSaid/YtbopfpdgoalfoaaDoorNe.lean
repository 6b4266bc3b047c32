/- The reference: Put. -/
import Derived.Test.YtbopfpdgoalfoaaDoorNd
namespace Go.Proofs.YtbopfpdgoalfoaaDoor
open Go.RowKit
set_option linter.unusedVariables false
set_option linter.unusedSimpArgs false
attribute [local go_sem ↓] Go.wp_at_zero Go.wp_at_succ

theorem pairs_len : ∀ {K V : List Nat}, V.length = K.length → (pairsN K V).length = 16 * K.length
  | [], [], _ => rfl
  | k :: K, v :: V, h => by
    have h2 : V.length = K.length := by simpa using h
    rw [pairsN, List.length_append, List.length_append, be_length, be_length, pairs_len h2, List.length_cons]
    omega
theorem pairs_take : ∀ {K V : List Nat} {i k v : Nat}, V.length = K.length → K[i]? = some k → V[i]? = some v → pairsN (K.take (i + 1)) (V.take (i + 1)) = pairsN (K.take i) (V.take i) ++ (be k 8 ++ be v 8)
  | [], V, i, k, v, _, hk, _ => by simp at hk
  | a :: K, [], i, k, v, h, _, _ => by simp at h
  | a :: K, b :: V, 0, k, v, h, hk, hv => by
    simp at hk hv
    subst hk hv
    simp [pairsN]
  | a :: K, b :: V, i + 1, k, v, h, hk, hv => by
    have h2 : V.length = K.length := by simpa using h
    simp only [List.getElem?_cons_succ] at hk hv
    simp only [List.take_succ_cons, pairsN]
    rw [pairs_take h2 hk hv]
    simp [List.append_assoc]
theorem may_len {K V : List Nat} (h : mayB K V = true) : 1 ≤ K.length ∧ K.length ≤ 8 ∧ V.length = K.length := by
  unfold mayB at h
  simp only [Bool.and_eq_true, decide_eq_true_eq] at h
  exact ⟨h.1.1.1, h.1.1.2, h.1.2⟩
theorem one_row (w : World) (x : UInt8) (z : Int) (hz : (x.toNat : Int) = z) : Room (w.alloc (.cells #[.int .u8 z] 5)) w.heap.size (some ⟨w.heap.size, 0, none⟩) 1 1 (bts [x]) := by
  subst hz
  have hc := fun j => cell_of_row (w.alloc (.cells #[.int .u8 (x.toNat : Int)] 5)) w.heap.size j _ _ _ (heap_alloc_last w _)
  refine ⟨rfl, Nat.le_refl _, by decide, fun _ => ⟨w.heap.size, 0, rfl, Nat.le_refl _, fun j hj => ?_, fun j u hu => ?_⟩⟩
  · have h0 : j = 0 := by omega
    subst h0
    exact ⟨by rw [hc]; rfl, frozen_of_row _ _ _ _ _ (heap_alloc_last w _)⟩
  · have h0 : j = 0 := by have := (List.getElem?_eq_some_iff.1 hu).1; simp [bts] at this; omega
    subst h0
    rw [hc]
    exact hu
end Go.Proofs.YtbopfpdgoalfoaaDoor
