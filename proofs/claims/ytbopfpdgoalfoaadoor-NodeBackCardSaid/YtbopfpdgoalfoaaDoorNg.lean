/- The reference: Take. -/
import Derived.Test.YtbopfpdgoalfoaaDoorNf
namespace Go.Proofs.YtbopfpdgoalfoaaDoor
open Go.RowKit
set_option linter.unusedVariables false
set_option linter.unusedSimpArgs false
attribute [local go_sem ↓] Go.wp_at_zero Go.wp_at_succ

/-- What a Take answers. -/
def NodeRes (B : Nat) (e : Ending) (w' : World) (r : Int × Bool × List Nat × List Nat) : Prop := ∃ ka kc va vc, e = .returned (.tuple #[.agg #[.bool r.2.1, .slice ka r.2.2.1.length kc, .slice va r.2.2.2.length vc], .int .i64 r.1]) ∧ Room w' B ka r.2.2.1.length kc (uvs r.2.2.1) ∧ Room w' B va r.2.2.2.length vc (uvs r.2.2.2) ∧ ∀ q, q ∈ fp ka kc → q ∉ fp va vc
theorem NodeRes.none (B : Nat) (w' : World) (k : Int) : NodeRes B (.returned (.tuple #[.agg #[.bool false, .slice none 0 0, .slice none 0 0], .int .i64 k])) w' (k, false, [], []) := ⟨Option.none, 0, Option.none, 0, rfl, Room.nil _ _ _, Room.nil _ _ _, fun q hq => by simp [fp_zero] at hq⟩
theorem takeN_cons (a : UInt8) (l : List UInt8) : takeN (a :: l) = if a ≠ 0 ∧ a ≠ 1 then (5, false, [], []) else match l with
    | [] => (4, false, [], [])
    | b :: s => if b.toNat = 0 ∨ 8 < b.toNat then (5, false, [], []) else if (takeK b.toNat [] [] s).1 = 0 then (0, decide (a = 1), (takeK b.toNat [] [] s).2) else ((takeK b.toNat [] [] s).1, false, [], []) := by rfl
theorem low_none (x : Nat) : lowK [] x = false := rfl
theorem low_some {K : List Nat} {k z x : Nat} (hl : K.length = k + 1) (hz : K[k]? = some z) : lowK K x = decide (x ≤ z) := by
  unfold lowK
  rw [List.getLast?_eq_getElem?, hl, show k + 1 - 1 = k by omega, hz]
theorem takeK_zero (K V : List Nat) (l : List UInt8) : takeK 0 K V l = if l.all (· == 0) then (0, K, V) else (5, [], []) := by rw [takeK]
theorem takeK_succ (c : Nat) (K V : List Nat) (l : List UInt8) : takeK (c + 1) K V l = if l.length < 8 then (4, [], []) else if lowK K (val (l.take 8)) then (5, [], []) else takeV c (K ++ [val (l.take 8)]) V (l.drop 8) := by rw [takeK]
theorem takeV_eq (c : Nat) (K V : List Nat) (l : List UInt8) : takeV c K V l = if l.length < 8 then (4, [], []) else if val (l.take 8) = 0 then (5, [], []) else takeK c K (V ++ [val (l.take 8)]) (l.drop 8) := by rw [takeV]
/-- Where the loop stands: so many numbers were taken. -/
def At (cnt i : Nat) (K V : List Nat) (s : List UInt8) : Prop := (i = 2 * V.length ∧ K.length = V.length ∧ V.length ≤ cnt ∧ takeK cnt [] [] s = takeK (cnt - V.length) K V (s.drop (8 * i))) ∨ (i = 2 * V.length + 1 ∧ K.length = V.length + 1 ∧ K.length ≤ cnt ∧ takeK cnt [] [] s = takeV (cnt - K.length) K V (s.drop (8 * i)))
theorem At.start (cnt : Nat) (s : List UInt8) : At cnt 0 [] [] s := Or.inl ⟨rfl, rfl, Nat.zero_le _, by simp⟩
theorem At.short {cnt i : Nat} {K V : List Nat} {s : List UInt8} (h : At cnt i K V s) (hi : i < 2 * cnt) (hs : (s.drop (8 * i)).length < 8) : takeK cnt [] [] s = (4, [], []) := by
  rcases h with ⟨e1, e2, e3, e4⟩ | ⟨e1, e2, e3, e4⟩
  · rw [e4, show cnt - V.length = (cnt - V.length - 1) + 1 by omega, takeK_succ, if_pos hs]
  · rw [e4, takeV_eq, if_pos hs]
theorem At.low {cnt i : Nat} {K V : List Nat} {s : List UInt8} (h : At cnt i K V s) (hi : i < 2 * cnt) (h8 : 8 ≤ (s.drop (8 * i)).length) (he : i % 2 = 0) (hl : lowK K (val ((s.drop (8 * i)).take 8)) = true) : takeK cnt [] [] s = (5, [], []) := by
  rcases h with ⟨e1, e2, e3, e4⟩ | ⟨e1, e2, e3, e4⟩
  · rw [e4, show cnt - V.length = (cnt - V.length - 1) + 1 by omega, takeK_succ, if_neg (by omega), if_pos hl]
  · omega
theorem At.key {cnt i : Nat} {K V : List Nat} {s : List UInt8} (h : At cnt i K V s) (hi : i < 2 * cnt) (h8 : 8 ≤ (s.drop (8 * i)).length) (he : i % 2 = 0) (hl : lowK K (val ((s.drop (8 * i)).take 8)) = false) : At cnt (i + 1) (K ++ [val ((s.drop (8 * i)).take 8)]) V s := by
  rcases h with ⟨e1, e2, e3, e4⟩ | ⟨e1, e2, e3, e4⟩
  · refine Or.inr ⟨by omega, by simp [e2], by simp; omega, ?_⟩
    rw [e4, show cnt - V.length = (cnt - V.length - 1) + 1 by omega, takeK_succ, if_neg (by omega), if_neg (by rw [hl]; decide), List.drop_drop, show 8 * i + 8 = 8 * (i + 1) by omega]
    congr 1
    simp; omega
  · omega
theorem At.nought {cnt i : Nat} {K V : List Nat} {s : List UInt8} (h : At cnt i K V s) (h8 : 8 ≤ (s.drop (8 * i)).length) (he : i % 2 = 1) (hl : val ((s.drop (8 * i)).take 8) = 0) : takeK cnt [] [] s = (5, [], []) := by
  rcases h with ⟨e1, e2, e3, e4⟩ | ⟨e1, e2, e3, e4⟩
  · omega
  · rw [e4, takeV_eq, if_neg (by omega), if_pos hl]
theorem At.value {cnt i : Nat} {K V : List Nat} {s : List UInt8} (h : At cnt i K V s) (h8 : 8 ≤ (s.drop (8 * i)).length) (he : i % 2 = 1) (hl : val ((s.drop (8 * i)).take 8) ≠ 0) : At cnt (i + 1) K (V ++ [val ((s.drop (8 * i)).take 8)]) s := by
  rcases h with ⟨e1, e2, e3, e4⟩ | ⟨e1, e2, e3, e4⟩
  · omega
  · refine Or.inl ⟨by simp; omega, by simp; omega, by simp; omega, ?_⟩
    rw [e4, takeV_eq, if_neg (by omega), if_neg hl, List.drop_drop, show 8 * i + 8 = 8 * (i + 1) by omega]
    congr 1
    simp; omega
theorem At.last {cnt : Nat} {K V : List Nat} {s : List UInt8} (h : At cnt (2 * cnt) K V s) : takeK cnt [] [] s = if (s.drop (16 * cnt)).all (· == 0) then (0, K, V) else (5, [], []) := by
  rcases h with ⟨e1, e2, e3, e4⟩ | ⟨e1, e2, e3, e4⟩
  · rw [e4, show cnt - V.length = 0 by omega, takeK_zero, show 8 * (2 * cnt) = 16 * cnt by omega]
  · omega
theorem At.lens {cnt i : Nat} {K V : List Nat} {s : List UInt8} (h : At cnt i K V s) : (i % 2 = 0 → K.length = i / 2 ∧ V.length = i / 2) ∧ (i % 2 = 1 → K.length = i / 2 + 1 ∧ V.length = i / 2) := by
  rcases h with ⟨e1, e2, e3, e4⟩ | ⟨e1, e2, e3, e4⟩
  · exact ⟨fun _ => by omega, fun _ => by omega⟩
  · exact ⟨fun _ => by omega, fun _ => by omega⟩
end Go.Proofs.YtbopfpdgoalfoaaDoor
