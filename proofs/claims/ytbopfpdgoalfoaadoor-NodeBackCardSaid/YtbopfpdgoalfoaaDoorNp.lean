/- What one pair of numbers more makes of what bytes say; what the two marks say. -/
import Derived.Test.YtbopfpdgoalfoaaDoorNo
namespace Go.Proofs.YtbopfpdgoalfoaaDoor
open Go.RowKit
set_option linter.unusedVariables false
set_option linter.unusedSimpArgs false

/-- Where taking stands: c pairs to come, K and V taken, l left, the error e. -/
def Stands (c : Nat) (K V : List Nat) (l : List UInt8) (e : Int) (R : Int × List Nat × List Nat) : Prop := (e = 0 → takeK c K V l = R) ∧ (e ≠ 0 → R = (e, [], []))
theorem numN_short0 {f : Nat → Bool} {s : Nat} {l : List UInt8} {e : Int} (he : e = 0) (h : l.length < s) : numN f s l e = (0, l, 4) := by rw [he, numN_short h]
theorem Stands.step {c : Nat} {K V : List Nat} {l : List UInt8} {e : Int} {R : Int × List Nat × List Nat} (h : Stands (c + 1) K V l e R) {a b : Nat × List UInt8 × Int} (ha : numN (fun x => !lowK K x) 8 l e = a) (hb : numN pointsB 8 a.2.1 a.2.2 = b) : Stands c (K ++ [a.1]) (V ++ [b.1]) b.2.1 b.2.2 R := by
  subst ha
  by_cases he : e = 0
  · have h1 := h.1 he
    subst he
    rw [takeK] at h1
    by_cases hs : l.length < 8
    · rw [if_pos hs] at h1
      rw [numN_short hs, numN_err (show (4 : Int) ≠ 0 by decide)] at hb
      subst hb
      exact ⟨fun h => absurd h (show ¬ (4 : Int) = 0 by decide), fun _ => h1.symm⟩
    · rw [if_neg hs] at h1
      cases hl : lowK K (val (l.take 8)) with
      | true =>
        rw [hl, if_pos rfl] at h1
        rw [numN_no hs (by rw [hl]; rfl), numN_err (show (5 : Int) ≠ 0 by decide)] at hb
        subst hb
        exact ⟨fun h => absurd h (show ¬ (5 : Int) = 0 by decide), fun _ => h1.symm⟩
      | false =>
        rw [hl, if_neg (by decide)] at h1
        rw [takeV] at h1
        rw [numN_yes hs (by rw [hl]; rfl)]
        rw [numN_yes hs (by rw [hl]; rfl)] at hb
        dsimp only at hb ⊢
        by_cases hs2 : (l.drop 8).length < 8
        · rw [if_pos hs2] at h1
          rw [numN_short hs2] at hb
          subst hb
          exact ⟨fun h => absurd h (show ¬ (4 : Int) = 0 by decide), fun _ => h1.symm⟩
        · rw [if_neg hs2] at h1
          by_cases hz : val ((l.drop 8).take 8) = 0
          · rw [if_pos hz] at h1
            rw [numN_no hs2 (by rw [hz]; rfl)] at hb
            subst hb
            exact ⟨fun h => absurd h (show ¬ (5 : Int) = 0 by decide), fun _ => h1.symm⟩
          · rw [if_neg hz] at h1
            rw [numN_yes hs2 (by unfold pointsB; rw [decide_eq_false hz]; rfl)] at hb
            subst hb
            exact ⟨fun _ => h1, fun h => absurd rfl h⟩
  · rw [numN_err he] at hb
    dsimp only at hb
    rw [numN_err he] at hb
    subst hb
    exact ⟨fun h => absurd h he, fun _ => h.2 he⟩
/-- What comes of it, with the kind. -/
def withKind (lf : Bool) (R : Int × List Nat × List Nat) : Int × Bool × List Nat × List Nat := if R.1 = 0 then (0, lf, R.2) else (R.1, false, [], [])
theorem val_single (a : UInt8) : val [a] = a.toNat := by simp [val]
theorem u8_is {a : UInt8} {m k : Nat} (h : a.toNat = m) (hk : k < 256) : a = UInt8.ofNat k ↔ m = k := by
  rw [← h]
  constructor
  · intro e; rw [e]; simp; omega
  · intro e; exact UInt8.toNat_inj.1 (by rw [e]; simp; omega)
theorem marks_yes {l : List UInt8} {a b : Nat × List UInt8 × Int} (ha : numN knownB 1 l 0 = a) (hb : numN fewB 1 a.2.1 a.2.2 = b) (h0 : b.2.2 = 0) : takeN l = withKind (decide (a.1 = 1)) (takeK b.1 [] [] b.2.1) ∧ b.1 ≤ 8 := by
  cases l with
  | nil =>
    rw [numN_short (by decide)] at ha
    subst ha
    rw [numN_err (show (4 : Int) ≠ 0 by decide)] at hb
    subst hb
    cases h0
  | cons x r =>
    have hx : (x :: r).take 1 = [x] := rfl
    by_cases hk : knownB x.toNat = true
    · rw [numN_yes (by simp) (by rw [hx, val_single]; exact hk)] at ha
      subst ha
      rw [hx, val_single]
      have h1 : ¬ (x ≠ 0 ∧ x ≠ 1) := by
        have e0 := u8_is (a := x) (k := 0) rfl (by decide)
        have e1 := u8_is (a := x) (k := 1) rfl (by decide)
        unfold knownB at hk
        simp at hk
        intro ⟨p, q⟩
        rcases hk with h | h
        · exact q (e1.2 h)
        · exact p (e0.2 h)
      have e1 := u8_is (a := x) (k := 1) rfl (by decide)
      have e2 : decide (x.toNat = 1) = decide (x = 1) := decide_eq_decide.2 e1.symm
      dsimp only at hb ⊢
      rw [e2]
      cases r with
      | nil =>
        rw [show ([x] : List UInt8).drop 1 = [] from rfl, numN_short (by decide)] at hb
        subst hb
        cases h0
      | cons y s =>
        have hy : (y :: s).take 1 = [y] := rfl
        rw [show (x :: y :: s).drop 1 = y :: s from rfl] at hb
        by_cases hf : fewB y.toNat = true
        · rw [numN_yes (by simp) (by rw [hy, val_single]; exact hf)] at hb
          subst hb
          rw [hy, val_single]
          have h2 : ¬ (y.toNat = 0 ∨ 8 < y.toNat) := by unfold fewB at hf; simp at hf; omega
          refine ⟨?_, by unfold fewB at hf; simp at hf; dsimp only; omega⟩
          unfold takeN withKind
          dsimp only
          rw [if_neg h1, if_neg h2]
          rfl
        · rw [numN_no (by simp) (by rw [hy, val_single]; simpa using hf)] at hb
          subst hb
          cases h0
    · rw [numN_no (by simp) (by rw [hx, val_single]; simpa using hk)] at ha
      subst ha
      rw [numN_err (show (5 : Int) ≠ 0 by decide)] at hb
      subst hb
      cases h0
theorem marks_no {l : List UInt8} {a b : Nat × List UInt8 × Int} (ha : numN knownB 1 l 0 = a) (hb : numN fewB 1 a.2.1 a.2.2 = b) (h0 : b.2.2 ≠ 0) : takeN l = (b.2.2, false, [], []) ∧ b.1 = 0 := by
  cases l with
  | nil =>
    rw [numN_short (by decide)] at ha
    subst ha
    rw [numN_err (show (4 : Int) ≠ 0 by decide)] at hb
    subst hb
    exact ⟨rfl, rfl⟩
  | cons x r =>
    have hx : (x :: r).take 1 = [x] := rfl
    by_cases hk : knownB x.toNat = true
    · rw [numN_yes (by simp) (by rw [hx, val_single]; exact hk)] at ha
      subst ha
      have h1 : ¬ (x ≠ 0 ∧ x ≠ 1) := by
        have e0 := u8_is (a := x) (k := 0) rfl (by decide)
        have e1 := u8_is (a := x) (k := 1) rfl (by decide)
        unfold knownB at hk
        simp at hk
        intro ⟨p, q⟩
        rcases hk with h | h
        · exact q (e1.2 h)
        · exact p (e0.2 h)
      dsimp only at hb ⊢
      cases r with
      | nil =>
        rw [show ([x] : List UInt8).drop 1 = [] from rfl, numN_short (by decide)] at hb
        subst hb
        refine ⟨?_, rfl⟩
        unfold takeN
        dsimp only
        rw [if_neg h1]
      | cons y s =>
        have hy : (y :: s).take 1 = [y] := rfl
        rw [show (x :: y :: s).drop 1 = y :: s from rfl] at hb
        by_cases hf : fewB y.toNat = true
        · rw [numN_yes (by simp) (by rw [hy, val_single]; exact hf)] at hb
          subst hb
          exact absurd rfl h0
        · rw [numN_no (by simp) (by rw [hy, val_single]; simpa using hf)] at hb
          subst hb
          have h2 : y.toNat = 0 ∨ 8 < y.toNat := by unfold fewB at hf; simp at hf; omega
          refine ⟨?_, rfl⟩
          unfold takeN
          dsimp only
          rw [if_neg h1, if_pos h2]
    · rw [numN_no (by simp) (by rw [hx, val_single]; simpa using hk)] at ha
      subst ha
      rw [numN_err (show (5 : Int) ≠ 0 by decide)] at hb
      subst hb
      have h1 : x ≠ 0 ∧ x ≠ 1 := by
        have e0 := u8_is (a := x) (k := 0) rfl (by decide)
        have e1 := u8_is (a := x) (k := 1) rfl (by decide)
        unfold knownB at hk
        simp at hk
        exact ⟨fun e => hk.2 (e0.1 e), fun e => hk.1 (e1.1 e)⟩
      refine ⟨?_, rfl⟩
      unfold takeN
      dsimp only
      rw [if_pos h1]
/-- All in one: what Take answers, once the taking has ended. -/
theorem ended {l l' : List UInt8} {a b : Nat × List UInt8 × Int} {K V : List Nat} {e : Int} (ha : numN knownB 1 l 0 = a) (hb : numN fewB 1 a.2.1 a.2.2 = b) (hs : b.2.2 = 0 → Stands 0 K V l' e (takeK b.1 [] [] b.2.1)) (hn : b.2.2 ≠ 0 → e = b.2.2) :
    (e = 0 → takeN l = if l'.all (· == 0) then (0, decide (a.1 = 1), K, V) else (5, false, [], [])) ∧ (e ≠ 0 → takeN l = (e, false, [], [])) := by
  by_cases h0 : b.2.2 = 0
  · obtain ⟨h1, _⟩ := marks_yes ha hb h0
    obtain ⟨s1, s2⟩ := hs h0
    refine ⟨fun he => ?_, fun he => ?_⟩
    · have h3 := s1 he
      rw [takeK] at h3
      rw [h1, ← h3]
      cases l'.all (· == 0) <;> rfl
    · rw [h1, s2 he]
      unfold withKind
      rw [if_neg he]
  · obtain ⟨h1, _⟩ := marks_no ha hb h0
    have := hn h0
    subst this
    exact ⟨fun h => absurd h h0, fun _ => h1⟩
end Go.Proofs.YtbopfpdgoalfoaaDoor
