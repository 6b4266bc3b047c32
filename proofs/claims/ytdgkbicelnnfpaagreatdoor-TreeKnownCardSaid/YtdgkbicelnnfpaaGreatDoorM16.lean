/- Texts Np, Ng, Nh, Rv of the library, joined. -/
import Derived.Test.YtdgkbicelnnfpaaGreatDoorM14
import Derived.Test.YtdgkbicelnnfpaaGreatDoorM15
import Derived.OrdersHeld
import Derived.StillTail
import Derived.Tactics
import Derived.WalkKit
/- What one pair of numbers more makes of what bytes say; what the two marks say. -/
namespace Go.Proofs.YtdgkbicelnnfpaaGreatDoor
open Go.RowKit
set_option linter.unusedVariables false
set_option linter.unusedSimpArgs false

/-- Where taking stands: c pairs to come, K and V taken, l left, the error e. -/
def Stands (c : Nat) (K V : List Nat) (l : List UInt8) (e : Int) (R : Int × List Nat × List Nat) : Prop := (e = 0 → takeK c K V l = R) ∧ (e ≠ 0 → R = (e, [], []))
theorem Stands.step {c : Nat} {K V : List Nat} {l : List UInt8} {e : Int} {R : Int × List Nat × List Nat} (h : Stands (c + 1) K V l e R) {a b : Nat × List UInt8 × Int} (ha : numN (fun x => !lowK K x) 8 l e = a) (hb : numN pointsB 8 a.2.1 a.2.2 = b) : Stands c (K ++ [a.1]) (V ++ [b.1]) b.2.1 b.2.2 R := by
  subst ha
  by_cases he : e = 0
  · have h1 := h.1 he
    subst he
    rw [takeK] at h1
    by_cases hs : l.length < 8
    · rw [if_pos hs] at h1
      rw [numN_short hs, numN_err (show (4 : Int) ≠ 0 by decide)] at hb
      subst hb
      exact ⟨fun h => absurd h (show ¬ (4 : Int) = 0 by decide), fun _ => h1.symm⟩
    · rw [if_neg hs] at h1
      cases hl : lowK K (val (l.take 8)) with
      | true =>
        rw [hl, if_pos rfl] at h1
        rw [numN_no hs (by rw [hl]; rfl), numN_err (show (5 : Int) ≠ 0 by decide)] at hb
        subst hb
        exact ⟨fun h => absurd h (show ¬ (5 : Int) = 0 by decide), fun _ => h1.symm⟩
      | false =>
        rw [hl, if_neg (by decide)] at h1
        rw [takeV] at h1
        rw [numN_yes hs (by rw [hl]; rfl)]
        rw [numN_yes hs (by rw [hl]; rfl)] at hb
        dsimp only at hb ⊢
        by_cases hs2 : (l.drop 8).length < 8
        · rw [if_pos hs2] at h1
          rw [numN_short hs2] at hb
          subst hb
          exact ⟨fun h => absurd h (show ¬ (4 : Int) = 0 by decide), fun _ => h1.symm⟩
        · rw [if_neg hs2] at h1
          by_cases hz : val ((l.drop 8).take 8) = 0
          · rw [if_pos hz] at h1
            rw [numN_no hs2 (by rw [hz]; rfl)] at hb
            subst hb
            exact ⟨fun h => absurd h (show ¬ (5 : Int) = 0 by decide), fun _ => h1.symm⟩
          · rw [if_neg hz] at h1
            rw [numN_yes hs2 (by unfold pointsB; rw [decide_eq_false hz]; rfl)] at hb
            subst hb
            exact ⟨fun _ => h1, fun h => absurd rfl h⟩
  · rw [numN_err he] at hb
    dsimp only at hb
    rw [numN_err he] at hb
    subst hb
    exact ⟨fun h => absurd h he, fun _ => h.2 he⟩
/-- What comes of it, with the kind. -/
def withKind (lf : Bool) (R : Int × List Nat × List Nat) : Int × Bool × List Nat × List Nat := if R.1 = 0 then (0, lf, R.2) else (R.1, false, [], [])
theorem val_single (a : UInt8) : val [a] = a.toNat := by simp [val]
theorem u8_is {a : UInt8} {m k : Nat} (h : a.toNat = m) (hk : k < 256) : a = UInt8.ofNat k ↔ m = k := by
  rw [← h]
  constructor
  · intro e; rw [e]; simp; omega
  · intro e; exact UInt8.toNat_inj.1 (by rw [e]; simp; omega)
theorem marks_yes {l : List UInt8} {a b : Nat × List UInt8 × Int} (ha : numN knownB 1 l 0 = a) (hb : numN fewB 1 a.2.1 a.2.2 = b) (h0 : b.2.2 = 0) : takeN l = withKind (decide (a.1 = 1)) (takeK b.1 [] [] b.2.1) ∧ b.1 ≤ 8 := by
  cases l with
  | nil =>
    rw [numN_short (by decide)] at ha
    subst ha
    rw [numN_err (show (4 : Int) ≠ 0 by decide)] at hb
    subst hb
    cases h0
  | cons x r =>
    have hx : (x :: r).take 1 = [x] := rfl
    by_cases hk : knownB x.toNat = true
    · rw [numN_yes (by simp) (by rw [hx, val_single]; exact hk)] at ha
      subst ha
      rw [hx, val_single]
      have h1 : ¬ (x ≠ 0 ∧ x ≠ 1) := by
        have e0 := u8_is (a := x) (k := 0) rfl (by decide)
        have e1 := u8_is (a := x) (k := 1) rfl (by decide)
        unfold knownB at hk
        simp at hk
        intro ⟨p, q⟩
        rcases hk with h | h
        · exact q (e1.2 h)
        · exact p (e0.2 h)
      have e1 := u8_is (a := x) (k := 1) rfl (by decide)
      have e2 : decide (x.toNat = 1) = decide (x = 1) := decide_eq_decide.2 e1.symm
      dsimp only at hb ⊢
      rw [e2]
      cases r with
      | nil =>
        rw [show ([x] : List UInt8).drop 1 = [] from rfl, numN_short (by decide)] at hb
        subst hb
        cases h0
      | cons y s =>
        have hy : (y :: s).take 1 = [y] := rfl
        rw [show (x :: y :: s).drop 1 = y :: s from rfl] at hb
        by_cases hf : fewB y.toNat = true
        · rw [numN_yes (by simp) (by rw [hy, val_single]; exact hf)] at hb
          subst hb
          rw [hy, val_single]
          have h2 : ¬ (y.toNat = 0 ∨ 8 < y.toNat) := by unfold fewB at hf; simp at hf; omega
          refine ⟨?_, by unfold fewB at hf; simp at hf; dsimp only; omega⟩
          unfold takeN withKind
          dsimp only
          rw [if_neg h1, if_neg h2]
          rfl
        · rw [numN_no (by simp) (by rw [hy, val_single]; simpa using hf)] at hb
          subst hb
          cases h0
    · rw [numN_no (by simp) (by rw [hx, val_single]; simpa using hk)] at ha
      subst ha
      rw [numN_err (show (5 : Int) ≠ 0 by decide)] at hb
      subst hb
      cases h0
theorem marks_no {l : List UInt8} {a b : Nat × List UInt8 × Int} (ha : numN knownB 1 l 0 = a) (hb : numN fewB 1 a.2.1 a.2.2 = b) (h0 : b.2.2 ≠ 0) : takeN l = (b.2.2, false, [], []) ∧ b.1 = 0 := by
  cases l with
  | nil =>
    rw [numN_short (by decide)] at ha
    subst ha
    rw [numN_err (show (4 : Int) ≠ 0 by decide)] at hb
    subst hb
    exact ⟨rfl, rfl⟩
  | cons x r =>
    have hx : (x :: r).take 1 = [x] := rfl
    by_cases hk : knownB x.toNat = true
    · rw [numN_yes (by simp) (by rw [hx, val_single]; exact hk)] at ha
      subst ha
      have h1 : ¬ (x ≠ 0 ∧ x ≠ 1) := by
        have e0 := u8_is (a := x) (k := 0) rfl (by decide)
        have e1 := u8_is (a := x) (k := 1) rfl (by decide)
        unfold knownB at hk
        simp at hk
        intro ⟨p, q⟩
        rcases hk with h | h
        · exact q (e1.2 h)
        · exact p (e0.2 h)
      dsimp only at hb ⊢
      cases r with
      | nil =>
        rw [show ([x] : List UInt8).drop 1 = [] from rfl, numN_short (by decide)] at hb
        subst hb
        refine ⟨?_, rfl⟩
        unfold takeN
        dsimp only
        rw [if_neg h1]
      | cons y s =>
        have hy : (y :: s).take 1 = [y] := rfl
        rw [show (x :: y :: s).drop 1 = y :: s from rfl] at hb
        by_cases hf : fewB y.toNat = true
        · rw [numN_yes (by simp) (by rw [hy, val_single]; exact hf)] at hb
          subst hb
          exact absurd rfl h0
        · rw [numN_no (by simp) (by rw [hy, val_single]; simpa using hf)] at hb
          subst hb
          have h2 : y.toNat = 0 ∨ 8 < y.toNat := by unfold fewB at hf; simp at hf; omega
          refine ⟨?_, rfl⟩
          unfold takeN
          dsimp only
          rw [if_neg h1, if_pos h2]
    · rw [numN_no (by simp) (by rw [hx, val_single]; simpa using hk)] at ha
      subst ha
      rw [numN_err (show (5 : Int) ≠ 0 by decide)] at hb
      subst hb
      have h1 : x ≠ 0 ∧ x ≠ 1 := by
        have e0 := u8_is (a := x) (k := 0) rfl (by decide)
        have e1 := u8_is (a := x) (k := 1) rfl (by decide)
        unfold knownB at hk
        simp at hk
        exact ⟨fun e => hk.2 (e0.1 e), fun e => hk.1 (e1.1 e)⟩
      refine ⟨?_, rfl⟩
      unfold takeN
      dsimp only
      rw [if_pos h1]
/-- All in one: what Take answers, once the taking has ended. -/
theorem ended {l l' : List UInt8} {a b : Nat × List UInt8 × Int} {K V : List Nat} {e : Int} (ha : numN knownB 1 l 0 = a) (hb : numN fewB 1 a.2.1 a.2.2 = b) (hs : b.2.2 = 0 → Stands 0 K V l' e (takeK b.1 [] [] b.2.1)) (hn : b.2.2 ≠ 0 → e = b.2.2) :
    (e = 0 → takeN l = if l'.all (· == 0) then (0, decide (a.1 = 1), K, V) else (5, false, [], [])) ∧ (e ≠ 0 → takeN l = (e, false, [], [])) := by
  by_cases h0 : b.2.2 = 0
  · obtain ⟨h1, _⟩ := marks_yes ha hb h0
    obtain ⟨s1, s2⟩ := hs h0
    refine ⟨fun he => ?_, fun he => ?_⟩
    · have h3 := s1 he
      rw [takeK] at h3
      rw [h1, ← h3]
      cases l'.all (· == 0) <;> rfl
    · rw [h1, s2 he]
      unfold withKind
      rw [if_neg he]
  · obtain ⟨h1, _⟩ := marks_no ha hb h0
    have := hn h0
    subst this
    exact ⟨fun h => absurd h h0, fun _ => h1⟩
end Go.Proofs.YtdgkbicelnnfpaaGreatDoor

/- The reference: Take. -/
namespace Go.Proofs.YtdgkbicelnnfpaaGreatDoor
open Go.RowKit
set_option linter.unusedVariables false
set_option linter.unusedSimpArgs false
attribute [local go_sem ↓] Go.wp_at_zero Go.wp_at_succ

/-- What a Take answers. -/
def NodeRes (B : Nat) (e : Ending) (w' : World) (r : Int × Bool × List Nat × List Nat) : Prop := ∃ ka kc va vc, e = .returned (.tuple #[.agg #[.bool r.2.1, .slice ka r.2.2.1.length kc, .slice va r.2.2.2.length vc], .int .i64 r.1]) ∧ Room w' B ka r.2.2.1.length kc (uvs r.2.2.1) ∧ Room w' B va r.2.2.2.length vc (uvs r.2.2.2) ∧ ∀ q, q ∈ fp ka kc → q ∉ fp va vc
theorem NodeRes.none (B : Nat) (w' : World) (k : Int) : NodeRes B (.returned (.tuple #[.agg #[.bool false, .slice none 0 0, .slice none 0 0], .int .i64 k])) w' (k, false, [], []) := ⟨Option.none, 0, Option.none, 0, rfl, Room.nil _ _ _, Room.nil _ _ _, fun q hq => by simp [fp_zero] at hq⟩
theorem takeN_cons (a : UInt8) (l : List UInt8) : takeN (a :: l) = if a ≠ 0 ∧ a ≠ 1 then (5, false, [], []) else match l with
    | [] => (4, false, [], [])
    | b :: s => if b.toNat = 0 ∨ 8 < b.toNat then (5, false, [], []) else if (takeK b.toNat [] [] s).1 = 0 then (0, decide (a = 1), (takeK b.toNat [] [] s).2) else ((takeK b.toNat [] [] s).1, false, [], []) := by rfl
theorem takeK_zero (K V : List Nat) (l : List UInt8) : takeK 0 K V l = if l.all (· == 0) then (0, K, V) else (5, [], []) := by rw [takeK]
theorem takeK_succ (c : Nat) (K V : List Nat) (l : List UInt8) : takeK (c + 1) K V l = if l.length < 8 then (4, [], []) else if lowK K (val (l.take 8)) then (5, [], []) else takeV c (K ++ [val (l.take 8)]) V (l.drop 8) := by rw [takeK]
theorem takeV_eq (c : Nat) (K V : List Nat) (l : List UInt8) : takeV c K V l = if l.length < 8 then (4, [], []) else if val (l.take 8) = 0 then (5, [], []) else takeK c K (V ++ [val (l.take 8)]) (l.drop 8) := by rw [takeV]
/-- Where the loop stands: so many numbers were taken. -/
def At (cnt i : Nat) (K V : List Nat) (s : List UInt8) : Prop := (i = 2 * V.length ∧ K.length = V.length ∧ V.length ≤ cnt ∧ takeK cnt [] [] s = takeK (cnt - V.length) K V (s.drop (8 * i))) ∨ (i = 2 * V.length + 1 ∧ K.length = V.length + 1 ∧ K.length ≤ cnt ∧ takeK cnt [] [] s = takeV (cnt - K.length) K V (s.drop (8 * i)))
theorem At.start (cnt : Nat) (s : List UInt8) : At cnt 0 [] [] s := Or.inl ⟨rfl, rfl, Nat.zero_le _, by simp⟩
theorem At.low {cnt i : Nat} {K V : List Nat} {s : List UInt8} (h : At cnt i K V s) (hi : i < 2 * cnt) (h8 : 8 ≤ (s.drop (8 * i)).length) (he : i % 2 = 0) (hl : lowK K (val ((s.drop (8 * i)).take 8)) = true) : takeK cnt [] [] s = (5, [], []) := by
  rcases h with ⟨e1, e2, e3, e4⟩ | ⟨e1, e2, e3, e4⟩
  · rw [e4, show cnt - V.length = (cnt - V.length - 1) + 1 by omega, takeK_succ, if_neg (by omega), if_pos hl]
  · omega
theorem At.key {cnt i : Nat} {K V : List Nat} {s : List UInt8} (h : At cnt i K V s) (hi : i < 2 * cnt) (h8 : 8 ≤ (s.drop (8 * i)).length) (he : i % 2 = 0) (hl : lowK K (val ((s.drop (8 * i)).take 8)) = false) : At cnt (i + 1) (K ++ [val ((s.drop (8 * i)).take 8)]) V s := by
  rcases h with ⟨e1, e2, e3, e4⟩ | ⟨e1, e2, e3, e4⟩
  · refine Or.inr ⟨by omega, by simp [e2], by simp; omega, ?_⟩
    rw [e4, show cnt - V.length = (cnt - V.length - 1) + 1 by omega, takeK_succ, if_neg (by omega), if_neg (by rw [hl]; decide), List.drop_drop, show 8 * i + 8 = 8 * (i + 1) by omega]
    congr 1
    simp; omega
  · omega
theorem At.value {cnt i : Nat} {K V : List Nat} {s : List UInt8} (h : At cnt i K V s) (h8 : 8 ≤ (s.drop (8 * i)).length) (he : i % 2 = 1) (hl : val ((s.drop (8 * i)).take 8) ≠ 0) : At cnt (i + 1) K (V ++ [val ((s.drop (8 * i)).take 8)]) s := by
  rcases h with ⟨e1, e2, e3, e4⟩ | ⟨e1, e2, e3, e4⟩
  · omega
  · refine Or.inl ⟨by simp; omega, by simp; omega, by simp; omega, ?_⟩
    rw [e4, takeV_eq, if_neg (by omega), if_neg hl, List.drop_drop, show 8 * i + 8 = 8 * (i + 1) by omega]
    congr 1
    simp; omega
theorem At.lens {cnt i : Nat} {K V : List Nat} {s : List UInt8} (h : At cnt i K V s) : (i % 2 = 0 → K.length = i / 2 ∧ V.length = i / 2) ∧ (i % 2 = 1 → K.length = i / 2 + 1 ∧ V.length = i / 2) := by
  rcases h with ⟨e1, e2, e3, e4⟩ | ⟨e1, e2, e3, e4⟩
  · exact ⟨fun _ => by omega, fun _ => by omega⟩
  · exact ⟨fun _ => by omega, fun _ => by omega⟩
end Go.Proofs.YtdgkbicelnnfpaaGreatDoor

/- The reference: the node that Take builds. -/
namespace Go.Proofs.YtdgkbicelnnfpaaGreatDoor
open Go.RowKit
set_option linter.unusedVariables false
set_option linter.unusedSimpArgs false

/-- The node that a Take builds at nb, and the place R of its answer. -/
structure NBlk (w : World) (R nb B : Nat) (lf : Bool) (ka : Option Addr) (kc : Nat) (va : Option Addr) (vc : Nat) (K V : List Nat) : Prop where
  c0 : w.cell? ⟨nb, 0, none⟩ = some (.bool lf)
  c1 : w.cell? ⟨nb, 1, none⟩ = some (.slice ka K.length kc)
  c2 : w.cell? ⟨nb, 2, none⟩ = some (.slice va V.length vc)
  f1 : w.frozen? ⟨nb, 1, none⟩ = false
  f2 : w.frozen? ⟨nb, 2, none⟩ = false
  rk : Room w B ka K.length kc (uvs K)
  rv : Room w B va V.length vc (uvs V)
  dj : ∀ q, q ∈ fp ka kc → q ∉ fp va vc
  th : w.there R 0 3
  hR : R < B
  hn : nb < B
  ne : R ≠ nb
  hB : B ≤ w.heap.size
theorem setN_other {w : World} {b i j : Nat} {u v : Value} (h : w.cell? ⟨b, j, none⟩ = some v) (hne : j ≠ i) : (w.setCell ⟨b, i, none⟩ u).cell? ⟨b, j, none⟩ = some v := by
  rw [World.cell?_setCell_other _ _ _ _ (by simp [hne])]
  exact h
/-- A key more. -/
theorem NBlk.key {w w3 : World} {R nb B : Nat} {lf : Bool} {ka : Option Addr} {kc : Nat} {va : Option Addr} {vc : Nat} {K V : List Nat} (h : NBlk w R nb B lf ka kc va vc K V) {x : Nat} {a' : Option Addr} {c' : Nat} (r : Room w3 B a' (K.length + 1) c' (uvs K ++ [.int .u64 (x : Int)])) (g : Chg (fp ka kc) w w3) (hf : fp a' c' = fp ka kc ∨ ∃ k, w.heap.size ≤ k ∧ fp a' c' = [k]) :
    NBlk (w3.setCell ⟨nb, 1, none⟩ (.slice a' (K.length + 1) c')) R nb B lf a' c' va vc (K ++ [x]) V := by
  have g4 : Chg [nb] w3 (w3.setCell ⟨nb, 1, none⟩ (.slice a' (K.length + 1) c')) := Chg.setCell w3 ⟨nb, 1, none⟩ _
  have d1 : nb ∉ fp ka kc := fun hm => by have := (h.rk.lt nb hm).1; have := h.hn; omega
  have d2 : R ∉ fp ka kc := fun hm => by have := (h.rk.lt R hm).1; have := h.hR; omega
  have d3 : nb ∉ fp a' c' := fun hm => by have := (r.lt nb hm).1; have := h.hn; omega
  have d4 : nb ∉ fp va vc := fun hm => by have := (h.rv.lt nb hm).1; have := h.hn; omega
  have e : (K ++ [x]).length = K.length + 1 := by simp
  have eu : uvs (K ++ [x]) = uvs K ++ [.int .u64 (x : Int)] := by rw [uvs_append]; rfl
  refine ⟨setN_other (g.cellv h.c0 d1) (by decide), ?_, setN_other (g.cellv h.c2 d1) (by decide), ?_, ?_, ?_, ?_, ?_, there_chg (there_chg h.th g d2) g4 (by simpa using h.ne), h.hR, h.hn, h.ne, Nat.le_trans h.hB (Nat.le_trans g.size g4.size)⟩
  · rw [e]; exact World.cell?_setCell_same _ _ _ (g.cellv h.c1 d1)
  · rw [World.frozen?_setCell]; exact (g.frozen (p := ⟨nb, 1, none⟩) (block_lt_of_cell h.c1) d1).trans h.f1
  · rw [World.frozen?_setCell]; exact (g.frozen (p := ⟨nb, 2, none⟩) (block_lt_of_cell h.c2) d1).trans h.f2
  · rw [e, eu]; exact r.chg g4 (fun k hk hm => by simp at hm; subst hm; exact d3 hk)
  · exact (h.rv.chg g (fun k hk hm => h.dj k hm hk)).chg g4 (fun k hk hm => by simp at hm; subst hm; exact d4 hk)
  · intro q hq
    rcases hf with e1 | ⟨k, h1, e1⟩
    · rw [e1] at hq; exact h.dj q hq
    · rw [e1] at hq; simp at hq; subst hq
      exact fun hm => by have := (h.rv.lt _ hm).2; omega
/-- A value more. -/
theorem NBlk.value {w w3 : World} {R nb B : Nat} {lf : Bool} {ka : Option Addr} {kc : Nat} {va : Option Addr} {vc : Nat} {K V : List Nat} (h : NBlk w R nb B lf ka kc va vc K V) {x : Nat} {a' : Option Addr} {c' : Nat} (r : Room w3 B a' (V.length + 1) c' (uvs V ++ [.int .u64 (x : Int)])) (g : Chg (fp va vc) w w3) (hf : fp a' c' = fp va vc ∨ ∃ k, w.heap.size ≤ k ∧ fp a' c' = [k]) :
    NBlk (w3.setCell ⟨nb, 2, none⟩ (.slice a' (V.length + 1) c')) R nb B lf ka kc a' c' K (V ++ [x]) := by
  have g4 : Chg [nb] w3 (w3.setCell ⟨nb, 2, none⟩ (.slice a' (V.length + 1) c')) := Chg.setCell w3 ⟨nb, 2, none⟩ _
  have d1 : nb ∉ fp va vc := fun hm => by have := (h.rv.lt nb hm).1; have := h.hn; omega
  have d2 : R ∉ fp va vc := fun hm => by have := (h.rv.lt R hm).1; have := h.hR; omega
  have d3 : nb ∉ fp a' c' := fun hm => by have := (r.lt nb hm).1; have := h.hn; omega
  have d4 : nb ∉ fp ka kc := fun hm => by have := (h.rk.lt nb hm).1; have := h.hn; omega
  have e : (V ++ [x]).length = V.length + 1 := by simp
  have eu : uvs (V ++ [x]) = uvs V ++ [.int .u64 (x : Int)] := by rw [uvs_append]; rfl
  refine ⟨setN_other (g.cellv h.c0 d1) (by decide), setN_other (g.cellv h.c1 d1) (by decide), ?_, ?_, ?_, ?_, ?_, ?_, there_chg (there_chg h.th g d2) g4 (by simpa using h.ne), h.hR, h.hn, h.ne, Nat.le_trans h.hB (Nat.le_trans g.size g4.size)⟩
  · rw [e]; exact World.cell?_setCell_same _ _ _ (g.cellv h.c2 d1)
  · rw [World.frozen?_setCell]; exact (g.frozen (p := ⟨nb, 1, none⟩) (block_lt_of_cell h.c1) d1).trans h.f1
  · rw [World.frozen?_setCell]; exact (g.frozen (p := ⟨nb, 2, none⟩) (block_lt_of_cell h.c2) d1).trans h.f2
  · exact (h.rk.chg g (fun k hk hm => h.dj k hk hm)).chg g4 (fun k hk hm => by simp at hm; subst hm; exact d4 hk)
  · rw [e, eu]; exact r.chg g4 (fun k hk hm => by simp at hm; subst hm; exact d3 hk)
  · intro q hq
    rcases hf with e1 | ⟨k, h1, e1⟩
    · rw [e1]; exact h.dj q hq
    · rw [e1]; simp
      exact fun hm => by have := (h.rk.lt _ hq).2; omega
end Go.Proofs.YtdgkbicelnnfpaaGreatDoor

/- A region that draws its order and whose last operation, in whatever order, ends what the reads lean on (x.f = append(x.f, v)): the condition S is asked behind each operation but that one. No program is named here. -/
namespace Go.Proofs.YtdgkbicelnnfpaaGreatDoor
open Go.RowKit
set_option linter.unusedVariables false

section
variable {P : Program} {ops : Array Oper} {Q : Exit → Act → World → Prop} {md : Region.Mode} {S : World → Prop} {m : Nat}
/-- Whatever order is drawn from here on: S holds behind each operation ahead of number m. -/
def Whichever (P : Program) (md : Region.Mode) (ops : Array Oper) (Q : Exit → Act → World → Prop) (S : World → Prop) (m : Nat) : Nat → Array Bool → Act → World → Prop
  | 0, done, a, w => Region.ready md ops done = [] ∧ Q .normal a w
  | n + 1, done, a, w => (Region.ready md ops done = [] → Q .normal a w) ∧ ∀ i ∈ Region.ready md ops done,
      wpOp P ops Q i (fun b u => (i < m → S u) ∧ Whichever P md ops Q S m n (done.setIfInBounds i true) b u) a w
theorem Whichever.any : ∀ (n : Nat) (done : Array Bool) (a : Act) (w : World), Whichever P md ops Q S m n done a w → wpAny P md ops Q n done a w
  | 0, _, _, _, h => h
  | n + 1, _, _, _, h => ⟨h.1, fun i hi => wpOp_mono (fun b u k => Whichever.any n _ b u k.2) (h.2 i hi)⟩
theorem still_ready {i j : Nat} {oj : Oper} {done : Array Bool} (hi : i ∈ Region.ready md ops done) (hj : j ∈ Region.ready md ops done) (hoj : ops[j]? = some oj) : ∀ e ∈ oj.after, Region.binds md e = true → e.on ≠ i := by
  intro e he hb heq
  have hun := (mem_ready.1 hi).1
  obtain ⟨_, o', ho', hall⟩ := mem_ready.1 hj
  cases Option.some.inj (hoj.symm.trans ho')
  have h1 := hall e he hb
  rw [heq, getD_both hun] at h1
  cases h1
theorem Whichever.first {i : Nat} {oi : Oper} {v : Value} (hi : ops[i]? = some oi) (him : i < m) (hm : ops.size = m + 1) (hs : Region.sinkB md ops m = true) (hc : Region.chainB md ops m = true) (hsel : ∀ (j : Nat) (o : Oper) cs b, ops[j]? = some o → o.op ≠ .select cs b)
    (hQ : ∀ c a w, Q (.panic c) (a.put oi.dst v) w → Q (.panic c) a w) : ∀ (n : Nat) (done : Array Bool) (a : Act) (w : World), HeadInv md ops m done →
      (∀ j oj, ops[j]? = some oj → j ≠ i → done.getD j true = false → (∀ e ∈ oj.after, Region.binds md e = true → e.on ≠ i) → oi.apart ops oj = true) →
      i ∈ Region.ready md ops done → YieldsIf P ops S oi v a → S w → Whichever P md ops Q S m n (done.setIfInBounds i true) (a.put oi.dst v) w → Whichever P md ops Q S m (n + 1) done a w := by
  intro n
  induction n with
  | zero =>
    intro done a w _ _ hr hy hS H
    refine ⟨fun h => absurd hr (by rw [h]; simp), fun j hj => ?_⟩
    by_cases hji : j = i
    · subst hji
      exact hy.wpOp hi hS ⟨fun _ => hS, H⟩
    · exact absurd (ready_mono hj hji) (by rw [H.1]; simp)
  | succ n ih =>
    intro done a w inv hfree hr hy hS H
    refine ⟨fun h => absurd hr (by rw [h]; simp), fun j hj => ?_⟩
    by_cases hji : j = i
    · subst hji
      exact hy.wpOp hi hS ⟨fun _ => hS, H⟩
    · obtain ⟨hjun, oj, hoj, _⟩ := mem_ready.1 hj
      have hjs : j < ops.size := (Array.getElem?_eq_some_iff.1 hoj).1
      have hjm : j < m := by
        rcases Nat.lt_or_ge j m with h | h
        · exact h
        · exact absurd hj (tail_waits hs hc (by omega) inv (m - i) i rfl him (mem_ready.1 hr).1 j h)
      have h2 := wpOp_putIf hoj (hfree j oj hoj hji hjun (still_ready hr hj hoj)) (fun cs b => hsel i oi cs b hi) (fun cs b => hsel j oj cs b hoj) hQ hy (H.2 j (ready_mono hj hji))
      have hfree' : ∀ k ok, ops[k]? = some ok → k ≠ i → (done.setIfInBounds j true).getD k true = false → (∀ e ∈ ok.after, Region.binds md e = true → e.on ≠ i) → oi.apart ops ok = true := fun k ok hk hki hun hno => by
        refine hfree k ok hk hki ?_ hno
        by_cases hjk : j = k
        · rw [← hjk]; exact hjun
        · rwa [getD_set_ne true hjk] at hun
      refine wpOp_mono (fun b u k => ⟨fun _ => k.2.1 hjm, ih (done.setIfInBounds j true) b u (inv.set hj hjm) hfree' (ready_mono hr (Ne.symm hji)) k.1 (k.2.1 hjm) ?_⟩) h2
      rw [Array.setIfInBounds_comm _ _ hji]
      exact k.2.2
/-- What the walk stands at. -/
def Walks (P : Program) (md : Region.Mode) (ops : Array Oper) (Q : Exit → Act → World → Prop) (S : World → Prop) (m n : Nat) (done : Array Bool) (a : Act) (w : World) : Prop :=
  HeadInv md ops m done → Whichever P md ops Q S m n done a w
/-- Number i is taken first: a load of S's cells, or what asks nothing of the world. -/
theorem walks_take {n : Nat} {done : Array Bool} {a : Act} {w : World} (i : Nat) {oi : Oper} {v : Value} (hi : ops[i]? = some oi) (hB : (decide (i < m) && decide (ops.size = m + 1) && Region.sinkB md ops m && Region.chainB md ops m && Region.noSelect ops && Region.free md ops done i && (Region.ready md ops done).contains i) = true)
    (hQ : ∀ c a w, Q (.panic c) (a.put oi.dst v) w → Q (.panic c) a w) (hy : YieldsIf P ops S oi v a) (hS : S w)
    (h : Walks P md ops Q S m n (done.setIfInBounds i true) (a.put oi.dst v) w) : Walks P md ops Q S m (n + 1) done a w := fun inv => by
  simp only [Bool.and_eq_true, decide_eq_true_eq] at hB
  obtain ⟨⟨⟨⟨⟨⟨him, hm⟩, hs⟩, hc⟩, hsel⟩, hf⟩, hr⟩ := hB
  have hr' : i ∈ Region.ready md ops done := by simpa using hr
  exact Whichever.first hi him hm hs hc (Region.noSelect_spec hsel) hQ n done a w inv (Region.free_spec hi hf) hr' hy hS (h (inv.set hr' him))
/-- One operation alone may come up: it is carried out. -/
theorem walks_one {n : Nat} {done : Array Bool} {a : Act} {w : World} (i : Nat) {o : Oper} (hi : ops[i]? = some o) (him : i < m) (hr : Region.ready md ops done = [i])
    (h : ∀ K : Act → World → Prop, Hid (∀ b u, S u → Walks P md ops Q S m n (done.setIfInBounds i true) b u → K b u) → if Region.wanted o (yielded ops a.tmps) = true then Oper.wp P o a w K Q else K (a.put o.dst undef) w) : Walks P md ops Q S m (n + 1) done a w := fun inv => by
  refine ⟨fun h0 => absurd h0 (by rw [hr]; simp), fun j hj => ?_⟩
  rw [hr] at hj
  obtain rfl : j = i := by simpa using hj
  have inv' := inv.set (i := j) (by rw [hr]; simp) him
  have h1 := h (fun b u => (j < m → S u) ∧ Whichever P md ops Q S m n (done.setIfInBounds j true) b u) (fun b u hS hW => ⟨fun _ => hS, hW inv'⟩)
  unfold wpOp
  simp only [hi]
  by_cases hw : Region.wanted o (yielded ops a.tmps) = true
  · rw [if_pos hw] at h1 ⊢
    exact Or.inl h1
  · rw [if_neg hw] at h1 ⊢
    exact h1
/-- The last one. -/
theorem walks_last {n : Nat} {done : Array Bool} {a : Act} {w : World} (i : Nat) {o : Oper} (hi : ops[i]? = some o) (hr : Region.ready md ops done = [i]) (hr2 : Region.ready md ops (done.setIfInBounds i true) = []) (him : m ≤ i)
    (h : ∀ K : Act → World → Prop, Hid (∀ b u, Q .normal b u → K b u) → if Region.wanted o (yielded ops a.tmps) = true then Oper.wp P o a w K Q else K (a.put o.dst undef) w) : Walks P md ops Q S m (n + 1) done a w := fun inv => by
  refine ⟨fun h0 => absurd h0 (by rw [hr]; simp), fun j hj => ?_⟩
  rw [hr] at hj
  obtain rfl : j = i := by simpa using hj
  have fin : ∀ n b u, Q .normal b u → Whichever P md ops Q S m n (done.setIfInBounds j true) b u := fun n b u hq => by
    cases n with
    | zero => exact ⟨hr2, hq⟩
    | succ n => exact ⟨fun _ => hq, by rw [hr2]; simp⟩
  have h1 := h (fun b u => (j < m → S u) ∧ Whichever P md ops Q S m n (done.setIfInBounds j true) b u) (fun b u hq => ⟨fun h => by omega, fin n b u hq⟩)
  unfold wpOp
  simp only [hi]
  by_cases hw : Region.wanted o (yielded ops a.tmps) = true
  · rw [if_pos hw] at h1 ⊢
    exact Or.inl h1
  · rw [if_neg hw] at h1 ⊢
    exact h1
/-- The beginning. -/
theorem walks_begin {id : Nat} {a : Act} {w : World} (S : World → Prop) (m : Nat) (hm : P.follows .mixedOrders = true) (hz : ops.size = m + 1)
    (h : Walks P .any ops Q S m (m + 1) (Array.replicate (m + 1) false) a w.drew) : (Code.region id ops true).wp P Q a w := by
  refine wp_region_any hm ?_
  rw [hz]
  exact Whichever.any _ _ _ _ (h ⟨by simp [hz], fun j oj _ hl => (by rw [getD_replicate_false] at hl; cases hl), fun t _ ht => getD_in (by simp; omega) (getD_replicate_false _ _)⟩)
end
end Go.Proofs.YtdgkbicelnnfpaaGreatDoor
