/- Superblocks: which may be, their forms, what bytes say, which of two slots is chosen. No walk here. -/
import Derived.Test.YthbnakahcchbnaaNa
namespace Go.Proofs.Ythbnakahcchbnaa
open Go.RowKit
set_option linter.unusedVariables false
set_option linter.unusedSimpArgs false

/-- A superblock, as numbers. -/
structure SB where
  G : Nat
  B : Int
  D : Nat
  X : Nat
deriving DecidableEq
def SB.none : SB := ⟨0, 0, 0, 0⟩
def SB.v (s : SB) : Value := .agg #[.int .u64 s.G, .int .i64 s.B, .int .u64 s.D, .int .u64 s.X]
def SB.may (s : SB) : Bool := decide (1 ≤ s.G ∧ s.G < 4611686018427387904 ∧ 1 ≤ s.X ∧ s.X < 4611686018427387904 ∧ 16 ≤ s.B ∧ s.B ≤ 1024 ∧ (s.D : Int) < s.B)
/-- Its numbers are such as the program's. -/
structure SB.Wide (s : SB) : Prop where
  g : s.G < 2 ^ 64
  d : s.D < 2 ^ 64
  x : s.X < 2 ^ 64
theorem SB.may_iff (s : SB) : s.may = true ↔ 1 ≤ s.G ∧ s.G < 4611686018427387904 ∧ 1 ≤ s.X ∧ s.X < 4611686018427387904 ∧ 16 ≤ s.B ∧ s.B ≤ 1024 ∧ (s.D : Int) < s.B := by simp [SB.may]
def SB.form (s : SB) : List UInt8 := [99, 105, 115, 116] ++ (be s.G 8 ++ (be s.B.toNat 8 ++ (be s.D 8 ++ (be s.X 8 ++ (List.replicate 20 0 ++ be s.G 8)))))
theorem SB.form_length (s : SB) : s.form.length = 64 := by simp [SB.form, be_length]
/-- The number in eight bytes at a place. -/
def num (l : List UInt8) (i : Nat) : Nat := val ((l.drop i).take 8)
theorem num_lt (l : List UInt8) (i : Nat) : num l i < 2 ^ 64 := by
  have h := val_lt ((l.drop i).take 8)
  have h2 : (256 : Nat) ^ ((l.drop i).take 8).length ≤ 256 ^ 8 := Nat.pow_le_pow_right (by decide) (by simp; omega)
  unfold num
  omega
/-- The superblock that bytes say. -/
def readS (l : List UInt8) : SB := ⟨num l 4, num l 12, num l 20, num l 28⟩
theorem readS_wide (l : List UInt8) : (readS l).Wide := ⟨num_lt l 4, num_lt l 20, num_lt l 28⟩
theorem num_at (A C : List UInt8) (N i : Nat) (hi : A.length = i) (h : N < 2 ^ 64) : num (A ++ (be N 8 ++ C)) i = N := by
  subst hi
  unfold num
  rw [List.drop_left, List.take_left' (be_length N 8), val_be]
  omega
theorem read_form (s : SB) (h : s.may = true) : readS s.form = s := by
  rw [SB.may_iff] at h
  obtain ⟨G, B, D, X⟩ := s
  obtain ⟨h1, h2, h3, h4, h5, h6, h7⟩ := h
  dsimp only at h1 h2 h3 h4 h5 h6 h7
  have e1 : num (SB.form ⟨G, B, D, X⟩) 4 = G := num_at [99, 105, 115, 116] _ G 4 rfl (by omega)
  have e2 : num (SB.form ⟨G, B, D, X⟩) 12 = B.toNat := by
    have := num_at ([99, 105, 115, 116] ++ be G 8) (be D 8 ++ (be X 8 ++ (List.replicate 20 0 ++ be G 8))) B.toNat 12 (by simp [be_length]) (by omega)
    rwa [List.append_assoc] at this
  have e3 : num (SB.form ⟨G, B, D, X⟩) 20 = D := by
    have := num_at ([99, 105, 115, 116] ++ (be G 8 ++ be B.toNat 8)) (be X 8 ++ (List.replicate 20 0 ++ be G 8)) D 20 (by simp [be_length]) (by omega)
    rwa [List.append_assoc, List.append_assoc] at this
  have e4 : num (SB.form ⟨G, B, D, X⟩) 28 = X := by
    have := num_at ([99, 105, 115, 116] ++ (be G 8 ++ (be B.toNat 8 ++ be D 8))) (List.replicate 20 0 ++ be G 8) X 28 (by simp [be_length]) (by omega)
    rwa [List.append_assoc, List.append_assoc, List.append_assoc] at this
  unfold readS
  rw [e1, e2, e3, e4]
  simp
  omega
/-- Which error, and which superblock. -/
def takeS (l : List UInt8) : Nat × SB :=
  if l.length < 64 then (4, SB.none) else if 64 < l.length then (3, SB.none)
  else if (readS l).may = true ∧ (readS l).form = l then (0, readS l) else (23, SB.none)
theorem take_form (s : SB) (h : s.may = true) : takeS s.form = (0, s) := by
  unfold takeS
  rw [if_neg (by rw [s.form_length]; omega), if_neg (by rw [s.form_length]; omega), read_form s h, if_pos ⟨h, rfl⟩]
theorem take_cases (l : List UInt8) : ((takeS l).1 = 0 ∧ (takeS l).2.may = true ∧ (takeS l).2.form = l) ∨ ((takeS l).1 ≠ 0 ∧ (takeS l).2 = SB.none ∧ (l.length = 64 → (takeS l).1 = 23)) := by
  unfold takeS
  split
  · exact .inr ⟨by decide, rfl, fun h => by omega⟩
  · split
    · exact .inr ⟨by decide, rfl, fun h => by omega⟩
    · split
      · rename_i h
        exact .inl ⟨rfl, h.1, h.2⟩
      · exact .inr ⟨by decide, rfl, fun _ => rfl⟩
theorem take_err (l : List UInt8) : (takeS l).1 ≤ 23 := by
  unfold takeS
  split
  · exact (by decide : (4 : Nat) ≤ 23)
  · split
    · exact (by decide : (3 : Nat) ≤ 23)
    · split
      · exact Nat.zero_le _
      · exact Nat.le_refl _
theorem SB.wide_of_may {s : SB} (h : s.may = true) : s.Wide := by
  rw [SB.may_iff] at h
  exact ⟨by omega, by omega, by omega⟩
theorem none_wide : SB.none.Wide := ⟨by decide, by decide, by decide⟩
theorem take_wide (l : List UInt8) : (takeS l).2.Wide := by
  rcases take_cases l with ⟨_, h, _⟩ | ⟨_, h, _⟩
  · exact SB.wide_of_may h
  · rw [h]; exact none_wide
/-- Whether a slot's bytes stand in their slot. -/
def inSlot (x : Nat × SB) (k : Nat) : Bool := decide (x.1 = 0) && decide (x.2.G % 2 = k)
def chooseS (a b : List UInt8) : SB × Nat × Nat :=
  if inSlot (takeS a) 0 = true ∧ (inSlot (takeS b) 1 = false ∨ (takeS b).2.G < (takeS a).2.G) then ((takeS a).2, 0, 0)
  else if inSlot (takeS b) 1 = true then ((takeS b).2, 1, 0) else (SB.none, 0, 23)

/-! ### torn -/
theorem num_take (l : List UInt8) (i cut : Nat) (h : i + 8 ≤ cut) (m : List UInt8) (hm : cut ≤ l.length) : num (l.take cut ++ m) i = num l i := by
  unfold num
  congr 1
  rw [List.drop_append_of_le_length (by simp; omega), List.take_append_of_le_length (by simp; omega), List.drop_take, List.take_take, Nat.min_eq_left (by omega)]
theorem num_drop (l m : List UInt8) (i cut : Nat) (h : cut ≤ i) (hm : cut ≤ m.length) (hl : cut ≤ l.length) : num (m.take cut ++ l.drop cut) i = num l i := by
  unfold num
  congr 2
  rw [List.drop_append, List.drop_eq_nil_of_le (by simp; omega), List.nil_append, List.length_take, Nat.min_eq_left hm, List.drop_drop]
  congr 1
  omega
theorem form_num4 (s : SB) (h : s.G < 2 ^ 64) : num s.form 4 = s.G := num_at [99, 105, 115, 116] _ s.G 4 rfl h
theorem form_assoc (s : SB) : s.form = ([99, 105, 115, 116] ++ (be s.G 8 ++ (be s.B.toNat 8 ++ (be s.D 8 ++ (be s.X 8 ++ List.replicate 20 0))))) ++ be s.G 8 := by simp [SB.form, List.append_assoc]
theorem form_drop56 (s : SB) : s.form.drop 56 = be s.G 8 := by
  rw [form_assoc, List.drop_append, List.drop_eq_nil_of_le (by simp [be_length])]
  simp [be_length]
theorem form_num56 (s : SB) (h : s.G < 2 ^ 64) : num s.form 56 = s.G := by
  unfold num
  rw [form_drop56, List.take_of_length_le (by rw [be_length]; omega), val_be]
  omega
theorem form_take12 (s : SB) : s.form.take 12 = [99, 105, 115, 116] ++ be s.G 8 := by
  have e : s.form = ([99, 105, 115, 116] ++ be s.G 8) ++ (be s.B.toNat 8 ++ (be s.D 8 ++ (be s.X 8 ++ (List.replicate 20 0 ++ be s.G 8)))) := by simp [SB.form, List.append_assoc]
  rw [e, List.take_left' (by simp [be_length])]
theorem torn_take (s t : SB) (hs : s.may = true) (ht : t.may = true) (hG : t.G = s.G + 2) (cut : Nat) (hc : cut ≤ 64) :
    (takeS (t.form.take cut ++ s.form.drop cut)) = (0, s) ∨ (takeS (t.form.take cut ++ s.form.drop cut)) = (0, t) ∨ (takeS (t.form.take cut ++ s.form.drop cut)).1 = 23 := by
  have ls := s.form_length
  have lt := t.form_length
  have ws := SB.wide_of_may hs
  have wt := SB.wide_of_may ht
  have hl : (t.form.take cut ++ s.form.drop cut).length = 64 := by simp [ls, lt]; omega
  generalize hf : t.form.take cut ++ s.form.drop cut = f at *
  rcases take_cases f with ⟨h0, hm, hform⟩ | ⟨_, _, h⟩
  · generalize hu : (takeS f).2 = u at *
    have wu := SB.wide_of_may hm
    have h56 : num f 56 = u.G := by rw [← hform]; exact form_num56 u wu.g
    have h4 : num f 4 = u.G := by rw [← hform]; exact form_num4 u wu.g
    have key : ∀ r : SB, r.may = true → f = r.form → takeS f = (0, r) := fun r hr e => by rw [e]; exact take_form r hr
    by_cases c1 : cut ≤ 12
    · left
      apply key s hs
      have e1 : u.G = s.G := by rw [← h56, ← hf, num_drop s.form t.form 56 cut (by omega) (by omega) (by omega)]; exact form_num56 s ws.g
      rw [← List.take_append_drop 12 f, ← List.take_append_drop 12 s.form]
      congr 1
      · rw [← hform, form_take12, form_take12, e1]
      · rw [← hf, List.drop_append, List.drop_eq_nil_of_le (by simp; omega), List.nil_append, List.drop_drop]
        congr 1
        simp [lt]
        omega
    · by_cases c2 : cut ≤ 56
      · exfalso
        have e1 : u.G = s.G := by rw [← h56, ← hf, num_drop s.form t.form 56 cut (by omega) (by omega) (by omega)]; exact form_num56 s ws.g
        have e2 : u.G = t.G := by rw [← h4, ← hf, num_take t.form 4 cut (by omega) _ (by omega)]; exact form_num4 t wt.g
        omega
      · right; left
        apply key t ht
        have e2 : u.G = t.G := by rw [← h4, ← hf, num_take t.form 4 cut (by omega) _ (by omega)]; exact form_num4 t wt.g
        rw [← List.take_append_drop 56 f, ← List.take_append_drop 56 t.form]
        congr 1
        · rw [← hf, List.take_append_of_le_length (by simp; omega), List.take_take, Nat.min_eq_left (by omega)]
        · rw [← hform, form_drop56, form_drop56, e2]
  · exact .inr (.inr (h hl))
end Go.Proofs.Ythbnakahcchbnaa
