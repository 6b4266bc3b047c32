/- Forms and what bytes say: each the other's inverse; a form that is cut. -/
import Derived.Test.YtbopfpdgoalfoaaDoorNs
namespace Go.Proofs.YtbopfpdgoalfoaaDoor
open Go.RowKit
set_option linter.unusedVariables false
set_option linter.unusedSimpArgs false

theorem val_be8 {x : Nat} (h : x < 2 ^ 64) : val (be x 8) = x := by
  rw [val_be]; exact Nat.mod_eq_of_lt (by simpa using h)
theorem be8_take {x : Nat} (r : List UInt8) : (be x 8 ++ r).take 8 = be x 8 := by
  rw [List.take_append_of_le_length (by rw [be_length]; exact Nat.le_refl _)]
  exact List.take_of_length_le (by rw [be_length]; exact Nat.le_refl _)
theorem be8_drop {x : Nat} (r : List UInt8) : (be x 8 ++ r).drop 8 = r := by
  rw [List.drop_append_of_le_length (by rw [be_length]; exact Nat.le_refl _), List.drop_of_length_le (by rw [be_length]; exact Nat.le_refl _)]
  rfl
theorem be8_len {x : Nat} (r : List UInt8) : ¬ (be x 8 ++ r).length < 8 := by rw [List.length_append, be_length]; omega
theorem takeK_pair {c x y : Nat} {K V : List Nat} {r : List UInt8} (hx : x < 2 ^ 64) (hy : y < 2 ^ 64) (hl : lowK K x = false) (h0 : y ≠ 0) : takeK (c + 1) K V (be x 8 ++ (be y 8 ++ r)) = takeK c (K ++ [x]) (V ++ [y]) r := by
  rw [takeK_succ, if_neg (be8_len _), be8_take, val_be8 hx, if_neg (by rw [hl]; decide), be8_drop, takeV_eq, if_neg (be8_len _), be8_take, val_be8 hy, if_neg h0, be8_drop]
/-- Keys that rise behind those ahead, and values that are none of them 0. -/
def Follows : List Nat → List Nat → List Nat → Prop
  | K0, k :: K, v :: V => lowK K0 k = false ∧ v ≠ 0 ∧ k < 2 ^ 64 ∧ v < 2 ^ 64 ∧ Follows (K0 ++ [k]) K V
  | _, [], [] => True
  | _, _, _ => False
theorem Follows.len : ∀ {K0 K V : List Nat}, Follows K0 K V → V.length = K.length
  | _, [], [], _ => rfl
  | K0, k :: K, v :: V, h => by
    unfold Follows at h
    have := h.2.2.2.2.len
    simp [this]
  | _, [], _ :: _, h => by simp [Follows] at h
  | _, _ :: _, [], h => by simp [Follows] at h
theorem take_pairs : ∀ {K0 V0 K V : List Nat} (r : List UInt8), Follows K0 K V → takeK K.length K0 V0 (pairsN K V ++ r) = takeK 0 (K0 ++ K) (V0 ++ V) r
  | K0, V0, [], [], r, _ => by simp [pairsN]
  | K0, V0, k :: K, v :: V, r, h => by
    unfold Follows at h
    obtain ⟨h1, h2, h3, h4, h5⟩ := h
    rw [pairsN, List.append_assoc, List.append_assoc, List.length_cons, takeK_pair h3 h4 h1 h2, take_pairs r h5]
    simp
  | _, _, [], _ :: _, _, h => by simp [Follows] at h
  | _, _, _ :: _, [], _, h => by simp [Follows] at h
theorem cut_pairs : ∀ {K0 V0 K V : List Nat} (j : Nat), Follows K0 K V → j < 16 * K.length → takeK K.length K0 V0 ((pairsN K V).take j) = (4, [], [])
  | K0, V0, [], [], j, _, hj => by simp at hj
  | K0, V0, k :: K, v :: V, j, h, hj => by
    unfold Follows at h
    obtain ⟨h1, h2, h3, h4, h5⟩ := h
    have hl := pairs_len h5.len
    have hk8 := be_length k 8
    have hv8 := be_length v 8
    rw [List.length_cons] at hj
    rw [pairsN, List.length_cons]
    by_cases a : j < 8
    · rw [takeK_succ, if_pos (by simp; omega)]
    · have e1 : (be k 8 ++ (be v 8 ++ pairsN K V)).take j = be k 8 ++ (be v 8 ++ pairsN K V).take (j - 8) := by
        rw [List.take_append, hk8, List.take_of_length_le (by omega)]
      rw [e1]
      by_cases b : j < 16
      · rw [takeK_succ, if_neg (be8_len _), be8_take, val_be8 h3, if_neg (by rw [h1]; decide), be8_drop, takeV_eq, if_pos (by simp; omega)]
      · have e2 : (be v 8 ++ pairsN K V).take (j - 8) = be v 8 ++ (pairsN K V).take (j - 8 - 8) := by
          rw [List.take_append, hv8, List.take_of_length_le (by omega)]
        rw [e2, takeK_pair h3 h4 h1 h2, cut_pairs (j - 8 - 8) h5 (by omega)]
  | _, _, [], _ :: _, _, h, _ => by simp [Follows] at h
  | _, _, _ :: _, [], _, h, _ => by simp [Follows] at h
/-- A node that may be. -/
theorem follows_of {K V : List Nat} (hm : mayB K V = true) (bK : ∀ x ∈ K, x < 2 ^ 64) (bV : ∀ x ∈ V, x < 2 ^ 64) : Follows [] K V := by
  obtain ⟨l1, l2, l3⟩ := may_len hm
  have hall : (List.range K.length).all (okAt K V) = true := by
    unfold mayB at hm
    simp only [Bool.and_eq_true] at hm
    exact hm.2
  have key : ∀ (m i : Nat), K.length = i + m → Follows (K.take i) (K.drop i) (V.drop i) := by
    intro m
    induction m with
    | zero =>
      intro i hi
      rw [List.drop_of_length_le (by omega), List.drop_of_length_le (by omega)]
      simp [Follows]
    | succ m ih =>
      intro i hi
      have hk : i < K.length := by omega
      have hv : i < V.length := by omega
      have ho := ok_at (K := K) (V := V) (i := i) (List.getElem?_eq_getElem hk) (List.getElem?_eq_getElem hv)
      have ho2 : okAt K V i = true := (List.all_eq_true.1 hall) i (by simp; omega)
      rw [ho2] at ho
      have ho3 := ho.symm
      simp only [Bool.and_eq_true, Bool.not_eq_true', pointsB] at ho3
      rw [List.drop_eq_getElem_cons hk, List.drop_eq_getElem_cons hv]
      unfold Follows
      refine ⟨ho3.1, by simpa using ho3.2, bK _ (List.getElem_mem _), bV _ (List.getElem_mem _), ?_⟩
      have := ih (i + 1) (by omega)
      rwa [List.take_succ_eq_append_getElem hk] at this
  simpa using key K.length 0 (by omega)
theorem len_byte {n : Nat} (h : n ≤ 8) : (UInt8.ofNat n).toNat = n := by simp; omega
theorem mark_kind (lf : Bool) : ¬ ((if lf = true then (1 : UInt8) else 0) ≠ 0 ∧ (if lf = true then (1 : UInt8) else 0) ≠ 1) ∧ decide ((if lf = true then (1 : UInt8) else 0) = 1) = lf := by cases lf <;> decide
/-- A form, and bytes behind it. -/
theorem take_form {lf : Bool} {K V : List Nat} (hm : mayB K V = true) (bK : ∀ x ∈ K, x < 2 ^ 64) (bV : ∀ x ∈ V, x < 2 ^ 64) (z : List UInt8) : takeN (formN lf K V ++ z) = if z.all (· == 0) then (0, lf, K, V) else (5, false, [], []) := by
  obtain ⟨l1, l2, l3⟩ := may_len hm
  unfold formN
  rw [List.cons_append, List.cons_append, takeN_cons, if_neg (mark_kind lf).1]
  dsimp only
  rw [len_byte l2, if_neg (by omega), take_pairs z (follows_of hm bK bV), takeK_zero, (mark_kind lf).2]
  cases z.all (· == 0) <;> simp
theorem take_cut {lf : Bool} {K V : List Nat} (hm : mayB K V = true) (bK : ∀ x ∈ K, x < 2 ^ 64) (bV : ∀ x ∈ V, x < 2 ^ 64) {j : Nat} (hj : j < (formN lf K V).length) : takeN ((formN lf K V).take j) = (4, false, [], []) := by
  obtain ⟨l1, l2, l3⟩ := may_len hm
  rw [form_len l3] at hj
  unfold formN
  match j, hj with
  | 0, _ => rfl
  | 1, _ =>
    rw [List.take_succ_cons, List.take_zero, takeN_cons, if_neg (mark_kind lf).1]
  | j + 2, hj =>
    rw [List.take_succ_cons, List.take_succ_cons, takeN_cons, if_neg (mark_kind lf).1]
    dsimp only
    rw [len_byte l2, if_neg (by omega), cut_pairs j (follows_of hm bK bV) (by omega), if_neg (by decide)]
theorem val_bound {l : List UInt8} : val (l.take 8) < 2 ^ 64 := Nat.lt_of_lt_of_le (val_lt _) (by
  have h9 : (l.take 8).length ≤ 8 := by rw [List.length_take]; omega
  exact Nat.le_trans (Nat.pow_le_pow_right (by decide) h9) (by decide))
theorem val_inj : ∀ {a b : List UInt8}, a.length = b.length → val a = val b → a = b
  | [], [], _, _ => rfl
  | x :: a, y :: b, hl, h => by
    have hl2 : a.length = b.length := by simpa using hl
    rw [val_cons, val_cons, hl2] at h
    have h1 := val_lt a
    have h2 := val_lt b
    rw [hl2] at h1
    have hp : 0 < 256 ^ b.length := Nat.pow_pos (by decide)
    have e1 : x.toNat = y.toNat := by
      have q1 : (x.toNat * 256 ^ b.length + val a) / 256 ^ b.length = x.toNat := by
        rw [Nat.mul_comm, Nat.mul_add_div hp, Nat.div_eq_of_lt h1, Nat.add_zero]
      have q2 : (y.toNat * 256 ^ b.length + val b) / 256 ^ b.length = y.toNat := by
        rw [Nat.mul_comm, Nat.mul_add_div hp, Nat.div_eq_of_lt h2, Nat.add_zero]
      rw [← q1, ← q2, h]
    rw [e1] at h
    have e2 := val_inj hl2 (Nat.add_left_cancel h)
    rw [UInt8.toNat_inj.1 e1, e2]
  | [], _ :: _, hl, _ => by simp at hl
  | _ :: _, [], hl, _ => by simp at hl
theorem be_val {l : List UInt8} (h : ¬ l.length < 8) : l = be (val (l.take 8)) 8 ++ l.drop 8 := by
  have e : l.take 8 = be (val (l.take 8)) 8 := val_inj (by rw [be_length, List.length_take]; omega) (by rw [val_be8 val_bound])
  rw [← e, List.take_append_drop]
/-- What was taken. -/
theorem took : ∀ (c : Nat) (K0 V0 : List Nat) (l : List UInt8) (K2 V2 : List Nat), takeK c K0 V0 l = (0, K2, V2) → ∃ K V z, K2 = K0 ++ K ∧ V2 = V0 ++ V ∧ K.length = c ∧ Follows K0 K V ∧ l = pairsN K V ++ z ∧ z.all (· == 0) = true
  | 0, K0, V0, l, K2, V2, h => by
    rw [takeK_zero] at h
    cases hz : l.all (· == 0) with
    | true =>
      rw [hz, if_pos rfl] at h
      simp at h
      exact ⟨[], [], l, by simp [h.1], by simp [h.2], rfl, by simp [Follows], by simp [pairsN], hz⟩
    | false =>
      rw [hz, if_neg (by decide)] at h
      simp at h
  | c + 1, K0, V0, l, K2, V2, h => by
    rw [takeK_succ] at h
    by_cases h8 : l.length < 8
    · rw [if_pos h8] at h; simp at h
    · rw [if_neg h8] at h
      cases hl : lowK K0 (val (l.take 8)) with
      | true => rw [hl, if_pos rfl] at h; simp at h
      | false =>
        rw [hl, if_neg (by decide), takeV_eq] at h
        by_cases h9 : (l.drop 8).length < 8
        · rw [if_pos h9] at h; simp at h
        · rw [if_neg h9] at h
          by_cases h0 : val ((l.drop 8).take 8) = 0
          · rw [if_pos h0] at h; simp at h
          · rw [if_neg h0] at h
            obtain ⟨K, V, z, e1, e2, e3, e4, e5, e6⟩ := took c _ _ _ _ _ h
            refine ⟨val (l.take 8) :: K, val ((l.drop 8).take 8) :: V, z, by simp [e1], by simp [e2], by simp [e3], ?_, ?_, e6⟩
            · unfold Follows
              exact ⟨hl, h0, val_bound, val_bound, e4⟩
            · rw [pairsN, List.append_assoc, List.append_assoc, ← e5, ← be_val h9, ← be_val h8]
theorem Follows.all : ∀ {K0 V0 K V : List Nat}, V0.length = K0.length → (List.range K0.length).all (okAt (K0 ++ K) (V0 ++ V)) = true → Follows K0 K V → (List.range (K0 ++ K).length).all (okAt (K0 ++ K) (V0 ++ V)) = true
  | K0, V0, [], [], _, h, _ => by simpa using h
  | K0, V0, k :: K, v :: V, hl, h, hf => by
    unfold Follows at hf
    obtain ⟨h1, h2, h3, h4, h5⟩ := hf
    have ek : K0 ++ k :: K = (K0 ++ [k]) ++ K := by simp
    have ev : V0 ++ v :: V = (V0 ++ [v]) ++ V := by simp
    have hx : (K0 ++ k :: K)[K0.length]? = some k := by simp
    have hy : (V0 ++ v :: V)[K0.length]? = some v := by rw [← hl]; simp
    have ho := ok_at hx hy
    rw [List.take_left, h1] at ho
    have ho2 : okAt (K0 ++ k :: K) (V0 ++ v :: V) K0.length = true := by rw [ho]; simp [pointsB, h2]
    have hnext : (List.range (K0 ++ [k]).length).all (okAt (K0 ++ k :: K) (V0 ++ v :: V)) = true := by
      rw [List.length_append, List.length_singleton, all_range_succ, h, ho2]; rfl
    rw [ek, ev] at hnext ⊢
    exact Follows.all (by simp [hl]) hnext h5
  | _, _, [], _ :: _, _, _, h => by simp [Follows] at h
  | _, _, _ :: _, [], _, _, h => by simp [Follows] at h
theorem Follows.bounds : ∀ {K0 K V : List Nat}, Follows K0 K V → (∀ x ∈ K, x < 2 ^ 64) ∧ ∀ x ∈ V, x < 2 ^ 64
  | _, [], [], _ => ⟨by simp, by simp⟩
  | K0, k :: K, v :: V, hf => by
    unfold Follows at hf
    obtain ⟨h1, h2, h3, h4, h5⟩ := hf
    obtain ⟨b1, b2⟩ := h5.bounds
    exact ⟨fun x hx => (List.mem_cons.1 hx).elim (fun e => e ▸ h3) (b1 x), fun x hx => (List.mem_cons.1 hx).elim (fun e => e ▸ h4) (b2 x)⟩
  | _, [], _ :: _, h => by simp [Follows] at h
  | _, _ :: _, [], h => by simp [Follows] at h
/-- Bytes that say a node begin with its form; behind it are noughts. -/
theorem took_node {l : List UInt8} {lf : Bool} {K V : List Nat} (h : takeN l = (0, lf, K, V)) : mayB K V = true ∧ (∀ x ∈ K, x < 2 ^ 64) ∧ (∀ x ∈ V, x < 2 ^ 64) ∧ ∃ z, l = formN lf K V ++ z ∧ z.all (· == 0) = true := by
  match l, h with
  | [], h => simp [takeN] at h
  | a :: r, h =>
    rw [takeN_cons] at h
    by_cases ha : a ≠ 0 ∧ a ≠ 1
    · rw [if_pos ha] at h; simp at h
    · rw [if_neg ha] at h
      match r, h with
      | [], h => simp at h
      | b :: s, h =>
        dsimp only at h
        by_cases hb : b.toNat = 0 ∨ 8 < b.toNat
        · rw [if_pos hb] at h; simp at h
        · rw [if_neg hb] at h
          by_cases h0 : (takeK b.toNat [] [] s).1 = 0
          · rw [if_pos h0] at h
            simp only [Prod.mk.injEq] at h
            obtain ⟨_, e1, e2⟩ := h
            have e3 : takeK b.toNat [] [] s = (0, K, V) := by rw [← h0, ← e2]
            obtain ⟨K', V', z, q1, q2, q3, q4, q5, q6⟩ := took _ _ _ _ _ _ e3
            rw [List.nil_append] at q1 q2
            subst q1 q2
            have hbd := q4.bounds
            have hlen := q4.len
            have hall := Follows.all (K0 := []) (V0 := []) rfl (by simp) q4
            simp only [List.nil_append] at hall
            refine ⟨?_, hbd.1, hbd.2, z, ?_, q6⟩
            · unfold mayB
              rw [hall, hlen, decide_eq_true rfl, decide_eq_true (show 1 ≤ K.length by omega), decide_eq_true (show K.length ≤ 8 by omega)]
              rfl
            · unfold formN
              rw [List.cons_append, List.cons_append, ← q5]
              have eb : UInt8.ofNat K.length = b := by rw [q3]; exact UInt8.toNat_inj.1 (by simp)
              have ea : (if lf = true then (1 : UInt8) else 0) = a := by
                have ha2 : a = 0 ∨ a = 1 := by
                  by_cases e : a = 0
                  · exact Or.inl e
                  · exact Or.inr (Decidable.not_not.1 fun e1 => ha ⟨e, e1⟩)
                rcases ha2 with rfl | rfl
                · rw [← e1]; decide
                · rw [← e1]; decide
              rw [ea, eb]
          · rw [if_neg h0] at h
            simp only [Prod.mk.injEq] at h
            exact absurd h.1 h0
theorem took_not {l : List UInt8} {e : Int} {lf : Bool} {K V : List Nat} (h : takeN l = (e, lf, K, V)) (he : e ≠ 0) : lf = false ∧ K = [] ∧ V = [] := by
  match l, h with
  | [], h => simp [takeN] at h; simp [h]
  | a :: r, h =>
    rw [takeN_cons] at h
    by_cases ha : a ≠ 0 ∧ a ≠ 1
    · rw [if_pos ha] at h; simp at h; simp [h]
    · rw [if_neg ha] at h
      match r, h with
      | [], h => simp at h; simp [h]
      | b :: s, h =>
        dsimp only at h
        by_cases hb : b.toNat = 0 ∨ 8 < b.toNat
        · rw [if_pos hb] at h; simp at h; simp [h]
        · rw [if_neg hb] at h
          by_cases h0 : (takeK b.toNat [] [] s).1 = 0
          · rw [if_pos h0] at h
            simp only [Prod.mk.injEq] at h
            exact absurd h.1.symm he
          · rw [if_neg h0] at h
            simp only [Prod.mk.injEq] at h
            exact ⟨h.2.1.symm, h.2.2.1.symm, h.2.2.2.symm⟩
theorem took_len {l : List UInt8} : (takeN l).2.2.1.length ≤ 8 ∧ (takeN l).2.2.2.length ≤ 8 := by
  obtain ⟨e, lf, K, V, h⟩ : ∃ e lf K V, takeN l = (e, lf, K, V) := ⟨_, _, _, _, rfl⟩
  rw [h]
  by_cases he : e = 0
  · subst he
    obtain ⟨hm, -⟩ := took_node h
    obtain ⟨_, l2, l3⟩ := may_len hm
    exact ⟨l2, by dsimp only; omega⟩
  · obtain ⟨_, rfl, rfl⟩ := took_not h he
    simp
end Go.Proofs.YtbopfpdgoalfoaaDoor
