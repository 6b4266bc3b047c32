/- Texts Txm, Txj, Txk of the library, joined. -/
import Derived.Test.YtoeijomelabbfaaGreatDoorM06
import Derived.Test.YtoeijomelabbfaaGreatDoorM23
import Derived.Test.YtoeijomelabbfaaGreatDoorM16
/- What a commit leaves on the disk, and that Open finds it; with a fuse, too. No walk here. -/
namespace Go.Proofs.YtoeijomelabbfaaGreatDoor
set_option maxRecDepth 200000
open Go.RowKit
set_option linter.unusedVariables false
set_option linter.unusedSimpArgs false

structure Calm (n m : Nat) (x : KS) : Prop where
  g : Good n x.1 x.2
  s : Sound x.2
  l : x.1.length ≤ m
theorem Calm.lt {n m : Nat} {x : KS} (h : Calm n m x) {y : Nat} (hy : y < n) : 4 * y + 4 ≤ x.2.S.length := by
  have := h.s.w.1
  have := h.g.c
  omega
theorem page_good {n m : Nat} {x : KS} (h : Calm n m x) (hm : 1 ≤ m) {a : Nat} (ha : a < n) {p : List UInt8} (hp : p.length ≤ 240) :
    ∃ x', pageA m a p x = (0, x') ∧ Calm n m x' ∧ ∀ y, kval x'.1 x'.2 y = if y = a then sealB p a 3 else kval x.1 x.2 y := by
  obtain ⟨K', st', e, g, l, v, b⟩ := h.g.put m hm h.l ha (seal_length p a 3 hp)
  have hs := h.s.kput m x.1 (a : Int) (sealB p a 3)
  rw [e] at hs
  exact ⟨(K', st'), e, ⟨g, hs.1, l⟩, v⟩
theorem pages_good {n m : Nat} (hm : 1 ≤ m) : ∀ (ps : List (List UInt8)) (a : Nat) (x : KS), Calm n m x → a + ps.length ≤ n → (∀ p ∈ ps, p.length ≤ 240) →
    ∃ x', pagesA m ps a x = (0, x') ∧ Calm n m x' ∧ ∀ y, kval x'.1 x'.2 y = if a ≤ y ∧ y < a + ps.length then sealB (ps.getD (y - a) []) y 3 else kval x.1 x.2 y := by
  intro ps
  induction ps with
  | nil => intro a x h _ _; exact ⟨x, rfl, h, fun y => by rw [if_neg (by rintro ⟨h1, h2⟩; simp at h2; omega)]⟩
  | cons p r ih =>
    intro a x h ha hp
    rw [List.length_cons] at ha
    obtain ⟨x1, e1, h1, v1⟩ := page_good h hm (show a < n by omega) (hp p (by simp))
    obtain ⟨x2, e2, h2, v2⟩ := ih (a + 1) x1 h1 (by omega) (fun q hq => hp q (by simp [hq]))
    refine ⟨x2, ?_, h2, fun y => ?_⟩
    · show (if (pageA m a p x).1 = 0 then pagesA m r (a + 1) (pageA m a p x).2 else pageA m a p x) = _
      rw [e1, if_pos rfl]
      exact e2
    · rw [v2, v1, List.length_cons]
      by_cases hy : y = a
      · subst hy
        rw [if_neg (by omega), if_pos rfl, if_pos (by omega), Nat.sub_self]
        rfl
      · by_cases hlt : a + 1 ≤ y ∧ y < a + 1 + r.length
        · rw [if_pos hlt, if_pos (by omega), show y - a = (y - (a + 1)) + 1 by omega, List.getD_cons_succ]
        · rw [if_neg hlt, if_neg hy, if_neg (by omega)]
theorem flush_good {n m : Nat} {x : KS} (h : Calm n m x) : ∃ x', flushA x = (0, x') ∧ Calm n m x' ∧ (∀ y, kval x'.1 x'.2 y = kval x.1 x.2 y) ∧ ∀ y, reads x'.2 y 4 = kval x.1 x.2 y := by
  obtain ⟨st', e, g, v, b⟩ := h.g.flush
  have hs := h.s.kflush x.1
  rw [e] at hs
  refine ⟨(kall x.1, st'), e, ⟨g, hs.1, ?_⟩, v, fun y => ?_⟩
  · unfold kall
    rw [List.length_map]
    exact h.l
  · rw [← g.all y]
    exact v y
theorem bar_good {n m : Nat} {x : KS} (h : Calm n m x) : ∃ x', barA x = (0, x') ∧ x'.1 = x.1 ∧ Calm n m x' ∧ x'.2.L = [] ∧ (∀ y, y < n → reads x'.2 y 4 = reads x.2 y 4) ∧ ∀ y, y < n → kval x'.1 x'.2 y = kval x.1 x.2 y := by
  have e := barrier_plain x.2 h.g.g h.g.l
  have hs := h.s.barrier
  rw [e] at hs
  have hr : ∀ y, y < n → reads { x.2 with S := settle x.2.S x.2.L, L := [] } y 4 = reads x.2 y 4 := fun y hy => reads_settled x.2 h.s.s h.s.l y (h.lt hy)
  refine ⟨(x.1, { x.2 with S := settle x.2.S x.2.L, L := [] }), ?_, rfl, ⟨⟨h.g.nd, h.g.lt, h.g.len, fun e he hd => ?_, h.g.g, h.g.l, h.g.c⟩, hs.1, h.l⟩, rfl, hr, fun y hy => ?_⟩
  · unfold barA
    rw [e]
  · exact (h.g.cl e he hd).trans (hr e.pl (h.g.lt e he)).symm
  · unfold kval
    cases kfind x.1 y with
    | some e => rfl
    | none => exact hr y hy
theorem supB_len (s : SB) : (supB s).length = 256 := by simp [supB, s.form_length]
theorem sup_good {n m : Nat} {x : KS} (h : Calm n m x) (hm : 1 ≤ m) (s : SB) (hs : s.may = true) (hn : 2 ≤ n) :
    ∃ x', supA m s x = (0, x') ∧ Calm n m x' ∧ ∀ y, kval x'.1 x'.2 y = if y = s.G % 2 then supB s else kval x.1 x.2 y := by
  obtain ⟨K', st', e, g, l, v, b⟩ := h.g.put m hm h.l (show s.G % 2 < n by omega) (supB_len s)
  have hq := h.s.kput m x.1 ((s.G % 2 : Nat) : Int) (supB s)
  rw [e] at hq
  refine ⟨(K', st'), ?_, ⟨g, hq.1, l⟩, v⟩
  unfold supA
  rw [if_pos hs]
  exact e
theorem runA_ok {α : Type} {f : α → Int × α} {r : List (α → Int × α)} {a b : α} (h : f a = (0, b)) : runA (f :: r) a = runA r b := by
  show (if (f a).1 = 0 then runA r (f a).2 else f a) = _
  rw [h]
  rfl
theorem area_in {n : Nat} (h : 16 ≤ n ∧ n ≤ 1024) (s : SB) (hB : s.B = (n : Int)) : 2 ≤ areaN s ∧ areaN s + npg n ≤ n := by
  have ht : s.G % 2 < 2 := Nat.mod_lt _ (by decide)
  have hk : 2 + 2 * npg n ≤ n := by unfold npg; omega
  unfold areaN
  rw [hB, Int.toNat_natCast]
  generalize s.G % 2 = t at *
  obtain rfl | rfl : t = 0 ∨ t = 1 := by omega
  · omega
  · omega
/-- With the power on and no fuse: a commit is laid, and stands on the disk. -/
theorem lay_good {n m : Nat} {x : KS} (h : Calm n m x) (hm : 1 ≤ m) (hn : 16 ≤ n ∧ n ≤ 1024) (s : SB) (hs : s.may = true) (hB : s.B = (n : Int)) (N : List UInt8) (hN : N.length = n) :
    ∃ x', layA m s N x = (0, x') ∧ Calm n m x' ∧ x'.2.L = [] ∧ ∀ y, y < n → reads x'.2 y 4 = if y = s.G % 2 then supB s else if areaN s ≤ y ∧ y < areaN s + npg n then sealB ((pagesL N).getD (y - areaN s) []) y 3 else kval x.1 x.2 y := by
  obtain ⟨a1, a2⟩ := area_in hn s hB
  have hl : (pagesL N).length = npg n := by rw [pagesL_len, hN]
  obtain ⟨x1, e1, h1, v1⟩ := pages_good hm (pagesL N) (areaN s) x h (by rw [hl]; exact a2) (fun p hp => Nat.le_of_eq (pagesL_240 N p hp))
  obtain ⟨x2, e2, h2, v2, r2⟩ := flush_good h1
  obtain ⟨x3, e3, f3, h3, l3, r3, v3⟩ := bar_good h2
  obtain ⟨x4, e4, h4, v4⟩ := sup_good h3 hm s hs (by omega)
  obtain ⟨x5, e5, h5, v5, r5⟩ := flush_good h4
  obtain ⟨x6, e6, f6, h6, l6, r6, v6⟩ := bar_good h5
  refine ⟨x6, ?_, h6, l6, fun y hy => ?_⟩
  · unfold layA laySteps
    rw [runA_ok e1, runA_ok e2, runA_ok e3, runA_ok e4, runA_ok e5, runA_ok e6]
    rfl
  · rw [r6 y hy, r5, v4]
    split
    · rfl
    · rw [v3 y hy, v2, v1, hl]
/-! ### what Open finds -/
theorem sup_take (s : SB) : (supB s).take 64 = s.form := List.take_left' s.form_length
theorem all_range {k : Nat} {f : Nat → Bool} (h : ∀ j, j < k → f j = true) : (List.range k).all f = true := List.all_eq_true.2 fun j hj => h j (List.mem_range.1 hj)
theorem choose_good (s : SB) (hs : s.may = true) (a b : List UInt8) (h0 : s.G % 2 = 0 → a = s.form ∧ (inSlot (takeS b) 1 = true → (takeS b).2.G < s.G)) (h1 : s.G % 2 = 1 → b = s.form ∧ (inSlot (takeS a) 0 = true → (takeS a).2.G < s.G)) :
    chooseS a b = (s, s.G % 2, 0) := by
  have hf := take_form s hs
  rcases (show s.G % 2 = 0 ∨ s.G % 2 = 1 by omega) with ht | ht
  · obtain ⟨rfl, h⟩ := h0 ht
    have hi : inSlot (takeS s.form) 0 = true := by rw [hf]; simp [inSlot, ht]
    have h3 : inSlot (takeS b) 1 = false ∨ (takeS b).2.G < (takeS s.form).2.G := by
      cases h9 : inSlot (takeS b) 1 with
      | false => exact Or.inl rfl
      | true => exact Or.inr (by rw [hf]; exact h h9)
    unfold chooseS
    rw [if_pos ⟨hi, h3⟩, hf, ht]
  · obtain ⟨rfl, h⟩ := h1 ht
    have hi : inSlot (takeS s.form) 1 = true := by rw [hf]; simp [inSlot, ht]
    unfold chooseS
    rw [if_neg, if_pos hi, hf, ht]
    rintro ⟨h2, h3⟩
    rcases h3 with h3 | h3
    · rw [hi] at h3; cases h3
    · rw [hf] at h3
      have := h h2
      dsimp only at h3
      omega
theorem found_good {n : Nat} (hn : 16 ≤ n ∧ n ≤ 1024) (s : SB) (hs : s.may = true) (hB : s.B = (n : Int)) (N : List UInt8) (hN : N.length = n) (st : RS) (hc : st.count = n) (V : Nat → List UInt8)
    (hr : ∀ y, y < n → reads st y 4 = if y = s.G % 2 then supB s else if areaN s ≤ y ∧ y < areaN s + npg n then sealB ((pagesL N).getD (y - areaN s) []) y 3 else V y)
    (ho : ∀ y, y < 2 → y ≠ s.G % 2 → inSlot (takeS ((V y).take 64)) y = true → (takeS ((V y).take 64)).2.G < s.G) :
    foundA st = if heldB N s = true then some (s, N) else none := by
  obtain ⟨a1, a2⟩ := area_in hn s hB
  have hl : (pagesL N).length = npg n := by rw [pagesL_len, hN]
  have hslot : ∀ y, y < 2 → slotB st y = if y = s.G % 2 then s.form else (V y).take 64 := fun y hy => by
    unfold slotB
    rw [if_pos (by omega), hr y (by omega)]
    by_cases e : y = s.G % 2
    · rw [if_pos e, if_pos e, sup_take]
    · rw [if_neg e, if_neg e, if_neg (by omega)]
  have hch : chooseS (slotB st 0) (slotB st 1) = (s, s.G % 2, 0) := choose_good s hs _ _
    (fun ht => ⟨by rw [hslot 0 (by decide), if_pos ht.symm], by rw [hslot 1 (by decide), if_neg (by omega)]; exact ho 1 (by decide) (by omega)⟩)
    (fun ht => ⟨by rw [hslot 1 (by decide), if_pos ht.symm], by rw [hslot 0 (by decide), if_neg (by omega)]; exact ho 0 (by decide) (by omega)⟩)
  have hpg : ∀ j, j < npg n → reads st (areaN s + j) 4 = sealB ((pagesL N).getD j []) (areaN s + j) 3 := fun j hj => by
    have ht : s.G % 2 < 2 := Nat.mod_lt _ (by decide)
    rw [hr _ (by omega), if_neg (by omega), if_pos (by omega), Nat.add_sub_cancel_left]
  have h240 : ∀ j, j < npg n → ((pagesL N).getD j []).length = 240 := fun j hj => by
    rw [List.getD_eq_getElem?_getD, List.getElem?_eq_getElem (by rw [hl]; exact hj)]
    exact pagesL_240 N _ (List.getElem_mem _)
  have hBn : s.B.toNat = n := by rw [hB, Int.toNat_natCast]
  have hall : allOpen st (areaN s) (npg s.B.toNat) = true := by
    rw [hBn]
    refine all_range fun j hj => decide_eq_true ?_
    rw [hpg j hj, opens_seal _ _ _ _ _ (Nat.le_of_eq (h240 j hj)) (by omega) (by decide)]
    try simp
  have hps : pagesR st (areaN s) (npg s.B.toNat) = pagesL N := by
    rw [hBn]
    refine List.ext_getElem? fun j => ?_
    unfold pagesR
    rw [List.getElem?_map]
    by_cases hj : j < npg n
    · rw [List.getElem?_range hj, List.getElem?_eq_getElem (by rw [hl]; exact hj)]
      show some ((reads st (areaN s + j) 4).take 240) = _
      rw [hpg j hj, seal_head _ _ _ (Nat.le_of_eq (h240 j hj)), h240 j hj, Nat.sub_self, List.replicate_zero, List.append_nil, List.getD_eq_getElem?_getD, List.getElem?_eq_getElem (by rw [hl]; exact hj)]
      rfl
    · rw [List.getElem?_eq_none (by simp; omega), List.getElem?_eq_none (by rw [hl]; omega)]
      rfl
  have htk : takeN (pagesL N) s.B = (0, N) := by rw [hB]; exact put_take hN hn.2 (by rw [← hN]; exact pagesL_put N)
  have hcs : countsA st s = some N := by
    unfold countsA
    rw [if_pos hall, hps, htk, if_pos rfl]
  unfold foundA
  rw [hch, if_pos ⟨rfl, by rw [hB, hc]⟩, hcs]
/-! ### Format -/
theorem kept_le {n : Nat} (h : 16 ≤ n ∧ n ≤ 1024) : keptN n ≤ n := by unfold keptN npg; omega
theorem fresh_len {n : Nat} (h : 16 ≤ n ∧ n ≤ 1024) : (freshN n).length = n := by
  have := kept_le h
  unfold freshN
  rw [List.length_append, List.length_replicate, List.length_replicate]
  omega
theorem first_may {n : Nat} (h : 16 ≤ n ∧ n ≤ 1024) : (firstS n).may = true := by
  rw [SB.may_iff]
  unfold firstS
  dsimp only
  omega
theorem fresh_held {n : Nat} (h : 16 ≤ n ∧ n ≤ 1024) : heldB (freshN n) (firstS n) = true := by
  unfold heldB freshN firstS
  dsimp only
  rw [Int.toNat_natCast, List.take_left' (List.length_replicate ..)]
  simp
theorem zero_slot : (takeS (zeroB.take 64)).1 ≠ 0 := by decide +kernel
theorem zeroB_len : zeroB.length = 256 := by simp [zeroB]
theorem clear_good {n : Nat} (hn : 2 ≤ n) {st : RS} (h : Calm n 1 ([], st)) : ∃ x', clearA ([], st) = (0, x') ∧ x'.1 = [] ∧ Calm n 1 x' ∧ ∀ y, y < 2 → reads x'.2 y 4 = zeroB := by
  have e1 := write_plain st 0 zeroB h.g.g h.g.l (by rw [h.g.c]; omega) zeroB_len
  have s1 := h.s.write 0 zeroB
  obtain ⟨t1, ht1⟩ : ∃ t1 : RS, { st with L := st.L ++ flies 0 zeroB 4 } = t1 := ⟨_, rfl⟩
  have g1 : t1.gone = false ∧ t1.left = 0 ∧ t1.count = n := by subst ht1; exact ⟨h.g.g, h.g.l, h.g.c⟩
  have e2 := write_plain t1 1 zeroB g1.1 g1.2.1 (by rw [g1.2.2]; omega) zeroB_len
  have hr1 : ∀ y, reads t1 y 4 = if y = 0 then zeroB else reads st y 4 := fun y => by subst ht1; exact reads_written st 0 y zeroB zeroB_len
  have hr2 : ∀ y, reads { t1 with L := t1.L ++ flies 1 zeroB 4 } y 4 = if y = 1 then zeroB else reads t1 y 4 := fun y => reads_written t1 1 y zeroB zeroB_len
  rw [ht1] at e1
  have s1' : Sound t1 := by
    have := s1.1
    rw [show write st 0 zeroB = write st ((0 : Nat) : Int) zeroB from rfl, e1] at this
    exact this
  have s2 := s1'.write ((1 : Nat) : Int) zeroB
  rw [e2] at s2
  refine ⟨([], { t1 with L := t1.L ++ flies 1 zeroB 4 }), ?_, rfl, ⟨⟨by simp, by simp, by simp, by simp, g1.1, g1.2.1, g1.2.2⟩, s2.1, by simp⟩, fun y hy => ?_⟩
  · have w1 : wrA 0 ([], st) = (0, ([], t1)) := by unfold wrA; dsimp only; rw [e1]
    have w2 : wrA 1 ([], t1) = (0, ([], { t1 with L := t1.L ++ flies 1 zeroB 4 })) := by unfold wrA; dsimp only; rw [e2]
    unfold clearA
    rw [runA_ok w1, runA_ok w2]
    rfl
  · rw [hr2, hr1]
    obtain rfl | rfl : y = 0 ∨ y = 1 := by omega
    · rfl
    · rfl
theorem format_good {n : Nat} (hn : 16 ≤ n ∧ n ≤ 1024) {st : RS} (h : Calm n 1 ([], st)) : ∃ x', runA [clearA, barA, layA 1 (firstS n) (freshN n)] ([], st) = (0, x') ∧ Calm n 1 x' ∧ x'.2.L = [] ∧ foundA x'.2 = some (firstS n, freshN n) := by
  obtain ⟨x1, e1, k1, h1, r1⟩ := clear_good (by omega) h
  obtain ⟨x2, e2, f2, h2, l2, r2, v2⟩ := bar_good h1
  obtain ⟨x3, e3, h3, l3, r3⟩ := lay_good h2 (Nat.le_refl 1) hn (firstS n) (first_may hn) rfl (freshN n) (fresh_len hn)
  refine ⟨x3, ?_, h3, l3, ?_⟩
  · rw [runA_ok e1, runA_ok e2, runA_ok e3]
    rfl
  · rw [found_good hn (firstS n) (first_may hn) rfl (freshN n) (fresh_len hn) x3.2 h3.g.c _ r3 (fun y hy hne hin => ?_), if_pos (fresh_held hn)]
    exfalso
    have hv : kval x2.1 x2.2 y = zeroB := by
      rw [f2, k1]
      show reads x2.2 y 4 = zeroB
      rw [r2 y (by omega), r1 y hy]
    rw [hv] at hin
    unfold inSlot at hin
    rw [decide_eq_false zero_slot] at hin
    simp at hin
theorem format_goodA {st : RS} (hn : 16 ≤ st.count ∧ st.count ≤ 1024) (hs : Sound st) (hg : st.gone = false) (hl : st.left = 0) : ∃ st', formatA st = (0, st') ∧ Sound st' ∧ st'.L = [] ∧ st'.gone = false ∧ st'.left = 0 ∧ st'.count = st.count ∧ foundA st' = some (firstS st.count, freshN st.count) := by
  obtain ⟨x', e, h, l, f⟩ := format_good hn (st := st) ⟨⟨by simp, by simp, by simp, by simp, hg, hl, rfl⟩, hs, by simp⟩
  refine ⟨x'.2, ?_, h.s, l, h.g.g, h.g.l, h.g.c, f⟩
  unfold formatA
  rw [e]
/-! ### a fuse -/
def lf (st : RS) (l : Nat) : RS := { st with left := l }
/-- Whoever has a fuse does the same, or is told that the power went. -/
def SimF (f : KS → Int × KS) : Prop := ∀ (K : List KE) (st : RS) (l : Nat), st.gone = false → (f (K, lf st 0)).1 = 0 →
  (f (K, lf st l)).1 = 9 ∨ ∃ K' st' l', st'.gone = false ∧ (l = 1 → l' = 1) ∧ f (K, lf st 0) = (0, K', lf st' 0) ∧ f (K, lf st l) = (0, K', lf st' l')
theorem sim_write (st : RS) (l : Nat) (hg : st.gone = false) (z : Int) (b : List UInt8) (h0 : (write (lf st 0) z b).1 = 0) :
    (write (lf st l) z b).1 = 9 ∨ ∃ st' l', st'.gone = false ∧ (l = 1 → l' = 1) ∧ write (lf st 0) z b = (0, lf st' 0) ∧ write (lf st l) z b = (0, lf st' l') := by
  have hw : whyN (lf st l) z = whyN (lf st 0) z := rfl
  have e1 : whyN (lf st 0) z = 0 := by
    by_cases h : whyN (lf st 0) z = 0
    · exact h
    · unfold write at h0; rw [if_pos h] at h0; exact absurd h0 h
  have e2 : b.length = 256 := by
    by_cases h : b.length = 256
    · exact h
    · unfold write at h0; rw [if_neg (by simp [e1]), if_pos h] at h0; cases h0
  have wr : ∀ l, write (lf st l) z b = if (burn (lf st l)).1 then (9, (burn (lf st l)).2) else (0, { (burn (lf st l)).2 with L := (burn (lf st l)).2.L ++ flies z.toNat b 4 }) := fun l => by
    unfold write
    rw [if_neg (by show ¬ whyN (lf st 0) z ≠ 0; simp [e1]), if_neg (by simp [e2])]
  have w0 : write (lf st 0) z b = (0, lf { st with L := st.L ++ flies z.toNat b 4 } 0) := by rw [wr]; rfl
  by_cases l1 : l = 1
  · left
    rw [wr, l1]
    rfl
  · right
    refine ⟨{ st with L := st.L ++ flies z.toNat b 4 }, l - 1, hg, fun h => absurd h l1, w0, ?_⟩
    rw [wr]
    by_cases l0 : l = 0
    · subst l0; rfl
    · have hb : burn (lf st l) = (false, lf st (l - 1)) := by
        unfold burn
        rw [if_neg (by exact l0), if_neg (by exact l1)]
        rfl
      rw [hb]
      rfl
theorem sim_bar : SimF barA := by
  intro K st l hg h0
  have br : ∀ l, barrier (lf st l) = if (burn (lf st l)).1 then (9, (burn (lf st l)).2) else (0, { (burn (lf st l)).2 with S := settle (burn (lf st l)).2.S (burn (lf st l)).2.L, L := [] }) := fun l => by
    unfold barrier
    rw [if_neg (by show ¬ st.gone = true; simp [hg])]
  by_cases l1 : l = 1
  · left
    unfold barA
    dsimp only
    rw [br, l1]
    rfl
  · right
    refine ⟨K, { st with S := settle st.S st.L, L := [] }, l - 1, hg, fun h => absurd h l1, ?_, ?_⟩
    · unfold barA
      dsimp only
      rw [br]
      rfl
    · unfold barA
      dsimp only
      rw [br]
      by_cases l0 : l = 0
      · subst l0; rfl
      · have hb : burn (lf st l) = (false, lf st (l - 1)) := by
          unfold burn
          rw [if_neg (by exact l0), if_neg (by exact l1)]
          rfl
        rw [hb]
        rfl
theorem sim_wr (a : Nat) : SimF (wrA a) := by
  intro K st l hg h0
  rcases sim_write st l hg (a : Int) zeroB h0 with h | ⟨st', l', g, h1, e1, e2⟩
  · exact Or.inl h
  · refine Or.inr ⟨K, st', l', g, h1, ?_, ?_⟩
    · unfold wrA; dsimp only; rw [e1]
    · unfold wrA; dsimp only; rw [e2]
theorem sim_run : ∀ (fs : List (KS → Int × KS)), (∀ f ∈ fs, SimF f) → SimF (runA fs) := by
  intro fs
  induction fs with
  | nil => intro _ K st l hg _; exact Or.inr ⟨K, st, l, hg, id, rfl, rfl⟩
  | cons f r ih =>
    intro h K st l hg h0
    rw [show runA (f :: r) (K, lf st 0) = if (f (K, lf st 0)).1 = 0 then runA r (f (K, lf st 0)).2 else f (K, lf st 0) from rfl] at h0 ⊢
    rw [show runA (f :: r) (K, lf st l) = if (f (K, lf st l)).1 = 0 then runA r (f (K, lf st l)).2 else f (K, lf st l) from rfl]
    have hf0 : (f (K, lf st 0)).1 = 0 := by
      by_cases h9 : (f (K, lf st 0)).1 = 0
      · exact h9
      · rw [if_neg h9] at h0; exact absurd h0 h9
    rw [if_pos hf0] at h0 ⊢
    rcases h f (by simp) K st l hg hf0 with h9 | ⟨K', st', l', g, h1, e1, e2⟩
    · left
      rw [if_neg (by rw [h9]; decide)]
      exact h9
    · rw [e2, if_pos rfl]
      rw [e1] at h0 ⊢
      rcases ih (fun f hf => h f (by simp [hf])) K' st' l' g h0 with h9 | ⟨K2, st2, l2, g2, h2, e3, e4⟩
      · exact Or.inl h9
      · exact Or.inr ⟨K2, st2, l2, g2, fun e => h2 (h1 e), e3, e4⟩
theorem sim_room (n : Nat) (K : List KE) (st : RS) (l : Nat) (hg : st.gone = false) (h0 : (kroom n K (lf st 0)).1 = 0) :
    (kroom n K (lf st l)).1 = 9 ∨ ∃ K' st' l', st'.gone = false ∧ (l = 1 → l' = 1) ∧ kroom n K (lf st 0) = (0, K', lf st' 0) ∧ kroom n K (lf st l) = (0, K', lf st' l') := by
  by_cases hlt : K.length < n
  · exact Or.inr ⟨K, st, l, hg, id, kroom_room hlt, kroom_room hlt⟩
  · cases K with
    | nil => exact Or.inr ⟨[], st, l, hg, id, by unfold kroom; rw [if_neg hlt], by unfold kroom; rw [if_neg hlt]⟩
    | cons h T =>
      have hf : n ≤ (h :: T).length := by omega
      cases hd : h.dirty with
      | false =>
        have hk : ∀ l, kwrote h (lf st l) = (0, lf st l) := fun l => by unfold kwrote; rw [hd]; rfl
        exact Or.inr ⟨T, st, l, hg, id, by rw [kroom_ok hf (by rw [hk]), hk], by rw [kroom_ok hf (by rw [hk]), hk]⟩
      | true =>
        have hk : ∀ l, kwrote h (lf st l) = write (lf st l) h.pl h.bs := fun l => by unfold kwrote; rw [if_pos hd]
        have hw0 : (write (lf st 0) h.pl h.bs).1 = 0 := by
          by_cases h9 : (write (lf st 0) h.pl h.bs).1 = 0
          · exact h9
          · rw [kroom_no hf (by rw [hk]; exact h9), hk] at h0
            exact absurd h0 h9
        rcases sim_write st l hg h.pl h.bs hw0 with h9 | ⟨st', l', g, h1, e1, e2⟩
        · left
          rw [kroom_no hf (by rw [hk, h9]; decide), hk]
          exact h9
        · exact Or.inr ⟨T, st', l', g, h1, by rw [kroom_ok hf (by rw [hk, e1]), hk, e1], by rw [kroom_ok hf (by rw [hk, e2]), hk, e2]⟩
theorem sim_put (n : Nat) (z : Int) (b : List UInt8) : SimF (fun x => kput n x.1 x.2 z b) := by
  intro K st l hg h0
  dsimp only at h0 ⊢
  have e1 : whyN (lf st 0) z = 0 := by
    by_cases h : whyN (lf st 0) z = 0
    · exact h
    · unfold kput at h0; rw [if_pos h] at h0; exact absurd h0 h
  have e2 : b.length = 256 := by
    by_cases h : b.length = 256
    · exact h
    · unfold kput at h0; rw [if_neg (by simp [e1]), if_pos h] at h0; cases h0
  have kp : ∀ l, kput n K (lf st l) z b = match kfind K z.toNat with
      | some _ => (0, kdrop K z.toNat ++ [⟨z.toNat, b, true⟩], lf st l)
      | none => if (kroom n K (lf st l)).1 = 0 then (0, (kroom n K (lf st l)).2.1 ++ [⟨z.toNat, b, true⟩], (kroom n K (lf st l)).2.2) else ((kroom n K (lf st l)).1, K, (kroom n K (lf st l)).2.2) := fun l => by
    unfold kput
    rw [if_neg (by show ¬ whyN (lf st 0) z ≠ 0; simp [e1]), if_neg (by simp [e2])]
    cases kfind K z.toNat <;> rfl
  rw [kp] at h0
  rw [kp, kp]
  cases hf : kfind K z.toNat with
  | some y => exact Or.inr ⟨_, st, l, hg, id, rfl, rfl⟩
  | none =>
    rw [hf] at h0
    dsimp only at h0 ⊢
    have hr0 : (kroom n K (lf st 0)).1 = 0 := by
      by_cases h9 : (kroom n K (lf st 0)).1 = 0
      · exact h9
      · rw [if_neg h9] at h0; exact absurd h0 h9
    rcases sim_room n K st l hg hr0 with h9 | ⟨K', st', l', g, h1, q1, q2⟩
    · left
      rw [if_neg (by rw [h9]; decide)]
      exact h9
    · refine Or.inr ⟨K' ++ [⟨z.toNat, b, true⟩], st', l', g, h1, ?_, ?_⟩
      · rw [q1]; rfl
      · rw [q2]; rfl
theorem sim_pages (m : Nat) : ∀ (ps : List (List UInt8)) (a : Nat), SimF (pagesA m ps a) := by
  intro ps
  induction ps with
  | nil => intro a K st l hg _; exact Or.inr ⟨K, st, l, hg, id, rfl, rfl⟩
  | cons p r ih =>
    intro a K st l hg h0
    rw [show pagesA m (p :: r) a (K, lf st 0) = if (pageA m a p (K, lf st 0)).1 = 0 then pagesA m r (a + 1) (pageA m a p (K, lf st 0)).2 else pageA m a p (K, lf st 0) from rfl] at h0 ⊢
    rw [show pagesA m (p :: r) a (K, lf st l) = if (pageA m a p (K, lf st l)).1 = 0 then pagesA m r (a + 1) (pageA m a p (K, lf st l)).2 else pageA m a p (K, lf st l) from rfl]
    have hf0 : (pageA m a p (K, lf st 0)).1 = 0 := by
      by_cases h9 : (pageA m a p (K, lf st 0)).1 = 0
      · exact h9
      · rw [if_neg h9] at h0; exact absurd h0 h9
    rw [if_pos hf0] at h0 ⊢
    rcases sim_put m (a : Int) (sealB p a 3) K st l hg hf0 with h9 | ⟨K', st', l', g, h1, e1, e2⟩
    · left
      rw [if_neg (by show ¬ (kput m K (lf st l) (a : Int) (sealB p a 3)).1 = 0; rw [show (kput m K (lf st l) (a : Int) (sealB p a 3)).1 = 9 from h9]; decide)]
      exact h9
    · have q1 : pageA m a p (K, lf st 0) = (0, K', lf st' 0) := e1
      have q2 : pageA m a p (K, lf st l) = (0, K', lf st' l') := e2
      rw [q2, if_pos rfl]
      rw [q1] at h0 ⊢
      rcases ih (a + 1) K' st' l' g h0 with h9 | ⟨K2, st2, l2, g2, h2, e3, e4⟩
      · exact Or.inl h9
      · exact Or.inr ⟨K2, st2, l2, g2, fun e => h2 (h1 e), e3, e4⟩
theorem sim_flushL : ∀ (r K : List KE) (st : RS) (l : Nat), st.gone = false → (kflushL r K (lf st 0)).1 = 0 → (kflushL r K (lf st l)).1 = 9 ∨ ∃ K' st' l', st'.gone = false ∧ (l = 1 → l' = 1) ∧ kflushL r K (lf st 0) = (0, K', lf st' 0) ∧ kflushL r K (lf st l) = (0, K', lf st' l') := by
  intro r
  induction r with
  | nil => intro K st l hg _; exact Or.inr ⟨K, st, l, hg, id, rfl, rfl⟩
  | cons x r ih =>
    intro K st l hg h0
    rw [show kflushL (x :: r) K (lf st 0) = if (write (lf st 0) x.pl x.bs).1 = 0 then kflushL r (kclean K x.pl) (write (lf st 0) x.pl x.bs).2 else ((write (lf st 0) x.pl x.bs).1, K, (write (lf st 0) x.pl x.bs).2) from rfl] at h0 ⊢
    rw [show kflushL (x :: r) K (lf st l) = if (write (lf st l) x.pl x.bs).1 = 0 then kflushL r (kclean K x.pl) (write (lf st l) x.pl x.bs).2 else ((write (lf st l) x.pl x.bs).1, K, (write (lf st l) x.pl x.bs).2) from rfl]
    have hf0 : (write (lf st 0) x.pl x.bs).1 = 0 := by
      by_cases h9 : (write (lf st 0) x.pl x.bs).1 = 0
      · exact h9
      · rw [if_neg h9] at h0; exact absurd h0 h9
    rw [if_pos hf0] at h0 ⊢
    rcases sim_write st l hg x.pl x.bs hf0 with h9 | ⟨st', l', g, h1, e1, e2⟩
    · left
      rw [if_neg (by rw [h9]; decide)]
      exact h9
    · rw [e2, if_pos rfl]
      rw [e1] at h0 ⊢
      rcases ih (kclean K x.pl) st' l' g h0 with h9 | ⟨K2, st2, l2, g2, h2, e3, e4⟩
      · exact Or.inl h9
      · exact Or.inr ⟨K2, st2, l2, g2, fun e => h2 (h1 e), e3, e4⟩
theorem sim_flush : SimF flushA := by
  intro K st l hg h0
  have kf : ∀ l, flushA (K, lf st l) = kflushL (kdirty K) K (lf st l) := fun l => by
    unfold flushA kflush
    rw [if_neg (by show ¬ st.gone = true; simp [hg])]
  rw [kf] at h0
  rw [kf, kf]
  exact sim_flushL _ _ st l hg h0
theorem sim_sup (m : Nat) (s : SB) : SimF (supA m s) := by
  intro K st l hg h0
  by_cases hs : s.may = true
  · have e : ∀ x, supA m s x = kput m x.1 x.2 ((s.G % 2 : Nat) : Int) (supB s) := fun x => by unfold supA; rw [if_pos hs]
    rw [e] at h0
    rw [e, e]
    exact sim_put m _ _ K st l hg h0
  · unfold supA at h0
    rw [if_neg hs] at h0
    cases h0
theorem sim_lay (m : Nat) (s : SB) (N : List UInt8) : SimF (layA m s N) := sim_run _ fun f hf => by
  simp only [laySteps, List.mem_cons, List.not_mem_nil, or_false] at hf
  rcases hf with rfl | rfl | rfl | rfl | rfl | rfl
  · exact sim_pages m _ _
  · exact sim_flush
  · exact sim_bar
  · exact sim_sup m s
  · exact sim_flush
  · exact sim_bar
/-- Format with a fuse: the power goes, or it is the new pool. -/
theorem format_fused {st : RS} (hn : 16 ≤ st.count ∧ st.count ≤ 1024) (hs : Sound st) (hg : st.gone = false) (hl : st.left = 0) (l : Nat) :
    (formatA (lf st l)).1 = 9 ∨ ((formatA (lf st l)).1 = 0 ∧ (formatA (lf st l)).2.L = [] ∧ (formatA (lf st l)).2.count = st.count ∧ foundA (formatA (lf st l)).2 = some (firstS st.count, freshN st.count)) := by
  obtain ⟨x', e, h, lx, f⟩ := format_good hn (st := st) ⟨⟨by simp, by simp, by simp, by simp, hg, hl, rfl⟩, hs, by simp⟩
  have e0 : lf st 0 = st := by unfold lf; rw [← hl]
  have hsim : SimF (runA [clearA, barA, layA 1 (firstS st.count) (freshN st.count)]) := sim_run _ fun f hf => by
    simp only [List.mem_cons, List.not_mem_nil, or_false] at hf
    rcases hf with rfl | rfl | rfl
    · exact sim_run _ fun f hf => by
        simp only [List.mem_cons, List.not_mem_nil, or_false] at hf
        rcases hf with rfl | rfl
        · exact sim_wr 0
        · exact sim_wr 1
    · exact sim_bar
    · exact sim_lay 1 _ _
  rcases hsim [] st l hg (by rw [e0, e]) with h9 | ⟨K', st', l', g, -, q1, q2⟩
  · exact Or.inl h9
  · right
    rw [e0, e] at q1
    have hx : x' = (K', lf st' 0) := congrArg Prod.snd q1
    have q : formatA (lf st l) = (0, lf st' l') := by
      unfold formatA
      rw [show (lf st l).count = st.count from rfl, q2]
    rw [q]
    refine ⟨rfl, ?_, ?_, ?_⟩
    · have := lx; rw [hx] at this; exact this
    · have := h.g.c; rw [hx] at this; exact this
    · have := f; rw [hx] at this; exact this
theorem found_crash {st : RS} (h : st.L = []) (ps : List UInt8) : foundA (crash st ps) = foundA st := by
  have e : crash st ps = { st with L := [], left := 0, gone := false } := by
    unfold crash
    rw [h]
    rfl
  rw [e]
  have e2 : ({ st with L := [], left := 0, gone := false } : RS) = { st with left := 0, gone := false } := by rw [← h]
  rw [e2]
  rfl
theorem Sound.crash {st : RS} (h : Sound st) (hL : st.L = []) (ps : List UInt8) : Sound (crash st ps) := by
  have e : Go.Proofs.YtoeijomelabbfaaGreatDoor.crash st ps = { st with L := [], left := 0, gone := false } := by
    unfold Go.Proofs.YtoeijomelabbfaaGreatDoor.crash
    rw [hL]
    rfl
  rw [e]
  exact ⟨h.w, h.s, by simp⟩
end Go.Proofs.YtoeijomelabbfaaGreatDoor

/- Package txn: Format. -/
namespace Go.Proofs.YtoeijomelabbfaaGreatDoor
set_option maxRecDepth 200000
open Go.RowKit
set_option linter.unusedVariables false
set_option linter.unusedSimpArgs false
attribute [local go_sem ↓] Go.wp_at_zero Go.wp_at_succ

theorem kept_as (n k : Nat) (hk : keptN n = k) (z : Int) (hz : z = (n : Int)) (hn : n ≤ 1024) (w : World) : Calls Tryz.prog 115 #[.int .i64 z] w fun e w' => e = .returned (.int .i64 (k : Int)) ∧ w = w' := by
  obtain ⟨p, hp⟩ : ∃ p, npg n = p := ⟨_, rfl⟩
  have cP := fun u => pages_as n p hp z hz hn u
  have h5 := npg_few hn
  rw [hp] at h5
  have hw1 : IntKind.i64.wrap (2 * (p : Int)) = ((2 * p : Nat) : Int) := by rw [IntKind.wrap_i64]; omega
  have hw2 : IntKind.i64.wrap (2 + ((2 * p : Nat) : Int)) = (k : Int) := by rw [IntKind.wrap_i64]; unfold keptN at hk; omega
  obtain ⟨q, hq⟩ : ∃ q, 2 * p = q := ⟨_, rfl⟩
  rw [hq] at hw1 hw2
  clear hk hz hp hq h5
  go_enter Tryz.func115, Tryz.ntmps115
  go_wp2_with (first | (go_at_call 157; refine (cP _).mono ?_; rintro e w' ⟨rfl, rfl⟩))
  go_ret
  exact ⟨by simp, rfl⟩
theorem ones_step (k n : Nat) (h : k < n) : (List.replicate k (1 : UInt8) ++ List.replicate (n - k) 0).set k 1 = List.replicate (k + 1) 1 ++ List.replicate (n - (k + 1)) 0 := by
  rw [List.set_append_right _ _ (by simp), List.length_replicate, Nat.sub_self, show n - k = (n - (k + 1)) + 1 by omega, List.replicate_succ, List.set_cons_zero, List.replicate_succ', List.append_assoc]
  rfl
set_option maxHeartbeats 1000000 in
theorem untouched_any (n : Nat) (hn : 16 ≤ n ∧ n ≤ 1024) (w : World) : Calls Tryz.prog 50 #[.int .i64 (n : Int)] w fun e w' => ∃ b, e = .returned (.slice (some ⟨b, 0, none⟩) n n) ∧ w.heap.size ≤ b ∧ Room w' w.heap.size (some ⟨b, 0, none⟩) n n (bts (freshN n)) ∧ Chg [] w w' := by
  have hm2 : ∀ u : World, (Instr.makeSlice 41 (.int .i64 (n : Int)) (.int .i64 (n : Int))).run Tryz.prog u = .ok (.slice (some ⟨u.heap.size, 0, none⟩) n n) (u.alloc (.cells (madeCells #[.int .u8 0] n) 5)) := fun u =>
    run_make_k eltB (.int .u8 0) (by kernel_rfl) rfl n (by omega) (by unfold maxLen; omega) u
  obtain ⟨K, hK⟩ : ∃ K, keptN n = K := ⟨_, rfl⟩
  have cK := fun u => kept_as n K hK (n : Int) rfl hn.2 u
  have hKn : K ≤ n := by rw [← hK]; exact kept_le hn
  have hR := made_room w 5 (.int .u8 0) n (by unfold maxLen; omega)
  have g1 := Chg.alloc [] w (.cells (madeCells #[.int .u8 0] n) 5)
  have hfr : freshN n = List.replicate K 1 ++ List.replicate (n - K) 0 := by unfold freshN; rw [hK]
  rw [← bts_rep] at hR
  have HF := mkHid hfr
  clear hK hfr
  go_enter Tryz.func50, Tryz.ntmps50
  go_wp2_with (first | (go_at_call 115; refine (cK _).mono ?_; rintro e w' ⟨rfl, rfl⟩))
  generalize w.alloc _ = w1 at *
  obtain ⟨b, hb⟩ : ∃ b, w.heap.size = b := ⟨_, rfl⟩
  have hB0 : w.heap.size ≤ w.heap.size := Nat.le_refl _
  rw [hb] at hR
  try rw [hb]
  go_loopw [9] (fun iv wr => ∃ k : Nat, iv = .int .i64 k ∧ k ≤ K ∧ Room wr b (some ⟨b, 0, none⟩) n n (bts (List.replicate k 1 ++ List.replicate (n - k) 0)) ∧ Chg [] w wr) (fun iv _ => K - (Go.RowKit.intOf iv).toNat)
  case atStart => exact ⟨0, rfl, Nat.zero_le _, by simpa using hR, g1⟩
  case round =>
    obtain ⟨k, rfl, hk, hRk, hg⟩ := hrel
    by_cases hlt : k < K
    · have d1 : decide (k < K) = true := decide_eq_true hlt
      have d2 : decide ((k : Int) < (K : Int)) = true := decide_eq_true (by omega)
      have hkn : k < n := by omega
      have f0 : wr.frozen? ⟨b, k, none⟩ = false := by have := hRk.cell k hkn; simpa using this
      have hcl : ∃ v, wr.cell? ⟨b, k, none⟩ = some v := by
        obtain ⟨bb, oo, e, -, -, hcc⟩ := hRk.at_ (by omega)
        cases e
        have := hcc k _ (bts_get (List.replicate k 1 ++ List.replicate (n - k) 0) k (by simp; omega))
        rw [Nat.zero_add] at this
        exact ⟨_, this⟩
      obtain ⟨v, c0⟩ := hcl
      have hset := hRk.set k hkn (.int .u8 1)
      have e2 : (bts (List.replicate k 1 ++ List.replicate (n - k) 0)).set k (.int .u8 1) = bts (List.replicate (k + 1) 1 ++ List.replicate (n - (k + 1)) 0) := by
        rw [show (Value.int .u8 1) = .int .u8 (v8 1) from rfl, bts_set, ones_step k n hkn]
      rw [e2, Nat.zero_add] at hset
      have gs := Chg.setCell wr ⟨b, k, none⟩ (.int .u8 1)
      have HS := mkHid hset
      clear hset e2 hRk
      go_wp2_with fail
      refine ⟨⟨k + 1, by first | rfl | go_num, by omega, HS.out, ?_⟩, by simp [Go.RowKit.intOf]; omega⟩
      exact hg.trans gs (by simp) (fun q hq hlt => by simp at hq; omega)
    · have e : k = K := by omega
      subst e
      have d1 : decide (k < k) = false := by simp
      go_wp2_with fail
      go_ret
      rw [HF.out]
      exact ⟨b, rfl, by omega, by rw [hb]; exact hRk, hg⟩

section
variable {w0 w : World} {ts : Nat → Nat} {db cb m u kb lb : Nat} {x : KS}
def fmtV (db cb : Nat) (s : SB) (a : Option Addr) (n c : Nat) : Array Value := #[.func (.func 52) #[.agg (cmA db cb s a n c)] #[], .func (.func 42) #[.pointer (some ⟨db, 0, none⟩)] #[], .func (.func 53) #[.agg (cmA db cb s a n c)] #[]]
theorem fmt_run (s : SB) (a : Option Addr) (n c : Nat) (N : List UInt8) (h : PJ w0 w ts db cb m u kb lb x w) (hT : Tab w0) (hB : s.B = (n : Int)) (hf : s.Fits) (hn : n ≤ 1024) (gN : Reads w a (bts N)) (hN : N.length = n) (hc : n ≤ c) (hat : 0 < n → ∀ k, k ∈ blk a → ts k ≠ 2) (hu : u ≤ 700000000) (hk : kb ≤ 1000) (hl : lb ≤ 600000000)
    (sb : Nat) (hr : Reads w (some ⟨sb, 0, none⟩) (fmtV db cb s a n c).toList) (hsb : ts sb ≠ 2) :
    Calls Tryz.prog 51 #[.slice (some ⟨sb, 0, none⟩) 3 3] w fun e w' => e = .returned (.int .i64 (runA [clearA, barA, layA m s N] x).1) ∧ PJ w0 w ts db cb m (u + 90) (kb + 90) (lb + 108000) (runA [clearA, barA, layA m s N] x).2 w' := by
  refine (inTurn_any (some ⟨sb, 0, none⟩) 3 3 (by decide) (fmtV db cb s a n c).toList [clearA, barA, layA m s N] (fun i y w' => PJ w0 w ts db cb m (u + 30 * i) (kb + 30 * i) (lb + 36000 * i) y w' ∧ i ≤ 3) rfl rfl ?_ ?_ x w ⟨h, by decide⟩).mono ?_
  · intro i v f hv hf'
    match i, hv, hf' with
    | 0, hv, hf' =>
      cases hv; cases hf'
      refine ⟨_, _, rfl, enters_of Tryz.func52 (by kernel_rfl) rfl, fun y w' hJ => ?_⟩
      refine (clear_any s a n c hJ.1 (by omega)).mono ?_
      rintro e w2 ⟨he, hJ2⟩
      exact ⟨he, hJ2.mono (by omega) (by omega) (by omega), by decide⟩
    | 1, hv, hf' =>
      cases hv; cases hf'
      refine ⟨_, _, rfl, enters_of Tryz.func42 (by kernel_rfl) rfl, fun y w' hJ => ?_⟩
      refine hJ.1.bar.mono ?_
      rintro e w2 ⟨he, hJ2⟩
      exact ⟨he, hJ2.mono (by omega) (by omega) (by omega), by decide⟩
    | 2, hv, hf' =>
      cases hv; cases hf'
      refine ⟨_, _, rfl, enters_of Tryz.func53 (by kernel_rfl) rfl, fun y w' hJ => ?_⟩
      refine (lay_all s a n c N hJ.1 hT hB hf hn gN hN hc hat (by omega) (by omega) (by omega)).mono ?_
      rintro e w2 ⟨he, hJ2⟩
      exact ⟨he, hJ2.mono (by omega) (by omega) (by omega), by decide⟩
    | i + 3, hv, hf' => cases hf'
  · intro i y w' hJ
    exact hJ.1.reads hr (fun _ k hk => by simp [blk] at hk; subst hk; exact hsb)
  · rintro e w' ⟨j, hj, he, hJ, -⟩
    exact ⟨he, hJ.mono (by omega) (by omega) (by omega)⟩
end
theorem PJ.end_ {w0 ws w : World} {ts : Nat → Nat} {db cb m u kb lb : Nat} {x : KS} (h : PJ w0 ws ts db cb m u kb lb x w) : ∃ tag', HasPair w0 w tag' 2 db cb x.1 x.2 m u ∧ Base w0 w tag' ∧ Turn w0.heap.size ts tag' 2 ws w := by
  obtain ⟨tag, a, b, c, d, e⟩ := h
  exact ⟨tag, a, b, c⟩
set_option maxHeartbeats 4000000 in
theorem format_any {w0 w : World} {tag : Nat → Nat} {db : Nat} {st : RS} (h : HasDev w0 w tag 2 db st) (hb : Base w0 w tag) (hT : Tab w0) (hn : 16 ≤ st.count) (hL : st.L.length ≤ 500000000) :
    Calls Tryz.prog 9 #[.pointer (some ⟨db, 0, none⟩)] w fun e w' => e = .returned (.int .i64 (formatA st).1) ∧ ∃ tag', HasDev w0 w' tag' 2 db (formatA st).2 ∧ Base w0 w' tag' ∧ Turn w0.heap.size tag tag' 2 w w' := by
  have cB := v_blocks h
  have hp := h.pos.2
  have cC := v_cache h hb (by decide) 1 (by decide)
  unfold formatA
  obtain ⟨n, hc⟩ : ∃ n, st.count = n := ⟨_, rfl⟩
  rw [hc] at cB hn hp ⊢
  have h0 : ((n : Int) == 0) = false := beq_eq_false_iff_ne.2 (by omega)
  have h1 : decide ((n : Int) < 16) = false := decide_eq_false (by omega)
  have h2 : decide (n < 16) = false := decide_eq_false (by omega)
  have cU := fun u => untouched_any n ⟨hn, hp⟩ u
  have H16 := mkHid (And.intro hn hp)
  clear hc h hp hn
  go_enter Tryz.func9, Tryz.ntmps9
  go_wp2_with (first | (go_at_call 48; refine cB.mono ?_; rintro e w' ⟨rfl, rfl⟩))
  refine cC.mono ?_
  rintro e w1 ⟨cb, rfl, t1, hP, s1⟩
  go_wp2_with fail
  refine (cU w1).mono ?_
  rintro e w2 ⟨lb, rfl, hlb, hR, g2⟩
  have s2 := still_mark t1 9 g2
  have hP2 := hP.still s2
  have hb2 := (hb.still s1).still s2
  have hlt : lb < w2.heap.size := (hR.lt lb (by rw [fp_some _ _ _ (by have := H16.out; omega)]; simp)).2
  have tlb : mark t1 w1.heap.size 9 lb = 9 := mark_new _ _ _ _ hlb
  generalize mark t1 w1.heap.size 9 = t2 at *
  obtain ⟨A, hA⟩ : ∃ A, cmA db cb (firstS n) (some ⟨lb, 0, none⟩) n n = A := ⟨_, rfl⟩
  obtain ⟨V, hV⟩ : ∃ V, fmtV db cb (firstS n) (some ⟨lb, 0, none⟩) n n = V := ⟨_, rfl⟩
  have g3 := Chg.alloc [] w2 (.cells A 99)
  have g4 := Chg.alloc [] (w2.alloc (.cells A 99)) (.cells V 70)
  have hr4 := reads_alloc (w2.alloc (.cells A 99)) V 70
  have s4 := still_mark t2 9 (g3.then g4)
  have hsz : (w2.alloc (.cells A 99)).heap.size = w2.heap.size + 1 := by simp
  have hJ := PJ.start (x := ([], st)) (kb := 0) (lb := 500000000) (hP2.still s4) (hb2.still s4) (Nat.le_refl _) hL
  have t4lb : mark t2 w2.heap.size 9 lb ≠ 2 := by rw [mark_old _ _ _ _ hlt, tlb]; decide
  have t4sb : mark t2 w2.heap.size 9 (w2.heap.size + 1) ≠ 2 := by rw [mark_new _ _ _ _ (Nat.le_succ _)]; decide
  rw [hsz] at hr4
  have hr5 : Reads ((w2.alloc (.cells A 99)).alloc (.cells V 70)) (some ⟨w2.heap.size + 1, 0, none⟩) (fmtV db cb (firstS n) (some ⟨lb, 0, none⟩) n n).toList := by rw [hV]; exact hr4
  have h16 := H16.out
  have cL := fmt_run (firstS n) (some ⟨lb, 0, none⟩) n n (freshN n) hJ hT rfl (SB.fits_of_may (first_may h16)) h16.2 (hR.reads.keep (g3.then g4)) (fresh_len h16) (Nat.le_refl _) (fun _ k hk => by simp [blk] at hk; subst hk; exact t4lb) (by omega) (by omega) (by omega) (w2.heap.size + 1) hr5 t4sb
  have S4 := (s1.trans s2).trans s4
  have HL := mkHid cL
  subst hV hA
  clear cL hJ hr4 hr5 hb2 hP2 hP s4 g3 g4 hR t4lb t4sb tlb hb hT hlt hsz
  unfold fmtV cmA firstS at HL
  dsimp only at HL
  go_wp2_with fail
  refine HL.out.mono ?_
  rintro e w5 ⟨rfl, hJ⟩
  go_wp2_with fail
  go_ret
  obtain ⟨t5, p5, b5, u5⟩ := hJ.end_
  exact ⟨rfl, t5, p5.dev, b5, (S4.turn _ _).trans u5⟩
end Go.Proofs.YtoeijomelabbfaaGreatDoor

/- Package txn: what a disk says: a slot, the counts, what is held. -/
namespace Go.Proofs.YtoeijomelabbfaaGreatDoor
set_option maxRecDepth 200000
open Go.RowKit
set_option linter.unusedVariables false
set_option linter.unusedSimpArgs false
attribute [local go_sem ↓] Go.wp_at_zero Go.wp_at_succ

theorem reads_256 {st : RS} (h : Sound st) {a : Nat} (ha : a < st.count) : (reads st a 4).length = 256 := by
  have := h.w.1
  exact reads_len st a 4 (by omega) h.s (fun f hf => (h.l f hf).1)
theorem why_in {st : RS} (hg : st.gone = false) {a : Nat} (ha : a < st.count) : whyN st (a : Int) = 0 := by
  unfold whyN
  rw [hg, if_neg (by decide), if_neg (by omega)]
theorem why_out {st : RS} (hg : st.gone = false) {a : Nat} (ha : ¬ a < st.count) : whyN st (a : Int) = 6 := by
  unfold whyN
  rw [hg, if_neg (by decide), if_pos (by omega)]
section
variable {w0 w : World} {tag : Nat → Nat} {i db : Nat} {st : RS} (h : HasDev w0 w tag i db st)
include h
theorem sector_any (hg : st.gone = false) (k : Nat) (z : Int) (hz : z = (k : Int)) (B : List UInt8) (hB : slotB st k = B) :
    Calls Tryz.prog 130 #[.pointer (some ⟨db, 0, none⟩), .int .i64 z] w fun e w' => ∃ ao c, e = .returned (.slice ao B.length c) ∧ Reads w' ao (bts B) ∧ B.length ≤ c ∧ c ≤ maxLen ∧ Chg [] w w' := by
  subst hz
  by_cases hk : k < st.count
  · have cR := v_read h k (why_in hg hk)
    have hl := reads_256 h.sound hk
    have hB2 : B = (reads st k 4).take 64 := by rw [← hB]; unfold slotB; rw [if_pos hk]
    obtain ⟨R, hR⟩ : ∃ R, reads st k 4 = R := ⟨_, rfl⟩
    rw [hR] at cR hl hB2
    have hlen : B.length = 64 := by rw [hB2, List.length_take]; omega
    have HL := mkHid hlen
    have HB := mkHid hB2
    clear hl hB2 hB hlen hR
    go_enter Tryz.func130, Tryz.ntmps130
    go_wp2_with fail
    refine cR.mono ?_
    rintro e w1 ⟨ao, c, rfl, hr, g1⟩
    have hle := hr.le
    have hmx := hr.max
    have hsl : ∀ u : World, (Instr.slice 41 (.slice ao 256 c) none (some (.int .i64 64)) none).run Tryz.prog u = .ok (.slice ao 64 c) u := run_take_k (P := Tryz.prog) (t := 41) (e := 5) ao 256 c 64 Tryz.underlying41 (by kernel_rfl) (by omega)
    have hrd := hr.reads.take 64
    rw [bts_take, ← HB.out] at hrd
    go_wp2_with fail
    go_ret
    rw [HL.out]
    exact ⟨ao, c, rfl, hrd, by omega, hmx, g1⟩
  · have cR := v_read_no h (k : Int) (by rw [why_out hg hk]; decide)
    rw [why_out hg hk] at cR
    have hB2 : B = [] := by rw [← hB]; unfold slotB; rw [if_neg hk]
    subst hB2
    clear hB
    go_enter Tryz.func130, Tryz.ntmps130
    go_wp2_with fail
    refine cR.mono ?_
    rintro e w1 ⟨rfl, rfl⟩
    go_wp2_with fail
    go_ret
    exact ⟨none, 0, rfl, fun h => absurd h (by simp [bts]), Nat.le_refl _, Nat.zero_le _, Chg.refl _ _⟩
end
/-- Pages, one behind the other, each in memory of its own. -/
structure PgL (w : World) (B : Nat) (ao : Option Addr) (c : Nat) (vs : List Value) (ps : List (List UInt8)) : Prop where
  r : Room w B ao ps.length c vs
  p : ∀ (i : Nat) (p : List UInt8), ps[i]? = some p → ∃ a k, vs[i]? = some (.slice a 240 k) ∧ p.length = 240 ∧ 240 ≤ k ∧ Reads w a (bts p) ∧ ∀ q, q ∈ blk a → q < w.heap.size ∧ q ∉ fp ao c
theorem PgL.nil (w : World) (B : Nat) : PgL w B none 0 [] [] := ⟨Room.nil _ _ _, fun i p h => by simp at h⟩
theorem PgL.rd {w : World} {B : Nat} {ao : Option Addr} {c : Nat} {vs : List Value} {ps : List (List UInt8)} (h : PgL w B ao c vs ps) : RdPg w ao ps :=
  ⟨vs, h.r.len, h.r.reads, fun i p hp => by
    obtain ⟨a, k, h1, h2, h3, h4, h5⟩ := h.p i p hp
    exact ⟨a, k, by rw [h2]; exact h1, by omega, by omega, h4⟩⟩
theorem PgL.keep {w w' : World} {B : Nat} {ao : Option Addr} {c : Nat} {vs : List Value} {ps : List (List UInt8)} (h : PgL w B ao c vs ps) (g : Chg [] w w') : PgL w' B ao c vs ps :=
  ⟨h.r.chg g (by simp), fun i p hp => by
    obtain ⟨a, k, h1, h2, h3, h4, h5⟩ := h.p i p hp
    exact ⟨a, k, h1, h2, h3, h4.keep g, fun q hq => ⟨Nat.lt_of_lt_of_le (h5 q hq).1 g.size, (h5 q hq).2⟩⟩⟩
theorem PgL.snoc {w w1 w2 : World} {B : Nat} {ao ao2 : Option Addr} {c c2 : Nat} {vs : List Value} {ps : List (List UInt8)} (h : PgL w B ao c vs ps) (g : Chg [] w w1) {a : Option Addr} {k : Nat} {p : List UInt8} (hp : Room w1 w.heap.size a 240 k (bts p)) (hl : p.length = 240)
    (hr : Room w2 B ao2 (ps.length + 1) c2 (vs ++ [.slice a 240 k])) (g2 : Chg (fp ao c) w1 w2) (hf : fp ao2 c2 = fp ao c ∨ ∃ b, w1.heap.size ≤ b ∧ fp ao2 c2 = [b]) : PgL w2 B ao2 c2 (vs ++ [.slice a 240 k]) (ps ++ [p]) := by
  have hn : ∀ q, q < w1.heap.size → q ∉ fp ao c → q ∉ fp ao2 c2 := fun q hq hm => by
    rcases hf with e | ⟨b, hb, e⟩
    · rw [e]; exact hm
    · rw [e]; simp; omega
  refine ⟨by rw [List.length_append]; exact hr, fun i q hq => ?_⟩
  have hvl := h.r.len
  by_cases hi : i < ps.length
  · rw [List.getElem?_append_left hi] at hq
    obtain ⟨a', k', h1, h2, h3, h4, h5⟩ := h.p i q hq
    refine ⟨a', k', by rw [List.getElem?_append_left (by omega)]; exact h1, h2, h3, (h4.keep g).chg g2 (fun j hj hm => (h5 j hj).2 hm), fun j hj => ⟨Nat.lt_of_lt_of_le (h5 j hj).1 (Nat.le_trans g.size g2.size), hn j (Nat.lt_of_lt_of_le (h5 j hj).1 g.size) (h5 j hj).2⟩⟩
  · have hi2 : i = ps.length := by
      have := (List.getElem?_eq_some_iff.1 hq).1
      rw [List.length_append, List.length_singleton] at this
      omega
    subst hi2
    rw [List.getElem?_append_right (Nat.le_refl _), Nat.sub_self] at hq
    cases hq
    have hb : ∀ j, j ∈ blk a → (w.heap.size ≤ j ∧ j < w1.heap.size) := fun j hj => hp.lt j (blk_fp hp (by decide) j hj)
    have ho : ∀ j, j ∈ blk a → j ∉ fp ao c := fun j hj hm => by have := (h.r.lt j hm).2; have := (hb j hj).1; omega
    exact ⟨a, k, by rw [List.getElem?_append_right (by omega), hvl, Nat.sub_self]; rfl, hl, hp.le, hp.reads.chg g2 ho, fun j hj => ⟨Nat.lt_of_lt_of_le (hb j hj).2 g2.size, hn j (hb j hj).2 (ho j hj)⟩⟩
theorem pagesR_succ (st : RS) (a k : Nat) : pagesR st a (k + 1) = pagesR st a k ++ [(reads st (a + k) 4).take 240] := by unfold pagesR; rw [List.range_succ, List.map_append]; rfl
theorem pagesR_len (st : RS) (a k : Nat) : (pagesR st a k).length = k := by simp [pagesR]
theorem allOpen_succ (st : RS) (a k : Nat) : allOpen st a (k + 1) = (allOpen st a k && decide (opens (reads st (a + k) 4) (a + k) 3 = 0)) := by unfold allOpen; rw [List.range_succ, List.all_append]; simp
theorem allOpen_no {st : RS} {a k n : Nat} (hk : k < n) (h : opens (reads st (a + k) 4) (a + k) 3 ≠ 0) : allOpen st a n = false := by
  unfold allOpen
  rw [List.all_eq_false]
  exact ⟨k, List.mem_range.2 hk, by simpa using h⟩
/-- What countsOf answers. -/
def CountsOf (w : World) (r : Option (List UInt8)) (e : Ending) (w' : World) : Prop :=
  Chg [] w w' ∧ match r with
  | some L => ∃ ao c, e = .returned (.tuple #[.slice ao L.length c, .bool true]) ∧ Reads w' ao (bts L) ∧ L.length ≤ c ∧ c ≤ maxLen ∧ ∀ q, q ∈ blk ao → L.length ≠ 0 → w.heap.size ≤ q
  | none => ∃ ao m c, e = .returned (.tuple #[.slice ao m c, .bool false])
end Go.Proofs.YtoeijomelabbfaaGreatDoor
