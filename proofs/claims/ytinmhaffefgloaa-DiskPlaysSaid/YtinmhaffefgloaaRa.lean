/- The reference's disk: what it is in memory. -/
import Derived.Test.YtinmhaffefgloaaT
import Derived.Test.YtinmhaffefgloaaQ
import Derived.Test.YtinmhaffefgloaaZ
import Derived.Test.YtinmhaffefgloaaE
import Derived.Deep.QuietTactic
import Derived.BigQuiet
import Derived.Deep.RegionHeld3
import Derived.Deep.DeepCutAuto
namespace Go.Proofs.Ytinmhaffefgloaa
open Go.RowKit
set_option linter.unusedVariables false
set_option linter.unusedSimpArgs false

/-- v is a sector's bytes, in a block of F beside those of X. -/
def Sec (w : World) (X F : List Nat) (v : Value) (l : List UInt8) : Prop :=
  l.length = 64 ∧ ∃ b o c, v = .slice (some ⟨b, o, none⟩) 64 c ∧ 64 ≤ c ∧ c ≤ maxLen ∧ b ∉ X ∧ b ∈ F ∧ b < w.heap.size ∧ Reads w (some ⟨b, o, none⟩) (bts l)
structure RefAt (w : World) (B : Nat) (F : List Nat) (rb : Nat) (sa : Option Addr) (cs : Nat) (la : Option Addr) (cl : Nat) (vs ls : List Value) (st : RS) : Prop where
  c0 : w.cell? ⟨rb, 0, none⟩ = some (.slice sa st.S.length cs)
  c1 : w.cell? ⟨rb, 1, none⟩ = some (.slice la st.L.length cl)
  c2 : w.cell? ⟨rb, 2, none⟩ = some (.int .i64 st.left)
  c3 : w.cell? ⟨rb, 3, none⟩ = some (.bool st.gone)
  c4 : w.cell? ⟨rb, 4, none⟩ = some (.int .i64 st.count)
  fz : ∀ j, j < 5 → w.frozen? ⟨rb, j, none⟩ = false
  rS : RoomZ 1 w B sa st.S.length cs vs
  rL : RoomZ 2 w B la st.L.length cl ls
  ap1 : rb ∉ fp sa cs
  ap2 : rb ∉ fp la cl
  ap3 : ∀ k, k ∈ fp sa cs → k ∉ fp la cl
  sec : ∀ (j : Nat) (l : List UInt8), st.S[j]? = some l → ∃ v, vs[j]? = some v ∧ Sec w (rb :: (fp sa cs ++ fp la cl)) F v l
  fly : ∀ (j s : Nat) (l : List UInt8), st.L[j]? = some (s, l) → s < st.S.length ∧ ls[2 * j]? = some (.int .i64 s) ∧ ∃ v, ls[2 * j + 1]? = some v ∧ Sec w (rb :: (fp sa cs ++ fp la cl)) F v l
  inF : ∀ k, k ∈ rb :: (fp sa cs ++ fp la cl) → k ∈ F
  F1 : ∀ k, k ∈ F → B ≤ k ∧ k < w.heap.size
  lft : st.left < 9223372036854775808
theorem Sec.chg {w w' : World} {X F S : List Nat} {v : Value} {l : List UInt8} (h : Sec w X F v l) (g : Chg S w w') (hn : ∀ k, k ∈ F → k ∉ X → k ∉ S) : Sec w' X F v l := by
  obtain ⟨h1, b, o, c, e, h2, h3, h4, h5, h6, h7⟩ := h
  exact ⟨h1, b, o, c, e, h2, h3, h4, h5, Nat.lt_of_lt_of_le h6 g.size, h7.chg g (fun k hk => by simp [blk] at hk; rw [hk]; exact hn b h5 h4)⟩
/-- What others do elsewhere. -/
theorem RefAt.chg {w w' : World} {B : Nat} {F S : List Nat} {rb : Nat} {sa : Option Addr} {cs : Nat} {la : Option Addr} {cl : Nat} {vs ls : List Value} {st : RS} (h : RefAt w B F rb sa cs la cl vs ls st) (g : Chg S w w') (hn : ∀ k, k ∈ F → k ∉ S) : RefAt w' B F rb sa cs la cl vs ls st := by
  have hrb : rb ∉ S := hn rb (h.inF rb (by simp))
  have hs : ∀ k, k ∈ fp sa cs → k ∉ S := fun k hk => hn k (h.inF k (by simp [hk]))
  have hl : ∀ k, k ∈ fp la cl → k ∉ S := fun k hk => hn k (h.inF k (by simp [hk]))
  exact ⟨g.cellv h.c0 hrb, g.cellv h.c1 hrb, g.cellv h.c2 hrb, g.cellv h.c3 hrb, g.cellv h.c4 hrb, fun j hj => (g.frozen (p := ⟨rb, j, none⟩) (show rb < w.heap.size from block_lt_of_cell h.c0) hrb).trans (h.fz j hj), h.rS.chg g hs, h.rL.chg g hl, h.ap1, h.ap2, h.ap3,
    fun j l hj => (h.sec j l hj).elim fun v hv => ⟨v, hv.1, hv.2.chg g (fun k hk _ => hn k hk)⟩,
    fun j s l hj => let ⟨a, b, v, c, d⟩ := h.fly j s l hj; ⟨a, b, v, c, d.chg g (fun k hk _ => hn k hk)⟩,
    h.inF, fun k hk => ⟨(h.F1 k hk).1, Nat.lt_of_lt_of_le (h.F1 k hk).2 g.size⟩, h.lft⟩
/-- One of the three plain fields is written. -/
theorem RefAt.setF {w w' : World} {B : Nat} {F : List Nat} {rb : Nat} {sa : Option Addr} {cs : Nat} {la : Option Addr} {cl : Nat} {vs ls : List Value} {st st' : RS} (h : RefAt w B F rb sa cs la cl vs ls st) (g : Chg [rb] w w')
    (e0 : w'.cell? ⟨rb, 0, none⟩ = some (.slice sa st'.S.length cs)) (e1 : w'.cell? ⟨rb, 1, none⟩ = some (.slice la st'.L.length cl)) (e2 : w'.cell? ⟨rb, 2, none⟩ = some (.int .i64 st'.left)) (e3 : w'.cell? ⟨rb, 3, none⟩ = some (.bool st'.gone)) (e4 : w'.cell? ⟨rb, 4, none⟩ = some (.int .i64 st'.count))
    (ef : ∀ j, j < 5 → w'.frozen? ⟨rb, j, none⟩ = false) (hS : st'.S = st.S) (hL : st'.L = st.L) (hC : st'.count = st.count) (hl : st'.left < 9223372036854775808) : RefAt w' B F rb sa cs la cl vs ls st' := by
  have h1 : ∀ k, k ∈ fp sa cs → k ∉ [rb] := fun k hk => by simp; rintro rfl; exact h.ap1 hk
  have h2 : ∀ k, k ∈ fp la cl → k ∉ [rb] := fun k hk => by simp; rintro rfl; exact h.ap2 hk
  have h3 : ∀ k, k ∈ F → k ∉ rb :: (fp sa cs ++ fp la cl) → k ∉ [rb] := fun k _ hk => by simp at hk ⊢; exact hk.1
  refine ⟨e0, e1, e2, e3, e4, ef, by rw [hS]; exact h.rS.chg g h1, by rw [hL]; exact h.rL.chg g h2, h.ap1, h.ap2, h.ap3, ?_, ?_, h.inF, fun k hk => ⟨(h.F1 k hk).1, Nat.lt_of_lt_of_le (h.F1 k hk).2 g.size⟩, hl⟩
  · intro j l hj
    rw [hS] at hj
    exact (h.sec j l hj).elim fun v hv => ⟨v, hv.1, hv.2.chg g h3⟩
  · intro j s l hj
    rw [hL] at hj
    obtain ⟨a, b, v, c, d⟩ := h.fly j s l hj
    exact ⟨by rw [hS]; exact a, b, v, c, d.chg g h3⟩

/-- own: the bytes in new memory. -/
theorem own_any (ao : Option Addr) (n c : Nat) (l : List UInt8) (w : World) (g : Reads w ao (bts l)) (gn : l.length = n) (hn : n ≤ 140737488355328) :
    Calls Try.prog 37 #[.slice ao n c] w fun e w' => ∃ a' c', e = .returned (.slice a' n c') ∧ Room w' w.heap.size a' n c' (bts l) ∧ Chg [] w w' := by
  have hml : maxLen = 9223372036854775807 := rfl
  go_enter Try.func37, Try.ntmps37
  go_wp2_with (first | (at_builtin; refine wpList_append_k _ rfl (.tmp 4) (.tmp 5) 32 rfl 5 1 eltB w.heap.size _ 0 0 [] rfl (Room.nil _ _ _) (Nat.le_refl _) ao n c (bts l) rfl g (by rw [bts_length]; exact gn) (bts_one l) (by omega) (by omega) ?_; intro a1 c1 w1 hr1 hg1 hf1; simp only [Nat.zero_add, List.nil_append] at hr1))
  go_ret
  exact ⟨a1, c1, rfl, hr1, hg1⟩
theorem why_any (rb : Nat) (at_ : Int) (st : RS) (w : World) (c3 : w.cell? ⟨rb, 3, none⟩ = some (.bool st.gone)) (c4 : w.cell? ⟨rb, 4, none⟩ = some (.int .i64 st.count)) :
    Calls Try.prog 35 #[.pointer (some ⟨rb, 0, none⟩), .int .i64 at_] w fun e w' => e = .returned (.int .i64 (whyN st at_)) ∧ w = w' := by
  unfold whyN
  cases hg : st.gone
  · rw [hg] at c3
    by_cases h1 : at_ < 0
    · have : (at_ < 0 ∨ (st.count : Int) ≤ at_) := Or.inl h1
      simp only [this, if_true, Bool.false_eq_true, if_false]
      go_enter Try.func35, Try.ntmps35
      go_wp2
      go_ret
      exact ⟨rfl, rfl⟩
    · by_cases h2 : (st.count : Int) ≤ at_
      · have : (at_ < 0 ∨ (st.count : Int) ≤ at_) := Or.inr h2
        simp only [this, if_true, Bool.false_eq_true, if_false]
        go_enter Try.func35, Try.ntmps35
        go_wp2
        go_ret
        exact ⟨rfl, rfl⟩
      · have : ¬ (at_ < 0 ∨ (st.count : Int) ≤ at_) := by omega
        simp only [this, if_false, Bool.false_eq_true]
        have h1' : decide (at_ < 0) = false := by simp; omega
        have h2' : decide ((st.count : Int) ≤ at_) = false := by simp; omega
        go_enter Try.func35, Try.ntmps35
        go_wp2
        go_ret
        exact ⟨rfl, rfl⟩
  · rw [hg] at c3
    simp only [if_true]
    go_enter Try.func35, Try.ntmps35
    go_wp2
    go_ret
    exact ⟨rfl, rfl⟩

theorem set_other {w : World} {b i j : Nat} {u v : Value} (h : w.cell? ⟨b, j, none⟩ = some v) (hij : j ≠ i) : (w.setCell ⟨b, i, none⟩ u).cell? ⟨b, j, none⟩ = some v := by
  rw [World.cell?_setCell_other _ _ _ _ (by simp [hij])]
  exact h
theorem burns_any (B : Nat) (F : List Nat) (rb : Nat) (sa : Option Addr) (cs : Nat) (la : Option Addr) (cl : Nat) (vs ls : List Value) (st : RS) (w : World) (h : RefAt w B F rb sa cs la cl vs ls st) :
    Calls Try.prog 36 #[.pointer (some ⟨rb, 0, none⟩)] w fun e w' => e = .returned (.bool (burn st).1) ∧ RefAt w' B F rb sa cs la cl vs ls (burn st).2 ∧ Chg [rb] w w' := by
  have c2 := h.c2
  have c3 := h.c3
  have f2 := h.fz 2 (by decide)
  have f3 := h.fz 3 (by decide)
  unfold burn
  by_cases h0 : st.left = 0
  · rw [if_pos h0]
    rw [h0] at c2
    go_enter Try.func36, Try.ntmps36
    go_wp2
    go_ret
    exact ⟨rfl, h, Chg.refl _ _⟩
  · rw [if_neg h0]
    obtain ⟨k, hk⟩ : ∃ k, st.left = k + 1 := ⟨st.left - 1, by omega⟩
    have hlf := h.lft
    by_cases h1 : st.left = 1
    · rw [if_pos h1]
      rw [h1] at c2
      go_enter Try.func36, Try.ntmps36
      go_wp2
      go_ret
      refine ⟨rfl, ?_, (Chg.setCell w ⟨rb, 2, none⟩ _).trans (Chg.setCell _ ⟨rb, 3, none⟩ _) (fun _ h _ => h) (fun _ h _ => h)⟩
      refine h.setF ((Chg.setCell w ⟨rb, 2, none⟩ _).trans (Chg.setCell _ ⟨rb, 3, none⟩ _) (fun _ h _ => h) (fun _ h _ => h)) (set_other (set_other h.c0 (by decide)) (by decide)) (set_other (set_other h.c1 (by decide)) (by decide)) (set_other (World.cell?_setCell_same _ _ _ h.c2) (by decide)) (World.cell?_setCell_same _ _ _ (set_other h.c3 (by decide))) (set_other (set_other h.c4 (by decide)) (by decide)) (fun j hj => by rw [World.frozen?_setCell, World.frozen?_setCell]; exact h.fz j hj) rfl rfl rfl (by show 0 < _; decide)
    · rw [if_neg h1]
      have hd : decide ((0 : Int) < (st.left : Int) - 1) = true := by simp; omega
      have hne : ((st.left : Int) == 0) = false := by simp; omega
      have hs : ((st.left : Int) - 1) = ((st.left - 1 : Nat) : Int) := by omega
      have Hs := mkHid hs
      clear hs hk
      go_enter Try.func36, Try.ntmps36
      go_wp2
      go_ret
      refine ⟨rfl, ?_, Chg.setCell w ⟨rb, 2, none⟩ _⟩
      rw [Hs.out]
      exact h.setF (Chg.setCell w ⟨rb, 2, none⟩ _) (set_other h.c0 (by decide)) (set_other h.c1 (by decide)) (World.cell?_setCell_same _ _ _ h.c2) (set_other h.c3 (by decide)) (set_other h.c4 (by decide)) (fun j hj => by rw [World.frozen?_setCell]; exact h.fz j hj) rfl rfl rfl (by show st.left - 1 < _; omega)
theorem fuse_any (z : Int) (B : Nat) (F : List Nat) (rb : Nat) (sa : Option Addr) (cs : Nat) (la : Option Addr) (cl : Nat) (vs ls : List Value) (st : RS) (w : World) (h : RefAt w B F rb sa cs la cl vs ls st) (hz : z < 9223372036854775808) :
    Calls Try.prog 20 #[.pointer (some ⟨rb, 0, none⟩), .int .i64 z] w fun e w' => e = .returned (.tuple #[]) ∧ RefAt w' B F rb sa cs la cl vs ls { st with left := z.toNat } ∧ Chg [rb] w w' := by
  have c2 := h.c2
  have f2 := h.fz 2 (by decide)
  by_cases h1 : z < 1
  · have e0 : z.toNat = 0 := by omega
    rw [e0]
    go_enter Try.func20, Try.ntmps20
    go_wp2
    go_end0
    refine ⟨rfl, ?_, (Chg.setCell w ⟨rb, 2, none⟩ _).trans (Chg.setCell _ ⟨rb, 2, none⟩ _) (fun _ h _ => h) (fun _ h _ => h)⟩
    exact h.setF ((Chg.setCell w ⟨rb, 2, none⟩ _).trans (Chg.setCell _ ⟨rb, 2, none⟩ _) (fun _ h _ => h) (fun _ h _ => h)) (set_other (set_other h.c0 (by decide)) (by decide)) (set_other (set_other h.c1 (by decide)) (by decide)) (World.cell?_setCell_same _ _ _ (World.cell?_setCell_same _ _ _ h.c2)) (set_other (set_other h.c3 (by decide)) (by decide)) (set_other (set_other h.c4 (by decide)) (by decide)) (fun j hj => by rw [World.frozen?_setCell, World.frozen?_setCell]; exact h.fz j hj) rfl rfl rfl (by show 0 < _; decide)
  · obtain ⟨k, rfl⟩ := Int.eq_ofNat_of_zero_le (show 0 ≤ z by omega)
    have hd : decide ((k : Int) < 1) = false := by simp; omega
    go_enter Try.func20, Try.ntmps20
    go_wp2
    go_end0
    refine ⟨rfl, ?_, Chg.setCell w ⟨rb, 2, none⟩ _⟩
    exact h.setF (Chg.setCell w ⟨rb, 2, none⟩ _) (set_other h.c0 (by decide)) (set_other h.c1 (by decide)) (World.cell?_setCell_same _ _ _ h.c2) (set_other h.c3 (by decide)) (set_other h.c4 (by decide)) (fun j hj => by rw [World.frozen?_setCell]; exact h.fz j hj) rfl rfl rfl (by show k < _; omega)
end Go.Proofs.Ytinmhaffefgloaa
