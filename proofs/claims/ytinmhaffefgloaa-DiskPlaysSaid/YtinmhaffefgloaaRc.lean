/- The reference's disk: a sector put in a sector's place. -/
import Derived.Test.YtinmhaffefgloaaRa
namespace Go.Proofs.Ytinmhaffefgloaa
open Go.RowKit
set_option linter.unusedVariables false
set_option linter.unusedSimpArgs false

theorem RoomZ.set1 {w : World} {B b o n c : Nat} {xs : List Value} (h : RoomZ 1 w B (some ⟨b, o, none⟩) n c xs) (i : Nat) (hi : i < n) (u : Value) : RoomZ 1 (w.setCell ⟨b, o + i, none⟩ u) B (some ⟨b, o, none⟩) n c (xs.set i u) := by
  refine ⟨by rw [List.length_set]; exact h.len, h.le, h.max, fun hc => ?_⟩
  obtain ⟨b', o', e, hB, hlt, hs, hv⟩ := h.at_ hc
  cases e
  have hle := h.le
  refine ⟨b, o, rfl, hB, by simpa using hlt, fun j hj => ?_, fun j v hj => ?_⟩
  · refine ⟨?_, by rw [World.frozen?_setCell]; exact (hs j hj).2⟩
    by_cases hji : j = i
    · subst hji
      obtain ⟨v, hv⟩ := Option.isSome_iff_exists.1 (hs j hj).1
      rw [World.cell?_setCell_same _ _ _ hv]; rfl
    · rw [World.cell?_setCell_other _ _ _ _ (by simp [hji])]
      exact (hs j hj).1
  · by_cases hji : j = i
    · subst hji
      obtain ⟨v', hv'⟩ := Option.isSome_iff_exists.1 (hs j (by omega)).1
      rw [World.cell?_setCell_same _ _ _ hv']
      have hl := h.len
      rw [List.getElem?_set_self (by omega)] at hj
      exact hj
    · rw [World.cell?_setCell_other _ _ _ _ (by simp [hji])]
      rw [List.getElem?_set_ne (by omega)] at hj
      exact hv j v hj
theorem Sec.more {w : World} {X F F' : List Nat} {v : Value} {l : List UInt8} (h : Sec w X F v l) (hF : ∀ k, k ∈ F → k ∈ F') : Sec w X F' v l := by
  obtain ⟨h1, b, o, c, e, h2, h3, h4, h5, h6, h7⟩ := h
  exact ⟨h1, b, o, c, e, h2, h3, h4, hF b h5, h6, h7⟩
theorem lay_close {w w4 : World} {B : Nat} {F : List Nat} {rb sb so cs : Nat} {la : Option Addr} {cl : Nat} {vs ls : List Value} {st : RS} {s n : Nat} {l sl : List UInt8} {a4 : Option Addr} {c4 : Nat}
    (h : RefAt w B F rb (some ⟨sb, so, none⟩) cs la cl vs ls st) (hs : s < st.S.length) (hn : n ≤ 64) (hl : l.length = 64) (hsl : st.S[s]? = some sl) (hsl64 : sl.length = 64)
    (g : Chg [] w w4) (hr : Room w4 w.heap.size a4 64 c4 (bts (l.take n) ++ bts (sl.drop n))) :
    ∃ F' vs', RefAt (w4.setCell ⟨sb, so + s, none⟩ (.slice a4 64 c4)) B F' rb (some ⟨sb, so, none⟩) cs la cl vs' ls { st with S := laid st.S s l n } ∧ Chg F w (w4.setCell ⟨sb, so + s, none⟩ (.slice a4 64 c4)) ∧ ∀ k, k ∈ F' → k ∈ F ∨ w.heap.size ≤ k := by
  have hcs : 0 < cs := by have := h.rS.le; omega
  have hsbX : sb ∈ fp (some ⟨sb, so, none⟩) cs := by rw [fp_some _ _ _ hcs]; simp
  have hsbF : sb ∈ F := h.inF sb (by simp [hsbX])
  have hsblt := (h.F1 sb hsbF).2
  have h4 := h.chg g (fun _ _ => by simp)
  have hle := hr.le
  obtain ⟨b4, o4, rfl, hb4, _, _⟩ := hr.at_ (by omega)
  have hb4lt : b4 < w4.heap.size := (hr.lt b4 (by rw [fp_some _ _ _ (by omega)]; simp)).2
  have hne : b4 ≠ sb := by omega
  have hgs : Chg [sb] w4 (w4.setCell ⟨sb, so + s, none⟩ (.slice (some ⟨b4, o4, none⟩) 64 c4)) := Chg.setCell w4 ⟨sb, so + s, none⟩ _
  generalize hw5 : w4.setCell ⟨sb, so + s, none⟩ (.slice (some ⟨b4, o4, none⟩) 64 c4) = w5 at hgs
  have hrbsb : rb ≠ sb := by rintro rfl; exact h.ap1 hsbX
  have hap3 := h.ap3 sb hsbX
  have hrS : RoomZ 1 w5 B (some ⟨sb, so, none⟩) st.S.length cs (vs.set s (.slice (some ⟨b4, o4, none⟩) 64 c4)) := by rw [← hw5]; exact h4.rS.set1 s hs _
  have hlen : (laid st.S s l n).length = st.S.length := by simp [laid]
  have hgetD : st.S.getD s [] = sl := by rw [List.getD_eq_getElem?_getD, hsl]; rfl
  have hX : ∀ k, k ∈ F → k ∉ rb :: (fp (some ⟨sb, so, none⟩) cs ++ fp la cl) → k ∉ [sb] := by
    intro k _ hk
    simp only [List.mem_singleton]
    rintro rfl
    exact hk (by simp [hsbX])
  refine ⟨b4 :: F, vs.set s (.slice (some ⟨b4, o4, none⟩) 64 c4), ⟨?_, hgs.cellv h4.c1 (by simpa using hrbsb), hgs.cellv h4.c2 (by simpa using hrbsb), hgs.cellv h4.c3 (by simpa using hrbsb), hgs.cellv h4.c4 (by simpa using hrbsb), ?_, ?_, h4.rL.chg hgs (fun k hk => by simp only [List.mem_singleton]; rintro rfl; exact hap3 hk), h.ap1, h.ap2, h.ap3, ?_, ?_, fun k hk => List.mem_cons_of_mem _ (h.inF k hk), ?_, h.lft⟩, ?_, ?_⟩
  · show w5.cell? ⟨rb, 0, none⟩ = some (.slice (some ⟨sb, so, none⟩) (laid st.S s l n).length cs)
    rw [hlen]
    exact hgs.cellv h4.c0 (by simpa using hrbsb)
  · intro j hj
    exact (hgs.frozen (p := ⟨rb, j, none⟩) (show rb < w4.heap.size from block_lt_of_cell h4.c0) (by simpa using hrbsb)).trans (h4.fz j hj)
  · show RoomZ 1 w5 B (some ⟨sb, so, none⟩) (laid st.S s l n).length cs _
    rw [hlen]
    exact hrS
  · intro j m hj
    have hj' : (st.S.set s (l.take n ++ sl.drop n))[j]? = some m := by
      have := hj
      simp only [laid, hgetD] at this
      exact this
    by_cases hjs : j = s
    · subst hjs
      rw [List.getElem?_set_self hs] at hj'
      cases hj'
      have hvl := h.rS.len
      refine ⟨_, List.getElem?_set_self (by omega), by simp; omega, b4, o4, c4, rfl, hle, hr.max, ?_, by simp, ?_, ?_⟩
      · intro hm
        have := (h.F1 b4 (h.inF b4 hm)).2
        omega
      · exact Nat.lt_of_lt_of_le hb4lt hgs.size
      · rw [bts_append]
        exact hr.reads.chg hgs (fun k hk => by simp [blk] at hk; rw [hk]; simpa using hne)
    · rw [List.getElem?_set_ne (by omega)] at hj'
      obtain ⟨v, hv, hsec⟩ := h4.sec j m hj'
      exact ⟨v, by rw [List.getElem?_set_ne (by omega)]; exact hv, (hsec.chg hgs hX).more (fun k hk => List.mem_cons_of_mem _ hk)⟩
  · intro j s' m hj
    obtain ⟨x1, x2, v, x3, x4⟩ := h4.fly j s' m hj
    exact ⟨by show s' < (laid st.S s l n).length; rw [hlen]; exact x1, x2, v, x3, (x4.chg hgs hX).more (fun k hk => List.mem_cons_of_mem _ hk)⟩
  · intro k hk
    have hBs := (h.F1 rb (h.inF rb (by simp)))
    rcases List.mem_cons.1 hk with rfl | hk
    · exact ⟨by omega, Nat.lt_of_lt_of_le hb4lt hgs.size⟩
    · have := h4.F1 k hk
      exact ⟨this.1, Nat.lt_of_lt_of_le this.2 hgs.size⟩
  · exact g.trans hgs (by simp) (fun k hk _ => by simp at hk; rw [hk]; exact hsbF)
  · intro k hk
    rcases List.mem_cons.1 hk with rfl | hk
    · exact Or.inr hb4
    · exact Or.inl hk
end Go.Proofs.Ytinmhaffefgloaa
