/- The reference's disk: one sector more. -/
import Derived.Test.YtinmhaffefgloaaRc
namespace Go.Proofs.Ytinmhaffefgloaa
open Go.RowKit
set_option linter.unusedVariables false
set_option linter.unusedSimpArgs false

theorem sec_close {w w5 w6 : World} {B : Nat} {F : List Nat} {rb : Nat} {sa : Option Addr} {cs : Nat} {la : Option Addr} {cl : Nat} {vs ls : List Value} {st : RS} {l : List UInt8} {a5 : Option Addr} {c5 : Nat} {ao : Option Addr} {c' : Nat}
    (h : RefAt w B F rb sa cs la cl vs ls st) (hl : l.length = 64) (g5 : Chg [] w w5) (hr5 : Room w5 w.heap.size a5 64 c5 (bts l)) (g6 : Chg (fp sa cs) w5 w6)
    (hr6 : RoomZ 1 w6 B ao (st.S.length + 1) c' (vs ++ [.slice a5 64 c5])) (hf : fp ao c' = fp sa cs ∨ ∃ k, w5.heap.size ≤ k ∧ fp ao c' = [k]) :
    ∃ F', RefAt (w6.setCell ⟨rb, 0, none⟩ (.slice ao (st.S.length + 1) c')) B F' rb ao c' la cl (vs ++ [.slice a5 64 c5]) ls { st with S := st.S ++ [l] } ∧ Chg F w (w6.setCell ⟨rb, 0, none⟩ (.slice ao (st.S.length + 1) c')) ∧ ∀ k, k ∈ F' → k ∈ F ∨ w.heap.size ≤ k := by
  have h5 := h.chg g5 (fun _ _ => by simp)
  have hle := hr5.le
  obtain ⟨b5, o5, rfl, hb5, _, _⟩ := hr5.at_ (by omega)
  have hb5lt : b5 < w5.heap.size := (hr5.lt b5 (by rw [fp_some _ _ _ (by omega)]; simp)).2
  have hF5 : ∀ k, k ∈ F → k < w.heap.size := fun k hk => (h.F1 k hk).2
  have hlaF : ∀ k, k ∈ fp la cl → k ∈ F := fun k hk => h.inF k (by simp [hk])
  have hsaF : ∀ k, k ∈ fp sa cs → k ∈ F := fun k hk => h.inF k (by simp [hk])
  have hrbF : rb ∈ F := h.inF rb (by simp)
  have hrbs := h.ap1
  have s6 := g6.size
  have s5 := g5.size
  have hnew : ∀ k, k ∈ fp ao c' → k ∈ fp sa cs ∨ w5.heap.size ≤ k := fun k hk => by
    rcases hf with hf | ⟨j, hj, hf⟩
    · rw [hf] at hk; exact Or.inl hk
    · rw [hf] at hk; simp at hk; rw [hk]; exact Or.inr hj
  have hrbn : rb ∉ fp ao c' := fun hm => (hnew rb hm).elim hrbs (fun hx => by have := hF5 rb hrbF; omega)
  have hgs : Chg [rb] w6 (w6.setCell ⟨rb, 0, none⟩ (.slice ao (st.S.length + 1) c')) := Chg.setCell w6 ⟨rb, 0, none⟩ _
  have d0 := g6.cellv h5.c0 hrbs
  have d1 := g6.cellv h5.c1 hrbs
  have d2 := g6.cellv h5.c2 hrbs
  have d3 := g6.cellv h5.c3 hrbs
  have d4 := g6.cellv h5.c4 hrbs
  have e0 : (w6.setCell ⟨rb, 0, none⟩ (.slice ao (st.S.length + 1) c')).cell? ⟨rb, 0, none⟩ = some (.slice ao (st.S.length + 1) c') := World.cell?_setCell_same _ _ _ d0
  have e1 : (w6.setCell ⟨rb, 0, none⟩ (.slice ao (st.S.length + 1) c')).cell? ⟨rb, 1, none⟩ = some (.slice la st.L.length cl) := set_other d1 (by decide)
  have e2 : (w6.setCell ⟨rb, 0, none⟩ (.slice ao (st.S.length + 1) c')).cell? ⟨rb, 2, none⟩ = some (.int .i64 st.left) := set_other d2 (by decide)
  have e3 : (w6.setCell ⟨rb, 0, none⟩ (.slice ao (st.S.length + 1) c')).cell? ⟨rb, 3, none⟩ = some (.bool st.gone) := set_other d3 (by decide)
  have e4 : (w6.setCell ⟨rb, 0, none⟩ (.slice ao (st.S.length + 1) c')).cell? ⟨rb, 4, none⟩ = some (.int .i64 st.count) := set_other d4 (by decide)
  have ef : ∀ j, j < 5 → (w6.setCell ⟨rb, 0, none⟩ (.slice ao (st.S.length + 1) c')).frozen? ⟨rb, j, none⟩ = false := fun j hj => by
    rw [World.frozen?_setCell]
    exact (g6.frozen (p := ⟨rb, j, none⟩) (show rb < w5.heap.size from block_lt_of_cell h5.c0) hrbs).trans (h5.fz j hj)
  generalize w6.setCell ⟨rb, 0, none⟩ (.slice ao (st.S.length + 1) c') = w7 at hgs e0 e1 e2 e3 e4 ef
  have s7 := hgs.size
  have carry : ∀ v m, Sec w5 (rb :: (fp sa cs ++ fp la cl)) F v m → Sec w7 (rb :: (fp ao c' ++ fp la cl)) (b5 :: (fp ao c' ++ F)) v m := by
    intro v m hsec
    obtain ⟨x1, b, o, c, e, x2, x3, x4, x5, x6, x7⟩ := (hsec.chg g6 (fun k hk hx hm => hx (by simp [hm]))).chg hgs (fun k hk hx => by simp at hx ⊢; exact hx.1)
    refine ⟨x1, b, o, c, e, x2, x3, fun hm => ?_, by simp [x5], x6, x7⟩
    simp at hm
    rcases hm with hm | hm | hm
    · exact x4 (by simp [hm])
    · rcases hnew b hm with hx | hx
      · exact x4 (by simp [hx])
      · have := hF5 b x5; omega
    · exact x4 (by simp [hm])
  have hlS := h.rS.len
  refine ⟨b5 :: (fp ao c' ++ F), ⟨by simpa using e0, e1, e2, e3, e4, ef, ?_, ?_, hrbn, h.ap2, ?_, ?_, ?_, ?_, ?_, h.lft⟩, ?_, ?_⟩
  · have := hr6.chg hgs (fun k hk => by simp; rintro rfl; exact hrbn hk)
    simpa using this
  · exact (h5.rL.chg g6 (fun k hk hm => h.ap3 k hm hk)).chg hgs (fun k hk => by simp; rintro rfl; exact h.ap2 hk)
  · intro k hk hm
    rcases hnew k hk with hx | hx
    · exact h.ap3 k hx hm
    · have := hF5 k (hlaF k hm); omega
  · intro j m hj
    by_cases hjn : j < st.S.length
    · rw [List.getElem?_append_left hjn] at hj
      obtain ⟨v, hv, hsec⟩ := h5.sec j m hj
      exact ⟨v, by rw [List.getElem?_append_left (by omega)]; exact hv, carry v m hsec⟩
    · have hj2 := (List.getElem?_eq_some_iff.1 hj).1
      simp at hj2
      have hje : j = st.S.length := by omega
      subst hje
      rw [List.getElem?_append_right (Nat.le_refl _), Nat.sub_self] at hj
      simp at hj
      subst hj
      refine ⟨_, by rw [List.getElem?_append_right (by omega), hlS, show st.S.length - st.S.length * 1 = 0 by omega]; rfl, hl, b5, o5, c5, rfl, hle, hr5.max, ?_, by simp, by omega, ?_⟩
      · intro hm
        simp at hm
        rcases hm with hm | hm | hm
        · have := hF5 rb hrbF; omega
        · rcases hnew b5 hm with hx | hx
          · have := hF5 b5 (hsaF b5 hx); omega
          · omega
        · have := hF5 b5 (hlaF b5 hm); omega
      · refine (hr5.reads.chg g6 (fun k hk => ?_)).chg hgs (fun k hk => ?_)
        · simp [blk] at hk
          rw [hk]
          intro hm
          have := hF5 b5 (hsaF b5 hm)
          omega
        · simp [blk] at hk
          rw [hk]
          simp
          intro hm
          have := hF5 rb hrbF
          omega
  · intro j s' m hj
    obtain ⟨x1, x2, v, x3, x4⟩ := h5.fly j s' m hj
    exact ⟨by simp; omega, x2, v, x3, carry v m x4⟩
  · intro k hk
    simp at hk ⊢
    rcases hk with hk | hk | hk
    · rw [hk]; exact Or.inr (Or.inr hrbF)
    · exact Or.inr (Or.inl hk)
    · exact Or.inr (Or.inr (hlaF k hk))
  · intro k hk
    have hB := (h.F1 rb hrbF)
    simp at hk
    rcases hk with hk | hk | hk
    · rw [hk]; exact ⟨by omega, by omega⟩
    · rcases hr6.lt k hk with ⟨x, y⟩
      exact ⟨x, by omega⟩
    · have := h.F1 k hk
      exact ⟨this.1, by omega⟩
  · exact (g5.trans g6 (by simp) (fun k hk _ => hsaF k hk)).trans hgs (fun _ h _ => h) (fun k hk _ => by simp at hk; rw [hk]; exact hrbF)
  · intro k hk
    simp at hk
    rcases hk with hk | hk | hk
    · rw [hk]; exact Or.inr hb5
    · rcases hnew k hk with hx | hx
      · exact Or.inl (hsaF k hx)
      · exact Or.inr (by omega)
    · exact Or.inl hk
end Go.Proofs.Ytinmhaffefgloaa
