/- The reference's disk: Barrier. -/
import Derived.Test.YtinmhaffefgloaaRb
namespace Go.Proofs.Ytinmhaffefgloaa
open Go.RowKit
set_option linter.unusedVariables false
set_option linter.unusedSimpArgs false

/-- All that was in flight is gone. -/
theorem RefAt.noL {w w' : World} {B : Nat} {F : List Nat} {rb : Nat} {sa : Option Addr} {cs : Nat} {la : Option Addr} {cl : Nat} {vs ls : List Value} {st : RS} (h : RefAt w B F rb sa cs la cl vs ls st) (g : Chg [rb] w w')
    (e0 : w'.cell? ⟨rb, 0, none⟩ = some (.slice sa st.S.length cs)) (e1 : w'.cell? ⟨rb, 1, none⟩ = some (.slice none 0 0)) (e2 : w'.cell? ⟨rb, 2, none⟩ = some (.int .i64 st.left)) (e3 : w'.cell? ⟨rb, 3, none⟩ = some (.bool st.gone)) (e4 : w'.cell? ⟨rb, 4, none⟩ = some (.int .i64 st.count))
    (ef : ∀ j, j < 5 → w'.frozen? ⟨rb, j, none⟩ = false) : RefAt w' B F rb sa cs none 0 vs [] { st with L := [] } := by
  have h1 : ∀ k, k ∈ fp sa cs → k ∉ [rb] := fun k hk => by simp; rintro rfl; exact h.ap1 hk
  have h3 : ∀ k, k ∈ F → k ∉ rb :: (fp sa cs ++ fp la cl) → k ∉ [rb] := fun k _ hk => by simp at hk ⊢; exact hk.1
  refine ⟨e0, e1, e2, e3, e4, ef, h.rS.chg g h1, RoomZ.nil _ _ _ _, h.ap1, by rw [fp_zero]; simp, fun k _ => by rw [fp_zero]; simp, ?_, fun j s l hj => by simp at hj, fun k hk => ?_, fun k hk => ⟨(h.F1 k hk).1, Nat.lt_of_lt_of_le (h.F1 k hk).2 g.size⟩, h.lft⟩
  · intro j l hj
    obtain ⟨v, hv, hsec⟩ := h.sec j l hj
    obtain ⟨x1, b, o, c, e, x2, x3, x4, x5, x6, x7⟩ := hsec.chg g h3
    exact ⟨v, hv, x1, b, o, c, e, x2, x3, fun hm => x4 (by rw [fp_zero] at hm; simp at hm ⊢; rcases hm with hm | hm; exact Or.inl hm; exact Or.inr (Or.inl hm)), x5, x6, x7⟩
  · rw [fp_zero] at hk
    exact h.inF k (by simp at hk ⊢; rcases hk with hk | hk; exact Or.inl hk; exact Or.inr (Or.inl hk))
set_option maxHeartbeats 1000000 in
theorem barrier_any (B : Nat) (F : List Nat) (rb : Nat) (sa : Option Addr) (cs : Nat) (la : Option Addr) (cl : Nat) (vs ls : List Value) (st : RS) (w : World) (h : RefAt w B F rb sa cs la cl vs ls st) :
    Calls Try.prog 18 #[.pointer (some ⟨rb, 0, none⟩)] w fun e w' => e = .returned (.int .i64 (barrier st).1) ∧ ∃ F' la' cl' vs' ls', RefAt w' B F' rb sa cs la' cl' vs' ls' (barrier st).2 ∧ Chg F w w' ∧ ∀ k, k ∈ F' → k ∈ F ∨ w.heap.size ≤ k := by
  have c3 := h.c3
  have hrbF : rb ∈ F := h.inF rb (by simp)
  have hsub : ∀ w', Chg [rb] w w' → Chg F w w' := fun w' g => g.mono (fun k hk _ => by simp at hk; rw [hk]; exact hrbF)
  unfold barrier
  cases hg : st.gone
  · rw [hg] at c3
    simp only [Bool.false_eq_true, if_false]
    cases hb : (burn st).1
    · simp only [Bool.false_eq_true, if_false]
      go_enter Try.func18, Try.ntmps18
      go_wp2_with (first | (go_at_call 36; refine (burns_any B F rb sa cs la cl vs ls st w h).mono ?_; rw [hb]; rintro e w1 ⟨rfl, h1, hg1⟩))
      generalize hst : (burn st).2 = st1 at *
      have hn1 := h1.rL.le
      have hn2 := h1.rL.max
      unfold maxLen at hn2
      have hg1' := hsub _ hg1
      go_loopw [3] (fun i wr => ∃ (k : Nat) (F' : List Nat) (vs' : List Value), i = .int .i64 k ∧ k ≤ st1.L.length ∧ RefAt wr B F' rb sa cs la cl vs' ls { st1 with S := settle st1.S (st1.L.take k) } ∧ Chg F w wr ∧ ∀ k, k ∈ F' → k ∈ F ∨ w.heap.size ≤ k) (fun i _ => st1.L.length - (intOf i).toNat)
      case atStart => exact ⟨0, F, vs, rfl, by omega, h1, hg1', fun k hk => Or.inl hk⟩
      case round =>
        obtain ⟨k, F', vs', rfl, hk, hr, hc, hsb⟩ := hrel
        have c1 : wr.cell? ⟨rb, 1, none⟩ = some (.slice la st1.L.length cl) := hr.c1
        by_cases hlt : k < st1.L.length
        · obtain ⟨s, l, hsl⟩ : ∃ s l, st1.L[k]? = some (s, l) := ⟨_, _, List.getElem?_eq_getElem hlt⟩
          obtain ⟨f1, f2, v, f3, f4⟩ := hr.fly k s l hsl
          obtain ⟨lb, lo, rfl, _, _, _, hcl⟩ := hr.rL.at_ (by omega)
          have x1 := hcl _ _ f2
          have x2 := hcl _ _ f3
          rw [← Nat.add_assoc] at x2
          rw [Nat.mul_comm 2 k] at x1 x2
          have hki : (k : Int) < (st1.L.length : Int) := by omega
          have hstep := settle_succ st1.S st1.L k hlt
          have hge : st1.L[k] = (s, l) := by rw [List.getElem?_eq_getElem hlt] at hsl; exact Option.some.inj hsl
          rw [hge] at hstep
          have Hst := mkHid hstep
          clear hcl hstep hge f2 f3
          go_wp2_with (first | (go_at_call 42; refine (lay_any s 64 v l B F' rb sa cs _ cl vs' ls _ wr hr f1 (by omega) f4).mono ?_; rintro e w2 ⟨rfl, F2, vs2, h2, hg2, hs2⟩))
          refine ⟨⟨k + 1, F2, vs2, by go_num, by omega, by rw [Hst.out]; exact h2, hc.trans hg2 (fun _ h _ => h) (fun j hj hlt => (hsb j hj).elim id (fun hx => by omega)), fun j hj => (hs2 j hj).elim (hsb j) (fun hx => Or.inr (Nat.le_trans hc.size hx))⟩, by simp [intOf]; omega⟩
        · have : k = st1.L.length := by omega
          subst this
          rw [List.take_length] at hr
          have fz1 := hr.fz 1 (by decide)
          go_wp2_with fail
          go_ret
          subst hst
          have hst1 : Chg [rb] wr (wr.setCell ⟨rb, 1, none⟩ (.slice none 0 0)) := Chg.setCell wr ⟨rb, 1, none⟩ _
          refine ⟨rfl, F', none, 0, vs', [], hr.noL hst1 (set_other hr.c0 (by decide)) (World.cell?_setCell_same _ _ _ hr.c1) (set_other hr.c2 (by decide)) (set_other hr.c3 (by decide)) (set_other hr.c4 (by decide)) (fun j hj => by rw [World.frozen?_setCell]; exact hr.fz j hj), ?_, hsb⟩
          exact hc.trans hst1 (fun _ h _ => h) (fun j hj _ => by simp at hj; rw [hj]; exact hrbF)
    · simp only [if_true]
      go_enter Try.func18, Try.ntmps18
      go_wp2_with (first | (go_at_call 36; refine (burns_any B F rb sa cs la cl vs ls st w h).mono ?_; rw [hb]; rintro e w1 ⟨rfl, h1, hg1⟩))
      go_ret
      exact ⟨rfl, F, la, cl, vs, ls, h1, hsub _ hg1, fun k hk => Or.inl hk⟩
  · rw [hg] at c3
    simp only [if_true]
    go_enter Try.func18, Try.ntmps18
    go_wp2
    go_ret
    exact ⟨rfl, F, la, cl, vs, ls, h, Chg.refl _ _, fun k hk => Or.inl hk⟩
end Go.Proofs.Ytinmhaffefgloaa
