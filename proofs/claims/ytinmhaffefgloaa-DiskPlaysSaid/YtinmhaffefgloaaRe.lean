/- The reference's disk: Crash. -/
import Derived.Test.YtinmhaffefgloaaRd
namespace Go.Proofs.Ytinmhaffefgloaa
open Go.RowKit
set_option linter.unusedVariables false
set_option linter.unusedSimpArgs false

set_option maxHeartbeats 1000000 in
theorem crash_any (B : Nat) (F : List Nat) (rb : Nat) (sa : Option Addr) (cs : Nat) (la : Option Addr) (cl : Nat) (vs ls : List Value) (st : RS) (w : World) (h : RefAt w B F rb sa cs la cl vs ls st)
    (ap : Option Addr) (np cp : Nat) (ps : List UInt8) (g : Reads w ap (bts ps)) (gn : ps.length = np) (hnp : np ≤ maxLen) (hap : ∀ k, k ∈ blk ap → k ∉ F) :
    Calls Try.prog 22 #[.pointer (some ⟨rb, 0, none⟩), .slice ap np cp] w fun e w' => e = .returned (.tuple #[]) ∧ ∃ F' la' cl' vs' ls', RefAt w' B F' rb sa cs la' cl' vs' ls' (crash st ps) ∧ Chg F w w' ∧ ∀ k, k ∈ F' → k ∈ F ∨ w.heap.size ≤ k := by
  have hrbF : rb ∈ F := h.inF rb (by simp)
  have hn1 := h.rL.le
  have hn2 := h.rL.max
  unfold maxLen at hn2 hnp
  obtain ⟨Z, hZ⟩ : ∃ Z, Z = st.L.zip ps := ⟨_, rfl⟩
  have hzl : Z.length = min st.L.length np := by rw [hZ, List.length_zip, gn]
  have HZ := mkHid hZ
  go_enter Try.func22, Try.ntmps22
  go_wp2_with fail
  go_loopw [4, 5] (fun i _ wr => ∃ (k : Nat) (F' : List Nat) (vs' : List Value), i = .int .i64 k ∧ k ≤ Z.length ∧ RefAt wr B F' rb sa cs la cl vs' ls { st with S := torn st.S (Z.take k) } ∧ Chg F w wr ∧ ∀ k, k ∈ F' → k ∈ F ∨ w.heap.size ≤ k) (fun i _ _ => Z.length - (intOf i).toNat)
  case atStart => exact ⟨0, F, vs, rfl, by omega, h, Chg.refl _ _, fun k hk => Or.inl hk⟩
  case round =>
    obtain ⟨k, F', vs', rfl, hk, hr, hc, hsb⟩ := hrel
    have c1 : wr.cell? ⟨rb, 1, none⟩ = some (.slice la st.L.length cl) := hr.c1
    by_cases hlt : k < Z.length
    · have hlL : k < st.L.length := by omega
      have hlP : k < ps.length := by omega
      obtain ⟨s, l, hsl⟩ : ∃ s l, st.L[k]? = some (s, l) := ⟨_, _, List.getElem?_eq_getElem hlL⟩
      obtain ⟨f1, f2, v, f3, f4⟩ := hr.fly k s l hsl
      obtain ⟨lb, lo, rfl, _, _, _, hcl⟩ := hr.rL.at_ (by omega)
      have x1 := hcl _ _ f2
      have x2 := hcl _ _ f3
      rw [← Nat.add_assoc] at x2
      rw [Nat.mul_comm 2 k] at x1 x2
      obtain ⟨pb, po, rfl, hpc⟩ := (g.chg hc hap) (by rw [bts_length]; omega)
      have x3 := hpc k _ (bts_get ps k hlP)
      obtain ⟨x, hx⟩ : ∃ x, x = ps[k] := ⟨_, rfl⟩
      rw [← hx] at x3
      have hge : Z[k] = ((s, l), x) := by
        have h1 : st.L[k] = (s, l) := by rw [List.getElem?_eq_getElem hlL] at hsl; exact Option.some.inj hsl
        simp only [hZ, List.getElem_zip, h1, hx]
      have hstep := torn_succ st.S Z k hlt
      rw [hge] at hstep
      unfold tear at hstep
      obtain ⟨p, hp⟩ : ∃ p, p = x.toNat := ⟨_, rfl⟩
      have hp256 : p < 256 := by rw [hp]; exact x.toNat_lt
      simp only [← hp] at hstep x3
      have Hst := mkHid hstep
      have hki : (k : Int) < (st.L.length : Int) := by omega
      have hkp : (k : Int) < (np : Int) := by omega
      have hkL : decide (k < st.L.length) = true := by simp; omega
      have hkP : decide (k < np) = true := by simp; omega
      clear hpc hcl hstep hge f2 f3 hx hp hsl hZ
      by_cases hp0 : p = 0
      · subst hp0
        go_wp2_with fail
        exact ⟨⟨k + 1, F', vs', by go_num, by omega, by rw [Hst.out, if_pos rfl]; exact hr, hc, hsb⟩, by simp [intOf]; omega⟩
      · by_cases hp1 : p = 1
        · subst hp1
          go_wp2_with (first | (go_at_call 42; refine (lay_any s 64 v l B F' rb sa cs _ cl vs' ls _ wr hr f1 (by omega) f4).mono ?_; rintro e w2 ⟨rfl, F2, vs2, h2, hg2, hs2⟩))
          refine ⟨⟨k + 1, F2, vs2, by go_num, by omega, by rw [Hst.out, if_neg hp0]; simpa using h2, hc.trans hg2 (fun _ h _ => h) (fun j hj hlt => (hsb j hj).elim id (fun hx => by omega)), fun j hj => (hs2 j hj).elim (hsb j) (fun hx => Or.inr (Nat.le_trans hc.size hx))⟩, by simp [intOf]; omega⟩
        · obtain ⟨q, hq⟩ : ∃ q, q = (p - 2) % 65 := ⟨_, rfl⟩
          have e1 : ((p : Int) == 1) = false := by simp; omega
          have e2 : decide ((1 : Int) < (p : Int)) = true := by simp; omega
          have e3 : ((p : Int) - 2).tmod 65 = (q : Int) := by rw [Int.tmod_eq_emod_of_nonneg (by omega)]; omega
          have e4 : ((p : Int) - 2) % 65 = (q : Int) := by omega
          have hq64 : q ≤ 64 := by omega
          have HQ := mkHid hq
          clear hq
          go_wp2_with (first | (go_at_call 42; refine (lay_any s q v l B F' rb sa cs _ cl vs' ls _ wr hr f1 hq64 f4).mono ?_; rintro e w2 ⟨rfl, F2, vs2, h2, hg2, hs2⟩))
          refine ⟨⟨k + 1, F2, vs2, by go_num, by omega, by rw [Hst.out, if_neg hp0, if_neg hp1, ← HQ.out]; exact h2, hc.trans hg2 (fun _ h _ => h) (fun j hj hlt => (hsb j hj).elim id (fun hx => by omega)), fun j hj => (hs2 j hj).elim (hsb j) (fun hx => Or.inr (Nat.le_trans hc.size hx))⟩, by simp [intOf]; omega⟩
    · have hkz : k = Z.length := by omega
      rw [hkz, List.take_length] at hr
      have fz1 := hr.fz 1 (by decide)
      have fz2 := hr.fz 2 (by decide)
      have fz3 := hr.fz 3 (by decide)
      have d2 := hr.c2
      have d3 := hr.c3
      have Hkz := mkHid hkz
      have fin : ∀ w9, w9 = ((wr.setCell ⟨rb, 1, none⟩ (.slice none 0 0)).setCell ⟨rb, 2, none⟩ (.int .i64 0)).setCell ⟨rb, 3, none⟩ (.bool false) → ∃ F' la' cl' vs' ls', RefAt w9 B F' rb sa cs la' cl' vs' ls' (crash st ps) ∧ Chg F w w9 ∧ ∀ k, k ∈ F' → k ∈ F ∨ w.heap.size ≤ k := by
        intro w9 hw9
        have r1 := hr.noL (Chg.setCell wr ⟨rb, 1, none⟩ (.slice none 0 0)) (set_other hr.c0 (by decide)) (World.cell?_setCell_same _ _ _ hr.c1) (set_other hr.c2 (by decide)) (set_other hr.c3 (by decide)) (set_other hr.c4 (by decide)) (fun j hj => by rw [World.frozen?_setCell]; exact hr.fz j hj)
        have hga : Chg [rb] wr (wr.setCell ⟨rb, 1, none⟩ (.slice none 0 0)) := Chg.setCell wr ⟨rb, 1, none⟩ _
        generalize wr.setCell ⟨rb, 1, none⟩ (.slice none 0 0) = wa at r1 hw9 hga
        have hgb : Chg [rb] wa w9 := by rw [hw9]; exact (Chg.setCell wa ⟨rb, 2, none⟩ _).trans (Chg.setCell _ ⟨rb, 3, none⟩ _) (fun _ h _ => h) (fun _ h _ => h)
        refine ⟨F', none, 0, vs', [], ?_, (hc.trans hga (fun _ h _ => h) (fun j hj _ => by simp at hj; rw [hj]; exact hrbF)).trans hgb (fun _ h _ => h) (fun j hj _ => by simp at hj; rw [hj]; exact hrbF), hsb⟩
        have r2 := r1.setF (st' := { S := torn st.S Z, L := [], left := 0, gone := false, count := st.count }) hgb (by rw [hw9]; exact set_other (set_other r1.c0 (by decide)) (by decide)) (by rw [hw9]; exact set_other (set_other r1.c1 (by decide)) (by decide)) (by rw [hw9]; exact set_other (World.cell?_setCell_same _ _ _ r1.c2) (by decide)) (by rw [hw9]; exact World.cell?_setCell_same _ _ _ (set_other r1.c3 (by decide))) (by rw [hw9]; exact set_other (set_other r1.c4 (by decide)) (by decide)) (fun j hj => by rw [hw9, World.frozen?_setCell, World.frozen?_setCell]; exact r1.fz j hj) rfl rfl rfl (by show 0 < _; decide)
        unfold crash
        rw [← HZ.out]
        exact r2
      have hfin := fin _ rfl
      by_cases hkL : k < st.L.length
      · have h1 : decide (k < st.L.length) = true := by simp; omega
        have h2 : decide (k < np) = false := by simp; omega
        clear hkz
        go_wp2_with fail
        go_end0
        obtain ⟨F9, la9, cl9, vs9, ls9, hA, hB, hC⟩ := hfin
        exact ⟨rfl, F9, ⟨la9, cl9, vs9, ls9, hA⟩, hB, hC⟩
      · have h1 : decide (k < st.L.length) = false := by simp; omega
        clear hkz
        go_wp2_with fail
        go_end0
        obtain ⟨F9, la9, cl9, vs9, ls9, hA, hB, hC⟩ := hfin
        exact ⟨rfl, F9, ⟨la9, cl9, vs9, ls9, hA⟩, hB, hC⟩
end Go.Proofs.Ytinmhaffefgloaa
