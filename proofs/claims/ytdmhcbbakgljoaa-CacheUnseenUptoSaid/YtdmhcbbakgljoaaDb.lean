/- The program's disk: the calls that only read, the fuse set. -/
import Derived.Test.YtdmhcbbakgljoaaDa
namespace Go.Proofs.Ytdmhcbbakgljoaa
open Go.RowKit
set_option linter.unusedVariables false
set_option linter.unusedSimpArgs false

theorem blocks_any (B db : Nat) (g : DG) (fa : Option Addr) (cf : Nat) (st : RS) (w : World) (h : DevAt w B db g fa cf st) (hW : Whole st) :
    Calls Try.prog 25 #[.pointer (some ⟨db, 0, none⟩)] w fun e w' => e = .returned (.int .i64 st.count) ∧ w = w' := by
  have c0 := h.c0
  obtain ⟨n, hn⟩ : ∃ n, n = 64 * st.S.length := ⟨_, rfl⟩
  rw [← hn] at c0
  obtain ⟨m, hm⟩ : ∃ m, m = st.count := ⟨_, rfl⟩
  have hq : Int.tdiv (n : Int) 256 = (m : Int) := by
    rw [Int.tdiv_eq_ediv_of_nonneg (by omega)]
    have := hW.1
    omega
  have hm1 : m ≤ 1024 := by have := hW.2; omega
  rw [← hm]
  clear hn hm hW
  go_enter Try.func25, Try.ntmps25
  go_wp2_with (first | (go_at_call 42; refine (made_yes db _ _ _ _ w c0).mono ?_; rintro e w' ⟨rfl, rfl⟩))
  go_ret
  exact ⟨rfl, rfl⟩
theorem flight_any (B db : Nat) (g : DG) (fa : Option Addr) (cf : Nat) (st : RS) (w : World) (h : DevAt w B db g fa cf st) :
    Calls Try.prog 21 #[.pointer (some ⟨db, 0, none⟩)] w fun e w' => e = .returned (.int .i64 st.L.length) ∧ w = w' := by
  have c0 := h.c0
  have c1 := h.c1
  go_enter Try.func21, Try.ntmps21
  go_wp2_with (first | (go_at_call 42; refine (made_yes db _ _ _ _ w c0).mono ?_; rintro e w' ⟨rfl, rfl⟩))
  go_ret
  exact ⟨rfl, rfl⟩
theorem off_any (B db : Nat) (g : DG) (fa : Option Addr) (cf : Nat) (st : RS) (w : World) (h : DevAt w B db g fa cf st) :
    Calls Try.prog 50 #[.pointer (some ⟨db, 0, none⟩)] w fun e w' => e = .returned (.bool st.gone) ∧ w = w' := by
  have c0 := h.c0
  have c4 := h.c4
  go_enter Try.func50, Try.ntmps50
  go_wp2_with (first | (go_at_call 42; refine (made_yes db _ _ _ _ w c0).mono ?_; rintro e w' ⟨rfl, rfl⟩))
  go_ret
  exact ⟨rfl, rfl⟩
theorem powered_any (B db : Nat) (g : DG) (fa : Option Addr) (cf : Nat) (st : RS) (w : World) (h : DevAt w B db g fa cf st) :
    Calls Try.prog 39 #[.pointer (some ⟨db, 0, none⟩)] w fun e w' => e = .returned (.int .i64 (if st.gone then 9 else 0)) ∧ w = w' := by
  have c0 := h.c0
  have c4 := h.c4
  cases hg : st.gone
  · rw [hg] at c4
    go_enter Try.func39, Try.ntmps39
    go_wp2_with (first | (go_at_call 42; refine (made_yes db _ _ _ _ w c0).mono ?_; rintro e w' ⟨rfl, rfl⟩))
    go_ret
    exact ⟨rfl, rfl⟩
  · rw [hg] at c4
    go_enter Try.func39, Try.ntmps39
    go_wp2_with (first | (go_at_call 42; refine (made_yes db _ _ _ _ w c0).mono ?_; rintro e w' ⟨rfl, rfl⟩))
    go_ret
    exact ⟨rfl, rfl⟩
theorem asked_any (z : Int) (B db : Nat) (g : DG) (fa : Option Addr) (cf : Nat) (st : RS) (w : World) (h : DevAt w B db g fa cf st) (hW : Whole st) :
    Calls Try.prog 36 #[.pointer (some ⟨db, 0, none⟩), .int .i64 z] w fun e w' => e = .returned (.int .i64 (whyN st z)) ∧ w = w' := by
  unfold whyN
  cases hg : st.gone
  · simp only [Bool.false_eq_true, if_false]
    by_cases h1 : z < 0
    · rw [if_pos (Or.inl h1)]
      go_enter Try.func36, Try.ntmps36
      go_wp2_with (first | (go_at_call 39; refine (powered_any B db g fa cf st w h).mono ?_; rw [hg]; rintro e w' ⟨rfl, rfl⟩) | (go_at_call 25; refine (blocks_any B db g fa cf st w h hW).mono ?_; rintro e w' ⟨rfl, rfl⟩))
      go_ret
      exact ⟨rfl, rfl⟩
    · have h1' : decide (z < 0) = false := by simp; omega
      by_cases h2 : (st.count : Int) ≤ z
      · rw [if_pos (Or.inr h2)]
        have h2' : decide ((st.count : Int) ≤ z) = true := by simpa using h2
        go_enter Try.func36, Try.ntmps36
        go_wp2_with (first | (go_at_call 39; refine (powered_any B db g fa cf st w h).mono ?_; rw [hg]; rintro e w' ⟨rfl, rfl⟩) | (go_at_call 25; refine (blocks_any B db g fa cf st w h hW).mono ?_; rintro e w' ⟨rfl, rfl⟩))
        go_ret
        exact ⟨rfl, rfl⟩
      · rw [if_neg (by omega)]
        have h2' : decide ((st.count : Int) ≤ z) = false := by simpa using h2
        go_enter Try.func36, Try.ntmps36
        go_wp2_with (first | (go_at_call 39; refine (powered_any B db g fa cf st w h).mono ?_; rw [hg]; rintro e w' ⟨rfl, rfl⟩) | (go_at_call 25; refine (blocks_any B db g fa cf st w h hW).mono ?_; rintro e w' ⟨rfl, rfl⟩))
        go_ret
        exact ⟨rfl, rfl⟩
  · simp only [if_true]
    go_enter Try.func36, Try.ntmps36
    go_wp2_with (first | (go_at_call 39; refine (powered_any B db g fa cf st w h).mono ?_; rw [hg]; rintro e w' ⟨rfl, rfl⟩))
    go_ret
    exact ⟨rfl, rfl⟩
theorem fuse_set (z : Int) (B db : Nat) (g : DG) (fa : Option Addr) (cf : Nat) (st : RS) (w : World) (h : DevAt w B db g fa cf st) (hz : z < 9223372036854775808) :
    Calls Try.prog 24 #[.pointer (some ⟨db, 0, none⟩), .int .i64 z] w fun e w' => e = .returned (.tuple #[]) ∧ DevAt w' B db g fa cf { st with left := z.toNat } ∧ Chg [db] w w' := by
  have c0 := h.c0
  have c3 := h.c3
  have f3 := h.fz 3 (by decide)
  have close : ∀ v : Nat, v < 9223372036854775808 → DevAt (w.setCell ⟨db, 3, none⟩ (.int .i64 v)) B db g fa cf { st with left := v } := fun v hv =>
    h.setF (Chg.setCell w ⟨db, 3, none⟩ _) (by rw [World.cell?_setCell_other _ _ _ _ (by simp)]) (by rw [World.cell?_setCell_other _ _ _ _ (by simp)]) (by rw [World.cell?_setCell_other _ _ _ _ (by simp)]) (World.cell?_setCell_same _ _ _ c3) (by rw [World.cell?_setCell_other _ _ _ _ (by simp)]; exact h.c4) (fun j hj => by rw [World.frozen?_setCell]; exact h.fz j hj) rfl rfl hv
  by_cases h1 : z < 0
  · have e0 : z.toNat = 0 := by omega
    rw [e0]
    go_enter Try.func24, Try.ntmps24
    go_wp2_with (first | (go_at_call 42; refine (made_yes db _ _ _ _ w c0).mono ?_; rintro e w' ⟨rfl, rfl⟩))
    go_end0
    exact ⟨rfl, close 0 (by decide), Chg.setCell w ⟨db, 3, none⟩ _⟩
  · obtain ⟨k, rfl⟩ := Int.eq_ofNat_of_zero_le (show 0 ≤ z by omega)
    have h1' : decide ((k : Int) < 0) = false := by simp
    go_enter Try.func24, Try.ntmps24
    go_wp2_with (first | (go_at_call 42; refine (made_yes db _ _ _ _ w c0).mono ?_; rintro e w' ⟨rfl, rfl⟩))
    go_end0
    exact ⟨rfl, close k (by omega), Chg.setCell w ⟨db, 3, none⟩ _⟩
theorem sectorOf_any (b o n c s : Nat) (hs : 64 * s + 64 ≤ c) (hc : c ≤ maxLen) (w : World) :
    Calls Try.prog 37 #[.slice (some ⟨b, o, none⟩) n c, .int .i64 s] w fun e w' => e = .returned (.slice (some ⟨b, o + 64 * s, none⟩) 64 64) ∧ w = w' := by
  unfold maxLen at hc
  have w1 : IntKind.i64.wrap ((s : Int) * 64) = ((64 * s : Nat) : Int) := by rw [IntKind.wrap_i64]; omega
  have w2 : IntKind.i64.wrap ((s : Int) + 1) = (s : Int) + 1 := by rw [IntKind.wrap_i64]; omega
  have w3 : IntKind.i64.wrap (((s : Int) + 1) * 64) = ((64 * s + 64 : Nat) : Int) := by rw [IntKind.wrap_i64]; omega
  go_enter Try.func37, Try.ntmps37
  go_wp2
  go_ret
  refine ⟨?_, rfl⟩
  show Ending.returned (Value.slice _ (64 * s + 64 - 64 * s) (64 * s + 64 - 64 * s)) = _
  rw [Nat.add_sub_cancel_left]
theorem lasts_any (p : Nat) (hp : p < 256) (w : World) :
    Calls Try.prog 44 #[.int .u8 p] w fun e w' => e = .returned (.int .i64 ((if p = 0 then 0 else if p = 1 then 64 else (p - 2) % 65 : Nat) : Nat)) ∧ w = w' := by
  by_cases h0 : p = 0
  · subst h0
    go_enter Try.func44, Try.ntmps44
    go_wp2
    go_ret
    exact ⟨rfl, rfl⟩
  · by_cases h1 : p = 1
    · subst h1
      go_enter Try.func44, Try.ntmps44
      go_wp2
      go_ret
      exact ⟨rfl, rfl⟩
    · rw [if_neg h0, if_neg h1]
      have e0 : ((p : Int) == 0) = false := by simp; omega
      have e1 : ((p : Int) == 1) = false := by simp; omega
      go_enter Try.func44, Try.ntmps44
      go_wp2
      go_ret
      refine ⟨ret_int ?_, rfl⟩
      omega
theorem seen_any (s : Nat) (B db : Nat) (g : DG) (fa : Option Addr) (cf : Nat) (st : RS) (w : World) (h : DevAt w B db g fa cf st) (hs : s < st.S.length) :
    Calls Try.prog 38 #[.pointer (some ⟨db, 0, none⟩), .int .i64 s] w fun e w' => ∃ ao c, e = .returned (.slice ao 64 c) ∧ Reads w ao (bts (cur st s)) ∧ w = w' := by
  have c0 := h.c0
  have c1 := h.c1
  have c2 := h.c2
  have hmx := h.rS.max
  have hle := h.rS.le
  obtain ⟨b0, o0, e0, _, _, hcn⟩ := h.rN.at_ (by have := h.rN.le; omega)
  cases e0
  have x2 := hcn s _ (newC_get _ _ s hs)
  have hsi : (s : Int) < (st.S.length : Int) := by omega
  have hsS : st.S.getD s [] = st.S[s] := by rw [List.getD_eq_getElem?_getD, List.getElem?_eq_getElem hs]; rfl
  clear hcn
  rcases newOf_parts st.L s with ⟨hn, hl⟩ | ⟨n, l, hn, hL, hl⟩
  · rw [hn] at x2
    have hcur : cur st s = st.S[s] := by unfold cur; rw [hl, hsS]
    rw [hcur]
    obtain ⟨b1, o1, e1, _, _, hcs⟩ := h.rS.at_ (by have := h.pos; omega)
    cases e1
    have hrd : Reads w (some ⟨g.lb, g.lo + 64 * s, none⟩) (bts st.S[s]) := by
      have := ((h.rS.reads).drop (l := 64 * s)).take 64
      rwa [bts_drop, bts_take, flat_get _ s hs h.lS] at this
    clear hcs hcur hsS
    go_enter Try.func38, Try.ntmps38
    go_wp2_with (first | (go_at_call 37; refine (sectorOf_any g.lb g.lo _ g.cl s (by omega) hmx w).mono ?_; rintro e w' ⟨rfl, rfl⟩))
    go_ret
    exact ⟨_, _, rfl, hrd, rfl⟩
  · rw [hn] at x2
    have hcur : cur st s = l := by unfold cur; rw [hl]
    rw [hcur]
    have hnL : n < st.L.length := (List.getElem?_eq_some_iff.1 hL).1
    have hge : st.L[n] = (s, l) := by rw [List.getElem?_eq_getElem hnL] at hL; exact Option.some.inj hL
    have hl64 := (h.lL _ (List.getElem_mem hnL)).1
    rw [hge] at hl64
    obtain ⟨fb, fo, rfl, _, _, _, hcf⟩ := h.rL.at_ (by have := h.rL.le; omega)
    have hrd : Reads w (some ⟨fb, fo + n * 65 + 1, none⟩) (bts l) := fun _ => ⟨fb, _, rfl, fun j u hu => by
      have := hcf (n * 65 + (j + 1)) u (flyC_get st.L n hnL (fun f hf => (h.lL f hf).1) (j + 1) u (by rw [hge]; exact hu))
      rw [← this]
      congr 2
      omega⟩
    have hni : (n : Int) < (st.L.length : Int) := by omega
    have hmL := h.rL.max
    have hlL := h.rL.le
    unfold maxLen at hmL
    have hg1 : decide ((0 : Int) < ((n + 1 : Nat) : Int)) = true := decide_eq_true (by omega)
    have w1 : IntKind.i64.wrap (((n + 1 : Nat) : Int) - 1) = (n : Int) := by rw [IntKind.wrap_i64]; omega
    clear hcf hcur hsS hge hl
    go_enter Try.func38, Try.ntmps38
    go_wp2
    go_ret
    exact ⟨_, ⟨_, rfl⟩, hrd, rfl⟩
end Go.Proofs.Ytdmhcbbakgljoaa
