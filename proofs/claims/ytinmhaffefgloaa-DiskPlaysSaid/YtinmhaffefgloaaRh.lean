/- The reference's disk: Read. -/
import Derived.Test.YtinmhaffefgloaaRg
namespace Go.Proofs.Ytinmhaffefgloaa
open Go.RowKit
set_option linter.unusedVariables false
set_option linter.unusedSimpArgs false

theorem read_no (at_ : Int) (B : Nat) (F : List Nat) (rb : Nat) (sa : Option Addr) (cs : Nat) (la : Option Addr) (cl : Nat) (vs ls : List Value) (st : RS) (w : World) (h : RefAt w B F rb sa cs la cl vs ls st) (hw : whyN st at_ ≠ 0) :
    Calls Try.prog 15 #[.pointer (some ⟨rb, 0, none⟩), .int .i64 at_] w fun e w' => e = .returned (.tuple #[.slice none 0 0, .int .i64 (whyN st at_)]) ∧ w = w' := by
  have e1 : (whyN st at_ != 0) = true := by simpa using hw
  go_enter Try.func15, Try.ntmps15
  go_wp2_with (first | (go_at_call 35; refine (why_any rb _ st w h.c3 h.c4).mono ?_; rintro e w' ⟨rfl, rfl⟩))
  go_ret2
  exact ⟨rfl, rfl⟩
set_option maxHeartbeats 1000000 in
theorem read_yes (A : Nat) (B : Nat) (F : List Nat) (rb : Nat) (sa : Option Addr) (cs : Nat) (la : Option Addr) (cl : Nat) (vs ls : List Value) (st : RS) (w : World) (h : RefAt w B F rb sa cs la cl vs ls st) (hW : Whole st) (hw : whyN st A = 0) :
    Calls Try.prog 15 #[.pointer (some ⟨rb, 0, none⟩), .int .i64 A] w fun e w' => ∃ ao c, e = .returned (.tuple #[.slice ao 256 c, .int .i64 0]) ∧ Room w' w.heap.size ao 256 c (bts (reads st A 4)) ∧ Chg [] w w' := by
  have hA : A < st.count := by
    unfold whyN at hw
    split at hw
    · omega
    · split at hw
      · omega
      · omega
  have Hw := mkHid hw
  have hcn := hW.2
  have hsz := hW.1
  have hml : maxLen = 9223372036854775807 := rfl
  have hLm := h.rL.max
  have hLl := h.rL.le
  clear hw
  go_enter Try.func15, Try.ntmps15
  go_wp2_with (first | (go_at_call 35; refine (why_any rb _ st w h.c3 h.c4).mono ?_; rw [Hw.out]; rintro e w' ⟨rfl, rfl⟩))
  go_loopw [7, 8, 9, 10] (fun out k _ _ wr => ∃ (j : Nat) (ao : Option Addr) (c : Nat), out = .slice ao (64 * j) c ∧ k = .int .i64 (4 * (A : Int) + j) ∧ j ≤ 4 ∧ Room wr w.heap.size ao (64 * j) c (bts (reads st A j)) ∧ Chg [] w wr) (fun _ k _ _ _ => (4 * A + 4) - (intOf k).toNat)
  case atStart => exact ⟨0, none, 0, rfl, by simp, by omega, Room.nil _ _ _, Chg.refl _ _⟩
  case round =>
    obtain ⟨j, ao, c, rfl, rfl, hj, hr, hc⟩ := hrel
    have h1 := h.chg hc (fun _ _ => by simp)
    have c0 := h1.c0
    have c1 := h1.c1
    by_cases hlt : j < 4
    · have hks : 4 * A + j < st.S.length := by omega
      obtain ⟨sl, hsl⟩ : ∃ sl, st.S[4 * A + j]? = some sl := ⟨_, List.getElem?_eq_getElem hks⟩
      obtain ⟨v0, hv0, hsec0⟩ := h1.sec _ _ hsl
      obtain ⟨sb, so, hsa, _, _, _, hscl⟩ := h1.rS.at_ (by have := h1.rS.le; omega)
      have x0 := hscl _ _ hv0
      have hsD : st.S.getD (4 * A + j) [] = sl := by rw [List.getD_eq_getElem?_getD, hsl]; rfl
      have hi0 : 4 * (A : Int) + (j : Int) < (st.S.length : Int) := by omega
      have hd : decide ((j : Int) < 4) = true := by simp; omega
      have Hd := mkHid hsD
      have HS := mkHid hsz
      clear hsD hsz
      go_wp2_with fail
      go_loopw [9, 10] (fun v i wx => ∃ (n : Nat), i = .int .i64 n ∧ n ≤ st.L.length ∧ Sec wr (rb :: (fp sa cs ++ fp la cl)) F v (lastOf (4 * A + j) sl (st.L.take n)) ∧ wr = wx) (fun _ i _ => st.L.length - (intOf i).toNat)
      case atStart => exact ⟨0, rfl, by omega, hsec0, rfl⟩
      case round =>
        obtain ⟨n, rfl, hn, hsec, rfl⟩ := hrel
        by_cases hln : n < st.L.length
        · obtain ⟨s, l, hfl⟩ : ∃ s l, st.L[n]? = some (s, l) := ⟨_, _, List.getElem?_eq_getElem hln⟩
          obtain ⟨f1, f2, v, f3, f4⟩ := h1.fly n s l hfl
          obtain ⟨lb, lo, hla, _, _, _, hcl⟩ := h1.rL.at_ (by omega)
          have x1 := hcl _ _ f2
          have x2 := hcl _ _ f3
          rw [← Nat.add_assoc] at x2
          rw [Nat.mul_comm 2 n] at x1 x2
          have hni : (n : Int) < (st.L.length : Int) := by omega
          have hstep := lastOf_succ (4 * A + j) sl st.L n hln
          have hge : st.L[n] = (s, l) := by rw [List.getElem?_eq_getElem hln] at hfl; exact Option.some.inj hfl
          rw [hge] at hstep
          have Hst := mkHid hstep
          clear hcl hstep hge f2 f3 hfl
          have HLA := mkHid hla
          have HSA := mkHid hsa
          rw [hla] at c1
          clear hla hsa
          by_cases hse : s = 4 * A + j
          · have e1 : ((s : Int) == 4 * (A : Int) + (j : Int)) = true := by simp; omega
            have Hse := mkHid hse
            clear hse
            go_wp2_with fail
            exact ⟨⟨n + 1, by go_num, by omega, by rw [Hst.out, if_pos Hse.out]; exact f4, by first | rfl | trivial⟩, by simp [intOf]; omega⟩
          · have e1 : ((s : Int) == 4 * (A : Int) + (j : Int)) = false := by simp; omega
            have Hse := mkHid hse
            clear hse
            go_wp2_with fail
            exact ⟨⟨n + 1, by go_num, by omega, by rw [Hst.out, if_neg Hse.out]; exact hsec, by first | rfl | trivial⟩, by simp [intOf]; omega⟩
        · have hne : n = st.L.length := by omega
          subst hne
          rw [List.take_length] at hsec
          obtain ⟨y1, vb, vo, vc, rfl, y2, y3, y4, y5, y6, y7⟩ := hsec
          have hrn := reads_succ st A j
          have hcur : cur st (4 * A + j) = lastOf (4 * A + j) sl st.L := by unfold cur; rw [Hd.out]
          rw [hcur] at hrn
          have Hrn := mkHid hrn
          have Hy1 := mkHid y1
          clear hrn hcur y1
          have hle := hr.le
          go_wp2_with (first | (at_builtin; refine wpList_append_k _ rfl (.tmp 60) (.tmp 61) 32 rfl 5 1 eltB w.heap.size ao (64 * j) c _ rfl hr hc.size (some ⟨vb, vo, none⟩) 64 vc (bts (lastOf (4 * A + j) sl st.L)) rfl y7 (by rw [bts_length]; exact Hy1.out) (bts_one _) (by omega) (by omega) ?_; intro a2 c2 w2 hr2 hg2 hf2))
          refine ⟨⟨j + 1, a2, c2, by rw [Nat.mul_add], by go_num, by omega, by rw [Hrn.out, bts_append, Nat.mul_add]; exact hr2, hc.own hg2 hr⟩, by simp [intOf]; omega⟩
    · have : j = 4 := by omega
      subst this
      go_wp2_with fail
      go_ret2
      exact ⟨ao, c, rfl, hr, hc⟩
end Go.Proofs.Ytinmhaffefgloaa
