/- The reference's disk: Write. -/
import Derived.Test.YtinmhaffefgloaaRf
import Derived.Deep.RegionLaw
namespace Go.Proofs.Ytinmhaffefgloaa
open Go.RowKit
set_option linter.unusedVariables false
set_option linter.unusedSimpArgs false

theorem step_append_z {P : Program} {ops : Array Oper} {o : Oper} {a : Act} {w : World} {K : Act → World → Prop} {Q : Exit → Act → World → Prop} {E : Prop}
    (hg : o.guard = none) (s x : Operand) (t : TypeId) (ho : o.op = .call { callee := .builtin .append, args := #[s, x], argTypes := #[t, t] })
    (e : TypeId) (z bytes : Nat) (hz0 : 0 < z) (helt : EltZ P t e z bytes)
    (B : Nat) (ao : Option Addr) (n c : Nat) (xs : List Value) (hs : a.eval s = .slice ao n c) (h : RoomZ z w B ao n c xs) (hB : B ≤ w.heap.size)
    (us : Array Value) (cx : Nat) (hxe : a.eval x = .slice (some ⟨w.heap.size, 0, none⟩) 1 cx) (hlen : us.size = z) (hone : ∀ u ∈ us.toList, u.oneCell' = true)
    (h63 : n + 1 ≤ maxLen) (hbytes : (n + 1) * bytes ≤ 140737488355328)
    (hK : ∀ ao' c' w', RoomZ z w' B ao' (n + 1) c' (xs ++ us.toList) → Chg (fp ao c) w w' → (fp ao' c' = fp ao c ∨ ∃ k, w.heap.size ≤ k ∧ fp ao' c' = [k]) → K (a.put o.dst (.slice ao' (n + 1) c')) w') :
    if Region.wanted o (yielded ops a.tmps) = true then Oper.wp P o a (w.alloc (.cells us e)) K Q else E := by
  have hw : Region.wanted o (yielded ops a.tmps) = true := by simp [Region.wanted, hg]
  rw [if_pos hw]
  obtain ⟨ao', c', w', hr, h2, h3, h4⟩ := run_append_z (P := P) (w.alloc (.cells us e)) t o.type e z bytes hz0 helt B ao n c xs (h.chg (Chg.alloc [] w _) (by simp)) (by simp; omega) (some ⟨w.heap.size, 0, none⟩) 1 cx us.toList (Reads.new w us e) (by simp [hlen]) hone h63 hbytes
  unfold Oper.wp execOp
  simp only [ho, resolve, invoke, builtin, Sem.run_bind, Sem.run_pure, Result.andThen_ok, List.map_toArray, List.map_cons, List.map_nil, hs, hxe, hr]
  exact hK _ _ _ h2 ((Chg.alloc [] w _).trans h3 (by simp) (fun k h _ => h)) (h4.imp id fun h => ⟨_, by simp, h⟩)
theorem eltF : EltZ Try.prog 60 70 2 32 := EltZ.mk (v := .agg #[.int .i64 0, .slice none 0 0]) Try.underlying60 (by kernel_rfl) (by kernel_rfl)
set_option maxHeartbeats 1000000 in
theorem write_any (at_ : Int) (B : Nat) (F : List Nat) (rb : Nat) (sa : Option Addr) (cs : Nat) (la : Option Addr) (cl : Nat) (vs ls : List Value) (st : RS) (w : World) (h : RefAt w B F rb sa cs la cl vs ls st)
    (hW : Whole st) (hB : B ≤ w.heap.size) (hLb : st.L.length ≤ 1000000000)
    (ab : Option Addr) (nb cb : Nat) (b : List UInt8) (g : Reads w ab (bts b)) (gn : b.length = nb) (gc : nb ≤ cb) (gm : cb ≤ 140737488355328) (hab : ∀ k, k ∈ blk ab → k ∉ F ∧ k < w.heap.size) :
    Calls Try.prog 13 #[.pointer (some ⟨rb, 0, none⟩), .int .i64 at_, .slice ab nb cb] w fun e w' => e = .returned (.int .i64 (write st at_ b).1) ∧ ∃ F' la' cl' ls', RefAt w' B F' rb sa cs la' cl' vs ls' (write st at_ b).2 ∧ Chg F w w' ∧ ∀ k, k ∈ F' → k ∈ F ∨ w.heap.size ≤ k := by
  have hrbF : rb ∈ F := h.inF rb (by simp)
  have hsub : ∀ w', Chg [rb] w w' → Chg F w w' := fun w' g => g.mono (fun k hk _ => by simp at hk; rw [hk]; exact hrbF)
  have hml : maxLen = 9223372036854775807 := rfl
  unfold write
  by_cases hw0 : whyN st at_ = 0
  · rw [if_neg (by simp [hw0])]
    have hat : 0 ≤ at_ ∧ at_ < st.count := by
      unfold whyN at hw0
      split at hw0
      · omega
      · split at hw0
        · omega
        · omega
    obtain ⟨A, rfl⟩ := Int.eq_ofNat_of_zero_le hat.1
    by_cases hb256 : nb = 256
    · rw [if_neg (by omega)]
      have Hw := mkHid hw0
      cases hb : (burn st).1
      · simp only [Bool.false_eq_true, if_false]
        have hbL : (burn st).2.L = st.L := by unfold burn; split; rfl; split <;> rfl
        have hbC : (burn st).2.count = st.count := by unfold burn; split; rfl; split <;> rfl
        have hbS : (burn st).2.S = st.S := by unfold burn; split; rfl; split <;> rfl
        obtain ⟨st1, hst⟩ : ∃ st1, st1 = (burn st).2 := ⟨_, rfl⟩
        rw [← hst] at hbL hbC hbS ⊢
        have Hbl := mkHid hbL
        subst hb256
        go_enter Try.func13, Try.ntmps13
        go_wp2_with (first | (go_at_call 35; refine (why_any rb _ st w h.c3 h.c4).mono ?_; rw [Hw.out]; rintro e w' ⟨rfl, rfl⟩) | (go_at_call 36; refine (burns_any B F rb sa cs la cl vs ls st w h).mono ?_; rw [hb, ← hst]; rintro e w1 ⟨rfl, h1, hg1⟩))
        have hg1' := hsub _ hg1
        have hA : A < st1.count := by omega
        have hLb1 : st1.L.length ≤ 1000000000 := by rw [hbL]; exact hLb
        have hS1 : st1.S.length = 4 * st1.count := by rw [hbS, hbC]; exact hW.1
        have hcnt := hW.2
        clear hbL hbC hbS
        go_loopw [8] (fun i wr => ∃ (k : Nat) (F' : List Nat) (la' : Option Addr) (cl' : Nat) (ls' : List Value), i = .int .i64 k ∧ k ≤ 4 ∧ RefAt wr B F' rb sa cs la' cl' vs ls' { st1 with L := st1.L ++ flies A b k } ∧ Chg F w wr ∧ ∀ k, k ∈ F' → k ∈ F ∨ w.heap.size ≤ k) (fun i _ => 4 - (intOf i).toNat)
        case atStart => exact ⟨0, F, la, cl, ls, rfl, by omega, by simpa [flies] using h1, hg1', fun k hk => Or.inl hk⟩
        case round =>
          obtain ⟨k, F', la', cl', ls', rfl, hk, hr, hc, hsb⟩ := hrel
          by_cases hlt : k < 4
          · have hfl : (flies A b k).length = k := by simp [flies]
            obtain ⟨st2, hst2⟩ : ∃ st2, st2 = { st1 with L := st1.L ++ flies A b k } := ⟨_, rfl⟩
            rw [← hst2] at hr
            have hn2 : st2.L.length = st1.L.length + k := by rw [hst2]; simp [hfl]
            have hs2 : 4 * A + k < st2.S.length := by rw [hst2]; show _ < st1.S.length; omega
            have hst3 : { st2 with L := st2.L ++ [(4 * A + k, secOf b k)] } = { st1 with L := st1.L ++ flies A b (k + 1) } := by rw [hst2, flies_succ]; simp
            have c1 := hr.c1
            have fz1 := hr.fz 1 (by decide)
            have hsl := run_range_k (P := Try.prog) ab 256 cb (64 * k) 64 (64 * (k : Int) + 64) (by omega) Try.underlying32 (by kernel_rfl) (by omega)
            simp only [Int.natCast_mul, Int.cast_ofNat_Int] at hsl
            have hrd : Reads wr (cut ab cb (64 * k)) (bts (secOf b k)) := by
              have := ((g.chg hc (fun k hk => (hab k hk).1)).cut cb (64 * k) (by rw [bts_length]; omega)).take 64
              rwa [bts_drop, bts_take] at this
            have hsl64 : (secOf b k).length = 64 := by simp [secOf]; omega
            have Hst2 := mkHid hst2
            have Hst3 := mkHid hst3
            have Hn2 := mkHid hn2
            have Hfl := mkHid hfl
            have Hsl := mkHid hsl64
            have hnn : (st2.L.length + 1) * 32 ≤ 140737488355328 := by omega
            have hcs := hc.size
            have Hap := mkHid hr.ap2
            clear hst2 hst3 hn2 hfl hsl64
            generalize hcu : cut ab cb (64 * k) = uu at *
            have hd : decide ((k : Int) < 4) = true := by simp; omega
            have w1 : IntKind.i64.wrap (4 * (A : Int)) = 4 * (A : Int) := by rw [IntKind.wrap_i64]; omega
            have w2 : IntKind.i64.wrap (4 * (A : Int) + (k : Int)) = ((4 * A + k : Nat) : Int) := by rw [IntKind.wrap_i64]; omega
            have w3 : IntKind.i64.wrap (64 * (k : Int)) = 64 * (k : Int) := by rw [IntKind.wrap_i64]; omega
            have w4 : IntKind.i64.wrap (64 * (k : Int) + 64) = 64 * (k : Int) + 64 := by rw [IntKind.wrap_i64]; omega
            have c1' := (Chg.drew [] wr).cellv c1 (by simp)
            go_wp2_with fail
            go_region_law (first | (go_simp; go_at_call 37; refine (own_any uu 64 _ (secOf b k) _ (hrd.keep (Chg.drew [] _)) Hsl.out (by decide)).mono ?_; rintro e w5 ⟨a5, c5, rfl, hr5, hg5⟩; have c5' := hg5.cellv c1' (by simp); have c5a := fun o => (Chg.alloc [] w5 o).cellv c5' (by simp)) | (refine step_append_z rfl (.tmp 28) (.tmp 42) 60 rfl 70 2 32 (by decide) eltF B la' st2.L.length cl' ls' rfl ((hr.rL.chg (Chg.drew [] _) (by simp)).chg hg5 (by simp)) (by have := hg5.size; simp at this; omega) #[.int .i64 ((4 * A + k : Nat) : Int), .slice a5 64 c5] 1 rfl rfl (by intro u hu; simp at hu; rcases hu with rfl | rfl <;> rfl) (by omega) hnn ?_; intro a6 c6 w6 hr6 hg6 hf6; have k1 := hg6.cellv c5' Hap.out; have k2 : w6.frozen? ⟨rb, 1, none⟩ = false := (hg6.frozen (p := ⟨rb, 1, none⟩) (show rb < w5.heap.size from block_lt_of_cell c5') Hap.out).trans ((hg5.frozen (p := ⟨rb, 1, none⟩) (show rb < wr.drew.heap.size from block_lt_of_cell c1') (by simp)).trans (by simpa using fz1)); have Hr6 := mkHid hr6; have Hg6 := mkHid hg6; have Hf6 := mkHid hf6; clear hr6 hg6 hf6))
            all_goals
              go_wp2_with fail
              obtain ⟨F2, hA2, hB2, hC2⟩ := fly_close hr hs2 Hsl.out ((Chg.drew [] wr).then hg5) hr5 Hg6.out Hr6.out Hf6.out
              rw [Hst3.out] at hA2
              refine ⟨⟨k + 1, F2, a6, c6, _, by go_num, by omega, hA2, hc.trans hB2 (fun _ h _ => h) (fun j hj hlt => (hsb j hj).elim id (fun hx => by omega)), fun j hj => (hC2 j hj).elim (hsb j) (fun hx => Or.inr (Nat.le_trans hcs hx))⟩, by simp [intOf]; omega⟩
          · have : k = 4 := by omega
            subst this
            subst hst
            go_wp2_with fail
            go_ret
            exact ⟨rfl, F', la', cl', ls', hr, hc, hsb⟩
      · simp only [if_true]
        subst hb256
        go_enter Try.func13, Try.ntmps13
        go_wp2_with (first | (go_at_call 35; refine (why_any rb _ st w h.c3 h.c4).mono ?_; rw [Hw.out]; rintro e w' ⟨rfl, rfl⟩) | (go_at_call 36; refine (burns_any B F rb sa cs la cl vs ls st w h).mono ?_; rw [hb]; rintro e w1 ⟨rfl, h1, hg1⟩))
        go_ret
        exact ⟨rfl, F, la, cl, ls, h1, hsub _ hg1, fun k hk => Or.inl hk⟩
    · rw [if_pos (by omega)]
      have Hw := mkHid hw0
      have e1 : ((nb : Int) != 256) = true := by simp; omega
      go_enter Try.func13, Try.ntmps13
      go_wp2_with (first | (go_at_call 35; refine (why_any rb _ st w h.c3 h.c4).mono ?_; rw [Hw.out]; rintro e w' ⟨rfl, rfl⟩))
      go_ret
      exact ⟨rfl, F, la, cl, ls, h, Chg.refl _ _, fun k hk => Or.inl hk⟩
  · rw [if_pos hw0]
    have e1 : (whyN st at_ != 0) = true := by simpa using hw0
    go_enter Try.func13, Try.ntmps13
    go_wp2_with (first | (go_at_call 35; refine (why_any rb _ st w h.c3 h.c4).mono ?_; rintro e w' ⟨rfl, rfl⟩))
    go_ret
    exact ⟨rfl, F, la, cl, ls, h, Chg.refl _ _, fun k hk => Or.inl hk⟩
end Go.Proofs.Ytinmhaffefgloaa
