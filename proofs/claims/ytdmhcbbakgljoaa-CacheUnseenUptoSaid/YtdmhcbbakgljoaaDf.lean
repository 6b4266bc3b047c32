/- The program's disk: Write, Crash, Read. -/
import Derived.Test.YtdmhcbbakgljoaaDe
namespace Go.Proofs.Ytdmhcbbakgljoaa
open Go.RowKit
set_option linter.unusedVariables false
set_option linter.unusedSimpArgs false
attribute [local go_sem ↓] Go.wp_at_zero Go.wp_at_succ wide65
attribute [local go_sem] run_wide

/-- What a call leaves of a disk: its blocks, and some new ones. -/
def Later (w : World) (fa : Option Addr) (cf : Nat) (fa' : Option Addr) (cf' : Nat) : Prop := ∀ k, k ∈ fp fa' cf' → k ∈ fp fa cf ∨ w.heap.size ≤ k
theorem fused_send (A : Nat) (B db : Nat) (g : DG) (fa : Option Addr) (cf : Nat) (st : RS) (w : World) (h : DevAt w B db g fa cf st) (hb : (burn st).1 = false) (hA : 4 * A + 4 ≤ st.S.length) (hA2 : A ≤ 1023) (hB : B ≤ w.heap.size) (hLb : st.L.length ≤ 1000000000)
    (ab : Option Addr) (cb : Nat) (b : List UInt8) (gb : Reads w ab (bts b)) (gn : b.length = 256) (gc : 256 ≤ cb) (gm : cb ≤ 140737488355328) (hab : ∀ k, k ∈ blk ab → k ∉ DF db g fa cf ∧ k < w.heap.size) :
    Calls Try.prog 40 #[.pointer (some ⟨db, 0, none⟩), .func (.func 46) #[.agg #[.pointer (some ⟨db, 0, none⟩), .int .i64 A, .slice ab 256 cb]] #[]] w fun e w' => e = .returned (.int .i64 0) ∧ ∃ fa' cf', DevAt w' B db g fa' cf' { (burn st).2 with L := (burn st).2.L ++ flies A b 4 } ∧ Chg (DF db g fa cf) w w' ∧ Later w fa cf fa' cf' := by
  obtain ⟨h1, h2⟩ := burn_not st hb
  rw [h2]
  have c3 := h.c3
  have f3 := h.fz 3 (by decide)
  have hlf := h.lft
  have key : ∀ v : Nat, v < 9223372036854775808 → Calls Try.prog 46 #[.agg #[.pointer (some ⟨db, 0, none⟩), .int .i64 A, .slice ab 256 cb]] (w.setCell ⟨db, 3, none⟩ (.int .i64 v)) fun e w' => e = .returned (.tuple #[]) ∧ ∃ fa' cf', DevAt w' B db g fa' cf' { st with left := v, L := st.L ++ flies A b 4 } ∧ Chg (DF db g fa cf) w w' ∧ Later w fa cf fa' cf' := by
    intro v hv
    have hg : Chg [db] w (w.setCell ⟨db, 3, none⟩ (.int .i64 v)) := Chg.setCell w ⟨db, 3, none⟩ _
    refine (send_any A B db g fa cf _ _ (h.left v hv) hA hA2 (by simpa using hB) hLb ab cb b (gb.chg hg (fun k hk => by have := (hab k hk).1; simp [DF] at this ⊢; exact this.1)) gn gc gm (fun k hk => ⟨(hab k hk).1, by simpa using (hab k hk).2⟩)).mono ?_
    rintro e w3 ⟨rfl, fa', cf', h3, hg3, hl3⟩
    exact ⟨rfl, fa', cf', h3, hg.trans hg3 (fun k hk _ => by simp at hk; simp [DF, hk]) (fun _ h _ => h), fun k hk => (hl3 k hk).imp id (fun hx => by simpa using hx)⟩
  by_cases h0 : st.left = 0
  · rw [h0] at c3
    have e1 : st.left - 1 = 0 := by omega
    rw [e1]
    go_enter Try.func40, Try.ntmps40
    go_wp2_with (first | (go_at_call 46; refine (key 0 (by decide)).mono ?_; rintro e w3 ⟨rfl, fa', cf', h3, hg3, hl3⟩))
    go_ret
    exact ⟨rfl, fa', cf', h3, hg3, hl3⟩
  · obtain ⟨k, hk⟩ : ∃ k, st.left = k + 1 := ⟨st.left - 1, by omega⟩
    have e1 : st.left - 1 = k := by omega
    rw [e1]
    have hk1 : (((k + 1 : Nat) : Int) == 1) = false := by simp; omega
    have w1 : IntKind.i64.wrap (((k + 1 : Nat) : Int) - 1) = (k : Int) := by rw [IntKind.wrap_i64]; omega
    rw [hk] at c3
    have hd : decide ((k : Int) < 0) = false := by simp
    have hkb : k < 9223372036854775808 := by omega
    go_enter Try.func40, Try.ntmps40
    go_wp2_with (first | (go_at_call 46; refine (key k hkb).mono ?_; rintro e w3 ⟨rfl, fa', cf', h3, hg3, hl3⟩))
    go_ret
    exact ⟨rfl, fa', cf', h3, hg3, hl3⟩
theorem dwrite_any (z : Int) (B db : Nat) (g : DG) (fa : Option Addr) (cf : Nat) (st : RS) (w : World) (h : DevAt w B db g fa cf st) (hW : Whole st) (hB : B ≤ w.heap.size) (hLb : st.L.length ≤ 1000000000)
    (ab : Option Addr) (nb cb : Nat) (b : List UInt8) (gb : Reads w ab (bts b)) (gn : b.length = nb) (gc : nb ≤ cb) (gm : cb ≤ 140737488355328) (hab : ∀ k, k ∈ blk ab → k ∉ DF db g fa cf ∧ k < w.heap.size) :
    Calls Try.prog 23 #[.pointer (some ⟨db, 0, none⟩), .int .i64 z, .slice ab nb cb] w fun e w' => e = .returned (.int .i64 (write st z b).1) ∧ ∃ fa' cf', DevAt w' B db g fa' cf' (write st z b).2 ∧ Chg (DF db g fa cf) w w' ∧ Later w fa cf fa' cf' := by
  have hnone : ∀ {st' : RS}, DevAt w B db g fa cf st' → ∃ fa' cf', DevAt w B db g fa' cf' st' ∧ Chg (DF db g fa cf) w w ∧ Later w fa cf fa' cf' := fun h' => ⟨fa, cf, h', Chg.refl _ _, fun k hk => Or.inl hk⟩
  unfold write
  by_cases hw0 : whyN st z = 0
  · rw [if_neg (by simp [hw0])]
    have hat : 0 ≤ z ∧ z < st.count := by
      unfold whyN at hw0
      split at hw0
      · omega
      · split at hw0
        · omega
        · omega
    obtain ⟨A, rfl⟩ := Int.eq_ofNat_of_zero_le hat.1
    by_cases hb256 : nb = 256
    · rw [if_neg (by omega)]
      have Hw := mkHid hw0
      subst hb256
      have hA : 4 * A + 4 ≤ st.S.length := by have := hW.1; omega
      have hA2 : A ≤ 1023 := by have := hW.2; omega
      clear hw0
      cases hb : (burn st).1
      · simp only [Bool.false_eq_true, if_false]
        go_enter Try.func23, Try.ntmps23
        go_wp2_with (first | (go_at_call 36; refine (asked_any _ B db g fa cf st w h hW).mono ?_; rw [Hw.out]; rintro e w' ⟨rfl, rfl⟩) | (go_at_call 40; refine (fused_send A B db g fa cf st w h hb hA hA2 hB hLb ab cb b gb gn gc gm hab).mono ?_; rintro e w3 ⟨rfl, fa', cf', h3, hg3, hl3⟩))
        go_ret
        exact ⟨rfl, fa', cf', h3, hg3, hl3⟩
      · simp only [if_true]
        go_enter Try.func23, Try.ntmps23
        go_wp2_with (first | (go_at_call 36; refine (asked_any _ B db g fa cf st w h hW).mono ?_; rw [Hw.out]; rintro e w' ⟨rfl, rfl⟩) | (go_at_call 40; refine (fused_burns _ B db g fa cf st w h hb).mono ?_; rintro e w3 ⟨rfl, h3, hg3⟩))
        go_ret
        exact ⟨rfl, fa, cf, h3, hg3.mono (fun k hk _ => by simp at hk; simp [DF, hk]), fun k hk => Or.inl hk⟩
    · rw [if_pos (by omega)]
      have Hw := mkHid hw0
      have e1 : ((nb : Int) != 256) = true := by simp; omega
      go_enter Try.func23, Try.ntmps23
      go_wp2_with (first | (go_at_call 36; refine (asked_any _ B db g fa cf st w h hW).mono ?_; rw [Hw.out]; rintro e w' ⟨rfl, rfl⟩))
      go_ret
      exact ⟨rfl, hnone h⟩
  · rw [if_pos hw0]
    have e1 : (whyN st z != 0) = true := by simpa using hw0
    go_enter Try.func23, Try.ntmps23
    go_wp2_with (first | (go_at_call 36; refine (asked_any _ B db g fa cf st w h hW).mono ?_; rintro e w' ⟨rfl, rfl⟩))
    go_ret
    exact ⟨rfl, hnone h⟩
theorem dread_no (z : Int) (B db : Nat) (g : DG) (fa : Option Addr) (cf : Nat) (st : RS) (w : World) (h : DevAt w B db g fa cf st) (hW : Whole st) (hw : whyN st z ≠ 0) :
    Calls Try.prog 16 #[.pointer (some ⟨db, 0, none⟩), .int .i64 z] w fun e w' => e = .returned (.tuple #[.slice none 0 0, .int .i64 (whyN st z)]) ∧ w = w' := by
  have e1 : (whyN st z != 0) = true := by simpa using hw
  go_enter Try.func16, Try.ntmps16
  go_wp2_with (first | (go_at_call 36; refine (asked_any _ B db g fa cf st w h hW).mono ?_; rintro e w' ⟨rfl, rfl⟩))
  go_ret2
  exact ⟨rfl, rfl⟩
theorem cur_len (st : RS) (s : Nat) (hs : s < st.S.length) (hS : ∀ l ∈ st.S, l.length = 64) (hL : ∀ f ∈ st.L, f.2.length = 64) : (cur st s).length = 64 := by
  unfold cur
  rcases newOf_parts st.L s with ⟨_, hl⟩ | ⟨n, l, _, hn, hl⟩
  · rw [hl, List.getD_eq_getElem?_getD, List.getElem?_eq_getElem hs]
    exact hS _ (List.getElem_mem hs)
  · rw [hl]
    exact hL _ (List.mem_of_getElem? hn)
theorem reads_len (st : RS) (A n : Nat) (hs : 4 * A + n ≤ st.S.length) (hS : ∀ l ∈ st.S, l.length = 64) (hL : ∀ f ∈ st.L, f.2.length = 64) : (reads st A n).length = 64 * n := by
  induction n with
  | zero => rfl
  | succ n ih =>
    rw [reads_succ, List.length_append, ih (by omega), cur_len st _ (by omega) hS hL]
    omega
theorem bts_rep (n : Nat) : bts (List.replicate n 0) = List.replicate n (.int .u8 0) := by simp [bts]
theorem seen_as (z : Int) (s : Nat) (hz : z = s) (B db : Nat) (g : DG) (fa : Option Addr) (cf : Nat) (st : RS) (w : World) (h : DevAt w B db g fa cf st) (hs : s < st.S.length) :
    Calls Try.prog 38 #[.pointer (some ⟨db, 0, none⟩), .int .i64 z] w fun e w' => ∃ ao c, e = .returned (.slice ao 64 c) ∧ Reads w ao (bts (cur st s)) ∧ w = w' := by
  rw [hz]
  exact seen_any s B db g fa cf st w h hs
set_option maxHeartbeats 1000000 in
theorem dread_at (A : Nat) (B db : Nat) (g : DG) (fa : Option Addr) (cf : Nat) (st : RS) (w : World) (h : DevAt w B db g fa cf st) (hW : Whole st) (hw : whyN st A = 0) :
    Calls Try.prog 16 #[.pointer (some ⟨db, 0, none⟩), .int .i64 A] w fun e w' => ∃ rb, e = .returned (.tuple #[.slice (some ⟨rb, 0, none⟩) 256 256, .int .i64 0]) ∧ Room w' w.heap.size (some ⟨rb, 0, none⟩) 256 256 (bts (reads st A 4)) ∧ Chg [] w w' := by
  have hA : A < st.count := by
    unfold whyN at hw
    split at hw
    · omega
    · split at hw
      · omega
      · omega
  have Hw := mkHid hw
  have hcn := hW.2
  have hsz := hW.1
  have hml : maxLen = 9223372036854775807 := rfl
  have hmk : ∀ u : World, (Instr.makeSlice 31 (.int .i64 256) (.int .i64 256)).run Try.prog u = .ok (.slice (some ⟨u.heap.size, 0, none⟩) 256 256) (u.alloc (.cells (madeCells #[.int .u8 0] 256) 5)) := hmk 256 (by decide)
  clear hw
  go_enter Try.func16, Try.ntmps16
  go_wp2_with (first | (go_at_call 36; refine (asked_any _ B db g fa cf st w h hW).mono ?_; rw [Hw.out]; rintro e w' ⟨rfl, rfl⟩))
  have hr0 : Room (w.alloc (.cells (madeCells #[.int .u8 0] 256) 5)) w.heap.size (some ⟨w.heap.size, 0, none⟩) 256 256 (bts (List.replicate 256 0)) := by
    rw [bts_rep]
    exact made_room w 5 (.int .u8 0) 256 (by decide)
  have hg0 : Chg [] w (w.alloc (.cells (madeCells #[.int .u8 0] 256) 5)) := Chg.alloc [] w _
  generalize w.alloc (.cells (madeCells #[.int .u8 0] 256) 5) = w0 at hr0 hg0 ⊢
  obtain ⟨nb, hnb⟩ : ∃ nb, nb = w.heap.size := ⟨_, rfl⟩
  have Hnb := mkHid hnb
  have hr0' : Room w0 w.heap.size (some ⟨nb, 0, none⟩) 256 256 (bts (List.replicate 256 0)) := by rw [hnb]; exact hr0
  simp only [← hnb]
  clear hr0 hnb
  go_loopw [16] (fun i wr => ∃ (j : Nat), i = .int .i64 j ∧ j ≤ 4 ∧ Room wr w.heap.size (some ⟨nb, 0, none⟩) 256 256 (bts (reads st A j ++ List.replicate (256 - 64 * j) 0)) ∧ Chg [] w wr) (fun i _ => 4 - (intOf i).toNat)
  case atStart => exact ⟨0, rfl, by omega, by rw [show reads st A 0 = [] from rfl, List.nil_append, Nat.mul_zero, Nat.sub_zero]; exact hr0', hg0⟩
  case round =>
    obtain ⟨j, rfl, hj, hr, hc⟩ := hrel
    have h1 := h.keep hc
    by_cases hlt : j < 4
    · obtain ⟨s, hs⟩ : ∃ s, s = 4 * A + j := ⟨_, rfl⟩
      have hsS : s < st.S.length := by omega
      have hcl := cur_len st s hsS h.lS (fun f hf => (h.lL f hf).1)
      have hrl := reads_len st A j (by omega) h.lS (fun f hf => (h.lL f hf).1)
      have hrs := reads_succ st A j
      rw [← hs] at hrs
      have Hcl := mkHid hcl
      have Hbl := mkHid (show (bts (cur st s)).length = 64 by rw [bts_length]; exact hcl)
      have Hrs := mkHid hrs
      have Hrl := mkHid hrl
      have He := mkHid (show (A : Int) * 4 + (j : Int) = (s : Int) by omega)
      have hA3 : A ≤ 1023 := by omega
      have hd : decide ((j : Int) < 4) = true := decide_eq_true (by omega)
      have hth : wr.there nb (64 * j) 64 := by simpa using hr.there (64 * j) 64 (by omega)
      clear hcl hrs hrl hs
      go_wp2_with (first | (go_at_call 37; refine (sectorOf_any nb 0 256 256 j (by omega) (by decide) _).mono ?_; rintro e w' ⟨rfl, rfl⟩) | (go_at_call 38; refine (seen_as _ s He.out B db g fa cf st _ h1 hsS).mono ?_; rintro e w' ⟨ao, c, rfl, hrd, rfl⟩) | (refine wpList_copy_k rfl (.tmp 21) (.tmp 27) 31 31 5 rfl Try.underlying31 oneB nb (64 * j) 64 64 ao 64 c (bts (cur st s)) rfl rfl hrd Hbl.out (by rw [Hbl.out]; exact hth) (bts_one _) ?_))
      have hr2 := hr.sets (bts (cur st s)) (64 * j) (by rw [Hbl.out]; omega)
      have hc2 : Chg [] w (wr.setCells nb (64 * j) (bts (cur st s))) := hc.trans (Chg.setCells nb _ (64 * j) wr) (fun _ h _ => h) (fun k hk hlt => by simp at hk; have := Hnb.out; omega)
      refine ⟨⟨j + 1, by go_num, by omega, ?_, hc2⟩, by simp [intOf]; omega⟩
      rw [Hbl.out, bts_take, bts_drop, ← bts_append, ← bts_append, Nat.zero_add] at hr2
      have e1 : (reads st A j ++ List.replicate (256 - 64 * j) 0).take (64 * j) = reads st A j := by rw [← Hrl.out, List.take_left]
      have e2 : (reads st A j ++ List.replicate (256 - 64 * j) 0).drop (64 * j + 64) = List.replicate (256 - 64 * (j + 1)) 0 := by
        rw [← Hrl.out, List.drop_length_add_append, Hrl.out, List.drop_replicate]
        congr 1
      rw [e1, e2] at hr2
      rw [Hrs.out, List.append_assoc]
      exact hr2
    · have : j = 4 := by omega
      subst this
      rw [show 256 - 64 * 4 = 0 from rfl, List.replicate_zero, List.append_nil] at hr
      go_wp2_with fail
      go_ret2
      exact ⟨nb, rfl, hr, hc⟩
theorem dread_yes (A : Nat) (B db : Nat) (g : DG) (fa : Option Addr) (cf : Nat) (st : RS) (w : World) (h : DevAt w B db g fa cf st) (hW : Whole st) (hw : whyN st A = 0) :
    Calls Try.prog 16 #[.pointer (some ⟨db, 0, none⟩), .int .i64 A] w fun e w' => ∃ ao c, e = .returned (.tuple #[.slice ao 256 c, .int .i64 0]) ∧ Room w' w.heap.size ao 256 c (bts (reads st A 4)) ∧ Chg [] w w' := by
  refine (dread_at A B db g fa cf st w h hW hw).mono ?_
  rintro e w' ⟨rb, he, hr, hg⟩
  exact ⟨_, _, he, hr, hg⟩
end Go.Proofs.Ytdmhcbbakgljoaa
