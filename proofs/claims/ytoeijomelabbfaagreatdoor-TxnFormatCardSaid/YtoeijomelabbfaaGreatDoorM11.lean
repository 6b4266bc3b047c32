/- Texts Df, Jg, Jh, Ji of the library, joined. -/
import Derived.Test.YtoeijomelabbfaaGreatDoorM09
import Derived.Test.YtoeijomelabbfaaGreatDoorM10
import Derived.Deep.RegionLaw
/- The program's disk: Write, Crash, Read. -/
namespace Go.Proofs.YtoeijomelabbfaaGreatDoor
set_option maxRecDepth 200000
open Go.RowKit
set_option linter.unusedVariables false
set_option linter.unusedSimpArgs false
attribute [local go_sem ↓] Go.wp_at_zero Go.wp_at_succ wide65
attribute [local go_sem] run_wide

/-- What a call leaves of a disk: its blocks, and some new ones. -/
def Later (w : World) (fa : Option Addr) (cf : Nat) (fa' : Option Addr) (cf' : Nat) : Prop := ∀ k, k ∈ fp fa' cf' → k ∈ fp fa cf ∨ w.heap.size ≤ k
theorem fused_send (A : Nat) (B db : Nat) (g : DG) (fa : Option Addr) (cf : Nat) (st : RS) (w : World) (h : DevAt w B db g fa cf st) (hb : (burn st).1 = false) (hA : 4 * A + 4 ≤ st.S.length) (hA2 : A ≤ 1023) (hB : B ≤ w.heap.size) (hLb : st.L.length ≤ 1000000000)
    (ab : Option Addr) (cb : Nat) (b : List UInt8) (gb : Reads w ab (bts b)) (gn : b.length = 256) (gc : 256 ≤ cb) (gm : cb ≤ 140737488355328) (hab : ∀ k, k ∈ blk ab → k ∉ DF db g fa cf ∧ k < w.heap.size) :
    Calls Tryz.prog 108 #[.pointer (some ⟨db, 0, none⟩), .func (.func 109) #[.agg #[.pointer (some ⟨db, 0, none⟩), .int .i64 A, .slice ab 256 cb]] #[]] w fun e w' => e = .returned (.int .i64 0) ∧ ∃ fa' cf', DevAt w' B db g fa' cf' { (burn st).2 with L := (burn st).2.L ++ flies A b 4 } ∧ Chg (DF db g fa cf) w w' ∧ Later w fa cf fa' cf' := by
  obtain ⟨h1, h2⟩ := burn_not st hb
  rw [h2]
  have c3 := h.c3
  have f3 := h.fz 3 (by decide)
  have hlf := h.lft
  have key : ∀ v : Nat, v < 9223372036854775808 → Calls Tryz.prog 109 #[.agg #[.pointer (some ⟨db, 0, none⟩), .int .i64 A, .slice ab 256 cb]] (w.setCell ⟨db, 3, none⟩ (.int .i64 v)) fun e w' => e = .returned (.tuple #[]) ∧ ∃ fa' cf', DevAt w' B db g fa' cf' { st with left := v, L := st.L ++ flies A b 4 } ∧ Chg (DF db g fa cf) w w' ∧ Later w fa cf fa' cf' := by
    intro v hv
    have hg : Chg [db] w (w.setCell ⟨db, 3, none⟩ (.int .i64 v)) := Chg.setCell w ⟨db, 3, none⟩ _
    refine (send_any A B db g fa cf _ _ (h.left v hv) hA hA2 (by simpa using hB) hLb ab cb b (gb.chg hg (fun k hk => by have := (hab k hk).1; simp [DF] at this ⊢; exact this.1)) gn gc gm (fun k hk => ⟨(hab k hk).1, by simpa using (hab k hk).2⟩)).mono ?_
    rintro e w3 ⟨rfl, fa', cf', h3, hg3, hl3⟩
    exact ⟨rfl, fa', cf', h3, hg.trans hg3 (fun k hk _ => by simp at hk; simp [DF, hk]) (fun _ h _ => h), fun k hk => (hl3 k hk).imp id (fun hx => by simpa using hx)⟩
  by_cases h0 : st.left = 0
  · rw [h0] at c3
    have e1 : st.left - 1 = 0 := by omega
    rw [e1]
    go_enter Tryz.func108, Tryz.ntmps108
    go_wp2_with (first | (go_at_call 109; refine (key 0 (by decide)).mono ?_; rintro e w3 ⟨rfl, fa', cf', h3, hg3, hl3⟩))
    go_ret
    exact ⟨rfl, fa', cf', h3, hg3, hl3⟩
  · obtain ⟨k, hk⟩ : ∃ k, st.left = k + 1 := ⟨st.left - 1, by omega⟩
    have e1 : st.left - 1 = k := by omega
    rw [e1]
    have hk1 : (((k + 1 : Nat) : Int) == 1) = false := by simp; omega
    have w1 : IntKind.i64.wrap (((k + 1 : Nat) : Int) - 1) = (k : Int) := by rw [IntKind.wrap_i64]; omega
    rw [hk] at c3
    have hd : decide ((k : Int) < 0) = false := by simp
    have hkb : k < 9223372036854775808 := by omega
    go_enter Tryz.func108, Tryz.ntmps108
    go_wp2_with (first | (go_at_call 109; refine (key k hkb).mono ?_; rintro e w3 ⟨rfl, fa', cf', h3, hg3, hl3⟩))
    go_ret
    exact ⟨rfl, fa', cf', h3, hg3, hl3⟩
theorem dwrite_any (z : Int) (B db : Nat) (g : DG) (fa : Option Addr) (cf : Nat) (st : RS) (w : World) (h : DevAt w B db g fa cf st) (hW : Whole st) (hB : B ≤ w.heap.size) (hLb : st.L.length ≤ 1000000000)
    (ab : Option Addr) (nb cb : Nat) (b : List UInt8) (gb : Reads w ab (bts b)) (gn : b.length = nb) (gc : nb ≤ cb) (gm : cb ≤ 140737488355328) (hab : ∀ k, k ∈ blk ab → k ∉ DF db g fa cf ∧ k < w.heap.size) :
    Calls Tryz.prog 41 #[.pointer (some ⟨db, 0, none⟩), .int .i64 z, .slice ab nb cb] w fun e w' => e = .returned (.int .i64 (write st z b).1) ∧ ∃ fa' cf', DevAt w' B db g fa' cf' (write st z b).2 ∧ Chg (DF db g fa cf) w w' ∧ Later w fa cf fa' cf' := by
  have hnone : ∀ {st' : RS}, DevAt w B db g fa cf st' → ∃ fa' cf', DevAt w B db g fa' cf' st' ∧ Chg (DF db g fa cf) w w ∧ Later w fa cf fa' cf' := fun h' => ⟨fa, cf, h', Chg.refl _ _, fun k hk => Or.inl hk⟩
  unfold write
  by_cases hw0 : whyN st z = 0
  · rw [if_neg (by simp [hw0])]
    have hat : 0 ≤ z ∧ z < st.count := by
      unfold whyN at hw0
      split at hw0
      · omega
      · split at hw0
        · omega
        · omega
    obtain ⟨A, rfl⟩ := Int.eq_ofNat_of_zero_le hat.1
    by_cases hb256 : nb = 256
    · rw [if_neg (by omega)]
      have Hw := mkHid hw0
      subst hb256
      have hA : 4 * A + 4 ≤ st.S.length := by have := hW.1; omega
      have hA2 : A ≤ 1023 := by have := hW.2; omega
      clear hw0
      cases hb : (burn st).1
      · simp only [Bool.false_eq_true, if_false]
        go_enter Tryz.func41, Tryz.ntmps41
        go_wp2_with (first | (go_at_call 107; refine (asked_any _ B db g fa cf st w h hW).mono ?_; rw [Hw.out]; rintro e w' ⟨rfl, rfl⟩) | (go_at_call 108; refine (fused_send A B db g fa cf st w h hb hA hA2 hB hLb ab cb b gb gn gc gm hab).mono ?_; rintro e w3 ⟨rfl, fa', cf', h3, hg3, hl3⟩))
        go_ret
        exact ⟨rfl, fa', cf', h3, hg3, hl3⟩
      · simp only [if_true]
        go_enter Tryz.func41, Tryz.ntmps41
        go_wp2_with (first | (go_at_call 107; refine (asked_any _ B db g fa cf st w h hW).mono ?_; rw [Hw.out]; rintro e w' ⟨rfl, rfl⟩) | (go_at_call 108; refine (fused_burns _ B db g fa cf st w h hb).mono ?_; rintro e w3 ⟨rfl, h3, hg3⟩))
        go_ret
        exact ⟨rfl, fa, cf, h3, hg3.mono (fun k hk _ => by simp at hk; simp [DF, hk]), fun k hk => Or.inl hk⟩
    · rw [if_pos (by omega)]
      have Hw := mkHid hw0
      have e1 : ((nb : Int) != 256) = true := by simp; omega
      go_enter Tryz.func41, Tryz.ntmps41
      go_wp2_with (first | (go_at_call 107; refine (asked_any _ B db g fa cf st w h hW).mono ?_; rw [Hw.out]; rintro e w' ⟨rfl, rfl⟩))
      go_ret
      exact ⟨rfl, hnone h⟩
  · rw [if_pos hw0]
    have e1 : (whyN st z != 0) = true := by simpa using hw0
    go_enter Tryz.func41, Tryz.ntmps41
    go_wp2_with (first | (go_at_call 107; refine (asked_any _ B db g fa cf st w h hW).mono ?_; rintro e w' ⟨rfl, rfl⟩))
    go_ret
    exact ⟨rfl, hnone h⟩
theorem dread_no (z : Int) (B db : Nat) (g : DG) (fa : Option Addr) (cf : Nat) (st : RS) (w : World) (h : DevAt w B db g fa cf st) (hW : Whole st) (hw : whyN st z ≠ 0) :
    Calls Tryz.prog 47 #[.pointer (some ⟨db, 0, none⟩), .int .i64 z] w fun e w' => e = .returned (.tuple #[.slice none 0 0, .int .i64 (whyN st z)]) ∧ w = w' := by
  have e1 : (whyN st z != 0) = true := by simpa using hw
  go_enter Tryz.func47, Tryz.ntmps47
  go_wp2_with (first | (go_at_call 107; refine (asked_any _ B db g fa cf st w h hW).mono ?_; rintro e w' ⟨rfl, rfl⟩))
  go_ret2
  exact ⟨rfl, rfl⟩
theorem cur_len (st : RS) (s : Nat) (hs : s < st.S.length) (hS : ∀ l ∈ st.S, l.length = 64) (hL : ∀ f ∈ st.L, f.2.length = 64) : (cur st s).length = 64 := by
  unfold cur
  rcases newOf_parts st.L s with ⟨_, hl⟩ | ⟨n, l, _, hn, hl⟩
  · rw [hl, List.getD_eq_getElem?_getD, List.getElem?_eq_getElem hs]
    exact hS _ (List.getElem_mem hs)
  · rw [hl]
    exact hL _ (List.mem_of_getElem? hn)
theorem reads_len (st : RS) (A n : Nat) (hs : 4 * A + n ≤ st.S.length) (hS : ∀ l ∈ st.S, l.length = 64) (hL : ∀ f ∈ st.L, f.2.length = 64) : (reads st A n).length = 64 * n := by
  induction n with
  | zero => rfl
  | succ n ih =>
    rw [reads_succ, List.length_append, ih (by omega), cur_len st _ (by omega) hS hL]
    omega
theorem bts_rep (n : Nat) : bts (List.replicate n 0) = List.replicate n (.int .u8 0) := by simp [bts]
theorem seen_as (z : Int) (s : Nat) (hz : z = s) (B db : Nat) (g : DG) (fa : Option Addr) (cf : Nat) (st : RS) (w : World) (h : DevAt w B db g fa cf st) (hs : s < st.S.length) :
    Calls Tryz.prog 114 #[.pointer (some ⟨db, 0, none⟩), .int .i64 z] w fun e w' => ∃ ao c, e = .returned (.slice ao 64 c) ∧ Reads w ao (bts (cur st s)) ∧ w = w' := by
  rw [hz]
  exact seen_any s B db g fa cf st w h hs
set_option maxHeartbeats 1000000 in
theorem dread_at (A : Nat) (B db : Nat) (g : DG) (fa : Option Addr) (cf : Nat) (st : RS) (w : World) (h : DevAt w B db g fa cf st) (hW : Whole st) (hw : whyN st A = 0) :
    Calls Tryz.prog 47 #[.pointer (some ⟨db, 0, none⟩), .int .i64 A] w fun e w' => ∃ rb, e = .returned (.tuple #[.slice (some ⟨rb, 0, none⟩) 256 256, .int .i64 0]) ∧ Room w' w.heap.size (some ⟨rb, 0, none⟩) 256 256 (bts (reads st A 4)) ∧ Chg [] w w' := by
  have hA : A < st.count := by
    unfold whyN at hw
    split at hw
    · omega
    · split at hw
      · omega
      · omega
  have Hw := mkHid hw
  have hcn := hW.2
  have hsz := hW.1
  have hml : maxLen = 9223372036854775807 := rfl
  have hmk : ∀ u : World, (Instr.makeSlice 41 (.int .i64 256) (.int .i64 256)).run Tryz.prog u = .ok (.slice (some ⟨u.heap.size, 0, none⟩) 256 256) (u.alloc (.cells (madeCells #[.int .u8 0] 256) 5)) := hmk 256 (by decide)
  clear hw
  go_enter Tryz.func47, Tryz.ntmps47
  go_wp2_with (first | (go_at_call 107; refine (asked_any _ B db g fa cf st w h hW).mono ?_; rw [Hw.out]; rintro e w' ⟨rfl, rfl⟩))
  have hr0 : Room (w.alloc (.cells (madeCells #[.int .u8 0] 256) 5)) w.heap.size (some ⟨w.heap.size, 0, none⟩) 256 256 (bts (List.replicate 256 0)) := by
    rw [bts_rep]
    exact made_room w 5 (.int .u8 0) 256 (by decide)
  have hg0 : Chg [] w (w.alloc (.cells (madeCells #[.int .u8 0] 256) 5)) := Chg.alloc [] w _
  generalize w.alloc (.cells (madeCells #[.int .u8 0] 256) 5) = w0 at hr0 hg0 ⊢
  obtain ⟨nb, hnb⟩ : ∃ nb, nb = w.heap.size := ⟨_, rfl⟩
  have Hnb := mkHid hnb
  have hr0' : Room w0 w.heap.size (some ⟨nb, 0, none⟩) 256 256 (bts (List.replicate 256 0)) := by rw [hnb]; exact hr0
  simp only [← hnb]
  clear hr0 hnb
  go_loopw [16] (fun i wr => ∃ (j : Nat), i = .int .i64 j ∧ j ≤ 4 ∧ Room wr w.heap.size (some ⟨nb, 0, none⟩) 256 256 (bts (reads st A j ++ List.replicate (256 - 64 * j) 0)) ∧ Chg [] w wr) (fun i _ => 4 - (Go.RowKit.intOf i).toNat)
  case atStart => exact ⟨0, rfl, by omega, by rw [show reads st A 0 = [] from rfl, List.nil_append, Nat.mul_zero, Nat.sub_zero]; exact hr0', hg0⟩
  case round =>
    obtain ⟨j, rfl, hj, hr, hc⟩ := hrel
    have h1 := h.keep hc
    by_cases hlt : j < 4
    · obtain ⟨s, hs⟩ : ∃ s, s = 4 * A + j := ⟨_, rfl⟩
      have hsS : s < st.S.length := by omega
      have hcl := cur_len st s hsS h.lS (fun f hf => (h.lL f hf).1)
      have hrl := reads_len st A j (by omega) h.lS (fun f hf => (h.lL f hf).1)
      have hrs := reads_succ st A j
      rw [← hs] at hrs
      have Hcl := mkHid hcl
      have Hbl := mkHid (show (bts (cur st s)).length = 64 by rw [bts_length]; exact hcl)
      have Hrs := mkHid hrs
      have Hrl := mkHid hrl
      have He := mkHid (show (A : Int) * 4 + (j : Int) = (s : Int) by omega)
      have hA3 : A ≤ 1023 := by omega
      have hd : decide ((j : Int) < 4) = true := decide_eq_true (by omega)
      have hth : wr.there nb (64 * j) 64 := by simpa using hr.there (64 * j) 64 (by omega)
      clear hcl hrs hrl hs
      go_wp2_with (first | (go_at_call 113; refine (sectorOf_any nb 0 256 256 j (by omega) (by decide) _).mono ?_; rintro e w' ⟨rfl, rfl⟩) | (go_at_call 114; refine (seen_as _ s He.out B db g fa cf st _ h1 hsS).mono ?_; rintro e w' ⟨ao, c, rfl, hrd, rfl⟩) | (refine wpList_copy_k rfl (.tmp 21) (.tmp 27) 41 41 5 rfl Tryz.underlying41 oneB nb (64 * j) 64 64 ao 64 c (bts (cur st s)) rfl rfl hrd Hbl.out (by rw [Hbl.out]; exact hth) (bts_one _) ?_))
      have hr2 := hr.sets (bts (cur st s)) (64 * j) (by rw [Hbl.out]; omega)
      have hc2 : Chg [] w (wr.setCells nb (64 * j) (bts (cur st s))) := hc.trans (Chg.setCells nb _ (64 * j) wr) (fun _ h _ => h) (fun k hk hlt => by simp at hk; have := Hnb.out; omega)
      refine ⟨⟨j + 1, by go_num, by omega, ?_, hc2⟩, by simp [Go.RowKit.intOf]; omega⟩
      rw [Hbl.out, bts_take, bts_drop, ← bts_append, ← bts_append, Nat.zero_add] at hr2
      have e1 : (reads st A j ++ List.replicate (256 - 64 * j) 0).take (64 * j) = reads st A j := by rw [← Hrl.out, List.take_left]
      have e2 : (reads st A j ++ List.replicate (256 - 64 * j) 0).drop (64 * j + 64) = List.replicate (256 - 64 * (j + 1)) 0 := by
        rw [← Hrl.out, List.drop_length_add_append, Hrl.out, List.drop_replicate]
        congr 1
      rw [e1, e2] at hr2
      rw [Hrs.out, List.append_assoc]
      exact hr2
    · have : j = 4 := by omega
      subst this
      rw [show 256 - 64 * 4 = 0 from rfl, List.replicate_zero, List.append_nil] at hr
      go_wp2_with fail
      go_ret2
      exact ⟨nb, rfl, hr, hc⟩
theorem dread_yes (A : Nat) (B db : Nat) (g : DG) (fa : Option Addr) (cf : Nat) (st : RS) (w : World) (h : DevAt w B db g fa cf st) (hW : Whole st) (hw : whyN st A = 0) :
    Calls Tryz.prog 47 #[.pointer (some ⟨db, 0, none⟩), .int .i64 A] w fun e w' => ∃ ao c, e = .returned (.tuple #[.slice ao 256 c, .int .i64 0]) ∧ Room w' w.heap.size ao 256 c (bts (reads st A 4)) ∧ Chg [] w w' := by
  refine (dread_at A B db g fa cf st w h hW hw).mono ?_
  rintro e w' ⟨rb, he, hr, hg⟩
  exact ⟨_, _, he, hr, hg⟩
end Go.Proofs.YtoeijomelabbfaaGreatDoor

/- The cache beside its disk: a block is written. -/
namespace Go.Proofs.YtoeijomelabbfaaGreatDoor
set_option maxRecDepth 200000
open Go.RowKit Go.Maps
set_option linter.unusedVariables false
set_option linter.unusedSimpArgs false
attribute [local go_sem ↓] Go.wp_at_zero Go.wp_at_succ

/-- One block of a list is told anew. -/
def updL (L : List Ent) (x : Ent) : List Ent := L.map (fun e => if e.b = x.b then x else e)
theorem updL_map {β : Type} (f : Ent → β) {L : List Ent} {x y : Ent} (hnd : (L.map Ent.b).Nodup) (hy : y ∈ L) (hb : x.b = y.b) (hf : f x = f y) : (updL L x).map f = L.map f := by
  unfold updL
  rw [List.map_map]
  refine List.map_congr_left fun e he => ?_
  show f (if e.b = x.b then x else e) = f e
  split
  · rename_i h
    rw [b_inj hnd he hy (h.trans hb), hf]
  · rfl
theorem set_updL {E : List Ent} (hnd : (E.map Ent.b).Nodup) {i : Nat} (hi : i < E.length) {x : Ent} (hb : x.b = E[i].b) : E.set i x = updL E x := by
  apply List.ext_getElem
  · simp [updL]
  · intro k h1 h2
    rw [List.length_set] at h1
    rw [List.getElem_set]
    simp only [updL, List.getElem_map]
    by_cases h : i = k
    · subst h
      rw [if_pos rfl, if_pos hb.symm]
    · rw [if_neg h, if_neg (fun e => h ((bs_inj hnd hi h1).2 (hb.symm.trans e.symm)))]
theorem CacheAt.upd {w w' : World} {B cb mb : Nat} {la : Option Addr} {cl : Nat} {E L : List Ent} {most uses db : Nat} (h : CacheAt w B cb mb la cl E L most uses db) {i : Nat} (hi : i < E.length) {x : Ent}
    (hb : x.b = E[i].b) (hp : x.pl = E[i].pl) (hu : x.used = E[i].used) (hl : x.bs.length = 256) (c : Chg [E[i].b] w w') (hx : Blk w' E[i].b 139 (entV x i)) :
    CacheAt w' B cb mb la cl (E.set i x) (updL L x) most uses db := by
  have hm := List.getElem_mem hi
  have hmL := h.pm.mem_iff.1 hm
  have hnL : (L.map Ent.b).Nodup := (h.pm.map _).nodup_iff.1 h.ln.nd
  have hcb : cb ∉ [E[i].b] := by simpa using fun e => h.ln.nc _ hm e.symm
  have hmb : mb ∉ [E[i].b] := by
    simp
    intro e
    exact h.mF (by simp only [LF, List.mem_cons, List.mem_append, List.mem_map]; exact Or.inr (Or.inr ⟨_, hm, e.symm⟩))
  obtain ⟨D, hD⟩ := h.hd
  have mu := updL_map Ent.used hnL hmL hb hu
  have mp := updL_map Ent.pl hnL hmL hb hp
  refine ⟨c.cellv h.c0 hcb, c.cellv h.c1 hcb, c.cellv h.c2 hcb, c.cellv h.c4 hcb, (c.frozen (p := ⟨cb, 4, none⟩) (block_lt_of_cell h.c4) hcb).trans h.f4, h.ln.upd hi hb hl c hx, ?_, ⟨D, (hD.chg c hmb).alike (set_alike hi (fun e => (e.pl, e.b)) (by simp [hb, hp]))⟩, by rw [set_updL h.ln.nd hi hb]; exact h.pm.map _, ?_, ?_, by rw [mp]; exact h.np, ?_, by simp [updL]; exact h.le, h.mo, fun hk => h.mF (LF_alike (by rw [set_alike hi Ent.b hb]) _ hk), h.mB⟩
  · intro k k0 kn
    rw [List.length_set] at kn
    rw [key_set hi x _ (by omega), key_set hi x _ kn]
    have hk : ∀ k, k < E.length → (if k = i then x.used else key E k) = key E k := fun k hk => by
      split
      · rename_i e
        subst e
        rw [hu, key_lt hk]
      · rfl
    rw [hk _ (by omega), hk _ kn]
    exact h.hp k k0 kn
  · have : ((updL L x).map Ent.used).Pairwise (· < ·) := by rw [mu]; exact List.pairwise_map.2 h.so
    exact List.pairwise_map.1 this
  · intro e he
    have : e.used ∈ L.map Ent.used := by rw [← mu]; exact List.mem_map.2 ⟨e, he, rfl⟩
    obtain ⟨e2, he2, heq⟩ := List.mem_map.1 this
    rw [← heq]
    exact h.us e2 he2
  · intro e he
    have : e.pl ∈ L.map Ent.pl := by rw [← mp]; exact List.mem_map.2 ⟨e, he, rfl⟩
    obtain ⟨e2, he2, heq⟩ := List.mem_map.1 this
    rw [← heq]
    exact h.pl e2 he2
def Ent.clean (e : Ent) : Ent := ⟨e.b, e.pl, e.bs, false, e.used⟩
/-- A block is written, if it is dirty: what is told, the disk behind it. -/
def wrote (e : Ent) (st : RS) : Int × RS := if e.dirty then write st e.pl e.bs else (0, st)
theorem cwrite_clean (i : Nat) (B cb mb : Nat) (la : Option Addr) (cl : Nat) (E L : List Ent) (most uses db : Nat) (w : World) (h : CacheAt w B cb mb la cl E L most uses db) (hi : i < E.length) (hd : E[i].dirty = false) :
    Calls Tryz.prog 161 #[.pointer (some ⟨cb, 0, none⟩), .pointer (some ⟨E[i].b, 0, none⟩)] w fun e w' => e = .returned (.int .i64 0) ∧ w = w' := by
  have u1 := (h.ln.e i hi).cell 257 _ (entV_dirty (h.ln.bl _ (List.getElem_mem hi)))
  rw [hd] at u1
  go_enter Tryz.func161, Tryz.ntmps161
  go_wp2
  go_ret
  exact ⟨rfl, rfl⟩
theorem DF_later {w : World} {db : Nat} {g : DG} {fa fa' : Option Addr} {cf cf' : Nat} (l : Later w fa cf fa' cf') : ∀ k, k ∈ DF db g fa' cf' → k ∈ DF db g fa cf ∨ w.heap.size ≤ k := by
  intro k hk
  simp only [DF, List.mem_cons] at hk ⊢
  rcases hk with hk | hk | hk | hk
  · exact Or.inl (Or.inl hk)
  · exact Or.inl (Or.inr (Or.inl hk))
  · exact Or.inl (Or.inr (Or.inr (Or.inl hk)))
  · exact (l k hk).imp (fun h => Or.inr (Or.inr (Or.inr h))) id
theorem cwrite_dirty (i : Nat) (B cb mb : Nat) (la : Option Addr) (cl : Nat) (E L : List Ent) (most uses db : Nat) (w : World) (h : CacheAt w B cb mb la cl E L most uses db) (hi : i < E.length) (hd : E[i].dirty = true)
    (g : DG) (fa : Option Addr) (cf : Nat) (st : RS) (hD : DevAt w B db g fa cf st) (hW : Whole st) (hB : B ≤ w.heap.size) (hLb : st.L.length ≤ 1000000000) (hx : ∀ k, k ∈ CF cb mb la cl E → k ∉ DF db g fa cf) :
    Calls Tryz.prog 161 #[.pointer (some ⟨cb, 0, none⟩), .pointer (some ⟨E[i].b, 0, none⟩)] w fun e w' => e = .returned (.int .i64 (write st E[i].pl E[i].bs).1) ∧ ∃ fa' cf', DevAt w' B db g fa' cf' (write st E[i].pl E[i].bs).2 ∧ Later w fa cf fa' cf' ∧
      Chg (E[i].b :: DF db g fa cf) w w' ∧ ((write st E[i].pl E[i].bs).1 ≠ 0 → CacheAt w' B cb mb la cl E L most uses db) ∧ ((write st E[i].pl E[i].bs).1 = 0 → CacheAt w' B cb mb la cl (E.set i E[i].clean) (updL L E[i].clean) most uses db) := by
  have hm := List.getElem_mem hi
  have hl := h.ln.bl _ hm
  have he := h.ln.e i hi
  have u1 := he.cell 257 _ (entV_dirty hl)
  have u0 := he.cell 0 _ (entV_pl _ _)
  rw [hd] at u1
  have c0 := h.c0
  have hbF : E[i].b ∉ DF db g fa cf := hx _ (by simp only [CF, LF, List.mem_cons, List.mem_append, List.mem_map]; exact Or.inr (Or.inr (Or.inr ⟨_, hm, rfl⟩)))
  have cW : ∀ u : World, Chg [] w u → Calls Tryz.prog 41 #[.pointer (some ⟨db, 0, none⟩), .int .i64 E[i].pl, .slice (some ⟨E[i].b, 1, none⟩) 256 256] u fun e w' => e = .returned (.int .i64 (write st E[i].pl E[i].bs).1) ∧ ∃ fa' cf', DevAt w' B db g fa' cf' (write st E[i].pl E[i].bs).2 ∧ Chg (DF db g fa cf) w w' ∧ Later w fa cf fa' cf' := by
    intro u hu
    have hrd : Reads u (some ⟨E[i].b, 1, none⟩) (bts E[i].bs) := fun _ => ⟨E[i].b, 1, rfl, fun j v hv => hu.cellv (he.cell (1 + j) v (entV_bs hl j v hv)) (by simp)⟩
    refine (dwrite_any E[i].pl B db g fa cf st u (hD.keep hu) hW (Nat.le_trans hB hu.size) hLb (some ⟨E[i].b, 1, none⟩) 256 256 E[i].bs hrd hl (Nat.le_refl _) (by decide) (fun k hk => by simp [blk] at hk; rw [hk]; exact ⟨hbF, Nat.lt_of_lt_of_le he.lt hu.size⟩)).mono ?_
    rintro e w' ⟨he, fa', cf', h3, g3, l3⟩
    exact ⟨he, fa', cf', h3, hu.trans g3 (by simp) (fun _ h _ => h), fun k hk => (l3 k hk).imp id (fun h9 => Nat.le_trans hu.size h9)⟩
  have hcl : ∀ w3 : World, Chg (DF db g fa cf) w w3 → Chg (E[i].b :: DF db g fa cf) w w3 := fun w3 g3 => g3.mono (fun k hk _ => List.mem_cons_of_mem _ hk)
  by_cases hv : (write st E[i].pl E[i].bs).1 = 0
  · rw [hv] at cW
    have CW := mkHid cW
    clear cW
    go_enter Tryz.func161, Tryz.ntmps161
    go_wp2
    go_region_with (first | (go_at_call 41; refine (CW.out _ (by first | exact Chg.refl _ _ | exact Chg.drew _ _ | exact Chg.drewN _ _)).mono ?_; rintro e w3 ⟨rfl, fa', cf', h3, g3, l3⟩))
    all_goals
      have k3 := h.chg g3 hx
      have he3 := he.chg g3 hbF
      have u3 := he3.cell 257 _ (entV_dirty hl)
      have f3 := he3.frozen 257
      go_wp2
      go_ret
      have g4 : Chg [E[i].b] w3 (w3.setCell ⟨E[i].b, 257, none⟩ (.bool false)) := Chg.setCell w3 ⟨E[i].b, 257, none⟩ _
      have hx4 := he3.set1 257 (.bool false)
      rw [entV_setDirty hl] at hx4
      exact ⟨by rw [hv]; rfl, fa', cf', h3.chg g4 (fun k hk => by
          simp
          rintro rfl
          have := DF_later l3 _ hk
          rcases this with h9 | h9
          · exact hbF h9
          · have := he.lt; omega), l3, g3.trans g4 (fun k hk _ => List.mem_cons_of_mem _ hk) (fun k hk _ => by simp at hk; simp [hk]), fun h9 => absurd hv h9, fun _ => k3.upd hi rfl rfl rfl hl g4 hx4⟩
  · have hv2 : ((write st E[i].pl E[i].bs).1 != 0) = true := by simpa using hv
    have HV := mkHid hv
    have CW := mkHid cW
    clear cW hv
    go_enter Tryz.func161, Tryz.ntmps161
    go_wp2
    go_region_with (first | (go_at_call 41; refine (CW.out _ (by first | exact Chg.refl _ _ | exact Chg.drew _ _ | exact Chg.drewN _ _)).mono ?_; rintro e w3 ⟨rfl, fa', cf', h3, g3, l3⟩))
    all_goals
      have k3 := h.chg g3 hx
      go_wp2
      go_ret
      exact ⟨rfl, fa', cf', h3, l3, hcl _ g3, fun _ => k3, fun h9 => absurd h9 HV.out⟩
end Go.Proofs.YtoeijomelabbfaaGreatDoor

/- The cache beside its disk: one block goes, one comes. -/
namespace Go.Proofs.YtoeijomelabbfaaGreatDoor
set_option maxRecDepth 200000
open Go.RowKit Go.Maps
set_option linter.unusedVariables false
set_option linter.unusedSimpArgs false
attribute [local go_sem ↓] Go.wp_at_zero Go.wp_at_succ

/-! ### the map -/
theorem tight {w : World} {P : Program} {k : TypeId} {R : Value → Option (DataW Unit × List MemPlace)} {b n : Nat} {D : DataW Unit} (h : w.ownsMap P k R b n D) : w.ownsMap P k R b (Maps.size D) D := by
  obtain ⟨es, clock, hb, F, hs, rfl⟩ := h
  exact ⟨es, clock, hb, F, by simp [Maps.size, length_sorted], rfl⟩
theorem keyI (a : Nat) (ha : a < 1024) : keyOf Tryz.prog 3 (.int .i64 (a : Int)) = some (.int .i64 (a : Int)) := keyOf_int_mk Tryz.underlying3 (WalkArith.wf_i64 (by omega))
theorem isKey (a : Nat) (ha : a < 1024) : WideAt.IsKeyLit (.int .i64 (a : Int)) := trivial
theorem HeldAt.del {w w' : World} {mb : Nat} {E T : List Ent} {x : Ent} {D : DataW Unit} (h : HeldAt w mb E D) (p : E.Perm (x :: T)) (hn : ∀ e ∈ T, e.pl ≠ x.pl) (ho : w'.ownsMap Tryz.prog 3 ptrR mb E.length (D.del (.int .i64 x.pl))) : HeldAt w' mb T (D.del (.int .i64 x.pl)) := by
  have hx : Maps.has D (.int .i64 x.pl) = true := (h.y x (p.mem_iff.2 (by simp))).1
  have hs : Maps.size (D.del (.int .i64 x.pl)) = T.length := by
    have h1 := size_del (k := .int .i64 x.pl) (h.o.tidy (int_keyed Tryz.underlying3))
    rw [hx] at h1
    have h2 := h.s
    have h3 := p.length_eq
    simp at h1 h3
    omega
  have ho2 := tight ho
  rw [hs] at ho2
  refine ⟨ho2, hs, fun e he => ?_, fun z hz => ?_⟩
  · have hne : (Lit.int .i64 (e.pl : Int)) ≠ .int .i64 (x.pl : Int) := by
      intro h9
      simp at h9
      exact hn e he (by omega)
    have h1 := h.y e (p.mem_iff.2 (List.mem_cons_of_mem _ he))
    rw [has_del_other hne, atKey_del_other hne]
    exact h1
  · by_cases hzx : z = (x.pl : Int)
    · rw [hzx]; exact has_del_same
    · have hne : (Lit.int .i64 z) ≠ .int .i64 (x.pl : Int) := by simpa using hzx
      rw [has_del_other hne]
      refine h.n z fun e he => ?_
      rcases List.mem_cons.1 (p.mem_iff.1 he) with rfl | he
      · exact fun h9 => hzx h9.symm
      · exact hz e he
theorem HeldAt.put {w w' : World} {mb : Nat} {E : List Ent} {x : Ent} {D : DataW Unit} (h : HeldAt w mb E D) (hx : x.pl < 1024) (hn : ∀ e ∈ E, e.pl ≠ x.pl) (ho : w'.ownsMap Tryz.prog 3 ptrR mb (E.length + 1) (D.put (.int .i64 x.pl) (.lit (.int .u64 x.b)))) : HeldAt w' mb (E ++ [x]) (D.put (.int .i64 x.pl) (.lit (.int .u64 x.b))) := by
  have hhas : Maps.has D (.int .i64 x.pl) = false := h.n x.pl fun e he h9 => hn e he (by omega)
  have hs : Maps.size (D.put (.int .i64 x.pl) (.lit (.int .u64 x.b))) = (E ++ [x]).length := by
    rw [size_put (h.o.tidy (int_keyed Tryz.underlying3)), hhas, h.s]
    simp
  refine ⟨by rw [← hs]; exact tight ho, hs, fun e he => ?_, fun z hz => ?_⟩
  · rcases List.mem_append.1 he with he | he
    · have hne : (Lit.int .i64 (e.pl : Int)) ≠ .int .i64 (x.pl : Int) := by
        intro h9
        simp at h9
        exact hn e he (by omega)
      rw [has_put_other hne, atKey_put_other hne]
      exact h.y e he
    · simp at he
      subst he
      exact ⟨has_put_same h.o.isMap (isKey _ hx) _, atKey_put_same h.o.isMap (isKey _ hx) _ _⟩
  · have hzx : z ≠ (x.pl : Int) := fun h9 => hz x (by simp) h9.symm
    have hne : (Lit.int .i64 z) ≠ .int .i64 (x.pl : Int) := by simpa using hzx
    rw [has_put_other hne]
    exact h.n z fun e he => hz e (by simp [he])
theorem grown_chg {w w' : World} {b : Nat} (h : w.mapTurned w' b) : Chg [b] w w' := by simpa using Chg.grown h.grown
section
variable {P : Program} {ops : Array Oper} {rest : List Oper} {o : Oper} {a : Act} {w : World} {K : Act → World → Prop} {Q : Exit → Act → World → Prop} {X : Prop}
theorem step_delete (hg : o.guard = none) (m x : Operand) (t k : TypeId) (hop : o.op = Op.call { callee := Callee.builtin Builtin.delete, args := #[m, x], argTypes := #[t, k] })
    (e : TypeId) (Kd : Keyed P k) (ht : P.underlying t = some (.map k e)) (R : Value → Option (DataW Unit × List MemPlace)) (b n : Nat) (D : DataW Unit)
    (hm : a.eval m = .map (some b)) (hown : w.ownsMap P k R b n D) (kv : Value) (kl : Lit) (hx : a.eval x = kv) (hkey : keyOf P k kv = some kl)
    (hK : ∀ w', w'.ownsMap P k R b n (D.del kl) → w.mapTurned w' b → K (a.put o.dst (.tuple #[])) w') :
    if Region.wanted o (yielded ops a.tmps) = true then Oper.wp P o a w K Q else X := by
  have hw : Region.wanted o (yielded ops a.tmps) = true := by simp [Region.wanted, hg]
  rw [if_pos hw]
  obtain ⟨w', hrun, r1, r2⟩ := hown.drop Kd ht hkey o.type
  unfold Oper.wp execOp
  simp only [hop, resolve, invoke, builtin, Sem.run_bind, Sem.run_pure, Result.andThen_ok, List.map_toArray, List.map_cons, List.map_nil, hm, hx, hrun]
  exact hK _ r1 r2
theorem step_len (hg : o.guard = none) (m : Operand) (t : TypeId) (hop : o.op = Op.call { callee := Callee.builtin Builtin.len, args := #[m], argTypes := #[t] })
    (k e : TypeId) (ht : P.underlying t = some (.map k e)) (R : Value → Option (DataW Unit × List MemPlace)) (b n : Nat) (D : DataW Unit) (hm : a.eval m = .map (some b)) (hown : w.ownsMap P k R b n D)
    (hK : K (a.put o.dst (.int .i64 (Maps.size D))) w) : if Region.wanted o (yielded ops a.tmps) = true then Oper.wp P o a w K Q else X := by
  have hw : Region.wanted o (yielded ops a.tmps) = true := by simp [Region.wanted, hg]
  rw [if_pos hw]
  unfold Oper.wp execOp
  simp only [hop, resolve, invoke, builtin, Sem.run_bind, Sem.run_pure, Result.andThen_ok, List.map_toArray, List.map_cons, List.map_nil, hm, hown.len ht o.type]
  exact hK
end
/-- The least used block is the line's top. -/
theorem CacheAt.top {w : World} {B cb mb : Nat} {la : Option Addr} {cl : Nat} {E L : List Ent} {most uses db : Nat} (h : CacheAt w B cb mb la cl E L most uses db) (h0 : 0 < E.length) : ∃ T, L = E[0] :: T := by
  cases L with
  | nil => have := h.pm.length_eq; simp at this; rw [this] at h0; simp at h0
  | cons x T =>
    have hx : x ∈ E := h.pm.mem_iff.2 (by simp)
    have h0L : E[0] ∈ x :: T := h.pm.mem_iff.1 (List.getElem_mem h0)
    rcases List.mem_cons.1 h0L with e | he
    · exact ⟨T, by rw [e]⟩
    · have h1 := (List.pairwise_cons.1 h.so).1 _ he
      obtain ⟨i, hi, hix⟩ := List.getElem_of_mem hx
      have h2 := heap_top h.hp i hi
      rw [key_lt h0, key_lt hi, hix] at h2
      omega
end Go.Proofs.YtoeijomelabbfaaGreatDoor

/- The cache beside its disk: the block goes that was used the longest ago. -/
namespace Go.Proofs.YtoeijomelabbfaaGreatDoor
set_option maxRecDepth 200000
open Go.RowKit Go.Maps
set_option linter.unusedVariables false
set_option linter.unusedSimpArgs false
attribute [local go_sem ↓] Go.wp_at_zero Go.wp_at_succ

theorem CacheAt.gone {w w3 w4 : World} {B cb mb : Nat} {la : Option Addr} {cl : Nat} {E : List Ent} {most uses db : Nat} {x : Ent} {T : List Ent} (h : CacheAt w B cb mb la cl E (x :: T) most uses db) {F : List Ent} (h4 : LineAt w3 B cb la cl F) (p4 : (F ++ [x]).Perm E) (H4 : Heap F F.length) (g4 : Chg (LF cb la cl E) w w3) (q4 : Only3 cb w w3)
    {D : DataW Unit} (hD : HeldAt w mb E D) (ho : w4.ownsMap Tryz.prog 3 ptrR mb E.length (D.del (.int .i64 x.pl))) (g5 : Chg [mb] w3 w4) : CacheAt w4 B cb mb la cl F T most uses db ∧ Chg (CF cb mb la cl E) w w4 ∧ ∀ k, k ∈ LF cb la cl F → k ∈ LF cb la cl E := by
  have hpE : E.Perm (x :: T) := h.pm
  have hFT : F.Perm T := by
    have h1 : (x :: F).Perm (x :: T) := ((List.perm_append_comm (l₁ := F) (l₂ := [x])).symm.trans p4).trans hpE
    exact h1.cons_inv
  have hsub : ∀ e ∈ F, e ∈ E := fun e he => p4.mem_iff.1 (List.mem_append_left _ he)
  have hLF : ∀ k, k ∈ LF cb la cl F → k ∈ LF cb la cl E := fun k hk => by
    simp only [LF, List.mem_cons, List.mem_append, List.mem_map] at hk ⊢
    rcases hk with hk | hk | ⟨e, he, e2⟩
    · exact Or.inl hk
    · exact Or.inr (Or.inl hk)
    · exact Or.inr (Or.inr ⟨e, hsub e he, e2⟩)
  have hcm : cb ∉ [mb] := by
    simp
    intro e
    exact h.mF (by rw [← e]; simp [LF])
  have hnp := h.np
  rw [List.map_cons, List.nodup_cons] at hnp
  have hln := h4.chg g5 (fun k hk => by simp; rintro rfl; exact h.mF (hLF _ hk))
  refine ⟨⟨g5.cellv ((q4 0 (by decide)).1.trans h.c0) hcm, g5.cellv ((q4 1 (by decide)).1.trans h.c1) hcm, g5.cellv ((q4 2 (by decide)).1.trans h.c2) hcm, g5.cellv ((q4 4 (by decide)).1.trans h.c4) hcm, (g5.frozen (p := ⟨cb, 4, none⟩) (show cb < w3.heap.size from block_lt_of_cell h4.c3) hcm).trans ((q4 4 (by decide)).2.trans h.f4), hln, H4, ⟨_, (hD.del hpE (fun e he h9 => hnp.1 (List.mem_map.2 ⟨e, he, h9⟩)) ho).perm hFT⟩, hFT, (List.pairwise_cons.1 h.so).2, fun e he => h.us e (List.mem_cons_of_mem _ he), hnp.2, fun e he => h.pl e (List.mem_cons_of_mem _ he), by have := h.le; simp at this; omega, h.mo, fun hk => h.mF (hLF _ hk), h.mB⟩, ?_, hLF⟩
  exact g4.trans g5 (fun k hk _ => by simp [CF, hk]) (fun k hk _ => by simp at hk; simp [CF, hk])
theorem updL_tail {x : Ent} {T : List Ent} (hnd : ((x :: T).map Ent.b).Nodup) (y : Ent) (hy : y.b = x.b) : updL (x :: T) y = y :: T := by
  unfold updL
  rw [List.map_cons, if_pos hy.symm]
  congr 1
  rw [List.map_cons, List.nodup_cons] at hnd
  refine (List.map_congr_left fun e he => ?_).trans (List.map_id T)
  rw [if_neg (fun h9 => hnd.1 (List.mem_map.2 ⟨e, he, h9.trans hy⟩))]
  rfl
theorem pop_clean {B cb mb : Nat} {la : Option Addr} {cl : Nat} {E : List Ent} {most uses db : Nat} {x : Ent} {T : List Ent} {w2 : World} (h0 : 0 < E.length) (hnd : ((x :: T).map Ent.b).Nodup) (k : CacheAt w2 B cb mb la cl (E.set 0 x.clean) (updL (x :: T) x.clean) most uses db) :
    CacheAt w2 B cb mb la cl (E.set 0 x.clean) (x.clean :: T) most uses db ∧ Calls Tryz.prog 175 #[.iface 191 (.pointer (some ⟨cb, 3, none⟩))] w2 fun e w' => e = .returned (.iface 128 (.pointer (some ⟨x.b, 0, none⟩))) ∧ ∃ F, LineAt w' B cb la cl F ∧ (F ++ [x.clean]).Perm (E.set 0 x.clean) ∧ Heap F F.length ∧ Blk w' x.b 139 (entV x.clean F.length) ∧ Chg (LF cb la cl (E.set 0 x.clean)) w2 w' ∧ Only3 cb w2 w' := by
  rw [updL_tail hnd x.clean rfl] at k
  have h02 : 0 < (E.set 0 x.clean).length := by rw [List.length_set]; exact h0
  have hx02 : (E.set 0 x.clean)[0] = x.clean := by rw [List.getElem_set, if_pos rfl]
  have cp := hpop_any B cb _ cl (E.set 0 x.clean) w2 k.ln h02 k.hp
  rw [hx02] at cp
  exact ⟨k, cp⟩
section
variable (B cb mb : Nat) (la : Option Addr) (cl : Nat) (E : List Ent) (most uses db : Nat) (w : World) (x : Ent) (T : List Ent) (h : CacheAt w B cb mb la cl E (x :: T) most uses db)
include h
theorem cletgo_clean (hd : x.dirty = false) :
    Calls Tryz.prog 142 #[.pointer (some ⟨cb, 0, none⟩)] w fun e w' => e = .returned (.int .i64 0) ∧ ∃ F, CacheAt w' B cb mb la cl F T most uses db ∧ Chg (CF cb mb la cl E) w w' ∧ ∀ k, k ∈ LF cb la cl F → k ∈ LF cb la cl E := by
  have hlen : E.length = T.length + 1 := by have := h.pm.length_eq; simpa using this
  have h0 : 0 < E.length := by omega
  have hx0 : E[0] = x := by
    obtain ⟨T2, e⟩ := h.top h0
    simp at e
    exact e.1.symm
  obtain ⟨lb, lo, hla, hc, hlb⟩ := h.ln.cell h0
  subst hla
  have c00 := (hc 0 h0).1
  rw [Nat.add_zero] at c00
  unfold ptrV at c00
  have c3 := h.ln.c3
  have c2 := h.c2
  obtain ⟨D, hD⟩ := h.hd
  have cw := cwrite_clean 0 B cb mb _ cl E _ most uses db w h h0 (by rw [hx0]; exact hd)
  have cp := hpop_any B cb _ cl E w h.ln h0 h.hp
  rw [hx0] at c00 cw cp
  have HX := mkHid hx0
  have HL := mkHid hlen
  have ta := assert_block ⟨x.b, 0, none⟩
  have h0n : decide ((0 : Int) < E.length) = true := decide_eq_true (by omega)
  clear hc hx0 hlen
  go_enter Tryz.func142, Tryz.ntmps142
  go_wp2_with (first | (go_at_call 161; refine cw.mono ?_; rintro e w2 ⟨rfl, rfl⟩) | (go_at_call 175; refine cp.mono ?_; rintro e w3 ⟨rfl, F, h4, p4, H4, b4, g4, q4⟩))
  have c23 := (q4 2 (by decide)).1.trans c2
  have xat := b4.cell 0 _ (entV_pl x F.length)
  have hO3 := (hD.chg g4 h.mF).o
  have hxp : x.pl < 1024 := h.pl x (by simp)
  go_region_law (refine step_delete rfl (.tmp 25) (.tmp 29) 130 3 rfl 128 (int_keyed Tryz.underlying3) Tryz.underlying130 ptrR mb E.length D rfl (by first | exact hO3 | exact hO3.drew | exact hO3.drew.drew) _ (.int .i64 x.pl) rfl (keyI x.pl hxp) ?_; intro w4 ho4 hm4)
  all_goals
    go_wp2
    go_ret
    obtain ⟨r1, r2, r3⟩ := h.gone h4 p4 H4 g4 q4 hD ho4 ((Chg.drew [mb] w3).trans (grown_chg hm4) (fun _ h _ => h) (fun _ h _ => h))
    exact ⟨rfl, F, r1, r2, r3⟩
set_option maxHeartbeats 1000000 in
theorem cletgo_dirty (hd : x.dirty = true) (g : DG) (fa : Option Addr) (cf : Nat) (st : RS) (hDv : DevAt w B db g fa cf st) (hW : Whole st) (hB : B ≤ w.heap.size) (hLb : st.L.length ≤ 1000000000) (hx : ∀ k, k ∈ CF cb mb la cl E → k ∉ DF db g fa cf) :
    Calls Tryz.prog 142 #[.pointer (some ⟨cb, 0, none⟩)] w fun e w' => e = .returned (.int .i64 (write st x.pl x.bs).1) ∧ ∃ fa' cf', DevAt w' B db g fa' cf' (write st x.pl x.bs).2 ∧ Later w fa cf fa' cf' ∧ Chg (CF cb mb la cl E ++ DF db g fa cf) w w' ∧
      ((write st x.pl x.bs).1 ≠ 0 → CacheAt w' B cb mb la cl E (x :: T) most uses db) ∧ ((write st x.pl x.bs).1 = 0 → ∃ F, CacheAt w' B cb mb la cl F T most uses db ∧ ∀ k, k ∈ LF cb la cl F → k ∈ LF cb la cl E) := by
  have hlen : E.length = T.length + 1 := by have := h.pm.length_eq; simpa using this
  have h0 : 0 < E.length := by omega
  have hx0 : E[0] = x := by
    obtain ⟨T2, e⟩ := h.top h0
    simp at e
    exact e.1.symm
  have hxF : x.b ∈ CF cb mb la cl E := by
    rw [← hx0]
    simp only [CF, LF, List.mem_cons, List.mem_append, List.mem_map]
    exact Or.inr (Or.inr (Or.inr ⟨_, List.getElem_mem h0, rfl⟩))
  obtain ⟨lb, lo, hla, hc, hlb⟩ := h.ln.cell h0
  subst hla
  have c00 := (hc 0 h0).1
  rw [Nat.add_zero] at c00
  unfold ptrV at c00
  have c3 := h.ln.c3
  have cw := cwrite_dirty 0 B cb mb _ cl E _ most uses db w h h0 (by rw [hx0]; exact hd) g fa cf st hDv hW hB hLb hx
  rw [hx0] at c00 cw
  have HX := mkHid hx0
  have HL := mkHid hlen
  have ta := assert_block ⟨x.b, 0, none⟩
  have h0n : decide ((0 : Int) < E.length) = true := decide_eq_true (by omega)
  clear hc
  have hsub : ∀ w3, Chg (x.b :: DF db g fa cf) w w3 → Chg (CF cb mb (some ⟨lb, lo, none⟩) cl E ++ DF db g fa cf) w w3 := fun w3 g3 => g3.mono (fun k hk _ => by
    rcases List.mem_cons.1 hk with rfl | hk
    · exact List.mem_append_left _ hxF
    · exact List.mem_append_right _ hk)
  by_cases hv : (write st x.pl x.bs).1 = 0
  · rw [hv] at cw
    have HV := mkHid hv
    have CW := mkHid cw
    clear cw hv
    go_enter Tryz.func142, Tryz.ntmps142
    have hnd : ((x :: T).map Ent.b).Nodup := (h.pm.map _).nodup_iff.1 h.ln.nd
    have HN := mkHid hnd
    go_wp2_with (first | (go_at_call 161; refine CW.out.mono ?_; rintro e w2 ⟨rfl, fa', cf', d2, l2, g2, -, k0⟩; obtain ⟨k2, cp⟩ := pop_clean h0 HN.out (k0 rfl); clear k0) | (go_at_call 175; refine cp.mono ?_; rintro e w3 ⟨rfl, F, h4, p4, H4, b4, g4, q4⟩))
    have c23 := (q4 2 (by decide)).1.trans k2.c2
    have xat := b4.cell 0 _ (entV_pl x.clean F.length)
    obtain ⟨D, hD⟩ := k2.hd
    have hO3 := (hD.chg g4 k2.mF).o
    have hxp : x.pl < 1024 := h.pl x (by simp)
    have HF : ∀ w4, Chg [mb] w3 w4 → w4.ownsMap Tryz.prog 3 ptrR mb (E.set 0 x.clean).length (D.del (.int .i64 x.pl)) → CacheAt w4 B cb mb (some ⟨lb, lo, none⟩) cl F T most uses db ∧ Chg (CF cb mb (some ⟨lb, lo, none⟩) cl E ++ DF db g fa cf) w w4 ∧ (∀ k, k ∈ LF cb (some ⟨lb, lo, none⟩) cl F → k ∈ LF cb (some ⟨lb, lo, none⟩) cl E) ∧ DevAt w4 B db g fa' cf' (write st x.pl x.bs).2 := by
      intro w4 g5 ho4
      obtain ⟨r1, r2, r3⟩ := k2.gone h4 p4 H4 g4 q4 hD ho4 g5
      have hbE : x.clean.b = E[0].b := by rw [HX.out]; rfl
      have hcf : ∀ k, k ∈ LF cb (some ⟨lb, lo, none⟩) cl (E.set 0 x.clean) → k ∈ LF cb (some ⟨lb, lo, none⟩) cl E := fun k hk => LF_alike (by rw [set_alike h0 Ent.b hbE]) k hk
      have hcf2 : ∀ k, k ∈ CF cb mb (some ⟨lb, lo, none⟩) cl (E.set 0 x.clean) → k ∈ CF cb mb (some ⟨lb, lo, none⟩) cl E := fun k hk => by
        simp only [CF, List.mem_cons] at hk ⊢
        exact hk.imp id (hcf k)
      refine ⟨r1, (hsub _ g2).trans r2 (fun _ h _ => h) (fun k hk _ => List.mem_append_left _ (hcf2 k hk)), fun k hk => hcf k (r3 k hk), d2.chg r2 (fun k hk hm => ?_)⟩
      rcases DF_later l2 k hk with h9 | h9
      · exact hx k (hcf2 k hm) h9
      · have := (h.lt k (hcf2 k hm)).2; omega
    go_region_law (refine step_delete rfl (.tmp 25) (.tmp 29) 130 3 rfl 128 (int_keyed Tryz.underlying3) Tryz.underlying130 ptrR mb (E.set 0 x.clean).length D rfl (by first | exact hO3 | exact hO3.drew | exact hO3.drew.drew) _ (.int .i64 x.pl) rfl (keyI x.pl hxp) ?_; intro w4 ho4 hm4)
    all_goals
      go_wp2
      go_ret
      obtain ⟨r1, r2, r3, r4⟩ := HF w4 ((Chg.drew [mb] w3).trans (grown_chg hm4) (fun _ h _ => h) (fun _ h _ => h)) ho4
      exact ⟨by rw [HV.out]; rfl, fa', cf', r4, l2, r2, fun h9 => absurd HV.out h9, fun _ => ⟨F, r1, r3⟩⟩
  · have hv2 : ((write st x.pl x.bs).1 != 0) = true := by simpa using hv
    have HV := mkHid hv
    have CW := mkHid cw
    clear cw hv
    go_enter Tryz.func142, Tryz.ntmps142
    go_wp2_with (first | (go_at_call 161; refine CW.out.mono ?_; rintro e w2 ⟨rfl, fa', cf', d2, l2, g2, k2, -⟩))
    go_ret
    exact ⟨rfl, fa', cf', d2, l2, hsub _ g2, fun h9 => k2 h9, fun h9 => absurd h9 HV.out⟩
end
end Go.Proofs.YtoeijomelabbfaaGreatDoor
