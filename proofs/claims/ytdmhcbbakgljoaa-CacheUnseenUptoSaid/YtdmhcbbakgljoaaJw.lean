/- The cache beside its disk: Flush. -/
import Derived.Test.YtdmhcbbakgljoaaJv
namespace Go.Proofs.Ytdmhcbbakgljoaa
open Go.RowKit Go.Maps
set_option linter.unusedVariables false
set_option linter.unusedSimpArgs false
attribute [local go_sem ↓] Go.wp_at_zero Go.wp_at_succ

theorem write_small (st : RS) (z : Int) (b : List UInt8) : (write st z b).2.L.length ≤ st.L.length + 4 ∧ (write st z b).2.count = st.count := by
  have hb : (burn st).2.L = st.L ∧ (burn st).2.count = st.count := by
    unfold burn
    split
    · exact ⟨rfl, rfl⟩
    · split <;> exact ⟨rfl, rfl⟩
  unfold write
  split
  · exact ⟨Nat.le_add_right _ _, rfl⟩
  · split
    · exact ⟨Nat.le_add_right _ _, rfl⟩
    · split
      · exact ⟨by rw [hb.1]; omega, hb.2⟩
      · refine ⟨?_, hb.2⟩
        show ((burn st).2.L ++ flies z.toNat b 4).length ≤ _
        rw [List.length_append, flies_len, hb.1]
        exact Nat.le_refl _
/-- The places of the dirty blocks, rising: the blocks themselves. -/
def krising (K : List KE) : List KE := K.mergeSort (fun x y => decide (x.pl ≤ y.pl))
def kdirty (K : List KE) : List KE := (krising K).filter (fun e => e.dirty)
def kclean (K : List KE) (a : Nat) : List KE := K.map (fun e => if e.pl = a then ⟨e.pl, e.bs, false⟩ else e)
def kflushL : List KE → List KE → RS → Int × List KE × RS
  | [], K, st => (0, K, st)
  | h :: r, K, st => if (write st h.pl h.bs).1 = 0 then kflushL r (kclean K h.pl) (write st h.pl h.bs).2 else ((write st h.pl h.bs).1, K, (write st h.pl h.bs).2)
/-- Flush, as chapter 5 has it. -/
def kflush (K : List KE) (st : RS) : Int × List KE × RS := if st.gone then (9, K, st) else kflushL (kdirty K) K st
theorem abs_dirty (L : List Ent) : (dirtyE (risingE L)).map absE = kdirty (L.map absE) := by
  unfold dirtyE kdirty krising risingE
  rw [← List.map_mergeSort (r := fun x y : Ent => decide (x.pl ≤ y.pl)) (s := fun x y : KE => decide (x.pl ≤ y.pl)) (f := absE) (fun a _ b _ => rfl), List.filter_map]
  rfl
theorem abs_clean {L : List Ent} (hb : (L.map Ent.b).Nodup) (hp : (L.map Ent.pl).Nodup) {x : Ent} (hx : x ∈ L) : (updL L x.clean).map absE = kclean (L.map absE) x.pl := by
  unfold updL kclean
  rw [List.map_map, List.map_map]
  refine List.map_congr_left fun e he => ?_
  show absE (if e.b = x.b then x.clean else e) = if (absE e).pl = x.pl then ⟨(absE e).pl, (absE e).bs, false⟩ else absE e
  by_cases h : e = x
  · rw [h, if_pos rfl, if_pos (show (absE x).pl = x.pl from rfl)]; rfl
  · have h1 : e.b ≠ x.b := fun h9 => h (b_inj hb he hx h9)
    have h2 : (absE e).pl ≠ x.pl := fun h9 => h (pl_inj hp he hx h9)
    rw [if_neg h1, if_neg h2]
theorem cwrite_pair (x : Ent) (w0 w : World) (R : Nat → Prop) (db : Nat) (g : DG) (fa : Option Addr) (cf : Nat) (st : RS) (cb mb : Nat) (la : Option Addr) (cl : Nat) (E L : List Ent) (most uses : Nat) (h : Pair w0 w R db g fa cf st cb mb la cl E L most uses) (hx : x ∈ L) (hd : x.dirty = true) (hLb : st.L.length ≤ 1000000000) :
    Calls Try.prog 30 #[.pointer (some ⟨cb, 0, none⟩), .pointer (some ⟨x.b, 0, none⟩)] w fun e w' => e = .returned (.int .i64 (write st x.pl x.bs).1) ∧ ∃ fa' cf' E' L', Pair w0 w' R db g fa' cf' (write st x.pl x.bs).2 cb mb la cl E' L' most uses ∧ ((write st x.pl x.bs).1 ≠ 0 → L' = L) ∧ ((write st x.pl x.bs).1 = 0 → L' = updL L x.clean) ∧ Off R w w' := by
  obtain ⟨i, hi, e⟩ := h.k.spot hx
  have c := cwrite_dirty i w0.heap.size cb mb la cl E L most uses db w h.k hi (by rw [e]; exact hd) g fa cf st h.d h.W h.c.size hLb h.x
  rw [e] at c
  refine c.mono ?_
  rintro e2 w' ⟨he, fa', cf', d', l', g', k0, k1⟩
  have gA : Chg (CF cb mb la cl E ++ DF db g fa cf) w w' := g'.mono (fun k hk _ => by
    rcases List.mem_cons.1 hk with rfl | hk
    · exact List.mem_append_left _ (h.k.mem hx).1
    · exact List.mem_append_right _ hk)
  have hxx : ∀ k, k ∈ CF cb mb la cl E → k ∉ DF db g fa' cf' := fun k hk hm => by
    rcases DF_later l' k hm with h9 | h9
    · exact h.x k hk h9
    · have := (h.k.lt k hk).2; omega
  by_cases hv : (write st x.pl x.bs).1 = 0
  · have hsub : ∀ k, k ∈ CF cb mb la cl (E.set i x.clean) → k ∈ CF cb mb la cl E := fun k hk => by
      simp only [CF, List.mem_cons] at hk ⊢
      exact hk.imp id (LF_alike (by rw [set_alike hi Ent.b (by rw [e]; rfl)]) k)
    refine ⟨he, fa', cf', _, _, h.go d' (k1 hv) (fun y hy => ?_) gA (write_whole _ _ h.W) (fun k hk => hxx k (hsub k hk)) (fun k hk => Or.inl (hsub k hk)) (DF_later l'), fun h9 => absurd hv h9, fun _ => rfl, h.off gA⟩
    unfold updL at hy
    obtain ⟨z, hz, rfl⟩ := List.mem_map.1 hy
    split
    · exact h.u x hx
    · exact h.u z hz
  · exact ⟨he, fa', cf', E, L, h.go d' (k0 hv) h.u gA (write_whole _ _ h.W) hxx (fun k hk => Or.inl hk) (DF_later l'), fun _ => rfl, fun h9 => absurd h9 hv, h.off gA⟩
theorem blk_fp {w : World} {B : Nat} {ao : Option Addr} {n c : Nat} {xs : List Value} (h : Room w B ao n c xs) (hn : 0 < n) : ∀ k, k ∈ blk ao → k ∈ fp ao c := fun k hk => by
  unfold fp
  rw [if_neg (by have := h.le; omega)]
  exact hk
theorem cflush_off (w0 w : World) (R : Nat → Prop) (db : Nat) (g : DG) (fa : Option Addr) (cf : Nat) (st : RS) (cb mb : Nat) (la : Option Addr) (cl : Nat) (E L : List Ent) (most uses : Nat) (h : Pair w0 w R db g fa cf st cb mb la cl E L most uses) (hg : st.gone = true) :
    Calls Try.prog 13 #[.pointer (some ⟨cb, 0, none⟩)] w fun e w' => e = .returned (.int .i64 9) ∧ w = w' := by
  have cP := cpowered_any cb db w0.heap.size g fa cf st w h.d h.k.c0
  rw [hg] at cP
  go_enter Try.func13, Try.ntmps13
  go_wp2_with (first | (go_at_call 29; refine cP.mono ?_; rintro e w' ⟨rfl, rfl⟩))
  go_ret
  exact ⟨rfl, rfl⟩
theorem dirtyE_mem {Ys : List Ent} {y : Ent} (h : y ∈ dirtyE Ys) : y ∈ Ys ∧ y.dirty = true := by
  unfold dirtyE at h
  simpa using List.mem_filter.1 h
set_option maxRecDepth 20000 in
set_option maxHeartbeats 1000000 in
theorem cflush_on (w0 w : World) (R : Nat → Prop) (db : Nat) (g : DG) (fa : Option Addr) (cf : Nat) (st : RS) (cb mb : Nat) (la : Option Addr) (cl : Nat) (E L : List Ent) (most uses : Nat) (h : Pair w0 w R db g fa cf st cb mb la cl E L most uses) (hg : st.gone = false) (hLb : st.L.length + 4096 ≤ 1000000000) :
    Calls Try.prog 13 #[.pointer (some ⟨cb, 0, none⟩)] w fun e w' => ∃ fa' cf' E' L', e = .returned (.int .i64 (kflushL (kdirty (L.map absE)) (L.map absE) st).1) ∧ Pair w0 w' R db g fa' cf' (kflushL (kdirty (L.map absE)) (L.map absE) st).2.2 cb mb la cl E' L' most uses ∧ L'.map absE = (kflushL (kdirty (L.map absE)) (L.map absE) st).2.1 ∧ Off R w w' := by
  have cP := cpowered_any cb db w0.heap.size g fa cf st w h.d h.k.c0
  rw [hg] at cP
  have cD := cdirty_any w0 w R db g fa cf st cb mb la cl E L most uses h
  have hle := h.k.le
  have hmo := h.k.mo
  obtain ⟨Ys, hYs⟩ : ∃ Ys, Ys = dirtyE (risingE L) := ⟨_, rfl⟩
  have hmem : ∀ y ∈ Ys, y ∈ L ∧ y.dirty = true := fun y hy => by
    rw [hYs] at hy
    exact ⟨rising_mem (dirtyE_mem hy).1, (dirtyE_mem hy).2⟩
  have hYl : Ys.length ≤ 1024 := by
    rw [hYs]
    have h1 : (dirtyE (risingE L)).length ≤ (risingE L).length := List.length_filter_le _ _
    rw [rising_len] at h1
    omega
  have hYn : (Ys.map Ent.b).Nodup := by
    rw [hYs]
    have h1 : ((risingE L).map Ent.b).Nodup := ((List.mergeSort_perm L _).map _).nodup_iff.2 h.k.bnd
    exact h1.sublist (List.filter_sublist.map _)
  have hK : kdirty (L.map absE) = Ys.map absE := by rw [hYs, abs_dirty]
  rw [hK]
  rw [← hYs] at cD
  have HM := mkHid hmem
  have HN := mkHid hYn
  clear hYs hmem hYn hK
  go_enter Try.func13, Try.ntmps13
  go_wp2_with (first
    | (go_at_call 29; refine cP.mono ?_; rintro e w' ⟨rfl, rfl⟩)
    | (go_at_call 14; refine cD.mono ?_; rintro e w1 ⟨ao, c, rfl, r1, g1⟩))
  have p1 := h.add (R' := fun k => R k ∨ k ∈ fp ao c) g1 (fun k hk => hk.imp id (fun h9 => r1.lt k h9))
  go_loopw [15] (fun i wr => ∃ (k : Nat) (fa' : Option Addr) (cf' : Nat) (E' L' : List Ent) (st' : RS), i = .int .i64 k ∧ k ≤ Ys.length ∧ Pair w0 wr (fun k => R k ∨ k ∈ fp ao c) db g fa' cf' st' cb mb la cl E' L' most uses ∧ kflushL (Ys.map absE) (L.map absE) st = kflushL ((Ys.drop k).map absE) (L'.map absE) st' ∧ (∀ y ∈ Ys.drop k, y ∈ L') ∧ st'.L.length ≤ st.L.length + 4 * k ∧ Off (fun k => R k ∨ k ∈ fp ao c) w1 wr) (fun i _ => Ys.length - (Go.RowKit.intOf i).toNat)
  case atStart => exact ⟨0, fa, cf, E, L, st, rfl, Nat.zero_le _, p1, rfl, fun y hy => (HM.out y (by simpa using hy)).1, by omega, Off.keep (Chg.refl _ _)⟩
  case round =>
    obtain ⟨k, fa', cf', E', L', st', rfl, hk, p, hE, hin, hl, ho⟩ := hrel
    by_cases hlt : k < Ys.length
    · obtain ⟨S, hS, hSR⟩ := ho
      have hrd : Reads wr ao ((Ys).map plV) := r1.reads.chg hS (fun q hq hm => hSR q hm (Or.inr (blk_fp r1 (by omega) q hq)))
      obtain ⟨b, o, rfl, hcell⟩ := hrd (by simp; omega)
      have ck := hcell k (plV Ys[k]) (by simp [hlt])
      unfold plV at ck
      have hyd : Ys[k] ∈ Ys.drop k := by rw [List.drop_eq_getElem_cons hlt]; exact List.mem_cons_self
      have hyL := hin _ hyd
      have hyE := p.k.pm.mem_iff.2 hyL
      have hyp := p.k.pl _ hyL
      have hdir := (HM.out _ (List.getElem_mem hlt)).2
      have c2 := p.k.c2
      obtain ⟨D, hD⟩ := p.k.hd
      have cW := cwrite_pair Ys[k] w0 wr _ db g fa' cf' st' cb mb la cl E' L' most uses p hyL hdir (by omega)
      have HE := mkHid hE
      have HI := mkHid hin
      have HD := mkHid hdir
      have HSR := mkHid hSR
      have hd1 : decide (k < Ys.length) = true := decide_eq_true hlt
      have hd2 : decide ((k : Int) < (Ys.length : Int)) = true := decide_eq_true (by omega)
      clear hE hin hdir hSR hcell hrd
      by_cases hv : (write st' Ys[k].pl Ys[k].bs).1 = 0
      · rw [hv] at cW
        have HV := mkHid hv
        clear hv
        go_wp2_with (first
          | (at_lookup; refine wpList_lookup_bare wr rfl (.tmp 23) (.tmp 24) rfl hD rfl hyE hyp rfl ?_)
          | (go_at_call 30; refine cW.mono ?_; rintro e w4 ⟨rfl, fa4, cf4, E4, L4, p4, k40, k41, o4⟩))
        have hws := (write_small st' Ys[k].pl Ys[k].bs).1
        obtain rfl := k41 trivial
        have hdk := List.drop_eq_getElem_cons hlt
        refine ⟨⟨k + 1, fa4, cf4, E4, _, _, by first | rfl | go_num, by omega, p4, ?_, fun y hy => ?_, by omega, Off.trans ⟨S, hS, HSR.out⟩ o4⟩, by simp [Go.RowKit.intOf]; omega⟩
        · rw [HE.out, hdk, List.map_cons]
          show (if (write st' (absE Ys[k]).pl (absE Ys[k]).bs).1 = 0 then _ else _) = _
          rw [if_pos (show (write st' (absE Ys[k]).pl (absE Ys[k]).bs).1 = 0 from HV.out), abs_clean p.k.bnd p.k.np hyL]
          rfl
        · have hy2 : y ∈ Ys.drop k := by rw [hdk]; exact List.mem_cons_of_mem _ hy
          have hyL2 := HI.out y hy2
          have hnd : ((Ys.drop k).map Ent.b).Nodup := HN.out.sublist ((List.drop_sublist k Ys).map _)
          rw [hdk, List.map_cons, List.nodup_cons] at hnd
          unfold updL
          exact List.mem_map.2 ⟨y, hyL2, if_neg (fun h9 => hnd.1 (List.mem_map.2 ⟨y, hy, h9⟩))⟩
      · have hv2 : ((write st' Ys[k].pl Ys[k].bs).1 != 0) = true := by simpa using hv
        have HV := mkHid hv
        clear hv
        go_wp2_with (first
          | (at_lookup; refine wpList_lookup_bare wr rfl (.tmp 23) (.tmp 24) rfl hD rfl hyE hyp rfl ?_)
          | (go_at_call 30; refine cW.mono ?_; rintro e w4 ⟨rfl, fa4, cf4, E4, L4, p4, k40, k41, o4⟩))
        go_ret
        obtain rfl := k40 HV.out
        have hdk := List.drop_eq_getElem_cons hlt
        have hK : kflushL (Ys.map absE) (L.map absE) st = ((write st' Ys[k].pl Ys[k].bs).1, L4.map absE, (write st' Ys[k].pl Ys[k].bs).2) := by
          rw [HE.out, hdk, List.map_cons]
          show (if (write st' (absE Ys[k]).pl (absE Ys[k]).bs).1 = 0 then _ else _) = _
          rw [if_neg (show ¬ (write st' (absE Ys[k]).pl (absE Ys[k]).bs).1 = 0 from HV.out)]
          rfl
        rw [hK]
        exact ⟨fa4, cf4, E4, L4, rfl, p4.less (fun q hq => Or.inl hq), rfl, (Off.keep g1).trans (Off.less (Off.trans ⟨S, hS, HSR.out⟩ o4) (fun q hq => Or.inl hq))⟩
    · have hkn : k = Ys.length := by omega
      have HE := mkHid hE
      have hd1 : decide (k < Ys.length) = false := decide_eq_false hlt
      have hd2 : decide ((k : Int) < (Ys.length : Int)) = false := decide_eq_false (by omega)
      have HK := mkHid hkn
      clear hE hin hkn
      go_wp2
      go_ret
      have hK : kflushL (Ys.map absE) (L.map absE) st = (0, L'.map absE, st') := by
        rw [HE.out, HK.out, List.drop_length]
        rfl
      rw [hK]
      exact ⟨fa', cf', E', L', rfl, p.less (fun q hq => Or.inl hq), rfl, (Off.keep g1).trans (ho.less (fun q hq => Or.inl hq))⟩
theorem cflush_any (w0 w : World) (R : Nat → Prop) (db : Nat) (g : DG) (fa : Option Addr) (cf : Nat) (st : RS) (cb mb : Nat) (la : Option Addr) (cl : Nat) (E L : List Ent) (most uses : Nat) (h : Pair w0 w R db g fa cf st cb mb la cl E L most uses) (hLb : st.L.length + 4096 ≤ 1000000000) :
    Calls Try.prog 13 #[.pointer (some ⟨cb, 0, none⟩)] w fun e w' => ∃ fa' cf' E' L', e = .returned (.int .i64 (kflush (L.map absE) st).1) ∧ Pair w0 w' R db g fa' cf' (kflush (L.map absE) st).2.2 cb mb la cl E' L' most uses ∧ L'.map absE = (kflush (L.map absE) st).2.1 ∧ Off R w w' := by
  unfold kflush
  cases hg : st.gone
  · simp only [Bool.false_eq_true, if_false]
    exact cflush_on w0 w R db g fa cf st cb mb la cl E L most uses h hg hLb
  · simp only [if_true]
    refine (cflush_off w0 w R db g fa cf st cb mb la cl E L most uses h hg).mono ?_
    rintro e w' ⟨he, rfl⟩
    exact ⟨fa, cf, E, L, he, h, rfl, Off.keep (Chg.refl _ _)⟩
end Go.Proofs.Ytdmhcbbakgljoaa
