/- The cache beside its disk: Get of a block that is not held. -/
import Derived.Test.YtdmhcbbakgljoaaJn
import Derived.Test.YtdmhcbbakgljoaaDw
namespace Go.Proofs.Ytdmhcbbakgljoaa
open Go.RowKit Go.Maps
set_option linter.unusedVariables false
set_option linter.unusedSimpArgs false
attribute [local go_sem ↓] Go.wp_at_zero Go.wp_at_succ

theorem blk_bnd {w : World} {B : Nat} {ao : Option Addr} {n c : Nat} {xs : List Value} (h : Room w B ao n c xs) (hn : 0 < n) : ∀ k, k ∈ blk ao → B ≤ k ∧ k < w.heap.size := fun k hk => h.lt k (by unfold fp; rw [if_neg (by have := h.le; omega)]; exact hk)
theorem fresh_upd (nb a : Nat) (bs : List UInt8) (L1 : List Ent) (hnd : ((fresh nb a :: L1).map Ent.b).Nodup) : updL (fresh nb a :: L1) ⟨nb, a, bs, false, 0⟩ = ⟨nb, a, bs, false, 0⟩ :: L1 := updL_tail hnd _ rfl
theorem used_head {x : Ent} {L1 : List Ent} (hnd : ((x :: L1).map Ent.b).Nodup) (u : Nat) : used (x :: L1) x u = L1 ++ [x.now u] := by
  unfold used
  rw [List.filter_cons, if_neg (by simp)]
  congr 1
  rw [List.map_cons, List.nodup_cons] at hnd
  refine List.filter_eq_self.2 fun e he => ?_
  exact bne_iff_ne.2 fun h9 => hnd.1 (List.mem_map.2 ⟨e, he, h9⟩)
theorem kwrote_whole {st : RS} (h : KE) (hW : Whole st) : Whole (kwrote h st).2 := by
  unfold kwrote
  split
  · exact write_whole _ _ hW
  · exact hW
theorem kroom_whole (n : Nat) (K : List KE) {st : RS} (hW : Whole st) : Whole (kroom n K st).2.2 := by
  unfold kroom
  split
  · exact hW
  · cases K with
    | nil => exact hW
    | cons h T =>
      simp only
      split
      · exact kwrote_whole h hW
      · exact kwrote_whole h hW
theorem got_reads {w0 w w1 w2 : World} {R : Nat → Prop} {db : Nat} {g : DG} {fa : Option Addr} {cf : Nat} {st : RS} {cb mb : Nat} {la : Option Addr} {cl : Nat} {E L : List Ent} {most uses : Nat} (h : Pair w0 w R db g fa cf st cb mb la cl E L most uses) {ao : Option Addr} {c : Nat} {xs : List Value} (r1 : Room w1 w.heap.size ao 256 c xs) (g1 : Chg [] w w1) (g2 : Chg (CF cb mb la cl E ++ DF db g fa cf) w1 w2) : Reads w2 ao xs := by
  refine r1.reads.chg g2 (fun k hk hm => ?_)
  have h1 := blk_bnd r1 (by omega) k hk
  rcases List.mem_append.1 hm with h9 | h9
  · have := (h.k.lt k h9).2; omega
  · have := (h.d.lt k h9).2; omega
theorem CacheAt.tell {w : World} {B cb mb : Nat} {la : Option Addr} {cl : Nat} {E L1 : List Ent} {most uses db nb a : Nat} {bs : List UInt8} (h : CacheAt w B cb mb la cl E (updL (fresh nb a :: L1) ⟨(fresh nb a).b, (fresh nb a).pl, bs, (fresh nb a).dirty, (fresh nb a).used⟩) most uses db) (hb : ((fresh nb a :: L1).map Ent.b).Nodup) : CacheAt w B cb mb la cl E (⟨nb, a, bs, false, 0⟩ :: L1) most uses db := by
  have e := fresh_upd nb a bs L1 hb
  rw [← e]
  exact h
section
variable (a : Nat) (w0 w : World) (R : Nat → Prop) (db : Nat) (g : DG) (fa : Option Addr) (cf : Nat) (st : RS) (cb mb : Nat) (la : Option Addr) (cl : Nat) (E L : List Ent) (most uses : Nat) (h : Pair w0 w R db g fa cf st cb mb la cl E L most uses) (hw : whyN st a = 0) (hn : ∀ e ∈ L, e.pl ≠ a) (hu : uses < 9223372036854775807) (hLb : st.L.length ≤ 1000000000)
include h hw hn hu hLb
set_option maxRecDepth 20000 in
set_option maxHeartbeats 1000000 in
theorem cget_ok (hv : (kroom most (L.map absE) st).1 = 0) :
    Calls Try.prog 12 #[.pointer (some ⟨cb, 0, none⟩), .int .i64 (a : Int)] w fun e w' => ∃ rb fa' cf' la' cl' E' L', e = .returned (.tuple #[.slice (some ⟨rb, 0, none⟩) 256 256, .int .i64 0]) ∧ Pair w0 w' (fun k => R k ∨ k = rb) db g fa' cf' (kroom most (L.map absE) st).2.2 cb mb la' cl' E' L' most (uses + 1) ∧ L'.map absE = (kroom most (L.map absE) st).2.1 ++ [⟨a, reads st a 4, false⟩] ∧ Room w' w.heap.size (some ⟨rb, 0, none⟩) 256 256 (bts (reads st a 4)) ∧ Off R w w' := by
  have d := h.d
  have c0 := h.k.c0
  have c2 := h.k.c2
  have hW := h.W
  obtain ⟨D, hD⟩ := h.k.hd
  obtain ⟨a2, ha2, hac, ha⟩ := why_at hW hw
  obtain rfl : a = a2 := by omega
  have hnE : ∀ e ∈ E, e.pl ≠ a := fun e he => hn e (h.k.pm.mem_iff.1 he)
  have hbl : (reads st a 4).length = 256 := reads_len st a 4 (by have := hW.1; omega) d.lS (fun f hf => (d.lL f hf).1)
  have Hw := mkHid hw
  have HB := mkHid hbl
  have cR := dread_yes a w0.heap.size db g fa cf st w d hW hw
  generalize hbs : reads st a 4 = bs at cR HB hbl ⊢
  have HBS := mkHid hbs
  have hmk : ∀ u : World, (Instr.makeSlice 31 (.int .i64 256) (.int .i64 256)).run Try.prog u = .ok (.slice (some ⟨u.heap.size, 0, none⟩) 256 256) (u.alloc (.cells (madeCells #[.int .u8 0] 256) 5)) := hmk 256 (by decide)
  have cT : ∀ w1, Chg [] w w1 → _ := fun w1 g1 => ctaken_any w0.heap.size cb mb la cl E L most uses db w1 (h.k.keep g1) g fa cf st (d.keep g1) hW (Nat.le_trans h.c.size g1.size) hLb h.x a ha hn h.u
  rw [hv] at cT
  have CT := mkHid cT
  have HV := mkHid hv
  clear hw hbl ha2 hbs hv cT
  go_enter Try.func12, Try.ntmps12
  go_wp2_with (first
    | (go_at_call 26; refine (casked_any cb db w0.heap.size g fa cf st w d c0 _ hW).mono ?_; rw [Hw.out]; rintro e w' ⟨rfl, rfl⟩)
    | (at_lookup; refine wpList_lookup_none w rfl (.tmp 22) (.tmp 23) rfl hD rfl hnE ha rfl ?_)
    | (go_at_call 16; refine cR.mono ?_; rintro e w1 ⟨ao, c, rfl, r1, g1⟩)
    | (go_at_call 27; refine (CT.out w1 g1).mono ?_; rintro e w2 ⟨v2, fa', cf', la', cl', E2, rfl, d2, l2, g2, lk2, xk2, -, k0⟩; obtain ⟨nb, L1, rfl, hnb, k2, hL1, hsub⟩ := k0 trivial; clear k0; have rd2 := got_reads h r1 g1 g2; obtain ⟨i2, b2⟩ := k2.blk (x := fresh nb a) (by simp); have th2 := b2.there 1 256 (by rw [entV_len (show zero256.length = 256 from List.length_replicate)]; omega); obtain ⟨E3, k3, l3⟩ := k2.bytes (x := fresh nb a) (by simp) bs HB.out; have k3' := k3.tell k2.bnd; clear k3; have cU := cuse_L w0.heap.size cb mb la' cl' E3 _ most uses db (w2.setCells nb 1 (bts bs)) k3' ⟨nb, a, bs, false, 0⟩ (by simp) hu)
    | (refine wpList_copy_k rfl (.tmp 53) (.tmp 54) 31 31 5 rfl Try.underlying31 oneB nb 1 256 256 ao 256 c (bts bs) rfl rfl rd2 (by rw [bts_length]; exact HB.out) (by rw [bts_length, HB.out]; exact th2) (bts_one _) ?_)
    | (go_at_call 28; refine cU.mono ?_; rintro e w4 ⟨rfl, E4, k4, g4, l4⟩; obtain ⟨i4, b4⟩ := k4.blk (x := (⟨nb, a, bs, false, 0⟩ : Ent).now (uses + 1)) (List.mem_append_right _ (by simp)); have rd4 := ent_reads b4 HB.out)
    | (refine wpList_copy_k rfl (.tmp 60) (.tmp 65) 31 31 5 rfl Try.underlying31 oneB w4.heap.size 0 256 256 (some ⟨nb, 1, none⟩) 256 256 (bts bs) rfl rfl (rd4.keep (Chg.alloc [] w4 _)) (by rw [bts_length]; exact HB.out) ((made_room w4 5 (.int .u8 0) 256 (by decide)).there 0 _ (by rw [bts_length, HB.out]; omega)) (bts_one _) ?_)
    | (refine wpList_copy_k rfl (.tmp 60) (.tmp 64) 31 31 5 rfl Try.underlying31 oneB w4.heap.size 0 256 256 (some ⟨nb, 1, none⟩) 256 256 (bts bs) rfl rfl (rd4.keep (Chg.alloc [] w4 _)) (by rw [bts_length]; exact HB.out) ((made_room w4 5 (.int .u8 0) 256 (by decide)).there 0 _ (by rw [bts_length, HB.out]; omega)) (bts_one _) ?_))
  go_ret2
  obtain ⟨q1, q2, q3⟩ := own_copy w4 bs HB.out
  have hnd := k3'.bnd
  rw [used_head hnd] at k4
  have hb3 : Chg [nb] w2 (w2.setCells nb 1 (bts bs)) := Chg.setCells nb _ 1 w2
  have hnbC : nb ∈ CF cb mb la' cl' E2 := (k2.mem (x := fresh nb a) (by simp)).1
  have g3 : Chg (CF cb mb la' cl' E2) w2 w4 := hb3.trans g4 (fun k hk _ => by simp at hk; rw [hk]; exact hnbC) (fun k hk _ => l3 k hk)
  have gA : Chg (CF cb mb la cl E ++ DF db g fa cf) w w2 := g1.trans g2 (by simp) (fun _ h _ => h)
  have gB : Chg (CF cb mb la cl E ++ DF db g fa cf) w w4 := gA.trans g3 (fun _ h _ => h) (fun k hk hlt => (lk2 k hk).elim (fun h9 => List.mem_append_left _ h9) (fun h9 => by have := g1.size; omega))
  have p4 : Pair w0 w4 R db g fa' cf' (kroom most (L.map absE) st).2.2 cb mb la' cl' E4 (L1 ++ [(⟨nb, a, bs, false, 0⟩ : Ent).now (uses + 1)]) most (uses + 1) := by
    refine h.go (d2.chg g3 (fun k hk hm => xk2 k hm hk)) k4 (fun e he => ?_) gB ?_ (fun k hk => xk2 k (l3 k (l4 k hk))) (fun k hk => (lk2 k (l3 k (l4 k hk))).imp id (fun h9 => Nat.le_trans g1.size h9)) (fun k hk => (DF_later l2 k hk).imp id (fun h9 => Nat.le_trans g1.size h9))
    · rcases List.mem_append.1 he with he | he
      · exact h.u e (hsub e he)
      · simp at he
        rw [he]
        exact Nat.succ_pos _
    · exact kroom_whole most _ hW
  refine ⟨w4.heap.size, fa', cf', la', cl', E4, _, rfl, p4.add q2 (fun k hk => hk.imp id (fun e => by rw [e]; exact ⟨Nat.le_refl _, q3⟩)), ?_, q1.mono (gB.size), (h.off gB).trans (Off.keep q2)⟩
  rw [List.map_append, hL1]
  rfl
end
end Go.Proofs.Ytdmhcbbakgljoaa
