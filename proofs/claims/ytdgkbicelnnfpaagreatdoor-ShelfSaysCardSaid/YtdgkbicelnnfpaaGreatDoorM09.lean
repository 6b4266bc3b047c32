/- Texts Jq, Jr, Jz, Kd, Kg, Kj of the library, joined. -/
import Derived.Test.YtdgkbicelnnfpaaGreatDoorM08
import Derived.Lib.SmallJoins
/- The cache beside its disk: Put. -/
namespace Go.Proofs.YtdgkbicelnnfpaaGreatDoor
open Go.RowKit Go.Maps
set_option linter.unusedVariables false
set_option linter.unusedSimpArgs false
attribute [local go_sem ↓] Go.wp_at_zero Go.wp_at_succ

theorem updL_updL (L : List Ent) (x y : Ent) (h : x.b = y.b) : updL (updL L x) y = updL L y := by
  unfold updL
  rw [List.map_map]
  refine List.map_congr_left fun e he => ?_
  show (if (if e.b = x.b then x else e).b = y.b then y else if e.b = x.b then x else e) = if e.b = y.b then y else e
  by_cases h1 : e.b = x.b
  · rw [if_pos h1, if_pos h, if_pos (h1.trans h)]
  · rw [if_neg h1]
theorem drop_abs {L : List Ent} (hb : (L.map Ent.b).Nodup) (hp : (L.map Ent.pl).Nodup) {x : Ent} (hx : x ∈ L) : (L.filter (fun e => e.b != x.b)).map absE = kdrop (L.map absE) x.pl := by
  have := abs_used hb hp hx 0
  unfold used at this
  rw [List.map_append] at this
  exact (List.append_inj' this rfl).1
/-- A block with other bytes, dirty. -/
def Ent.put (x : Ent) (b : List UInt8) : Ent := ⟨x.b, x.pl, b, true, x.used⟩
/-- What is left of a Put, once the block is there: its bytes, the mark. -/
theorem CacheAt.puts {w : World} {B cb mb : Nat} {la : Option Addr} {cl : Nat} {E L : List Ent} {most uses db : Nat} (h : CacheAt w B cb mb la cl E L most uses db) {x : Ent} (hx : x ∈ L) (b : List UInt8) (hl : b.length = 256) :
    w.there x.b 1 256 ∧ (∃ v, (w.setCells x.b 1 (bts b)).cell? ⟨x.b, 257, none⟩ = some v) ∧ (w.setCells x.b 1 (bts b)).frozen? ⟨x.b, 257, none⟩ = false ∧ Chg (CF cb mb la cl E) w ((w.setCells x.b 1 (bts b)).setCell ⟨x.b, 257, none⟩ (.bool true)) ∧
      ∃ E', CacheAt ((w.setCells x.b 1 (bts b)).setCell ⟨x.b, 257, none⟩ (.bool true)) B cb mb la cl E' (updL L (x.put b)) most uses db ∧ ∀ k, k ∈ CF cb mb la cl E' → k ∈ CF cb mb la cl E := by
  have hm := h.mem hx
  obtain ⟨i, hb⟩ := h.blk hx
  obtain ⟨E1, k1, l1⟩ := h.bytes hx b hl
  have hx1 : (⟨x.b, x.pl, b, x.dirty, x.used⟩ : Ent) ∈ updL L ⟨x.b, x.pl, b, x.dirty, x.used⟩ := updL_mem hx rfl
  obtain ⟨i1, hb1⟩ := k1.blk hx1
  obtain ⟨E2, k2, l2⟩ := k1.dirties hx1 true
  have k3 : CacheAt ((w.setCells x.b 1 (bts b)).setCell ⟨x.b, 257, none⟩ (.bool true)) B cb mb la cl E2 (updL (updL L ⟨x.b, x.pl, b, x.dirty, x.used⟩) (x.put b)) most uses db := k2
  rw [updL_updL L ⟨x.b, x.pl, b, x.dirty, x.used⟩ (x.put b) rfl] at k3
  exact ⟨hb.there 1 256 (by rw [entV_len hm.2]; omega), ⟨_, hb1.cell 257 _ (entV_dirty hl)⟩, hb1.frozen 257, (Chg.setCells x.b _ 1 w).trans (Chg.setCell _ ⟨x.b, 257, none⟩ _) (fun k hk _ => by simp at hk; rw [hk]; exact hm.1) (fun k hk _ => by simp at hk; rw [hk]; exact hm.1), E2, k3, fun k hk => l1 k (l2 k hk)⟩
theorem cput_err (z : Int) (ab : Option Addr) (nb cb' : Nat) (w0 w : World) (R : Nat → Prop) (db : Nat) (g : DG) (fa : Option Addr) (cf : Nat) (st : RS) (cb mb : Nat) (la : Option Addr) (cl : Nat) (E L : List Ent) (most uses : Nat) (h : Pair w0 w R db g fa cf st cb mb la cl E L most uses) (hw : whyN st z ≠ 0) :
    Calls Tryz.prog 49 #[.pointer (some ⟨cb, 0, none⟩), .int .i64 z, .slice ab nb cb'] w fun e w' => e = .returned (.int .i64 (whyN st z)) ∧ w = w' := by
  have e1 : (whyN st z != 0) = true := by simpa using hw
  have d := h.d
  have c0 := h.k.c0
  have hW := h.W
  go_enter Tryz.func49, Tryz.ntmps49
  go_wp2_with (first | (go_at_call 92; refine (casked_any cb db w0.heap.size g fa cf st w d c0 z hW).mono ?_; rintro e w' ⟨rfl, rfl⟩))
  go_ret
  exact ⟨rfl, rfl⟩
theorem cput_arg (z : Int) (ab : Option Addr) (nb cb' : Nat) (hnb : nb ≠ 256) (w0 w : World) (R : Nat → Prop) (db : Nat) (g : DG) (fa : Option Addr) (cf : Nat) (st : RS) (cb mb : Nat) (la : Option Addr) (cl : Nat) (E L : List Ent) (most uses : Nat) (h : Pair w0 w R db g fa cf st cb mb la cl E L most uses) (hw : whyN st z = 0) :
    Calls Tryz.prog 49 #[.pointer (some ⟨cb, 0, none⟩), .int .i64 z, .slice ab nb cb'] w fun e w' => e = .returned (.int .i64 1) ∧ w = w' := by
  have Hw := mkHid hw
  have e1 : ((nb : Int) != 256) = true := by simp; omega
  have d := h.d
  have c0 := h.k.c0
  have hW := h.W
  clear hw
  go_enter Tryz.func49, Tryz.ntmps49
  go_wp2_with (first | (go_at_call 92; refine (casked_any cb db w0.heap.size g fa cf st w d c0 z hW).mono ?_; rw [Hw.out]; rintro e w' ⟨rfl, rfl⟩))
  go_ret
  exact ⟨rfl, rfl⟩
set_option maxRecDepth 20000 in
set_option maxHeartbeats 1000000 in
theorem cput_held (x : Ent) (ab : Option Addr) (cb' : Nat) (b : List UInt8) (w0 w : World) (R : Nat → Prop) (db : Nat) (g : DG) (fa : Option Addr) (cf : Nat) (st : RS) (cb mb : Nat) (la : Option Addr) (cl : Nat) (E L : List Ent) (most uses : Nat) (h : Pair w0 w R db g fa cf st cb mb la cl E L most uses) (hw : whyN st x.pl = 0) (hx : x ∈ L) (hu : uses < 9223372036854775807)
    (hl : b.length = 256) (gb : Reads w ab (bts b)) :
    Calls Tryz.prog 49 #[.pointer (some ⟨cb, 0, none⟩), .int .i64 (x.pl : Int), .slice ab 256 cb'] w fun e w' => ∃ E' L', e = .returned (.int .i64 0) ∧ Pair w0 w' R db g fa cf st cb mb la cl E' L' most (uses + 1) ∧ L'.map absE = kdrop (L.map absE) x.pl ++ [⟨x.pl, b, true⟩] ∧ Off R w w' := by
  have d := h.d
  have c0 := h.k.c0
  have c2 := h.k.c2
  have hW := h.W
  obtain ⟨D, hD⟩ := h.k.hd
  have hpl := h.k.pl x hx
  have hxE := h.k.pm.mem_iff.2 hx
  have Hw := mkHid hw
  have HB := mkHid hl
  obtain ⟨th, ⟨v7, c7⟩, f7, g2, E2, k2, l2⟩ := h.k.puts hx b hl
  have cU := cuse_L w0.heap.size cb mb la cl E2 _ most uses db _ k2 (x.put b) (updL_mem hx rfl) hu
  have hb256 : ((256 : Int) != 256) = false := rfl
  clear hw hl
  go_enter Tryz.func49, Tryz.ntmps49
  go_wp2_with (first
    | (go_at_call 92; refine (casked_any cb db w0.heap.size g fa cf st w d c0 _ hW).mono ?_; rw [Hw.out]; rintro e w' ⟨rfl, rfl⟩)
    | (at_lookup; refine wpList_lookup_held w rfl (.tmp 24) (.tmp 25) rfl hD rfl hxE hpl rfl ?_)
    | (refine wpList_copy_k rfl (.tmp 43) (.tmp 44) 27 27 5 rfl Tryz.underlying27 oneB x.b 1 256 256 ab 256 cb' (bts b) rfl rfl gb (by rw [bts_length]; exact HB.out) (by rw [bts_length, HB.out]; exact th) (bts_one _) ?_)
    | (go_at_call 94; refine cU.mono ?_; rintro e w4 ⟨rfl, E4, k4, g4, l4⟩))
  go_ret
  have g5 : Chg (CF cb mb la cl E) w w4 := g2.trans g4 (fun _ h _ => h) (fun k hk _ => l2 k hk)
  have gA : Chg (CF cb mb la cl E ++ DF db g fa cf) w w4 := g5.mono (fun k hk _ => List.mem_append_left _ hk)
  have hmap : (used (updL L (x.put b)) (x.put b) (uses + 1)).map absE = kdrop (L.map absE) x.pl ++ [⟨x.pl, b, true⟩] := by
    rw [updL_used (L := L) (x := x) (y := x.put b) (uses + 1) rfl, drop_abs h.k.bnd h.k.np hx]
    rfl
  refine ⟨E4, _, rfl, h.go (d.chg g5 (fun k hk hm => h.x k hm hk)) k4 (fun e he => ?_) gA hW (fun k hk => h.x k (l2 k (l4 k hk))) (fun k hk => Or.inl (l2 k (l4 k hk))) (fun k hk => Or.inl hk), hmap, h.off gA⟩
  unfold used updL at he
  rw [List.mem_append, List.mem_filter, List.mem_singleton, List.mem_map] at he
  rcases he with ⟨⟨y, hy, rfl⟩, hb⟩ | rfl
  · split
    · exact h.u x hx
    · exact h.u y hy
  · exact Nat.succ_pos _
theorem CacheAt.puts_fresh {w : World} {B cb mb : Nat} {la : Option Addr} {cl : Nat} {E L1 : List Ent} {most uses db nb a : Nat} (h : CacheAt w B cb mb la cl E (fresh nb a :: L1) most uses db) (b : List UInt8) (hl : b.length = 256) :
    w.there nb 1 256 ∧ (∃ v, (w.setCells nb 1 (bts b)).cell? ⟨nb, 257, none⟩ = some v) ∧ (w.setCells nb 1 (bts b)).frozen? ⟨nb, 257, none⟩ = false ∧ Chg (CF cb mb la cl E) w ((w.setCells nb 1 (bts b)).setCell ⟨nb, 257, none⟩ (.bool true)) ∧
      ∃ E', CacheAt ((w.setCells nb 1 (bts b)).setCell ⟨nb, 257, none⟩ (.bool true)) B cb mb la cl E' (⟨nb, a, b, true, 0⟩ :: L1) most uses db ∧ ∀ k, k ∈ CF cb mb la cl E' → k ∈ CF cb mb la cl E := by
  have e : updL (fresh nb a :: L1) ((fresh nb a).put b) = ⟨nb, a, b, true, 0⟩ :: L1 := updL_tail h.bnd _ rfl
  rw [← e]
  exact h.puts (x := fresh nb a) (by simp) b hl
section
variable (a : Nat) (ab : Option Addr) (cb' : Nat) (b : List UInt8) (w0 w : World) (R : Nat → Prop) (db : Nat) (g : DG) (fa : Option Addr) (cf : Nat) (st : RS) (cb mb : Nat) (la : Option Addr) (cl : Nat) (E L : List Ent) (most uses : Nat) (h : Pair w0 w R db g fa cf st cb mb la cl E L most uses) (hw : whyN st a = 0) (hn : ∀ e ∈ L, e.pl ≠ a) (hLb : st.L.length ≤ 1000000000)
include h hw hn hLb
set_option maxRecDepth 20000 in
theorem cput_no (hv : (kroom most (L.map absE) st).1 ≠ 0) :
    Calls Tryz.prog 49 #[.pointer (some ⟨cb, 0, none⟩), .int .i64 (a : Int), .slice ab 256 cb'] w fun e w' => ∃ fa' cf' la' cl' E', e = .returned (.int .i64 (kroom most (L.map absE) st).1) ∧ Pair w0 w' R db g fa' cf' (kroom most (L.map absE) st).2.2 cb mb la' cl' E' L most uses ∧ Off R w w' := by
  have d := h.d
  have c0 := h.k.c0
  have c2 := h.k.c2
  have hW := h.W
  obtain ⟨D, hD⟩ := h.k.hd
  obtain ⟨a2, ha2, hac, ha⟩ := why_at hW hw
  obtain rfl : a = a2 := by omega
  have hnE : ∀ e ∈ E, e.pl ≠ a := fun e he => hn e (h.k.pm.mem_iff.1 he)
  have Hw := mkHid hw
  have cT := ctaken_any w0.heap.size cb mb la cl E L most uses db w h.k g fa cf st d hW h.c.size hLb h.x a ha hn h.u
  have CT := mkHid cT
  have HV := mkHid hv
  have hv2 : ((kroom most (L.map absE) st).1 != 0) = true := by simpa using hv
  have hb256 : ((256 : Int) != 256) = false := rfl
  clear hw ha2 hv cT
  go_enter Tryz.func49, Tryz.ntmps49
  go_wp2_with (first
    | (go_at_call 92; refine (casked_any cb db w0.heap.size g fa cf st w d c0 _ hW).mono ?_; rw [Hw.out]; rintro e w' ⟨rfl, rfl⟩)
    | (at_lookup; refine wpList_lookup_none w rfl (.tmp 24) (.tmp 25) rfl hD rfl hnE ha rfl ?_)
    | (go_at_call 93; refine CT.out.mono ?_; rintro e w2 ⟨v2, fa', cf', la', cl', E2, rfl, d2, l2, g2, lk2, xk2, k0, -⟩))
  go_ret
  obtain ⟨k2, hK⟩ := k0 HV.out
  exact ⟨fa', cf', la', cl', E2, rfl, h.go d2 k2 h.u g2 (kroom_whole most _ hW) xk2 lk2 (DF_later l2), h.off g2⟩
set_option maxRecDepth 20000 in
set_option maxHeartbeats 1000000 in
theorem cput_ok (hu : uses < 9223372036854775807) (hl : b.length = 256) (gb : Reads w ab (bts b)) (hab : ∀ k, k ∈ blk ab → R k ∨ k < w0.heap.size) (hv : (kroom most (L.map absE) st).1 = 0) :
    Calls Tryz.prog 49 #[.pointer (some ⟨cb, 0, none⟩), .int .i64 (a : Int), .slice ab 256 cb'] w fun e w' => ∃ fa' cf' la' cl' E' L', e = .returned (.int .i64 0) ∧ Pair w0 w' R db g fa' cf' (kroom most (L.map absE) st).2.2 cb mb la' cl' E' L' most (uses + 1) ∧ L'.map absE = (kroom most (L.map absE) st).2.1 ++ [⟨a, b, true⟩] ∧ Off R w w' := by
  have d := h.d
  have c0 := h.k.c0
  have c2 := h.k.c2
  have hW := h.W
  obtain ⟨D, hD⟩ := h.k.hd
  obtain ⟨a2, ha2, hac, ha⟩ := why_at hW hw
  obtain rfl : a = a2 := by omega
  have hnE : ∀ e ∈ E, e.pl ≠ a := fun e he => hn e (h.k.pm.mem_iff.1 he)
  have Hw := mkHid hw
  have HB := mkHid hl
  have cT := ctaken_any w0.heap.size cb mb la cl E L most uses db w h.k g fa cf st d hW h.c.size hLb h.x a ha hn h.u
  rw [hv] at cT
  have CT := mkHid cT
  have HV := mkHid hv
  have hb256 : ((256 : Int) != 256) = false := rfl
  clear hw ha2 hv hl cT
  have grd : ∀ w2, Chg (CF cb mb la cl E ++ DF db g fa cf) w w2 → Reads w2 ab (bts b) := fun w2 g2 => gb.chg g2 (fun k hk hm => by
    rcases hab k hk with h9 | h9
    · exact (List.mem_append.1 hm).elim (h.r k h9).1 (h.r k h9).2.1
    · rcases List.mem_append.1 hm with h8 | h8
      · have := (h.k.lt k h8).1; omega
      · have := (h.d.lt k h8).1; omega)
  have GR := mkHid grd
  clear grd
  go_enter Tryz.func49, Tryz.ntmps49
  go_wp2_with (first
    | (go_at_call 92; refine (casked_any cb db w0.heap.size g fa cf st w d c0 _ hW).mono ?_; rw [Hw.out]; rintro e w' ⟨rfl, rfl⟩)
    | (at_lookup; refine wpList_lookup_none w rfl (.tmp 24) (.tmp 25) rfl hD rfl hnE ha rfl ?_)
    | (go_at_call 93; refine CT.out.mono ?_; rintro e w2 ⟨v2, fa', cf', la', cl', E2, rfl, d2, l2, g2, lk2, xk2, -, k0⟩; obtain ⟨nb, L1, rfl, hnb, k2, hL1, hsub⟩ := k0 trivial; clear k0; have rd2 := GR.out w2 g2; obtain ⟨th, ⟨v7, c7⟩, f7, g3, E3, k3, l3⟩ := k2.puts_fresh b HB.out; have cU := cuse_L w0.heap.size cb mb la' cl' E3 _ most uses db _ k3 ⟨nb, a, b, true, 0⟩ (by simp) hu)
    | (refine wpList_copy_k rfl (.tmp 43) (.tmp 44) 27 27 5 rfl Tryz.underlying27 oneB nb 1 256 256 ab 256 cb' (bts b) rfl rfl rd2 (by rw [bts_length]; exact HB.out) (by rw [bts_length, HB.out]; exact th) (bts_one _) ?_)
    | (go_at_call 94; refine cU.mono ?_; rintro e w4 ⟨rfl, E4, k4, g4, l4⟩))
  go_ret
  rw [used_head k3.bnd] at k4
  have g5 : Chg (CF cb mb la' cl' E2) w2 w4 := g3.trans g4 (fun _ h _ => h) (fun k hk _ => l3 k hk)
  have gB : Chg (CF cb mb la cl E ++ DF db g fa cf) w w4 := g2.trans g5 (fun _ h _ => h) (fun k hk hlt => (lk2 k hk).elim (fun h9 => List.mem_append_left _ h9) (fun h9 => by omega))
  refine ⟨fa', cf', la', cl', E4, _, rfl, h.go (d2.chg g5 (fun k hk hm => xk2 k hm hk)) k4 (fun e he => ?_) gB (kroom_whole most _ hW) (fun k hk => xk2 k (l3 k (l4 k hk))) (fun k hk => lk2 k (l3 k (l4 k hk))) (DF_later l2), ?_, h.off gB⟩
  · rcases List.mem_append.1 he with he | he
    · exact h.u e (hsub e he)
    · simp at he
      rw [he]
      exact Nat.succ_pos _
  · rw [List.map_append, hL1]
    rfl
end
/-- Put, as chapter 5 has it: what is told; the cache, the disk behind it. -/
def kput (n : Nat) (K : List KE) (st : RS) (z : Int) (b : List UInt8) : Int × List KE × RS :=
  if whyN st z ≠ 0 then (whyN st z, K, st) else if b.length ≠ 256 then (1, K, st) else match kfind K z.toNat with
  | some _ => (0, kdrop K z.toNat ++ [⟨z.toNat, b, true⟩], st)
  | none => if (kroom n K st).1 = 0 then (0, (kroom n K st).2.1 ++ [⟨z.toNat, b, true⟩], (kroom n K st).2.2) else ((kroom n K st).1, K, (kroom n K st).2.2)
theorem cput_any (z : Int) (ab : Option Addr) (cb' : Nat) (b : List UInt8) (w0 w : World) (R : Nat → Prop) (db : Nat) (g : DG) (fa : Option Addr) (cf : Nat) (st : RS) (cb mb : Nat) (la : Option Addr) (cl : Nat) (E L : List Ent) (most uses : Nat) (h : Pair w0 w R db g fa cf st cb mb la cl E L most uses) (hu : uses < 9223372036854775807) (hLb : st.L.length ≤ 1000000000)
    (gb : Reads w ab (bts b)) (hab : ∀ k, k ∈ blk ab → R k ∨ k < w0.heap.size) :
    Calls Tryz.prog 49 #[.pointer (some ⟨cb, 0, none⟩), .int .i64 z, .slice ab b.length cb'] w fun e w' => ∃ fa' cf' la' cl' E' L' uses', e = .returned (.int .i64 (kput most (L.map absE) st z b).1) ∧ Pair w0 w' R db g fa' cf' (kput most (L.map absE) st z b).2.2 cb mb la' cl' E' L' most uses' ∧ L'.map absE = (kput most (L.map absE) st z b).2.1 ∧ uses' ≤ uses + 1 ∧ Off R w w' := by
  unfold kput
  by_cases hw : whyN st z = 0
  · rw [if_neg (by simp [hw])]
    by_cases hl : b.length = 256
    · rw [if_neg (by simp [hl]), hl]
      obtain ⟨a, rfl, hac, ha⟩ := why_at h.W hw
      rw [Int.toNat_natCast]
      cases hf : kfind (L.map absE) a with
      | some y =>
        obtain ⟨x, hx, rfl, rfl⟩ := abs_find hf
        refine (cput_held x ab cb' b w0 w R db g fa cf st cb mb la cl E L most uses h hw hx hu hl gb).mono ?_
        rintro e w' ⟨E', L', he, p, hL, o⟩
        exact ⟨fa, cf, la, cl, E', L', uses + 1, he, p, hL, Nat.le_refl _, o⟩
      | none =>
        have hn : ∀ e ∈ L, e.pl ≠ a := fun e he => kfind_none hf (absE e) (List.mem_map.2 ⟨e, he, rfl⟩)
        simp only
        by_cases hv : (kroom most (L.map absE) st).1 = 0
        · rw [if_pos hv]
          refine (cput_ok a ab cb' b w0 w R db g fa cf st cb mb la cl E L most uses h hw hn hLb hu hl gb hab hv).mono ?_
          rintro e w' ⟨fa', cf', la', cl', E', L', he, p, hL, o⟩
          exact ⟨fa', cf', la', cl', E', L', uses + 1, he, p, hL, Nat.le_refl _, o⟩
        · rw [if_neg hv]
          refine (cput_no a ab cb' w0 w R db g fa cf st cb mb la cl E L most uses h hw hn hLb hv).mono ?_
          rintro e w' ⟨fa', cf', la', cl', E', he, p, o⟩
          exact ⟨fa', cf', la', cl', E', L, uses, he, p, rfl, Nat.le_succ _, o⟩
    · rw [if_pos hl]
      refine (cput_arg z ab b.length cb' hl w0 w R db g fa cf st cb mb la cl E L most uses h hw).mono ?_
      rintro e w' ⟨he, rfl⟩
      exact ⟨fa, cf, la, cl, E, L, uses, he, h, rfl, Nat.le_succ _, Off.keep (Chg.refl _ _)⟩
  · rw [if_pos hw]
    refine (cput_err z ab b.length cb' w0 w R db g fa cf st cb mb la cl E L most uses h hw).mono ?_
    rintro e w' ⟨he, rfl⟩
    exact ⟨fa, cf, la, cl, E, L, uses, he, h, rfl, Nat.le_succ _, Off.keep (Chg.refl _ _)⟩
end Go.Proofs.YtdgkbicelnnfpaaGreatDoor

/- The cache beside its disk: New, Drop, Held. -/
namespace Go.Proofs.YtdgkbicelnnfpaaGreatDoor
open Go.RowKit Go.Maps Go.ChangeMaps Go.MapKept
set_option linter.unusedVariables false
set_option linter.unusedSimpArgs false
attribute [local go_sem ↓] Go.wp_at_zero Go.wp_at_succ

section
variable (B db : Nat) (g : DG) (fa : Option Addr) (cf : Nat) (st : RS) (w : World) (h : DevAt w B db g fa cf st) (hW : Whole st)
include h hW
theorem cnew_raw (n : Nat) (hn : 1 ≤ n ∧ n ≤ 1024) (hB : B ≤ w.heap.size) : Calls Tryz.prog 35 #[.pointer (some ⟨db, 0, none⟩), .int .i64 (n : Int)] w fun e w' => ∃ cb mb, e = .returned (.tuple #[.pointer (some ⟨cb, 0, none⟩), .int .i64 0]) ∧ CacheAt w' B cb mb none 0 [] [] n 0 db ∧ Chg [] w w' ∧ w.heap.size ≤ cb ∧ w.heap.size ≤ mb := by
  have hc : 0 < st.count := by have := hW.1; have := h.pos; omega
  have h1 : ((st.count : Int) == 0) = false := beq_eq_false_iff_ne.2 (by omega)
  have h1' : (st.count == 0) = false := beq_eq_false_iff_ne.2 (by omega)
  have hd : decide ((n : Int) < 1) = false := decide_eq_false (by omega)
  have hd2 : decide ((1024 : Int) < (n : Int)) = false := decide_eq_false (by omega)
  have hmm := @run_makeMap Tryz.prog
  go_enter Tryz.func35, Tryz.ntmps35
  go_wp2_with (first | (go_at_call 75; refine (blocks_any B db g fa cf st w h hW).mono ?_; rintro e w' ⟨rfl, rfl⟩))
  go_ret2
  have z1 : (w.alloc (.map #[] 0)).heap.size = w.heap.size + 1 := by simp
  have m1 := World.ownsMap_made w Tryz.prog 3 ptrR
  have g1 : Chg [] w (w.alloc (.map #[] 0)) := Chg.alloc [] w _
  generalize w.alloc (.map #[] 0) = w1 at *
  have hcl := fun j => cell_of_row (w1.alloc (.cells #[.pointer (some ⟨db, 0, none⟩), .int .i64 (n : Int), .map (some w.heap.size), .slice none 0 0, .int .u64 0] 153)) w1.heap.size j _ _ _ (heap_alloc_last w1 _)
  have hfz := fun j => frozen_of_row (w1.alloc (.cells #[.pointer (some ⟨db, 0, none⟩), .int .i64 (n : Int), .map (some w.heap.size), .slice none 0 0, .int .u64 0] 153)) w1.heap.size j _ _ (heap_alloc_last w1 _)
  rw [z1] at hcl hfz
  have g2 := Chg.alloc [] w1 (.cells #[.pointer (some ⟨db, 0, none⟩), .int .i64 (n : Int), .map (some w.heap.size), .slice none 0 0, .int .u64 0] 153)
  have hH1 : HeldAt w1 w.heap.size [] (.map []) := ⟨m1, rfl, fun e he => by simp at he, fun z _ => rfl⟩
  refine ⟨w.heap.size + 1, w.heap.size, rfl, ⟨hcl 0, hcl 1, hcl 2, hcl 4, hfz 4, ⟨hcl 3, hfz 3, Room.nil _ _ _, fun i hi => by simp at hi, fun e he => by simp at he, by simp, fun e he => by simp at he, fun e he => by simp at he, by simp [fp_zero], fun e he => by simp at he, by omega, by simp⟩, fun k _ hk => by simp at hk, ⟨_, hH1.chg g2 (by simp)⟩, List.Perm.refl _, List.Pairwise.nil, fun e he => by simp at he, by simp, fun e he => by simp at he, by simp, hn, by simp [LF, fp_zero], hB⟩, g1.then g2, by omega, Nat.le_refl _⟩
end
/-- A new cache over a disk that a law holds. -/
theorem cnew_yes (n : Nat) (hn : 1 ≤ n ∧ n ≤ 1024) (w0 w : World) (R : Nat → Prop) (db : Nat) (g : DG) (fa : Option Addr) (cf : Nat) (st : RS) (d : DevAt w w0.heap.size db g fa cf st) (c : Chg [] w0 w) (hW : Whole st) (hr : ∀ k, R k → k ∉ DF db g fa cf ∧ k < w.heap.size) :
    Calls Tryz.prog 35 #[.pointer (some ⟨db, 0, none⟩), .int .i64 (n : Int)] w fun e w' => ∃ cb mb, e = .returned (.tuple #[.pointer (some ⟨cb, 0, none⟩), .int .i64 0]) ∧ Pair w0 w' R db g fa cf st cb mb none 0 [] [] n 0 ∧ Chg [] w w' := by
  refine (cnew_raw w0.heap.size db g fa cf st w d hW n hn c.size).mono ?_
  rintro e w' ⟨cb, mb, he, k, gk, hcb, hmb⟩
  have hCF : ∀ q, q ∈ CF cb mb none 0 [] → w.heap.size ≤ q := fun q hq => by
    simp only [CF, LF, fp_zero, List.map_nil, List.append_nil, List.mem_cons, List.not_mem_nil, or_false] at hq
    rcases hq with rfl | rfl <;> assumption
  exact ⟨cb, mb, he, ⟨d.keep gk, k, fun e he => by simp at he, c.then gk, hW, fun q hq hm => by have := hCF q hq; have := (d.lt q hm).2; omega, fun q hq => ⟨fun hm => by have := hCF q hm; have := (hr q hq).2; omega, (hr q hq).1, Nat.lt_of_lt_of_le (hr q hq).2 gk.size⟩⟩, gk⟩
end Go.Proofs.YtdgkbicelnnfpaaGreatDoor

/- A cache beside its disk: the calls as a law takes them, by the blocks that the cache holds. -/

namespace Go.Proofs.YtdgkbicelnnfpaaGreatDoor
open Go.RowKit Go.Maps
set_option linter.unusedVariables false
set_option linter.unusedSimpArgs false
attribute [local go_sem ↓] Go.wp_at_zero Go.wp_at_succ

theorem Reads.off {R : Nat → Prop} {w w' : World} {ao : Option Addr} {xs : List Value} (h : Reads w ao xs) (o : Off R w w') (hR : ∀ k, k ∈ blk ao → R k) : Reads w' ao xs := by
  obtain ⟨S, c, hS⟩ := o
  exact h.chg c (fun k hk hm => hS k hm (hR k hk))
theorem Room.off {R : Nat → Prop} {w w' : World} {B : Nat} {ao : Option Addr} {n c : Nat} {xs : List Value} (h : Room w B ao n c xs) (o : Off R w w') (hR : ∀ k, k ∈ fp ao c → R k) : Room w' B ao n c xs := by
  obtain ⟨S, c, hS⟩ := o
  exact h.chg c (fun k hk hm => hS k hm (hR k hk))
theorem Off.cellv {R : Nat → Prop} {w w' : World} {p : Addr} {v : Value} (o : Off R w w') (h : w.cell? p = some v) (hR : R p.block) : w'.cell? p = some v := by
  obtain ⟨S, c, hS⟩ := o
  exact c.cellv h (fun hm => hS _ hm hR)
theorem Off.then {R : Nat → Prop} {a b c : World} (h : Off R a b) (g : Chg [] b c) : Off R a c := h.trans (Off.keep g)
section
variable (w0 w : World) (R : Nat → Prop) (db : Nat) (g : DG) (fa : Option Addr) (cf : Nat) (st : RS) (cb mb : Nat) (la : Option Addr) (cl : Nat) (E L : List Ent) (most uses : Nat) (h : Pair w0 w R db g fa cf st cb mb la cl E L most uses)
include h
theorem pair_put (K K' : List KE) (v z : Int) (ab : Option Addr) (n c : Nat) (b : List UInt8) (st' : RS) (hL : L.map absE = K) (hp : kput most K st z b = (v, K', st')) (hu : uses ≤ 1000000000000000) (hLb : st.L.length ≤ 1000000000) (gb : Reads w ab (bts b)) (gn : b.length = n) (hab : ∀ k, k ∈ blk ab → R k ∨ k < w0.heap.size) :
    Calls Tryz.prog 49 #[.pointer (some ⟨cb, 0, none⟩), .int .i64 z, .slice ab n c] w fun e w' => e = .returned (.int .i64 v) ∧ ∃ fa' cf' la' cl' E' L' uses', Pair w0 w' R db g fa' cf' st' cb mb la' cl' E' L' most uses' ∧ L'.map absE = K' ∧ uses' ≤ uses + 1 ∧ Off R w w' := by
  have := cput_any z ab c b w0 w R db g fa cf st cb mb la cl E L most uses h (by omega) hLb gb hab
  rw [hL, hp, gn] at this
  refine this.mono ?_
  rintro e w' ⟨fa', cf', la', cl', E', L', uses', he, h1, h2, h3, h4⟩
  exact ⟨he, fa', cf', la', cl', E', L', uses', h1, h2, h3, h4⟩
theorem pair_get (K K' : List KE) (v z : Int) (n : Nat) (b : List UInt8) (st' : RS) (hL : L.map absE = K) (hp : kget most K st z = (v, b, K', st')) (hu : uses ≤ 1000000000000000) (hLb : st.L.length ≤ 1000000000) (gn : b.length = n) :
    Calls Tryz.prog 50 #[.pointer (some ⟨cb, 0, none⟩), .int .i64 z] w fun e w' => ∃ ao c, e = .returned (.tuple #[.slice ao n c, .int .i64 v]) ∧ Room w' w.heap.size ao n c (bts b) ∧ ∃ fa' cf' la' cl' E' L' uses', Pair w0 w' (fun k => R k ∨ k ∈ fp ao c) db g fa' cf' st' cb mb la' cl' E' L' most uses' ∧ L'.map absE = K' ∧ uses' ≤ uses + 1 ∧ Off R w w' := by
  have := cget_any z w0 w R db g fa cf st cb mb la cl E L most uses h (by omega) hLb
  rw [hL, hp, gn] at this
  refine this.mono ?_
  rintro e w' ⟨ao, c, fa', cf', la', cl', E', L', uses', he, h1, h2, h3, h4, h5⟩
  exact ⟨ao, c, he, h4, fa', cf', la', cl', E', L', uses', h1, h2, h3, h5⟩
end
end Go.Proofs.YtdgkbicelnnfpaaGreatDoor

/- What a disk reads behind a block's write; the blocks that a cache of clean ones holds. -/

namespace Go.Proofs.YtdgkbicelnnfpaaGreatDoor
open Go.RowKit Go.Maps
set_option linter.unusedVariables false
set_option linter.unusedSimpArgs false

theorem flies_four (A : Nat) (b : List UInt8) : flies A b 4 = [(4 * A + 0, secOf b 0), (4 * A + 1, secOf b 1), (4 * A + 2, secOf b 2), (4 * A + 3, secOf b 3)] := rfl
theorem lastOf_flies (s A : Nat) (b x : List UInt8) : lastOf s x (flies A b 4) = if s < 4 * A ∨ 4 * A + 4 ≤ s then x else secOf b (s - 4 * A) := by
  rw [flies_four]
  unfold lastOf
  simp only [List.foldl_cons, List.foldl_nil]
  by_cases h : s < 4 * A ∨ 4 * A + 4 ≤ s
  · rw [if_pos h, if_neg (by omega), if_neg (by omega), if_neg (by omega), if_neg (by omega)]
  · rw [if_neg h]
    have : s = 4 * A ∨ s = 4 * A + 1 ∨ s = 4 * A + 2 ∨ s = 4 * A + 3 := by omega
    rcases this with rfl | rfl | rfl | rfl
    · simp
    · simp
    · simp
    · simp
theorem lastOf_append (s : Nat) (x : List UInt8) (L M : List (Nat × List UInt8)) : lastOf s x (L ++ M) = lastOf s (lastOf s x L) M := by
  unfold lastOf
  rw [List.foldl_append]
theorem cur_written (st : RS) (A : Nat) (b : List UInt8) (s : Nat) : cur { st with L := st.L ++ flies A b 4 } s = if s < 4 * A ∨ 4 * A + 4 ≤ s then cur st s else secOf b (s - 4 * A) := by
  unfold cur
  rw [lastOf_append, lastOf_flies]
theorem reads_four (st : RS) (a : Nat) : reads st a 4 = cur st (4 * a + 0) ++ (cur st (4 * a + 1) ++ (cur st (4 * a + 2) ++ (cur st (4 * a + 3) ++ []))) := rfl
theorem sec_four (b : List UInt8) (h : b.length = 256) : secOf b 0 ++ (secOf b 1 ++ (secOf b 2 ++ (secOf b 3 ++ []))) = b := by
  have e : ∀ j k : Nat, j + 64 = k → b.drop j = (b.drop j).take 64 ++ b.drop k := fun j k e => by
    have := (List.take_append_drop 64 (b.drop j)).symm
    rwa [List.drop_drop, e] at this
  have e3 : (b.drop 192).take 64 = b.drop 192 := List.take_of_length_le (by rw [List.length_drop]; omega)
  unfold secOf
  show (b.drop 0).take 64 ++ ((b.drop 64).take 64 ++ ((b.drop 128).take 64 ++ ((b.drop 192).take 64 ++ []))) = b
  rw [List.append_nil, e3, ← e 128 192 rfl, ← e 64 128 rfl, ← e 0 64 rfl, List.drop_zero]
theorem reads_written (st : RS) (A a : Nat) (b : List UInt8) (h : b.length = 256) : reads { st with L := st.L ++ flies A b 4 } a 4 = if a = A then b else reads st a 4 := by
  rw [reads_four, cur_written, cur_written, cur_written, cur_written]
  by_cases e : a = A
  · rw [if_pos e, e, if_neg (by omega), if_neg (by omega), if_neg (by omega), if_neg (by omega), Nat.add_sub_cancel_left, Nat.add_sub_cancel_left, Nat.add_sub_cancel_left, Nat.add_sub_cancel_left]
    exact sec_four b h
  · rw [if_neg e, if_pos (by omega), if_pos (by omega), if_pos (by omega), if_pos (by omega), reads_four]
def hnext (n : Nat) (HL : List Nat) (a : Nat) : List Nat := if n < (HL.filter (fun x => x != a) ++ [a]).length then (HL.filter (fun x => x != a) ++ [a]).drop 1 else HL.filter (fun x => x != a) ++ [a]
end Go.Proofs.YtdgkbicelnnfpaaGreatDoor

/- What a cache holds, by its blocks: gets, puts, room, flush; what they leave as it was. -/

namespace Go.Proofs.YtdgkbicelnnfpaaGreatDoor
open Go.RowKit Go.Maps
set_option linter.unusedVariables false
set_option linter.unusedSimpArgs false

def kset (K : List KE) (e : KE) : List KE := kdrop K e.pl ++ [e]
theorem kfind_drop (K : List KE) (p a : Nat) : kfind (kdrop K p) a = if a = p then none else kfind K a := by
  unfold kfind kdrop
  induction K with
  | nil => simp
  | cons x r ih =>
    rw [List.filter_cons]
    by_cases h : x.pl = p
    · have h1 : (x.pl != p) = false := by simp [h]
      rw [h1, if_neg (by decide), ih]
      by_cases h2 : a = p
      · rw [if_pos h2, if_pos h2]
      · have h3 : (x.pl == a) = false := by rw [h]; simpa using fun e => h2 e.symm
        rw [if_neg h2, if_neg h2, List.find?_cons, h3]
    · have h1 : (x.pl != p) = true := by simp [h]
      rw [h1, if_pos rfl, List.find?_cons, ih, List.find?_cons]
      by_cases h3 : x.pl = a
      · have h4 : (x.pl == a) = true := by simp [h3]
        rw [h4]
        show some x = if a = p then none else some x
        rw [if_neg (by rw [← h3]; exact h)]
      · have h4 : (x.pl == a) = false := by simp [h3]
        rw [h4]
theorem kfind_append (K M : List KE) (a : Nat) : kfind (K ++ M) a = (kfind K a).or (kfind M a) := by
  unfold kfind
  rw [List.find?_append]
theorem kfind_one (e : KE) (a : Nat) : kfind [e] a = if a = e.pl then some e else none := by
  unfold kfind
  by_cases h : a = e.pl
  · rw [if_pos h]; simp [h]
  · have : (e.pl == a) = false := by simpa using fun x => h x.symm
    rw [if_neg h, List.find?_cons, this]
    rfl
theorem kfind_set (K : List KE) (e : KE) (a : Nat) : kfind (kset K e) a = if a = e.pl then some e else kfind K a := by
  unfold kset
  rw [kfind_append, kfind_drop, kfind_one]
  by_cases h : a = e.pl
  · rw [if_pos h, if_pos h, if_pos h]; rfl
  · rw [if_neg h, if_neg h, if_neg h, Option.or_none]
theorem kdrop_none {K : List KE} {a : Nat} (h : kfind K a = none) : kdrop K a = K := List.filter_eq_self.2 (fun x hx => by simpa using kfind_none h x hx)
theorem kdrop_sub (K : List KE) (a : Nat) {e : KE} (h : e ∈ kdrop K a) : e ∈ K ∧ e.pl ≠ a := by
  have := List.mem_filter.1 h
  exact ⟨this.1, by simpa using this.2⟩
theorem kset_mem (K : List KE) (x : KE) {e : KE} (h : e ∈ kset K x) : e ∈ K ∧ e.pl ≠ x.pl ∨ e = x := by
  rcases List.mem_append.1 h with h | h
  · exact Or.inl (kdrop_sub K _ h)
  · exact Or.inr (by simpa using h)
theorem kset_nodup {K : List KE} (x : KE) (h : (K.map KE.pl).Nodup) : ((kset K x).map KE.pl).Nodup := by
  unfold kset
  rw [List.map_append, List.nodup_append]
  refine ⟨(List.Sublist.map _ List.filter_sublist).nodup h, by simp, ?_⟩
  intro a ha b hb e
  obtain ⟨y, hy, rfl⟩ := List.mem_map.1 ha
  simp at hb
  exact (kdrop_sub K _ hy).2 (e.trans hb)
theorem kdrop_len {K : List KE} {a : Nat} {h : KE} (hf : kfind K a = some h) : (kdrop K a).length < K.length := by
  obtain ⟨h1, h2⟩ := kfind_some hf
  rcases Nat.lt_or_ge (kdrop K a).length K.length with h3 | h3
  · exact h3
  · unfold kdrop at h3
    have h4 := List.length_filter_le (fun e => e.pl != a) K
    have h5 := (List.length_filter_eq_length_iff.1 (Nat.le_antisymm h4 h3)) h h1
    simp [h2] at h5
theorem kset_len {K : List KE} {x h : KE} (hf : kfind K x.pl = some h) : (kset K x).length ≤ K.length := by
  have := kdrop_len hf
  unfold kset
  rw [List.length_append, List.length_singleton]
  omega
/-! ### flush -/
def kall (K : List KE) : List KE := K.map (fun e => ⟨e.pl, e.bs, false⟩)
end Go.Proofs.YtdgkbicelnnfpaaGreatDoor

/- What is got is what was put last, or what the disk had: a cache and its disk, as one. -/

namespace Go.Proofs.YtdgkbicelnnfpaaGreatDoor
open Go.RowKit Go.Maps
set_option linter.unusedVariables false
set_option linter.unusedSimpArgs false

/-- The bytes of a block, wherever they are. -/
def kval (K : List KE) (st : RS) (a : Nat) : List UInt8 := match kfind K a with | some e => e.bs | none => reads st a 4
theorem kval_some {K : List KE} {st : RS} {a : Nat} {e : KE} (h : kfind K a = some e) : kval K st a = e.bs := by unfold kval; rw [h]
theorem kval_none {K : List KE} {st : RS} {a : Nat} (h : kfind K a = none) : kval K st a = reads st a 4 := by unfold kval; rw [h]
structure Good (n : Nat) (K : List KE) (st : RS) : Prop where
  nd : (K.map KE.pl).Nodup
  lt : ∀ e ∈ K, e.pl < n
  len : ∀ e ∈ K, e.bs.length = 256
  cl : ∀ e ∈ K, e.dirty = false → e.bs = reads st e.pl 4
  g : st.gone = false
  l : st.left = 0
  c : st.count = n
theorem Good.why {n : Nat} {K : List KE} {st : RS} (h : Good n K st) {a : Nat} (ha : a < n) : whyN st (a : Int) = 0 := by
  unfold whyN
  rw [h.g, h.c, if_neg (by decide), if_neg (by omega)]
theorem kfind_cons (x : KE) (K : List KE) (a : Nat) : kfind (x :: K) a = if a = x.pl then some x else kfind K a := by
  unfold kfind
  rw [List.find?_cons]
  by_cases h : a = x.pl
  · rw [if_pos h]; simp [h]
  · have : (x.pl == a) = false := by simpa using fun e => h e.symm
    rw [if_neg h, this]
theorem kfind_not {K : List KE} {a : Nat} (h : a ∉ K.map KE.pl) : kfind K a = none := by
  cases hf : kfind K a with
  | none => rfl
  | some e =>
    obtain ⟨h1, h2⟩ := kfind_some hf
    exact absurd (List.mem_map.2 ⟨e, h1, h2⟩) h
/-- Room is made. -/
theorem Good.room {n : Nat} {K : List KE} {st : RS} (h : Good n K st) (most : Nat) (hm : 1 ≤ most) (hl : K.length ≤ most) :
    ∃ K' st', kroom most K st = (0, K', st') ∧ Good n K' st' ∧ K'.length < most ∧ (∀ a, kval K' st' a = kval K st a) ∧ (∀ a, kfind K a = none → kfind K' a = none ∧ reads st' a 4 = reads st a 4) ∧ st'.L.length ≤ st.L.length + 4 := by
  by_cases hlt : K.length < most
  · exact ⟨K, st, kroom_room hlt, h, hlt, fun _ => rfl, fun a hf => ⟨hf, rfl⟩, Nat.le_add_right _ _⟩
  · cases K with
    | nil => simp at hlt; omega
    | cons x T =>
      have hx := h.lt x (by simp)
      have hxl := h.len x (by simp)
      have hnd := h.nd
      rw [List.map_cons, List.nodup_cons] at hnd
      have hT : kfind T x.pl = none := kfind_not hnd.1
      have hlen : T.length < most := by simp at hl; omega
      have key : ∀ st', st'.gone = false → st'.left = 0 → st'.count = n → (∀ a, reads st' a 4 = if a = x.pl then x.bs else reads st a 4) → Good n T st' ∧ (∀ a, kval T st' a = kval (x :: T) st a) ∧ (∀ a, kfind (x :: T) a = none → kfind T a = none ∧ reads st' a 4 = reads st a 4) := by
        intro st' g1 g2 g3 hr
        refine ⟨⟨hnd.2, fun e he => h.lt e (by simp [he]), fun e he => h.len e (by simp [he]), fun e he hd => ?_, g1, g2, g3⟩, fun a => ?_, fun a hf => ?_⟩
        · rw [hr, if_neg (fun e1 => hnd.1 (by rw [← e1]; exact List.mem_map.2 ⟨e, he, rfl⟩))]
          exact h.cl e (by simp [he]) hd
        · by_cases e1 : a = x.pl
          · subst e1
            rw [kval_none hT, hr, if_pos rfl, kval_some (e := x) (by rw [kfind_cons, if_pos rfl])]
          · unfold kval
            rw [kfind_cons, if_neg e1]
            cases kfind T a with
            | some e => rfl
            | none => simp only; rw [hr, if_neg e1]
        · rw [kfind_cons] at hf
          by_cases e1 : a = x.pl
          · rw [if_pos e1] at hf; cases hf
          · rw [if_neg e1] at hf
            exact ⟨hf, by rw [hr, if_neg e1]⟩
      cases hd : x.dirty with
      | false =>
        have hw : kwrote x st = (0, st) := by unfold kwrote; rw [hd]; rfl
        obtain ⟨k1, k2, k3⟩ := key st h.g h.l h.c (fun a => by
          by_cases e1 : a = x.pl
          · rw [if_pos e1, e1]; exact (h.cl x (by simp) hd).symm
          · rw [if_neg e1])
        exact ⟨T, st, by rw [kroom_ok (by simpa using hlt) (by rw [hw]), hw], k1, hlen, k2, k3, Nat.le_add_right _ _⟩
      | true =>
        have hw : kwrote x st = (0, { st with L := st.L ++ flies x.pl x.bs 4 }) := by
          unfold kwrote
          rw [hd, if_pos rfl, write_plain st x.pl x.bs h.g h.l (by rw [h.c]; exact hx) hxl]
        obtain ⟨k1, k2, k3⟩ := key { st with L := st.L ++ flies x.pl x.bs 4 } h.g h.l h.c (fun a => reads_written st x.pl a x.bs hxl)
        exact ⟨T, _, by rw [kroom_ok (by simpa using hlt) (by rw [hw]), hw], k1, hlen, k2, k3, by show (st.L ++ flies x.pl x.bs 4).length ≤ _; rw [List.length_append, flies_len]; exact Nat.le_refl _⟩
theorem kset_none {K : List KE} {x : KE} (h : kfind K x.pl = none) : kset K x = K ++ [x] := by unfold kset; rw [kdrop_none h]
theorem kval_set (K : List KE) (st : RS) (x : KE) (a : Nat) : kval (kset K x) st a = if a = x.pl then x.bs else kval K st a := by
  unfold kval
  rw [kfind_set]
  by_cases h : a = x.pl
  · rw [if_pos h, if_pos h]
  · rw [if_neg h, if_neg h]
theorem Good.set {n : Nat} {K : List KE} {st : RS} (h : Good n K st) (x : KE) (hx : x.pl < n) (hl : x.bs.length = 256) (hc : x.dirty = false → x.bs = reads st x.pl 4) : Good n (kset K x) st := by
  refine ⟨kset_nodup _ h.nd, fun e he => ?_, fun e he => ?_, fun e he hd => ?_, h.g, h.l, h.c⟩
  · rcases kset_mem K _ he with h1 | rfl
    · exact h.lt e h1.1
    · exact hx
  · rcases kset_mem K _ he with h1 | rfl
    · exact h.len e h1.1
    · exact hl
  · rcases kset_mem K _ he with h1 | rfl
    · exact h.cl e h1.1 hd
    · exact hc hd
theorem Good.put {n : Nat} {K : List KE} {st : RS} (h : Good n K st) (most : Nat) (hm : 1 ≤ most) (hl : K.length ≤ most) {a : Nat} (ha : a < n) {b : List UInt8} (hb : b.length = 256) :
    ∃ K' st', kput most K st (a : Int) b = (0, K', st') ∧ Good n K' st' ∧ K'.length ≤ most ∧ (∀ x, kval K' st' x = if x = a then b else kval K st x) ∧ st'.L.length ≤ st.L.length + 4 := by
  unfold kput
  rw [if_neg (by simp [h.why ha]), if_neg (by simp [hb]), Int.toNat_natCast]
  cases hf : kfind K a with
  | some y => exact ⟨kset K ⟨a, b, true⟩, st, rfl, h.set _ ha hb (fun h => by cases h), Nat.le_trans (kset_len (x := ⟨a, b, true⟩) hf) hl, fun x => kval_set K st ⟨a, b, true⟩ x, Nat.le_add_right _ _⟩
  | none =>
    obtain ⟨K1, st1, e1, g1, l1, v1, f1, b1⟩ := h.room most hm hl
    simp only
    rw [e1, if_pos rfl]
    have hf1 := (f1 a hf).1
    refine ⟨kset K1 ⟨a, b, true⟩, st1, by rw [kset_none (x := ⟨a, b, true⟩) hf1], g1.set _ ha hb (fun h => by cases h), ?_, fun x => ?_, b1⟩
    · rw [kset_none (x := ⟨a, b, true⟩) hf1, List.length_append, List.length_singleton]; omega
    · rw [kval_set, v1]
theorem Good.get {n : Nat} {K : List KE} {st : RS} (h : Good n K st) (most : Nat) (hm : 1 ≤ most) (hl : K.length ≤ most) {a : Nat} (ha : a < n) (hr : (reads st a 4).length = 256) :
    ∃ K' st', kget most K st (a : Int) = (0, kval K st a, K', st') ∧ Good n K' st' ∧ K'.length ≤ most ∧ (∀ x, kval K' st' x = kval K st x) ∧ st'.L.length ≤ st.L.length + 4 := by
  unfold kget
  rw [if_neg (by simp [h.why ha]), Int.toNat_natCast]
  cases hf : kfind K a with
  | some y =>
    obtain ⟨h1, h2⟩ := kfind_some hf
    refine ⟨kset K y, st, ?_, h.set y (h.lt y h1) (h.len y h1) (fun hd => h.cl y h1 hd), Nat.le_trans (kset_len (x := y) (by rw [h2]; exact hf)) hl, fun x => ?_, Nat.le_add_right _ _⟩
    · simp only
      rw [kval_some hf]
      unfold kset
      rw [h2]
    · rw [kval_set]
      by_cases e : x = y.pl
      · rw [if_pos e, e, h2, kval_some hf]
      · rw [if_neg e]
  | none =>
    obtain ⟨K1, st1, e1, g1, l1, v1, f1, b1⟩ := h.room most hm hl
    simp only
    rw [e1, if_pos rfl]
    obtain ⟨hf1, hr1⟩ := f1 a hf
    refine ⟨kset K1 ⟨a, reads st a 4, false⟩, st1, by rw [kset_none (x := ⟨a, reads st a 4, false⟩) hf1, kval_none hf], g1.set _ ha hr (fun _ => hr1.symm), ?_, fun x => ?_, b1⟩
    · rw [kset_none (x := ⟨a, reads st a 4, false⟩) hf1, List.length_append, List.length_singleton]; omega
    · rw [kval_set]
      show (if x = a then _ else _) = _
      by_cases e : x = a
      · rw [if_pos e, e, kval_none hf]
      · rw [if_neg e, v1]
theorem Good.drop {n : Nat} {K : List KE} {st : RS} (h : Good n K st) : Good n [] st := ⟨by simp, by simp, by simp, by simp, h.g, h.l, h.c⟩
/-- Behind a flush all is on the disk. -/
theorem Good.all {n : Nat} {K : List KE} {st : RS} (h : Good n (kall K) st) (a : Nat) : kval (kall K) st a = reads st a 4 := by
  unfold kval
  cases hf : kfind (kall K) a with
  | none => rfl
  | some e =>
    obtain ⟨h1, rfl⟩ := kfind_some hf
    refine h.cl e h1 ?_
    obtain ⟨y, _, rfl⟩ := List.mem_map.1 h1
    rfl
end Go.Proofs.YtdgkbicelnnfpaaGreatDoor
