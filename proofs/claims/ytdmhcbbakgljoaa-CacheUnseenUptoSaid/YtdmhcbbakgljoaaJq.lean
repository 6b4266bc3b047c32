/- The cache beside its disk: Put. -/
import Derived.Test.YtdmhcbbakgljoaaJp
namespace Go.Proofs.Ytdmhcbbakgljoaa
open Go.RowKit Go.Maps
set_option linter.unusedVariables false
set_option linter.unusedSimpArgs false
attribute [local go_sem ↓] Go.wp_at_zero Go.wp_at_succ

theorem updL_updL (L : List Ent) (x y : Ent) (h : x.b = y.b) : updL (updL L x) y = updL L y := by
  unfold updL
  rw [List.map_map]
  refine List.map_congr_left fun e he => ?_
  show (if (if e.b = x.b then x else e).b = y.b then y else if e.b = x.b then x else e) = if e.b = y.b then y else e
  by_cases h1 : e.b = x.b
  · rw [if_pos h1, if_pos h, if_pos (h1.trans h)]
  · rw [if_neg h1]
theorem drop_abs {L : List Ent} (hb : (L.map Ent.b).Nodup) (hp : (L.map Ent.pl).Nodup) {x : Ent} (hx : x ∈ L) : (L.filter (fun e => e.b != x.b)).map absE = kdrop (L.map absE) x.pl := by
  have := abs_used hb hp hx 0
  unfold used at this
  rw [List.map_append] at this
  exact (List.append_inj' this rfl).1
/-- A block with other bytes, dirty. -/
def Ent.put (x : Ent) (b : List UInt8) : Ent := ⟨x.b, x.pl, b, true, x.used⟩
/-- What is left of a Put, once the block is there: its bytes, the mark. -/
theorem CacheAt.puts {w : World} {B cb mb : Nat} {la : Option Addr} {cl : Nat} {E L : List Ent} {most uses db : Nat} (h : CacheAt w B cb mb la cl E L most uses db) {x : Ent} (hx : x ∈ L) (b : List UInt8) (hl : b.length = 256) :
    w.there x.b 1 256 ∧ (∃ v, (w.setCells x.b 1 (bts b)).cell? ⟨x.b, 257, none⟩ = some v) ∧ (w.setCells x.b 1 (bts b)).frozen? ⟨x.b, 257, none⟩ = false ∧ Chg (CF cb mb la cl E) w ((w.setCells x.b 1 (bts b)).setCell ⟨x.b, 257, none⟩ (.bool true)) ∧
      ∃ E', CacheAt ((w.setCells x.b 1 (bts b)).setCell ⟨x.b, 257, none⟩ (.bool true)) B cb mb la cl E' (updL L (x.put b)) most uses db ∧ ∀ k, k ∈ CF cb mb la cl E' → k ∈ CF cb mb la cl E := by
  have hm := h.mem hx
  obtain ⟨i, hb⟩ := h.blk hx
  obtain ⟨E1, k1, l1⟩ := h.bytes hx b hl
  have hx1 : (⟨x.b, x.pl, b, x.dirty, x.used⟩ : Ent) ∈ updL L ⟨x.b, x.pl, b, x.dirty, x.used⟩ := updL_mem hx rfl
  obtain ⟨i1, hb1⟩ := k1.blk hx1
  obtain ⟨E2, k2, l2⟩ := k1.dirties hx1 true
  have k3 : CacheAt ((w.setCells x.b 1 (bts b)).setCell ⟨x.b, 257, none⟩ (.bool true)) B cb mb la cl E2 (updL (updL L ⟨x.b, x.pl, b, x.dirty, x.used⟩) (x.put b)) most uses db := k2
  rw [updL_updL L ⟨x.b, x.pl, b, x.dirty, x.used⟩ (x.put b) rfl] at k3
  exact ⟨hb.there 1 256 (by rw [entV_len hm.2]; omega), ⟨_, hb1.cell 257 _ (entV_dirty hl)⟩, hb1.frozen 257, (Chg.setCells x.b _ 1 w).trans (Chg.setCell _ ⟨x.b, 257, none⟩ _) (fun k hk _ => by simp at hk; rw [hk]; exact hm.1) (fun k hk _ => by simp at hk; rw [hk]; exact hm.1), E2, k3, fun k hk => l1 k (l2 k hk)⟩
theorem cput_err (z : Int) (ab : Option Addr) (nb cb' : Nat) (w0 w : World) (R : Nat → Prop) (db : Nat) (g : DG) (fa : Option Addr) (cf : Nat) (st : RS) (cb mb : Nat) (la : Option Addr) (cl : Nat) (E L : List Ent) (most uses : Nat) (h : Pair w0 w R db g fa cf st cb mb la cl E L most uses) (hw : whyN st z ≠ 0) :
    Calls Try.prog 11 #[.pointer (some ⟨cb, 0, none⟩), .int .i64 z, .slice ab nb cb'] w fun e w' => e = .returned (.int .i64 (whyN st z)) ∧ w = w' := by
  have e1 : (whyN st z != 0) = true := by simpa using hw
  have d := h.d
  have c0 := h.k.c0
  have hW := h.W
  go_enter Try.func11, Try.ntmps11
  go_wp2_with (first | (go_at_call 26; refine (casked_any cb db w0.heap.size g fa cf st w d c0 z hW).mono ?_; rintro e w' ⟨rfl, rfl⟩))
  go_ret
  exact ⟨rfl, rfl⟩
theorem cput_arg (z : Int) (ab : Option Addr) (nb cb' : Nat) (hnb : nb ≠ 256) (w0 w : World) (R : Nat → Prop) (db : Nat) (g : DG) (fa : Option Addr) (cf : Nat) (st : RS) (cb mb : Nat) (la : Option Addr) (cl : Nat) (E L : List Ent) (most uses : Nat) (h : Pair w0 w R db g fa cf st cb mb la cl E L most uses) (hw : whyN st z = 0) :
    Calls Try.prog 11 #[.pointer (some ⟨cb, 0, none⟩), .int .i64 z, .slice ab nb cb'] w fun e w' => e = .returned (.int .i64 1) ∧ w = w' := by
  have Hw := mkHid hw
  have e1 : ((nb : Int) != 256) = true := by simp; omega
  have d := h.d
  have c0 := h.k.c0
  have hW := h.W
  clear hw
  go_enter Try.func11, Try.ntmps11
  go_wp2_with (first | (go_at_call 26; refine (casked_any cb db w0.heap.size g fa cf st w d c0 z hW).mono ?_; rw [Hw.out]; rintro e w' ⟨rfl, rfl⟩))
  go_ret
  exact ⟨rfl, rfl⟩
set_option maxRecDepth 20000 in
set_option maxHeartbeats 1000000 in
theorem cput_held (x : Ent) (ab : Option Addr) (cb' : Nat) (b : List UInt8) (w0 w : World) (R : Nat → Prop) (db : Nat) (g : DG) (fa : Option Addr) (cf : Nat) (st : RS) (cb mb : Nat) (la : Option Addr) (cl : Nat) (E L : List Ent) (most uses : Nat) (h : Pair w0 w R db g fa cf st cb mb la cl E L most uses) (hw : whyN st x.pl = 0) (hx : x ∈ L) (hu : uses < 9223372036854775807)
    (hl : b.length = 256) (gb : Reads w ab (bts b)) :
    Calls Try.prog 11 #[.pointer (some ⟨cb, 0, none⟩), .int .i64 (x.pl : Int), .slice ab 256 cb'] w fun e w' => ∃ E' L', e = .returned (.int .i64 0) ∧ Pair w0 w' R db g fa cf st cb mb la cl E' L' most (uses + 1) ∧ L'.map absE = kdrop (L.map absE) x.pl ++ [⟨x.pl, b, true⟩] ∧ Off R w w' := by
  have d := h.d
  have c0 := h.k.c0
  have c2 := h.k.c2
  have hW := h.W
  obtain ⟨D, hD⟩ := h.k.hd
  have hpl := h.k.pl x hx
  have hxE := h.k.pm.mem_iff.2 hx
  have Hw := mkHid hw
  have HB := mkHid hl
  obtain ⟨th, ⟨v7, c7⟩, f7, g2, E2, k2, l2⟩ := h.k.puts hx b hl
  have cU := cuse_L w0.heap.size cb mb la cl E2 _ most uses db _ k2 (x.put b) (updL_mem hx rfl) hu
  have hb256 : ((256 : Int) != 256) = false := rfl
  clear hw hl
  go_enter Try.func11, Try.ntmps11
  go_wp2_with (first
    | (go_at_call 26; refine (casked_any cb db w0.heap.size g fa cf st w d c0 _ hW).mono ?_; rw [Hw.out]; rintro e w' ⟨rfl, rfl⟩)
    | (at_lookup; refine wpList_lookup_held w rfl (.tmp 24) (.tmp 25) rfl hD rfl hxE hpl rfl ?_)
    | (refine wpList_copy_k rfl (.tmp 43) (.tmp 44) 31 31 5 rfl Try.underlying31 oneB x.b 1 256 256 ab 256 cb' (bts b) rfl rfl gb (by rw [bts_length]; exact HB.out) (by rw [bts_length, HB.out]; exact th) (bts_one _) ?_)
    | (go_at_call 28; refine cU.mono ?_; rintro e w4 ⟨rfl, E4, k4, g4, l4⟩))
  go_ret
  have g5 : Chg (CF cb mb la cl E) w w4 := g2.trans g4 (fun _ h _ => h) (fun k hk _ => l2 k hk)
  have gA : Chg (CF cb mb la cl E ++ DF db g fa cf) w w4 := g5.mono (fun k hk _ => List.mem_append_left _ hk)
  have hmap : (used (updL L (x.put b)) (x.put b) (uses + 1)).map absE = kdrop (L.map absE) x.pl ++ [⟨x.pl, b, true⟩] := by
    rw [updL_used (L := L) (x := x) (y := x.put b) (uses + 1) rfl, drop_abs h.k.bnd h.k.np hx]
    rfl
  refine ⟨E4, _, rfl, h.go (d.chg g5 (fun k hk hm => h.x k hm hk)) k4 (fun e he => ?_) gA hW (fun k hk => h.x k (l2 k (l4 k hk))) (fun k hk => Or.inl (l2 k (l4 k hk))) (fun k hk => Or.inl hk), hmap, h.off gA⟩
  unfold used updL at he
  rw [List.mem_append, List.mem_filter, List.mem_singleton, List.mem_map] at he
  rcases he with ⟨⟨y, hy, rfl⟩, hb⟩ | rfl
  · split
    · exact h.u x hx
    · exact h.u y hy
  · exact Nat.succ_pos _
theorem CacheAt.puts_fresh {w : World} {B cb mb : Nat} {la : Option Addr} {cl : Nat} {E L1 : List Ent} {most uses db nb a : Nat} (h : CacheAt w B cb mb la cl E (fresh nb a :: L1) most uses db) (b : List UInt8) (hl : b.length = 256) :
    w.there nb 1 256 ∧ (∃ v, (w.setCells nb 1 (bts b)).cell? ⟨nb, 257, none⟩ = some v) ∧ (w.setCells nb 1 (bts b)).frozen? ⟨nb, 257, none⟩ = false ∧ Chg (CF cb mb la cl E) w ((w.setCells nb 1 (bts b)).setCell ⟨nb, 257, none⟩ (.bool true)) ∧
      ∃ E', CacheAt ((w.setCells nb 1 (bts b)).setCell ⟨nb, 257, none⟩ (.bool true)) B cb mb la cl E' (⟨nb, a, b, true, 0⟩ :: L1) most uses db ∧ ∀ k, k ∈ CF cb mb la cl E' → k ∈ CF cb mb la cl E := by
  have e : updL (fresh nb a :: L1) ((fresh nb a).put b) = ⟨nb, a, b, true, 0⟩ :: L1 := updL_tail h.bnd _ rfl
  rw [← e]
  exact h.puts (x := fresh nb a) (by simp) b hl
section
variable (a : Nat) (ab : Option Addr) (cb' : Nat) (b : List UInt8) (w0 w : World) (R : Nat → Prop) (db : Nat) (g : DG) (fa : Option Addr) (cf : Nat) (st : RS) (cb mb : Nat) (la : Option Addr) (cl : Nat) (E L : List Ent) (most uses : Nat) (h : Pair w0 w R db g fa cf st cb mb la cl E L most uses) (hw : whyN st a = 0) (hn : ∀ e ∈ L, e.pl ≠ a) (hLb : st.L.length ≤ 1000000000)
include h hw hn hLb
set_option maxRecDepth 20000 in
theorem cput_no (hv : (kroom most (L.map absE) st).1 ≠ 0) :
    Calls Try.prog 11 #[.pointer (some ⟨cb, 0, none⟩), .int .i64 (a : Int), .slice ab 256 cb'] w fun e w' => ∃ fa' cf' la' cl' E', e = .returned (.int .i64 (kroom most (L.map absE) st).1) ∧ Pair w0 w' R db g fa' cf' (kroom most (L.map absE) st).2.2 cb mb la' cl' E' L most uses ∧ Off R w w' := by
  have d := h.d
  have c0 := h.k.c0
  have c2 := h.k.c2
  have hW := h.W
  obtain ⟨D, hD⟩ := h.k.hd
  obtain ⟨a2, ha2, hac, ha⟩ := why_at hW hw
  obtain rfl : a = a2 := by omega
  have hnE : ∀ e ∈ E, e.pl ≠ a := fun e he => hn e (h.k.pm.mem_iff.1 he)
  have Hw := mkHid hw
  have cT := ctaken_any w0.heap.size cb mb la cl E L most uses db w h.k g fa cf st d hW h.c.size hLb h.x a ha hn h.u
  have CT := mkHid cT
  have HV := mkHid hv
  have hv2 : ((kroom most (L.map absE) st).1 != 0) = true := by simpa using hv
  have hb256 : ((256 : Int) != 256) = false := rfl
  clear hw ha2 hv cT
  go_enter Try.func11, Try.ntmps11
  go_wp2_with (first
    | (go_at_call 26; refine (casked_any cb db w0.heap.size g fa cf st w d c0 _ hW).mono ?_; rw [Hw.out]; rintro e w' ⟨rfl, rfl⟩)
    | (at_lookup; refine wpList_lookup_none w rfl (.tmp 24) (.tmp 25) rfl hD rfl hnE ha rfl ?_)
    | (go_at_call 27; refine CT.out.mono ?_; rintro e w2 ⟨v2, fa', cf', la', cl', E2, rfl, d2, l2, g2, lk2, xk2, k0, -⟩))
  go_ret
  obtain ⟨k2, hK⟩ := k0 HV.out
  exact ⟨fa', cf', la', cl', E2, rfl, h.go d2 k2 h.u g2 (kroom_whole most _ hW) xk2 lk2 (DF_later l2), h.off g2⟩
set_option maxRecDepth 20000 in
set_option maxHeartbeats 1000000 in
theorem cput_ok (hu : uses < 9223372036854775807) (hl : b.length = 256) (gb : Reads w ab (bts b)) (hab : ∀ k, k ∈ blk ab → R k ∨ k < w0.heap.size) (hv : (kroom most (L.map absE) st).1 = 0) :
    Calls Try.prog 11 #[.pointer (some ⟨cb, 0, none⟩), .int .i64 (a : Int), .slice ab 256 cb'] w fun e w' => ∃ fa' cf' la' cl' E' L', e = .returned (.int .i64 0) ∧ Pair w0 w' R db g fa' cf' (kroom most (L.map absE) st).2.2 cb mb la' cl' E' L' most (uses + 1) ∧ L'.map absE = (kroom most (L.map absE) st).2.1 ++ [⟨a, b, true⟩] ∧ Off R w w' := by
  have d := h.d
  have c0 := h.k.c0
  have c2 := h.k.c2
  have hW := h.W
  obtain ⟨D, hD⟩ := h.k.hd
  obtain ⟨a2, ha2, hac, ha⟩ := why_at hW hw
  obtain rfl : a = a2 := by omega
  have hnE : ∀ e ∈ E, e.pl ≠ a := fun e he => hn e (h.k.pm.mem_iff.1 he)
  have Hw := mkHid hw
  have HB := mkHid hl
  have cT := ctaken_any w0.heap.size cb mb la cl E L most uses db w h.k g fa cf st d hW h.c.size hLb h.x a ha hn h.u
  rw [hv] at cT
  have CT := mkHid cT
  have HV := mkHid hv
  have hb256 : ((256 : Int) != 256) = false := rfl
  clear hw ha2 hv hl cT
  have grd : ∀ w2, Chg (CF cb mb la cl E ++ DF db g fa cf) w w2 → Reads w2 ab (bts b) := fun w2 g2 => gb.chg g2 (fun k hk hm => by
    rcases hab k hk with h9 | h9
    · exact (List.mem_append.1 hm).elim (h.r k h9).1 (h.r k h9).2.1
    · rcases List.mem_append.1 hm with h8 | h8
      · have := (h.k.lt k h8).1; omega
      · have := (h.d.lt k h8).1; omega)
  have GR := mkHid grd
  clear grd
  go_enter Try.func11, Try.ntmps11
  go_wp2_with (first
    | (go_at_call 26; refine (casked_any cb db w0.heap.size g fa cf st w d c0 _ hW).mono ?_; rw [Hw.out]; rintro e w' ⟨rfl, rfl⟩)
    | (at_lookup; refine wpList_lookup_none w rfl (.tmp 24) (.tmp 25) rfl hD rfl hnE ha rfl ?_)
    | (go_at_call 27; refine CT.out.mono ?_; rintro e w2 ⟨v2, fa', cf', la', cl', E2, rfl, d2, l2, g2, lk2, xk2, -, k0⟩; obtain ⟨nb, L1, rfl, hnb, k2, hL1, hsub⟩ := k0 trivial; clear k0; have rd2 := GR.out w2 g2; obtain ⟨th, ⟨v7, c7⟩, f7, g3, E3, k3, l3⟩ := k2.puts_fresh b HB.out; have cU := cuse_L w0.heap.size cb mb la' cl' E3 _ most uses db _ k3 ⟨nb, a, b, true, 0⟩ (by simp) hu)
    | (refine wpList_copy_k rfl (.tmp 43) (.tmp 44) 31 31 5 rfl Try.underlying31 oneB nb 1 256 256 ab 256 cb' (bts b) rfl rfl rd2 (by rw [bts_length]; exact HB.out) (by rw [bts_length, HB.out]; exact th) (bts_one _) ?_)
    | (go_at_call 28; refine cU.mono ?_; rintro e w4 ⟨rfl, E4, k4, g4, l4⟩))
  go_ret
  rw [used_head k3.bnd] at k4
  have g5 : Chg (CF cb mb la' cl' E2) w2 w4 := g3.trans g4 (fun _ h _ => h) (fun k hk _ => l3 k hk)
  have gB : Chg (CF cb mb la cl E ++ DF db g fa cf) w w4 := g2.trans g5 (fun _ h _ => h) (fun k hk hlt => (lk2 k hk).elim (fun h9 => List.mem_append_left _ h9) (fun h9 => by omega))
  refine ⟨fa', cf', la', cl', E4, _, rfl, h.go (d2.chg g5 (fun k hk hm => xk2 k hm hk)) k4 (fun e he => ?_) gB (kroom_whole most _ hW) (fun k hk => xk2 k (l3 k (l4 k hk))) (fun k hk => lk2 k (l3 k (l4 k hk))) (DF_later l2), ?_, h.off gB⟩
  · rcases List.mem_append.1 he with he | he
    · exact h.u e (hsub e he)
    · simp at he
      rw [he]
      exact Nat.succ_pos _
  · rw [List.map_append, hL1]
    rfl
end
/-- Put, as chapter 5 has it: what is told; the cache, the disk behind it. -/
def kput (n : Nat) (K : List KE) (st : RS) (z : Int) (b : List UInt8) : Int × List KE × RS :=
  if whyN st z ≠ 0 then (whyN st z, K, st) else if b.length ≠ 256 then (1, K, st) else match kfind K z.toNat with
  | some _ => (0, kdrop K z.toNat ++ [⟨z.toNat, b, true⟩], st)
  | none => if (kroom n K st).1 = 0 then (0, (kroom n K st).2.1 ++ [⟨z.toNat, b, true⟩], (kroom n K st).2.2) else ((kroom n K st).1, K, (kroom n K st).2.2)
theorem cput_any (z : Int) (ab : Option Addr) (cb' : Nat) (b : List UInt8) (w0 w : World) (R : Nat → Prop) (db : Nat) (g : DG) (fa : Option Addr) (cf : Nat) (st : RS) (cb mb : Nat) (la : Option Addr) (cl : Nat) (E L : List Ent) (most uses : Nat) (h : Pair w0 w R db g fa cf st cb mb la cl E L most uses) (hu : uses < 9223372036854775807) (hLb : st.L.length ≤ 1000000000)
    (gb : Reads w ab (bts b)) (hab : ∀ k, k ∈ blk ab → R k ∨ k < w0.heap.size) :
    Calls Try.prog 11 #[.pointer (some ⟨cb, 0, none⟩), .int .i64 z, .slice ab b.length cb'] w fun e w' => ∃ fa' cf' la' cl' E' L' uses', e = .returned (.int .i64 (kput most (L.map absE) st z b).1) ∧ Pair w0 w' R db g fa' cf' (kput most (L.map absE) st z b).2.2 cb mb la' cl' E' L' most uses' ∧ L'.map absE = (kput most (L.map absE) st z b).2.1 ∧ uses' ≤ uses + 1 ∧ Off R w w' := by
  unfold kput
  by_cases hw : whyN st z = 0
  · rw [if_neg (by simp [hw])]
    by_cases hl : b.length = 256
    · rw [if_neg (by simp [hl]), hl]
      obtain ⟨a, rfl, hac, ha⟩ := why_at h.W hw
      rw [Int.toNat_natCast]
      cases hf : kfind (L.map absE) a with
      | some y =>
        obtain ⟨x, hx, rfl, rfl⟩ := abs_find hf
        refine (cput_held x ab cb' b w0 w R db g fa cf st cb mb la cl E L most uses h hw hx hu hl gb).mono ?_
        rintro e w' ⟨E', L', he, p, hL, o⟩
        exact ⟨fa, cf, la, cl, E', L', uses + 1, he, p, hL, Nat.le_refl _, o⟩
      | none =>
        have hn : ∀ e ∈ L, e.pl ≠ a := fun e he => kfind_none hf (absE e) (List.mem_map.2 ⟨e, he, rfl⟩)
        simp only
        by_cases hv : (kroom most (L.map absE) st).1 = 0
        · rw [if_pos hv]
          refine (cput_ok a ab cb' b w0 w R db g fa cf st cb mb la cl E L most uses h hw hn hLb hu hl gb hab hv).mono ?_
          rintro e w' ⟨fa', cf', la', cl', E', L', he, p, hL, o⟩
          exact ⟨fa', cf', la', cl', E', L', uses + 1, he, p, hL, Nat.le_refl _, o⟩
        · rw [if_neg hv]
          refine (cput_no a ab cb' w0 w R db g fa cf st cb mb la cl E L most uses h hw hn hLb hv).mono ?_
          rintro e w' ⟨fa', cf', la', cl', E', he, p, o⟩
          exact ⟨fa', cf', la', cl', E', L, uses, he, p, rfl, Nat.le_succ _, o⟩
    · rw [if_pos hl]
      refine (cput_arg z ab b.length cb' hl w0 w R db g fa cf st cb mb la cl E L most uses h hw).mono ?_
      rintro e w' ⟨he, rfl⟩
      exact ⟨fa, cf, la, cl, E, L, uses, he, h, rfl, Nat.le_succ _, Off.keep (Chg.refl _ _)⟩
  · rw [if_pos hw]
    refine (cput_err z ab b.length cb' w0 w R db g fa cf st cb mb la cl E L most uses h hw).mono ?_
    rintro e w' ⟨he, rfl⟩
    exact ⟨fa, cf, la, cl, E, L, uses, he, h, rfl, Nat.le_succ _, Off.keep (Chg.refl _ _)⟩
end Go.Proofs.Ytdmhcbbakgljoaa
