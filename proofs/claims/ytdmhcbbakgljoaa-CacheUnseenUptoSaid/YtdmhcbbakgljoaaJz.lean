/- A cache beside its disk: the calls as a law takes them, by the blocks that the cache holds. -/
import Derived.Test.YtdmhcbbakgljoaaJy
import Derived.Lib.SmallJoins
namespace Go.Proofs.Ytdmhcbbakgljoaa
open Go.RowKit Go.Maps
set_option linter.unusedVariables false
set_option linter.unusedSimpArgs false
attribute [local go_sem ↓] Go.wp_at_zero Go.wp_at_succ

theorem Reads.off {R : Nat → Prop} {w w' : World} {ao : Option Addr} {xs : List Value} (h : Reads w ao xs) (o : Off R w w') (hR : ∀ k, k ∈ blk ao → R k) : Reads w' ao xs := by
  obtain ⟨S, c, hS⟩ := o
  exact h.chg c (fun k hk hm => hS k hm (hR k hk))
theorem Room.off {R : Nat → Prop} {w w' : World} {B : Nat} {ao : Option Addr} {n c : Nat} {xs : List Value} (h : Room w B ao n c xs) (o : Off R w w') (hR : ∀ k, k ∈ fp ao c → R k) : Room w' B ao n c xs := by
  obtain ⟨S, c, hS⟩ := o
  exact h.chg c (fun k hk hm => hS k hm (hR k hk))
theorem Off.cellv {R : Nat → Prop} {w w' : World} {p : Addr} {v : Value} (o : Off R w w') (h : w.cell? p = some v) (hR : R p.block) : w'.cell? p = some v := by
  obtain ⟨S, c, hS⟩ := o
  exact c.cellv h (fun hm => hS _ hm hR)
theorem Off.then {R : Nat → Prop} {a b c : World} (h : Off R a b) (g : Chg [] b c) : Off R a c := h.trans (Off.keep g)
theorem block_as (v : Int) (x : UInt8) (hv : v = (x.toNat : Int)) (w : World) : Calls Try.prog 10 #[.int .u8 v] w fun e w' => ∃ nb, e = .returned (.slice (some ⟨nb, 0, none⟩) 256 256) ∧ Room w' w.heap.size (some ⟨nb, 0, none⟩) 256 256 (bts (blockB x)) ∧ Chg [] w w' := by
  rw [hv]
  exact block_any x w
theorem put_new (n a m : Nat) (K : List KE) (st : RS) (b : List UInt8) (hw : whyN st a = 0) (hb : b.length = 256) (hf : kfind K a = none) (hl : K.length < n) : kput n K st a b = (0, K ++ [⟨a, b, true⟩], st) := by
  unfold kput
  rw [if_neg (by simp [hw]), if_neg (by simp [hb]), Int.toNat_natCast, hf]
  simp only [kroom_room hl, if_true]
theorem get_held (n a : Nat) (K : List KE) (st : RS) (hw : whyN st a = 0) (h : KE) (hf : kfind K a = some h) : kget n K st a = (0, h.bs, kdrop K a ++ [h], st) := by
  unfold kget
  rw [if_neg (by simp [hw]), Int.toNat_natCast, hf]
/-- The places of the dirty blocks, rising. -/
def kplaces (K : List KE) : List Nat := (kdirty K).map KE.pl
theorem places_abs (L : List Ent) : (dirtyE (risingE L)).map plV = (kplaces (L.map absE)).map natV := by
  unfold kplaces
  rw [← abs_dirty, List.map_map, List.map_map]
  rfl
section
variable (w0 w : World) (R : Nat → Prop) (db : Nat) (g : DG) (fa : Option Addr) (cf : Nat) (st : RS) (cb mb : Nat) (la : Option Addr) (cl : Nat) (E L : List Ent) (most uses : Nat) (h : Pair w0 w R db g fa cf st cb mb la cl E L most uses)
include h
theorem pair_block (v : Int) (x : UInt8) (hv : v = (x.toNat : Int)) :
    Calls Try.prog 10 #[.int .u8 v] w fun e w' => ∃ nb, e = .returned (.slice (some ⟨nb, 0, none⟩) 256 256) ∧ Room w' w.heap.size (some ⟨nb, 0, none⟩) 256 256 (bts (blockB x)) ∧ Pair w0 w' (fun k => R k ∨ k = nb) db g fa cf st cb mb la cl E L most uses ∧ Chg [] w w' := by
  refine (block_as v x hv w).mono ?_
  rintro e w' ⟨nb, he, hr, hg⟩
  refine ⟨nb, he, hr, h.add hg (fun k hk => hk.imp id (fun e => ?_)), hg⟩
  rw [e]
  exact hr.lt nb (by rw [fp_some _ _ _ (by decide)]; simp)
theorem pair_put (K K' : List KE) (v z : Int) (ab : Option Addr) (n c : Nat) (b : List UInt8) (st' : RS) (hL : L.map absE = K) (hp : kput most K st z b = (v, K', st')) (hu : uses ≤ 1000000000000000) (hLb : st.L.length ≤ 1000000000) (gb : Reads w ab (bts b)) (gn : b.length = n) (hab : ∀ k, k ∈ blk ab → R k ∨ k < w0.heap.size) :
    Calls Try.prog 11 #[.pointer (some ⟨cb, 0, none⟩), .int .i64 z, .slice ab n c] w fun e w' => e = .returned (.int .i64 v) ∧ ∃ fa' cf' la' cl' E' L' uses', Pair w0 w' R db g fa' cf' st' cb mb la' cl' E' L' most uses' ∧ L'.map absE = K' ∧ uses' ≤ uses + 1 ∧ Off R w w' := by
  have := cput_any z ab c b w0 w R db g fa cf st cb mb la cl E L most uses h (by omega) hLb gb hab
  rw [hL, hp, gn] at this
  refine this.mono ?_
  rintro e w' ⟨fa', cf', la', cl', E', L', uses', he, h1, h2, h3, h4⟩
  exact ⟨he, fa', cf', la', cl', E', L', uses', h1, h2, h3, h4⟩
theorem pair_get (K K' : List KE) (v z : Int) (n : Nat) (b : List UInt8) (st' : RS) (hL : L.map absE = K) (hp : kget most K st z = (v, b, K', st')) (hu : uses ≤ 1000000000000000) (hLb : st.L.length ≤ 1000000000) (gn : b.length = n) :
    Calls Try.prog 12 #[.pointer (some ⟨cb, 0, none⟩), .int .i64 z] w fun e w' => ∃ ao c, e = .returned (.tuple #[.slice ao n c, .int .i64 v]) ∧ Room w' w.heap.size ao n c (bts b) ∧ ∃ fa' cf' la' cl' E' L' uses', Pair w0 w' (fun k => R k ∨ k ∈ fp ao c) db g fa' cf' st' cb mb la' cl' E' L' most uses' ∧ L'.map absE = K' ∧ uses' ≤ uses + 1 ∧ Off R w w' := by
  have := cget_any z w0 w R db g fa cf st cb mb la cl E L most uses h (by omega) hLb
  rw [hL, hp, gn] at this
  refine this.mono ?_
  rintro e w' ⟨ao, c, fa', cf', la', cl', E', L', uses', he, h1, h2, h3, h4, h5⟩
  exact ⟨ao, c, he, h4, fa', cf', la', cl', E', L', uses', h1, h2, h3, h5⟩
theorem pair_flush (K K' : List KE) (v : Int) (st' : RS) (hL : L.map absE = K) (hp : kflush K st = (v, K', st')) (hLb : st.L.length ≤ 999990000) :
    Calls Try.prog 13 #[.pointer (some ⟨cb, 0, none⟩)] w fun e w' => e = .returned (.int .i64 v) ∧ ∃ fa' cf' E' L', Pair w0 w' R db g fa' cf' st' cb mb la cl E' L' most uses ∧ L'.map absE = K' ∧ Off R w w' := by
  have := cflush_any w0 w R db g fa cf st cb mb la cl E L most uses h (by omega)
  rw [hL, hp] at this
  refine this.mono ?_
  rintro e w' ⟨fa', cf', E', L', he, h1, h2, h3⟩
  exact ⟨he, fa', cf', E', L', h1, h2, h3⟩
theorem pair_dirty (K : List KE) (hL : L.map absE = K) (P : List Nat) (hP : kplaces K = P) :
    Calls Try.prog 14 #[.pointer (some ⟨cb, 0, none⟩)] w fun e w' => ∃ ao c, e = .returned (.slice ao P.length c) ∧ Room w' w.heap.size ao P.length c (P.map natV) ∧ Pair w0 w' (fun k => R k ∨ k ∈ fp ao c) db g fa cf st cb mb la cl E L most uses ∧ Chg [] w w' := by
  have := cdirty_any w0 w R db g fa cf st cb mb la cl E L most uses h
  have e : (dirtyE (risingE L)).length = P.length := by
    have := congrArg List.length (places_abs L)
    rw [hL, hP] at this
    simpa using this
  rw [places_abs, hL, hP, e] at this
  refine this.mono ?_
  rintro e w' ⟨ao, c, he, hr, hg⟩
  exact ⟨ao, c, he, hr, h.add hg (fun k hk => hk.imp id (fun h9 => hr.lt k h9)), hg⟩
theorem pair_held (K : List KE) (hL : L.map absE = K) (n : Nat) (hn : K.length = n) : Calls Try.prog 17 #[.pointer (some ⟨cb, 0, none⟩)] w fun e w' => e = .returned (.int .i64 n) ∧ w = w' := by
  have := cheld_any w0.heap.size cb mb la cl E L most uses db w h.k
  rw [← hn, ← hL, List.length_map]
  exact this
theorem pair_flight (n : Nat) (hn : st.L.length = n) : Calls Try.prog 21 #[.pointer (some ⟨db, 0, none⟩)] w fun e w' => e = .returned (.int .i64 n) ∧ w = w' := by
  have := flight_any w0.heap.size db g fa cf st w h.d
  rw [hn] at this
  exact this
end
end Go.Proofs.Ytdmhcbbakgljoaa
