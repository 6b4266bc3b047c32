/- A cache and its disk: the disk's own calls. -/
import Derived.Test.YtdmhcbbakgljoaaJw
namespace Go.Proofs.Ytdmhcbbakgljoaa
open Go.RowKit Go.Maps
set_option linter.unusedVariables false
set_option linter.unusedSimpArgs false
attribute [local go_sem ↓] Go.wp_at_zero Go.wp_at_succ

section
variable {w0 w w' : World} {R : Nat → Prop} {db : Nat} {g : DG} {fa fa' : Option Addr} {cf cf' : Nat} {st st' : RS} {cb mb : Nat} {la : Option Addr} {cl : Nat} {E L : List Ent} {most uses : Nat}
theorem Pair.dev (h : Pair w0 w R db g fa cf st cb mb la cl E L most uses) (d : DevAt w' w0.heap.size db g fa' cf' st') (c : Chg (DF db g fa cf) w w') (W : Whole st') (ld : ∀ k, k ∈ DF db g fa' cf' → k ∈ DF db g fa cf ∨ w.heap.size ≤ k) : Pair w0 w' R db g fa' cf' st' cb mb la cl E L most uses ∧ Off R w w' := by
  have gA : Chg (CF cb mb la cl E ++ DF db g fa cf) w w' := c.mono (fun k hk _ => List.mem_append_right _ hk)
  refine ⟨h.go d (h.k.chg c h.x) h.u gA W (fun k hk hm => ?_) (fun k hk => Or.inl hk) ld, h.off gA⟩
  rcases ld k hm with h9 | h9
  · exact h.x k hk h9
  · have := (h.k.lt k hk).2; omega
end
section
variable (w0 w : World) (R : Nat → Prop) (db : Nat) (g : DG) (fa : Option Addr) (cf : Nat) (st : RS) (cb mb : Nat) (la : Option Addr) (cl : Nat) (E L : List Ent) (most uses : Nat) (h : Pair w0 w R db g fa cf st cb mb la cl E L most uses)
include h
theorem pair_read (A : Nat) (hw : whyN st A = 0) : Calls Try.prog 16 #[.pointer (some ⟨db, 0, none⟩), .int .i64 A] w fun e w' => ∃ ao c, e = .returned (.tuple #[.slice ao 256 c, .int .i64 0]) ∧ Room w' w.heap.size ao 256 c (bts (reads st A 4)) ∧ Pair w0 w' (fun k => R k ∨ k ∈ fp ao c) db g fa cf st cb mb la cl E L most uses ∧ Chg [] w w' := by
  refine (dread_yes A w0.heap.size db g fa cf st w h.d h.W hw).mono ?_
  rintro e w' ⟨ao, c, he, hr, hg⟩
  exact ⟨ao, c, he, hr, h.add hg (fun k hk => hk.imp id (fun h9 => hr.lt k h9)), hg⟩
theorem pair_write (z : Int) (hLb : st.L.length ≤ 1000000000) (ab : Option Addr) (nb cb' : Nat) (b : List UInt8) (gb : Reads w ab (bts b)) (gn : b.length = nb) (gc : nb ≤ cb') (gm : cb' ≤ 140737488355328) (hab : ∀ k, k ∈ blk ab → R k) :
    Calls Try.prog 23 #[.pointer (some ⟨db, 0, none⟩), .int .i64 z, .slice ab nb cb'] w fun e w' => e = .returned (.int .i64 (write st z b).1) ∧ ∃ fa' cf', Pair w0 w' R db g fa' cf' (write st z b).2 cb mb la cl E L most uses ∧ Off R w w' := by
  refine (dwrite_any z w0.heap.size db g fa cf st w h.d h.W h.c.size hLb ab nb cb' b gb gn gc gm (fun k hk => ⟨(h.r k (hab k hk)).2.1, (h.r k (hab k hk)).2.2⟩)).mono ?_
  rintro e w' ⟨he, fa', cf', h2, hg2, hl2⟩
  exact ⟨he, fa', cf', h.dev h2 hg2 (write_whole z b h.W) (DF_later hl2)⟩
theorem pair_barrier : Calls Try.prog 18 #[.pointer (some ⟨db, 0, none⟩)] w fun e w' => e = .returned (.int .i64 (barrier st).1) ∧ ∃ fa' cf', Pair w0 w' R db g fa' cf' (barrier st).2 cb mb la cl E L most uses ∧ Off R w w' := by
  refine (dbarrier_any w0.heap.size db g fa cf st w h.d).mono ?_
  rintro e w' ⟨he, fa', cf', h2, hg2, hl2⟩
  exact ⟨he, fa', cf', h.dev h2 (hg2.mono (fun k hk _ => DF_three hk)) (barrier_whole h.W) (DF_later (fun k hk => Or.inl (hl2 k hk)))⟩
theorem pair_crash (ap : Option Addr) (np cp : Nat) (ps : List UInt8) (gp : Reads w ap (bts ps)) (gn : ps.length = np) (hnp : np ≤ maxLen) (hap : ∀ k, k ∈ blk ap → R k) :
    Calls Try.prog 19 #[.pointer (some ⟨db, 0, none⟩), .slice ap np cp] w fun e w' => e = .returned (.tuple #[]) ∧ Pair w0 w' R db g none 0 (crash st ps) cb mb la cl E L most uses ∧ Off R w w' := by
  refine (dcrash_any w0.heap.size db g fa cf st w h.d ap np cp ps gp gn hnp (fun k hk => (h.r k (hap k hk)).2.1)).mono ?_
  rintro e w' ⟨he, h2, hg2⟩
  exact ⟨he, h.dev h2 (hg2.mono (fun k hk _ => DF_three hk)) (crash_whole ps h.W) (DF_later (fun k hk => by rw [fp_zero] at hk; simp at hk))⟩
theorem pair_fuse (z : Int) (hz : z < 9223372036854775808) : Calls Try.prog 24 #[.pointer (some ⟨db, 0, none⟩), .int .i64 z] w fun e w' => e = .returned (.tuple #[]) ∧ Pair w0 w' R db g fa cf { st with left := z.toNat } cb mb la cl E L most uses ∧ Off R w w' := by
  refine (fuse_set z w0.heap.size db g fa cf st w h.d hz).mono ?_
  rintro e w' ⟨he, h2, hg2⟩
  exact ⟨he, h.dev h2 (hg2.mono (fun k hk _ => by simp at hk; simp [DF, hk])) h.W (DF_later (fun k hk => Or.inl hk))⟩
end
end Go.Proofs.Ytdmhcbbakgljoaa
