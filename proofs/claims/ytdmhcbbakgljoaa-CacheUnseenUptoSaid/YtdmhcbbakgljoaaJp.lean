/- The cache beside its disk: Get, whatever it is told. -/
import Derived.Test.YtdmhcbbakgljoaaJo
namespace Go.Proofs.Ytdmhcbbakgljoaa
open Go.RowKit Go.Maps
set_option linter.unusedVariables false
set_option linter.unusedSimpArgs false
attribute [local go_sem ↓] Go.wp_at_zero Go.wp_at_succ

section
variable (a : Nat) (w0 w : World) (R : Nat → Prop) (db : Nat) (g : DG) (fa : Option Addr) (cf : Nat) (st : RS) (cb mb : Nat) (la : Option Addr) (cl : Nat) (E L : List Ent) (most uses : Nat) (h : Pair w0 w R db g fa cf st cb mb la cl E L most uses) (hw : whyN st a = 0) (hn : ∀ e ∈ L, e.pl ≠ a) (hLb : st.L.length ≤ 1000000000)
include h hw hn hLb
set_option maxRecDepth 20000 in
theorem cget_no (hv : (kroom most (L.map absE) st).1 ≠ 0) :
    Calls Try.prog 12 #[.pointer (some ⟨cb, 0, none⟩), .int .i64 (a : Int)] w fun e w' => ∃ fa' cf' la' cl' E', e = .returned (.tuple #[.slice none 0 0, .int .i64 (kroom most (L.map absE) st).1]) ∧ Pair w0 w' R db g fa' cf' (kroom most (L.map absE) st).2.2 cb mb la' cl' E' L most uses ∧ Off R w w' := by
  have d := h.d
  have c0 := h.k.c0
  have c2 := h.k.c2
  have hW := h.W
  obtain ⟨D, hD⟩ := h.k.hd
  obtain ⟨a2, ha2, hac, ha⟩ := why_at hW hw
  obtain rfl : a = a2 := by omega
  have hnE : ∀ e ∈ E, e.pl ≠ a := fun e he => hn e (h.k.pm.mem_iff.1 he)
  have Hw := mkHid hw
  have cR := dread_yes a w0.heap.size db g fa cf st w d hW hw
  have cT : ∀ w1, Chg [] w w1 → _ := fun w1 g1 => ctaken_any w0.heap.size cb mb la cl E L most uses db w1 (h.k.keep g1) g fa cf st (d.keep g1) hW (Nat.le_trans h.c.size g1.size) hLb h.x a ha hn h.u
  have CT := mkHid cT
  have HV := mkHid hv
  have hv2 : ((kroom most (L.map absE) st).1 != 0) = true := by simpa using hv
  clear hw ha2 hv cT
  go_enter Try.func12, Try.ntmps12
  go_wp2_with (first
    | (go_at_call 26; refine (casked_any cb db w0.heap.size g fa cf st w d c0 _ hW).mono ?_; rw [Hw.out]; rintro e w' ⟨rfl, rfl⟩)
    | (at_lookup; refine wpList_lookup_none w rfl (.tmp 22) (.tmp 23) rfl hD rfl hnE ha rfl ?_)
    | (go_at_call 16; refine cR.mono ?_; rintro e w1 ⟨ao, c, rfl, r1, g1⟩)
    | (go_at_call 27; refine (CT.out w1 g1).mono ?_; rintro e w2 ⟨v2, fa', cf', la', cl', E2, rfl, d2, l2, g2, lk2, xk2, k0, -⟩))
  go_ret2
  obtain ⟨k2, hK⟩ := k0 HV.out
  have gA : Chg (CF cb mb la cl E ++ DF db g fa cf) w w2 := g1.trans g2 (by simp) (fun _ h _ => h)
  exact ⟨fa', cf', la', cl', E2, rfl, h.go d2 k2 h.u gA (kroom_whole most _ hW) xk2 (fun k hk => (lk2 k hk).imp id (fun h9 => Nat.le_trans g1.size h9)) (fun k hk => (DF_later l2 k hk).imp id (fun h9 => Nat.le_trans g1.size h9)), h.off gA⟩
end
/-- Get, as chapter 5 has it: what is told, the bytes; the cache, the disk behind it. -/
def kget (n : Nat) (K : List KE) (st : RS) (z : Int) : Int × List UInt8 × List KE × RS :=
  if whyN st z ≠ 0 then (whyN st z, [], K, st) else match kfind K z.toNat with
  | some h => (0, h.bs, kdrop K z.toNat ++ [h], st)
  | none => if (kroom n K st).1 = 0 then (0, reads st z.toNat 4, (kroom n K st).2.1 ++ [⟨z.toNat, reads st z.toNat 4, false⟩], (kroom n K st).2.2) else ((kroom n K st).1, [], K, (kroom n K st).2.2)
theorem cget_any (z : Int) (w0 w : World) (R : Nat → Prop) (db : Nat) (g : DG) (fa : Option Addr) (cf : Nat) (st : RS) (cb mb : Nat) (la : Option Addr) (cl : Nat) (E L : List Ent) (most uses : Nat) (h : Pair w0 w R db g fa cf st cb mb la cl E L most uses) (hu : uses < 9223372036854775807) (hLb : st.L.length ≤ 1000000000) :
    Calls Try.prog 12 #[.pointer (some ⟨cb, 0, none⟩), .int .i64 z] w fun e w' => ∃ ao c fa' cf' la' cl' E' L' uses', e = .returned (.tuple #[.slice ao (kget most (L.map absE) st z).2.1.length c, .int .i64 (kget most (L.map absE) st z).1]) ∧ Pair w0 w' (fun k => R k ∨ k ∈ fp ao c) db g fa' cf' (kget most (L.map absE) st z).2.2.2 cb mb la' cl' E' L' most uses' ∧ L'.map absE = (kget most (L.map absE) st z).2.2.1 ∧ uses' ≤ uses + 1 ∧ Room w' w.heap.size ao (kget most (L.map absE) st z).2.1.length c (bts (kget most (L.map absE) st z).2.1) ∧ Off R w w' := by
  unfold kget
  by_cases hw : whyN st z = 0
  · rw [if_neg (by simp [hw])]
    obtain ⟨a, rfl, hac, ha⟩ := why_at h.W hw
    rw [Int.toNat_natCast]
    cases hf : kfind (L.map absE) a with
    | some y =>
      obtain ⟨x, hx, rfl, rfl⟩ := abs_find hf
      refine (cget_held x w0 w R db g fa cf st cb mb la cl E L most uses h hw hx hu).mono ?_
      rintro e w' ⟨rb, E', he, p, r, o⟩
      have hl := (h.k.mem hx).2
      refine ⟨some ⟨rb, 0, none⟩, 256, fa, cf, la, cl, E', used L x (uses + 1), uses + 1, ?_, p.less (fun k hk => ?_), abs_used h.k.bnd h.k.np hx _, Nat.le_refl _, ?_, o⟩
      · show e = .returned (.tuple #[.slice _ x.bs.length 256, _])
        rw [hl]; exact he
      · rw [fp_some _ _ _ (by decide)] at hk
        simpa using hk
      · show Room w' _ _ x.bs.length _ _
        rw [hl]; exact r
    | none =>
      have hn : ∀ e ∈ L, e.pl ≠ a := fun e he => kfind_none hf (absE e) (List.mem_map.2 ⟨e, he, rfl⟩)
      simp only
      by_cases hv : (kroom most (L.map absE) st).1 = 0
      · rw [if_pos hv]
        refine (cget_ok a w0 w R db g fa cf st cb mb la cl E L most uses h hw hn hu hLb hv).mono ?_
        rintro e w' ⟨rb, fa', cf', la', cl', E', L', he, p, hL, r, o⟩
        have hl : (reads st a 4).length = 256 := reads_len st a 4 (by have := h.W.1; omega) h.d.lS (fun f hf => (h.d.lL f hf).1)
        refine ⟨some ⟨rb, 0, none⟩, 256, fa', cf', la', cl', E', L', uses + 1, ?_, p.less (fun k hk => ?_), hL, Nat.le_refl _, ?_, o⟩
        · show e = .returned (.tuple #[.slice _ (reads st a 4).length 256, _])
          rw [hl]; exact he
        · rw [fp_some _ _ _ (by decide)] at hk
          simpa using hk
        · show Room w' _ _ (reads st a 4).length _ _
          rw [hl]; exact r
      · rw [if_neg hv]
        refine (cget_no a w0 w R db g fa cf st cb mb la cl E L most uses h hw hn hLb hv).mono ?_
        rintro e w' ⟨fa', cf', la', cl', E', he, p, o⟩
        exact ⟨none, 0, fa', cf', la', cl', E', L, uses, he, p.less (fun k hk => by simpa [fp_zero] using hk), rfl, Nat.le_succ _, Room.nil _ _ _, o⟩
  · rw [if_pos hw]
    refine (cget_err z w0 w R db g fa cf st cb mb la cl E L most uses h hw).mono ?_
    rintro e w' ⟨he, rfl⟩
    exact ⟨none, 0, fa, cf, la, cl, E, L, uses, he, h.less (fun k hk => by simpa [fp_zero] using hk), rfl, Nat.le_succ _, Room.nil _ _ _, Off.keep (Chg.refl _ _)⟩
end Go.Proofs.Ytdmhcbbakgljoaa
