/- The reference's disk: a sector write lasts. -/
import Derived.Test.YtinmhaffefgloaaRc
import Derived.Deep.RegionLaw
import Derived.Deep.AppendLies
namespace Go.Proofs.Ytinmhaffefgloaa
open Go.RowKit
set_option linter.unusedVariables false
set_option linter.unusedSimpArgs false

theorem step_append_k {P : Program} {ops : Array Oper} {o : Oper} {a : Act} {w : World} {K : Act → World → Prop} {Q : Exit → Act → World → Prop} {E : Prop}
    (hg : o.guard = none) (s x : Operand) (t : TypeId) (ho : o.op = .call { callee := .builtin .append, args := #[s, x], argTypes := #[t, t] })
    (e : TypeId) (bytes : Nat) (helt : Elt P t e bytes)
    (B : Nat) (ao : Option Addr) (n c : Nat) (xs : List Value) (hs : a.eval s = .slice ao n c) (h : Room w B ao n c xs) (hB : B ≤ w.heap.size)
    (ax : Option Addr) (m cx : Nat) (news : List Value) (hxe : a.eval x = .slice ax m cx) (hx : Reads w ax news) (hm : news.length = m) (hone : ∀ u ∈ news, u.oneCell' = true)
    (h63 : n + m ≤ maxLen) (hbytes : (n + m) * bytes ≤ 140737488355328)
    (hK : ∀ ao' c' w', Room w' B ao' (n + m) c' (xs ++ news) → Chg (fp ao c) w w' → (fp ao' c' = fp ao c ∨ fp ao' c' = [w.heap.size]) → K (a.put o.dst (.slice ao' (n + m) c')) w') :
    if Region.wanted o (yielded ops a.tmps) = true then Oper.wp P o a w K Q else E := by
  have hw : Region.wanted o (yielded ops a.tmps) = true := by simp [Region.wanted, hg]
  rw [if_pos hw]
  obtain ⟨ao', c', w', hr, h2, h3, h4⟩ := run_append_k (P := P) w t o.type e bytes helt B ao n c xs h hB ax m cx news hx hm hone h63 hbytes
  unfold Oper.wp execOp
  simp only [ho, resolve, invoke, builtin, Sem.run_bind, Sem.run_pure, Result.andThen_ok, List.map_toArray, List.map_cons, List.map_nil, hs, hxe, hr]
  exact hK _ _ _ h2 h3 h4
theorem keep2 {S : List Nat} {w w' : World} {p q : Addr} {x y : Value} (h : w.cell? p = some x ∧ w.cell? q = some y) (g : Chg S w w') (hn : p.block ∉ S ∧ q.block ∉ S) :
    w'.cell? p = some x ∧ w'.cell? q = some y := ⟨g.cellv h.1 hn.1, g.cellv h.2 hn.2⟩
set_option maxHeartbeats 16000000 in
theorem lay_any (s n : Nat) (v : Value) (l : List UInt8) (B : Nat) (F : List Nat) (rb : Nat) (sa : Option Addr) (cs : Nat) (la : Option Addr) (cl : Nat) (vs ls : List Value) (st : RS) (w : World) (h : RefAt w B F rb sa cs la cl vs ls st)
    (hs : s < st.S.length) (hn : n ≤ 64) (hv : Sec w (rb :: (fp sa cs ++ fp la cl)) F v l) :
    Calls Try.prog 42 #[.pointer (some ⟨rb, 0, none⟩), .agg #[.int .i64 s, v], .int .i64 n] w fun e w' => e = .returned (.tuple #[]) ∧ ∃ F' vs', RefAt w' B F' rb sa cs la cl vs' ls { st with S := laid st.S s l n } ∧ Chg F w w' ∧ ∀ k, k ∈ F' → k ∈ F ∨ w.heap.size ≤ k := by
  obtain ⟨hl, vb, vo, vc, rfl, hc1, hc2, hx, hF, hlt, hr⟩ := hv
  obtain ⟨sl, hsl⟩ : ∃ sl, st.S[s]? = some sl := ⟨st.S[s], List.getElem?_eq_getElem hs⟩
  obtain ⟨u, hu, hsl64, ub, uo, uc, rfl, hu1, hu2, hu3, hu4, hu5, hur⟩ := h.sec s sl hsl
  have c0 := h.c0
  have hcs : 0 < cs := by have := h.rS.le; omega
  obtain ⟨sb, so, rfl, hsB, hslt, hsw, hsv⟩ := h.rS.at_ hcs
  have hcell := hsv s _ hu
  have hs1 := run_take_k (P := Try.prog) (some ⟨vb, vo, none⟩) 64 vc n Try.underlying32 (by kernel_rfl) (by omega)
  have hs2 := run_from_k (P := Try.prog) (some ⟨ub, uo, none⟩) 64 uc n Try.underlying32 (by kernel_rfl) hn
  have hrb : rb < w.heap.size := block_lt_of_cell c0
  have hapl : rb ≠ sb := by
    rintro rfl
    exact h.ap1 (by rw [fp_some _ _ _ hcs]; simp)
  go_enter Try.func42, Try.ntmps42
  go_wp2_with fail
  generalize hW1 : w.alloc _ = W1
  have hg1 : Chg [] w W1 := by subst hW1; exact Chg.alloc [] _ _
  have hbx0 : W1.cell? ⟨w.heap.size, 0, none⟩ = some (.int .i64 s) := by subst hW1; simp
  have hbx1 : w.heap.size < W1.heap.size := by subst hW1; simp
  clear hW1
  have hrt : Reads W1 (some ⟨vb, vo, none⟩) (bts (l.take n)) := by rw [← bts_take]; exact (hr.keep hg1).take n
  refine (own_any _ n vc (l.take n) W1 hrt (by simp; omega) (by omega)).mono ?_
  rintro e W2 ⟨a1, c1, rfl, hr1, hg2⟩
  have hg12 := hg1.then hg2
  have d0 := hg12.cellv c0 (by simp)
  have d1 := hg12.cellv hcell (by simp)
  have d2 := hg2.cellv hbx0 (by simp)
  have hrd : Reads W2 (cut (some ⟨ub, uo, none⟩) uc n) (bts (sl.drop n)) := by rw [← bts_drop]; exact (hur.keep hg12).cut uc n (by rw [bts_length]; omega)
  have hi1 : (s : Int) < (st.S.length : Int) := by omega
  generalize hbx : w.heap.size = bx at *
  generalize hcc : cut (some ⟨ub, uo, none⟩) uc n = uu at *
  have fzs := (hsw s (by have := h.rS.le; omega))
  go_wp2_with fail
  have d1' := (Chg.drew [] W2).cellv d1 (by simp)
  have hbxlt : bx < W2.heap.size := Nat.lt_of_lt_of_le hbx1 hg2.size
  have hfa : ∀ k, k ∈ fp a1 c1 → W1.heap.size ≤ k := fun k hk => (hr1.lt k hk).1
  have hnm : rb ∉ fp a1 c1 ∧ bx ∉ fp a1 c1 := ⟨fun h => by have := hfa _ h; have := hg1.size; omega, fun h => by have := hfa _ h; omega⟩
  have Hsb := mkHid (show sb ∉ fp a1 c1 from fun h => by have := hfa _ h; have := hg1.size; omega)
  have Hnm := mkHid hnm
  have Hn2 := mkHid (show rb ∉ [sb] ∧ bx ∉ [sb] from ⟨by simpa using hapl, by simp; omega⟩)
  have hsd : (sl.drop n).length = 64 - n := by simp; omega
  have Hsd := mkHid hsd
  have hw1 : W1.heap.size ≤ W2.heap.size := hg2.size
  have fzd : W2.drew.frozen? ⟨sb, so + s, none⟩ = false := by
    have h1 := (hg12.then (Chg.drew [] W2)).frozen (p := ⟨sb, so + s, none⟩) (show sb < w.heap.size by rw [hbx]; exact hslt) (by simp)
    rw [h1]
    have := fzs.2
    simpa using this
  clear hnm hsd hbx hcc
  have e0 := (Chg.drew [] W2).cellv d0 (by simp)
  have e2 := (Chg.drew [] W2).cellv d2 (by simp)
  have e64 : n + (64 - n) = 64 := by omega
  have Hfa := mkHid hfa
  go_region_law (first | (refine step_append_k rfl (.tmp 18) (.tmp 28) 32 rfl 5 1 eltB W1.heap.size a1 n c1 (bts (l.take n)) rfl (hr1.chg (Chg.drew [] _) (by simp)) hw1 uu (64 - n) (uc - n) (bts (sl.drop n)) rfl (hrd.keep (Chg.drew [] _)) (by rw [bts_length]; exact Hsd.out) (bts_one _) (by unfold maxLen; omega) (by omega) ?_; intro a4 c4 w4 hr4 hg4 hf4; have k0 := hg4.cellv e0 Hnm.out.1; have k1 := hg4.cellv d1' Hsb.out; have k2 := hg4.cellv e2 Hnm.out.2; have k3 := hg4.frozen (p := ⟨sb, so + s, none⟩) (show sb < W2.drew.heap.size from block_lt_of_cell d1') Hsb.out; have k4 := k3.trans fzd; clear k3; have Hr4 := mkHid hr4; have Hg4 := mkHid hg4; clear hr4 hg4 hf4))
  all_goals
    go_wp2_with fail
    go_end0
    have hr4 := Hr4.out
    rw [e64] at hr4
    exact ⟨rfl, lay_close h hs hn hl hsl hsl64 ((hg12.then (Chg.drew [] W2)).trans Hg4.out (fun _ h _ => h) (fun k hk hlt => by have := Hfa.out k hk; have := hg1.size; omega)) (hr4.mono (by have := hg1.size; omega))⟩
end Go.Proofs.Ytinmhaffefgloaa
