/- The cache beside its disk: the block goes that was used the longest ago. -/
import Derived.Test.YtdmhcbbakgljoaaJh
namespace Go.Proofs.Ytdmhcbbakgljoaa
open Go.RowKit Go.Maps
set_option linter.unusedVariables false
set_option linter.unusedSimpArgs false
attribute [local go_sem ↓] Go.wp_at_zero Go.wp_at_succ

theorem CacheAt.gone {w w3 w4 : World} {B cb mb : Nat} {la : Option Addr} {cl : Nat} {E : List Ent} {most uses db : Nat} {x : Ent} {T : List Ent} (h : CacheAt w B cb mb la cl E (x :: T) most uses db) {F : List Ent} (h4 : LineAt w3 B cb la cl F) (p4 : (F ++ [x]).Perm E) (H4 : Heap F F.length) (g4 : Chg (LF cb la cl E) w w3) (q4 : Only3 cb w w3)
    {D : DataW Unit} (hD : HeldAt w mb E D) (ho : w4.ownsMap Try.prog 3 ptrR mb E.length (D.del (.int .i64 x.pl))) (g5 : Chg [mb] w3 w4) : CacheAt w4 B cb mb la cl F T most uses db ∧ Chg (CF cb mb la cl E) w w4 ∧ ∀ k, k ∈ LF cb la cl F → k ∈ LF cb la cl E := by
  have hpE : E.Perm (x :: T) := h.pm
  have hFT : F.Perm T := by
    have h1 : (x :: F).Perm (x :: T) := ((List.perm_append_comm (l₁ := F) (l₂ := [x])).symm.trans p4).trans hpE
    exact h1.cons_inv
  have hsub : ∀ e ∈ F, e ∈ E := fun e he => p4.mem_iff.1 (List.mem_append_left _ he)
  have hLF : ∀ k, k ∈ LF cb la cl F → k ∈ LF cb la cl E := fun k hk => by
    simp only [LF, List.mem_cons, List.mem_append, List.mem_map] at hk ⊢
    rcases hk with hk | hk | ⟨e, he, e2⟩
    · exact Or.inl hk
    · exact Or.inr (Or.inl hk)
    · exact Or.inr (Or.inr ⟨e, hsub e he, e2⟩)
  have hcm : cb ∉ [mb] := by
    simp
    intro e
    exact h.mF (by rw [← e]; simp [LF])
  have hnp := h.np
  rw [List.map_cons, List.nodup_cons] at hnp
  have hln := h4.chg g5 (fun k hk => by simp; rintro rfl; exact h.mF (hLF _ hk))
  refine ⟨⟨g5.cellv ((q4 0 (by decide)).1.trans h.c0) hcm, g5.cellv ((q4 1 (by decide)).1.trans h.c1) hcm, g5.cellv ((q4 2 (by decide)).1.trans h.c2) hcm, g5.cellv ((q4 4 (by decide)).1.trans h.c4) hcm, (g5.frozen (p := ⟨cb, 4, none⟩) (show cb < w3.heap.size from block_lt_of_cell h4.c3) hcm).trans ((q4 4 (by decide)).2.trans h.f4), hln, H4, ⟨_, (hD.del hpE (fun e he h9 => hnp.1 (List.mem_map.2 ⟨e, he, h9⟩)) ho).perm hFT⟩, hFT, (List.pairwise_cons.1 h.so).2, fun e he => h.us e (List.mem_cons_of_mem _ he), hnp.2, fun e he => h.pl e (List.mem_cons_of_mem _ he), by have := h.le; simp at this; omega, h.mo, fun hk => h.mF (hLF _ hk), h.mB⟩, ?_, hLF⟩
  exact g4.trans g5 (fun k hk _ => by simp [CF, hk]) (fun k hk _ => by simp at hk; simp [CF, hk])
theorem updL_tail {x : Ent} {T : List Ent} (hnd : ((x :: T).map Ent.b).Nodup) (y : Ent) (hy : y.b = x.b) : updL (x :: T) y = y :: T := by
  unfold updL
  rw [List.map_cons, if_pos hy.symm]
  congr 1
  rw [List.map_cons, List.nodup_cons] at hnd
  refine (List.map_congr_left fun e he => ?_).trans (List.map_id T)
  rw [if_neg (fun h9 => hnd.1 (List.mem_map.2 ⟨e, he, h9.trans hy⟩))]
  rfl
theorem pop_clean {B cb mb : Nat} {la : Option Addr} {cl : Nat} {E : List Ent} {most uses db : Nat} {x : Ent} {T : List Ent} {w2 : World} (h0 : 0 < E.length) (hnd : ((x :: T).map Ent.b).Nodup) (k : CacheAt w2 B cb mb la cl (E.set 0 x.clean) (updL (x :: T) x.clean) most uses db) :
    CacheAt w2 B cb mb la cl (E.set 0 x.clean) (x.clean :: T) most uses db ∧ Calls Try.prog 55 #[.iface 88 (.pointer (some ⟨cb, 3, none⟩))] w2 fun e w' => e = .returned (.iface 62 (.pointer (some ⟨x.b, 0, none⟩))) ∧ ∃ F, LineAt w' B cb la cl F ∧ (F ++ [x.clean]).Perm (E.set 0 x.clean) ∧ Heap F F.length ∧ Blk w' x.b 68 (entV x.clean F.length) ∧ Chg (LF cb la cl (E.set 0 x.clean)) w2 w' ∧ Only3 cb w2 w' := by
  rw [updL_tail hnd x.clean rfl] at k
  have h02 : 0 < (E.set 0 x.clean).length := by rw [List.length_set]; exact h0
  have hx02 : (E.set 0 x.clean)[0] = x.clean := by rw [List.getElem_set, if_pos rfl]
  have cp := hpop_any B cb _ cl (E.set 0 x.clean) w2 k.ln h02 k.hp
  rw [hx02] at cp
  exact ⟨k, cp⟩
section
variable (B cb mb : Nat) (la : Option Addr) (cl : Nat) (E : List Ent) (most uses db : Nat) (w : World) (x : Ent) (T : List Ent) (h : CacheAt w B cb mb la cl E (x :: T) most uses db)
include h
theorem cletgo_clean (hd : x.dirty = false) :
    Calls Try.prog 47 #[.pointer (some ⟨cb, 0, none⟩)] w fun e w' => e = .returned (.int .i64 0) ∧ ∃ F, CacheAt w' B cb mb la cl F T most uses db ∧ Chg (CF cb mb la cl E) w w' ∧ ∀ k, k ∈ LF cb la cl F → k ∈ LF cb la cl E := by
  have hlen : E.length = T.length + 1 := by have := h.pm.length_eq; simpa using this
  have h0 : 0 < E.length := by omega
  have hx0 : E[0] = x := by
    obtain ⟨T2, e⟩ := h.top h0
    simp at e
    exact e.1.symm
  obtain ⟨lb, lo, hla, hc, hlb⟩ := h.ln.cell h0
  subst hla
  have c00 := (hc 0 h0).1
  rw [Nat.add_zero] at c00
  unfold ptrV at c00
  have c3 := h.ln.c3
  have c2 := h.c2
  obtain ⟨D, hD⟩ := h.hd
  have cw := cwrite_clean 0 B cb mb _ cl E _ most uses db w h h0 (by rw [hx0]; exact hd)
  have cp := hpop_any B cb _ cl E w h.ln h0 h.hp
  rw [hx0] at c00 cw cp
  have HX := mkHid hx0
  have HL := mkHid hlen
  have ta := assert_block ⟨x.b, 0, none⟩
  have h0n : decide ((0 : Int) < E.length) = true := decide_eq_true (by omega)
  clear hc hx0 hlen
  go_enter Try.func47, Try.ntmps47
  go_wp2_with (first | (go_at_call 30; refine cw.mono ?_; rintro e w2 ⟨rfl, rfl⟩) | (go_at_call 55; refine cp.mono ?_; rintro e w3 ⟨rfl, F, h4, p4, H4, b4, g4, q4⟩))
  have c23 := (q4 2 (by decide)).1.trans c2
  have xat := b4.cell 0 _ (entV_pl x F.length)
  have hO3 := (hD.chg g4 h.mF).o
  have hxp : x.pl < 1024 := h.pl x (by simp)
  go_region_law (refine step_delete rfl (.tmp 25) (.tmp 29) 54 3 rfl 62 (int_keyed Try.underlying3) Try.underlying54 ptrR mb E.length D rfl (by first | exact hO3 | exact hO3.drew | exact hO3.drew.drew) _ (.int .i64 x.pl) rfl (keyI x.pl hxp) ?_; intro w4 ho4 hm4)
  all_goals
    go_wp2
    go_ret
    obtain ⟨r1, r2, r3⟩ := h.gone h4 p4 H4 g4 q4 hD ho4 ((Chg.drew [mb] w3).trans (grown_chg hm4) (fun _ h _ => h) (fun _ h _ => h))
    exact ⟨rfl, F, r1, r2, r3⟩
set_option maxHeartbeats 1000000 in
theorem cletgo_dirty (hd : x.dirty = true) (g : DG) (fa : Option Addr) (cf : Nat) (st : RS) (hDv : DevAt w B db g fa cf st) (hW : Whole st) (hB : B ≤ w.heap.size) (hLb : st.L.length ≤ 1000000000) (hx : ∀ k, k ∈ CF cb mb la cl E → k ∉ DF db g fa cf) :
    Calls Try.prog 47 #[.pointer (some ⟨cb, 0, none⟩)] w fun e w' => e = .returned (.int .i64 (write st x.pl x.bs).1) ∧ ∃ fa' cf', DevAt w' B db g fa' cf' (write st x.pl x.bs).2 ∧ Later w fa cf fa' cf' ∧ Chg (CF cb mb la cl E ++ DF db g fa cf) w w' ∧
      ((write st x.pl x.bs).1 ≠ 0 → CacheAt w' B cb mb la cl E (x :: T) most uses db) ∧ ((write st x.pl x.bs).1 = 0 → ∃ F, CacheAt w' B cb mb la cl F T most uses db ∧ ∀ k, k ∈ LF cb la cl F → k ∈ LF cb la cl E) := by
  have hlen : E.length = T.length + 1 := by have := h.pm.length_eq; simpa using this
  have h0 : 0 < E.length := by omega
  have hx0 : E[0] = x := by
    obtain ⟨T2, e⟩ := h.top h0
    simp at e
    exact e.1.symm
  have hxF : x.b ∈ CF cb mb la cl E := by
    rw [← hx0]
    simp only [CF, LF, List.mem_cons, List.mem_append, List.mem_map]
    exact Or.inr (Or.inr (Or.inr ⟨_, List.getElem_mem h0, rfl⟩))
  obtain ⟨lb, lo, hla, hc, hlb⟩ := h.ln.cell h0
  subst hla
  have c00 := (hc 0 h0).1
  rw [Nat.add_zero] at c00
  unfold ptrV at c00
  have c3 := h.ln.c3
  have cw := cwrite_dirty 0 B cb mb _ cl E _ most uses db w h h0 (by rw [hx0]; exact hd) g fa cf st hDv hW hB hLb hx
  rw [hx0] at c00 cw
  have HX := mkHid hx0
  have HL := mkHid hlen
  have ta := assert_block ⟨x.b, 0, none⟩
  have h0n : decide ((0 : Int) < E.length) = true := decide_eq_true (by omega)
  clear hc
  have hsub : ∀ w3, Chg (x.b :: DF db g fa cf) w w3 → Chg (CF cb mb (some ⟨lb, lo, none⟩) cl E ++ DF db g fa cf) w w3 := fun w3 g3 => g3.mono (fun k hk _ => by
    rcases List.mem_cons.1 hk with rfl | hk
    · exact List.mem_append_left _ hxF
    · exact List.mem_append_right _ hk)
  by_cases hv : (write st x.pl x.bs).1 = 0
  · rw [hv] at cw
    have HV := mkHid hv
    have CW := mkHid cw
    clear cw hv
    go_enter Try.func47, Try.ntmps47
    have hnd : ((x :: T).map Ent.b).Nodup := (h.pm.map _).nodup_iff.1 h.ln.nd
    have HN := mkHid hnd
    go_wp2_with (first | (go_at_call 30; refine CW.out.mono ?_; rintro e w2 ⟨rfl, fa', cf', d2, l2, g2, -, k0⟩; obtain ⟨k2, cp⟩ := pop_clean h0 HN.out (k0 rfl); clear k0) | (go_at_call 55; refine cp.mono ?_; rintro e w3 ⟨rfl, F, h4, p4, H4, b4, g4, q4⟩))
    have c23 := (q4 2 (by decide)).1.trans k2.c2
    have xat := b4.cell 0 _ (entV_pl x.clean F.length)
    obtain ⟨D, hD⟩ := k2.hd
    have hO3 := (hD.chg g4 k2.mF).o
    have hxp : x.pl < 1024 := h.pl x (by simp)
    have HF : ∀ w4, Chg [mb] w3 w4 → w4.ownsMap Try.prog 3 ptrR mb (E.set 0 x.clean).length (D.del (.int .i64 x.pl)) → CacheAt w4 B cb mb (some ⟨lb, lo, none⟩) cl F T most uses db ∧ Chg (CF cb mb (some ⟨lb, lo, none⟩) cl E ++ DF db g fa cf) w w4 ∧ (∀ k, k ∈ LF cb (some ⟨lb, lo, none⟩) cl F → k ∈ LF cb (some ⟨lb, lo, none⟩) cl E) ∧ DevAt w4 B db g fa' cf' (write st x.pl x.bs).2 := by
      intro w4 g5 ho4
      obtain ⟨r1, r2, r3⟩ := k2.gone h4 p4 H4 g4 q4 hD ho4 g5
      have hbE : x.clean.b = E[0].b := by rw [HX.out]; rfl
      have hcf : ∀ k, k ∈ LF cb (some ⟨lb, lo, none⟩) cl (E.set 0 x.clean) → k ∈ LF cb (some ⟨lb, lo, none⟩) cl E := fun k hk => LF_alike (by rw [set_alike h0 Ent.b hbE]) k hk
      have hcf2 : ∀ k, k ∈ CF cb mb (some ⟨lb, lo, none⟩) cl (E.set 0 x.clean) → k ∈ CF cb mb (some ⟨lb, lo, none⟩) cl E := fun k hk => by
        simp only [CF, List.mem_cons] at hk ⊢
        exact hk.imp id (hcf k)
      refine ⟨r1, (hsub _ g2).trans r2 (fun _ h _ => h) (fun k hk _ => List.mem_append_left _ (hcf2 k hk)), fun k hk => hcf k (r3 k hk), d2.chg r2 (fun k hk hm => ?_)⟩
      rcases DF_later l2 k hk with h9 | h9
      · exact hx k (hcf2 k hm) h9
      · have := (h.lt k (hcf2 k hm)).2; omega
    go_region_law (refine step_delete rfl (.tmp 25) (.tmp 29) 54 3 rfl 62 (int_keyed Try.underlying3) Try.underlying54 ptrR mb (E.set 0 x.clean).length D rfl (by first | exact hO3 | exact hO3.drew | exact hO3.drew.drew) _ (.int .i64 x.pl) rfl (keyI x.pl hxp) ?_; intro w4 ho4 hm4)
    all_goals
      go_wp2
      go_ret
      obtain ⟨r1, r2, r3, r4⟩ := HF w4 ((Chg.drew [mb] w3).trans (grown_chg hm4) (fun _ h _ => h) (fun _ h _ => h)) ho4
      exact ⟨by rw [HV.out]; rfl, fa', cf', r4, l2, r2, fun h9 => absurd HV.out h9, fun _ => ⟨F, r1, r3⟩⟩
  · have hv2 : ((write st x.pl x.bs).1 != 0) = true := by simpa using hv
    have HV := mkHid hv
    have CW := mkHid cw
    clear cw hv
    go_enter Try.func47, Try.ntmps47
    go_wp2_with (first | (go_at_call 30; refine CW.out.mono ?_; rintro e w2 ⟨rfl, fa', cf', d2, l2, g2, k2, -⟩))
    go_ret
    exact ⟨rfl, fa', cf', d2, l2, hsub _ g2, fun h9 => k2 h9, fun h9 => absurd h9 HV.out⟩
end
end Go.Proofs.Ytdmhcbbakgljoaa
