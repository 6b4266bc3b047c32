/- The cache beside its disk: room is made where there is none. -/
import Derived.Test.YtdmhcbbakgljoaaJj
namespace Go.Proofs.Ytdmhcbbakgljoaa
open Go.RowKit Go.Maps
set_option linter.unusedVariables false
set_option linter.unusedSimpArgs false
attribute [local go_sem ↓] Go.wp_at_zero Go.wp_at_succ

theorem CacheAt.push_next {wc : World} {B cb mb : Nat} {la : Option Addr} {cl : Nat} {E L : List Ent} {most uses db : Nat} (h1 : CacheAt wc B cb mb la cl E L most uses db) (hB : B ≤ wc.heap.size) (pl : Nat) :
    ∀ (w3 : World) (nb : Nat), wc.heap.size = nb → nb < w3.heap.size → Chg [mb] wc w3 → Blk w3 nb 68 (entV (fresh nb pl) 0) → Calls Try.prog 48 #[.iface 88 (.pointer (some ⟨cb, 3, none⟩)), .iface 62 (.pointer (some ⟨nb, 0, none⟩))] w3 fun e w' => e = .returned (.tuple #[]) ∧ ∃ la' cl' E', LineAt w' B cb la' cl' E' ∧ E'.Perm (E ++ [fresh nb pl]) ∧ Heap E' E'.length ∧ Chg (nb :: LF cb la cl E) w3 w' ∧ (∀ k, k ∈ fp la' cl' → k ∈ fp la cl ∨ w3.heap.size ≤ k) ∧ Only3 cb w3 w' := by
  intro w3 nb hz hlt3 g3 hb3
  have hle := h1.le
  have hmo := h1.mo
  have hEl := h1.pm.length_eq
  have hnF : nb ∉ LF cb la cl E := fun hk => by have := (h1.ln.lt nb hk).2; omega
  exact hpush_any (fresh nb pl) 0 B cb la cl E w3 (h1.ln.chg g3 (fun k hk => by simp; rintro rfl; exact h1.mF hk)) (Nat.le_trans hB g3.size) hb3 (show zero256.length = 256 from List.length_replicate) hnF (by show B ≤ nb; omega) (by omega) h1.hp
section
variable (B cb mb : Nat) (la : Option Addr) (cl : Nat) (E : List Ent) (most uses db : Nat) (w : World) (x : Ent) (T : List Ent) (h : CacheAt w B cb mb la cl E (x :: T) most uses db)
variable (g : DG) (fa : Option Addr) (cf : Nat) (st : RS) (hDv : DevAt w B db g fa cf st) (hW : Whole st) (hB : B ≤ w.heap.size) (hLb : st.L.length ≤ 1000000000) (hx : ∀ k, k ∈ CF cb mb la cl E → k ∉ DF db g fa cf)
include h hDv hW hB hLb hx
theorem cletgo_any :
    Calls Try.prog 47 #[.pointer (some ⟨cb, 0, none⟩)] w fun e w' => e = .returned (.int .i64 (wrote x st).1) ∧ ∃ fa' cf', DevAt w' B db g fa' cf' (wrote x st).2 ∧ Later w fa cf fa' cf' ∧ Chg (CF cb mb la cl E ++ DF db g fa cf) w w' ∧
      ((wrote x st).1 ≠ 0 → CacheAt w' B cb mb la cl E (x :: T) most uses db) ∧ ((wrote x st).1 = 0 → ∃ F, CacheAt w' B cb mb la cl F T most uses db ∧ ∀ k, k ∈ LF cb la cl F → k ∈ LF cb la cl E) := by
  unfold wrote
  cases hd : x.dirty
  · simp only [Bool.false_eq_true, if_false]
    refine (cletgo_clean B cb mb la cl E most uses db w x T h hd).mono ?_
    rintro e w' ⟨rfl, F, k, gk, lk⟩
    exact ⟨rfl, fa, cf, hDv.chg gk (fun k hk hm => hx k hm hk), fun k hk => Or.inl hk, gk.mono (fun k hk _ => List.mem_append_left _ hk), fun h9 => absurd rfl h9, fun _ => ⟨F, k, lk⟩⟩
  · simp only [if_true]
    exact cletgo_dirty B cb mb la cl E most uses db w x T h hd g fa cf st hDv hW hB hLb hx
set_option maxRecDepth 20000 in
set_option maxHeartbeats 1000000 in
theorem ctaken_full (pl : Nat) (hpl : pl < 1024) (hn : ∀ e ∈ T, e.pl ≠ pl) (hu : ∀ e ∈ x :: T, 0 < e.used) (hfull : (x :: T).length = most) :
    Calls Try.prog 27 #[.pointer (some ⟨cb, 0, none⟩), .int .i64 (pl : Int)] w fun e w' => ∃ v fa' cf' la' cl' E', e = .returned (.tuple #[v, .int .i64 (wrote x st).1]) ∧ DevAt w' B db g fa' cf' (wrote x st).2 ∧ Later w fa cf fa' cf' ∧ Chg (CF cb mb la cl E ++ DF db g fa cf) w w' ∧ (∀ k, k ∈ CF cb mb la' cl' E' → k ∈ CF cb mb la cl E ∨ w.heap.size ≤ k) ∧ (∀ k, k ∈ CF cb mb la' cl' E' → k ∉ DF db g fa' cf') ∧
      ((wrote x st).1 ≠ 0 → CacheAt w' B cb mb la' cl' E' (x :: T) most uses db) ∧ ((wrote x st).1 = 0 → ∃ nb, v = .pointer (some ⟨nb, 0, none⟩) ∧ w.heap.size ≤ nb ∧ CacheAt w' B cb mb la' cl' E' (fresh nb pl :: T) most uses db) := by
  obtain ⟨D, hD⟩ := h.hd
  have c0 := h.c0
  have c1 := h.c1
  have c2 := h.c2
  have hs : Maps.size D = most := (hD.s.trans h.pm.length_eq).trans hfull
  have hO := hD.o
  have HS := mkHid hs
  have hmo := h.mo
  clear hs
  go_enter Try.func27, Try.ntmps27
  go_upto_region 1 with fail
  go_cut [17] (fun v wx => v = .bool true ∧ Chg [] w wx)
  case first =>
    have hne : ((Maps.size D : Int) == (most : Int)) = true := by rw [HS.out]; simp
    have hne2 : (Maps.size D == most) = true := by rw [HS.out]; simp
    go_region_law (refine step_len rfl (.tmp 11) 54 rfl 3 62 Try.underlying54 ptrR mb E.length D rfl (by first | exact hO | exact hO.drew | exact hO.drew.drew) ?_)
    all_goals
      go_wp2_with fail
      go_meet
      exact ⟨rfl, by first | exact Chg.refl _ _ | exact Chg.drew _ _ | exact (Chg.drew _ _).then (Chg.drew _ _)⟩
  case rest =>
    obtain ⟨rfl, gx⟩ := hcut
    have h1 := h.keep gx
    have d1 := hDv.keep gx
    have cG := cletgo_any B cb mb la cl E most uses db wc x T h1 g fa cf st d1 hW (Nat.le_trans hB gx.size) hLb hx
    by_cases hv : (wrote x st).1 = 0
    · rw [hv] at cG
      have HV := mkHid hv
      clear hv
      go_wp2_with (first
        | (go_at_call 47; refine cG.mono ?_; rintro e w1 ⟨rfl, fa', cf', d2, l2, g2, -, k0⟩; obtain ⟨F, kF, lF⟩ := k0 rfl; clear k0; obtain ⟨D1, hD1⟩ := kF.hd; have HF := mkHid (kF.push_next (Nat.le_trans hB (Nat.le_trans gx.size g2.size)) pl); have c12 := kF.c2; have hFl := kF.pm.length_eq; have hFle := kF.le)
        | (refine wpList_build_w rfl 68 #[(0, .tmp 23)] rfl (entV (fresh 0 pl) 0) (built_block 0 pl) ?_)
        | (refine wpList_box_w rfl 68 (.tmp 24) rfl (entV (fresh 0 pl) 0) rfl ?_; intro w2 hb2 hg2 hs2; have c22 := hg2.cellv c12 (by simp); generalize hz : w1.heap.size = nb at *)
        | (at_mapUpdate; refine wpList_mapUpdate_in _ rfl (.tmp 29) (.tmp 30) (.tmp 31) 54 rfl 3 62 (int_keyed Try.underlying3) Try.underlying54 ptrR mb F.length D1 rfl (hD1.chg hg2 (by simp)).o (by unfold maxLen; omega) _ _ (.int .i64 pl) rfl rfl (keyI pl hpl) (.lit (.int .u64 nb)) [] (ptrR_mk nb) ?_; intro w3 ho3 hm3)
        | (go_at_call 48; refine (HF.out _ _ (by first | exact hz | rfl) (by have := (grown_chg hm3).size; omega) (hg2.trans (grown_chg hm3) (by simp) (fun _ h _ => h)) (hb2.chg (grown_chg hm3) (by simp; intro e9; have := (kF.lt mb (by simp [CF])).2; omega))).mono ?_; rintro e w4 ⟨rfl, la', cl', E', h4, p4, H4, g4, f4, q4⟩))
      go_ret2
      have hTm : T.length < most := by simp at hfull; omega
      obtain ⟨r1, r2, r3⟩ := kF.comes hz (hg2.trans (grown_chg hm3) (by simp) (fun _ h _ => h)) hD1 ho3 h4 p4 H4 g4 f4 q4 hpl hn (fun e he => hu e (List.mem_cons_of_mem _ he)) hTm
      have hCF : ∀ k, k ∈ CF cb mb la cl F → k ∈ CF cb mb la cl E := fun k hk => by
        simp only [CF, List.mem_cons] at hk ⊢
        exact hk.imp id (lF k)
      have hlt1 : w.heap.size ≤ w1.heap.size := Nat.le_trans gx.size g2.size
      have gall : Chg (CF cb mb la cl E ++ DF db g fa cf) w w1 := gx.trans g2 (by simp) (fun _ h _ => h)
      have hno : ∀ k, k ∈ CF cb mb la cl F → k ∉ DF db g fa' cf' := fun k hk hm => by
        rcases DF_later l2 k hm with h9 | h9
        · exact hx k (hCF k hk) h9
        · have := (h1.lt k (hCF k hk)).2; omega
      have d4 : DevAt w4 B db g fa' cf' (wrote x st).2 := d2.chg r2 (fun k hk hm => hno k hm hk)
      refine ⟨_, fa', cf', la', cl', E', by rw [HV.out]; rfl, d4, fun k hk => (l2 k hk).imp id (fun h9 => Nat.le_trans gx.size h9), gall.trans r2 (fun _ h _ => h) (fun k hk _ => List.mem_append_left _ (hCF k hk)), fun k hk => (r3 k hk).imp (hCF k) (fun h9 => Nat.le_trans hlt1 h9), fun k hk hm => ?_, fun h9 => absurd HV.out h9, fun _ => ⟨nb, rfl, by omega, r1⟩⟩
      rcases r3 k hk with h9 | h9
      · exact hno k h9 hm
      · have := (d2.lt k hm).2; omega
    · have hv2 : ((wrote x st).1 != 0) = true := by simpa using hv
      have HV := mkHid hv
      clear hv
      go_wp2_with (first | (go_at_call 47; refine cG.mono ?_; rintro e w1 ⟨rfl, fa', cf', d2, l2, g2, k0, -⟩))
      go_ret2
      refine ⟨.pointer none, fa', cf', la, cl, E, rfl, d2, fun k hk => (l2 k hk).imp id (fun h9 => Nat.le_trans gx.size h9), gx.trans g2 (by simp) (fun _ h _ => h), fun k hk => Or.inl hk, fun k hk hm => ?_, fun h9 => k0 h9, fun h9 => absurd h9 HV.out⟩
      rcases DF_later l2 k hm with h9 | h9
      · exact hx k hk h9
      · have := (h1.lt k hk).2; omega
end
end Go.Proofs.Ytdmhcbbakgljoaa
