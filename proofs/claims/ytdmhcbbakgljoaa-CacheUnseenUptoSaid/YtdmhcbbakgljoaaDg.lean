/- The program's disk: Crash. -/
import Derived.Test.YtdmhcbbakgljoaaDf
namespace Go.Proofs.Ytdmhcbbakgljoaa
open Go.RowKit
set_option linter.unusedVariables false
set_option linter.unusedSimpArgs false
attribute [local go_sem ↓] Go.wp_at_zero Go.wp_at_succ wide65
attribute [local go_sem] run_wide

theorem keepP {w w' : World} {pa : Addr} {b1 lb : Nat} {t : TypeId} {v : Value} {f : Nat × List UInt8} (hf : (flyV f).length = 65) (h : w.cell? pa = some v ∧ Blk w b1 t (flyV f) ∧ thereB w b1 0 65 = true ∧ cellsAt w b1 0 65 = flyV f) (g : Chg [lb] w w') (h1 : pa.block ≠ lb) (h2 : b1 ≠ lb) :
    w'.cell? pa = some v ∧ Blk w' b1 t (flyV f) ∧ thereB w' b1 0 65 = true ∧ cellsAt w' b1 0 65 = flyV f := by
  have hb := h.2.1.chg g (by simpa using h2)
  exact ⟨g.cellv h.1 (by simpa using h1), hb, there_of_range hb.range hf⟩
theorem lasts_as (p q : Nat) (hp : p < 256) (hq : q = if p = 0 then 0 else if p = 1 then 64 else (p - 2) % 65) (w : World) :
    Calls Try.prog 44 #[.int .u8 p] w fun e w' => e = .returned (.int .i64 q) ∧ w = w' := by
  rw [hq]
  exact lasts_any p hp w
theorem torn_len (l : List ((Nat × List UInt8) × UInt8)) : ∀ (S : List (List UInt8)), (torn S l).length = S.length := by
  induction l with
  | nil => intro S; rfl
  | cons f r ih =>
    intro S
    show (torn (tear S f) r).length = _
    rw [ih]
    unfold tear
    split
    · rfl
    · rw [laid_len]
set_option maxRecDepth 100000 in
set_option maxHeartbeats 2000000 in
theorem dcrash_any (B db : Nat) (g : DG) (fa : Option Addr) (cf : Nat) (st : RS) (w : World) (h : DevAt w B db g fa cf st)
    (ap : Option Addr) (np cp : Nat) (ps : List UInt8) (gp : Reads w ap (bts ps)) (gn : ps.length = np) (hnp : np ≤ maxLen) (hap : ∀ k, k ∈ blk ap → k ∉ DF db g fa cf) :
    Calls Try.prog 19 #[.pointer (some ⟨db, 0, none⟩), .slice ap np cp] w fun e w' => e = .returned (.tuple #[]) ∧ DevAt w' B db g none 0 (crash st ps) ∧ Chg [g.lb, g.nb, db] w w' := by
  have hn1 := h.rL.le
  have hn2 := h.rL.max
  unfold maxLen at hn2 hnp
  have c0 := h.c0
  have c1 := h.c1
  obtain ⟨Z, hZ⟩ : ∃ Z, Z = st.L.zip ps := ⟨_, rfl⟩
  have hzl : Z.length = min st.L.length np := by rw [hZ, List.length_zip, gn]
  have HZ := mkHid hZ
  have hapl : ∀ k, k ∈ blk ap → k ∉ [g.lb] := fun k hk hm => hap k hk (by simp at hm; simp [DF, hm])
  go_enter Try.func19, Try.ntmps19
  go_wp2_with (first | (go_at_call 42; refine (made_yes db _ _ _ _ w c0).mono ?_; rintro e w' ⟨rfl, rfl⟩))
  go_loopw [14] (fun i wr => ∃ (k : Nat), i = .int .i64 k ∧ k ≤ st.L.length ∧ DevAt wr B db g fa cf { st with S := torn st.S (Z.take k) } ∧ Chg [g.lb] w wr) (fun i _ => st.L.length - (intOf i).toNat)
  case atStart => exact ⟨0, rfl, by omega, h, Chg.refl _ _⟩
  case round =>
    obtain ⟨k, rfl, hk, hr, hc⟩ := hrel
    by_cases hlt : k < st.L.length
    · obtain ⟨s, l, hsl⟩ : ∃ s l, st.L[k] = (s, l) := ⟨_, _, rfl⟩
      have hL := h.lL _ (List.getElem_mem hlt)
      rw [hsl] at hL
      obtain ⟨fb, fo, rfl, _, _, _, hcf⟩ := hr.rL.at_ (by omega)
      have hrg : wr.rangeAt fb (fo + k * 65) (flyV (s, l)) := fun j u hu => by
        have := hcf (k * 65 + j) u (flyC_get st.L k hlt (fun f hf => (h.lL f hf).1) j u (by rw [hsl]; exact hu))
        rw [← this]
        congr 2
        omega
      have hki : (k : Int) < (st.L.length : Int) := by omega
      have hfl := flyV_len hL.1
      have Hfl := mkHid hfl
      obtain ⟨hL1, hL2⟩ := hL
      have HL1 := mkHid hL1
      have hkL : decide ((k : Int) < (st.L.length : Int)) = true := decide_eq_true hki
      clear hcf hfl hL1
      by_cases hkp : k < np
      · have hlP : k < ps.length := by omega
        have hkz : k < Z.length := by omega
        obtain ⟨pb, po, rfl, hpc⟩ := (gp.chg hc hapl) (by rw [bts_length]; omega)
        have x3 := hpc k _ (bts_get ps k hlP)
        have hpbl : pb ≠ g.lb := fun e => hapl pb (by simp [blk]) (by simp [e])
        obtain ⟨x, hx⟩ : ∃ x, x = ps[k] := ⟨_, rfl⟩
        rw [← hx] at x3
        have hge : Z[k] = ((s, l), x) := by simp only [hZ, List.getElem_zip, hsl, hx]
        have hstep := torn_succ st.S Z k hkz
        rw [hge] at hstep
        unfold tear at hstep
        obtain ⟨p, hp⟩ : ∃ p, p = x.toNat := ⟨_, rfl⟩
        have hp256 : p < 256 := by rw [hp]; exact x.toNat_lt
        simp only [← hp] at hstep x3
        obtain ⟨q, hq⟩ : ∃ q, q = if p = 0 then 0 else if p = 1 then 64 else (p - 2) % 65 := ⟨_, rfl⟩
        have hq64 : q ≤ 64 := by rw [hq]; split; omega; split <;> omega
        have hstep2 : torn st.S (Z.take (k + 1)) = laid (torn st.S (Z.take k)) s l q := by
          rw [hstep, hq]
          by_cases h0 : p = 0
          · rw [if_pos h0, if_pos h0, laid_none _ _ _ (by rw [torn_len]; exact hL2)]
          · rw [if_neg h0, if_neg h0]
        have Hst := mkHid hstep2
        have HQ := mkHid hq
        have hkP : decide ((k : Int) < (np : Int)) = true := decide_eq_true (by omega)
        have hsT : s < (torn st.S (Z.take k)).length := by rw [torn_len]; exact hL2
        have hkn : (k : Int) < (np : Int) := by omega
        clear hpc hstep hstep2 hge hx hp hsl hZ hq gp
        go_wp2_with (first | (refine wpList_load_w rfl 82 (.tmp 17) rfl flyZ wideW fb (fo + k * 65) (flyV (s, l)) hrg Hfl.out rfl ?_) | (refine wpList_alloc_w rfl 82 rfl flyZ wideW ?_; intro w1 hb1 hg1 hs1) | (refine wpList_store_w rfl 82 (.tmp 5) (.tmp 18) rfl flyZ wideW _ flyZ (flyV (s, l)) hb1 rfl Hfl.out (flyV_one _) rfl rfl ?_; intro w2 hb2 hg2 hs2; have hg12 : Chg [] wr w2 := hg1.trans hg2 (fun _ h _ => h) (fun k hk hlt => by simp at hk; omega)))
        have hlbl : g.lb < wr.heap.size := (hr.lt g.lb (by simp [DF])).2
        generalize hb1e : wr.heap.size = b1 at *
        have hne1 : b1 ≠ g.lb := by omega
        have x4 := hg12.cellv x3 (by simp)
        have hr2 := hr.keep (hg12.then (Chg.drew [] w2))
        clear hg1 hg2 hb1 x3 hrg
        go_region_held3 (fun w' => w'.cell? ⟨pb, po + k, none⟩ = some (.int .u8 (p : Nat)) ∧ Blk w' b1 82 (flyV (s, l)) ∧ thereB w' b1 0 65 = true ∧ cellsAt w' b1 0 65 = flyV (s, l))
          (first | exact keepP (lb := g.lb) Hfl.out ⟨x4, hb2, there_of_range hb2.range Hfl.out⟩ (Chg.drew _ _) hpbl hne1 | exact keepP (lb := g.lb) Hfl.out (by assumption) hg3 hpbl hne1)
          (first | (go_at_call 44; refine (lasts_as p q hp256 HQ.out _).mono ?_; rintro e w' ⟨rfl, rfl⟩) | (go_at_call 43; refine (land_any s q l B db g _ cf _ _ hr2 HL1.out hsT hq64).mono ?_; rintro e w3 ⟨rfl, h3, hg3⟩))
        go_wp2_with fail
        refine ⟨⟨k + 1, by go_num, by omega, by rw [Hst.out]; exact h3, ((hc.then hg12).then (Chg.drew [] _)).trans hg3 (fun _ h _ => h) (fun _ h _ => h)⟩, by simp [intOf]; omega⟩
      · have hkP : decide ((k : Int) < (np : Int)) = false := decide_eq_false (by omega)
        have e1 : Z.take (k + 1) = Z.take k := by rw [List.take_of_length_le (by omega), List.take_of_length_le (by omega)]
        have He1 := mkHid e1
        clear e1 hsl
        go_wp2_with (first | (refine wpList_load_w rfl 82 (.tmp 17) rfl flyZ wideW fb (fo + k * 65) (flyV (s, l)) hrg Hfl.out rfl ?_) | (refine wpList_alloc_w rfl 82 rfl flyZ wideW ?_; intro w1 hb1 hg1 hs1) | (refine wpList_store_w rfl 82 (.tmp 5) (.tmp 18) rfl flyZ wideW _ flyZ (flyV (s, l)) hb1 rfl Hfl.out (flyV_one _) rfl rfl ?_; intro w2 hb2 hg2 hs2; have hg12 : Chg [] wr w2 := hg1.trans hg2 (fun _ h _ => h) (fun k hk hlt => by simp at hk; omega)))
        refine ⟨⟨k + 1, by go_num, by omega, by rw [He1.out]; exact hr.keep hg12, hc.then hg12⟩, by simp [intOf]; omega⟩
    · have hkz : k = st.L.length := by omega
      have e1 : Z.take k = Z := List.take_of_length_le (by omega)
      rw [e1] at hr
      have hkL : decide ((k : Int) < (st.L.length : Int)) = false := decide_eq_false (by omega)
      clear hkz e1
      have fin : ∀ w4, DevAt w4 B db g none 0 { st with S := torn st.S Z, L := [] } → DevAt ((w4.setCell ⟨db, 3, none⟩ (.int .i64 0)).setCell ⟨db, 4, none⟩ (.bool false)) B db g none 0 (crash st ps) ∧ Chg [db] w4 ((w4.setCell ⟨db, 3, none⟩ (.int .i64 0)).setCell ⟨db, 4, none⟩ (.bool false)) := fun w4 h4 => by
        have a1 : DevAt (w4.setCell ⟨db, 3, none⟩ (.int .i64 0)) B db g none 0 { st with S := torn st.S Z, L := [], left := 0 } := h4.left 0 (by decide)
        refine ⟨?_, (Chg.setCell w4 ⟨db, 3, none⟩ _).trans (Chg.setCell _ ⟨db, 4, none⟩ _) (fun _ h _ => h) (fun _ h _ => h)⟩
        unfold crash
        rw [← HZ.out]
        exact a1.setF (Chg.setCell _ ⟨db, 4, none⟩ _) (by rw [World.cell?_setCell_other _ _ _ _ (by simp)]) (by rw [World.cell?_setCell_other _ _ _ _ (by simp)]) (by rw [World.cell?_setCell_other _ _ _ _ (by simp)]) (by rw [World.cell?_setCell_other _ _ _ _ (by simp)]; exact a1.c3) (World.cell?_setCell_same _ _ _ a1.c4) (fun j hj => by rw [World.frozen?_setCell]; exact a1.fz j hj) rfl rfl (by show 0 < _; decide)
      go_wp2_with (first | (go_at_call 45; refine (calm_any B db g fa cf _ wr hr).mono ?_; rintro e w4 ⟨rfl, h4, hg4⟩; have k3 := h4.c3; have k4 := h4.c4; have k5 := h4.fz 3 (by decide); have k6 := h4.fz 4 (by decide)))
      go_end0
      obtain ⟨y1, y2⟩ := fin _ h4
      exact ⟨rfl, y1, (hc.trans hg4 (fun k hk _ => by simp at hk ⊢; exact Or.inl hk) (fun k hk _ => by simp at hk ⊢; exact Or.inr hk)).trans y2 (fun _ h _ => h) (fun k hk _ => by simp at hk ⊢; exact Or.inr (Or.inr hk))⟩
end Go.Proofs.Ytdmhcbbakgljoaa
