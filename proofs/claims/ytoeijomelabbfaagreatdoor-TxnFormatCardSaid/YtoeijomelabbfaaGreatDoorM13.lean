/- Texts Dg, Dh, Dw, Jo, Jp, Jq, Jr of the library, joined. -/
import Derived.Test.YtoeijomelabbfaaGreatDoorM12
import Derived.Test.YtoeijomelabbfaaGreatDoorM11
/- The program's disk: Crash. -/
namespace Go.Proofs.YtoeijomelabbfaaGreatDoor
set_option maxRecDepth 200000
open Go.RowKit
set_option linter.unusedVariables false
set_option linter.unusedSimpArgs false
attribute [local go_sem ↓] Go.wp_at_zero Go.wp_at_succ wide65
attribute [local go_sem] run_wide

theorem keepP {w w' : World} {pa : Addr} {b1 lb : Nat} {t : TypeId} {v : Value} {f : Nat × List UInt8} (hf : (flyV f).length = 65) (h : w.cell? pa = some v ∧ Blk w b1 t (flyV f) ∧ thereB w b1 0 65 = true ∧ cellsAt w b1 0 65 = flyV f) (g : Chg [lb] w w') (h1 : pa.block ≠ lb) (h2 : b1 ≠ lb) :
    w'.cell? pa = some v ∧ Blk w' b1 t (flyV f) ∧ thereB w' b1 0 65 = true ∧ cellsAt w' b1 0 65 = flyV f := by
  have hb := h.2.1.chg g (by simpa using h2)
  exact ⟨g.cellv h.1 (by simpa using h1), hb, there_of_range hb.range hf⟩
theorem lasts_as (p q : Nat) (hp : p < 256) (hq : q = if p = 0 then 0 else if p = 1 then 64 else (p - 2) % 65) (w : World) :
    Calls Tryz.prog 101 #[.int .u8 p] w fun e w' => e = .returned (.int .i64 q) ∧ w = w' := by
  rw [hq]
  exact lasts_any p hp w
theorem torn_len (l : List ((Nat × List UInt8) × UInt8)) : ∀ (S : List (List UInt8)), (torn S l).length = S.length := by
  induction l with
  | nil => intro S; rfl
  | cons f r ih =>
    intro S
    show (torn (tear S f) r).length = _
    rw [ih]
    unfold tear
    split
    · rfl
    · rw [laid_len]
set_option maxRecDepth 100000 in
set_option maxHeartbeats 2000000 in
theorem dcrash_any (B db : Nat) (g : DG) (fa : Option Addr) (cf : Nat) (st : RS) (w : World) (h : DevAt w B db g fa cf st)
    (ap : Option Addr) (np cp : Nat) (ps : List UInt8) (gp : Reads w ap (bts ps)) (gn : ps.length = np) (hnp : np ≤ maxLen) (hap : ∀ k, k ∈ blk ap → k ∉ DF db g fa cf) :
    Calls Tryz.prog 35 #[.pointer (some ⟨db, 0, none⟩), .slice ap np cp] w fun e w' => e = .returned (.tuple #[]) ∧ DevAt w' B db g none 0 (crash st ps) ∧ Chg [g.lb, g.nb, db] w w' := by
  have hn1 := h.rL.le
  have hn2 := h.rL.max
  unfold maxLen at hn2 hnp
  have c0 := h.c0
  have c1 := h.c1
  obtain ⟨Z, hZ⟩ : ∃ Z, Z = st.L.zip ps := ⟨_, rfl⟩
  have hzl : Z.length = min st.L.length np := by rw [hZ, List.length_zip, gn]
  have HZ := mkHid hZ
  have hapl : ∀ k, k ∈ blk ap → k ∉ [g.lb] := fun k hk hm => hap k hk (by simp at hm; simp [DF, hm])
  go_enter Tryz.func35, Tryz.ntmps35
  go_wp2_with (first | (go_at_call 99; refine (made_yes db _ _ _ _ w c0).mono ?_; rintro e w' ⟨rfl, rfl⟩))
  go_loopw [14] (fun i wr => ∃ (k : Nat), i = .int .i64 k ∧ k ≤ st.L.length ∧ DevAt wr B db g fa cf { st with S := torn st.S (Z.take k) } ∧ Chg [g.lb] w wr) (fun i _ => st.L.length - (Go.RowKit.intOf i).toNat)
  case atStart => exact ⟨0, rfl, by omega, h, Chg.refl _ _⟩
  case round =>
    obtain ⟨k, rfl, hk, hr, hc⟩ := hrel
    by_cases hlt : k < st.L.length
    · obtain ⟨s, l, hsl⟩ : ∃ s l, st.L[k] = (s, l) := ⟨_, _, rfl⟩
      have hL := h.lL _ (List.getElem_mem hlt)
      rw [hsl] at hL
      obtain ⟨fb, fo, rfl, _, _, _, hcf⟩ := hr.rL.at_ (by omega)
      have hrg : wr.rangeAt fb (fo + k * 65) (flyV (s, l)) := fun j u hu => by
        have := hcf (k * 65 + j) u (flyC_get st.L k hlt (fun f hf => (h.lL f hf).1) j u (by rw [hsl]; exact hu))
        rw [← this]
        congr 2
        omega
      have hki : (k : Int) < (st.L.length : Int) := by omega
      have hfl := flyV_len hL.1
      have Hfl := mkHid hfl
      obtain ⟨hL1, hL2⟩ := hL
      have HL1 := mkHid hL1
      have hkL : decide ((k : Int) < (st.L.length : Int)) = true := decide_eq_true hki
      clear hcf hfl hL1
      by_cases hkp : k < np
      · have hlP : k < ps.length := by omega
        have hkz : k < Z.length := by omega
        obtain ⟨pb, po, rfl, hpc⟩ := (gp.chg hc hapl) (by rw [bts_length]; omega)
        have x3 := hpc k _ (bts_get ps k hlP)
        have hpbl : pb ≠ g.lb := fun e => hapl pb (by simp [blk]) (by simp [e])
        obtain ⟨x, hx⟩ : ∃ x, x = ps[k] := ⟨_, rfl⟩
        rw [← hx] at x3
        have hge : Z[k] = ((s, l), x) := by simp only [hZ, List.getElem_zip, hsl, hx]
        have hstep := torn_succ st.S Z k hkz
        rw [hge] at hstep
        unfold tear at hstep
        obtain ⟨p, hp⟩ : ∃ p, p = x.toNat := ⟨_, rfl⟩
        have hp256 : p < 256 := by rw [hp]; exact x.toNat_lt
        simp only [← hp] at hstep x3
        obtain ⟨q, hq⟩ : ∃ q, q = if p = 0 then 0 else if p = 1 then 64 else (p - 2) % 65 := ⟨_, rfl⟩
        have hq64 : q ≤ 64 := by rw [hq]; split; omega; split <;> omega
        have hstep2 : torn st.S (Z.take (k + 1)) = laid (torn st.S (Z.take k)) s l q := by
          rw [hstep, hq]
          by_cases h0 : p = 0
          · rw [if_pos h0, if_pos h0, laid_none _ _ _ (by rw [torn_len]; exact hL2)]
          · rw [if_neg h0, if_neg h0]
        have Hst := mkHid hstep2
        have HQ := mkHid hq
        have hkP : decide ((k : Int) < (np : Int)) = true := decide_eq_true (by omega)
        have hsT : s < (torn st.S (Z.take k)).length := by rw [torn_len]; exact hL2
        have hkn : (k : Int) < (np : Int) := by omega
        clear hpc hstep hstep2 hge hx hp hsl hZ hq gp
        go_wp2_with (first | (refine wpList_load_w rfl 156 (.tmp 17) rfl flyZ wideW fb (fo + k * 65) (flyV (s, l)) hrg Hfl.out rfl ?_) | (refine wpList_alloc_w rfl 156 rfl flyZ wideW ?_; intro w1 hb1 hg1 hs1) | (refine wpList_store_w rfl 156 (.tmp 5) (.tmp 18) rfl flyZ wideW _ flyZ (flyV (s, l)) hb1 rfl Hfl.out (flyV_one _) rfl rfl ?_; intro w2 hb2 hg2 hs2; have hg12 : Chg [] wr w2 := hg1.trans hg2 (fun _ h _ => h) (fun k hk hlt => by simp at hk; omega)))
        have hlbl : g.lb < wr.heap.size := (hr.lt g.lb (by simp [DF])).2
        generalize hb1e : wr.heap.size = b1 at *
        have hne1 : b1 ≠ g.lb := by omega
        have x4 := hg12.cellv x3 (by simp)
        have hr2 := hr.keep (hg12.then (Chg.drew [] w2))
        clear hg1 hg2 hb1 x3 hrg
        go_region_held3 (fun w' => w'.cell? ⟨pb, po + k, none⟩ = some (.int .u8 (p : Nat)) ∧ Blk w' b1 156 (flyV (s, l)) ∧ thereB w' b1 0 65 = true ∧ cellsAt w' b1 0 65 = flyV (s, l))
          (first | exact keepP (lb := g.lb) Hfl.out ⟨x4, hb2, there_of_range hb2.range Hfl.out⟩ (Chg.drew _ _) hpbl hne1 | exact keepP (lb := g.lb) Hfl.out (by assumption) hg3 hpbl hne1)
          (first | (go_at_call 101; refine (lasts_as p q hp256 HQ.out _).mono ?_; rintro e w' ⟨rfl, rfl⟩) | (go_at_call 100; refine (land_any s q l B db g _ cf _ _ hr2 HL1.out hsT hq64).mono ?_; rintro e w3 ⟨rfl, h3, hg3⟩))
        go_wp2_with fail
        refine ⟨⟨k + 1, by go_num, by omega, by rw [Hst.out]; exact h3, ((hc.then hg12).then (Chg.drew [] _)).trans hg3 (fun _ h _ => h) (fun _ h _ => h)⟩, by simp [Go.RowKit.intOf]; omega⟩
      · have hkP : decide ((k : Int) < (np : Int)) = false := decide_eq_false (by omega)
        have e1 : Z.take (k + 1) = Z.take k := by rw [List.take_of_length_le (by omega), List.take_of_length_le (by omega)]
        have He1 := mkHid e1
        clear e1 hsl
        go_wp2_with (first | (refine wpList_load_w rfl 156 (.tmp 17) rfl flyZ wideW fb (fo + k * 65) (flyV (s, l)) hrg Hfl.out rfl ?_) | (refine wpList_alloc_w rfl 156 rfl flyZ wideW ?_; intro w1 hb1 hg1 hs1) | (refine wpList_store_w rfl 156 (.tmp 5) (.tmp 18) rfl flyZ wideW _ flyZ (flyV (s, l)) hb1 rfl Hfl.out (flyV_one _) rfl rfl ?_; intro w2 hb2 hg2 hs2; have hg12 : Chg [] wr w2 := hg1.trans hg2 (fun _ h _ => h) (fun k hk hlt => by simp at hk; omega)))
        refine ⟨⟨k + 1, by go_num, by omega, by rw [He1.out]; exact hr.keep hg12, hc.then hg12⟩, by simp [Go.RowKit.intOf]; omega⟩
    · have hkz : k = st.L.length := by omega
      have e1 : Z.take k = Z := List.take_of_length_le (by omega)
      rw [e1] at hr
      have hkL : decide ((k : Int) < (st.L.length : Int)) = false := decide_eq_false (by omega)
      clear hkz e1
      have fin : ∀ w4, DevAt w4 B db g none 0 { st with S := torn st.S Z, L := [] } → DevAt ((w4.setCell ⟨db, 3, none⟩ (.int .i64 0)).setCell ⟨db, 4, none⟩ (.bool false)) B db g none 0 (crash st ps) ∧ Chg [db] w4 ((w4.setCell ⟨db, 3, none⟩ (.int .i64 0)).setCell ⟨db, 4, none⟩ (.bool false)) := fun w4 h4 => by
        have a1 : DevAt (w4.setCell ⟨db, 3, none⟩ (.int .i64 0)) B db g none 0 { st with S := torn st.S Z, L := [], left := 0 } := h4.left 0 (by decide)
        refine ⟨?_, (Chg.setCell w4 ⟨db, 3, none⟩ _).trans (Chg.setCell _ ⟨db, 4, none⟩ _) (fun _ h _ => h) (fun _ h _ => h)⟩
        unfold crash
        rw [← HZ.out]
        exact a1.setF (Chg.setCell _ ⟨db, 4, none⟩ _) (by rw [World.cell?_setCell_other _ _ _ _ (by simp)]) (by rw [World.cell?_setCell_other _ _ _ _ (by simp)]) (by rw [World.cell?_setCell_other _ _ _ _ (by simp)]) (by rw [World.cell?_setCell_other _ _ _ _ (by simp)]; exact a1.c3) (World.cell?_setCell_same _ _ _ a1.c4) (fun j hj => by rw [World.frozen?_setCell]; exact a1.fz j hj) rfl rfl (by show 0 < _; decide)
      go_wp2_with (first | (go_at_call 102; refine (calm_any B db g fa cf _ wr hr).mono ?_; rintro e w4 ⟨rfl, h4, hg4⟩; have k3 := h4.c3; have k4 := h4.c4; have k5 := h4.fz 3 (by decide); have k6 := h4.fz 4 (by decide)))
      go_end0
      obtain ⟨y1, y2⟩ := fin _ h4
      exact ⟨rfl, y1, (hc.trans hg4 (fun k hk _ => by simp at hk ⊢; exact Or.inl hk) (fun k hk _ => by simp at hk ⊢; exact Or.inr hk)).trans y2 (fun _ h _ => h) (fun k hk _ => by simp at hk ⊢; exact Or.inr (Or.inr hk))⟩
end Go.Proofs.YtoeijomelabbfaaGreatDoor

/- The program's disk: New, Copy, none. -/
namespace Go.Proofs.YtoeijomelabbfaaGreatDoor
set_option maxRecDepth 200000
open Go.RowKit
set_option linter.unusedVariables false
set_option linter.unusedSimpArgs false
attribute [local go_sem ↓] Go.wp_at_zero Go.wp_at_succ

/-- A new disk. -/
def RS.new (n : Nat) : RS := ⟨List.replicate (4 * n) zero64, [], 0, false, n⟩
theorem new_whole (n : Nat) (h : n ≤ 1024) : Whole (RS.new n) := ⟨by simp [RS.new], h⟩
theorem flat_new (n : Nat) : (RS.new n).S.flatten = List.replicate (256 * n) 0 := by
  show (List.replicate (4 * n) zero64).flatten = _
  unfold zero64
  rw [List.flatten_replicate_replicate]
  congr 1
  omega
theorem dnew_close {w w' : World} {n lb nb db : Nat} (h1 : 1 ≤ n) (c0 : w'.cell? ⟨db, 0, none⟩ = some (.slice (some ⟨lb, 0, none⟩) (256 * n) (256 * n))) (c1 : w'.cell? ⟨db, 1, none⟩ = some (.slice none 0 0)) (c2 : w'.cell? ⟨db, 2, none⟩ = some (.slice (some ⟨nb, 0, none⟩) (4 * n) (4 * n)))
    (c3 : w'.cell? ⟨db, 3, none⟩ = some (.int .i64 0)) (c4 : w'.cell? ⟨db, 4, none⟩ = some (.bool false)) (fz : ∀ j, j < 5 → w'.frozen? ⟨db, j, none⟩ = false)
    (rS : Room w' w.heap.size (some ⟨lb, 0, none⟩) (256 * n) (256 * n) (List.replicate (256 * n) (.int .u8 0))) (rN : Room w' w.heap.size (some ⟨nb, 0, none⟩) (4 * n) (4 * n) (List.replicate (4 * n) (.int .i64 0)))
    (d1 : db ≠ lb) (d2 : db ≠ nb) (d3 : lb ≠ nb) (dB : w.heap.size ≤ db) : DevAt w' w.heap.size db ⟨lb, 0, 256 * n, nb, 0, 4 * n⟩ none 0 (RS.new n) := by
  have e1 : 64 * (RS.new n).S.length = 256 * n := by simp [RS.new]; omega
  have e2 : (RS.new n).S.length = 4 * n := by simp [RS.new]
  refine ⟨by rw [e1]; exact c0, c1, by rw [e2]; exact c2, c3, c4, fz, by rw [e1, flat_new, bts_rep]; exact rS, RoomZ.nil _ _ _ _, by rw [e2]; show Room w' _ _ _ _ (newC (4 * n) []); rw [newC_nil]; exact rN, d1, d2, d3, by simp [fp_zero], by simp [fp_zero], by simp [fp_zero], dB, ?_, fun f hf => by simp [RS.new] at hf, by show 0 < _; decide, by rw [e2]; omega⟩
  intro l hl
  have : l = zero64 := List.eq_of_mem_replicate hl
  rw [this]
  rfl
theorem dnew_one (n : Nat) (h1 : 1 ≤ n) (h2 : n ≤ 1024) (w : World) : DevAt (((w.alloc (.cells (madeCells #[.int .u8 0] (256 * n)) 5)).alloc (.cells (madeCells #[.int .i64 0] (4 * n)) 3)).alloc (.cells #[.slice (some ⟨w.heap.size, 0, none⟩) (256 * n) (256 * n), .slice none 0 0, .slice (some ⟨w.heap.size + 1, 0, none⟩) (4 * n) (4 * n), .int .i64 0, .bool false] 91)).drew w.heap.size (w.heap.size + 1 + 1) ⟨w.heap.size, 0, 256 * n, w.heap.size + 1, 0, 4 * n⟩ none 0 (RS.new n) := by
  have ra := made_room w 5 (.int .u8 0) (256 * n) (by unfold maxLen; omega)
  have rb := made_room (w.alloc (.cells (madeCells #[.int .u8 0] (256 * n)) 5)) 3 (.int .i64 0) (4 * n) (by unfold maxLen; omega)
  have z1 : (w.alloc (.cells (madeCells #[.int .u8 0] (256 * n)) 5)).heap.size = w.heap.size + 1 := by simp
  generalize w.alloc (.cells (madeCells #[.int .u8 0] (256 * n)) 5) = w1 at *
  have ra2 := ra.chg (Chg.alloc [] w1 (.cells (madeCells #[.int .i64 0] (4 * n)) 3)) (by simp)
  have z2 : (w1.alloc (.cells (madeCells #[.int .i64 0] (4 * n)) 3)).heap.size = w.heap.size + 1 + 1 := by simp; omega
  generalize w1.alloc (.cells (madeCells #[.int .i64 0] (4 * n)) 3) = w2 at *
  rw [z1] at rb
  have hg := (Chg.alloc [] w2 (.cells #[.slice (some ⟨w.heap.size, 0, none⟩) (256 * n) (256 * n), .slice none 0 0, .slice (some ⟨w.heap.size + 1, 0, none⟩) (4 * n) (4 * n), .int .i64 0, .bool false] 91)).then (Chg.drew [] _)
  have hcl := fun j => cell_of_row (w2.alloc (.cells #[.slice (some ⟨w.heap.size, 0, none⟩) (256 * n) (256 * n), .slice none 0 0, .slice (some ⟨w.heap.size + 1, 0, none⟩) (4 * n) (4 * n), .int .i64 0, .bool false] 91)).drew w2.heap.size j _ _ _ (heap_alloc_last w2 _)
  have hfz := fun j => frozen_of_row (w2.alloc (.cells #[.slice (some ⟨w.heap.size, 0, none⟩) (256 * n) (256 * n), .slice none 0 0, .slice (some ⟨w.heap.size + 1, 0, none⟩) (4 * n) (4 * n), .int .i64 0, .bool false] 91)).drew w2.heap.size j _ _ (heap_alloc_last w2 _)
  rw [z2] at hcl hfz
  exact dnew_close h1 (hcl 0) (hcl 1) (hcl 2) (hcl 3) (hcl 4) (fun j _ => hfz j) (ra2.chg hg (by simp)) ((rb.mono (by omega)).chg hg (by simp)) (by omega) (by omega) (by omega) (by omega)
theorem dnew_two (n : Nat) (h1 : 1 ≤ n) (h2 : n ≤ 1024) (w : World) : DevAt (((w.alloc (.cells (madeCells #[.int .i64 0] (4 * n)) 3)).alloc (.cells (madeCells #[.int .u8 0] (256 * n)) 5)).alloc (.cells #[.slice (some ⟨w.heap.size + 1, 0, none⟩) (256 * n) (256 * n), .slice none 0 0, .slice (some ⟨w.heap.size, 0, none⟩) (4 * n) (4 * n), .int .i64 0, .bool false] 91)).drew w.heap.size (w.heap.size + 1 + 1) ⟨w.heap.size + 1, 0, 256 * n, w.heap.size, 0, 4 * n⟩ none 0 (RS.new n) := by
  have ra := made_room w 3 (.int .i64 0) (4 * n) (by unfold maxLen; omega)
  have rb := made_room (w.alloc (.cells (madeCells #[.int .i64 0] (4 * n)) 3)) 5 (.int .u8 0) (256 * n) (by unfold maxLen; omega)
  have z1 : (w.alloc (.cells (madeCells #[.int .i64 0] (4 * n)) 3)).heap.size = w.heap.size + 1 := by simp
  generalize w.alloc (.cells (madeCells #[.int .i64 0] (4 * n)) 3) = w1 at *
  have ra2 := ra.chg (Chg.alloc [] w1 (.cells (madeCells #[.int .u8 0] (256 * n)) 5)) (by simp)
  have z2 : (w1.alloc (.cells (madeCells #[.int .u8 0] (256 * n)) 5)).heap.size = w.heap.size + 1 + 1 := by simp; omega
  generalize w1.alloc (.cells (madeCells #[.int .u8 0] (256 * n)) 5) = w2 at *
  rw [z1] at rb
  have hg := (Chg.alloc [] w2 (.cells #[.slice (some ⟨w.heap.size + 1, 0, none⟩) (256 * n) (256 * n), .slice none 0 0, .slice (some ⟨w.heap.size, 0, none⟩) (4 * n) (4 * n), .int .i64 0, .bool false] 91)).then (Chg.drew [] _)
  have hcl := fun j => cell_of_row (w2.alloc (.cells #[.slice (some ⟨w.heap.size + 1, 0, none⟩) (256 * n) (256 * n), .slice none 0 0, .slice (some ⟨w.heap.size, 0, none⟩) (4 * n) (4 * n), .int .i64 0, .bool false] 91)).drew w2.heap.size j _ _ _ (heap_alloc_last w2 _)
  have hfz := fun j => frozen_of_row (w2.alloc (.cells #[.slice (some ⟨w.heap.size + 1, 0, none⟩) (256 * n) (256 * n), .slice none 0 0, .slice (some ⟨w.heap.size, 0, none⟩) (4 * n) (4 * n), .int .i64 0, .bool false] 91)).drew w2.heap.size j _ _ (heap_alloc_last w2 _)
  rw [z2] at hcl hfz
  exact dnew_close h1 (hcl 0) (hcl 1) (hcl 2) (hcl 3) (hcl 4) (fun j _ => hfz j) ((rb.mono (by omega)).chg hg (by simp)) (ra2.chg hg (by simp)) (by omega) (by omega) (by omega) (by omega)
set_option maxHeartbeats 1000000 in
theorem dnew_yes (n : Nat) (h1 : 1 ≤ n) (h2 : n ≤ 1024) (w : World) : Calls Tryz.prog 7 #[.int .i64 n] w fun e w' => ∃ db g, e = .returned (.tuple #[.pointer (some ⟨db, 0, none⟩), .int .i64 0]) ∧ DevAt w' w.heap.size db g none 0 (RS.new n) ∧ Chg [] w w' := by
  have hd : decide ((n : Int) < 1) = false := decide_eq_false (by omega)
  have hd2 : decide ((1024 : Int) < (n : Int)) = false := decide_eq_false (by omega)
  have hm1 : ∀ u : World, (Instr.makeSlice 41 (.int .i64 ((n : Int) * 256)) (.int .i64 ((n : Int) * 256))).run Tryz.prog u = .ok (.slice (some ⟨u.heap.size, 0, none⟩) (256 * n) (256 * n)) (u.alloc (.cells (madeCells #[.int .u8 0] (256 * n)) 5)) := fun u => by
    have := run_make_k eltB (.int .u8 0) (by kernel_rfl) rfl (256 * n) (by omega) (by unfold maxLen; omega) u
    rwa [show ((256 * n : Nat) : Int) = (n : Int) * 256 by omega] at this
  have hm2 : ∀ u : World, (Instr.makeSlice 81 (.int .i64 ((n : Int) * 4)) (.int .i64 ((n : Int) * 4))).run Tryz.prog u = .ok (.slice (some ⟨u.heap.size, 0, none⟩) (4 * n) (4 * n)) (u.alloc (.cells (madeCells #[.int .i64 0] (4 * n)) 3)) := fun u => by
    have := run_make_k eltN (.int .i64 0) (by kernel_rfl) rfl (4 * n) (by omega) (by unfold maxLen; omega) u
    rwa [show ((4 * n : Nat) : Int) = (n : Int) * 4 by omega] at this
  go_enter Tryz.func7, Tryz.ntmps7
  go_wp2_with fail
  go_region
  · have hD := dnew_one n h1 h2 w
    have hC : Chg [] w (((w.alloc (.cells (madeCells #[.int .u8 0] (256 * n)) 5)).alloc (.cells (madeCells #[.int .i64 0] (4 * n)) 3)).alloc (.cells #[.slice (some ⟨w.heap.size, 0, none⟩) (256 * n) (256 * n), .slice none 0 0, .slice (some ⟨w.heap.size + 1, 0, none⟩) (4 * n) (4 * n), .int .i64 0, .bool false] 91)).drew := (((Chg.alloc [] w _).then (Chg.alloc [] _ _)).then (Chg.alloc [] _ _)).then (Chg.drew [] _)
    go_wp2_with fail
    go_ret2
    exact ⟨_, _, rfl, hD, hC⟩
  · have hD := dnew_two n h1 h2 w
    have hC : Chg [] w (((w.alloc (.cells (madeCells #[.int .i64 0] (4 * n)) 3)).alloc (.cells (madeCells #[.int .u8 0] (256 * n)) 5)).alloc (.cells #[.slice (some ⟨w.heap.size + 1, 0, none⟩) (256 * n) (256 * n), .slice none 0 0, .slice (some ⟨w.heap.size, 0, none⟩) (4 * n) (4 * n), .int .i64 0, .bool false] 91)).drew := (((Chg.alloc [] w _).then (Chg.alloc [] _ _)).then (Chg.alloc [] _ _)).then (Chg.drew [] _)
    go_wp2_with fail
    go_ret2
    exact ⟨_, _, rfl, hD, hC⟩
end Go.Proofs.YtoeijomelabbfaaGreatDoor

/- The program's disk: what its calls leave whole; none; what they do where the power stays. -/
namespace Go.Proofs.YtoeijomelabbfaaGreatDoor
set_option maxRecDepth 200000
open Go.RowKit
set_option linter.unusedVariables false
set_option linter.unusedSimpArgs false

theorem DF_three {db : Nat} {g : DG} {fa : Option Addr} {cf : Nat} {k : Nat} (hk : k ∈ [g.lb, g.nb, db]) : k ∈ DF db g fa cf := by
  simp only [List.mem_cons, List.not_mem_nil, or_false] at hk
  simp only [DF, List.mem_cons]
  rcases hk with hk | hk | hk
  · exact Or.inr (Or.inl hk)
  · exact Or.inr (Or.inr (Or.inl hk))
  · exact Or.inl hk
theorem burn_whole {st : RS} (h : Whole st) : Whole (burn st).2 := by
  unfold burn
  split
  · exact h
  · split <;> exact h
theorem write_whole {st : RS} (z : Int) (b : List UInt8) (h : Whole st) : Whole (write st z b).2 := by
  unfold write
  split
  · exact h
  · split
    · exact h
    · split
      · exact burn_whole h
      · exact burn_whole h
theorem barrier_whole {st : RS} (h : Whole st) : Whole (barrier st).2 := by
  unfold barrier
  split
  · exact h
  · split
    · exact burn_whole h
    · have := burn_whole h
      exact ⟨by show (settle (burn st).2.S (burn st).2.L).length = _; rw [settle_len]; exact this.1, this.2⟩
theorem crash_whole {st : RS} (ps : List UInt8) (h : Whole st) : Whole (crash st ps) := ⟨by show (torn st.S _).length = _; rw [torn_len]; exact h.1, h.2⟩
theorem write_plain (st : RS) (j : Nat) (b : List UInt8) (hg : st.gone = false) (hl : st.left = 0) (hj : j < st.count) (hb : b.length = 256) : write st j b = (0, { st with L := st.L ++ flies j b 4 }) := by
  have h1 : ¬ ((j : Int) < 0 ∨ (st.count : Int) ≤ (j : Int)) := by omega
  have h2 : burn st = (false, st) := by unfold burn; rw [if_pos hl]
  unfold write whyN
  rw [hg, h2]
  simp only [Bool.false_eq_true, if_false, h1, hb, ne_eq, not_true_eq_false, Int.toNat_natCast, hg]
theorem barrier_plain (st : RS) (hg : st.gone = false) (hl : st.left = 0) : barrier st = (0, { st with S := settle st.S st.L, L := [] }) := by
  have h2 : burn st = (false, st) := by unfold burn; rw [if_pos hl]
  unfold barrier
  simp [hg, h2]
theorem flies_len (A : Nat) (b : List UInt8) (n : Nat) : (flies A b n).length = n := by simp [flies]
theorem cur_calm (st : RS) (h : st.L = []) (s : Nat) : cur st s = st.S.getD s [] := by unfold cur; rw [h]; rfl
end Go.Proofs.YtoeijomelabbfaaGreatDoor

/- The cache beside its disk: Get of a block that is not held. -/
namespace Go.Proofs.YtoeijomelabbfaaGreatDoor
set_option maxRecDepth 200000
open Go.RowKit Go.Maps
set_option linter.unusedVariables false
set_option linter.unusedSimpArgs false
attribute [local go_sem ↓] Go.wp_at_zero Go.wp_at_succ

theorem used_head {x : Ent} {L1 : List Ent} (hnd : ((x :: L1).map Ent.b).Nodup) (u : Nat) : used (x :: L1) x u = L1 ++ [x.now u] := by
  unfold used
  rw [List.filter_cons, if_neg (by simp)]
  congr 1
  rw [List.map_cons, List.nodup_cons] at hnd
  refine List.filter_eq_self.2 fun e he => ?_
  exact bne_iff_ne.2 fun h9 => hnd.1 (List.mem_map.2 ⟨e, he, h9⟩)
theorem kwrote_whole {st : RS} (h : KE) (hW : Whole st) : Whole (kwrote h st).2 := by
  unfold kwrote
  split
  · exact write_whole _ _ hW
  · exact hW
theorem kroom_whole (n : Nat) (K : List KE) {st : RS} (hW : Whole st) : Whole (kroom n K st).2.2 := by
  unfold kroom
  split
  · exact hW
  · cases K with
    | nil => exact hW
    | cons h T =>
      simp only
      split
      · exact kwrote_whole h hW
      · exact kwrote_whole h hW
section
variable (a : Nat) (w0 w : World) (R : Nat → Prop) (db : Nat) (g : DG) (fa : Option Addr) (cf : Nat) (st : RS) (cb mb : Nat) (la : Option Addr) (cl : Nat) (E L : List Ent) (most uses : Nat) (h : Pair w0 w R db g fa cf st cb mb la cl E L most uses) (hw : whyN st a = 0) (hn : ∀ e ∈ L, e.pl ≠ a) (hu : uses < 9223372036854775807) (hLb : st.L.length ≤ 1000000000)
include h hw hn hu hLb
end
end Go.Proofs.YtoeijomelabbfaaGreatDoor

/- The cache beside its disk: Get, whatever it is told. -/
namespace Go.Proofs.YtoeijomelabbfaaGreatDoor
set_option maxRecDepth 200000
open Go.RowKit Go.Maps
set_option linter.unusedVariables false
set_option linter.unusedSimpArgs false
attribute [local go_sem ↓] Go.wp_at_zero Go.wp_at_succ

section
variable (a : Nat) (w0 w : World) (R : Nat → Prop) (db : Nat) (g : DG) (fa : Option Addr) (cf : Nat) (st : RS) (cb mb : Nat) (la : Option Addr) (cl : Nat) (E L : List Ent) (most uses : Nat) (h : Pair w0 w R db g fa cf st cb mb la cl E L most uses) (hw : whyN st a = 0) (hn : ∀ e ∈ L, e.pl ≠ a) (hLb : st.L.length ≤ 1000000000)
include h hw hn hLb
end
/-- Get, as chapter 5 has it: what is told, the bytes; the cache, the disk behind it. -/
def kget (n : Nat) (K : List KE) (st : RS) (z : Int) : Int × List UInt8 × List KE × RS :=
  if whyN st z ≠ 0 then (whyN st z, [], K, st) else match kfind K z.toNat with
  | some h => (0, h.bs, kdrop K z.toNat ++ [h], st)
  | none => if (kroom n K st).1 = 0 then (0, reads st z.toNat 4, (kroom n K st).2.1 ++ [⟨z.toNat, reads st z.toNat 4, false⟩], (kroom n K st).2.2) else ((kroom n K st).1, [], K, (kroom n K st).2.2)
end Go.Proofs.YtoeijomelabbfaaGreatDoor

/- The cache beside its disk: Put. -/
namespace Go.Proofs.YtoeijomelabbfaaGreatDoor
set_option maxRecDepth 200000
open Go.RowKit Go.Maps
set_option linter.unusedVariables false
set_option linter.unusedSimpArgs false
attribute [local go_sem ↓] Go.wp_at_zero Go.wp_at_succ

theorem updL_updL (L : List Ent) (x y : Ent) (h : x.b = y.b) : updL (updL L x) y = updL L y := by
  unfold updL
  rw [List.map_map]
  refine List.map_congr_left fun e he => ?_
  show (if (if e.b = x.b then x else e).b = y.b then y else if e.b = x.b then x else e) = if e.b = y.b then y else e
  by_cases h1 : e.b = x.b
  · rw [if_pos h1, if_pos h, if_pos (h1.trans h)]
  · rw [if_neg h1]
theorem drop_abs {L : List Ent} (hb : (L.map Ent.b).Nodup) (hp : (L.map Ent.pl).Nodup) {x : Ent} (hx : x ∈ L) : (L.filter (fun e => e.b != x.b)).map absE = kdrop (L.map absE) x.pl := by
  have := abs_used hb hp hx 0
  unfold used at this
  rw [List.map_append] at this
  exact (List.append_inj' this rfl).1
/-- A block with other bytes, dirty. -/
def Ent.put (x : Ent) (b : List UInt8) : Ent := ⟨x.b, x.pl, b, true, x.used⟩
/-- What is left of a Put, once the block is there: its bytes, the mark. -/
theorem CacheAt.puts {w : World} {B cb mb : Nat} {la : Option Addr} {cl : Nat} {E L : List Ent} {most uses db : Nat} (h : CacheAt w B cb mb la cl E L most uses db) {x : Ent} (hx : x ∈ L) (b : List UInt8) (hl : b.length = 256) :
    w.there x.b 1 256 ∧ (∃ v, (w.setCells x.b 1 (bts b)).cell? ⟨x.b, 257, none⟩ = some v) ∧ (w.setCells x.b 1 (bts b)).frozen? ⟨x.b, 257, none⟩ = false ∧ Chg (CF cb mb la cl E) w ((w.setCells x.b 1 (bts b)).setCell ⟨x.b, 257, none⟩ (.bool true)) ∧
      ∃ E', CacheAt ((w.setCells x.b 1 (bts b)).setCell ⟨x.b, 257, none⟩ (.bool true)) B cb mb la cl E' (updL L (x.put b)) most uses db ∧ ∀ k, k ∈ CF cb mb la cl E' → k ∈ CF cb mb la cl E := by
  have hm := h.mem hx
  obtain ⟨i, hb⟩ := h.blk hx
  obtain ⟨E1, k1, l1⟩ := h.bytes hx b hl
  have hx1 : (⟨x.b, x.pl, b, x.dirty, x.used⟩ : Ent) ∈ updL L ⟨x.b, x.pl, b, x.dirty, x.used⟩ := updL_mem hx rfl
  obtain ⟨i1, hb1⟩ := k1.blk hx1
  obtain ⟨E2, k2, l2⟩ := k1.dirties hx1 true
  have k3 : CacheAt ((w.setCells x.b 1 (bts b)).setCell ⟨x.b, 257, none⟩ (.bool true)) B cb mb la cl E2 (updL (updL L ⟨x.b, x.pl, b, x.dirty, x.used⟩) (x.put b)) most uses db := k2
  rw [updL_updL L ⟨x.b, x.pl, b, x.dirty, x.used⟩ (x.put b) rfl] at k3
  exact ⟨hb.there 1 256 (by rw [entV_len hm.2]; omega), ⟨_, hb1.cell 257 _ (entV_dirty hl)⟩, hb1.frozen 257, (Chg.setCells x.b _ 1 w).trans (Chg.setCell _ ⟨x.b, 257, none⟩ _) (fun k hk _ => by simp at hk; rw [hk]; exact hm.1) (fun k hk _ => by simp at hk; rw [hk]; exact hm.1), E2, k3, fun k hk => l1 k (l2 k hk)⟩
theorem cput_err (z : Int) (ab : Option Addr) (nb cb' : Nat) (w0 w : World) (R : Nat → Prop) (db : Nat) (g : DG) (fa : Option Addr) (cf : Nat) (st : RS) (cb mb : Nat) (la : Option Addr) (cl : Nat) (E L : List Ent) (most uses : Nat) (h : Pair w0 w R db g fa cf st cb mb la cl E L most uses) (hw : whyN st z ≠ 0) :
    Calls Tryz.prog 18 #[.pointer (some ⟨cb, 0, none⟩), .int .i64 z, .slice ab nb cb'] w fun e w' => e = .returned (.int .i64 (whyN st z)) ∧ w = w' := by
  have e1 : (whyN st z != 0) = true := by simpa using hw
  have d := h.d
  have c0 := h.k.c0
  have hW := h.W
  go_enter Tryz.func18, Tryz.ntmps18
  go_wp2_with (first | (go_at_call 77; refine (casked_any cb db w0.heap.size g fa cf st w d c0 z hW).mono ?_; rintro e w' ⟨rfl, rfl⟩))
  go_ret
  exact ⟨rfl, rfl⟩
theorem cput_arg (z : Int) (ab : Option Addr) (nb cb' : Nat) (hnb : nb ≠ 256) (w0 w : World) (R : Nat → Prop) (db : Nat) (g : DG) (fa : Option Addr) (cf : Nat) (st : RS) (cb mb : Nat) (la : Option Addr) (cl : Nat) (E L : List Ent) (most uses : Nat) (h : Pair w0 w R db g fa cf st cb mb la cl E L most uses) (hw : whyN st z = 0) :
    Calls Tryz.prog 18 #[.pointer (some ⟨cb, 0, none⟩), .int .i64 z, .slice ab nb cb'] w fun e w' => e = .returned (.int .i64 1) ∧ w = w' := by
  have Hw := mkHid hw
  have e1 : ((nb : Int) != 256) = true := by simp; omega
  have d := h.d
  have c0 := h.k.c0
  have hW := h.W
  clear hw
  go_enter Tryz.func18, Tryz.ntmps18
  go_wp2_with (first | (go_at_call 77; refine (casked_any cb db w0.heap.size g fa cf st w d c0 z hW).mono ?_; rw [Hw.out]; rintro e w' ⟨rfl, rfl⟩))
  go_ret
  exact ⟨rfl, rfl⟩
set_option maxRecDepth 20000 in
set_option maxHeartbeats 1000000 in
theorem cput_held (x : Ent) (ab : Option Addr) (cb' : Nat) (b : List UInt8) (w0 w : World) (R : Nat → Prop) (db : Nat) (g : DG) (fa : Option Addr) (cf : Nat) (st : RS) (cb mb : Nat) (la : Option Addr) (cl : Nat) (E L : List Ent) (most uses : Nat) (h : Pair w0 w R db g fa cf st cb mb la cl E L most uses) (hw : whyN st x.pl = 0) (hx : x ∈ L) (hu : uses < 9223372036854775807)
    (hl : b.length = 256) (gb : Reads w ab (bts b)) :
    Calls Tryz.prog 18 #[.pointer (some ⟨cb, 0, none⟩), .int .i64 (x.pl : Int), .slice ab 256 cb'] w fun e w' => ∃ E' L', e = .returned (.int .i64 0) ∧ Pair w0 w' R db g fa cf st cb mb la cl E' L' most (uses + 1) ∧ L'.map absE = kdrop (L.map absE) x.pl ++ [⟨x.pl, b, true⟩] ∧ Off R w w' := by
  have d := h.d
  have c0 := h.k.c0
  have c2 := h.k.c2
  have hW := h.W
  obtain ⟨D, hD⟩ := h.k.hd
  have hpl := h.k.pl x hx
  have hxE := h.k.pm.mem_iff.2 hx
  have Hw := mkHid hw
  have HB := mkHid hl
  obtain ⟨th, ⟨v7, c7⟩, f7, g2, E2, k2, l2⟩ := h.k.puts hx b hl
  have cU := cuse_L w0.heap.size cb mb la cl E2 _ most uses db _ k2 (x.put b) (updL_mem hx rfl) hu
  have hb256 : ((256 : Int) != 256) = false := rfl
  clear hw hl
  go_enter Tryz.func18, Tryz.ntmps18
  go_wp2_with (first
    | (go_at_call 77; refine (casked_any cb db w0.heap.size g fa cf st w d c0 _ hW).mono ?_; rw [Hw.out]; rintro e w' ⟨rfl, rfl⟩)
    | (at_lookup; refine wpList_lookup_held w rfl (.tmp 24) (.tmp 25) rfl hD rfl hxE hpl rfl ?_)
    | (refine wpList_copy_k rfl (.tmp 43) (.tmp 44) 41 41 5 rfl Tryz.underlying41 oneB x.b 1 256 256 ab 256 cb' (bts b) rfl rfl gb (by rw [bts_length]; exact HB.out) (by rw [bts_length, HB.out]; exact th) (bts_one _) ?_)
    | (go_at_call 79; refine cU.mono ?_; rintro e w4 ⟨rfl, E4, k4, g4, l4⟩))
  go_ret
  have g5 : Chg (CF cb mb la cl E) w w4 := g2.trans g4 (fun _ h _ => h) (fun k hk _ => l2 k hk)
  have gA : Chg (CF cb mb la cl E ++ DF db g fa cf) w w4 := g5.mono (fun k hk _ => List.mem_append_left _ hk)
  have hmap : (used (updL L (x.put b)) (x.put b) (uses + 1)).map absE = kdrop (L.map absE) x.pl ++ [⟨x.pl, b, true⟩] := by
    rw [updL_used (L := L) (x := x) (y := x.put b) (uses + 1) rfl, drop_abs h.k.bnd h.k.np hx]
    rfl
  refine ⟨E4, _, rfl, h.go (d.chg g5 (fun k hk hm => h.x k hm hk)) k4 (fun e he => ?_) gA hW (fun k hk => h.x k (l2 k (l4 k hk))) (fun k hk => Or.inl (l2 k (l4 k hk))) (fun k hk => Or.inl hk), hmap, h.off gA⟩
  unfold used updL at he
  rw [List.mem_append, List.mem_filter, List.mem_singleton, List.mem_map] at he
  rcases he with ⟨⟨y, hy, rfl⟩, hb⟩ | rfl
  · split
    · exact h.u x hx
    · exact h.u y hy
  · exact Nat.succ_pos _
theorem CacheAt.puts_fresh {w : World} {B cb mb : Nat} {la : Option Addr} {cl : Nat} {E L1 : List Ent} {most uses db nb a : Nat} (h : CacheAt w B cb mb la cl E (fresh nb a :: L1) most uses db) (b : List UInt8) (hl : b.length = 256) :
    w.there nb 1 256 ∧ (∃ v, (w.setCells nb 1 (bts b)).cell? ⟨nb, 257, none⟩ = some v) ∧ (w.setCells nb 1 (bts b)).frozen? ⟨nb, 257, none⟩ = false ∧ Chg (CF cb mb la cl E) w ((w.setCells nb 1 (bts b)).setCell ⟨nb, 257, none⟩ (.bool true)) ∧
      ∃ E', CacheAt ((w.setCells nb 1 (bts b)).setCell ⟨nb, 257, none⟩ (.bool true)) B cb mb la cl E' (⟨nb, a, b, true, 0⟩ :: L1) most uses db ∧ ∀ k, k ∈ CF cb mb la cl E' → k ∈ CF cb mb la cl E := by
  have e : updL (fresh nb a :: L1) ((fresh nb a).put b) = ⟨nb, a, b, true, 0⟩ :: L1 := updL_tail h.bnd _ rfl
  rw [← e]
  exact h.puts (x := fresh nb a) (by simp) b hl
section
variable (a : Nat) (ab : Option Addr) (cb' : Nat) (b : List UInt8) (w0 w : World) (R : Nat → Prop) (db : Nat) (g : DG) (fa : Option Addr) (cf : Nat) (st : RS) (cb mb : Nat) (la : Option Addr) (cl : Nat) (E L : List Ent) (most uses : Nat) (h : Pair w0 w R db g fa cf st cb mb la cl E L most uses) (hw : whyN st a = 0) (hn : ∀ e ∈ L, e.pl ≠ a) (hLb : st.L.length ≤ 1000000000)
include h hw hn hLb
set_option maxRecDepth 20000 in
theorem cput_no (hv : (kroom most (L.map absE) st).1 ≠ 0) :
    Calls Tryz.prog 18 #[.pointer (some ⟨cb, 0, none⟩), .int .i64 (a : Int), .slice ab 256 cb'] w fun e w' => ∃ fa' cf' la' cl' E', e = .returned (.int .i64 (kroom most (L.map absE) st).1) ∧ Pair w0 w' R db g fa' cf' (kroom most (L.map absE) st).2.2 cb mb la' cl' E' L most uses ∧ Off R w w' := by
  have d := h.d
  have c0 := h.k.c0
  have c2 := h.k.c2
  have hW := h.W
  obtain ⟨D, hD⟩ := h.k.hd
  obtain ⟨a2, ha2, hac, ha⟩ := why_at hW hw
  obtain rfl : a = a2 := by omega
  have hnE : ∀ e ∈ E, e.pl ≠ a := fun e he => hn e (h.k.pm.mem_iff.1 he)
  have Hw := mkHid hw
  have cT := ctaken_any w0.heap.size cb mb la cl E L most uses db w h.k g fa cf st d hW h.c.size hLb h.x a ha hn h.u
  have CT := mkHid cT
  have HV := mkHid hv
  have hv2 : ((kroom most (L.map absE) st).1 != 0) = true := by simpa using hv
  have hb256 : ((256 : Int) != 256) = false := rfl
  clear hw ha2 hv cT
  go_enter Tryz.func18, Tryz.ntmps18
  go_wp2_with (first
    | (go_at_call 77; refine (casked_any cb db w0.heap.size g fa cf st w d c0 _ hW).mono ?_; rw [Hw.out]; rintro e w' ⟨rfl, rfl⟩)
    | (at_lookup; refine wpList_lookup_none w rfl (.tmp 24) (.tmp 25) rfl hD rfl hnE ha rfl ?_)
    | (go_at_call 78; refine CT.out.mono ?_; rintro e w2 ⟨v2, fa', cf', la', cl', E2, rfl, d2, l2, g2, lk2, xk2, k0, -⟩))
  go_ret
  obtain ⟨k2, hK⟩ := k0 HV.out
  exact ⟨fa', cf', la', cl', E2, rfl, h.go d2 k2 h.u g2 (kroom_whole most _ hW) xk2 lk2 (DF_later l2), h.off g2⟩
set_option maxRecDepth 20000 in
set_option maxHeartbeats 1000000 in
theorem cput_ok (hu : uses < 9223372036854775807) (hl : b.length = 256) (gb : Reads w ab (bts b)) (hab : ∀ k, k ∈ blk ab → R k ∨ k < w0.heap.size) (hv : (kroom most (L.map absE) st).1 = 0) :
    Calls Tryz.prog 18 #[.pointer (some ⟨cb, 0, none⟩), .int .i64 (a : Int), .slice ab 256 cb'] w fun e w' => ∃ fa' cf' la' cl' E' L', e = .returned (.int .i64 0) ∧ Pair w0 w' R db g fa' cf' (kroom most (L.map absE) st).2.2 cb mb la' cl' E' L' most (uses + 1) ∧ L'.map absE = (kroom most (L.map absE) st).2.1 ++ [⟨a, b, true⟩] ∧ Off R w w' := by
  have d := h.d
  have c0 := h.k.c0
  have c2 := h.k.c2
  have hW := h.W
  obtain ⟨D, hD⟩ := h.k.hd
  obtain ⟨a2, ha2, hac, ha⟩ := why_at hW hw
  obtain rfl : a = a2 := by omega
  have hnE : ∀ e ∈ E, e.pl ≠ a := fun e he => hn e (h.k.pm.mem_iff.1 he)
  have Hw := mkHid hw
  have HB := mkHid hl
  have cT := ctaken_any w0.heap.size cb mb la cl E L most uses db w h.k g fa cf st d hW h.c.size hLb h.x a ha hn h.u
  rw [hv] at cT
  have CT := mkHid cT
  have HV := mkHid hv
  have hb256 : ((256 : Int) != 256) = false := rfl
  clear hw ha2 hv hl cT
  have grd : ∀ w2, Chg (CF cb mb la cl E ++ DF db g fa cf) w w2 → Reads w2 ab (bts b) := fun w2 g2 => gb.chg g2 (fun k hk hm => by
    rcases hab k hk with h9 | h9
    · exact (List.mem_append.1 hm).elim (h.r k h9).1 (h.r k h9).2.1
    · rcases List.mem_append.1 hm with h8 | h8
      · have := (h.k.lt k h8).1; omega
      · have := (h.d.lt k h8).1; omega)
  have GR := mkHid grd
  clear grd
  go_enter Tryz.func18, Tryz.ntmps18
  go_wp2_with (first
    | (go_at_call 77; refine (casked_any cb db w0.heap.size g fa cf st w d c0 _ hW).mono ?_; rw [Hw.out]; rintro e w' ⟨rfl, rfl⟩)
    | (at_lookup; refine wpList_lookup_none w rfl (.tmp 24) (.tmp 25) rfl hD rfl hnE ha rfl ?_)
    | (go_at_call 78; refine CT.out.mono ?_; rintro e w2 ⟨v2, fa', cf', la', cl', E2, rfl, d2, l2, g2, lk2, xk2, -, k0⟩; obtain ⟨nb, L1, rfl, hnb, k2, hL1, hsub⟩ := k0 trivial; clear k0; have rd2 := GR.out w2 g2; obtain ⟨th, ⟨v7, c7⟩, f7, g3, E3, k3, l3⟩ := k2.puts_fresh b HB.out; have cU := cuse_L w0.heap.size cb mb la' cl' E3 _ most uses db _ k3 ⟨nb, a, b, true, 0⟩ (by simp) hu)
    | (refine wpList_copy_k rfl (.tmp 43) (.tmp 44) 41 41 5 rfl Tryz.underlying41 oneB nb 1 256 256 ab 256 cb' (bts b) rfl rfl rd2 (by rw [bts_length]; exact HB.out) (by rw [bts_length, HB.out]; exact th) (bts_one _) ?_)
    | (go_at_call 79; refine cU.mono ?_; rintro e w4 ⟨rfl, E4, k4, g4, l4⟩))
  go_ret
  rw [used_head k3.bnd] at k4
  have g5 : Chg (CF cb mb la' cl' E2) w2 w4 := g3.trans g4 (fun _ h _ => h) (fun k hk _ => l3 k hk)
  have gB : Chg (CF cb mb la cl E ++ DF db g fa cf) w w4 := g2.trans g5 (fun _ h _ => h) (fun k hk hlt => (lk2 k hk).elim (fun h9 => List.mem_append_left _ h9) (fun h9 => by omega))
  refine ⟨fa', cf', la', cl', E4, _, rfl, h.go (d2.chg g5 (fun k hk hm => xk2 k hm hk)) k4 (fun e he => ?_) gB (kroom_whole most _ hW) (fun k hk => xk2 k (l3 k (l4 k hk))) (fun k hk => lk2 k (l3 k (l4 k hk))) (DF_later l2), ?_, h.off gB⟩
  · rcases List.mem_append.1 he with he | he
    · exact h.u e (hsub e he)
    · simp at he
      rw [he]
      exact Nat.succ_pos _
  · rw [List.map_append, hL1]
    rfl
end
/-- Put, as chapter 5 has it: what is told; the cache, the disk behind it. -/
def kput (n : Nat) (K : List KE) (st : RS) (z : Int) (b : List UInt8) : Int × List KE × RS :=
  if whyN st z ≠ 0 then (whyN st z, K, st) else if b.length ≠ 256 then (1, K, st) else match kfind K z.toNat with
  | some _ => (0, kdrop K z.toNat ++ [⟨z.toNat, b, true⟩], st)
  | none => if (kroom n K st).1 = 0 then (0, (kroom n K st).2.1 ++ [⟨z.toNat, b, true⟩], (kroom n K st).2.2) else ((kroom n K st).1, K, (kroom n K st).2.2)
theorem cput_any (z : Int) (ab : Option Addr) (cb' : Nat) (b : List UInt8) (w0 w : World) (R : Nat → Prop) (db : Nat) (g : DG) (fa : Option Addr) (cf : Nat) (st : RS) (cb mb : Nat) (la : Option Addr) (cl : Nat) (E L : List Ent) (most uses : Nat) (h : Pair w0 w R db g fa cf st cb mb la cl E L most uses) (hu : uses < 9223372036854775807) (hLb : st.L.length ≤ 1000000000)
    (gb : Reads w ab (bts b)) (hab : ∀ k, k ∈ blk ab → R k ∨ k < w0.heap.size) :
    Calls Tryz.prog 18 #[.pointer (some ⟨cb, 0, none⟩), .int .i64 z, .slice ab b.length cb'] w fun e w' => ∃ fa' cf' la' cl' E' L' uses', e = .returned (.int .i64 (kput most (L.map absE) st z b).1) ∧ Pair w0 w' R db g fa' cf' (kput most (L.map absE) st z b).2.2 cb mb la' cl' E' L' most uses' ∧ L'.map absE = (kput most (L.map absE) st z b).2.1 ∧ uses' ≤ uses + 1 ∧ Off R w w' := by
  unfold kput
  by_cases hw : whyN st z = 0
  · rw [if_neg (by simp [hw])]
    by_cases hl : b.length = 256
    · rw [if_neg (by simp [hl]), hl]
      obtain ⟨a, rfl, hac, ha⟩ := why_at h.W hw
      rw [Int.toNat_natCast]
      cases hf : kfind (L.map absE) a with
      | some y =>
        obtain ⟨x, hx, rfl, rfl⟩ := abs_find hf
        refine (cput_held x ab cb' b w0 w R db g fa cf st cb mb la cl E L most uses h hw hx hu hl gb).mono ?_
        rintro e w' ⟨E', L', he, p, hL, o⟩
        exact ⟨fa, cf, la, cl, E', L', uses + 1, he, p, hL, Nat.le_refl _, o⟩
      | none =>
        have hn : ∀ e ∈ L, e.pl ≠ a := fun e he => kfind_none hf (absE e) (List.mem_map.2 ⟨e, he, rfl⟩)
        simp only
        by_cases hv : (kroom most (L.map absE) st).1 = 0
        · rw [if_pos hv]
          refine (cput_ok a ab cb' b w0 w R db g fa cf st cb mb la cl E L most uses h hw hn hLb hu hl gb hab hv).mono ?_
          rintro e w' ⟨fa', cf', la', cl', E', L', he, p, hL, o⟩
          exact ⟨fa', cf', la', cl', E', L', uses + 1, he, p, hL, Nat.le_refl _, o⟩
        · rw [if_neg hv]
          refine (cput_no a ab cb' w0 w R db g fa cf st cb mb la cl E L most uses h hw hn hLb hv).mono ?_
          rintro e w' ⟨fa', cf', la', cl', E', he, p, o⟩
          exact ⟨fa', cf', la', cl', E', L, uses, he, p, rfl, Nat.le_succ _, o⟩
    · rw [if_pos hl]
      refine (cput_arg z ab b.length cb' hl w0 w R db g fa cf st cb mb la cl E L most uses h hw).mono ?_
      rintro e w' ⟨he, rfl⟩
      exact ⟨fa, cf, la, cl, E, L, uses, he, h, rfl, Nat.le_succ _, Off.keep (Chg.refl _ _)⟩
  · rw [if_pos hw]
    refine (cput_err z ab b.length cb' w0 w R db g fa cf st cb mb la cl E L most uses h hw).mono ?_
    rintro e w' ⟨he, rfl⟩
    exact ⟨fa, cf, la, cl, E, L, uses, he, h, rfl, Nat.le_succ _, Off.keep (Chg.refl _ _)⟩
end Go.Proofs.YtoeijomelabbfaaGreatDoor

/- The cache beside its disk: New, Drop, Held. -/
namespace Go.Proofs.YtoeijomelabbfaaGreatDoor
set_option maxRecDepth 200000
open Go.RowKit Go.Maps Go.ChangeMaps Go.MapKept
set_option linter.unusedVariables false
set_option linter.unusedSimpArgs false
attribute [local go_sem ↓] Go.wp_at_zero Go.wp_at_succ

section
variable (B db : Nat) (g : DG) (fa : Option Addr) (cf : Nat) (st : RS) (w : World) (h : DevAt w B db g fa cf st) (hW : Whole st)
include h hW
theorem cnew_raw (n : Nat) (hn : 1 ≤ n ∧ n ≤ 1024) (hB : B ≤ w.heap.size) : Calls Tryz.prog 49 #[.pointer (some ⟨db, 0, none⟩), .int .i64 (n : Int)] w fun e w' => ∃ cb mb, e = .returned (.tuple #[.pointer (some ⟨cb, 0, none⟩), .int .i64 0]) ∧ CacheAt w' B cb mb none 0 [] [] n 0 db ∧ Chg [] w w' ∧ w.heap.size ≤ cb ∧ w.heap.size ≤ mb := by
  have hc : 0 < st.count := by have := hW.1; have := h.pos; omega
  have h1 : ((st.count : Int) == 0) = false := beq_eq_false_iff_ne.2 (by omega)
  have h1' : (st.count == 0) = false := beq_eq_false_iff_ne.2 (by omega)
  have hd : decide ((n : Int) < 1) = false := decide_eq_false (by omega)
  have hd2 : decide ((1024 : Int) < (n : Int)) = false := decide_eq_false (by omega)
  have hmm := @run_makeMap Tryz.prog
  go_enter Tryz.func49, Tryz.ntmps49
  go_wp2_with (first | (go_at_call 48; refine (blocks_any B db g fa cf st w h hW).mono ?_; rintro e w' ⟨rfl, rfl⟩))
  go_ret2
  have z1 : (w.alloc (.map #[] 0)).heap.size = w.heap.size + 1 := by simp
  have m1 := World.ownsMap_made w Tryz.prog 3 ptrR
  have g1 : Chg [] w (w.alloc (.map #[] 0)) := Chg.alloc [] w _
  generalize w.alloc (.map #[] 0) = w1 at *
  have hcl := fun j => cell_of_row (w1.alloc (.cells #[.pointer (some ⟨db, 0, none⟩), .int .i64 (n : Int), .map (some w.heap.size), .slice none 0 0, .int .u64 0] 134)) w1.heap.size j _ _ _ (heap_alloc_last w1 _)
  have hfz := fun j => frozen_of_row (w1.alloc (.cells #[.pointer (some ⟨db, 0, none⟩), .int .i64 (n : Int), .map (some w.heap.size), .slice none 0 0, .int .u64 0] 134)) w1.heap.size j _ _ (heap_alloc_last w1 _)
  rw [z1] at hcl hfz
  have g2 := Chg.alloc [] w1 (.cells #[.pointer (some ⟨db, 0, none⟩), .int .i64 (n : Int), .map (some w.heap.size), .slice none 0 0, .int .u64 0] 134)
  have hH1 : HeldAt w1 w.heap.size [] (.map []) := ⟨m1, rfl, fun e he => by simp at he, fun z _ => rfl⟩
  refine ⟨w.heap.size + 1, w.heap.size, rfl, ⟨hcl 0, hcl 1, hcl 2, hcl 4, hfz 4, ⟨hcl 3, hfz 3, Room.nil _ _ _, fun i hi => by simp at hi, fun e he => by simp at he, by simp, fun e he => by simp at he, fun e he => by simp at he, by simp [fp_zero], fun e he => by simp at he, by omega, by simp⟩, fun k _ hk => by simp at hk, ⟨_, hH1.chg g2 (by simp)⟩, List.Perm.refl _, List.Pairwise.nil, fun e he => by simp at he, by simp, fun e he => by simp at he, by simp, hn, by simp [LF, fp_zero], hB⟩, g1.then g2, by omega, Nat.le_refl _⟩
end
/-- A new cache over a disk that a law holds. -/
theorem cnew_yes (n : Nat) (hn : 1 ≤ n ∧ n ≤ 1024) (w0 w : World) (R : Nat → Prop) (db : Nat) (g : DG) (fa : Option Addr) (cf : Nat) (st : RS) (d : DevAt w w0.heap.size db g fa cf st) (c : Chg [] w0 w) (hW : Whole st) (hr : ∀ k, R k → k ∉ DF db g fa cf ∧ k < w.heap.size) :
    Calls Tryz.prog 49 #[.pointer (some ⟨db, 0, none⟩), .int .i64 (n : Int)] w fun e w' => ∃ cb mb, e = .returned (.tuple #[.pointer (some ⟨cb, 0, none⟩), .int .i64 0]) ∧ Pair w0 w' R db g fa cf st cb mb none 0 [] [] n 0 ∧ Chg [] w w' := by
  refine (cnew_raw w0.heap.size db g fa cf st w d hW n hn c.size).mono ?_
  rintro e w' ⟨cb, mb, he, k, gk, hcb, hmb⟩
  have hCF : ∀ q, q ∈ CF cb mb none 0 [] → w.heap.size ≤ q := fun q hq => by
    simp only [CF, LF, fp_zero, List.map_nil, List.append_nil, List.mem_cons, List.not_mem_nil, or_false] at hq
    rcases hq with rfl | rfl <;> assumption
  exact ⟨cb, mb, he, ⟨d.keep gk, k, fun e he => by simp at he, c.then gk, hW, fun q hq hm => by have := hCF q hq; have := (d.lt q hm).2; omega, fun q hq => ⟨fun hm => by have := hCF q hm; have := (hr q hq).2; omega, (hr q hq).1, Nat.lt_of_lt_of_le (hr q hq).2 gk.size⟩⟩, gk⟩
end Go.Proofs.YtoeijomelabbfaaGreatDoor
