/- The reference's disk: Copy. -/
import Derived.Test.YtinmhaffefgloaaRj
import Derived.Test.YtinmhaffefgloaaRh
import Derived.Test.YtinmhaffefgloaaRv
namespace Go.Proofs.Ytinmhaffefgloaa
open Go.RowKit
set_option linter.unusedVariables false
set_option linter.unusedSimpArgs false

set_option maxHeartbeats 4000000 in
theorem refcopy_any (B : Nat) (F : List Nat) (rb : Nat) (sa : Option Addr) (cs : Nat) (la : Option Addr) (cl : Nat) (vs ls : List Value) (st : RS) (w : World) (h : RefAt w B F rb sa cs la cl vs ls st)
    (hSb : st.S.length ≤ 100000) (hLb : st.L.length ≤ 1000000000) :
    Calls Try.prog 49 #[.pointer (some ⟨rb, 0, none⟩)] w fun e w' => ∃ (rb2 : Nat) (F2 : List Nat) (sa2 : Option Addr) (cs2 : Nat) (la2 : Option Addr) (cl2 : Nat) (vs2 ls2 : List Value), e = .returned (.pointer (some ⟨rb2, 0, none⟩)) ∧ RefAt w' w.heap.size F2 rb2 sa2 cs2 la2 cl2 vs2 ls2 st ∧ Chg [] w w' := by
  have hml : maxLen = 9223372036854775807 := rfl
  have c2 := (Chg.drew [] w).cellv h.c2 (by simp)
  have c3 := (Chg.drew [] w).cellv h.c3 (by simp)
  have c4 := (Chg.drew [] w).cellv h.c4 (by simp)
  go_enter Try.func49, Try.ntmps49
  go_wp2_with fail
  go_region_held3 (fun w' => w'.cell? ⟨rb, 2, none⟩ = some (.int .i64 st.left) ∧ w'.cell? ⟨rb, 3, none⟩ = some (.bool st.gone) ∧ w'.cell? ⟨rb, 4, none⟩ = some (.int .i64 st.count))
    (first | exact ⟨(Chg.drew [] _).cellv h.c2 (by simp), (Chg.drew [] _).cellv h.c3 (by simp), (Chg.drew [] _).cellv h.c4 (by simp)⟩ | exact ⟨((Chg.alloc [] w _).then (Chg.drew [] _)).cellv h.c2 (by simp), ((Chg.alloc [] w _).then (Chg.drew [] _)).cellv h.c3 (by simp), ((Chg.alloc [] w _).then (Chg.drew [] _)).cellv h.c4 (by simp)⟩ | assumption)
    (fail)
  clear c2 c3 c4
  generalize hrb : w.heap.size = r2 at *
  generalize hW : World.drew _ = W
  have hgW : Chg [] w W := by subst hW; exact (Chg.alloc [] w _).then (Chg.drew [] _)
  have hr0 : RefAt W r2 [r2] r2 none 0 none 0 [] [] ⟨[], [], st.left, st.gone, st.count⟩ := by
    subst hW hrb
    refine RefAt.chg ?_ (Chg.drew [] _) (fun _ _ => by simp)
    refine ⟨by simp, by simp, by simp, by simp, by simp, fun j hj => ?_, RoomZ.nil _ _ _ _, RoomZ.nil _ _ _ _, by simp [fp_zero], by simp [fp_zero], fun k hk => by simp [fp_zero] at hk, fun j l hj => by simp at hj, fun j s l hj => by simp at hj, fun k hk => by simpa [fp_zero] using hk, fun k hk => by simp at hk; subst hk; simp, h.lft⟩
    exact frozen_of_row _ _ j _ _ (heap_alloc_last w _)
  clear hW
  go_wp2_with fail
  go_loopw [4] (fun i wr => ∃ (k : Nat) (F' : List Nat) (sa' : Option Addr) (cs' : Nat) (vs' : List Value), i = .int .i64 k ∧ k ≤ st.S.length ∧ RefAt wr r2 F' r2 sa' cs' none 0 vs' [] ⟨st.S.take k, [], st.left, st.gone, st.count⟩ ∧ Chg [] w wr) (fun i _ => st.S.length - (intOf i).toNat)
  case atStart => exact ⟨0, [r2], none, 0, [], rfl, by omega, hr0, hgW⟩
  case round =>
    clear hr0 hgW
    obtain ⟨k, F', sa', cs', vs', rfl, hk, hr, hc⟩ := hrel
    have ho := h.chg hc (fun _ _ => by simp)
    have d0 := ho.c0
    by_cases hlt : k < st.S.length
    · obtain ⟨l, hl⟩ : ∃ l, st.S[k]? = some l := ⟨_, List.getElem?_eq_getElem hlt⟩
      obtain ⟨v, hv, hsec⟩ := ho.sec _ _ hl
      obtain ⟨y1, xb, xo, xc, rfl, y2, y3, y4, y5, y6, y7⟩ := hsec
      obtain ⟨sb, so, rfl, _, _, _, hscl⟩ := ho.rS.at_ (by have := ho.rS.le; omega)
      have x0 := hscl _ _ hv
      have hki : (k : Int) < (st.S.length : Int) := by omega
      obtain ⟨st2, hst2⟩ : ∃ st2 : RS, st2 = ⟨st.S.take k, [], st.left, st.gone, st.count⟩ := ⟨_, rfl⟩
      rw [← hst2] at hr
      have hn2 : st2.S.length = k := by rw [hst2]; simp; omega
      have hst3 : { st2 with S := st2.S ++ [l] } = ⟨st.S.take (k + 1), [], st.left, st.gone, st.count⟩ := by
        rw [hst2, List.take_add_one, hl]
        rfl
      have Hst3 := mkHid hst3
      have Hn2 := mkHid hn2
      have Hl := mkHid y1
      have hL0 : st2.L = [] := by rw [hst2]
      have HL0 := mkHid hL0
      have c0 := hr.c0
      have f0 := hr.fz 0 (by decide)
      have hcs := hc.size
      have Hap := mkHid hr.ap1
      have hnn : (st2.S.length + 1) * 24 ≤ 140737488355328 := by omega
      have h63 : st2.S.length + 1 ≤ maxLen := by omega
      have c0d := (Chg.drew [] wr).cellv c0 (by simp)
      have d0d := (Chg.drew [] wr).cellv d0 (by simp)
      have x0d := (Chg.drew [] wr).cellv x0 (by simp)
      have hd : decide ((k : Int) < (st.S.length : Int)) = true := decide_eq_true hki
      clear hscl hst2 hst3 hn2 y1 hL0 hv hl
      go_wp2_with fail
      go_region_law (first | (go_simp; go_at_call 37; refine (own_any (some ⟨xb, xo, none⟩) 64 xc l _ (y7.keep (Chg.drew [] _)) Hl.out (by decide)).mono ?_; rintro e w5 ⟨a5, c5, rfl, hr5, hg5⟩; have c5' := hg5.cellv c0d (by simp); have c5a := fun o => (Chg.alloc [] w5 o).cellv c5' (by simp)) | (refine step_append_zz rfl (.tmp 33) (.tmp 42) 51 rfl 32 1 24 (by decide) refEltS r2 sa' st2.S.length cs' vs' rfl ((hr.rS.chg (Chg.drew [] _) (by simp)).chg hg5 (by simp)) (by have := hg5.size; simp at this; omega) #[.slice a5 64 c5] 1 rfl rfl (by intro u hu; simp at hu; rw [hu]; rfl) h63 hnn ?_; intro a6 c6 w6 hr6 hg6 hf6; have k1 := hg6.cellv c5' Hap.out; have k2 : w6.frozen? ⟨r2, 0, none⟩ = false := (hg6.frozen (p := ⟨r2, 0, none⟩) (show r2 < w5.heap.size from block_lt_of_cell c5') Hap.out).trans ((hg5.frozen (p := ⟨r2, 0, none⟩) (show r2 < wr.drew.heap.size from block_lt_of_cell c0d) (by simp)).trans (by simpa using f0)); have Hr6 := mkHid hr6; have Hg6 := mkHid hg6; have Hf6 := mkHid hf6; clear hr6 hg6 hf6))
      all_goals
        obtain ⟨F3, z1, z2, z3⟩ := sec_close hr Hl.out ((Chg.drew [] wr).then hg5) hr5 Hg6.out Hr6.out Hf6.out
        rw [Hst3.out] at z1
        have hc7 := hc.trans z2 (fun _ h _ => h) (fun k hk hlt => by have := (hr.F1 k hk).1; omega)
        clear z2 z3 hr hc ho hg5 hr5
        generalize w6.setCell ⟨r2, 0, none⟩ (.slice a6 (st2.S.length + 1) c6) = w7 at *
        go_wp2_with fail
        exact ⟨⟨k + 1, F3, a6, c6, _, by go_num, by omega, z1, hc7⟩, by simp [intOf]; omega⟩
    · have hke : k = st.S.length := by omega
      subst hke
      rw [List.take_length] at hr
      have hd : decide ((st.S.length : Int) < (st.S.length : Int)) = false := decide_eq_false (by omega)
      clear hlt
      go_wp2_with fail
      go_loopw [5] (fun i wq => ∃ (k : Nat) (F' : List Nat) (la' : Option Addr) (cl' : Nat) (ls' : List Value), i = .int .i64 k ∧ k ≤ st.L.length ∧ RefAt wq r2 F' r2 sa' cs' la' cl' vs' ls' ⟨st.S, st.L.take k, st.left, st.gone, st.count⟩ ∧ Chg [] w wq) (fun i _ => st.L.length - (intOf i).toNat)
      case atStart => exact ⟨0, F', none, 0, [], rfl, by omega, hr, hc⟩
      case round =>
        clear hr hc
        obtain ⟨k, F', la', cl', ls', rfl, hk2, hr, hc⟩ := hrel
        have ho := h.chg hc (fun _ _ => by simp)
        have d1 := ho.c1
        by_cases hlt : k < st.L.length
        · obtain ⟨s, l, hl⟩ : ∃ s l, st.L[k]? = some (s, l) := ⟨_, _, List.getElem?_eq_getElem hlt⟩
          obtain ⟨q1, q2, v, q3, q4⟩ := ho.fly k s l hl
          obtain ⟨y1, xb, xo, xc, rfl, y2, y3, y4, y5, y6, y7⟩ := q4
          obtain ⟨lb, lo, rfl, _, _, _, hcl⟩ := ho.rL.at_ (by have := ho.rL.le; omega)
          have x1 := hcl _ _ q2
          have x2 := hcl _ _ q3
          rw [← Nat.add_assoc] at x2
          rw [Nat.mul_comm 2 k] at x1 x2
          have hki : (k : Int) < (st.L.length : Int) := by omega
          obtain ⟨st2, hst2⟩ : ∃ st2 : RS, st2 = ⟨st.S, st.L.take k, st.left, st.gone, st.count⟩ := ⟨_, rfl⟩
          rw [← hst2] at hr
          have hn2 : st2.L.length = k := by rw [hst2]; simp; omega
          have hs2 : s < st2.S.length := by rw [hst2]; exact q1
          have hst3 : { st2 with L := st2.L ++ [(s, l)] } = ⟨st.S, st.L.take (k + 1), st.left, st.gone, st.count⟩ := by
            rw [hst2, List.take_add_one, hl]
            rfl
          have Hst3 := mkHid hst3
          have Hl := mkHid y1
          have c1 := hr.c1
          have f1 := hr.fz 1 (by decide)
          have hcs := hc.size
          have Hap := mkHid hr.ap2
          have hnn : (st2.L.length + 1) * 32 ≤ 140737488355328 := by omega
          have h63 : st2.L.length + 1 ≤ maxLen := by omega
          have c1d := (Chg.drew [] wr).cellv c1 (by simp)
          have d1d := (Chg.drew [] wr).cellv d1 (by simp)
          have x1d := (Chg.drew [] wr).cellv x1 (by simp)
          have x2d := (Chg.drew [] wr).cellv x2 (by simp)
          have hd : decide ((k : Int) < (st.L.length : Int)) = true := decide_eq_true hki
          have f1d : wr.drew.frozen? ⟨r2, 1, none⟩ = false := by simpa using f1
          have r2lt : r2 < wr.drew.heap.size := block_lt_of_cell c1d
          have y7d := y7.keep (Chg.drew [] wr)
          have rLd := hr.rL.chg (Chg.drew [] wr) (by simp)
          have HR := mkHid hr
          have HO := mkHid ho
          have HC := mkHid hc
          have HY := mkHid y7d
          have HRL := mkHid rLd
          have HF := mkHid f1d
          have HLT := mkHid r2lt
          have HN := mkHid hnn
          have H63 := mkHid h63
          have HS2 := mkHid hs2
          have HB := mkHid hcs
          have hlbr : lb < r2 ∧ rb < r2 := by
            rw [← hrb]
            have hcl0 := ho.rL.le
            exact ⟨(h.F1 lb (h.inF lb (by rw [fp_some _ _ _ (by omega)]; simp))).2, (h.F1 rb (h.inF rb (by simp))).2⟩
          have hlob : lb ∉ fp la' cl' ∧ rb ∉ fp la' cl' := ⟨fun hk => by have h1 := (hr.rL.lt lb hk).1; omega, fun hk => by have h1 := (hr.rL.lt rb hk).1; omega⟩
          have HLO := mkHid hlob
          clear hlbr hlob
          clear hcl hst2 hst3 hn2 y1 hl q2 q3
          go_wp2_with fail
          clear hr ho hc y7d rLd f1d r2lt hnn h63 hs2 hcs y7 f1 c1 d1 x1 x2 q1 h hk2 hlt y2 y3 y4 y5 y6 hml
          refine walks_begin (fun u => u.cell? ⟨r2, 1, none⟩ = some (.slice la' st2.L.length cl') ∧ u.cell? ⟨rb, 1, none⟩ = some (.slice (some ⟨lb, lo, none⟩) st.L.length cl) ∧ u.cell? ⟨lb, lo + k * 2, none⟩ = some (.int .i64 (s : Nat)) ∧ u.cell? ⟨lb, lo + k * 2 + 1, none⟩ = some (.slice (some ⟨xb, xo, none⟩) 64 xc)) 27 (by kernel_rfl) (by kernel_rfl) ?_
          have hS0 : (fun u : World => u.cell? ⟨r2, 1, none⟩ = some (.slice la' st2.L.length cl') ∧ u.cell? ⟨rb, 1, none⟩ = some (.slice (some ⟨lb, lo, none⟩) st.L.length cl) ∧ u.cell? ⟨lb, lo + k * 2, none⟩ = some (.int .i64 (s : Nat)) ∧ u.cell? ⟨lb, lo + k * 2 + 1, none⟩ = some (.slice (some ⟨xb, xo, none⟩) 64 xc)) wr.drew := ⟨c1d, d1d, x1d, x2d⟩
          refine walks_take 0 (oi := { dst := some 55, op := _, type := _, pos := _, after := _, guard := none }) (v := ?_) rfl (by kernel_rfl) (fun _ _ _ h => h) (Or.inl ⟨by rfl, ?_⟩) (by assumption) ?_
          rotate_left
          · intro u hSu
            obtain ⟨s1, s2, s3, s4⟩ := hSu
            go_simp
            try with_reducible rfl
          try simp only [Act.put, List.setIfInBounds_toArray, List.set_cons_zero, List.set_cons_succ]
          refine walks_take 1 (oi := { dst := some 56, op := _, type := _, pos := _, after := _, guard := none }) (v := ?_) rfl (by kernel_rfl) (fun _ _ _ h => h) (Or.inl ⟨by rfl, ?_⟩) (by assumption) ?_
          rotate_left
          · intro u hSu
            obtain ⟨s1, s2, s3, s4⟩ := hSu
            go_simp
            try with_reducible rfl
          try simp only [Act.put, List.setIfInBounds_toArray, List.set_cons_zero, List.set_cons_succ]
          refine walks_take 2 (oi := { dst := some 57, op := _, type := _, pos := _, after := _, guard := none }) (v := ?_) rfl (by kernel_rfl) (fun _ _ _ h => h) (Or.inl ⟨by rfl, ?_⟩) (by assumption) ?_
          rotate_left
          · intro u hSu
            obtain ⟨s1, s2, s3, s4⟩ := hSu
            go_simp
            try with_reducible rfl
          try simp only [Act.put, List.setIfInBounds_toArray, List.set_cons_zero, List.set_cons_succ]
          refine walks_take 3 (oi := { dst := some 58, op := _, type := _, pos := _, after := _, guard := none }) (v := ?_) rfl (by kernel_rfl) (fun _ _ _ h => h) (Or.inl ⟨by rfl, ?_⟩) (by assumption) ?_
          rotate_left
          · intro u hSu
            obtain ⟨s1, s2, s3, s4⟩ := hSu
            go_simp
            try with_reducible rfl
          try simp only [Act.put, List.setIfInBounds_toArray, List.set_cons_zero, List.set_cons_succ]
          refine walks_take 4 (oi := { dst := some 59, op := _, type := _, pos := _, after := _, guard := none }) (v := ?_) rfl (by kernel_rfl) (fun _ _ _ h => h) (Or.inl ⟨by rfl, ?_⟩) (by assumption) ?_
          rotate_left
          · intro u hSu
            obtain ⟨s1, s2, s3, s4⟩ := hSu
            go_simp
            try with_reducible rfl
          try simp only [Act.put, List.setIfInBounds_toArray, List.set_cons_zero, List.set_cons_succ]
          refine walks_take 5 (oi := { dst := some 60, op := _, type := _, pos := _, after := _, guard := none }) (v := ?_) rfl (by kernel_rfl) (fun _ _ _ h => h) (Or.inl ⟨by rfl, ?_⟩) (by assumption) ?_
          rotate_left
          · intro u hSu
            obtain ⟨s1, s2, s3, s4⟩ := hSu
            go_simp
            try with_reducible rfl
          try simp only [Act.put, List.setIfInBounds_toArray, List.set_cons_zero, List.set_cons_succ]
          refine walks_take 6 (oi := { dst := some 61, op := _, type := _, pos := _, after := _, guard := none }) (v := ?_) rfl (by kernel_rfl) (fun _ _ _ h => h) (Or.inl ⟨by rfl, ?_⟩) (by assumption) ?_
          rotate_left
          · intro u hSu
            obtain ⟨s1, s2, s3, s4⟩ := hSu
            go_simp
            try with_reducible rfl
          try simp only [Act.put, List.setIfInBounds_toArray, List.set_cons_zero, List.set_cons_succ]
          refine walks_take 7 (oi := { dst := some 62, op := _, type := _, pos := _, after := _, guard := none }) (v := ?_) rfl (by kernel_rfl) (fun _ _ _ h => h) (Or.inl ⟨by rfl, ?_⟩) (by assumption) ?_
          rotate_left
          · intro u hSu
            obtain ⟨s1, s2, s3, s4⟩ := hSu
            go_simp
            try with_reducible rfl
          try simp only [Act.put, List.setIfInBounds_toArray, List.set_cons_zero, List.set_cons_succ]
          refine walks_take 8 (oi := { dst := some 63, op := _, type := _, pos := _, after := _, guard := none }) (v := ?_) rfl (by kernel_rfl) (fun _ _ _ h => h) (Or.inl ⟨by rfl, ?_⟩) (by assumption) ?_
          rotate_left
          · intro u hSu
            obtain ⟨s1, s2, s3, s4⟩ := hSu
            go_simp
            try with_reducible rfl
          try simp only [Act.put, List.setIfInBounds_toArray, List.set_cons_zero, List.set_cons_succ]
          refine walks_take 9 (oi := { dst := some 64, op := _, type := _, pos := _, after := _, guard := none }) (v := ?_) rfl (by kernel_rfl) (fun _ _ _ h => h) (Or.inl ⟨by rfl, ?_⟩) (by assumption) ?_
          rotate_left
          · intro u hSu
            obtain ⟨s1, s2, s3, s4⟩ := hSu
            go_simp
            try with_reducible rfl
          try simp only [Act.put, List.setIfInBounds_toArray, List.set_cons_zero, List.set_cons_succ]
          refine walks_take 10 (oi := { dst := some 65, op := _, type := _, pos := _, after := _, guard := none }) (v := ?_) rfl (by kernel_rfl) (fun _ _ _ h => h) (Or.inl ⟨by rfl, ?_⟩) (by assumption) ?_
          rotate_left
          · intro u hSu
            obtain ⟨s1, s2, s3, s4⟩ := hSu
            go_simp
            try with_reducible rfl
          try simp only [Act.put, List.setIfInBounds_toArray, List.set_cons_zero, List.set_cons_succ]
          refine walks_take 11 (oi := { dst := some 66, op := _, type := _, pos := _, after := _, guard := none }) (v := ?_) rfl (by kernel_rfl) (fun _ _ _ h => h) (Or.inl ⟨by rfl, ?_⟩) (by assumption) ?_
          rotate_left
          · intro u hSu
            obtain ⟨s1, s2, s3, s4⟩ := hSu
            go_simp
            try with_reducible rfl
          try simp only [Act.put, List.setIfInBounds_toArray, List.set_cons_zero, List.set_cons_succ]
          refine walks_take 12 (oi := { dst := some 67, op := _, type := _, pos := _, after := _, guard := none }) (v := ?_) rfl (by kernel_rfl) (fun _ _ _ h => h) (Or.inl ⟨by rfl, ?_⟩) (by assumption) ?_
          rotate_left
          · intro u hSu
            obtain ⟨s1, s2, s3, s4⟩ := hSu
            go_simp
            try with_reducible rfl
          try simp only [Act.put, List.setIfInBounds_toArray, List.set_cons_zero, List.set_cons_succ]
          refine walks_take 13 (oi := { dst := some 68, op := _, type := _, pos := _, after := _, guard := none }) (v := ?_) rfl (by kernel_rfl) (fun _ _ _ h => h) (Or.inl ⟨by rfl, ?_⟩) (by assumption) ?_
          rotate_left
          · intro u hSu
            obtain ⟨s1, s2, s3, s4⟩ := hSu
            go_simp
            try with_reducible rfl
          try simp only [Act.put, List.setIfInBounds_toArray, List.set_cons_zero, List.set_cons_succ]
          refine walks_take 14 (oi := { dst := some 69, op := _, type := _, pos := _, after := _, guard := none }) (v := ?_) rfl (by kernel_rfl) (fun _ _ _ h => h) (Or.inl ⟨by rfl, ?_⟩) (by assumption) ?_
          rotate_left
          · intro u hSu
            obtain ⟨s1, s2, s3, s4⟩ := hSu
            go_simp
            try with_reducible rfl
          try simp only [Act.put, List.setIfInBounds_toArray, List.set_cons_zero, List.set_cons_succ]
          refine walks_take 15 (oi := { dst := some 70, op := _, type := _, pos := _, after := _, guard := none }) (v := ?_) rfl (by kernel_rfl) (fun _ _ _ h => h) (Or.inl ⟨by rfl, ?_⟩) (by assumption) ?_
          rotate_left
          · intro u hSu
            obtain ⟨s1, s2, s3, s4⟩ := hSu
            go_simp
            try with_reducible rfl
          try simp only [Act.put, List.setIfInBounds_toArray, List.set_cons_zero, List.set_cons_succ]
          refine walks_take 16 (oi := { dst := some 71, op := _, type := _, pos := _, after := _, guard := none }) (v := ?_) rfl (by kernel_rfl) (fun _ _ _ h => h) (Or.inl ⟨by rfl, ?_⟩) (by assumption) ?_
          rotate_left
          · intro u hSu
            obtain ⟨s1, s2, s3, s4⟩ := hSu
            go_simp
            try with_reducible rfl
          try simp only [Act.put, List.setIfInBounds_toArray, List.set_cons_zero, List.set_cons_succ]
          refine walks_take 17 (oi := { dst := some 72, op := _, type := _, pos := _, after := _, guard := none }) (v := ?_) rfl (by kernel_rfl) (fun _ _ _ h => h) (Or.inl ⟨by rfl, ?_⟩) (by assumption) ?_
          rotate_left
          · intro u hSu
            obtain ⟨s1, s2, s3, s4⟩ := hSu
            go_simp
            try with_reducible rfl
          try simp only [Act.put, List.setIfInBounds_toArray, List.set_cons_zero, List.set_cons_succ]
          refine walks_take 18 (oi := { dst := some 73, op := _, type := _, pos := _, after := _, guard := none }) (v := ?_) rfl (by kernel_rfl) (fun _ _ _ h => h) (Or.inl ⟨by rfl, ?_⟩) (by assumption) ?_
          rotate_left
          · intro u hSu
            obtain ⟨s1, s2, s3, s4⟩ := hSu
            go_simp
            try with_reducible rfl
          try simp only [Act.put, List.setIfInBounds_toArray, List.set_cons_zero, List.set_cons_succ]
          refine walks_take 19 (oi := { dst := some 74, op := _, type := _, pos := _, after := _, guard := none }) (v := ?_) rfl (by kernel_rfl) (fun _ _ _ h => h) (Or.inl ⟨by rfl, ?_⟩) (by assumption) ?_
          rotate_left
          · intro u hSu
            obtain ⟨s1, s2, s3, s4⟩ := hSu
            go_simp
            try with_reducible rfl
          try simp only [Act.put, List.setIfInBounds_toArray, List.set_cons_zero, List.set_cons_succ]
          refine walks_take 20 (oi := { dst := some 75, op := _, type := _, pos := _, after := _, guard := none }) (v := ?_) rfl (by kernel_rfl) (fun _ _ _ h => h) (Or.inl ⟨by rfl, ?_⟩) (by assumption) ?_
          rotate_left
          · intro u hSu
            obtain ⟨s1, s2, s3, s4⟩ := hSu
            go_simp
            try with_reducible rfl
          try simp only [Act.put, List.setIfInBounds_toArray, List.set_cons_zero, List.set_cons_succ]
          refine walks_one 21 (o := { dst := some 76, op := _, type := _, pos := _, after := _, guard := none }) rfl (by decide) (by kernel_rfl) ?_
          intro K hK
          go_simp
          go_at_call 37
          refine (own_any (some ⟨xb, xo, none⟩) 64 xc l _ HY.out Hl.out (by decide)).mono ?_
          rintro e w5 ⟨a5, c5, rfl, hr5, hg5⟩
          have c5' := hg5.cellv c1d (by simp)
          have d5' := hg5.cellv d1d (by simp)
          have x5' := hg5.cellv x1d (by simp)
          have y5' := hg5.cellv x2d (by simp)
          refine hK.out _ _ ⟨c5', d5', x5', y5'⟩ ?_
          clear hK K
          have hS5 : (fun u : World => u.cell? ⟨r2, 1, none⟩ = some (.slice la' st2.L.length cl') ∧ u.cell? ⟨rb, 1, none⟩ = some (.slice (some ⟨lb, lo, none⟩) st.L.length cl) ∧ u.cell? ⟨lb, lo + k * 2, none⟩ = some (.int .i64 (s : Nat)) ∧ u.cell? ⟨lb, lo + k * 2 + 1, none⟩ = some (.slice (some ⟨xb, xo, none⟩) 64 xc)) w5 := ⟨c5', d5', x5', y5'⟩
          try simp only [Act.put, List.setIfInBounds_toArray, List.set_cons_zero, List.set_cons_succ]
          refine walks_take 22 (oi := { dst := some 77, op := _, type := _, pos := _, after := _, guard := none }) (v := ?_) rfl (by kernel_rfl) (fun _ _ _ h => h) (Or.inl ⟨by rfl, ?_⟩) (by assumption) ?_
          rotate_left
          · intro u hSu
            obtain ⟨s1, s2, s3, s4⟩ := hSu
            go_simp
            try with_reducible rfl
          try simp only [Act.put, List.setIfInBounds_toArray, List.set_cons_zero, List.set_cons_succ]
          refine walks_one 23 (o := { dst := some 78, op := _, type := _, pos := _, after := _, guard := none }) rfl (by decide) (by kernel_rfl) ?_
          intro K hK
          go_simp
          refine hK.out _ _ ⟨(Chg.alloc [] w5 _).cellv c5' (by simp), (Chg.alloc [] w5 _).cellv d5' (by simp), (Chg.alloc [] w5 _).cellv x5' (by simp), (Chg.alloc [] w5 _).cellv y5' (by simp)⟩ ?_
          clear hK K
          try simp only [Act.put, List.setIfInBounds_toArray, List.set_cons_zero, List.set_cons_succ]
          refine walks_one 24 (o := { dst := some 79, op := _, type := _, pos := _, after := _, guard := none }) rfl (by decide) (by kernel_rfl) ?_
          intro K hK
          refine step_append_zz rfl (.tmp 59) (.tmp 78) 60 rfl 70 2 32 (by decide) eltF r2 la' st2.L.length cl' ls' rfl (HRL.out.chg hg5 (by simp)) (Nat.le_trans (Nat.le_of_lt HLT.out) hg5.size) #[.int .i64 (s : Nat), .slice a5 64 c5] 1 rfl rfl (by intro u hu; simp at hu; rcases hu with rfl | rfl <;> rfl) H63.out HN.out ?_
          intro a6 c6 w6 hr6 hg6 hf6
          have k1 := hg6.cellv c5' Hap.out
          have k2 : w6.frozen? ⟨r2, 1, none⟩ = false := (hg6.frozen (p := ⟨r2, 1, none⟩) (show r2 < w5.heap.size from block_lt_of_cell c5') Hap.out).trans ((hg5.frozen (p := ⟨r2, 1, none⟩) HLT.out (by simp)).trans HF.out)
          have hlo := HLO.out.1
          have m1 := hg6.cellv d5' HLO.out.2
          have m2 := hg6.cellv x5' hlo
          have m3 := hg6.cellv y5' hlo
          refine hK.out _ _ ⟨k1, m1, m2, m3⟩ ?_
          clear hK K hS5
          have hS6 : (fun u : World => u.cell? ⟨r2, 1, none⟩ = some (.slice la' st2.L.length cl') ∧ u.cell? ⟨rb, 1, none⟩ = some (.slice (some ⟨lb, lo, none⟩) st.L.length cl) ∧ u.cell? ⟨lb, lo + k * 2, none⟩ = some (.int .i64 (s : Nat)) ∧ u.cell? ⟨lb, lo + k * 2 + 1, none⟩ = some (.slice (some ⟨xb, xo, none⟩) 64 xc)) w6 := ⟨k1, m1, m2, m3⟩
          clear m1 m2 m3 hlo
          try simp only [Act.put, List.setIfInBounds_toArray, List.set_cons_zero, List.set_cons_succ]
          refine walks_take 25 (oi := { dst := some 80, op := _, type := _, pos := _, after := _, guard := none }) (v := ?_) rfl (by kernel_rfl) (fun _ _ _ h => h) (Or.inl ⟨by rfl, ?_⟩) (by assumption) ?_
          rotate_left
          · intro u hSu
            obtain ⟨s1, s2, s3, s4⟩ := hSu
            go_simp
            try with_reducible rfl
          try simp only [Act.put, List.setIfInBounds_toArray, List.set_cons_zero, List.set_cons_succ]
          refine walks_take 26 (oi := { dst := some 81, op := _, type := _, pos := _, after := _, guard := none }) (v := ?_) rfl (by kernel_rfl) (fun _ _ _ h => h) (Or.inl ⟨by rfl, ?_⟩) (by assumption) ?_
          rotate_left
          · intro u hSu
            obtain ⟨s1, s2, s3, s4⟩ := hSu
            go_simp
            try with_reducible rfl
          try simp only [Act.put, List.setIfInBounds_toArray, List.set_cons_zero, List.set_cons_succ]
          refine walks_last 27 (o := { dst := none, op := _, type := _, pos := _, after := _, guard := none }) rfl (by kernel_rfl) (by kernel_rfl) (by decide) ?_
          intro K hK
          go_simp
          refine hK.out _ _ ?_
          clear hK K hS6
          obtain ⟨F3, z1, z2, z3⟩ := fly_close HR.out HS2.out Hl.out ((Chg.drew [] wr).then hg5) hr5 hg6 hr6 hf6
          rw [Hst3.out] at z1
          have hc7 := HC.out.trans z2 (fun _ h _ => h) (fun k hk hlt => by have := (HR.out.F1 k hk).1; omega)
          clear z2 z3 hg5 hr5 hg6 hr6 hf6
          generalize w6.setCell ⟨r2, 1, none⟩ (.slice a6 (st2.L.length + 1) c6) = w7 at *
          go_wp2_with fail
          exact ⟨⟨k + 1, F3, a6, c6, _, by go_num, by omega, z1, hc7⟩, by simp [intOf]; omega⟩
        · have hke : k = st.L.length := by omega
          subst hke
          rw [List.take_length] at hr
          have hd : decide ((st.L.length : Int) < (st.L.length : Int)) = false := decide_eq_false (by omega)
          clear hlt
          go_wp2_with fail
          go_ret
          exact ⟨r2, F', sa', cs', la', cl', vs', ls', rfl, by rw [hrb]; exact hr, hc⟩
end Go.Proofs.Ytinmhaffefgloaa
