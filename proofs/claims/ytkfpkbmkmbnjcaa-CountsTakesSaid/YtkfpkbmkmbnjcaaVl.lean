/- The landed code: Put. -/
import Derived.Test.YtkfpkbmkmbnjcaaVk
namespace Go.Proofs.Ytkfpkbmkmbnjcaa
open Go.RowKit
set_option linter.unusedVariables false
set_option linter.unusedSimpArgs false
attribute [local go_sem] Oper.semAt_some

def pgAt (L : List UInt8) (n : Nat) (x : PgI n) : List UInt8 := pageOf (partL L n x.1)
theorem partL_le {L : List UInt8} {n x : Nat} : (partL L n x).length ≤ 240 := by
  have := plen_le n x
  unfold partL
  rw [List.length_take]
  omega
theorem pageOf_get {l : List UInt8} (h : l.length ≤ 240) (j : Nat) (hj : j < 240) : (pageOf l)[j]? = some ((l[j]?).getD 0) := by
  unfold pageOf
  rw [List.getElem?_append]
  split
  · rename_i h1
    rw [List.getElem?_eq_getElem h1]; rfl
  · rename_i h1
    rw [List.getElem?_replicate, if_pos (by omega), List.getElem?_eq_none (by omega)]; rfl
theorem isPut_parts {L : List UInt8} {n : Nat} (h : L.length = n) {xs : List (PgI n)} (hx : xs.map (·.1) = List.range (npg n)) : IsPut L n (xs.map (pgAt L n)) := by
  have hl : xs.length = npg n := by
    have := congrArg List.length hx
    rwa [List.length_map, List.length_range] at this
  refine ⟨by rw [List.length_map, hl], fun i p hp => ?_⟩
  rw [List.getElem?_map] at hp
  obtain ⟨x, hxi, rfl⟩ := Option.map_eq_some_iff.1 hp
  have hix : x.1 = i := by
    have h1 : (xs.map (·.1))[i]? = some x.1 := by rw [List.getElem?_map, hxi]; rfl
    rw [hx, List.getElem?_range (by rw [← hl]; exact (List.getElem?_eq_some_iff.1 hxi).1)] at h1
    cases h1; rfl
  obtain ⟨x, hxn⟩ := x
  dsimp only at hix
  subst hix
  refine ⟨pageOf_len partL_le, fun j hj => ?_⟩
  unfold pgAt
  rw [pageOf_get partL_le j hj]
  dsimp only
  have hp := plen_in hxn
  congr 1
  by_cases hjn : 240 * x + j < n
  · have hjp : j < plen n x := by unfold plen; split <;> omega
    rw [if_pos hjn]
    unfold partL
    rw [List.getElem?_take_of_lt hjp, List.getElem?_drop]
  · rw [if_neg hjn]
    have : plen n x ≤ j := by unfold plen; unfold npg at hxn; split <;> omega
    rw [List.getElem?_eq_none (by have := partL_len h hxn; omega)]; rfl

set_option maxRecDepth 100000 in
set_option maxHeartbeats 2000000 in
theorem put_any (a0 : Option Addr) (n c : Nat) (L : List UInt8) (w : World) (g0 : Reads w a0 (bts L)) (gn : L.length = n) (hc : n ≤ c) (hn : n ≤ 140737488351232) : Calls Try.prog 7 #[.slice a0 n c] w fun e w' => ∃ ao cc bs ps, e = .returned (.slice ao ps.length cc) ∧ IsPut L n ps ∧ OPg w' w.heap.size ao cc bs ps ∧ Chg [] w w' := by
  have cP := pages_any (n : Int) w (by omega)
  rw [npgZ_nat] at cP
  have hnp : npg n ≤ 586406201481 := by unfold npg; omega
  refine (callsIn_wide (n := 3)).1 ?_
  refine callsIn_of_wp_marks Try.func7 rfl trivial ?_ rfl
  simp only [Try.ntmps7, List.size_toArray, List.length_cons, List.length_nil, Nat.reduceAdd, Nat.reduceSub, Array.replicate_succ, Array.replicate_zero, List.push_toArray, List.append_toArray, List.nil_append, List.cons_append]
  gi_wp2_with (first
    | (refine ⟨trivial, ?_⟩; gi_at_call 12; refine (callsIn_wide.2 cP).mono ?_; rintro e w' ⟨rfl, rfl⟩)
    | (gi_at_make; refine wpListIn_make_k _ rfl _ _ 23 rfl 22 24 eltP w.heap.size .i64 .i64 _ (npg n) rfl rfl rfl (by omega) (by unfold maxLen; omega) (Nat.le_refl _) ?_; intro w1 hr1 hg1)
    | (refine ⟨trivial, ?_⟩; gi_at_call 18; refine (callsIn_wide.2 (parts_any _ _ _ _)).mono ?_; rintro e w' ⟨rfl, rfl⟩))
  obtain ⟨bS, hbS⟩ : ∃ b, w1.heap.size = b := ⟨_, rfl⟩
  have eb := Boxed.new w1 23 (.slice (some ⟨w.heap.size, 0, none⟩) 0 (npg n))
  have ei := Boxed.new (w1.alloc (.cells #[.slice (some ⟨w.heap.size, 0, none⟩) 0 (npg n)] 23)) 22 (.slice a0 n c)
  have eb2 := eb.alloc (.cells #[.slice a0 n c] 22)
  have hfp := fun k (hk : k ∈ fp (some ⟨w.heap.size, 0, none⟩) (npg n)) => (hr1.lt k hk).2
  have hr2 := (hr1.chg (Chg.alloc [] w1 (.cells #[.slice (some ⟨w.heap.size, 0, none⟩) 0 (npg n)] 23)) (by simp)).chg (Chg.alloc [] _ (.cells #[.slice a0 n c] 22)) (by simp)
  have gw : Chg [] w ((w1.alloc (.cells #[.slice (some ⟨w.heap.size, 0, none⟩) 0 (npg n)] 23)).alloc (.cells #[.slice a0 n c] 22)) := (hg1.then (Chg.alloc [] _ _)).then (Chg.alloc [] _ _)
  have hsz : ((w1.alloc (.cells #[.slice (some ⟨w.heap.size, 0, none⟩) 0 (npg n)] 23)).alloc (.cells #[.slice a0 n c] 22)).heap.size = w1.heap.size + 1 + 1 := by simp
  generalize ((w1.alloc (.cells #[.slice (some ⟨w.heap.size, 0, none⟩) 0 (npg n)] 23)).alloc (.cells #[.slice a0 n c] 22)) = wl at *
  simp only [World.size_alloc] at ei
  have hw1 := hg1.size
  rw [hbS] at eb eb2 ei hsz hfp hw1 ⊢
  obtain ⟨iS, hiS⟩ : ∃ b, bS + 1 = b := ⟨_, rfl⟩
  rw [hiS] at ei hsz ⊢
  have hbi : bS ≠ iS := by omega
  have HB := mkHid hiS
  have HSZ := mkHid hsz
  have o0 : OPg wl w.heap.size (some ⟨w.heap.size, 0, none⟩) (npg n) [] [] := ⟨rfl, hr2, fun i b p h => by simp at h, List.nodup_nil, by simp⟩
  have u0 : bS ∉ fp (some ⟨w.heap.size, 0, none⟩) (npg n) := fun hk => by have := hfp _ hk; omega
  have u1 : iS ∉ fp (some ⟨w.heap.size, 0, none⟩) (npg n) := fun hk => by have := hfp _ hk; omega
  have hbw : w.heap.size ≤ bS := hw1
  clear cP hr1 hg1 hfp hr2 hbS hiS hsz eb
  generalize hsw : w.heap.size = sw at *
  refine wpIn_rangeFunc_ownG rfl (by decide) (gf := 21) (lb := #[.pointer (some ⟨iS, 0, none⟩)]) rfl trivial (enters_of Try.func21 (by kernel_rfl) rfl)
    (parts_stops (3 - 1) (by decide) iS a0 n c hc hn wl ei.lt ei.cell) KpB.t (fun W l o o' _ h ho _ => KpB.b W l o o' h ho) (Below.refl _ _) (fun _ => rfl)
    (fun pre W => ∃ ao cc bs, Boxed W bS 23 (.slice ao pre.length cc) ∧ OPg W sw ao cc bs (pre.map (pgAt L n)) ∧ bS ∉ fp ao cc ∧ iS ∉ fp ao cc ∧ bS ∉ bs ∧ Chg [] w W ∧ wl.heap.size ≤ W.heap.size)
    (fun _ _ _ => False)
    (ownFrom_side (fun pre W W' ⟨ao, cc, bs, h1, h2, h3, h4, h5, h6, h7⟩ sd => ⟨ao, cc, bs, sd.boxed h1, sd.opg h2, h3, h4, h5, sd.chg h6 gw.size, Nat.le_trans h7 sd.size⟩))
    (fun _ _ _ _ _ hs _ _ => hs)
    ⟨_, _, [], eb2, o0, u0, u1, by simp, gw, Nat.le_refl _⟩
    (fun x => { tmps := #[.slice a0 n c, undef, .slice none 0 0, .pointer (some ⟨bS, 0, none⟩), undef, pval a0 c n x.1, .slice a0 n c, .int .i64 (n : Int), .int .i64 (npg n : Int), .slice (some ⟨sw, 0, none⟩) 0 (npg n), .slice a0 n c, .func (.func 21) #[] #[.pointer (some ⟨iS, 0, none⟩)], .int .i64 (x.1 : Int), pval a0 c n x.1, undef, undef, undef, undef, undef, undef], defers := [] }) ?assign ?body ?done ?stop
  case assign =>
    intro l x W K hK
    dsimp only [pencs]
    gi_wp2
    exact hK
  case body =>
    rintro l pre x W ⟨ao, cc, bs, h1, h2, h3, h4, h5, h6, h7⟩ hlt
    have g1 := partL_reads (x := x.1) ((g0.keep h6).keep (Chg.drew [] W)) gn hc
    have gl := partL_len gn x.2
    have cP := page_1 _ _ (c - 240 * x.1) _ W.drew g1 gl (plen_le n x.1)
    dsimp only [pval]
    refine wpIn_block ?_
    refine walks_up (fun u => u.cell? ⟨bS, 0, none⟩ = some (.slice ao pre.length cc)) 5 (by kernel_rfl) (by kernel_rfl) (fun ⟨_, _, h⟩ => h) rfl ?_
    have c1 : W.drew.cell? ⟨bS, 0, none⟩ = some (.slice ao pre.length cc) := h1.cell
    have hS0 : (fun u : World => u.cell? ⟨bS, 0, none⟩ = some (.slice ao pre.length cc)) W.drew := c1
    refine walks_take 0 (oi := { dst := some 14, op := _, type := _, pos := _, after := _, guard := none }) (v := ?_) rfl (by kernel_rfl) (fun _ _ _ h => h) (Or.inl ⟨by rfl, ?_⟩) (by assumption) ?_
    rotate_left
    · intro u hSu
      try dsimp only at hSu
      go_simp
      try with_reducible rfl
    try simp only [Act.put, List.setIfInBounds_toArray, List.set_cons_zero, List.set_cons_succ]
    refine walks_take 1 (oi := { dst := some 15, op := _, type := _, pos := _, after := _, guard := none }) (v := ?_) rfl (by kernel_rfl) (fun _ _ _ h => h) (Or.inl ⟨by rfl, ?_⟩) (by assumption) ?_
    rotate_left
    · intro u hSu
      try dsimp only at hSu
      go_simp
      try with_reducible rfl
    try simp only [Act.put, List.setIfInBounds_toArray, List.set_cons_zero, List.set_cons_succ]
    refine walks_one 2 (o := { dst := some 16, op := _, type := _, pos := _, after := _, guard := none }) rfl (by decide) (by kernel_rfl) ?_
    intro K hK
    go_simp
    go_at_call 19
    refine cP.mono ?_
    rintro e W1 ⟨b, rfl, hb, hr, hg⟩
    have c2 := hg.cellv c1 (by simp)
    refine hK.out _ _ c2 ?_
    clear hK K
    have hS1 : (fun u : World => u.cell? ⟨bS, 0, none⟩ = some (.slice ao pre.length cc)) W1 := c2
    try simp only [Act.put, List.setIfInBounds_toArray, List.set_cons_zero, List.set_cons_succ]
    refine walks_one 3 (o := { dst := some 17, op := _, type := _, pos := _, after := _, guard := none }) rfl (by decide) (by kernel_rfl) ?_
    intro K hK
    go_simp
    have c3 := (Chg.alloc [] W1 (.cells #[.slice (some ⟨b, 0, none⟩) 240 240] 22)).cellv c2 (by simp)
    refine hK.out _ _ c3 ?_
    clear hK K
    try simp only [Act.put, List.setIfInBounds_toArray, List.set_cons_zero, List.set_cons_succ]
    refine walks_one 4 (o := { dst := some 18, op := _, type := _, pos := _, after := _, guard := none }) rfl (by decide) (by kernel_rfl) ?_
    intro K hK
    have hgW : Chg [] W W1 := (Chg.drew [] W).then hg
    have h2' := h2.keep hgW
    have hsw2 : sw ≤ W1.heap.size := by have := h6.size; have := hgW.size; omega
    have hpl : (pre.map (pgAt L n)).length = pre.length := List.length_map _
    refine step_append_2 rfl (.tmp 14) (.tmp 17) 23 rfl 22 24 eltP sw ao pre.length cc (bs.map pv) rfl (by rw [← hpl]; exact h2'.r) hsw2 (pv b) 1 rfl rfl (by unfold maxLen; omega) (by omega) ?_
    intro ao3 cc3 W3 hr3 hg3 hf3
    have c4 := hg3.cellv c2 h3
    refine hK.out _ _ c4 ?_
    clear hK K
    try simp only [Act.put, List.setIfInBounds_toArray, List.set_cons_zero, List.set_cons_succ]
    refine walks_last 5 (o := { dst := none, op := _, type := _, pos := _, after := _, guard := none }) rfl (by kernel_rfl) (by kernel_rfl) (by decide) ?_
    intro K hK
    have b4 : Boxed W3 bS 23 (.slice ao pre.length cc) := Boxed.chg (Boxed.chg h1 hgW (by simp)) hg3 h3
    have f4 := b4.frozen
    go_simp
    refine hK.out _ _ ?_
    clear hK K
    have hbW : W.heap.size ≤ b := hb
    have hbb : b < W1.heap.size := (hr.lt b (by rw [fp_some _ _ _ (by decide)]; simp)).2
    have hlW : bS < W.heap.size := Boxed.lt h1
    have o3 := h2.snoc (p := pgAt L n x) hgW (hr.mono (by have := h6.size; show sw ≤ W.heap.size; omega)) hbW (by rw [hpl]; exact hr3) hg3 (hf3.imp id (fun e => ⟨_, Nat.le_succ _, e⟩))
    have g4 := Chg.setCell W3 ⟨bS, 0, none⟩ (.slice ao3 (pre.length + 1) cc3)
    have nS3 : bS ∉ fp ao3 cc3 := by
      rcases hf3 with e | e
      · rw [e]; exact h3
      · rw [e]; have := hgW.size; simp; omega
    have nI3 : iS ∉ fp ao3 cc3 := by
      rcases hf3 with e | e
      · rw [e]; exact h4
      · rw [e]; have := hgW.size; have := HSZ.out; simp; omega
    have nB3 : bS ∉ bs ++ [b] := by
      intro hm
      rcases List.mem_append.1 hm with hm | hm
      · exact h5 hm
      · simp at hm; omega
    have gg : Chg (bS :: fp ao cc) W (W3.setCell ⟨bS, 0, none⟩ (.slice ao3 (pre.length + 1) cc3)) :=
      (hgW.trans hg3 (U := bS :: fp ao cc) (by simp) (fun k hk _ => by simp [hk])).trans g4 (fun _ h _ => h) (fun k hk _ => by simp at hk; simp [hk])
    have hown : ∀ k, k ∈ bS :: fp ao cc → ∀ o, W.heap[k]? = some o → o.isCells = true := fun k hk => by
      rcases List.mem_cons.1 hk with rfl | hk
      · exact Boxed.cells h1
      · exact h2.r.cells k hk
    have hnew : ∀ k, k ∈ bS :: fp ao cc → w.heap.size ≤ k := fun k hk => by
      rcases List.mem_cons.1 hk with rfl | hk
      · rw [hsw]; exact hbw
      · rw [hsw]; exact (h2.r.lt k hk).1
    show KeepsFrom _ _ _ ∧ KpB _ _ _ _ ∧ _
    refine ⟨gg.keepsFrom _ hown, KpB.chg gg ?_, ao3, cc3, bs ++ [b], ?_, ?_, nS3, nI3, nB3, ?_, ?_⟩
    · intro hm
      rcases List.mem_cons.1 hm with e | hm
      · exact hbi e.symm
      · exact h4 hm
    · rw [List.length_append]
      exact b4.set _
    · rw [List.map_append]
      exact o3.chg g4 (fun k hk hm => by simp at hm; subst hm; exact nS3 hk) (fun k hk hm => by simp at hm; subst hm; exact nB3 hk)
    · exact h6.trans gg (by simp) (fun k hk hlt => absurd (hnew k hk) (by omega))
    · exact Nat.le_trans h7 gg.size
  case done =>
    rintro D xs W hD hall ⟨ao, cc, bs, h1, h2, h3, h4, h5, h6, h7⟩ hK
    have c1 := h1.cell
    gi_wp2
    have sd := Side.putObj (B := wl.heap.size) (.deferred none) hD hK rfl
    refine ⟨by simp, .inl ⟨_, _, rfl, run_takeDeferred hK, ?_⟩⟩
    exact ⟨_, results_tmp rfl _ _ _, ao, cc, bs, xs.map (pgAt L n), by rw [List.length_map]; rfl, isPut_parts gn hall, by first | exact sd.opg h2 | (rw [hsw]; exact sd.opg h2), sd.chg h6 gw.size⟩
  case stop =>
    rintro D c pre W _ _ h _
    exact h.elim
end Go.Proofs.Ytkfpkbmkmbnjcaa
