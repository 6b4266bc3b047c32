/- Texts Vn of the library, joined. -/
import Derived.Test.YtoeijomelabbfaaGreatDoorM05
/- The landed code: Take. -/
namespace Go.Proofs.YtoeijomelabbfaaGreatDoor
set_option maxRecDepth 200000
open Go.RowKit
set_option linter.unusedVariables false
set_option linter.unusedSimpArgs false
attribute [local go_sem] Oper.semAt_some

theorem pages_quiet (z : Int) (w : World) (q : Nat) (hz : z ≤ 9223372036854775807) : Calls Tryz.prog 157 #[.int .i64 z] (w.drewN q) fun e w' => e = .returned (.int .i64 (npgZ z)) ∧ w' = w.drewN q :=
  (pages_any z (w.drewN q) hz).mono fun _ _ h => ⟨h.1, h.2.symm⟩
/-- The three cells that Take begins with. -/
structure Takes (w W : World) (sw b4 b5 : Nat) (a0 : Option Addr) (np ca : Nat) (v : Value) (k : Int) : Prop where
  ew : w.heap.size = sw
  h4 : b4 = sw + 1
  h5 : b5 = sw + 2
  cP : Boxed W sw 82 (.slice a0 np ca)
  c4 : Boxed W b4 41 v
  c5 : Boxed W b5 26 (.int .i64 k)
  g : Chg [] w W
  sz : sw + 3 ≤ W.heap.size
section
variable {w W W' : World} {sw b4 b5 : Nat} {a0 : Option Addr} {np ca : Nat} {v : Value} {k : Int}
theorem Takes.new (w : World) (a0 : Option Addr) (np ca : Nat) : Takes w (((w.alloc (.cells #[.slice a0 np ca] 82)).alloc (.cells #[.slice none 0 0] 41)).alloc (.cells #[.int .i64 0] 26)) w.heap.size (w.heap.size + 1) (w.heap.size + 1 + 1) a0 np ca (.slice none 0 0) 0 := by
  have b1 := Boxed.new (w.alloc (.cells #[.slice a0 np ca] 82)) 41 (.slice none 0 0)
  have b2 := Boxed.new ((w.alloc (.cells #[.slice a0 np ca] 82)).alloc (.cells #[.slice none 0 0] 41)) 26 (.int .i64 0)
  simp only [World.size_alloc] at b1 b2
  exact ⟨rfl, rfl, rfl, Boxed.alloc (Boxed.alloc (Boxed.new w _ _) _) _, Boxed.alloc b1 _, b2, ((Chg.alloc [] w _).then (Chg.alloc [] _ _)).then (Chg.alloc [] _ _), by simp⟩
theorem Takes.set (h : Takes w W sw b4 b5 a0 np ca v k) (v' : Value) (k' : Int) : Takes w ((W.setCell ⟨b4, 0, none⟩ v').setCell ⟨b5, 0, none⟩ (.int .i64 k')) sw b4 b5 a0 np ca v' k' := by
  have e1 := h.ew
  have e3 := h.h4
  have e4 := h.h5
  have g : Chg [b4, b5] W ((W.setCell ⟨b4, 0, none⟩ v').setCell ⟨b5, 0, none⟩ (.int .i64 k')) := (Chg.setCell W ⟨b4, 0, none⟩ v').trans (Chg.setCell _ ⟨b5, 0, none⟩ _) (by simp) (by simp)
  exact ⟨h.ew, h.h4, h.h5, Boxed.other (Boxed.other h.cP (by omega) _) (by omega) _, Boxed.other (Boxed.set _ h.c4) (by omega) _, Boxed.set _ (Boxed.other h.c5 (by omega) _), h.g.trans g (by simp) (fun k hk hlt => by simp at hk; omega), Nat.le_trans h.sz g.size⟩
theorem Takes.keep (h : Takes w W sw b4 b5 a0 np ca v k) {S : List Nat} (g : Chg S W W') (hS : ∀ k, k ∈ S → sw + 3 ≤ k) : Takes w W' sw b4 b5 a0 np ca v k := by
  have e1 := h.ew
  have e3 := h.h4
  have e4 := h.h5
  exact ⟨h.ew, h.h4, h.h5, Boxed.chg h.cP g (fun hm => by have := hS _ hm; omega), Boxed.chg h.c4 g (fun hm => by have := hS _ hm; omega), Boxed.chg h.c5 g (fun hm => by have := hS _ hm; omega), h.g.trans g (by simp) (fun k hk hlt => by have := hS _ hk; omega), Nat.le_trans h.sz g.size⟩
theorem Takes.side {B : Nat} (h : Takes w W sw b4 b5 a0 np ca v k) (hB : w.heap.size ≤ B) (sd : Side B W W') : Takes w W' sw b4 b5 a0 np ca v k :=
  ⟨h.ew, h.h4, h.h5, sd.boxed h.cP, sd.boxed h.c4, sd.boxed h.c5, sd.chg h.g hB, Nat.le_trans h.sz sd.size⟩
end

set_option maxRecDepth 100000 in
set_option maxHeartbeats 2000000 in
theorem takes_any (a0 : Option Addr) (np ca : Nat) (ps : List (List UInt8)) (z : Int) (w : World) (h : RdPg w a0 ps) (hnp : ps.length = np) (hb : np ≤ 140737488351232) : Calls Tryz.prog 169 #[.slice a0 np ca, .int .i64 z] w fun e w' => TakeRes w.heap.size e w' (takeN ps z) ∧ Chg [] w w' := by
  refine (callsIn_wide (n := 3)).1 ?_
  refine callsIn_of_wp_marks Tryz.func169 rfl trivial ?_ rfl
  simp only [Tryz.ntmps169, List.size_toArray, List.length_cons, List.length_nil, Nat.reduceAdd, Nat.reduceSub, Array.replicate_succ, Array.replicate_zero, List.push_toArray, List.append_toArray, List.nil_append, List.cons_append]
  refine wpIn_seq_k (fun K hK => ?_)
  have HK := mkHid hK
  clear hK
  gi_wp2
  have t := Takes.new w a0 np ca
  generalize ((w.alloc (.cells #[.slice a0 np ca] 82)).alloc (.cells #[.slice none 0 0] 41)).alloc (.cells #[.int .i64 0] 26) = W at *
  refine HK.out _ _ ?_
  clear HK K
  generalize w.heap.size + 1 + 1 = b5 at *
  generalize w.heap.size + 1 = b4 at *
  generalize hsw : w.heap.size = sw at *
  have c4 := t.c4.cell
  have c5 := t.c5.cell
  have cP := t.cP.cell
  have f4 := t.c4.frozen
  have f5 := t.c5.frozen
  have e45 : b4 ≠ b5 := by have := t.h4; have := t.h5; omega
  have e54 : b5 ≠ b4 := fun e => e45 e.symm
  have ts := fun (v' : Value) (k' : Int) => t.set v' k'
  have HT := mkHid t
  have HTS := mkHid ts
  clear t ts
  by_cases hz : z < 0 ∨ 1024 < z
  · rw [take_out hz]
    have tm := HTS.out (.slice none 0 0) 1
    have m4 := tm.c4.cell
    have m5 := tm.c5.cell
    have hres : TakeRes sw (.returned (.tuple #[.slice none 0 0, .int .i64 1])) ((W.setCell ⟨b4, 0, none⟩ (.slice none 0 0)).setCell ⟨b5, 0, none⟩ (.int .i64 1)) (1, []) := TakeRes.none _ _ _
    by_cases h1 : z < 0
    · have d1 : decide (z < 0) = true := decide_eq_true h1
      gi_wp2
      refine ⟨.tuple #[.slice none 0 0, .int .i64 1], ?_, hres, tm.g⟩
      simp [results, Tryz.f169, go_sem, m4, m5]
    · have d1 : decide (z < 0) = false := decide_eq_false h1
      have d2 : decide (z > 1024) = true := decide_eq_true (by omega)
      have d3 : decide (1024 < z) = true := decide_eq_true (by omega)
      gi_wp2
      refine ⟨.tuple #[.slice none 0 0, .int .i64 1], ?_, hres, tm.g⟩
      simp [results, Tryz.f169, go_sem, m4, m5]
  · obtain ⟨n, rfl⟩ : ∃ n : Nat, z = (n : Int) := ⟨z.toNat, by omega⟩
    have hn : n ≤ 1024 := by omega
    have d1 : decide ((n : Int) < 0) = false := decide_eq_false (by omega)
    have d2 : decide ((n : Int) > 1024) = false := decide_eq_false (by omega)
    have d3 : decide (1024 < (n : Int)) = false := decide_eq_false (by omega)
    have cQ := fun (W : World) (q : Nat) => pages_quiet (n : Int) W q (by omega)
    rw [npgZ_nat] at cQ
    have hfe : takeN ps (n : Int) = if ps.length < npg n then (4, []) else if npg n < ps.length then (3, []) else takeN ps (n : Int) := by
      unfold takeN
      rw [if_neg hz, Int.toNat_natCast]
      split
      · rfl
      · split
        · rfl
        · rfl
    rw [hnp] at hfe
    obtain ⟨d4, hd4⟩ : ∃ b, decide (np < npg n) = b := ⟨_, rfl⟩
    obtain ⟨d6, hd6⟩ : ∃ b, decide (npg n < np) = b := ⟨_, rfl⟩
    clear hz
    gi_wp2
    refine wpIn_wide.2 ?_
    go_quiet ((first | (go_at_call 157; exact Calls.quiet_of_same (cQ _ _))))
    have t1 := HT.out.keep (Chg.drewN W nq) (by simp)
    generalize W.drewN nq = W1 at *
    clear c4 c5 cP f4 f5 HT HTS
    have c4 := t1.c4.cell
    have c5 := t1.c5.cell
    have cP := t1.cP.cell
    have f4 := t1.c4.frozen
    have f5 := t1.c5.frozen
    cases d4 with
    | true =>
      rw [if_pos (of_decide_eq_true hd4)] at hfe
      have tm := t1.set (.slice none 0 0) 4
      have m4 := tm.c4.cell
      have m5 := tm.c5.cell
      have mg := tm.g
      clear t1 tm
      gi_wp2
      refine ⟨.tuple #[.slice none 0 0, .int .i64 4], ?_, by rw [hfe]; exact TakeRes.none _ _ _, mg⟩
      simp [results, Tryz.f169, go_sem, m4, m5]
    | false =>
      rw [if_neg (of_decide_eq_false hd4)] at hfe
      have HT1 := mkHid t1
      clear t1
      gi_wp2
      refine wpIn_wide.2 ?_
      go_quiet ((first | (go_at_call 157; exact Calls.quiet_of_same (cQ _ _))))
      have t2 := HT1.out.keep (Chg.drewN W1 nq) (by simp)
      generalize W1.drewN nq = W2 at *
      clear c4 c5 cP f4 f5 HT1
      have c4 := t2.c4.cell
      have c5 := t2.c5.cell
      have cP := t2.cP.cell
      have f4 := t2.c4.frozen
      have f5 := t2.c5.frozen
      cases d6 with
      | true =>
        rw [if_pos (of_decide_eq_true hd6)] at hfe
        have tm := t2.set (.slice none 0 0) 3
        have m4 := tm.c4.cell
        have m5 := tm.c5.cell
        have mg := tm.g
        clear t2 tm
        gi_wp2
        refine ⟨.tuple #[.slice none 0 0, .int .i64 3], ?_, by rw [hfe]; exact TakeRes.none _ _ _, mg⟩
        simp [results, Tryz.f169, go_sem, m4, m5]
      | false =>
        obtain rfl : np = npg n := by
          have := of_decide_eq_false hd4
          have := of_decide_eq_false hd6
          omega
        clear hfe cQ hd4 hd6 d1 d2 d3
        have hmk2 : ∀ u : World, (Instr.makeSlice 41 (.int .i64 (n : Int)) (.int .i64 (n : Int))).run Tryz.prog u = .ok (.slice (some ⟨u.heap.size, 0, none⟩) n n) (u.alloc (.cells (madeCells #[.int .u8 0] n) 5)) := fun u =>
          run_make_k eltB (.int .u8 0) (by kernel_rfl) rfl n (by omega) (by unfold maxLen; omega) u
        have HT2 := mkHid t2
        clear t2
        gi_wp2_with (first | (refine ⟨trivial, ?_⟩; gi_at_call 185; refine (callsIn_wide.2 (parts_any _ _ _ _)).mono ?_; rintro e w' ⟨rfl, rfl⟩))
        have t3 := (HT2.out.keep (Chg.alloc [] W2 (.cells (madeCells #[.int .u8 0] n) 5)) (by simp)).keep (Chg.alloc [] _ (.cells #[.slice (some ⟨W2.heap.size, 0, none⟩) n n] 41)) (by simp)
        have ei := Boxed.new (W2.alloc (.cells (madeCells #[.int .u8 0] n) 5)) 41 (.slice (some ⟨W2.heap.size, 0, none⟩) n n)
        have hr0 := ((made_room W2 5 (.int .u8 0) n (by unfold maxLen; omega)).chg (Chg.alloc [] _ (.cells #[.slice (some ⟨W2.heap.size, 0, none⟩) n n] 41)) (by simp))
        rw [show List.replicate n (Value.int .u8 0) = bts (List.replicate n 0) by unfold bts; rw [List.map_replicate]; rfl] at hr0
        have hsz : ((W2.alloc (.cells (madeCells #[.int .u8 0] n) 5)).alloc (.cells #[.slice (some ⟨W2.heap.size, 0, none⟩) n n] 41)).heap.size = W2.heap.size + 1 + 1 := by simp
        have hcS := HT2.out.sz
        generalize ((W2.alloc (.cells (madeCells #[.int .u8 0] n) 5)).alloc (.cells #[.slice (some ⟨W2.heap.size, 0, none⟩) n n] 41)) = wl at *
        simp only [World.size_alloc] at ei
        clear HT2 hmk2 c4 c5 cP f4 f5
        generalize W2.heap.size = cS at *
        obtain ⟨iS, hiS⟩ : ∃ i, cS + 1 = i := ⟨_, rfl⟩
        rw [hiS] at ei hsz ⊢
        have hr1 := hr0.mono (B' := sw) (by omega)
        have hwl : w.heap.size ≤ wl.heap.size := t3.g.size
        have HIS := mkHid hiS
        have HSZ := mkHid hsz
        have HCS := mkHid hcS
        clear hiS hsz hcS hr0
        refine wpIn_rangeFunc_ownG rfl (by decide) (gf := 202) (lb := #[.pointer (some ⟨iS, 0, none⟩)]) rfl trivial (enters_of Tryz.func202 (by kernel_rfl) rfl)
          (parts_stops (3 - 1) (by decide) iS (some ⟨cS, 0, none⟩) n n (Nat.le_refl _) (by omega) wl ei.lt ei.cell) KpB.t (fun W l o o' _ h ho _ => KpB.b W l o o' h ho) (Below.refl _ _) (fun _ => rfl)
          (fun pre W => ∃ M : List UInt8, M.length = n ∧ Takes w W sw b4 b5 a0 (npg n) ca (.slice none 0 0) 0 ∧ Room W sw (some ⟨cS, 0, none⟩) n n (bts M) ∧ (∀ x ∈ pre, ps[x.1]? = some (pageOf (partL M n x.1))) ∧ wl.heap.size ≤ W.heap.size)
          (fun c pre W => c = .ret ∧ takeN ps (n : Int) = (5, []) ∧ Takes w W sw b4 b5 a0 (npg n) ca (.slice none 0 0) 5)
          (ownFrom_side (fun pre W W' ⟨M, h1, h2, h3, h4, h5⟩ sd => ⟨M, h1, h2.side hwl sd, sd.room h3, h4, Nat.le_trans h5 sd.size⟩))
          (fun c => ownFrom_side (fun pre W W' ⟨h1, h2, h3⟩ sd => ⟨h1, h2, h3.side hwl sd⟩))
          ⟨_, List.length_replicate, t3, hr1, by simp, Nat.le_refl _⟩
          (fun x => { tmps := #[.slice a0 (npg n) ca, .int .i64 (n : Int), .pointer (some ⟨sw, 0, none⟩), undef, .pointer (some ⟨b4, 0, none⟩), .pointer (some ⟨b5, 0, none⟩), .slice (some ⟨cS, 0, none⟩) n n, .int .i64 (x.1 : Int), pval (some ⟨cS, 0, none⟩) n n x.1, .bool false,
            .int .i64 (n : Int), .bool false, .bool false, .int .i64 (n : Int), .bool false, .bool false, .bool false, .slice a0 (npg n) ca, .int .i64 (npg n : Int), .int .i64 (n : Int), .int .i64 (npg n : Int), .bool false, .bool false,
            .slice a0 (npg n) ca, .int .i64 (npg n : Int), .int .i64 (n : Int), .int .i64 (npg n : Int), .bool false, .int .i64 (n : Int), .slice (some ⟨cS, 0, none⟩) n n, .slice (some ⟨cS, 0, none⟩) n n,
            .func (.func 202) #[] #[.pointer (some ⟨iS, 0, none⟩)], .int .i64 (x.1 : Int), pval (some ⟨cS, 0, none⟩) n n x.1, undef, undef, undef, undef, undef, undef, undef, undef, undef, undef, undef, undef, undef, undef, undef], defers := [] }) ?assign ?body ?done ?stop
        case assign =>
          intro l x W K hK
          dsimp only [pencs]
          gi_wp2
          exact hK
        case body =>
          rintro l pre x W ⟨M, hM, t, hr, hp, hz⟩ hlt
          have hxp := plen_in x.2
          have hx240 : 240 * x.1 < n := by omega
          obtain ⟨p, hpx⟩ : ∃ p, ps[x.1]? = some p := ⟨_, List.getElem?_eq_getElem (by rw [hnp]; exact x.2)⟩
          obtain ⟨pb, po, pa, pc, rfl, pcell, ple, pmx, prd⟩ := h.at_ hpx
          have hcut : cut (some ⟨cS, 0, none⟩) n (240 * x.1) = some ⟨cS, 240 * x.1, none⟩ := by unfold cut; rw [if_neg (by omega)]; simp [Addr.add]; intro e; omega
          dsimp only [pval]
          rw [hcut]
          have hql : (bts (p.take (plen n x.1))).length = Nat.min p.length (plen n x.1) := by rw [bts_length, List.length_take, Nat.min_comm]
          have hqle : (bts (p.take (plen n x.1))).length ≤ plen n x.1 := by rw [hql]; exact Nat.min_le_right _ _
          have hq := (prd.keep t.g).take (plen n x.1)
          rw [bts_take] at hq
          have hth := hr.there (240 * x.1) (bts (p.take (plen n x.1))).length (by omega)
          have hs := hr.sets (bts (p.take (plen n x.1))) (240 * x.1) (by omega)
          rw [Nat.zero_add] at hth hs
          have hlaid : (bts M).take (240 * x.1) ++ (bts (p.take (plen n x.1)) ++ (bts M).drop (240 * x.1 + (bts (p.take (plen n x.1))).length)) = bts (laidP M n x.1 p) := by
            unfold laidP
            rw [bts_append, bts_append, bts_take, bts_drop, bts_length]
          rw [hlaid] at hs
          have g1 := Chg.setCells cS (bts (p.take (plen n x.1))) (240 * x.1) W
          have hcS := HCS.out
          have t1 := t.keep g1 (fun k hk => by simp at hk; omega)
          have c0 := t.cP.cell
          have c1 := t.g.cellv pcell (by simp)
          have HQL := mkHid hql
          have HTH := mkHid hth
          have dx : decide (x.1 < npg n) = true := decide_eq_true x.2
          have hx0 : (x.1 : Int) < (npg n : Int) := by have := x.2; omega
          have HTW := mkHid t
          have HRW := mkHid hr
          have HT1 := mkHid t1
          have HS1 := mkHid hs
          clear t hr t1 hs hql hth hlaid
          refine wpIn_block ?_
          refine wpIn_seq ?_
          refine region_up (by kernel_rfl) (fun ⟨_, _, h⟩ => h) ?_
          go_wp2_with (refine wpList_copy_k rfl (.tmp 34) (.tmp 38) 41 41 5 rfl Tryz.underlying41 oneB cS (240 * x.1) (plen n x.1) (n - 240 * x.1) pa p.length pc (bts (p.take (plen n x.1))) rfl rfl hq HQL.out HTH.out (bts_one _) ?_)
          try simp only [Act.put, List.setIfInBounds_toArray, List.set_cons_zero, List.set_cons_succ]
          generalize W.setCells cS (240 * x.1) (bts (p.take (plen n x.1))) = W1 at *
          have hMl := laid_lenK p hM x.2
          have t1d := HT1.out.keep (Chg.drew [] W1) (by simp)
          have gl := partL_len hMl x.2
          have g2 := partL_reads (x := x.1) (HS1.out.reads.keep (Chg.drew [] W1)) hMl (Nat.le_refl _)
          rw [hcut] at g2
          have cPg := page_1 _ _ (n - 240 * x.1) _ W1.drew g2 gl (plen_le n x.1)
          refine wpIn_seq ?_
          have c0d := t1d.cP.cell
          have c1d := t1d.g.cellv pcell (by simp)
          refine walks_up (fun u : World => u.cell? ⟨sw, 0, none⟩ = some (.slice (some ⟨pb, po, none⟩) (npg n) ca) ∧ u.cell? ⟨pb, po + x.1, none⟩ = some (.slice pa p.length pc)) 7 (by kernel_rfl) (by kernel_rfl) (fun ⟨_, _, h⟩ => h) rfl ?_
          have hS0 : (fun u : World => u.cell? ⟨sw, 0, none⟩ = some (.slice (some ⟨pb, po, none⟩) (npg n) ca) ∧ u.cell? ⟨pb, po + x.1, none⟩ = some (.slice pa p.length pc)) W1.drew := ⟨c0d, c1d⟩
          clear c0 c1 hq HQL HTH hqle hx240
          refine walks_take 0 (oi := { dst := some 40, op := _, type := _, pos := _, after := _, guard := none }) (v := ?_) rfl (by kernel_rfl) (fun _ _ _ h => h) (Or.inl ⟨by rfl, ?_⟩) (by assumption) ?_
          rotate_left
          · intro u hSu
            obtain ⟨s1, s2⟩ := hSu
            go_simp
            try with_reducible rfl
          try simp only [Act.put, List.setIfInBounds_toArray, List.set_cons_zero, List.set_cons_succ]
          refine walks_take 2 (oi := { dst := some 42, op := _, type := _, pos := _, after := _, guard := none }) (v := ?_) rfl (by kernel_rfl) (fun _ _ _ h => h) (Or.inl ⟨by rfl, ?_⟩) (by assumption) ?_
          rotate_left
          · intro u hSu
            obtain ⟨s1, s2⟩ := hSu
            go_simp
            try with_reducible rfl
          try simp only [Act.put, List.setIfInBounds_toArray, List.set_cons_zero, List.set_cons_succ]
          refine walks_take 3 (oi := { dst := some 43, op := _, type := _, pos := _, after := _, guard := none }) (v := ?_) rfl (by kernel_rfl) (fun _ _ _ h => h) (Or.inl ⟨by rfl, ?_⟩) (by assumption) ?_
          rotate_left
          · intro u hSu
            obtain ⟨s1, s2⟩ := hSu
            go_simp
            try with_reducible rfl
          try simp only [Act.put, List.setIfInBounds_toArray, List.set_cons_zero, List.set_cons_succ]
          refine walks_take 4 (oi := { dst := some 44, op := _, type := _, pos := _, after := _, guard := none }) (v := ?_) rfl (by kernel_rfl) (fun _ _ _ h => h) (Or.inl ⟨by rfl, ?_⟩) (by assumption) ?_
          rotate_left
          · intro u hSu
            obtain ⟨s1, s2⟩ := hSu
            go_simp
            try with_reducible rfl
          try simp only [Act.put, List.setIfInBounds_toArray, List.set_cons_zero, List.set_cons_succ]
          refine walks_take 5 (oi := { dst := some 45, op := _, type := _, pos := _, after := _, guard := none }) (v := ?_) rfl (by kernel_rfl) (fun _ _ _ h => h) (Or.inl ⟨by rfl, ?_⟩) (by assumption) ?_
          rotate_left
          · intro u hSu
            obtain ⟨s1, s2⟩ := hSu
            go_simp
            try with_reducible rfl
          try simp only [Act.put, List.setIfInBounds_toArray, List.set_cons_zero, List.set_cons_succ]
          refine walks_one 1 (o := { dst := some 41, op := _, type := _, pos := _, after := _, guard := none }) rfl (by decide) (by kernel_rfl) ?_
          intro K hK
          go_simp
          go_at_call 186
          refine cPg.mono ?_
          rintro e W2 ⟨b, rfl, hb, hr2, hg2⟩
          have t2 := t1d.keep hg2 (by simp)
          have c0e := t2.cP.cell
          have c1e := t2.g.cellv pcell (by simp)
          refine hK.out _ _ ⟨c0e, c1e⟩ ?_
          clear hK K hS0
          have hS1 : (fun u : World => u.cell? ⟨sw, 0, none⟩ = some (.slice (some ⟨pb, po, none⟩) (npg n) ca) ∧ u.cell? ⟨pb, po + x.1, none⟩ = some (.slice pa p.length pc)) W2 := ⟨c0e, c1e⟩
          try simp only [Act.put, List.setIfInBounds_toArray, List.set_cons_zero, List.set_cons_succ]
          refine walks_one 6 (o := { dst := some 46, op := _, type := _, pos := _, after := _, guard := none }) rfl (by decide) (by kernel_rfl) ?_
          intro K hK
          obtain ⟨d, hd⟩ : ∃ d, decide (pageOf (partL (laidP M n x.1 p) n x.1) = p) = d := ⟨_, rfl⟩
          have cE := equal_any _ 240 240 _ pa p.length pc p W2 hr2.reads (pageOf_len partL_le) (prd.keep t2.g) rfl
          rw [hd] at cE
          go_simp
          go_at_call 39
          refine cE.mono ?_
          rintro e w' ⟨rfl, rfl⟩
          refine hK.out _ _ ⟨c0e, c1e⟩ ?_
          clear hK K hS1 cE
          try simp only [Act.put, List.setIfInBounds_toArray, List.set_cons_zero, List.set_cons_succ]
          refine walks_last 7 (o := { dst := some 47, op := _, type := _, pos := _, after := _, guard := none }) rfl (by kernel_rfl) (by kernel_rfl) (by decide) ?_
          intro K hK
          go_simp
          refine hK.out _ _ ?_
          clear hK K
          try simp only [Act.put, List.setIfInBounds_toArray, List.set_cons_zero, List.set_cons_succ]
          simp only [Exit.then]
          have g12 : Chg [cS] W W2 := (g1.then (Chg.drew [] W1)).then hg2
          have hcells : ∀ k, k ∈ [cS] → ∀ o, W.heap[k]? = some o → o.isCells = true := fun k hk => by
            simp at hk
            subst hk
            exact HRW.out.cells k (by rw [fp_some _ _ _ (by omega)]; simp)
          have hiS := HIS.out
          have hb4 := t2.h4
          have hb5 := t2.h5
          have HG := mkHid g12
          have HT2 := mkHid t2
          have c4 := t2.c4.cell
          have c5 := t2.c5.cell
          have f4 := t2.c4.frozen
          have f5 := t2.c5.frozen
          have e45 : b4 ≠ b5 := by omega
          have e54 : b5 ≠ b4 := by omega
          have nic : iS ≠ cS := by omega
          have nb4 : b4 ≠ cS := by omega
          have nb5 : b5 ≠ cS := by omega
          have nib4 : iS ≠ b4 := by omega
          have nib5 : iS ≠ b5 := by omega
          clear t2 g12 g1 t1d cPg hb4 hb5 hiS hcS
          have hrW2 := (HS1.out.chg (Chg.drew [] W1) (by simp)).chg hg2 (by simp)
          cases d with
          | true =>
            have heq := of_decide_eq_true hd
            have hp240 : p.length = 240 := by rw [← heq]; exact pageOf_len partL_le
            have hpl : plen n x.1 ≤ p.length := by rw [hp240]; exact plen_le _ _
            gi_wp2
            refine ⟨HG.out.keepsFrom _ hcells, KpB.chg HG.out (by simpa using nic), laidP M n x.1 p, hMl, HT2.out, hrW2, fun y hy => ?_, Nat.le_trans hz HG.out.size⟩
            rcases List.mem_append.1 hy with hy | hy
            · by_cases hyx : y.1 = x.1
              · rw [hyx, heq]; exact hpx
              · rw [laid_other hM x.2 y.2 hpl hyx]; exact hp y hy
            · simp at hy
              subst hy
              rw [heq]; exact hpx
          | false =>
            have hne := of_decide_eq_false hd
            have htk : takeN ps (n : Int) = (5, []) := take_bad hnp hn x.2 hpx (fun h240 he => hne (by
              rw [laid_same hM x.2 (by rw [h240]; exact plen_le _ _)]
              exact he.symm))
            have tm := HT2.out.set (.slice none 0 0) 5
            have gg : Chg [b4, b5] W2 ((W2.setCell ⟨b4, 0, none⟩ (.slice none 0 0)).setCell ⟨b5, 0, none⟩ (.int .i64 5)) := (Chg.setCell W2 ⟨b4, 0, none⟩ _).trans (Chg.setCell _ ⟨b5, 0, none⟩ _) (by simp) (by simp)
            have g3 := HG.out.trans gg (U := [cS, b4, b5]) (by simp) (by simp)
            have HTM := mkHid tm
            clear tm
            gi_wp2
            refine ⟨g3.keepsFrom _ (fun k hk => ?_), rfl, htk, HTM.out⟩
            simp at hk
            rcases hk with rfl | rfl | rfl
            · exact hcells _ (by simp)
            · exact Boxed.cells HTW.out.c4
            · exact Boxed.cells HTW.out.c5
        case done =>
          rintro D xs W hD hall ⟨M, hM, t, hr, hp, hz⟩ hK
          have c4 := t.c4.cell
          have c5 := t.c5.cell
          have f4 := t.c4.frozen
          have f5 := t.c5.frozen
          have hput : IsPut M n ps := isPut_of hM hnp (fun x hx => by
            have hm : x ∈ xs.map (·.1) := by rw [hall]; exact List.mem_range.2 hx
            obtain ⟨y, hy, he⟩ := List.mem_map.1 hm
            rw [← he]
            exact hp y hy)
          have htk := put_take hM hn hput
          have HT := mkHid t
          clear t
          gi_wp2
          have t2 := HT.out.set (.slice (some ⟨cS, 0, none⟩) n n) 0
          have gg : Chg [b4, b5] W ((W.setCell ⟨b4, 0, none⟩ (.slice (some ⟨cS, 0, none⟩) n n)).setCell ⟨b5, 0, none⟩ (.int .i64 0)) := (Chg.setCell W ⟨b4, 0, none⟩ _).trans (Chg.setCell _ ⟨b5, 0, none⟩ _) (by simp) (by simp)
          have hr2 := hr.chg gg (fun k hk hm => by
            have e1 := HT.out.h4
            have e2 := HT.out.h5
            have e3 := HCS.out
            by_cases h0 : n = 0
            · subst h0; simp [fp_zero] at hk
            · rw [fp_some _ _ _ (by omega)] at hk
              simp at hk hm
              omega)
          have hK' := (gg.keepsFrom 0 (fun k hk => by simp at hk; rcases hk with rfl | rfl; exact Boxed.cells HT.out.c4; exact Boxed.cells HT.out.c5)).same D _ (Nat.zero_le _) hK rfl
          have sd := Side.putObj (B := wl.heap.size) (.deferred none) hD hK' rfl
          have t4 := t2.side hwl sd
          have m4 := t4.c4.cell
          have m5 := t4.c5.cell
          refine ⟨by simp, .inl ⟨_, _, rfl, run_takeDeferred hK', ?_⟩⟩
          refine ⟨.tuple #[.slice (some ⟨cS, 0, none⟩) n n, .int .i64 0], ?_, ?_, t4.g⟩
          · simp [results, Tryz.f169, go_sem, m4, m5]
          · rw [htk]
            exact ⟨some ⟨cS, 0, none⟩, n, by rw [hM], by rw [hM]; exact sd.room hr2⟩
        case stop =>
          rintro D c pre W hD _ ⟨rfl, htk, t⟩ hK
          gi_wp2
          have sd := Side.putObj (B := wl.heap.size) (.deferred none) hD hK rfl
          have t4 := t.side hwl sd
          have m4 := t4.c4.cell
          have m5 := t4.c5.cell
          refine ⟨by simp, .inl ⟨_, _, rfl, run_takeDeferred hK, ?_⟩⟩
          refine ⟨.tuple #[.slice none 0 0, .int .i64 5], ?_, by rw [htk]; exact TakeRes.none _ _ _, t4.g⟩
          simp [results, Tryz.f169, go_sem, m4, m5]
end Go.Proofs.YtoeijomelabbfaaGreatDoor
