/- Texts Nq, Nr, Ns, Nu of the library, joined. -/
import Derived.Test.YtdgkbicelnnfpaaGreatDoorM01
import Derived.Test.YtdgkbicelnnfpaaGreatDoorM16
/- Package node: taken. -/
namespace Go.Proofs.YtdgkbicelnnfpaaGreatDoor
open Go.RowKit
set_option linter.unusedVariables false
set_option linter.unusedSimpArgs false
attribute [local go_sem ↓] Go.wp_at_zero Go.wp_at_succ

theorem step_append_2 {P : Program} {ops : Array Oper} {o : Oper} {a : Act} {w : World} {K : Act → World → Prop} {Q : Exit → Act → World → Prop} {E : Prop}
    (hg : o.guard = none) (s x : Operand) (t : TypeId) (ho : o.op = .call { callee := .builtin .append, args := #[s, x], argTypes := #[t, t] })
    (e : TypeId) (bytes : Nat) (helt : Elt P t e bytes)
    (B : Nat) (ao : Option Addr) (n c : Nat) (xs : List Value) (hs : a.eval s = .slice ao n c) (h : Room w B ao n c xs) (hB : B ≤ w.heap.size)
    (u : Value) (cx : Nat) (hxe : a.eval x = .slice (some ⟨w.heap.size, 0, none⟩) 1 cx) (hone : u.oneCell' = true)
    (h63 : n + 1 ≤ maxLen) (hbytes : (n + 1) * bytes ≤ 140737488355328)
    (hK : ∀ ao' c' w', Room w' B ao' (n + 1) c' (xs ++ [u]) → Chg (fp ao c) w w' → (fp ao' c' = fp ao c ∨ fp ao' c' = [w.heap.size + 1]) → K (a.put o.dst (.slice ao' (n + 1) c')) w') :
    if Region.wanted o (yielded ops a.tmps) = true then Oper.wp P o a (w.alloc (.cells #[u] e)) K Q else E := by
  have hw : Region.wanted o (yielded ops a.tmps) = true := by simp [Region.wanted, hg]
  rw [if_pos hw]
  obtain ⟨ao', c', w', hr, h2, h3, h4⟩ := run_append_k (P := P) (w.alloc (.cells #[u] e)) t o.type e bytes helt B ao n c xs (h.chg (Chg.alloc [] w _) (by simp)) (by simp; omega) (some ⟨w.heap.size, 0, none⟩) 1 cx [u] (Reads.new w #[u] e) rfl (by simpa using hone) h63 hbytes
  unfold Oper.wp execOp
  simp only [ho, resolve, invoke, builtin, Sem.run_bind, Sem.run_pure, Result.andThen_ok, List.map_toArray, List.map_cons, List.map_nil, hs, hxe, hr]
  exact hK _ _ _ h2 ((Chg.alloc [] w _).trans h3 (by simp) (fun k h _ => h)) (by simpa using h4)
theorem NBlk.keepS {w w' : World} {R nb B : Nat} {lf : Bool} {ka : Option Addr} {kc : Nat} {va : Option Addr} {vc : Nat} {K V : List Nat} {S : List Nat} (h : NBlk w R nb B lf ka kc va vc K V) (g : Chg S w w') (h1 : nb ∉ S) (h2 : R ∉ S) (h3 : ∀ k, k ∈ S → k < B) : NBlk w' R nb B lf ka kc va vc K V :=
  ⟨g.cellv h.c0 h1, g.cellv h.c1 h1, g.cellv h.c2 h1, (g.frozen (p := ⟨nb, 1, none⟩) (block_lt_of_cell h.c1) h1).trans h.f1, (g.frozen (p := ⟨nb, 2, none⟩) (block_lt_of_cell h.c2) h1).trans h.f2, h.rk.chg g (fun k hk hm => by have := (h.rk.lt k hk).1; have := h3 k hm; omega), h.rv.chg g (fun k hk hm => by have := (h.rv.lt k hk).1; have := h3 k hm; omega), h.dj, there_chg h.th g h2, h.hR, h.hn, h.ne, Nat.le_trans h.hB g.size⟩
theorem start_there (w : World) : (w.alloc (.cells #[.bool false, .slice none 0 0, .slice none 0 0] 53)).there w.heap.size 0 3 := fun j hj => by
  refine ⟨?_, frozen_of_row _ _ _ _ _ (heap_alloc_last w _)⟩
  rw [cell_of_row _ _ _ _ _ _ (heap_alloc_last w _)]
  match j, hj with
  | 0, _ => rfl
  | 1, _ => rfl
  | 2, _ => rfl
theorem start_node2 (w : World) (lf : Bool) (R : Nat) (hR : w.heap.size = R + 1) (th : w.there R 0 3) : NBlk (w.alloc (.cells #[.bool lf, .slice none 0 0, .slice none 0 0] 53)) R (R + 1) (R + 2) lf none 0 none 0 [] [] := by
  have hl := heap_alloc_last w (.cells #[.bool lf, .slice none 0 0, .slice none 0 0] 53)
  rw [hR] at hl
  have hc := fun j => cell_of_row _ (R + 1) j _ _ _ hl
  have hf := fun j => frozen_of_row _ (R + 1) j _ _ hl
  refine ⟨by rw [hc]; rfl, by rw [hc]; rfl, by rw [hc]; rfl, hf 1, hf 2, Room.nil _ _ _, Room.nil _ _ _, fun q hq => by simp [fp_zero] at hq, there_chg th (Chg.alloc [] _ _) (by simp), by omega, by omega, by omega, by simp; omega⟩
set_option maxRecDepth 20000 in
set_option maxHeartbeats 1000000 in
theorem taken_any (w : World) (rb : Nat) (ao : Option Addr) (n c : Nat) (l : List UInt8) (h : Rdr w rb ao n c l 0) :
    Calls Tryz.prog 97 #[.func (.func 98) #[.pointer (some ⟨rb, 0, none⟩)] #[]] w fun e w' => ∃ (lf : Bool) (K V : List Nat) (ka va : Option Addr) (kc vc : Nat) (ao' : Option Addr) (n' c' : Nat) (l' : List UInt8) (er : Int),
      e = .returned (.agg #[.bool lf, .slice ka K.length kc, .slice va V.length vc]) ∧ Room w' w.heap.size ka K.length kc (uvs K) ∧ Room w' w.heap.size va V.length vc (uvs V) ∧ (∀ q, q ∈ fp ka kc → q ∉ fp va vc) ∧ Rdr w' rb ao' n' c' l' er ∧ Chg [rb] w w' ∧
      ((er = 0 → takeN l = if l'.all (· == 0) then (0, lf, K, V) else (5, false, [], [])) ∧ (er ≠ 0 → takeN l = (er, false, [], []))) := by
  have hrb : rb < w.heap.size := block_lt_of_cell h.c0
  have hold : 0 < n → ∀ k, k ∈ blk ao → k < w.heap.size := fun hp => h.rd.lt (by rw [bts_length, h.ln]; exact hp)
  have g0 := Chg.alloc [] w (.cells #[.bool false, .slice none 0 0, .slice none 0 0] 53)
  have t0 := start_there w
  have h0 := h.keep g0 (by simp) (by simp)
  have hz0 : (w.alloc (.cells #[.bool false, .slice none 0 0, .slice none 0 0] 53)).heap.size = w.heap.size + 1 := by simp
  have HZ := mkHid hz0
  have HO := mkHid hold
  clear hz0 hold h
  go_enter Tryz.func97, Tryz.ntmps97
  go_wp2_with fail
  generalize w.alloc (.cells #[.bool false, .slice none 0 0, .slice none 0 0] 53) = w1 at *
  obtain ⟨x, la, ea, ha⟩ : ∃ x la ea, numN knownB 1 l 0 = (x, la, ea) := ⟨_, _, _, rfl⟩
  have cN := number_known h0 1 (by omega) (by omega)
  rw [ha] at cN
  have HA := mkHid ha
  clear ha
  go_at_call 98
  refine cN.mono ?_
  rintro e w2 ⟨ao2, n2, c2, rfl, h2, g2, hz2, hb2, hn2, hk2⟩
  dsimp only at h2 hb2
  have g02 := g0.trans g2 (T := [rb]) (U := [rb]) (by simp) (fun _ h _ => h)
  have hz2' : w2.heap.size = w.heap.size + 1 := by rw [hz2, HZ.out]
  have t2 := there_chg t0 g2 (by simp; omega)
  have kk := kind_true w2
  obtain ⟨lf, hlf⟩ : ∃ lf, ((x : Int) == 1) = lf := ⟨_, rfl⟩
  have hlf2 : decide (x = 1) = lf := by rw [← hlf, Bool.eq_iff_iff]; simp; omega
  have HL := mkHid hlf2
  have h2' := h2.keep (Chg.alloc [] w2 (.cells #[.bool lf, .slice none 0 0, .slice none 0 0] 53)) (by simp) (by simp)
  have N0 := start_node2 w2 lf w.heap.size hz2' t2
  have G3 := g02.trans (Chg.alloc [] w2 (.cells #[.bool lf, .slice none 0 0, .slice none 0 0] 53)) (T := []) (U := [rb]) (fun _ h _ => h) (by simp)
  have HK := mkHid (And.intro hn2 hk2)
  clear hn2 hk2 hlf2 h2 t2 t0 h0 g0 g2 g02 hz2 hb2 cN
  have HZ2 := mkHid hz2'
  clear hz2'
  go_wp2_with (first | (go_at_call 87; refine kk.mono ?_; rintro e w' ⟨rfl, rfl⟩))
  clear hlf kk
  obtain ⟨R, hRR⟩ : ∃ R, w.heap.size = R := ⟨_, rfl⟩
  obtain ⟨nb, hnb⟩ : ∃ b, w2.heap.size = b := ⟨_, rfl⟩
  obtain ⟨B, hBB⟩ : ∃ b, R + 2 = b := ⟨_, rfl⟩
  have hRn : R + 1 = nb := by rw [← hnb, HZ2.out, hRR]
  rw [hRR, hRn, hBB] at N0
  rw [hRR, hnb]
  rw [hRR] at hrb
  have HO2 := mkHid (show 0 < n → ∀ k, k ∈ blk ao → k < R from by have := HO.out; rwa [hRR] at this)
  clear HO
  have HO := HO2
  clear HO2
  have HB := mkHid (show R + 1 = nb ∧ R + 2 = B ∧ w.heap.size = R ∧ rb < R from ⟨hRn, hBB, hRR, hrb⟩)
  clear hRR hRn hnb hBB HZ2 HZ
  generalize w2.alloc (.cells #[.bool lf, .slice none 0 0, .slice none 0 0] 53) = w3 at *
  obtain ⟨y, lb, eb, hb⟩ : ∃ y lb eb, numN fewB 1 la ea = (y, lb, eb) := ⟨_, _, _, rfl⟩
  have cF := number_few h2' 1 (by omega) (by omega)
  rw [hb] at cF
  have hy8 : y ≤ 8 ∧ (eb ≠ 0 → y = 0) := by
    by_cases h0 : eb = 0
    · exact ⟨(marks_yes HA.out hb h0).2, fun h => absurd h0 h⟩
    · have := (marks_no HA.out hb h0).2
      exact ⟨by dsimp only at this; omega, fun _ => this⟩
  obtain ⟨hy, hy0⟩ := hy8
  have HY := mkHid (And.intro hb hy0)
  clear hb hy0
  refine cF.mono ?_
  rintro e w4 ⟨a4, n4, c4, rfl, h4, g4, hz4, hb4, hn4, hk4⟩
  dsimp only at h4 hb4
  have N4 := N0.keepS g4 (by simp; have := HB.out; omega) (by simp; have := HB.out; omega) (by simp; have := HB.out; omega)
  have G4 := G3.trans g4 (fun _ h _ => h) (fun _ h _ => h) (U := [rb])
  have hn4' : n4 ≤ n := Nat.le_trans hn4 HK.out.1
  have hk4' : blk a4 = blk ao := hk4.trans HK.out.2
  clear hn4 hk4 HK g4 G3 N0 h2' hz4 cF
  go_wp2_with fail
  go_loopw [13] (fun iv wr => ∃ (k : Nat) (K V : List Nat) (ka va : Option Addr) (kc vc : Nat) (a3 : Option Addr) (n3 c3 : Nat) (l3 : List UInt8) (e3 : Int), iv = .int .u64 k ∧ k ≤ y ∧ K.length = k ∧ V.length = k ∧ NBlk wr R nb B lf ka kc va vc K V ∧ Rdr wr rb a3 n3 c3 l3 e3 ∧ n3 ≤ n ∧ blk a3 = blk ao ∧ (eb = 0 → Stands (y - k) K V l3 e3 (takeK y [] [] lb)) ∧ (eb ≠ 0 → e3 = eb) ∧ Chg [rb] w wr) (fun iv _ => y - (Go.RowKit.intOf iv).toNat)
  case atStart => exact ⟨0, [], [], none, none, 0, 0, a4, n4, c4, lb, eb, rfl, Nat.zero_le _, rfl, rfl, N4, h4, hn4', hk4', fun he => ⟨fun _ => by rw [Nat.sub_zero], fun hne => absurd he hne⟩, fun _ => rfl, G4⟩
  case round =>
    clear N4 h4 hn4' hk4' G4
    obtain ⟨k, K, V, ka, va, kc, vc, a3, n3, c3, l3, e3, rfl, hky, hKl, hVl, hN, hR3, hn3, hb3, hS, hE, hg⟩ := hrel
    have HLV := mkHid (show K.length ≤ 8 ∧ V.length ≤ 8 ∧ K.length = k ∧ V.length = k from by omega)
    have hK1 : K.length + 1 ≤ maxLen ∧ (K.length + 1) * 8 ≤ 140737488355328 := by unfold maxLen; omega
    have HN3 := mkHid (And.intro hn3 hb3)
    have HE := mkHid hE
    clear hKl hVl hn3 hb3 hE
    by_cases hlt : k < y
    · have hd1 : decide (k < y) = true := decide_eq_true hlt
      have hd2 : decide ((k : Int) < (y : Int)) = true := decide_eq_true (by omega)
      have he0 : eb = 0 := Decidable.byContradiction fun h => by have := HY.out.2 h; omega
      have hS1 := hS he0
      have HE0 := mkHid he0
      have hyk : y - k = (y - (k + 1)) + 1 := by omega
      rw [hyk] at hS1
      have HS := mkHid hS1
      clear hS he0 hS1 hyk
      obtain ⟨x1, l4, e4, hx1⟩ : ∃ x l e, numN (fun x => !lowK K x) 8 l3 e3 = (x, l, e) := ⟨_, _, _, rfl⟩
      have cA := number_above (hR3.keep (Chg.drew [] wr) (by simp) (by simp)) 8 (by omega) (by omega) (hN.keepS (Chg.drew [] wr) (by simp) (by simp) (by simp)).c1 (hN.rk.reads.keep (Chg.drew [] wr)) rfl hN.rk.le hN.rk.max
      rw [hx1] at cA
      have HX1 := mkHid hx1
      have ND := mkHid (hN.keepS (Chg.drew [] wr) (by simp) (by simp) (by simp))
      clear hx1 hR3
      go_wp2_with fail
      refine walks_begin (fun u => u.cell? ⟨nb, 1, none⟩ = some (.slice ka K.length kc)) 8 (by kernel_rfl) (by kernel_rfl) ?_
      have hS0 : (fun u : World => u.cell? ⟨nb, 1, none⟩ = some (.slice ka K.length kc)) wr.drew := (hN.keepS (Chg.drew [] wr) (by simp) (by simp) (by simp)).c1
      refine walks_take 0 (oi := { dst := some 15, op := _, type := _, pos := _, after := _, guard := none }) (v := ?_) rfl (by kernel_rfl) (fun _ _ _ h => h) (Or.inl ⟨by rfl, ?_⟩) (by assumption) ?_
      rotate_left
      · intro u hSu
        try dsimp only at hSu
        go_simp
        try with_reducible rfl
      try simp only [Act.put, List.setIfInBounds_toArray, List.set_cons_zero, List.set_cons_succ]
      refine walks_take 1 (oi := { dst := some 16, op := _, type := _, pos := _, after := _, guard := none }) (v := ?_) rfl (by kernel_rfl) (fun _ _ _ h => h) (Or.inl ⟨by rfl, ?_⟩) (by assumption) ?_
      rotate_left
      · intro u hSu
        try dsimp only at hSu
        go_simp
        try with_reducible rfl
      try simp only [Act.put, List.setIfInBounds_toArray, List.set_cons_zero, List.set_cons_succ]
      refine walks_take 2 (oi := { dst := some 17, op := _, type := _, pos := _, after := _, guard := none }) (v := ?_) rfl (by kernel_rfl) (fun _ _ _ h => h) (Or.inl ⟨by rfl, ?_⟩) (by assumption) ?_
      rotate_left
      · intro u hSu
        try dsimp only at hSu
        go_simp
        try with_reducible rfl
      try simp only [Act.put, List.setIfInBounds_toArray, List.set_cons_zero, List.set_cons_succ]
      refine walks_take 3 (oi := { dst := some 18, op := _, type := _, pos := _, after := _, guard := none }) (v := ?_) rfl (by kernel_rfl) (fun _ _ _ h => h) (Or.inl ⟨by rfl, ?_⟩) (by assumption) ?_
      rotate_left
      · intro u hSu
        try dsimp only at hSu
        go_simp
        try with_reducible rfl
      try simp only [Act.put, List.setIfInBounds_toArray, List.set_cons_zero, List.set_cons_succ]
      refine walks_one 4 (o := { dst := some 19, op := _, type := _, pos := _, after := _, guard := none }) rfl (by decide) (by kernel_rfl) ?_
      intro K9 hK9
      go_simp
      go_at_call 98
      refine cA.mono ?_
      rintro e w4 ⟨a4, n4, c4, rfl, h4, g4, hz4, hx4, hn4, hk4⟩
      dsimp only at h4 hx4
      clear hz4
      have N4 := ND.out.keepS g4 (by simp; have := HB.out; omega) (by simp; have := HB.out; omega) (by simp; have := HB.out; omega)
      have k4 := N4.c1
      refine hK9.out _ _ k4 ?_
      clear hK9 K9 hS0
      try simp only [Act.put, List.setIfInBounds_toArray, List.set_cons_zero, List.set_cons_succ]
      refine walks_one 5 (o := { dst := some 20, op := _, type := _, pos := _, after := _, guard := none }) rfl (by decide) (by kernel_rfl) ?_
      intro K9 hK9
      go_simp
      refine hK9.out _ _ ((Chg.alloc [] w4 _).cellv k4 (by simp)) ?_
      clear hK9 K9
      try simp only [Act.put, List.setIfInBounds_toArray, List.set_cons_zero, List.set_cons_succ]
      refine walks_one 6 (o := { dst := some 21, op := _, type := _, pos := _, after := _, guard := none }) rfl (by decide) (by kernel_rfl) ?_
      intro K9 hK9
      have hnf : nb ∉ fp ka kc := fun hm => by have := (N4.rk.lt nb hm).1; have := N4.hn; omega
      refine step_append_2 rfl (.tmp 16) (.tmp 20) 35 rfl 34 8 eltU B ka K.length kc (uvs K) rfl N4.rk N4.hB (.int .u64 (x1 : Int)) 1 rfl rfl hK1.1 hK1.2 ?_
      intro a5 c5 w5 r5 g5 hf5
      have k5 := g5.cellv k4 hnf
      have f5 := (g5.frozen (p := ⟨nb, 1, none⟩) (block_lt_of_cell k4) hnf).trans N4.f1
      refine hK9.out _ _ k5 ?_
      clear hK9 K9
      try simp only [Act.put, List.setIfInBounds_toArray, List.set_cons_zero, List.set_cons_succ]
      have hS3 : (fun u : World => u.cell? ⟨nb, 1, none⟩ = some (.slice ka K.length kc)) w5 := k5
      refine walks_take 7 (oi := { dst := some 22, op := _, type := _, pos := _, after := _, guard := none }) (v := ?_) rfl (by kernel_rfl) (fun _ _ _ h => h) (Or.inl ⟨by rfl, ?_⟩) (by assumption) ?_
      rotate_left
      · intro u hSu
        try dsimp only at hSu
        go_simp
        try with_reducible rfl
      try simp only [Act.put, List.setIfInBounds_toArray, List.set_cons_zero, List.set_cons_succ]
      refine walks_last 8 (o := { dst := none, op := _, type := _, pos := _, after := _, guard := none }) rfl (by kernel_rfl) (by kernel_rfl) (by decide) ?_
      intro K9 hK9
      go_simp
      refine hK9.out _ _ ?_
      clear hK9 K9 hS3
      have N5 := N4.key r5 g5 (hf5.imp id (fun e => ⟨_, Nat.le_succ _, e⟩))
      have eK : (K ++ [x1]).length = K.length + 1 := by simp
      have Q5 : Chg (fp ka kc ++ [nb]) w4 (w5.setCell ⟨nb, 1, none⟩ (.slice a5 (K.length + 1) c5)) := g5.trans (Chg.setCell w5 ⟨nb, 1, none⟩ _) (fun q hq _ => List.mem_append_left _ hq) (fun q hq _ => List.mem_append_right _ hq)
      have h5 := h4.keep Q5 (fun hm => by
        rcases List.mem_append.1 hm with hm | hm
        · have := (N4.rk.lt rb hm).1; have := HB.out; omega
        · simp at hm; have := HB.out; omega) (fun hp q hq hm => by
        have hq0 := HO.out (by have := HN3.out.1; omega) q (by rw [← HN3.out.2, ← hk4]; exact hq)
        rcases List.mem_append.1 hm with hm | hm
        · have := (N4.rk.lt q hm).1; have := HB.out; omega
        · simp at hm; have := HB.out; omega)
      have G5 : Chg [rb] w (w5.setCell ⟨nb, 1, none⟩ (.slice a5 (K.length + 1) c5)) := (hg.trans ((Chg.drew [] wr).trans g4 (T := [rb]) (U := [rb]) (by simp) (fun _ h _ => h)) (fun _ h _ => h) (fun _ h _ => h)).trans Q5 (fun _ h _ => h) (fun q hq hlt => by
        rcases List.mem_append.1 hq with hm | hm
        · have := (N4.rk.lt q hm).1; have := HB.out; omega
        · simp at hm; have := HB.out; omega)
      have HN5 := mkHid (show n4 ≤ n ∧ blk a4 = blk ao from ⟨Nat.le_trans hn4 HN3.out.1, hk4.trans HN3.out.2⟩)
      clear h4 hx4 N4 k4 k5 f5 r5 g5 hf5 Q5 hg g4 hn4 hk4 hnf cA hN ND
      generalize w5.setCell ⟨nb, 1, none⟩ (.slice a5 (K.length + 1) c5) = w6 at *
      have hV1 : V.length + 1 ≤ maxLen ∧ (V.length + 1) * 8 ≤ 140737488355328 := by unfold maxLen; have := HLV.out; omega
      have cB := number_points (h5.keep (Chg.drew [] w6) (by simp) (by simp)) 8 (by omega) (by omega)
      obtain ⟨x2, l7, e7, hx2⟩ : ∃ x l e, numN pointsB 8 l4 e4 = (x, l, e) := ⟨_, _, _, rfl⟩
      rw [hx2] at cB
      have HX2 := mkHid hx2
      clear hx2
      have ND6 := mkHid (N5.keepS (Chg.drew [] w6) (by simp) (by simp) (by simp))
      go_wp2_with fail
      refine walks_begin (fun u => u.cell? ⟨nb, 2, none⟩ = some (.slice va V.length vc)) 7 (by kernel_rfl) (by kernel_rfl) ?_
      have hS0 : (fun u : World => u.cell? ⟨nb, 2, none⟩ = some (.slice va V.length vc)) w6.drew := (N5.keepS (Chg.drew [] w6) (by simp) (by simp) (by simp)).c2
      refine walks_take 0 (oi := { dst := some 23, op := _, type := _, pos := _, after := _, guard := none }) (v := ?_) rfl (by kernel_rfl) (fun _ _ _ h => h) (Or.inl ⟨by rfl, ?_⟩) (by assumption) ?_
      rotate_left
      · intro u hSu
        try dsimp only at hSu
        go_simp
        try with_reducible rfl
      try simp only [Act.put, List.setIfInBounds_toArray, List.set_cons_zero, List.set_cons_succ]
      refine walks_take 1 (oi := { dst := some 24, op := _, type := _, pos := _, after := _, guard := none }) (v := ?_) rfl (by kernel_rfl) (fun _ _ _ h => h) (Or.inl ⟨by rfl, ?_⟩) (by assumption) ?_
      rotate_left
      · intro u hSu
        try dsimp only at hSu
        go_simp
        try with_reducible rfl
      try simp only [Act.put, List.setIfInBounds_toArray, List.set_cons_zero, List.set_cons_succ]
      refine walks_take 2 (oi := { dst := some 25, op := _, type := _, pos := _, after := _, guard := none }) (v := ?_) rfl (by kernel_rfl) (fun _ _ _ h => h) (Or.inl ⟨by rfl, ?_⟩) (by assumption) ?_
      rotate_left
      · intro u hSu
        try dsimp only at hSu
        go_simp
        try with_reducible rfl
      try simp only [Act.put, List.setIfInBounds_toArray, List.set_cons_zero, List.set_cons_succ]
      refine walks_one 3 (o := { dst := some 26, op := _, type := _, pos := _, after := _, guard := none }) rfl (by decide) (by kernel_rfl) ?_
      intro K9 hK9
      go_simp
      go_at_call 98
      refine cB.mono ?_
      rintro e w7 ⟨a7, n7, c7, rfl, h7, g7, hz7, hx7, hn7, hk7⟩
      dsimp only at h7 hx7
      clear hz7
      have N7 := ND6.out.keepS g7 (by simp; have := HB.out; omega) (by simp; have := HB.out; omega) (by simp; have := HB.out; omega)
      have k7 := N7.c2
      refine hK9.out _ _ k7 ?_
      clear hK9 K9 hS0
      try simp only [Act.put, List.setIfInBounds_toArray, List.set_cons_zero, List.set_cons_succ]
      refine walks_one 4 (o := { dst := some 27, op := _, type := _, pos := _, after := _, guard := none }) rfl (by decide) (by kernel_rfl) ?_
      intro K9 hK9
      go_simp
      refine hK9.out _ _ ((Chg.alloc [] w7 _).cellv k7 (by simp)) ?_
      clear hK9 K9
      try simp only [Act.put, List.setIfInBounds_toArray, List.set_cons_zero, List.set_cons_succ]
      refine walks_one 5 (o := { dst := some 28, op := _, type := _, pos := _, after := _, guard := none }) rfl (by decide) (by kernel_rfl) ?_
      intro K9 hK9
      have hnf : nb ∉ fp va vc := fun hm => by have := (N7.rv.lt nb hm).1; have := N7.hn; omega
      refine step_append_2 rfl (.tmp 24) (.tmp 27) 35 rfl 34 8 eltU B va V.length vc (uvs V) rfl N7.rv N7.hB (.int .u64 (x2 : Int)) 1 rfl rfl hV1.1 hV1.2 ?_
      intro a8 c8 w8 r8 g8 hf8
      have k8 := g8.cellv k7 hnf
      have f8 := (g8.frozen (p := ⟨nb, 2, none⟩) (block_lt_of_cell k7) hnf).trans N7.f2
      refine hK9.out _ _ k8 ?_
      clear hK9 K9
      try simp only [Act.put, List.setIfInBounds_toArray, List.set_cons_zero, List.set_cons_succ]
      have hS3 : (fun u : World => u.cell? ⟨nb, 2, none⟩ = some (.slice va V.length vc)) w8 := k8
      refine walks_take 6 (oi := { dst := some 29, op := _, type := _, pos := _, after := _, guard := none }) (v := ?_) rfl (by kernel_rfl) (fun _ _ _ h => h) (Or.inl ⟨by rfl, ?_⟩) (by assumption) ?_
      rotate_left
      · intro u hSu
        try dsimp only at hSu
        go_simp
        try with_reducible rfl
      try simp only [Act.put, List.setIfInBounds_toArray, List.set_cons_zero, List.set_cons_succ]
      refine walks_last 7 (o := { dst := none, op := _, type := _, pos := _, after := _, guard := none }) rfl (by kernel_rfl) (by kernel_rfl) (by decide) ?_
      intro K9 hK9
      go_simp
      refine hK9.out _ _ ?_
      clear hK9 K9 hS3
      have N8 := N7.value r8 g8 (hf8.imp id (fun e => ⟨_, Nat.le_succ _, e⟩))
      have Q8 : Chg (fp va vc ++ [nb]) w7 (w8.setCell ⟨nb, 2, none⟩ (.slice a8 (V.length + 1) c8)) := g8.trans (Chg.setCell w8 ⟨nb, 2, none⟩ _) (fun q hq _ => List.mem_append_left _ hq) (fun q hq _ => List.mem_append_right _ hq)
      have h8 := h7.keep Q8 (fun hm => by
        rcases List.mem_append.1 hm with hm | hm
        · have := (N7.rv.lt rb hm).1; have := HB.out; omega
        · simp at hm; have := HB.out; omega) (fun hp q hq hm => by
        have hq0 := HO.out (by have := HN5.out.1; omega) q (by rw [← HN5.out.2, ← hk7]; exact hq)
        rcases List.mem_append.1 hm with hm | hm
        · have := (N7.rv.lt q hm).1; have := HB.out; omega
        · simp at hm; have := HB.out; omega)
      have G8 : Chg [rb] w (w8.setCell ⟨nb, 2, none⟩ (.slice a8 (V.length + 1) c8)) := (G5.trans ((Chg.drew [] w6).trans g7 (T := [rb]) (U := [rb]) (by simp) (fun _ h _ => h)) (fun _ h _ => h) (fun _ h _ => h)).trans Q8 (fun _ h _ => h) (fun q hq hlt => by
        rcases List.mem_append.1 hq with hm | hm
        · have := (N7.rv.lt q hm).1; have := HB.out; omega
        · simp at hm; have := HB.out; omega)
      have HN8 := mkHid (show n7 ≤ n ∧ blk a7 = blk ao from ⟨Nat.le_trans hn7 HN5.out.1, hk7.trans HN5.out.2⟩)
      clear h7 hx7 N7 k7 k8 f8 r8 g8 hf8 Q8 g7 hn7 hk7 hnf cB N5 ND6 G5 h5
      generalize w8.setCell ⟨nb, 2, none⟩ (.slice a8 (V.length + 1) c8) = w9 at *
      have hst := HS.out.step HX1.out HX2.out
      have HST := mkHid hst
      clear hst
      go_wp2_with fail
      exact ⟨⟨k + 1, K ++ [x1], V ++ [x2], a5, a8, c5, c8, a7, n7, c7, l7, e7, by first | rfl | go_num, by omega, by have := HLV.out; simp; omega, by have := HLV.out; simp; omega, N8, h8, HN8.out.1, HN8.out.2, fun _ => HST.out, fun hne => absurd HE0.out hne, G8⟩, by simp [Go.RowKit.intOf]; omega⟩
    · have hke : k = y := by omega
      subst hke
      have hd1 : decide (k < k) = false := by simp
      rw [Nat.sub_self] at hS
      have HSS := mkHid hS
      clear hS
      have c0 := hN.c0
      have c1 := hN.c1
      have c2 := hN.c2
      obtain ⟨v0, r0⟩ := Option.isSome_iff_exists.1 (hN.th 0 (by decide)).1
      obtain ⟨v1, r1⟩ := Option.isSome_iff_exists.1 (hN.th 1 (by decide)).1
      obtain ⟨v2, r2⟩ := Option.isSome_iff_exists.1 (hN.th 2 (by decide)).1
      have q0 := (hN.th 0 (by decide)).2
      have q1 := (hN.th 1 (by decide)).2
      have q2 := (hN.th 2 (by decide)).2
      simp only [Nat.zero_add] at r0 r1 r2 q0 q1 q2
      have HN := mkHid hN
      clear hN
      go_wp2_with fail
      have gR : Chg [R] wr (((wr.setCell ⟨R, 0, none⟩ (.bool lf)).setCell ⟨R, 1, none⟩ (.slice ka K.length kc)).setCell ⟨R, 2, none⟩ (.slice va V.length vc)) := ((Chg.setCell wr ⟨R, 0, none⟩ _).trans (Chg.setCell _ ⟨R, 1, none⟩ _) (fun _ h _ => h) (fun _ h _ => h)).trans (Chg.setCell _ ⟨R, 2, none⟩ _) (fun _ h _ => h) (fun _ h _ => h)
      have hBw : w.heap.size ≤ B := by have := HB.out; omega
      have d1 : ∀ q, q ∈ fp ka kc → q ∉ [R] := fun q hq hm => by have := (HN.out.rk.lt q hq).1; have := HB.out; simp at hm; omega
      have d2 : ∀ q, q ∈ fp va vc → q ∉ [R] := fun q hq hm => by have := (HN.out.rv.lt q hq).1; have := HB.out; simp at hm; omega
      refine bodyPost_ret (v := .agg #[.bool lf, .slice ka K.length kc, .slice va V.length vc]) (by simp [results, Tryz.results97, go_sem, r0, r1, r2]) rfl ?_
      refine ⟨lf, K, V, ka, va, kc, vc, a3, n3, c3, l3, e3, rfl, (HN.out.rk.mono hBw).chg gR d1, (HN.out.rv.mono hBw).chg gR d2, HN.out.dj, hR3.keep gR (by have := HB.out; simp; omega) (fun hp q hq hm => by
        have hq0 := HO.out (by have := HN3.out.1; omega) q (by rw [← HN3.out.2]; exact hq)
        simp at hm; omega), hg.trans gR (fun _ h _ => h) (fun q hq hlt => by have := HB.out; simp at hq; omega), ?_⟩
      have hend := ended HA.out HY.out.1 HSS.out HE.out
      rw [HL.out] at hend
      exact hend
end Go.Proofs.YtdgkbicelnnfpaaGreatDoor

/- Package node: Take. -/
namespace Go.Proofs.YtdgkbicelnnfpaaGreatDoor
open Go.RowKit
set_option linter.unusedVariables false
set_option linter.unusedSimpArgs false
attribute [local go_sem ↓] Go.wp_at_zero Go.wp_at_succ

theorem three_chg (wr : World) (R : Nat) (x y z : Value) : Chg [R] wr (((wr.setCell ⟨R, 0, none⟩ x).setCell ⟨R, 1, none⟩ y).setCell ⟨R, 2, none⟩ z) :=
  ((Chg.setCell wr ⟨R, 0, none⟩ x).trans (Chg.setCell _ ⟨R, 1, none⟩ y) (fun _ h _ => h) (fun _ h _ => h)).trans (Chg.setCell _ ⟨R, 2, none⟩ z) (fun _ h _ => h) (fun _ h _ => h)
set_option maxRecDepth 20000 in
set_option maxHeartbeats 1000000 in
theorem take_any (ao : Option Addr) (n c : Nat) (l : List UInt8) (w : World) (hx : Reads w ao (bts l)) (hn : l.length = n) (hc : n ≤ c) (hm : c ≤ maxLen) :
    Calls Tryz.prog 52 #[.slice ao n c] w fun e w' => NodeRes w.heap.size e w' (takeN l) ∧ Chg [] w w' := by
  have t0 := start_there w
  have g0 := Chg.alloc [] w (.cells #[.bool false, .slice none 0 0, .slice none 0 0] 53)
  have hz0 : (w.alloc (.cells #[.bool false, .slice none 0 0, .slice none 0 0] 53)).heap.size = w.heap.size + 1 := by simp
  have hold : 0 < n → ∀ k, k ∈ blk ao → k < w.heap.size := fun hp => hx.lt (by rw [bts_length, hn]; exact hp)
  have g1 := Chg.alloc [] (w.alloc (.cells #[.bool false, .slice none 0 0, .slice none 0 0] 53)) (.cells #[.slice ao n c, .int .i64 0] 180)
  have hl1 := heap_alloc_last (w.alloc (.cells #[.bool false, .slice none 0 0, .slice none 0 0] 53)) (.cells #[.slice ao n c, .int .i64 0] 180)
  have hR : Rdr ((w.alloc (.cells #[.bool false, .slice none 0 0, .slice none 0 0] 53)).alloc (.cells #[.slice ao n c, .int .i64 0] 180)) (w.heap.size + 1) ao n c l 0 := by
    rw [hz0] at hl1
    refine ⟨?_, ?_, frozen_of_row _ _ _ _ _ hl1, frozen_of_row _ _ _ _ _ hl1, (hx.keep g0).keep g1, hn, hc, hm, fun hp k hk => by have := hold hp k hk; omega⟩
    · rw [cell_of_row _ _ _ _ _ _ hl1]; rfl
    · rw [cell_of_row _ _ _ _ _ _ hl1]; rfl
  have t1 := there_chg t0 g1 (by simp)
  have G1 := g0.then g1
  have hz1 : ((w.alloc (.cells #[.bool false, .slice none 0 0, .slice none 0 0] 53)).alloc (.cells #[.slice ao n c, .int .i64 0] 180)).heap.size = w.heap.size + 2 := by simp
  have HO := mkHid (And.intro hz1 hold)
  clear hz0 hz1 hold hl1 g0 g1 t0 hx hn
  go_enter Tryz.func52, Tryz.ntmps52
  go_wp2_with fail
  generalize (w.alloc (.cells #[.bool false, .slice none 0 0, .slice none 0 0] 53)).alloc (.cells #[.slice ao n c, .int .i64 0] 180) = w1 at *
  refine (taken_any w1 (w.heap.size + 1) ao n c l hR).mono ?_
  rintro e w2 ⟨lf, K, V, ka, va, kc, vc, a2, n2, c2, l2, er, rfl, rk, rv, dj, h2, g2, hend⟩
  have G2 : Chg [] w w2 := G1.trans g2 (by simp) (fun q hq hlt => by simp at hq; omega)
  have t2 := there_chg t1 g2 (by simp)
  have gA := Chg.alloc [] w2 (.cells #[.bool lf, .slice ka K.length kc, .slice va V.length vc] 53)
  have G3 := G2.then gA
  have t3 := there_chg t2 gA (by simp)
  have h3 := h2.keep gA (by simp) (by simp)
  have hsz : w1.heap.size ≤ w2.heap.size := g2.size
  have hb : w.heap.size + 2 ≤ w1.heap.size := by have := HO.out.1; omega
  have rk3 := rk.chg gA (by simp)
  have rv3 := rv.chg gA (by simp)
  have hl3 := heap_alloc_last w2 (.cells #[.bool lf, .slice ka K.length kc, .slice va V.length vc] 53)
  have d0 := cell_of_row _ w2.heap.size 0 _ _ _ hl3
  have d1 := cell_of_row _ w2.heap.size 1 _ _ _ hl3
  have d2 := cell_of_row _ w2.heap.size 2 _ _ _ hl3
  simp only [List.getElem?_toArray, List.getElem?_cons_succ, List.getElem?_cons_zero] at d0 d1 d2
  have HE := mkHid hend
  have HR := mkHid (And.intro rk3 (And.intro rv3 dj))
  have HS := mkHid (And.intro hsz hb)
  clear hl3 hend rk rv rk3 rv3 dj h2 g2 t2 t1 G1 G2 gA hR hsz hb
  have e0 := h3.c0
  have e1 := h3.c1
  have cO := noughts_any a2 n2 c2 l2 (w2.alloc (.cells #[.bool lf, .slice ka K.length kc, .slice va V.length vc] 53)) h3.rd h3.ln h3.le h3.mx
  obtain ⟨v0, r0⟩ := Option.isSome_iff_exists.1 (t3 0 (by decide)).1
  obtain ⟨v1, r1⟩ := Option.isSome_iff_exists.1 (t3 1 (by decide)).1
  obtain ⟨v2, r2⟩ := Option.isSome_iff_exists.1 (t3 2 (by decide)).1
  have q0 := (t3 0 (by decide)).2
  have q1 := (t3 1 (by decide)).2
  have q2 := (t3 2 (by decide)).2
  simp only [Nat.zero_add] at r0 r1 r2 q0 q1 q2
  clear t3 h3
  by_cases he : er = 0
  · subst he
    have hall := HE.out.1 rfl
    generalize hq : l2.all (· == 0) = q at *
    have HQ := mkHid hall
    clear hall hq HE
    cases q with
    | false =>
      go_wp2_with (first | (go_at_call 99; refine cO.mono ?_; rintro e w' ⟨rfl, rfl⟩))
      refine bodyPost_ret (v := .tuple #[.agg #[.bool false, .slice none 0 0, .slice none 0 0], .int .i64 5]) (by simp [results, Tryz.results52, go_sem, r0, r1, r2]) rfl ⟨?_, G3.trans (three_chg _ w.heap.size _ _ _) (by simp) (fun q hq hlt => by simp at hq; omega)⟩
      rw [HQ.out, if_neg (by decide)]
      exact NodeRes.none _ _ _
    | true =>
      go_wp2_with (first | (go_at_call 99; refine cO.mono ?_; rintro e w' ⟨rfl, rfl⟩))
      refine bodyPost_ret (v := .tuple #[.agg #[.bool lf, .slice ka K.length kc, .slice va V.length vc], .int .i64 0]) (by simp [results, Tryz.results52, go_sem, r0, r1, r2]) rfl ⟨?_, G3.trans (three_chg _ w.heap.size _ _ _) (by simp) (fun q hq hlt => by simp at hq; omega)⟩
      rw [HQ.out, if_pos trivial]
      obtain ⟨rk, rv, dj⟩ := HR.out
      obtain ⟨hsz, hb⟩ := HS.out
      exact ⟨ka, kc, va, vc, rfl, (rk.mono (by omega)).chg (three_chg _ w.heap.size _ _ _) (fun q hq hm => by have := (rk.lt q hq).1; simp at hm; omega), (rv.mono (by omega)).chg (three_chg _ w.heap.size _ _ _) (fun q hq hm => by have := (rv.lt q hq).1; simp at hm; omega), dj⟩
  · have hd : (er != 0) = true := by simp; exact he
    have hall := HE.out.2 he
    have HQ := mkHid hall
    clear hall HE cO
    go_wp2_with fail
    clear d0 d1 d2 e0
    generalize w2.alloc (.cells #[.bool lf, .slice ka K.length kc, .slice va V.length vc] 53) = w3 at *
    have r0d : w3.drew.cell? ⟨w.heap.size, 0, none⟩ = some v0 := r0
    have r1d : w3.drew.cell? ⟨w.heap.size, 1, none⟩ = some v1 := r1
    have r2d : w3.drew.cell? ⟨w.heap.size, 2, none⟩ = some v2 := r2
    have q0d : w3.drew.frozen? ⟨w.heap.size, 0, none⟩ = false := q0
    have q1d : w3.drew.frozen? ⟨w.heap.size, 1, none⟩ = false := q1
    have q2d : w3.drew.frozen? ⟨w.heap.size, 2, none⟩ = false := q2
    have e1d : w3.drew.cell? ⟨w.heap.size + 1, 1, none⟩ = some (.int .i64 er) := e1
    clear e1
    go_region_held3 (fun u => u.cell? ⟨w.heap.size + 1, 1, none⟩ = some (.int .i64 er)) (first | exact e1d | exact (three_chg w3.drew w.heap.size _ _ _).cellv e1d (by simp)) (fail)
    go_wp2_with fail
    refine bodyPost_ret (v := .tuple #[.agg #[.bool false, .slice none 0 0, .slice none 0 0], .int .i64 er]) (by simp [results, Tryz.results52, go_sem, r0, r1, r2]) rfl ⟨?_, (G3.then (Chg.drew [] w3)).trans (three_chg _ w.heap.size _ _ _) (by simp) (fun q hq hlt => by simp at hq; omega)⟩
    rw [HQ.out]
    exact NodeRes.none _ _ _
end Go.Proofs.YtdgkbicelnnfpaaGreatDoor

/- Nodes as arguments; the reference's Own; bytes.Equal. -/



namespace Go.Proofs.YtdgkbicelnnfpaaGreatDoor
set_option maxRecDepth 200000
open Go.ChangeShapes Go.WideShapes Go.ChangeAt Go.RowKit
set_option linter.unusedVariables false
set_option linter.unusedSimpArgs false
attribute [local go_sem ↓] Go.wp_at_zero Go.wp_at_succ

section
variable {H : Type} {enc : TypeId × Value → H} {P : Program} {w : World} {base : Nat} {spare : Nat → Bool} {held : Bool}
end
theorem there3 {w : World} {R : Nat} (t : w.there R 0 3) : ∃ v0 v1 v2, w.cell? ⟨R, 0, none⟩ = some v0 ∧ w.cell? ⟨R, 1, none⟩ = some v1 ∧ w.cell? ⟨R, 2, none⟩ = some v2 ∧ w.frozen? ⟨R, 0, none⟩ = false ∧ w.frozen? ⟨R, 1, none⟩ = false ∧ w.frozen? ⟨R, 2, none⟩ = false := by
  obtain ⟨v0, r0⟩ := Option.isSome_iff_exists.1 (t 0 (by decide)).1
  obtain ⟨v1, r1⟩ := Option.isSome_iff_exists.1 (t 1 (by decide)).1
  obtain ⟨v2, r2⟩ := Option.isSome_iff_exists.1 (t 2 (by decide)).1
  have q0 := (t 0 (by decide)).2
  have q1 := (t 1 (by decide)).2
  have q2 := (t 2 (by decide)).2
  simp only [Nat.zero_add] at r0 r1 r2 q0 q1 q2
  exact ⟨v0, v1, v2, r0, r1, r2, q0, q1, q2⟩
end Go.Proofs.YtdgkbicelnnfpaaGreatDoor

/- Forms and what bytes say: each the other's inverse; a form that is cut. -/
namespace Go.Proofs.YtdgkbicelnnfpaaGreatDoor
open Go.RowKit
set_option linter.unusedVariables false
set_option linter.unusedSimpArgs false

theorem val_be8 {x : Nat} (h : x < 2 ^ 64) : val (be x 8) = x := by
  rw [val_be]; exact Nat.mod_eq_of_lt (by simpa using h)
theorem be8_take {x : Nat} (r : List UInt8) : (be x 8 ++ r).take 8 = be x 8 := by
  rw [List.take_append_of_le_length (by rw [be_length]; exact Nat.le_refl _)]
  exact List.take_of_length_le (by rw [be_length]; exact Nat.le_refl _)
theorem be8_drop {x : Nat} (r : List UInt8) : (be x 8 ++ r).drop 8 = r := by
  rw [List.drop_append_of_le_length (by rw [be_length]; exact Nat.le_refl _), List.drop_of_length_le (by rw [be_length]; exact Nat.le_refl _)]
  rfl
theorem be8_len {x : Nat} (r : List UInt8) : ¬ (be x 8 ++ r).length < 8 := by rw [List.length_append, be_length]; omega
theorem takeK_pair {c x y : Nat} {K V : List Nat} {r : List UInt8} (hx : x < 2 ^ 64) (hy : y < 2 ^ 64) (hl : lowK K x = false) (h0 : y ≠ 0) : takeK (c + 1) K V (be x 8 ++ (be y 8 ++ r)) = takeK c (K ++ [x]) (V ++ [y]) r := by
  rw [takeK_succ, if_neg (be8_len _), be8_take, val_be8 hx, if_neg (by rw [hl]; decide), be8_drop, takeV_eq, if_neg (be8_len _), be8_take, val_be8 hy, if_neg h0, be8_drop]
/-- Keys that rise behind those ahead, and values that are none of them 0. -/
def Follows : List Nat → List Nat → List Nat → Prop
  | K0, k :: K, v :: V => lowK K0 k = false ∧ v ≠ 0 ∧ k < 2 ^ 64 ∧ v < 2 ^ 64 ∧ Follows (K0 ++ [k]) K V
  | _, [], [] => True
  | _, _, _ => False
theorem Follows.len : ∀ {K0 K V : List Nat}, Follows K0 K V → V.length = K.length
  | _, [], [], _ => rfl
  | K0, k :: K, v :: V, h => by
    unfold Follows at h
    have := h.2.2.2.2.len
    simp [this]
  | _, [], _ :: _, h => by simp [Follows] at h
  | _, _ :: _, [], h => by simp [Follows] at h
theorem take_pairs : ∀ {K0 V0 K V : List Nat} (r : List UInt8), Follows K0 K V → takeK K.length K0 V0 (pairsN K V ++ r) = takeK 0 (K0 ++ K) (V0 ++ V) r
  | K0, V0, [], [], r, _ => by simp [pairsN]
  | K0, V0, k :: K, v :: V, r, h => by
    unfold Follows at h
    obtain ⟨h1, h2, h3, h4, h5⟩ := h
    rw [pairsN, List.append_assoc, List.append_assoc, List.length_cons, takeK_pair h3 h4 h1 h2, take_pairs r h5]
    simp
  | _, _, [], _ :: _, _, h => by simp [Follows] at h
  | _, _, _ :: _, [], _, h => by simp [Follows] at h
/-- A node that may be. -/
theorem follows_of {K V : List Nat} (hm : mayB K V = true) (bK : ∀ x ∈ K, x < 2 ^ 64) (bV : ∀ x ∈ V, x < 2 ^ 64) : Follows [] K V := by
  obtain ⟨l1, l2, l3⟩ := may_len hm
  have hall : (List.range K.length).all (okAt K V) = true := by
    unfold mayB at hm
    simp only [Bool.and_eq_true] at hm
    exact hm.2
  have key : ∀ (m i : Nat), K.length = i + m → Follows (K.take i) (K.drop i) (V.drop i) := by
    intro m
    induction m with
    | zero =>
      intro i hi
      rw [List.drop_of_length_le (by omega), List.drop_of_length_le (by omega)]
      simp [Follows]
    | succ m ih =>
      intro i hi
      have hk : i < K.length := by omega
      have hv : i < V.length := by omega
      have ho := ok_at (K := K) (V := V) (i := i) (List.getElem?_eq_getElem hk) (List.getElem?_eq_getElem hv)
      have ho2 : okAt K V i = true := (List.all_eq_true.1 hall) i (by simp; omega)
      rw [ho2] at ho
      have ho3 := ho.symm
      simp only [Bool.and_eq_true, Bool.not_eq_true', pointsB] at ho3
      rw [List.drop_eq_getElem_cons hk, List.drop_eq_getElem_cons hv]
      unfold Follows
      refine ⟨ho3.1, by simpa using ho3.2, bK _ (List.getElem_mem _), bV _ (List.getElem_mem _), ?_⟩
      have := ih (i + 1) (by omega)
      rwa [List.take_succ_eq_append_getElem hk] at this
  simpa using key K.length 0 (by omega)
theorem len_byte {n : Nat} (h : n ≤ 8) : (UInt8.ofNat n).toNat = n := by simp; omega
theorem mark_kind (lf : Bool) : ¬ ((if lf = true then (1 : UInt8) else 0) ≠ 0 ∧ (if lf = true then (1 : UInt8) else 0) ≠ 1) ∧ decide ((if lf = true then (1 : UInt8) else 0) = 1) = lf := by cases lf <;> decide
/-- A form, and bytes behind it. -/
theorem take_form {lf : Bool} {K V : List Nat} (hm : mayB K V = true) (bK : ∀ x ∈ K, x < 2 ^ 64) (bV : ∀ x ∈ V, x < 2 ^ 64) (z : List UInt8) : takeN (formN lf K V ++ z) = if z.all (· == 0) then (0, lf, K, V) else (5, false, [], []) := by
  obtain ⟨l1, l2, l3⟩ := may_len hm
  unfold formN
  rw [List.cons_append, List.cons_append, takeN_cons, if_neg (mark_kind lf).1]
  dsimp only
  rw [len_byte l2, if_neg (by omega), take_pairs z (follows_of hm bK bV), takeK_zero, (mark_kind lf).2]
  cases z.all (· == 0) <;> simp
theorem val_bound {l : List UInt8} : val (l.take 8) < 2 ^ 64 := Nat.lt_of_lt_of_le (val_lt _) (by
  have h9 : (l.take 8).length ≤ 8 := by rw [List.length_take]; omega
  exact Nat.le_trans (Nat.pow_le_pow_right (by decide) h9) (by decide))
theorem val_inj : ∀ {a b : List UInt8}, a.length = b.length → val a = val b → a = b
  | [], [], _, _ => rfl
  | x :: a, y :: b, hl, h => by
    have hl2 : a.length = b.length := by simpa using hl
    rw [val_cons, val_cons, hl2] at h
    have h1 := val_lt a
    have h2 := val_lt b
    rw [hl2] at h1
    have hp : 0 < 256 ^ b.length := Nat.pow_pos (by decide)
    have e1 : x.toNat = y.toNat := by
      have q1 : (x.toNat * 256 ^ b.length + val a) / 256 ^ b.length = x.toNat := by
        rw [Nat.mul_comm, Nat.mul_add_div hp, Nat.div_eq_of_lt h1, Nat.add_zero]
      have q2 : (y.toNat * 256 ^ b.length + val b) / 256 ^ b.length = y.toNat := by
        rw [Nat.mul_comm, Nat.mul_add_div hp, Nat.div_eq_of_lt h2, Nat.add_zero]
      rw [← q1, ← q2, h]
    rw [e1] at h
    have e2 := val_inj hl2 (Nat.add_left_cancel h)
    rw [UInt8.toNat_inj.1 e1, e2]
  | [], _ :: _, hl, _ => by simp at hl
  | _ :: _, [], hl, _ => by simp at hl
theorem be_val {l : List UInt8} (h : ¬ l.length < 8) : l = be (val (l.take 8)) 8 ++ l.drop 8 := by
  have e : l.take 8 = be (val (l.take 8)) 8 := val_inj (by rw [be_length, List.length_take]; omega) (by rw [val_be8 val_bound])
  rw [← e, List.take_append_drop]
/-- What was taken. -/
theorem took : ∀ (c : Nat) (K0 V0 : List Nat) (l : List UInt8) (K2 V2 : List Nat), takeK c K0 V0 l = (0, K2, V2) → ∃ K V z, K2 = K0 ++ K ∧ V2 = V0 ++ V ∧ K.length = c ∧ Follows K0 K V ∧ l = pairsN K V ++ z ∧ z.all (· == 0) = true
  | 0, K0, V0, l, K2, V2, h => by
    rw [takeK_zero] at h
    cases hz : l.all (· == 0) with
    | true =>
      rw [hz, if_pos rfl] at h
      simp at h
      exact ⟨[], [], l, by simp [h.1], by simp [h.2], rfl, by simp [Follows], by simp [pairsN], hz⟩
    | false =>
      rw [hz, if_neg (by decide)] at h
      simp at h
  | c + 1, K0, V0, l, K2, V2, h => by
    rw [takeK_succ] at h
    by_cases h8 : l.length < 8
    · rw [if_pos h8] at h; simp at h
    · rw [if_neg h8] at h
      cases hl : lowK K0 (val (l.take 8)) with
      | true => rw [hl, if_pos rfl] at h; simp at h
      | false =>
        rw [hl, if_neg (by decide), takeV_eq] at h
        by_cases h9 : (l.drop 8).length < 8
        · rw [if_pos h9] at h; simp at h
        · rw [if_neg h9] at h
          by_cases h0 : val ((l.drop 8).take 8) = 0
          · rw [if_pos h0] at h; simp at h
          · rw [if_neg h0] at h
            obtain ⟨K, V, z, e1, e2, e3, e4, e5, e6⟩ := took c _ _ _ _ _ h
            refine ⟨val (l.take 8) :: K, val ((l.drop 8).take 8) :: V, z, by simp [e1], by simp [e2], by simp [e3], ?_, ?_, e6⟩
            · unfold Follows
              exact ⟨hl, h0, val_bound, val_bound, e4⟩
            · rw [pairsN, List.append_assoc, List.append_assoc, ← e5, ← be_val h9, ← be_val h8]
theorem Follows.all : ∀ {K0 V0 K V : List Nat}, V0.length = K0.length → (List.range K0.length).all (okAt (K0 ++ K) (V0 ++ V)) = true → Follows K0 K V → (List.range (K0 ++ K).length).all (okAt (K0 ++ K) (V0 ++ V)) = true
  | K0, V0, [], [], _, h, _ => by simpa using h
  | K0, V0, k :: K, v :: V, hl, h, hf => by
    unfold Follows at hf
    obtain ⟨h1, h2, h3, h4, h5⟩ := hf
    have ek : K0 ++ k :: K = (K0 ++ [k]) ++ K := by simp
    have ev : V0 ++ v :: V = (V0 ++ [v]) ++ V := by simp
    have hx : (K0 ++ k :: K)[K0.length]? = some k := by simp
    have hy : (V0 ++ v :: V)[K0.length]? = some v := by rw [← hl]; simp
    have ho := ok_at hx hy
    rw [List.take_left, h1] at ho
    have ho2 : okAt (K0 ++ k :: K) (V0 ++ v :: V) K0.length = true := by rw [ho]; simp [pointsB, h2]
    have hnext : (List.range (K0 ++ [k]).length).all (okAt (K0 ++ k :: K) (V0 ++ v :: V)) = true := by
      rw [List.length_append, List.length_singleton, all_range_succ, h, ho2]; rfl
    rw [ek, ev] at hnext ⊢
    exact Follows.all (by simp [hl]) hnext h5
  | _, _, [], _ :: _, _, _, h => by simp [Follows] at h
  | _, _, _ :: _, [], _, _, h => by simp [Follows] at h
theorem Follows.bounds : ∀ {K0 K V : List Nat}, Follows K0 K V → (∀ x ∈ K, x < 2 ^ 64) ∧ ∀ x ∈ V, x < 2 ^ 64
  | _, [], [], _ => ⟨by simp, by simp⟩
  | K0, k :: K, v :: V, hf => by
    unfold Follows at hf
    obtain ⟨h1, h2, h3, h4, h5⟩ := hf
    obtain ⟨b1, b2⟩ := h5.bounds
    exact ⟨fun x hx => (List.mem_cons.1 hx).elim (fun e => e ▸ h3) (b1 x), fun x hx => (List.mem_cons.1 hx).elim (fun e => e ▸ h4) (b2 x)⟩
  | _, [], _ :: _, h => by simp [Follows] at h
  | _, _ :: _, [], h => by simp [Follows] at h
/-- Bytes that say a node begin with its form; behind it are noughts. -/
theorem took_node {l : List UInt8} {lf : Bool} {K V : List Nat} (h : takeN l = (0, lf, K, V)) : mayB K V = true ∧ (∀ x ∈ K, x < 2 ^ 64) ∧ (∀ x ∈ V, x < 2 ^ 64) ∧ ∃ z, l = formN lf K V ++ z ∧ z.all (· == 0) = true := by
  match l, h with
  | [], h => simp [takeN] at h
  | a :: r, h =>
    rw [takeN_cons] at h
    by_cases ha : a ≠ 0 ∧ a ≠ 1
    · rw [if_pos ha] at h; simp at h
    · rw [if_neg ha] at h
      match r, h with
      | [], h => simp at h
      | b :: s, h =>
        dsimp only at h
        by_cases hb : b.toNat = 0 ∨ 8 < b.toNat
        · rw [if_pos hb] at h; simp at h
        · rw [if_neg hb] at h
          by_cases h0 : (takeK b.toNat [] [] s).1 = 0
          · rw [if_pos h0] at h
            simp only [Prod.mk.injEq] at h
            obtain ⟨_, e1, e2⟩ := h
            have e3 : takeK b.toNat [] [] s = (0, K, V) := by rw [← h0, ← e2]
            obtain ⟨K', V', z, q1, q2, q3, q4, q5, q6⟩ := took _ _ _ _ _ _ e3
            rw [List.nil_append] at q1 q2
            subst q1 q2
            have hbd := q4.bounds
            have hlen := q4.len
            have hall := Follows.all (K0 := []) (V0 := []) rfl (by simp) q4
            simp only [List.nil_append] at hall
            refine ⟨?_, hbd.1, hbd.2, z, ?_, q6⟩
            · unfold mayB
              rw [hall, hlen, decide_eq_true rfl, decide_eq_true (show 1 ≤ K.length by omega), decide_eq_true (show K.length ≤ 8 by omega)]
              rfl
            · unfold formN
              rw [List.cons_append, List.cons_append, ← q5]
              have eb : UInt8.ofNat K.length = b := by rw [q3]; exact UInt8.toNat_inj.1 (by simp)
              have ea : (if lf = true then (1 : UInt8) else 0) = a := by
                have ha2 : a = 0 ∨ a = 1 := by
                  by_cases e : a = 0
                  · exact Or.inl e
                  · exact Or.inr (Decidable.not_not.1 fun e1 => ha ⟨e, e1⟩)
                rcases ha2 with rfl | rfl
                · rw [← e1]; decide
                · rw [← e1]; decide
              rw [ea, eb]
          · rw [if_neg h0] at h
            simp only [Prod.mk.injEq] at h
            exact absurd h.1 h0
theorem took_not {l : List UInt8} {e : Int} {lf : Bool} {K V : List Nat} (h : takeN l = (e, lf, K, V)) (he : e ≠ 0) : lf = false ∧ K = [] ∧ V = [] := by
  match l, h with
  | [], h => simp [takeN] at h; simp [h]
  | a :: r, h =>
    rw [takeN_cons] at h
    by_cases ha : a ≠ 0 ∧ a ≠ 1
    · rw [if_pos ha] at h; simp at h; simp [h]
    · rw [if_neg ha] at h
      match r, h with
      | [], h => simp at h; simp [h]
      | b :: s, h =>
        dsimp only at h
        by_cases hb : b.toNat = 0 ∨ 8 < b.toNat
        · rw [if_pos hb] at h; simp at h; simp [h]
        · rw [if_neg hb] at h
          by_cases h0 : (takeK b.toNat [] [] s).1 = 0
          · rw [if_pos h0] at h
            simp only [Prod.mk.injEq] at h
            exact absurd h.1.symm he
          · rw [if_neg h0] at h
            simp only [Prod.mk.injEq] at h
            exact ⟨h.2.1.symm, h.2.2.1.symm, h.2.2.2.symm⟩
end Go.Proofs.YtdgkbicelnnfpaaGreatDoor
