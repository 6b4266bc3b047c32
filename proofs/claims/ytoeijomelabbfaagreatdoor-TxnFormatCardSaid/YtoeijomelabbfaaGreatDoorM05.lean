/- Texts Vj, Vk, Vl, Vm of the library, joined. -/
import Derived.Test.YtoeijomelabbfaaGreatDoorM04
/- The landed code: the parts, one after another. -/
namespace Go.Proofs.YtoeijomelabbfaaGreatDoor
set_option maxRecDepth 200000
open Go.RowKit
set_option linter.unusedVariables false
set_option linter.unusedSimpArgs false
attribute [local go_sem] Oper.semAt_some

/-- The number of a page that there is. -/
abbrev PgI (n : Nat) : Type := { x : Nat // x < npg n }
def plen (n x : Nat) : Nat := if n - 240 * x ≤ 240 then n - 240 * x else 240
theorem plen_le (n x : Nat) : plen n x ≤ 240 := by unfold plen; split <;> omega
theorem plen_in {n x : Nat} (h : x < npg n) : 240 * x + plen n x ≤ n ∧ 0 < plen n x := by unfold npg at h; unfold plen; split <;> omega
/-- The slice of its counts. -/
def pval (ao : Option Addr) (c n x : Nat) : Value := .slice (cut ao c (240 * x)) (plen n x) (c - 240 * x)
def pencs (ao : Option Addr) (c n : Nat) (x : PgI n) : Array Value := #[.int .i64 (x.1 : Int), pval ao c n x.1]
def KpB (Bn : Nat) (v : Value) (W W' : World) : Prop := W.cell? ⟨Bn, 0, none⟩ = some v → W'.cell? ⟨Bn, 0, none⟩ = some v

set_option maxRecDepth 100000 in
set_option maxHeartbeats 2000000 in
theorem parts_stops (m : Nat) (hm : 1 ≤ m) (Bn : Nat) (ao : Option Addr) (n c : Nat) (hn : n ≤ c) (hb : n ≤ 140737488351232) (w : World) (hBn : Bn < w.heap.size) (hc0 : w.cell? ⟨Bn, 0, none⟩ = some (.slice ao n c)) :
    SeqStopsK Fence.wide m Tryz.prog 202 #[.pointer (some ⟨Bn, 0, none⟩)] (pencs ao c n) (KpB Bn (.slice ao n c)) (fun xs => xs.map (·.1) = List.range (npg n)) (fun _ => True) (npg n) w := fun l J Jx W hW _ _ hY h0 => by
  have hc := (hW.cell (p := ⟨Bn, 0, none⟩) hBn).trans hc0
  have cP := fun (u : World) => pages_any (n : Int) u (by omega)
  rw [npgZ_nat] at cP
  have hNn := npg_le n
  clear hc0 hW
  refine callsIn_of_wp Tryz.func202 rfl trivial ?_ rfl
  simp only [Tryz.ntmps202, List.size_toArray, List.length_cons, List.length_nil, Nat.reduceAdd, Nat.reduceSub, Array.replicate_succ, Array.replicate_zero, List.push_toArray, List.append_toArray, List.nil_append, List.cons_append]
  gi_wp2_with (refine ⟨trivial, ?_⟩; gi_at_call 157; refine (callsIn_wide.2 (cP _)).mono ?_; rintro e w' ⟨rfl, rfl⟩)
  gi_loopw [8] (fun i wr => ∃ (k : Nat) (pre : List (PgI n)), k ≤ npg n ∧ i = .int .i64 k ∧ pre.map (·.1) = List.range k ∧ J pre wr ∧ wr.cell? ⟨Bn, 0, none⟩ = some (.slice ao n c))
    (fun i _ => npg n - (Go.RowKit.intOf i).toNat)
  case atStart => exact ⟨0, [], Nat.zero_le _, rfl, rfl, h0, hc⟩
  case round =>
    clear hc
    obtain ⟨k, pre, hk, rfl, hp, hJ, hc⟩ := hrel
    by_cases hkn : k < npg n
    · have hpl := plen_in hkn
      have hlen : pre.length < npg n := by
        have := congrArg List.length hp
        rw [List.length_map, List.length_range] at this
        omega
      have rf : ∀ u : World, (Instr.slice 41 (.slice ao n c) (some (.int .i64 ((k : Int) * 240))) none none).run Tryz.prog u = .ok (.slice (cut ao c (240 * k)) (n - 240 * k) (c - 240 * k)) u := fun u => by
        have := run_from_k (P := Tryz.prog) ao n c (240 * k) Tryz.underlying41 oneB (by omega) u
        rw [show ((240 * k : Nat) : Int) = (k : Int) * 240 by omega] at this
        exact this
      have rt : ∀ u : World, (Instr.slice 41 (.slice (cut ao c (240 * k)) (n - 240 * k) (c - 240 * k)) none (some (.int .i64 (plen n k : Int))) none).run Tryz.prog u = .ok (.slice (cut ao c (240 * k)) (plen n k) (c - 240 * k)) u := fun u => run_take_k (P := Tryz.prog) _ _ _ _ Tryz.underlying41 oneB (by omega) u
      obtain ⟨fn, tmps, assign, body, hy, hR⟩ := hY pre ⟨k, hkn⟩ wr hJ hlen
      have hpm : plen n k = if n - 240 * k ≤ 240 then n - 240 * k else 240 := rfl
      have hk2 : 240 * k ≤ 140737488351232 := by omega
      dsimp only [pencs, pval] at hy
      generalize plen n k = m1 at *
      generalize n - 240 * k = n1 at *
      generalize c - 240 * k = c1 at *
      generalize cut ao c (240 * k) = A1 at *
      have hd1 : decide (k < npg n) = true := decide_eq_true hkn
      by_cases hm1 : n1 ≤ 240
      · rw [if_pos hm1] at hpm
        subst hpm
        have hmn : ((m1 : Int) ≤ 240) = True := by simp; omega
        gi_wp2
        refine hR.mono ?_
        rintro e W3 (⟨rfl, hJ3, hk3⟩ | ⟨rfl, hJx3⟩)
        · have hc3 := hk3 hc
          gi_wp2
          go_roundw
          case rel => exact ⟨k + 1, _, by omega, by simp, by rw [List.map_append, hp, List.range_succ]; rfl, hJ3, hc3⟩
          case measure => simp [Go.RowKit.intOf]; omega
        · gi_wp2
          refine bodyPost_ret (results_none rfl _ _ _) rfl ?_
          exact ⟨⟨_, rfl⟩, .inr ⟨_, trivial, hJx3⟩⟩
      · rw [if_neg hm1] at hpm
        subst hpm
        have rt2 : ∀ u : World, (Instr.slice 41 (.slice A1 n1 c1) none (some (.int .i64 240)) none).run Tryz.prog u = .ok (.slice A1 240 c1) u := rt
        clear rt
        have hmn : ((n1 : Int) ≤ 240) = False := by simp; omega
        gi_wp2
        refine hR.mono ?_
        rintro e W3 (⟨rfl, hJ3, hk3⟩ | ⟨rfl, hJx3⟩)
        · have hc3 := hk3 hc
          gi_wp2
          go_roundw
          case rel => exact ⟨k + 1, _, by omega, by simp, by rw [List.map_append, hp, List.range_succ]; rfl, hJ3, hc3⟩
          case measure => simp [Go.RowKit.intOf]; omega
        · gi_wp2
          refine bodyPost_ret (results_none rfl _ _ _) rfl ?_
          exact ⟨⟨_, rfl⟩, .inr ⟨_, trivial, hJx3⟩⟩
    · obtain rfl : k = npg n := by omega
      have hd1 : decide (npg n < npg n) = false := decide_eq_false hkn
      gi_wp2
      go_end0
      exact ⟨⟨_, rfl⟩, .inl ⟨_, hp, hJ⟩⟩
end Go.Proofs.YtoeijomelabbfaaGreatDoor

/- The landed code: Page. -/
namespace Go.Proofs.YtoeijomelabbfaaGreatDoor
set_option maxRecDepth 200000
open Go.RowKit
set_option linter.unusedVariables false
set_option linter.unusedSimpArgs false
attribute [local go_sem] Oper.semAt_some

/-- The counts on page x. -/
def partL (L : List UInt8) (n x : Nat) : List UInt8 := (L.drop (240 * x)).take (plen n x)
theorem partL_len {L : List UInt8} {n x : Nat} (h : L.length = n) (hx : x < npg n) : (partL L n x).length = plen n x := by
  have := plen_in hx
  unfold partL
  rw [List.length_take, List.length_drop]
  omega
theorem partL_reads {w : World} {ao : Option Addr} {L : List UInt8} {n c x : Nat} (g : Reads w ao (bts L)) (h : L.length = n) (hc : n ≤ c) : Reads w (cut ao c (240 * x)) (bts (partL L n x)) := by
  have := (g.cut c (240 * x) (by rw [bts_length]; omega)).take (plen n x)
  rw [bts_drop, bts_take] at this
  exact this
theorem KpB.t {Bn : Nat} {v : Value} {A B C : World} (h : KpB Bn v A B) (k : KpB Bn v B C) : KpB Bn v A C := fun e => k (h e)
theorem KpB.b {Bn : Nat} {v : Value} (W : World) (l : Nat) (o o' : Obj) (h : W.heap[l]? = some o) (ho : o.isCells = false) : KpB Bn v W (W.putObj l o') := fun e => (Side.putObj (B := 0) o' (Nat.zero_le _) h ho).cell e
theorem KpB.chg {Bn : Nat} {v : Value} {S : List Nat} {W W' : World} (g : Chg S W W') (hn : Bn ∉ S) : KpB Bn v W W' := fun e => g.cellv e hn

theorem Side.size {B : Nat} {W W' : World} (h : Side B W W') : W.heap.size ≤ W'.heap.size := by
  obtain ⟨S, g, _⟩ := h
  exact g.size
theorem Side.opg {B B' : Nat} {W W' : World} {ao : Option Addr} {c : Nat} {bs : List Nat} {ps : List (List UInt8)} (h : Side B W W') (o : OPg W B' ao c bs ps) : OPg W' B' ao c bs ps :=
  ⟨o.ln, h.room o.r, fun i b p hb hp => h.room (o.p i b p hb hp), o.nd, o.ap⟩
end Go.Proofs.YtoeijomelabbfaaGreatDoor

/- The landed code: Put. -/
namespace Go.Proofs.YtoeijomelabbfaaGreatDoor
set_option maxRecDepth 200000
open Go.RowKit
set_option linter.unusedVariables false
set_option linter.unusedSimpArgs false
attribute [local go_sem] Oper.semAt_some

def pgAt (L : List UInt8) (n : Nat) (x : PgI n) : List UInt8 := pageOf (partL L n x.1)
theorem partL_le {L : List UInt8} {n x : Nat} : (partL L n x).length ≤ 240 := by
  have := plen_le n x
  unfold partL
  rw [List.length_take]
  omega
theorem pageOf_get {l : List UInt8} (h : l.length ≤ 240) (j : Nat) (hj : j < 240) : (pageOf l)[j]? = some ((l[j]?).getD 0) := by
  unfold pageOf
  rw [List.getElem?_append]
  split
  · rename_i h1
    rw [List.getElem?_eq_getElem h1]; rfl
  · rename_i h1
    rw [List.getElem?_replicate, if_pos (by omega), List.getElem?_eq_none (by omega)]; rfl
theorem isPut_parts {L : List UInt8} {n : Nat} (h : L.length = n) {xs : List (PgI n)} (hx : xs.map (·.1) = List.range (npg n)) : IsPut L n (xs.map (pgAt L n)) := by
  have hl : xs.length = npg n := by
    have := congrArg List.length hx
    rwa [List.length_map, List.length_range] at this
  refine ⟨by rw [List.length_map, hl], fun i p hp => ?_⟩
  rw [List.getElem?_map] at hp
  obtain ⟨x, hxi, rfl⟩ := Option.map_eq_some_iff.1 hp
  have hix : x.1 = i := by
    have h1 : (xs.map (·.1))[i]? = some x.1 := by rw [List.getElem?_map, hxi]; rfl
    rw [hx, List.getElem?_range (by rw [← hl]; exact (List.getElem?_eq_some_iff.1 hxi).1)] at h1
    cases h1; rfl
  obtain ⟨x, hxn⟩ := x
  dsimp only at hix
  subst hix
  refine ⟨pageOf_len partL_le, fun j hj => ?_⟩
  unfold pgAt
  rw [pageOf_get partL_le j hj]
  dsimp only
  have hp := plen_in hxn
  congr 1
  by_cases hjn : 240 * x + j < n
  · have hjp : j < plen n x := by unfold plen; split <;> omega
    rw [if_pos hjn]
    unfold partL
    rw [List.getElem?_take_of_lt hjp, List.getElem?_drop]
  · rw [if_neg hjn]
    have : plen n x ≤ j := by unfold plen; unfold npg at hxn; split <;> omega
    rw [List.getElem?_eq_none (by have := partL_len h hxn; omega)]; rfl

set_option maxRecDepth 100000 in
set_option maxHeartbeats 2000000 in
theorem puts_any (a0 : Option Addr) (n c : Nat) (L : List UInt8) (w : World) (g0 : Reads w a0 (bts L)) (gn : L.length = n) (hc : n ≤ c) (hn : n ≤ 140737488351232) : Calls Tryz.prog 159 #[.slice a0 n c] w fun e w' => ∃ ao cc bs ps, e = .returned (.slice ao ps.length cc) ∧ IsPut L n ps ∧ OPg w' w.heap.size ao cc bs ps ∧ Chg [] w w' := by
  have cP := pages_any (n : Int) w (by omega)
  rw [npgZ_nat] at cP
  have hnp : npg n ≤ 586406201481 := by unfold npg; omega
  refine (callsIn_wide (n := 3)).1 ?_
  refine callsIn_of_wp_marks Tryz.func159 rfl trivial ?_ rfl
  simp only [Tryz.ntmps159, List.size_toArray, List.length_cons, List.length_nil, Nat.reduceAdd, Nat.reduceSub, Array.replicate_succ, Array.replicate_zero, List.push_toArray, List.append_toArray, List.nil_append, List.cons_append]
  gi_wp2_with (first
    | (refine ⟨trivial, ?_⟩; gi_at_call 157; refine (callsIn_wide.2 cP).mono ?_; rintro e w' ⟨rfl, rfl⟩)
    | (gi_at_make; refine wpListIn_make_k _ rfl _ _ 82 rfl 41 24 eltP w.heap.size .i64 .i64 _ (npg n) rfl rfl rfl (by omega) (by unfold maxLen; omega) (Nat.le_refl _) ?_; intro w1 hr1 hg1)
    | (refine ⟨trivial, ?_⟩; gi_at_call 185; refine (callsIn_wide.2 (parts_any _ _ _ _)).mono ?_; rintro e w' ⟨rfl, rfl⟩))
  obtain ⟨bS, hbS⟩ : ∃ b, w1.heap.size = b := ⟨_, rfl⟩
  have eb := Boxed.new w1 82 (.slice (some ⟨w.heap.size, 0, none⟩) 0 (npg n))
  have ei := Boxed.new (w1.alloc (.cells #[.slice (some ⟨w.heap.size, 0, none⟩) 0 (npg n)] 82)) 41 (.slice a0 n c)
  have eb2 := eb.alloc (.cells #[.slice a0 n c] 41)
  have hfp := fun k (hk : k ∈ fp (some ⟨w.heap.size, 0, none⟩) (npg n)) => (hr1.lt k hk).2
  have hr2 := (hr1.chg (Chg.alloc [] w1 (.cells #[.slice (some ⟨w.heap.size, 0, none⟩) 0 (npg n)] 82)) (by simp)).chg (Chg.alloc [] _ (.cells #[.slice a0 n c] 41)) (by simp)
  have gw : Chg [] w ((w1.alloc (.cells #[.slice (some ⟨w.heap.size, 0, none⟩) 0 (npg n)] 82)).alloc (.cells #[.slice a0 n c] 41)) := (hg1.then (Chg.alloc [] _ _)).then (Chg.alloc [] _ _)
  have hsz : ((w1.alloc (.cells #[.slice (some ⟨w.heap.size, 0, none⟩) 0 (npg n)] 82)).alloc (.cells #[.slice a0 n c] 41)).heap.size = w1.heap.size + 1 + 1 := by simp
  generalize ((w1.alloc (.cells #[.slice (some ⟨w.heap.size, 0, none⟩) 0 (npg n)] 82)).alloc (.cells #[.slice a0 n c] 41)) = wl at *
  simp only [World.size_alloc] at ei
  have hw1 := hg1.size
  rw [hbS] at eb eb2 ei hsz hfp hw1 ⊢
  obtain ⟨iS, hiS⟩ : ∃ b, bS + 1 = b := ⟨_, rfl⟩
  rw [hiS] at ei hsz ⊢
  have hbi : bS ≠ iS := by omega
  have HB := mkHid hiS
  have HSZ := mkHid hsz
  have o0 : OPg wl w.heap.size (some ⟨w.heap.size, 0, none⟩) (npg n) [] [] := ⟨rfl, hr2, fun i b p h => by simp at h, List.nodup_nil, by simp⟩
  have u0 : bS ∉ fp (some ⟨w.heap.size, 0, none⟩) (npg n) := fun hk => by have := hfp _ hk; omega
  have u1 : iS ∉ fp (some ⟨w.heap.size, 0, none⟩) (npg n) := fun hk => by have := hfp _ hk; omega
  have hbw : w.heap.size ≤ bS := hw1
  clear cP hr1 hg1 hfp hr2 hbS hiS hsz eb
  generalize hsw : w.heap.size = sw at *
  refine wpIn_rangeFunc_ownG rfl (by decide) (gf := 202) (lb := #[.pointer (some ⟨iS, 0, none⟩)]) rfl trivial (enters_of Tryz.func202 (by kernel_rfl) rfl)
    (parts_stops (3 - 1) (by decide) iS a0 n c hc hn wl ei.lt ei.cell) KpB.t (fun W l o o' _ h ho _ => KpB.b W l o o' h ho) (Below.refl _ _) (fun _ => rfl)
    (fun pre W => ∃ ao cc bs, Boxed W bS 82 (.slice ao pre.length cc) ∧ OPg W sw ao cc bs (pre.map (pgAt L n)) ∧ bS ∉ fp ao cc ∧ iS ∉ fp ao cc ∧ bS ∉ bs ∧ Chg [] w W ∧ wl.heap.size ≤ W.heap.size)
    (fun _ _ _ => False)
    (ownFrom_side (fun pre W W' ⟨ao, cc, bs, h1, h2, h3, h4, h5, h6, h7⟩ sd => ⟨ao, cc, bs, sd.boxed h1, sd.opg h2, h3, h4, h5, sd.chg h6 gw.size, Nat.le_trans h7 sd.size⟩))
    (fun _ _ _ _ _ hs _ _ => hs)
    ⟨_, _, [], eb2, o0, u0, u1, by simp, gw, Nat.le_refl _⟩
    (fun x => { tmps := #[.slice a0 n c, undef, .slice none 0 0, .pointer (some ⟨bS, 0, none⟩), undef, pval a0 c n x.1, .slice a0 n c, .int .i64 (n : Int), .int .i64 (npg n : Int), .slice (some ⟨sw, 0, none⟩) 0 (npg n), .slice a0 n c, .func (.func 202) #[] #[.pointer (some ⟨iS, 0, none⟩)], .int .i64 (x.1 : Int), pval a0 c n x.1, undef, undef, undef, undef, undef, undef], defers := [] }) ?assign ?body ?done ?stop
  case assign =>
    intro l x W K hK
    dsimp only [pencs]
    gi_wp2
    exact hK
  case body =>
    rintro l pre x W ⟨ao, cc, bs, h1, h2, h3, h4, h5, h6, h7⟩ hlt
    have g1 := partL_reads (x := x.1) ((g0.keep h6).keep (Chg.drew [] W)) gn hc
    have gl := partL_len gn x.2
    have cP := page_1 _ _ (c - 240 * x.1) _ W.drew g1 gl (plen_le n x.1)
    dsimp only [pval]
    refine wpIn_block ?_
    refine walks_up (fun u => u.cell? ⟨bS, 0, none⟩ = some (.slice ao pre.length cc)) 5 (by kernel_rfl) (by kernel_rfl) (fun ⟨_, _, h⟩ => h) rfl ?_
    have c1 : W.drew.cell? ⟨bS, 0, none⟩ = some (.slice ao pre.length cc) := h1.cell
    have hS0 : (fun u : World => u.cell? ⟨bS, 0, none⟩ = some (.slice ao pre.length cc)) W.drew := c1
    refine walks_take 0 (oi := { dst := some 14, op := _, type := _, pos := _, after := _, guard := none }) (v := ?_) rfl (by kernel_rfl) (fun _ _ _ h => h) (Or.inl ⟨by rfl, ?_⟩) (by assumption) ?_
    rotate_left
    · intro u hSu
      try dsimp only at hSu
      go_simp
      try with_reducible rfl
    try simp only [Act.put, List.setIfInBounds_toArray, List.set_cons_zero, List.set_cons_succ]
    refine walks_take 1 (oi := { dst := some 15, op := _, type := _, pos := _, after := _, guard := none }) (v := ?_) rfl (by kernel_rfl) (fun _ _ _ h => h) (Or.inl ⟨by rfl, ?_⟩) (by assumption) ?_
    rotate_left
    · intro u hSu
      try dsimp only at hSu
      go_simp
      try with_reducible rfl
    try simp only [Act.put, List.setIfInBounds_toArray, List.set_cons_zero, List.set_cons_succ]
    refine walks_one 2 (o := { dst := some 16, op := _, type := _, pos := _, after := _, guard := none }) rfl (by decide) (by kernel_rfl) ?_
    intro K hK
    go_simp
    go_at_call 186
    refine cP.mono ?_
    rintro e W1 ⟨b, rfl, hb, hr, hg⟩
    have c2 := hg.cellv c1 (by simp)
    refine hK.out _ _ c2 ?_
    clear hK K
    have hS1 : (fun u : World => u.cell? ⟨bS, 0, none⟩ = some (.slice ao pre.length cc)) W1 := c2
    try simp only [Act.put, List.setIfInBounds_toArray, List.set_cons_zero, List.set_cons_succ]
    refine walks_one 3 (o := { dst := some 17, op := _, type := _, pos := _, after := _, guard := none }) rfl (by decide) (by kernel_rfl) ?_
    intro K hK
    go_simp
    have c3 := (Chg.alloc [] W1 (.cells #[.slice (some ⟨b, 0, none⟩) 240 240] 41)).cellv c2 (by simp)
    refine hK.out _ _ c3 ?_
    clear hK K
    try simp only [Act.put, List.setIfInBounds_toArray, List.set_cons_zero, List.set_cons_succ]
    refine walks_one 4 (o := { dst := some 18, op := _, type := _, pos := _, after := _, guard := none }) rfl (by decide) (by kernel_rfl) ?_
    intro K hK
    have hgW : Chg [] W W1 := (Chg.drew [] W).then hg
    have h2' := h2.keep hgW
    have hsw2 : sw ≤ W1.heap.size := by have := h6.size; have := hgW.size; omega
    have hpl : (pre.map (pgAt L n)).length = pre.length := List.length_map _
    refine step_append_2 rfl (.tmp 14) (.tmp 17) 82 rfl 41 24 eltP sw ao pre.length cc (bs.map pv) rfl (by rw [← hpl]; exact h2'.r) hsw2 (pv b) 1 rfl rfl (by unfold maxLen; omega) (by omega) ?_
    intro ao3 cc3 W3 hr3 hg3 hf3
    have c4 := hg3.cellv c2 h3
    refine hK.out _ _ c4 ?_
    clear hK K
    try simp only [Act.put, List.setIfInBounds_toArray, List.set_cons_zero, List.set_cons_succ]
    refine walks_last 5 (o := { dst := none, op := _, type := _, pos := _, after := _, guard := none }) rfl (by kernel_rfl) (by kernel_rfl) (by decide) ?_
    intro K hK
    have b4 : Boxed W3 bS 82 (.slice ao pre.length cc) := Boxed.chg (Boxed.chg h1 hgW (by simp)) hg3 h3
    have f4 := b4.frozen
    go_simp
    refine hK.out _ _ ?_
    clear hK K
    have hbW : W.heap.size ≤ b := hb
    have hbb : b < W1.heap.size := (hr.lt b (by rw [fp_some _ _ _ (by decide)]; simp)).2
    have hlW : bS < W.heap.size := Boxed.lt h1
    have o3 := h2.snoc (p := pgAt L n x) hgW (hr.mono (by have := h6.size; show sw ≤ W.heap.size; omega)) hbW (by rw [hpl]; exact hr3) hg3 (hf3.imp id (fun e => ⟨_, Nat.le_succ _, e⟩))
    have g4 := Chg.setCell W3 ⟨bS, 0, none⟩ (.slice ao3 (pre.length + 1) cc3)
    have nS3 : bS ∉ fp ao3 cc3 := by
      rcases hf3 with e | e
      · rw [e]; exact h3
      · rw [e]; have := hgW.size; simp; omega
    have nI3 : iS ∉ fp ao3 cc3 := by
      rcases hf3 with e | e
      · rw [e]; exact h4
      · rw [e]; have := hgW.size; have := HSZ.out; simp; omega
    have nB3 : bS ∉ bs ++ [b] := by
      intro hm
      rcases List.mem_append.1 hm with hm | hm
      · exact h5 hm
      · simp at hm; omega
    have gg : Chg (bS :: fp ao cc) W (W3.setCell ⟨bS, 0, none⟩ (.slice ao3 (pre.length + 1) cc3)) :=
      (hgW.trans hg3 (U := bS :: fp ao cc) (by simp) (fun k hk _ => by simp [hk])).trans g4 (fun _ h _ => h) (fun k hk _ => by simp at hk; simp [hk])
    have hown : ∀ k, k ∈ bS :: fp ao cc → ∀ o, W.heap[k]? = some o → o.isCells = true := fun k hk => by
      rcases List.mem_cons.1 hk with rfl | hk
      · exact Boxed.cells h1
      · exact h2.r.cells k hk
    have hnew : ∀ k, k ∈ bS :: fp ao cc → w.heap.size ≤ k := fun k hk => by
      rcases List.mem_cons.1 hk with rfl | hk
      · rw [hsw]; exact hbw
      · rw [hsw]; exact (h2.r.lt k hk).1
    show KeepsFrom _ _ _ ∧ KpB _ _ _ _ ∧ _
    refine ⟨gg.keepsFrom _ hown, KpB.chg gg ?_, ao3, cc3, bs ++ [b], ?_, ?_, nS3, nI3, nB3, ?_, ?_⟩
    · intro hm
      rcases List.mem_cons.1 hm with e | hm
      · exact hbi e.symm
      · exact h4 hm
    · rw [List.length_append]
      exact b4.set _
    · rw [List.map_append]
      exact o3.chg g4 (fun k hk hm => by simp at hm; subst hm; exact nS3 hk) (fun k hk hm => by simp at hm; subst hm; exact nB3 hk)
    · exact h6.trans gg (by simp) (fun k hk hlt => absurd (hnew k hk) (by omega))
    · exact Nat.le_trans h7 gg.size
  case done =>
    rintro D xs W hD hall ⟨ao, cc, bs, h1, h2, h3, h4, h5, h6, h7⟩ hK
    have c1 := h1.cell
    gi_wp2
    have sd := Side.putObj (B := wl.heap.size) (.deferred none) hD hK rfl
    refine ⟨by simp, .inl ⟨_, _, rfl, run_takeDeferred hK, ?_⟩⟩
    exact ⟨_, results_tmp rfl _ _ _, ao, cc, bs, xs.map (pgAt L n), by rw [List.length_map]; rfl, isPut_parts gn hall, by first | exact sd.opg h2 | (rw [hsw]; exact sd.opg h2), sd.chg h6 gw.size⟩
  case stop =>
    rintro D c pre W _ _ h _
    exact h.elim
end Go.Proofs.YtoeijomelabbfaaGreatDoor

/- The landed code: Take, what its rounds say. -/
namespace Go.Proofs.YtoeijomelabbfaaGreatDoor
set_option maxRecDepth 200000
open Go.RowKit
set_option linter.unusedVariables false
set_option linter.unusedSimpArgs false

theorem equal_any (ao : Option Addr) (n c : Nat) (l : List UInt8) (bo : Option Addr) (m d : Nat) (k : List UInt8) (w : World) (h1 : Reads w ao (bts l)) (hn : l.length = n) (h2 : Reads w bo (bts k)) (hm : k.length = m) :
    Calls Tryz.prog 39 #[.slice ao n c, .slice bo m d] w fun e w' => e = .returned (.bool (decide (l = k))) ∧ w = w' := by
  have r1 := run_convert_k (P := Tryz.prog) w 41 5 9 Tryz.underlying41 Tryz.underlying5 Tryz.underlying9 ao n c l h1 hn
  have r2 := run_convert_k (P := Tryz.prog) w 41 5 9 Tryz.underlying41 Tryz.underlying5 Tryz.underlying9 bo m d k h2 hm
  go_enter Tryz.func39, Tryz.ntmps39
  go_wp2
  go_ret
  exact ⟨ret_bool' (by rw [Bool.eq_iff_iff]; simp), rfl⟩

/-- The bytes of a page. -/
theorem page_bytes {L : List UInt8} {n x : Nat} (h : L.length = n) (hx : x < npg n) (j : Nat) (hj : j < 240) : (pageOf (partL L n x))[j]? = some (if 240 * x + j < n then (L[240 * x + j]?).getD 0 else 0) := by
  rw [pageOf_get partL_le j hj]
  have hp := plen_in hx
  congr 1
  by_cases hjn : 240 * x + j < n
  · have hjp : j < plen n x := by unfold plen; split <;> omega
    rw [if_pos hjn]
    unfold partL
    rw [List.getElem?_take_of_lt hjp, List.getElem?_drop]
  · rw [if_neg hjn]
    have : plen n x ≤ j := by unfold plen; unfold npg at hx; split <;> omega
    rw [List.getElem?_eq_none (by have := partL_len h hx; omega)]; rfl
theorem isPut_get {L : List UInt8} {n : Nat} {ps : List (List UInt8)} (h : IsPut L n ps) (hL : L.length = n) {x : Nat} (hx : x < npg n) {p : List UInt8} (hp : ps[x]? = some p) : p = pageOf (partL L n x) := by
  obtain ⟨h1, h2⟩ := h.2 x p hp
  apply List.ext_getElem?
  intro j
  by_cases hj : j < 240
  · rw [h2 j hj, page_bytes hL hx j hj]
  · rw [List.getElem?_eq_none (by omega), List.getElem?_eq_none (by rw [pageOf_len partL_le]; omega)]
theorem isPut_of {L : List UInt8} {n : Nat} {ps : List (List UInt8)} (hL : L.length = n) (hl : ps.length = npg n) (h : ∀ x, x < npg n → ps[x]? = some (pageOf (partL L n x))) : IsPut L n ps := by
  refine ⟨hl, fun i p hp => ?_⟩
  have hi := (List.getElem?_eq_some_iff.1 hp).1
  rw [h i (by omega)] at hp
  cases hp
  exact ⟨pageOf_len partL_le, fun j hj => page_bytes hL (by omega) j hj⟩
/-- A page that its counts do not make: an error. -/
theorem take_bad {ps : List (List UInt8)} {n x : Nat} {p : List UInt8} (hl : ps.length = npg n) (hn : n ≤ 1024) (hx : x < npg n) (hp : ps[x]? = some p) (hbad : p.length = 240 → p ≠ pageOf (p.take (plen n x))) : takeN ps (n : Int) = (5, []) := by
  have h1 : takeN ps (n : Int) = (5, []) ∨ ∃ out, takeN ps (n : Int) = (0, out) := by
    unfold takeN
    rw [if_neg (by omega), Int.toNat_natCast, if_neg (by omega), if_neg (by omega)]
    split
    · split
      · exact Or.inr ⟨_, rfl⟩
      · exact Or.inl rfl
    · exact Or.inl rfl
  rcases h1 with h1 | ⟨out, h1⟩
  · exact h1
  · obtain ⟨h2, h3, _⟩ := take_put h1
    have hol : out.length = n := by omega
    rw [hol] at h3
    have h4 := isPut_get h3 hol hx hp
    have h5 : p.length = 240 := by rw [h4]; exact pageOf_len partL_le
    exfalso
    refine hbad h5 ?_
    have h6 : p.take (plen n x) = partL out n x := by
      rw [h4]
      unfold pageOf
      rw [List.take_append_of_le_length (by rw [partL_len hol hx]; omega), List.take_of_length_le (by rw [partL_len hol hx]; omega)]
    rw [h6]
    exact h4
/-- What copying a page's head into its part leaves. -/
def laidP (M : List UInt8) (n x : Nat) (p : List UInt8) : List UInt8 := M.take (240 * x) ++ (p.take (plen n x) ++ M.drop (240 * x + (p.take (plen n x)).length))
theorem laid_lenK {M : List UInt8} {n x : Nat} (p : List UInt8) (h : M.length = n) (hx : x < npg n) : (laidP M n x p).length = n := by
  have := plen_in hx
  have h1 : (p.take (plen n x)).length ≤ plen n x := by rw [List.length_take]; omega
  unfold laidP
  rw [List.length_append, List.length_append, List.length_drop, List.length_take]
  omega
theorem laid_same {M : List UInt8} {n x : Nat} {p : List UInt8} (h : M.length = n) (hx : x < npg n) (hp : plen n x ≤ p.length) : partL (laidP M n x p) n x = p.take (plen n x) := by
  have := plen_in hx
  have h1 : (p.take (plen n x)).length = plen n x := by rw [List.length_take]; omega
  have h2 : (M.take (240 * x)).length = 240 * x := by rw [List.length_take]; omega
  unfold partL laidP
  rw [List.drop_append_of_le_length (by omega), List.drop_of_length_le (by omega), List.nil_append, List.take_append_of_le_length (by omega), List.take_of_length_le (by omega)]
theorem laid_other {M : List UInt8} {n x y : Nat} {p : List UInt8} (h : M.length = n) (hx : x < npg n) (hy : y < npg n) (hp : plen n x ≤ p.length) (hne : y ≠ x) : partL (laidP M n x p) n y = partL M n y := by
  have h1 := plen_in hx
  have h3 := plen_in hy
  have h5 : (p.take (plen n x)).length = plen n x := by rw [List.length_take]; omega
  have h2 : (M.take (240 * x)).length = 240 * x := by rw [List.length_take]; omega
  have h6 := plen_le n x
  have h7 := plen_le n y
  unfold partL
  apply List.ext_getElem?
  intro j
  rw [List.getElem?_take, List.getElem?_take]
  split
  · rename_i hj
    rw [List.getElem?_drop, List.getElem?_drop]
    unfold laidP
    rcases Nat.lt_or_gt_of_ne hne with hlt | hlt
    · rw [List.getElem?_append_left (by omega), List.getElem?_take_of_lt (by omega)]
    · have h8 : 240 * x + plen n x ≤ 240 * y + j := by omega
      rw [List.getElem?_append_right (by omega), h2, List.getElem?_append_right (by omega), List.getElem?_drop, h5]
      congr 1
      omega
  · rfl
end Go.Proofs.YtoeijomelabbfaaGreatDoor
