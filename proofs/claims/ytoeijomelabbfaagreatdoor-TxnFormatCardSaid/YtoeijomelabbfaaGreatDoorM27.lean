/- Texts Txx, Tya, Tyc, Tyb of the library, joined. -/
import Derived.Test.YtoeijomelabbfaaGreatDoorM14
import Derived.Test.YtoeijomelabbfaaGreatDoorM13
import Derived.Test.YtoeijomelabbfaaGreatDoorM07
import Derived.Test.YtoeijomelabbfaaGreatDoorM04
import Derived.Test.YtoeijomelabbfaaGreatDoorM26
import Derived.Lib.SmallJoins
import Derived.Deep.Slices
/- The law's awake: the document's first examples. -/
namespace Go.Proofs.YtoeijomelabbfaaGreatDoor
set_option maxRecDepth 200000
open Go.RowKit
set_option linter.unusedVariables false
set_option linter.unusedSimpArgs false
attribute [local go_sem ↓] Go.wp_at_zero Go.wp_at_succ

def tag0 : Nat → Nat := fun _ => 0
theorem base0 (w : World) : Base w w tag0 := ⟨Chg.refl _ _, fun _ _ => rfl⟩
theorem p_alloc {w0 w : World} {tag : Nat → Nat} {tb db cb rb n m u : Nat} {P : Pool} (h : HasPool w0 w tag tb db cb rb n m u P) : Calls Tryz.prog 15 #[.pointer (some ⟨rb, 0, none⟩)] w fun e w' => e = .returned (.tuple #[.int .i64 (allocN P.N P.C).1, .int .i64 (allocN P.N P.C).2.1]) ∧ ∃ tag', HasPool w0 w' tag' tb db cb rb n m u { P with N := (allocN P.N P.C).2.2 } ∧ Turn w0.heap.size tag tag' 1 w w' := by
  refine (r_alloc h.r).mono ?_
  rintro e w' ⟨he, tag', r, T⟩
  exact ⟨he, tag', h.refs r T, T⟩
theorem neq16 (u : World) : (binOp .neq 53 (.agg #[.int .u64 1, .int .i64 16, .int .u64 0, .int .u64 1]) (.agg #[.int .u64 1, .int .i64 16, .int .u64 0, .int .u64 1])).run Tryz.prog u = .ok (.bool false) u := by
  have := run_neq_sup u (firstS 16) (firstS 16) (SB.fits_of_may (first_may (by decide))) (SB.fits_of_may (first_may (by decide)))
  simpa [firstS] using this
set_option maxHeartbeats 8000000 in
theorem awake_any (w : World) (hT : Tab w) : Calls Tryz.prog 6 #[] w fun e w' => e = .returned (.bool true) ∧ Chg [] w w' := by
  have cN := v_new 16 (by decide) w w (Chg.refl _ _) tag0 2
  obtain ⟨st1, hF, hS, hL, hg, hl, hc, hf⟩ := format16
  have hn0 := new16
  go_enter Tryz.func6, Tryz.ntmps6
  go_wp2_with fail
  refine cN.mono ?_
  rintro e w1 ⟨db, rfl, t1, hD1, s1⟩
  have b1 := (base0 w).still s1
  have cO := open_pool hD1 b1 (by decide) hT rfl 3 (by decide) hn0
  go_wp2_with fail
  refine cO.mono ?_
  rintro e w2 ⟨rfl, g2⟩
  have hD2 := hD1.still (still_mark t1 9 g2)
  have b2 := b1.still (still_mark t1 9 g2)
  have cF := format_any hD2 b2 hT (by decide) (by decide)
  rw [hF] at cF
  dsimp only at cF
  clear hF hn0 cN cO
  go_wp2_with fail
  refine cF.mono ?_
  rintro e w3 ⟨rfl, t3, hD3, b3, T3⟩
  have cO := open_yes15 hD3 b3 hT hg 3 (by decide) 16 hc (firstS 16) F16 hf rfl
  clear cF
  go_wp2_with fail
  refine cO.mono ?_
  rintro e w4 ⟨tb, cb, rb, rfl, t4, hP4, s4⟩
  have cFr := xfree_yes hP4
  obtain ⟨sb4, ht4⟩ := id hP4.t
  have cS := xsuper_yes ht4
  rw [f16.1] at cFr
  unfold firstS at cS
  dsimp only at cS
  have hneq := neq16
  clear cO
  go_wp2_with (first | (go_at_call 44; refine cFr.mono ?_; rintro e w' ⟨rfl, rfl⟩))
  refine cS.mono ?_
  rintro e w5 ⟨rfl, g5⟩
  have s5 := still_mark t4 9 g5
  have hP5 := hP4.still s5
  obtain ⟨sb5, ht5⟩ := id hP5.t
  have cRf := xrefs_yes ht5
  have cAl := p_alloc hP5
  dsimp only at cAl
  rw [a16.1, a16.2.1] at cAl
  clear cS cFr ht4 ht5
  go_wp2_with (first | (go_at_call 14; refine cRf.mono ?_; rintro e w' ⟨rfl, rfl⟩))
  refine cAl.mono ?_
  rintro e w6 ⟨rfl, t6, hP6, T6⟩
  have hm2 : (nextS (firstS 16)).may = true := by decide
  obtain ⟨K7, st7, e7, -, -, -⟩ := commit_good (n := 16) (m := 3) (P := { ({ K := [], st := st1, N := F16, C := F16, last := firstS 16, now := firstS 16, over := false } : Pool) with N := A16 }) (by decide) (by decide) rfl (calm_nil hS hg hl hc) rfl a16.2.2 hm2 rfl F16 ⟨firstS 16, hf, Nat.le_refl _⟩
  have cCm := xcommit hP6 hT (by decide) (by decide) (by simp) (by dsimp only; rw [hL]; decide)
  rw [show (allocN F16 F16).2.2 = A16 from rfl, e7] at cCm
  dsimp only at cCm
  clear cAl cRf e7 hL hg hl hc hf hS
  go_wp2_with fail
  refine cCm.mono ?_
  rintro e w8 ⟨rfl, t8, hP8, T8⟩
  obtain ⟨sb8, ht8⟩ := id hP8.t
  have cS8 := xsuper_yes ht8
  unfold nextS firstS at cS8
  dsimp only at cS8
  have hfld := fun u => field_sup0 u (.int .u64 2) (.int .i64 16) (.int .u64 0) (.int .u64 1)
  clear cCm ht8
  go_wp2_with fail
  refine cS8.mono ?_
  rintro e w9 ⟨rfl, g9⟩
  have hP9 := hP8.still (still_mark t8 9 g9)
  have cFr9 := xfree_yes hP9
  dsimp only at cFr9
  rw [f16.2.2.1] at cFr9
  clear cS8
  go_wp2_with (first | (go_at_call 44; refine cFr9.mono ?_; rintro e w' ⟨rfl, rfl⟩))
  go_ret
  exact ⟨by simp, hP9.b.c⟩
end Go.Proofs.YtoeijomelabbfaaGreatDoor

/- The argument of TxnFormat, opened. -/
namespace Go.Proofs.YtoeijomelabbfaaGreatDoor
set_option maxRecDepth 200000
open Go.ChangeShapes Go.WideShapes Go.ChangeAt Go.RowKit
set_option linter.unusedVariables false
set_option linter.unusedSimpArgs false
attribute [local go_sem ↓] Go.wp_at_zero Go.wp_at_succ

/-- A list of byte slices, opened. -/
theorem open_pages {H : Type} {enc : TypeId × Value → H} (a0 : Option Addr) (n0 c0 : Nat) (W : World) {d : DataW H} {p : List MemPlace} (k : DataW.Trod enc Tryz.prog W 0 (fun _ => true) true 82 (.slice a0 n0 c0) d p) (hs : Sized Tryz.prog 82 d) :
    ∃ ps : List (List UInt8), n0 ≤ c0 ∧ c0 ≤ maxLen ∧ ps.length = n0 ∧ RdPg W a0 ps ∧ c0 * 24 ≤ 140737488351232 := by
  obtain ⟨m, hm⟩ := k
  rcases Deep.open_slice Tryz.underlying82 hm with ⟨hcs, hx⟩ | ⟨a, len, cap, mm, nn, D, Pl, hcs, _, hl, hmx, hme, hx, hel⟩
  · simp [Value.cells] at hcs
    obtain ⟨rfl, rfl, rfl⟩ := hcs
    exact ⟨[], Nat.le_refl _, Nat.zero_le _, rfl, ⟨[], rfl, Reads.nil _ _, fun i p h => by simp at h⟩, by omega⟩
  · simp [Value.cells] at hcs
    obtain ⟨rfl, rfl, rfl⟩ := hcs
    simp only [Prod.mk.injEq] at hx
    obtain ⟨rfl, _⟩ := hx
    simp only [if_true] at hme
    subst hme
    have hel' := hel
    have hone : ∀ i, i < n0 → ∃ q : (Option Addr × Nat) × List UInt8, W.cell? (a.add i) = some (.slice q.1.1 q.2.length q.1.2) ∧ q.2.length ≤ q.1.2 ∧ q.2.length ≤ 140737488351232 ∧ Reads W q.1.1 (bts q.2) := fun i hi => by
      obtain ⟨cs', h1, h2⟩ := hel i (by omega)
      have e1 : Tryz.prog.cellsOf 41 = 1 := by kernel_rfl
      rw [e1, Nat.mul_one] at h1
      obtain ⟨hcl, _, hcell⟩ := World.cells?_some h1
      match cs', hcl with
      | [u], _ =>
        have e0 := hcell 0 (by omega)
        have hu : ∃ aa ln cp, u = .slice aa ln cp := by
          rcases Deep.open_slice Tryz.underlying41 h2 with ⟨hcs, _⟩ | ⟨aa, ln, cp, _, _, _, _, hcs, _⟩
          · simp at hcs; exact ⟨_, _, _, hcs⟩
          · simp at hcs; exact ⟨_, _, _, hcs⟩
        obtain ⟨aa, ln, cp, rfl⟩ := hu
        obtain ⟨l, r1, r2, r3, r4, r5⟩ := opened_bytes Tryz.underlying41 Tryz.underlying5 (by kernel_rfl) (a := aa) (n := ln) (c := cp) ⟨nn, h2⟩
        have hse : Sized Tryz.prog 41 (D i) := hs.elem Tryz.underlying82 (List.mem_map.2 ⟨i, by simpa using hi, rfl⟩)
        have hsz := hse.slice (bytes := 1) Tryz.underlying41 (by kernel_rfl) r5
        subst r2
        refine ⟨((aa, cp), l), ?_, r3, by show l.length ≤ 140737488351232; omega, r1⟩
        have : (a.add i).add 0 = a.add i := by simp [Addr.add]
        rw [this] at e0
        simpa using e0
    haveI : Inhabited ((Option Addr × Nat) × List UInt8) := ⟨((none, 0), [])⟩
    obtain ⟨f, hf⟩ := Deep.choose_lt hone
    refine ⟨(List.range n0).map fun i => (f i).2, hl, hmx, by simp, ?_, hs.slice (bytes := 24) Tryz.underlying82 (by kernel_rfl) (Or.inr ⟨_, _, rfl, by simp; omega⟩)⟩
    refine ⟨(List.range n0).map fun i => .slice (f i).1.1 (f i).2.length (f i).1.2, by simp, fun h0 => ?_, fun i p hp => ?_⟩
    · simp at h0
      have h1 := (hf 0 h0).1
      have hspot : a.spot = none := by simpa [Addr.add] using World.cell?_spot h1
      obtain ⟨b, o, s⟩ := a
      simp at hspot
      subst hspot
      refine ⟨b, o, rfl, fun j u hu => ?_⟩
      have hj : j < n0 := by have := (List.getElem?_eq_some_iff.1 hu).1; simpa using this
      simp [hj] at hu
      have := (hf j hj).1
      rw [Addr.add_lit] at this
      rw [this, hu]
    · have hi : i < n0 := by have := (List.getElem?_eq_some_iff.1 hp).1; simpa using this
      simp [hi] at hp
      subst hp
      obtain ⟨h1, h2, h3, h4⟩ := hf i hi
      exact ⟨(f i).1.1, (f i).1.2, by simp [hi], h2, h3, h4⟩
theorem open_raw {H : Type} {enc : TypeId × Value → H} {base : Nat} (v : Value) (W : World) {d : DataW H} {p : List MemPlace} (k : DataW.Trod enc Tryz.prog W 0 (fun _ => true) true 84 v d p) (hv : Value.okWide Tryz.prog W .any base 84 v) (hs : Sized Tryz.prog 84 d) :
    ∃ (z : Int) (f : Bool) (a : Option Addr) (n c : Nat) (zs : List Int) (b : Option Addr) (m e : Nat) (ps : List (List UInt8)), v = .agg #[.int .i64 z, .bool f, .slice a n c, .slice b m e] ∧ (-9223372036854775808 ≤ z ∧ z < 9223372036854775808) ∧ Reads W a (zs.map (Value.int .i64)) ∧ zs.length = n ∧ (∀ x ∈ zs, -9223372036854775808 ≤ x ∧ x < 9223372036854775808) ∧ RdPg W b ps ∧ ps.length = m ∧ n ≤ 140737488351232 ∧ m ≤ 140737488351232 := by
  obtain ⟨cs, rfl, hsz⟩ := okWide_struct Tryz.underlying84 hv
  have e4 : Tryz.prog.cellsOf 84 = 4 := by kernel_rfl
  rw [e4] at hsz
  obtain ⟨q, hm⟩ := k
  obtain ⟨y0, y1, y2, y3, q, hx, hl2, h0, h1, h2, h3⟩ := trod_struct4 Tryz.underlying84 hm
  obtain ⟨cl, rfl⟩ : ∃ cl : List Value, cs = cl.toArray := ⟨cs.toList, by simp⟩
  match cl, hsz with
  | [v0, v1, v2, v3], _ =>
    have c0 : Tryz.prog.cellsOf 3 = 1 := by kernel_rfl
    have c1 : Tryz.prog.cellsOf 4 = 1 := by kernel_rfl
    have c2 : Tryz.prog.cellsOf 81 = 1 := by kernel_rfl
    have c3 : Tryz.prog.cellsOf 82 = 1 := by kernel_rfl
    simp only [c0, c1, c2, c3, Value.cells, List.drop_zero, List.drop_succ_cons, List.take_succ_cons, List.take_zero] at h0 h1 h2 h3
    obtain ⟨z, r0, _, wf0⟩ := DataW.trod_int Tryz.underlying3 h0
    obtain ⟨f, r1, _⟩ := DataW.trod_bool Tryz.underlying4 h1
    obtain ⟨a, n, c, r2⟩ := Joins.slice_form Tryz.underlying81 h2
    obtain ⟨b, m, e, r3⟩ := Joins.slice_form Tryz.underlying82 h3
    simp at r0 r1 r2 r3
    subst r0 r1 r2 r3
    obtain ⟨zs, g1, gn1, gc1, gm1, gw1, gd1⟩ := opened_ints Tryz.underlying81 Tryz.underlying3 (by kernel_rfl) ⟨q, h2⟩
    cases hx
    have s2 := (hs.field Tryz.underlying84 (j := 2) rfl rfl).slice (bytes := 8) Tryz.underlying81 (by kernel_rfl) gd1
    have s3 := hs.field Tryz.underlying84 (j := 3) rfl rfl
    obtain ⟨ps, hn0, hc9, hps, hrd, hb9⟩ := open_pages b m e W ⟨q, h3⟩ s3
    exact ⟨z, f, a, n, c, zs, b, m, e, ps, rfl, wf_i64 wf0, g1, gn1, fun x hx => wf_i64 (gw1 x hx), hrd, hps, by omega, by omega⟩
end Go.Proofs.YtoeijomelabbfaaGreatDoor

/- Crash, whose picks are asked about only where they are read. -/
namespace Go.Proofs.YtoeijomelabbfaaGreatDoor
set_option maxRecDepth 200000
open Go.RowKit
set_option linter.unusedVariables false
set_option linter.unusedSimpArgs false
attribute [local go_sem ↓] Go.wp_at_zero Go.wp_at_succ wide65
attribute [local go_sem] run_wide
set_option maxRecDepth 100000 in
set_option maxHeartbeats 2000000 in
theorem dcrash_any0 (B db : Nat) (g : DG) (fa : Option Addr) (cf : Nat) (st : RS) (w : World) (h : DevAt w B db g fa cf st)
    (ap : Option Addr) (np cp : Nat) (ps : List UInt8) (gp : Reads w ap (bts ps)) (gn : ps.length = np) (hnp : np ≤ maxLen) (hap : 0 < ps.length → ∀ k, k ∈ blk ap → k ∉ DF db g fa cf) :
    Calls Tryz.prog 35 #[.pointer (some ⟨db, 0, none⟩), .slice ap np cp] w fun e w' => e = .returned (.tuple #[]) ∧ DevAt w' B db g none 0 (crash st ps) ∧ Chg [g.lb, g.nb, db] w w' := by
  have hn1 := h.rL.le
  have hn2 := h.rL.max
  unfold maxLen at hn2 hnp
  have c0 := h.c0
  have c1 := h.c1
  obtain ⟨Z, hZ⟩ : ∃ Z, Z = st.L.zip ps := ⟨_, rfl⟩
  have hzl : Z.length = min st.L.length np := by rw [hZ, List.length_zip, gn]
  have HZ := mkHid hZ
  have hapl : 0 < ps.length → ∀ k, k ∈ blk ap → k ∉ [g.lb] := fun h0 k hk hm => hap h0 k hk (by simp at hm; simp [DF, hm])
  go_enter Tryz.func35, Tryz.ntmps35
  go_wp2_with (first | (go_at_call 99; refine (made_yes db _ _ _ _ w c0).mono ?_; rintro e w' ⟨rfl, rfl⟩))
  go_loopw [14] (fun i wr => ∃ (k : Nat), i = .int .i64 k ∧ k ≤ st.L.length ∧ DevAt wr B db g fa cf { st with S := torn st.S (Z.take k) } ∧ Chg [g.lb] w wr) (fun i _ => st.L.length - (Go.RowKit.intOf i).toNat)
  case atStart => exact ⟨0, rfl, by omega, h, Chg.refl _ _⟩
  case round =>
    obtain ⟨k, rfl, hk, hr, hc⟩ := hrel
    by_cases hlt : k < st.L.length
    · obtain ⟨s, l, hsl⟩ : ∃ s l, st.L[k] = (s, l) := ⟨_, _, rfl⟩
      have hL := h.lL _ (List.getElem_mem hlt)
      rw [hsl] at hL
      obtain ⟨fb, fo, rfl, _, _, _, hcf⟩ := hr.rL.at_ (by omega)
      have hrg : wr.rangeAt fb (fo + k * 65) (flyV (s, l)) := fun j u hu => by
        have := hcf (k * 65 + j) u (flyC_get st.L k hlt (fun f hf => (h.lL f hf).1) j u (by rw [hsl]; exact hu))
        rw [← this]
        congr 2
        omega
      have hki : (k : Int) < (st.L.length : Int) := by omega
      have hfl := flyV_len hL.1
      have Hfl := mkHid hfl
      obtain ⟨hL1, hL2⟩ := hL
      have HL1 := mkHid hL1
      have hkL : decide ((k : Int) < (st.L.length : Int)) = true := decide_eq_true hki
      clear hcf hfl hL1
      by_cases hkp : k < np
      · have hlP : k < ps.length := by omega
        have hkz : k < Z.length := by omega
        obtain ⟨pb, po, rfl, hpc⟩ := (gp.chg0 hc (fun hx => hapl (by rwa [bts_length] at hx))) (by rw [bts_length]; omega)
        have x3 := hpc k _ (bts_get ps k hlP)
        have hpbl : pb ≠ g.lb := fun e => hapl (by omega) pb (by simp [blk]) (by simp [e])
        obtain ⟨x, hx⟩ : ∃ x, x = ps[k] := ⟨_, rfl⟩
        rw [← hx] at x3
        have hge : Z[k] = ((s, l), x) := by simp only [hZ, List.getElem_zip, hsl, hx]
        have hstep := torn_succ st.S Z k hkz
        rw [hge] at hstep
        unfold tear at hstep
        obtain ⟨p, hp⟩ : ∃ p, p = x.toNat := ⟨_, rfl⟩
        have hp256 : p < 256 := by rw [hp]; exact x.toNat_lt
        simp only [← hp] at hstep x3
        obtain ⟨q, hq⟩ : ∃ q, q = if p = 0 then 0 else if p = 1 then 64 else (p - 2) % 65 := ⟨_, rfl⟩
        have hq64 : q ≤ 64 := by rw [hq]; split; omega; split <;> omega
        have hstep2 : torn st.S (Z.take (k + 1)) = laid (torn st.S (Z.take k)) s l q := by
          rw [hstep, hq]
          by_cases h0 : p = 0
          · rw [if_pos h0, if_pos h0, laid_none _ _ _ (by rw [torn_len]; exact hL2)]
          · rw [if_neg h0, if_neg h0]
        have Hst := mkHid hstep2
        have HQ := mkHid hq
        have hkP : decide ((k : Int) < (np : Int)) = true := decide_eq_true (by omega)
        have hsT : s < (torn st.S (Z.take k)).length := by rw [torn_len]; exact hL2
        have hkn : (k : Int) < (np : Int) := by omega
        clear hpc hstep hstep2 hge hx hp hsl hZ hq gp
        go_wp2_with (first | (refine wpList_load_w rfl 156 (.tmp 17) rfl flyZ wideW fb (fo + k * 65) (flyV (s, l)) hrg Hfl.out rfl ?_) | (refine wpList_alloc_w rfl 156 rfl flyZ wideW ?_; intro w1 hb1 hg1 hs1) | (refine wpList_store_w rfl 156 (.tmp 5) (.tmp 18) rfl flyZ wideW _ flyZ (flyV (s, l)) hb1 rfl Hfl.out (flyV_one _) rfl rfl ?_; intro w2 hb2 hg2 hs2; have hg12 : Chg [] wr w2 := hg1.trans hg2 (fun _ h _ => h) (fun k hk hlt => by simp at hk; omega)))
        have hlbl : g.lb < wr.heap.size := (hr.lt g.lb (by simp [DF])).2
        generalize hb1e : wr.heap.size = b1 at *
        have hne1 : b1 ≠ g.lb := by omega
        have x4 := hg12.cellv x3 (by simp)
        have hr2 := hr.keep (hg12.then (Chg.drew [] w2))
        clear hg1 hg2 hb1 x3 hrg
        go_region_held3 (fun w' => w'.cell? ⟨pb, po + k, none⟩ = some (.int .u8 (p : Nat)) ∧ Blk w' b1 156 (flyV (s, l)) ∧ thereB w' b1 0 65 = true ∧ cellsAt w' b1 0 65 = flyV (s, l))
          (first | exact keepP (lb := g.lb) Hfl.out ⟨x4, hb2, there_of_range hb2.range Hfl.out⟩ (Chg.drew _ _) hpbl hne1 | exact keepP (lb := g.lb) Hfl.out (by assumption) hg3 hpbl hne1)
          (first | (go_at_call 101; refine (lasts_as p q hp256 HQ.out _).mono ?_; rintro e w' ⟨rfl, rfl⟩) | (go_at_call 100; refine (land_any s q l B db g _ cf _ _ hr2 HL1.out hsT hq64).mono ?_; rintro e w3 ⟨rfl, h3, hg3⟩))
        go_wp2_with fail
        refine ⟨⟨k + 1, by go_num, by omega, by rw [Hst.out]; exact h3, ((hc.then hg12).then (Chg.drew [] _)).trans hg3 (fun _ h _ => h) (fun _ h _ => h)⟩, by simp [Go.RowKit.intOf]; omega⟩
      · have hkP : decide ((k : Int) < (np : Int)) = false := decide_eq_false (by omega)
        have e1 : Z.take (k + 1) = Z.take k := by rw [List.take_of_length_le (by omega), List.take_of_length_le (by omega)]
        have He1 := mkHid e1
        clear e1 hsl
        go_wp2_with (first | (refine wpList_load_w rfl 156 (.tmp 17) rfl flyZ wideW fb (fo + k * 65) (flyV (s, l)) hrg Hfl.out rfl ?_) | (refine wpList_alloc_w rfl 156 rfl flyZ wideW ?_; intro w1 hb1 hg1 hs1) | (refine wpList_store_w rfl 156 (.tmp 5) (.tmp 18) rfl flyZ wideW _ flyZ (flyV (s, l)) hb1 rfl Hfl.out (flyV_one _) rfl rfl ?_; intro w2 hb2 hg2 hs2; have hg12 : Chg [] wr w2 := hg1.trans hg2 (fun _ h _ => h) (fun k hk hlt => by simp at hk; omega)))
        refine ⟨⟨k + 1, by go_num, by omega, by rw [He1.out]; exact hr.keep hg12, hc.then hg12⟩, by simp [Go.RowKit.intOf]; omega⟩
    · have hkz : k = st.L.length := by omega
      have e1 : Z.take k = Z := List.take_of_length_le (by omega)
      rw [e1] at hr
      have hkL : decide ((k : Int) < (st.L.length : Int)) = false := decide_eq_false (by omega)
      clear hkz e1
      have fin : ∀ w4, DevAt w4 B db g none 0 { st with S := torn st.S Z, L := [] } → DevAt ((w4.setCell ⟨db, 3, none⟩ (.int .i64 0)).setCell ⟨db, 4, none⟩ (.bool false)) B db g none 0 (crash st ps) ∧ Chg [db] w4 ((w4.setCell ⟨db, 3, none⟩ (.int .i64 0)).setCell ⟨db, 4, none⟩ (.bool false)) := fun w4 h4 => by
        have a1 : DevAt (w4.setCell ⟨db, 3, none⟩ (.int .i64 0)) B db g none 0 { st with S := torn st.S Z, L := [], left := 0 } := h4.left 0 (by decide)
        refine ⟨?_, (Chg.setCell w4 ⟨db, 3, none⟩ _).trans (Chg.setCell _ ⟨db, 4, none⟩ _) (fun _ h _ => h) (fun _ h _ => h)⟩
        unfold crash
        rw [← HZ.out]
        exact a1.setF (Chg.setCell _ ⟨db, 4, none⟩ _) (by rw [World.cell?_setCell_other _ _ _ _ (by simp)]) (by rw [World.cell?_setCell_other _ _ _ _ (by simp)]) (by rw [World.cell?_setCell_other _ _ _ _ (by simp)]) (by rw [World.cell?_setCell_other _ _ _ _ (by simp)]; exact a1.c3) (World.cell?_setCell_same _ _ _ a1.c4) (fun j hj => by rw [World.frozen?_setCell]; exact a1.fz j hj) rfl rfl (by show 0 < _; decide)
      go_wp2_with (first | (go_at_call 102; refine (calm_any B db g fa cf _ wr hr).mono ?_; rintro e w4 ⟨rfl, h4, hg4⟩; have k3 := h4.c3; have k4 := h4.c4; have k5 := h4.fz 3 (by decide); have k6 := h4.fz 4 (by decide)))
      go_end0
      obtain ⟨y1, y2⟩ := fin _ h4
      exact ⟨rfl, y1, (hc.trans hg4 (fun k hk _ => by simp at hk ⊢; exact Or.inl hk) (fun k hk _ => by simp at hk ⊢; exact Or.inr hk)).trans y2 (fun _ h _ => h) (fun k hk _ => by simp at hk ⊢; exact Or.inr (Or.inr hk))⟩
end Go.Proofs.YtoeijomelabbfaaGreatDoor

/- TxnFormat: what is wanted of it. -/
namespace Go.Proofs.YtoeijomelabbfaaGreatDoor
set_option maxRecDepth 200000
open Go.RowKit
set_option linter.unusedVariables false
set_option linter.unusedSimpArgs false
attribute [local go_sem ↓] Go.wp_at_zero Go.wp_at_succ

theorem v_crash0 {w0 w : World} {tag : Nat → Nat} {i db : Nat} {st : RS} (h : HasDev w0 w tag i db st) (ap : Option Addr) (np cp : Nat) (ps : List UInt8) (gp : Reads w ap (bts ps)) (gn : ps.length = np) (hnp : np ≤ maxLen) (hap : 0 < ps.length → ∀ k, k ∈ blk ap → tag k ≠ i) :
    Calls Tryz.prog 35 #[.pointer (some ⟨db, 0, none⟩), .slice ap np cp] w fun e w' => e = .returned (.tuple #[]) ∧ ∃ tag', HasDev w0 w' tag' i db (crash st ps) ∧ Turn w0.heap.size tag tag' i w w' := by
  obtain ⟨g, fa, cf, d, hW, ht⟩ := h
  refine (dcrash_any0 w0.heap.size db g fa cf st w d ap np cp ps gp gn hnp (fun h0 k hk hm => hap h0 k hk (ht k hm))).mono ?_
  rintro e w' ⟨he, h2, hg2⟩
  exact ⟨he, HasDev.step (fun k hk => DF_three hk) (fun k hk => ⟨d.lt k hk, ht k hk⟩) h2 (crash_whole ps hW) hg2 (DF_later (fun k hk => by rw [fp_zero] at hk; simp at hk))⟩
theorem eq_first (n : Nat) (hn : 16 ≤ n ∧ n ≤ 60) (u : World) : (binOp .eql 53 (.agg #[.int .u64 1, .int .i64 (n : Int), .int .u64 0, .int .u64 1]) (.agg #[.int .u64 1, .int .i64 (n : Int), .int .u64 0, .int .u64 1])).run Tryz.prog u = .ok (.bool true) u := by
  have h1 := first_may (n := n) (by omega)
  have := run_eql_sup u (firstS n) (firstS n) (SB.fits_of_may h1) (SB.fits_of_may h1)
  simpa [firstS] using this
theorem eq_other (n : Nat) (hn : 16 ≤ n ∧ n ≤ 60) (s : SB) (hs : s.may = true) : ∃ r : Bool, ∀ u : World, (binOp .eql 53 (.agg #[.int .u64 s.G, .int .i64 s.B, .int .u64 s.D, .int .u64 s.X]) (.agg #[.int .u64 1, .int .i64 (n : Int), .int .u64 0, .int .u64 1])).run Tryz.prog u = .ok (.bool r) u := by
  have h1 := first_may (n := n) (by omega)
  refine ⟨decide (s = firstS n), fun u => ?_⟩
  have := run_eql_sup u s (firstS n) (SB.fits_of_may hs) (SB.fits_of_may h1)
  simpa [firstS] using this
theorem free_arith (n M : Nat) (hn : 16 ≤ n ∧ n ≤ 60) (hM : n - 4 = M) : (M : Int) = IntKind.i64.wrap (IntKind.i64.wrap ((n : Int) - 2) - IntKind.i64.wrap (2 * IntKind.i64.wrap ((IntKind.i64.wrap ((n : Int) + 239)).tdiv 240))) := by
  have h1 : IntKind.i64.wrap ((n : Int) + 239) = (n : Int) + 239 := by rw [IntKind.wrap_i64]; omega
  have h2 : IntKind.i64.wrap ((n : Int) - 2) = (n : Int) - 2 := by rw [IntKind.wrap_i64]; omega
  have h3 : ((n : Int) + 239).tdiv 240 = 1 := by rw [Int.tdiv_eq_ediv_of_nonneg (by omega)]; omega
  have h4 : IntKind.i64.wrap 1 = 1 := by decide +kernel
  have h5 : IntKind.i64.wrap (2 * 1) = 2 := by decide +kernel
  rw [h1, h2, h3, h4, h5, IntKind.wrap_i64]
  omega
theorem free_fresh : ∀ n, n < 61 → 16 ≤ n → (freeL (freeI (freshN n) (freshN n))).length = n - 4 := by decide +kernel
/-- The disk while it is written and behind, of n blocks, all calm. -/
structure Fine (n : Nat) (st : RS) : Prop where
  c : st.count = n
  g : st.gone = false
  l : st.left = 0
theorem crash_fine {n : Nat} {st : RS} (h : st.count = n) (ps : List UInt8) : Fine n (crash st ps) ∧ (crash st ps).L = [] := ⟨⟨h, rfl, rfl⟩, rfl⟩
/-- Format again, and Open. -/
theorem again {st : RS} {n : Nat} (hs : Sound st) (hf : Fine n st) (hn : 16 ≤ n ∧ n ≤ 1024) : ∃ st', formatA st = (0, st') ∧ st'.L = [] ∧ st'.count = n ∧ foundA (crash st' []) = some (firstS n, freshN n) := by
  obtain ⟨st', e, _, l, _, _, c, f⟩ := format_goodA (st := st) (by rw [hf.c]; exact hn) hs hf.g hf.l
  rw [hf.c] at c f
  exact ⟨st', e, l, c, by rw [found_crash l]; exact f⟩
/-- Format with a fuse, a crash behind it. -/
theorem fused {st : RS} {n fu : Nat} (hs : Sound st) (hf : Fine n st) (hn : 16 ≤ n ∧ n ≤ 1024) (picks : List UInt8) :
    ((formatA (lf st fu)).1 = 9 ∧ fu ≠ 0) ∨ ((formatA (lf st fu)).1 = 0 ∧ foundA (crash (formatA (lf st fu)).2 picks) = some (firstS n, freshN n)) := by
  by_cases h0 : fu = 0
  · right
    subst h0
    have e0 : lf st 0 = st := by unfold lf; rw [← hf.l]
    obtain ⟨st', e, _, l, _, _, c, f⟩ := format_goodA (st := st) (by rw [hf.c]; exact hn) hs hf.g hf.l
    rw [e0, e]
    refine ⟨rfl, ?_⟩
    dsimp only
    rw [found_crash l, f, hf.c]
  · rcases format_fused (st := st) (by rw [hf.c]; exact hn) hs hf.g hf.l fu with h | ⟨h1, h2, h3, h4⟩
    · exact Or.inl ⟨h, h0⟩
    · right
      refine ⟨h1, ?_⟩
      rw [found_crash h2, h4, hf.c]
theorem format_count {st : RS} : (formatA st).2.count = st.count := by
  unfold formatA
  dsimp only
  have key : ∀ (fs : List (KS → Int × KS)), (∀ f ∈ fs, ∀ x, (f x).2.2.count = x.2.count) → ∀ x, (runA fs x).2.2.count = x.2.count := by
    intro fs
    induction fs with
    | nil => intro _ x; rfl
    | cons f r ih =>
      intro h x
      show (if (f x).1 = 0 then runA r (f x).2 else f x).2.2.count = _
      split
      · rw [ih (fun f hf => h f (by simp [hf])), h f (by simp)]
      · exact h f (by simp) x
  have kp : ∀ m K (st : RS) z b, (kput m K st z b).2.2.count = st.count := by
    intro m K st z b
    have kw : ∀ (x : KE), (kwrote x st).2.count = st.count := fun x => by
      unfold kwrote
      split
      · exact (wrt_small st _ _).2
      · rfl
    have kr : (kroom m K st).2.2.count = st.count := by
      unfold kroom
      split
      · rfl
      · split
        · rfl
        · split
          · exact kw _
          · exact kw _
    unfold kput
    split
    · rfl
    · split
      · rfl
      · split
        · rfl
        · split
          · exact kr
          · exact kr
  have kb : ∀ x, (barA x).2.2.count = x.2.count := by
    intro x
    show (barrier x.2).2.count = _
    have hb : (burn x.2).2.count = x.2.count := by
      unfold burn
      split
      · rfl
      · split <;> rfl
    unfold barrier
    split
    · rfl
    · split
      · exact hb
      · exact hb
  have kf : ∀ x, (flushA x).2.2.count = x.2.count := by
    have kl : ∀ (r K : List KE) (st : RS), (kflushL r K st).2.2.count = st.count := by
      intro r
      induction r with
      | nil => intro K st; rfl
      | cons y r ih =>
        intro K st
        unfold kflushL
        split
        · rw [ih, (wrt_small st _ _).2]
        · exact (wrt_small st _ _).2
    intro x
    show (kflush x.1 x.2).2.2.count = _
    unfold kflush
    split
    · rfl
    · exact kl _ _ _
  have kpg : ∀ m (ps : List (List UInt8)) a x, (pagesA m ps a x).2.2.count = x.2.count := by
    intro m ps
    induction ps with
    | nil => intro a x; rfl
    | cons p r ih =>
      intro a x
      show (if (pageA m a p x).1 = 0 then pagesA m r (a + 1) (pageA m a p x).2 else pageA m a p x).2.2.count = _
      split
      · rw [ih]; exact kp _ _ _ _ _
      · exact kp _ _ _ _ _
  refine key _ (fun f hf x => ?_) ([], st)
  simp only [List.mem_cons, List.not_mem_nil, or_false] at hf
  rcases hf with rfl | rfl | rfl
  · refine key _ (fun f hf x => ?_) x
    simp only [List.mem_cons, List.not_mem_nil, or_false] at hf
    rcases hf with rfl | rfl
    · exact (wrt_small x.2 _ _).2
    · exact (wrt_small x.2 _ _).2
  · exact kb x
  · refine key _ (fun f hf x => ?_) x
    simp only [laySteps, List.mem_cons, List.not_mem_nil, or_false] at hf
    rcases hf with rfl | rfl | rfl | rfl | rfl | rfl
    · exact kpg _ _ _ x
    · exact kf x
    · exact kb x
    · unfold supA
      split
      · exact kp _ _ _ _ _
      · rfl
    · exact kf x
    · exact kb x
end Go.Proofs.YtoeijomelabbfaaGreatDoor
