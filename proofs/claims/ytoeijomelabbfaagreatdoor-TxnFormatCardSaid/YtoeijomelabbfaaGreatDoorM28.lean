/- Texts Tyz of the library, joined. -/
import Derived.Test.YtoeijomelabbfaaGreatDoorM27
import Derived.Deep.DeepCutAuto
import Derived.Deep.CutBlock
/- TxnFormat. -/
namespace Go.Proofs.YtoeijomelabbfaaGreatDoor
set_option maxRecDepth 200000
open Go.RowKit
set_option linter.unusedVariables false
set_option linter.unusedSimpArgs false
attribute [local go_sem ↓] Go.wp_at_zero Go.wp_at_succ

theorem copied_raw (w : World) (l : List UInt8) (hl : l.length ≤ 256) : ∃ R : List UInt8, R.length = 256 ∧ Room ((w.alloc (.cells (madeCells #[.int .u8 0] 256) 5)).setCells w.heap.size 0 (bts l)) w.heap.size (some ⟨w.heap.size, 0, none⟩) 256 256 (bts R) := by
  have h0 := made_room w 5 (.int .u8 0) 256 (by decide)
  have h1 := h0.sets (bts l) 0 (by rw [bts_length]; omega)
  rw [List.take_zero, List.nil_append, bts_length, List.drop_replicate, Nat.zero_add] at h1
  refine ⟨l ++ List.replicate (256 - l.length) 0, by simp; omega, ?_⟩
  have e : bts l ++ List.replicate (256 - l.length) (Value.int .u8 0) = bts (l ++ List.replicate (256 - l.length) 0) := by rw [bts_append, bts_rep]
  rw [← e]
  simpa using h1
set_option maxHeartbeats 20000000 in
theorem format_core (z : Int) (hz : -9223372036854775808 ≤ z ∧ z < 9223372036854775808) (fl : Bool) (a : Option Addr) (na ca : Nat) (zs : List Int) (b : Option Addr) (mb cb : Nat) (ps : List (List UInt8)) (fu : Nat) (hfu : fu < 256) (ap : Option Addr) (np cp : Nat) (picks : List UInt8) (w : World) (hT : Tab w)
    (gz : Reads w a (zs.map (Value.int .i64))) (lz : zs.length = na) (wz : ∀ x ∈ zs, -9223372036854775808 ≤ x ∧ x < 9223372036854775808) (gb : RdPg w b ps) (lb : ps.length = mb) (hna : na ≤ 140737488351232) (hmb : mb ≤ 140737488351232) (gp : Reads w ap (bts picks)) (lp : picks.length = np) (hp : np ≤ 140737488351232) :
    Calls Tryz.prog 4 #[.agg #[.int .i64 z, .bool fl, .slice a na ca, .slice b mb cb], .int .u8 (fu : Int), .slice ap np cp] w fun e w' => e = .returned (.bool true) ∧ Chg [] w w' := by
  have hl := heap_alloc_last w (.cells #[.int .i64 z, .bool fl, .slice a na ca, .slice b mb cb] 84)
  have hc := fun j => cell_of_row _ w.heap.size j _ _ _ hl
  have c0 : (w.alloc (.cells #[.int .i64 z, .bool fl, .slice a na ca, .slice b mb cb] 84)).cell? ⟨w.heap.size, 0, none⟩ = some (.int .i64 z) := by rw [hc]; rfl
  have c2 : (w.alloc (.cells #[.int .i64 z, .bool fl, .slice a na ca, .slice b mb cb] 84)).cell? ⟨w.heap.size, 2, none⟩ = some (.slice a na ca) := by rw [hc]; rfl
  have c3 : (w.alloc (.cells #[.int .i64 z, .bool fl, .slice a na ca, .slice b mb cb] 84)).cell? ⟨w.heap.size, 3, none⟩ = some (.slice b mb cb) := by rw [hc]; rfl
  have g0 := Chg.alloc [] w (.cells #[.int .i64 z, .bool fl, .slice a na ca, .slice b mb cb] 84)
  clear hl hc
  obtain ⟨U, hU⟩ : ∃ U : Nat, IntKind.u64.wrap z = (U : Int) := ⟨(z % 18446744073709551616).toNat, by rw [IntKind.wrap_u64]; omega⟩
  obtain ⟨r, hr⟩ : ∃ r, U % 45 = r := ⟨_, rfl⟩
  have hr45 : r < 45 := by omega
  have hrI : (U : Int) % 45 = (r : Int) := by omega
  obtain ⟨n, hn⟩ : ∃ n, 16 + r = n := ⟨_, rfl⟩
  have hw1 : IntKind.i64.wrap (r : Int) = (r : Int) := by rw [IntKind.wrap_i64]; omega
  have hw2 : IntKind.i64.wrap (16 + (r : Int)) = (n : Int) := by rw [IntKind.wrap_i64]; omega
  have hn60 : 16 ≤ n ∧ n ≤ 60 := by omega
  have cA := awake_any _ (hT.then g0)
  have HZ := mkHid (And.intro gz (And.intro lz (And.intro wz (And.intro gb (And.intro lb (And.intro gp lp))))))
  clear gz wz gb gp hr hn
  go_enter Tryz.func4, Tryz.ntmps4
  go_wp2_with fail
  refine cA.mono ?_
  rintro e w2 ⟨rfl, g2⟩
  have x0 := g2.cellv c0 (by simp)
  have x2 := g2.cellv c2 (by simp)
  have x3 := g2.cellv c3 (by simp)
  have G2 := g0.then g2
  have cN := v_new n (by omega) w w2 G2 tag0 2
  have hbx : w.heap.size < w2.heap.size := block_lt_of_cell x0
  clear cA c0 c2 c3 g0 g2
  go_wp2_with fail
  refine cN.mono ?_
  rintro e w3 ⟨db, rfl, t3, hD3, s3⟩
  have y2 := s3.1.cellv x2 (by simp)
  have y3 := s3.1.cellv x3 (by simp)
  have b3 := ((base0 w).keep G2).still s3
  have t3b : t3 w.heap.size = 0 := (s3.2 _ hbx).trans rfl
  clear x0 x2 x3 cN G2 hbx hw1 hw2 hrI hU
  generalize w.heap.size = bx at *
  go_upto_block 0 with fail
  go_cut [] (fun wx => ∃ (tg : Nat → Nat) (st : RS), HasDev w wx tg 2 db st ∧ Base w wx tg ∧ Fine n st ∧ st.L.length ≤ 200)
  case first =>
    go_wp2_with fail
    go_loopw [33] (fun iv wr => ∃ (k : Nat) (tg : Nat → Nat) (st : RS), iv = .int .i64 k ∧ k ≤ na ∧ k ≤ mb ∧ k ≤ 50 ∧ HasDev w wr tg 2 db st ∧ Base w wr tg ∧ Fine n st ∧ st.L.length = 4 * k ∧ wr.cell? ⟨bx, 2, none⟩ = some (.slice a na ca) ∧ wr.cell? ⟨bx, 3, none⟩ = some (.slice b mb cb) ∧ tg bx = 0) (fun iv _ => na - (Go.RowKit.intOf iv).toNat)
    case atStart => exact ⟨0, t3, RS.new n, rfl, Nat.zero_le _, Nat.zero_le _, Nat.zero_le _, hD3, b3, ⟨rfl, rfl, rfl⟩, rfl, y2, y3, t3b⟩
    case round =>
      clear hD3 b3 y2 y3 t3b s3
      obtain ⟨k, tg, st, rfl, hk, hk2, hk3, hD, hb, hF, hL, v2, v3, tb0⟩ := hrel
      by_cases hlt : k < na
      · have d1 : decide (k < na) = true := decide_eq_true hlt
        have d2 : decide ((k : Int) < (na : Int)) = true := decide_eq_true (by omega)
        obtain ⟨gz, lz2, wz, gb, lb2, gp, lp2⟩ := HZ.out
        have hkz : k < zs.length := by omega
        obtain ⟨q, hq⟩ : ∃ q, zs[k]? = some q := ⟨_, List.getElem?_eq_getElem hkz⟩
        have hqv : (zs.map (Value.int .i64))[k]? = some (.int .i64 q) := by rw [List.getElem?_map, hq]; rfl
        have hqw := wz q (List.mem_of_getElem? hq)
        obtain ⟨xb, xo, rfl, ck, _⟩ := reads_lt (gz.keep hb.c) k _ hqv
        clear gz wz hqv hq hkz
        by_cases hm : k = mb
        · have e1 : ((k : Int) == (mb : Int)) = true := by simp; omega
          have e2 : (k == mb) = true := by simp [hm]
          clear gb
          have HM := mkHid hm
          clear hm
          go_wp2_with fail
          go_meet
          exact ⟨tg, st, hD, hb, hF, by omega⟩
        · have e1 : ((k : Int) == (mb : Int)) = false := beq_eq_false_iff_ne.2 (by omega)
          have e2 : (k == mb) = false := beq_eq_false_iff_ne.2 hm
          by_cases h50 : k = 50
          · subst h50
            go_wp2_with fail
            go_meet
            exact ⟨tg, st, hD, hb, hF, by omega⟩
          · have e3 : ((k : Int) == 50) = false := beq_eq_false_iff_ne.2 (by omega)
            have e4 : (k == 50) = false := beq_eq_false_iff_ne.2 h50
            have hkm : k < mb := by omega
            have hki : (k : Int) < (mb : Int) := by omega
            have hp1 : ps[k]? = some ps[k] := List.getElem?_eq_getElem (by omega)
            obtain ⟨yb, yo, pa, pc, rfl, hcp, hpc, hpl, hpr⟩ := (gb.keep hb.c).at_ hp1
            obtain ⟨pp, hpp⟩ : ∃ pp, ps[k] = pp := ⟨_, rfl⟩
            rw [hpp] at hcp hpc hpl hpr
            obtain ⟨pn_, hpn⟩ : ∃ m, pp.length = m := ⟨_, rfl⟩
            rw [hpn] at hcp hpc hpl
            have hmk : ∀ u : World, (Instr.makeSlice 41 (.int .i64 256) (.int .i64 256)).run Tryz.prog u = .ok (.slice (some ⟨u.heap.size, 0, none⟩) 256 256) (u.alloc (.cells (madeCells #[.int .u8 0] 256) 5)) := hmk 256 (by decide)
            obtain ⟨Q, hQ⟩ : ∃ Q : Nat, IntKind.u64.wrap q = (Q : Int) := ⟨(q % 18446744073709551616).toNat, by rw [IntKind.wrap_u64]; omega⟩
            obtain ⟨j, hj⟩ : ∃ j, Q % n = j := ⟨_, rfl⟩
            have hjn : j < n := by rw [← hj]; exact Nat.mod_lt _ (by omega)
            have hq2 : IntKind.u64.wrap (n : Int) = (n : Int) := by rw [IntKind.wrap_u64]; omega
            have hq3 : (Q : Int) % (n : Int) = (j : Int) := by rw [← hj]; simp
            have hq4 : IntKind.i64.wrap (j : Int) = (j : Int) := by rw [IntKind.wrap_i64]; omega
            have hn0 : (n : Int) ≠ 0 := by omega
            have hn1 : n ≠ 0 := by omega
            have ga := Chg.alloc [] wr (.cells (madeCells #[.int .u8 0] 256) 5)
            have v3a := ga.cellv v3 (by simp)
            have cka := ga.cellv ck (by simp)
            have hcpa := ga.cellv hcp (by simp)
            have hx256 := (hpr.keep ga).take 256
            rw [bts_take] at hx256
            obtain ⟨R, hR256, hRR⟩ := copied_raw wr (pp.take 256) (by rw [List.length_take]; omega)
            have hth := (made_room wr 5 (.int .u8 0) 256 (by decide)).there 0 (pp.take 256).length (by rw [List.length_take]; omega)
            rw [Nat.zero_add] at hth
            have gW : Chg [] wr ((wr.alloc (.cells (madeCells #[.int .u8 0] 256) 5)).setCells wr.heap.size 0 (bts (pp.take 256))) := ga.trans (Chg.setCells wr.heap.size (bts (pp.take 256)) 0 _) (fun _ h _ => h) (fun q hq hlt => by simp at hq; omega)
            have sW := still_mark tg 9 gW
            have cW := v_write (hD.still sW) (hb.still sW).c (j : Int) (by omega) (some ⟨wr.heap.size, 0, none⟩) 256 256 R hRR.reads hR256 (Nat.le_refl _) (by decide) (fun i hi => by
              simp [blk] at hi
              subst hi
              exact ⟨by rw [mark_new _ _ _ _ (Nat.le_refl _)]; decide, (hRR.lt _ (by rw [fp_some _ _ _ (by decide)]; simp)).2⟩)
            rw [write_plain st j R hF.g hF.l (by rw [hF.c]; exact hjn) hR256] at cW
            dsimp only at cW
            have v2W := gW.cellv v2 (by simp)
            have v3W := gW.cellv v3 (by simp)
            have htW : mark tg wr.heap.size 9 bx = 0 := (sW.2 bx (block_lt_of_cell v2)).trans tb0
            have hbW := hb.still sW
            have HFL := mkHid (And.intro hF hL)
            have HLL := mkHid (show (bts (pp.take 256)).length = Nat.min pn_ 256 by rw [bts_length, List.length_take, hpn]; exact Nat.min_comm _ _)
            have HTH := mkHid (show (wr.alloc (.cells (madeCells #[.int .u8 0] 256) 5)).there wr.heap.size 0 (bts (pp.take 256)).length by rw [bts_length]; exact hth)
            clear hD hb hF hL gb hp1 hpp hpn hj hR256 hRR hth sW hpr ga gW hjn hcp hpc hpl lz2 lb2 gp lp2 tb0
            go_wp2_with (first
              | (refine wpList_copy_k rfl (.tmp 48) (.tmp 53) 41 41 5 rfl Tryz.underlying41 oneB wr.heap.size 0 256 256 pa pn_ pc (bts (pp.take 256)) rfl rfl hx256 HLL.out HTH.out (bts_one _) ?_))
            refine cW.mono ?_
            rintro e wb ⟨rfl, tg2, hD2, T2⟩
            have v2b := T2.cell1 v2W (by rw [htW]; decide)
            have v3b := T2.cell1 v3W (by rw [htW]; decide)
            have htb := (T2.2 bx (block_lt_of_cell v2W)).trans htW
            go_wp2_with fail
            exact ⟨⟨k + 1, tg2, _, by first | rfl | go_num, by omega, by omega, by omega, hD2, hbW.turn T2, ⟨HFL.out.1.c, HFL.out.1.g, HFL.out.1.l⟩, by show (st.L ++ flies j R 4).length = _; rw [List.length_append, flies_len, HFL.out.2]; omega, v2b, v3b, htb⟩, by simp [Go.RowKit.intOf]; omega⟩
      · have e : k = na := by omega
        have d1 : decide (k < na) = false := decide_eq_false hlt
        have d2 : decide ((k : Int) < (na : Int)) = false := decide_eq_false (by omega)
        clear e
        go_wp2_with fail
        go_meet
        exact ⟨tg, st, hD, hb, hF, by omega⟩
  case rest =>
    obtain ⟨tg, st, hD, hb, hF, hL⟩ := hcut
    obtain ⟨gz, lz2, wz, gb, lb2, gp, lp2⟩ := HZ.out
    have hwf : IntKind.i64.wrap (fu : Int) = (fu : Int) := by rw [IntKind.wrap_i64]; omega
    have cB := v_barrier hD
    rw [barrier_plain st hF.g hF.l] at cB
    dsimp only at cB
    have hF2 : Fine n { st with S := settle st.S st.L, L := [] } := ⟨hF.c, hF.g, hF.l⟩
    have hL2 : ({ st with S := settle st.S st.L, L := [] } : RS).L = [] := rfl
    generalize ({ st with S := settle st.S st.L, L := [] } : RS) = st2 at *
    have HGP := mkHid (And.intro gp lp2)
    clear gz wz gb lz2 lb2 lz gp lp2 lb HZ
    go_wp2_with fail
    refine cB.mono ?_
    rintro e w4 ⟨rfl, t4, hD4, T4⟩
    have b4 := hb.turn T4
    have cFu := v_fuse hD4 (fu : Int) (by omega)
    rw [Int.toNat_natCast] at cFu
    clear cB hD hb T4 hF hL
    go_wp2_with fail
    refine cFu.mono ?_
    rintro e w5 ⟨rfl, t5, hD5, T5⟩
    have b5 := b4.turn T5
    have cF := format_any hD5 b5 hT (by show 16 ≤ st2.count; rw [hF2.c]; exact hn60.1) (by show st2.L.length ≤ _; rw [hL2]; decide)
    have hfus := fused (fu := fu) hD4.sound hF2 ⟨hn60.1, by omega⟩ picks
    have hcnt : (formatA (lf st2 fu)).2.count = n := by rw [format_count]; exact hF2.c
    rw [show ({ st2 with left := fu } : RS) = lf st2 fu from rfl] at cF
    obtain ⟨⟨E, st4⟩, hE⟩ : ∃ r, formatA (lf st2 fu) = r := ⟨_, rfl⟩
    rw [hE] at cF hfus hcnt
    dsimp only at cF hfus hcnt
    have HFU := mkHid hfus
    have hF5 := (crash_fine hcnt picks).1
    have hL5 := (crash_fine hcnt picks).2
    obtain ⟨st5, hst5⟩ : ∃ st5, crash st4 picks = st5 := ⟨_, rfl⟩
    rw [hst5] at hF5 hL5
    clear cFu hD4 b4 T5 hcnt hE hfus hF2 hL2
    go_wp2_with fail
    refine cF.mono ?_
    rintro e w6 ⟨rfl, t6, hD6, b6, T6⟩
    have cCr := v_crash0 hD6 ap np cp picks (HGP.out.1.keep b6.c) HGP.out.2 (by unfold maxLen; omega) (fun h0 k hk => by
      obtain ⟨bb, oo, e, hcc⟩ := HGP.out.1 (by rw [bts_length]; exact h0)
      subst e
      simp [blk] at hk
      subst hk
      rw [b6.lo _ (block_lt_of_cell (hcc 0 _ (bts_get picks 0 h0)))]
      decide)
    rw [hst5] at cCr
    have hfus := HFU.out
    rw [hst5] at hfus
    clear cF hD5 b5 T6 HFU hst5
    have heqn := fun u => eq_first n hn60 u
    rcases hfus with ⟨rfl, hfu0⟩ | ⟨rfl, hfd⟩
    · have hfz : ((fu : Int) == 0) = false := beq_eq_false_iff_ne.2 (by omega)
      have hfz2 : (fu == 0) = false := beq_eq_false_iff_ne.2 hfu0
      have HF0 := mkHid hfu0
      clear hfu0
      go_wp2_with fail
      refine cCr.mono ?_
      rintro e w7 ⟨rfl, t7, hD7, T7⟩
      have b7 := b6.turn T7
      obtain ⟨st6, hA6, hL6, hc6, hf6⟩ := again hD7.sound hF5 ⟨hn60.1, by omega⟩
      have hC6 : (crash st6 []).count = n := hc6
      clear cCr hD6 b6 T7
      rcases hfo : foundA st5 with _ | ⟨s, L⟩
      · have cO := open_pool hD7 b7 (by decide) hT hF5.g 2 (by decide) hfo
        clear hfo
        go_wp2_with fail
        refine cO.mono ?_
        rintro e w8 ⟨rfl, g8⟩
        obtain ⟨t8, hD8, b8⟩ : ∃ t8, HasDev w w8 t8 2 db st5 ∧ Base w w8 t8 := ⟨_, hD7.still (still_mark t7 9 g8), b7.still (still_mark t7 9 g8)⟩
        clear cO hD7 b7 g8
        have gA := Chg.alloc [] w8 (supObj ⟨1, (n : Int), 0, 1⟩)
        obtain ⟨q0, q1, q2, q3⟩ := sup_laid w8 ⟨1, (n : Int), 0, 1⟩
        unfold supObj at *
        dsimp only at *
        obtain ⟨fb, hfb⟩ : ∃ b, w8.heap.size = b := ⟨_, rfl⟩
        have hfbl : w8.heap.size ≤ fb := Nat.le_of_eq hfb
        rw [hfb] at q0 q1 q2 q3
        go_wp2_with fail
        clear hfb
        generalize w8.alloc _ = w8a at *
        go_quiet (fail)
        all_goals
          obtain ⟨w9, hw9⟩ : ∃ W, w8a.drewN nq = W := ⟨_, rfl⟩
          obtain ⟨G9, y0, y1, y2, y3⟩ : Chg [] w8 w9 ∧ w9.cell? ⟨fb, 0, none⟩ = some (.int .u64 1) ∧ w9.cell? ⟨fb, 1, none⟩ = some (.int .i64 (n : Int)) ∧ w9.cell? ⟨fb, 2, none⟩ = some (.int .u64 0) ∧ w9.cell? ⟨fb, 3, none⟩ = some (.int .u64 1) := by
            subst hw9
            exact ⟨gA.then (Chg.drewN _ _), (Chg.drewN _ _).cellv q0 (by simp), (Chg.drewN _ _).cellv q1 (by simp), (Chg.drewN _ _).cellv q2 (by simp), (Chg.drewN _ _).cellv q3 (by simp)⟩
          rw [hw9]
          clear hw9 q0 q1 q2 q3 gA
          have tfb : mark t8 w8.heap.size 9 fb = 9 := mark_new _ _ _ _ hfbl
          have CF := fun (W : World) (c : Chg [] w8 W) => format_any (hD8.still (still_mark t8 9 c)) (b8.still (still_mark t8 9 c)) hT (by rw [hF5.c]; exact hn60.1) (by rw [hL5]; decide)
          rw [hA6] at CF
          dsimp only at CF
          have HCF := mkHid CF
          clear CF hD8 b8
          go_wp2_with fail
          refine (HCF.out _ (by first | exact G9 | exact G9.then (Chg.drew [] _))).mono ?_
          rintro e w10 ⟨rfl, t10, hD10, b10, T10⟩
          have z0 := T10.cell1 (p := ⟨fb, 0, none⟩) (v := .int .u64 1) (by first | exact y0 | exact (Chg.drew [] _).cellv y0 (by simp)) (by rw [tfb]; decide)
          have z1 := T10.cell1 (p := ⟨fb, 1, none⟩) (v := .int .i64 (n : Int)) (by first | exact y1 | exact (Chg.drew [] _).cellv y1 (by simp)) (by rw [tfb]; decide)
          have z2 := T10.cell1 (p := ⟨fb, 2, none⟩) (v := .int .u64 0) (by first | exact y2 | exact (Chg.drew [] _).cellv y2 (by simp)) (by rw [tfb]; decide)
          have z3 := T10.cell1 (p := ⟨fb, 3, none⟩) (v := .int .u64 1) (by first | exact y3 | exact (Chg.drew [] _).cellv y3 (by simp)) (by rw [tfb]; decide)
          have tfb2 : t10 fb = 9 := (T10.2 fb (by first | exact block_lt_of_cell y0 | exact block_lt_of_cell ((Chg.drew [] _).cellv y0 (by simp)))).trans tfb
          have cC2 := v_crash hD10 none 0 0 [] (Reads.nil _ _) rfl (Nat.zero_le _) (fun k hk => by simp [blk] at hk)
          clear T10 y0 y1 y2 y3 tfb G9
          go_wp2_with fail
          refine cC2.mono ?_
          rintro e w11 ⟨rfl, t11, hD11, T11⟩
          have b11 := b10.turn T11
          have u0 := T11.cell1 z0 (by rw [tfb2]; decide)
          have u1 := T11.cell1 z1 (by rw [tfb2]; decide)
          have u2 := T11.cell1 z2 (by rw [tfb2]; decide)
          have u3 := T11.cell1 z3 (by rw [tfb2]; decide)
          have cO2 := open_yes15 hD11 b11 hT rfl 2 (by decide) n hC6 (firstS n) (freshN n) hf6 rfl
          clear cC2 hD10 b10 T11 z0 z1 z2 z3
          go_wp2_with fail
          refine cO2.mono ?_
          rintro e w12 ⟨tb, cb2, rb, rfl, t12, hP12, s12⟩
          have r0 := s12.1.cellv u0 (by simp)
          have r1 := s12.1.cellv u1 (by simp)
          have r2 := s12.1.cellv u2 (by simp)
          have r3 := s12.1.cellv u3 (by simp)
          obtain ⟨sb12, ht12⟩ := id hP12.t
          have cS := fun (u : World) (c : Chg [] w12 u) => xsuper_yes (ht12.chg c (by simp))
          have cFr := fun (u : World) (c : Chg [] w12 u) => xfree_yes (hP12.still (still_mark t12 9 c))
          dsimp only at cFr
          rw [free_fresh n (by omega) hn60.1] at cFr
          unfold firstS at cS
          dsimp only at cS
          obtain ⟨M, hM⟩ : ∃ M, n - 4 = M := ⟨_, rfl⟩
          have HM := mkHid hM
          rw [hM] at cFr
          have heq := fun u => eq_first n hn60 u
          have CSH := mkHid cS
          have CFH := mkHid cFr
          have HP12 := mkHid hP12
          clear cO2 hD11 b11 u0 u1 u2 u3 hM ht12 s12 hP12 cS cFr
          have HS0 : (fun u => u.cell? ⟨fb, 0, none⟩ = some (.int .u64 1) ∧ u.cell? ⟨fb, 1, none⟩ = some (.int .i64 (n : Int)) ∧ u.cell? ⟨fb, 2, none⟩ = some (.int .u64 0) ∧ u.cell? ⟨fb, 3, none⟩ = some (.int .u64 1) ∧ Chg [] w12 u) (World.drew w12) := cells4g ⟨r0, r1, r2, r3, Chg.refl _ _⟩ (Chg.drew [] _)
          have hS4 : ∀ u : World, (fun u => u.cell? ⟨fb, 0, none⟩ = some (.int .u64 1) ∧ u.cell? ⟨fb, 1, none⟩ = some (.int .i64 (n : Int)) ∧ u.cell? ⟨fb, 2, none⟩ = some (.int .u64 0) ∧ u.cell? ⟨fb, 3, none⟩ = some (.int .u64 1) ∧ Chg [] w12 u) u → Chg [] w12 u := fun u h => h.2.2.2.2
          clear r0 r1 r2 r3
          go_wp2_with fail
          go_region_held3 (fun u => u.cell? ⟨fb, 0, none⟩ = some (.int .u64 1) ∧ u.cell? ⟨fb, 1, none⟩ = some (.int .i64 (n : Int)) ∧ u.cell? ⟨fb, 2, none⟩ = some (.int .u64 0) ∧ u.cell? ⟨fb, 3, none⟩ = some (.int .u64 1) ∧ Chg [] w12 u)
            (first | exact HS0 | assumption | exact cells4g (by assumption) (by assumption))
            (first
            | (go_at_call 43; refine (CSH.out _ (hS4 _ (by assumption))).mono ?_; rintro e w13 ⟨rfl, g13⟩)
            | (go_at_call 44; refine (CFH.out _ (hS4 _ (by assumption))).mono ?_; rintro e w14 ⟨rfl, rfl⟩))
          have hfin : Chg [] w12 w13 := hS4 _ (by assumption)
          go_wp2_with fail
          go_ret
          exact ⟨by first | (simp; exact free_arith n M hn60 HM.out) | (simp; done), HP12.out.b.c.then hfin⟩
      · have hsB : s.B = (n : Int) := by
          obtain ⟨i, -, h⟩ := found_slots hfo
          rw [h, hF5.c]
        have cO := open_yes15 hD7 b7 hT hF5.g 2 (by decide) n hF5.c s L hfo hsB
        clear hfo
        go_wp2_with fail
        refine cO.mono ?_
        rintro e w8 ⟨tb0, cb0, rb0, rfl, t8, hP8, s8⟩
        obtain ⟨sb8, ht8⟩ := id hP8.t
        have hD8 := hP8.p.dev
        have b8 := hP8.b
        obtain ⟨rb_, heqo⟩ := eq_other n hn60 s hP8.lm
        clear hP8 s8 cO hD7 b7 hsB
        have gA := Chg.alloc [] w8 (supObj ⟨1, (n : Int), 0, 1⟩)
        obtain ⟨q0, q1, q2, q3⟩ := sup_laid w8 ⟨1, (n : Int), 0, 1⟩
        unfold supObj at *
        dsimp only at *
        have cS := fun (u : World) (c : Chg [] w8 u) => xsuper_yes (ht8.chg c (by simp))
        try dsimp only at cS
        have CSH := mkHid cS
        obtain ⟨fb, hfb⟩ : ∃ b, w8.heap.size = b := ⟨_, rfl⟩
        have hfbl : w8.heap.size ≤ fb := Nat.le_of_eq hfb
        rw [hfb] at q0 q1 q2 q3
        clear ht8 cS
        go_wp2_with fail
        clear hfb
        generalize w8.alloc _ = w8a at *
        cases rb_
        · skip
          go_region_law (first
            | (go_simp; go_at_call 43; refine (CSH.out _ (by first | exact gA.then (Chg.drew [] _) | exact gA)).mono ?_; rintro e w9 ⟨rfl, g9⟩; have q0 := ((Chg.drew [] _).then g9).cellv q0 (by simp); have q1 := ((Chg.drew [] _).then g9).cellv q1 (by simp); have q2 := ((Chg.drew [] _).then g9).cellv q2 (by simp); have q3 := ((Chg.drew [] _).then g9).cellv q3 (by simp)))
          all_goals
            obtain ⟨W9, hW9, G9, y0, y1, y2, y3⟩ : ∃ W, W = w9 ∧ Chg [] w8 w9 ∧ w9.cell? ⟨fb, 0, none⟩ = some (.int .u64 1) ∧ w9.cell? ⟨fb, 1, none⟩ = some (.int .i64 (n : Int)) ∧ w9.cell? ⟨fb, 2, none⟩ = some (.int .u64 0) ∧ w9.cell? ⟨fb, 3, none⟩ = some (.int .u64 1) := ⟨w9, rfl, (gA.then (Chg.drew [] _)).then g9, q0, q1, q2, q3⟩
            clear hW9 W9 q0 q1 q2 q3
            have tfb : mark t8 w8.heap.size 9 fb = 9 := mark_new _ _ _ _ hfbl
            have CF := fun (W : World) (c : Chg [] w8 W) => format_any (hD8.still (still_mark t8 9 c)) (b8.still (still_mark t8 9 c)) hT (by rw [hF5.c]; exact hn60.1) (by rw [hL5]; decide)
            rw [hA6] at CF
            dsimp only at CF
            have HCF := mkHid CF
            clear CF hD8 b8
            go_wp2_with fail
            refine (HCF.out _ (by first | exact G9 | exact G9.then (Chg.drew [] _))).mono ?_
            rintro e w10 ⟨rfl, t10, hD10, b10, T10⟩
            have z0 := T10.cell1 (p := ⟨fb, 0, none⟩) (v := .int .u64 1) (by first | exact y0 | exact (Chg.drew [] _).cellv y0 (by simp)) (by rw [tfb]; decide)
            have z1 := T10.cell1 (p := ⟨fb, 1, none⟩) (v := .int .i64 (n : Int)) (by first | exact y1 | exact (Chg.drew [] _).cellv y1 (by simp)) (by rw [tfb]; decide)
            have z2 := T10.cell1 (p := ⟨fb, 2, none⟩) (v := .int .u64 0) (by first | exact y2 | exact (Chg.drew [] _).cellv y2 (by simp)) (by rw [tfb]; decide)
            have z3 := T10.cell1 (p := ⟨fb, 3, none⟩) (v := .int .u64 1) (by first | exact y3 | exact (Chg.drew [] _).cellv y3 (by simp)) (by rw [tfb]; decide)
            have tfb2 : t10 fb = 9 := (T10.2 fb (by first | exact block_lt_of_cell y0 | exact block_lt_of_cell ((Chg.drew [] _).cellv y0 (by simp)))).trans tfb
            have cC2 := v_crash hD10 none 0 0 [] (Reads.nil _ _) rfl (Nat.zero_le _) (fun k hk => by simp [blk] at hk)
            clear T10 y0 y1 y2 y3 tfb G9
            go_wp2_with fail
            refine cC2.mono ?_
            rintro e w11 ⟨rfl, t11, hD11, T11⟩
            have b11 := b10.turn T11
            have u0 := T11.cell1 z0 (by rw [tfb2]; decide)
            have u1 := T11.cell1 z1 (by rw [tfb2]; decide)
            have u2 := T11.cell1 z2 (by rw [tfb2]; decide)
            have u3 := T11.cell1 z3 (by rw [tfb2]; decide)
            have cO2 := open_yes15 hD11 b11 hT rfl 2 (by decide) n hC6 (firstS n) (freshN n) hf6 rfl
            clear cC2 hD10 b10 T11 z0 z1 z2 z3
            go_wp2_with fail
            refine cO2.mono ?_
            rintro e w12 ⟨tb, cb2, rb, rfl, t12, hP12, s12⟩
            have r0 := s12.1.cellv u0 (by simp)
            have r1 := s12.1.cellv u1 (by simp)
            have r2 := s12.1.cellv u2 (by simp)
            have r3 := s12.1.cellv u3 (by simp)
            obtain ⟨sb12, ht12⟩ := id hP12.t
            have cS := fun (u : World) (c : Chg [] w12 u) => xsuper_yes (ht12.chg c (by simp))
            have cFr := fun (u : World) (c : Chg [] w12 u) => xfree_yes (hP12.still (still_mark t12 9 c))
            dsimp only at cFr
            rw [free_fresh n (by omega) hn60.1] at cFr
            unfold firstS at cS
            dsimp only at cS
            obtain ⟨M, hM⟩ : ∃ M, n - 4 = M := ⟨_, rfl⟩
            have HM := mkHid hM
            rw [hM] at cFr
            have heq := fun u => eq_first n hn60 u
            have CSH := mkHid cS
            have CFH := mkHid cFr
            have HP12 := mkHid hP12
            clear cO2 hD11 b11 u0 u1 u2 u3 hM ht12 s12 hP12 cS cFr
            have HS0 : (fun u => u.cell? ⟨fb, 0, none⟩ = some (.int .u64 1) ∧ u.cell? ⟨fb, 1, none⟩ = some (.int .i64 (n : Int)) ∧ u.cell? ⟨fb, 2, none⟩ = some (.int .u64 0) ∧ u.cell? ⟨fb, 3, none⟩ = some (.int .u64 1) ∧ Chg [] w12 u) (World.drew w12) := cells4g ⟨r0, r1, r2, r3, Chg.refl _ _⟩ (Chg.drew [] _)
            have hS4 : ∀ u : World, (fun u => u.cell? ⟨fb, 0, none⟩ = some (.int .u64 1) ∧ u.cell? ⟨fb, 1, none⟩ = some (.int .i64 (n : Int)) ∧ u.cell? ⟨fb, 2, none⟩ = some (.int .u64 0) ∧ u.cell? ⟨fb, 3, none⟩ = some (.int .u64 1) ∧ Chg [] w12 u) u → Chg [] w12 u := fun u h => h.2.2.2.2
            clear r0 r1 r2 r3
            go_wp2_with fail
            go_region_held3 (fun u => u.cell? ⟨fb, 0, none⟩ = some (.int .u64 1) ∧ u.cell? ⟨fb, 1, none⟩ = some (.int .i64 (n : Int)) ∧ u.cell? ⟨fb, 2, none⟩ = some (.int .u64 0) ∧ u.cell? ⟨fb, 3, none⟩ = some (.int .u64 1) ∧ Chg [] w12 u)
              (first | exact HS0 | assumption | exact cells4g (by assumption) (by assumption))
              (first
              | (go_at_call 43; refine (CSH.out _ (hS4 _ (by assumption))).mono ?_; rintro e w13 ⟨rfl, g13⟩)
              | (go_at_call 44; refine (CFH.out _ (hS4 _ (by assumption))).mono ?_; rintro e w14 ⟨rfl, rfl⟩))
            have hfin : Chg [] w12 w13 := hS4 _ (by assumption)
            go_wp2_with fail
            go_ret
            exact ⟨by first | (simp; exact free_arith n M hn60 HM.out) | (simp; done), HP12.out.b.c.then hfin⟩
        · skip
          go_region_law (first
            | (go_simp; go_at_call 43; refine (CSH.out _ (by first | exact gA.then (Chg.drew [] _) | exact gA)).mono ?_; rintro e w9 ⟨rfl, g9⟩; have q0 := ((Chg.drew [] _).then g9).cellv q0 (by simp); have q1 := ((Chg.drew [] _).then g9).cellv q1 (by simp); have q2 := ((Chg.drew [] _).then g9).cellv q2 (by simp); have q3 := ((Chg.drew [] _).then g9).cellv q3 (by simp)))
          all_goals
            obtain ⟨W9, hW9, G9, y0, y1, y2, y3⟩ : ∃ W, W = w9 ∧ Chg [] w8 w9 ∧ w9.cell? ⟨fb, 0, none⟩ = some (.int .u64 1) ∧ w9.cell? ⟨fb, 1, none⟩ = some (.int .i64 (n : Int)) ∧ w9.cell? ⟨fb, 2, none⟩ = some (.int .u64 0) ∧ w9.cell? ⟨fb, 3, none⟩ = some (.int .u64 1) := ⟨w9, rfl, (gA.then (Chg.drew [] _)).then g9, q0, q1, q2, q3⟩
            clear hW9 W9 q0 q1 q2 q3
            have tfb : mark t8 w8.heap.size 9 fb = 9 := mark_new _ _ _ _ hfbl
            have CF := fun (W : World) (c : Chg [] w8 W) => format_any (hD8.still (still_mark t8 9 c)) (b8.still (still_mark t8 9 c)) hT (by rw [hF5.c]; exact hn60.1) (by rw [hL5]; decide)
            rw [hA6] at CF
            dsimp only at CF
            have HCF := mkHid CF
            clear CF hD8 b8
            go_wp2_with fail
            refine (HCF.out _ (by first | exact G9 | exact G9.then (Chg.drew [] _))).mono ?_
            rintro e w10 ⟨rfl, t10, hD10, b10, T10⟩
            have z0 := T10.cell1 (p := ⟨fb, 0, none⟩) (v := .int .u64 1) (by first | exact y0 | exact (Chg.drew [] _).cellv y0 (by simp)) (by rw [tfb]; decide)
            have z1 := T10.cell1 (p := ⟨fb, 1, none⟩) (v := .int .i64 (n : Int)) (by first | exact y1 | exact (Chg.drew [] _).cellv y1 (by simp)) (by rw [tfb]; decide)
            have z2 := T10.cell1 (p := ⟨fb, 2, none⟩) (v := .int .u64 0) (by first | exact y2 | exact (Chg.drew [] _).cellv y2 (by simp)) (by rw [tfb]; decide)
            have z3 := T10.cell1 (p := ⟨fb, 3, none⟩) (v := .int .u64 1) (by first | exact y3 | exact (Chg.drew [] _).cellv y3 (by simp)) (by rw [tfb]; decide)
            have tfb2 : t10 fb = 9 := (T10.2 fb (by first | exact block_lt_of_cell y0 | exact block_lt_of_cell ((Chg.drew [] _).cellv y0 (by simp)))).trans tfb
            have cC2 := v_crash hD10 none 0 0 [] (Reads.nil _ _) rfl (Nat.zero_le _) (fun k hk => by simp [blk] at hk)
            clear T10 y0 y1 y2 y3 tfb G9
            go_wp2_with fail
            refine cC2.mono ?_
            rintro e w11 ⟨rfl, t11, hD11, T11⟩
            have b11 := b10.turn T11
            have u0 := T11.cell1 z0 (by rw [tfb2]; decide)
            have u1 := T11.cell1 z1 (by rw [tfb2]; decide)
            have u2 := T11.cell1 z2 (by rw [tfb2]; decide)
            have u3 := T11.cell1 z3 (by rw [tfb2]; decide)
            have cO2 := open_yes15 hD11 b11 hT rfl 2 (by decide) n hC6 (firstS n) (freshN n) hf6 rfl
            clear cC2 hD10 b10 T11 z0 z1 z2 z3
            go_wp2_with fail
            refine cO2.mono ?_
            rintro e w12 ⟨tb, cb2, rb, rfl, t12, hP12, s12⟩
            have r0 := s12.1.cellv u0 (by simp)
            have r1 := s12.1.cellv u1 (by simp)
            have r2 := s12.1.cellv u2 (by simp)
            have r3 := s12.1.cellv u3 (by simp)
            obtain ⟨sb12, ht12⟩ := id hP12.t
            have cS := fun (u : World) (c : Chg [] w12 u) => xsuper_yes (ht12.chg c (by simp))
            have cFr := fun (u : World) (c : Chg [] w12 u) => xfree_yes (hP12.still (still_mark t12 9 c))
            dsimp only at cFr
            rw [free_fresh n (by omega) hn60.1] at cFr
            unfold firstS at cS
            dsimp only at cS
            obtain ⟨M, hM⟩ : ∃ M, n - 4 = M := ⟨_, rfl⟩
            have HM := mkHid hM
            rw [hM] at cFr
            have heq := fun u => eq_first n hn60 u
            have CSH := mkHid cS
            have CFH := mkHid cFr
            have HP12 := mkHid hP12
            clear cO2 hD11 b11 u0 u1 u2 u3 hM ht12 s12 hP12 cS cFr
            have HS0 : (fun u => u.cell? ⟨fb, 0, none⟩ = some (.int .u64 1) ∧ u.cell? ⟨fb, 1, none⟩ = some (.int .i64 (n : Int)) ∧ u.cell? ⟨fb, 2, none⟩ = some (.int .u64 0) ∧ u.cell? ⟨fb, 3, none⟩ = some (.int .u64 1) ∧ Chg [] w12 u) (World.drew w12) := cells4g ⟨r0, r1, r2, r3, Chg.refl _ _⟩ (Chg.drew [] _)
            have hS4 : ∀ u : World, (fun u => u.cell? ⟨fb, 0, none⟩ = some (.int .u64 1) ∧ u.cell? ⟨fb, 1, none⟩ = some (.int .i64 (n : Int)) ∧ u.cell? ⟨fb, 2, none⟩ = some (.int .u64 0) ∧ u.cell? ⟨fb, 3, none⟩ = some (.int .u64 1) ∧ Chg [] w12 u) u → Chg [] w12 u := fun u h => h.2.2.2.2
            clear r0 r1 r2 r3
            go_wp2_with fail
            go_region_held3 (fun u => u.cell? ⟨fb, 0, none⟩ = some (.int .u64 1) ∧ u.cell? ⟨fb, 1, none⟩ = some (.int .i64 (n : Int)) ∧ u.cell? ⟨fb, 2, none⟩ = some (.int .u64 0) ∧ u.cell? ⟨fb, 3, none⟩ = some (.int .u64 1) ∧ Chg [] w12 u)
              (first | exact HS0 | assumption | exact cells4g (by assumption) (by assumption))
              (first
              | (go_at_call 43; refine (CSH.out _ (hS4 _ (by assumption))).mono ?_; rintro e w13 ⟨rfl, g13⟩)
              | (go_at_call 44; refine (CFH.out _ (hS4 _ (by assumption))).mono ?_; rintro e w14 ⟨rfl, rfl⟩))
            have hfin : Chg [] w12 w13 := hS4 _ (by assumption)
            go_wp2_with fail
            go_ret
            exact ⟨by first | (simp; exact free_arith n M hn60 HM.out) | (simp; done), HP12.out.b.c.then hfin⟩
    · go_wp2_with fail
      refine cCr.mono ?_
      rintro e w7 ⟨rfl, t7, hD7, T7⟩
      have b7 := b6.turn T7
      obtain ⟨st6, hA6, hL6, hc6, hf6⟩ := again hD7.sound hF5 ⟨hn60.1, by omega⟩
      have hC6 : (crash st6 []).count = n := hc6
      have cO := open_yes15 hD7 b7 hT hF5.g 2 (by decide) n hF5.c (firstS n) (freshN n) hfd rfl
      clear cCr hD6 b6 T7
      go_wp2_with fail
      refine cO.mono ?_
      rintro e w8 ⟨tb0, cb0, rb0, rfl, t8, hP8, s8⟩
      obtain ⟨sb8, ht8⟩ := id hP8.t
      have hD8 := hP8.p.dev
      have b8 := hP8.b
      have gA := Chg.alloc [] w8 (supObj ⟨1, (n : Int), 0, 1⟩)
      obtain ⟨q0, q1, q2, q3⟩ := sup_laid w8 ⟨1, (n : Int), 0, 1⟩
      unfold supObj at *
      dsimp only at *
      have cS := fun (u : World) (c : Chg [] w8 u) => xsuper_yes (ht8.chg c (by simp))
      unfold firstS at cS
      dsimp only at cS
      have CSH := mkHid cS
      obtain ⟨fb, hfb⟩ : ∃ b, w8.heap.size = b := ⟨_, rfl⟩
      have hfbl : w8.heap.size ≤ fb := Nat.le_of_eq hfb
      rw [hfb] at q0 q1 q2 q3
      clear hP8 ht8 s8 cO cS hD7 b7
      go_wp2_with fail
      clear hfb
      generalize w8.alloc _ = w8a at *
      go_region_law (first
        | (go_simp; go_at_call 43; refine (CSH.out _ (by first | exact gA.then (Chg.drew [] _) | exact gA)).mono ?_; rintro e w9 ⟨rfl, g9⟩; have q0 := ((Chg.drew [] _).then g9).cellv q0 (by simp); have q1 := ((Chg.drew [] _).then g9).cellv q1 (by simp); have q2 := ((Chg.drew [] _).then g9).cellv q2 (by simp); have q3 := ((Chg.drew [] _).then g9).cellv q3 (by simp)))
      all_goals
        obtain ⟨W9, hW9, G9, y0, y1, y2, y3⟩ : ∃ W, W = w9 ∧ Chg [] w8 w9 ∧ w9.cell? ⟨fb, 0, none⟩ = some (.int .u64 1) ∧ w9.cell? ⟨fb, 1, none⟩ = some (.int .i64 (n : Int)) ∧ w9.cell? ⟨fb, 2, none⟩ = some (.int .u64 0) ∧ w9.cell? ⟨fb, 3, none⟩ = some (.int .u64 1) := ⟨w9, rfl, (gA.then (Chg.drew [] _)).then g9, q0, q1, q2, q3⟩
        clear hW9 W9 q0 q1 q2 q3
        have tfb : mark t8 w8.heap.size 9 fb = 9 := mark_new _ _ _ _ hfbl
        have CF := fun (W : World) (c : Chg [] w8 W) => format_any (hD8.still (still_mark t8 9 c)) (b8.still (still_mark t8 9 c)) hT (by rw [hF5.c]; exact hn60.1) (by rw [hL5]; decide)
        rw [hA6] at CF
        dsimp only at CF
        have HCF := mkHid CF
        clear CF hD8 b8
        go_wp2_with fail
        refine (HCF.out _ (by first | exact G9 | exact G9.then (Chg.drew [] _))).mono ?_
        rintro e w10 ⟨rfl, t10, hD10, b10, T10⟩
        have z0 := T10.cell1 (p := ⟨fb, 0, none⟩) (v := .int .u64 1) (by first | exact y0 | exact (Chg.drew [] _).cellv y0 (by simp)) (by rw [tfb]; decide)
        have z1 := T10.cell1 (p := ⟨fb, 1, none⟩) (v := .int .i64 (n : Int)) (by first | exact y1 | exact (Chg.drew [] _).cellv y1 (by simp)) (by rw [tfb]; decide)
        have z2 := T10.cell1 (p := ⟨fb, 2, none⟩) (v := .int .u64 0) (by first | exact y2 | exact (Chg.drew [] _).cellv y2 (by simp)) (by rw [tfb]; decide)
        have z3 := T10.cell1 (p := ⟨fb, 3, none⟩) (v := .int .u64 1) (by first | exact y3 | exact (Chg.drew [] _).cellv y3 (by simp)) (by rw [tfb]; decide)
        have tfb2 : t10 fb = 9 := (T10.2 fb (by first | exact block_lt_of_cell y0 | exact block_lt_of_cell ((Chg.drew [] _).cellv y0 (by simp)))).trans tfb
        have cC2 := v_crash hD10 none 0 0 [] (Reads.nil _ _) rfl (Nat.zero_le _) (fun k hk => by simp [blk] at hk)
        clear T10 y0 y1 y2 y3 tfb G9
        go_wp2_with fail
        refine cC2.mono ?_
        rintro e w11 ⟨rfl, t11, hD11, T11⟩
        have b11 := b10.turn T11
        have u0 := T11.cell1 z0 (by rw [tfb2]; decide)
        have u1 := T11.cell1 z1 (by rw [tfb2]; decide)
        have u2 := T11.cell1 z2 (by rw [tfb2]; decide)
        have u3 := T11.cell1 z3 (by rw [tfb2]; decide)
        have cO2 := open_yes15 hD11 b11 hT rfl 2 (by decide) n hC6 (firstS n) (freshN n) hf6 rfl
        clear cC2 hD10 b10 T11 z0 z1 z2 z3
        go_wp2_with fail
        refine cO2.mono ?_
        rintro e w12 ⟨tb, cb2, rb, rfl, t12, hP12, s12⟩
        have r0 := s12.1.cellv u0 (by simp)
        have r1 := s12.1.cellv u1 (by simp)
        have r2 := s12.1.cellv u2 (by simp)
        have r3 := s12.1.cellv u3 (by simp)
        obtain ⟨sb12, ht12⟩ := id hP12.t
        have cS := fun (u : World) (c : Chg [] w12 u) => xsuper_yes (ht12.chg c (by simp))
        have cFr := fun (u : World) (c : Chg [] w12 u) => xfree_yes (hP12.still (still_mark t12 9 c))
        dsimp only at cFr
        rw [free_fresh n (by omega) hn60.1] at cFr
        unfold firstS at cS
        dsimp only at cS
        obtain ⟨M, hM⟩ : ∃ M, n - 4 = M := ⟨_, rfl⟩
        have HM := mkHid hM
        rw [hM] at cFr
        have heq := fun u => eq_first n hn60 u
        have CSH := mkHid cS
        have CFH := mkHid cFr
        have HP12 := mkHid hP12
        clear cO2 hD11 b11 u0 u1 u2 u3 hM ht12 s12 hP12 cS cFr
        have HS0 : (fun u => u.cell? ⟨fb, 0, none⟩ = some (.int .u64 1) ∧ u.cell? ⟨fb, 1, none⟩ = some (.int .i64 (n : Int)) ∧ u.cell? ⟨fb, 2, none⟩ = some (.int .u64 0) ∧ u.cell? ⟨fb, 3, none⟩ = some (.int .u64 1) ∧ Chg [] w12 u) (World.drew w12) := cells4g ⟨r0, r1, r2, r3, Chg.refl _ _⟩ (Chg.drew [] _)
        have hS4 : ∀ u : World, (fun u => u.cell? ⟨fb, 0, none⟩ = some (.int .u64 1) ∧ u.cell? ⟨fb, 1, none⟩ = some (.int .i64 (n : Int)) ∧ u.cell? ⟨fb, 2, none⟩ = some (.int .u64 0) ∧ u.cell? ⟨fb, 3, none⟩ = some (.int .u64 1) ∧ Chg [] w12 u) u → Chg [] w12 u := fun u h => h.2.2.2.2
        clear r0 r1 r2 r3
        go_wp2_with fail
        go_region_held3 (fun u => u.cell? ⟨fb, 0, none⟩ = some (.int .u64 1) ∧ u.cell? ⟨fb, 1, none⟩ = some (.int .i64 (n : Int)) ∧ u.cell? ⟨fb, 2, none⟩ = some (.int .u64 0) ∧ u.cell? ⟨fb, 3, none⟩ = some (.int .u64 1) ∧ Chg [] w12 u)
          (first | exact HS0 | assumption | exact cells4g (by assumption) (by assumption))
          (first
          | (go_at_call 43; refine (CSH.out _ (hS4 _ (by assumption))).mono ?_; rintro e w13 ⟨rfl, g13⟩)
          | (go_at_call 44; refine (CFH.out _ (hS4 _ (by assumption))).mono ?_; rintro e w14 ⟨rfl, rfl⟩))
        have hfin : Chg [] w12 w13 := hS4 _ (by assumption)
        go_wp2_with fail
        go_ret
        exact ⟨by first | (simp; exact free_arith n M hn60 HM.out) | (simp; done), HP12.out.b.c.then hfin⟩
end Go.Proofs.YtoeijomelabbfaaGreatDoor
