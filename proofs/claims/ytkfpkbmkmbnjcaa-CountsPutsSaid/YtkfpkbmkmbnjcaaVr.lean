/- CountsPuts. -/
import Derived.Test.YtkfpkbmkmbnjcaaVq
namespace Go.Proofs.Ytkfpkbmkmbnjcaa
open Go.RowKit
set_option linter.unusedVariables false
set_option linter.unusedSimpArgs false
attribute [local go_sem ↓] Go.wp_at_zero Go.wp_at_succ

theorem OPg.at_ {w : World} {B : Nat} {ao : Option Addr} {c : Nat} {bs : List Nat} {ps : List (List UInt8)} (h : OPg w B ao c bs ps) {i : Nat} (hi : i < ps.length) : ∃ b p lb lo, bs[i]? = some b ∧ ps[i]? = some p ∧ ao = some ⟨lb, lo, none⟩ ∧ w.cell? ⟨lb, lo + i, none⟩ = some (.slice (some ⟨b, 0, none⟩) 240 240) ∧ p.length = 240 := by
  have hb : bs[i]? = some (bs[i]'(by rw [h.ln]; exact hi)) := List.getElem?_eq_getElem _
  have hp := List.getElem?_eq_getElem hi
  obtain ⟨lb, lo, e, hc, _⟩ := reads_lt h.r.reads i (pv _) (by rw [List.getElem?_map, hb]; rfl)
  have hl := (h.p i _ _ hb hp).len
  rw [bts_length] at hl
  exact ⟨_, _, lb, lo, hb, hp, e, hc, hl⟩
/-- The rest of the law: behind all comparisons, all are turned, and what was handed in is as it was. -/
def PutsEnd (w : World) (n : Nat) (L : List UInt8) (wm : Option Addr) (cm : Nat) (wx : World) (ao : Option Addr) (cc len : Nat) : Prop := ∃ B bs ps, len = ps.length ∧ OPg wx B ao cc bs ps ∧ w.heap.size ≤ B ∧ Chg [] w wx ∧ Reads wx wm (bts L) ∧ ∀ k, k ∈ blk wm → 0 < n → k < B
set_option maxRecDepth 20000 in
set_option maxHeartbeats 4000000 in
theorem puts_core (a0 : Option Addr) (n c : Nat) (L : List UInt8) (z : Int) (w : World) (g0 : Reads w a0 (bts L)) (gn : L.length = n) (gc : n ≤ c) (gr : c * 1 ≤ 140737488351232) (gz : (Lit.int .i64 z).wf = true) :
    Calls Try.prog 3 #[.slice a0 n c, .int .i64 z] w fun e w' => e = .returned (.bool true) ∧ Chg [] w w' := by
  have hn : n ≤ 140737488351232 := by omega
  have hz := Go.bounds_i64 gz
  have hzb : z ≤ 9223372036854775807 := by omega
  have hmx : 0 + n ≤ maxLen := by unfold maxLen; omega
  have hbl : (bts L).length = n := by rw [bts_length]; exact gn
  have HBL := mkHid hbl
  have HGN := mkHid gn
  clear hbl gz hz
  go_enter Try.func3, Try.ntmps3
  go_wp2_with (at_builtin; refine wpList_append_k _ rfl (.const (.slice none 0 0)) (.tmp 13) 22 rfl 5 1 eltB w.heap.size none 0 0 [] rfl (Room.nil _ _ _) (Nat.le_refl _) a0 n c (bts L) rfl g0 HBL.out (bts_one _) hmx (by omega) ?_; intro wm cm w1 hr1 hg1 hf1; simp only [Nat.zero_add, List.nil_append, fp_none] at hr1 hg1)
  have hm1 := hr1.reads
  have hcm := hr1.le
  have hmb : ∀ k, k ∈ blk wm → 0 < n → k < w1.heap.size := fun k hk h0 => (hr1.lt k (by unfold fp; rw [if_neg (by have := hr1.le; omega)]; exact hk)).2
  clear hr1 hf1 hmx
  refine (put_any wm n cm L w1 hm1 HGN.out hcm hn).mono ?_
  rintro e w2 ⟨ao, cc, bs, ps, rfl, hP, hO, hg2⟩
  have q2 := hg1.then hg2
  have hm2 := hm1.keep hg2
  have HP := mkHid hP
  have hBw := hg1.size
  have hpl : ps.length = npg n := hP.1
  have hpb : npg n ≤ 140737488351232 := by have := npg_le n; omega
  have hplb : ps.length ≤ 140737488351232 := by omega
  have HPL := mkHid hpl
  clear hP hg1 hg2 hm1 hpl
  go_wp2_with fail
  by_cases hzr : z < 0 ∨ (npg n : Int) ≤ z
  · as_aux_lemma =>
      refine (page_no wm n cm L z w2 hm2 HGN.out hcm hn hzr).mono ?_
      rintro e w3 ⟨rfl, g3⟩
      have q3 := q2.then g3
      have hO3 := hO.keep g3
      have hm3 := hm2.keep g3
      clear q2 hO hm2 g3
      go_wp2_with fail
      refine (rpage_no a0 n c L z w3 (g0.keep q3) HGN.out hn hzr).mono ?_
      rintro e w4 ⟨rfl, g4⟩
      have q4 := q3.then g4
      have hO4 := hO3.keep g4
      have hm4 := hm3.keep g4
      clear q3 hO3 hm3 g4
      go_wp2_with fail
      refine (rput_any a0 n c L w4 (g0.keep q4) HGN.out hn).mono ?_
      rintro e w5 ⟨ar, cr, br, qs, rfl, hQ, hR, g5⟩
      have hqp := HP.out.unique hQ
      subst hqp
      have q5 := q4.then g5
      have hO5 := hO4.keep g5
      have hm5 := hm4.keep g5
      have cS := rsame_any ao ar ps.length ps.length cc cr ps ps w5 hO5.read hR.read rfl rfl (by rw [HPL.out]; omega)
      rw [decide_eq_true rfl] at cS
      clear hQ hR q4 hO4 hm4 g5
      go_wp2_with fail
      refine cS.mono ?_
      rintro e w6 ⟨rfl, g6⟩
      have q6 := q5.then g6
      have hO6 := hO5.keep g6
      have hm6 := hm5.keep g6
      have r1 := run_convert_k (P := Try.prog) w6 22 5 9 Try.underlying22 Try.underlying5 Try.underlying9 none 0 0 [] (Reads.nil _ _) rfl
      have c1 := pages_any z w6 hzb
      have c2 := rpages_any z w6 hzb
      have c3 := pages_any (n : Int) w6 (by omega)
      rw [npgZ_nat] at c3
      have x1 : ((npg n : Int) == (ps.length : Int)) = true := by rw [HPL.out]; simp
      have x2 : (npg n == ps.length) = true := by rw [HPL.out]; simp
      have x3 : (npgZ z == npgZ z) = true := by simp
      generalize npgZ z = zz at *
      generalize npg n = gg at *
      clear cS q5 hO5 hm5 g6
      go_wp2_with fail
      refine c1.mono ?_
      rintro e w7 ⟨rfl, rfl⟩
      go_wp2_with fail
      refine c2.mono ?_
      rintro e w7 ⟨rfl, rfl⟩
      go_wp2_with fail
      refine c3.mono ?_
      rintro e w7 ⟨rfl, rfl⟩
      clear c1 c2 c3 r1
      go_wp2_with fail
      go_loopw [12] (fun v wr => ∃ (k : Nat) (ps' : List (List UInt8)), v = .int .i64 k ∧ k ≤ ps.length ∧ ps'.length = ps.length ∧ OPg wr w1.heap.size ao cc bs ps' ∧ Reads wr wm (bts L) ∧ Chg [] w wr) (fun v _ => ps.length - (intOf v).toNat)
      case atStart => exact ⟨0, ps, rfl, Nat.zero_le _, rfl, hO6, hm6, q6⟩
      case round =>
        clear hO6 hm6 q6
        obtain ⟨k, ps', rfl, hk, hln, hO, hm, hq⟩ := hrel
        by_cases hlt : k < ps.length
        · have hd : decide (k < ps.length) = true := decide_eq_true hlt
          have hd2 : decide ((k : Int) < (ps.length : Int)) = true := decide_eq_true (by omega)
          obtain ⟨b, p, lb, lo, hb, hp, rfl, hcell, h240⟩ := hO.at_ (show k < ps'.length by omega)
          obtain ⟨x, mm, hx, hxx⟩ := byte_at' h240 (show 0 < 240 by decide)
          have hpg := hO.p k b p hb hp
          have hcx : wr.cell? ⟨b, 0, none⟩ = some (.int .u8 (v8 x)) := by
            have := hpg.reads.cell 0 (.int .u8 (v8 x)) (by rw [bts_get8 p 0 (by omega)]; rw [List.getElem?_eq_getElem (by omega)] at hxx; cases hxx; rfl)
            simpa using this
          have hfz := hpg.cell 0 (by decide)
          have hxor : bits .xor .u8 (v8 x) 1 = v8 (x ^^^ 1) := x8 x 1
          have hset := hO.set hb hp 0 (by decide) (x ^^^ 1)
          have hbB := (hO.blt hb).1
          have hm2' : Reads (wr.setCell ⟨b, 0, none⟩ (.int .u8 (v8 (x ^^^ 1)))) wm (bts L) := hm.chg0 hset.2 (fun h0 y hy hmm => by
            simp at hmm
            have := hmb y hy (by rw [HBL.out] at h0; exact h0)
            omega)
          have HH := mkHid (And.intro hset hm2')
          have HLN := mkHid hln
          clear hset hm2' hm hO hpg hb hp hx hxx h240 hln
          go_wp2_with fail
          obtain ⟨⟨s1, s2⟩, s3⟩ := HH.out
          exact ⟨⟨k + 1, _, by first | rfl | go_num, by omega, by rw [List.length_set]; exact HLN.out, s1, s3, hq.trans s2 (by simp) (fun y hy hlt9 => by simp at hy; omega)⟩, by simp [intOf]; omega⟩
        · have hkn : k = ps.length := by omega
          have hd : decide (k < ps.length) = false := decide_eq_false hlt
          have hd2 : decide ((k : Int) < (ps.length : Int)) = false := decide_eq_false (by omega)
          have r1 := run_convert_k (P := Try.prog) wr 22 5 9 Try.underlying22 Try.underlying5 Try.underlying9 wm n cm L hm HGN.out
          have r2 := run_convert_k (P := Try.prog) wr 22 5 9 Try.underlying22 Try.underlying5 Try.underlying9 a0 n c L (g0.keep hq) HGN.out
          have cW := wakes_any wr
          clear hkn hO
          go_wp2_with (first | (go_at_call 14; refine cW.mono ?_; rintro e w9 ⟨rfl, g9⟩))
          go_ret
          exact ⟨ret_bool' (by first | rfl | simp), hq.then g9⟩
  · as_aux_lemma =>
      obtain ⟨x0, rfl⟩ : ∃ x0 : Nat, z = (x0 : Int) := ⟨z.toNat, by omega⟩
      have hxn : x0 < npg n := by omega
      clear hzr
      refine (page_yes wm n cm L x0 w2 hm2 HGN.out hcm hn hxn).mono ?_
      rintro e w3 ⟨pa, pc, us, pp, rfl, hU, hpp, hpr, g3⟩
      have hup := HP.out.unique hU
      subst hup
      have hpr3 := hpr.reads
      have q3 := q2.then g3
      have hO3 := hO.keep g3
      have hm3 := hm2.keep g3
      clear q2 hO hm2 g3
      go_wp2_with fail
      refine (rpage_yes a0 n c L x0 w3 (g0.keep q3) HGN.out hn hxn).mono ?_
      rintro e w4 ⟨qa, us, qq, rfl, hU2, hqq, hqr, g4⟩
      have hup := HP.out.unique hU2
      subst hup
      rw [hpp] at hqq
      cases hqq
      have hpr4 := hpr3.keep g4
      have hqr4 := hqr.reads
      have hp240 : pp.length = 240 := (HP.out.2 _ _ hpp).1
      have HP4 := mkHid hp240
      clear hU hU2 hpp hpr hqr hpr3 hp240
      have q4 := q3.then g4
      have hO4 := hO3.keep g4
      have hm4 := hm3.keep g4
      clear q3 hO3 hm3 g4
      go_wp2_with fail
      refine (rput_any a0 n c L w4 (g0.keep q4) HGN.out hn).mono ?_
      rintro e w5 ⟨ar, cr, br, qs, rfl, hQ, hR, g5⟩
      have hqp := HP.out.unique hQ
      subst hqp
      have q5 := q4.then g5
      have hO5 := hO4.keep g5
      have hm5 := hm4.keep g5
      have cS := rsame_any ao ar ps.length ps.length cc cr ps ps w5 hO5.read hR.read rfl rfl (by rw [HPL.out]; omega)
      rw [decide_eq_true rfl] at cS
      have hpr5 := hpr4.keep g5
      have hqr5 := hqr4.keep g5
      clear hQ hR q4 hO4 hm4 g5 hpr4 hqr4
      go_wp2_with fail
      refine cS.mono ?_
      rintro e w6 ⟨rfl, g6⟩
      have q6 := q5.then g6
      have hO6 := hO5.keep g6
      have hm6 := hm5.keep g6
      have r1 := run_convert_k (P := Try.prog) w6 22 5 9 Try.underlying22 Try.underlying5 Try.underlying9 pa 240 pc pp (hpr5.keep g6) HP4.out
      have r2 := run_convert_k (P := Try.prog) w6 22 5 9 Try.underlying22 Try.underlying5 Try.underlying9 (some ⟨qa, 0, none⟩) 240 240 pp (hqr5.keep g6) HP4.out
      clear hpr5 hqr5
      have c1 := pages_any (x0 : Int) w6 hzb
      have c2 := rpages_any (x0 : Int) w6 hzb
      have c3 := pages_any (n : Int) w6 (by omega)
      generalize npgZ (x0 : Int) = zz at *
      rw [npgZ_nat] at c3
      have x1 : ((npg n : Int) == (ps.length : Int)) = true := by rw [HPL.out]; simp
      have x2 : (npg n == ps.length) = true := by rw [HPL.out]; simp
      have x3 : (zz == zz) = true := by simp
      generalize npg n = gg at *
      clear cS q5 hO5 hm5 g6
      go_wp2_with fail
      refine c1.mono ?_
      rintro e w7 ⟨rfl, rfl⟩
      go_wp2_with fail
      refine c2.mono ?_
      rintro e w7 ⟨rfl, rfl⟩
      go_wp2_with fail
      refine c3.mono ?_
      rintro e w7 ⟨rfl, rfl⟩
      clear c1 c2 c3 r1 r2
      go_wp2_with fail
      go_loopw [12] (fun v wr => ∃ (k : Nat) (ps' : List (List UInt8)), v = .int .i64 k ∧ k ≤ ps.length ∧ ps'.length = ps.length ∧ OPg wr w1.heap.size ao cc bs ps' ∧ Reads wr wm (bts L) ∧ Chg [] w wr) (fun v _ => ps.length - (intOf v).toNat)
      case atStart => exact ⟨0, ps, rfl, Nat.zero_le _, rfl, hO6, hm6, q6⟩
      case round =>
        clear hO6 hm6 q6
        obtain ⟨k, ps', rfl, hk, hln, hO, hm, hq⟩ := hrel
        by_cases hlt : k < ps.length
        · have hd : decide (k < ps.length) = true := decide_eq_true hlt
          have hd2 : decide ((k : Int) < (ps.length : Int)) = true := decide_eq_true (by omega)
          obtain ⟨b, p, lb, lo, hb, hp, rfl, hcell, h240⟩ := hO.at_ (show k < ps'.length by omega)
          obtain ⟨x, mm, hx, hxx⟩ := byte_at' h240 (show 0 < 240 by decide)
          have hpg := hO.p k b p hb hp
          have hcx : wr.cell? ⟨b, 0, none⟩ = some (.int .u8 (v8 x)) := by
            have := hpg.reads.cell 0 (.int .u8 (v8 x)) (by rw [bts_get8 p 0 (by omega)]; rw [List.getElem?_eq_getElem (by omega)] at hxx; cases hxx; rfl)
            simpa using this
          have hfz := hpg.cell 0 (by decide)
          have hxor : bits .xor .u8 (v8 x) 1 = v8 (x ^^^ 1) := x8 x 1
          have hset := hO.set hb hp 0 (by decide) (x ^^^ 1)
          have hbB := (hO.blt hb).1
          have hm2' : Reads (wr.setCell ⟨b, 0, none⟩ (.int .u8 (v8 (x ^^^ 1)))) wm (bts L) := hm.chg0 hset.2 (fun h0 y hy hmm => by
            simp at hmm
            have := hmb y hy (by rw [HBL.out] at h0; exact h0)
            omega)
          have HH := mkHid (And.intro hset hm2')
          have HLN := mkHid hln
          clear hset hm2' hm hO hpg hb hp hx hxx h240 hln
          go_wp2_with fail
          obtain ⟨⟨s1, s2⟩, s3⟩ := HH.out
          exact ⟨⟨k + 1, _, by first | rfl | go_num, by omega, by rw [List.length_set]; exact HLN.out, s1, s3, hq.trans s2 (by simp) (fun y hy hlt9 => by simp at hy; omega)⟩, by simp [intOf]; omega⟩
        · have hkn : k = ps.length := by omega
          have hd : decide (k < ps.length) = false := decide_eq_false hlt
          have hd2 : decide ((k : Int) < (ps.length : Int)) = false := decide_eq_false (by omega)
          have r1 := run_convert_k (P := Try.prog) wr 22 5 9 Try.underlying22 Try.underlying5 Try.underlying9 wm n cm L hm HGN.out
          have r2 := run_convert_k (P := Try.prog) wr 22 5 9 Try.underlying22 Try.underlying5 Try.underlying9 a0 n c L (g0.keep hq) HGN.out
          have cW := wakes_any wr
          clear hkn hO
          go_wp2_with (first | (go_at_call 14; refine cW.mono ?_; rintro e w9 ⟨rfl, g9⟩))
          go_ret
          exact ⟨ret_bool' (by first | rfl | simp), hq.then g9⟩
end Go.Proofs.Ytkfpkbmkmbnjcaa
