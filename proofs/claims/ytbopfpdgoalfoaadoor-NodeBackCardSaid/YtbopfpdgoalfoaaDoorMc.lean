/- NodeBack. Written by mkMc.py. -/
import Derived.Test.YtbopfpdgoalfoaaDoorNt
namespace Go.Proofs.YtbopfpdgoalfoaaDoor
open Go.RowKit
set_option linter.unusedVariables false
set_option linter.unusedSimpArgs false
attribute [local go_sem ↓] Go.wp_at_zero Go.wp_at_succ

theorem laid3 (w : World) (x y z : Value) (t : TypeId) : (w.alloc (.cells #[x, y, z] t)).cell? ⟨w.heap.size, 0, none⟩ = some x ∧ (w.alloc (.cells #[x, y, z] t)).cell? ⟨w.heap.size, 1, none⟩ = some y ∧ (w.alloc (.cells #[x, y, z] t)).cell? ⟨w.heap.size, 2, none⟩ = some z := by
  have hl := heap_alloc_last w (.cells #[x, y, z] t)
  have hc := fun j => cell_of_row _ w.heap.size j _ _ _ hl
  exact ⟨by rw [hc]; rfl, by rw [hc]; rfl, by rw [hc]; rfl⟩
theorem took_even (l : List UInt8) : (takeN l).2.2.1.length = (takeN l).2.2.2.length := by
  rcases hr : takeN l with ⟨e, lf, K, V⟩
  by_cases he : e = 0
  · subst he
    obtain ⟨hm, bK, bV, -⟩ := took_node hr
    have := (follows_of hm bK bV).len
    simpa using this.symm
  · obtain ⟨rfl, rfl, rfl⟩ := took_not hr he
    rfl
theorem zeros_of {z : List UInt8} (h : z.all (· == 0) = true) : z = List.replicate z.length 0 :=
  List.eq_replicate_iff.2 ⟨rfl, fun b hb => by have := List.all_eq_true.1 h b hb; simpa using this⟩
/-- Three cells of a block of the law's own, written. -/
theorem stored3' {w wB : World} {nb : Nat} {u0 u1 u2 v0 v1 v2 : Value} (d0 : wB.cell? ⟨nb, 0, none⟩ = some u0) (d1 : wB.cell? ⟨nb, 1, none⟩ = some u1) (d2 : wB.cell? ⟨nb, 2, none⟩ = some u2) (q : Chg [] w wB) (hnb : w.heap.size ≤ nb) :
    (((wB.setCell ⟨nb, 0, none⟩ v0).setCell ⟨nb, 1, none⟩ v1).setCell ⟨nb, 2, none⟩ v2).cell? ⟨nb, 0, none⟩ = some v0 ∧ (((wB.setCell ⟨nb, 0, none⟩ v0).setCell ⟨nb, 1, none⟩ v1).setCell ⟨nb, 2, none⟩ v2).cell? ⟨nb, 1, none⟩ = some v1 ∧
    (((wB.setCell ⟨nb, 0, none⟩ v0).setCell ⟨nb, 1, none⟩ v1).setCell ⟨nb, 2, none⟩ v2).cell? ⟨nb, 2, none⟩ = some v2 ∧ Chg [] w (((wB.setCell ⟨nb, 0, none⟩ v0).setCell ⟨nb, 1, none⟩ v1).setCell ⟨nb, 2, none⟩ v2) := by
  have a0 := World.cell?_setCell_same _ _ v0 d0
  have a1 : (wB.setCell ⟨nb, 0, none⟩ v0).cell? ⟨nb, 1, none⟩ = some u1 := by rw [World.cell?_setCell_other _ _ _ _ (by simp)]; exact d1
  have a2 : (wB.setCell ⟨nb, 0, none⟩ v0).cell? ⟨nb, 2, none⟩ = some u2 := by rw [World.cell?_setCell_other _ _ _ _ (by simp)]; exact d2
  have b0 : ((wB.setCell ⟨nb, 0, none⟩ v0).setCell ⟨nb, 1, none⟩ v1).cell? ⟨nb, 0, none⟩ = some v0 := by rw [World.cell?_setCell_other _ _ _ _ (by simp)]; exact a0
  have b1 := World.cell?_setCell_same _ _ v1 a1
  have b2 : ((wB.setCell ⟨nb, 0, none⟩ v0).setCell ⟨nb, 1, none⟩ v1).cell? ⟨nb, 2, none⟩ = some u2 := by rw [World.cell?_setCell_other _ _ _ _ (by simp)]; exact a2
  have hf : ∀ j (W : World) v, Chg [] w W → Chg [] w (W.setCell ⟨nb, j, none⟩ v) := fun j W v h => h.trans (Chg.setCell W ⟨nb, j, none⟩ v) (by simp) (fun q hq hlt => by simp at hq; omega)
  refine ⟨by rw [World.cell?_setCell_other _ _ _ _ (by simp)]; exact b0, by rw [World.cell?_setCell_other _ _ _ _ (by simp)]; exact b1, World.cell?_setCell_same _ _ v2 b2, hf _ _ _ (hf _ _ _ (hf _ _ _ q))⟩
theorem stored3 {w wB : World} {nb m : Nat} {u0 u1 u2 : Value} {lf : Bool} {ma mb : Option Addr} {mac mbc : Nat} {K V : List Nat} (d0 : wB.cell? ⟨nb, 0, none⟩ = some u0) (d1 : wB.cell? ⟨nb, 1, none⟩ = some u1) (d2 : wB.cell? ⟨nb, 2, none⟩ = some u2) (q : Chg [] w wB) (hnb : w.heap.size ≤ nb)
    {B : Nat} (rk : Room wB B ma m mac (uvs K)) (rv : Room wB B mb m mbc (uvs V)) (hB : nb < B) (hk : K.length = m) (hv : V.length = m) (h8 : m ≤ 8) :
    let W := ((wB.setCell ⟨nb, 0, none⟩ (.bool lf)).setCell ⟨nb, 1, none⟩ (.slice ma m mac)).setCell ⟨nb, 2, none⟩ (.slice mb m mbc)
    W.cell? ⟨nb, 0, none⟩ = some (.bool lf) ∧ W.cell? ⟨nb, 1, none⟩ = some (.slice ma m mac) ∧ W.cell? ⟨nb, 2, none⟩ = some (.slice mb m mbc) ∧ Chg [] w W ∧ RdN W ma mac mb mbc K V := by
  intro W
  obtain ⟨s0, s1, s2, s3⟩ := stored3' (v0 := .bool lf) (v1 := .slice ma m mac) (v2 := .slice mb m mbc) d0 d1 d2 q hnb
  have hs : ∀ (U : World) (j : Nat) (v : Value) (a : Option Addr) (c : Nat) (xs : List Value), Room U B a m c xs → Room (U.setCell ⟨nb, j, none⟩ v) B a m c xs := fun U j v a c xs h => h.chg (Chg.setCell U ⟨nb, j, none⟩ v) (fun q hq hm => by have := (h.lt q hq).1; simp at hm; omega)
  have rk' := hs _ 2 (.slice mb m mbc) _ _ _ (hs _ 1 (.slice ma m mac) _ _ _ (hs _ 0 (.bool lf) _ _ _ rk))
  have rv' := hs _ 2 (.slice mb m mbc) _ _ _ (hs _ 1 (.slice ma m mac) _ _ _ (hs _ 0 (.bool lf) _ _ _ rv))
  exact ⟨s0, s1, s2, s3, rk'.reads, rv'.reads, by rw [hk]; exact rk'.le, by rw [hv]; exact rv'.le, by omega, by omega, rk'.max, rv'.max⟩
set_option maxRecDepth 20000 in
set_option maxHeartbeats 4000000 in
theorem back_core (lf : Bool) (ka : Option Addr) (kl kc : Nat) (va : Option Addr) (vl vc : Nat) (K V : List Nat) (z : Nat) (b0 : Option Addr) (n0 c0 : Nat) (L : List UInt8) (w : World) (h : RdN w ka kc va vc K V) (hk : K.length = kl) (hv : V.length = vl) (hbK : ∀ x ∈ K, x < 2 ^ 64) (hbV : ∀ x ∈ V, x < 2 ^ 64) (hz : z < 256)
    (g0 : Reads w b0 (bts L)) (gn0 : L.length = n0) (gc0 : n0 ≤ c0) (gr0 : c0 * 1 ≤ 140737488351232) :
    Calls Tryd.prog 3 #[.agg #[.bool lf, .slice ka kl kc, .slice va vl vc], .int .u8 (z : Int), .slice b0 n0 c0] w fun e w' => e = .returned (.bool true) ∧ Chg [] w w' := by
  have g1 := Chg.alloc [] w (.cells #[.bool lf, .slice ka kl kc, .slice va vl vc] 24)
  obtain ⟨c0', c1', c2'⟩ := laid3 w (.bool lf) (.slice ka kl kc) (.slice va vl vc) 24
  have hfz := fun j => frozen_of_row _ w.heap.size j _ _ (heap_alloc_last w (.cells #[.bool lf, .slice ka kl kc, .slice va vl vc] 24))
  have y0' := hfz 0
  have y1' := hfz 1
  have y2' := hfz 2
  have HK := mkHid hk
  have HV := mkHid hv
  have HN0 := mkHid gn0
  have EV := took_even L
  have TL := took_len (l := L)
  have h1 := h.keep g1
  clear hk hv gn0 hfz
  go_enter Tryd.func3, Tryd.ntmps3
  go_wp2_with fail
  generalize w.alloc (.cells #[.bool lf, .slice ka kl kc, .slice va vl vc] 24) = w1 at *
  obtain ⟨nb, hnb0⟩ : ∃ b, w.heap.size = b := ⟨_, rfl⟩
  rw [hnb0] at c0' c1' c2' y0' y1' y2' ⊢
  have hnbw : w.heap.size ≤ nb := Nat.le_of_eq hnb0
  clear hnb0
  cases hm : mayB K V with
  | false =>
    refine (put_node_no lf ka kl kc va vl vc K V w1 h1 HK.out HV.out hm).mono ?_
    rintro e w2 ⟨rfl, g2⟩
    have d0 := g2.cellv c0' (by simp)
    have d1 := g2.cellv c1' (by simp)
    have d2 := g2.cellv c2' (by simp)
    have e0 := (g2.frozen (p := ⟨nb, 0, none⟩) (block_lt_of_cell c0') (by simp)).trans y0'
    have e1 := (g2.frozen (p := ⟨nb, 1, none⟩) (block_lt_of_cell c1') (by simp)).trans y1'
    have e2 := (g2.frozen (p := ⟨nb, 2, none⟩) (block_lt_of_cell c2') (by simp)).trans y2'
    have h2 := h1.keep g2
    have q2 := g1.then g2
    clear c0' c1' c2' y0' y1' y2' h1 g1 g2
    go_wp2_with fail
    have cM := may_any lf ka kl kc va vl vc K V w2 h2 HK.out HV.out
    rw [hm] at cM
    refine cM.mono ?_
    rintro e wA ⟨rfl, gA⟩
    have z0 := gA.cellv d0 (by simp)
    have z1 := gA.cellv d1 (by simp)
    have z2 := gA.cellv d2 (by simp)
    have y0 := (gA.frozen (p := ⟨nb, 0, none⟩) (block_lt_of_cell d0) (by simp)).trans e0
    have y1 := (gA.frozen (p := ⟨nb, 1, none⟩) (block_lt_of_cell d1) (by simp)).trans e1
    have y2 := (gA.frozen (p := ⟨nb, 2, none⟩) (block_lt_of_cell d2) (by simp)).trans e2
    have qA := q2.then gA
    clear d0 d1 d2 e0 e1 e2 h2 q2 gA cM
    go_wp2_with fail
    have c2 := take_any b0 n0 c0 L wA (g0.keep qA) HN0.out gc0 (by unfold maxLen; omega)
    generalize hr : takeN L = r at *
    obtain ⟨er, lf', K', V'⟩ := r
    dsimp only at EV TL
    have hm8 := TL
    clear TL
    refine c2.mono ?_
    rintro e wB ⟨⟨ma, mac, mb, mbc, rfl, rk, rv, -⟩, gB⟩
    dsimp only at rk rv ⊢
    have ev : V'.length = K'.length := EV.symm
    have d0 := gB.cellv z0 (by simp)
    have d1 := gB.cellv z1 (by simp)
    have d2 := gB.cellv z2 (by simp)
    have f0 := (gB.frozen (p := ⟨nb, 0, none⟩) (block_lt_of_cell z0) (by simp)).trans y0
    have f1 := (gB.frozen (p := ⟨nb, 1, none⟩) (block_lt_of_cell z1) (by simp)).trans y1
    have f2 := (gB.frozen (p := ⟨nb, 2, none⟩) (block_lt_of_cell z2) (by simp)).trans y2
    have qB := qA.then gB
    have hnb2 : nb < wA.heap.size := block_lt_of_cell z0
    have HRR := mkHid hr
    rw [ev] at rv ⊢
    clear c2 z0 z1 z2 y0 y1 y2 gB hr EV qA
    generalize hkl : K'.length = m at *
    have HKL := mkHid (And.intro hkl ev)
    clear hkl ev
    by_cases he : er = 0
    · subst he
      obtain ⟨hm', bK', bV', zz, hz, hzz⟩ := took_node HRR.out
      have HZ := mkHid (And.intro hz hzz)
      have HM' := mkHid (And.intro hm' (And.intro bK' bV'))
      clear hz hzz hm' bK' bV'
      go_wp2_with fail
      obtain ⟨s0, s1, s2, q8, n8⟩ := stored3 (w := w) (lf := lf') (mac := mac) (mbc := mbc) d0 d1 d2 qB hnbw rk rv hnb2 HKL.out.1 HKL.out.2 hm8.1
      clear d0 d1 d2 f0 f1 f2 rk rv qB
      generalize ((wB.setCell ⟨nb, 0, none⟩ (.bool lf')).setCell ⟨nb, 1, none⟩ (.slice ma m mac)).setCell ⟨nb, 2, none⟩ (.slice mb m mbc) = w8 at *
      have hlen : (formN lf' K' V').length + zz.length = n0 := by rw [← HN0.out, HZ.out.1, List.length_append]
      have hz := HZ.out.2
      have hzr := zeros_of hz
      have hL := HZ.out.1
      refine (put_node lf' ma m mac mb m mbc K' V' w8 n8 HKL.out.1 HKL.out.2 HM'.out.2.1 HM'.out.2.2 HM'.out.1).mono ?_
      rintro e w9 ⟨xa, xc, rfl, rx, g9⟩
      have t0 := g9.cellv s0 (by simp)
      have t1 := g9.cellv s1 (by simp)
      have t2 := g9.cellv s2 (by simp)
      have q9 := q8.then g9
      have n9 := n8.keep g9
      have rx9 := rx.reads
      generalize hF : formN lf' K' V' = F at *
      generalize hfl : F.length = fl at *
      have HFL := mkHid hfl
      clear s0 s1 s2 g9 q8 n8 rx hF hfl HZ hz
      go_wp2_with fail
      refine (awake_any w9).mono ?_
      rintro e wC ⟨rfl, gC⟩
      have s0 := gC.cellv t0 (by simp)
      have s1 := gC.cellv t1 (by simp)
      have s2 := gC.cellv t2 (by simp)
      have qC := q9.then gC
      have nC := n9.keep gC
      have rxC := rx9.keep gC
      clear t0 t1 t2 q9 n9 rx9 gC
      go_wp2_with fail
      have cM := may_any lf' ma m mac mb m mbc K' V' wC nC HKL.out.1 HKL.out.2
      rw [HM'.out.1] at cM
      refine cM.mono ?_
      rintro e wD ⟨rfl, gD⟩
      have qD := qC.then gD
      have rxD := rxC.keep gD
      have bD := g0.keep qD
      clear s0 s1 s2 cM qC nC rxC gD
      rw [hL] at bD
      go_wp2_with fail
      have hN : (F ++ zz).length = n0 := by rw [← hL]; exact HN0.out
      refine (prefix_any b0 n0 c0 F zz xa fl xc wD bD hN gc0 rxD HFL.out).mono ?_
      rintro e w' ⟨rfl, rfl⟩
      have hfn : fl ≤ n0 := by omega
      have hsl := run_from_k (P := Tryd.prog) (t := 25) (e := 5) b0 n0 c0 fl Tryd.underlying25 (by kernel_rfl) hfn wD
      have hdr := bD.cut c0 fl (by rw [bts_length, hN]; exact gc0)
      rw [bts_drop, ← HFL.out, List.drop_left, HFL.out, hzr] at hdr
      have hzl : zz.length = n0 - fl := by omega
      rw [hzl] at hdr
      clear hlen hN bD rxD hzr hL hzl
      go_wp2_with fail
      refine (trim_any (cut b0 c0 fl) (n0 - fl) (c0 - fl) wD hdr (by omega) (by unfold maxLen; omega)).mono ?_
      rintro e wE ⟨rfl, gE⟩
      go_wp2_with fail
      go_ret
      exact ⟨rfl, qD.then gE⟩
    · have hne : (er != 0) = true := by simp; exact he
      obtain ⟨rfl, rfl, rfl⟩ := took_not HRR.out he
      have hm0 : m = 0 := HKL.out.1.symm
      subst hm0
      clear he rk rv
      go_wp2_with fail
      refine (awake_any _).mono ?_
      rintro e wC ⟨rfl, gC⟩
      obtain ⟨s0, s1, s2, q8⟩ := stored3' (w := w) (v0 := .bool false) (v1 := .slice ma 0 mac) (v2 := .slice mb 0 mbc) d0 d1 d2 qB hnbw
      have t0 := gC.cellv s0 (by simp)
      have t1 := gC.cellv s1 (by simp)
      have t2 := gC.cellv s2 (by simp)
      have qC := q8.then gC
      clear d0 d1 d2 f0 f1 f2 s0 s1 s2 gC q8 qB
      go_wp2_with fail
      go_ret
      exact ⟨rfl, qC⟩
  | true =>
    refine (put_node lf ka kl kc va vl vc K V w1 h1 HK.out HV.out hbK hbV hm).mono ?_
    rintro e w2 ⟨a, c, rfl, r2, g2⟩
    have TF := take_form (lf := lf) hm hbK hbV (List.replicate z 0)
    rw [if_pos (by simp)] at TF
    have hfl8 : (formN lf K V).length ≤ 200 := by
      have := form_len (lf := lf) (may_len hm).2.2
      have := may_len hm
      omega
    have d0 := g2.cellv c0' (by simp)
    have d1 := g2.cellv c1' (by simp)
    have d2 := g2.cellv c2' (by simp)
    have e0 := (g2.frozen (p := ⟨nb, 0, none⟩) (block_lt_of_cell c0') (by simp)).trans y0'
    have e1 := (g2.frozen (p := ⟨nb, 1, none⟩) (block_lt_of_cell c1') (by simp)).trans y1'
    have e2 := (g2.frozen (p := ⟨nb, 2, none⟩) (block_lt_of_cell c2') (by simp)).trans y2'
    have h2 := h1.keep g2
    have q2 := g1.then g2
    have hnb1 : nb < w1.heap.size := block_lt_of_cell c0'
    have hw1 : w.heap.size ≤ w1.heap.size := g1.size
    generalize formN lf K V = F at *
    generalize hfl : F.length = fl at *
    have HF := mkHid (And.intro hfl TF)
    have H2 := mkHid (And.intro r2 g2.size)
    have hfb : fl + z ≤ maxLen ∧ (fl + z) * 1 ≤ 140737488355328 := by unfold maxLen; omega
    clear hfl TF r2 g2 c0' c1' c2' y0' y1' y2' h1 g1
    go_wp2_with (at_builtin; refine wpList_append_zeros_k _ rfl (.tmp 22) (.tmp 23) 25 5 rfl 5 1 eltB (.int .u8 0) (by kernel_rfl) rfl rfl .u8 .u8 (by kernel_rfl) w1.heap.size a fl c (bts F) rfl H2.out.1 H2.out.2 z rfl hfb.1 hfb.2 ?_; intro a3 c3 w3 r3 g3 f3)
    have lt2 := H2.out.1.lt
    have hnf : nb ∉ fp a c := fun hm => by have := (lt2 nb hm).1; omega
    have k0 := g3.cellv d0 hnf
    have k1 := g3.cellv d1 hnf
    have k2 := g3.cellv d2 hnf
    have l0 := (g3.frozen (p := ⟨nb, 0, none⟩) (block_lt_of_cell d0) hnf).trans e0
    have l1 := (g3.frozen (p := ⟨nb, 1, none⟩) (block_lt_of_cell d1) hnf).trans e1
    have l2 := (g3.frozen (p := ⟨nb, 2, none⟩) (block_lt_of_cell d2) hnf).trans e2
    have q3 := q2.trans g3 (U := []) (by simp) (fun q hq hlt => by have := (lt2 q hq).1; omega)
    have ebts : bts F ++ List.replicate z (.int .u8 0) = bts (F ++ List.replicate z 0) := by simp [bts]
    rw [ebts] at r3
    have ct := take_any a3 (fl + z) c3 (F ++ List.replicate z 0) w3 r3.reads (by simp [HF.out.1]) r3.le r3.max
    rw [HF.out.2] at ct
    clear d0 d1 d2 e0 e1 e2 lt2 hnf g3 f3 ebts r3 q2 h2 H2
    refine ct.mono ?_
    rintro e w4 ⟨⟨ka2, kc2, va2, vc2, rfl, rk2, rv2, -⟩, g4⟩
    dsimp only at rk2 rv2 ⊢
    rw [HK.out] at rk2 ⊢
    rw [HV.out] at rv2 ⊢
    have gN := Chg.alloc [] w4 (.cells #[.bool lf, .slice ka2 kl kc2, .slice va2 vl vc2] 24)
    obtain ⟨s0, s1, s2⟩ := laid3 w4 (.bool lf) (.slice ka2 kl kc2) (.slice va2 vl vc2) 24
    have g5 := g4.then gN
    have m0 := g5.cellv k0 (by simp)
    have m1 := g5.cellv k1 (by simp)
    have m2 := g5.cellv k2 (by simp)
    have t0 := (g5.frozen (p := ⟨nb, 0, none⟩) (block_lt_of_cell k0) (by simp)).trans l0
    have t1 := (g5.frozen (p := ⟨nb, 1, none⟩) (block_lt_of_cell k1) (by simp)).trans l1
    have t2 := (g5.frozen (p := ⟨nb, 2, none⟩) (block_lt_of_cell k2) (by simp)).trans l2
    have q5 := q3.then g5
    have rk5 := rk2.chg gN (by simp)
    have rv5 := rv2.chg gN (by simp)
    have n5 : RdN (w4.alloc (.cells #[.bool lf, .slice ka2 kl kc2, .slice va2 vl vc2] 24)) ka2 kc2 va2 vc2 K V := ⟨rk5.reads, rv5.reads, by rw [HK.out]; exact rk5.le, by rw [HV.out]; exact rv5.le, h.bk, h.bv, rk5.max, rv5.max⟩
    have h5 := h.keep q5
    clear k0 k1 k2 l0 l1 l2 q3 ct rk2 rv2 rk5 rv5 gN g4 g5
    go_wp2_with fail
    generalize w4.alloc (.cells #[.bool lf, .slice ka2 kl kc2, .slice va2 vl vc2] 24) = w5 at *
    generalize w4.heap.size = sb at *
    have cS := rsame_any lf ka kl kc va vl vc K V lf ka2 kl kc2 va2 vl vc2 K V w5 h5 HK.out HV.out n5 HK.out HV.out
    rw [same_self] at cS
    refine cS.mono ?_
    rintro e wA ⟨rfl, gA⟩
    have z0 := gA.cellv m0 (by simp)
    have z1 := gA.cellv m1 (by simp)
    have z2 := gA.cellv m2 (by simp)
    have y0 := (gA.frozen (p := ⟨nb, 0, none⟩) (block_lt_of_cell m0) (by simp)).trans t0
    have y1 := (gA.frozen (p := ⟨nb, 1, none⟩) (block_lt_of_cell m1) (by simp)).trans t1
    have y2 := (gA.frozen (p := ⟨nb, 2, none⟩) (block_lt_of_cell m2) (by simp)).trans t2
    have qA := q5.then gA
    clear m0 m1 m2 t0 t1 t2 s0 s1 s2 n5 h5 q5 gA cS
    go_wp2_with fail
    have c2 := take_any b0 n0 c0 L wA (g0.keep qA) HN0.out gc0 (by unfold maxLen; omega)
    generalize hr : takeN L = r at *
    obtain ⟨er, lf', K', V'⟩ := r
    dsimp only at EV TL
    have hm8 := TL
    clear TL
    refine c2.mono ?_
    rintro e wB ⟨⟨ma, mac, mb, mbc, rfl, rk, rv, -⟩, gB⟩
    dsimp only at rk rv ⊢
    have ev : V'.length = K'.length := EV.symm
    have d0 := gB.cellv z0 (by simp)
    have d1 := gB.cellv z1 (by simp)
    have d2 := gB.cellv z2 (by simp)
    have f0 := (gB.frozen (p := ⟨nb, 0, none⟩) (block_lt_of_cell z0) (by simp)).trans y0
    have f1 := (gB.frozen (p := ⟨nb, 1, none⟩) (block_lt_of_cell z1) (by simp)).trans y1
    have f2 := (gB.frozen (p := ⟨nb, 2, none⟩) (block_lt_of_cell z2) (by simp)).trans y2
    have qB := qA.then gB
    have hnb2 : nb < wA.heap.size := block_lt_of_cell z0
    have HRR := mkHid hr
    rw [ev] at rv ⊢
    clear c2 z0 z1 z2 y0 y1 y2 gB hr EV qA
    generalize hkl : K'.length = m at *
    have HKL := mkHid (And.intro hkl ev)
    clear hkl ev
    by_cases he : er = 0
    · subst he
      obtain ⟨hm', bK', bV', zz, hz, hzz⟩ := took_node HRR.out
      have HZ := mkHid (And.intro hz hzz)
      have HM' := mkHid (And.intro hm' (And.intro bK' bV'))
      clear hz hzz hm' bK' bV'
      go_wp2_with fail
      obtain ⟨s0, s1, s2, q8, n8⟩ := stored3 (w := w) (lf := lf') (mac := mac) (mbc := mbc) d0 d1 d2 qB hnbw rk rv hnb2 HKL.out.1 HKL.out.2 hm8.1
      clear d0 d1 d2 f0 f1 f2 rk rv qB
      generalize ((wB.setCell ⟨nb, 0, none⟩ (.bool lf')).setCell ⟨nb, 1, none⟩ (.slice ma m mac)).setCell ⟨nb, 2, none⟩ (.slice mb m mbc) = w8 at *
      have hlen : (formN lf' K' V').length + zz.length = n0 := by rw [← HN0.out, HZ.out.1, List.length_append]
      have hz := HZ.out.2
      have hzr := zeros_of hz
      have hL := HZ.out.1
      refine (put_node lf' ma m mac mb m mbc K' V' w8 n8 HKL.out.1 HKL.out.2 HM'.out.2.1 HM'.out.2.2 HM'.out.1).mono ?_
      rintro e w9 ⟨xa, xc, rfl, rx, g9⟩
      have t0 := g9.cellv s0 (by simp)
      have t1 := g9.cellv s1 (by simp)
      have t2 := g9.cellv s2 (by simp)
      have q9 := q8.then g9
      have n9 := n8.keep g9
      have rx9 := rx.reads
      generalize hF : formN lf' K' V' = F at *
      generalize hfl : F.length = fl at *
      have HFL := mkHid hfl
      clear s0 s1 s2 g9 q8 n8 rx hF hfl HZ hz
      go_wp2_with fail
      refine (awake_any w9).mono ?_
      rintro e wC ⟨rfl, gC⟩
      have s0 := gC.cellv t0 (by simp)
      have s1 := gC.cellv t1 (by simp)
      have s2 := gC.cellv t2 (by simp)
      have qC := q9.then gC
      have nC := n9.keep gC
      have rxC := rx9.keep gC
      clear t0 t1 t2 q9 n9 rx9 gC
      go_wp2_with fail
      have cM := may_any lf' ma m mac mb m mbc K' V' wC nC HKL.out.1 HKL.out.2
      rw [HM'.out.1] at cM
      refine cM.mono ?_
      rintro e wD ⟨rfl, gD⟩
      have qD := qC.then gD
      have rxD := rxC.keep gD
      have bD := g0.keep qD
      clear s0 s1 s2 cM qC nC rxC gD
      rw [hL] at bD
      go_wp2_with fail
      have hN : (F ++ zz).length = n0 := by rw [← hL]; exact HN0.out
      refine (prefix_any b0 n0 c0 F zz xa fl xc wD bD hN gc0 rxD HFL.out).mono ?_
      rintro e w' ⟨rfl, rfl⟩
      have hfn : fl ≤ n0 := by omega
      have hsl := run_from_k (P := Tryd.prog) (t := 25) (e := 5) b0 n0 c0 fl Tryd.underlying25 (by kernel_rfl) hfn wD
      have hdr := bD.cut c0 fl (by rw [bts_length, hN]; exact gc0)
      rw [bts_drop, ← HFL.out, List.drop_left, HFL.out, hzr] at hdr
      have hzl : zz.length = n0 - fl := by omega
      rw [hzl] at hdr
      clear hlen hN bD rxD hzr hL hzl
      go_wp2_with fail
      refine (trim_any (cut b0 c0 fl) (n0 - fl) (c0 - fl) wD hdr (by omega) (by unfold maxLen; omega)).mono ?_
      rintro e wE ⟨rfl, gE⟩
      go_wp2_with fail
      go_ret
      exact ⟨rfl, qD.then gE⟩
    · have hne : (er != 0) = true := by simp; exact he
      obtain ⟨rfl, rfl, rfl⟩ := took_not HRR.out he
      have hm0 : m = 0 := HKL.out.1.symm
      subst hm0
      clear he rk rv
      go_wp2_with fail
      refine (awake_any _).mono ?_
      rintro e wC ⟨rfl, gC⟩
      obtain ⟨s0, s1, s2, q8⟩ := stored3' (w := w) (v0 := .bool false) (v1 := .slice ma 0 mac) (v2 := .slice mb 0 mbc) d0 d1 d2 qB hnbw
      have t0 := gC.cellv s0 (by simp)
      have t1 := gC.cellv s1 (by simp)
      have t2 := gC.cellv s2 (by simp)
      have qC := q8.then gC
      clear d0 d1 d2 f0 f1 f2 s0 s1 s2 gC q8 qB
      go_wp2_with fail
      go_ret
      exact ⟨rfl, qC⟩
end Go.Proofs.YtbopfpdgoalfoaaDoor
