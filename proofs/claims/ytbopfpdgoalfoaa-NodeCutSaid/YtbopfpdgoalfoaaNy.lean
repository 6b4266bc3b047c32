/- NodeTakes. -/
import Derived.Test.YtbopfpdgoalfoaaNx
namespace Go.Proofs.Ytbopfpdgoalfoaa
open Go.RowKit
set_option linter.unusedVariables false
set_option linter.unusedSimpArgs false
attribute [local go_sem ↓] Go.wp_at_zero Go.wp_at_succ

theorem took_even (l : List UInt8) : (takeN l).2.2.1.length = (takeN l).2.2.2.length := by
  rcases hr : takeN l with ⟨e, lf, K, V⟩
  by_cases he : e = 0
  · subst he
    obtain ⟨hm, bK, bV, -⟩ := took_node hr
    have := (follows_of hm bK bV).len
    simpa using this.symm
  · obtain ⟨rfl, rfl, rfl⟩ := took_not hr he
    rfl
/-- A row of numbers, whatever they are. -/
def u64s (zs : List Int) : List Value := zs.map (Value.int .u64)
theorem u64s_get {zs : List Int} {k : Nat} (h : k < zs.length) : (u64s zs)[k]? = some (.int .u64 (zs[k]'h)) := by simp [u64s, h]
theorem u64s_set (zs : List Int) (k : Nat) (z : Int) : (u64s zs).set k (.int .u64 z) = u64s (zs.set k z) := by simp [u64s]
theorem u64s_len (zs : List Int) : (u64s zs).length = zs.length := by simp [u64s]
theorem uvs_u64s (K : List Nat) : uvs K = u64s (K.map Int.ofNat) := by simp [uvs, u64s]
set_option maxRecDepth 20000 in
set_option maxHeartbeats 4000000 in
theorem takes_core (a0 : Option Addr) (n c : Nat) (L : List UInt8) (w : World) (g0 : Reads w a0 (bts L)) (gn : L.length = n) (gc : n ≤ c) (gr : c * 1 ≤ 140737488351232) :
    Calls Try.prog 4 #[.slice a0 n c] w fun e w' => e = .returned (.bool true) ∧ Chg [] w w' := by
  have hml : n ≤ maxLen := by unfold maxLen; omega
  have g2 := g0.keep (Chg.alloc [] w (.cells #[] 5))
  have HN := mkHid gn
  have HNB := mkHid (show (bts L).length = n by rw [bts_length]; exact gn)
  have EV := took_even L
  have TL := took_len (l := L)
  go_enter Try.func4, Try.ntmps4
  clear gn
  go_wp2_with (at_builtin; refine wpList_append_k _ rfl (.tmp 11) (.tmp 12) 26 rfl 5 1 eltB w.heap.size _ 0 0 [] rfl (Room.nil _ _ _) (by simp) a0 n c (bts L) rfl g2 HNB.out (bts_one _) (by omega) (by omega) ?_; intro wa wc w1 hr1 hg1 hf1; simp only [Nat.zero_add, List.nil_append] at hr1)
  have q1 : Chg [] w w1 := (Chg.alloc [] w _).trans hg1 (by simp) (by rw [fp_zero]; simp)
  refine (take_any wa n wc L w1 hr1.reads HN.out hr1.le hr1.max).mono ?_
  rintro e w2 ⟨hres, gA⟩
  have cR := fun (u : World) (hu : Chg [] w u) => rtake_any a0 n c L u (g0.keep hu) HN.out (by omega) gc (by omega)
  have cT := fun (u : World) (hu : Reads u wa (bts L)) => take_any wa n wc L u hu HN.out hr1.le hr1.max
  generalize takeN L = r at *
  obtain ⟨er, lf, K, V⟩ := r
  dsimp only at EV TL
  obtain ⟨ka, kc, va, vc, rfl, rk, rv, dj⟩ := hres
  dsimp only at rk rv ⊢
  obtain ⟨tk, tv⟩ := TL
  generalize hkl : K.length = kl at *
  rw [← EV] at rv tv ⊢
  have HKL := mkHid (And.intro hkl EV.symm)
  have hlt : ∀ q, q ∈ fp wa wc → w.heap.size ≤ q ∧ q < w1.heap.size := hr1.lt
  have gN := Chg.alloc [] w2 (.cells #[.bool lf, .slice ka kl kc, .slice va kl vc] 24)
  obtain ⟨d0, d1, d2⟩ := laid3 w2 (.bool lf) (.slice ka kl kc) (.slice va kl vc) 24
  have ho3 := (hr1.chg gA (by simp)).chg gN (by simp)
  have rk3 := rk.chg gN (by simp)
  have rv3 := rv.chg gN (by simp)
  have q3 := (q1.then gA).then gN
  have z23 : w2.heap.size ≤ (w2.alloc (.cells #[.bool lf, .slice ka kl kc, .slice va kl vc] 24)).heap.size := gN.size
  have rk2 := fun q (hq : q ∈ fp ka kc) => (rk.lt q hq).2
  have rv2 := fun q (hq : q ∈ fp va vc) => (rv.lt q hq).2
  have z0 : w.heap.size ≤ w1.heap.size := q1.size
  have CR := mkHid cR
  have CT := mkHid cT
  clear cR cT hr1 rk rv gN gA q1 hg1 hf1 hkl EV g2
  go_wp2_with fail
  generalize w2.alloc (.cells #[.bool lf, .slice ka kl kc, .slice va kl vc] 24) = w3 at *
  refine (CR.out w3 q3).mono ?_
  rintro e w4 ⟨⟨ka', kc', va', vc', rfl, rk', rv', -⟩, gB⟩
  dsimp only at rk' rv' ⊢
  rw [HKL.out.1] at rk' ⊢
  rw [HKL.out.2] at rv' ⊢
  have gM := Chg.alloc [] w4 (.cells #[.bool lf, .slice ka' kl kc', .slice va' kl vc'] 24)
  obtain ⟨m0, m1, m2⟩ := laid3 w4 (.bool lf) (.slice ka' kl kc') (.slice va' kl vc') 24
  have gBM := gB.then gM
  have e0 := gBM.cellv d0 (by simp)
  have e1 := gBM.cellv d1 (by simp)
  have e2 := gBM.cellv d2 (by simp)
  have ho5 := ho3.chg gBM (by simp)
  have rk5 := rk3.chg gBM (by simp)
  have rv5 := rv3.chg gBM (by simp)
  have sk5 := rk'.chg gM (by simp)
  have sv5 := rv'.chg gM (by simp)
  have q5 := q3.then gBM
  have ltk : ∀ q, q ∈ fp ka kc → w1.heap.size ≤ q ∧ q < w2.heap.size := fun q hq => ⟨(rk3.lt q hq).1, rk2 q hq⟩
  have ltv : ∀ q, q ∈ fp va vc → w1.heap.size ≤ q ∧ q < w2.heap.size := fun q hq => ⟨(rv3.lt q hq).1, rv2 q hq⟩
  have z4 : w2.heap.size ≤ w4.heap.size := Nat.le_trans z23 gB.size
  have z5 : w2.heap.size ≤ w3.heap.size := z23
  clear d0 d1 d2 ho3 rk3 rv3 rk' rv' gB gM gBM q3 rk2 rv2 z23
  go_wp2_with fail
  generalize w4.alloc (.cells #[.bool lf, .slice ka' kl kc', .slice va' kl vc'] 24) = w5 at *
  have n5 : RdN w5 ka kc va vc K V := ⟨rk5.reads, rv5.reads, by rw [HKL.out.1]; exact rk5.le, by rw [HKL.out.2]; exact rv5.le, by rw [HKL.out.1]; omega, by rw [HKL.out.2]; omega, rk5.max, rv5.max⟩
  have n5' : RdN w5 ka' kc' va' vc' K V := ⟨sk5.reads, sv5.reads, by rw [HKL.out.1]; exact sk5.le, by rw [HKL.out.2]; exact sv5.le, by rw [HKL.out.1]; omega, by rw [HKL.out.2]; omega, sk5.max, sv5.max⟩
  have cS := fun (u : World) (g : Chg [] w5 u) => rsame_any lf ka kl kc va kl vc K V lf ka' kl kc' va' kl vc' K V u (n5.keep g) HKL.out.1 HKL.out.2 (n5'.keep g) HKL.out.1 HKL.out.2
  have cB := fun (u : World) (g : Chg [] w5 u) => beq_any wa n wc L a0 n c L u (ho5.reads.keep g) HN.out ((g0.keep q5).keep g) HN.out
  rw [decide_eq_true rfl] at cB
  rw [same_self] at cS
  have CS := mkHid cS
  have CB := mkHid cB
  have QS := mkHid (And.intro n5' (And.intro ho5 (And.intro rk5 (And.intro rv5 (And.intro ltk (And.intro ltv (And.intro dj (And.intro hlt (And.intro z4 (And.intro z5 (And.intro q5 (And.intro sk5 sv5))))))))))))
  generalize w2.heap.size = nb at *
  generalize w4.heap.size = mb at *
  clear cS cB n5 n5' ho5 rk5 rv5 ltk ltv dj hlt z4 z5 sk5 sv5
  refine (awake_any w5).mono ?_
  rintro e w6 ⟨rfl, g6⟩
  have f1 := g6.cellv e1 (by simp)
  have f2 := g6.cellv e2 (by simp)
  have f0 := g6.cellv e0 (by simp)
  have o0 := g6.cellv m0 (by simp)
  have o1 := g6.cellv m1 (by simp)
  have o2 := g6.cellv m2 (by simp)
  clear e0 e1 e2 m0 m1 m2
  go_wp2_with fail
  refine (CS.out w6 g6).mono ?_
  rintro e w7 ⟨rfl, g7⟩
  have e0 := g7.cellv f0 (by simp)
  have e1 := g7.cellv f1 (by simp)
  have e2 := g7.cellv f2 (by simp)
  have m0 := g7.cellv o0 (by simp)
  have m1 := g7.cellv o1 (by simp)
  have m2 := g7.cellv o2 (by simp)
  have q7 := g6.then g7
  clear f0 f1 f2 o0 o1 o2 g6 g7
  go_wp2_with fail
  refine (CB.out w7 q7).mono ?_
  rintro e w' ⟨rfl, rfl⟩
  clear CS CB
  go_wp2_with fail
  go_loopw [46] (fun v wr => ∃ (k : Nat) (xs ys : List Int), v = .int .i64 k ∧ k ≤ kl ∧ Room wr w1.heap.size ka kl kc (u64s xs) ∧ Room wr w1.heap.size va kl vc (u64s ys) ∧ Chg (fp ka kc ++ fp va vc) w7 wr) (fun v _ => kl - (intOf v).toNat)
  case atStart =>
    obtain ⟨n5', ho5, rk5, rv5, -⟩ := QS.out
    exact ⟨0, K.map Int.ofNat, V.map Int.ofNat, rfl, Nat.zero_le _, by rw [← uvs_u64s]; exact rk5.chg q7 (by simp), by rw [← uvs_u64s]; exact rv5.chg q7 (by simp), Chg.refl _ _⟩
  case round =>
    obtain ⟨k, xs, ys, rfl, hk, hx, hy, hg⟩ := hrel
    obtain ⟨n5', ho5, rk5, rv5, ltk, ltv, dj, hlt, z4, z5, q5, sk5, sv5⟩ := QS.out
    have nin : ∀ q, nb ≤ q → q ∉ fp ka kc ++ fp va vc := fun q hq hm => by
      rcases List.mem_append.1 hm with hm | hm
      · have := (ltk q hm).2; omega
      · have := (ltv q hm).2; omega
    have x1 := hg.cellv e1 (nin nb (Nat.le_refl _))
    have x2 := hg.cellv e2 (nin nb (Nat.le_refl _))
    have hX := hx.len
    have hY := hy.len
    rw [u64s_len] at hX hY
    by_cases hl : k < kl
    · have hd : decide (k < kl) = true := decide_eq_true hl
      have hd2 : decide ((k : Int) < (kl : Int)) = true := decide_eq_true (by omega)
      obtain ⟨kb, ko, rfl, zk, _⟩ := reads_lt hx.reads k _ (u64s_get (by omega))
      obtain ⟨vb, vo, rfl, zv, _⟩ := reads_lt hy.reads k _ (u64s_get (by omega))
      have fk := hx.cell k hl
      have fv := hy.cell k hl
      generalize xs[k] = x at *
      generalize ys[k] = y at *
      obtain ⟨X, eX⟩ : ∃ X, IntKind.u64.wrap (x + 1) = X := ⟨_, rfl⟩
      obtain ⟨Y, eY⟩ : ∃ Y, IntKind.u64.wrap (y + 1) = Y := ⟨_, rfl⟩
      have hkc : 0 < kc := by have := hx.le; omega
      have hvc : 0 < vc := by have := hy.le; omega
      have fpk := fp_some kb ko kc hkc
      have fpv := fp_some vb vo vc hvc
      have hne : kb ≠ vb := fun e => dj kb (by rw [fpk]; simp) (by rw [fpv, e]; simp)
      have bk := ltk kb (by rw [fpk]; simp)
      have bv := ltv vb (by rw [fpv]; simp)
      have gK := Chg.setCell wr ⟨kb, ko + k, none⟩ (.int .u64 X)
      have y2 := gK.cellv x2 (by simp; omega)
      have zv' := gK.cellv zv (by simp; omega)
      have fv' : (wr.setCell ⟨kb, ko + k, none⟩ (.int .u64 X)).frozen? ⟨vb, vo + k, none⟩ = false := (World.frozen?_setCell ..).trans fv
      have gV := Chg.setCell (wr.setCell ⟨kb, ko + k, none⟩ (.int .u64 X)) ⟨vb, vo + k, none⟩ (.int .u64 Y)
      have hx1 := (hx.set k hl (.int .u64 X)).chg gV (by rw [fpk]; simp; omega)
      have hy1 := (hy.chg gK (by rw [fpv]; simp; omega)).set k hl (.int .u64 Y)
      rw [u64s_set] at hx1 hy1
      have hgg := (hg.trans gK (U := fp (some ⟨kb, ko, none⟩) kc ++ fp (some ⟨vb, vo, none⟩) vc) (fun q h _ => h) (fun q h _ => by rw [fpk]; simp at h ⊢; exact .inl h)).trans gV (U := fp (some ⟨kb, ko, none⟩) kc ++ fp (some ⟨vb, vo, none⟩) vc) (fun q h _ => h) (fun q h _ => by rw [fpv]; simp at h ⊢; exact .inr h)
      have HH := mkHid (And.intro hx1 (And.intro hy1 hgg))
      clear ho5 rk5 rv5 n5' sk5 sv5 hx1 hy1 hgg gK gV hx hy hg fpk fpv dj ltk ltv nin
      go_wp2_with fail
      exact ⟨⟨k + 1, _, _, by first | rfl | go_num, by omega, HH.out.1, HH.out.2.1, HH.out.2.2⟩, by simp [intOf]; omega⟩
    · have hkn : k = kl := by omega
      subst hkn
      have hd : decide (k < k) = false := by simp
      have G9 : Chg [] w wr := (q5.then q7).trans hg (by simp) (fun q hq hlt' => by
        rcases List.mem_append.1 hq with hm | hm
        · have := (ltk q hm).1; have := z0; omega
        · have := (ltv q hm).1; have := z0; omega)
      have hog : ∀ q, q ∈ fp wa wc → q ∉ fp ka kc ++ fp va vc := fun q hq hm => by
        have := (hlt q hq).2
        rcases List.mem_append.1 hm with hm | hm
        · have := (ltk q hm).1; omega
        · have := (ltv q hm).1; omega
      have ho9 := (ho5.chg q7 (by simp)).chg hg hog
      have sk9 := (sk5.chg q7 (by simp)).chg hg (fun q hq => nin q (Nat.le_trans z5 (sk5.lt q hq).1))
      have sv9 := (sv5.chg q7 (by simp)).chg hg (fun q hq => nin q (Nat.le_trans z5 (sv5.lt q hq).1))
      have n9 : RdN wr ka' kc' va' vc' K V := ⟨sk9.reads, sv9.reads, n5'.ck, n5'.cv, n5'.bk, n5'.bv, n5'.xk, n5'.xv⟩
      have y0 := hg.cellv m0 (nin mb z4)
      have y1 := hg.cellv m1 (nin mb z4)
      have y2 := hg.cellv m2 (nin mb z4)
      have HH := mkHid (And.intro G9 n9)
      clear hx hy hg n5' ho5 rk5 rv5 ltk ltv dj hlt sk5 sv5 sk9 sv9 e0 e1 e2 m0 m1 m2 G9 n9 nin hog
      go_wp2_with fail
      refine (CT.out wr ho9.reads).mono ?_
      rintro e wb ⟨⟨ka2, kc2, va2, vc2, rfl, rk2, rv2, -⟩, gC⟩
      dsimp only at rk2 rv2 ⊢
      rw [HKL.out.1] at rk2 ⊢
      rw [HKL.out.2] at rv2 ⊢
      have gM := Chg.alloc [] wb (.cells #[.bool lf, .slice ka2 k kc2, .slice va2 k vc2] 24)
      obtain ⟨l0, l1, l2⟩ := laid3 wb (.bool lf) (.slice ka2 k kc2) (.slice va2 k vc2) 24
      have gCM := gC.then gM
      have t0 := gCM.cellv y0 (by simp)
      have t1 := gCM.cellv y1 (by simp)
      have t2 := gCM.cellv y2 (by simp)
      have rk3 := rk2.chg gM (by simp)
      have rv3 := rv2.chg gM (by simp)
      have n9 := HH.out.2.keep gCM
      have nn : RdN (wb.alloc (.cells #[.bool lf, .slice ka2 k kc2, .slice va2 k vc2] 24)) ka2 kc2 va2 vc2 K V := ⟨rk3.reads, rv3.reads, by rw [HKL.out.1]; exact rk3.le, by rw [HKL.out.2]; exact rv3.le, by rw [HKL.out.1]; omega, by rw [HKL.out.2]; omega, rk3.max, rv3.max⟩
      have GG := HH.out.1.then gCM
      clear y0 y1 y2 rk2 rv2 rk3 rv3 gC gM gCM ho9
      go_wp2_with fail
      generalize wb.alloc (.cells #[.bool lf, .slice ka2 k kc2, .slice va2 k vc2] 24) = wd at *
      have cS := rsame_any lf ka2 k kc2 va2 k vc2 K V lf ka' k kc' va' k vc' K V wd nn HKL.out.1 HKL.out.2 n9 HKL.out.1 HKL.out.2
      rw [same_self] at cS
      refine cS.mono ?_
      rintro e we ⟨rfl, gE⟩
      go_wp2_with fail
      go_ret
      exact ⟨rfl, GG.then gE⟩
end Go.Proofs.Ytbopfpdgoalfoaa
