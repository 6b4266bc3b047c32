/- Package node: Put. -/
import Derived.Test.YtbopfpdgoalfoaaDoorNm
namespace Go.Proofs.YtbopfpdgoalfoaaDoor
open Go.RowKit
set_option linter.unusedVariables false
set_option linter.unusedSimpArgs false
attribute [local go_sem ↓] Go.wp_at_zero Go.wp_at_succ

theorem form_len {lf : Bool} {K V : List Nat} (h : V.length = K.length) : (formN lf K V).length = 2 + 16 * K.length := by
  unfold formN; rw [List.length_cons, List.length_cons, pairs_len h]; omega
theorem be_one (n : Nat) : be n 1 = [UInt8.ofNat n] := by simp [be]
set_option maxRecDepth 20000 in
set_option maxHeartbeats 1000000 in
theorem put_node (lf : Bool) (ka : Option Addr) (kl kc : Nat) (va : Option Addr) (vl vc : Nat) (K V : List Nat) (w : World) (h : RdN w ka kc va vc K V) (hk : K.length = kl) (hv : V.length = vl) (hbK : ∀ x ∈ K, x < 2 ^ 64) (hbV : ∀ x ∈ V, x < 2 ^ 64) (hm : mayB K V = true) :
    Calls Tryd.prog 4 #[.agg #[.bool lf, .slice ka kl kc, .slice va vl vc]] w fun e w' => ∃ a c, e = .returned (.tuple #[.slice a (formN lf K V).length c, .int .i64 0]) ∧ Room w' w.heap.size a (formN lf K V).length c (bts (formN lf K V)) ∧ Chg [] w w' := by
  obtain ⟨l1, l2, l3⟩ := may_len hm
  have hkl8 : kl ≤ 8 := by omega
  have hkl1 : 1 ≤ kl := by omega
  have g0 := Chg.alloc [] w (.cells #[.bool lf, .slice ka kl kc, .slice va vl vc] 24)
  have c0 := cell_of_row (w.alloc (.cells #[.bool lf, .slice ka kl kc, .slice va vl vc] 24)) w.heap.size 0 _ _ _ (heap_alloc_last w _)
  have c1 := cell_of_row (w.alloc (.cells #[.bool lf, .slice ka kl kc, .slice va vl vc] 24)) w.heap.size 1 _ _ _ (heap_alloc_last w _)
  have c2 := cell_of_row (w.alloc (.cells #[.bool lf, .slice ka kl kc, .slice va vl vc] 24)) w.heap.size 2 _ _ _ (heap_alloc_last w _)
  have cM := may_any lf ka kl kc va vl vc K V (w.alloc (.cells #[.bool lf, .slice ka kl kc, .slice va vl vc] 24)) (h.keep g0) hk hv
  rw [hm] at cM
  have HC := mkHid (And.intro c0 (And.intro c1 c2))
  have CM := mkHid cM
  have hvk : vl = kl := by omega
  have HK := mkHid hk
  have HV := mkHid hv
  have HL := mkHid l3
  have HVK := mkHid hvk
  clear c0 c1 c2 cM hk hv l3 hm hvk
  go_enter Tryd.func4, Tryd.ntmps4
  go_wp2_with fail
  refine CM.out.mono ?_
  rintro e w1 ⟨rfl, g1⟩
  obtain ⟨d0, d1, d2⟩ := HC.out
  simp only [List.getElem?_toArray, List.getElem?_cons_succ, List.getElem?_cons_zero] at d0 d1 d2
  have x0 := g1.cellv d0 (by simp)
  have x1 := g1.cellv d1 (by simp)
  have x2 := g1.cellv d2 (by simp)
  have hg1 := g0.then g1
  clear CM HC d0 d1 d2 g0 g1
  generalize hbb : w.heap.size = b at *
  have HBB := mkHid hbb
  clear hbb
  have kk := kind_any lf w1
  obtain ⟨m, hm⟩ : ∃ m : Nat, (if lf = true then 1 else 0) = m := ⟨_, rfl⟩
  rw [hm] at kk
  have hm1 : m ≤ 1 := by rw [← hm]; split <;> omega
  have HM := mkHid hm
  clear hm
  go_wp2_with fail
  refine kk.mono ?_
  rintro e w' ⟨rfl, rfl⟩
  go_wp2_with fail
  refine (put_any none 0 0 [] m 1 _ (Reads.nil _ _) rfl (by simp) (by omega) (by omega) (by omega) (by omega)).mono ?_
  rintro e w3 ⟨a3, c3, rfl, r3, g3⟩
  have hr3 := r3.reads
  rw [be_one, List.nil_append] at hr3
  have y1 := g3.cellv x1 (by simp)
  have y2 := g3.cellv x2 (by simp)
  have hg3 := hg1.then g3
  have hl3 : (([] : List Value) ++ bts (be m 1)).length = 1 := by rw [be_one]; rfl
  rw [hl3]
  clear x0 x1 x2 g3 hg1 r3 kk hl3
  go_wp2_with fail
  refine (put_any a3 1 c3 (bts [UInt8.ofNat m]) kl 1 _ hr3 rfl (bts_one _) (by omega) (by omega) (by omega) (by omega)).mono ?_
  rintro e w4 ⟨a4, c4, rfl, r4, g4⟩
  rw [be_one] at r4
  have hl4 : (bts [UInt8.ofNat m] ++ bts (be kl 1)).length = 2 := by rw [be_one]; rfl
  rw [hl4]
  have hl5 : (bts [UInt8.ofNat m] ++ bts [UInt8.ofNat kl]).length = 2 := rfl
  rw [hl5] at r4
  have z1 := g4.cellv y1 (by simp)
  have z2 := g4.cellv y2 (by simp)
  have hg4 := hg3.then g4
  have hform : formN lf K V = [UInt8.ofNat m, UInt8.ofNat kl] ++ pairsN K V := by
    unfold formN
    rw [← HM.out, ← HK.out]
    cases lf <;> rfl
  have e2 : bts [UInt8.ofNat m] ++ bts [UInt8.ofNat kl] = bts [UInt8.ofNat m, UInt8.ofNat kl] := rfl
  rw [e2] at r4
  have hb4 : b ≤ w3.heap.size := by have := hg3.size; have := HBB.out; omega
  have hR4 := r4.mono hb4
  generalize [UInt8.ofNat m, UInt8.ofNat kl] = hd at *
  have HF := mkHid hform
  clear hform e2 r4 hr3 g4 hg3 y1 y2 hl4 hl5
  go_wp2_with fail
  go_loopw [4, 23] (fun v iv wr => ∃ (k n : Nat) (a : Option Addr) (c : Nat), iv = .int .i64 k ∧ v = .slice a n c ∧ n = 2 + 16 * k ∧ k ≤ kl ∧ Room wr b a n c (bts (hd ++ pairsN (K.take k) (V.take k))) ∧ wr.cell? ⟨b, 1, none⟩ = some (.slice ka kl kc) ∧ wr.cell? ⟨b, 2, none⟩ = some (.slice va vl vc) ∧ Chg [] w wr) (fun _ iv _ => kl - (intOf iv).toNat)
  case atStart => exact ⟨0, 2, a4, c4, rfl, rfl, rfl, Nat.zero_le _, by simpa [pairsN] using hR4, z1, z2, hg4⟩
  case round =>
    clear hR4 z1 z2 hg4 hb4
    obtain ⟨k, n, a, c, rfl, rfl, hnk, hkk, hR, x1, x2, hg⟩ := hrel
    by_cases hlt : k < kl
    · have hd1 : decide (k < kl) = true := decide_eq_true hlt
      have hd2 : decide ((k : Int) < (kl : Int)) = true := decide_eq_true (by omega)
      have hkK : k < K.length := by rw [HK.out]; exact hlt
      have hkV : k < V.length := by rw [HV.out, HVK.out]; exact hlt
      have hkv : k < vl := by rw [HVK.out]; exact hlt
      obtain ⟨x, hx⟩ : ∃ x, K[k]? = some x := ⟨_, List.getElem?_eq_getElem hkK⟩
      obtain ⟨y, hy⟩ : ∃ y, V[k]? = some y := ⟨_, List.getElem?_eq_getElem hkV⟩
      have hxb := hbK x (List.mem_of_getElem? hx)
      have hyb := hbV y (List.mem_of_getElem? hy)
      obtain ⟨kb, ko, rfl, cx, _⟩ := reads_lt ((h.keep hg).rk) k _ (uvs_get hx)
      obtain ⟨vb, vo, rfl, cy, _⟩ := reads_lt ((h.keep hg).rv) k _ (uvs_get hy)
      have hpt := pairs_take HL.out hx hy
      have HP := mkHid hpt
      have hlen := hR.len
      have HN := mkHid hnk
      have hn200 : n ≤ 200 := by omega
      have l8 : ∀ q, (bts (be q 8)).length = 8 := fun q => by rw [bts_length, be_length]
      have hx5 : (bts (hd ++ pairsN (K.take k) (V.take k)) ++ bts (be x 8)).length = n + 8 := by rw [List.length_append, l8, hlen]
      have hx6 : ((bts (hd ++ pairsN (K.take k) (V.take k)) ++ bts (be x 8)) ++ bts (be y 8)).length = n + 8 + 8 := by rw [List.length_append, l8, hx5]
      have H56 := mkHid (And.intro hx5 hx6)
      have HLN := mkHid hlen
      have one5 : ∀ u ∈ bts (hd ++ pairsN (K.take k) (V.take k)), u.oneCell' = true := bts_one _
      have one6 : ∀ u ∈ bts (hd ++ pairsN (K.take k) (V.take k)) ++ bts (be x 8), u.oneCell' = true := fun u hu => (List.mem_append.1 hu).elim (bts_one _ u) (bts_one _ u)
      have ONE := mkHid (And.intro one5 one6)
      have hrd := hR.reads
      have HRD := mkHid hrd
      clear hx hy hpt hnk hkK hkV l8 hx5 hx6 hlen hR one5 one6 hrd
      go_wp2_with fail
      refine (put_any a n c _ x 8 _ HRD.out HLN.out ONE.out.1 (by omega) (by omega) (by omega) hxb).mono ?_
      rintro e w5 ⟨a5, c5, rfl, r5, g5⟩
      rw [H56.out.1]
      rw [H56.out.1] at r5
      have hr5 := r5.reads
      have R5 := mkHid (And.intro r5 hr5)
      have cy5 := g5.cellv cy (by simp)
      have x15 := g5.cellv x1 (by simp)
      have x25 := g5.cellv x2 (by simp)
      have hg5 := hg.then g5
      clear r5 hr5 g5 hg cy cx x1 x2
      go_wp2_with fail
      refine (put_any a5 (n + 8) c5 _ y 8 _ R5.out.2 H56.out.1 ONE.out.2 (by omega) (by omega) (by omega) hyb).mono ?_
      rintro e w6 ⟨a6, c6, rfl, r6, g6⟩
      rw [H56.out.2]
      rw [H56.out.2] at r6
      have x16 := g6.cellv x15 (by simp)
      have x26 := g6.cellv x25 (by simp)
      have hg6 := hg5.then g6
      have hb6 : b ≤ w5.heap.size := by have := hg5.size; have := HBB.out; omega
      have R6 := mkHid (r6.mono hb6)
      clear r6 g6 cy5 x15 x25
      go_wp2_with fail
      refine ⟨⟨k + 1, n + 8 + 8, a6, c6, by first | rfl | go_num, rfl, by have := HN.out; omega, by omega, ?_, x16, x26, hg6⟩, by simp [intOf]; omega⟩
      have e := R6.out
      rw [HP.out]
      simpa only [bts_append, List.append_assoc] using e
    · have hke : k = kl := by omega
      subst hke
      have hd1 : decide (k < k) = false := by simp
      have e1 : K.take k = K := List.take_of_length_le (by rw [HK.out]; exact Nat.le_refl _)
      have e3 : V.take k = V := List.take_of_length_le (by rw [HV.out, HVK.out]; exact Nat.le_refl _)
      rw [e1, e3] at hR
      clear e1 e3
      have HR := mkHid hR
      have HN := mkHid hnk
      clear hR hnk
      go_wp2_with fail
      go_ret2
      have hl := HR.out.len
      rw [bts_length] at hl
      rw [HF.out, hl]
      exact ⟨a, c, rfl, by rw [HBB.out]; exact HR.out, hg⟩
theorem put_node_no (lf : Bool) (ka : Option Addr) (kl kc : Nat) (va : Option Addr) (vl vc : Nat) (K V : List Nat) (w : World) (h : RdN w ka kc va vc K V) (hk : K.length = kl) (hv : V.length = vl) (hm : mayB K V = false) :
    Calls Tryd.prog 4 #[.agg #[.bool lf, .slice ka kl kc, .slice va vl vc]] w fun e w' => e = .returned (.tuple #[.slice none 0 0, .int .i64 1]) ∧ Chg [] w w' := by
  have g0 := Chg.alloc [] w (.cells #[.bool lf, .slice ka kl kc, .slice va vl vc] 24)
  have cM := may_any lf ka kl kc va vl vc K V (w.alloc (.cells #[.bool lf, .slice ka kl kc, .slice va vl vc] 24)) (h.keep g0) hk hv
  rw [hm] at cM
  have CM := mkHid cM
  clear cM hk hv hm
  go_enter Tryd.func4, Tryd.ntmps4
  go_wp2_with fail
  refine CM.out.mono ?_
  rintro e w1 ⟨rfl, g1⟩
  go_wp2_with fail
  go_ret2
  exact ⟨rfl, g0.then g1⟩
end Go.Proofs.YtbopfpdgoalfoaaDoor
