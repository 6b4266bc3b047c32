/- The reference: Put. -/
import Derived.Test.YtbopfpdgoalfoaaNd
namespace Go.Proofs.Ytbopfpdgoalfoaa
open Go.RowKit
set_option linter.unusedVariables false
set_option linter.unusedSimpArgs false
attribute [local go_sem ↓] Go.wp_at_zero Go.wp_at_succ

theorem pairs_len : ∀ {K V : List Nat}, V.length = K.length → (pairsN K V).length = 16 * K.length
  | [], [], _ => rfl
  | k :: K, v :: V, h => by
    have h2 : V.length = K.length := by simpa using h
    rw [pairsN, List.length_append, List.length_append, be_length, be_length, pairs_len h2, List.length_cons]
    omega
theorem pairs_take : ∀ {K V : List Nat} {i k v : Nat}, V.length = K.length → K[i]? = some k → V[i]? = some v → pairsN (K.take (i + 1)) (V.take (i + 1)) = pairsN (K.take i) (V.take i) ++ (be k 8 ++ be v 8)
  | [], V, i, k, v, _, hk, _ => by simp at hk
  | a :: K, [], i, k, v, h, _, _ => by simp at h
  | a :: K, b :: V, 0, k, v, h, hk, hv => by
    simp at hk hv
    subst hk hv
    simp [pairsN]
  | a :: K, b :: V, i + 1, k, v, h, hk, hv => by
    have h2 : V.length = K.length := by simpa using h
    simp only [List.getElem?_cons_succ] at hk hv
    simp only [List.take_succ_cons, pairsN]
    rw [pairs_take h2 hk hv]
    simp [List.append_assoc]
theorem may_len {K V : List Nat} (h : mayB K V = true) : 1 ≤ K.length ∧ K.length ≤ 8 ∧ V.length = K.length := by
  unfold mayB at h
  simp only [Bool.and_eq_true, decide_eq_true_eq] at h
  exact ⟨h.1.1.1, h.1.1.2, h.1.2⟩
theorem one_row (w : World) (x : UInt8) (z : Int) (hz : (x.toNat : Int) = z) : Room (w.alloc (.cells #[.int .u8 z] 5)) w.heap.size (some ⟨w.heap.size, 0, none⟩) 1 1 (bts [x]) := by
  subst hz
  have hc := fun j => cell_of_row (w.alloc (.cells #[.int .u8 (x.toNat : Int)] 5)) w.heap.size j _ _ _ (heap_alloc_last w _)
  refine ⟨rfl, Nat.le_refl _, by decide, fun _ => ⟨w.heap.size, 0, rfl, Nat.le_refl _, fun j hj => ?_, fun j u hu => ?_⟩⟩
  · have h0 : j = 0 := by omega
    subst h0
    exact ⟨by rw [hc]; rfl, frozen_of_row _ _ _ _ _ (heap_alloc_last w _)⟩
  · have h0 : j = 0 := by have := (List.getElem?_eq_some_iff.1 hu).1; simp [bts] at this; omega
    subst h0
    rw [hc]
    exact hu
set_option maxRecDepth 20000 in
set_option maxHeartbeats 1000000 in
theorem rput_any (lf : Bool) (ka : Option Addr) (kl kc : Nat) (va : Option Addr) (vl vc : Nat) (K V : List Nat) (w : World) (h : RdN w ka kc va vc K V) (hk : K.length = kl) (hv : V.length = vl) (hbK : ∀ x ∈ K, x < 2 ^ 64) (hbV : ∀ x ∈ V, x < 2 ^ 64) (hm : mayB K V = true) :
    Calls Try.prog 10 #[.agg #[.bool lf, .slice ka kl kc, .slice va vl vc]] w fun e w' => ∃ a c, e = .returned (.tuple #[.slice a (formN lf K V).length c, .int .i64 0]) ∧ Room w' w.heap.size a (formN lf K V).length c (bts (formN lf K V)) ∧ Chg [] w w' := by
  obtain ⟨l1, l2, l3⟩ := may_len hm
  have g0 := Chg.alloc [] w (.cells #[.bool lf, .slice ka kl kc, .slice va vl vc] 24)
  have c0 := cell_of_row (w.alloc (.cells #[.bool lf, .slice ka kl kc, .slice va vl vc] 24)) w.heap.size 0 _ _ _ (heap_alloc_last w _)
  have c1 := cell_of_row (w.alloc (.cells #[.bool lf, .slice ka kl kc, .slice va vl vc] 24)) w.heap.size 1 _ _ _ (heap_alloc_last w _)
  have c2 := cell_of_row (w.alloc (.cells #[.bool lf, .slice ka kl kc, .slice va vl vc] 24)) w.heap.size 2 _ _ _ (heap_alloc_last w _)
  have HC := mkHid (And.intro c0 (And.intro c1 c2))
  have cM := fun (u : World) (gu : Chg [] w u) => rmay_any lf ka kl kc va vl vc K V u (h.keep gu) hk hv
  rw [hm] at cM
  have CM := mkHid cM
  clear c0 c1 c2 cM
  have HK := mkHid hk
  have HV := mkHid hv
  clear hk hv
  go_enter Try.func10, Try.ntmps10
  go_wp2_with fail
  refine (CM.out _ g0).mono ?_
  rintro e w1 ⟨rfl, g1⟩
  obtain ⟨d0, d1, d2⟩ := HC.out
  simp only [List.getElem?_toArray, List.getElem?_cons_succ, List.getElem?_cons_zero] at d0 d1 d2
  have x0 := g1.cellv d0 (by simp)
  have x1 := g1.cellv d1 (by simp)
  have x2 := g1.cellv d2 (by simp)
  have hg1 := g0.then g1
  have hsz := hg1.size
  have hbw : w.heap.size < w1.heap.size := block_lt_of_cell x0
  clear CM HC d0 d1 d2 g0 g1
  generalize hbb : w.heap.size = b at *
  go_upto_if 11 with fail
  go_cut [4] (fun v wx => ∃ b2, v = .slice (some ⟨b2, 0, none⟩) 1 1 ∧ Room wx b (some ⟨b2, 0, none⟩) 1 1 (bts [if lf = true then 1 else 0]) ∧ Chg [] w wx ∧ w1.heap.size ≤ b2 ∧ wx.cell? ⟨b, 1, none⟩ = some (.slice ka kl kc) ∧ wx.cell? ⟨b, 2, none⟩ = some (.slice va vl vc))
  case first =>
    have ga := fun z => Chg.alloc [] w1 (.cells #[.int .u8 z] 5)
    have y1 := fun z => (ga z).cellv x1 (by simp)
    have y2 := fun z => (ga z).cellv x2 (by simp)
    have HY := mkHid (And.intro y1 (And.intro y2 ga))
    clear y1 y2 ga
    cases lf with
    | false =>
      have RA := mkHid ((one_row w1 0 0 rfl).mono (Nat.le_of_lt hbw))
      go_wp2_with fail
      go_meet
      exact ⟨_, rfl, RA.out, hg1.then (HY.out.2.2 _), Nat.le_refl _, HY.out.1 _, HY.out.2.1 _⟩
    | true =>
      have RA := mkHid ((one_row w1 1 1 rfl).mono (Nat.le_of_lt hbw))
      go_wp2_with fail
      go_meet
      exact ⟨_, rfl, RA.out, hg1.then (HY.out.2.2 _), Nat.le_refl _, HY.out.1 _, HY.out.2.1 _⟩
  case rest =>
    clear x0 x1 x2 hg1
    obtain ⟨b2, rfl, hR, hg1, hb2, x1, x2⟩ := hcut
    have hkl8 : kl ≤ 8 := by have := HK.out; omega
    have hkl1 : 1 ≤ kl := by have := HK.out; omega
    have hbc : b ≤ wc.heap.size := by have := hg1.size; rw [hbb] at this; exact this
    have hmx : 1 + 1 ≤ maxLen := by decide
    have hb12 : b ∉ fp (some ⟨b2, 0, none⟩) 1 := by rw [fp_some _ _ _ (by decide)]; simp; omega
    go_wp2_with (at_builtin; refine wpList_append_1 _ rfl (.tmp 14) (.tmp 19) 26 rfl 5 1 eltB b (some ⟨b2, 0, none⟩) 1 1 _ rfl hR hbc (.int .u8 (kl : Int)) 1 rfl rfl hmx (by omega) ?_; intro a3 c3 w3 hr3 hg3 hf3)
    have hb3 : b ∉ fp a3 c3 := by
      rcases hf3 with e | ⟨q, hq, e⟩
      · rw [e]; exact hb12
      · rw [e]; simp
        have := block_lt_of_cell x1
        simp at this
        omega
    have x13 := hg3.cellv x1 hb12
    have x23 := hg3.cellv x2 hb12
    have hw3 : Chg [] w w3 := hg1.trans hg3 (by simp) (fun q hq hlt => by rw [fp_some _ _ _ (by decide)] at hq; simp at hq; rw [hbb] at hlt; omega)
    have e2 : bts [if lf = true then 1 else 0] ++ [.int .u8 (kl : Int)] = bts [if lf = true then 1 else 0, UInt8.ofNat K.length] := by
      have h9 := HK.out
      rw [h9]
      simp [bts]
      omega
    rw [e2] at hr3
    have hform : formN lf K V = [if lf = true then 1 else 0, UInt8.ofNat K.length] ++ pairsN K V := by unfold formN; cases lf <;> rfl
    generalize [if lf = true then (1 : UInt8) else 0, UInt8.ofNat K.length] = hd at *
    have HF := mkHid hform
    clear hform e2 hR hg1 hg3 hf3 x1 x2 hbc hmx hb12 hb2
    have l3' : vl = kl := by have := HK.out; have := HV.out; omega
    have LV := mkHid l3'
    clear l3 l3'
    go_loopw [4, 5] (fun v iv wr => ∃ (k m : Nat) (a : Option Addr) (c : Nat), iv = .int .i64 k ∧ v = .slice a m c ∧ m = 2 + 16 * k ∧ k ≤ kl ∧ Room wr b a m c (bts (hd ++ pairsN (K.take k) (V.take k))) ∧ b ∉ fp a c ∧ wr.cell? ⟨b, 1, none⟩ = some (.slice ka kl kc) ∧ wr.cell? ⟨b, 2, none⟩ = some (.slice va vl vc) ∧ Chg [] w wr) (fun _ iv _ => kl - (intOf iv).toNat)
    case atStart => exact ⟨0, 2, a3, c3, rfl, rfl, rfl, Nat.zero_le _, by simpa [pairsN] using hr3, hb3, x13, x23, hw3⟩
    case round =>
      clear hr3 hb3 x13 x23 hw3
      obtain ⟨k, m, a, c, rfl, rfl, hmk, hkk, hR, hbn, x1, x2, hg⟩ := hrel
      by_cases hlt : k < kl
      · have hd1 : decide (k < kl) = true := decide_eq_true hlt
        have hd2 : decide ((k : Int) < (kl : Int)) = true := decide_eq_true (by omega)
        have hkK : k < K.length := by rw [HK.out]; exact hlt
        have hkV : k < V.length := by rw [HV.out, LV.out]; exact hlt
        have hkv : k < vl := by rw [LV.out]; exact hlt
        obtain ⟨x, hx⟩ : ∃ x, K[k]? = some x := ⟨_, List.getElem?_eq_getElem hkK⟩
        obtain ⟨y, hy⟩ : ∃ y, V[k]? = some y := ⟨_, List.getElem?_eq_getElem hkV⟩
        have hxb := hbK x (List.mem_of_getElem? hx)
        have hyb := hbV y (List.mem_of_getElem? hy)
        obtain ⟨kb, ko, rfl, cx, _⟩ := reads_lt ((h.keep hg).rk) k _ (uvs_get hx)
        obtain ⟨vb, vo, rfl, cy0, hvb⟩ := reads_lt h.rv k _ (uvs_get hy)
        have cy := hg.cellv cy0 (by simp)
        rw [hbb] at hvb
        have hvn : ∀ (u : World) (aa : Option Addr) (mm cc : Nat) (zs : List Value), Room u b aa mm cc zs → vb ∉ fp aa cc := fun _ _ _ _ _ hr hm => by have := (hr.lt vb hm).1; omega
        have VN := mkHid hvn
        clear hvn cy0
        have hpt := pairs_take (by rw [HK.out, HV.out, LV.out]) hx hy
        have HP := mkHid hpt
        have HMK := mkHid hmk
        have hm200 : m ≤ 200 := by omega
        have hbw2 : b ≤ wr.heap.size := by have := hg.size; rw [hbb] at this; exact this
        have hmx : m + 8 ≤ maxLen := by unfold maxLen; omega
        have hmx2 : m + 8 + 8 ≤ maxLen := by unfold maxLen; omega
        have l8 : ∀ q, (bts (be q 8)).length = 8 := fun q => by rw [bts_length, be_length]
        have L8 := mkHid l8
        clear hx hy hpt hmk l8 hkK hkV
        go_wp2_with fail
        refine (eight_any x _ hxb).mono ?_
        rintro e w5 ⟨b5, rfl, h5, r5, g5⟩
        have hR5 := hR.chg g5 (by simp)
        have x15 := g5.cellv x1 (by simp)
        have x25 := g5.cellv x2 (by simp)
        have cy5 := g5.cellv cy (by simp)
        have hbw5 : b ≤ w5.heap.size := Nat.le_trans hbw2 g5.size
        have hg5 := hg.then g5
        have r5' := r5.reads
        clear hR x1 x2 cy cx g5 hg r5
        go_wp2_with (at_builtin; refine wpList_append_k _ rfl (.tmp 28) (.tmp 34) 26 rfl 5 1 eltB b a m c _ rfl hR5 hbw5 (some ⟨b5, 0, none⟩) 8 8 (bts (be x 8)) rfl r5' (L8.out x) (bts_one _) hmx (by omega) ?_; intro a6 c6 w6 hr6 hg6 hf6; have x16 := hg6.cellv x15 hbn; have x26 := hg6.cellv x25 hbn; have cy6 := hg6.cellv cy5 (VN.out _ _ _ _ _ hR5))
        refine (eight_any y _ hyb).mono ?_
        rintro e w7 ⟨b7, rfl, h7, r7, g7⟩
        have hbn6 : b ∉ fp a6 c6 := by
          rcases hf6 with e | e
          · rw [e]; exact hbn
          · rw [e]; simp
            have := block_lt_of_cell x15
            simp at this
            omega
        have hg6' : Chg [] w w6 := hg5.trans hg6 (by simp) (fun q hq hlt => by have := (hR5.lt q hq).1; rw [hbb] at hlt; omega)
        have hR7 := hr6.chg g7 (by simp)
        have x17 := g7.cellv x16 (by simp)
        have x27 := g7.cellv x26 (by simp)
        have hbw7 : b ≤ w7.heap.size := Nat.le_trans (Nat.le_trans hbw5 hg6.size) g7.size
        have hg7 := hg6'.then g7
        have r7' := r7.reads
        clear hR5 x15 x25 cy5 cy6 x16 x26 hg5 g7 hr6 hg6' r7 r5' hf6
        go_wp2_with (at_builtin; refine wpList_append_k _ rfl (.tmp 36) (.tmp 42) 26 rfl 5 1 eltB b a6 (m + 8) c6 _ rfl hR7 hbw7 (some ⟨b7, 0, none⟩) 8 8 (bts (be y 8)) rfl r7' (L8.out y) (bts_one _) hmx2 (by omega) ?_; intro a8 c8 w8 hr8 hg8 hf8; have x18 := hg8.cellv x17 hbn6; have x28 := hg8.cellv x27 hbn6)
        have hbn8 : b ∉ fp a8 c8 := by
          rcases hf8 with e | e
          · rw [e]; exact hbn6
          · rw [e]; simp
            have := block_lt_of_cell x17
            simp at this
            omega
        have hg8' : Chg [] w w8 := hg7.trans hg8 (by simp) (fun q hq hlt => by have := (hR7.lt q hq).1; rw [hbb] at hlt; omega)
        refine ⟨⟨k + 1, m + 8 + 8, a8, c8, by first | rfl | go_num, rfl, by have := HMK.out; omega, by omega, ?_, hbn8, x18, x28, hg8'⟩, by simp [intOf]; omega⟩
        rw [HP.out]
        have e : bts (hd ++ (pairsN (K.take k) (V.take k) ++ (be x 8 ++ be y 8))) = bts (hd ++ pairsN (K.take k) (V.take k)) ++ bts (be x 8) ++ bts (be y 8) := by
          simp only [bts_append, List.append_assoc]
        rw [e]
        exact hr8
      · have hke : k = kl := by omega
        subst hke
        have hd1 : decide (k < k) = false := by simp
        have e1 : K.take k = K := List.take_of_length_le (by rw [HK.out]; exact Nat.le_refl _)
        have e3 : V.take k = V := List.take_of_length_le (by rw [HV.out, LV.out]; exact Nat.le_refl _)
        rw [e1, e3] at hR
        clear e1 e3
        have HR := mkHid hR
        have HMK := mkHid hmk
        clear hR hmk
        go_wp2_with fail
        go_ret2
        have hl := HR.out.len
        rw [bts_length] at hl
        rw [HF.out, hl]
        exact ⟨a, c, rfl, by rw [hbb]; exact HR.out, hg⟩
end Go.Proofs.Ytbopfpdgoalfoaa
