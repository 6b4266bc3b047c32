/- The reference: Take. -/
import Derived.Test.YtbopfpdgoalfoaaNh
namespace Go.Proofs.Ytbopfpdgoalfoaa
open Go.RowKit
set_option linter.unusedVariables false
set_option linter.unusedSimpArgs false
attribute [local go_sem ↓] Go.wp_at_zero Go.wp_at_succ

theorem rest_no {a b : UInt8} {s : List UInt8} {t m p : Nat} {y : UInt8} (ht : t = 2 + 16 * m) (hp : t ≤ p) (h : (a :: b :: s)[p]? = some y) (hy : y ≠ 0) : (s.drop (16 * m)).all (· == 0) = false := by
  rw [Bool.eq_false_iff]
  intro hall
  rw [List.all_eq_true] at hall
  obtain ⟨k, rfl⟩ : ∃ k, p = (16 * m + k) + 1 + 1 := ⟨p - t, by omega⟩
  rw [List.getElem?_cons_succ, List.getElem?_cons_succ] at h
  have h2 := hall y (List.mem_of_getElem? (show (s.drop (16 * m))[k]? = some y by rw [List.getElem?_drop]; exact h))
  exact hy (by simpa using h2)
theorem rest_yes {a b : UInt8} {s : List UInt8} {t m n : Nat} (ht : t = 2 + 16 * m) (hn : (a :: b :: s).length = n) (h : ∀ j y, t ≤ j → j < n → (a :: b :: s)[j]? = some y → y = 0) : (s.drop (16 * m)).all (· == 0) = true := by
  rw [List.all_eq_true]
  intro y hy
  obtain ⟨k, hk⟩ := List.getElem?_of_mem hy
  rw [List.getElem?_drop] at hk
  have hl := (List.getElem?_eq_some_iff.1 hk).1
  simp at hn
  have := h ((16 * m + k) + 1 + 1) y (by omega) (by omega) (by rw [List.getElem?_cons_succ, List.getElem?_cons_succ]; exact hk)
  simp [this]
def nilN : Value := .agg #[.bool false, .slice none 0 0, .slice none 0 0]
set_option maxRecDepth 20000 in
set_option maxHeartbeats 40000000 in
theorem rtake_any (ao : Option Addr) (n c : Nat) (l : List UInt8) (w : World) (g0 : Reads w ao (bts l)) (gn : l.length = n) (hn : n ≤ 140737488351232) (hc : n ≤ c) (hcm : c ≤ 140737488351232) : Calls Try.prog 17 #[.slice ao n c] w fun e w' => NodeRes w.heap.size e w' (takeN l) ∧ Chg [] w w' := by
  have HG := mkHid gn
  match l, gn with
  | [], gn =>
    simp at gn
    subst gn
    refine (rtake_empty ao c w).mono ?_
    rintro e w' ⟨rfl, hg⟩
    exact ⟨NodeRes.none _ _ _, hg⟩
  | a :: r, gn =>
    have hn1 : 1 ≤ n := by simp at gn; omega
    have ga := g0.keep (Chg.alloc [] w (.cells #[.bool false, .slice none 0 0, .slice none 0 0] 24))
    obtain ⟨ab, aoff, rfl, hcell⟩ := ga (by simp [bts])
    have hz1 : ((n : Int) == 0) = false := beq_eq_false_iff_ne.2 (by omega)
    have hz2 : (n == 0) = false := beq_eq_false_iff_ne.2 (by omega)
    have ca := hcell 0 (.int .u8 (a.toNat : Int)) (by simp [bts])
    rw [Nat.add_zero] at ca
    rw [takeN_cons]
    by_cases ha : a ≠ 0 ∧ a ≠ 1
    · rw [if_pos ha]
      obtain ⟨m, hm⟩ : ∃ m, a.toNat = m := ⟨_, rfl⟩
      rw [hm] at ca
      have u0 : ((m : Int) != 0) = true := by
        have : m ≠ 0 := fun e => ha.1 (UInt8.toNat_inj.1 (by rw [hm, e]; rfl))
        simp; omega
      have u1 : ((m : Int) != 1) = true := by
        have : m ≠ 1 := fun e => ha.2 (UInt8.toNat_inj.1 (by rw [hm, e]; rfl))
        simp; omega
      clear ha hm hcell gn
      go_enter Try.func17, Try.ntmps17
      go_wp2_with fail
      exact bodyPost_ret (v := .tuple #[.agg #[.bool false, .slice none 0 0, .slice none 0 0], .int .i64 5]) (by simp [results, Try.results17, go_sem]) rfl ⟨NodeRes.none _ _ _, Chg.alloc [] _ _⟩
    · rw [if_neg ha]
      have ha2 : a = 0 ∨ a = 1 := by
        by_cases e : a = 0
        · exact Or.inl e
        · exact Or.inr (Decidable.not_not.1 fun e1 => ha ⟨e, e1⟩)
      clear ha
      match r, gn with
      | [], gn =>
        have hn2 : n = 1 := by simp at gn; omega
        subst hn2
        clear gn hcell hz1 hz2 HG
        rcases ha2 with rfl | rfl
        all_goals
          go_enter Try.func17, Try.ntmps17
          go_wp2_with fail
          exact bodyPost_ret (v := .tuple #[.agg #[.bool false, .slice none 0 0, .slice none 0 0], .int .i64 4]) (by simp [results, Try.results17, go_sem]) rfl ⟨NodeRes.none _ _ _, Chg.alloc [] _ _⟩
      | b :: s, gn =>
        have hn2 : 2 ≤ n := by simp at gn; omega
        have hz3 : ((n : Int) == 1) = false := beq_eq_false_iff_ne.2 (by omega)
        have hz4 : (n == 1) = false := beq_eq_false_iff_ne.2 (by omega)
        have cb := hcell 1 (.int .u8 (b.toNat : Int)) (by simp [bts])
        obtain ⟨m, hm⟩ : ∃ m, b.toNat = m := ⟨_, rfl⟩
        have hm255 : m ≤ 255 := by have := b.toNat_lt; omega
        rw [hm] at cb
        simp only [hm]
        by_cases hb : m = 0 ∨ 8 < m
        · rw [if_pos hb]
          have q0 : ((m : Int) == 0) = decide (m = 0) := by rw [Bool.eq_iff_iff]; simp
          clear gn hcell hm
          by_cases hm0 : m = 0
          · have p0 : ((m : Int) == 0) = true := by simp; omega
            have p1 : (m == 0) = true := by simp; omega
            clear q0 hb hm0
            rcases ha2 with rfl | rfl
            all_goals
              go_enter Try.func17, Try.ntmps17
              go_wp2_with fail
              exact bodyPost_ret (v := .tuple #[.agg #[.bool false, .slice none 0 0, .slice none 0 0], .int .i64 5]) (by simp [results, Try.results17, go_sem]) rfl ⟨NodeRes.none _ _ _, Chg.alloc [] _ _⟩
          · have p0 : ((m : Int) == 0) = false := by simp; omega
            have p1 : (m == 0) = false := by simp; omega
            have p2 : decide ((m : Int) > 8) = true := decide_eq_true (by omega)
            have p3 : decide (8 < m) = true := decide_eq_true (by omega)
            have p4 : decide ((8 : Int) < (m : Int)) = true := decide_eq_true (by omega)
            clear q0 hb hm0
            rcases ha2 with rfl | rfl
            all_goals
              go_enter Try.func17, Try.ntmps17
              go_wp2_with fail
              exact bodyPost_ret (v := .tuple #[.agg #[.bool false, .slice none 0 0, .slice none 0 0], .int .i64 5]) (by simp [results, Try.results17, go_sem]) rfl ⟨NodeRes.none _ _ _, Chg.alloc [] _ _⟩
        · rw [if_neg hb]
          have p0 : ((m : Int) == 0) = false := beq_eq_false_iff_ne.2 (by omega)
          have p1 : (m == 0) = false := beq_eq_false_iff_ne.2 (by omega)
          have p2 : decide ((m : Int) > 8) = false := decide_eq_false (by omega)
          have p3 : decide (8 < m) = false := decide_eq_false (by omega)
          have p4 : decide ((8 : Int) < (m : Int)) = false := decide_eq_false (by omega)
          obtain ⟨res, hres⟩ : ∃ r, (if (takeK m [] [] s).1 = 0 then ((0 : Int), decide (a = 1), (takeK m [] [] s).2) else ((takeK m [] [] s).1, false, [], [])) = r := ⟨_, rfl⟩
          rw [hres]
          have HRES := mkHid hres
          clear hres
          have HS := mkHid (show s.length + 2 = n by simpa using gn)
          have HB := mkHid hb
          have HM := mkHid hm
          clear gn hcell hm hb
          rcases ha2 with rfl | rfl
          · have N0 := start_node w false
            have G0 : Chg [] w ((w.alloc (.cells #[.bool false, .slice none 0 0, .slice none 0 0] 24)).alloc (.cells #[.bool false, .slice none 0 0, .slice none 0 0] 24)) := (Chg.alloc [] w _).then (Chg.alloc [] _ _)
            go_enter Try.func17, Try.ntmps17
            go_wp2_with fail
            clear ca cb ga
            generalize (w.alloc (.cells #[.bool false, .slice none 0 0, .slice none 0 0] 24)).alloc (.cells #[.bool false, .slice none 0 0, .slice none 0 0] 24) = w2 at *
            obtain ⟨B, hBB⟩ : ∃ B, w.heap.size + 2 = B := ⟨_, rfl⟩
            rw [hBB] at N0
            obtain ⟨nb, hnb⟩ : ∃ b, w.heap.size + 1 = b := ⟨_, rfl⟩
            rw [hnb] at N0 ⊢
            obtain ⟨R, hRR⟩ : ∃ b, w.heap.size = b := ⟨_, rfl⟩
            rw [hRR] at N0 ⊢
            obtain ⟨M, hM⟩ : ∃ M : Nat, 2 * m = M := ⟨_, rfl⟩
            have hMi : (2 : Int) * (m : Int) = (M : Int) := by omega
            have hM16 : M ≤ 16 := by have := HB.out; omega
            have HX := mkHid (And.intro hM (And.intro hBB (And.intro hnb hRR)))
            clear hM hBB hnb hRR
            go_loopw [6, 7] (fun av iv wr => ∃ (i t : Nat) (K V : List Nat) (ka va : Option Addr) (kc vc : Nat), av = .int .i64 t ∧ iv = .int .i64 i ∧ t = 2 + 8 * i ∧ t ≤ n ∧ i ≤ M ∧ At m i K V s ∧ NBlk wr R nb B false ka kc va vc K V ∧ Chg [] w wr) (fun _ iv _ => M - (intOf iv).toNat)
            case atStart => exact ⟨0, 2, [], [], none, none, 0, 0, rfl, rfl, rfl, hn2, Nat.zero_le _, At.start m s, N0, G0⟩
            case round =>
              clear N0 G0
              obtain ⟨i, t, K, V, ka, va, kc, vc, rfl, rfl, ht, htn, hiM, hat, hN, hg⟩ := hrel
              by_cases hlt : i < M
              · have d1 : decide (i < M) = true := decide_eq_true hlt
                have d2 : decide ((i : Int) < (M : Int)) = true := decide_eq_true (by omega)
                obtain ⟨d, hd⟩ : ∃ d : Nat, n - t = d := ⟨_, rfl⟩
                have hdi : (n : Int) - (t : Int) = (d : Int) := by omega
                by_cases h8 : d < 8
                · have d3 : decide (d < 8) = true := decide_eq_true h8
                  have d4 : decide ((d : Int) < 8) = true := decide_eq_true (by omega)
                  have e := hat.short (by have := HX.out; omega) (by rw [List.length_drop]; have := HS.out; omega)
                  obtain ⟨v0, r0⟩ := Option.isSome_iff_exists.1 (hN.th 0 (by decide)).1
                  obtain ⟨v1, r1⟩ := Option.isSome_iff_exists.1 (hN.th 1 (by decide)).1
                  obtain ⟨v2, r2⟩ := Option.isSome_iff_exists.1 (hN.th 2 (by decide)).1
                  have q0 := (hN.th 0 (by decide)).2
                  have q1 := (hN.th 1 (by decide)).2
                  have q2 := (hN.th 2 (by decide)).2
                  simp only [Nat.zero_add] at r0 r1 r2 q0 q1 q2
                  have HE := mkHid e
                  clear e hat hN hd ht
                  go_wp2_with fail
                  refine bodyPost_ret (v := .tuple #[.agg #[.bool false, .slice none 0 0, .slice none 0 0], .int .i64 4]) (by simp [results, Try.results17, go_sem, r0, r1, r2]) rfl ⟨?_, three w wr R (by have := HX.out; omega) hg _ _ _⟩
                  have e9 := HRES.out
                  rw [HE.out] at e9
                  rw [← e9]
                  exact NodeRes.none _ _ _
                · have d3 : decide (d < 8) = false := decide_eq_false h8
                  have d4 : decide ((d : Int) < 8) = false := decide_eq_false (by omega)
                  have hlen : 8 ≤ (s.drop (8 * i)).length := by rw [List.length_drop]; have := HS.out; omega
                  obtain ⟨x, hx⟩ : ∃ x, val ((s.drop (8 * i)).take 8) = x := ⟨_, rfl⟩
                  have hxb : x < 2 ^ 64 := by rw [← hx]; have h9 := val_lt ((s.drop (8 * i)).take 8); rw [List.length_take, Nat.min_eq_left hlen] at h9; exact h9
                  have hbl : (0 :: b :: s).length = n := by have := HS.out; simp; omega
                  have hsl := run_from_k (P := Try.prog) (some ⟨ab, aoff, none⟩) n c t Try.underlying26 (by kernel_rfl) htn
                  have hrd : Reads wr (cut (some ⟨ab, aoff, none⟩) c t) (bts (s.drop (8 * i))) := by
                    have h9 := (g0.keep hg).cut c t (by rw [bts_length, hbl]; exact hc)
                    rw [bts_drop, ht, show 2 + 8 * i = (8 * i) + 1 + 1 by omega, List.drop_succ_cons, List.drop_succ_cons] at h9
                    rw [ht, show 2 + 8 * i = (8 * i) + 1 + 1 by omega]
                    exact h9
                  have hnum := number_any (cut (some ⟨ab, aoff, none⟩) c t) (n - t) (c - t) (s.drop (8 * i)) wr hrd (by rw [List.length_drop]; have := HS.out; omega) (by omega)
                  rw [hx] at hnum
                  obtain ⟨t8, ht8⟩ : ∃ t8 : Nat, t + 8 = t8 := ⟨_, rfl⟩
                  have htt : (t : Int) + 8 = (t8 : Int) := by omega
                  have HT8 := mkHid ht8
                  clear ht8
                  obtain ⟨q, hq⟩ : ∃ q : Nat, i / 2 = q := ⟨_, rfl⟩
                  have hnq : (i : Int) / 2 = (q : Int) := by omega
                  by_cases hev : i % 2 = 0
                  · have hnr : (i : Int) % 2 = 0 := by omega
                    have hnr2 : i % 2 = 0 := hev
                    obtain ⟨kl, hkl⟩ : ∃ kl, K.length = kl := ⟨_, rfl⟩
                    have hkq : kl = q := by rw [← hkl, (hat.lens.1 hev).1, hq]
                    have c1 := hN.c1
                    rw [hkl] at c1
                    have hrk := hN.rk
                    rw [hkl] at hrk
                    have hnf : nb ∉ fp ka kc := fun hm => by have := (hrk.lt nb hm).1; have := hN.hn; omega
                    have hkl16 : kl ≤ 16 := by omega
                    have hmx : kl + 1 ≤ maxLen := by unfold maxLen; omega
                    have HQ := mkHid (And.intro hkq (And.intro ht hd))
                    by_cases hlow : lowK K x = true
                    · have e := hat.low (by have := HX.out; omega) hlen hev (by rw [hx]; exact hlow)
                      have HE := mkHid e
                      have hi0 : 0 < i := by
                        rcases Nat.eq_zero_or_pos i with h0 | h0
                        · have hK : K = [] := List.eq_nil_of_length_eq_zero (by rw [hkl, hkq, ← hq, h0])
                          rw [hK, low_none] at hlow
                          exact absurd hlow (by decide)
                        · exact h0
                      obtain ⟨j, hj⟩ : ∃ j, q = j + 1 := ⟨q - 1, by omega⟩
                      have hjk : j < K.length := by rw [hkl, hkq]; omega
                      obtain ⟨z, hz⟩ : ∃ z, K[j]? = some z := ⟨_, List.getElem?_eq_getElem hjk⟩
                      obtain ⟨kb, ko, rfl, cz, _⟩ := reads_lt hrk.reads j _ (uvs_get hz)
                      have hxz : x ≤ z := by rw [low_some (by rw [hkl, hkq, hj]) hz] at hlow; exact of_decide_eq_true hlow
                      have d5 : decide (i > 0) = true := decide_eq_true hi0
                      have d6 : decide ((i : Int) > 0) = true := decide_eq_true (by omega)
                      have d6' : decide ((0 : Int) < (i : Int)) = true := decide_eq_true (by omega)
                      have d7 : decide (x ≤ z) = true := decide_eq_true hxz
                      have d8 : decide ((x : Int) ≤ (z : Int)) = true := decide_eq_true (by omega)
                      have hqj : (q : Int) - 1 = (j : Int) := by omega
                      have hjkl : j < kl := by omega
                      obtain ⟨v0, r0⟩ := Option.isSome_iff_exists.1 (hN.th 0 (by decide)).1
                      obtain ⟨v1, r1⟩ := Option.isSome_iff_exists.1 (hN.th 1 (by decide)).1
                      obtain ⟨v2, r2⟩ := Option.isSome_iff_exists.1 (hN.th 2 (by decide)).1
                      have q0 := (hN.th 0 (by decide)).2
                      have q1 := (hN.th 1 (by decide)).2
                      have q2 := (hN.th 2 (by decide)).2
                      simp only [Nat.zero_add] at r0 r1 r2 q0 q1 q2
                      clear e hat hN hd ht hx hlow hz hev hrk hkl hrd hq hnf hj hkq hjk hlen hbl hxz hi0 hn2 hnr2
                      go_wp2_with fail
                      refine hnum.mono ?_
                      rintro e w' ⟨rfl, rfl⟩
                      go_wp2_with fail
                      refine bodyPost_ret (v := .tuple #[.agg #[.bool false, .slice none 0 0, .slice none 0 0], .int .i64 5]) (by simp [results, Try.results17, go_sem, r0, r1, r2]) rfl ⟨?_, three w wr R (by have := HX.out; omega) hg _ _ _⟩
                      have e9 := HRES.out
                      rw [HE.out] at e9
                      rw [← e9]
                      exact NodeRes.none _ _ _
                    · have hl2 : lowK K x = false := by simpa using hlow
                      have HA2 := mkHid (by have h9 := hat.key (by have := HX.out; omega) hlen hev (by rw [hx]; exact hl2); rw [hx] at h9; exact h9)
                      by_cases hi0 : 0 < i
                      · obtain ⟨j, hj⟩ : ∃ j, q = j + 1 := ⟨q - 1, by omega⟩
                        have hjk : j < K.length := by rw [hkl, hkq]; omega
                        obtain ⟨z, hz⟩ : ∃ z, K[j]? = some z := ⟨_, List.getElem?_eq_getElem hjk⟩
                        obtain ⟨kb, ko, rfl, cz, _⟩ := reads_lt hrk.reads j _ (uvs_get hz)
                        have hxz : ¬ x ≤ z := by rw [low_some (by rw [hkl, hkq, hj]) hz] at hl2; exact of_decide_eq_false hl2
                        have d5 : decide (i > 0) = true := decide_eq_true hi0
                        have d6 : decide ((i : Int) > 0) = true := decide_eq_true (by omega)
                        have d6' : decide ((0 : Int) < (i : Int)) = true := decide_eq_true (by omega)
                        have d7 : decide (x ≤ z) = false := decide_eq_false hxz
                        have d8 : decide ((x : Int) ≤ (z : Int)) = false := decide_eq_false (by omega)
                        have hqj : (q : Int) - 1 = (j : Int) := by omega
                        have hjkl : j < kl := by omega
                        have HKL := mkHid hkl
                        clear hlow hl2 hz hrd hj hkq ht hd hx hq hev hnr2 hjk hlen hbl hxz hi0 hn2 hkl hat
                        go_wp2_with fail
                        refine hnum.mono ?_
                        rintro e w' ⟨rfl, rfl⟩
                        go_wp2_with (at_builtin; refine wpList_append_1 _ rfl (.tmp 81) (.tmp 83) 22 rfl 40 8 eltU B _ kl kc (uvs K) rfl hrk hN.hB (.int .u64 (x : Int)) 1 rfl rfl hmx (by omega) ?_; intro a4 c4 w4 hr4 hg4 hf4; have k1 := hg4.cellv c1 hnf; have f1 := (hg4.frozen (p := ⟨nb, 1, none⟩) (block_lt_of_cell c1) hnf).trans hN.f1)
                        have hr5 : Room w4 B a4 (K.length + 1) c4 (uvs K ++ [.int .u64 (x : Int)]) := by rw [HKL.out]; exact hr4
                        have hN5 := hN.key hr5 hg4 hf4
                        rw [HKL.out] at hN5
                        exact ⟨⟨i + 1, t8, K ++ [x], V, a4, va, c4, vc, by first | rfl | go_num, by first | rfl | go_num, by have := HQ.out; have := HT8.out; omega, by have := HQ.out; have := HT8.out; omega, by omega, HA2.out, hN5, hN.turned hg (by have := HX.out; omega) hg4 (fun k hk => by have := (hrk.lt k hk).1; have := HX.out; omega) 1 _⟩, by simp [intOf]; omega⟩
                      · have hi00 : i = 0 := by omega
                        have d5 : decide (i > 0) = false := decide_eq_false hi0
                        have d5' : decide (0 < i) = false := decide_eq_false hi0
                        have d6 : decide ((i : Int) > 0) = false := decide_eq_false (by omega)
                        have d6' : decide ((0 : Int) < (i : Int)) = false := decide_eq_false (by omega)
                        have HKL := mkHid hkl
                        clear hlow hl2 hrd hi00 hkq ht hd hx hq hev hnr2 hlen hbl hi0 hn2 hkl hat
                        go_wp2_with fail
                        refine hnum.mono ?_
                        rintro e w' ⟨rfl, rfl⟩
                        go_wp2_with (at_builtin; refine wpList_append_1 _ rfl (.tmp 81) (.tmp 83) 22 rfl 40 8 eltU B ka kl kc (uvs K) rfl hrk hN.hB (.int .u64 (x : Int)) 1 rfl rfl hmx (by omega) ?_; intro a4 c4 w4 hr4 hg4 hf4; have k1 := hg4.cellv c1 hnf; have f1 := (hg4.frozen (p := ⟨nb, 1, none⟩) (block_lt_of_cell c1) hnf).trans hN.f1)
                        have hr5 : Room w4 B a4 (K.length + 1) c4 (uvs K ++ [.int .u64 (x : Int)]) := by rw [HKL.out]; exact hr4
                        have hN5 := hN.key hr5 hg4 hf4
                        rw [HKL.out] at hN5
                        exact ⟨⟨i + 1, t8, K ++ [x], V, a4, va, c4, vc, by first | rfl | go_num, by first | rfl | go_num, by have := HQ.out; have := HT8.out; omega, by have := HQ.out; have := HT8.out; omega, by omega, HA2.out, hN5, hN.turned hg (by have := HX.out; omega) hg4 (fun k hk => by have := (hrk.lt k hk).1; have := HX.out; omega) 1 _⟩, by simp [intOf]; omega⟩
                  · have hod : i % 2 = 1 := by omega
                    have hnr : (i : Int) % 2 = 1 := by omega
                    obtain ⟨kl, hkl⟩ : ∃ kl, V.length = kl := ⟨_, rfl⟩
                    have hkq : kl = q := by rw [← hkl, (hat.lens.2 hod).2, hq]
                    have c2 := hN.c2
                    rw [hkl] at c2
                    have hrk := hN.rv
                    rw [hkl] at hrk
                    have hnf : nb ∉ fp va vc := fun hm => by have := (hrk.lt nb hm).1; have := hN.hn; omega
                    have hkl16 : kl ≤ 16 := by omega
                    have hmx : kl + 1 ≤ maxLen := by unfold maxLen; omega
                    have HQ := mkHid (And.intro hkq (And.intro ht hd))
                    by_cases hx0 : x = 0
                    · have e := hat.nought hlen hod (by rw [hx]; exact hx0)
                      have HE := mkHid e
                      have d7 : ((x : Int) == 0) = true := by simp; omega
                      have d8 : (x == 0) = true := by simp; omega
                      obtain ⟨v0, r0⟩ := Option.isSome_iff_exists.1 (hN.th 0 (by decide)).1
                      obtain ⟨v1, r1⟩ := Option.isSome_iff_exists.1 (hN.th 1 (by decide)).1
                      obtain ⟨v2, r2⟩ := Option.isSome_iff_exists.1 (hN.th 2 (by decide)).1
                      have q0 := (hN.th 0 (by decide)).2
                      have q1 := (hN.th 1 (by decide)).2
                      have q2 := (hN.th 2 (by decide)).2
                      simp only [Nat.zero_add] at r0 r1 r2 q0 q1 q2
                      clear e hat hN hd ht hx hev hrk hkl hrd hq hnf hx0 hkq hlen hbl hn2
                      go_wp2_with fail
                      refine hnum.mono ?_
                      rintro e w' ⟨rfl, rfl⟩
                      go_wp2_with fail
                      refine bodyPost_ret (v := .tuple #[.agg #[.bool false, .slice none 0 0, .slice none 0 0], .int .i64 5]) (by simp [results, Try.results17, go_sem, r0, r1, r2]) rfl ⟨?_, three w wr R (by have := HX.out; omega) hg _ _ _⟩
                      have e9 := HRES.out
                      rw [HE.out] at e9
                      rw [← e9]
                      exact NodeRes.none _ _ _
                    · have d7 : ((x : Int) == 0) = false := beq_eq_false_iff_ne.2 (by omega)
                      have d8 : (x == 0) = false := beq_eq_false_iff_ne.2 hx0
                      have HA2 := mkHid (by have h9 := hat.value hlen hod (by rw [hx]; exact hx0); rw [hx] at h9; exact h9)
                      have HKL := mkHid hkl
                      clear hrd hkq ht hd hx hq hev hlen hbl hn2 hx0 hkl hat
                      go_wp2_with fail
                      refine hnum.mono ?_
                      rintro e w' ⟨rfl, rfl⟩
                      go_wp2_with (at_builtin; refine wpList_append_1 _ rfl (.tmp 90) (.tmp 92) 22 rfl 40 8 eltU B va kl vc (uvs V) rfl hrk hN.hB (.int .u64 (x : Int)) 1 rfl rfl hmx (by omega) ?_; intro a4 c4 w4 hr4 hg4 hf4; have k1 := hg4.cellv c2 hnf; have f1 := (hg4.frozen (p := ⟨nb, 2, none⟩) (block_lt_of_cell c2) hnf).trans hN.f2)
                      have hr5 : Room w4 B a4 (V.length + 1) c4 (uvs V ++ [.int .u64 (x : Int)]) := by rw [HKL.out]; exact hr4
                      have hN5 := hN.value hr5 hg4 hf4
                      rw [HKL.out] at hN5
                      exact ⟨⟨i + 1, t8, K, V ++ [x], ka, a4, kc, c4, by first | rfl | go_num, by first | rfl | go_num, by have := HQ.out; have := HT8.out; omega, by have := HQ.out; have := HT8.out; omega, by omega, HA2.out, hN5, hN.turned hg (by have := HX.out; omega) hg4 (fun k hk => by have := (hrk.lt k hk).1; have := HX.out; omega) 2 _⟩, by simp [intOf]; omega⟩
              · have hie : i = M := by omega
                subst hie
                have d1 : decide (i < i) = false := by simp
                have hlast := At.last (by have h9 := HX.out.1; rw [h9]; exact hat)
                have HL := mkHid hlast
                have htm : t = 2 + 16 * m := by have := HX.out; omega
                have HTM := mkHid htm
                have c0 := hN.c0
                have c1 := hN.c1
                have c2 := hN.c2
                obtain ⟨kl, hkl⟩ : ∃ kl, K.length = kl := ⟨_, rfl⟩
                obtain ⟨vl, hvl⟩ : ∃ vl, V.length = vl := ⟨_, rfl⟩
                rw [hkl] at c1
                rw [hvl] at c2
                obtain ⟨v0, r0⟩ := Option.isSome_iff_exists.1 (hN.th 0 (by decide)).1
                obtain ⟨v1, r1⟩ := Option.isSome_iff_exists.1 (hN.th 1 (by decide)).1
                obtain ⟨v2, r2⟩ := Option.isSome_iff_exists.1 (hN.th 2 (by decide)).1
                have q0 := (hN.th 0 (by decide)).2
                have q1 := (hN.th 1 (by decide)).2
                have q2 := (hN.th 2 (by decide)).2
                simp only [Nat.zero_add] at r0 r1 r2 q0 q1 q2
                have HKV := mkHid (And.intro hkl hvl)
                have HN := mkHid hN
                have gr := g0.keep hg
                have hbl : (0 :: b :: s).length = n := by have := HS.out; simp; omega
                have HBL := mkHid hbl
                clear hlast hat hN ht htm hkl hvl hbl
                go_wp2_with fail
                go_loop [9] (fun iv => ∃ p : Nat, iv = .int .i64 p ∧ t ≤ p ∧ p ≤ n ∧ ∀ j y, t ≤ j → j < p → (0 :: b :: s)[j]? = some y → y = 0) (fun iv => n - (intOf iv).toNat)
                case atStart => exact ⟨t, rfl, Nat.le_refl _, htn, fun j y h1 h2 => by omega⟩
                case round =>
                  obtain ⟨p, rfl, htp, hpn, hall⟩ := hrel
                  have HALL := mkHid hall
                  clear hall
                  by_cases hp : p < n
                  · have s1 : decide (p < n) = true := decide_eq_true hp
                    have s2 : decide ((p : Int) < (n : Int)) = true := decide_eq_true (by omega)
                    have hpl : p < (0 :: b :: s).length := by rw [HBL.out]; exact hp
                    obtain ⟨y, hy⟩ : ∃ y, (0 :: b :: s)[p]? = some y := ⟨_, List.getElem?_eq_getElem hpl⟩
                    have hyv : (bts (0 :: b :: s))[p]? = some (.int .u8 (y.toNat : Int)) := by rw [bts, List.getElem?_map, hy]; rfl
                    obtain ⟨yb, yo, he, cy, _⟩ := reads_lt gr p _ hyv
                    simp only [Option.some.injEq, Addr.mk.injEq] at he
                    obtain ⟨rfl, rfl, _⟩ := he
                    obtain ⟨my, hmy⟩ : ∃ my, y.toNat = my := ⟨_, rfl⟩
                    rw [hmy] at cy
                    have HY := mkHid (And.intro hy hmy)
                    clear hy hyv hpl hmy gr
                    by_cases hy0 : my = 0
                    · have s3 : ((my : Int) != 0) = false := by simp; omega
                      have s4 : (my != 0) = false := by simp; omega
                      have HY0 := mkHid hy0
                      clear hy0
                      go_wp2_with fail
                      go_round
                      case rel =>
                        refine ⟨p + 1, by first | rfl | go_num, by omega, by omega, fun j y' h1 h2 h3 => ?_⟩
                        by_cases hjp : j = p
                        · subst hjp
                          rw [HY.out.1] at h3
                          cases h3
                          exact UInt8.toNat_inj.1 (by rw [HY.out.2, HY0.out]; rfl)
                        · exact HALL.out j y' h1 (by omega) h3
                      case measure => simp [intOf]; omega
                    · have s3 : ((my : Int) != 0) = true := by simp; omega
                      have s4 : (my != 0) = true := by simp; omega
                      have HY0 := mkHid hy0
                      clear hy0
                      go_wp2_with fail
                      refine bodyPost_ret (v := .tuple #[.agg #[.bool false, .slice none 0 0, .slice none 0 0], .int .i64 5]) (by simp [results, Try.results17, go_sem, r0, r1, r2]) rfl ⟨?_, three w wr R (by have := HX.out; omega) hg _ _ _⟩
                      have e9 := HRES.out
                      rw [HL.out, rest_no HTM.out htp HY.out.1 (fun e => HY0.out (by rw [← HY.out.2, e]; rfl))] at e9
                      rw [← e9]
                      exact NodeRes.none _ _ _
                  · have hpe : p = n := by omega
                    subst hpe
                    have s1 : decide (p < p) = false := by simp
                    go_wp2_with fail
                    refine bodyPost_ret (v := .tuple #[.agg #[.bool false, .slice ka kl kc, .slice va vl vc], .int .i64 0]) (by simp [results, Try.results17, go_sem, r0, r1, r2]) rfl ⟨?_, three w wr R (by have := HX.out; omega) hg _ _ _⟩
                    have e9 := HRES.out
                    rw [HL.out, rest_yes HTM.out HBL.out HALL.out, if_pos rfl, if_pos rfl] at e9
                    rw [← e9]
                    have h9 := HN.out.res (w := w) (by have := HX.out; omega) (by have := HX.out; omega) (.bool false) (.slice ka kl kc) (.slice va vl vc)
                    rw [HKV.out.1, HKV.out.2] at h9
                    exact h9
          · have N0 := start_node w true
            have G0 : Chg [] w ((w.alloc (.cells #[.bool false, .slice none 0 0, .slice none 0 0] 24)).alloc (.cells #[.bool true, .slice none 0 0, .slice none 0 0] 24)) := (Chg.alloc [] w _).then (Chg.alloc [] _ _)
            go_enter Try.func17, Try.ntmps17
            go_wp2_with fail
            clear ca cb ga
            generalize (w.alloc (.cells #[.bool false, .slice none 0 0, .slice none 0 0] 24)).alloc (.cells #[.bool true, .slice none 0 0, .slice none 0 0] 24) = w2 at *
            obtain ⟨B, hBB⟩ : ∃ B, w.heap.size + 2 = B := ⟨_, rfl⟩
            rw [hBB] at N0
            obtain ⟨nb, hnb⟩ : ∃ b, w.heap.size + 1 = b := ⟨_, rfl⟩
            rw [hnb] at N0 ⊢
            obtain ⟨R, hRR⟩ : ∃ b, w.heap.size = b := ⟨_, rfl⟩
            rw [hRR] at N0 ⊢
            obtain ⟨M, hM⟩ : ∃ M : Nat, 2 * m = M := ⟨_, rfl⟩
            have hMi : (2 : Int) * (m : Int) = (M : Int) := by omega
            have hM16 : M ≤ 16 := by have := HB.out; omega
            have HX := mkHid (And.intro hM (And.intro hBB (And.intro hnb hRR)))
            clear hM hBB hnb hRR
            go_loopw [6, 7] (fun av iv wr => ∃ (i t : Nat) (K V : List Nat) (ka va : Option Addr) (kc vc : Nat), av = .int .i64 t ∧ iv = .int .i64 i ∧ t = 2 + 8 * i ∧ t ≤ n ∧ i ≤ M ∧ At m i K V s ∧ NBlk wr R nb B true ka kc va vc K V ∧ Chg [] w wr) (fun _ iv _ => M - (intOf iv).toNat)
            case atStart => exact ⟨0, 2, [], [], none, none, 0, 0, rfl, rfl, rfl, hn2, Nat.zero_le _, At.start m s, N0, G0⟩
            case round =>
              clear N0 G0
              obtain ⟨i, t, K, V, ka, va, kc, vc, rfl, rfl, ht, htn, hiM, hat, hN, hg⟩ := hrel
              by_cases hlt : i < M
              · have d1 : decide (i < M) = true := decide_eq_true hlt
                have d2 : decide ((i : Int) < (M : Int)) = true := decide_eq_true (by omega)
                obtain ⟨d, hd⟩ : ∃ d : Nat, n - t = d := ⟨_, rfl⟩
                have hdi : (n : Int) - (t : Int) = (d : Int) := by omega
                by_cases h8 : d < 8
                · have d3 : decide (d < 8) = true := decide_eq_true h8
                  have d4 : decide ((d : Int) < 8) = true := decide_eq_true (by omega)
                  have e := hat.short (by have := HX.out; omega) (by rw [List.length_drop]; have := HS.out; omega)
                  obtain ⟨v0, r0⟩ := Option.isSome_iff_exists.1 (hN.th 0 (by decide)).1
                  obtain ⟨v1, r1⟩ := Option.isSome_iff_exists.1 (hN.th 1 (by decide)).1
                  obtain ⟨v2, r2⟩ := Option.isSome_iff_exists.1 (hN.th 2 (by decide)).1
                  have q0 := (hN.th 0 (by decide)).2
                  have q1 := (hN.th 1 (by decide)).2
                  have q2 := (hN.th 2 (by decide)).2
                  simp only [Nat.zero_add] at r0 r1 r2 q0 q1 q2
                  have HE := mkHid e
                  clear e hat hN hd ht
                  go_wp2_with fail
                  refine bodyPost_ret (v := .tuple #[.agg #[.bool false, .slice none 0 0, .slice none 0 0], .int .i64 4]) (by simp [results, Try.results17, go_sem, r0, r1, r2]) rfl ⟨?_, three w wr R (by have := HX.out; omega) hg _ _ _⟩
                  have e9 := HRES.out
                  rw [HE.out] at e9
                  rw [← e9]
                  exact NodeRes.none _ _ _
                · have d3 : decide (d < 8) = false := decide_eq_false h8
                  have d4 : decide ((d : Int) < 8) = false := decide_eq_false (by omega)
                  have hlen : 8 ≤ (s.drop (8 * i)).length := by rw [List.length_drop]; have := HS.out; omega
                  obtain ⟨x, hx⟩ : ∃ x, val ((s.drop (8 * i)).take 8) = x := ⟨_, rfl⟩
                  have hxb : x < 2 ^ 64 := by rw [← hx]; have h9 := val_lt ((s.drop (8 * i)).take 8); rw [List.length_take, Nat.min_eq_left hlen] at h9; exact h9
                  have hbl : (1 :: b :: s).length = n := by have := HS.out; simp; omega
                  have hsl := run_from_k (P := Try.prog) (some ⟨ab, aoff, none⟩) n c t Try.underlying26 (by kernel_rfl) htn
                  have hrd : Reads wr (cut (some ⟨ab, aoff, none⟩) c t) (bts (s.drop (8 * i))) := by
                    have h9 := (g0.keep hg).cut c t (by rw [bts_length, hbl]; exact hc)
                    rw [bts_drop, ht, show 2 + 8 * i = (8 * i) + 1 + 1 by omega, List.drop_succ_cons, List.drop_succ_cons] at h9
                    rw [ht, show 2 + 8 * i = (8 * i) + 1 + 1 by omega]
                    exact h9
                  have hnum := number_any (cut (some ⟨ab, aoff, none⟩) c t) (n - t) (c - t) (s.drop (8 * i)) wr hrd (by rw [List.length_drop]; have := HS.out; omega) (by omega)
                  rw [hx] at hnum
                  obtain ⟨t8, ht8⟩ : ∃ t8 : Nat, t + 8 = t8 := ⟨_, rfl⟩
                  have htt : (t : Int) + 8 = (t8 : Int) := by omega
                  have HT8 := mkHid ht8
                  clear ht8
                  obtain ⟨q, hq⟩ : ∃ q : Nat, i / 2 = q := ⟨_, rfl⟩
                  have hnq : (i : Int) / 2 = (q : Int) := by omega
                  by_cases hev : i % 2 = 0
                  · have hnr : (i : Int) % 2 = 0 := by omega
                    have hnr2 : i % 2 = 0 := hev
                    obtain ⟨kl, hkl⟩ : ∃ kl, K.length = kl := ⟨_, rfl⟩
                    have hkq : kl = q := by rw [← hkl, (hat.lens.1 hev).1, hq]
                    have c1 := hN.c1
                    rw [hkl] at c1
                    have hrk := hN.rk
                    rw [hkl] at hrk
                    have hnf : nb ∉ fp ka kc := fun hm => by have := (hrk.lt nb hm).1; have := hN.hn; omega
                    have hkl16 : kl ≤ 16 := by omega
                    have hmx : kl + 1 ≤ maxLen := by unfold maxLen; omega
                    have HQ := mkHid (And.intro hkq (And.intro ht hd))
                    by_cases hlow : lowK K x = true
                    · have e := hat.low (by have := HX.out; omega) hlen hev (by rw [hx]; exact hlow)
                      have HE := mkHid e
                      have hi0 : 0 < i := by
                        rcases Nat.eq_zero_or_pos i with h0 | h0
                        · have hK : K = [] := List.eq_nil_of_length_eq_zero (by rw [hkl, hkq, ← hq, h0])
                          rw [hK, low_none] at hlow
                          exact absurd hlow (by decide)
                        · exact h0
                      obtain ⟨j, hj⟩ : ∃ j, q = j + 1 := ⟨q - 1, by omega⟩
                      have hjk : j < K.length := by rw [hkl, hkq]; omega
                      obtain ⟨z, hz⟩ : ∃ z, K[j]? = some z := ⟨_, List.getElem?_eq_getElem hjk⟩
                      obtain ⟨kb, ko, rfl, cz, _⟩ := reads_lt hrk.reads j _ (uvs_get hz)
                      have hxz : x ≤ z := by rw [low_some (by rw [hkl, hkq, hj]) hz] at hlow; exact of_decide_eq_true hlow
                      have d5 : decide (i > 0) = true := decide_eq_true hi0
                      have d6 : decide ((i : Int) > 0) = true := decide_eq_true (by omega)
                      have d6' : decide ((0 : Int) < (i : Int)) = true := decide_eq_true (by omega)
                      have d7 : decide (x ≤ z) = true := decide_eq_true hxz
                      have d8 : decide ((x : Int) ≤ (z : Int)) = true := decide_eq_true (by omega)
                      have hqj : (q : Int) - 1 = (j : Int) := by omega
                      have hjkl : j < kl := by omega
                      obtain ⟨v0, r0⟩ := Option.isSome_iff_exists.1 (hN.th 0 (by decide)).1
                      obtain ⟨v1, r1⟩ := Option.isSome_iff_exists.1 (hN.th 1 (by decide)).1
                      obtain ⟨v2, r2⟩ := Option.isSome_iff_exists.1 (hN.th 2 (by decide)).1
                      have q0 := (hN.th 0 (by decide)).2
                      have q1 := (hN.th 1 (by decide)).2
                      have q2 := (hN.th 2 (by decide)).2
                      simp only [Nat.zero_add] at r0 r1 r2 q0 q1 q2
                      clear e hat hN hd ht hx hlow hz hev hrk hkl hrd hq hnf hj hkq hjk hlen hbl hxz hi0 hn2 hnr2
                      go_wp2_with fail
                      refine hnum.mono ?_
                      rintro e w' ⟨rfl, rfl⟩
                      go_wp2_with fail
                      refine bodyPost_ret (v := .tuple #[.agg #[.bool false, .slice none 0 0, .slice none 0 0], .int .i64 5]) (by simp [results, Try.results17, go_sem, r0, r1, r2]) rfl ⟨?_, three w wr R (by have := HX.out; omega) hg _ _ _⟩
                      have e9 := HRES.out
                      rw [HE.out] at e9
                      rw [← e9]
                      exact NodeRes.none _ _ _
                    · have hl2 : lowK K x = false := by simpa using hlow
                      have HA2 := mkHid (by have h9 := hat.key (by have := HX.out; omega) hlen hev (by rw [hx]; exact hl2); rw [hx] at h9; exact h9)
                      by_cases hi0 : 0 < i
                      · obtain ⟨j, hj⟩ : ∃ j, q = j + 1 := ⟨q - 1, by omega⟩
                        have hjk : j < K.length := by rw [hkl, hkq]; omega
                        obtain ⟨z, hz⟩ : ∃ z, K[j]? = some z := ⟨_, List.getElem?_eq_getElem hjk⟩
                        obtain ⟨kb, ko, rfl, cz, _⟩ := reads_lt hrk.reads j _ (uvs_get hz)
                        have hxz : ¬ x ≤ z := by rw [low_some (by rw [hkl, hkq, hj]) hz] at hl2; exact of_decide_eq_false hl2
                        have d5 : decide (i > 0) = true := decide_eq_true hi0
                        have d6 : decide ((i : Int) > 0) = true := decide_eq_true (by omega)
                        have d6' : decide ((0 : Int) < (i : Int)) = true := decide_eq_true (by omega)
                        have d7 : decide (x ≤ z) = false := decide_eq_false hxz
                        have d8 : decide ((x : Int) ≤ (z : Int)) = false := decide_eq_false (by omega)
                        have hqj : (q : Int) - 1 = (j : Int) := by omega
                        have hjkl : j < kl := by omega
                        have HKL := mkHid hkl
                        clear hlow hl2 hz hrd hj hkq ht hd hx hq hev hnr2 hjk hlen hbl hxz hi0 hn2 hkl hat
                        go_wp2_with fail
                        refine hnum.mono ?_
                        rintro e w' ⟨rfl, rfl⟩
                        go_wp2_with (at_builtin; refine wpList_append_1 _ rfl (.tmp 81) (.tmp 83) 22 rfl 40 8 eltU B _ kl kc (uvs K) rfl hrk hN.hB (.int .u64 (x : Int)) 1 rfl rfl hmx (by omega) ?_; intro a4 c4 w4 hr4 hg4 hf4; have k1 := hg4.cellv c1 hnf; have f1 := (hg4.frozen (p := ⟨nb, 1, none⟩) (block_lt_of_cell c1) hnf).trans hN.f1)
                        have hr5 : Room w4 B a4 (K.length + 1) c4 (uvs K ++ [.int .u64 (x : Int)]) := by rw [HKL.out]; exact hr4
                        have hN5 := hN.key hr5 hg4 hf4
                        rw [HKL.out] at hN5
                        exact ⟨⟨i + 1, t8, K ++ [x], V, a4, va, c4, vc, by first | rfl | go_num, by first | rfl | go_num, by have := HQ.out; have := HT8.out; omega, by have := HQ.out; have := HT8.out; omega, by omega, HA2.out, hN5, hN.turned hg (by have := HX.out; omega) hg4 (fun k hk => by have := (hrk.lt k hk).1; have := HX.out; omega) 1 _⟩, by simp [intOf]; omega⟩
                      · have hi00 : i = 0 := by omega
                        have d5 : decide (i > 0) = false := decide_eq_false hi0
                        have d5' : decide (0 < i) = false := decide_eq_false hi0
                        have d6 : decide ((i : Int) > 0) = false := decide_eq_false (by omega)
                        have d6' : decide ((0 : Int) < (i : Int)) = false := decide_eq_false (by omega)
                        have HKL := mkHid hkl
                        clear hlow hl2 hrd hi00 hkq ht hd hx hq hev hnr2 hlen hbl hi0 hn2 hkl hat
                        go_wp2_with fail
                        refine hnum.mono ?_
                        rintro e w' ⟨rfl, rfl⟩
                        go_wp2_with (at_builtin; refine wpList_append_1 _ rfl (.tmp 81) (.tmp 83) 22 rfl 40 8 eltU B ka kl kc (uvs K) rfl hrk hN.hB (.int .u64 (x : Int)) 1 rfl rfl hmx (by omega) ?_; intro a4 c4 w4 hr4 hg4 hf4; have k1 := hg4.cellv c1 hnf; have f1 := (hg4.frozen (p := ⟨nb, 1, none⟩) (block_lt_of_cell c1) hnf).trans hN.f1)
                        have hr5 : Room w4 B a4 (K.length + 1) c4 (uvs K ++ [.int .u64 (x : Int)]) := by rw [HKL.out]; exact hr4
                        have hN5 := hN.key hr5 hg4 hf4
                        rw [HKL.out] at hN5
                        exact ⟨⟨i + 1, t8, K ++ [x], V, a4, va, c4, vc, by first | rfl | go_num, by first | rfl | go_num, by have := HQ.out; have := HT8.out; omega, by have := HQ.out; have := HT8.out; omega, by omega, HA2.out, hN5, hN.turned hg (by have := HX.out; omega) hg4 (fun k hk => by have := (hrk.lt k hk).1; have := HX.out; omega) 1 _⟩, by simp [intOf]; omega⟩
                  · have hod : i % 2 = 1 := by omega
                    have hnr : (i : Int) % 2 = 1 := by omega
                    obtain ⟨kl, hkl⟩ : ∃ kl, V.length = kl := ⟨_, rfl⟩
                    have hkq : kl = q := by rw [← hkl, (hat.lens.2 hod).2, hq]
                    have c2 := hN.c2
                    rw [hkl] at c2
                    have hrk := hN.rv
                    rw [hkl] at hrk
                    have hnf : nb ∉ fp va vc := fun hm => by have := (hrk.lt nb hm).1; have := hN.hn; omega
                    have hkl16 : kl ≤ 16 := by omega
                    have hmx : kl + 1 ≤ maxLen := by unfold maxLen; omega
                    have HQ := mkHid (And.intro hkq (And.intro ht hd))
                    by_cases hx0 : x = 0
                    · have e := hat.nought hlen hod (by rw [hx]; exact hx0)
                      have HE := mkHid e
                      have d7 : ((x : Int) == 0) = true := by simp; omega
                      have d8 : (x == 0) = true := by simp; omega
                      obtain ⟨v0, r0⟩ := Option.isSome_iff_exists.1 (hN.th 0 (by decide)).1
                      obtain ⟨v1, r1⟩ := Option.isSome_iff_exists.1 (hN.th 1 (by decide)).1
                      obtain ⟨v2, r2⟩ := Option.isSome_iff_exists.1 (hN.th 2 (by decide)).1
                      have q0 := (hN.th 0 (by decide)).2
                      have q1 := (hN.th 1 (by decide)).2
                      have q2 := (hN.th 2 (by decide)).2
                      simp only [Nat.zero_add] at r0 r1 r2 q0 q1 q2
                      clear e hat hN hd ht hx hev hrk hkl hrd hq hnf hx0 hkq hlen hbl hn2
                      go_wp2_with fail
                      refine hnum.mono ?_
                      rintro e w' ⟨rfl, rfl⟩
                      go_wp2_with fail
                      refine bodyPost_ret (v := .tuple #[.agg #[.bool false, .slice none 0 0, .slice none 0 0], .int .i64 5]) (by simp [results, Try.results17, go_sem, r0, r1, r2]) rfl ⟨?_, three w wr R (by have := HX.out; omega) hg _ _ _⟩
                      have e9 := HRES.out
                      rw [HE.out] at e9
                      rw [← e9]
                      exact NodeRes.none _ _ _
                    · have d7 : ((x : Int) == 0) = false := beq_eq_false_iff_ne.2 (by omega)
                      have d8 : (x == 0) = false := beq_eq_false_iff_ne.2 hx0
                      have HA2 := mkHid (by have h9 := hat.value hlen hod (by rw [hx]; exact hx0); rw [hx] at h9; exact h9)
                      have HKL := mkHid hkl
                      clear hrd hkq ht hd hx hq hev hlen hbl hn2 hx0 hkl hat
                      go_wp2_with fail
                      refine hnum.mono ?_
                      rintro e w' ⟨rfl, rfl⟩
                      go_wp2_with (at_builtin; refine wpList_append_1 _ rfl (.tmp 90) (.tmp 92) 22 rfl 40 8 eltU B va kl vc (uvs V) rfl hrk hN.hB (.int .u64 (x : Int)) 1 rfl rfl hmx (by omega) ?_; intro a4 c4 w4 hr4 hg4 hf4; have k1 := hg4.cellv c2 hnf; have f1 := (hg4.frozen (p := ⟨nb, 2, none⟩) (block_lt_of_cell c2) hnf).trans hN.f2)
                      have hr5 : Room w4 B a4 (V.length + 1) c4 (uvs V ++ [.int .u64 (x : Int)]) := by rw [HKL.out]; exact hr4
                      have hN5 := hN.value hr5 hg4 hf4
                      rw [HKL.out] at hN5
                      exact ⟨⟨i + 1, t8, K, V ++ [x], ka, a4, kc, c4, by first | rfl | go_num, by first | rfl | go_num, by have := HQ.out; have := HT8.out; omega, by have := HQ.out; have := HT8.out; omega, by omega, HA2.out, hN5, hN.turned hg (by have := HX.out; omega) hg4 (fun k hk => by have := (hrk.lt k hk).1; have := HX.out; omega) 2 _⟩, by simp [intOf]; omega⟩
              · have hie : i = M := by omega
                subst hie
                have d1 : decide (i < i) = false := by simp
                have hlast := At.last (by have h9 := HX.out.1; rw [h9]; exact hat)
                have HL := mkHid hlast
                have htm : t = 2 + 16 * m := by have := HX.out; omega
                have HTM := mkHid htm
                have c0 := hN.c0
                have c1 := hN.c1
                have c2 := hN.c2
                obtain ⟨kl, hkl⟩ : ∃ kl, K.length = kl := ⟨_, rfl⟩
                obtain ⟨vl, hvl⟩ : ∃ vl, V.length = vl := ⟨_, rfl⟩
                rw [hkl] at c1
                rw [hvl] at c2
                obtain ⟨v0, r0⟩ := Option.isSome_iff_exists.1 (hN.th 0 (by decide)).1
                obtain ⟨v1, r1⟩ := Option.isSome_iff_exists.1 (hN.th 1 (by decide)).1
                obtain ⟨v2, r2⟩ := Option.isSome_iff_exists.1 (hN.th 2 (by decide)).1
                have q0 := (hN.th 0 (by decide)).2
                have q1 := (hN.th 1 (by decide)).2
                have q2 := (hN.th 2 (by decide)).2
                simp only [Nat.zero_add] at r0 r1 r2 q0 q1 q2
                have HKV := mkHid (And.intro hkl hvl)
                have HN := mkHid hN
                have gr := g0.keep hg
                have hbl : (1 :: b :: s).length = n := by have := HS.out; simp; omega
                have HBL := mkHid hbl
                clear hlast hat hN ht htm hkl hvl hbl
                go_wp2_with fail
                go_loop [9] (fun iv => ∃ p : Nat, iv = .int .i64 p ∧ t ≤ p ∧ p ≤ n ∧ ∀ j y, t ≤ j → j < p → (1 :: b :: s)[j]? = some y → y = 0) (fun iv => n - (intOf iv).toNat)
                case atStart => exact ⟨t, rfl, Nat.le_refl _, htn, fun j y h1 h2 => by omega⟩
                case round =>
                  obtain ⟨p, rfl, htp, hpn, hall⟩ := hrel
                  have HALL := mkHid hall
                  clear hall
                  by_cases hp : p < n
                  · have s1 : decide (p < n) = true := decide_eq_true hp
                    have s2 : decide ((p : Int) < (n : Int)) = true := decide_eq_true (by omega)
                    have hpl : p < (1 :: b :: s).length := by rw [HBL.out]; exact hp
                    obtain ⟨y, hy⟩ : ∃ y, (1 :: b :: s)[p]? = some y := ⟨_, List.getElem?_eq_getElem hpl⟩
                    have hyv : (bts (1 :: b :: s))[p]? = some (.int .u8 (y.toNat : Int)) := by rw [bts, List.getElem?_map, hy]; rfl
                    obtain ⟨yb, yo, he, cy, _⟩ := reads_lt gr p _ hyv
                    simp only [Option.some.injEq, Addr.mk.injEq] at he
                    obtain ⟨rfl, rfl, _⟩ := he
                    obtain ⟨my, hmy⟩ : ∃ my, y.toNat = my := ⟨_, rfl⟩
                    rw [hmy] at cy
                    have HY := mkHid (And.intro hy hmy)
                    clear hy hyv hpl hmy gr
                    by_cases hy0 : my = 0
                    · have s3 : ((my : Int) != 0) = false := by simp; omega
                      have s4 : (my != 0) = false := by simp; omega
                      have HY0 := mkHid hy0
                      clear hy0
                      go_wp2_with fail
                      go_round
                      case rel =>
                        refine ⟨p + 1, by first | rfl | go_num, by omega, by omega, fun j y' h1 h2 h3 => ?_⟩
                        by_cases hjp : j = p
                        · subst hjp
                          rw [HY.out.1] at h3
                          cases h3
                          exact UInt8.toNat_inj.1 (by rw [HY.out.2, HY0.out]; rfl)
                        · exact HALL.out j y' h1 (by omega) h3
                      case measure => simp [intOf]; omega
                    · have s3 : ((my : Int) != 0) = true := by simp; omega
                      have s4 : (my != 0) = true := by simp; omega
                      have HY0 := mkHid hy0
                      clear hy0
                      go_wp2_with fail
                      refine bodyPost_ret (v := .tuple #[.agg #[.bool false, .slice none 0 0, .slice none 0 0], .int .i64 5]) (by simp [results, Try.results17, go_sem, r0, r1, r2]) rfl ⟨?_, three w wr R (by have := HX.out; omega) hg _ _ _⟩
                      have e9 := HRES.out
                      rw [HL.out, rest_no HTM.out htp HY.out.1 (fun e => HY0.out (by rw [← HY.out.2, e]; rfl))] at e9
                      rw [← e9]
                      exact NodeRes.none _ _ _
                  · have hpe : p = n := by omega
                    subst hpe
                    have s1 : decide (p < p) = false := by simp
                    go_wp2_with fail
                    refine bodyPost_ret (v := .tuple #[.agg #[.bool true, .slice ka kl kc, .slice va vl vc], .int .i64 0]) (by simp [results, Try.results17, go_sem, r0, r1, r2]) rfl ⟨?_, three w wr R (by have := HX.out; omega) hg _ _ _⟩
                    have e9 := HRES.out
                    rw [HL.out, rest_yes HTM.out HBL.out HALL.out, if_pos rfl, if_pos rfl] at e9
                    rw [← e9]
                    have h9 := HN.out.res (w := w) (by have := HX.out; omega) (by have := HX.out; omega) (.bool true) (.slice ka kl kc) (.slice va vl vc)
                    rw [HKV.out.1, HKV.out.2] at h9
                    exact h9
end Go.Proofs.Ytbopfpdgoalfoaa
