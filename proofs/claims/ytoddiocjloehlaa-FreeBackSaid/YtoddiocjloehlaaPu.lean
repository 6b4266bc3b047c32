/- FreeBack: what is taken and given back. -/
import Derived.Test.YtoddiocjloehlaaPt
import Derived.Deep.CutBlock
namespace Go.Proofs.Ytoddiocjloehlaa
open Go.RowKit
set_option linter.unusedVariables false
set_option linter.unusedSimpArgs false
attribute [local go_sem ↓] Go.wp_at_zero Go.wp_at_succ

/-- Of what was free, V are taken. -/
structure Given (I0 Is : List Bool) (V : List Nat) : Prop where
  len : Is.length = I0.length
  nd : V.Nodup
  all : ∀ x, I0[x]? = some true ↔ Is[x]? = some true ∨ x ∈ V
  no : ∀ x, x ∈ V → ¬ Is[x]? = some true
theorem given_taken {I0 Is : List Bool} {V : List Nat} (hl : Is.length = I0.length) (h : freeL I0 = V ++ freeL Is) : Given I0 Is V := by
  have hn := lt_nodup (freeL_lt I0)
  rw [h, List.nodup_append] at hn
  refine ⟨hl, hn.1, fun x => ?_, fun x hx h1 => hn.2.2 x hx x ((mem_freeL Is x).2 h1) rfl⟩
  rw [← mem_freeL, h, List.mem_append, mem_freeL]
  exact or_comm
theorem Given.lt {I0 Is : List Bool} {V : List Nat} (h : Given I0 Is V) : ∀ x, x ∈ V → x < Is.length := by
  intro x hx
  have := (List.getElem?_eq_some_iff.1 ((h.all x).2 (Or.inr hx))).1
  have := h.len
  omega
theorem Given.give1 {I0 Is : List Bool} {V : List Nat} (h : Given I0 Is V) {x : Nat} (hx : x ∈ V) : giveN Is (x : Int) = (0, Is.set x true) := by
  have := h.lt x hx
  unfold giveN
  rw [if_neg (by omega), Int.toNat_natCast, if_neg (h.no x hx)]
theorem Given.give2 {I0 Is : List Bool} {V : List Nat} (h : Given I0 Is V) {x : Nat} (hx : x ∈ V) : giveN (Is.set x true) (x : Int) = (7, Is.set x true) := by
  have := h.lt x hx
  unfold giveN
  rw [if_neg (by rw [List.length_set]; omega), Int.toNat_natCast, if_pos (by rw [List.getElem?_set_self this])]
theorem mem_without {V : List Nat} (hn : V.Nodup) {q : Nat} (hq : q < V.length) (x : Nat) : x ∈ V.take q ++ V.drop (q + 1) ↔ x ∈ V ∧ x ≠ V[q] := by
  have e : V = V.take q ++ V[q] :: V.drop (q + 1) := by rw [← List.drop_eq_getElem_cons hq, List.take_append_drop]
  generalize V[q] = y at *
  generalize V.take q = A at *
  generalize V.drop (q + 1) = C at *
  subst e
  rw [List.nodup_append] at hn
  have h2 := List.nodup_cons.1 hn.2.1
  simp only [List.mem_append, List.mem_cons]
  constructor
  · rintro (h | h)
    · exact ⟨Or.inl h, fun e => hn.2.2 x h y (by simp) e⟩
    · exact ⟨Or.inr (Or.inr h), fun e => h2.1 (e ▸ h)⟩
  · rintro ⟨h | h | h, h3⟩
    · exact Or.inl h
    · exact absurd h h3
    · exact Or.inr h
theorem Given.gave {I0 Is : List Bool} {V : List Nat} (h : Given I0 Is V) {q : Nat} (hq : q < V.length) : Given I0 (Is.set V[q] true) (V.take q ++ V.drop (q + 1)) := by
  have hm := mem_without h.nd hq
  have hx := h.lt _ (List.getElem_mem hq)
  refine ⟨by rw [List.length_set]; exact h.len, ?_, fun x => ?_, fun x hxm => ?_⟩
  · rw [← List.eraseIdx_eq_take_drop_succ]
    exact h.nd.sublist (List.eraseIdx_sublist V q)
  · rw [h.all x, hm, set_get _ _ _ _ hx]
    by_cases e : V[q] = x
    · subst e; simp
    · rw [if_neg e]
      exact or_congr Iff.rfl ⟨fun h => ⟨h, fun h9 => e h9.symm⟩, fun h => h.1⟩
  · rw [hm] at hxm
    rw [set_get _ _ _ _ hx, if_neg (fun e => hxm.2 e.symm)]
    exact h.no x hxm.1
theorem Given.done {I0 Is : List Bool} (h : Given I0 Is []) : freeL Is = freeL I0 :=
  rising_ext (freeL_lt _) (freeL_lt _) fun x => by rw [mem_freeL, mem_freeL, h.all x]; simp
theorem takeN_len (Is : List Bool) : (takeN Is).2.2.length = Is.length := by
  unfold takeN
  split <;> simp
/-- A row that is held beside a space is appended to. -/
theorem Solo.appended {w0 w w' : World} {R : List Nat} {sb : Nat} {Is : List Bool} {tb tb' : Option Addr} {tc tc' n n' : Nat} {xs xs' : List Value} (h : Solo w0 w (fp tb tc ++ R) sb Is) (hr : Room w w0.heap.size tb n tc xs) (hr' : Room w' w0.heap.size tb' n' tc' xs') (g : Chg (fp tb tc) w w') (hf : fp tb' tc' = fp tb tc ∨ ∃ k, w.heap.size ≤ k ∧ fp tb' tc' = [k]) : Solo w0 w' (fp tb' tc' ++ R) sb Is := by
  have h1 := h.wrote g (fun k hk => ⟨List.mem_append_left _ hk, (hr.lt k hk).1⟩)
  rcases hf with hf | ⟨k, hk, hf⟩
  · rw [hf]; exact h1
  · obtain ⟨F, hF, hx⟩ := h.s
    obtain ⟨F1, hF1, hx1⟩ := h1.s
    refine ⟨⟨F, hF.chg g (fun q hq hm => (hx q (List.mem_append_left _ hm)).1 hq), fun q hq => ?_⟩, h1.c⟩
    rcases List.mem_append.1 hq with hq | hq
    · refine ⟨fun hm => ?_, (hr'.lt q hq).2⟩
      rw [hf] at hq
      simp at hq
      have := (hF.lt q hm).2
      omega
    · exact ⟨(hx q (List.mem_append_right _ hq)).1, Nat.lt_of_lt_of_le (hx q (List.mem_append_right _ hq)).2 g.size⟩
def lenV : Value → Nat
  | .slice _ n _ => n
  | _ => 0
theorem lenV_slice (a : Option Addr) (n c : Nat) : lenV (.slice a n c) = n := rfl

set_option maxRecDepth 20000 in
set_option maxHeartbeats 10000000 in
theorem back_core (z1 z2 : Int) (gz1 : (Lit.int .i64 z1).wf = true) (gz2 : (Lit.int .i64 z2).wf = true) (a1 : Option Addr) (n1 c1 : Nat) (l1 : List Int) (a2 : Option Addr) (n2 c2 : Nat) (l2 : List Int) (w : World)
    (ga1 : Reads w a1 (zvs l1)) (gl1 : l1.length = n1) (gn1 : n1 ≤ c1) (gc1 : c1 * 8 ≤ 140737488351232) (ga2 : Reads w a2 (zvs l2)) (gl2 : l2.length = n2) (gn2 : n2 ≤ c2) (gc2 : c2 * 8 ≤ 140737488351232) (gw2 : ∀ z ∈ l2, (Lit.int .i64 z).wf = true) :
    Calls Try.prog 5 #[.agg #[.int .i64 z1, .slice a1 n1 c1, .int .i64 z2, .slice a2 n2 c2]] w fun e w' => e = .returned (.bool true) ∧ Chg [] w w' := by
  have cW := fun w => within_any z1 gz1 200 (by decide) (by decide) w
  rw [show ((200 : Nat) : Int) = 200 from rfl] at cW
  have cW2 := fun w => within_any z2 gz2 200 (by decide) (by decide) w
  rw [show ((200 : Nat) : Int) = 200 from rfl] at cW2
  have CW := mkHid cW
  have CW2 := mkHid cW2
  have G1 := mkHid gl1
  have G2 := mkHid gl2
  have GW := mkHid gw2
  clear cW cW2 gl1 gl2 gw2
  go_enter Try.func5, Try.ntmps5
  go_wp2_with fail
  go_quiet (fail)
  generalize hW : World.drewN _ nq = W
  have g0 : Chg [] w W := by subst hW; exact (Chg.alloc [] w _).then (Chg.drewN _ _)
  clear hW
  go_wp2_with fail
  refine (CW.out W).mono ?_
  rintro e w0 ⟨n, hn, rfl, rfl⟩
  go_wp2_with fail
  refine (new_solo n (by omega) w W g0 [] (by simp)).mono ?_
  rintro e w1 ⟨sb, rfl, h1, -⟩
  go_wp2_with fail
  refine (awake_any w1).mono ?_
  rintro e w2 ⟨rfl, g2⟩
  have h2 := h1.keep g2
  generalize List.replicate n true = I00 at *
  clear h1 g2 gz1 g0
  go_wp2_with fail
  go_loopw [39] (fun iv wr => ∃ (k : Nat) (Is : List Bool), iv = .int .i64 k ∧ k ≤ n1 ∧ k ≤ 200 ∧ Solo w wr [] sb Is) (fun iv _ => n1 - (intOf iv).toNat)
  case atStart => exact ⟨0, I00, rfl, Nat.zero_le _, by omega, h2⟩
  case round =>
    clear h2
    obtain ⟨k, Is, rfl, hk, hk2, hD⟩ := hrel
    have hR1 := ga1.keep hD.c
    by_cases hcont : k < n1 ∧ k < 200
    · obtain ⟨hlt, h400⟩ := hcont
      obtain ⟨b, o, rfl, hcell⟩ := hR1 (by rw [zvs_len, G1.out]; omega)
      have hkl : k < l1.length := by rw [G1.out]; exact hlt
      have ck := hcell k _ (zvs_get (List.getElem?_eq_getElem hkl))
      have hne3 : ((k : Int) == 200) = false := beq_eq_false_iff_ne.2 (by omega)
      generalize l1[k] = y at *
      clear hcell
      go_wp2_with fail
      refine (solo_claim hD _).mono ?_
      rintro e w4 ⟨rfl, h4, -⟩
      go_wp2_with fail
      exact ⟨⟨k + 1, _, by first | rfl | go_num, by omega, by omega, h4⟩, by simp [intOf]; omega⟩
    · have hfin : (k = n1) ∨ (k < n1 ∧ k = 200) := by omega
      clear hcont
      have hB := hD.c.size
      have hsm := Nat.le_trans (freeL_le Is) (solo_small hD)
      rcases hfin with hk9 | ⟨hk8, hk9⟩
      all_goals
        as_aux_lemma =>
          first
          | (have hd : decide (k < n1) = false := decide_eq_false (by omega)
             have hd2 : decide ((k : Int) < (n1 : Int)) = false := decide_eq_false (by omega)
             clear hk9
             go_wp2_with fail)
          | (have hd : decide (k < n1) = true := decide_eq_true (by omega)
             have hd2 : decide ((k : Int) < (n1 : Int)) = true := decide_eq_true (by omega)
             have hbr : ((k : Int) == 200) = true := beq_iff_eq.2 (by omega)
             have hk7 : k < n1 := hk8
             clear hk9
             obtain ⟨b, o, rfl, hcell⟩ := hR1 (by rw [zvs_len, G1.out]; omega)
             have hkl : k < l1.length := by rw [G1.out]; exact hk7
             have ck := hcell k _ (zvs_get (List.getElem?_eq_getElem hkl))
             generalize l1[k] = y at *
             clear hcell
             go_wp2_with fail)
          refine (solo_list hD).mono ?_
          rintro e w1 ⟨a, c, rfl, hr, h1, g1⟩
          obtain ⟨U, hU⟩ : ∃ U, U = freeL Is := ⟨_, rfl⟩
          rw [← hU] at hr hsm ⊢
          have HU := mkHid hU
          clear hU
          have hr1 : Room w1 w.heap.size a U.length c (ivs U) := hr.mono hB
          have h1' : Solo w w1 (fp a c) sb Is := h1.less (fun k hk => by simp [hk])
          clear hr h1 g1
          go_wp2_with fail
          refine (CW2.out w1).mono ?_
          rintro e w2 ⟨T, hT, rfl, rfl⟩
          go_wp2_with fail
          go_loopw [12, 54] (fun tv iv wx => ∃ (j : Nat) (V : List Nat) (tb : Option Addr) (tc : Nat) (Ij : List Bool), tv = .slice tb V.length tc ∧ iv = .int .i64 j ∧ j ≤ T ∧ V.length ≤ j ∧ U = V ++ freeL Ij ∧ Ij.length = Is.length ∧ Room wx w.heap.size a U.length c (ivs U) ∧ Room wx w.heap.size tb V.length tc (ivs V) ∧ (∀ k, k ∈ fp a c → k ∉ fp tb tc) ∧ Solo w wx (fp tb tc ++ fp a c) sb Ij) (fun _ iv _ => T - (intOf iv).toNat)
          case atStart => exact ⟨0, [], none, 0, Is, rfl, rfl, Nat.zero_le _, Nat.le_refl _, HU.out, rfl, hr1, Room.nil _ _ _, by simp [fp_zero], h1'⟩
          case round =>
            clear hr1 h1'
            obtain ⟨j, V, tb, tc, Ij, rfl, rfl, hj, hVj, hf, hIl, hr, ht, hap, hS⟩ := hrel
            have hf0 : freeL Is = V ++ freeL Ij := HU.out.symm.trans hf
            by_cases hlt : j < T
            · have hd : decide (j < T) = true := decide_eq_true hlt
              have hd2 : decide ((j : Int) < (T : Int)) = true := decide_eq_true (by omega)
              have hlen := takeN_len Ij
              clear hf0
              have cT := solo_take hS
              cases hfl : freeL Ij with
              | nil =>
                have htk : takeN Ij = (0, 8, Ij) := by unfold takeN; rw [hfl]
                rw [htk] at cT
                rw [hfl] at hf
                have HF := mkHid hf
                have HI := mkHid hIl
                have HL := mkHid hfl
                clear htk hf hIl hlen hfl
                go_wp2_with fail
                refine cT.mono ?_
                rintro e w5 ⟨rfl, h5, o5⟩
                go_wp2_with fail
                exact ⟨⟨j + 1, V, tb, tc, Ij, rfl, by first | rfl | go_num, by omega, by omega, by rw [HL.out]; exact HF.out, HI.out, o5.room hr (fun k hk => by simp [hk]), o5.room ht (fun k hk => by simp [hk]), hap, h5⟩, by simp [intOf]; omega⟩
              | cons x r =>
                have htk : takeN Ij = ((x : Int), 0, Ij.set x false) := by unfold takeN; rw [hfl]
                have hf2 := freeL_take hfl
                rw [htk] at cT hlen
                rw [hfl] at hf
                generalize Ij.set x false = I2 at *
                have hf3 : U = (V ++ [x]) ++ freeL I2 := by rw [hf2, hf]; simp
                have hI3 : I2.length = Is.length := hlen.trans hIl
                have HF := mkHid hf3
                have HI := mkHid hI3
                have hbt : V.length < 1024 := by omega
                clear htk hf hIl hlen hfl hf2 hf3 hI3
                go_wp2_with fail
                refine cT.mono ?_
                rintro e w5 ⟨rfl, h5, o5⟩
                have ht5 := o5.room ht (fun k hk => by simp [hk])
                have hr5 := o5.room hr (fun k hk => by simp [hk])
                have hB5 := h5.c.size
                clear cT hr ht hS o5
                go_wp2_with (at_builtin; refine wpList_append_1 _ rfl (.tmp 63) (.tmp 65) 41 rfl 3 8 eltN w.heap.size tb V.length tc (ivs V) rfl ht5 hB5 (.int .i64 (x : Int)) 1 rfl rfl (by unfold maxLen; omega) (by omega) ?_; intro tb' tc' w6 ht6 hg6 hf6)
                have e1 : ivs (V ++ [x]) = ivs V ++ [.int .i64 (x : Int)] := by simp [ivs]
                rw [← e1] at ht6
                have hap2 : ∀ k, k ∈ fp a c → k ∉ fp tb' tc' := fun k hk hm => by
                  rcases hf6 with h9 | ⟨q, h9, h10⟩
                  · rw [h9] at hm; exact hap k hk hm
                  · rw [h10] at hm
                    simp at hm
                    have := (hr5.lt k hk).2
                    omega
                refine ⟨⟨j + 1, V ++ [x], tb', tc', I2, by simp, by first | rfl | go_num, by omega, by simp; omega, HF.out, HI.out, hr5.chg hg6 hap, by simpa using ht6, hap2, h5.appended ht5 ht6 hg6 hf6⟩, by simp [intOf]; omega⟩
            · have hd : decide (j < T) = false := decide_eq_false hlt
              have hd2 : decide ((j : Int) < (T : Int)) = false := decide_eq_false (by omega)
              have hG := given_taken hIl hf0
              have hVT : V.length ≤ 1024 := by omega
              clear hf0 hf hIl
              have HG := mkHid hG
              clear hG
              go_wp2_with fail
              go_loopw [12, 15] (fun tv iv wx => ∃ (i : Nat) (X : List Nat) (tb : Option Addr) (tc : Nat) (Ik : List Bool), tv = .slice tb X.length tc ∧ iv = .int .i64 i ∧ i + X.length ≤ 1024 ∧ Given Is Ik X ∧ Room wx w.heap.size a U.length c (ivs U) ∧ Room wx w.heap.size tb X.length tc (ivs X) ∧ (∀ k, k ∈ fp a c → k ∉ fp tb tc) ∧ Solo w wx (fp tb tc ++ fp a c) sb Ik) (fun tv _ _ => lenV tv)
              case atStart => exact ⟨0, V, tb, tc, Ij, rfl, rfl, by omega, HG.out, hr, ht, hap, hS⟩
              case round =>
                clear hr ht hap hS HG hVT hVj hd hd2 hlt
                obtain ⟨i, X, tb, tc, Ik, rfl, rfl, hi, hG, hr, ht, hap, hS⟩ := hrel
                by_cases hX : 0 < X.length
                · have hd : decide (X.length > 0) = true := decide_eq_true hX
                  have hd2 : decide ((X.length : Int) > 0) = true := decide_eq_true (by omega)
                  have hd3 : decide (0 < X.length) = true := decide_eq_true hX
                  have hd4 : decide ((0 : Int) < (X.length : Int)) = true := decide_eq_true (by omega)
                  have hR2 := ga2.keep hS.c
                  have HGv := mkHid hG
                  clear hG
                  go_upto_if 76 with fail
                  go_cut [16] (fun v wx => ∃ q : Nat, v = .int .i64 q ∧ q < X.length ∧ wr = wx)
                  case first =>
                    by_cases hin : i < n2
                    · have e1 : decide (i < n2) = true := decide_eq_true hin
                      have e2 : decide ((i : Int) < (n2 : Int)) = true := decide_eq_true (by omega)
                      obtain ⟨b, o, rfl, hcell⟩ := hR2 (by rw [zvs_len, G2.out]; omega)
                      have hkl : i < l2.length := by rw [G2.out]; exact hin
                      have ck := hcell i _ (zvs_get (List.getElem?_eq_getElem hkl))
                      have hwf := GW.out _ (List.getElem_mem hkl)
                      generalize l2[i] = y at *
                      clear hcell
                      go_wp2_with fail
                      refine (within_any y hwf X.length hX (by omega) wr).mono ?_
                      rintro e w4 ⟨q, hq, rfl, rfl⟩
                      go_wp2_with fail
                      go_meet
                      exact ⟨q, rfl, hq, rfl⟩
                    · have e1 : decide (i < n2) = false := decide_eq_false hin
                      have e2 : decide ((i : Int) < (n2 : Int)) = false := decide_eq_false (by omega)
                      go_wp2_with fail
                      go_meet
                      exact ⟨0, rfl, hX, rfl⟩
                  case rest =>
                    obtain ⟨q, rfl, hq, rfl⟩ := hcut
                    have HG3 := mkHid (HGv.out.gave hq)
                    have hxm := List.getElem_mem hq
                    have g1 := HGv.out.give1 hxm
                    have g2 := HGv.out.give2 hxm
                    obtain ⟨b, o, rfl, hcell⟩ := ht.reads (by rw [ivs_len]; omega)
                    have cq := hcell q _ (ivs_get hq)
                    have c1g := solo_give hS (X[q] : Int)
                    rw [g1] at c1g
                    generalize Ik.set X[q] true = I2 at *
                    generalize X[q] = x at *
                    have G2x := mkHid g2
                    clear hcell g1 g2 hxm
                    go_wp2_with fail
                    refine c1g.mono ?_
                    rintro e w4 ⟨rfl, h4, o4⟩
                    have ht4 := o4.room ht (fun k hk => by simp [hk])
                    have hr4 := o4.room hr (fun k hk => by simp [hk])
                    have cq4 := o4.cellv cq (by rw [fp_some _ _ _ (by have := ht.le; omega)]; simp)
                    have c2g := solo_give h4 (x : Int)
                    rw [G2x.out] at c2g
                    clear c1g ht hr hS cq o4
                    go_wp2_with fail
                    refine c2g.mono ?_
                    rintro e w5 ⟨rfl, h5, o5⟩
                    have ht5 := o5.room ht4 (fun k hk => by simp [hk])
                    have hr5 := o5.room hr4 (fun k hk => by simp [hk])
                    have hB5 := h5.c.size
                    clear c2g ht4 hr4 h4 cq4 o5
                    have hcl := ht5.le
                    have hcm := ht5.max
                    have hst : ∀ u : World, (Instr.slice 41 (.slice (some ⟨b, o, none⟩) X.length tc) none (some (.int .i64 (q : Int))) none).run Try.prog u = .ok (.slice (some ⟨b, o, none⟩) q tc) u := fun u =>
                      run_take_k (some ⟨b, o, none⟩) X.length tc q Try.underlying41 (by kernel_rfl) (by omega) u
                    have hsl : ∀ u : World, (Instr.slice 41 (.slice (some ⟨b, o, none⟩) X.length tc) (some (.int .i64 ((q : Int) + 1))) none none).run Try.prog u = .ok (.slice (cut (some ⟨b, o, none⟩) tc (q + 1)) (X.length - (q + 1)) (tc - (q + 1))) u := fun u => by
                      have := run_from_k (P := Try.prog) (t := 41) (e := 3) (some ⟨b, o, none⟩) X.length tc (q + 1) Try.underlying41 (by kernel_rfl) (by omega) u
                      rwa [show ((q + 1 : Nat) : Int) = (q : Int) + 1 by omega] at this
                    have rd1 : Reads w5 (some ⟨b, o, none⟩) (ivs (X.take q)) := by
                      have := ht5.reads.take q
                      rwa [show (ivs X).take q = ivs (X.take q) by simp [ivs]] at this
                    have rd2 : Reads w5 (cut (some ⟨b, o, none⟩) tc (q + 1)) (ivs (X.drop (q + 1))) := by
                      have := ht5.reads.cut tc (q + 1) (by rw [ivs_len]; omega)
                      rwa [show (ivs X).drop (q + 1) = ivs (X.drop (q + 1)) by simp [ivs]] at this
                    have Hl1 := mkHid (show (ivs (X.take q)).length = q by rw [ivs_len]; simp; omega)
                    have Hl2 := mkHid (show (ivs (X.drop (q + 1))).length = X.length - (q + 1) by rw [ivs_len]; simp)
                    have hXl : (X.take q ++ X.drop (q + 1)).length = q + (X.length - (q + 1)) := by simp; omega
                    have HX := mkHid hXl
                    generalize cut (some ⟨b, o, none⟩) tc (q + 1) = uu at *
                    clear hXl
                    go_wp2_with fail
                    have hwr : IntKind.i64.wrap ((q : Int) + 1) = (q : Int) + 1 := by rw [IntKind.wrap_i64]; omega
                    go_region_held3 (fun u => Chg [] w5 u)
                      (first | exact Chg.refl _ _ | exact Chg.drew _ _ | exact hV7 | exact hV8 | exact Chg.then (by assumption) (Chg.alloc [] _ _) | assumption)
                      (first
                      | (refine step_append_row0 rfl (.tmp 100) (.tmp 103) 41 rfl 3 8 eltN w5.heap.size _ rfl (Chg.size (by assumption)) (some ⟨b, o, none⟩) q tc (ivs (X.take q)) rfl (rd1.keep (by assumption)) Hl1.out (ivs_one _) (by unfold maxLen; omega) (by omega) ?_; intro a7 c7 w7 hr7 hg7; have hV7 : Chg [] w5 w7 := Chg.then (by assumption) hg7)
                      | (refine step_append_row rfl (.tmp 104) (.tmp 108) 41 rfl 3 8 eltN w5.heap.size a7 q c7 _ rfl hr7 hV7.size uu (X.length - (q + 1)) (tc - (q + 1)) (ivs (X.drop (q + 1))) rfl (rd2.keep hV7) Hl2.out (ivs_one _) (by unfold maxLen; omega) (by omega) ?_; intro a8 c8 w8 hr8 hg8 hf8; have hV8 : Chg [] w5 w8 := hV7.own hg8 hr7))
                    all_goals
                      clear hwr
                      have e8 : ivs (X.take q) ++ ivs (X.drop (q + 1)) = ivs (X.take q ++ X.drop (q + 1)) := by simp [ivs]
                      rw [e8] at hr8
                      have h8 := (h5.less (R' := fp a c) (fun k hk => by simp [hk])).add hV8 (fp a8 c8) (fun k hk => hr8.lt k hk)
                      have hr9 := hr5.chg hV8 (by simp)
                      have hap8 : ∀ k, k ∈ fp a c → k ∉ fp a8 c8 := fun k hk hm => by
                        have := (hr5.lt k hk).2
                        have := (hr8.lt k hm).1
                        omega
                      have hrl := hr8.mono hB5
                      clear hr8 hg8 hf8 h5 hr5 hst hsl
                      go_wp2_with fail
                      refine ⟨⟨i + 1, X.take q ++ X.drop (q + 1), a8, c8, I2, by rw [HX.out], by first | rfl | go_num, by rw [HX.out]; omega, HG3.out, hr9, by rw [HX.out]; exact hrl, hap8, h8⟩, ?_⟩
                      simp [lenV]; omega
                · have hX0 : X = [] := List.eq_nil_of_length_eq_zero (by omega)
                  subst hX0
                  have hD := hG.done
                  have HDn := mkHid hD
                  clear hG hD ht hap
                  have hl0 : (([] : List Nat).length : Int) = 0 := rfl
                  go_wp2_with fail
                  refine (solo_list hS).mono ?_
                  rintro e w5 ⟨a5, c5, rfl, hr5, h5, g5⟩
                  rw [HDn.out, ← HU.out] at hr5 ⊢
                  have hr6 := hr.chg g5 (by simp)
                  go_wp2_with fail
                  refine (same_lines a5 c5 a c U w5 hr5.reads hr6.reads hsm).mono ?_
                  rintro e w6 ⟨rfl, g6⟩
                  have cF := solo_free (h5.keep g6)
                  rw [HDn.out, ← HU.out] at cF
                  have he1 : ((U.length : Int) == (U.length : Int)) = true := by simp
                  go_wp2_with fail
                  refine cF.mono ?_
                  rintro e w7 ⟨rfl, rfl⟩
                  go_wp2_with fail
                  go_ret
                  exact ⟨rfl, (h5.keep g6).c⟩
end Go.Proofs.Ytoddiocjloehlaa
