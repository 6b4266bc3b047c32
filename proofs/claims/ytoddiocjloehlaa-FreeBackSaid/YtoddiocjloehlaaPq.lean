/- FreeLeast. -/
import Derived.Test.YtoddiocjloehlaaPp
namespace Go.Proofs.Ytoddiocjloehlaa
open Go.RowKit
set_option linter.unusedVariables false
set_option linter.unusedSimpArgs false
attribute [local go_sem ↓] Go.wp_at_zero Go.wp_at_succ

set_option maxRecDepth 20000 in
set_option maxHeartbeats 2000000 in
theorem least_core (z : Int) (gz : (Lit.int .i64 z).wf = true) (a0 : Option Addr) (n0 c0 : Nat) (acts : Nat → ActD) (w : World) (gn : n0 ≤ c0) (gr : c0 * 16 ≤ 140737488351232) (ga : ActsAt w a0 n0 acts) :
    Calls Try.prog 4 #[.int .i64 z, .slice a0 n0 c0] w fun e w' => e = .returned (.bool true) ∧ Chg [] w w' := by
  have cW := within_any z gz 200 (by decide) (by decide) w
  rw [show ((200 : Nat) : Int) = 200 from rfl] at cW
  go_enter Try.func4, Try.ntmps4
  go_wp2_with fail
  refine cW.mono ?_
  rintro e w0 ⟨n, hn, rfl, rfl⟩
  clear cW
  go_wp2_with fail
  refine (new_solo n (by omega) w w (Chg.refl _ _) [] (by simp)).mono ?_
  rintro e w1 ⟨sb, rfl, h1, -⟩
  go_wp2_with fail
  refine (awake_any w1).mono ?_
  rintro e w2 ⟨rfl, g2⟩
  have h2 := h1.keep g2
  generalize List.replicate n true = I0 at *
  clear h1 g2 gz
  go_wp2_with fail
  go_loopw [28] (fun iv wr => ∃ (k : Nat) (Is : List Bool), iv = .int .i64 k ∧ k ≤ n0 ∧ k ≤ 200 ∧ Solo w wr [] sb Is) (fun iv _ => n0 - (intOf iv).toNat)
  case atStart => exact ⟨0, I0, rfl, Nat.zero_le _, by omega, h2⟩
  case round =>
    clear h2
    obtain ⟨k, Is, rfl, hk, hk2, hD⟩ := hrel
    by_cases hcont : k < n0 ∧ k < 200
    · obtain ⟨hlt, h400⟩ := hcont
      obtain ⟨b, o, rfl, hacts⟩ := ga (by omega)
      have hA := (hacts k hlt).keep hD.c
      clear hacts
      generalize acts k = A at *
      obtain ⟨a0c, a1c, aw0, aw1⟩ := hA
      have hne3 : ((k : Int) == 200) = false := beq_eq_false_iff_ne.2 (by omega)
      go_upto_block 2 with fail
      generalize hab : wr.heap.size = ab
      generalize hW : wr.alloc _ = W
      have x0 : W.cell? ⟨ab, 0, none⟩ = some (.int .i64 A.wh) := by subst hW hab; simp
      have x1 : W.cell? ⟨ab, 1, none⟩ = some (.int .i64 A.num) := by subst hW hab; simp
      have hgW : Chg [] wr W := by subst hW; exact Chg.alloc [] _ _
      have hDW := hD.keep hgW
      clear hW a0c a1c hD hgW hab
      generalize A.wh = q at *
      by_cases q0 : q = 0
      · as_aux_lemma =>
          subst q0
          go_wp2_with fail
          refine (solo_take hDW).mono ?_
          rintro e w4 ⟨rfl, h4, -⟩
          go_wp2_with fail
          exact ⟨⟨k + 1, _, by first | rfl | go_num, by omega, by omega, h4⟩, by simp [intOf]; omega⟩
      · by_cases q1 : q = 1
        · as_aux_lemma =>
            subst q1
            go_wp2_with fail
            refine (solo_claim hDW _).mono ?_
            rintro e w4 ⟨rfl, h4, -⟩
            go_wp2_with fail
            exact ⟨⟨k + 1, _, by first | rfl | go_num, by omega, by omega, h4⟩, by simp [intOf]; omega⟩
        · by_cases q2 : q = 2
          · as_aux_lemma =>
              subst q2
              go_wp2_with fail
              refine (solo_give hDW _).mono ?_
              rintro e w4 ⟨rfl, h4, -⟩
              go_wp2_with fail
              exact ⟨⟨k + 1, _, by first | rfl | go_num, by omega, by omega, h4⟩, by simp [intOf]; omega⟩
          · as_aux_lemma =>
              have b0 : (q == 0) = false := beq_eq_false_iff_ne.2 q0
              have b1 : (q == 1) = false := beq_eq_false_iff_ne.2 q1
              have b2 : (q == 2) = false := beq_eq_false_iff_ne.2 q2
              go_wp2_with fail
              exact ⟨⟨k + 1, _, by first | rfl | go_num, by omega, by omega, hDW⟩, by simp [intOf]; omega⟩
    · have hfin : (k = n0) ∨ (k < n0 ∧ k = 200) := by omega
      clear hcont
      have hB := hD.c.size
      have hsm := Nat.le_trans (freeL_le Is) (solo_small hD)
      rcases hfin with hk9 | ⟨hk8, hk9⟩
      all_goals
        as_aux_lemma =>
          first
          | (have hd : decide (k < n0) = false := decide_eq_false (by omega)
             have hd2 : decide ((k : Int) < (n0 : Int)) = false := decide_eq_false (by omega)
             subst hk9
             go_wp2_with fail)
          | (have hd : decide (k < n0) = true := decide_eq_true (by omega)
             have hd2 : decide ((k : Int) < (n0 : Int)) = true := decide_eq_true (by omega)
             have hbr : ((k : Int) == 200) = true := beq_iff_eq.2 (by omega)
             have hk7 : k < n0 := hk8
             clear hk9
             obtain ⟨b, o, rfl, hacts⟩ := ga (by omega)
             have hA := (hacts k hk7).keep hD.c
             clear hacts
             generalize acts k = A at *
             obtain ⟨a0c, a1c, aw0, aw1⟩ := hA
             go_wp2_with fail)
          refine (solo_list (by first | exact hD | exact hD.keep (Chg.alloc [] _ _))).mono ?_
          rintro e w1 ⟨a, c, rfl, hr, h1, g1⟩
          have hpw := freeL_lt Is
          obtain ⟨U, hU⟩ : ∃ U, U = freeL Is := ⟨_, rfl⟩
          rw [← hU] at hr hsm hpw
          have cF := solo_free h1
          rw [← hU] at cF ⊢
          have HU := mkHid hU
          have HP := mkHid hpw
          clear hU hpw
          have hr1 : Room w1 w.heap.size a U.length c (ivs U) := hr.mono (by first | exact hB | (simp; omega))
          have h1' : Solo w w1 (fp a c) sb Is := h1.less (fun k hk => by simp [hk])
          clear hr h1 g1
          go_wp2_with fail
          refine (sorted_any a U.length c U w1 hr1.reads rfl (by omega) HP.out).mono ?_
          rintro e w2 ⟨rfl, g2⟩
          have hne : ((U.length : Int) != (U.length : Int)) = false := by simp
          have hne2 : (U.length != U.length) = false := by simp
          have h2 := h1'.keep g2
          have hr2 := hr1.chg g2 (by simp)
          have cF2 := solo_free h2
          rw [← HU.out] at cF2
          clear h1' hr1 g2 cF
          go_wp2_with fail
          refine cF2.mono ?_
          rintro e w3 ⟨rfl, rfl⟩
          clear cF2
          go_wp2_with fail
          go_loopw [68] (fun iv wx => ∃ (j : Nat) (Ij : List Bool), iv = .int .i64 j ∧ j ≤ U.length ∧ freeL Ij = U.drop j ∧ Room wx w.heap.size a U.length c (ivs U) ∧ Solo w wx (fp a c) sb Ij) (fun iv _ => U.length - (intOf iv).toNat)
          case atStart => exact ⟨0, Is, rfl, Nat.zero_le _, by rw [← HU.out]; rfl, hr2, h2⟩
          case round =>
            clear hr2 h2
            obtain ⟨j, Ij, rfl, hj, hf, hr, hS⟩ := hrel
            by_cases hlt : j < U.length
            · have hd : decide (j < U.length) = true := decide_eq_true hlt
              have hd2 : decide ((j : Int) < (U.length : Int)) = true := decide_eq_true (by omega)
              obtain ⟨b, o, rfl, hcell⟩ := hr.reads (by rw [ivs_len]; omega)
              have cj := hcell j _ (ivs_get hlt)
              rw [List.drop_eq_getElem_cons hlt] at hf
              have ht : takeN Ij = ((U[j] : Int), 0, Ij.set U[j] false) := by unfold takeN; rw [hf]
              have hf2 := freeL_take hf
              have cT := solo_take hS
              rw [ht] at cT
              have hne3 : ((U[j] : Int) != (U[j] : Int)) = false := by simp
              have HF := mkHid hf2
              generalize Ij.set U[j] false = I2 at *
              generalize hx : U[j] = x at *
              have hsl : ∀ u : World, (Instr.slice 41 (.slice (some ⟨b, o, none⟩) U.length c) (some (.int .i64 ((j : Int) + 1))) none none).run Try.prog u = .ok (.slice (cut (some ⟨b, o, none⟩) c (j + 1)) (U.length - (j + 1)) (c - (j + 1))) u := fun u => by
                have := run_from_k (P := Try.prog) (t := 41) (e := 3) (some ⟨b, o, none⟩) U.length c (j + 1) Try.underlying41 (by kernel_rfl) (by omega) u
                rwa [show ((j + 1 : Nat) : Int) = (j : Int) + 1 by omega] at this
              clear hcell hf ht hf2 hx
              go_wp2_with fail
              refine cT.mono ?_
              rintro e w5 ⟨rfl, h5, o5⟩
              have hr5 := o5.room hr (fun k hk => hk)
              have hcl := hr.le
              have hcut : Reads w5 (cut (some ⟨b, o, none⟩) c (j + 1)) (ivs (U.drop (j + 1))) := by
                have := hr5.reads.cut c (j + 1) (by rw [ivs_len]; omega)
                rwa [show (ivs U).drop (j + 1) = ivs (U.drop (j + 1)) by simp [ivs]] at this
              have hdl : (U.drop (j + 1)).length = U.length - (j + 1) := by simp
              have cL : ∀ w6, Chg [] w5 w6 → Calls Try.prog 19 #[.pointer (some ⟨sb, 0, none⟩)] w6 fun e w' => ∃ a c', e = .returned (.slice a (U.length - (j + 1)) c') ∧ Reads w' a (ivs (U.drop (j + 1))) ∧ Chg [] w6 w' := fun w6 g6 => by
                refine (solo_list (h5.keep g6)).mono ?_
                rintro e w' ⟨a, c', he, hr', -, hg⟩
                rw [HF.out, hdl] at he
                rw [HF.out] at hr'
                exact ⟨a, c', he, hr'.reads, hg⟩
              have cS : ∀ (w7 : World) (a' : Option Addr) (c' : Nat), Chg [] w5 w7 → Reads w7 a' (ivs (U.drop (j + 1))) → Calls Try.prog 20 #[.slice a' (U.length - (j + 1)) c', .slice (cut (some ⟨b, o, none⟩) c (j + 1)) (U.length - (j + 1)) (c - (j + 1))] w7 fun e w' => e = .returned (.bool true) ∧ Chg [] w7 w' := fun w7 a' c' g7 hr7 => by
                have := same_lines a' c' (cut (some ⟨b, o, none⟩) c (j + 1)) (c - (j + 1)) (U.drop (j + 1)) w7 hr7 (hcut.keep g7) (by omega)
                rwa [hdl] at this
              have CL := mkHid cL
              have CS := mkHid cS
              have HR := mkHid hr5
              have HD := mkHid hdl
              clear cL cS hcut hdl hr hr5 cT
              go_wp2_with fail
              have hwr : IntKind.i64.wrap ((j : Int) + 1) = (j : Int) + 1 := by rw [IntKind.wrap_i64]; omega
              go_region_held3 (fun u => Chg [] w5 u)
                (first | exact Chg.refl _ _ | exact Chg.drew _ _ | exact Chg.then (by assumption) g6 | exact Chg.then (by assumption) g7 | assumption)
                (first | (go_at_call 19; refine (CL.out _ (by first | exact Chg.refl _ _ | exact Chg.drew _ _ | assumption)).mono ?_; rintro e w6 ⟨a6, c6, rfl, hr6, g6⟩) | (go_at_call 20; refine (CS.out _ a6 c6 (by assumption) hr6).mono ?_; rintro e w7 ⟨rfl, g7⟩))
              clear hwr
              have hC : Chg [] w5 w7 := by assumption
              have hr9 := HR.out.chg hC (by simp)
              have h9 := h5.keep hC
              go_wp2_with fail
              exact ⟨⟨j + 1, I2, by first | rfl | go_num, by omega, HF.out, hr9, h9⟩, by simp [intOf]; omega⟩
            · have hd : decide (j < U.length) = false := decide_eq_false hlt
              have hd2 : decide ((j : Int) < (U.length : Int)) = false := decide_eq_false (by omega)
              rw [List.drop_of_length_le (by omega)] at hf
              have ht : takeN Ij = (0, 8, Ij) := by unfold takeN; rw [hf]
              have cT := solo_take hS
              rw [ht] at cT
              have HF := mkHid hf
              clear hf ht hr
              go_wp2_with fail
              refine cT.mono ?_
              rintro e w5 ⟨rfl, h5, -⟩
              have cF := solo_free h5
              rw [HF.out, show (([] : List Nat).length : Int) = 0 from rfl] at cF
              go_wp2_with fail
              refine cF.mono ?_
              rintro e w6 ⟨rfl, rfl⟩
              go_wp2_with fail
              go_ret
              exact ⟨rfl, h5.c⟩
end Go.Proofs.Ytoddiocjloehlaa
