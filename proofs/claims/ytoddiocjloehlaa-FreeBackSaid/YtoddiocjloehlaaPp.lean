/- FreePlays: rows of calls. -/
import Derived.Test.YtoddiocjloehlaaPo
import Derived.Deep.CutBlock
namespace Go.Proofs.Ytoddiocjloehlaa
open Go.RowKit
set_option linter.unusedVariables false
set_option linter.unusedSimpArgs false
attribute [local go_sem ↓] Go.wp_at_zero Go.wp_at_succ

/-- Something of R (new since w0) was written. -/
theorem Duo.wrote {w0 w w' : World} {R S : List Nat} {sb : Nat} {Is : List Bool} {rb : Nat} {Ir : List Bool} (h : Duo w0 w R sb Is rb Ir) (g : Chg S w w') (hS : ∀ k, k ∈ S → k ∈ R ∧ w0.heap.size ≤ k) : Duo w0 w' R sb Is rb Ir := by
  obtain ⟨F, G, hF, hG, hx, hr⟩ := h.x
  exact ⟨⟨F, G, hF.chg g (fun k hk hm => (hr k (hS k hm).1).1 hk), hG.chg g (fun k hk hm => (hr k (hS k hm).1).2.1 hk), hx, fun k hk => ⟨(hr k hk).1, (hr k hk).2.1, Nat.lt_of_lt_of_le (hr k hk).2.2 g.size⟩⟩, h.c.trans g (by simp) (fun k hk hlt => by have := (hS k hk).2; omega)⟩
theorem same_lines (a : Option Addr) (c : Nat) (b : Option Addr) (d : Nat) (U : List Nat) (w : World) (g : Reads w a (ivs U)) (h : Reads w b (ivs U)) (hn : U.length ≤ 1024) :
    Calls Try.prog 20 #[.slice a U.length c, .slice b U.length d] w fun e w' => e = .returned (.bool true) ∧ Chg [] w w' := by
  rw [ivs_zvs] at g h
  have := same_any a U.length c b U.length d _ _ w g (by simp) h (by simp) (by omega)
  rwa [decide_eq_true rfl] at this
set_option maxRecDepth 20000 in
set_option maxHeartbeats 2000000 in
theorem plays_core (z : Int) (a0 : Option Addr) (n0 c0 : Nat) (acts : Nat → ActD) (w : World) (gn : n0 ≤ c0) (gr : c0 * 16 ≤ 140737488351232) (ga : ActsAt w a0 n0 acts) :
    Calls Try.prog 3 #[.int .i64 z, .slice a0 n0 c0] w fun e w' => e = .returned (.bool true) ∧ Chg [] w w' := by
  by_cases hz : z < 0 ∨ 1024 < z
  · have cA := awake_any w
    go_enter Try.func3, Try.ntmps3
    go_wp2_with (first | (go_at_call 7; refine (new_no z w hz).mono ?_; rintro e w' ⟨rfl, rfl⟩) | (go_at_call 8; refine (rnew_no z w hz).mono ?_; rintro e w' ⟨rfl, rfl⟩) | (go_at_call 9; refine cA.mono ?_; rintro e w1 ⟨rfl, hg⟩))
    go_ret
    exact ⟨rfl, hg⟩
  · obtain ⟨n, rfl⟩ : ∃ n : Nat, z = (n : Int) := ⟨z.toNat, by omega⟩
    have hn : n ≤ 1024 := by omega
    clear hz
    go_enter Try.func3, Try.ntmps3
    go_wp2_with fail
    refine (new_yes n hn w).mono ?_
    rintro e w1 ⟨sb, F, rfl, hS, g1⟩
    go_wp2_with fail
    refine (rnew_yes n hn w1).mono ?_
    rintro e w2 ⟨rb, G, rfl, hG, g2⟩
    go_wp2_with fail
    refine (awake_any w2).mono ?_
    rintro e w3 ⟨rfl, g3⟩
    have hD0 : Duo w w3 [] sb (List.replicate n true) rb (List.replicate n true) := by
      obtain ⟨⟨ia, ci, x1, x2, x3, x4, x5, x6⟩, x7⟩ := hG
      have hG' : RfAt w2 w.heap.size rb G (List.replicate n true) := ⟨⟨ia, ci, x1, x2, Nat.le_trans g1.size x3, x4.mono g1.size, x5, x6⟩, x7⟩
      refine ⟨⟨F, G, (hS.keep g2).keep g3, hG'.keep g3, fun k hk hm => ?_, by simp⟩, (g1.then g2).then g3⟩
      have h1 := (hS.lt k hk).2
      have hG2 : RfAt w2 w1.heap.size rb G (List.replicate n true) := ⟨⟨ia, ci, x1, x2, x3, x4, x5, x6⟩, x7⟩
      have h2 := (hG2.lt k hm).1
      omega
    generalize List.replicate n true = I0 at *
    clear hS hG g1 g2 g3
    go_wp2_with fail
    go_loopw [42, 5, 9] (fun iv sv lv wr => ∃ (k sb : Nat) (last : Int) (Is : List Bool), iv = .int .i64 k ∧ sv = .pointer (some ⟨sb, 0, none⟩) ∧ lv = .int .i64 last ∧ k ≤ n0 ∧ k ≤ 400 ∧ Duo w wr [] sb Is rb Is) (fun iv _ _ _ => n0 - (intOf iv).toNat)
    case atStart => exact ⟨0, sb, 0, I0, rfl, rfl, rfl, Nat.zero_le _, by omega, hD0⟩
    case round =>
      clear hD0
      obtain ⟨k, sb, last, Is, rfl, rfl, rfl, hk, hk2, hD⟩ := hrel
      by_cases hcont : k < n0 ∧ k < 400
      · obtain ⟨hlt, h400⟩ := hcont
        obtain ⟨b, o, rfl, hacts⟩ := ga (by omega)
        have hA := (hacts k hlt).keep hD.c
        clear hacts
        generalize acts k = A at *
        obtain ⟨a0c, a1c, aw0, aw1⟩ := hA
        have hne3 : ((k : Int) == 400) = false := beq_eq_false_iff_ne.2 (by omega)
        go_upto_block 2 with fail
        generalize hab : wr.heap.size = ab
        generalize hW : wr.alloc _ = W
        have x0 : W.cell? ⟨ab, 0, none⟩ = some (.int .i64 A.wh) := by subst hW hab; simp
        have x1 : W.cell? ⟨ab, 1, none⟩ = some (.int .i64 A.num) := by subst hW hab; simp
        have hgW : Chg [] wr W := by subst hW; exact Chg.alloc [] _ _
        have hzW : W.heap.size = ab + 1 := by subst hW hab; simp
        have hDW := hD.add hgW [ab] (fun k hk => by simp at hk; subst hk; exact ⟨by rw [hab]; exact Nat.le_refl _, by omega⟩)
        simp only [List.append_nil] at hDW
        clear hW a0c a1c hD hgW hab hzW
        go_cut [5, 9] (fun v u wx => ∃ (sb' : Nat) (last' : Int) (Is' : List Bool), v = .pointer (some ⟨sb', 0, none⟩) ∧ u = .int .i64 last' ∧ Duo w wx [] sb' Is' rb Is')
        case first =>
          generalize A.wh = q at *
          by_cases q0 : q = 0
          · as_aux_lemma =>
              subst q0
              have cT := duo_take hDW
              have cR : ∀ (Ij : List Bool) (w4 : World), Duo w w4 [ab] sb Ij rb Is → _ := fun Ij w4 h4 => duo_rtake h4
              have CR := mkHid cR
              have hne : ((takeN Is).1 != (takeN Is).1) = false := by simp
              have hne2 : ((takeN Is).2.1 != (takeN Is).2.1) = false := by simp
              generalize takeN Is = t at *
              obtain ⟨tx, te, tI⟩ := t
              simp only at cT hne hne2
              clear cR
              go_wp2_with fail
              refine cT.mono ?_
              rintro e w4 ⟨rfl, h4, o4⟩
              go_wp2_with fail
              refine (CR.out tI w4 h4).mono ?_
              rintro e w5 ⟨rfl, h5, o5⟩
              go_wp2_with fail
              go_meet
              exact ⟨sb, tx, tI, rfl, rfl, h5.less (by simp)⟩
          · by_cases q1 : q = 1
            · as_aux_lemma =>
                subst q1
                have cT := fun (w3 : World) (h3 : Duo w w3 [ab] sb Is rb Is) => duo_claim h3 A.num
                have cR := fun (w4 : World) (h4 : Duo w w4 [ab] sb (claimN Is A.num).2 rb Is) => duo_rclaim h4 A.num
                have hne : ((claimN Is A.num).1 != (claimN Is A.num).1) = false := by simp
                generalize claimN Is A.num = t at *
                obtain ⟨te, tI⟩ := t
                have CT := mkHid cT
                have CR := mkHid cR
                simp only at hne
                clear cR cT
                go_wp2_with fail
                go_region_held3 (fun u => u.cell? ⟨ab, 1, none⟩ = some (.int .i64 A.num))
                  (first | exact x1 | exact o4.cellv (by assumption) (by simp) | exact o5.cellv (by assumption) (by simp) | assumption)
                  (first | (go_at_call 12; refine (CT.out _ (by first | exact hDW | exact hDW.keep (Chg.drew _ _))).mono ?_; rintro e w4 ⟨rfl, h4, o4⟩) | (go_at_call 13; refine (CR.out _ h4).mono ?_; rintro e w5 ⟨rfl, h5, o5⟩))
                go_wp2_with fail
                go_meet
                exact ⟨sb, last, tI, rfl, rfl, h5.less (by simp)⟩
            · by_cases q2 : q = 2
              · as_aux_lemma =>
                  subst q2
                  have cT := fun (w3 : World) (h3 : Duo w w3 [ab] sb Is rb Is) => duo_give h3 A.num
                  have cR := fun (w4 : World) (h4 : Duo w w4 [ab] sb (giveN Is A.num).2 rb Is) => duo_rgive h4 A.num
                  have hne : ((giveN Is A.num).1 != (giveN Is A.num).1) = false := by simp
                  generalize giveN Is A.num = t at *
                  obtain ⟨te, tI⟩ := t
                  have CT := mkHid cT
                  have CR := mkHid cR
                  simp only at hne
                  clear cR cT
                  go_wp2_with fail
                  go_region_held3 (fun u => u.cell? ⟨ab, 1, none⟩ = some (.int .i64 A.num))
                    (first | exact x1 | exact o4.cellv (by assumption) (by simp) | exact o5.cellv (by assumption) (by simp) | assumption)
                    (first | (go_at_call 14; refine (CT.out _ (by first | exact hDW | exact hDW.keep (Chg.drew _ _))).mono ?_; rintro e w4 ⟨rfl, h4, o4⟩) | (go_at_call 15; refine (CR.out _ h4).mono ?_; rintro e w5 ⟨rfl, h5, o5⟩))
                  go_wp2_with fail
                  go_meet
                  exact ⟨sb, last, tI, rfl, rfl, h5.less (by simp)⟩
              · by_cases q3 : q = 3
                · as_aux_lemma =>
                    subst q3
                    have cC := duo_copy hDW
                    go_wp2_with fail
                    refine cC.mono ?_
                    rintro e w4 ⟨sb', Q, rfl, hO, hN⟩
                    have HN := mkHid hN
                    clear hN cC
                    go_wp2_with fail
                    refine (solo_take hO).mono ?_
                    rintro e w5 ⟨rfl, h5, o5⟩
                    generalize takeN Is = t at *
                    obtain ⟨tx, te, tI⟩ := t
                    simp only at h5
                    go_wp2_with fail
                    refine (solo_give h5 0).mono ?_
                    rintro e w6 ⟨rfl, h6, o6⟩
                    generalize giveN tI 0 = t at *
                    obtain ⟨te2, tI2⟩ := t
                    simp only at h6
                    go_wp2_with fail
                    refine (solo_claim h6 _).mono ?_
                    rintro e w7 ⟨rfl, h7, o7⟩
                    have hF := HN.out w7 ((o5.trans o6).trans o7) h7.c
                    clear o5 o6 o7 h5 h6 h7 hO
                    go_wp2_with fail
                    go_meet
                    exact ⟨sb', last, Is, rfl, rfl, hF.less (by simp)⟩
                · by_cases q4 : q = 4
                  · as_aux_lemma =>
                      subst q4
                      have cT := duo_give hDW last
                      have cR := fun (w4 : World) (h4 : Duo w w4 [ab] sb (giveN Is last).2 rb Is) => duo_rgive h4 last
                      have hne : ((giveN Is last).1 != (giveN Is last).1) = false := by simp
                      generalize giveN Is last = t at *
                      obtain ⟨te, tI⟩ := t
                      have CR := mkHid cR
                      simp only at hne cT
                      clear cR
                      go_wp2_with fail
                      refine cT.mono ?_
                      rintro e w4 ⟨rfl, h4, o4⟩
                      go_wp2_with fail
                      refine (CR.out w4 h4).mono ?_
                      rintro e w5 ⟨rfl, h5, o5⟩
                      go_wp2_with fail
                      go_meet
                      exact ⟨sb, last, tI, rfl, rfl, h5.less (by simp)⟩
                  · as_aux_lemma =>
                      have b0 : (q == 0) = false := beq_eq_false_iff_ne.2 q0
                      have b1 : (q == 1) = false := beq_eq_false_iff_ne.2 q1
                      have b2 : (q == 2) = false := beq_eq_false_iff_ne.2 q2
                      have b3 : (q == 3) = false := beq_eq_false_iff_ne.2 q3
                      have b4 : (q == 4) = false := beq_eq_false_iff_ne.2 q4
                      go_wp2_with fail
                      go_meet
                      exact ⟨sb, last, Is, rfl, rfl, hDW.less (by simp)⟩
        case rest =>
          clear hDW x0 x1
          obtain ⟨sb', last', Is', rfl, rfl, h5⟩ := hcut
          have hsm := (duo_small h5).2.1
          have hne : (((freeL Is').length : Int) != ((freeL Is').length : Int)) = false := by simp
          have hne2 : ((freeL Is').length != (freeL Is').length) = false := by simp
          have cL := duo_rlist h5
          have cF := duo_free h5
          generalize freeL Is' = U at *
          go_wp2_with (first | (go_at_call 17; refine cF.mono ?_; rintro e w6 ⟨rfl, rfl⟩) | (go_at_call 18; refine cL.mono ?_; rintro e w6 ⟨a, c, rfl, hr, h6, g6⟩))
          exact ⟨⟨k + 1, sb', last', Is', by first | rfl | go_num, rfl, rfl, by omega, by omega, h6.less (by simp)⟩, by simp [intOf]; omega⟩
      · have hfin : (k = n0) ∨ (k < n0 ∧ k = 400) := by omega
        clear hcont
        have hB := hD.c.size
        have hsm := (duo_small hD).2.1
        rcases hfin with hk9 | ⟨hk8, hk9⟩
        all_goals
          as_aux_lemma =>
            first
            | (have hd : decide (k < n0) = false := decide_eq_false (by omega)
               have hd2 : decide ((k : Int) < (n0 : Int)) = false := decide_eq_false (by omega)
               subst hk9
               go_wp2_with fail)
            | (have hd : decide (k < n0) = true := decide_eq_true (by omega)
               have hd2 : decide ((k : Int) < (n0 : Int)) = true := decide_eq_true (by omega)
               have hbr : ((k : Int) == 400) = true := beq_iff_eq.2 (by omega)
               have hk7 : k < n0 := hk8
               clear hk9
               obtain ⟨b, o, rfl, hacts⟩ := ga (by omega)
               have hA := (hacts k hk7).keep hD.c
               clear hacts
               generalize acts k = A at *
               obtain ⟨a0c, a1c, aw0, aw1⟩ := hA
               go_wp2_with fail)
            refine (duo_list (by first | exact hD | exact hD.keep (Chg.alloc [] _ _))).mono ?_
            rintro e w1 ⟨a, c, rfl, hr, h1, g1⟩
            go_wp2_with fail
            refine (duo_rlist h1).mono ?_
            rintro e w2 ⟨a2, c2, rfl, hr2, h2, g2⟩
            generalize freeL Is = U at *
            have hra := hr.chg g2 (by simp)
            go_wp2_with fail
            refine (same_lines a c a2 c2 U w2 hra.reads hr2.reads hsm).mono ?_
            rintro e w3 ⟨rfl, g3⟩
            have h3 : Duo w w3 (fp a c) sb Is rb Is := (h2.keep g3).less (fun k hk => by simp [hk])
            have hr3 := (hra.mono (B' := w.heap.size) (by first | exact hB | (simp; omega))).chg g3 (by simp)
            clear hr hr2 h1 h2 hra g1 g2 g3
            go_wp2_with fail
            go_loopw [136, 18] (fun iv _ wx => ∃ (j : Nat) (xs : List Value), iv = .int .i64 j ∧ j ≤ U.length ∧ Room wx w.heap.size a U.length c xs ∧ Duo w wx (fp a c) sb Is rb Is) (fun iv _ _ => U.length - (intOf iv).toNat)
            case atStart => exact ⟨0, _, rfl, Nat.zero_le _, hr3, h3⟩
            case round =>
              clear hr3 h3
              obtain ⟨j, xs, rfl, hj, hr, hD2⟩ := hrel
              by_cases hlt : j < U.length
              · have hd : decide (j < U.length) = true := decide_eq_true hlt
                have hd2 : decide ((j : Int) < (U.length : Int)) = true := decide_eq_true (by omega)
                have hfp := hr.lt
                obtain ⟨b, o, rfl, hb, hs, -⟩ := hr.at_ (by have := hr.le; omega)
                obtain ⟨cs1, cs2⟩ := hs j (by have := hr.le; omega)
                obtain ⟨u, cs1⟩ := Option.isSome_iff_exists.1 cs1
                have hset := hr.set j hlt (.int .i64 (-1))
                have hbm : b ∈ fp (some ⟨b, o, none⟩) c := by rw [fp_some _ _ _ (by have := hr.le; omega)]; simp
                have hw := hD2.wrote (Chg.setCell _ ⟨b, o + j, none⟩ (.int .i64 (-1))) (fun k hk => by simp at hk; subst hk; exact ⟨hbm, hb⟩)
                clear hs hfp
                go_wp2_with fail
                exact ⟨⟨j + 1, _, by first | rfl | go_num, by omega, hset, hw⟩, by simp [intOf]; omega⟩
              · have hd : decide (j < U.length) = false := decide_eq_false hlt
                have hd2 : decide ((j : Int) < (U.length : Int)) = false := decide_eq_false (by omega)
                clear hr
                go_wp2_with fail
                refine (duo_list hD2).mono ?_
                rintro e w4 ⟨a4, c4, rfl, hr4, h4, g4⟩
                go_wp2_with fail
                refine (duo_rlist h4).mono ?_
                rintro e w5 ⟨a5, c5, rfl, hr5, h5, g5⟩
                have hra4 := hr4.chg g5 (by simp)
                have hsm5 := (duo_small h5).2.1
                generalize freeL Is = V at *
                go_wp2_with fail
                refine (same_lines a4 c4 a5 c5 V w5 hra4.reads hr5.reads hsm5).mono ?_
                rintro e w6 ⟨rfl, g6⟩
                go_wp2_with fail
                go_ret
                exact ⟨rfl, (h5.keep g6).c⟩
end Go.Proofs.Ytoddiocjloehlaa
