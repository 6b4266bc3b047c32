/- The parts in which bytes are pushed to and taken from a tape say nothing: for all bytes and all rows of parts. No conditions. -/
import Derived.Test.YtfjcaangcogkeaaD
import Derived.Test.YtfjcaangcogkeaaE
import Derived.Test.YtfjcaangcogkeaaF
import Derived.Test.YtfjcaangcogkeaaG
import Derived.Lib.SmallJoins
import Derived.Deep.QuietTactic
import Derived.BigQuiet
import Derived.Deep.DeepCutAuto
import Derived.ProofKit
import Derived.OpenShut
import Derived.SizedLaws
import Derived.Carry
namespace Go.Proofs.Ytfjcaangcogkeaa.tapeParts
open Go.ChangeShapes Go.WideShapes Go.ChangeAt Go.RowKit
set_option linter.unusedVariables false
set_option maxRecDepth 100000 in
set_option maxHeartbeats 1000000 in
theorem walk (a0 : Option Addr) (n0 c0 : Nat) (l0 : List UInt8) (a1 : Option Addr) (n1 c1 : Nat) (l1 : List UInt8) (a2 : Option Addr) (n2 c2 : Nat) (l2 : List UInt8) (w : World)
    (g0 : Reads w a0 (bts l0)) (gn0 : l0.length = n0) (gc0 : n0 ≤ c0) (gr0 : c0 * 1 ≤ 140737488351232) (g1 : Reads w a1 (bts l1)) (gn1 : l1.length = n1) (gc1 : n1 ≤ c1) (gr1 : c1 * 1 ≤ 140737488351232) (g2 : Reads w a2 (bts l2)) (gn2 : l2.length = n2) (gc2 : n2 ≤ c2) (gr2 : c2 * 1 ≤ 140737488351232) :
    Calls Try.prog 7 #[.slice a0 n0 c0, .slice a1 n1 c1, .slice a2 n2 c2] w fun e w' => e = .returned (.bool true) ∧ Below w.heap.size w w' := by
  by_cases hbig : 20000 < n0
  · go_enter Try.func7, Try.ntmps7
    go_wp2_with (first | (go_at_call 16; refine (new_tape _).mono ?_; rintro e w1 ⟨tb, rfl, ht1, hg1, hlt1⟩) | (go_at_call 13; refine (awake_any _).mono ?_; rintro e w2 ⟨rfl, hg2⟩))
    go_ret
    exact ⟨rfl, (hg1.then hg2).below (Nat.le_refl _) (by simp)⟩
  · go_enter Try.func7, Try.ntmps7
    go_wp2_with (first | (go_at_call 16; refine (new_tape _).mono ?_; rintro e w1 ⟨tb, rfl, ht1, hg1, hlt1⟩) | (go_at_call 13; refine (awake_any _).mono ?_; rintro e w2 ⟨rfl, hg2⟩))
    have ht2 := ht1.chg hg2 (by simp)
    have hg2' := hg1.then hg2
    go_loopw [8, 9, 10] (fun out at_ i wr => ∃ (k q o : Nat) (ao : Option Addr) (c : Nat) (oo : Option Addr) (oc : Nat), i = .int .i64 k ∧ at_ = .int .i64 q ∧ out = .slice oo o oc ∧ o ≤ q ∧ q ≤ n0 ∧ Hid (n1 < k → n2 < k → o = n0) ∧ k ≤ max n1 n2 + 1 ∧ TapeAt wr w.heap.size tb ao (q - o) c ((l0.take q).drop o) ∧ Room wr w.heap.size oo o oc (bts (l0.take o)) ∧ (∀ x, x ∈ fp oo oc → x ∉ tb :: fp ao c) ∧ Chg [] w wr) (fun _ _ i _ => max n1 n2 + 1 - (intOf i).toNat)
    case atStart => exact ⟨0, 0, 0, none, 0, none, 0, rfl, rfl, rfl, Nat.le_refl _, Nat.zero_le _, mkHid (by omega), by omega, by simpa using ht2, Room.nil _ _ _, by simp [fp_zero], hg2'⟩
    case round =>
      obtain ⟨k, q, o, ao, c, oo, oc, rfl, rfl, rfl, hoq, hqn, hfin, hkm, htr, hor, hdis, hgr⟩ := hrel
      by_cases hq : o < n0
      · have hqd : q < n0 ∨ (¬ q < n0 ∧ o < n0) := by omega
        rcases hqd with hqq | ⟨hqq, hoo⟩
        all_goals
          go_upto_if 45 with fail
          go_cut [11] (fun v wx => ∃ m : Nat, v = .int .i64 m ∧ m ≤ n0 - q ∧ Hid (n1 ≤ k → m = n0 - q) ∧ wr = wx)
          case first =>
            by_cases h1 : k < n1
            · obtain ⟨b1, o1, rfl, hc1⟩ := (g1.old hgr (by simp)) (by rw [bts_length]; omega)
              have hp := hc1 k _ (bts_get l1 k (by omega))
              have hx := l1[k].toNat_lt
              clear hc1
              generalize l1[k].toNat = x at hp hx
              go_wp2_with fail
              all_goals go_meet
              all_goals first | exact ⟨x, rfl, by omega, mkHid (by omega), rfl⟩ | exact ⟨n0 - q, by rw [Int.natCast_sub hqn], Nat.le_refl _, mkHid (fun _ => rfl), rfl⟩
            · go_wp2_with fail
              go_meet
              exact ⟨n0 - q, by rw [Int.natCast_sub hqn], Nat.le_refl _, mkHid (fun _ => rfl), rfl⟩
          case rest =>
            obtain ⟨m, rfl, hm, hmf, rfl⟩ := hcut
            have hsl := run_range_k (P := Try.prog) a0 n0 c0 q m ((q : Int) + (m : Int)) rfl Try.underlying22 (by kernel_rfl) (by omega)
            have hrd : Reads wr (cut a0 c0 q) (bts ((l0.drop q).take m)) := by
              rw [← bts_take, ← bts_drop]
              exact ((g0.old hgr (by simp)).cut c0 q (by rw [bts_length]; omega)).take m
            have hlm : ((l0.drop q).take m).length = m := by simp; omega
            have HLM := mkHid hlm
            have hH := hgr.size
            clear hlm
            have hpc : (l0.take q).drop o ++ (l0.drop q).take m = (l0.take (q + m)).drop o := by
              rw [List.take_add, List.drop_append_of_le_length (by simp; omega)]
            have HPC := mkHid hpc
            clear hpc
            have HL : Hid (((l0.take (q + m)).drop o).length = q + m - o) := mkHid (by simp; omega)
            go_upto_if 69 with (first | (go_at_call 17; refine (push_any w.heap.size tb ao (q - o) c _ _ m _ _ _ htr hH hrd HLM.out (by omega)).mono ?_; rintro e w3 ⟨rfl, ao3, c3, ht3, hg3, hf3⟩; have ht4 := ht3.renum HPC.out HL.out) | (go_at_call 26; refine (len_any _ _ _ _ _ _ _ ht4).mono ?_; rintro e w' ⟨rfl, rfl⟩))
            have hg30 : Chg [] w w3 := hgr.step hg3 htr.ge
            have hdis3 : ∀ x, x ∈ fp oo oc → x ∉ tb :: fp ao3 c3 := by
              intro x hx hx'
              have h1 := hdis x hx
              have h2 := (hor.lt x hx).2
              simp at hx' h1
              rcases hx' with rfl | hx'
              · exact h1.1 rfl
              · rcases hf3 with e | e
                · rw [e] at hx'; exact h1.2 hx'
                · rw [e] at hx'; simp at hx'; omega
            have hor3 : Room w3 w.heap.size oo o oc (bts (l0.take o)) := hor.chg hg3 (fun x hx => hdis x hx)
            clear hf3
            go_cut [12] (fun v wx => ∃ m2 : Nat, v = .int .i64 m2 ∧ m2 ≤ q + m - o ∧ Hid (n2 ≤ k → m2 = q + m - o) ∧ w3 = wx)
            case first =>
              by_cases h1 : k < n2
              · obtain ⟨b1, o1, rfl, hc1⟩ := (g2.old hg30 (by simp)) (by rw [bts_length]; omega)
                have hp := hc1 k _ (bts_get l2 k (by omega))
                have hx := l2[k].toNat_lt
                clear hc1
                generalize l2[k].toNat = x at hp hx
                go_wp2_with fail
                all_goals go_meet
                all_goals first | exact ⟨x, rfl, by omega, mkHid (by omega), rfl⟩ | exact ⟨q + m - o, rfl, Nat.le_refl _, mkHid (fun _ => rfl), rfl⟩
              · go_wp2_with fail
                go_meet
                exact ⟨q + m - o, rfl, Nat.le_refl _, mkHid (fun _ => rfl), rfl⟩
            case rest =>
              obtain ⟨m2, rfl, hm2, hmf2, rfl⟩ := hcut
              have hlk : (((l0.take (q + m)).drop o).take m2).length = m2 := by simp; omega
              have HLK := mkHid hlk
              clear hlk
              have hle1 : q + m - o ≤ 20000 := by omega
              go_wp2_with (first | (go_at_call 21; refine (take_yes w.heap.size tb ao3 (q + m - o) c3 _ m2 _ ht4 hm2 (by omega)).mono ?_; rintro e w5 ⟨ro, rc, ao5, c5, rfl, hr5, ht5, hg5, hf5⟩; have hg50 := hg30.step hg5 (by simpa using ht4.low); have hor5 := hor3.chg hg5 (fun x hx hx' => by have := hdis3 x hx; simp at hx'; subst hx'; simp at this)) | (at_builtin; refine wpList_append_k _ rfl (.tmp 91) (.tmp 92) 22 rfl 5 1 eltB w.heap.size oo o oc _ rfl hor5 hg50.size ro m2 rc _ rfl hr5.reads (by rw [bts_length]; exact HLK.out) (bts_one _) (by unfold maxLen; omega) (by omega) ?_; intro ao6 c6 w6 hr6 hc6 hf6))
              go_roundw
              case rel =>
                have hfin' := hfin.out
                have hmf' := hmf.out
                have hmf2' := hmf2.out
                have hsub : ∀ x, x ∈ fp oo oc → x ∉ tb :: fp ao5 c5 := by
                  intro x hx hx'
                  have h1 := hdis3 x hx
                  simp at hx' h1
                  rcases hx' with rfl | hx'
                  · exact h1.1 rfl
                  · exact h1.2 (hf5 x hx')
                refine ⟨k + 1, q + m, o + m2, ao5, c5, ao6, c6, by go_num, by go_num, rfl, by omega, by omega, mkHid (fun h1 h2 => ?_), by omega, ?_, ?_, ?_, hg50.own hc6 hor5⟩
                · have e1 := hmf' (by omega)
                  have e2 := hmf2' (by omega)
                  omega
                · have ht6 := ht5.chg hc6 (fun x hx hx' => hsub x hx' hx)
                  exact ht6.renum (by rw [List.drop_drop]) (by simp; omega)
                · have e : l0.take (o + m2) = l0.take o ++ ((l0.take (q + m)).drop o).take m2 := by
                    rw [List.take_add, List.drop_take, List.take_take, Nat.min_eq_left (by omega)]
                  rw [e, bts_append]
                  exact hr6
                · intro x hx
                  rcases hf6 with e | e
                  · rw [e] at hx; exact hsub x hx
                  · rw [e] at hx
                    simp at hx
                    subst hx
                    intro hx'
                    simp at hx'
                    have h1 := ht5.lt
                    rcases hx' with rfl | hx'
                    · omega
                    · have := (ht5.room.lt _ hx').2; omega
              case measure =>
                have hfin' := hfin.out
                simp [intOf]
                omega
      · have hoe : o = n0 := by omega
        subst hoe
        have hqe : q = o := by omega
        subst hqe
        have HT := mkHid (show l0.take q = l0 from List.take_of_length_le (by omega))
        go_wp2_with fail
        refine (equal_any _ _ _ l0 _ _ _ l0 _ (by have := hor.reads; rwa [HT.out] at this) gn0 (g0.old hgr (by simp)) gn0).mono ?_
        rintro e w6 ⟨he, rfl⟩
        simp only [decide_true] at he
        subst he
        go_wp2_with (first | (go_at_call 26; refine (len_any _ _ _ _ _ _ _ htr).mono ?_; rintro e w' ⟨rfl, rfl⟩))
        go_ret
        exact ⟨rfl, hgr.below (Nat.le_refl _) (by simp)⟩

theorem own : ownKnob Try.prog.godebug = none := by kernel_rfl
theorem laidOut : laidOutB Try.prog = true := by kernel_rfl
set_option maxRecDepth 100000 in
theorem lifted (os : Os) (started : os.Started) (H : Type) (enc : TypeId × Value → H) :
    ReturnsInHanded {} Try.checked os 7 .any (Rows.tapePartsSpec.pre6 enc Try.prog Try.f7 Rows.tapePartsRow.domain false) (Rows.tapePartsSpec.post enc Try.prog Try.f7 false true false false) := by
  refine returnsInHanded_of_change_sized (C := Try.checked) own started (by kernel_rfl) Try.func7
    (ChangeSpec.witness6 (enc := enc) (C := Try.checked) false ⟨#[], #[.slice none 0 0, .slice none 0 0, .slice none 0 0], []⟩ 8 (by kernel_rfl) (by kernel_rfl) (by kernel_rfl) (by kernel_rfl)) ?_
  intro W base args ds gs before hval0 hW hcnd hsz0 _
  have hsz : (DataW.weightsEach Try.prog (Try.f7.params.toList ++ Rows.tapePartsSpec.plain.varTypes Try.prog) (ds ++ gs)).all (· ≤ reachBytes) = true := hsz0
  have hval : ∀ (j : Nat) t v, Try.f7.params[j]? = some t → args[j]? = some v → Value.okWide Try.prog W .any base t v := hval0
  have hW' := hW
  obtain ⟨p, q, hA0, hV, rfl, hfz, hnd⟩ := hW
  have hA : DataW.TrodAll enc Try.prog W 0 (fun _ => true) true Try.f7.params.toList args.toList ds p := hA0
  rw [Try.params7] at hA hval hsz
  obtain ⟨v0, vs0, d0, ds0, p0, q0, hargs, rfl, rfl, h0, r0⟩ := trodAll_cons hA
  obtain ⟨v1, vs1, d1, ds1, p1, q1, rfl, rfl, rfl, h1, r1⟩ := trodAll_cons r0
  obtain ⟨v2, vs2, d2, ds2, p2, q2, rfl, rfl, rfl, h2, r2⟩ := trodAll_cons r1
  obtain ⟨rfl, rfl, rfl⟩ := trodAll_nil r2
  obtain rfl : args = #[v0, v1, v2] := by cases args; simp_all
  obtain ⟨rfl, rfl⟩ := trodVars_none hV
  have k0 := h0
  have lt0 : ∀ x ∈ p0, x.block < W.heap.size := by obtain ⟨m, hm⟩ := k0; exact DataW.trod_lt m _ _ _ hm
  have k1 := h1
  have lt1 : ∀ x ∈ p1, x.block < W.heap.size := by obtain ⟨m, hm⟩ := k1; exact DataW.trod_lt m _ _ _ hm
  have k2 := h2
  have lt2 : ∀ x ∈ p2, x.block < W.heap.size := by obtain ⟨m, hm⟩ := k2; exact DataW.trod_lt m _ _ _ hm
  obtain ⟨a0, n0, c0, rfl⟩ := okWide_slice Try.underlying22 (hval 0 22 v0 rfl rfl)
  obtain ⟨l0, g0, gn0, gc0, gm0, gd0⟩ := opened_bytes Try.underlying22 Try.underlying5 (by kernel_rfl) h0
  have gr0 := (sized_of hsz (j := 0) (t := 22) rfl rfl).slice Try.underlying22 (by kernel_rfl : Try.prog.bytesOf 5 = 1) gd0
  obtain ⟨a1, n1, c1, rfl⟩ := okWide_slice Try.underlying22 (hval 1 22 v1 rfl rfl)
  obtain ⟨l1, g1, gn1, gc1, gm1, gd1⟩ := opened_bytes Try.underlying22 Try.underlying5 (by kernel_rfl) h1
  have gr1 := (sized_of hsz (j := 1) (t := 22) rfl rfl).slice Try.underlying22 (by kernel_rfl : Try.prog.bytesOf 5 = 1) gd1
  obtain ⟨a2, n2, c2, rfl⟩ := okWide_slice Try.underlying22 (hval 2 22 v2 rfl rfl)
  obtain ⟨l2, g2, gn2, gc2, gm2, gd2⟩ := opened_bytes Try.underlying22 Try.underlying5 (by kernel_rfl) h2
  have gr2 := (sized_of hsz (j := 2) (t := 22) rfl rfl).slice Try.underlying22 (by kernel_rfl : Try.prog.bytesOf 5 = 1) gd2
  refine (walk a0 n0 c0 l0 a1 n1 c1 l1 a2 n2 c2 l2 W g0 gn0 gc0 gr0 g1 gn1 gc1 gr1 g2 gn2 gc2 gr2).mono fun e W' ⟨he, bel⟩ => ?_
  subst he
  exact ⟨_, rfl, _, _, _, [], _, [], hW', trodAll_mk1 (shut_bool Try.underlying4 _), (trodAll_cons_mk (Below.trod laidOut (by kernel_rfl) (of_decide_eq_true (by kernel_rfl)) k0 bel lt0) (trodAll_cons_mk (Below.trod laidOut (by kernel_rfl) (of_decide_eq_true (by kernel_rfl)) k1 bel lt1) (trodAll_cons_mk (Below.trod laidOut (by kernel_rfl) (of_decide_eq_true (by kernel_rfl)) k2 bel lt2) trodAll_mk0))), rfl, bel.frame _, fun h => by cases h⟩
theorem proved : Rows.TapePartsSaid :=
  OpenClaim.holds_of_wide 7 Try.f7 rfl rfl rfl rfl rfl rfl rfl ⟨rfl, rfl, rfl, rfl, rfl⟩ rfl rfl rfl rfl rfl (by kernel_rfl) Try.func7 (by kernel_rfl)
    (of_decide_eq_true (by kernel_rfl)) (by unfold Func.isWrapper; first | (rw [if_pos (by decide +kernel)]; kernel_rfl) | (rw [if_neg (by decide +kernel)]; exact ⟨rfl, rfl⟩))
    (fun os started H enc _ => lifted os started H enc)
#print axioms proved
end Go.Proofs.Ytfjcaangcogkeaa.tapeParts
