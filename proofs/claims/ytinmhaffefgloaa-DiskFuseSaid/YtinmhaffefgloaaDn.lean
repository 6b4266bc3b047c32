/- A fuse lets so many calls go but one. -/
import Derived.Test.YtinmhaffefgloaaEa
import Derived.Deep.DeepCutAuto
import Derived.Deep.CutBlock
namespace Go.Proofs.Ytinmhaffefgloaa
open Go.RowKit
set_option linter.unusedVariables false
set_option linter.unusedSimpArgs false
attribute [local go_sem ↓] Go.wp_at_zero Go.wp_at_succ

/-- What a Write of a block that there is, or a Barrier, tells; what it leaves of the fuse and the power. -/
def callR (st : RS) : Int := if st.gone then 9 else if (burn st).1 then 9 else 0
structure Next (st st' : RS) : Prop where
  left : st'.left = st.left - 1
  gone : st'.gone = (st.gone || (burn st).1)
  len : st'.L.length ≤ st.L.length + 4
  cnt : st'.count = st.count
theorem burn_left (st : RS) : (burn st).2.left = st.left - 1 ∧ (burn st).2.gone = (st.gone || (burn st).1) ∧ (burn st).2.L = st.L ∧ (burn st).2.count = st.count := by
  unfold burn
  split
  · simp; omega
  · split
    · simp; omega
    · simp
theorem write_next (st : RS) (j : Nat) (b : List UInt8) (hj : j < st.count) (hb : b.length = 256) (hg : st.gone = true → st.left = 0) : (write st j b).1 = callR st ∧ Next st (write st j b).2 := by
  obtain ⟨b1, b2, b3, b4⟩ := burn_left st
  unfold write callR whyN
  cases h : st.gone
  · have h1 : ¬ ((j : Int) < 0 ∨ (st.count : Int) ≤ (j : Int)) := by omega
    rw [h] at b2
    simp only [Bool.false_eq_true, if_false, h1, hb, ne_eq, not_true_eq_false]
    cases h2 : (burn st).1
    · rw [h2] at b2
      simp only [Bool.false_eq_true, if_false]
      exact ⟨by trivial, ⟨b1, by show (burn st).2.gone = _; rw [b2, h, h2], by show ((burn st).2.L ++ _).length ≤ _; rw [b3]; simp [flies], b4⟩⟩
    · rw [h2] at b2
      simp only [if_true]
      exact ⟨by trivial, ⟨b1, by rw [b2, h, h2], by rw [b3]; omega, b4⟩⟩
  · have := hg h
    simp only [if_true]
    exact ⟨by trivial, ⟨by show st.left = _; omega, by show st.gone = _; rw [h]; rfl, by show st.L.length ≤ _; omega, rfl⟩⟩
theorem barrier_next (st : RS) (hg : st.gone = true → st.left = 0) : (barrier st).1 = callR st ∧ Next st (barrier st).2 := by
  obtain ⟨b1, b2, b3, b4⟩ := burn_left st
  unfold barrier callR
  cases h : st.gone
  · rw [h] at b2
    simp only [Bool.false_eq_true, if_false]
    cases h2 : (burn st).1
    · rw [h2] at b2
      simp only [Bool.false_eq_true, if_false]
      exact ⟨by trivial, ⟨b1, by show (burn st).2.gone = _; rw [b2, h, h2], by show (0 : Nat) ≤ _; omega, b4⟩⟩
    · rw [h2] at b2
      simp only [if_true]
      exact ⟨by trivial, ⟨b1, by rw [b2, h, h2], by rw [b3]; omega, b4⟩⟩
  · have := hg h
    simp only [if_true]
    exact ⟨by trivial, ⟨by show st.left = _; omega, by show st.gone = _; rw [h]; rfl, by show st.L.length ≤ _; omega, rfl⟩⟩
theorem keepF {W w w' : World} {ab : Nat} {u v : Value} {S : List Nat} (h : w.cell? ⟨ab, 1, none⟩ = some u ∧ w.cell? ⟨ab, 2, none⟩ = some v ∧ Chg S W w) (g : Chg S w w') (h1 : ab ∉ S) :
    w'.cell? ⟨ab, 1, none⟩ = some u ∧ w'.cell? ⟨ab, 2, none⟩ = some v ∧ Chg S W w' :=
  ⟨g.cellv h.1 h1, g.cellv h.2.1 h1, h.2.2.trans g (fun _ h _ => h) (fun _ h _ => h)⟩
set_option maxRecDepth 100000 in
set_option maxHeartbeats 4000000 in
theorem fuse_core (n : Nat) (hn : n < 256) (a0 : Option Addr) (n0 c0 : Nat) (acts : Nat → ActD) (w : World) (gn : n0 ≤ c0) (gc : c0 ≤ maxLen) (ga : ActsAt w a0 n0 acts) :
    Calls Try.prog 5 #[.int .u8 (n : Int), .slice a0 n0 c0] w fun e w' => e = .returned (.bool true) ∧ Chg [] w w' := by
  unfold maxLen at gc
  go_enter Try.func5, Try.ntmps5
  go_wp2_with fail
  refine (own_new 3 (by decide) (by decide) w).mono ?_
  rintro e w1 ⟨db, g, rfl, h1⟩
  go_wp2_with fail
  refine (awake_any w1).mono ?_
  rintro e w2 ⟨rfl, hg2⟩
  replace h1 := h1.keep hg2
  clear hg2
  go_wp2_with fail
  refine (own_fuse (n : Int) (by omega) w [] db g none 0 (RS.new 3) w2 h1).mono ?_
  rintro e w3 ⟨rfl, h3, hg3⟩
  replace h3 : Own w w3 [] db g none 0 { RS.new 3 with left := n } := h3
  clear h1 hg3
  go_wp2_with fail
  go_loopw [7, 30] (fun lf i wr => ∃ (k m : Nat) (fa : Option Addr) (cf : Nat) (st : RS), lf = .int .i64 m ∧ i = .int .i64 k ∧ k ≤ n0 ∧ k ≤ 300 ∧ m < 256 ∧ Own w wr [] db g fa cf st ∧ st.left = m ∧ (n = 0 → m = 0 ∧ st.gone = false) ∧ (0 < n → (st.gone = true ↔ m = 0)) ∧ st.L.length ≤ 4 * k ∧ st.count = 3) (fun _ i _ => n0 - (intOf i).toNat)
  case atStart => exact ⟨0, n, none, 0, _, rfl, rfl, Nat.zero_le _, by omega, hn, h3, rfl, fun h => ⟨h, rfl⟩, fun h => ⟨fun hx => by simp [RS.new] at hx, fun hx => by omega⟩, by simp [RS.new], rfl⟩
  case round =>
    obtain ⟨k, m, fa, cf, st, rfl, rfl, hk, hk3, hm, ho, hsl, hn0, hnp, hLk, hcnt⟩ := hrel
    by_cases hcont : k < n0 ∧ k < 300
    · obtain ⟨hlt, h300⟩ := hcont
      obtain ⟨b, o, rfl, hacts⟩ := ga (by omega)
      have hA := (hacts k hlt).old ho.c (by simp)
      clear hacts
      generalize acts k = A at *
      obtain ⟨a0c, a1c, a2c, a3c, a4c, aw0, aw1, arb, alb, ale, amx⟩ := hA
      have hne3 : ((k : Int) == 300) = false := beq_eq_false_iff_ne.2 (by omega)
      have hki : (k : Int) < (n0 : Int) := by omega
      go_upto_if 40 with fail
      generalize hab : wr.heap.size = ab
      generalize hW : wr.alloc _ = W
      have x0 : W.cell? ⟨ab, 0, none⟩ = some (.int .i64 A.wh) := by subst hW hab; simp
      have x1 : W.cell? ⟨ab, 1, none⟩ = some (.int .i64 A.num) := by subst hW hab; simp
      have x2 : W.cell? ⟨ab, 2, none⟩ = some (.int .u8 (A.x.toNat : Int)) := by subst hW hab; simp
      have hgW : Chg [] wr W := by subst hW; exact Chg.alloc [] _ _
      have hzW : W.heap.size = ab + 1 := by subst hW hab; simp
      have habF : ab ∉ DF db g fa cf := fun hm => by have := (ho.d.lt ab hm).2; omega
      have hoW := ho.keep hgW
      have hg0 : st.gone = true → st.left = 0 := fun hx => by
        rw [hsl]
        by_cases h0 : n = 0
        · exact (hn0 h0).1
        · exact (hnp (by omega)).1 hx
      clear hW a0c a1c a2c a3c a4c
      go_cut [10] (fun v wx => ∃ (fa' : Option Addr) (cf' : Nat) (st' : RS), v = .int .i64 (callR st) ∧ Own w wx [] db g fa' cf' st' ∧ Next st st')
      case first =>
        generalize hv : (A.x.toNat : Int) = v at *
        have Hv := mkHid hv
        clear hv
        by_cases hpar : Int.tmod A.wh 2 = 0
        · have hp : (Int.tmod A.wh 2 == 0) = true := beq_iff_eq.2 hpar
          clear hpar
          go_wp2_with fail
          go_region_held3 (fun w' => w'.cell? ⟨ab, 1, none⟩ = some (.int .i64 A.num) ∧ w'.cell? ⟨ab, 2, none⟩ = some (.int .u8 v) ∧ Chg (DF db g fa cf) W w')
            (first | exact keepF ⟨x1, x2, Chg.refl _ _⟩ (Chg.drew _ _) habF | exact keepF (by assumption) hgc habF | exact keepF (by assumption) (hgf.mono (by simp)) habF | assumption)
            (first | (go_at_call 26; refine (within_any A.num 3 (by decide) (by decide) aw1 _).mono ?_; rintro e w' ⟨⟨j, hj, rfl⟩, rfl⟩) | (go_at_call 24; refine (full_as v A.x Hv.out.symm _).mono ?_; rintro e w5 ⟨fb, fo, rfl, hrf, hgf⟩) | (go_at_call 12; refine (own_write j w _ db g fa cf st _ (hoW.add ((Chg.drew [] W).then hgf) _ (fun k hk => hrf.lt k hk)) (by omega) _ 256 256 _ hrf.reads (by rw [List.length_replicate]) (by omega) (by omega) (fun k hk => List.mem_append_left _ (blk_mem hrf (by decide) k hk))).mono ?_; rintro e w6 ⟨he6, fa6, cf6, h6, hgc⟩; obtain ⟨n1, n2⟩ := write_next st j (List.replicate 256 A.x) (by omega) (by rw [List.length_replicate]) hg0; rw [n1] at he6; subst he6))
          go_wp2_with fail
          go_meet
          exact ⟨fa6, cf6, _, rfl, h6.less (by simp), n2⟩
        · have hp : (Int.tmod A.wh 2 == 0) = false := beq_eq_false_iff_ne.2 hpar
          clear hpar
          go_wp2_with fail
          refine (own_barrier w _ db g fa cf st _ hoW).mono ?_
          rintro e w6 ⟨he6, fa6, cf6, h6, hgc⟩
          obtain ⟨n1, n2⟩ := barrier_next st hg0
          rw [n1] at he6
          subst he6
          go_wp2_with fail
          go_meet
          exact ⟨fa6, cf6, _, rfl, h6, n2⟩
      case rest =>
        obtain ⟨fa6, cf6, st6, rfl, h6, n2⟩ := hcut
        have hoff := off_any w.heap.size db g fa6 cf6 st6 _ h6.d
        have hl6 := n2.left
        have hg6 := n2.gone
        have hb := burn_left st
        obtain ⟨b1, b2, b3, b4⟩ := hb
        have hcn := n2.cnt
        have hln := n2.len
        have hLk6 : st6.L.length ≤ 4 * (k + 1) := by omega
        have hc6 : st6.count = 3 := by omega
        by_cases hz : n = 0
        · obtain ⟨hm0, hgn⟩ := hn0 hz
          have hbf : (burn st).1 = false := by unfold burn; rw [if_pos (by omega)]
          have hr : callR st = 0 := by unfold callR; rw [hgn, hbf]; rfl
          have hG : st6.gone = false := by rw [hg6, hgn, hbf]; rfl
          have hl0 : st6.left = 0 := by omega
          rw [hr]
          rw [hG] at hoff
          have Hz := mkHid hz
          have HG := mkHid hG
          have Hl0 := mkHid hl0
          have e1 : decide (0 < n) = false := decide_eq_false (by omega)
          have Hm0 := mkHid hm0
          clear hz hr hG hl0 hn0 hnp hl6 hg6 b1 b2 hg0 hm0
          go_wp2_with fail
          refine hoff.mono ?_
          rintro e w' ⟨rfl, rfl⟩
          go_wp2_with fail
          exact ⟨⟨k + 1, m, fa6, cf6, st6, by first | rfl | trivial, by go_num, by omega, by omega, hm, h6, by rw [Hl0.out, Hm0.out], fun _ => ⟨Hm0.out, HG.out⟩, fun hx => by have := Hz.out; omega, hLk6, hc6⟩, by simp [intOf]; omega⟩
        · have hgm := hnp (by omega)
          have Hz := mkHid hz
          have e1 : decide (0 < n) = true := decide_eq_true (by omega)
          by_cases hm0 : m = 0
          · have hgn := hgm.2 hm0
            have hr : callR st = 9 := by unfold callR; rw [hgn]; rfl
            have hG : st6.gone = true := by rw [hg6, hgn]; rfl
            have hl0 : st6.left = 0 := by omega
            rw [hr]
            rw [hG] at hoff
            have HG := mkHid hG
            have Hl0 := mkHid hl0
            have Hm0 := mkHid hm0
            have e2 : decide (0 < m) = false := decide_eq_false (by omega)
            have e3 : ((m : Int) == 0) = true := beq_iff_eq.2 (by omega)
            clear hz hr hG hl0 hn0 hnp hl6 hg6 b1 b2 hg0 hm0 hgm
            go_wp2_with fail
            refine hoff.mono ?_
            rintro e w' ⟨rfl, rfl⟩
            go_wp2_with fail
            exact ⟨⟨k + 1, m, fa6, cf6, st6, by first | rfl | trivial, by go_num, by omega, by omega, hm, h6, by rw [Hl0.out, Hm0.out], fun hx => absurd hx Hz.out, fun _ => ⟨fun _ => Hm0.out, fun _ => HG.out⟩, hLk6, hc6⟩, by simp [intOf]; omega⟩
          · have hgn : st.gone = false := by
              cases hx : st.gone
              · rfl
              · exact absurd (hgm.1 hx) hm0
            obtain ⟨m', hm'⟩ : ∃ m', m = m' + 1 := ⟨m - 1, by omega⟩
            have e2 : decide (0 < m) = true := decide_eq_true (by omega)
            have e4 : (m : Int) - 1 = (m' : Int) := by omega
            by_cases hm1 : m' = 0
            · have hbt : (burn st).1 = true := by unfold burn; rw [if_neg (by omega), if_pos (by omega)]
              have hr : callR st = 9 := by unfold callR; rw [hgn, hbt]; rfl
              have hG : st6.gone = true := by rw [hg6, hgn, hbt]; rfl
              have hl0 : st6.left = 0 := by omega
              rw [hr]
              rw [hG] at hoff
              have HG := mkHid hG
              have Hl0 := mkHid hl0
              have Hm1 := mkHid hm1
              have Hm' := mkHid hm'
              have e3 : ((m' : Int) == 0) = true := beq_iff_eq.2 (by omega)
              clear hz hr hG hl0 hn0 hnp hl6 hg6 b1 b2 hg0 hm1 hgm hm' hm0
              go_wp2_with fail
              refine hoff.mono ?_
              rintro e w' ⟨rfl, rfl⟩
              go_wp2_with fail
              exact ⟨⟨k + 1, m', fa6, cf6, st6, by first | rfl | trivial, by go_num, by omega, by omega, by have := Hm'.out; omega, h6, by rw [Hl0.out, Hm1.out], fun hx => absurd hx Hz.out, fun _ => ⟨fun _ => Hm1.out, fun _ => HG.out⟩, hLk6, hc6⟩, by simp [intOf]; omega⟩
            · have hbt : (burn st).1 = false := by unfold burn; rw [if_neg (by omega), if_neg (by omega)]
              have hr : callR st = 0 := by unfold callR; rw [hgn, hbt]; rfl
              have hG : st6.gone = false := by rw [hg6, hgn, hbt]; rfl
              have hl0 : st6.left = m' := by omega
              rw [hr]
              rw [hG] at hoff
              have HG := mkHid hG
              have Hl0 := mkHid hl0
              have Hm1 := mkHid hm1
              have Hm' := mkHid hm'
              have e3 : ((m' : Int) == 0) = false := beq_eq_false_iff_ne.2 (by omega)
              clear hz hr hG hl0 hn0 hnp hl6 hg6 b1 b2 hg0 hm1 hgm hm' hm0
              go_wp2_with fail
              refine hoff.mono ?_
              rintro e w' ⟨rfl, rfl⟩
              go_wp2_with fail
              exact ⟨⟨k + 1, m', fa6, cf6, st6, by first | rfl | trivial, by go_num, by omega, by omega, by have := Hm'.out; omega, h6, Hl0.out, fun hx => absurd hx Hz.out, fun _ => ⟨fun hx => absurd (HG.out.symm.trans hx) (by decide), fun hx => absurd hx Hm1.out⟩, hLk6, hc6⟩, by simp [intOf]; omega⟩
    · have fin : ∀ (wx : World) (K : Ending → World → Prop), True := fun _ _ => trivial
      have hw0 : st.gone = false → whyN st (0 : Nat) = 0 := fun hx => by
        unfold whyN
        rw [hx, if_neg (by decide), if_neg (by omega)]
      have hw9 : st.gone = true → whyN st 0 = 9 := fun hx => by
        unfold whyN
        rw [hx, if_pos rfl]
      have hwc : whyN (crash st []) (0 : Nat) = 0 := by
        show (if (false = true) then (9 : Int) else if ((0 : Nat) : Int) < 0 ∨ (st.count : Int) ≤ ((0 : Nat) : Int) then 6 else 0) = 0
        rw [if_neg (by decide), if_neg (by omega)]
      have hcr := own_crash w [] db g fa cf st
      by_cases hkn : k = n0
      · have hkd : decide (k < n0) = false := decide_eq_false (by omega)
        clear hcont hkn
        cases hgn : st.gone
        · clear hw9 hcr fin
          go_wp2_with fail
          refine (own_read 0 w _ db g fa cf st wr ho (hw0 hgn)).mono ?_
          rintro e w4 ⟨ra, rc, rfl, hr4, h4, hg4⟩
          go_wp2_with fail
          refine (off_any w.heap.size db g fa cf st w4 h4.d).mono ?_
          rintro e w' ⟨he, rfl⟩
          replace he : e = .returned (.bool false) := he.trans (ret_bool' hgn)
          subst he
          go_wp2_with fail
          refine (own_crash w _ db g fa cf st w4 h4 none 0 0 [] (Reads.nil _ _) rfl (by decide) (fun k hk => by simp [blk] at hk)).mono ?_
          rintro e w5 ⟨rfl, h5, hg5⟩
          go_wp2_with fail
          refine (own_read 0 w _ db g none 0 (crash st []) w5 h5 hwc).mono ?_
          rintro e w6 ⟨rb, rd, rfl, hr6, h6, hg6⟩
          go_wp2_with fail
          refine (flight_any w.heap.size db g none 0 _ w6 h6.d).mono ?_
          rintro e w' ⟨he, rfl⟩
          replace he : e = .returned (.int .i64 0) := he
          subst he
          go_wp2_with fail
          go_ret
          exact ⟨rfl, h6.c⟩
        · clear hw0 hcr fin
          go_wp2_with fail
          refine (dread_no 0 w.heap.size db g fa cf st wr ho.d ho.W (by rw [hw9 hgn]; decide)).mono ?_
          rintro e w' ⟨he, rfl⟩
          replace he : e = .returned (.tuple #[.slice none 0 0, .int .i64 9]) := by rw [he, hw9 hgn]
          subst he
          obtain ⟨w4, hw4⟩ : ∃ w4, w4 = wr := ⟨_, rfl⟩
          have h4 := ho
          rw [← hw4] at h4 ⊢
          clear hw4
          go_wp2_with fail
          refine (off_any w.heap.size db g fa cf st w4 h4.d).mono ?_
          rintro e w' ⟨he, rfl⟩
          replace he : e = .returned (.bool true) := he.trans (ret_bool' hgn)
          subst he
          go_wp2_with fail
          refine (own_crash w _ db g fa cf st w4 h4 none 0 0 [] (Reads.nil _ _) rfl (by decide) (fun k hk => by simp [blk] at hk)).mono ?_
          rintro e w5 ⟨rfl, h5, hg5⟩
          go_wp2_with fail
          refine (own_read 0 w _ db g none 0 (crash st []) w5 h5 hwc).mono ?_
          rintro e w6 ⟨rb, rd, rfl, hr6, h6, hg6⟩
          go_wp2_with fail
          refine (flight_any w.heap.size db g none 0 _ w6 h6.d).mono ?_
          rintro e w' ⟨he, rfl⟩
          replace he : e = .returned (.int .i64 0) := he
          subst he
          go_wp2_with fail
          go_ret
          exact ⟨rfl, h6.c⟩
      · have hk300 : ((k : Int) == 300) = true := beq_iff_eq.2 (by omega)
        have hlt : k < n0 := by omega
        obtain ⟨b, o, rfl, hacts⟩ := ga (by omega)
        have hA := (hacts k hlt).old ho.c (by simp)
        clear hacts
        generalize acts k = A at *
        obtain ⟨a0c, a1c, a2c, a3c, a4c, aw0, aw1, arb, alb, ale, amx⟩ := hA
        have hki : (k : Int) < (n0 : Int) := by omega
        clear hcont hkn
        go_wp2_with fail
        generalize hW : wr.alloc _ = W
        have hoW : Own w W [] db g fa cf st := by subst hW; exact ho.keep (Chg.alloc [] _ _)
        clear hW ho
        cases hgn : st.gone
        · clear hw9 hcr fin
          refine (own_read 0 w _ db g fa cf st W hoW (hw0 hgn)).mono ?_
          rintro e w4 ⟨ra, rc, rfl, hr4, h4, hg4⟩
          go_wp2_with fail
          refine (off_any w.heap.size db g fa cf st w4 h4.d).mono ?_
          rintro e w' ⟨he, rfl⟩
          replace he : e = .returned (.bool false) := he.trans (ret_bool' hgn)
          subst he
          go_wp2_with fail
          refine (own_crash w _ db g fa cf st w4 h4 none 0 0 [] (Reads.nil _ _) rfl (by decide) (fun k hk => by simp [blk] at hk)).mono ?_
          rintro e w5 ⟨rfl, h5, hg5⟩
          go_wp2_with fail
          refine (own_read 0 w _ db g none 0 (crash st []) w5 h5 hwc).mono ?_
          rintro e w6 ⟨rb, rd, rfl, hr6, h6, hg6⟩
          go_wp2_with fail
          refine (flight_any w.heap.size db g none 0 _ w6 h6.d).mono ?_
          rintro e w' ⟨he, rfl⟩
          replace he : e = .returned (.int .i64 0) := he
          subst he
          go_wp2_with fail
          go_ret
          exact ⟨rfl, h6.c⟩
        · clear hw0 hcr fin
          refine (dread_no 0 w.heap.size db g fa cf st W hoW.d hoW.W (by rw [hw9 hgn]; decide)).mono ?_
          rintro e w' ⟨he, rfl⟩
          replace he : e = .returned (.tuple #[.slice none 0 0, .int .i64 9]) := by rw [he, hw9 hgn]
          subst he
          obtain ⟨w4, hw4⟩ : ∃ w4, w4 = W := ⟨_, rfl⟩
          have h4 := hoW
          rw [← hw4] at h4 ⊢
          clear hw4
          go_wp2_with fail
          refine (off_any w.heap.size db g fa cf st w4 h4.d).mono ?_
          rintro e w' ⟨he, rfl⟩
          replace he : e = .returned (.bool true) := he.trans (ret_bool' hgn)
          subst he
          go_wp2_with fail
          refine (own_crash w _ db g fa cf st w4 h4 none 0 0 [] (Reads.nil _ _) rfl (by decide) (fun k hk => by simp [blk] at hk)).mono ?_
          rintro e w5 ⟨rfl, h5, hg5⟩
          go_wp2_with fail
          refine (own_read 0 w _ db g none 0 (crash st []) w5 h5 hwc).mono ?_
          rintro e w6 ⟨rb, rd, rfl, hr6, h6, hg6⟩
          go_wp2_with fail
          refine (flight_any w.heap.size db g none 0 _ w6 h6.d).mono ?_
          rintro e w' ⟨he, rfl⟩
          replace he : e = .returned (.int .i64 0) := he
          subst he
          go_wp2_with fail
          go_ret
          exact ⟨rfl, h6.c⟩
end Go.Proofs.Ytinmhaffefgloaa
