/- The law's alike: the program's disk and the reference's say the same. -/
import Derived.Test.YtinmhaffefgloaaGb
import Derived.Test.YtinmhaffefgloaaRk
import Derived.Test.YtinmhaffefgloaaFa
namespace Go.Proofs.Ytinmhaffefgloaa
open Go.RowKit
set_option linter.unusedVariables false
set_option linter.unusedSimpArgs false

set_option maxHeartbeats 4000000 in
theorem alike_any (B db : Nat) (g : DG) (fa : Option Addr) (cf : Nat) (st : RS) (w : World) (h : DevAt w B db g fa cf st) (B' : Nat) (F : List Nat) (rb : Nat) (sa : Option Addr) (cs : Nat) (la : Option Addr) (cl : Nat) (vs ls : List Value) (hr : RefAt w B' F rb sa cs la cl vs ls st)
    (hW : Whole st) (hSb : st.S.length ≤ 100000) (hLb : st.L.length ≤ 1000000000) :
    Calls Try.prog 25 #[.pointer (some ⟨db, 0, none⟩), .pointer (some ⟨rb, 0, none⟩)] w fun e w' => e = .returned (.bool true) ∧ Chg [] w w' := by
  go_enter Try.func25, Try.ntmps25
  go_wp2_with fail
  go_region_held3 (fun w' => w'.cell? ⟨rb, 3, none⟩ = some (.bool st.gone) ∧ w'.cell? ⟨rb, 1, none⟩ = some (.slice la st.L.length cl) ∧ w'.cell? ⟨rb, 4, none⟩ = some (.int .i64 st.count))
    (first | exact ⟨(Chg.drew [] _).cellv hr.c3 (by simp), (Chg.drew [] _).cellv hr.c1 (by simp), (Chg.drew [] _).cellv hr.c4 (by simp)⟩ | assumption)
    (first | (go_at_call 29; refine (off_any B db g fa cf st _ (h.keep (Chg.drew [] w))).mono ?_; rintro e w' ⟨rfl, rfl⟩) | (go_at_call 27; refine (flight_any B db g fa cf st _ (h.keep (Chg.drew [] w))).mono ?_; rintro e w' ⟨rfl, rfl⟩) | (go_at_call 10; refine (blocks_any B db g fa cf st _ (h.keep (Chg.drew [] w)) hW).mono ?_; rintro e w' ⟨rfl, rfl⟩))
  have hg0 : Chg [] w w.drew := Chg.drew [] w
  have h0 := h.keep hg0
  have q0 := hr.chg hg0 (fun _ _ => by simp)
  generalize w.drew = W0 at *
  go_wp2_with fail
  refine (devcopy_any B db g fa cf st W0 h0 (by omega) hLb).mono ?_
  rintro e w1 ⟨db2, g2, fa2, cf2, rfl, h1, g1⟩
  have q1 := q0.chg g1 (fun _ _ => by simp)
  go_wp2_with fail
  refine (refcopy_any B' F rb sa cs la cl vs ls st w1 q1 hSb hLb).mono ?_
  rintro e w2 ⟨rb2, F2, sa2, cs2, la2, cl2, vs2, ls2, rfl, q2, gq2⟩
  have h2 := h1.keep gq2
  go_wp2_with fail
  refine (dcrash_any W0.heap.size db2 g2 fa2 cf2 st w2 h2 none 0 0 [] (Reads.nil _ _) rfl (by decide) (fun k hk => by simp [blk] at hk)).mono ?_
  rintro e w3 ⟨rfl, h3, g3⟩
  have q3 := q2.chg g3 (fun k hk hm => by
    have e1 := (q2.F1 k hk).1
    have e2 := (h1.lt k (by simp [DF] at hm ⊢; rcases hm with hm | hm | hm <;> simp [hm])).2
    omega)
  go_wp2_with fail
  refine (crash_any w1.heap.size F2 rb2 sa2 cs2 la2 cl2 vs2 ls2 st w3 q3 none 0 0 [] (Reads.nil _ _) rfl (by decide) (fun k hk => by simp [blk] at hk)).mono ?_
  rintro e w4 ⟨rfl, F4, la4, cl4, vs4, ls4, q4, g4, hF4⟩
  have h4 := h3.chg g4 (fun k hk hm => by
    have e1 := (q2.F1 k hm).1
    have e2 : k < w1.heap.size := (h1.lt k (by simp [DF, fp_zero] at hk ⊢; rcases hk with hk | hk | hk <;> simp [hk])).2
    omega)
  have z0 := hg0.size
  have z1 := g1.size
  have z2 := gq2.size
  have gA : Chg [] w w2 := (hg0.then g1).then gq2
  have gB : Chg [] w w3 := gA.trans g3 (fun _ h _ => h) (fun k hm hlt => by
    have := (h1.lt k (by simp [DF] at hm ⊢; rcases hm with hm | hm | hm <;> simp [hm])).1
    omega)
  have gC : Chg [] w w4 := gB.trans g4 (fun _ h _ => h) (fun k hm hlt => by
    have := (q2.F1 k hm).1
    omega)
  have c4 := gC.cellv hr.c4 (by simp)
  obtain ⟨sc, hsc⟩ : ∃ sc, sc = crash st [] := ⟨_, rfl⟩
  have hWc : Whole sc := by rw [hsc]; exact crash_whole [] hW
  have hcc : sc.count = st.count := by rw [hsc]; rfl
  have hcg : sc.gone = false := by rw [hsc]; rfl
  rw [← hsc] at h4 q4
  have Hcc := mkHid hcc
  have hcb := hW.2
  clear hsc h0 h1 h2 h3 q0 q1 q2 q3 g1 gq2 g3 g4 gA gB hF4 hg0 hcc
  generalize W0.heap.size = B2 at *
  generalize w1.heap.size = B3 at *
  go_wp2_with fail
  go_loopw [50] (fun i wr => ∃ (k : Nat), i = .int .i64 k ∧ k ≤ st.count ∧ DevAt wr B2 db2 g2 none 0 sc ∧ RefAt wr B3 F4 rb2 sa2 cs2 la4 cl4 vs4 ls4 sc ∧ Chg [] w wr) (fun i _ => st.count - (intOf i).toNat)
  case atStart => exact ⟨0, rfl, Nat.zero_le _, h4, q4, gC⟩
  case round =>
    clear h4 q4 gC c4
    obtain ⟨k, rfl, hk, hd, hq, hc⟩ := hrel
    by_cases hlt : k < st.count
    · have e1 : decide ((k : Int) < (st.count : Int)) = true := decide_eq_true (by omega)
      have hwhy : whyN sc (k : Int) = 0 := by unfold whyN; rw [hcg, if_neg (by decide), if_neg (by rw [Hcc.out]; omega)]
      have Hwhy := mkHid hwhy
      clear hwhy
      go_wp2_with fail
      refine (dread_yes k B2 db2 g2 none 0 sc wr hd hWc Hwhy.out).mono ?_
      rintro e w5 ⟨ao, c5, rfl, r5, g5⟩
      go_wp2_with fail
      refine (read_yes k B3 F4 rb2 sa2 cs2 la4 cl4 vs4 ls4 sc w5 (hq.chg g5 (fun _ _ => by simp)) hWc Hwhy.out).mono ?_
      rintro e w6 ⟨bo, c6, rfl, r6, g6⟩
      have l5 := r5.len
      rw [bts_length] at l5
      have hd6 := (hd.keep g5).keep g6
      have hq6 := (hq.chg g5 (fun _ _ => by simp)).chg g6 (fun _ _ => by simp)
      have hc6 := (hc.then g5).then g6
      have e5 := r5.reads.keep g6
      have e6 := r6.reads
      have Hl := mkHid l5
      clear hd hq hc r5 r6 g5 g6 l5
      go_wp2_with (first | (go_at_call 16; refine (equal_any ao 256 c5 _ bo 256 c6 _ w6 e5 Hl.out e6 Hl.out).mono ?_; rw [decide_eq_true rfl]; rintro e w' ⟨rfl, rfl⟩))
      exact ⟨⟨k + 1, by go_num, by omega, hd6, hq6, hc6⟩, by simp [intOf]; omega⟩
    · have hke : k = st.count := by omega
      subst hke
      have e1 : decide ((st.count : Int) < (st.count : Int)) = false := decide_eq_false (by omega)
      go_wp2_with fail
      go_ret
      exact ⟨rfl, hc⟩
end Go.Proofs.Ytinmhaffefgloaa
