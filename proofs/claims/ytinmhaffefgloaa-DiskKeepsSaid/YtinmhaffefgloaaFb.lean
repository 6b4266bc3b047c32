/- What was ahead of a barrier stays; each other sector is torn by itself. -/
import Derived.Test.YtinmhaffefgloaaFd
import Derived.Deep.DeepCutAuto
import Derived.Deep.CutBlock
import Derived.Test.YtinmhaffefgloaaXa
namespace Go.Proofs.Ytinmhaffefgloaa
open Go.RowKit
set_option linter.unusedVariables false
set_option linter.unusedSimpArgs false
attribute [local go_sem ↓] Go.wp_at_zero Go.wp_at_succ

theorem keepA {W w w' : World} {ab : Nat} {u0 u1 u2 u3 u4 : Value} {S : List Nat} (h : w.cell? ⟨ab, 0, none⟩ = some u0 ∧ w.cell? ⟨ab, 1, none⟩ = some u1 ∧ w.cell? ⟨ab, 2, none⟩ = some u2 ∧ w.cell? ⟨ab, 3, none⟩ = some u3 ∧ w.cell? ⟨ab, 4, none⟩ = some u4 ∧ Chg S W w) (g : Chg S w w') (h1 : ab ∉ S) :
    w'.cell? ⟨ab, 0, none⟩ = some u0 ∧ w'.cell? ⟨ab, 1, none⟩ = some u1 ∧ w'.cell? ⟨ab, 2, none⟩ = some u2 ∧ w'.cell? ⟨ab, 3, none⟩ = some u3 ∧ w'.cell? ⟨ab, 4, none⟩ = some u4 ∧ Chg S W w' :=
  ⟨g.cellv h.1 h1, g.cellv h.2.1 h1, g.cellv h.2.2.1 h1, g.cellv h.2.2.2.1 h1, g.cellv h.2.2.2.2.1 h1, h.2.2.2.2.2.trans g (fun _ h _ => h) (fun _ h _ => h)⟩
theorem block_as (v : Int) (x : UInt8) (hv : v = (x.toNat : Int)) (wh at_ : Int) (ba : Option Addr) (nb cb : Nat) (b : List UInt8) (w : World) (g : Reads w ba (bts b)) (gn : b.length = nb) (gc : nb ≤ cb) (gm : cb ≤ 140737488355328) :
    Calls Try.prog 11 #[.agg #[.int .i64 wh, .int .i64 at_, .int .u8 v, .slice ba nb cb, .bool false]] w fun e w' => ∃ fb fo c, e = .returned (.slice (some ⟨fb, fo, none⟩) 256 c) ∧ Room w' w.heap.size (some ⟨fb, fo, none⟩) 256 c (bts (blockB x b false)) ∧ Chg [] w w' ∧ 256 ≤ c ∧ c ≤ 256 := by
  rw [hv]
  refine (block_any wh at_ x ba nb cb b false w g gn gc gm).mono ?_
  rintro e w' ⟨ao, n, c, rfl, hr, hg, hc⟩
  have hc := hc rfl
  have hn : 256 = n := by have := hr.len; rwa [bts_length, block_full] at this
  subst hn
  have := hr.le
  obtain ⟨fb, fo, rfl, _⟩ := hr.at_ (by omega)
  exact ⟨fb, fo, c, rfl, hr, hg, hr.le, by omega⟩
theorem eltS : Elt Try.prog 51 32 24 := Elt.mk (z := .slice none 0 0) Try.underlying51 (by kernel_rfl) (by kernel_rfl)
set_option maxRecDepth 100000 in
set_option maxHeartbeats 16000000 in
theorem keeps_core (a0 : Option Addr) (n0 c0 : Nat) (acts0 : Nat → ActD) (a1 : Option Addr) (n1 c1 : Nat) (acts1 : Nat → ActD) (ap : Option Addr) (np cp : Nat) (ps : List UInt8) (w : World)
    (gn0 : n0 ≤ c0) (gc0 : c0 ≤ 140737488351232) (ga0 : ActsAt w a0 n0 acts0) (gn1 : n1 ≤ c1) (gc1 : c1 ≤ 140737488351232) (ga1 : ActsAt w a1 n1 acts1) (gp : Reads w ap (bts ps)) (gpn : ps.length = np) (gpc : np ≤ cp) (gpm : cp ≤ 140737488351232) :
    Calls Try.prog 4 #[.slice a0 n0 c0, .slice a1 n1 c1, .slice ap np cp] w fun e w' => e = .returned (.bool true) ∧ Chg [] w w' := by
  go_enter Try.func4, Try.ntmps4
  go_wp2_with fail
  refine (own_new 4 (by decide) (by decide) w).mono ?_
  rintro e w1 ⟨db, g, rfl, h1⟩
  go_wp2_with fail
  refine (awake_any w1).mono ?_
  rintro e w2 ⟨rfl, hg2⟩
  replace h1 := h1.keep hg2
  clear hg2
  by_cases h40 : 40 < n0 + n1
  · have e40 : decide ((40 : Int) < (n0 : Int) + (n1 : Int)) = true := decide_eq_true (by omega)
    have e41 : decide (40 < n0 + n1) = true := decide_eq_true h40
    go_wp2_with fail
    go_ret
    exact ⟨rfl, h1.c⟩
  have e40 : decide ((40 : Int) < (n0 : Int) + (n1 : Int)) = false := decide_eq_false (by omega)
  have hn0 : n0 ≤ 40 := by omega
  have hn1 : n1 ≤ 40 := by omega
  have hT1 : OwnT w w2 (fun _ => 0) db g none 0 (RS.new 4) := ⟨h1.d, h1.c, fun _ _ => rfl, h1.W⟩
  clear h1
  go_wp2_with fail
  go_loopw [46] (fun i wr => ∃ (k : Nat) (fa : Option Addr) (cf : Nat) (st : RS), i = .int .i64 k ∧ k ≤ n0 ∧ OwnT w wr (fun _ => 0) db g fa cf st ∧ st.left = 0 ∧ st.gone = false ∧ st.count = 4 ∧ st.L.length = 4 * k) (fun i _ => n0 - (intOf i).toNat)
  case atStart => exact ⟨0, none, 0, _, rfl, Nat.zero_le _, hT1, rfl, rfl, rfl, rfl⟩
  case round =>
    obtain ⟨k, fa, cf, st, rfl, hk, ho, hsl, hsg, hsc, hsL⟩ := hrel
    by_cases hlt : k < n0
    · obtain ⟨b, o, rfl, hacts⟩ := ga0 (by omega)
      have hA := (hacts k hlt).old ho.c (by simp)
      clear hacts
      generalize acts0 k = A at *
      obtain ⟨a0c, a1c, a2c, a3c, a4c, aw0, aw1, arb, alb, ale, amx⟩ := hA
      have hki : (k : Int) < (n0 : Int) := by omega
      go_wp2_with fail
      generalize hab : wr.heap.size = ab
      generalize hW : wr.alloc _ = W
      have x0 : W.cell? ⟨ab, 0, none⟩ = some (.int .i64 A.wh) := by subst hW hab; simp
      have x1 : W.cell? ⟨ab, 1, none⟩ = some (.int .i64 A.num) := by subst hW hab; simp
      have x2 : W.cell? ⟨ab, 2, none⟩ = some (.int .u8 (A.x.toNat : Int)) := by subst hW hab; simp
      have x3 : W.cell? ⟨ab, 3, none⟩ = some (.slice A.ba A.nb A.cb) := by subst hW hab; simp
      have x4 : W.cell? ⟨ab, 4, none⟩ = some (.bool false) := by subst hW hab; simp
      have hgW : Chg [] wr W := by subst hW; exact Chg.alloc [] _ _
      have hzW : W.heap.size = ab + 1 := by subst hW hab; simp
      have habF : ab ∉ DF db g fa cf := fun hm => by have := (ho.d.lt ab hm).2; omega
      have hoW : OwnT w W (fun _ => 0) db g fa cf st := ho.keep hgW (fun _ _ => rfl)
      have hrb : Reads W A.ba (bts A.b) := arb.keep hgW
      clear hW a0c a1c a2c a3c a4c
      generalize hv : (A.x.toNat : Int) = v at *
      have Hv := mkHid hv
      clear hv
      go_region_held3 (fun w' => w'.cell? ⟨ab, 0, none⟩ = some (.int .i64 A.wh) ∧ w'.cell? ⟨ab, 1, none⟩ = some (.int .i64 A.num) ∧ w'.cell? ⟨ab, 2, none⟩ = some (.int .u8 v) ∧ w'.cell? ⟨ab, 3, none⟩ = some (.slice A.ba A.nb A.cb) ∧ w'.cell? ⟨ab, 4, none⟩ = some (.bool false) ∧ Chg (DF db g fa cf) W w')
        (first | exact keepA ⟨x0, x1, x2, x3, x4, Chg.refl _ _⟩ (Chg.drew _ _) habF | exact keepA (by assumption) hgc habF | exact keepA (by assumption) (hgf.mono (by simp)) habF | assumption)
        (first | (go_at_call 26; refine (within_any A.num 4 (by decide) (by decide) aw1 _).mono ?_; rintro e w' ⟨⟨j, hj, rfl⟩, rfl⟩) | (go_at_call 11; refine (block_as v A.x Hv.out.symm A.wh A.num A.ba A.nb A.cb A.b _ (hrb.keep (Chg.drew [] W)) alb ale (by omega)).mono ?_; rintro e w5 ⟨fb, fo, cb5, rfl, hrf, hgf, hc5, hm5⟩) | (go_at_call 12; refine (ownT_write j w (mark (fun _ => 0) W.heap.size 19) db g fa cf st _ (hoW.keep ((Chg.drew [] W).then hgf) (fun k hk => mark_old hk)) (by omega) _ 256 cb5 _ hrf.reads (block_full _ _) hc5 (by omega) (fun k hk => by simp [blk] at hk; rw [hk]; have := hrf.lt fb (by rw [fp_some _ _ _ (by omega)]; simp); exact ⟨by rw [mark_new (show W.heap.size ≤ fb from this.1)]; decide, this.2⟩)).mono ?_; rw [write_plain st j _ hsg hsl (by omega) (block_full _ _)]; rintro e w6 ⟨rfl, fa6, cf6, h6, hgc⟩))
      go_wp2_with fail
      refine ⟨⟨k + 1, fa6, cf6, _, by go_num, by omega, ⟨h6.d, h6.c, fun _ _ => rfl, h6.W⟩, hsl, hsg, hsc, ?_⟩, by simp [intOf]; omega⟩
      show (st.L ++ flies j _ 4).length = _
      rw [List.length_append, flies_len]
      omega
    · have hkn : k = n0 := by omega
      subst hkn
      clear hlt
      go_wp2_with fail
      refine (ownT_barrier w (fun _ => 0) db g fa cf st _ ho).mono ?_
      rw [barrier_plain st hsg hsl]
      rintro e w3 ⟨rfl, fa3, cf3, h3, hg3⟩
      obtain ⟨stB, hstB⟩ : ∃ stB, stB = { st with S := settle st.S st.L, L := [] } := ⟨_, rfl⟩
      have h3 : OwnT w w3 (mark (fun _ => 0) wr.heap.size 0) db g fa3 cf3 stB := by rw [hstB]; exact h3
      have hBL : stB.L = [] := by rw [hstB]
      have hBl : stB.left = 0 := by rw [hstB]; exact hsl
      have hBg : stB.gone = false := by rw [hstB]; exact hsg
      have hBc : stB.count = 4 := by rw [hstB]; exact hsc
      have hBS : stB.S.length = 16 := by have := h3.W.1; omega
      have hB64 := h3.d.lS
      clear hstB hsl hsg hsc hsL ho hg3
      go_wp2_with fail
      refine (flight_any w.heap.size db g fa3 cf3 stB w3 h3.d).mono ?_
      rintro e w' ⟨he, rfl⟩
      replace he : e = .returned (.int .i64 0) := he.trans (ret_int (by rw [hBL]; rfl))
      subst he
      go_wp2_with fail
      have hW0 : ∀ (cs : Array Value) (e : TypeId), cs.size = 16 → MayAt (w3.alloc (.cells cs e)) w.heap.size (mark (fun _ => 0) w3.heap.size 1) w3.heap.size 0 0 stB.S := fun cs e hcs =>
        ⟨mark_new (Nat.le_refl _), by simp, h3.c.size, fun s hs => frozen_of_row _ _ _ _ _ (heap_alloc_last w3 _), fun s hs => ⟨cs[s], by rw [cell_of_row _ _ _ _ _ _ (heap_alloc_last w3 _)]; simp [hcs, hs]⟩, fun s hs => by omega⟩
      have hM0 := hW0 (Array.replicate 16 (.slice none 0 0)) 52 rfl
      have hO0 : OwnT w (w3.alloc (.cells (Array.replicate 16 (.slice none 0 0)) 52)) (mark (fun _ => 0) w3.heap.size 1) db g fa3 cf3 stB := by
        have h3' : OwnT w w3 (fun _ => 0) db g fa3 cf3 stB := ⟨h3.d, h3.c, fun _ _ => rfl, h3.W⟩
        exact h3'.keep (Chg.alloc [] w3 _) (fun k hk => mark_old hk)
      have hw03 : w.heap.size ≤ w3.heap.size := h3.c.size
      clear hW0
      generalize hmb : w3.heap.size = mb at *
      generalize hW : w3.alloc _ = W
      have hM1 : MayAt W w.heap.size (mark (fun _ => 0) mb 1) mb 0 0 stB.S := by rw [← hW]; exact hM0
      have hO1 : OwnT w W (mark (fun _ => 0) mb 1) db g fa3 cf3 stB := by rw [← hW]; exact hO0
      clear hM0 hO0 hW hmb h3
      have hmaxL : maxLen = 9223372036854775807 := rfl
      go_loopw [68] (fun i wq => ∃ (q : Nat) (tag : Nat → Nat), i = .int .i64 q ∧ q ≤ 16 ∧ OwnT w wq tag db g fa3 cf3 stB ∧ MayAt wq w.heap.size tag mb 0 q stB.S) (fun i _ => 16 - (intOf i).toNat)
      case atStart => exact ⟨0, _, rfl, Nat.zero_le _, hO1, hM1⟩
      case round =>
        obtain ⟨q, tag, rfl, hq, hO, hM⟩ := hrel
        by_cases hq16 : q < 16
        · have hd : decide ((q : Int) < 16) = true := decide_eq_true (by omega)
          have hd2 : decide (q < 16) = true := decide_eq_true (by omega)
          obtain ⟨A, hA⟩ : ∃ A, A = q / 4 := ⟨_, rfl⟩
          obtain ⟨r, hr⟩ : ∃ r, r = q % 4 := ⟨_, rfl⟩
          have hqA : q = 4 * A + r := by omega
          have hA4 : A < 4 := by omega
          have hr4 : r < 4 := by omega
          have t1 : Int.tdiv (q : Int) 4 = (A : Int) := by rw [Int.tdiv_eq_ediv_of_nonneg (by omega)]; omega
          have t2 : (q : Int) / 4 = (A : Int) := by omega
          have t3 : Int.tmod (q : Int) 4 = (r : Int) := by rw [Int.tmod_eq_emod_of_nonneg (by omega)]; omega
          have t4 : (q : Int) % 4 = (r : Int) := by omega
          have hwhy : whyN stB (A : Int) = 0 := by unfold whyN; rw [hBg, if_neg (by decide), if_neg (by omega)]
          have HqA := mkHid hqA
          have Hwhy := mkHid hwhy
          have hqi : (q : Int) < 16 := by omega
          obtain ⟨u0, hu0⟩ := hM.ex q hq16
          have hfz0 := hM.fz q hq16
          clear hA hr hqA hwhy
          go_wp2_with fail
          refine (dread_at A w.heap.size db g fa3 cf3 stB wr hO.d hO.W Hwhy.out).mono ?_
          rintro e w4 ⟨rb, rfl, hrd, hgd⟩
          have hrb := hrd.lt rb (by rw [fp_some _ _ _ (by decide)]; simp)
          have hpart := reads_part stB A r hr4 (by omega) hB64 (fun f hf => by rw [hBL] at hf; simp at hf)
          rw [cur_calm stB hBL, ← HqA.out] at hpart
          have hxr : Reads w4 (some ⟨rb, 64 * r, none⟩) (bts (stB.S.getD q [])) := by
            have := ((hrd.reads).drop (l := 64 * r)).take 64
            rwa [bts_drop, bts_take, hpart, Nat.zero_add] at this
          have hl64 : (stB.S.getD q []).length = 64 := by
            rw [List.getD_eq_getElem?_getD, List.getElem?_eq_getElem (by omega)]
            exact hB64 _ (List.getElem_mem (by omega))
          have ht4 : ∀ k, k < wr.heap.size → mark tag wr.heap.size 18 k = tag k := fun k hk => mark_old hk
          have hM4 := hM.chg (tag' := mark tag wr.heap.size 18) (N' := 0) hgd (Nat.le_refl _) (by simp) (by omega) ht4
          have hO4 := hO.keep (tag' := mark tag wr.heap.size 18) hgd ht4
          have hw4 : w.heap.size ≤ w4.heap.size := hO4.c.size
          have hF := hM4.first hq16 (Chg.alloc [] w4 (.cells #[.slice (some ⟨rb, 64 * r, none⟩) 64 (256 - 64 * r)] 32)) (Chg.alloc [] w4 _).size (mark_new hrb.1) hrb.2 hxr hl64 (by omega) (by unfold maxLen; omega) hw4 rfl rfl
          have hO5 : OwnT w ((w4.alloc (.cells #[.slice (some ⟨rb, 64 * r, none⟩) 64 (256 - 64 * r)] 32)).setCell ⟨mb, q, none⟩ (.slice (some ⟨w4.heap.size, 0, none⟩) 1 1)) (mark (mark tag wr.heap.size 18) w4.heap.size (2 + q)) db g fa3 cf3 stB :=
            hO4.chg ((Chg.alloc [] w4 _).trans (Chg.setCell _ ⟨mb, q, none⟩ _) (by simp) (fun k hk _ => hk)) (fun k hk hlt => by simp at hk; rw [hk]; exact ⟨by rw [hM4.tm]; decide, hM4.bm⟩) (fun k hk => mark_old hk)
          have hfz4 := hM4.fz q hq16
          obtain ⟨u4, hu4⟩ := hM4.ex q hq16
          have hu4a := fun o => (Chg.alloc [] w4 o).cellv hu4 (by simp)
          have hfz4a := fun o => ((Chg.alloc [] w4 o).frozen (p := ⟨mb, q, none⟩) hM4.lm (by simp)).trans hfz4
          have Hh := mkHid hF
          have Hg := mkHid hO5
          clear hF hO5 hM hO hxr hpart hgd hrd hu0 hfz0
          go_wp2_with (first | (go_at_call 28; refine (sector_any rb 0 256 256 r (by omega) (by decide) (by decide) _).mono ?_; rw [Nat.zero_add]; rintro e w' ⟨rfl, rfl⟩))
          exact ⟨⟨q + 1, _, by go_num, by omega, Hg.out, Hh.out⟩, by simp [intOf]; omega⟩
        · have hq16' : q = 16 := by omega
          subst hq16'
          obtain ⟨S0, hS0⟩ : ∃ S0, S0 = stB.S := ⟨_, rfl⟩
          rw [← hS0] at hM hBS hB64
          have hM' : MayAt wr w.heap.size tag mb 0 16 (torn S0 (stB.L.zip ps)) := by rw [hBL]; exact hM
          have hBS' := hS0.symm
          clear hM hM1 hO1 hS0 hq16
          go_wp2_with fail
          go_loopw [88] (fun i wq => ∃ (k : Nat) (tag : Nat → Nat) (fa : Option Addr) (cf : Nat) (st : RS), i = .int .i64 k ∧ k ≤ n1 ∧ OwnT w wq tag db g fa cf st ∧ st.S = S0 ∧ st.left = 0 ∧ st.gone = false ∧ st.count = 4 ∧ st.L.length = 4 * k ∧ MayAt wq w.heap.size tag mb (4 * k) 16 (torn S0 (st.L.zip ps))) (fun i _ => n1 - (intOf i).toNat)
          case atStart => exact ⟨0, tag, fa3, cf3, stB, rfl, Nat.zero_le _, hO, hBS', hBl, hBg, hBc, by rw [hBL]; rfl, hM'⟩
          case round =>
            clear hO hM' hBS' hBl hBg hBc hBL
            obtain ⟨k1, tag1, fa1, cf1, st, rfl, hk1, ho, hsS, hsl, hsg, hsc, hsL, hM⟩ := hrel
            by_cases hlt : k1 < n1
            · obtain ⟨b, o, rfl, hacts⟩ := ga1 (by omega)
              have hA := (hacts k1 hlt).old ho.c (by simp)
              clear hacts
              generalize acts1 k1 = A at *
              obtain ⟨a0c, a1c, a2c, a3c, a4c, aw0, aw1, arb, alb, ale, amx⟩ := hA
              have hki : (k1 : Int) < (n1 : Int) := by omega
              go_wp2_with fail
              generalize hab : wr.heap.size = ab
              generalize hW : wr.alloc _ = W
              have x0 : W.cell? ⟨ab, 0, none⟩ = some (.int .i64 A.wh) := by subst hW hab; simp
              have x1 : W.cell? ⟨ab, 1, none⟩ = some (.int .i64 A.num) := by subst hW hab; simp
              have x2 : W.cell? ⟨ab, 2, none⟩ = some (.int .u8 (A.x.toNat : Int)) := by subst hW hab; simp
              have x3 : W.cell? ⟨ab, 3, none⟩ = some (.slice A.ba A.nb A.cb) := by subst hW hab; simp
              have x4 : W.cell? ⟨ab, 4, none⟩ = some (.bool false) := by subst hW hab; simp
              have hgW : Chg [] wr W := by subst hW; exact Chg.alloc [] _ _
              have hzW : W.heap.size = ab + 1 := by subst hW hab; simp
              have hrb : Reads W A.ba (bts A.b) := arb.keep hgW
              clear hW a0c a1c a2c a3c a4c
              generalize hv : (A.x.toNat : Int) = v at *
              have Hv := mkHid hv
              clear hv
              go_region_held3 (fun w' => w'.cell? ⟨ab, 0, none⟩ = some (.int .i64 A.wh) ∧ w'.cell? ⟨ab, 1, none⟩ = some (.int .i64 A.num) ∧ w'.cell? ⟨ab, 2, none⟩ = some (.int .u8 v) ∧ w'.cell? ⟨ab, 3, none⟩ = some (.slice A.ba A.nb A.cb) ∧ w'.cell? ⟨ab, 4, none⟩ = some (.bool false) ∧ Chg [] W w')
                (first | exact keepA ⟨x0, x1, x2, x3, x4, Chg.refl _ _⟩ (Chg.drew _ _) (by simp) | exact keepA (by assumption) hgf (by simp) | assumption)
                (first | (go_at_call 26; refine (within_any A.num 4 (by decide) (by decide) aw1 _).mono ?_; rintro e w' ⟨⟨aj, haj, rfl⟩, rfl⟩) | (go_at_call 11; refine (block_as v A.x Hv.out.symm A.wh A.num A.ba A.nb A.cb A.b _ (hrb.keep (Chg.drew [] W)) alb ale (by omega)).mono ?_; rintro e w5 ⟨fb, fo, cb5, rfl, hrf, hgf, hc5, hm5⟩))
              have hgd : Chg [] wr w5 := (hgW.then (Chg.drew [] W)).then hgf
              have hfb := hrf.lt fb (by rw [fp_some _ _ _ (by omega)]; simp)
              have hfb2 : wr.heap.size ≤ fb := by have := hfb.1; have h' : W.drew.heap.size = W.heap.size := rfl; omega
              have ho5 := ho.keep (tag' := mark tag1 wr.heap.size 19) hgd (fun k hk => mark_old hk)
              have hM5 := hM.chg (tag' := mark tag1 wr.heap.size 19) (N' := 4 * k1) hgd (by omega) (by simp) (by omega) (fun k hk => mark_old hk)
              have htf : mark tag1 wr.heap.size 19 fb = 19 := mark_new hfb2
              have hlB := block_full A.x A.b
              generalize blockB A.x A.b false = Bk at *
              generalize mark tag1 wr.heap.size 19 = tag2 at ho5 hM5 htf
              clear x0 x1 x2 x3 x4 hrb hgf hgW hM ho arb
              go_wp2_with fail
              refine (ownT_write aj w tag2 db g fa1 cf1 st w5 ho5 (by omega) _ 256 cb5 _ hrf.reads hlB hc5 (by omega) (fun k hk => by simp [blk] at hk; rw [hk]; exact ⟨by rw [htf]; decide, hfb.2⟩)).mono ?_
              rw [write_plain st aj _ hsg hsl (by omega) hlB]
              rintro e w6 ⟨rfl, fa6, cf6, h6, hg6⟩
              have hM6 := hM5.chg (tag' := mark tag2 w5.heap.size 0) (N' := 4 * k1) hg6 (Nat.le_refl _) (fun k hk _ => Or.inl (ho5.t k hk)) (by omega) (fun k hk => mark_old hk)
              have htf6 : mark tag2 w5.heap.size 0 fb = 19 := by rw [mark_old hfb.2]; exact htf
              have hrB : Reads w6 (some ⟨fb, fo, none⟩) (bts Bk) := hrf.reads.chg hg6 (fun k hk hm => by simp [blk] at hk; rw [hk] at hm; have := ho5.t fb hm; omega)
              have hfb6 : fb < w6.heap.size := Nat.lt_of_lt_of_le hfb.2 hg6.size
              obtain ⟨st6, hst6⟩ : ∃ st6, st6 = { st with L := st.L ++ flies aj Bk 4 } := ⟨_, rfl⟩
              rw [← hst6] at h6
              generalize mark tag2 w5.heap.size 0 = tag3 at h6 hM6 htf6
              have hM7 : MayAt w6 w.heap.size tag3 mb (4 * k1 + 0) 16 (torn S0 ((st.L ++ flies aj Bk 0).zip ps)) := by simpa [flies] using hM6
              have Hst6 := mkHid hst6
              clear hM6 hM5 ho5 hrf hst6 htf hgd
              go_wp2_with fail
              go_loopw [104] (fun i wq => ∃ (j : Nat) (tag : Nat → Nat), i = .int .i64 j ∧ j ≤ 4 ∧ OwnT w wq tag db g fa6 cf6 st6 ∧ MayAt wq w.heap.size tag mb (4 * k1 + j) 16 (torn S0 ((st.L ++ flies aj Bk j).zip ps)) ∧ tag fb = 19 ∧ fb < wq.heap.size ∧ Reads wq (some ⟨fb, fo, none⟩) (bts Bk)) (fun i _ => 4 - (intOf i).toNat)
              case atStart => exact ⟨0, tag3, rfl, by omega, h6, hM7, htf6, hfb6, hrB⟩
              case round =>
                clear h6 hM7 htf6 hfb6 hrB
                obtain ⟨j, tag, rfl, hj, hO, hM, htf, hfbl, hrB⟩ := hrel
                by_cases hj4 : j < 4
                · have hd4 : decide ((j : Int) < 4) = true := decide_eq_true (by omega)
                  have hd4' : decide (j < 4) = true := decide_eq_true (by omega)
                  obtain ⟨n, hn⟩ : ∃ n, n = 4 * k1 + j := ⟨_, rfl⟩
                  have hlen : (st.L ++ flies aj Bk j).length = n := by rw [List.length_append, flies_len, hsL, hn]
                  have hsn := torn_snoc S0 (st.L ++ flies aj Bk j) (4 * aj + j, secOf Bk j) ps
                  rw [List.append_assoc, ← flies_succ, hlen] at hsn
                  have e1 : 4 * (k1 : Int) + (j : Int) = (n : Int) := by omega
                  have He1 := mkHid e1
                  have hn160 : n < 160 := by omega
                  clear hlen hn e1
                  go_upto_if 114 with fail
                  simp only [He1.out]
                  obtain ⟨p, hp⟩ : ∃ p : Nat, p = if h : n < ps.length then ps[n].toNat else 0 := ⟨_, rfl⟩
                  have hp256 : p < 256 := by rw [hp]; split; exact (ps[n]).toNat_lt; decide
                  obtain ⟨q, hq⟩ : ∃ q : Nat, q = if p = 1 then 64 else (p - 2) % 65 := ⟨_, rfl⟩
                  have hq64 : q ≤ 64 := by rw [hq]; split <;> omega
                  have hT : torn S0 ((st.L ++ flies aj Bk (j + 1)).zip ps) = if p = 0 then torn S0 ((st.L ++ flies aj Bk j).zip ps) else laid (torn S0 ((st.L ++ flies aj Bk j).zip ps)) (4 * aj + j) (secOf Bk j) q := by
                    rw [hsn, hq, hp]
                    by_cases h : n < ps.length
                    · rw [dif_pos h, dif_pos h]; rfl
                    · rw [dif_neg h, dif_neg h, if_pos rfl]
                  have HT := mkHid hT
                  have Hq := mkHid hq
                  clear hT hsn hq
                  go_cut [21] (fun v wx => v = .int .i64 p ∧ wr = wx)
                  case first =>
                    by_cases hnp : n < np
                    · have hnl : n < ps.length := by omega
                      have hpv : p = ps[n].toNat := by rw [hp, dif_pos hnl]
                      obtain ⟨pb, po, rfl, hpc⟩ := (gp.chg hO.c (by simp)) (by rw [bts_length]; omega)
                      have x3 := hpc n _ (bts_get ps n hnl)
                      rw [← hpv] at x3
                      have hdn : decide (n < np) = true := decide_eq_true hnp
                      have hin : (n : Int) < (np : Int) := by omega
                      clear hpc hp hpv
                      go_wp2_with fail
                      go_meet
                      exact ⟨rfl, rfl⟩
                    · have hdn : decide (n < np) = false := decide_eq_false hnp
                      have hp0 : p = 0 := by rw [hp, dif_neg (by omega)]
                      have Hp0 := mkHid hp0
                      clear hp hp0
                      go_wp2_with fail
                      go_meet
                      exact ⟨by rw [Hp0.out]; rfl, rfl⟩
                  case rest =>
                    obtain ⟨rfl, rfl⟩ := hcut
                    clear hp
                    by_cases hp0 : p = 0
                    · have hpd : ((p : Int) == 0) = true := beq_iff_eq.2 (by omega)
                      have HT2 := HT.out
                      rw [if_pos hp0] at HT2
                      have HT3 := mkHid HT2
                      clear HT2 hp0
                      go_wp2_with fail
                      exact ⟨⟨j + 1, tag, by go_num, by omega, hO, by rw [HT3.out]; exact hM.chg (Chg.refl [] _) (Nat.le_succ _) (by simp) (by omega) (fun _ _ => rfl), htf, hfbl, hrB⟩, by simp [intOf]; omega⟩
                    · have hpd : ((p : Int) == 0) = false := beq_eq_false_iff_ne.2 (by omega)
                      have HT2 := HT.out
                      rw [if_neg hp0] at HT2
                      have HT3 := mkHid HT2
                      have hp1 : 1 ≤ p := by omega
                      clear HT2 hp0
                      go_upto_if 123 with fail
                      go_cut [22] (fun v wx => v = .int .i64 q ∧ wr = wx)
                      case first =>
                        by_cases h1 : p = 1
                        · have hq1 : q = 64 := by rw [Hq.out, if_pos h1]
                          have Hq1 := mkHid hq1
                          have d1 : decide ((1 : Int) < (p : Int)) = false := decide_eq_false (by omega)
                          rw [d1]
                          clear hq1 h1 d1
                          go_wp2_with fail
                          go_meet
                          exact ⟨by rw [Hq1.out]; rfl, rfl⟩
                        · have hq1 : q = (p - 2) % 65 := by rw [Hq.out, if_neg h1]
                          have Hq1 := mkHid hq1
                          have d1 : decide ((1 : Int) < (p : Int)) = true := decide_eq_true (by omega)
                          rw [d1]
                          have e4 : ((p : Int) - 2) % 65 = (q : Int) := by omega
                          have e3 : ((p : Int) - 2).tmod 65 = (q : Int) := by rw [Int.tmod_eq_emod_of_nonneg (by omega)]; exact e4
                          clear hq1 h1
                          go_wp2_with fail
                          go_meet
                          exact ⟨rfl, rfl⟩
                      case rest =>
                        obtain ⟨rfl, rfl⟩ := hcut
                        go_upto_region 41 with fail
                        obtain ⟨s, hs⟩ : ∃ s, s = 4 * aj + j := ⟨_, rfl⟩
                        have hs16 : s < 16 := by omega
                        have e2 : 4 * (aj : Int) + (j : Int) = (s : Int) := by omega
                        simp only [e2]
                        rw [← hs] at HT3
                        obtain ⟨ao, n', c', vs, xb, xo, xc, b1, b2, b3, b4, b5, b6, b7, b8, b9, b10, b11⟩ := hM.row s hs16
                        obtain ⟨yb, yo, rfl, _, _, hyv⟩ := b2.at_ (by have := b2.le; omega)
                        have y1 := hyv _ _ b5
                        have hsi : (s : Int) < 16 := by omega
                        obtain ⟨N, hN⟩ : ∃ N, N = n' + 1 := ⟨_, rfl⟩
                        rw [← hN] at b1
                        have hni : (n' : Int) < (N : Int) := by omega
                        have w1 : IntKind.i64.wrap ((N : Int) - 1) = (n' : Int) := by rw [IntKind.wrap_i64]; omega
                        have hN42 : N ≤ 161 := by omega
                        have HN := mkHid hN
                        clear hN
                        have hn2 : n' ≤ 160 := by omega
                        clear e2 hs hyv
                        go_region_held3 (fun w' => w'.cell? ⟨mb, s, none⟩ = some (.slice (some ⟨yb, yo, none⟩) N c') ∧ w'.cell? ⟨yb, yo + n', none⟩ = some (.slice (some ⟨xb, xo, none⟩) 64 xc))
                          (first | exact ⟨(Chg.drew [] _).cellv b1 (by simp), (Chg.drew [] _).cellv y1 (by simp)⟩ | assumption)
                          (fail)
                        obtain ⟨T, hT⟩ : ∃ T, T = torn S0 ((st.L ++ flies aj Bk j).zip ps) := ⟨_, rfl⟩
                        rw [← hT] at b10 b11 HT3 hM
                        have hTl : T.length = 16 := by rw [hT, torn_len]; exact hBS
                        have hgV : Chg [] wr wr.drew := Chg.drew [] wr
                        generalize wr.drew = V at *
                        have hMV := hM.chg (tag' := tag) hgV (Nat.le_refl _) (by simp) (by omega) (fun _ _ => rfl)
                        have hOV := hO.keep (tag' := tag) hgV (fun _ _ => rfl)
                        have rB : Reads V (some ⟨fb, fo, none⟩) (bts Bk) := hrB.keep hgV
                        have hfbV : fb < V.heap.size := Nat.lt_of_lt_of_le hfbl hgV.size
                        have b1V := hgV.cellv b1 (by simp)
                        have b2V := b2.chg hgV (by simp)
                        rw [← HN.out] at b2V
                        have b10V := b10.keep hgV
                        have hsec : (secOf Bk j).length = 64 := by simp [secOf]; omega
                        have rb1 : Reads V (some ⟨fb, fo + 64 * j, none⟩) (bts ((secOf Bk j).take q)) := by
                          have := ((rB.drop (l := 64 * j)).take 64).take q
                          rwa [bts_drop, bts_take, bts_take] at this
                        have rb2 : Reads V (cut (some ⟨xb, xo, none⟩) xc q) (bts ((T.getD s []).drop q)) := by
                          have := b10V.cut xc q (by rw [bts_length, b11]; exact b6)
                          rwa [bts_drop] at this
                        have hl1 : (bts ((secOf Bk j).take q)).length = q := by rw [bts_length, List.length_take]; omega
                        have hl2 : (bts ((T.getD s []).drop q)).length = 64 - q := by rw [bts_length, List.length_drop, b11]
                        have hsl1 := run_take_k (P := Try.prog) (some ⟨fb, fo + 64 * j, none⟩) 64 (cb5 - 64 * j) q Try.underlying32 oneB (by omega)
                        have hsl2 := run_from_k (P := Try.prog) (some ⟨xb, xo, none⟩) 64 xc q Try.underlying32 oneB hq64
                        have e64 : q + (64 - q) = 64 := by omega
                        have Hl1 := mkHid hl1
                        have Hl2 := mkHid hl2
                        have Hsec := mkHid hsec
                        have HTl := mkHid hTl
                        have Hb11 := mkHid b11
                        have hmS : mb ∉ fp (some ⟨yb, yo, none⟩) c' := fun hm => by have := b4 mb hm; rw [hM.tm] at this; omega
                        have HmS := mkHid hmS
                        have hfzV := hMV.fz s hs16
                        have hwV : w.heap.size ≤ V.heap.size := hOV.c.size
                        have hrlt : ∀ k, k ∈ fp (some ⟨yb, yo, none⟩) c' → k < V.heap.size := fun k hk => (b2V.lt k hk).2
                        have b1d := (Chg.drew [] V).cellv b1V (by simp)
                        have b1a := fun o => (Chg.alloc [] V o).cellv b1V (by simp)
                        generalize hcu : cut (some ⟨xb, xo, none⟩) xc q = uu at *
                        clear hl1 hl2 hsec hTl b11 hmS hM hO hrB b1 b2 b10 y1 hT hcu w1 hni
                        go_wp2_with fail
                        go_region_law (first | (go_simp; go_at_call 28; refine (sector_any fb fo 256 cb5 j (by omega) hc5 (by omega) _).mono ?_; rintro e w' ⟨rfl, rfl⟩) | (refine step_append_row rfl (.tmp 145) (.tmp 150) 32 rfl 5 1 eltB V.heap.size _ 0 0 [] rfl (Room.nil _ _ _) (Chg.alloc [] V.drew _).size (some ⟨fb, fo + 64 * j, none⟩) q (cb5 - 64 * j) (bts ((secOf Bk j).take q)) rfl (rb1.keep ((Chg.drew [] V).then (Chg.alloc [] _ _))) Hl1.out (bts_one _) (by unfold maxLen; omega) (by omega) ?_; intro a7 c7 w7 hr7 hg7 hf7; simp only [Nat.zero_add, List.nil_append] at hr7; have hV7 : Chg [] V w7 := ((Chg.drew [] V).then (Chg.alloc [] _ _)).then hg7; have b17 := hV7.cellv b1V (by simp)) | (refine step_append_row rfl (.tmp 151) (.tmp 154) 32 rfl 5 1 eltB V.heap.size a7 q c7 _ rfl hr7 hV7.size uu (64 - q) (xc - q) (bts ((T.getD s []).drop q)) rfl (rb2.keep hV7) Hl2.out (bts_one _) (by unfold maxLen; omega) (by omega) ?_; intro a8 c8 w8 hr8 hg8 hf8; have hV8 : Chg [] V w8 := hV7.own hg8 hr7; rw [e64] at hr8; have b18 := hV8.cellv b1V (by simp); have b18a := fun o => (Chg.alloc [] w8 o).cellv b18 (by simp)) | (refine step_append_one rfl (.tmp 144) (.tmp 156) 51 rfl 32 24 eltS w.heap.size (some ⟨yb, yo, none⟩) N c' vs rfl (b2V.chg hV8 (by simp)) (Nat.le_trans hwV hV8.size) (.slice a8 64 c8) 1 rfl rfl (by unfold maxLen; omega) (by omega) ?_; intro a9 c9 w9 hr9 hg9 hf9; have k1c := hg9.cellv b18 HmS.out; have k2c : w9.frozen? ⟨mb, s, none⟩ = false := (hg9.frozen (p := ⟨mb, s, none⟩) (block_lt_of_cell b18) HmS.out).trans ((hV8.frozen (p := ⟨mb, s, none⟩) hMV.lm (by simp)).trans hfzV)))
                        all_goals
                          obtain ⟨tag', z1, z2, z3, z4, z5⟩ := next_all hMV hOV hs16 HTl.out Hsec.out hq64 Hb11.out hV8 hr8 HN.out b1V b2V b3 b4 hg9 hr9 hf9 htf hfbV rB
                          rw [← HT3.out] at z2
                          generalize w9.setCell ⟨mb, s, none⟩ (.slice a9 (N + 1) c9) = w10 at z1 z2 z4 z5 ⊢
                          clear hr8 hr9 hg9 hf9 k1c k2c
                          go_wp2_with fail
                          exact ⟨⟨j + 1, tag', by go_num, by omega, z1, z2, z3, z4, z5⟩, by simp [intOf]; omega⟩
                · have hj4' : j = 4 := by omega
                  subst hj4'
                  have hmay : MayAt wr w.heap.size tag mb (4 * (k1 + 1)) 16 (torn S0 (st6.L.zip ps)) := by
                    rw [Hst6.out]
                    exact hM
                  have hst6L : st6.L.length = 4 * (k1 + 1) := by
                    rw [Hst6.out]
                    show (st.L ++ flies aj Bk 4).length = _
                    rw [List.length_append, flies_len]
                    omega
                  have hst6S : st6.S = S0 ∧ st6.left = 0 ∧ st6.gone = false ∧ st6.count = 4 := by
                    rw [Hst6.out]
                    exact ⟨hsS, hsl, hsg, hsc⟩
                  have HL6 := mkHid hst6L
                  have HS6 := mkHid hst6S
                  clear hst6L hst6S hj4
                  go_wp2_with fail
                  go_roundw
                  case rel =>
                    repeat (first | exact ⟨⟨k1 + 1, tag, fa6, cf6, st6, by go_num, by omega, hO, HS6.out.1, HS6.out.2.1, HS6.out.2.2.1, HS6.out.2.2.2, HL6.out, hmay⟩, rfl⟩ | apply Exists.intro)
                  case measure => simp [intOf]; omega
            · have hkn : k1 = n1 := by omega
              subst hkn
              clear hlt
              have hgp : Reads wr ap (bts ps) := gp.chg ho.c (by simp)
              go_wp2_with fail
              refine (ownT_crash0 w tag1 db g fa1 cf1 st wr ho ap np cp ps hgp gpn (by unfold maxLen; omega) (fun h0 k hk => Or.inr (gp.lt (by rw [bts_length]; exact h0) k hk))).mono ?_
              rintro e w7 ⟨rfl, h7, hg7⟩
              have hM7 := hM.chg (tag' := mark tag1 wr.heap.size 0) (N' := 4 * k1) hg7 (Nat.le_refl _) (fun k hk _ => Or.inl (ho.t k hk)) (by omega) (fun k hk => mark_old hk)
              obtain ⟨stE, hstE⟩ : ∃ stE, stE = crash st ps := ⟨_, rfl⟩
              obtain ⟨T, hT⟩ : ∃ T, T = torn S0 (st.L.zip ps) := ⟨_, rfl⟩
              rw [← hstE] at h7
              rw [← hT] at hM7
              have hEL : stE.L = [] := by rw [hstE]; rfl
              have hEg : stE.gone = false := by rw [hstE]; rfl
              have hEc : stE.count = 4 := by rw [hstE]; exact hsc
              have hES : stE.S = T := by rw [hstE, hT, ← hsS]; rfl
              have hTl : T.length = 16 := by rw [hT, torn_len]; exact hBS
              have hE64 := h7.d.lS
              generalize mark tag1 wr.heap.size 0 = tag4 at h7 hM7
              clear hstE hT ho hM hg7 hgp hsS hsl hsg hsc hsL
              go_wp2_with fail
              go_loopw [164] (fun i wq => ∃ (q : Nat) (tag : Nat → Nat), i = .int .i64 q ∧ q ≤ 16 ∧ OwnT w wq tag db g none 0 stE ∧ MayAt wq w.heap.size tag mb (4 * k1) 16 T) (fun i _ => 16 - (intOf i).toNat)
              case atStart => exact ⟨0, tag4, rfl, Nat.zero_le _, h7, hM7⟩
              case round =>
                clear h7 hM7
                obtain ⟨q, tag, rfl, hq, hO, hM⟩ := hrel
                by_cases hq16 : q < 16
                · have hd : decide ((q : Int) < 16) = true := decide_eq_true (by omega)
                  have hd2 : decide (q < 16) = true := decide_eq_true (by omega)
                  obtain ⟨A, hA⟩ : ∃ A, A = q / 4 := ⟨_, rfl⟩
                  obtain ⟨r, hr⟩ : ∃ r, r = q % 4 := ⟨_, rfl⟩
                  have hqA : q = 4 * A + r := by omega
                  have hA4 : A < 4 := by omega
                  have hr4 : r < 4 := by omega
                  have t1 : Int.tdiv (q : Int) 4 = (A : Int) := by rw [Int.tdiv_eq_ediv_of_nonneg (by omega)]; omega
                  have t2 : (q : Int) / 4 = (A : Int) := by omega
                  have t3 : Int.tmod (q : Int) 4 = (r : Int) := by rw [Int.tmod_eq_emod_of_nonneg (by omega)]; omega
                  have t4 : (q : Int) % 4 = (r : Int) := by omega
                  have hwhy : whyN stE (A : Int) = 0 := by unfold whyN; rw [hEg, if_neg (by decide), if_neg (by omega)]
                  have HqA := mkHid hqA
                  have Hwhy := mkHid hwhy
                  have hqi : (q : Int) < 16 := by omega
                  clear hA hr hqA hwhy
                  go_wp2_with fail
                  refine (dread_at A w.heap.size db g none 0 stE wr hO.d hO.W Hwhy.out).mono ?_
                  rintro e w4 ⟨rb, rfl, hrd, hgd⟩
                  have hpart := reads_part stE A r hr4 (by rw [hES]; omega) hE64 (fun f hf => by rw [hEL] at hf; simp at hf)
                  rw [cur_calm stE hEL, ← HqA.out, hES] at hpart
                  have hxr : Reads w4 (some ⟨rb, 64 * r, none⟩) (bts (T.getD q [])) := by
                    have := ((hrd.reads).drop (l := 64 * r)).take 64
                    rwa [bts_drop, bts_take, hpart, Nat.zero_add] at this
                  have hM4 := hM.chg (tag' := mark tag wr.heap.size 18) (N' := 4 * k1) hgd (Nat.le_refl _) (by simp) (by omega) (fun k hk => mark_old hk)
                  have hO4 := hO.keep (tag' := mark tag wr.heap.size 18) hgd (fun k hk => mark_old hk)
                  obtain ⟨ao, n', c', vs, xb, xo, xc, b1, b2, b3, b4, b5, b6, b7, b8, b9, b10, b11⟩ := hM4.row q hq16
                  obtain ⟨yb, yo, rfl, _, _, hyv⟩ := b2.at_ (by have := b2.le; omega)
                  have y1 := hyv _ _ b5
                  obtain ⟨N, hN⟩ : ∃ N, N = n' + 1 := ⟨_, rfl⟩
                  rw [← hN] at b1
                  have hni : (n' : Int) < (N : Int) := by omega
                  have w1 : IntKind.i64.wrap ((N : Int) - 1) = (n' : Int) := by rw [IntKind.wrap_i64]; omega
                  have hN42 : N ≤ 161 := by omega
                  have HN := mkHid hN
                  have Hb11 := mkHid b11
                  clear hN hyv hrd hM hO hgd hpart b11
                  go_wp2_with fail
                  go_region_held3 (fun w' => w'.cell? ⟨mb, q, none⟩ = some (.slice (some ⟨yb, yo, none⟩) N c') ∧ w'.cell? ⟨yb, yo + n', none⟩ = some (.slice (some ⟨xb, xo, none⟩) 64 xc))
                    (first | exact ⟨(Chg.drew [] _).cellv b1 (by simp), (Chg.drew [] _).cellv y1 (by simp)⟩ | assumption)
                    (first | (go_at_call 28; refine (sector_any rb 0 256 256 r (by omega) (by decide) (by decide) _).mono ?_; rw [Nat.zero_add]; rintro e w' ⟨rfl, rfl⟩) | (go_at_call 16; refine (equal_any _ 64 _ (T.getD q []) _ 64 _ (T.getD q []) _ (hxr.keep (Chg.drew [] w4)) Hb11.out (b10.keep (Chg.drew [] w4)) Hb11.out).mono ?_; rw [decide_eq_true rfl]; rintro e w' ⟨rfl, rfl⟩))
                  go_wp2_with fail
                  exact ⟨⟨q + 1, _, by go_num, by omega, hO4.keep (Chg.drew [] _) (fun _ _ => rfl), hM4.chg (Chg.drew [] _) (Nat.le_refl _) (by simp) (by omega) (fun _ _ => rfl)⟩, by simp [intOf]; omega⟩
                · have hq16' : q = 16 := by omega
                  subst hq16'
                  clear hq16
                  go_wp2_with fail
                  refine (flight_any w.heap.size db g none 0 stE wr hO.d).mono ?_
                  rintro e w' ⟨he, rfl⟩
                  replace he : e = .returned (.int .i64 0) := he.trans (ret_int (by rw [hEL]; rfl))
                  subst he
                  go_wp2_with fail
                  refine (off_any w.heap.size db g none 0 stE wr hO.d).mono ?_
                  rintro e w' ⟨he, rfl⟩
                  replace he : e = .returned (.bool false) := he.trans (ret_bool' hEg)
                  subst he
                  go_wp2_with fail
                  go_ret
                  exact ⟨rfl, hO.c⟩
end Go.Proofs.Ytinmhaffefgloaa
