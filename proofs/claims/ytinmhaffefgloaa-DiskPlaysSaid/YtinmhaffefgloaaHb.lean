/- Rows of calls are answered as the document says. -/
import Derived.Test.YtinmhaffefgloaaHa
import Derived.Test.YtinmhaffefgloaaEa
import Derived.Deep.DeepCutAuto
import Derived.Deep.CutBlock
namespace Go.Proofs.Ytinmhaffefgloaa
open Go.RowKit
set_option linter.unusedVariables false
set_option linter.unusedSimpArgs false
attribute [local go_sem ↓] Go.wp_at_zero Go.wp_at_succ

theorem RoomZ.base {z : Nat} {w : World} {B B' : Nat} {ao : Option Addr} {n c : Nat} {xs : List Value} (h : RoomZ z w B ao n c xs) (hB : B' ≤ B) : RoomZ z w B' ao n c xs :=
  ⟨h.len, h.le, h.max, fun hc => let ⟨b, o, e, h1, h2, h3⟩ := h.at_ hc; ⟨b, o, e, Nat.le_trans hB h1, h2, h3⟩⟩
theorem RefAt.base {w : World} {B B' : Nat} {F : List Nat} {rb : Nat} {sa : Option Addr} {cs : Nat} {la : Option Addr} {cl : Nat} {vs ls : List Value} {st : RS} (h : RefAt w B F rb sa cs la cl vs ls st) (hB : B' ≤ B) : RefAt w B' F rb sa cs la cl vs ls st :=
  ⟨h.c0, h.c1, h.c2, h.c3, h.c4, h.fz, h.rS.base hB, h.rL.base hB, h.ap1, h.ap2, h.ap3, h.sec, h.fly, h.inF, fun k hk => ⟨Nat.le_trans hB (h.F1 k hk).1, (h.F1 k hk).2⟩, h.lft⟩
theorem DevAt.base {w : World} {B B' db : Nat} {g : DG} {fa : Option Addr} {cf : Nat} {st : RS} (h : DevAt w B db g fa cf st) (hB : B' ≤ B) : DevAt w B' db g fa cf st :=
  ⟨h.c0, h.c1, h.c2, h.c3, h.c4, h.fz, h.rS.mono hB, h.rL.base hB, h.rN.mono hB, h.d1, h.d2, h.d3, h.f1, h.f2, h.f3, Nat.le_trans hB h.dB, h.lS, h.lL, h.lft, h.pos⟩
theorem write_small (st : RS) (z : Int) (b : List UInt8) : (write st z b).2.L.length ≤ st.L.length + 4 ∧ (write st z b).2.count = st.count := by
  have hb : (burn st).2.L = st.L ∧ (burn st).2.count = st.count := by unfold burn; split; exact ⟨rfl, rfl⟩; split <;> exact ⟨rfl, rfl⟩
  unfold write
  split
  · exact ⟨Nat.le_add_right _ _, rfl⟩
  · split
    · exact ⟨Nat.le_add_right _ _, rfl⟩
    · split
      · exact ⟨by rw [hb.1]; exact Nat.le_add_right _ _, hb.2⟩
      · exact ⟨by show ((burn st).2.L ++ _).length ≤ _; rw [hb.1]; simp [flies], hb.2⟩
theorem barrier_small (st : RS) : (barrier st).2.L.length ≤ st.L.length ∧ (barrier st).2.count = st.count := by
  have hb : (burn st).2.L = st.L ∧ (burn st).2.count = st.count := by unfold burn; split; exact ⟨rfl, rfl⟩; split <;> exact ⟨rfl, rfl⟩
  unfold barrier
  split
  · exact ⟨Nat.le_refl _, rfl⟩
  · split
    · exact ⟨by rw [hb.1]; exact Nat.le_refl _, hb.2⟩
    · exact ⟨Nat.zero_le _, hb.2⟩
/-- Both disks are st; no more than 4 m sector writes are in flight. -/
def Both (w0 w : World) (db rb n m : Nat) : Prop :=
  ∃ (g : DG) (fa : Option Addr) (cf : Nat) (F : List Nat) (sa : Option Addr) (cs : Nat) (la : Option Addr) (cl : Nat) (vs ls : List Value) (st : RS), Duo w0 w [] db g fa cf st F rb sa cs la cl vs ls st ∧ st.L.length ≤ 4 * m ∧ st.count = n
/-- A call's five cells. -/
theorem keep5 {w w' : World} {ab : Nat} {v0 v1 v2 v3 v4 : Value} {S : List Nat} (h : w.cell? ⟨ab, 0, none⟩ = some v0 ∧ w.cell? ⟨ab, 1, none⟩ = some v1 ∧ w.cell? ⟨ab, 2, none⟩ = some v2 ∧ w.cell? ⟨ab, 3, none⟩ = some v3 ∧ w.cell? ⟨ab, 4, none⟩ = some v4) (g : Chg S w w') (h1 : ab ∉ S) :
    w'.cell? ⟨ab, 0, none⟩ = some v0 ∧ w'.cell? ⟨ab, 1, none⟩ = some v1 ∧ w'.cell? ⟨ab, 2, none⟩ = some v2 ∧ w'.cell? ⟨ab, 3, none⟩ = some v3 ∧ w'.cell? ⟨ab, 4, none⟩ = some v4 :=
  ⟨g.cellv h.1 h1, g.cellv h.2.1 h1, g.cellv h.2.2.1 h1, g.cellv h.2.2.2.1 h1, g.cellv h.2.2.2.2 h1⟩
set_option maxRecDepth 100000 in
set_option maxHeartbeats 4000000 in
theorem plays_core (z : Int) (a0 : Option Addr) (n0 c0 : Nat) (acts : Nat → ActD) (w : World) (gn : n0 ≤ c0) (gc : c0 ≤ maxLen) (ga : ActsAt w a0 n0 acts) :
    Calls Try.prog 3 #[.int .i64 z, .slice a0 n0 c0] w fun e w' => e = .returned (.bool true) ∧ Chg [] w w' := by
  unfold maxLen at gc
  by_cases hz : z < 1 ∨ 1024 < z
  · go_enter Try.func3, Try.ntmps3
    go_wp2_with fail
    refine (dnew_no z hz w).mono ?_
    rintro e w1 ⟨rfl, rfl⟩
    go_wp2_with fail
    refine (new_no z hz w).mono ?_
    rintro e w1 ⟨rfl, rfl⟩
    go_wp2_with fail
    refine (awake_any w).mono ?_
    rintro e w2 ⟨rfl, hg2⟩
    go_wp2_with fail
    go_ret
    exact ⟨rfl, hg2⟩
  obtain ⟨n, rfl⟩ := Int.eq_ofNat_of_zero_le (show 0 ≤ z by omega)
  have hn1 : 1 ≤ n := by omega
  have hn2 : n ≤ 1024 := by omega
  clear hz
  go_enter Try.func3, Try.ntmps3
  go_wp2_with fail
  refine (own_new n hn1 hn2 w).mono ?_
  rintro e w1 ⟨db, g, rfl, h1⟩
  go_wp2_with fail
  refine (new_yes n hn1 hn2 w1).mono ?_
  rintro e w2 ⟨rfl, F, sa, cs, vs, hq, hg2⟩
  have hd : Duo w w2 [] db g none 0 (RS.new n) F w1.heap.size sa cs none 0 vs [] (RS.new n) :=
    ⟨by
      have := h1.add hg2 F (fun k hk => hq.F1 k hk)
      rw [List.append_nil] at this
      rw [List.nil_append]
      exact this, hq.base h1.c.size, fun k hk => by simp at hk⟩
  generalize w1.heap.size = rb at *
  clear h1 hq hg2
  go_wp2_with fail
  refine (awake_any w2).mono ?_
  rintro e w3 ⟨rfl, hg3⟩
  replace hd := hd.keep hg3
  clear hg3
  by_cases hn12 : 12 < n
  · have d1 : decide ((12 : Int) < (n : Int)) = true := decide_eq_true (by omega)
    go_wp2_with fail
    refine (blocks_any w.heap.size db g none 0 (RS.new n) w3 hd.o.d (new_whole n hn2)).mono ?_
    rintro e w' ⟨rfl, rfl⟩
    go_wp2_with fail
    go_ret
    exact ⟨by simp [RS.new], hd.o.c⟩
  have d1 : decide ((12 : Int) < (n : Int)) = false := decide_eq_false (by omega)
  go_wp2_with fail
  go_loopw [5, 48] (fun d i wr => ∃ (k db' : Nat), d = .pointer (some ⟨db', 0, none⟩) ∧ i = .int .i64 k ∧ k ≤ n0 ∧ k ≤ 200 ∧ Both w wr db' rb n k) (fun _ i _ => n0 - (intOf i).toNat)
  case atStart => exact ⟨0, db, rfl, rfl, Nat.zero_le _, by decide, g, none, 0, F, sa, cs, none, 0, vs, [], RS.new n, hd, Nat.zero_le _, rfl⟩
  case round =>
    clear hd
    obtain ⟨k, db', rfl, rfl, hk, hk2, g', fa', cf', F', sa', cs', la', cl', vs', ls', st, hd, hL, hC⟩ := hrel
    by_cases hcont : k < n0 ∧ k < 200
    · obtain ⟨hlt, h200⟩ := hcont
      obtain ⟨b, o, rfl, hacts⟩ := ga (by omega)
      have hA := (hacts k hlt).old hd.o.c (by simp)
      have arb0 := (hacts k hlt).rb
      clear hacts
      generalize acts k = A at *
      obtain ⟨a0c, a1c, a2c, a3c, a4c, aw0, aw1, arb, alb, ale, amx⟩ := hA
      have hne3 : ((k : Int) == 200) = false := beq_eq_false_iff_ne.2 (by omega)
      go_upto_block 2 with fail
      generalize hab : wr.heap.size = ab
      generalize hW : wr.alloc _ = W
      have x0 : W.cell? ⟨ab, 0, none⟩ = some (.int .i64 A.wh) := by subst hW hab; simp
      have x1 : W.cell? ⟨ab, 1, none⟩ = some (.int .i64 A.num) := by subst hW hab; simp
      have x2 : W.cell? ⟨ab, 2, none⟩ = some (.int .u8 (A.x.toNat : Int)) := by subst hW hab; simp
      have x3 : W.cell? ⟨ab, 3, none⟩ = some (.slice A.ba A.nb A.cb) := by subst hW hab; simp
      have x4 : W.cell? ⟨ab, 4, none⟩ = some (.bool A.sh) := by subst hW hab; simp
      have hgW : Chg [] wr W := by subst hW; exact Chg.alloc [] _ _
      have hzW : W.heap.size = ab + 1 := by subst hW hab; simp
      have hdW0 := hd.add hgW [ab] (fun k hk => by simp at hk; subst hk; exact ⟨by rw [hab]; exact Nat.le_refl _, by omega⟩)
      have arbW : Reads W A.ba (bts A.b) := arb.keep hgW
      clear hW a0c a1c a2c a3c a4c hd arb
      go_cut [5] (fun v wx => ∃ db'' : Nat, v = .pointer (some ⟨db'', 0, none⟩) ∧ Both w wx db'' rb n (k + 1))
      case first =>
        have hB := hdW0.o.c.size
        have hLb : st.L.length ≤ 1000000000 := by omega
        generalize hwh : A.wh = q at *
        by_cases q0 : q = 0
        · subst q0
          as_aux_lemma =>
            have habD : ab ∉ DF db' g' fa' cf' := (hdW0.o.r ab (by simp)).1
            have habF : ab ∉ F' := hdW0.a ab (by simp)
            have hcb : A.cb ≤ 140737488355328 := by omega
            have hWst := hdW0.o.W
            go_wp2_with fail
            refine (block_any 0 A.num A.x A.ba A.nb A.cb A.b A.sh W arbW alb ale hcb).mono ?_
            rintro e w5 ⟨ao, n5, c5, rfl, hr5, hg5, -⟩
            have d5 := hdW0.add hg5 (fp ao c5) (fun k hk => hr5.lt k hk)
            have f5 := keep5 ⟨x0, x1, x2, x3, x4⟩ hg5 (by simp)
            go_wp2_with fail
            have hdr : Chg [] w5 w5.drew := Chg.drew [] _
            have d5d := d5.keep hdr
            have r5d := hr5.chg hdr (by simp)
            have f5d := keep5 f5 hdr (by simp)
            have hbl := r5d.len
            rw [bts_length] at hbl
            have hBB' : ∀ (w' : World), Reads w' A.ba (bts A.b) → Calls Try.prog 11 #[.agg #[.int .i64 0, .int .i64 A.num, .int .u8 (A.x.toNat : Int), .slice A.ba A.nb A.cb, .bool A.sh]] w' fun e w'' => ∃ ao n c, e = .returned (.slice ao n c) ∧ Room w'' w'.heap.size ao n c (bts (blockB A.x A.b A.sh)) ∧ Chg [] w' w'' := fun w' hr => by
              refine (block_any 0 A.num A.x A.ba A.nb A.cb A.b A.sh w' hr alb ale hcb).mono ?_
              rintro e w'' ⟨ao, n, c, h1, h2, h3, -⟩
              exact ⟨ao, n, c, h1, h2, h3⟩
            generalize hBB : blockB A.x A.b A.sh = BB at *
            clear d5 hr5 f5 hg5 hdW0 x0 x1 x2 x3 x4 hgW arbW hBB
            go_region_held3 (fun u => u.cell? ⟨ab, 0, none⟩ = some (.int .i64 0) ∧ u.cell? ⟨ab, 1, none⟩ = some (.int .i64 A.num) ∧ u.cell? ⟨ab, 2, none⟩ = some (.int .u8 (A.x.toNat : Int)) ∧ u.cell? ⟨ab, 3, none⟩ = some (.slice A.ba A.nb A.cb) ∧ u.cell? ⟨ab, 4, none⟩ = some (.bool A.sh))
              (first | exact f5d | exact keep5 (by assumption) g6 habD | exact keep5 (by assumption) hg7 (by simp) | exact keep5 (by assumption) g8 habF | assumption)
              (first | (go_at_call 12; refine (own_write0 A.num w _ db' g' fa' cf' st _ d5d.o hLb ao n5 c5 _ r5d.reads hbl r5d.le r5d.max (fun h k hk => List.mem_append_left _ (List.mem_append_left _ (blk_mem r5d (by omega) k hk)))).mono ?_; rintro e w6 ⟨rfl, fa6, cf6, o6, g6⟩; have d6 := d5d.dev o6 g6) | (go_at_call 11; refine (hBB' _ (arb0.keep d6.o.c)).mono ?_; rintro e w7 ⟨ao7, n7, c7, rfl, hr7, hg7⟩; have d7 := d6.add hg7 (fp ao7 c7) (fun k hk => hr7.lt k hk); have hbl7 := hr7.len; rw [bts_length] at hbl7) | (go_at_call 13; refine (write_any0 A.num w.heap.size F' rb sa' cs' la' cl' vs' ls' st _ d7.q hWst d7.o.c.size hLb ao7 n7 c7 _ hr7.reads hbl7 hr7.le hr7.max (fun h k hk => ⟨d7.a k (List.mem_append_left _ (blk_mem hr7 (by omega) k hk)), (hr7.lt k (blk_mem hr7 (by omega) k hk)).2⟩)).mono ?_; rintro e w8 ⟨rfl, F8, la8, cl8, ls8, h8, g8, hF8⟩; have d8 := d7.ref h8 g8 hF8))
            have r8 := ((r5d.chg g6 (fun k hk hm => (d5d.o.r k (by simp [hk])).1 hm)).chg hg7 (by simp)).chg g8 (fun k hk hm => d7.a k (by simp [hk]) hm)
            obtain ⟨b1, b2⟩ := write_small st A.num BB
            obtain ⟨st8, hst8⟩ : ∃ sd, sd = (write st A.num BB).2 := ⟨_, rfl⟩
            rw [← hst8] at d8 b1 b2
            have hLn : st8.L.length ≤ 4 * (k + 1) := by omega
            have hCn : st8.count = n := by omega
            clear hst8 b1 b2 d5d d6 d7 o6 h8 g6 hg7 g8 hr7 r5d f5d hBB' hF8 hdr hL
            have hb0 := hB
            go_wp2_with fail
            go_loopw [12, 75] (fun u i wx => ∃ (j : Nat) (B' : List UInt8), i = .int .i64 j ∧ j ≤ n5 ∧ B'.length = n5 ∧ Room wx W.heap.size ao n5 c5 (bts B') ∧ Duo w wx (fp ao7 c7 ++ (fp ao c5 ++ [ab])) db' g' fa6 cf6 st8 F8 rb sa' cs' la8 cl8 vs' ls8 st8) (fun _ i _ => n5 - (intOf i).toNat)
            case atStart => exact ⟨0, BB, rfl, Nat.zero_le _, hbl, r8, d8⟩
            case round =>
              clear r8 d8 hbl
              obtain ⟨j, B', rfl, hj, hB', hr, hc⟩ := hrel
              by_cases hlt : j < n5
              · have hdj : decide ((j : Int) < (n5 : Int)) = true := decide_eq_true (by omega)
                have hle := hr.le
                have hmx : c5 ≤ 9223372036854775807 := hr.max
                obtain ⟨pb, po, rfl, hpb, -, -⟩ := hr.at_ (by omega)
                have hck := hr.reads.cell j _ (bts_get8 B' j (by omega))
                have hf := hr.cell j hlt
                have hx := x8 B'[j] 255
                have h255 : v8 255 = 255 := rfl
                rw [h255] at hx
                have hset := hr.set j hlt (.int .u8 (v8 (B'[j] ^^^ 255)))
                rw [bts_set] at hset
                have hgs := hc.own (Chg.setCell _ ⟨pb, po + j, none⟩ (.int .u8 (v8 (B'[j] ^^^ 255)))) (fun k hk => by simp at hk; subst hk; exact ⟨List.mem_append_right _ (List.mem_append_left _ (by rw [fp_some _ _ _ (by omega)]; simp)), by omega⟩)
                generalize B'[j] = b at *
                go_wp2_with fail
                refine ⟨⟨j + 1, _, by go_num, by omega, ?_, hset, hgs⟩, by simp [intOf]; omega⟩
                rw [List.length_set]; exact hB'
              · have : j = n5 := by omega
                subst this
                have hdn := hc.less (R' := []) (by simp)
                have hdj : decide ((j : Int) < (j : Int)) = false := decide_eq_false (by omega)
                go_wp2_with fail
                go_meet
                exact ⟨db', rfl, g', fa6, cf6, F8, sa', cs', la8, cl8, vs', ls8, st8, hdn, hLn, hCn⟩
        by_cases q1 : q = 1
        · subst q1
          as_aux_lemma =>
            clear q0
            by_cases hw : whyN st A.num = 0
            · have hat : 0 ≤ A.num := by
                unfold whyN at hw
                split at hw
                · omega
                · split at hw
                  · omega
                  · omega
              obtain ⟨N, hN⟩ := Int.eq_ofNat_of_zero_le hat
              rw [hN] at x1 hw
              have Hw := mkHid hw
              clear hw hat
              go_wp2_with fail
              refine (dread_yes N w.heap.size db' g' fa' cf' st W hdW0.o.d hdW0.o.W Hw.out).mono ?_
              rintro e w5 ⟨ao, c5, rfl, hr5, hg5⟩
              have d5 := hdW0.add hg5 (fp ao c5) (fun k hk => hr5.lt k hk)
              have x1' := hg5.cellv x1 (by simp)
              go_wp2_with fail
              refine (read_yes N w.heap.size F' rb sa' cs' la' cl' vs' ls' st w5 d5.q d5.o.W Hw.out).mono ?_
              rintro e w6 ⟨bo, c6, rfl, hr6, hg6⟩
              have d6 := d5.keep hg6
              have hl5 := hr5.len
              rw [bts_length] at hl5
              have hr56 := hr5.chg hg6 (by simp)
              have e5 := hr56.reads
              have e6 := hr6.reads
              have Hl := mkHid hl5
              clear hr5 hr6 hg5 hg6 hl5 d5 hdW0 x0 x1 x2 x3 x4 x1' hgW arbW arb0
              go_wp2_with (first | (go_at_call 16; refine (equal_any ao 256 c5 _ bo 256 c6 _ w6 e5 Hl.out e6 Hl.out).mono ?_; rw [decide_eq_true rfl]; rintro e w' ⟨rfl, rfl⟩))
              obtain ⟨pb, po, rfl, hpb, -, -⟩ := hr56.at_ (by have := hr56.le; omega)
              clear e5 e6
              generalize reads st N 4 = RR at *
              go_loopw [17, 112] (fun u i wx => ∃ (j : Nat) (B' : List UInt8), i = .int .i64 j ∧ j ≤ 256 ∧ B'.length = 256 ∧ Room wx W.heap.size (some ⟨pb, po, none⟩) 256 c5 (bts B') ∧ Duo w wx (fp (some ⟨pb, po, none⟩) c5 ++ [ab]) db' g' fa' cf' st F' rb sa' cs' la' cl' vs' ls' st) (fun _ i _ => 256 - (intOf i).toNat)
              case atStart => exact ⟨0, RR, rfl, by decide, Hl.out, hr56, d6⟩
              case round =>
                clear hr56 d6 Hl
                obtain ⟨j, B', rfl, hj, hB', hr, hc⟩ := hrel
                by_cases hlt : j < 256
                · have hdj : decide ((j : Int) < 256) = true := decide_eq_true (by omega)
                  have hle := hr.le
                  have hck := hr.reads.cell j _ (bts_get8 B' j (by omega))
                  have hf := hr.cell j hlt
                  have hx := x8 B'[j] 255
                  have h255 : v8 255 = 255 := rfl
                  rw [h255] at hx
                  have hset := hr.set j hlt (.int .u8 (v8 (B'[j] ^^^ 255)))
                  rw [bts_set] at hset
                  have hgs := hc.own (Chg.setCell _ ⟨pb, po + j, none⟩ (.int .u8 (v8 (B'[j] ^^^ 255)))) (fun k hk => by simp at hk; subst hk; exact ⟨List.mem_append_left _ (by rw [fp_some _ _ _ (by omega)]; simp), by omega⟩)
                  generalize B'[j] = b at *
                  go_wp2_with fail
                  refine ⟨⟨j + 1, _, by go_num, by omega, ?_, hset, hgs⟩, by simp [intOf]; omega⟩
                  rw [List.length_set]; exact hB'
                · have : j = 256 := by omega
                  subst this
                  have hdn := hc.less (R' := []) (by simp)
                  go_wp2_with fail
                  go_meet
                  exact ⟨db', rfl, g', fa', cf', F', sa', cs', la', cl', vs', ls', st, hdn, by omega, hC⟩
            · go_wp2_with fail
              refine (dread_no A.num w.heap.size db' g' fa' cf' st W hdW0.o.d hdW0.o.W hw).mono ?_
              rintro e w5 ⟨rfl, rfl⟩
              go_wp2_with fail
              refine (read_no A.num w.heap.size F' rb sa' cs' la' cl' vs' ls' st W hdW0.q hw).mono ?_
              rintro e w5 ⟨rfl, rfl⟩
              have hdn := hdW0.less (R' := []) (by simp)
              go_wp2_with (first | (go_at_call 16; refine (equal_any none 0 0 [] none 0 0 [] W (Reads.nil _ _) rfl (Reads.nil _ _) rfl).mono ?_; rw [decide_eq_true rfl]; rintro e w' ⟨rfl, rfl⟩))
              go_loopw [17, 112] (fun u i wx => i = .int .i64 0 ∧ W = wx) (fun _ i _ => 0)
              case atStart => exact ⟨rfl, rfl⟩
              case round =>
                obtain ⟨rfl, rfl⟩ := hrel
                go_wp2_with fail
                go_meet
                exact ⟨db', rfl, g', fa', cf', F', sa', cs', la', cl', vs', ls', st, hdn, by omega, hC⟩
        by_cases q2 : q = 2
        · subst q2
          as_aux_lemma =>
            clear q0 q1
            go_wp2_with fail
            refine (own_barrier w _ db' g' fa' cf' st W hdW0.o).mono ?_
            rintro e w5 ⟨rfl, fa5, cf5, o5, g5⟩
            have d5 := hdW0.dev o5 g5
            go_wp2_with fail
            refine (barrier_any w.heap.size F' rb sa' cs' la' cl' vs' ls' st w5 d5.q).mono ?_
            rintro e w6 ⟨rfl, F6, la6, cl6, vs6, ls6, h6, g6, hF6⟩
            have d6 := (d5.ref h6 g6 hF6).less (R' := []) (by simp)
            obtain ⟨b1, b2⟩ := barrier_small st
            go_wp2_with fail
            go_meet
            exact ⟨db', rfl, g', fa5, cf5, F6, sa', cs', la6, cl6, vs6, ls6, _, d6, by omega, by omega⟩
        by_cases q3 : q = 3
        · subst q3
          as_aux_lemma =>
            clear q0 q1 q2
            have bz := Go.bounds_i64 aw1
            have hz : A.num < 9223372036854775808 := by omega
            clear bz
            go_wp2_with fail
            refine (own_fuse A.num hz w _ db' g' fa' cf' st W hdW0.o).mono ?_
            rintro e w5 ⟨rfl, o5, g5⟩
            have d5 := hdW0.dev o5 g5
            have x1' := g5.cellv x1 (fun hm => (hdW0.o.r ab (by simp)).1 hm)
            go_wp2_with fail
            refine (fuse_any A.num w.heap.size F' rb sa' cs' la' cl' vs' ls' st w5 d5.q hz).mono ?_
            rintro e w6 ⟨rfl, h6, g6⟩
            have d6 := (d5.ref h6 (g6.mono (fun k hk _ => by simp at hk; rw [hk]; exact d5.q.inF rb (by simp))) (fun k hk => Or.inl hk)).less (R' := []) (by simp)
            go_wp2_with fail
            go_meet
            exact ⟨db', rfl, g', fa', cf', F', sa', cs', la', cl', vs', ls', _, d6, by show st.L.length ≤ _; omega, hC⟩
        by_cases q4 : q = 4
        · subst q4
          as_aux_lemma =>
            clear q0 q1 q2 q3
            go_wp2_with (first | (at_builtin; refine wpList_append_k _ rfl (.tmp 142) (.tmp 144) 32 rfl 5 1 eltB W.heap.size _ 0 0 [] rfl (Room.nil _ _ _) (Chg.alloc [] W _).size A.ba A.nb A.cb (bts A.b) rfl (arbW.keep (Chg.alloc [] W _)) (by rw [bts_length]; exact alb) (bts_one _) (by unfold maxLen; omega) (by omega) ?_; intro ao4 c4 w4 hr4 hc4 hf4; simp only [Nat.zero_add, List.nil_append] at hr4))
            have hg4 : Chg [] W w4 := (Chg.alloc [] W _).then hc4
            have d4 := hdW0.add hg4 (fp ao4 c4) (fun k hk => hr4.lt k hk)
            have y3 := hg4.cellv x3 (by simp)
            clear hc4 hf4
            refine (own_crash0 w _ db' g' fa' cf' st w4 d4.o ao4 A.nb c4 A.b hr4.reads alb (by unfold maxLen; omega) (fun h0 k hk => Or.inl (List.mem_append_left _ (List.mem_append_left _ (blk_mem hr4 (by omega) k hk))))).mono ?_
            rintro e w5 ⟨rfl, o5, g5⟩
            have d5 := d4.dev o5 g5
            have x3' := g5.cellv y3 (fun hm => (d4.o.r ab (by simp)).1 hm)
            go_wp2_with fail
            refine (crash_any0 w.heap.size F' rb sa' cs' la' cl' vs' ls' st w5 d5.q A.ba A.nb A.cb A.b (arb0.keep d5.o.c) alb (by unfold maxLen; omega) (fun h0 k hk hF => by have h1 := arb0.lt (by rw [bts_length]; exact h0) k hk; have h2 := (d5.q.F1 k hF).1; omega)).mono ?_
            rintro e w6 ⟨rfl, F6, la6, cl6, vs6, ls6, h6, g6, hF6⟩
            have d6 := (d5.ref h6 g6 hF6).less (R' := []) (by simp)
            go_wp2_with fail
            go_meet
            exact ⟨db', rfl, g', none, 0, F6, sa', cs', la6, cl6, vs6, ls6, _, d6, Nat.zero_le _, hC⟩
        by_cases q5 : q = 5
        · subst q5
          as_aux_lemma =>
            clear q0 q1 q2 q3 q4
            go_wp2_with fail
            refine (devcopy_any w.heap.size db' g' fa' cf' st W hdW0.o.d (by have := hdW0.o.W.1; omega) hLb).mono ?_
            rintro e w5 ⟨db2, g2, fa2, cf2, rfl, h2, hg5⟩
            have d5 := hdW0.add hg5 (DF db2 g2 fa2 cf2) (fun k hk => h2.lt k hk)
            go_wp2_with fail
            refine (full_as 99 99 rfl w5).mono ?_
            rintro e w6 ⟨fb, fo, rfl, hr6, hg6⟩
            have d6 := d5.add hg6 (fp (some ⟨fb, fo, none⟩) 256) (fun k hk => hr6.lt k hk)
            have h6 := h2.keep hg6
            go_wp2_with fail
            refine (own_write0 0 w _ db' g' fa' cf' st w6 d6.o hLb _ 256 256 _ hr6.reads (by rw [List.length_replicate]) (Nat.le_refl _) (by decide) (fun _ k hk => List.mem_append_left _ (List.mem_append_left _ (blk_mem hr6 (by decide) k hk)))).mono ?_
            rintro e w7 ⟨rfl, fa7, cf7, o7, g7⟩
            have d7 := d6.dev o7 g7
            have h7 := h6.chg g7 (fun k hk hm => (d6.o.r k (by simp [hk])).1 hm)
            obtain ⟨sd7, hsd7⟩ : ∃ sd, sd = (write st 0 (List.replicate 256 99)).2 := ⟨_, rfl⟩
            rw [← hsd7] at d7 o7
            clear hsd7
            go_wp2_with fail
            refine (own_barrier w _ db' g' fa7 cf7 sd7 w7 d7.o).mono ?_
            rintro e w8 ⟨rfl, fa8, cf8, o8, g8⟩
            have d8 := d7.dev o8 g8
            have h8 := h7.chg g8 (fun k hk hm => (d7.o.r k (by simp [hk])).1 hm)
            obtain ⟨sd8, hsd8⟩ : ∃ sd, sd = (barrier sd7).2 := ⟨_, rfl⟩
            rw [← hsd8] at d8 o8
            clear hsd8
            go_wp2_with fail
            refine (own_crash0 w _ db' g' fa8 cf8 sd8 w8 d8.o none 0 0 [] (Reads.nil _ _) rfl (by decide) (fun h0 => by simp at h0)).mono ?_
            rintro e w9 ⟨rfl, o9, g9⟩
            have d9 := d8.dev o9 g9
            have h9 := h8.chg g9 (fun k hk hm => (d8.o.r k (by simp [hk])).1 hm)
            go_wp2_with fail
            refine (own_fuse 1 (by decide) w _ db' g' none 0 (crash sd8 []) w9 d9.o).mono ?_
            rintro e w10 ⟨rfl, o10, g10⟩
            have d10 := d9.dev o10 g10
            have h10 := h9.chg g10 (fun k hk hm => (d9.o.r k (by simp [hk])).1 hm)
            have dz : Duo w w10 [] db2 g2 fa2 cf2 st F' rb sa' cs' la' cl' vs' ls' st :=
              ⟨⟨h10.base hB, d10.o.c, fun k hk => by
                rw [List.nil_append] at hk
                exact ⟨fun hm => d10.a k (by simp [hm]) hk, (d10.q.F1 k hk).2⟩, hdW0.o.W⟩, d10.q, fun k hk => by simp at hk⟩
            clear h2 h6 h7 h8 h9 h10 d5 d6 d7 d8 d9 d10 o7 o8 o9 o10 g7 g8 g9 g10
            go_wp2_with fail
            go_meet
            exact ⟨db2, rfl, g2, fa2, cf2, F', sa', cs', la', cl', vs', ls', st, dz, by omega, hC⟩
        have hdn := hdW0.less (R' := []) (by simp)
        go_wp2_with fail
        go_meet
        exact ⟨db', rfl, g', fa', cf', F', sa', cs', la', cl', vs', ls', st, hdn, by omega, hC⟩
      case rest =>
        clear hdW0 x0 x1 x2 x3 x4 hgW hzW arbW
        obtain ⟨db'', rfl, g2, fa2, cf2, F2, sa2, cs2, la2, cl2, vs2, ls2, st2, hd2, hL2, hC2⟩ := hcut
        go_wp2_with fail
        refine (alike_any w.heap.size db'' g2 fa2 cf2 st2 _ hd2.o.d w.heap.size F2 rb sa2 cs2 la2 cl2 vs2 ls2 hd2.q hd2.o.W (by have := hd2.o.W.1; omega) (by omega)).mono ?_
        rintro e w5 ⟨rfl, hg5⟩
        go_wp2_with fail
        exact ⟨⟨k + 1, db'', rfl, by go_num, by omega, by omega, g2, fa2, cf2, F2, sa2, cs2, la2, cl2, vs2, ls2, st2, hd2.keep hg5, hL2, hC2⟩, by simp [intOf]; omega⟩
    · by_cases hkn : k = n0
      · have hkd : decide (k < n0) = false := decide_eq_false (by omega)
        have hki : decide ((k : Int) < (n0 : Int)) = false := decide_eq_false (by omega)
        go_wp2_with fail
        go_ret
        exact ⟨rfl, hd.o.c⟩
      · have hk200 : k = 200 := by omega
        subst hk200
        obtain ⟨b, o, rfl, hacts⟩ := ga (by omega)
        obtain ⟨a0c, a1c, a2c, a3c, a4c, aw0, aw1, arb, alb, ale, amx⟩ := (hacts 200 (by omega)).old hd.o.c (by simp)
        have hki : decide ((200 : Int) < (n0 : Int)) = true := decide_eq_true (by omega)
        clear hacts
        generalize acts 200 = A at *
        go_wp2_with fail
        go_ret
        exact ⟨rfl, (hd.o.c).then (Chg.alloc [] _ _)⟩
end Go.Proofs.Ytinmhaffefgloaa
