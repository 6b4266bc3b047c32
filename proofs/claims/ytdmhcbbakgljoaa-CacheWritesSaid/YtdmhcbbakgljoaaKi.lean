/- CacheWrites: the walk. -/
import Derived.Test.YtdmhcbbakgljoaaKh
import Derived.Test.YtdmhcbbakgljoaaKf
namespace Go.Proofs.Ytdmhcbbakgljoaa
open Go.RowKit Go.Maps
set_option linter.unusedVariables false
set_option linter.unusedSimpArgs false
attribute [local go_sem ↓] Go.wp_at_zero Go.wp_at_succ

theorem eltZ' : Elt Try.prog 40 3 8 := Elt.mk Try.underlying40 (z := .int .i64 0) (by kernel_rfl) rfl
theorem within_as (k lo hi : Int) (l h : Nat) (e1 : lo = l) (e2 : hi = h) (h1 : l ≤ h) (h2 : h ≤ 1000) (hk : (Lit.int .i64 k).wf = true) (w : World) :
    Calls Try.prog 7 #[.int .i64 k, .int .i64 lo, .int .i64 hi] w fun e w' => ∃ m : Nat, e = .returned (.int .i64 (m : Int)) ∧ l ≤ m ∧ m ≤ h ∧ w = w' := by
  rw [e1, e2]
  exact within_any k l h h1 h2 hk w
/-- An array of truth values. -/
def Bools (w : World) (xb : Nat) (D : Nat → Bool) : Prop := ∀ j, j < 20 → w.cell? ⟨xb, j, none⟩ = some (.bool (D j)) ∧ w.frozen? ⟨xb, j, none⟩ = false
theorem Bools.off {R : Nat → Prop} {w w' : World} {xb : Nat} {D : Nat → Bool} (h : Bools w xb D) (o : Off R w w') (hR : R xb) : Bools w' xb D := fun j hj => by
  obtain ⟨S, c, hS⟩ := o
  have hn : xb ∉ S := fun hm => hS _ hm hR
  exact ⟨c.cellv (h j hj).1 hn, (c.frozen (p := ⟨xb, j, none⟩) (block_lt_of_cell (h j hj).1) hn).trans (h j hj).2⟩
theorem Bools.keep {w w' : World} {xb : Nat} {D : Nat → Bool} (h : Bools w xb D) (c : Chg [] w w') : Bools w' xb D := h.off (R := fun _ => True) (Off.keep c) trivial
theorem Bools.set {w : World} {xb : Nat} {D : Nat → Bool} (h : Bools w xb D) (a : Nat) (ha : a < 20) : Bools (w.setCell ⟨xb, a, none⟩ (.bool true)) xb (fun x => if x = a then true else D x) := fun j hj => by
  refine ⟨?_, by rw [World.frozen?_setCell]; exact (h j hj).2⟩
  by_cases e : j = a
  · subst e
    simp only [if_true]
    exact World.cell?_setCell_same _ _ _ (h j hj).1
  · simp only [if_neg e]
    rw [World.cell?_setCell_other _ _ _ _ (by simp [e])]
    exact (h j hj).1
set_option maxRecDepth 100000 in
set_option maxHeartbeats 4000000 in
theorem writes_core (z : Int) (gz : (Lit.int .i64 z).wf = true) (a0 : Option Addr) (n0 c0 : Nat) (acts : Nat → ActD) (w : World) (gn : n0 ≤ c0) (gc : c0 * 48 ≤ 140737488351232) (ga : ActsAt w a0 n0 acts) :
    Calls Try.prog 4 #[.int .i64 z, .slice a0 n0 c0] w fun e w' => e = .returned (.bool true) ∧ Chg [] w w' := by
  have gn0 : n0 ≤ 10000000000000 := by omega
  clear gc
  go_enter Try.func4, Try.ntmps4
  go_wp2_with fail
  refine (within_any z 1 20 (by decide) (by decide) gz w).mono ?_
  rintro e w' ⟨n, rfl, hn1, hn20, rfl⟩
  go_wp2_with fail
  refine (dnew_yes n (by omega) (by omega) w).mono ?_
  rintro e w1 ⟨db, g, rfl, d1, g1⟩
  go_wp2_with fail
  refine (cnew_yes n (by omega) w w1 (fun _ => False) db g none 0 (RS.new n) d1 g1 (new_whole n (by omega)) (fun k hk => hk.elim)).mono ?_
  rintro e w2 ⟨cb, mb, rfl, p2, g2⟩
  clear d1 g1 g2
  go_wp2_with fail
  have hrep : (#[.bool false, .bool false, .bool false, .bool false, .bool false, .bool false, .bool false, .bool false, .bool false, .bool false, .bool false, .bool false, .bool false, .bool false, .bool false, .bool false, .bool false, .bool false, .bool false, .bool false] : Array Value) = Array.replicate 20 (.bool false) := rfl
  rw [hrep]
  have hb2 : Bools (w2.alloc (.cells (Array.replicate 20 (.bool false)) 46)) w2.heap.size (fun _ => false) := fun j hj => by
    refine ⟨?_, frozen_of_row _ _ _ _ _ (heap_alloc_last w2 _)⟩
    rw [cell_of_row _ _ _ _ _ _ (heap_alloc_last w2 _)]
    simp [hj]
  have p3 := p2.add (R' := fun k => k = w2.heap.size) (Chg.alloc [] w2 (.cells (Array.replicate 20 (.bool false)) 46)) (fun k hk => Or.inr (by rw [hk]; simp))
  have hxb := p2.c.size
  generalize hX : w2.heap.size = xb at *
  generalize w2.alloc (.cells (Array.replicate 20 (.bool false)) 46) = w3 at *
  clear hX hrep p2
  obtain ⟨h, hh⟩ : ∃ h, n = h + 1 := ⟨n - 1, by omega⟩
  have e1 : ((n : Int) - 1) = (h : Int) := by omega
  have hh1 : h < n := by omega
  have hh2 : n ≤ h + 1 := by omega
  clear hh
  go_loopw [10] (fun i wr => ∃ (k : Nat) (D : Nat → Bool) (K : List KE) (fa : Option Addr) (cf : Nat) (la : Option Addr) (cl : Nat) (E L : List Ent) (uses : Nat), i = .int .i64 k ∧ k ≤ n0 ∧ Pair w wr (fun k => k = xb) db g fa cf (RS.new n) cb mb la cl E L n uses ∧ L.map absE = K ∧ WInv n K D ∧ uses ≤ k ∧ Bools wr xb D) (fun i _ => n0 - (Go.RowKit.intOf i).toNat)
  case atStart => exact ⟨0, fun _ => false, [], none, 0, none, 0, [], [], 0, rfl, Nat.zero_le _, p3, rfl, ⟨by simp, by simp, by simp, by simp [kfind]⟩, Nat.le_refl _, hb2⟩
  case round =>
    obtain ⟨k, D, K, fa, cf, la, cl, E, L, uses, rfl, hk, p, hL, wi, hu, hb⟩ := hrel
    by_cases hlt : k < n0
    · obtain ⟨b0, o0, rfl, hact⟩ := ga (by omega)
      have hA0 := hact k hlt
      obtain ⟨A, hAe⟩ : ∃ A, A = acts k := ⟨_, rfl⟩
      rw [← hAe] at hA0
      clear hAe hact
      have hA := hA0.old p.c (by simp)
      have hb0 : b0 < w.heap.size := block_lt_of_cell hA0.c0
      have hne : b0 ≠ xb := by omega
      have x0 := hA.c0
      have x1 := hA.c1
      go_wp2_with fail
      refine (within_as A.num 0 _ 0 h rfl (by omega) (Nat.zero_le _) (by omega) hA.w1 wr).mono ?_
      rintro e w' ⟨a, rfl, -, hah, rfl⟩
      by_cases hw0 : A.wh = 0
      · have ha20 : a < 20 := by omega
        have hba := hb a ha20
        have q1 := hba.1
        have q2 := hba.2
        have ha20' : (a : Int) < 20 := by omega
        have cS := Chg.setCell wr ⟨xb, a, none⟩ (.bool true)
        have x2 := cS.cellv hA.c2 (by simpa using hne)
        have hb4 := hb.set a ha20
        have p4 := p.chg cS (fun k hk => ⟨by simpa using hk, by simp at hk; omega⟩)
        rw [hw0] at x0
        have hpb := wi.put (a := a) (by omega) (blockB_len A.x)
        clear hba hb p cS
        go_wp2_with fail
        generalize wr.setCell ⟨xb, a, none⟩ (.bool true) = w4 at *
        clear q1 q2
        refine (pair_block w w4 _ db g fa cf _ cb mb la cl E L n uses p4 _ A.x rfl).mono ?_
        rintro e w5 ⟨nb5, rfl, r5, p5, g5⟩
        have hb5 := hb4.keep g5
        clear p4 hb4 g5 x0 x1 x2 hA
        go_wp2_with fail
        refine (pair_put w w5 _ db g fa cf _ cb mb la cl E L n uses p5 _ _ 0 a _ 256 256 _ _ hL hpb.1 (by omega) (Nat.zero_le _) r5.reads (blockB_len A.x) (fun k hk => Or.inl (Or.inr (by simpa [blk] using hk)))).mono ?_
        rintro e w6 ⟨rfl, fa6, cf6, la6, cl6, E6, L6, u6, p6, hL6, hu6, o6⟩
        have hb6 := hb5.off o6 (Or.inl rfl)
        have p6' := p6.less (R' := fun k => k = xb) (fun k hk => Or.inl hk)
        have x0 := (hA0.old p6.c (by simp)).c0
        rw [hw0] at x0
        have HP := mkHid hpb.2
        clear p5 r5 hb5 o6 p6 hL hpb
        go_wp2_with fail
        exact ⟨⟨k + 1, _, _, fa6, cf6, la6, cl6, E6, L6, u6, by go_num, by omega, p6', hL6, HP.out, by omega, hb6⟩, by simp [Go.RowKit.intOf]; omega⟩
      · have h01 : (A.wh == 0) = false := by simpa using hw0
        by_cases hw1 : A.wh = 1
        · rw [hw1] at x0
          obtain ⟨b, K', hgk, hbl, wi'⟩ := wi.get (a := a) (by omega)
          clear h01 hw0
          go_wp2_with fail
          refine (pair_get w wr _ db g fa cf _ cb mb la cl E L n uses p _ _ 0 a 256 _ _ hL hgk (by omega) (Nat.zero_le _) hbl).mono ?_
          rintro e w6 ⟨ro, rc, rfl, -, fa6, cf6, la6, cl6, E6, L6, u6, p6, hL6, hu6, o6⟩
          have hb6 := hb.off o6 rfl
          have p6' := p6.less (R' := fun k => k = xb) (fun k hk => Or.inl hk)
          have HP := mkHid wi'
          clear p hb o6 p6 hL hgk wi'
          go_wp2_with fail
          exact ⟨⟨k + 1, D, _, fa6, cf6, la6, cl6, E6, L6, u6, by go_num, by omega, p6', hL6, HP.out, by omega, hb6⟩, by simp [Go.RowKit.intOf]; omega⟩
        · have h11 : (A.wh == 1) = false := by simpa using hw1
          have HP := mkHid wi
          clear wi hw0 hw1
          go_wp2_with fail
          exact ⟨⟨k + 1, D, K, fa, cf, la, cl, E, L, uses, by go_num, by omega, p, hL, HP.out, by omega, hb⟩, by simp [Go.RowKit.intOf]; omega⟩
    · have hd1 : decide (k < n0) = false := decide_eq_false hlt
      have hd2 : decide ((k : Int) < (n0 : Int)) = false := decide_eq_false (by omega)
      have hu9 : uses ≤ 20000000000000 := by omega
      clear hk hu
      go_wp2_with fail
      generalize wr = w7 at *
      have hmaxL : maxLen = 9223372036854775807 := rfl
      go_loopw [14, 15] (fun v i wr => ∃ (q : Nat) (ns : List Nat) (wo : Option Addr) (wc : Nat), i = .int .i64 q ∧ q ≤ n ∧ ns = (List.range q).filter D ∧ v = .slice wo ns.length wc ∧ Room wr w7.heap.size wo ns.length wc (ns.map natV) ∧ Chg [] w7 wr) (fun _ i _ => n - (Go.RowKit.intOf i).toNat)
      case atStart => exact ⟨0, [], none, 0, rfl, Nat.zero_le _, rfl, rfl, Room.nil _ _ _, Chg.refl _ _⟩
      case round =>
        obtain ⟨q, ns, wo, wc, rfl, hq, hns, rfl, hrn, hcn⟩ := hrel
        have hnl : ns.length ≤ q := by
          rw [hns]
          have := List.length_filter_le D (List.range q)
          rwa [List.length_range] at this
        have hcs := hcn.size
        by_cases hqn : q < n
        · have htk : (List.range (q + 1)).filter D = (List.range q).filter D ++ (if D q then [q] else []) := by
            rw [List.range_succ, List.filter_append, List.filter_cons, List.filter_nil]
          have cx := ((hb.keep hcn) q (by omega)).1
          have hd3 : decide (q < n) = true := decide_eq_true hqn
          have hd4 : decide ((q : Int) < (n : Int)) = true := decide_eq_true (by omega)
          have hq20 : (q : Int) < 20 := by omega
          cases hD : D q
          · rw [hD] at cx htk
            have HTK := mkHid htk
            have HNS := mkHid hns
            clear htk hns hD
            go_wp2_with fail
            exact ⟨⟨q + 1, ns, wo, wc, by go_num, by omega, by rw [HTK.out, HNS.out]; simp, rfl, hrn, hcn⟩, by simp [Go.RowKit.intOf]; omega⟩
          · rw [hD] at cx htk
            have HTK := mkHid htk
            have HNS := mkHid hns
            clear htk hns hD
            go_wp2_with (first | (at_builtin; refine wpList_append_1 wr rfl (.tmp 92) (.tmp 94) 40 rfl 3 8 eltZ' w7.heap.size wo ns.length wc _ rfl hrn hcs _ 1 rfl rfl (by omega) (by omega) ?_; intro wo' wc' wq' hr' hc' hf'))
            refine ⟨⟨q + 1, ns ++ [q], wo', wc', by go_num, by omega, by rw [HTK.out, HNS.out]; simp, by rw [List.length_append]; rfl, ?_, hcn.own hc' hrn⟩, by simp [Go.RowKit.intOf]; omega⟩
            rw [List.length_append, List.map_append]
            exact hr'
        · have hd3 : decide (q < n) = false := decide_eq_false hqn
          have hd4 : decide ((q : Int) < (n : Int)) = false := decide_eq_false (by omega)
          have hqe : q = n := by omega
          have hP : kplaces K = ns := by rw [hns, hqe]; exact kplaces_range K wi.nd n wi.lt D wi.dt
          have hfl := wFl_len n K
          rw [hP] at hfl
          obtain ⟨m, hm⟩ : ∃ m, m = 4 * ns.length := ⟨_, rfl⟩
          rw [← hm] at hfl
          have hm' : 4 * (ns.length : Int) = (m : Int) := by omega
          have hns20 : (ns.length : Int) ≤ 20 := by omega
          have p8 := p.add (R' := fun k => k ∈ fp wo wc) hcn (fun k hk => Or.inr (hrn.lt k hk))
          have HP := mkHid hP
          have WI := mkHid wi
          clear hns hqe hqn hq hm hb p wi hP hcn hcs
          go_wp2_with fail
          refine (pair_flight w wr _ db g fa cf _ cb mb la cl E L n uses p8 0 rfl).mono ?_
          rintro e w' ⟨rfl, rfl⟩
          go_wp2_with fail
          refine (pair_dirty w wr _ db g fa cf _ cb mb la cl E L n uses p8 K hL ns HP.out).mono ?_
          rintro e w9 ⟨lo, lc, rfl, rl9, p9, g9⟩
          have hr9 := hrn.chg g9 (by simp)
          clear p8 hrn g9
          go_wp2_with fail
          refine (same_any ns ns lo wo lc wc w9 rl9.reads hr9.reads (by omega) (by omega)).mono ?_
          rintro e w10 ⟨he, g10⟩
          have hdt : decide (ns = ns) = true := decide_eq_true rfl
          rw [hdt] at he
          subst he
          have hr10 := hr9.chg g10 (by simp)
          have p10 := (p9.keep g10).less (R' := fun k => k ∈ fp wo wc) (fun k hk => Or.inl hk)
          clear p9 rl9 hr9 g10 hdt
          go_wp2_with fail
          refine (pair_flush w w10 _ db g fa cf _ cb mb la cl E L n uses p10 _ _ 0 _ hL WI.out.flush (Nat.zero_le _)).mono ?_
          rintro e w11 ⟨rfl, fa11, cf11, E11, L11, p11, hL11, o11⟩
          have hr11 := hr10.off o11 (fun k hk => hk)
          clear p10 hr10 o11 hL
          go_wp2_with fail
          refine (pair_flight w w11 _ db g fa11 cf11 _ cb mb la cl E11 L11 n uses p11 m hfl).mono ?_
          rintro e w' ⟨rfl, rfl⟩
          go_wp2_with fail
          refine (pair_flush w w11 _ db g fa11 cf11 _ cb mb la cl E11 L11 n uses p11 _ _ 0 _ hL11 WI.out.flush2 (by omega)).mono ?_
          rintro e w12 ⟨rfl, fa12, cf12, E12, L12, p12, hL12, o12⟩
          have hr12 := hr11.off o12 (fun k hk => hk)
          clear p11 hr11 o12 hL11
          go_wp2_with fail
          refine (pair_flight w w12 _ db g fa12 cf12 _ cb mb la cl E12 L12 n uses p12 m hfl).mono ?_
          rintro e w' ⟨rfl, rfl⟩
          go_wp2_with fail
          have p13 := p12.add (R' := fun k => k ∈ fp wo wc ∨ k = w12.heap.size) (Chg.alloc [] w12 (.cells #[.int .u8 1, .int .u8 1] 5)) (fun k hk => hk.imp id (fun e => by rw [e]; simp))
          have hr13 := hr12.chg (Chg.alloc [] w12 (.cells #[.int .u8 1, .int .u8 1] 5)) (by simp)
          have rp := reads_new w12 #[.int .u8 1, .int .u8 1] 5 (0, 0) [1, 1] rfl
          generalize w12.heap.size = nb13 at *
          generalize w12.alloc (.cells #[.int .u8 1, .int .u8 1] 5) = w13 at *
          refine (pair_crash w w13 _ db g fa12 cf12 _ cb mb la cl E12 L12 n uses p13 _ 2 2 [1, 1] rp rfl (by decide) (fun k hk => Or.inr (by simpa [blk] using hk))).mono ?_
          rintro e w14 ⟨rfl, p14, o14⟩
          have hr14 := hr13.off o14 (fun k hk => Or.inl hk)
          have p14' : Pair w w14 (fun k => k ∈ fp wo wc) db g none 0 (wCr n K) cb mb la cl E12 L12 n uses := p14.less (fun k hk => Or.inl hk)
          clear p12 hr12 p13 hr13 rp p14 o14
          go_wp2_with fail
          go_loopw [16] (fun i wr => ∃ (j : Nat) (Kj : List KE) (fa : Option Addr) (cf : Nat) (la : Option Addr) (cl : Nat) (E L : List Ent) (u : Nat), i = .int .i64 j ∧ j ≤ ns.length ∧ Pair w wr (fun k => k ∈ fp wo wc) db g fa cf (wCr n K) cb mb la cl E L n u ∧ L.map absE = Kj ∧ (∀ a, kfind Kj a = kfind (kall K) a) ∧ u ≤ uses + j ∧ Room wr w7.heap.size wo ns.length wc (ns.map natV)) (fun i _ => ns.length - (Go.RowKit.intOf i).toNat)
          case atStart => exact ⟨0, _, none, 0, la, cl, E12, L12, uses, rfl, Nat.zero_le _, p14', hL12, fun _ => rfl, by omega, hr14⟩
          case round =>
            clear p14' hr14 hL12
            obtain ⟨j, Kj, fa, cf, la, cl, E, L, u, rfl, hj, p, hL, hKj, hu, hr⟩ := hrel
            by_cases hjl : j < ns.length
            · have hl := WI.out.last Kj hKj j (by rw [HP.out]; exact hjl)
              simp only [HP.out] at hl
              obtain ⟨b2, o2, rfl, hcx⟩ := hr.reads (by rw [List.length_map]; omega)
              have cx := hcx j (natV ns[j]) (by simp [hjl])
              unfold natV at cx
              generalize ns[j] = y at *
              obtain ⟨hyn, b, Kn, hkg, hbl, hKn, hlo, hhi⟩ := hl
              have hji : (j : Int) < (ns.length : Int) := by omega
              clear hcx
              go_wp2_with fail
              refine (pair_read w wr _ db g fa cf _ cb mb la cl E L n u p y (wCr_why n K y hyn)).mono ?_
              rintro e w15 ⟨ro, rc, rfl, rr, p15, g15⟩
              have hXl := rr.len
              rw [bts_length] at hXl
              have cx15 := g15.cellv cx (by simp)
              have hr15 := hr.chg g15 (by simp)
              clear p cx g15 hr
              go_wp2_with fail
              refine (pair_get w w15 _ db g fa cf _ cb mb la cl E L n u p15 _ _ 0 y 256 _ _ hL hkg (by omega) (Nat.zero_le _) hbl).mono ?_
              rintro e w16 ⟨po, pc, rfl, rg, fa16, cf16, la16, cl16, E16, L16, u16, p16, hL16, hu16, o16⟩
              have rr16 := rr.off o16 (fun k hk => Or.inr hk)
              have hr16 := hr15.off o16 (fun k hk => Or.inl hk)
              have p16' := p16.less (R' := fun k => k ∈ fp (some ⟨b2, o2, none⟩) wc) (fun k hk => Or.inl (Or.inl hk))
              have hrc := rr16.le
              have hpc := rg.le
              generalize reads (wCr n K) y 4 = X at *
              clear p15 cx15 hr15 rr o16 p16 hL hkg hKj
              by_cases hj0 : j = 0
              · have hjA : ((j : Int) == 0) = true := by rw [hj0]; rfl
                have hjB : decide ((0 : Int) < (j : Int)) = false := decide_eq_false (by omega)
                have hjC : (j == 0) = true := by rw [hj0]; rfl
                have hjD : decide (0 < j) = false := decide_eq_false (by omega)
                have hXb := hlo hj0
                have hsl1 : ∀ u : World, (Instr.slice 31 (.slice ro 256 rc) none (some (.int .i64 128)) none).run Try.prog u = .ok (.slice ro 128 rc) u := run_take_k (P := Try.prog) (t := 31) (e := 5) ro 256 rc 128 Try.underlying31 (by kernel_rfl) (by omega)
                have hsl2 : ∀ u : World, (Instr.slice 31 (.slice po 256 pc) none (some (.int .i64 128)) none).run Try.prog u = .ok (.slice po 128 pc) u := run_take_k (P := Try.prog) (t := 31) (e := 5) po 256 pc 128 Try.underlying31 (by kernel_rfl) (by omega)
                obtain ⟨Y, hY⟩ : ∃ Y, Y = b.take 128 := ⟨_, rfl⟩
                have hYl : Y.length = 128 := by rw [hY, List.length_take]; omega
                have t1 : Reads w16 ro (bts Y) := by
                  have := rr16.reads.take 128
                  rwa [bts_take, hXb, ← hY] at this
                have t2 : Reads w16 po (bts Y) := by
                  have := rg.reads.take 128
                  rwa [bts_take, ← hY] at this
                have cvA : ∀ (u : World) (xo : Option Addr) (xc : Nat), Reads u xo (bts Y) → (convert 31 9 (.slice xo 128 xc)).run Try.prog u = .ok (.string ⟨Y.toArray⟩) u := fun u xo xc h => run_convert_k (P := Try.prog) u 31 5 9 Try.underlying31 Try.underlying5 Try.underlying9 xo 128 xc Y h hYl
                have hS : ∀ u, Chg [] w16 u → (convert 31 9 (.slice ro 128 rc)).run Try.prog u = .ok (.string ⟨Y.toArray⟩) u ∧ (convert 31 9 (.slice po 128 pc)).run Try.prog u = .ok (.string ⟨Y.toArray⟩) u ∧ Chg [] w16 u := fun u c => ⟨cvA u ro rc (t1.keep c), cvA u po pc (t2.keep c), c⟩
                have HS := mkHid hS
                have HKN := mkHid hKn
                clear hS cvA t1 t2 rr16 rg hlo hhi hXb hj0 hKn hY hXl
                go_wp2_with fail
                refine wp_region_noPanic ?_
                refine wp_region_held_drew (S := (fun u => (convert 31 9 (.slice ro 128 rc)).run Try.prog u = .ok (.string ⟨Y.toArray⟩) u ∧ (convert 31 9 (.slice po 128 pc)).run Try.prog u = .ok (.string ⟨Y.toArray⟩) u ∧ Chg [] w16 u)) (by kernel_rfl) ?_ (fun hH => ?_)
                · exact (HS.out _ (Chg.drew [] _))
                refine wpAnyH_take (i := 0) (oi := { dst := some 165, op := _, type := _, pos := _, after := _, guard := none }) (v := ?_) rfl (by kernel_rfl) (by kernel_rfl) (by kernel_rfl) (fun _ _ _ h => h) (Or.inl ⟨by rfl, ?_⟩) hH ?_
                rotate_left
                · intro u hSu
                  try dsimp only at hSu
                  go_simp
                  try with_reducible rfl
                try simp only [Act.put, List.setIfInBounds_toArray, List.set_cons_zero, List.set_cons_succ]
                refine wpAnyH_take (i := 1) (oi := { dst := some 166, op := _, type := _, pos := _, after := _, guard := none }) (v := ?_) rfl (by kernel_rfl) (by kernel_rfl) (by kernel_rfl) (fun _ _ _ h => h) (Or.inl ⟨by rfl, ?_⟩) hH ?_
                rotate_left
                · intro u hSu
                  try dsimp only at hSu
                  go_simp
                  try with_reducible rfl
                try simp only [Act.put, List.setIfInBounds_toArray, List.set_cons_zero, List.set_cons_succ]
                refine wpAnyH_take (i := 2) (oi := { dst := some 167, op := _, type := _, pos := _, after := _, guard := none }) (v := ?_) rfl (by kernel_rfl) (by kernel_rfl) (by kernel_rfl) (fun _ _ _ h => h) (Or.inl ⟨by rfl, ?_⟩) hH ?_
                rotate_left
                · intro u hSu
                  try dsimp only at hSu
                  go_simp
                  try with_reducible rfl
                try simp only [Act.put, List.setIfInBounds_toArray, List.set_cons_zero, List.set_cons_succ]
                refine wpAnyH_take (i := 3) (oi := { dst := some 168, op := _, type := _, pos := _, after := _, guard := some (2, true) }) (v := ?_) rfl (by kernel_rfl) (by kernel_rfl) (by kernel_rfl) (fun _ _ _ h => h) (Or.inl ⟨by rfl, ?_⟩) hH ?_
                rotate_left
                · intro u hSu
                  try dsimp only at hSu
                  go_simp
                  try with_reducible rfl
                try simp only [Act.put, List.setIfInBounds_toArray, List.set_cons_zero, List.set_cons_succ]
                refine wpAnyH_take (i := 4) (oi := { dst := some 169, op := _, type := _, pos := _, after := _, guard := some (2, true) }) (v := ?_) rfl (by kernel_rfl) (by kernel_rfl) (by kernel_rfl) (fun _ _ _ h => h) (Or.inl ⟨by rfl, ?_⟩) hH ?_
                rotate_left
                · intro u hSu
                  try dsimp only at hSu
                  go_simp
                  try with_reducible rfl
                try simp only [Act.put, List.setIfInBounds_toArray, List.set_cons_zero, List.set_cons_succ]
                refine wpAnyH_take (i := 5) (oi := { dst := some 170, op := _, type := _, pos := _, after := _, guard := some (2, true) }) (v := ?_) rfl (by kernel_rfl) (by kernel_rfl) (by kernel_rfl) (fun _ _ _ h => h) (Or.inl ⟨by rfl, ?_⟩) hH ?_
                rotate_left
                · intro u hSu
                  try dsimp only at hSu
                  go_simp
                  try with_reducible rfl
                try simp only [Act.put, List.setIfInBounds_toArray, List.set_cons_zero, List.set_cons_succ]
                refine wpAnyH_take (i := 6) (oi := { dst := some 171, op := _, type := _, pos := _, after := _, guard := some (2, true) }) (v := ?_) rfl (by kernel_rfl) (by kernel_rfl) (by kernel_rfl) (fun _ _ _ h => h) (Or.inl ⟨by rfl, ?_⟩) hH ?_
                rotate_left
                · intro u hSu
                  try dsimp only at hSu
                  go_simp
                  try with_reducible rfl
                try simp only [Act.put, List.setIfInBounds_toArray, List.set_cons_zero, List.set_cons_succ]
                refine wpAnyH_take (i := 7) (oi := { dst := some 172, op := _, type := _, pos := _, after := _, guard := some (2, true) }) (v := ?_) rfl (by kernel_rfl) (by kernel_rfl) (by kernel_rfl) (fun _ _ _ h => h) (Or.inl ⟨by rfl, ?_⟩) hH ?_
                rotate_left
                · intro u hSu
                  try dsimp only at hSu
                  go_simp
                  try with_reducible rfl
                try simp only [Act.put, List.setIfInBounds_toArray, List.set_cons_zero, List.set_cons_succ]
                refine wpAnyH_take (i := 8) (oi := { dst := some 173, op := _, type := _, pos := _, after := _, guard := some (2, true) }) (v := ?_) rfl (by kernel_rfl) (by kernel_rfl) (by kernel_rfl) (fun _ _ _ h => h) (Or.inl ⟨by rfl, ?_⟩) hH ?_
                rotate_left
                · intro u hSu
                  try dsimp only at hSu
                  go_simp
                  try with_reducible rfl
                try simp only [Act.put, List.setIfInBounds_toArray, List.set_cons_zero, List.set_cons_succ]
                refine wpAnyH_take (i := 9) (oi := { dst := some 174, op := _, type := _, pos := _, after := _, guard := some (2, true) }) (v := ?_) rfl (by kernel_rfl) (by kernel_rfl) (by kernel_rfl) (fun _ _ _ h => h) (Or.inl ⟨by rfl, ?_⟩) hH ?_
                rotate_left
                · intro u hSu
                  try dsimp only at hSu
                  go_simp
                  try with_reducible rfl
                try simp only [Act.put, List.setIfInBounds_toArray, List.set_cons_zero, List.set_cons_succ]
                refine wpAnyH_take (i := 10) (oi := { dst := some 175, op := _, type := _, pos := _, after := _, guard := none }) (v := ?_) rfl (by kernel_rfl) (by kernel_rfl) (by kernel_rfl) (fun _ _ _ h => h) (Or.inl ⟨by rfl, ?_⟩) hH ?_
                rotate_left
                · intro u hSu
                  try dsimp only at hSu
                  go_simp
                  try with_reducible rfl
                try simp only [Act.put, List.setIfInBounds_toArray, List.set_cons_zero, List.set_cons_succ]
                refine wpAnyH_take (i := 11) (oi := { dst := some 176, op := _, type := _, pos := _, after := _, guard := none }) (v := ?_) rfl (by kernel_rfl) (by kernel_rfl) (by kernel_rfl) (fun _ _ _ h => h) (Or.inl ⟨by rfl, ?_⟩) hH ?_
                rotate_left
                · intro u hSu
                  try dsimp only at hSu
                  go_simp
                  try with_reducible rfl
                try simp only [Act.put, List.setIfInBounds_toArray, List.set_cons_zero, List.set_cons_succ]
                refine wpAnyH_take (i := 12) (oi := { dst := some 177, op := _, type := _, pos := _, after := _, guard := some (11, false) }) (v := ?_) rfl (by kernel_rfl) (by kernel_rfl) (by kernel_rfl) (fun _ _ _ h => h) (Or.inl ⟨by rfl, ?_⟩) hH ?_
                rotate_left
                · intro u hSu
                  try dsimp only at hSu
                  go_simp
                  try with_reducible rfl
                try simp only [Act.put, List.setIfInBounds_toArray, List.set_cons_zero, List.set_cons_succ]
                refine wpAnyH_take (i := 13) (oi := { dst := some 178, op := _, type := _, pos := _, after := _, guard := some (11, false) }) (v := ?_) rfl (by kernel_rfl) (by kernel_rfl) (by kernel_rfl) (fun _ _ _ h => h) (Or.inl ⟨by rfl, ?_⟩) hH ?_
                rotate_left
                · intro u hSu
                  try dsimp only at hSu
                  go_simp
                  try with_reducible rfl
                try simp only [Act.put, List.setIfInBounds_toArray, List.set_cons_zero, List.set_cons_succ]
                refine wpAnyH_take (i := 14) (oi := { dst := some 179, op := _, type := _, pos := _, after := _, guard := some (11, false) }) (v := ?_) rfl (by kernel_rfl) (by kernel_rfl) (by kernel_rfl) (fun _ _ _ h => h) (Or.inl ⟨by rfl, ?_⟩) hH ?_
                rotate_left
                · intro u hSu
                  try dsimp only at hSu
                  go_simp
                  try with_reducible rfl
                try simp only [Act.put, List.setIfInBounds_toArray, List.set_cons_zero, List.set_cons_succ]
                refine wpAnyH_take (i := 15) (oi := { dst := some 180, op := _, type := _, pos := _, after := _, guard := some (14, true) }) (v := undef) rfl (by kernel_rfl) (by kernel_rfl) (by kernel_rfl) (fun _ _ _ h => h) (Or.inr ⟨by rfl, rfl⟩) hH ?_
                try simp only [Act.put, List.setIfInBounds_toArray, List.set_cons_zero, List.set_cons_succ]
                refine wpAnyH_take (i := 16) (oi := { dst := some 181, op := _, type := _, pos := _, after := _, guard := some (14, true) }) (v := undef) rfl (by kernel_rfl) (by kernel_rfl) (by kernel_rfl) (fun _ _ _ h => h) (Or.inr ⟨by rfl, rfl⟩) hH ?_
                try simp only [Act.put, List.setIfInBounds_toArray, List.set_cons_zero, List.set_cons_succ]
                refine wpAnyH_take (i := 17) (oi := { dst := some 182, op := _, type := _, pos := _, after := _, guard := some (14, true) }) (v := undef) rfl (by kernel_rfl) (by kernel_rfl) (by kernel_rfl) (fun _ _ _ h => h) (Or.inr ⟨by rfl, rfl⟩) hH ?_
                try simp only [Act.put, List.setIfInBounds_toArray, List.set_cons_zero, List.set_cons_succ]
                refine wpAnyH_take (i := 18) (oi := { dst := some 183, op := _, type := _, pos := _, after := _, guard := some (14, true) }) (v := undef) rfl (by kernel_rfl) (by kernel_rfl) (by kernel_rfl) (fun _ _ _ h => h) (Or.inr ⟨by rfl, rfl⟩) hH ?_
                try simp only [Act.put, List.setIfInBounds_toArray, List.set_cons_zero, List.set_cons_succ]
                refine wpAnyH_take (i := 19) (oi := { dst := some 184, op := _, type := _, pos := _, after := _, guard := some (14, true) }) (v := undef) rfl (by kernel_rfl) (by kernel_rfl) (by kernel_rfl) (fun _ _ _ h => h) (Or.inr ⟨by rfl, rfl⟩) hH ?_
                try simp only [Act.put, List.setIfInBounds_toArray, List.set_cons_zero, List.set_cons_succ]
                refine wpAnyH_take (i := 20) (oi := { dst := some 185, op := _, type := _, pos := _, after := _, guard := some (11, false) }) (v := ?_) rfl (by kernel_rfl) (by kernel_rfl) (by kernel_rfl) (fun _ _ _ h => h) (Or.inl ⟨by rfl, ?_⟩) hH ?_
                rotate_left
                · intro u hSu
                  try dsimp only at hSu
                  go_simp
                  try with_reducible rfl
                try simp only [Act.put, List.setIfInBounds_toArray, List.set_cons_zero, List.set_cons_succ]
                refine wpAnyH_take (i := 21) (oi := { dst := some 186, op := _, type := _, pos := _, after := _, guard := none }) (v := ?_) rfl (by kernel_rfl) (by kernel_rfl) (by kernel_rfl) (fun _ _ _ h => h) (Or.inl ⟨by rfl, ?_⟩) hH ?_
                rotate_left
                · intro u hSu
                  try dsimp only at hSu
                  go_simp
                  try with_reducible rfl
                try simp only [Act.put, List.setIfInBounds_toArray, List.set_cons_zero, List.set_cons_succ]
                refine wpAnyH_done (by kernel_rfl) ?_ _
                refine NoPanic.normal ?_
                have g17 : Chg [] w16 w16.drew := Chg.drew [] w16
                generalize w16.drew = w17 at *
                clear HS hsl1 hsl2 hH
                go_wp2_with fail
                exact ⟨⟨j + 1, Kn, fa16, cf16, la16, cl16, E16, L16, u16, by go_num, by omega, p16'.keep g17, hL16, HKN.out, by omega, hr16.chg g17 (by simp)⟩, by simp [Go.RowKit.intOf]; omega⟩
              · have hjA : ((j : Int) == 0) = false := beq_eq_false_iff_ne.2 (by omega)
                have hjB : decide ((0 : Int) < (j : Int)) = true := decide_eq_true (by omega)
                have hjC : (j == 0) = false := beq_eq_false_iff_ne.2 hj0
                have hjD : decide (0 < j) = true := decide_eq_true (by omega)
                have hXb := hhi (by omega)
                subst hXb
                have cvZ : ∀ (u : World) (xo : Option Addr) (xc : Nat), Reads u xo (bts zeroB) → (convert 31 9 (.slice xo 256 xc)).run Try.prog u = .ok (.string ⟨zeroB.toArray⟩) u := fun u xo xc h => run_convert_k (P := Try.prog) u 31 5 9 Try.underlying31 Try.underlying5 Try.underlying9 xo 256 xc zeroB h rfl
                have hmz : ∀ u : World, (Instr.makeSlice 31 (.int .i64 256) (.int .i64 256)).run Try.prog u = .ok (.slice (some ⟨u.heap.size, 0, none⟩) 256 256) (u.alloc (.cells (madeCells #[.int .u8 0] 256) 5)) := hmk 256 (by decide)
                have cvD : (convert 31 9 (.slice (some ⟨w16.heap.size, 0, none⟩) 256 256)).run Try.prog (w16.alloc (.cells (madeCells #[.int .u8 0] 256) 5)).drew = .ok (.string ⟨zeroB.toArray⟩) (w16.alloc (.cells (madeCells #[.int .u8 0] 256) 5)).drew := cvZ _ _ _ ((made_room w16 5 (.int .u8 0) 256 (by decide)).reads.keep (Chg.drew [] _))
                have hS : ∀ u, Chg [] w16 u → (convert 31 9 (.slice ro 256 rc)).run Try.prog u = .ok (.string ⟨zeroB.toArray⟩) u ∧ Chg [] w16 u := fun u c => ⟨cvZ u ro rc (rr16.chg c (by simp)).reads, c⟩
                have HS := mkHid hS
                have HKN := mkHid hKn
                clear hS cvZ rr16 rg hlo hhi hj0 hKn hXl
                go_wp2_with fail
                refine wp_region_noPanic ?_
                refine wp_region_held_drew (S := (fun u => (convert 31 9 (.slice ro 256 rc)).run Try.prog u = .ok (.string ⟨zeroB.toArray⟩) u ∧ Chg [] w16 u)) (by kernel_rfl) ?_ (fun hH => ?_)
                · exact (HS.out _ (Chg.drew [] _))
                refine wpAnyH_take (i := 0) (oi := { dst := some 165, op := _, type := _, pos := _, after := _, guard := none }) (v := ?_) rfl (by kernel_rfl) (by kernel_rfl) (by kernel_rfl) (fun _ _ _ h => h) (Or.inl ⟨by rfl, ?_⟩) hH ?_
                rotate_left
                · intro u hSu
                  try dsimp only at hSu
                  go_simp
                  try with_reducible rfl
                try simp only [Act.put, List.setIfInBounds_toArray, List.set_cons_zero, List.set_cons_succ]
                refine wpAnyH_take (i := 1) (oi := { dst := some 166, op := _, type := _, pos := _, after := _, guard := none }) (v := ?_) rfl (by kernel_rfl) (by kernel_rfl) (by kernel_rfl) (fun _ _ _ h => h) (Or.inl ⟨by rfl, ?_⟩) hH ?_
                rotate_left
                · intro u hSu
                  try dsimp only at hSu
                  go_simp
                  try with_reducible rfl
                try simp only [Act.put, List.setIfInBounds_toArray, List.set_cons_zero, List.set_cons_succ]
                refine wpAnyH_take (i := 2) (oi := { dst := some 167, op := _, type := _, pos := _, after := _, guard := none }) (v := ?_) rfl (by kernel_rfl) (by kernel_rfl) (by kernel_rfl) (fun _ _ _ h => h) (Or.inl ⟨by rfl, ?_⟩) hH ?_
                rotate_left
                · intro u hSu
                  try dsimp only at hSu
                  go_simp
                  try with_reducible rfl
                try simp only [Act.put, List.setIfInBounds_toArray, List.set_cons_zero, List.set_cons_succ]
                refine wpAnyH_take (i := 3) (oi := { dst := some 168, op := _, type := _, pos := _, after := _, guard := some (2, true) }) (v := undef) rfl (by kernel_rfl) (by kernel_rfl) (by kernel_rfl) (fun _ _ _ h => h) (Or.inr ⟨by rfl, rfl⟩) hH ?_
                try simp only [Act.put, List.setIfInBounds_toArray, List.set_cons_zero, List.set_cons_succ]
                refine wpAnyH_take (i := 4) (oi := { dst := some 169, op := _, type := _, pos := _, after := _, guard := some (2, true) }) (v := undef) rfl (by kernel_rfl) (by kernel_rfl) (by kernel_rfl) (fun _ _ _ h => h) (Or.inr ⟨by rfl, rfl⟩) hH ?_
                try simp only [Act.put, List.setIfInBounds_toArray, List.set_cons_zero, List.set_cons_succ]
                refine wpAnyH_take (i := 5) (oi := { dst := some 170, op := _, type := _, pos := _, after := _, guard := some (2, true) }) (v := undef) rfl (by kernel_rfl) (by kernel_rfl) (by kernel_rfl) (fun _ _ _ h => h) (Or.inr ⟨by rfl, rfl⟩) hH ?_
                try simp only [Act.put, List.setIfInBounds_toArray, List.set_cons_zero, List.set_cons_succ]
                refine wpAnyH_take (i := 6) (oi := { dst := some 171, op := _, type := _, pos := _, after := _, guard := some (2, true) }) (v := undef) rfl (by kernel_rfl) (by kernel_rfl) (by kernel_rfl) (fun _ _ _ h => h) (Or.inr ⟨by rfl, rfl⟩) hH ?_
                try simp only [Act.put, List.setIfInBounds_toArray, List.set_cons_zero, List.set_cons_succ]
                refine wpAnyH_take (i := 7) (oi := { dst := some 172, op := _, type := _, pos := _, after := _, guard := some (2, true) }) (v := undef) rfl (by kernel_rfl) (by kernel_rfl) (by kernel_rfl) (fun _ _ _ h => h) (Or.inr ⟨by rfl, rfl⟩) hH ?_
                try simp only [Act.put, List.setIfInBounds_toArray, List.set_cons_zero, List.set_cons_succ]
                refine wpAnyH_take (i := 8) (oi := { dst := some 173, op := _, type := _, pos := _, after := _, guard := some (2, true) }) (v := undef) rfl (by kernel_rfl) (by kernel_rfl) (by kernel_rfl) (fun _ _ _ h => h) (Or.inr ⟨by rfl, rfl⟩) hH ?_
                try simp only [Act.put, List.setIfInBounds_toArray, List.set_cons_zero, List.set_cons_succ]
                refine wpAnyH_take (i := 9) (oi := { dst := some 174, op := _, type := _, pos := _, after := _, guard := some (2, true) }) (v := undef) rfl (by kernel_rfl) (by kernel_rfl) (by kernel_rfl) (fun _ _ _ h => h) (Or.inr ⟨by rfl, rfl⟩) hH ?_
                try simp only [Act.put, List.setIfInBounds_toArray, List.set_cons_zero, List.set_cons_succ]
                refine wpAnyH_take (i := 10) (oi := { dst := some 175, op := _, type := _, pos := _, after := _, guard := none }) (v := ?_) rfl (by kernel_rfl) (by kernel_rfl) (by kernel_rfl) (fun _ _ _ h => h) (Or.inl ⟨by rfl, ?_⟩) hH ?_
                rotate_left
                · intro u hSu
                  try dsimp only at hSu
                  go_simp
                  try with_reducible rfl
                try simp only [Act.put, List.setIfInBounds_toArray, List.set_cons_zero, List.set_cons_succ]
                refine wpAnyH_take (i := 11) (oi := { dst := some 176, op := _, type := _, pos := _, after := _, guard := none }) (v := ?_) rfl (by kernel_rfl) (by kernel_rfl) (by kernel_rfl) (fun _ _ _ h => h) (Or.inl ⟨by rfl, ?_⟩) hH ?_
                rotate_left
                · intro u hSu
                  try dsimp only at hSu
                  go_simp
                  try with_reducible rfl
                try simp only [Act.put, List.setIfInBounds_toArray, List.set_cons_zero, List.set_cons_succ]
                refine wpAnyH_take (i := 12) (oi := { dst := some 177, op := _, type := _, pos := _, after := _, guard := some (11, false) }) (v := ?_) rfl (by kernel_rfl) (by kernel_rfl) (by kernel_rfl) (fun _ _ _ h => h) (Or.inl ⟨by rfl, ?_⟩) hH ?_
                rotate_left
                · intro u hSu
                  try dsimp only at hSu
                  go_simp
                  try with_reducible rfl
                try simp only [Act.put, List.setIfInBounds_toArray, List.set_cons_zero, List.set_cons_succ]
                refine wpAnyH_take (i := 13) (oi := { dst := some 178, op := _, type := _, pos := _, after := _, guard := some (11, false) }) (v := ?_) rfl (by kernel_rfl) (by kernel_rfl) (by kernel_rfl) (fun _ _ _ h => h) (Or.inl ⟨by rfl, ?_⟩) hH ?_
                rotate_left
                · intro u hSu
                  try dsimp only at hSu
                  go_simp
                  try with_reducible rfl
                try simp only [Act.put, List.setIfInBounds_toArray, List.set_cons_zero, List.set_cons_succ]
                refine wpAnyH_take (i := 14) (oi := { dst := some 179, op := _, type := _, pos := _, after := _, guard := some (11, false) }) (v := ?_) rfl (by kernel_rfl) (by kernel_rfl) (by kernel_rfl) (fun _ _ _ h => h) (Or.inl ⟨by rfl, ?_⟩) hH ?_
                rotate_left
                · intro u hSu
                  try dsimp only at hSu
                  go_simp
                  try with_reducible rfl
                try simp only [Act.put, List.setIfInBounds_toArray, List.set_cons_zero, List.set_cons_succ]
                refine wpAnyH_take (i := 15) (oi := { dst := some 180, op := _, type := _, pos := _, after := _, guard := some (14, true) }) (v := ?_) rfl (by kernel_rfl) (by kernel_rfl) (by kernel_rfl) (fun _ _ _ h => h) (Or.inl ⟨by rfl, ?_⟩) hH ?_
                rotate_left
                · intro u hSu
                  try dsimp only at hSu
                  go_simp
                  try with_reducible rfl
                try simp only [Act.put, List.setIfInBounds_toArray, List.set_cons_zero, List.set_cons_succ]
                refine wpAnyH_take (i := 16) (oi := { dst := some 181, op := _, type := _, pos := _, after := _, guard := some (14, true) }) (v := ?_) rfl (by kernel_rfl) (by kernel_rfl) (by kernel_rfl) (fun _ _ _ h => h) (Or.inl ⟨by rfl, ?_⟩) hH ?_
                rotate_left
                · intro u hSu
                  try dsimp only at hSu
                  go_simp
                  try with_reducible rfl
                try simp only [Act.put, List.setIfInBounds_toArray, List.set_cons_zero, List.set_cons_succ]
                refine wpAnyH_ready (rs := [17]) (by kernel_rfl) (by simp) ?_
                refine AllReadyH.cons (o := { dst := some 182, op := _, type := _, pos := _, after := _, guard := some (14, true) }) rfl (fun K hK => ?_) AllReadyH.nil
                go_simp
                clear hH
                refine hK.out _ _ (HS.out _ ((Chg.alloc [] _ _).then (Chg.drew [] _))) (fun hH => ?_)
                clear hK K
                try simp only [Act.put, List.setIfInBounds_toArray, List.set_cons_zero, List.set_cons_succ]
                refine wpAnyH_ready (rs := [18]) (by kernel_rfl) (by simp) ?_
                refine AllReadyH.cons (o := { dst := some 183, op := _, type := _, pos := _, after := _, guard := some (14, true) }) rfl (fun K hK => ?_) AllReadyH.nil
                go_simp
                clear hH
                refine hK.out _ _ (HS.out _ ((Chg.alloc [] _ _).then (Chg.drew [] _))) (fun hH => ?_)
                clear hK K
                try simp only [Act.put, List.setIfInBounds_toArray, List.set_cons_zero, List.set_cons_succ]
                refine wpAnyH_take (i := 19) (oi := { dst := some 184, op := _, type := _, pos := _, after := _, guard := some (14, true) }) (v := ?_) rfl (by kernel_rfl) (by kernel_rfl) (by kernel_rfl) (fun _ _ _ h => h) (Or.inl ⟨by rfl, ?_⟩) hH ?_
                rotate_left
                · intro u hSu
                  try dsimp only at hSu
                  go_simp
                  try with_reducible rfl
                try simp only [Act.put, List.setIfInBounds_toArray, List.set_cons_zero, List.set_cons_succ]
                refine wpAnyH_take (i := 20) (oi := { dst := some 185, op := _, type := _, pos := _, after := _, guard := some (11, false) }) (v := ?_) rfl (by kernel_rfl) (by kernel_rfl) (by kernel_rfl) (fun _ _ _ h => h) (Or.inl ⟨by rfl, ?_⟩) hH ?_
                rotate_left
                · intro u hSu
                  try dsimp only at hSu
                  go_simp
                  try with_reducible rfl
                try simp only [Act.put, List.setIfInBounds_toArray, List.set_cons_zero, List.set_cons_succ]
                refine wpAnyH_take (i := 21) (oi := { dst := some 186, op := _, type := _, pos := _, after := _, guard := none }) (v := ?_) rfl (by kernel_rfl) (by kernel_rfl) (by kernel_rfl) (fun _ _ _ h => h) (Or.inl ⟨by rfl, ?_⟩) hH ?_
                rotate_left
                · intro u hSu
                  try dsimp only at hSu
                  go_simp
                  try with_reducible rfl
                try simp only [Act.put, List.setIfInBounds_toArray, List.set_cons_zero, List.set_cons_succ]
                refine wpAnyH_done (by kernel_rfl) ?_ _
                refine NoPanic.normal ?_
                have g17 : Chg [] w16 (w16.alloc (.cells (madeCells #[.int .u8 0] 256) 5)).drew := (Chg.alloc [] _ _).then (Chg.drew [] _)
                generalize (w16.alloc (.cells (madeCells #[.int .u8 0] 256) 5)).drew = w17 at *
                clear hmz HS hH
                go_wp2_with fail
                exact ⟨⟨j + 1, Kn, fa16, cf16, la16, cl16, E16, L16, u16, by go_num, by omega, p16'.keep g17, hL16, HKN.out, by omega, hr16.chg g17 (by simp)⟩, by simp [Go.RowKit.intOf]; omega⟩
            · have hd5 : decide (j < ns.length) = false := decide_eq_false hjl
              have hd6 : decide ((j : Int) < (ns.length : Int)) = false := decide_eq_false (by omega)
              have c9 := p.c
              clear p hr hL hKj
              go_wp2_with fail
              refine (wakes_any wr).mono ?_
              rintro e w10 ⟨rfl, g10⟩
              go_wp2_with fail
              go_ret
              exact ⟨rfl, c9.then g10⟩
end Go.Proofs.Ytdmhcbbakgljoaa
