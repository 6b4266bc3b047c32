/- CacheUnseen: the walk. -/
import Derived.Test.YtdmhcbbakgljoaaKk
namespace Go.Proofs.Ytdmhcbbakgljoaa
open Go.RowKit Go.Maps
set_option linter.unusedVariables false
set_option linter.unusedSimpArgs false
attribute [local go_sem ↓] Go.wp_at_zero Go.wp_at_succ

set_option maxRecDepth 100000 in
set_option maxHeartbeats 8000000 in
theorem unseen_core (z1 z2 : Int) (gz1 : (Lit.int .i64 z1).wf = true) (gz2 : (Lit.int .i64 z2).wf = true) (a0 : Option Addr) (n0 c0 : Nat) (acts : Nat → ActD) (w : World) (gn : n0 ≤ c0) (gc : n0 ≤ 1048576) (ga : ActsAt w a0 n0 acts) :
    Calls Try.prog 3 #[.int .i64 z1, .int .i64 z2, .slice a0 n0 c0] w fun e w' => e = .returned (.bool true) ∧ Chg [] w w' := by
  have hmz : ∀ u : World, (Instr.makeSlice 31 (.int .i64 256) (.int .i64 256)).run Try.prog u = .ok (.slice (some ⟨u.heap.size, 0, none⟩) 256 256) (u.alloc (.cells (madeCells #[.int .u8 0] 256) 5)) := hmk 256 (by decide)
  go_enter Try.func3, Try.ntmps3
  go_wp2_with fail
  refine (within_any z1 1 24 (by decide) (by decide) gz1 w).mono ?_
  rintro e w' ⟨n, rfl, hn1, hn24, rfl⟩
  go_wp2_with fail
  refine (within_any z2 1 12 (by decide) (by decide) gz2 w).mono ?_
  rintro e w' ⟨m, rfl, hm1, hm12, rfl⟩
  go_wp2_with fail
  refine (dnew_yes n (by omega) (by omega) w).mono ?_
  rintro e w1 ⟨db, g, rfl, d1, g1⟩
  go_wp2_with fail
  refine (cnew_yes m (by omega) w w1 (fun _ => False) db g none 0 (RS.new n) d1 g1 (new_whole n (by omega)) (fun k hk => hk.elim)).mono ?_
  rintro e w2 ⟨cb, mb, rfl, p2, g2⟩
  clear d1 g1 g2
  go_wp2_with fail
  have hrep : (#[.slice none 0 0, .slice none 0 0, .slice none 0 0, .slice none 0 0, .slice none 0 0, .slice none 0 0, .slice none 0 0, .slice none 0 0, .slice none 0 0, .slice none 0 0, .slice none 0 0, .slice none 0 0, .slice none 0 0, .slice none 0 0, .slice none 0 0, .slice none 0 0, .slice none 0 0, .slice none 0 0, .slice none 0 0, .slice none 0 0, .slice none 0 0, .slice none 0 0, .slice none 0 0, .slice none 0 0] : Array Value) = Array.replicate 24 (.slice none 0 0) := rfl
  rw [hrep]
  have hb2 : Nows (w2.alloc (.cells (Array.replicate 24 (.slice none 0 0)) 32)) w2.heap.size 0 (fun _ => none) (fun _ => 0) (fun _ => zeroB) :=
    ⟨fun j hj => by omega, fun j hj => frozen_of_row _ _ _ _ _ (heap_alloc_last w2 _), fun j hj => ⟨.slice none 0 0, by rw [cell_of_row _ _ _ _ _ _ (heap_alloc_last w2 _)]; simp [hj]⟩, fun j hj => by omega, fun j hj => by omega, fun j hj => by omega⟩
  have p3 := p2.add (R' := NR w2.heap.size 0 (fun _ => none)) (Chg.alloc [] w2 (.cells (Array.replicate 24 (.slice none 0 0)) 32)) (fun k hk => by
    rcases hk with hk | ⟨j, hj, _⟩
    · exact Or.inr (by rw [hk]; simp)
    · omega)
  have hxb := p2.c.size
  generalize hX : w2.heap.size = xb at *
  generalize w2.alloc (.cells (Array.replicate 24 (.slice none 0 0)) 32) = w3 at *
  clear hX hrep p2
  go_loopw [12] (fun i wr => ∃ (j : Nat) (T : Nat → Option Addr) (C : Nat → Nat), i = .int .i64 j ∧ j ≤ n ∧ Pair w wr (NR xb j T) db g none 0 (RS.new n) cb mb none 0 [] [] m 0 ∧ Nows wr xb j T C (fun _ => zeroB)) (fun i _ => n - (Go.RowKit.intOf i).toNat)
  case atStart => exact ⟨0, _, _, rfl, Nat.zero_le _, p3, hb2⟩
  case round =>
    clear p3 hb2
    obtain ⟨j, T, C, rfl, hj, p, nw⟩ := hrel
    by_cases hjn : j < n
    · have hd1 : decide (j < n) = true := decide_eq_true hjn
      have hd2 : decide ((j : Int) < (n : Int)) = true := decide_eq_true (by omega)
      have hj24 : (j : Int) < 24 := by omega
      have gA := Chg.alloc [] wr (.cells (madeCells #[.int .u8 0] 256) 5)
      have nw1 := nw.keep gA
      obtain ⟨u0, hu0⟩ := nw1.ex j (by omega)
      have hf0 := nw1.fz j (by omega)
      have hxw : xb < wr.heap.size := by
        obtain ⟨v, hv⟩ := nw.ex j (by omega)
        exact block_lt_of_cell hv
      have p1 := p.add (R' := fun k => NR xb j T k ∨ k = wr.heap.size) gA (fun k hk => hk.imp id (fun e => by rw [e]; simp))
      have r1 := made_room wr 5 (.int .u8 0) 256 (by decide)
      have hz : List.replicate 256 (Value.int .u8 0) = bts zeroB := by unfold zeroB; simp [bts]
      rw [hz] at r1
      have hn' : ∀ i, i < j + 1 → i < j ∨ i = j := fun i hi => by omega
      have nw2 := nw1.put j (j + 1) (by omega) hn' (c := 256) r1.reads zeroB_len (fun k hk => by simp [blk] at hk; omega)
      have p4 := p1.lay (ao := some ⟨wr.heap.size, 0, none⟩) (v := .slice (some ⟨wr.heap.size, 0, none⟩) 256 256) j (j + 1) ⟨Or.inl (Or.inl rfl), hxb⟩ (fun k hk => (NR_put hn' hk).imp id (fun e => by simpa [blk] using e))
      have hV : upd (fun _ => zeroB) j zeroB = (fun _ : Nat => zeroB) := by funext x; unfold upd; split <;> rfl
      rw [hV, World.setCell_alloc_past _ _ _ _ hxw] at nw2
      rw [World.setCell_alloc_past _ _ _ _ hxw] at p4
      have NW := mkHid nw2
      have P4 := mkHid p4
      clear hz r1 hn' hV nw1 p1 nw2 p4 p nw gA
      go_wp2_with fail
      exact ⟨⟨j + 1, upd T j (some ⟨wr.heap.size, 0, none⟩), upd C j 256, by go_num, by omega, P4.out, NW.out⟩, by simp [Go.RowKit.intOf]; omega⟩
    · have hd1 : decide (j < n) = false := decide_eq_false hjn
      have hd2 : decide ((j : Int) < (n : Int)) = false := decide_eq_false (by omega)
      have hje : j = n := by omega
      rw [hje] at p nw
      clear hje hj
      go_wp2_with fail
      obtain ⟨h, hh⟩ : ∃ h, n = h + 1 := ⟨n - 1, by omega⟩
      have e1 : ((n : Int) - 1) = (h : Int) := by omega
      have hh1 : h < n := by omega
      have hh2 : n ≤ h + 1 := by omega
      clear hh
      go_loopw [13] (fun i wr => ∃ (k : Nat) (T : Nat → Option Addr) (C : Nat → Nat) (V : Nat → List UInt8) (K : List KE) (st : RS) (fa : Option Addr) (cf : Nat) (la : Option Addr) (cl : Nat) (E L : List Ent) (uses : Nat), i = .int .i64 k ∧ k ≤ n0 ∧ Pair w wr (NR xb n T) db g fa cf st cb mb la cl E L m uses ∧ L.map absE = K ∧ Good n K st ∧ K.length ≤ m ∧ st.L.length ≤ 48 * k ∧ Nows wr xb n T C V ∧ (∀ x, x < n → V x = kval K st x) ∧ uses ≤ k) (fun i _ => n0 - (Go.RowKit.intOf i).toNat)
      case atStart => exact ⟨0, T, C, _, [], _, none, 0, none, 0, [], [], 0, rfl, Nat.zero_le _, p, rfl, ⟨by simp, by simp, by simp, by simp, rfl, rfl, rfl⟩, Nat.zero_le _, Nat.zero_le _, nw, fun x hx => (new_reads n x hx).symm, Nat.le_refl _⟩
      case round =>
        clear p nw
        obtain ⟨k, T, C, V, K, st, fa, cf, la, cl, E, L, uses, rfl, hk, p, hL, gd, hKm, hLb, nw, hV, hu⟩ := hrel
        by_cases hlt : k < n0
        · obtain ⟨b0, o0, rfl, hact⟩ := ga (by omega)
          have hA0 := hact k hlt
          obtain ⟨A, hAe⟩ : ∃ A, A = acts k := ⟨_, rfl⟩
          rw [← hAe] at hA0
          clear hAe hact
          have hA := hA0.old p.c (by simp)
          have hb0 : b0 < w.heap.size := block_lt_of_cell hA0.c0
          have hne : b0 ≠ xb := by omega
          have x0 := hA.c0
          have x1 := hA.c1
          go_wp2_with fail
          refine (within_at A.num 0 _ 0 h rfl (by omega) (Nat.zero_le _) (by omega) hA.w1 wr).mono ?_
          rintro e w' ⟨a, rfl, -, hah, rfl⟩
          have han : a < n := by omega
          have ha24 : a < 24 := by omega
          have ha24' : (a : Int) < 24 := by omega
          by_cases hw0 : A.wh = 0
          · rw [hw0] at x0
            have x2 := hA.c2
            go_wp2_with fail
            refine (pair_block w wr _ db g fa cf _ cb mb la cl E L m uses p _ A.x rfl).mono ?_
            rintro e w5 ⟨nb5, rfl, r5, p5, g5⟩
            have nw5 := nw.keep g5
            have hu5 := nw5.at_ a han
            have hf5 := nw5.fz a ha24
            have hnb : nb5 ≠ xb := by
              have h1 := (r5.lt nb5 (by rw [fp_some _ _ _ (by decide)]; simp)).1
              obtain ⟨v, hv⟩ := nw.ex a ha24
              have h2 : xb < wr.heap.size := block_lt_of_cell hv
              omega
            have nw6 := nw5.put a n ha24 (fun j hj => Or.inl hj) (c := 256) r5.reads (blockB_len A.x) (fun k hk => by simp [blk] at hk; omega)
            have p6 := p5.lay (ao := some ⟨nb5, 0, none⟩) (v := .slice (some ⟨nb5, 0, none⟩) 256 256) a n ⟨Or.inl (Or.inl rfl), hxb⟩ (fun k hk => (NR_put (fun j hj => Or.inl hj) hk).imp id (fun e => by simpa [blk] using e))
            have hc6 := World.cell?_setCell_same w5 ⟨xb, a, none⟩ (.slice (some ⟨nb5, 0, none⟩) 256 256) hu5
            have gb6 := nw6.rd a han
            rw [upd_same, upd_same] at gb6
            obtain ⟨K', st', hp, gd', hKm', hV', hb'⟩ := gd.put m (by omega) hKm han (blockB_len A.x)
            have HV := mkHid hV
            have GD' := mkHid gd'
            have HV' := mkHid hV'
            clear p nw p5 g5 r5 nw5 x1 x2 hA hV gd gd' hV' hnb
            go_wp2_with fail
            generalize w5.setCell ⟨xb, a, none⟩ (.slice (some ⟨nb5, 0, none⟩) 256 256) = w6 at *
            refine (pair_put w w6 _ db g fa cf _ cb mb la cl E L m uses p6 _ _ 0 a _ 256 256 _ _ hL hp (by omega) (by omega) gb6 (blockB_len A.x) (fun k hk => Or.inl (Or.inr ⟨a, han, by rw [upd_same]; exact hk⟩))).mono ?_
            rintro e w7 ⟨rfl, fa7, cf7, la7, cl7, E7, L7, u7, pt, hLt, hu7, o7⟩
            have nt := nw6.off o7 (fun k hk => hk)
            have hvt : ∀ x, x < n → upd V a (blockB A.x) x = kval K' st' x := fun x hx => by
              rw [HV'.out x]
              by_cases e : x = a
              · rw [e, upd_same, if_pos rfl]
              · rw [upd_other _ _ e, if_neg e]
                exact HV.out x hx
            have HVT := mkHid hvt
            clear p6 nw6 o7 gb6 hp hL hc6 hu5 hf5 hvt
            obtain ⟨q, hq⟩ : ∃ q, q = (K').length := ⟨_, rfl⟩
            obtain ⟨P, hP⟩ : ∃ P, P = kplaces (K') := ⟨_, rfl⟩
            have hPq : P.length ≤ q := by rw [hP, hq]; exact kplaces_len _
            have hqm : q ≤ m := by omega
            have t1 : decide ((m : Int) < (q : Int)) = false := decide_eq_false (by omega)
            have t2 : decide ((q : Int) < (P.length : Int)) = false := decide_eq_false (by omega)
            have t3 : decide (m < q) = false := decide_eq_false (by omega)
            have t4 : decide (q < P.length) = false := decide_eq_false (by omega)
            have HQ := mkHid hq
            have HPP := mkHid hP
            clear hq hP
            go_wp2_with fail
            refine (pair_held w w7 _ db g fa7 cf7 _ cb mb la7 cl7 E7 L7 m u7 pt _ hLt q HQ.out.symm).mono ?_
            rintro e w' ⟨rfl, rfl⟩
            go_wp2_with fail
            refine (pair_dirty w w7 _ db g fa7 cf7 _ cb mb la7 cl7 E7 L7 m u7 pt _ hLt P HPP.out.symm).mono ?_
            rintro e wz ⟨lo, lc, rfl, -, pz, gz⟩
            have pz' := pz.less (fun k hk => Or.inl hk)
            have nz := nt.keep gz
            clear pz pt nt gz
            go_wp2_with fail
            refine (pair_held w wz _ db g fa7 cf7 _ cb mb la7 cl7 E7 L7 m u7 pz' _ hLt q HQ.out.symm).mono ?_
            rintro e w' ⟨rfl, rfl⟩
            go_wp2_with fail
            exact ⟨⟨k + 1, _, _, _, K', st', fa7, cf7, la7, cl7, E7, L7, u7, by go_num, by omega, pz', hLt, GD'.out, by have := HQ.out; omega, by omega, nz, HVT.out, by omega⟩, by simp [Go.RowKit.intOf]; omega⟩
          · have h01 : (A.wh == 0) = false := by simpa using hw0
            by_cases hw1 : A.wh = 1
            · rw [hw1] at x0
              have hr256 : (reads st a 4).length = 256 := reads_len st a 4 (by have := p.W.1; have := gd.c; omega) p.d.lS (fun f hf => (p.d.lL f hf).1)
              obtain ⟨K', st', hp, gd', hKm', hV', hb'⟩ := gd.get m (by omega) hKm han hr256
              have hva := hV a han
              have hYl := nw.ln a han
              have rY := nw.rd a han
              have hcY := nw.at_ a han
              rw [hva] at hYl rY
              generalize kval K st a = Y at *
              have HV := mkHid hV
              have GD' := mkHid gd'
              have HV' := mkHid hV'
              clear hA hV gd gd' hV' hr256 hva h01
              go_wp2_with fail
              refine (pair_get w wr _ db g fa cf _ cb mb la cl E L m uses p _ _ 0 a 256 Y _ hL hp (by omega) (by omega) hYl).mono ?_
              rintro e w6 ⟨ro, rc, rfl, rr, fa7, cf7, la7, cl7, E7, L7, u7, p6, hLt, hu7, o6⟩
              have nw6 := nw.off o6 (fun k hk => hk)
              have rY6 := rY.off o6 (fun k hk => Or.inr ⟨a, han, hk⟩)
              have hcY6 := o6.cellv hcY (Or.inl rfl)
              have p6' := p6.less (R' := NR xb n T) (fun k hk => Or.inl hk)
              have hvt : ∀ x, x < n → V x = kval K' st' x := fun x hx => (HV.out x hx).trans (HV'.out x).symm
              have HVT := mkHid hvt
              generalize T a = Ta at *
              generalize C a = Ca at *
              have cvA : ∀ (u : World) (xo : Option Addr) (xc : Nat), Reads u xo (bts Y) → (convert 31 9 (.slice xo 256 xc)).run Try.prog u = .ok (.string ⟨Y.toArray⟩) u := fun u xo xc h => run_convert_k (P := Try.prog) u 31 5 9 Try.underlying31 Try.underlying5 Try.underlying9 xo 256 xc Y h hYl
              have hS : ∀ u, Chg [] w6 u → (convert 31 9 (.slice ro 256 rc)).run Try.prog u = .ok (.string ⟨Y.toArray⟩) u ∧ (convert 31 9 (.slice Ta 256 Ca)).run Try.prog u = .ok (.string ⟨Y.toArray⟩) u ∧ u.cell? ⟨xb, a, none⟩ = some (.slice Ta 256 Ca) ∧ Chg [] w6 u := fun u c => ⟨cvA u ro rc (rr.reads.keep c), cvA u Ta Ca (rY6.keep c), c.cellv hcY6 (by simp), c⟩
              have HS := mkHid hS
              clear hS cvA rr rY rY6 hcY hcY6 p nw p6 o6 hL hp hvt
              go_wp2_with fail
              refine wp_region_noPanic ?_
              refine wp_region_held_drew (S := (fun u => (convert 31 9 (.slice ro 256 rc)).run Try.prog u = .ok (.string ⟨Y.toArray⟩) u ∧ (convert 31 9 (.slice Ta 256 Ca)).run Try.prog u = .ok (.string ⟨Y.toArray⟩) u ∧ u.cell? ⟨xb, a, none⟩ = some (.slice Ta 256 Ca) ∧ Chg [] w6 u)) (by kernel_rfl) ?_ (fun hH => ?_)
              · exact (HS.out _ (Chg.drew [] _))
              refine wpAnyH_take (i := 0) (oi := { dst := some 92, op := _, type := _, pos := _, after := _, guard := none }) (v := ?_) rfl (by kernel_rfl) (by kernel_rfl) (by kernel_rfl) (fun _ _ _ h => h) (Or.inl ⟨by rfl, ?_⟩) hH ?_
              rotate_left
              · intro u hSu
                try dsimp only at hSu
                go_simp
                try with_reducible rfl
              try simp only [Act.put, List.setIfInBounds_toArray, List.set_cons_zero, List.set_cons_succ]
              refine wpAnyH_take (i := 1) (oi := { dst := some 93, op := _, type := _, pos := _, after := _, guard := none }) (v := ?_) rfl (by kernel_rfl) (by kernel_rfl) (by kernel_rfl) (fun _ _ _ h => h) (Or.inl ⟨by rfl, ?_⟩) hH ?_
              rotate_left
              · intro u hSu
                try dsimp only at hSu
                go_simp
                try with_reducible rfl
              try simp only [Act.put, List.setIfInBounds_toArray, List.set_cons_zero, List.set_cons_succ]
              refine wpAnyH_take (i := 2) (oi := { dst := some 94, op := _, type := _, pos := _, after := _, guard := none }) (v := ?_) rfl (by kernel_rfl) (by kernel_rfl) (by kernel_rfl) (fun _ _ _ h => h) (Or.inl ⟨by rfl, ?_⟩) hH ?_
              rotate_left
              · intro u hSu
                try dsimp only at hSu
                go_simp
                try with_reducible rfl
              try simp only [Act.put, List.setIfInBounds_toArray, List.set_cons_zero, List.set_cons_succ]
              refine wpAnyH_take (i := 3) (oi := { dst := some 95, op := _, type := _, pos := _, after := _, guard := some (2, false) }) (v := ?_) rfl (by kernel_rfl) (by kernel_rfl) (by kernel_rfl) (fun _ _ _ h => h) (Or.inl ⟨by rfl, ?_⟩) hH ?_
              rotate_left
              · intro u hSu
                try dsimp only at hSu
                go_simp
                try with_reducible rfl
              try simp only [Act.put, List.setIfInBounds_toArray, List.set_cons_zero, List.set_cons_succ]
              refine wpAnyH_take (i := 4) (oi := { dst := some 96, op := _, type := _, pos := _, after := _, guard := some (2, false) }) (v := ?_) rfl (by kernel_rfl) (by kernel_rfl) (by kernel_rfl) (fun _ _ _ h => h) (Or.inl ⟨by rfl, ?_⟩) hH ?_
              rotate_left
              · intro u hSu
                try dsimp only at hSu
                go_simp
                try with_reducible rfl
              try simp only [Act.put, List.setIfInBounds_toArray, List.set_cons_zero, List.set_cons_succ]
              refine wpAnyH_take (i := 5) (oi := { dst := some 97, op := _, type := _, pos := _, after := _, guard := some (2, false) }) (v := ?_) rfl (by kernel_rfl) (by kernel_rfl) (by kernel_rfl) (fun _ _ _ h => h) (Or.inl ⟨by rfl, ?_⟩) hH ?_
              rotate_left
              · intro u hSu
                try dsimp only at hSu
                go_simp
                try with_reducible rfl
              try simp only [Act.put, List.setIfInBounds_toArray, List.set_cons_zero, List.set_cons_succ]
              refine wpAnyH_take (i := 6) (oi := { dst := some 98, op := _, type := _, pos := _, after := _, guard := some (2, false) }) (v := ?_) rfl (by kernel_rfl) (by kernel_rfl) (by kernel_rfl) (fun _ _ _ h => h) (Or.inl ⟨by rfl, ?_⟩) hH ?_
              rotate_left
              · intro u hSu
                try dsimp only at hSu
                go_simp
                try with_reducible rfl
              try simp only [Act.put, List.setIfInBounds_toArray, List.set_cons_zero, List.set_cons_succ]
              refine wpAnyH_take (i := 7) (oi := { dst := some 99, op := _, type := _, pos := _, after := _, guard := some (2, false) }) (v := ?_) rfl (by kernel_rfl) (by kernel_rfl) (by kernel_rfl) (fun _ _ _ h => h) (Or.inl ⟨by rfl, ?_⟩) hH ?_
              rotate_left
              · intro u hSu
                try dsimp only at hSu
                go_simp
                try with_reducible rfl
              try simp only [Act.put, List.setIfInBounds_toArray, List.set_cons_zero, List.set_cons_succ]
              refine wpAnyH_take (i := 8) (oi := { dst := some 100, op := _, type := _, pos := _, after := _, guard := some (2, false) }) (v := ?_) rfl (by kernel_rfl) (by kernel_rfl) (by kernel_rfl) (fun _ _ _ h => h) (Or.inl ⟨by rfl, ?_⟩) hH ?_
              rotate_left
              · intro u hSu
                try dsimp only at hSu
                go_simp
                try with_reducible rfl
              try simp only [Act.put, List.setIfInBounds_toArray, List.set_cons_zero, List.set_cons_succ]
              refine wpAnyH_take (i := 9) (oi := { dst := some 101, op := _, type := _, pos := _, after := _, guard := some (2, false) }) (v := ?_) rfl (by kernel_rfl) (by kernel_rfl) (by kernel_rfl) (fun _ _ _ h => h) (Or.inl ⟨by rfl, ?_⟩) hH ?_
              rotate_left
              · intro u hSu
                try dsimp only at hSu
                go_simp
                try with_reducible rfl
              try simp only [Act.put, List.setIfInBounds_toArray, List.set_cons_zero, List.set_cons_succ]
              refine wpAnyH_take (i := 10) (oi := { dst := some 102, op := _, type := _, pos := _, after := _, guard := none }) (v := ?_) rfl (by kernel_rfl) (by kernel_rfl) (by kernel_rfl) (fun _ _ _ h => h) (Or.inl ⟨by rfl, ?_⟩) hH ?_
              rotate_left
              · intro u hSu
                try dsimp only at hSu
                go_simp
                try with_reducible rfl
              try simp only [Act.put, List.setIfInBounds_toArray, List.set_cons_zero, List.set_cons_succ]
              refine wpAnyH_done (by kernel_rfl) ?_ _
              refine NoPanic.normal ?_
              have g7 : Chg [] w6 w6.drew := Chg.drew [] w6
              have pt := p6'.keep g7
              have nt := nw6.keep g7
              generalize w6.drew = w7 at *
              clear HS hH p6' nw6 g7
              obtain ⟨q, hq⟩ : ∃ q, q = (K').length := ⟨_, rfl⟩
              obtain ⟨P, hP⟩ : ∃ P, P = kplaces (K') := ⟨_, rfl⟩
              have hPq : P.length ≤ q := by rw [hP, hq]; exact kplaces_len _
              have hqm : q ≤ m := by omega
              have t1 : decide ((m : Int) < (q : Int)) = false := decide_eq_false (by omega)
              have t2 : decide ((q : Int) < (P.length : Int)) = false := decide_eq_false (by omega)
              have t3 : decide (m < q) = false := decide_eq_false (by omega)
              have t4 : decide (q < P.length) = false := decide_eq_false (by omega)
              have HQ := mkHid hq
              have HPP := mkHid hP
              clear hq hP
              go_wp2_with fail
              refine (pair_held w w7 _ db g fa7 cf7 _ cb mb la7 cl7 E7 L7 m u7 pt _ hLt q HQ.out.symm).mono ?_
              rintro e w' ⟨rfl, rfl⟩
              go_wp2_with fail
              refine (pair_dirty w w7 _ db g fa7 cf7 _ cb mb la7 cl7 E7 L7 m u7 pt _ hLt P HPP.out.symm).mono ?_
              rintro e wz ⟨lo, lc, rfl, -, pz, gz⟩
              have pz' := pz.less (fun k hk => Or.inl hk)
              have nz := nt.keep gz
              clear pz pt nt gz
              go_wp2_with fail
              refine (pair_held w wz _ db g fa7 cf7 _ cb mb la7 cl7 E7 L7 m u7 pz' _ hLt q HQ.out.symm).mono ?_
              rintro e w' ⟨rfl, rfl⟩
              go_wp2_with fail
              exact ⟨⟨k + 1, T, C, V, K', st', fa7, cf7, la7, cl7, E7, L7, u7, by go_num, by omega, pz', hLt, GD'.out, by have := HQ.out; omega, by omega, nz, HVT.out, by omega⟩, by simp [Go.RowKit.intOf]; omega⟩
            · have h11 : (A.wh == 1) = false := by simpa using hw1
              by_cases hw2 : A.wh = 2
              · rw [hw2] at x0
                obtain ⟨st', hp, gd', hV', hb'⟩ := gd.flush
                have HV := mkHid hV
                have GD' := mkHid gd'
                have HV' := mkHid hV'
                clear hA hV gd gd' hV' h01 h11 hw0 hw1
                go_wp2_with fail
                refine (pair_flush w wr _ db g fa cf _ cb mb la cl E L m uses p _ _ 0 _ hL hp (by omega)).mono ?_
                rintro e w6 ⟨rfl, fa7, cf7, E7, L7, p6, hLt, o6⟩
                have nw6 := nw.off o6 (fun k hk => hk)
                clear p nw o6 hL hp
                go_wp2_with fail
                refine (pair_dirty w w6 _ db g fa7 cf7 _ cb mb la cl E7 L7 m uses p6 _ hLt [] (kall_places K)).mono ?_
                rintro e w7 ⟨yo, yc, rfl, -, p7, g7⟩
                have pt := p7.less (R' := NR xb n T) (fun k hk => Or.inl hk)
                have nt := nw6.keep g7
                have hvt : ∀ x, x < n → V x = kval (kall K) st' x := fun x hx => (HV.out x hx).trans (HV'.out x).symm
                have HVT := mkHid hvt
                have hKm' : (kall K).length ≤ m := by unfold kall; rw [List.length_map]; exact hKm
                clear p6 nw6 g7 p7 hvt
                obtain ⟨q, hq⟩ : ∃ q, q = (kall K).length := ⟨_, rfl⟩
                obtain ⟨P, hP⟩ : ∃ P, P = kplaces (kall K) := ⟨_, rfl⟩
                have hPq : P.length ≤ q := by rw [hP, hq]; exact kplaces_len _
                have hqm : q ≤ m := by omega
                have t1 : decide ((m : Int) < (q : Int)) = false := decide_eq_false (by omega)
                have t2 : decide ((q : Int) < (P.length : Int)) = false := decide_eq_false (by omega)
                have t3 : decide (m < q) = false := decide_eq_false (by omega)
                have t4 : decide (q < P.length) = false := decide_eq_false (by omega)
                have HQ := mkHid hq
                have HPP := mkHid hP
                clear hq hP
                go_wp2_with fail
                refine (pair_held w w7 _ db g fa7 cf7 _ cb mb la cl E7 L7 m uses pt _ hLt q HQ.out.symm).mono ?_
                rintro e w' ⟨rfl, rfl⟩
                go_wp2_with fail
                refine (pair_dirty w w7 _ db g fa7 cf7 _ cb mb la cl E7 L7 m uses pt _ hLt P HPP.out.symm).mono ?_
                rintro e wz ⟨lo, lc, rfl, -, pz, gz⟩
                have pz' := pz.less (fun k hk => Or.inl hk)
                have nz := nt.keep gz
                clear pz pt nt gz
                go_wp2_with fail
                refine (pair_held w wz _ db g fa7 cf7 _ cb mb la cl E7 L7 m uses pz' _ hLt q HQ.out.symm).mono ?_
                rintro e w' ⟨rfl, rfl⟩
                go_wp2_with fail
                exact ⟨⟨k + 1, T, C, V, kall K, st', fa7, cf7, la, cl, E7, L7, uses, by go_num, by omega, pz', hLt, GD'.out, by have := HQ.out; omega, by omega, nz, HVT.out, by omega⟩, by simp [Go.RowKit.intOf]; omega⟩
              · have h21 : (A.wh == 2) = false := by simpa using hw2
                by_cases hw3 : A.wh = 3
                · rw [hw3] at x0
                  have hS256 : ∀ x, x < n → (reads st x 4).length = 256 := fun x hx => reads_len st x 4 (by have := p.W.1; have := gd.c; omega) p.d.lS (fun f hf => (p.d.lL f hf).1)
                  have hwhy : ∀ x : Nat, x < n → whyN st (x : Int) = 0 := fun x hx => gd.why hx
                  have GD' := mkHid gd.drop
                  have HWY := mkHid hwhy
                  have HRL := mkHid hS256
                  clear hA hV gd h01 h11 h21 hw0 hw1 hw2 hwhy hS256
                  go_wp2_with fail
                  refine (cdrop_any w wr _ db g fa cf _ cb mb la cl E L m uses p).mono ?_
                  rintro e w6 ⟨rfl, p6, o6⟩
                  have nw6 := nw.off o6 (fun k hk => hk)
                  clear p nw o6 hL
                  go_wp2_with fail
                  go_loopw [17] (fun i wr => ∃ (q : Nat) (T : Nat → Option Addr) (C : Nat → Nat) (V : Nat → List UInt8), i = .int .i64 q ∧ q ≤ n ∧ Pair w wr (NR xb n T) db g fa cf st cb mb none 0 [] [] m uses ∧ Nows wr xb n T C V ∧ (∀ x, x < q → V x = reads st x 4)) (fun i _ => n - (Go.RowKit.intOf i).toNat)
                  case atStart => exact ⟨0, T, C, V, rfl, Nat.zero_le _, p6, nw6, fun x hx => by omega⟩
                  case round =>
                    clear p6 nw6
                    obtain ⟨q, T, C, V, rfl, hq, p, nw, hV⟩ := hrel
                    by_cases hqn : q < n
                    · have hd3 : decide (q < n) = true := decide_eq_true hqn
                      have hd4 : decide ((q : Int) < (n : Int)) = true := decide_eq_true (by omega)
                      have hq24 : q < 24 := by omega
                      have hq24' : (q : Int) < 24 := by omega
                      go_wp2_with fail
                      refine (pair_read w wr _ db g fa cf _ cb mb none 0 [] [] m uses p q (HWY.out q hqn)).mono ?_
                      rintro e w8 ⟨ro, rc, rfl, rr, p8, g8⟩
                      have nw8 := nw.keep g8
                      have hu8 := nw8.at_ q hqn
                      have hf8 := nw8.fz q hq24
                      have hxw : xb < wr.heap.size := by
                        obtain ⟨v, hv⟩ := nw.ex q hq24
                        exact block_lt_of_cell hv
                      have hblk : ∀ k, k ∈ blk ro → k ∈ fp ro rc := blk_fp rr (by decide)
                      have nw9 := nw8.put q n hq24 (fun j hj => Or.inl hj) (c := rc) rr.reads (HRL.out q hqn) (fun k hk => by have := (rr.lt k (hblk k hk)).1; omega)
                      have p9 := p8.lay (ao := ro) (v := .slice ro 256 rc) q n ⟨Or.inl (Or.inl rfl), hxb⟩ (fun k hk => (NR_put (fun j hj => Or.inl hj) hk).imp id (fun e => hblk k e))
                      have hV9 : ∀ x, x < q + 1 → upd V q (reads st q 4) x = reads st x 4 := fun x hx => by
                        by_cases e : x = q
                        · rw [e, upd_same]
                        · rw [upd_other _ _ e]
                          exact hV x (by omega)
                      have NW := mkHid nw9
                      have P9 := mkHid p9
                      have HV9 := mkHid hV9
                      clear nw8 p8 rr g8 hblk nw9 p9 hV9 nw p hV
                      go_wp2_with fail
                      exact ⟨⟨q + 1, upd T q ro, upd C q rc, upd V q (reads st q 4), by go_num, by omega, P9.out, NW.out, HV9.out⟩, by simp [Go.RowKit.intOf]; omega⟩
                    · have hd3 : decide (q < n) = false := decide_eq_false hqn
                      have hd4 : decide ((q : Int) < (n : Int)) = false := decide_eq_false (by omega)
                      have hvt : ∀ x, x < n → V x = kval [] st x := fun x hx => hV x (by omega)
                      have HVT := mkHid hvt
                      have hLt : ([] : List Ent).map absE = [] := rfl
                      have pt := p
                      have nt := nw
                      have hKm' : ([] : List KE).length ≤ m := Nat.zero_le _
                      generalize wr = w7 at *
                      clear p nw hvt hV hq hqn
                      obtain ⟨q, hq⟩ : ∃ q, q = (([] : List KE)).length := ⟨_, rfl⟩
                      obtain ⟨P, hP⟩ : ∃ P, P = kplaces (([] : List KE)) := ⟨_, rfl⟩
                      have hPq : P.length ≤ q := by rw [hP, hq]; exact kplaces_len _
                      have hqm : q ≤ m := by omega
                      have t1 : decide ((m : Int) < (q : Int)) = false := decide_eq_false (by omega)
                      have t2 : decide ((q : Int) < (P.length : Int)) = false := decide_eq_false (by omega)
                      have t3 : decide (m < q) = false := decide_eq_false (by omega)
                      have t4 : decide (q < P.length) = false := decide_eq_false (by omega)
                      have HQ := mkHid hq
                      have HPP := mkHid hP
                      clear hq hP
                      go_wp2_with fail
                      refine (pair_held w w7 _ db g fa cf _ cb mb none 0 [] [] m uses pt _ hLt q HQ.out.symm).mono ?_
                      rintro e w' ⟨rfl, rfl⟩
                      go_wp2_with fail
                      refine (pair_dirty w w7 _ db g fa cf _ cb mb none 0 [] [] m uses pt _ hLt P HPP.out.symm).mono ?_
                      rintro e wz ⟨lo, lc, rfl, -, pz, gz⟩
                      have pz' := pz.less (fun k hk => Or.inl hk)
                      have nz := nt.keep gz
                      clear pz pt nt gz
                      go_wp2_with fail
                      refine (pair_held w wz _ db g fa cf _ cb mb none 0 [] [] m uses pz' _ hLt q HQ.out.symm).mono ?_
                      rintro e w' ⟨rfl, rfl⟩
                      go_wp2_with fail
                      exact ⟨⟨k + 1, T, C, V, ([] : List KE), st, fa, cf, none, 0, [], [], uses, by go_num, by omega, pz', hLt, GD'.out, by have := HQ.out; omega, by omega, nz, HVT.out, by omega⟩, by simp [Go.RowKit.intOf]; omega⟩
                · have h31 : (A.wh == 3) = false := by simpa using hw3
                  have GD' := mkHid gd
                  have HVT := mkHid hV
                  have hLt := hL
                  have pt := p
                  have nt := nw
                  clear hA hV gd hw0 hw1 hw2 hw3 p nw
                  obtain ⟨q, hq⟩ : ∃ q, q = (K).length := ⟨_, rfl⟩
                  obtain ⟨P, hP⟩ : ∃ P, P = kplaces (K) := ⟨_, rfl⟩
                  have hPq : P.length ≤ q := by rw [hP, hq]; exact kplaces_len _
                  have hqm : q ≤ m := by omega
                  have t1 : decide ((m : Int) < (q : Int)) = false := decide_eq_false (by omega)
                  have t2 : decide ((q : Int) < (P.length : Int)) = false := decide_eq_false (by omega)
                  have t3 : decide (m < q) = false := decide_eq_false (by omega)
                  have t4 : decide (q < P.length) = false := decide_eq_false (by omega)
                  have HQ := mkHid hq
                  have HPP := mkHid hP
                  clear hq hP
                  go_wp2_with fail
                  refine (pair_held w wr _ db g fa cf _ cb mb la cl E L m uses pt _ hLt q HQ.out.symm).mono ?_
                  rintro e w' ⟨rfl, rfl⟩
                  go_wp2_with fail
                  refine (pair_dirty w wr _ db g fa cf _ cb mb la cl E L m uses pt _ hLt P HPP.out.symm).mono ?_
                  rintro e wz ⟨lo, lc, rfl, -, pz, gz⟩
                  have pz' := pz.less (fun k hk => Or.inl hk)
                  have nz := nt.keep gz
                  clear pz pt nt gz
                  go_wp2_with fail
                  refine (pair_held w wz _ db g fa cf _ cb mb la cl E L m uses pz' _ hLt q HQ.out.symm).mono ?_
                  rintro e w' ⟨rfl, rfl⟩
                  go_wp2_with fail
                  exact ⟨⟨k + 1, T, C, V, K, st, fa, cf, la, cl, E, L, uses, by go_num, by omega, pz', hLt, GD'.out, by have := HQ.out; omega, by omega, nz, HVT.out, by omega⟩, by simp [Go.RowKit.intOf]; omega⟩
        · have hd1 : decide (k < n0) = false := decide_eq_false hlt
          have hd2 : decide ((k : Int) < (n0 : Int)) = false := decide_eq_false (by omega)
          have hLb9 : st.L.length ≤ 60000000 := by omega
          have hu9 : uses ≤ 2000000 := by omega
          clear hk hLb hu
          obtain ⟨st1, hp, gd1, hV1, hb1⟩ := gd.flush
          have hv : ∀ x, x < n → V x = reads st1 x 4 := fun x hx => (hV x hx).trans ((hV1 x).symm.trans (gd1.all x))
          have HV := mkHid hv
          clear hV hV1 hv gd
          go_wp2_with fail
          refine (pair_flush w wr _ db g fa cf _ cb mb la cl E L m uses p _ _ 0 _ hL hp (by omega)).mono ?_
          rintro e w6 ⟨rfl, fa6, cf6, E6, L6, p6, hL6, o6⟩
          have nw6 := nw.off o6 (fun k hk => hk)
          clear p nw o6 hL hp
          go_wp2_with fail
          have cBa := pair_barrier w w6 _ db g fa6 cf6 _ cb mb la cl E6 L6 m uses p6
          rw [barrier_plain st1 gd1.g gd1.l] at cBa
          refine cBa.mono ?_
          rintro e w7 ⟨rfl, fa7, cf7, p7, o7⟩
          have nw7 := nw6.off o7 (fun k hk => hk)
          have hset : ∀ x, x < n → reads { st1 with S := settle st1.S st1.L, L := [] } x 4 = reads st1 x 4 := fun x hx => reads_settled st1 p6.d.lS p6.d.lL x (by have := p6.W.1; have := gd1.c; omega)
          obtain ⟨st2, hst2⟩ : ∃ st2, st2 = ({ st1 with S := settle st1.S st1.L, L := [] } : RS) := ⟨_, rfl⟩
          have p7' : Pair w w7 (NR xb n T) db g fa7 cf7 st2 cb mb la cl E6 L6 m uses := by rw [hst2]; exact p7
          have hL2 : st2.L = [] := by rw [hst2]
          have hc2 : st2.count = n := by rw [hst2]; exact gd1.c
          rw [← hst2] at hset
          clear hst2 p7 p6 nw6 o7 cBa gd1 hb1
          go_wp2_with fail
          refine (pair_crash w w7 _ db g fa7 cf7 _ cb mb la cl E6 L6 m uses p7' none 0 0 [] (Reads.nil _ _) rfl (Nat.zero_le _) (fun k hk => by simp [blk] at hk)).mono ?_
          rintro e w8 ⟨rfl, p8, o8⟩
          have nw8 := nw7.off o8 (fun k hk => hk)
          have hv3 : ∀ x, x < n → V x = reads (crash st2 []) x 4 := fun x hx => by rw [reads_crashed st2 hL2 x, hset x hx]; exact HV.out x hx
          have hw3 : ∀ x : Nat, x < n → whyN (crash st2 []) (x : Int) = 0 := fun x hx => by
            unfold whyN
            rw [if_neg (by show ¬ (false = true); decide), if_neg (by show ¬ ((x : Int) < 0 ∨ (st2.count : Int) ≤ (x : Int)); rw [hc2]; omega)]
          generalize crash st2 [] = st3 at *
          have HV3 := mkHid hv3
          have HW3 := mkHid hw3
          clear hset hL2 hc2 p7' nw7 o8 hv3 hw3 HV hL6
          go_wp2_with fail
          go_loopw [18] (fun i wr => ∃ (q : Nat), i = .int .i64 q ∧ q ≤ n ∧ Pair w wr (NR xb n T) db g none 0 st3 cb mb la cl E6 L6 m uses ∧ Nows wr xb n T C V) (fun i _ => n - (Go.RowKit.intOf i).toNat)
          case atStart => exact ⟨0, rfl, Nat.zero_le _, p8, nw8⟩
          case round =>
            clear p8 nw8
            obtain ⟨q, rfl, hq, p, nw⟩ := hrel
            by_cases hqn : q < n
            · have hd3 : decide (q < n) = true := decide_eq_true hqn
              have hd4 : decide ((q : Int) < (n : Int)) = true := decide_eq_true (by omega)
              have hq24' : (q : Int) < 24 := by omega
              go_wp2_with fail
              refine (pair_read w wr _ db g none 0 _ cb mb la cl E6 L6 m uses p q (HW3.out q hqn)).mono ?_
              rintro e w9 ⟨ro, rc, rfl, rr, p9, g9⟩
              have nw9 := nw.keep g9
              have p9' := p9.less (R' := NR xb n T) (fun k hk => Or.inl hk)
              have rY := nw9.rd q hqn
              have hcY := nw9.at_ q hqn
              have hYl := nw9.ln q hqn
              rw [← HV3.out q hqn] at rr
              generalize V q = Y at *
              generalize T q = Ta at *
              generalize C q = Ca at *
              have cvA : ∀ (u : World) (xo : Option Addr) (xc : Nat), Reads u xo (bts Y) → (convert 31 9 (.slice xo 256 xc)).run Try.prog u = .ok (.string ⟨Y.toArray⟩) u := fun u xo xc h => run_convert_k (P := Try.prog) u 31 5 9 Try.underlying31 Try.underlying5 Try.underlying9 xo 256 xc Y h hYl
              have hS : ∀ u, Chg [] w9 u → (convert 31 9 (.slice ro 256 rc)).run Try.prog u = .ok (.string ⟨Y.toArray⟩) u ∧ (convert 31 9 (.slice Ta 256 Ca)).run Try.prog u = .ok (.string ⟨Y.toArray⟩) u ∧ u.cell? ⟨xb, q, none⟩ = some (.slice Ta 256 Ca) ∧ Chg [] w9 u := fun u c => ⟨cvA u ro rc (rr.reads.keep c), cvA u Ta Ca (rY.keep c), c.cellv hcY (by simp), c⟩
              have HS := mkHid hS
              clear hS cvA rr rY hcY p nw g9 p9
              go_wp2_with fail
              refine wp_region_noPanic ?_
              refine wp_region_held_drew (S := (fun u => (convert 31 9 (.slice ro 256 rc)).run Try.prog u = .ok (.string ⟨Y.toArray⟩) u ∧ (convert 31 9 (.slice Ta 256 Ca)).run Try.prog u = .ok (.string ⟨Y.toArray⟩) u ∧ u.cell? ⟨xb, q, none⟩ = some (.slice Ta 256 Ca) ∧ Chg [] w9 u)) (by kernel_rfl) ?_ (fun hH => ?_)
              · exact (HS.out _ (Chg.drew [] _))
              refine wpAnyH_take (i := 0) (oi := { dst := some 166, op := _, type := _, pos := _, after := _, guard := none }) (v := ?_) rfl (by kernel_rfl) (by kernel_rfl) (by kernel_rfl) (fun _ _ _ h => h) (Or.inl ⟨by rfl, ?_⟩) hH ?_
              rotate_left
              · intro u hSu
                try dsimp only at hSu
                go_simp
                try with_reducible rfl
              try simp only [Act.put, List.setIfInBounds_toArray, List.set_cons_zero, List.set_cons_succ]
              refine wpAnyH_take (i := 1) (oi := { dst := some 167, op := _, type := _, pos := _, after := _, guard := none }) (v := ?_) rfl (by kernel_rfl) (by kernel_rfl) (by kernel_rfl) (fun _ _ _ h => h) (Or.inl ⟨by rfl, ?_⟩) hH ?_
              rotate_left
              · intro u hSu
                try dsimp only at hSu
                go_simp
                try with_reducible rfl
              try simp only [Act.put, List.setIfInBounds_toArray, List.set_cons_zero, List.set_cons_succ]
              refine wpAnyH_take (i := 2) (oi := { dst := some 168, op := _, type := _, pos := _, after := _, guard := none }) (v := ?_) rfl (by kernel_rfl) (by kernel_rfl) (by kernel_rfl) (fun _ _ _ h => h) (Or.inl ⟨by rfl, ?_⟩) hH ?_
              rotate_left
              · intro u hSu
                try dsimp only at hSu
                go_simp
                try with_reducible rfl
              try simp only [Act.put, List.setIfInBounds_toArray, List.set_cons_zero, List.set_cons_succ]
              refine wpAnyH_take (i := 3) (oi := { dst := some 169, op := _, type := _, pos := _, after := _, guard := some (2, false) }) (v := ?_) rfl (by kernel_rfl) (by kernel_rfl) (by kernel_rfl) (fun _ _ _ h => h) (Or.inl ⟨by rfl, ?_⟩) hH ?_
              rotate_left
              · intro u hSu
                try dsimp only at hSu
                go_simp
                try with_reducible rfl
              try simp only [Act.put, List.setIfInBounds_toArray, List.set_cons_zero, List.set_cons_succ]
              refine wpAnyH_take (i := 4) (oi := { dst := some 170, op := _, type := _, pos := _, after := _, guard := some (2, false) }) (v := ?_) rfl (by kernel_rfl) (by kernel_rfl) (by kernel_rfl) (fun _ _ _ h => h) (Or.inl ⟨by rfl, ?_⟩) hH ?_
              rotate_left
              · intro u hSu
                try dsimp only at hSu
                go_simp
                try with_reducible rfl
              try simp only [Act.put, List.setIfInBounds_toArray, List.set_cons_zero, List.set_cons_succ]
              refine wpAnyH_take (i := 5) (oi := { dst := some 171, op := _, type := _, pos := _, after := _, guard := some (2, false) }) (v := ?_) rfl (by kernel_rfl) (by kernel_rfl) (by kernel_rfl) (fun _ _ _ h => h) (Or.inl ⟨by rfl, ?_⟩) hH ?_
              rotate_left
              · intro u hSu
                try dsimp only at hSu
                go_simp
                try with_reducible rfl
              try simp only [Act.put, List.setIfInBounds_toArray, List.set_cons_zero, List.set_cons_succ]
              refine wpAnyH_take (i := 6) (oi := { dst := some 172, op := _, type := _, pos := _, after := _, guard := some (2, false) }) (v := ?_) rfl (by kernel_rfl) (by kernel_rfl) (by kernel_rfl) (fun _ _ _ h => h) (Or.inl ⟨by rfl, ?_⟩) hH ?_
              rotate_left
              · intro u hSu
                try dsimp only at hSu
                go_simp
                try with_reducible rfl
              try simp only [Act.put, List.setIfInBounds_toArray, List.set_cons_zero, List.set_cons_succ]
              refine wpAnyH_take (i := 7) (oi := { dst := some 173, op := _, type := _, pos := _, after := _, guard := some (2, false) }) (v := ?_) rfl (by kernel_rfl) (by kernel_rfl) (by kernel_rfl) (fun _ _ _ h => h) (Or.inl ⟨by rfl, ?_⟩) hH ?_
              rotate_left
              · intro u hSu
                try dsimp only at hSu
                go_simp
                try with_reducible rfl
              try simp only [Act.put, List.setIfInBounds_toArray, List.set_cons_zero, List.set_cons_succ]
              refine wpAnyH_take (i := 8) (oi := { dst := some 174, op := _, type := _, pos := _, after := _, guard := some (2, false) }) (v := ?_) rfl (by kernel_rfl) (by kernel_rfl) (by kernel_rfl) (fun _ _ _ h => h) (Or.inl ⟨by rfl, ?_⟩) hH ?_
              rotate_left
              · intro u hSu
                try dsimp only at hSu
                go_simp
                try with_reducible rfl
              try simp only [Act.put, List.setIfInBounds_toArray, List.set_cons_zero, List.set_cons_succ]
              refine wpAnyH_take (i := 9) (oi := { dst := some 175, op := _, type := _, pos := _, after := _, guard := some (2, false) }) (v := ?_) rfl (by kernel_rfl) (by kernel_rfl) (by kernel_rfl) (fun _ _ _ h => h) (Or.inl ⟨by rfl, ?_⟩) hH ?_
              rotate_left
              · intro u hSu
                try dsimp only at hSu
                go_simp
                try with_reducible rfl
              try simp only [Act.put, List.setIfInBounds_toArray, List.set_cons_zero, List.set_cons_succ]
              refine wpAnyH_take (i := 10) (oi := { dst := some 176, op := _, type := _, pos := _, after := _, guard := none }) (v := ?_) rfl (by kernel_rfl) (by kernel_rfl) (by kernel_rfl) (fun _ _ _ h => h) (Or.inl ⟨by rfl, ?_⟩) hH ?_
              rotate_left
              · intro u hSu
                try dsimp only at hSu
                go_simp
                try with_reducible rfl
              try simp only [Act.put, List.setIfInBounds_toArray, List.set_cons_zero, List.set_cons_succ]
              refine wpAnyH_done (by kernel_rfl) ?_ _
              refine NoPanic.normal ?_
              have g10 : Chg [] w9 w9.drew := Chg.drew [] w9
              have pt := p9'.keep g10
              have nt := nw9.keep g10
              generalize w9.drew = w10 at *
              clear HS hH p9' nw9 g10
              go_wp2_with fail
              exact ⟨⟨q + 1, by go_num, by omega, pt, nt⟩, by simp [Go.RowKit.intOf]; omega⟩
            · have hd3 : decide (q < n) = false := decide_eq_false hqn
              have hd4 : decide ((q : Int) < (n : Int)) = false := decide_eq_false (by omega)
              have c9 := p.c
              clear p nw
              go_wp2_with fail
              refine (wakes_any wr).mono ?_
              rintro e w10 ⟨rfl, g10⟩
              go_wp2_with fail
              go_ret
              exact ⟨rfl, c9.then g10⟩
end Go.Proofs.Ytdmhcbbakgljoaa
