/- CacheHolds: the walk. -/
import Derived.Test.YtdmhcbbakgljoaaKd
namespace Go.Proofs.Ytdmhcbbakgljoaa
open Go.RowKit Go.Maps
set_option linter.unusedVariables false
set_option linter.unusedSimpArgs false
attribute [local go_sem ↓] Go.wp_at_zero Go.wp_at_succ

theorem eltZ : Elt Try.prog 40 3 8 := Elt.mk Try.underlying40 (z := .int .i64 0) (by kernel_rfl) rfl
set_option maxRecDepth 100000 in
set_option maxHeartbeats 4000000 in
theorem holds_core (z : Int) (gz : (Lit.int .i64 z).wf = true) (ao : Option Addr) (xn xc : Nat) (l : List UInt8) (w : World) (gl : Reads w ao (bts l)) (gn : l.length = xn) (gc : xn ≤ xc) (gr : xc ≤ 140737488351232) :
    Calls Try.prog 5 #[.int .i64 z, .slice ao xn xc] w fun e w' => e = .returned (.bool true) ∧ Chg [] w w' := by
  subst gn
  go_enter Try.func5, Try.ntmps5
  go_wp2_with fail
  refine (within_any z 1 9 (by decide) (by decide) gz w).mono ?_
  rintro e w' ⟨n, rfl, hn1, hn9, rfl⟩
  go_wp2_with fail
  refine (dnew_yes 16 (by decide) (by decide) w).mono ?_
  rintro e w1 ⟨db, g, rfl, d1, g1⟩
  go_wp2_with fail
  refine (cnew_yes n (by omega) w w1 (fun _ => False) db g none 0 (RS.new 16) d1 g1 (new_whole 16 (by decide)) (fun k hk => hk.elim)).mono ?_
  rintro e w2 ⟨cb, mb, rfl, p2, g2⟩
  clear d1 g1 g2
  go_wp2_with fail
  go_loopw [9, 10] (fun v i wr => ∃ (k : Nat) (HL : List Nat) (ho : Option Addr) (hc : Nat) (fa : Option Addr) (cf : Nat) (la : Option Addr) (cl : Nat) (E L : List Ent) (uses : Nat), i = .int .i64 k ∧ k ≤ l.length ∧ v = .slice ho HL.length hc ∧ HL.length ≤ n ∧ (∀ a ∈ HL, a < 16) ∧ Room wr w.heap.size ho HL.length hc (HL.map natV) ∧ Pair w wr (fun k => k ∈ fp ho hc) db g fa cf (RS.new 16) cb mb la cl E L n uses ∧ L.map absE = HL.map e0 ∧ uses ≤ k) (fun _ i _ => l.length - (Go.RowKit.intOf i).toNat)
  case atStart => exact ⟨0, [], none, 0, none, 0, none, 0, [], [], 0, rfl, Nat.zero_le _, rfl, Nat.zero_le _, by simp, Room.nil _ _ _, p2.less (fun k hk => by simp [fp_zero] at hk), rfl, Nat.le_refl _⟩
  case round =>
    obtain ⟨k, HL, ho, hc, fa, cf, la, cl, E, L, uses, rfl, hk, rfl, hHn, hH16, hr, p, hL, hu⟩ := hrel
    by_cases hlt : k < l.length
    · have gw := gl.keep p.c
      obtain ⟨b, o, rfl, hcell⟩ := gw (by rw [bts_length]; omega)
      have c0 := hcell k _ (bts_get l k hlt)
      obtain ⟨a, ha⟩ : ∃ a, a = l[k].toNat % 16 := ⟨_, rfl⟩
      have ha16 : a < 16 := by omega
      have hb := l[k].toNat_lt
      have e1 : (l[k].toNat : Int) % 16 = (a : Int) := by omega
      have e2 : (l[k].toNat : Int).tmod 16 = (a : Int) := by rw [Int.tmod_eq_emod_of_nonneg (by omega)]; exact e1
      generalize (l[k].toNat : Int) = x at *
      clear hcell ha
      go_wp2_with fail
      refine (pair_get w wr _ db g fa cf _ cb mb la cl E L n uses p _ _ 0 a 256 _ _ hL (hold_get n hn1 HL hHn a ha16) (by omega) (Nat.zero_le _) rfl).mono ?_
      rintro e w4 ⟨ro, rc, rfl, -, fa4, cf4, la4, cl4, E4, L4, u4', p4, hL4, hu4, o4⟩
      have hr4 := hr.off o4 (fun k hk => hk)
      have p4' := p4.less (R' := fun _ => False) (fun _ h => h.elim)
      clear p4 o4 p hr hL c0 gw e1 e2
      go_wp2_with fail
      go_loopw [14, 15] (fun v i wq => ∃ (j : Nat) (ns : List Nat) (no : Option Addr) (nc : Nat), i = .int .i64 j ∧ j ≤ HL.length ∧ ns = (HL.take j).filter (fun x => x != a) ∧ v = .slice no ns.length nc ∧ Room wq w4.heap.size no ns.length nc (ns.map natV) ∧ Chg [] w4 wq) (fun _ i _ => HL.length - (Go.RowKit.intOf i).toNat)
      case atStart => exact ⟨0, [], none, 0, rfl, Nat.zero_le _, rfl, rfl, Room.nil _ _ _, Chg.refl _ _⟩
      case round =>
        obtain ⟨j, ns, no, nc, rfl, hj, hns, rfl, hrn, hcn⟩ := hrel
        have hnl : ns.length ≤ 9 := by
          rw [hns]
          have := List.length_filter_le (fun x => x != a) (HL.take j)
          rw [List.length_take] at this
          omega
        by_cases hjl : j < HL.length
        · obtain ⟨b2, o2, rfl, hcx⟩ := (hr4.reads.keep hcn) (by rw [List.length_map]; omega)
          have cx := hcx j (natV HL[j]) (by simp [hjl])
          unfold natV at cx
          obtain ⟨y, hy⟩ : ∃ y, y = HL[j] := ⟨_, rfl⟩
          rw [← hy] at cx
          have htk : HL.take (j + 1) = HL.take j ++ [y] := by rw [List.take_succ_eq_append_getElem hjl, hy]
          have hcs := hcn.size
          have HTK := mkHid htk
          have HNS := mkHid hns
          clear hcx hy htk hns
          by_cases hya : y = a
          · have h1 : ((y : Int) != (a : Int)) = false := by rw [hya]; simp
            have h2 : (y != a) = false := by rw [hya]; simp
            have HYA := mkHid hya
            clear hya
            go_wp2_with fail
            refine ⟨⟨j + 1, ns, no, nc, by go_num, by omega, ?_, rfl, hrn, hcn⟩, by simp [Go.RowKit.intOf]; omega⟩
            rw [HTK.out, List.filter_append, HNS.out]
            simp [HYA.out]
          · have h1 : ((y : Int) != (a : Int)) = true := by simp; omega
            have h2 : (y != a) = true := by simp; omega
            have HYA := mkHid hya
            clear hya
            go_wp2_with (first | (at_builtin; refine wpList_append_1 wr rfl (.tmp 73) (.tmp 78) 40 rfl 3 8 eltZ w4.heap.size no ns.length nc _ rfl hrn hcs _ 1 rfl rfl (by unfold maxLen; omega) (by omega) ?_; intro no' nc' wq' hr' hc' hf'))
            refine ⟨⟨j + 1, ns ++ [y], no', nc', by go_num, by omega, ?_, by rw [List.length_append]; rfl, ?_, hcn.own hc' hrn⟩, by simp [Go.RowKit.intOf]; omega⟩
            · rw [HTK.out, List.filter_append, HNS.out]
              simp [HYA.out]
            · rw [List.length_append, List.map_append]
              exact hr'
        · have hjj : j = HL.length := by omega
          rw [hjj, List.take_length] at hns
          have hcs := hcn.size
          have HNS := mkHid hns
          clear hns
          have hd1 : decide (j < HL.length) = false := decide_eq_false hjl
          have hd2 : decide ((j : Int) < (HL.length : Int)) = false := decide_eq_false (by omega)
          have hcw : w.heap.size ≤ w4.heap.size := p4'.c.size
          have hnx : hnext n HL a = if n < (ns ++ [a]).length then (ns ++ [a]).drop 1 else ns ++ [a] := by unfold hnext; rw [HNS.out]
          have hm16 : ∀ x ∈ hnext n HL a, x < 16 := fun x hx => (hnext_mem n HL a hx).elim (hH16 x) (fun e => by rw [e]; exact ha16)
          have hml := hnext_len n HL a hHn
          rw [List.length_append, List.length_singleton] at hnx
          by_cases hgt : n < ns.length + 1
          · have hg1 : decide ((n : Int) < (ns.length : Int) + 1) = true := decide_eq_true (by omega)
            have hg2 : decide (n < ns.length + 1) = true := decide_eq_true hgt
            have hg3 : decide ((n : Int) < ((ns.length + 1 : Nat) : Int)) = true := decide_eq_true (by omega)
            have hsl := fun (q : Option Addr) (c : Nat) (u : World) => run_from_k (P := Try.prog) (t := 40) (e := 3) q (ns.length + 1) c 1 Try.underlying40 (by kernel_rfl) (by omega) u
            have hsl : ∀ (q : Option Addr) (c : Nat) (u : World), (Instr.slice 40 (.slice q (ns.length + 1) c) (some (.int .i64 1)) none none).run Try.prog u = .ok (.slice (cut q c 1) ns.length (c - 1)) u := hsl
            rw [if_pos hgt] at hnx
            have HNX := mkHid hnx
            have HM := mkHid hm16
            have HML := mkHid hml
            clear hnx hm16 hml
            go_wp2_with (first | (at_builtin; refine wpList_append_1 wr rfl (.tmp 80) (.tmp 82) 40 rfl 3 8 eltZ w4.heap.size no ns.length nc _ rfl hrn hcs _ 1 rfl rfl (by unfold maxLen; omega) (by omega) ?_; intro no' nc' wq' hr' hc' hf'))
            have hX : hnext n HL a = (ns ++ [a]).drop 1 := HNX.out
            have hXl : (hnext n HL a).length = ns.length := by rw [hX]; simp
            have hcc := hr'.cut 1 (by omega)
            have hG := hcn.own hc' hrn
            refine ⟨⟨k + 1, hnext n HL a, cut no' nc' 1, nc' - 1, fa4, cf4, la4, cl4, E4, L4, u4', by go_num, by omega, by rw [hXl], HML.out, HM.out, ?_, p4'.add hG (fun q hq => Or.inr (hr'.lt q (fp_cut no' nc' 1 q hq))), hL4, by omega⟩, by simp [Go.RowKit.intOf]; omega⟩
            rw [hXl, hX, List.map_drop, List.map_append]
            exact hcc.mono hcw
          · have hg1 : decide ((n : Int) < (ns.length : Int) + 1) = false := decide_eq_false (by omega)
            have hg2 : decide (n < ns.length + 1) = false := decide_eq_false hgt
            have hg3 : decide ((n : Int) < ((ns.length + 1 : Nat) : Int)) = false := decide_eq_false (by omega)
            rw [if_neg hgt] at hnx
            have HNX := mkHid hnx
            have HM := mkHid hm16
            have HML := mkHid hml
            clear hnx hm16 hml
            go_wp2_with (first | (at_builtin; refine wpList_append_1 wr rfl (.tmp 80) (.tmp 82) 40 rfl 3 8 eltZ w4.heap.size no ns.length nc _ rfl hrn hcs _ 1 rfl rfl (by unfold maxLen; omega) (by omega) ?_; intro no' nc' wq' hr' hc' hf'))
            have hX : hnext n HL a = ns ++ [a] := HNX.out
            have hXl : (hnext n HL a).length = ns.length + 1 := by rw [hX]; simp
            have hG := hcn.own hc' hrn
            refine ⟨⟨k + 1, hnext n HL a, no', nc', fa4, cf4, la4, cl4, E4, L4, u4', by go_num, by omega, by rw [hXl], HML.out, HM.out, ?_, p4'.add hG (fun q hq => Or.inr (hr'.lt q hq)), hL4, by omega⟩, by simp [Go.RowKit.intOf]; omega⟩
            rw [hXl, hX, List.map_append]
            exact hr'.mono hcw
    · have hke : k = l.length := by omega
      have hd1 : decide (k < l.length) = false := decide_eq_false hlt
      have hd2 : decide ((k : Int) < (l.length : Int)) = false := decide_eq_false (by omega)
      have hu9 : uses ≤ 500000000000000 := by omega
      clear hke hu hk
      have hl9 := blockB_len 9
      generalize hB9 : blockB 9 = B9 at *
      go_wp2_with fail
      go_loopw [16] (fun i wr => ∃ (j : Nat) (fa : Option Addr) (cf : Nat), i = .int .i64 j ∧ j ≤ 16 ∧ Pair w wr (fun k => k ∈ fp ho hc) db g fa cf (holdW B9 j) cb mb la cl E L n uses ∧ Room wr w.heap.size ho HL.length hc (HL.map natV)) (fun i _ => 16 - (Go.RowKit.intOf i).toNat)
      case atStart => exact ⟨0, fa, cf, rfl, by omega, p, hr⟩
      case round =>
        clear p hr fa cf
        obtain ⟨j, fa, cf, rfl, hj, p, hr⟩ := hrel
        by_cases hj16 : j < 16
        · have hd1 : decide (j < 16) = true := decide_eq_true hj16
          have hd2 : decide ((j : Int) < 16) = true := decide_eq_true (by omega)
          go_wp2_with fail
          refine (pair_block w wr _ db g fa cf _ cb mb la cl E L n uses p 9 9 rfl).mono ?_
          rintro e w3 ⟨nb3, rfl, r3, p3, g3⟩
          rw [hB9] at r3
          have hr3 := hr.chg g3 (by simp)
          clear p hr g3
          go_wp2_with fail
          have cW := pair_write w w3 _ db g fa cf _ cb mb la cl E L n uses p3 j (by rw [holdW_len]; omega) _ 256 256 B9 r3.reads hl9 (by decide) (by decide) (fun k hk => Or.inr (by simpa [blk] using hk))
          rw [holdW_write B9 hl9 j hj16] at cW
          refine cW.mono ?_
          rintro e w4 ⟨rfl, fa4, cf4, p4, o4⟩
          have hr4 := hr3.off o4 (fun k hk => Or.inl hk)
          clear cW p3 r3 hr3 o4
          go_wp2_with fail
          exact ⟨⟨j + 1, fa4, cf4, by go_num, by omega, p4.less (fun k hk => Or.inl hk), hr4⟩, by simp [Go.RowKit.intOf]; omega⟩
        · have hj0 : j = 16 := by omega
          subst hj0
          go_wp2_with fail
          refine (pair_held w wr _ db g fa cf _ cb mb la cl E L n uses p _ hL HL.length (by simp)).mono ?_
          rintro e w' ⟨rfl, rfl⟩
          go_wp2_with fail
          go_loopw [17] (fun i wr => ∃ (j : Nat) (HL2 : List Nat) (fa : Option Addr) (cf : Nat) (la : Option Addr) (cl : Nat) (E L : List Ent) (u2 : Nat), i = .int .i64 j ∧ j ≤ HL.length ∧ (∀ x, x ∈ HL2 ↔ x ∈ HL) ∧ HL2.length ≤ n ∧ Pair w wr (fun k => k ∈ fp ho hc) db g fa cf (holdW B9 16) cb mb la cl E L n u2 ∧ L.map absE = HL2.map e0 ∧ u2 ≤ uses + j ∧ Room wr w.heap.size ho HL.length hc (HL.map natV)) (fun i _ => HL.length - (Go.RowKit.intOf i).toNat)
          case atStart => exact ⟨0, HL, fa, cf, la, cl, E, L, uses, rfl, Nat.zero_le _, fun _ => Iff.rfl, hHn, p, hL, by omega, hr⟩
          case round =>
            clear p hr hL
            obtain ⟨j, HL2, fa, cf, la, cl, E, L, u2, rfl, hj, hme, hH2, p, hL, hu2, hr⟩ := hrel
            by_cases hjl : j < HL.length
            · obtain ⟨b2, o2, rfl, hcx⟩ := hr.reads (by rw [List.length_map]; omega)
              have cx := hcx j (natV HL[j]) (by simp [hjl])
              unfold natV at cx
              obtain ⟨y, hy⟩ : ∃ y, y = HL[j] := ⟨_, rfl⟩
              rw [← hy] at cx
              have hyH : y ∈ HL := by rw [hy]; exact List.getElem_mem hjl
              have hy16 := hH16 y hyH
              have hy2 := (hme y).2 hyH
              clear hcx hy
              go_wp2_with fail
              refine (pair_get w wr _ db g fa cf _ cb mb la cl E L n u2 p _ _ 0 y 256 _ _ hL (held_get B9 n HL2 y hy16 hy2) (by omega) (by rw [holdW_len]; omega) rfl).mono ?_
              rintro e w5 ⟨ro, rc, rfl, rr, fa5, cf5, la5, cl5, E5, L5, u5, p5, hL5, hu5, o5⟩
              have hr5 := hr.off o5 (fun k hk => hk)
              have p5' := p5.less (R' := fun k => k ∈ fp (some ⟨b2, o2, none⟩) hc) (fun k hk => Or.inl hk)
              have cvZ : ∀ (u : World) (xo : Option Addr) (xc : Nat), Reads u xo (bts zeroB) → (convert 31 9 (.slice xo 256 xc)).run Try.prog u = .ok (.string ⟨zeroB.toArray⟩) u := fun u xo xc h => run_convert_k (P := Try.prog) u 31 5 9 Try.underlying31 Try.underlying5 Try.underlying9 xo 256 xc zeroB h rfl
              have hmz : ∀ u : World, (Instr.makeSlice 31 (.int .i64 256) (.int .i64 256)).run Try.prog u = .ok (.slice (some ⟨u.heap.size, 0, none⟩) 256 256) (u.alloc (.cells (madeCells #[.int .u8 0] 256) 5)) := hmk 256 (by decide)
              have cvD : (convert 31 9 (.slice (some ⟨w5.heap.size, 0, none⟩) 256 256)).run Try.prog (w5.alloc (.cells (madeCells #[.int .u8 0] 256) 5)).drew = .ok (.string ⟨zeroB.toArray⟩) (w5.alloc (.cells (madeCells #[.int .u8 0] 256) 5)).drew := cvZ _ _ _ ((made_room w5 5 (.int .u8 0) 256 (by decide)).reads.keep (Chg.drew [] _))
              have hS : ∀ u, Chg [] w5 u → (convert 31 9 (.slice ro 256 rc)).run Try.prog u = .ok (.string ⟨zeroB.toArray⟩) u ∧ Chg [] w5 u := fun u c => ⟨cvZ u ro rc (rr.chg c (by simp)).reads, c⟩
              have HS := mkHid hS
              clear hS cvZ rr o5 p5 p hr hL
              go_wp2_with fail
              refine wp_region_noPanic ?_
              refine wp_region_held_drew (S := (fun u => (convert 31 9 (.slice ro 256 rc)).run Try.prog u = .ok (.string ⟨zeroB.toArray⟩) u ∧ Chg [] w5 u)) (by kernel_rfl) ?_ (fun hH => ?_)
              · exact (HS.out _ (Chg.drew [] _))
              refine wpAnyH_take (i := 0) (oi := { dst := some 119, op := _, type := _, pos := _, after := _, guard := none }) (v := ?_) rfl (by kernel_rfl) (by kernel_rfl) (by kernel_rfl) (fun _ _ _ h => h) (Or.inl ⟨by rfl, ?_⟩) hH ?_
              rotate_left
              · intro u hSu
                try dsimp only at hSu
                go_simp
                try with_reducible rfl
              try simp only [Act.put, List.setIfInBounds_toArray, List.set_cons_zero, List.set_cons_succ]
              refine wpAnyH_take (i := 1) (oi := { dst := some 120, op := _, type := _, pos := _, after := _, guard := none }) (v := ?_) rfl (by kernel_rfl) (by kernel_rfl) (by kernel_rfl) (fun _ _ _ h => h) (Or.inl ⟨by rfl, ?_⟩) hH ?_
              rotate_left
              · intro u hSu
                try dsimp only at hSu
                go_simp
                try with_reducible rfl
              try simp only [Act.put, List.setIfInBounds_toArray, List.set_cons_zero, List.set_cons_succ]
              refine wpAnyH_take (i := 2) (oi := { dst := some 121, op := _, type := _, pos := _, after := _, guard := none }) (v := ?_) rfl (by kernel_rfl) (by kernel_rfl) (by kernel_rfl) (fun _ _ _ h => h) (Or.inl ⟨by rfl, ?_⟩) hH ?_
              rotate_left
              · intro u hSu
                try dsimp only at hSu
                go_simp
                try with_reducible rfl
              try simp only [Act.put, List.setIfInBounds_toArray, List.set_cons_zero, List.set_cons_succ]
              refine wpAnyH_take (i := 3) (oi := { dst := some 122, op := _, type := _, pos := _, after := _, guard := some (2, false) }) (v := ?_) rfl (by kernel_rfl) (by kernel_rfl) (by kernel_rfl) (fun _ _ _ h => h) (Or.inl ⟨by rfl, ?_⟩) hH ?_
              rotate_left
              · intro u hSu
                try dsimp only at hSu
                go_simp
                try with_reducible rfl
              try simp only [Act.put, List.setIfInBounds_toArray, List.set_cons_zero, List.set_cons_succ]
              refine wpAnyH_take (i := 4) (oi := { dst := some 123, op := _, type := _, pos := _, after := _, guard := some (2, false) }) (v := ?_) rfl (by kernel_rfl) (by kernel_rfl) (by kernel_rfl) (fun _ _ _ h => h) (Or.inl ⟨by rfl, ?_⟩) hH ?_
              rotate_left
              · intro u hSu
                try dsimp only at hSu
                go_simp
                try with_reducible rfl
              try simp only [Act.put, List.setIfInBounds_toArray, List.set_cons_zero, List.set_cons_succ]
              refine wpAnyH_ready (rs := [5]) (by kernel_rfl) (by simp) ?_
              refine AllReadyH.cons (o := { dst := some 124, op := _, type := _, pos := _, after := _, guard := some (2, false) }) rfl (fun K hK => ?_) AllReadyH.nil
              go_simp
              clear hH
              refine hK.out _ _ (HS.out _ ((Chg.alloc [] _ _).then (Chg.drew [] _))) (fun hH => ?_)
              clear hK K
              try simp only [Act.put, List.setIfInBounds_toArray, List.set_cons_zero, List.set_cons_succ]
              refine wpAnyH_ready (rs := [6]) (by kernel_rfl) (by simp) ?_
              refine AllReadyH.cons (o := { dst := some 125, op := _, type := _, pos := _, after := _, guard := some (2, false) }) rfl (fun K hK => ?_) AllReadyH.nil
              go_simp
              clear hH
              refine hK.out _ _ (HS.out _ ((Chg.alloc [] _ _).then (Chg.drew [] _))) (fun hH => ?_)
              clear hK K
              try simp only [Act.put, List.setIfInBounds_toArray, List.set_cons_zero, List.set_cons_succ]
              refine wpAnyH_take (i := 7) (oi := { dst := some 126, op := _, type := _, pos := _, after := _, guard := some (2, false) }) (v := ?_) rfl (by kernel_rfl) (by kernel_rfl) (by kernel_rfl) (fun _ _ _ h => h) (Or.inl ⟨by rfl, ?_⟩) hH ?_
              rotate_left
              · intro u hSu
                try dsimp only at hSu
                go_simp
                try with_reducible rfl
              try simp only [Act.put, List.setIfInBounds_toArray, List.set_cons_zero, List.set_cons_succ]
              refine wpAnyH_take (i := 8) (oi := { dst := some 127, op := _, type := _, pos := _, after := _, guard := none }) (v := ?_) rfl (by kernel_rfl) (by kernel_rfl) (by kernel_rfl) (fun _ _ _ h => h) (Or.inl ⟨by rfl, ?_⟩) hH ?_
              rotate_left
              · intro u hSu
                try dsimp only at hSu
                go_simp
                try with_reducible rfl
              try simp only [Act.put, List.setIfInBounds_toArray, List.set_cons_zero, List.set_cons_succ]
              refine wpAnyH_done (by kernel_rfl) ?_ _
              refine NoPanic.normal ?_
              have hg5 : Chg [] w5 (w5.alloc (.cells (madeCells #[.int .u8 0] 256) 5)).drew := (Chg.alloc [] _ _).then (Chg.drew [] _)
              generalize (w5.alloc (.cells (madeCells #[.int .u8 0] 256) 5)).drew = w6 at *
              clear hmz HS
              go_wp2_with fail
              exact ⟨⟨j + 1, HL2.filter (fun x => x != y) ++ [y], fa5, cf5, la5, cl5, E5, L5, u5, by go_num, by omega, fun x => (turn_mem HL2 y hy2 x).trans (hme x), Nat.le_trans (turn_len HL2 y hy2) hH2, p5'.keep hg5, hL5, by omega, hr5.chg hg5 (by simp)⟩, by simp [Go.RowKit.intOf]; omega⟩
            · have hd1 : decide (j < HL.length) = false := decide_eq_false hjl
              have hd2 : decide ((j : Int) < (HL.length : Int)) = false := decide_eq_false (by omega)
              have hu3 : u2 ≤ 600000000000000 := by omega
              clear hu2 hj
              go_wp2_with fail
              generalize wr = w9 at *
              go_loopw [20] (fun i wq => ∃ (q : Nat), i = .int .i64 q ∧ q ≤ 16 ∧ w9 = wq) (fun i _ => 16 - (Go.RowKit.intOf i).toNat)
              case atStart => exact ⟨0, rfl, by omega, rfl⟩
              case round =>
                obtain ⟨q, rfl, hq, rfl⟩ := hrel
                by_cases hq16 : q < 16
                · have hd3 : decide (q < 16) = true := decide_eq_true hq16
                  have hd4 : decide ((q : Int) < 16) = true := decide_eq_true (by omega)
                  go_wp2_with fail
                  go_loopw [21, 22] (fun v i wq => ∃ (t : Nat) (bb : Bool), i = .int .i64 t ∧ t ≤ HL.length ∧ v = .bool bb ∧ (bb = true ↔ q ∈ HL.take t) ∧ w9 = wq) (fun _ i _ => HL.length - (Go.RowKit.intOf i).toNat)
                  case atStart => exact ⟨0, false, rfl, Nat.zero_le _, rfl, by simp, rfl⟩
                  case round =>
                    obtain ⟨t, bb, rfl, ht, rfl, hbb, rfl⟩ := hrel
                    by_cases htl : t < HL.length
                    · have hd5 : decide (t < HL.length) = true := decide_eq_true htl
                      have hd6 : decide ((t : Int) < (HL.length : Int)) = true := decide_eq_true (by omega)
                      have htk : HL.take (t + 1) = HL.take t ++ [HL[t]] := List.take_succ_eq_append_getElem htl
                      cases bb
                      · obtain ⟨b2, o2, rfl, hcx⟩ := hr.reads (by rw [List.length_map]; omega)
                        have cx := hcx t (natV HL[t]) (by simp [htl])
                        unfold natV at cx
                        generalize HL[t] = y at *
                        have HTK := mkHid htk
                        have HBB := mkHid hbb
                        clear hcx htk hbb
                        by_cases hyq : y = q
                        · have h1 : ((y : Int) == (q : Int)) = true := by rw [hyq]; simp
                          have h2 : (y == q) = true := by rw [hyq]; simp
                          have HYQ := mkHid hyq
                          clear hyq
                          go_wp2_with fail
                          exact ⟨⟨t + 1, true, by go_num, by omega, rfl, by rw [HTK.out]; simp [HYQ.out], trivial⟩, by simp [Go.RowKit.intOf]; omega⟩
                        · have h1 : ((y : Int) == (q : Int)) = false := by simp; omega
                          have h2 : (y == q) = false := by simp; omega
                          have HYQ := mkHid hyq
                          clear hyq
                          go_wp2_with fail
                          exact ⟨⟨t + 1, false, by go_num, by omega, rfl, by rw [HTK.out, List.mem_append, List.mem_singleton, ← HBB.out]; simp; exact fun e => HYQ.out e.symm, trivial⟩, by simp [Go.RowKit.intOf]; omega⟩
                      · have HTK := mkHid htk
                        have HBB := mkHid hbb
                        clear htk hbb
                        go_wp2_with fail
                        exact ⟨⟨t + 1, true, by go_num, by omega, rfl, by rw [HTK.out, List.mem_append, ← HBB.out]; simp, trivial⟩, by simp [Go.RowKit.intOf]; omega⟩
                    · have hd5 : decide (t < HL.length) = false := decide_eq_false htl
                      have hd6 : decide ((t : Int) < (HL.length : Int)) = false := decide_eq_false (by omega)
                      have htt : t = HL.length := by omega
                      rw [htt, List.take_length] at hbb
                      cases bb
                      · have hno : q ∉ HL2 := fun h9 => by simpa using hbb.2 ((hme q).1 h9)
                        clear hbb htt
                        obtain ⟨K', hK'⟩ := other_get B9 hl9 n hn1 HL2 hH2 q hq16 hno
                        go_wp2_with fail
                        refine (pair_get w w9 _ db g fa cf _ cb mb la cl E L n u2 p _ _ 0 q 256 _ _ hL hK' (by omega) (by rw [holdW_len]; omega) hl9).mono ?_
                        rintro e w6 ⟨ro, rc, rfl, rr, fa6, cf6, la6, cl6, E6, L6, u6, p6, -, -, -⟩
                        have c6 := p6.c
                        have cvA : ∀ (u : World) (xo : Option Addr) (xc : Nat), Reads u xo (bts B9) → (convert 31 9 (.slice xo 256 xc)).run Try.prog u = .ok (.string ⟨B9.toArray⟩) u := fun u xo xc h => run_convert_k (P := Try.prog) u 31 5 9 Try.underlying31 Try.underlying5 Try.underlying9 xo 256 xc B9 h hl9
                        have hS : ∀ u, Chg [] w6 u → (convert 31 9 (.slice ro 256 rc)).run Try.prog u = .ok (.string ⟨B9.toArray⟩) u ∧ Chg [] w6 u := fun u c => ⟨cvA u ro rc (rr.chg c (by simp)).reads, c⟩
                        have cB : ∀ u, Chg [] w6 u → Calls Try.prog 10 #[.int .u8 9] u fun e w' => ∃ nb, e = .returned (.slice (some ⟨nb, 0, none⟩) 256 256) ∧ (convert 31 9 (.slice (some ⟨nb, 0, none⟩) 256 256)).run Try.prog w' = .ok (.string ⟨B9.toArray⟩) w' ∧ Chg [] w6 w' := by
                          intro u o
                          refine (block_as 9 9 rfl u).mono ?_
                          rintro e w' ⟨nb, he, hr, hg⟩
                          rw [hB9] at hr
                          exact ⟨nb, he, cvA _ _ _ hr.reads, o.then hg⟩
                        have CB := mkHid cB
                        have HS := mkHid hS
                        clear cB hS cvA rr p p6 hr hL hK'
                        go_wp2_with fail
                        refine wp_region_noPanic ?_
                        refine wp_region_held_drew (S := (fun u => (convert 31 9 (.slice ro 256 rc)).run Try.prog u = .ok (.string ⟨B9.toArray⟩) u ∧ Chg [] w6 u)) (by kernel_rfl) ?_ (fun hH => ?_)
                        · exact (HS.out _ (Chg.drew [] _))
                        refine wpAnyH_take (i := 0) (oi := { dst := some 155, op := _, type := _, pos := _, after := _, guard := none }) (v := ?_) rfl (by kernel_rfl) (by kernel_rfl) (by kernel_rfl) (fun _ _ _ h => h) (Or.inl ⟨by rfl, ?_⟩) hH ?_
                        rotate_left
                        · intro u hSu
                          try dsimp only at hSu
                          go_simp
                          try with_reducible rfl
                        try simp only [Act.put, List.setIfInBounds_toArray, List.set_cons_zero, List.set_cons_succ]
                        refine wpAnyH_take (i := 1) (oi := { dst := some 156, op := _, type := _, pos := _, after := _, guard := none }) (v := ?_) rfl (by kernel_rfl) (by kernel_rfl) (by kernel_rfl) (fun _ _ _ h => h) (Or.inl ⟨by rfl, ?_⟩) hH ?_
                        rotate_left
                        · intro u hSu
                          try dsimp only at hSu
                          go_simp
                          try with_reducible rfl
                        try simp only [Act.put, List.setIfInBounds_toArray, List.set_cons_zero, List.set_cons_succ]
                        refine wpAnyH_take (i := 2) (oi := { dst := some 157, op := _, type := _, pos := _, after := _, guard := none }) (v := ?_) rfl (by kernel_rfl) (by kernel_rfl) (by kernel_rfl) (fun _ _ _ h => h) (Or.inl ⟨by rfl, ?_⟩) hH ?_
                        rotate_left
                        · intro u hSu
                          try dsimp only at hSu
                          go_simp
                          try with_reducible rfl
                        try simp only [Act.put, List.setIfInBounds_toArray, List.set_cons_zero, List.set_cons_succ]
                        refine wpAnyH_take (i := 3) (oi := { dst := some 158, op := _, type := _, pos := _, after := _, guard := some (2, true) }) (v := ?_) rfl (by kernel_rfl) (by kernel_rfl) (by kernel_rfl) (fun _ _ _ h => h) (Or.inl ⟨by rfl, ?_⟩) hH ?_
                        rotate_left
                        · intro u hSu
                          try dsimp only at hSu
                          go_simp
                          try with_reducible rfl
                        try simp only [Act.put, List.setIfInBounds_toArray, List.set_cons_zero, List.set_cons_succ]
                        refine wpAnyH_take (i := 4) (oi := { dst := some 159, op := _, type := _, pos := _, after := _, guard := some (2, true) }) (v := ?_) rfl (by kernel_rfl) (by kernel_rfl) (by kernel_rfl) (fun _ _ _ h => h) (Or.inl ⟨by rfl, ?_⟩) hH ?_
                        rotate_left
                        · intro u hSu
                          try dsimp only at hSu
                          go_simp
                          try with_reducible rfl
                        try simp only [Act.put, List.setIfInBounds_toArray, List.set_cons_zero, List.set_cons_succ]
                        refine wpAnyH_ready (rs := [5]) (by kernel_rfl) (by simp) ?_
                        refine AllReadyH.cons (o := { dst := some 160, op := _, type := _, pos := _, after := _, guard := some (2, true) }) rfl (fun K hK => ?_) AllReadyH.nil
                        go_simp
                        refine (CB.out _ (Chg.drew [] _)).mono ?_
                        rintro e w7 ⟨nb7, rfl, cv7, g7⟩
                        try go_wp2_with fail
                        clear hH
                        refine hK.out _ _ (HS.out _ g7) (fun hH => ?_)
                        clear hK K
                        try simp only [Act.put, List.setIfInBounds_toArray, List.set_cons_zero, List.set_cons_succ]
                        refine wpAnyH_ready (rs := [6]) (by kernel_rfl) (by simp) ?_
                        refine AllReadyH.cons (o := { dst := some 161, op := _, type := _, pos := _, after := _, guard := some (2, true) }) rfl (fun K hK => ?_) AllReadyH.nil
                        go_simp
                        clear cv7
                        clear hH
                        refine hK.out _ _ (HS.out _ g7) (fun hH => ?_)
                        clear hK K
                        try simp only [Act.put, List.setIfInBounds_toArray, List.set_cons_zero, List.set_cons_succ]
                        refine wpAnyH_take (i := 7) (oi := { dst := some 162, op := _, type := _, pos := _, after := _, guard := some (2, true) }) (v := ?_) rfl (by kernel_rfl) (by kernel_rfl) (by kernel_rfl) (fun _ _ _ h => h) (Or.inl ⟨by rfl, ?_⟩) hH ?_
                        rotate_left
                        · intro u hSu
                          try dsimp only at hSu
                          go_simp
                          try with_reducible rfl
                        try simp only [Act.put, List.setIfInBounds_toArray, List.set_cons_zero, List.set_cons_succ]
                        refine wpAnyH_take (i := 8) (oi := { dst := some 163, op := _, type := _, pos := _, after := _, guard := none }) (v := ?_) rfl (by kernel_rfl) (by kernel_rfl) (by kernel_rfl) (fun _ _ _ h => h) (Or.inl ⟨by rfl, ?_⟩) hH ?_
                        rotate_left
                        · intro u hSu
                          try dsimp only at hSu
                          go_simp
                          try with_reducible rfl
                        try simp only [Act.put, List.setIfInBounds_toArray, List.set_cons_zero, List.set_cons_succ]
                        refine wpAnyH_take (i := 9) (oi := { dst := some 164, op := _, type := _, pos := _, after := _, guard := none }) (v := ?_) rfl (by kernel_rfl) (by kernel_rfl) (by kernel_rfl) (fun _ _ _ h => h) (Or.inl ⟨by rfl, ?_⟩) hH ?_
                        rotate_left
                        · intro u hSu
                          try dsimp only at hSu
                          go_simp
                          try with_reducible rfl
                        try simp only [Act.put, List.setIfInBounds_toArray, List.set_cons_zero, List.set_cons_succ]
                        refine wpAnyH_ready (rs := [10]) (by kernel_rfl) (by simp) ?_
                        refine AllReadyH.cons (o := { dst := some 165, op := _, type := _, pos := _, after := _, guard := some (9, true) }) rfl (fun K hK => ?_) AllReadyH.nil
                        go_simp
                        refine (wakes_any _).mono ?_
                        rintro e w8 ⟨rfl, g8⟩
                        try go_wp2_with fail
                        replace g7 := g7.then g8
                        clear g8
                        clear hH
                        refine hK.out _ _ (HS.out _ g7) (fun hH => ?_)
                        clear hK K
                        try simp only [Act.put, List.setIfInBounds_toArray, List.set_cons_zero, List.set_cons_succ]
                        refine wpAnyH_take (i := 11) (oi := { dst := some 166, op := _, type := _, pos := _, after := _, guard := none }) (v := ?_) rfl (by kernel_rfl) (by kernel_rfl) (by kernel_rfl) (fun _ _ _ h => h) (Or.inl ⟨by rfl, ?_⟩) hH ?_
                        rotate_left
                        · intro u hSu
                          try dsimp only at hSu
                          go_simp
                          try with_reducible rfl
                        try simp only [Act.put, List.setIfInBounds_toArray, List.set_cons_zero, List.set_cons_succ]
                        refine wpAnyH_take (i := 12) (oi := { dst := some 4, op := _, type := _, pos := _, after := _, guard := none }) (v := ?_) rfl (by kernel_rfl) (by kernel_rfl) (by kernel_rfl) (fun _ _ _ h => h) (Or.inl ⟨by rfl, ?_⟩) hH ?_
                        rotate_left
                        · intro u hSu
                          try dsimp only at hSu
                          go_simp
                          try with_reducible rfl
                        try simp only [Act.put, List.setIfInBounds_toArray, List.set_cons_zero, List.set_cons_succ]
                        refine wpAnyH_done (by kernel_rfl) ?_ _
                        refine NoPanic.normal ?_
                        go_wp2_with fail
                        go_ret
                        exact ⟨rfl, c6.then g7⟩
                      · clear hbb htt
                        go_wp2_with fail
                        exact ⟨⟨q + 1, by go_num, by omega, trivial⟩, by simp [Go.RowKit.intOf]; omega⟩
                · have hd3 : decide (q < 16) = false := decide_eq_false hq16
                  have hd4 : decide ((q : Int) < 16) = false := decide_eq_false (by omega)
                  have c9 := p.c
                  clear p hr
                  go_wp2_with fail
                  refine (wakes_any w9).mono ?_
                  rintro e w10 ⟨rfl, g10⟩
                  go_wp2_with fail
                  go_ret
                  exact ⟨rfl, c9.then g10⟩
end Go.Proofs.Ytdmhcbbakgljoaa
