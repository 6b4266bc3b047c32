/- The document's own space (the reference): New, Take, Claim, Give, List. -/
import Derived.Test.YtoddiocjloehlaaPf
namespace Go.Proofs.Ytoddiocjloehlaa
open Go.RowKit
set_option linter.unusedVariables false
set_option linter.unusedSimpArgs false
attribute [local go_sem ↓] Go.wp_at_zero Go.wp_at_succ

theorem eltO : Elt Try.prog 54 4 1 := Elt.mk (z := .bool false) Try.underlying54 (by kernel_rfl) (by kernel_rfl)
def bvs (l : List Bool) : List Value := l.map Value.bool
theorem bvs_len (l : List Bool) : (bvs l).length = l.length := by simp [bvs]
theorem bvs_get {l : List Bool} {k : Nat} {b : Bool} (h : l[k]? = some b) : (bvs l)[k]? = some (.bool b) := by simp [bvs, h]
theorem bvs_set (l : List Bool) (k : Nat) (b : Bool) : (bvs l).set k (.bool b) = bvs (l.set k b) := by simp [bvs]
/-- The reference's space in block rb, its blocks G. -/
structure RfAt (w : World) (B rb : Nat) (G : List Nat) (Is : List Bool) : Prop where
  ex : ∃ ia ci, w.cell? ⟨rb, 0, none⟩ = some (.slice ia Is.length ci) ∧ w.frozen? ⟨rb, 0, none⟩ = false ∧ B ≤ rb ∧ Room w B ia Is.length ci (bvs Is) ∧ rb ∉ fp ia ci ∧ G = rb :: fp ia ci
  nn : Is.length ≤ 1024
theorem RfAt.lt {w : World} {B rb : Nat} {G : List Nat} {Is : List Bool} (h : RfAt w B rb G Is) : ∀ k, k ∈ G → B ≤ k ∧ k < w.heap.size := by
  obtain ⟨ia, ci, c0, f0, hB, hR, hx, rfl⟩ := h.ex
  intro k hk
  rcases List.mem_cons.1 hk with rfl | hk
  · exact ⟨hB, block_lt_of_cell c0⟩
  · exact hR.lt k hk
theorem RfAt.chg {w w' : World} {B rb : Nat} {G : List Nat} {Is : List Bool} {S : List Nat} (h : RfAt w B rb G Is) (c : Chg S w w') (hn : ∀ k, k ∈ G → k ∉ S) : RfAt w' B rb G Is := by
  obtain ⟨ia, ci, c0, f0, hB, hR, hx, rfl⟩ := h.ex
  have h1 := hn rb (by simp)
  exact ⟨⟨ia, ci, c.cellv c0 h1, (c.frozen (p := ⟨rb, 0, none⟩) (show rb < w.heap.size from block_lt_of_cell c0) h1).trans f0, hB, hR.chg c (fun k hk => hn k (by simp [hk])), hx, rfl⟩, h.nn⟩
theorem RfAt.keep {w w' : World} {B rb : Nat} {G : List Nat} {Is : List Bool} (h : RfAt w B rb G Is) (c : Chg [] w w') : RfAt w' B rb G Is := h.chg c (by simp)
/-- One bool is written. -/
theorem RfAt.set {w : World} {B rb b o ci : Nat} {Is : List Bool} (c0 : w.cell? ⟨rb, 0, none⟩ = some (.slice (some ⟨b, o, none⟩) Is.length ci)) (f0 : w.frozen? ⟨rb, 0, none⟩ = false) (hB : B ≤ rb) (hR : Room w B (some ⟨b, o, none⟩) Is.length ci (bvs Is)) (hx : rb ∉ fp (some ⟨b, o, none⟩) ci) (nn : Is.length ≤ 1024) (x : Nat) (hxn : x < Is.length) (v : Bool) :
    RfAt (w.setCell ⟨b, o + x, none⟩ (.bool v)) B rb (rb :: fp (some ⟨b, o, none⟩) ci) (Is.set x v) ∧ Chg (rb :: fp (some ⟨b, o, none⟩) ci) w (w.setCell ⟨b, o + x, none⟩ (.bool v)) := by
  have hfp : fp (some ⟨b, o, none⟩) ci = [b] := fp_some _ _ _ (by have := hR.le; omega)
  have g := Chg.setCell w ⟨b, o + x, none⟩ (.bool v)
  have hrb : rb ≠ b := by rw [hfp] at hx; simpa using hx
  have r1 := hR.set x hxn (.bool v)
  rw [bvs_set] at r1
  refine ⟨⟨⟨some ⟨b, o, none⟩, ci, by rw [List.length_set]; exact g.cellv c0 (by simpa using hrb), by rw [World.frozen?_setCell]; exact f0, hB, by rw [List.length_set]; exact r1, hx, rfl⟩, by rw [List.length_set]; exact nn⟩, g.mono (fun k hk _ => by rw [hfp]; simp at hk; simp [hk])⟩
def freeUpto (Is : List Bool) (i : Nat) : List Nat := (List.range i).filter (fun x => Is.getD x false)
theorem freeUpto_all (Is : List Bool) : freeUpto Is Is.length = freeL Is := rfl
theorem freeUpto_succ (Is : List Bool) (i : Nat) : freeUpto Is (i + 1) = freeUpto Is i ++ (if Is.getD i false = true then [i] else []) := by
  unfold freeUpto
  rw [List.range_succ, List.filter_append]
  congr 1
  cases h : Is.getD i false
  · rw [List.filter_cons_of_neg (by rw [h]; decide), if_neg (by decide)]; rfl
  · rw [List.filter_cons_of_pos (by rw [h]), if_pos rfl]; rfl
theorem freeUpto_le (Is : List Bool) (i : Nat) : (freeUpto Is i).length ≤ i := Nat.le_trans (List.length_filter_le _ _) (by simp)
theorem freeL_first {Is : List Bool} {i : Nat} (hn : ∀ j, j < i → Is[j]? ≠ some true) (hi : Is[i]? = some true) : ∃ r, freeL Is = i :: r := by
  have hm := (mem_freeL Is i).2 hi
  have hp := freeL_lt Is
  cases hf : freeL Is with
  | nil => rw [hf] at hm; cases hm
  | cons x r =>
    rw [hf] at hm hp
    rw [List.pairwise_cons] at hp
    rcases List.mem_cons.1 hm with rfl | hm
    · exact ⟨r, rfl⟩
    · have h1 := hp.1 i hm
      exact absurd ((mem_freeL Is x).1 (by rw [hf]; simp)) (hn x h1)
theorem freeL_none {Is : List Bool} (hn : ∀ j, j < Is.length → Is[j]? ≠ some true) : freeL Is = [] := by
  rw [List.eq_nil_iff_forall_not_mem]
  intro x hx
  have h := (mem_freeL Is x).1 hx
  exact hn x (List.getElem?_eq_some_iff.1 h).1 h
/-- What a call has made of the reference's space. -/
def RStep (w w' : World) (B rb : Nat) (G : List Nat) (Is : List Bool) : Prop := RfAt w' B rb G Is ∧ Chg G w w'

set_option maxRecDepth 20000 in
theorem rnew_yes (n : Nat) (hn : n ≤ 1024) (w : World) : Calls Try.prog 8 #[.int .i64 n] w fun e w' => ∃ rb G, e = .returned (.tuple #[.pointer (some ⟨rb, 0, none⟩), .int .i64 0]) ∧ RfAt w' w.heap.size rb G (List.replicate n true) ∧ Chg [] w w' := by
  have d1 : decide ((n : Int) < 0) = false := decide_eq_false (by omega)
  have d2 : decide ((n : Int) > 1024) = false := decide_eq_false (by omega)
  have d3 : decide ((1024 : Int) < (n : Int)) = false := decide_eq_false (by omega)
  go_enter Try.func8, Try.ntmps8
  go_wp2_with fail
  have g0 := Chg.alloc [] w (.cells #[.slice none 0 0] 56)
  have c0 : (w.alloc (.cells #[.slice none 0 0] 56)).cell? ⟨w.heap.size, 0, none⟩ = some (.slice none 0 0) := cell_of_row _ _ 0 _ _ _ (heap_alloc_last w _)
  have f0 : (w.alloc (.cells #[.slice none 0 0] 56)).frozen? ⟨w.heap.size, 0, none⟩ = false := frozen_of_row _ _ 0 _ _ (heap_alloc_last w _)
  have z1 : (w.alloc (.cells #[.slice none 0 0] 56)).heap.size = w.heap.size + 1 := by simp
  generalize hrb : w.heap.size = rb at *
  generalize w.alloc (.cells #[.slice none 0 0] 56) = w1 at *
  go_loopw [5] (fun v wr => ∃ k : Nat, v = .int .i64 k ∧ k ≤ n ∧ (∃ ia ci, wr.cell? ⟨rb, 0, none⟩ = some (.slice ia k ci) ∧ wr.frozen? ⟨rb, 0, none⟩ = false ∧ Room wr (rb + 1) ia k ci (bvs (List.replicate k true))) ∧ Chg [rb] w1 wr) (fun v _ => n - (intOf v).toNat)
  case atStart => exact ⟨0, rfl, Nat.zero_le _, ⟨none, 0, c0, f0, Room.nil _ _ _⟩, Chg.refl _ _⟩
  case round =>
    obtain ⟨k, rfl, hk, ⟨ia, ci, ck, fk, hR⟩, hg⟩ := hrel
    by_cases hlt : k < n
    · have hd : decide (k < n) = true := decide_eq_true hlt
      have hd2 : decide ((k : Int) < (n : Int)) = true := decide_eq_true (by omega)
      have hBw : rb + 1 ≤ wr.heap.size := by have := block_lt_of_cell ck; simp at this; omega
      have hx : rb ∉ fp ia ci := fun hm => by have := (hR.lt rb hm).1; omega
      go_wp2_with (at_builtin; refine wpList_append_1 _ rfl (.tmp 23) (.tmp 24) 54 rfl 4 1 eltO (rb + 1) ia k ci _ rfl hR hBw (.bool true) 1 rfl rfl (by unfold maxLen; omega) (by omega) ?_; intro la' cl' w3 hR3 hg3 hf3; have c03 := hg3.cellv ck hx; have f03 := (hg3.frozen (p := ⟨rb, 0, none⟩) (block_lt_of_cell ck) hx).trans fk)
      have g4 := Chg.setCell w3 ⟨rb, 0, none⟩ (.slice la' (k + 1) cl')
      have e : bvs (List.replicate (k + 1) true) = bvs (List.replicate k true) ++ [.bool true] := by
        rw [List.replicate_succ']; simp [bvs]
      refine ⟨⟨k + 1, by first | rfl | go_num, by omega, ⟨la', cl', World.cell?_setCell_same _ _ _ c03, by rw [World.frozen?_setCell]; exact f03, ?_⟩, ?_⟩, by simp [intOf]; omega⟩
      · rw [e]
        exact hR3.chg g4 (fun q hq => by have := (hR3.lt q hq).1; simp; omega)
      · refine (hg.trans hg3 (fun _ h _ => h) (fun q hq hlt9 => ?_)).trans g4 (fun _ h _ => h) (fun q hq _ => hq)
        have h1 := (hR.lt q hq).1
        omega
    · have hkn : k = n := by omega
      subst hkn
      have hd : decide (k < k) = false := by simp
      go_wp2_with fail
      go_ret2
      refine ⟨rb, rb :: fp ia ci, rfl, ⟨⟨ia, ci, by rw [List.length_replicate]; exact ck, fk, by omega, by rw [List.length_replicate]; exact hR.mono (by omega), fun hm => by have := (hR.lt rb hm).1; omega, rfl⟩, by rw [List.length_replicate]; exact hn⟩, g0.trans hg (by simp) (fun q hq hlt => by simp at hq; omega)⟩
theorem rnew_no (z : Int) (w : World) (hz : z < 0 ∨ 1024 < z) : Calls Try.prog 8 #[.int .i64 z] w fun e w' => e = .returned (.tuple #[.pointer none, .int .i64 1]) ∧ w = w' := by
  by_cases h1 : z < 0
  · have d1 : decide (z < 0) = true := decide_eq_true h1
    go_enter Try.func8, Try.ntmps8
    go_wp2
    go_ret2
    exact ⟨rfl, rfl⟩
  · have d1 : decide (z < 0) = false := decide_eq_false h1
    have d2 : decide (z > 1024) = true := decide_eq_true (by omega)
    have d3 : decide (1024 < z) = true := decide_eq_true (by omega)
    go_enter Try.func8, Try.ntmps8
    go_wp2
    go_ret2
    exact ⟨rfl, rfl⟩
set_option maxRecDepth 20000 in
theorem rtake_any (B rb : Nat) (G : List Nat) (Is : List Bool) (w : World) (h : RfAt w B rb G Is) :
    Calls Try.prog 11 #[.pointer (some ⟨rb, 0, none⟩)] w fun e w' => e = .returned (.tuple #[.int .i64 (takeN Is).1, .int .i64 (takeN Is).2.1]) ∧ RStep w w' B rb G (takeN Is).2.2 := by
  have h0 := h
  have nn := h.nn
  obtain ⟨ia, ci, c0, f0, hB, hR, hx, rfl⟩ := h.ex
  go_enter Try.func11, Try.ntmps11
  go_wp2_with fail
  go_loop [4] (fun v => ∃ k : Nat, v = .int .i64 k ∧ k ≤ Is.length ∧ ∀ j, j < k → Is[j]? ≠ some true) (fun v => Is.length - (intOf v).toNat)
  case atStart => exact ⟨0, rfl, Nat.zero_le _, fun j hj => by omega⟩
  case round =>
    obtain ⟨k, rfl, hk, hno⟩ := hrel
    by_cases hlt : k < Is.length
    · have hd : decide (k < Is.length) = true := decide_eq_true hlt
      have hd2 : decide ((k : Int) < (Is.length : Int)) = true := decide_eq_true (by omega)
      obtain ⟨b, o, rfl, _, hs, hv⟩ := hR.at_ (by have := hR.le; omega)
      obtain ⟨cs1, cs2⟩ := hs k (by have := hR.le; omega)
      cases hb : Is[k] with
      | true =>
        have hI : Is[k]? = some true := by rw [List.getElem?_eq_getElem hlt, hb]
        have ck := hv k _ (bvs_get hI)
        obtain ⟨r, hr⟩ := freeL_first hno hI
        have e : takeN Is = ((k : Int), 0, Is.set k false) := by unfold takeN; rw [hr]
        have hset := RfAt.set c0 f0 hB hR hx nn k hlt false
        have HS := mkHid hset
        have HE := mkHid e
        clear hset hno hs hv e hr hb hI cs1
        go_wp2_with fail
        go_ret2
        rw [HE.out]
        exact ⟨rfl, HS.out⟩
      | false =>
        have hI : Is[k]? = some false := by rw [List.getElem?_eq_getElem hlt, hb]
        have ck := hv k _ (bvs_get hI)
        have HN := mkHid hno
        have HI := mkHid hI
        clear hno hs hv hb hI cs1
        go_wp2_with fail
        go_round
        case rel =>
          refine ⟨k + 1, by first | rfl | go_num, by omega, fun j hj => ?_⟩
          by_cases e : j = k
          · subst e; rw [HI.out]; simp
          · exact HN.out j (by omega)
        case measure => simp [intOf]; omega
    · have hkn : k = Is.length := by omega
      have hd : decide (k < Is.length) = false := decide_eq_false hlt
      have hd2 : decide ((k : Int) < (Is.length : Int)) = false := decide_eq_false (by omega)
      have e : takeN Is = (0, 8, Is) := by unfold takeN; rw [freeL_none (fun j hj => hno j (by omega))]
      have HE := mkHid e
      clear hno e
      go_wp2_with fail
      go_ret2
      rw [HE.out]
      exact ⟨rfl, h0, Chg.refl _ _⟩
set_option maxRecDepth 20000 in
theorem rlist_any (B rb : Nat) (G : List Nat) (Is : List Bool) (w : World) (h : RfAt w B rb G Is) :
    Calls Try.prog 18 #[.pointer (some ⟨rb, 0, none⟩)] w fun e w' => ∃ a c, e = .returned (.slice a (freeL Is).length c) ∧ Room w' w.heap.size a (freeL Is).length c (ivs (freeL Is)) ∧ Chg [] w w' := by
  have nn := h.nn
  obtain ⟨ia, ci, c0, f0, hB, hR, hx, rfl⟩ := h.ex
  have hrw : rb < w.heap.size := block_lt_of_cell c0
  go_enter Try.func18, Try.ntmps18
  go_wp2_with fail
  go_loopw [3, 4] (fun u v wr => ∃ (k : Nat) (a : Option Addr) (c : Nat), u = .slice a (freeUpto Is k).length c ∧ v = .int .i64 k ∧ k ≤ Is.length ∧ Room wr w.heap.size a (freeUpto Is k).length c (ivs (freeUpto Is k)) ∧ Chg [] w wr) (fun _ v _ => Is.length - (intOf v).toNat)
  case atStart => exact ⟨0, none, 0, rfl, rfl, Nat.zero_le _, Room.nil _ _ _, Chg.refl _ _⟩
  case round =>
    obtain ⟨k, a, c, rfl, rfl, hk, hr, hg⟩ := hrel
    have c0r := hg.cellv c0 (by simp)
    have hRr := hR.chg hg (by simp)
    by_cases hlt : k < Is.length
    · have hd : decide (k < Is.length) = true := decide_eq_true hlt
      have hd2 : decide ((k : Int) < (Is.length : Int)) = true := decide_eq_true (by omega)
      obtain ⟨b, o, rfl, _, hs, hv⟩ := hRr.at_ (by have := hR.le; omega)
      have hul := freeUpto_le Is k
      have hsu := freeUpto_succ Is k
      cases hb : Is[k] with
      | true =>
        have hI : Is[k]? = some true := by rw [List.getElem?_eq_getElem hlt, hb]
        have ck := hv k _ (bvs_get hI)
        rw [List.getD_eq_getElem?_getD, hI] at hsu
        simp only [Option.getD_some, if_true] at hsu
        have HS := mkHid hsu
        generalize freeUpto Is k = U at *
        clear hsu hs hv hb hI
        go_wp2_with (at_builtin; refine wpList_append_1 _ rfl (.tmp 21) (.tmp 23) 41 rfl 3 8 eltN w.heap.size a U.length c (ivs U) rfl hr hg.size (.int .i64 (k : Int)) 1 rfl rfl (by unfold maxLen; omega) (by omega) ?_; intro la' cl' w3 hR3 hg3 hf3)
        refine ⟨⟨k + 1, la', cl', by rw [HS.out]; simp, by first | rfl | go_num, by omega, ?_, hg.trans hg3 (fun _ h _ => h) (fun q hq hlt9 => by have := (hr.lt q hq).1; omega)⟩, by simp [intOf]; omega⟩
        rw [HS.out]
        have e : ivs (U ++ [k]) = ivs U ++ [.int .i64 (k : Int)] := by simp [ivs]
        rw [e]
        simpa using hR3
      | false =>
        have hI : Is[k]? = some false := by rw [List.getElem?_eq_getElem hlt, hb]
        have ck := hv k _ (bvs_get hI)
        rw [List.getD_eq_getElem?_getD, hI] at hsu
        simp only [Option.getD_some, Bool.false_eq_true, if_false, List.append_nil] at hsu
        have HS := mkHid hsu
        generalize freeUpto Is k = U at *
        clear hsu hs hv hb hI
        go_wp2_with fail
        exact ⟨⟨k + 1, a, c, by rw [HS.out], by first | rfl | go_num, by omega, by rw [HS.out]; exact hr, hg⟩, by simp [intOf]; omega⟩
    · have hkn : k = Is.length := by omega
      subst hkn
      rw [freeUpto_all] at hr
      generalize hU : freeUpto Is Is.length = U
      rw [freeUpto_all] at hU
      rw [hU] at hr
      have hd : decide (Is.length < Is.length) = false := by simp
      have HU := mkHid hU
      clear hU
      go_wp2_with fail
      go_ret
      rw [HU.out]
      exact ⟨a, c, rfl, hr, hg⟩
end Go.Proofs.Ytoddiocjloehlaa
