/- A space: New, Copy. -/
import Derived.Test.YtppjjlooocigdaaPh
namespace Go.Proofs.Ytppjjlooocigdaa
open Go.RowKit
set_option linter.unusedVariables false
set_option linter.unusedSimpArgs false
attribute [local go_sem ↓] Go.wp_at_zero Go.wp_at_succ

/-- A space around places. -/
theorem space_close {w : World} {B pb : Nat} {la : Option Addr} {cl : Nat} {sa : Option Addr} {cs n : Nat} {L : List Nat} {Is : List Bool} {t : TypeId} (hB : B ≤ w.heap.size) (hP : PlAt w B pb la cl sa cs n L) (hH : Heap L L.length) (hn : Is.length = n) (hm : ∀ x, x ∈ L ↔ Is[x]? = some true) :
    ∃ F, SpAt (w.alloc (.cells #[.pointer (some ⟨pb, 0, none⟩)] t)) B w.heap.size F Is ∧ Chg [] w (w.alloc (.cells #[.pointer (some ⟨pb, 0, none⟩)] t)) := by
  subst hn
  have g := Chg.alloc [] w (.cells #[.pointer (some ⟨pb, 0, none⟩)] t)
  refine ⟨_, ⟨pb, la, cl, sa, cs, L, ?_, hB, hP.keep g, hH, hm, fun hk => ?_, rfl⟩, g⟩
  · exact cell_of_row _ _ _ _ _ _ (heap_alloc_last w _)
  · have := (hP.lt _ hk).2; omega
theorem new_yes (n : Nat) (hn : n ≤ 1024) (w : World) : Calls Try.prog 30 #[.int .i64 n] w fun e w' => ∃ sb F, e = .returned (.tuple #[.pointer (some ⟨sb, 0, none⟩), .int .i64 0]) ∧ SpAt w' w.heap.size sb F (List.replicate n true) ∧ Chg [] w w' := by
  have d1 : decide ((n : Int) < 0) = false := decide_eq_false (by omega)
  have d2 : decide ((n : Int) > 1024) = false := decide_eq_false (by omega)
  have d3 : decide ((1024 : Int) < (n : Int)) = false := decide_eq_false (by omega)
  go_enter Try.func30, Try.ntmps30
  go_wp2_with (first | (go_at_call 46; refine (all_any n hn w).mono ?_; rintro e w1 ⟨pb, la, sa, rfl, hP, hg⟩))
  go_ret2
  obtain ⟨F, hS, h2⟩ := space_close (t := 73) (Is := List.replicate n true) hg.size hP (by rw [List.length_range]; exact heap_range n) (by simp) (fun x => by
    rw [List.mem_range, List.getElem?_replicate]
    by_cases h : x < n
    · simp [h]
    · simp [h])
  exact ⟨_, F, rfl, hS, hg.then h2⟩
/-- slices.Clone at integers. -/
theorem clone_any (ao : Option Addr) (n c : Nat) (xs : List Value) (w : World) (g : Reads w ao xs) (gn : xs.length = n) (h0 : ao = none → n = 0 ∧ c = 0) (hone : ∀ u ∈ xs, u.oneCell' = true) (hn : n ≤ 1000000000) :
    Calls Try.prog 57 #[.slice ao n c] w fun e w' => ∃ a' c', e = .returned (.slice a' n c') ∧ Room w' w.heap.size a' n c' xs ∧ Chg [] w w' := by
  have hml : maxLen = 9223372036854775807 := rfl
  cases ao with
  | none =>
    obtain ⟨rfl, rfl⟩ := h0 rfl
    have hx : xs = [] := List.eq_nil_of_length_eq_zero gn
    subst hx
    have heq := fun (w : World) (n c : Nat) => Lib.run_eql_slice_nil (P := Try.prog) w 77 3 none n c 0 0 Try.underlying77
    simp only [Option.isNone_none] at heq
    go_enter Try.func57, Try.ntmps57
    go_wp2_with fail
    go_ret
    exact ⟨none, 0, rfl, Room.nil _ _ _, Chg.refl _ _⟩
  | some p =>
    have heq := fun (w : World) (n c : Nat) => Lib.run_eql_slice_nil (P := Try.prog) w 77 3 (some p) n c 0 0 Try.underlying77
    simp only [Option.isNone_some] at heq
    go_enter Try.func57, Try.ntmps57
    go_wp2_with (first | (at_builtin; refine wpList_append_k _ rfl (.tmp 5) (.tmp 6) 77 rfl 3 8 eltN w.heap.size _ 0 0 [] rfl (Room.nil _ _ _) (by simp) (some p) n c xs rfl (g.keep (Chg.alloc [] w _)) gn hone (by omega) (by omega) ?_; intro a1 c1 w1 hr1 hg1 hf1; simp only [Nat.zero_add, List.nil_append] at hr1))
    go_ret
    exact ⟨a1, c1, rfl, hr1, (Chg.alloc [] w _).trans hg1 (fun _ h _ => h) (fun k h _ => by rw [fp_zero] at h; exact h)⟩
theorem Room.none0 {w : World} {B : Nat} {ao : Option Addr} {n c : Nat} {xs : List Value} (h : Room w B ao n c xs) : ao = none → n = 0 ∧ c = 0 := by
  rintro rfl
  rcases Nat.eq_zero_or_pos c with h0 | h0
  · exact ⟨by have := h.le; omega, h0⟩
  · obtain ⟨b, o, e, _⟩ := h.at_ h0; cases e
theorem copy_close {wa wb : World} {B n : Nat} {L : List Nat} {S : List Int} {a1 a2 : Option Addr} {k1 k2 : Nat} {t : TypeId} (hn : n ≤ 1024) (hok : SpotsOk n L S) (hB : B ≤ wa.heap.size) (ra : Room wa B a1 L.length k1 (ivs L)) (rb : Room wb B a2 n k2 (zvs S)) (gb : Chg [] wa wb) (fb : ∀ k, k ∈ fp a2 k2 → wa.heap.size ≤ k) :
    PlAt (wb.alloc (.cells #[.slice a1 L.length k1, .slice a2 n k2] t)) B wb.heap.size a1 k1 a2 k2 n L ∧ Chg [] wa (wb.alloc (.cells #[.slice a1 L.length k1, .slice a2 n k2] t)) := by
  have g := Chg.alloc [] wb (.cells #[.slice a1 L.length k1, .slice a2 n k2] t)
  have hcl := fun j => cell_of_row (wb.alloc (.cells #[.slice a1 L.length k1, .slice a2 n k2] t)) wb.heap.size j _ _ _ (heap_alloc_last wb _)
  have hfz := fun j => frozen_of_row (wb.alloc (.cells #[.slice a1 L.length k1, .slice a2 n k2] t)) wb.heap.size j _ _ (heap_alloc_last wb _)
  have rab := ra.chg gb (by simp)
  refine ⟨⟨hcl 0, hfz 0, hcl 1, rab.chg g (by simp), ⟨S, rb.chg g (by simp), hok⟩, hn, Nat.le_trans hB gb.size, fun hk => ?_, fun hk => ?_, fun k hk h2 => ?_⟩, gb.then g⟩
  · have := (rab.lt _ hk).2; omega
  · have := (rb.lt _ hk).2; omega
  · have h3 := (ra.lt k hk).2
    have h4 := fb k h2
    omega
set_option maxRecDepth 20000 in
theorem plcopy_any (B pb : Nat) (la : Option Addr) (cl : Nat) (sa : Option Addr) (cs n : Nat) (L : List Nat) (w : World) (h : PlAt w B pb la cl sa cs n L) :
    Calls Try.prog 52 #[.pointer (some ⟨pb, 0, none⟩)] w fun e w' => ∃ pb' la' cl' sa' cs', e = .returned (.pointer (some ⟨pb', 0, none⟩)) ∧ PlAt w' w.heap.size pb' la' cl' sa' cs' n L ∧ Chg [] w w' := by
  have c0 := h.c0
  have c1 := h.c1
  have hle := h.le
  have hnn := h.nn
  obtain ⟨S, hS, hok⟩ := h.s
  have hSl := hok.len
  have hK : ∀ w1, Chg [] w w1 → Calls Try.prog 57 #[.slice la L.length cl] w1 fun e w' => ∃ a' c', e = .returned (.slice a' L.length c') ∧ Room w' w.heap.size a' L.length c' (ivs L) ∧ Chg [] w1 w' ∧ (∀ k, k ∈ fp a' c' → w1.heap.size ≤ k) := fun w1 g1 => by
    refine (clone_any la L.length cl (ivs L) w1 (h.r.reads.keep g1) (ivs_len L) h.r.none0 (ivs_one L) (by omega)).mono ?_
    rintro e w' ⟨a', c', he, hr, hg⟩
    exact ⟨a', c', he, hr.mono g1.size, hg, fun k hk => (hr.lt k hk).1⟩
  have hZ : ∀ w1, Chg [] w w1 → Calls Try.prog 57 #[.slice sa n cs] w1 fun e w' => ∃ a' c', e = .returned (.slice a' n c') ∧ Room w' w.heap.size a' n c' (zvs S) ∧ Chg [] w1 w' ∧ (∀ k, k ∈ fp a' c' → w1.heap.size ≤ k) := fun w1 g1 => by
    refine (clone_any sa n cs (zvs S) w1 (hS.reads.keep g1) (by rw [zvs_len, hSl]) hS.none0 (zvs_one S) (by omega)).mono ?_
    rintro e w' ⟨a', c', he, hr, hg⟩
    exact ⟨a', c', he, hr.mono g1.size, hg, fun k hk => (hr.lt k hk).1⟩
  have HK := mkHid hK
  have HZ := mkHid hZ
  clear hK hZ
  go_enter Try.func52, Try.ntmps52
  go_wp2_with fail
  go_region_law (first
    | (go_simp; go_at_call_of 57 la; refine (HK.out _ (by first | exact Chg.refl _ _ | exact Chg.drew _ _)).mono ?_; rintro e wa ⟨a1, k1, rfl, ra, ga, fa⟩; have c1a := ga.cellv c1 (by simp); have c1b := c1a)
    | (go_simp; go_at_call_of 57 sa; refine (HZ.out _ ((Chg.drew [] w).then ga)).mono ?_; rintro e wb ⟨a2, k2, rfl, rb, gb, fb⟩))
  all_goals
    obtain ⟨hP, hC⟩ := copy_close (t := 79) hnn hok (by have := ga.size; simpa using this) ra rb gb fb
    go_wp2_with fail
    go_ret
    first
    | exact ⟨_, _, _, _, _, rfl, hP, ga.then hC⟩
    | exact ⟨_, _, _, _, _, rfl, hP, ((Chg.drew [] w).then ga).then hC⟩
    | exact ⟨_, _, _, _, _, rfl, hP.keep (Chg.drew [] _), (ga.then hC).then (Chg.drew [] _)⟩
    | exact ⟨_, _, _, _, _, rfl, hP.keep (Chg.drew [] _), (((Chg.drew [] w).then ga).then hC).then (Chg.drew [] _)⟩
theorem copy_any (B sb : Nat) (F : List Nat) (Is : List Bool) (w : World) (h : SpAt w B sb F Is) :
    Calls Try.prog 42 #[.pointer (some ⟨sb, 0, none⟩)] w fun e w' => ∃ sb' F', e = .returned (.pointer (some ⟨sb', 0, none⟩)) ∧ SpAt w' w.heap.size sb' F' Is ∧ Chg [] w w' := by
  obtain ⟨pb, la, cl, sa, cs, L, c0, hB, hP, hH, hm, hx, rfl⟩ := h.ex
  have cM := made_yes sb pb w c0
  have cC := plcopy_any B pb la cl sa cs Is.length L w hP
  have HM := mkHid hm
  have HH := mkHid hH
  clear hm hH
  go_enter Try.func42, Try.ntmps42
  go_wp2_with (first | (go_at_call 49; refine cM.mono ?_; rintro e w' ⟨rfl, rfl⟩) | (go_at_call 52; refine cC.mono ?_; rintro e w1 ⟨pb', la', cl', sa', cs', rfl, hP', hg⟩))
  go_ret
  obtain ⟨F, hS, h2⟩ := space_close (t := 73) (Is := Is) hg.size hP' HH.out rfl HM.out
  exact ⟨_, F, rfl, hS, hg.then h2⟩
end Go.Proofs.Ytppjjlooocigdaa
