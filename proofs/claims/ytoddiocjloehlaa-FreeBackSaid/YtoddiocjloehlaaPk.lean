/- slices.Sort of a row of integers that may be written; List. -/
import Derived.Test.YtoddiocjloehlaaPi
import Derived.Test.YtoddiocjloehlaaPj
namespace Go.Proofs.Ytoddiocjloehlaa
open Go.RowKit Go.Sort
set_option linter.unusedVariables false
set_option linter.unusedSimpArgs false
attribute [local go_sem ↓] Go.wp_at_zero Go.wp_at_succ

theorem Chg.putRow (enc : Int → Value) (w : World) (b off : Nat) (d : Array Int) (n : Nat) (os : Array Obj) : Chg [b] w (grow (Sort.putRow enc (Sort.ahead w n) b off d) os) := by
  have hs : (Sort.putRow enc (Sort.ahead w n) b off d).heap.size = w.heap.size := by rw [size_putRow]; rfl
  refine ⟨rfl, rfl, rfl, by rw [size_grow, hs]; omega, fun k hk hn => ?_⟩
  rw [heap_grow_old _ _ (by rw [hs]; exact hk)]
  simp at hn
  simp only [Sort.putRow, mapBlock, Array.getElem?_modify]
  rw [if_neg (fun e => hn e.symm)]
  rfl
theorem sort_room {w : World} {B b o n c : Nat} {S : List Int} (h : Room w B (some ⟨b, o, none⟩) n c (zvs S)) (S' : List Int) (hl : S'.length = S.length) (m : Nat) (os : Array Obj) (hn : 0 < n) :
    Room (grow (Sort.putRow (Value.int .i64) (Sort.ahead w m) b o S'.toArray) os) B (some ⟨b, o, none⟩) n c (zvs S') := by
  have hSn : S.length = n := by have := h.len; rwa [zvs_len] at this
  obtain ⟨b', o', e, hB, hs, hv⟩ := h.at_ (by have := h.le; omega)
  cases e
  have hb : b < w.heap.size := by
    obtain ⟨u, hu⟩ := Option.isSome_iff_exists.1 (hs 0 (by have := h.le; omega)).1
    exact block_lt_of_cell hu
  have hsz : (Sort.putRow (Value.int .i64) (Sort.ahead w m) b o S'.toArray).heap.size = w.heap.size := by rw [size_putRow]; rfl
  have hH : Holds (Value.int .i64) (Sort.ahead w m) b o S.toArray := fun j hj => by
    have hj' : j < S.length := by simpa using hj
    have h1 := hv j _ (zvs_get (List.getElem?_eq_getElem hj'))
    refine ⟨?_, (hs j (by have := h.le; omega)).2⟩
    show w.cell? _ = _
    rw [h1]
    simp [hj']
  have hcell : ∀ j, j < n → (grow (Sort.putRow (Value.int .i64) (Sort.ahead w m) b o S'.toArray) os).cell? ⟨b, o + j, none⟩ = some (.int .i64 S'.toArray[j]!) := fun j hj => by
    rw [cell?_grow _ _ _ (by rw [hsz]; exact hb)]
    exact cell?_putRow _ _ _ _ S.toArray _ hH (by simp [hl]) j (by simp; omega)
  refine ⟨by rw [zvs_len]; omega, h.le, h.max, fun hc => ⟨b, o, rfl, hB, fun j hj => ?_, fun j u hu => ?_⟩⟩
  · refine ⟨?_, ?_⟩
    · by_cases hjn : j < n
      · rw [hcell j hjn]; rfl
      · rw [cell?_grow _ _ _ (by rw [hsz]; exact hb), cell?_putRow_other _ _ _ _ _ _ (Or.inr (Or.inr (by simp; omega)))]
        exact (hs j hj).1
    · rw [frozen?_grow _ _ _ (by rw [hsz]; exact hb), frozen?_putRow]
      exact (hs j hj).2
  · have hjn : j < n := by
      have := (List.getElem?_eq_some_iff.1 hu).1
      rw [zvs_len] at this; omega
    rw [hcell j hjn]
    have hj' : j < S'.length := by omega
    have := zvs_get (List.getElem?_eq_getElem hj')
    rw [hu] at this
    rw [this]
    simp [hj']
theorem ivs_zvs (L : List Nat) : ivs L = zvs (L.map fun x : Nat => (x : Int)) := by simp [ivs, zvs]
/-- The places sorted. -/
theorem sorted_line {L : List Nat} {Is : List Bool} (p : L.Perm (freeL Is)) : (L.map fun x : Nat => (x : Int)).mergeSort (fun x y => decide (x ≤ y)) = (freeL Is).map fun x : Nat => (x : Int) := by
  have h1 : ((L.map fun x : Nat => (x : Int)).mergeSort (fun x y => decide (x ≤ y))).Perm ((freeL Is).map fun x : Nat => (x : Int)) := (List.mergeSort_perm _ _).trans (p.map _)
  refine h1.eq_of_pairwise (le := fun x y : Int => x ≤ y) (fun a b _ _ h h' => Int.le_antisymm h h') ?_ ?_
  · have := List.pairwise_mergeSort (le := fun x y : Int => decide (x ≤ y)) (fun a b c h h' => by simp only [decide_eq_true_eq] at h h' ⊢; omega) (fun a b => by simp only [Bool.or_eq_true, decide_eq_true_eq]; omega) (L.map fun x : Nat => (x : Int))
    exact this.imp (fun h => of_decide_eq_true h)
  · exact List.pairwise_map.2 ((freeL_lt Is).imp (fun h => by omega))
set_option maxRecDepth 20000 in
theorem list_any (B sb : Nat) (F : List Nat) (Is : List Bool) (w : World) (h : SpAt w B sb F Is) :
    Calls Try.prog 19 #[.pointer (some ⟨sb, 0, none⟩)] w fun e w' => ∃ a c, e = .returned (.slice a (freeL Is).length c) ∧ Room w' w.heap.size a (freeL Is).length c (ivs (freeL Is)) ∧ Chg [] w w' := by
  obtain ⟨pb, la, cl, sa, cs, L, c0, hB, hP, hH, hm, hx, rfl⟩ := h.ex
  have cM := made_yes sb pb w c0
  have cp := hP.c0
  have hle := hP.le
  have hnn := hP.nn
  have p := line_perm hP.nd hm
  have hpl := p.length_eq
  have cC := clone_any la L.length cl (ivs L) w hP.r.reads (ivs_len L) hP.r.none0 (ivs_one L) (by omega)
  have cS : ∀ (a : Option Addr) (c : Nat) (w1 : World), Room w1 w.heap.size a L.length c (ivs L) → Chg [] w w1 → Calls Try.prog 31 #[.slice a L.length c] w1 fun e w' => e = .returned (.tuple #[]) ∧ Room w' w.heap.size a L.length c (ivs (freeL Is)) ∧ Chg [] w w' := by
    intro a c w1 hr hg
    by_cases h0 : L.length = 0
    · rw [h0] at hr ⊢
      refine (AnyM.slices_Sort_int_none sortA a c w1).mono ?_
      rintro e w' ⟨rfl, rfl⟩
      have e1 : freeL Is = [] := List.eq_nil_of_length_eq_zero (by omega)
      have e2 : L = [] := List.eq_nil_of_length_eq_zero h0
      rw [e1]
      rw [e2] at hr
      exact ⟨rfl, hr, hg⟩
    · rw [ivs_zvs] at hr
      have hr0 := hr
      obtain ⟨b, o, rfl, hb, hs, hv⟩ := hr.at_ (by have := hr.le; omega)
      have hbl : b < w1.heap.size := by
        obtain ⟨u, hu⟩ := Option.isSome_iff_exists.1 (hs 0 (by have := hr.le; omega)).1
        exact block_lt_of_cell hu
      have hH : Holds (Value.int .i64) w1 b o (L.map fun x : Nat => (x : Int)).toArray := fun j hj => by
        have hj' : j < (L.map fun x : Nat => (x : Int)).length := by simpa using hj
        have hj2 : j < L.length := by simpa using hj'
        have h1 := hv j _ (zvs_get (List.getElem?_eq_getElem hj'))
        refine ⟨?_, (hs j (by have := hr.le; omega)).2⟩
        rw [h1]
        simp [hj2]
      have hsort := AnyM.slices_Sort_int sortA b o c (L.map fun x : Nat => (x : Int)) w1 hH hbl (by simp; omega)
      rw [List.length_map] at hsort
      refine hsort.mono ?_
      rintro e w' ⟨rfl, m, os, rfl⟩
      rw [sorted_line p]
      refine ⟨rfl, ?_, hg.trans (Chg.putRow _ w1 b o _ m os) (fun _ h _ => h) (fun k hk hlt => by simp at hk; omega)⟩
      rw [ivs_zvs (freeL Is)]
      exact sort_room hr0 _ (by simp; omega) m os (by omega)
  have HP := mkHid hpl
  have HC := mkHid cC
  have HS := mkHid cS
  clear cC cS p hm hH hP hpl
  go_enter Try.func19, Try.ntmps19
  go_wp2_with (first | (go_at_call 24; refine cM.mono ?_; rintro e w' ⟨rfl, rfl⟩) | (go_at_call 30; refine HC.out.mono ?_; rintro e w1 ⟨a, c, rfl, hr, hg⟩) | (go_at_call 31; refine (HS.out a c w1 hr hg).mono ?_; rintro e w2 ⟨rfl, hr2, hg2⟩))
  go_ret
  rw [← HP.out]
  exact ⟨a, c, rfl, hr2, hg2⟩
end Go.Proofs.Ytoddiocjloehlaa
