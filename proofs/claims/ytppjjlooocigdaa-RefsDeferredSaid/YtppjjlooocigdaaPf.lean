/- A space in memory: its places as which are free; Claim, Give, Take, Free, and what is told of none. -/
import Derived.Test.YtppjjlooocigdaaPe
namespace Go.Proofs.Ytppjjlooocigdaa
open Go.RowKit
set_option linter.unusedVariables false
set_option linter.unusedSimpArgs false
attribute [local go_sem ↓] Go.wp_at_zero Go.wp_at_succ

section
variable (x : Nat) (B pb : Nat) (la : Option Addr) (cl : Nat) (sa : Option Addr) (cs n : Nat) (L : List Nat) (w : World) (h : PlAt w B pb la cl sa cs n L) (hH : Heap L L.length)
include h hH
theorem leave_any (hx : x ∈ L) : Calls Try.prog 48 #[.pointer (some ⟨pb, 0, none⟩), .int .i64 (x : Int)] w fun e w' => e = .returned (.tuple #[]) ∧ ∃ L', PlAt w' B pb la cl sa cs n L' ∧ (L' ++ [x]).Perm L ∧ Heap L' L'.length ∧ Chg (PF pb la cl sa cs) w w' := by
  have c1 := h.c1
  have hnn := h.nn
  have hxn := h.lt' x hx
  obtain ⟨S, hS, hok⟩ := h.s
  have hSl := hok.len
  obtain ⟨sb, so, rfl, hc⟩ := hS.reads (by rw [zvs_len]; omega)
  obtain ⟨k, hk, rfl⟩ := List.getElem_of_mem hx
  have ci := hc _ _ (zvs_get (hok.at_ k hk))
  have hR := hremove_any k B pb la cl _ cs n L w h hk hH
  clear hc
  generalize L[k] = x at *
  go_enter Try.func48, Try.ntmps48
  go_wp2_with (first | (go_at_call 55; refine hR.mono ?_; rintro e w2 ⟨v, rfl, L', h2, p2, H2, g2⟩))
  go_end0
  exact ⟨rfl, L', h2, p2, H2, g2⟩
theorem join_any (hB : B ≤ w.heap.size) (hx : x < n) (hxL : x ∉ L) : Calls Try.prog 56 #[.pointer (some ⟨pb, 0, none⟩), .int .i64 (x : Int)] w fun e w' => e = .returned (.tuple #[]) ∧ ∃ la' cl' L', PlAt w' B pb la' cl' sa cs n L' ∧ L'.Perm (L ++ [x]) ∧ Heap L' L'.length ∧ Chg (PF pb la cl sa cs) w w' ∧ (∀ k, k ∈ fp la' cl' → k ∈ fp la cl ∨ w.heap.size ≤ k) := by
  go_enter Try.func56, Try.ntmps56
  go_wp2_with (first | (go_at_call 60; refine (hpush_any x B pb la cl sa cs n L w h hB hx hxL hH).mono ?_; rintro e w2 ⟨rfl, hpost⟩))
  go_end0
  exact ⟨rfl, hpost⟩
end
/-- The places that are free, rising. -/
def freeL (Is : List Bool) : List Nat := (List.range Is.length).filter (fun x => Is.getD x false)
theorem mem_freeL (Is : List Bool) (x : Nat) : x ∈ freeL Is ↔ Is[x]? = some true := by
  unfold freeL
  rw [List.mem_filter, List.mem_range]
  simp only [List.getD_eq_getElem?_getD]
  constructor
  · rintro ⟨h, e⟩
    rw [List.getElem?_eq_getElem h] at e ⊢
    simpa using e
  · intro e
    have h := (List.getElem?_eq_some_iff.1 e).1
    exact ⟨h, by rw [e]; rfl⟩
theorem freeL_lt (Is : List Bool) : (freeL Is).Pairwise (· < ·) := by
  unfold freeL
  exact List.Pairwise.filter _ List.pairwise_lt_range
theorem freeL_le (Is : List Bool) : (freeL Is).length ≤ Is.length := by
  unfold freeL
  exact Nat.le_trans (List.length_filter_le _ _) (by simp)
theorem lt_nodup {L : List Nat} (h : L.Pairwise (· < ·)) : L.Nodup := h.imp (fun h e => by omega)
/-- Two rising lists of the same are one. -/
theorem rising_ext : ∀ {L M : List Nat}, L.Pairwise (· < ·) → M.Pairwise (· < ·) → (∀ x, x ∈ L ↔ x ∈ M) → L = M
  | [], [], _, _, _ => rfl
  | [], y :: M, _, _, h => by have := (h y).2 (by simp); cases this
  | x :: L, [], _, _, h => by have := (h x).1 (by simp); cases this
  | x :: L, y :: M, hL, hM, h => by
    rw [List.pairwise_cons] at hL hM
    have hxy : x = y := by
      rcases List.mem_cons.1 ((h x).1 (by simp)) with e | e
      · exact e
      · rcases List.mem_cons.1 ((h y).2 (by simp)) with e2 | e2
        · exact e2.symm
        · have h1 := hM.1 x e
          have h2 := hL.1 y e2
          omega
    subst hxy
    congr 1
    refine rising_ext hL.2 hM.2 fun z => ⟨fun hz => ?_, fun hz => ?_⟩
    · rcases List.mem_cons.1 ((h z).1 (List.mem_cons_of_mem _ hz)) with e | e
      · subst e; have := hL.1 z hz; omega
      · exact e
    · rcases List.mem_cons.1 ((h z).2 (List.mem_cons_of_mem _ hz)) with e | e
      · subst e; have := hM.1 z hz; omega
      · exact e
theorem set_get (Is : List Bool) (x : Nat) (b : Bool) (y : Nat) (hx : x < Is.length) : (Is.set x b)[y]? = some true ↔ (if x = y then b = true else Is[y]? = some true) := by
  by_cases e : x = y
  · subst e
    rw [List.getElem?_set_self hx, if_pos rfl]
    simp
  · rw [List.getElem?_set_ne e, if_neg e]
/-- Behind a Take of the least. -/
theorem freeL_take {Is : List Bool} {x : Nat} {r : List Nat} (h : freeL Is = x :: r) : freeL (Is.set x false) = r := by
  have hx := (mem_freeL Is x).1 (by rw [h]; simp)
  have hlt := (List.getElem?_eq_some_iff.1 hx).1
  have hp := freeL_lt Is
  rw [h, List.pairwise_cons] at hp
  refine rising_ext (freeL_lt _) hp.2 fun y => ?_
  rw [mem_freeL, set_get _ _ _ _ hlt]
  have h2 : Is[y]? = some true ↔ y ∈ x :: r := by rw [← h, mem_freeL]
  by_cases e : x = y
  · subst e
    rw [if_pos rfl]
    simp
    intro hm
    have := hp.1 x hm
    omega
  · rw [if_neg e, h2, List.mem_cons]
    exact ⟨fun h => h.resolve_left (fun h9 => e h9.symm), Or.inr⟩
def claimN (Is : List Bool) (z : Int) : Int × List Bool := if z < 0 ∨ (Is.length : Int) ≤ z then (1, Is) else if Is[z.toNat]? = some true then (0, Is.set z.toNat false) else (6, Is)
def giveN (Is : List Bool) (z : Int) : Int × List Bool := if z < 0 ∨ (Is.length : Int) ≤ z then (1, Is) else if Is[z.toNat]? = some true then (7, Is) else (0, Is.set z.toNat true)
def takeN (Is : List Bool) : Int × Int × List Bool := match freeL Is with
  | [] => (0, 8, Is)
  | x :: _ => ((x : Int), 0, Is.set x false)

/-- A space in block sb, its blocks F; Is: which of its places are free. -/
structure SpAt (w : World) (B sb : Nat) (F : List Nat) (Is : List Bool) : Prop where
  ex : ∃ pb la cl sa cs L, w.cell? ⟨sb, 0, none⟩ = some (.pointer (some ⟨pb, 0, none⟩)) ∧ B ≤ sb ∧ PlAt w B pb la cl sa cs Is.length L ∧ Heap L L.length ∧ (∀ x, x ∈ L ↔ Is[x]? = some true) ∧ sb ∉ PF pb la cl sa cs ∧ F = sb :: PF pb la cl sa cs
theorem SpAt.lt {w : World} {B sb : Nat} {F : List Nat} {Is : List Bool} (h : SpAt w B sb F Is) : ∀ k, k ∈ F → B ≤ k ∧ k < w.heap.size := by
  obtain ⟨pb, la, cl, sa, cs, L, c0, hB, hP, hH, hm, hn, rfl⟩ := h.ex
  intro k hk
  rcases List.mem_cons.1 hk with rfl | hk
  · exact ⟨hB, block_lt_of_cell c0⟩
  · exact hP.lt k hk
theorem SpAt.chg {w w' : World} {B sb : Nat} {F : List Nat} {Is : List Bool} {S : List Nat} (h : SpAt w B sb F Is) (c : Chg S w w') (hn : ∀ k, k ∈ F → k ∉ S) : SpAt w' B sb F Is := by
  obtain ⟨pb, la, cl, sa, cs, L, c0, hB, hP, hH, hm, hx, rfl⟩ := h.ex
  exact ⟨pb, la, cl, sa, cs, L, c.cellv c0 (hn sb (by simp)), hB, hP.chg c (fun k hk => hn k (by simp [hk])), hH, hm, hx, rfl⟩
theorem SpAt.keep {w w' : World} {B sb : Nat} {F : List Nat} {Is : List Bool} (h : SpAt w B sb F Is) (c : Chg [] w w') : SpAt w' B sb F Is := h.chg c (by simp)
theorem SpAt.mono {w : World} {B B' sb : Nat} {F : List Nat} {Is : List Bool} (h : SpAt w B sb F Is) (hB : B' ≤ B) : SpAt w B' sb F Is := by
  obtain ⟨pb, la, cl, sa, cs, L, c0, h1, hP, hH, hm, hx, rfl⟩ := h.ex
  obtain ⟨S, hS, hok⟩ := hP.s
  exact ⟨pb, la, cl, sa, cs, L, c0, by omega, ⟨hP.c0, hP.f0, hP.c1, hP.r.mono hB, ⟨S, hS.mono hB, hok⟩, hP.nn, Nat.le_trans hB hP.pB, hP.d1, hP.d2, hP.d3⟩, hH, hm, hx, rfl⟩
theorem SpAt.small {w : World} {B sb : Nat} {F : List Nat} {Is : List Bool} (h : SpAt w B sb F Is) : Is.length ≤ 1024 := by
  obtain ⟨pb, la, cl, sa, cs, L, c0, hB, hP, _⟩ := h.ex
  exact hP.nn
theorem SpAt.base {w : World} {B sb : Nat} {F : List Nat} {Is : List Bool} (h : SpAt w B sb F Is) : B ≤ w.heap.size := by
  obtain ⟨pb, la, cl, sa, cs, L, c0, hB, _⟩ := h.ex
  have := block_lt_of_cell c0
  exact Nat.le_of_lt (Nat.lt_of_le_of_lt hB this)
/-- What a call has made of a space. -/
def Step (w w' : World) (B sb : Nat) (F : List Nat) (Is : List Bool) : Prop := ∃ F', SpAt w' B sb F' Is ∧ Chg F w w' ∧ ∀ k, k ∈ F' → k ∈ F ∨ w.heap.size ≤ k
theorem Step.refl {w : World} {B sb : Nat} {F : List Nat} {Is : List Bool} (h : SpAt w B sb F Is) : Step w w B sb F Is := ⟨F, h, Chg.refl _ _, fun _ h => Or.inl h⟩

theorem made_nil (w : World) : Calls Try.prog 49 #[.pointer none] w fun e w' => e = .returned (.bool false) ∧ w = w' := by
  go_enter Try.func49, Try.ntmps49
  go_wp2
  go_ret
  exact ⟨rfl, rfl⟩
theorem made_zero (sb : Nat) (w : World) (c0 : w.cell? ⟨sb, 0, none⟩ = some (.pointer none)) : Calls Try.prog 49 #[.pointer (some ⟨sb, 0, none⟩)] w fun e w' => e = .returned (.bool false) ∧ w = w' := by
  go_enter Try.func49, Try.ntmps49
  go_wp2
  go_ret
  exact ⟨rfl, rfl⟩
theorem made_yes (sb pb : Nat) (w : World) (c0 : w.cell? ⟨sb, 0, none⟩ = some (.pointer (some ⟨pb, 0, none⟩))) : Calls Try.prog 49 #[.pointer (some ⟨sb, 0, none⟩)] w fun e w' => e = .returned (.bool true) ∧ w = w' := by
  go_enter Try.func49, Try.ntmps49
  go_wp2
  go_ret
  exact ⟨rfl, rfl⟩
theorem mem_perm_snoc {L L' : List Nat} {x : Nat} (hnd : L.Nodup) (p : (L' ++ [x]).Perm L) (y : Nat) : y ∈ L' ↔ y ∈ L ∧ x ≠ y := by
  have h1 : (L' ++ [x]).Nodup := p.nodup_iff.2 hnd
  rw [List.nodup_append] at h1
  have h2 := p.mem_iff (a := y)
  simp at h2
  rw [← h2]
  constructor
  · intro h
    exact ⟨Or.inl h, fun e => h1.2.2 y h x (by simp) e.symm⟩
  · rintro ⟨h | h, h3⟩
    · exact h
    · exact absurd h.symm h3
theorem SpAt.same {w w' : World} {B sb pb : Nat} {la la' : Option Addr} {cl cl' : Nat} {sa : Option Addr} {cs : Nat} {L' : List Nat} {Is' : List Bool} (c0 : w.cell? ⟨sb, 0, none⟩ = some (.pointer (some ⟨pb, 0, none⟩))) (hB : B ≤ sb) (hx : sb ∉ PF pb la cl sa cs)
    (hP : PlAt w' B pb la' cl' sa cs Is'.length L') (hH : Heap L' L'.length) (hm : ∀ x, x ∈ L' ↔ Is'[x]? = some true) (c : Chg (PF pb la cl sa cs) w w') (hf : ∀ k, k ∈ fp la' cl' → k ∈ fp la cl ∨ w.heap.size ≤ k) : Step w w' B sb (sb :: PF pb la cl sa cs) Is' := by
  have hsw : sb < w.heap.size := block_lt_of_cell c0
  refine ⟨sb :: PF pb la' cl' sa cs, ⟨pb, la', cl', sa, cs, L', c.cellv c0 hx, hB, hP, hH, hm, ?_, rfl⟩, c.mono (fun k hk _ => by simp [hk]), ?_⟩
  · intro hk
    simp only [PF, List.mem_cons, List.mem_append] at hk hx
    rcases hk with hk | hk | hk
    · exact hx (Or.inl hk)
    · rcases hf sb hk with h9 | h9
      · exact hx (Or.inr (Or.inl h9))
      · omega
    · exact hx (Or.inr (Or.inr hk))
  · intro k hk
    simp only [PF, List.mem_cons, List.mem_append] at hk ⊢
    rcases hk with hk | hk | hk | hk
    · exact Or.inl (Or.inl hk)
    · exact Or.inl (Or.inr (Or.inl hk))
    · rcases hf k hk with h9 | h9
      · exact Or.inl (Or.inr (Or.inr (Or.inl h9)))
      · exact Or.inr h9
    · exact Or.inl (Or.inr (Or.inr (Or.inr hk)))
set_option maxRecDepth 20000 in
theorem change_claim (z : Int) (B sb : Nat) (F : List Nat) (Is : List Bool) (w : World) (h : SpAt w B sb F Is) :
    Calls Try.prog 47 #[.pointer (some ⟨sb, 0, none⟩), .int .i64 z, .bool true, .int .i64 6, .func (.func 48) #[] #[]] w fun e w' => e = .returned (.int .i64 (claimN Is z).1) ∧ Step w w' B sb F (claimN Is z).2 := by
  have h0 := h
  obtain ⟨pb, la, cl, sa, cs, L, c0, hB, hP, hH, hm, hx, rfl⟩ := h.ex
  have cM := made_yes sb pb w c0
  have cH := has_any B pb la cl sa cs Is.length L w hP z
  by_cases hz : 0 ≤ z ∧ z < (Is.length : Int)
  · obtain ⟨x, rfl⟩ : ∃ x : Nat, z = (x : Int) := ⟨z.toNat, by omega⟩
    have hxn : x < Is.length := by omega
    rw [decide_eq_true hz] at cH
    have cF := isfree_any x B pb la cl sa cs Is.length L w hP hxn
    by_cases hxL : x ∈ L
    · have hI := (hm x).1 hxL
      rw [decide_eq_true hxL] at cF
      have e : claimN Is (x : Int) = (0, Is.set x false) := by unfold claimN; rw [if_neg (by omega), Int.toNat_natCast, if_pos hI]
      rw [e]
      have cD := leave_any x B pb la cl sa cs Is.length L w hP hH hxL
      have HM := mkHid hm
      clear hm hI
      go_enter Try.func47, Try.ntmps47
      go_wp2_with (first | (go_at_call 49; refine cM.mono ?_; rintro e w' ⟨rfl, rfl⟩) | (go_at_call 53; refine cH.mono ?_; rintro e w' ⟨rfl, rfl⟩) | (go_at_call 54; refine cF.mono ?_; rintro e w' ⟨rfl, rfl⟩) | (go_at_call 48; refine cD.mono ?_; rintro e w' ⟨rfl, L', h2, p2, H2, g2⟩))
      go_ret
      have hm := HM.out
      refine ⟨rfl, SpAt.same c0 hB hx (Is' := Is.set x false) (by rw [List.length_set]; exact h2) H2 (fun y => ?_) g2 (fun k hk => Or.inl hk)⟩
      rw [mem_perm_snoc hP.nd p2 y, hm y, set_get _ _ _ _ hxn]
      by_cases e : x = y
      · simp [e]
      · simp [e]
    · have hI : ¬ Is[x]? = some true := fun e => hxL ((hm x).2 e)
      rw [decide_eq_false hxL] at cF
      have e : claimN Is (x : Int) = (6, Is) := by unfold claimN; rw [if_neg (by omega), Int.toNat_natCast, if_neg hI]
      rw [e]
      go_enter Try.func47, Try.ntmps47
      go_wp2_with (first | (go_at_call 49; refine cM.mono ?_; rintro e w' ⟨rfl, rfl⟩) | (go_at_call 53; refine cH.mono ?_; rintro e w' ⟨rfl, rfl⟩) | (go_at_call 54; refine cF.mono ?_; rintro e w' ⟨rfl, rfl⟩))
      go_ret
      exact ⟨rfl, Step.refl h0⟩
  · rw [decide_eq_false hz] at cH
    have e : claimN Is z = (1, Is) := by unfold claimN; rw [if_pos (by omega)]
    rw [e]
    go_enter Try.func47, Try.ntmps47
    go_wp2_with (first | (go_at_call 49; refine cM.mono ?_; rintro e w' ⟨rfl, rfl⟩) | (go_at_call 53; refine cH.mono ?_; rintro e w' ⟨rfl, rfl⟩))
    go_ret
    exact ⟨rfl, Step.refl h0⟩
set_option maxRecDepth 20000 in
theorem change_give (z : Int) (B sb : Nat) (F : List Nat) (Is : List Bool) (w : World) (h : SpAt w B sb F Is) :
    Calls Try.prog 47 #[.pointer (some ⟨sb, 0, none⟩), .int .i64 z, .bool false, .int .i64 7, .func (.func 56) #[] #[]] w fun e w' => e = .returned (.int .i64 (giveN Is z).1) ∧ Step w w' B sb F (giveN Is z).2 := by
  have h0 := h
  obtain ⟨pb, la, cl, sa, cs, L, c0, hB, hP, hH, hm, hx, rfl⟩ := h.ex
  have cM := made_yes sb pb w c0
  have cH := has_any B pb la cl sa cs Is.length L w hP z
  by_cases hz : 0 ≤ z ∧ z < (Is.length : Int)
  · obtain ⟨x, rfl⟩ : ∃ x : Nat, z = (x : Int) := ⟨z.toNat, by omega⟩
    have hxn : x < Is.length := by omega
    rw [decide_eq_true hz] at cH
    have cF := isfree_any x B pb la cl sa cs Is.length L w hP hxn
    by_cases hxL : x ∈ L
    · have hI := (hm x).1 hxL
      rw [decide_eq_true hxL] at cF
      have e : giveN Is (x : Int) = (7, Is) := by unfold giveN; rw [if_neg (by omega), Int.toNat_natCast, if_pos hI]
      rw [e]
      go_enter Try.func47, Try.ntmps47
      go_wp2_with (first | (go_at_call 49; refine cM.mono ?_; rintro e w' ⟨rfl, rfl⟩) | (go_at_call 53; refine cH.mono ?_; rintro e w' ⟨rfl, rfl⟩) | (go_at_call 54; refine cF.mono ?_; rintro e w' ⟨rfl, rfl⟩))
      go_ret
      exact ⟨rfl, Step.refl h0⟩
    · have hI : ¬ Is[x]? = some true := fun e => hxL ((hm x).2 e)
      rw [decide_eq_false hxL] at cF
      have e : giveN Is (x : Int) = (0, Is.set x true) := by unfold giveN; rw [if_neg (by omega), Int.toNat_natCast, if_neg hI]
      rw [e]
      have cD := join_any x B pb la cl sa cs Is.length L w hP hH h.base hxn hxL
      have HM := mkHid hm
      clear hm hI
      go_enter Try.func47, Try.ntmps47
      go_wp2_with (first | (go_at_call 49; refine cM.mono ?_; rintro e w' ⟨rfl, rfl⟩) | (go_at_call 53; refine cH.mono ?_; rintro e w' ⟨rfl, rfl⟩) | (go_at_call 54; refine cF.mono ?_; rintro e w' ⟨rfl, rfl⟩) | (go_at_call 56; refine cD.mono ?_; rintro e w' ⟨rfl, la2, cl2, L', h2, p2, H2, g2, f2⟩))
      go_ret
      have hm := HM.out
      refine ⟨rfl, SpAt.same c0 hB hx (Is' := Is.set x true) (by rw [List.length_set]; exact h2) H2 (fun y => ?_) g2 f2⟩
      rw [p2.mem_iff, List.mem_append, List.mem_singleton, hm y, set_get _ _ _ _ hxn]
      by_cases e : x = y
      · simp [e]
      · rw [if_neg e]
        exact ⟨fun h9 => h9.resolve_right (fun h8 => e h8.symm), Or.inl⟩
  · rw [decide_eq_false hz] at cH
    have e : giveN Is z = (1, Is) := by unfold giveN; rw [if_pos (by omega)]
    rw [e]
    go_enter Try.func47, Try.ntmps47
    go_wp2_with (first | (go_at_call 49; refine cM.mono ?_; rintro e w' ⟨rfl, rfl⟩) | (go_at_call 53; refine cH.mono ?_; rintro e w' ⟨rfl, rfl⟩))
    go_ret
    exact ⟨rfl, Step.refl h0⟩
theorem claim_any (z : Int) (B sb : Nat) (F : List Nat) (Is : List Bool) (w : World) (h : SpAt w B sb F Is) :
    Calls Try.prog 31 #[.pointer (some ⟨sb, 0, none⟩), .int .i64 z] w fun e w' => e = .returned (.int .i64 (claimN Is z).1) ∧ Step w w' B sb F (claimN Is z).2 := by
  have cC := change_claim z B sb F Is w h
  generalize claimN Is z = r at *
  go_enter Try.func31, Try.ntmps31
  go_wp2_with (first | (go_at_call 47; refine cC.mono ?_; rintro e w' ⟨rfl, hs⟩))
  go_ret
  exact ⟨rfl, hs⟩
theorem give_any (z : Int) (B sb : Nat) (F : List Nat) (Is : List Bool) (w : World) (h : SpAt w B sb F Is) :
    Calls Try.prog 51 #[.pointer (some ⟨sb, 0, none⟩), .int .i64 z] w fun e w' => e = .returned (.int .i64 (giveN Is z).1) ∧ Step w w' B sb F (giveN Is z).2 := by
  have cC := change_give z B sb F Is w h
  generalize giveN Is z = r at *
  go_enter Try.func51, Try.ntmps51
  go_wp2_with (first | (go_at_call 47; refine cC.mono ?_; rintro e w' ⟨rfl, hs⟩))
  go_ret
  exact ⟨rfl, hs⟩
end Go.Proofs.Ytppjjlooocigdaa
