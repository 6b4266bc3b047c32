/- Texts Pf, Pg, Ph, Pi, Ua, Ub, Uc of the library, joined. -/
import Derived.Test.YtoeijomelabbfaaGreatDoorM03
import Derived.Test.YtoeijomelabbfaaGreatDoorM02
import Derived.Test.YtoeijomelabbfaaGreatDoorM17
/- A space in memory: its places as which are free; Claim, Give, Take, Free, and what is told of none. -/
namespace Go.Proofs.YtoeijomelabbfaaGreatDoor
set_option maxRecDepth 200000
open Go.RowKit
set_option linter.unusedVariables false
set_option linter.unusedSimpArgs false
attribute [local go_sem ↓] Go.wp_at_zero Go.wp_at_succ

section
variable (x : Nat) (B pb : Nat) (la : Option Addr) (cl : Nat) (sa : Option Addr) (cs n : Nat) (L : List Nat) (w : World) (h : PlAt w B pb la cl sa cs n L) (hH : HeapF L L.length)
include h hH
theorem leave_any (hx : x ∈ L) : Calls Tryz.prog 172 #[.pointer (some ⟨pb, 0, none⟩), .int .i64 (x : Int)] w fun e w' => e = .returned (.tuple #[]) ∧ ∃ L', PlAt w' B pb la cl sa cs n L' ∧ (L' ++ [x]).Perm L ∧ HeapF L' L'.length ∧ Chg (PF pb la cl sa cs) w w' := by
  have c1 := h.c1
  have hnn := h.nn
  have hxn := h.lt' x hx
  obtain ⟨S, hS, hok⟩ := h.s
  have hSl := hok.len
  obtain ⟨sb, so, rfl, hc⟩ := hS.reads (by rw [zvs_len]; omega)
  obtain ⟨k, hk, rfl⟩ := List.getElem_of_mem hx
  have ci := hc _ _ (zvs_get (hok.at_ k hk))
  have hR := hremove_any k B pb la cl _ cs n L w h hk hH
  clear hc
  generalize L[k] = x at *
  go_enter Tryz.func172, Tryz.ntmps172
  go_wp2_with (first | (go_at_call 197; refine hR.mono ?_; rintro e w2 ⟨v, rfl, L', h2, p2, H2, g2⟩))
  go_end0
  exact ⟨rfl, L', h2, p2, H2, g2⟩
theorem join_any (hB : B ≤ w.heap.size) (hx : x < n) (hxL : x ∉ L) : Calls Tryz.prog 180 #[.pointer (some ⟨pb, 0, none⟩), .int .i64 (x : Int)] w fun e w' => e = .returned (.tuple #[]) ∧ ∃ la' cl' L', PlAt w' B pb la' cl' sa cs n L' ∧ L'.Perm (L ++ [x]) ∧ HeapF L' L'.length ∧ Chg (PF pb la cl sa cs) w w' ∧ (∀ k, k ∈ fp la' cl' → k ∈ fp la cl ∨ w.heap.size ≤ k) := by
  go_enter Tryz.func180, Tryz.ntmps180
  go_wp2_with (first | (go_at_call 143; refine (hpush_anyF x B pb la cl sa cs n L w h hB hx hxL hH).mono ?_; rintro e w2 ⟨rfl, hpost⟩))
  go_end0
  exact ⟨rfl, hpost⟩
end
/-- The places that are free, rising. -/
def freeL (Is : List Bool) : List Nat := (List.range Is.length).filter (fun x => Is.getD x false)
theorem mem_freeL (Is : List Bool) (x : Nat) : x ∈ freeL Is ↔ Is[x]? = some true := by
  unfold freeL
  rw [List.mem_filter, List.mem_range]
  simp only [List.getD_eq_getElem?_getD]
  constructor
  · rintro ⟨h, e⟩
    rw [List.getElem?_eq_getElem h] at e ⊢
    simpa using e
  · intro e
    have h := (List.getElem?_eq_some_iff.1 e).1
    exact ⟨h, by rw [e]; rfl⟩
theorem freeL_lt (Is : List Bool) : (freeL Is).Pairwise (· < ·) := by
  unfold freeL
  exact List.Pairwise.filter _ List.pairwise_lt_range
theorem lt_nodup {L : List Nat} (h : L.Pairwise (· < ·)) : L.Nodup := h.imp (fun h e => by omega)
theorem set_get (Is : List Bool) (x : Nat) (b : Bool) (y : Nat) (hx : x < Is.length) : (Is.set x b)[y]? = some true ↔ (if x = y then b = true else Is[y]? = some true) := by
  by_cases e : x = y
  · subst e
    rw [List.getElem?_set_self hx, if_pos rfl]
    simp
  · rw [List.getElem?_set_ne e, if_neg e]
def claimN (Is : List Bool) (z : Int) : Int × List Bool := if z < 0 ∨ (Is.length : Int) ≤ z then (1, Is) else if Is[z.toNat]? = some true then (0, Is.set z.toNat false) else (6, Is)
def giveN (Is : List Bool) (z : Int) : Int × List Bool := if z < 0 ∨ (Is.length : Int) ≤ z then (1, Is) else if Is[z.toNat]? = some true then (7, Is) else (0, Is.set z.toNat true)
def takeNF (Is : List Bool) : Int × Int × List Bool := match freeL Is with
  | [] => (0, 8, Is)
  | x :: _ => ((x : Int), 0, Is.set x false)

/-- A space in block sb, its blocks F; Is: which of its places are free. -/
structure SpAt (w : World) (B sb : Nat) (F : List Nat) (Is : List Bool) : Prop where
  ex : ∃ pb la cl sa cs L, w.cell? ⟨sb, 0, none⟩ = some (.pointer (some ⟨pb, 0, none⟩)) ∧ B ≤ sb ∧ PlAt w B pb la cl sa cs Is.length L ∧ HeapF L L.length ∧ (∀ x, x ∈ L ↔ Is[x]? = some true) ∧ sb ∉ PF pb la cl sa cs ∧ F = sb :: PF pb la cl sa cs
theorem SpAt.lt {w : World} {B sb : Nat} {F : List Nat} {Is : List Bool} (h : SpAt w B sb F Is) : ∀ k, k ∈ F → B ≤ k ∧ k < w.heap.size := by
  obtain ⟨pb, la, cl, sa, cs, L, c0, hB, hP, hH, hm, hn, rfl⟩ := h.ex
  intro k hk
  rcases List.mem_cons.1 hk with rfl | hk
  · exact ⟨hB, block_lt_of_cell c0⟩
  · exact hP.lt k hk
theorem SpAt.chg {w w' : World} {B sb : Nat} {F : List Nat} {Is : List Bool} {S : List Nat} (h : SpAt w B sb F Is) (c : Chg S w w') (hn : ∀ k, k ∈ F → k ∉ S) : SpAt w' B sb F Is := by
  obtain ⟨pb, la, cl, sa, cs, L, c0, hB, hP, hH, hm, hx, rfl⟩ := h.ex
  exact ⟨pb, la, cl, sa, cs, L, c.cellv c0 (hn sb (by simp)), hB, hP.chg c (fun k hk => hn k (by simp [hk])), hH, hm, hx, rfl⟩
theorem SpAt.keep {w w' : World} {B sb : Nat} {F : List Nat} {Is : List Bool} (h : SpAt w B sb F Is) (c : Chg [] w w') : SpAt w' B sb F Is := h.chg c (by simp)
theorem SpAt.mono {w : World} {B B' sb : Nat} {F : List Nat} {Is : List Bool} (h : SpAt w B sb F Is) (hB : B' ≤ B) : SpAt w B' sb F Is := by
  obtain ⟨pb, la, cl, sa, cs, L, c0, h1, hP, hH, hm, hx, rfl⟩ := h.ex
  obtain ⟨S, hS, hok⟩ := hP.s
  exact ⟨pb, la, cl, sa, cs, L, c0, by omega, ⟨hP.c0, hP.f0, hP.c1, hP.r.mono hB, ⟨S, hS.mono hB, hok⟩, hP.nn, Nat.le_trans hB hP.pB, hP.d1, hP.d2, hP.d3⟩, hH, hm, hx, rfl⟩
theorem SpAt.base {w : World} {B sb : Nat} {F : List Nat} {Is : List Bool} (h : SpAt w B sb F Is) : B ≤ w.heap.size := by
  obtain ⟨pb, la, cl, sa, cs, L, c0, hB, _⟩ := h.ex
  have := block_lt_of_cell c0
  exact Nat.le_of_lt (Nat.lt_of_le_of_lt hB this)
/-- What a call has made of a space. -/
def Step (w w' : World) (B sb : Nat) (F : List Nat) (Is : List Bool) : Prop := ∃ F', SpAt w' B sb F' Is ∧ Chg F w w' ∧ ∀ k, k ∈ F' → k ∈ F ∨ w.heap.size ≤ k
theorem Step.refl {w : World} {B sb : Nat} {F : List Nat} {Is : List Bool} (h : SpAt w B sb F Is) : Step w w B sb F Is := ⟨F, h, Chg.refl _ _, fun _ h => Or.inl h⟩

theorem made_yesF (sb pb : Nat) (w : World) (c0 : w.cell? ⟨sb, 0, none⟩ = some (.pointer (some ⟨pb, 0, none⟩))) : Calls Tryz.prog 139 #[.pointer (some ⟨sb, 0, none⟩)] w fun e w' => e = .returned (.bool true) ∧ w = w' := by
  go_enter Tryz.func139, Tryz.ntmps139
  go_wp2
  go_ret
  exact ⟨rfl, rfl⟩
theorem mem_perm_snoc {L L' : List Nat} {x : Nat} (hnd : L.Nodup) (p : (L' ++ [x]).Perm L) (y : Nat) : y ∈ L' ↔ y ∈ L ∧ x ≠ y := by
  have h1 : (L' ++ [x]).Nodup := p.nodup_iff.2 hnd
  rw [List.nodup_append] at h1
  have h2 := p.mem_iff (a := y)
  simp at h2
  rw [← h2]
  constructor
  · intro h
    exact ⟨Or.inl h, fun e => h1.2.2 y h x (by simp) e.symm⟩
  · rintro ⟨h | h, h3⟩
    · exact h
    · exact absurd h.symm h3
theorem SpAt.same {w w' : World} {B sb pb : Nat} {la la' : Option Addr} {cl cl' : Nat} {sa : Option Addr} {cs : Nat} {L' : List Nat} {Is' : List Bool} (c0 : w.cell? ⟨sb, 0, none⟩ = some (.pointer (some ⟨pb, 0, none⟩))) (hB : B ≤ sb) (hx : sb ∉ PF pb la cl sa cs)
    (hP : PlAt w' B pb la' cl' sa cs Is'.length L') (hH : HeapF L' L'.length) (hm : ∀ x, x ∈ L' ↔ Is'[x]? = some true) (c : Chg (PF pb la cl sa cs) w w') (hf : ∀ k, k ∈ fp la' cl' → k ∈ fp la cl ∨ w.heap.size ≤ k) : Step w w' B sb (sb :: PF pb la cl sa cs) Is' := by
  have hsw : sb < w.heap.size := block_lt_of_cell c0
  refine ⟨sb :: PF pb la' cl' sa cs, ⟨pb, la', cl', sa, cs, L', c.cellv c0 hx, hB, hP, hH, hm, ?_, rfl⟩, c.mono (fun k hk _ => by simp [hk]), ?_⟩
  · intro hk
    simp only [PF, List.mem_cons, List.mem_append] at hk hx
    rcases hk with hk | hk | hk
    · exact hx (Or.inl hk)
    · rcases hf sb hk with h9 | h9
      · exact hx (Or.inr (Or.inl h9))
      · omega
    · exact hx (Or.inr (Or.inr hk))
  · intro k hk
    simp only [PF, List.mem_cons, List.mem_append] at hk ⊢
    rcases hk with hk | hk | hk | hk
    · exact Or.inl (Or.inl hk)
    · exact Or.inl (Or.inr (Or.inl hk))
    · rcases hf k hk with h9 | h9
      · exact Or.inl (Or.inr (Or.inr (Or.inl h9)))
      · exact Or.inr h9
    · exact Or.inl (Or.inr (Or.inr (Or.inr hk)))
set_option maxRecDepth 20000 in
theorem change_claim (z : Int) (B sb : Nat) (F : List Nat) (Is : List Bool) (w : World) (h : SpAt w B sb F Is) :
    Calls Tryz.prog 171 #[.pointer (some ⟨sb, 0, none⟩), .int .i64 z, .bool true, .int .i64 6, .func (.func 172) #[] #[]] w fun e w' => e = .returned (.int .i64 (claimN Is z).1) ∧ Step w w' B sb F (claimN Is z).2 := by
  have h0 := h
  obtain ⟨pb, la, cl, sa, cs, L, c0, hB, hP, hH, hm, hx, rfl⟩ := h.ex
  have cM := made_yesF sb pb w c0
  have cH := has_any B pb la cl sa cs Is.length L w hP z
  by_cases hz : 0 ≤ z ∧ z < (Is.length : Int)
  · obtain ⟨x, rfl⟩ : ∃ x : Nat, z = (x : Int) := ⟨z.toNat, by omega⟩
    have hxn : x < Is.length := by omega
    rw [decide_eq_true hz] at cH
    have cF := isfree_any x B pb la cl sa cs Is.length L w hP hxn
    by_cases hxL : x ∈ L
    · have hI := (hm x).1 hxL
      rw [decide_eq_true hxL] at cF
      have e : claimN Is (x : Int) = (0, Is.set x false) := by unfold claimN; rw [if_neg (by omega), Int.toNat_natCast, if_pos hI]
      rw [e]
      have cD := leave_any x B pb la cl sa cs Is.length L w hP hH hxL
      have HM := mkHid hm
      clear hm hI
      go_enter Tryz.func171, Tryz.ntmps171
      go_wp2_with (first | (go_at_call 139; refine cM.mono ?_; rintro e w' ⟨rfl, rfl⟩) | (go_at_call 195; refine cH.mono ?_; rintro e w' ⟨rfl, rfl⟩) | (go_at_call 196; refine cF.mono ?_; rintro e w' ⟨rfl, rfl⟩) | (go_at_call 172; refine cD.mono ?_; rintro e w' ⟨rfl, L', h2, p2, H2, g2⟩))
      go_ret
      have hm := HM.out
      refine ⟨rfl, SpAt.same c0 hB hx (Is' := Is.set x false) (by rw [List.length_set]; exact h2) H2 (fun y => ?_) g2 (fun k hk => Or.inl hk)⟩
      rw [mem_perm_snoc hP.nd p2 y, hm y, set_get _ _ _ _ hxn]
      by_cases e : x = y
      · simp [e]
      · simp [e]
    · have hI : ¬ Is[x]? = some true := fun e => hxL ((hm x).2 e)
      rw [decide_eq_false hxL] at cF
      have e : claimN Is (x : Int) = (6, Is) := by unfold claimN; rw [if_neg (by omega), Int.toNat_natCast, if_neg hI]
      rw [e]
      go_enter Tryz.func171, Tryz.ntmps171
      go_wp2_with (first | (go_at_call 139; refine cM.mono ?_; rintro e w' ⟨rfl, rfl⟩) | (go_at_call 195; refine cH.mono ?_; rintro e w' ⟨rfl, rfl⟩) | (go_at_call 196; refine cF.mono ?_; rintro e w' ⟨rfl, rfl⟩))
      go_ret
      exact ⟨rfl, Step.refl h0⟩
  · rw [decide_eq_false hz] at cH
    have e : claimN Is z = (1, Is) := by unfold claimN; rw [if_pos (by omega)]
    rw [e]
    go_enter Tryz.func171, Tryz.ntmps171
    go_wp2_with (first | (go_at_call 139; refine cM.mono ?_; rintro e w' ⟨rfl, rfl⟩) | (go_at_call 195; refine cH.mono ?_; rintro e w' ⟨rfl, rfl⟩))
    go_ret
    exact ⟨rfl, Step.refl h0⟩
set_option maxRecDepth 20000 in
theorem change_give (z : Int) (B sb : Nat) (F : List Nat) (Is : List Bool) (w : World) (h : SpAt w B sb F Is) :
    Calls Tryz.prog 171 #[.pointer (some ⟨sb, 0, none⟩), .int .i64 z, .bool false, .int .i64 7, .func (.func 180) #[] #[]] w fun e w' => e = .returned (.int .i64 (giveN Is z).1) ∧ Step w w' B sb F (giveN Is z).2 := by
  have h0 := h
  obtain ⟨pb, la, cl, sa, cs, L, c0, hB, hP, hH, hm, hx, rfl⟩ := h.ex
  have cM := made_yesF sb pb w c0
  have cH := has_any B pb la cl sa cs Is.length L w hP z
  by_cases hz : 0 ≤ z ∧ z < (Is.length : Int)
  · obtain ⟨x, rfl⟩ : ∃ x : Nat, z = (x : Int) := ⟨z.toNat, by omega⟩
    have hxn : x < Is.length := by omega
    rw [decide_eq_true hz] at cH
    have cF := isfree_any x B pb la cl sa cs Is.length L w hP hxn
    by_cases hxL : x ∈ L
    · have hI := (hm x).1 hxL
      rw [decide_eq_true hxL] at cF
      have e : giveN Is (x : Int) = (7, Is) := by unfold giveN; rw [if_neg (by omega), Int.toNat_natCast, if_pos hI]
      rw [e]
      go_enter Tryz.func171, Tryz.ntmps171
      go_wp2_with (first | (go_at_call 139; refine cM.mono ?_; rintro e w' ⟨rfl, rfl⟩) | (go_at_call 195; refine cH.mono ?_; rintro e w' ⟨rfl, rfl⟩) | (go_at_call 196; refine cF.mono ?_; rintro e w' ⟨rfl, rfl⟩))
      go_ret
      exact ⟨rfl, Step.refl h0⟩
    · have hI : ¬ Is[x]? = some true := fun e => hxL ((hm x).2 e)
      rw [decide_eq_false hxL] at cF
      have e : giveN Is (x : Int) = (0, Is.set x true) := by unfold giveN; rw [if_neg (by omega), Int.toNat_natCast, if_neg hI]
      rw [e]
      have cD := join_any x B pb la cl sa cs Is.length L w hP hH h.base hxn hxL
      have HM := mkHid hm
      clear hm hI
      go_enter Tryz.func171, Tryz.ntmps171
      go_wp2_with (first | (go_at_call 139; refine cM.mono ?_; rintro e w' ⟨rfl, rfl⟩) | (go_at_call 195; refine cH.mono ?_; rintro e w' ⟨rfl, rfl⟩) | (go_at_call 196; refine cF.mono ?_; rintro e w' ⟨rfl, rfl⟩) | (go_at_call 180; refine cD.mono ?_; rintro e w' ⟨rfl, la2, cl2, L', h2, p2, H2, g2, f2⟩))
      go_ret
      have hm := HM.out
      refine ⟨rfl, SpAt.same c0 hB hx (Is' := Is.set x true) (by rw [List.length_set]; exact h2) H2 (fun y => ?_) g2 f2⟩
      rw [p2.mem_iff, List.mem_append, List.mem_singleton, hm y, set_get _ _ _ _ hxn]
      by_cases e : x = y
      · simp [e]
      · rw [if_neg e]
        exact ⟨fun h9 => h9.resolve_right (fun h8 => e h8.symm), Or.inl⟩
  · rw [decide_eq_false hz] at cH
    have e : giveN Is z = (1, Is) := by unfold giveN; rw [if_pos (by omega)]
    rw [e]
    go_enter Tryz.func171, Tryz.ntmps171
    go_wp2_with (first | (go_at_call 139; refine cM.mono ?_; rintro e w' ⟨rfl, rfl⟩) | (go_at_call 195; refine cH.mono ?_; rintro e w' ⟨rfl, rfl⟩))
    go_ret
    exact ⟨rfl, Step.refl h0⟩
theorem claim_any (z : Int) (B sb : Nat) (F : List Nat) (Is : List Bool) (w : World) (h : SpAt w B sb F Is) :
    Calls Tryz.prog 134 #[.pointer (some ⟨sb, 0, none⟩), .int .i64 z] w fun e w' => e = .returned (.int .i64 (claimN Is z).1) ∧ Step w w' B sb F (claimN Is z).2 := by
  have cC := change_claim z B sb F Is w h
  generalize claimN Is z = r at *
  go_enter Tryz.func134, Tryz.ntmps134
  go_wp2_with (first | (go_at_call 171; refine cC.mono ?_; rintro e w' ⟨rfl, hs⟩))
  go_ret
  exact ⟨rfl, hs⟩
theorem give_any (z : Int) (B sb : Nat) (F : List Nat) (Is : List Bool) (w : World) (h : SpAt w B sb F Is) :
    Calls Tryz.prog 148 #[.pointer (some ⟨sb, 0, none⟩), .int .i64 z] w fun e w' => e = .returned (.int .i64 (giveN Is z).1) ∧ Step w w' B sb F (giveN Is z).2 := by
  have cC := change_give z B sb F Is w h
  generalize giveN Is z = r at *
  go_enter Tryz.func148, Tryz.ntmps148
  go_wp2_with (first | (go_at_call 171; refine cC.mono ?_; rintro e w' ⟨rfl, hs⟩))
  go_ret
  exact ⟨rfl, hs⟩
end Go.Proofs.YtoeijomelabbfaaGreatDoor

/- A space: Take, Free; a space that no call made; New. -/
namespace Go.Proofs.YtoeijomelabbfaaGreatDoor
set_option maxRecDepth 200000
open Go.RowKit
set_option linter.unusedVariables false
set_option linter.unusedSimpArgs false
attribute [local go_sem ↓] Go.wp_at_zero Go.wp_at_succ

theorem line_perm {L : List Nat} {Is : List Bool} (hnd : L.Nodup) (hm : ∀ x, x ∈ L ↔ Is[x]? = some true) : L.Perm (freeL Is) :=
  (List.perm_ext_iff_of_nodup hnd (lt_nodup (freeL_lt Is))).2 fun x => by rw [hm, mem_freeL]
theorem line_top {L : List Nat} {Is : List Bool} {x : Nat} {r : List Nat} (hnd : L.Nodup) (hm : ∀ x, x ∈ L ↔ Is[x]? = some true) (hH : HeapF L L.length) (hf : freeL Is = x :: r) : ∃ h : 0 < L.length, L[0] = x := by
  have p := line_perm hnd hm
  rw [hf] at p
  have hl := p.length_eq
  simp at hl
  refine ⟨by omega, ?_⟩
  have hx : x ∈ L := p.mem_iff.2 (by simp)
  obtain ⟨k, hk, e⟩ := List.getElem_of_mem hx
  have h1 := heap_topF hH k hk
  rw [key_ltF (by omega), key_ltF hk, e] at h1
  have h2 := p.mem_iff.1 (List.getElem_mem (l := L) (n := 0) (by omega))
  have hs := freeL_lt Is
  rw [hf, List.pairwise_cons] at hs
  rcases List.mem_cons.1 h2 with h2 | h2
  · exact h2
  · have := hs.1 _ h2
    omega
set_option maxRecDepth 20000 in
theorem take_any (B sb : Nat) (F : List Nat) (Is : List Bool) (w : World) (h : SpAt w B sb F Is) :
    Calls Tryz.prog 75 #[.pointer (some ⟨sb, 0, none⟩)] w fun e w' => e = .returned (.tuple #[.int .i64 (takeNF Is).1, .int .i64 (takeNF Is).2.1]) ∧ Step w w' B sb F (takeNF Is).2.2 := by
  have h0 := h
  obtain ⟨pb, la, cl, sa, cs, L, c0, hB, hP, hH, hm, hx, hF⟩ := h.ex
  have cM := made_yesF sb pb w c0
  have cL := len_anyF B pb la cl sa cs Is.length L w hP
  have p := line_perm hP.nd hm
  unfold takeNF
  cases hf : freeL Is with
  | nil =>
    rw [hf] at p
    have hl : L.length = 0 := by simpa using p.length_eq
    rw [hl] at cL
    clear hm hP hH p hf
    go_enter Tryz.func75, Tryz.ntmps75
    go_wp2_with (first | (go_at_call 139; refine cM.mono ?_; rintro e w' ⟨rfl, rfl⟩) | (go_at_call 140; refine cL.mono ?_; rintro e w' ⟨rfl, rfl⟩))
    go_ret2
    exact ⟨rfl, Step.refl h0⟩
  | cons x r =>
    obtain ⟨hl, hx0⟩ := line_top hP.nd hm hH hf
    have hle := hP.le
    have hnn := hP.nn
    have hI := (mem_freeL Is x).1 (by rw [hf]; simp)
    have hxn := (List.getElem?_eq_some_iff.1 hI).1
    have cC := claim_any (x : Int) B sb F Is w h0
    have e : claimN Is (x : Int) = (0, Is.set x false) := by unfold claimN; rw [if_neg (by omega), Int.toNat_natCast, if_pos hI]
    rw [e] at cC
    have cp := hP.c0
    have hR := hP.r.reads
    obtain ⟨lb, lo, rfl, hc⟩ := hR (by rw [ivs_len]; exact hl)
    have ci := hc 0 _ (ivs_get hl)
    rw [hx0, Nat.add_zero] at ci
    have hl2 : ((L.length : Int) == 0) = false := beq_eq_false_iff_ne.2 (by omega)
    have hl3 : (L.length == 0) = false := beq_eq_false_iff_ne.2 (by omega)
    have hl4 : decide (0 < L.length) = true := decide_eq_true hl
    clear hc hR hm hH p hx0 hf
    go_enter Tryz.func75, Tryz.ntmps75
    go_wp2_with (first | (go_at_call 139; refine cM.mono ?_; rintro e w' ⟨rfl, rfl⟩) | (go_at_call 140; refine cL.mono ?_; rintro e w' ⟨rfl, rfl⟩) | (go_at_call 134; refine cC.mono ?_; rintro e w' ⟨rfl, hs⟩))
    go_ret2
    exact ⟨rfl, hs⟩
theorem free_any (B sb : Nat) (F : List Nat) (Is : List Bool) (w : World) (h : SpAt w B sb F Is) :
    Calls Tryz.prog 156 #[.pointer (some ⟨sb, 0, none⟩)] w fun e w' => e = .returned (.int .i64 (freeL Is).length) ∧ w = w' := by
  obtain ⟨pb, la, cl, sa, cs, L, c0, hB, hP, hH, hm, hx, hF⟩ := h.ex
  have cM := made_yesF sb pb w c0
  have cL := len_anyF B pb la cl sa cs Is.length L w hP
  rw [(line_perm hP.nd hm).length_eq] at cL
  clear hm hP hH
  go_enter Tryz.func156, Tryz.ntmps156
  go_wp2_with (first | (go_at_call 139; refine cM.mono ?_; rintro e w' ⟨rfl, rfl⟩) | (go_at_call 140; refine cL.mono ?_; rintro e w' ⟨rfl, rfl⟩))
  go_ret
  exact ⟨rfl, rfl⟩

/-! ### none, and one that no call made -/
section
variable (v : Value) (w : World) (hm : Calls Tryz.prog 139 #[v] w fun e w' => e = .returned (.bool false) ∧ w = w')
include hm
end
end Go.Proofs.YtoeijomelabbfaaGreatDoor

/- A space: New, Copy. -/
namespace Go.Proofs.YtoeijomelabbfaaGreatDoor
set_option maxRecDepth 200000
open Go.RowKit
set_option linter.unusedVariables false
set_option linter.unusedSimpArgs false
attribute [local go_sem ↓] Go.wp_at_zero Go.wp_at_succ

theorem spots_range (n : Nat) : SpotsOk n (List.range n) ((List.range n).map (fun x : Nat => (x : Int))) := by
  refine ⟨by simp, fun k hk => ?_, fun x hx hn => absurd (List.mem_range.2 hx) hn⟩
  have hk' : k < n := by simpa using hk
  simp [hk']
theorem heap_range (n : Nat) : HeapF (List.range n) n := by
  intro k k0 kn
  rw [key_ltF (by simp; omega), key_ltF (by simp; omega), List.getElem_range, List.getElem_range]
  omega
theorem all_ints {n : Nat} {xs : List Value} (hl : xs.length = n) (h : ∀ j, j < n → xs[j]? = some (.int .i64 (j : Int))) : xs = ivs (List.range n) := by
  apply List.ext_getElem? 
  intro j
  by_cases hj : j < n
  · rw [h j hj, ivs_get (by simpa using hj), List.getElem_range]
  · rw [List.getElem?_eq_none (by omega), List.getElem?_eq_none (by rw [ivs_len]; simp; omega)]
/-- Two rows that were just made, and a struct of two slices. -/
theorem two_rows (n : Nat) (hn : n ≤ 1024) (w : World) (v0 v1 : Value) (t : TypeId) : 
    let w3 := (((w.alloc (.cells (madeCells #[.int .i64 0] n) 3)).alloc (.cells (madeCells #[.int .i64 0] n) 3)).alloc (.cells #[v0, v1] t)).drew
    Chg [] w w3 ∧ Room w3 w.heap.size (some ⟨w.heap.size, 0, none⟩) n n (List.replicate n (.int .i64 0)) ∧ Room w3 w.heap.size (some ⟨w.heap.size + 1, 0, none⟩) n n (List.replicate n (.int .i64 0)) ∧
      w3.cell? ⟨w.heap.size + 1 + 1, 0, none⟩ = some v0 ∧ w3.cell? ⟨w.heap.size + 1 + 1, 1, none⟩ = some v1 ∧ w3.frozen? ⟨w.heap.size + 1 + 1, 0, none⟩ = false := by
  intro w3
  have ra := made_room w 3 (.int .i64 0) n (by unfold maxLen; omega)
  have rb := made_room (w.alloc (.cells (madeCells #[.int .i64 0] n) 3)) 3 (.int .i64 0) n (by unfold maxLen; omega)
  have z1 : (w.alloc (.cells (madeCells #[.int .i64 0] n) 3)).heap.size = w.heap.size + 1 := by simp
  have g1 := Chg.alloc [] w (.cells (madeCells #[.int .i64 0] n) 3)
  show Chg [] w (((w.alloc (.cells (madeCells #[.int .i64 0] n) 3)).alloc (.cells (madeCells #[.int .i64 0] n) 3)).alloc (.cells #[v0, v1] t)).drew ∧ _
  unfold w3
  clear w3
  generalize w.alloc (.cells (madeCells #[.int .i64 0] n) 3) = w1 at *
  have g2 := Chg.alloc [] w1 (.cells (madeCells #[.int .i64 0] n) 3)
  have ra2 := ra.chg g2 (by simp)
  have z2 : (w1.alloc (.cells (madeCells #[.int .i64 0] n) 3)).heap.size = w.heap.size + 1 + 1 := by simp; omega
  generalize w1.alloc (.cells (madeCells #[.int .i64 0] n) 3) = w2 at *
  rw [z1] at rb
  have hg := (Chg.alloc [] w2 (.cells #[v0, v1] t)).then (Chg.drew [] _)
  have hcl := fun j => cell_of_row (w2.alloc (.cells #[v0, v1] t)).drew w2.heap.size j _ _ _ (heap_alloc_last w2 _)
  have hfz := fun j => frozen_of_row (w2.alloc (.cells #[v0, v1] t)).drew w2.heap.size j _ _ (heap_alloc_last w2 _)
  rw [z2] at hcl hfz
  exact ⟨(g1.then g2).then hg, ra2.chg hg (by simp), (rb.mono (by omega)).chg hg (by simp), hcl 0, hcl 1, hfz 0⟩
set_option maxRecDepth 20000 in
theorem all_any (n : Nat) (hn : n ≤ 1024) (w : World) : Calls Tryz.prog 170 #[.int .i64 n] w fun e w' => ∃ pb la sa, e = .returned (.pointer (some ⟨pb, 0, none⟩)) ∧ PlAt w' w.heap.size pb la n sa n n (List.range n) ∧ Chg [] w w' := by
  have hm2 : ∀ u : World, (Instr.makeSlice 81 (.int .i64 (n : Int)) (.int .i64 (n : Int))).run Tryz.prog u = .ok (.slice (some ⟨u.heap.size, 0, none⟩) n n) (u.alloc (.cells (madeCells #[.int .i64 0] n) 3)) := fun u =>
    run_make_k eltNF (.int .i64 0) (by kernel_rfl) rfl n (by omega) (by unfold maxLen; omega) u
  go_enter Tryz.func170, Tryz.ntmps170
  go_upto_region 1 with fail
  go_cut [3] (fun v wx => ∃ pb lb sb, v = .pointer (some ⟨pb, 0, none⟩) ∧ Chg [] w wx ∧ w.heap.size ≤ pb ∧ w.heap.size ≤ lb ∧ w.heap.size ≤ sb ∧ pb ≠ lb ∧ pb ≠ sb ∧ lb ≠ sb ∧ wx.cell? ⟨pb, 0, none⟩ = some (.slice (some ⟨lb, 0, none⟩) n n) ∧ wx.frozen? ⟨pb, 0, none⟩ = false ∧ wx.cell? ⟨pb, 1, none⟩ = some (.slice (some ⟨sb, 0, none⟩) n n)
    ∧ Room wx w.heap.size (some ⟨lb, 0, none⟩) n n (List.replicate n (.int .i64 0)) ∧ Room wx w.heap.size (some ⟨sb, 0, none⟩) n n (List.replicate n (.int .i64 0)))
  case first =>
    have h1 := two_rows n hn w (.slice (some ⟨w.heap.size, 0, none⟩) n n) (.slice (some ⟨w.heap.size + 1, 0, none⟩) n n) 189
    have h2 := two_rows n hn w (.slice (some ⟨w.heap.size + 1, 0, none⟩) n n) (.slice (some ⟨w.heap.size, 0, none⟩) n n) 189
    have H1 := mkHid h1
    have H2 := mkHid h2
    clear h1 h2
    go_region
    all_goals
      go_wp2_with fail
      go_meet
      obtain ⟨a1, a2, a3, a4, a5, a6⟩ := H1.out
      obtain ⟨b1, b2, b3, b4, b5, b6⟩ := H2.out
      first
      | exact ⟨_, _, _, rfl, a1, by omega, by omega, by omega, by omega, by omega, by omega, a4, a6, a5, a2, a3⟩
      | exact ⟨_, _, _, rfl, b1, by omega, by omega, by omega, by omega, by omega, by omega, b4, b6, b5, b3, b2⟩
  case rest =>
    obtain ⟨pb, lb, sb, rfl, gx, hp, hl, hs, n1, n2, n3, c0, f0, c1, rl, rs⟩ := hcut
    go_wp2_with fail
    go_loopw [12] (fun v wr => ∃ (k : Nat) (xs ys : List Value), v = .int .i64 k ∧ k ≤ n ∧ Room wr w.heap.size (some ⟨lb, 0, none⟩) n n xs ∧ Room wr w.heap.size (some ⟨sb, 0, none⟩) n n ys ∧ (∀ j, j < k → xs[j]? = some (.int .i64 (j : Int))) ∧ (∀ j, j < k → ys[j]? = some (.int .i64 (j : Int))) ∧ Chg [lb, sb] wc wr) (fun v _ => n - (Go.RowKit.intOf v).toNat)
    case atStart => exact ⟨0, _, _, rfl, Nat.zero_le _, rl, rs, fun j hj => by omega, fun j hj => by omega, Chg.refl _ _⟩
    case round =>
      obtain ⟨k, xs, ys, rfl, hk, hx, hy, ex, ey, hg⟩ := hrel
      have c0r := hg.cellv c0 (by simp; exact ⟨n1, n2⟩)
      have f0r := (hg.frozen (p := ⟨pb, 0, none⟩) (block_lt_of_cell c0) (by simp; exact ⟨n1, n2⟩)).trans f0
      have c1r := hg.cellv c1 (by simp; exact ⟨n1, n2⟩)
      by_cases hlt : k < n
      · obtain ⟨b1, o1, e1, _, q1, _⟩ := hx.at_ (by omega)
        cases e1
        obtain ⟨b2, o2, e2, _, q2, _⟩ := hy.at_ (by omega)
        cases e2
        obtain ⟨t1, fz1⟩ := q1 k hlt
        obtain ⟨t2, fz2⟩ := q2 k hlt
        obtain ⟨v1, t1⟩ := Option.isSome_iff_exists.1 t1
        obtain ⟨v2, t2⟩ := Option.isSome_iff_exists.1 t2
        rw [Nat.zero_add] at t1 t2 fz1 fz2
        have HX := mkHid ex
        have HY := mkHid ey
        clear q1 q2 ex ey
        have t2' := (Chg.setCell wr ⟨lb, k, none⟩ (.int .i64 (k : Int))).cellv t2 (by simpa using fun e => n3 e.symm)
        go_wp2_with fail
        go_region
        go_wp2_with fail
        have hl1 := hx.len
        have hl2 := hy.len
        have x1 := hx.set k hlt (.int .i64 (k : Int))
        have y1 := hy.chg (Chg.setCell wr ⟨lb, k, none⟩ (.int .i64 (k : Int))) (by rw [fp_some _ _ _ (by omega)]; simpa using fun e => n3 e.symm)
        have y2 := y1.set k hlt (.int .i64 (k : Int))
        rw [Nat.zero_add] at x1 y2
        have x2 := x1.chg (Chg.setCell _ ⟨sb, k, none⟩ (.int .i64 (k : Int))) (by rw [fp_some _ _ _ (by omega)]; simpa using n3)
        refine ⟨⟨k + 1, _, _, by first | rfl | go_num, by omega, x2.chg (Chg.drew [] _) (by simp), y2.chg (Chg.drew [] _) (by simp), fun j hj => ?_, fun j hj => ?_, ((hg.trans (Chg.setCell wr ⟨lb, k, none⟩ _) (fun _ h _ => h) (fun k hk _ => by simp at hk; simp [hk])).trans (Chg.setCell _ ⟨sb, k, none⟩ _) (fun _ h _ => h) (fun k hk _ => by simp at hk; simp [hk])).then (Chg.drew [] _)⟩, by simp [Go.RowKit.intOf]; omega⟩
        · by_cases e : j = k
          · subst e; rw [List.getElem?_set_self (by omega)]
          · rw [List.getElem?_set_ne (fun h => e h.symm)]; exact HX.out j (by omega)
        · by_cases e : j = k
          · subst e; rw [List.getElem?_set_self (by omega)]
          · rw [List.getElem?_set_ne (fun h => e h.symm)]; exact HY.out j (by omega)
      · have hkn : k = n := by omega
        subst hkn
        have hd : decide (k < k) = false := by simp
        have e1 := all_ints hx.len ex
        have e2 := all_ints hy.len ey
        subst e1 e2
        have hlast : Room wr w.heap.size (some ⟨sb, 0, none⟩) k k (zvs ((List.range k).map (fun x : Nat => (x : Int)))) := by
          have : zvs ((List.range k).map (fun x : Nat => (x : Int))) = ivs (List.range k) := by simp [zvs, ivs]
          rw [this]; exact hy
        have HX := mkHid ex
        have HY := mkHid ey
        clear ex ey
        go_wp2_with fail
        go_ret
        refine ⟨pb, some ⟨lb, 0, none⟩, some ⟨sb, 0, none⟩, rfl, ⟨?_, f0r, c1r, ?_, ⟨_, hlast, spots_range k⟩, hn, hp, ?_, ?_, ?_⟩, gx.trans hg (by simp) (fun q hq hlt2 => by simp at hq; omega)⟩
        · rw [List.length_range]; exact c0r
        · rw [List.length_range]; exact hx
        · intro hm; unfold fp at hm; split at hm <;> simp [blk] at hm; exact n1 hm
        · intro hm; unfold fp at hm; split at hm <;> simp [blk] at hm; exact n2 hm
        · intro q hq hm; unfold fp at hq hm; split at hq <;> simp [blk] at hq hm; exact n3 (hq.symm.trans hm.2)
end Go.Proofs.YtoeijomelabbfaaGreatDoor

/- A space: New, Copy. -/
namespace Go.Proofs.YtoeijomelabbfaaGreatDoor
set_option maxRecDepth 200000
open Go.RowKit
set_option linter.unusedVariables false
set_option linter.unusedSimpArgs false
attribute [local go_sem ↓] Go.wp_at_zero Go.wp_at_succ

/-- A space around places. -/
theorem space_close {w : World} {B pb : Nat} {la : Option Addr} {cl : Nat} {sa : Option Addr} {cs n : Nat} {L : List Nat} {Is : List Bool} {t : TypeId} (hB : B ≤ w.heap.size) (hP : PlAt w B pb la cl sa cs n L) (hH : HeapF L L.length) (hn : Is.length = n) (hm : ∀ x, x ∈ L ↔ Is[x]? = some true) :
    ∃ F, SpAt (w.alloc (.cells #[.pointer (some ⟨pb, 0, none⟩)] t)) B w.heap.size F Is ∧ Chg [] w (w.alloc (.cells #[.pointer (some ⟨pb, 0, none⟩)] t)) := by
  subst hn
  have g := Chg.alloc [] w (.cells #[.pointer (some ⟨pb, 0, none⟩)] t)
  refine ⟨_, ⟨pb, la, cl, sa, cs, L, ?_, hB, hP.keep g, hH, hm, fun hk => ?_, rfl⟩, g⟩
  · exact cell_of_row _ _ _ _ _ _ (heap_alloc_last w _)
  · have := (hP.lt _ hk).2; omega
theorem new_yes (n : Nat) (hn : n ≤ 1024) (w : World) : Calls Tryz.prog 133 #[.int .i64 n] w fun e w' => ∃ sb F, e = .returned (.tuple #[.pointer (some ⟨sb, 0, none⟩), .int .i64 0]) ∧ SpAt w' w.heap.size sb F (List.replicate n true) ∧ Chg [] w w' := by
  have d1 : decide ((n : Int) < 0) = false := decide_eq_false (by omega)
  have d2 : decide ((n : Int) > 1024) = false := decide_eq_false (by omega)
  have d3 : decide ((1024 : Int) < (n : Int)) = false := decide_eq_false (by omega)
  go_enter Tryz.func133, Tryz.ntmps133
  go_wp2_with (first | (go_at_call 170; refine (all_any n hn w).mono ?_; rintro e w1 ⟨pb, la, sa, rfl, hP, hg⟩))
  go_ret2
  obtain ⟨F, hS, h2⟩ := space_close (t := 187) (Is := List.replicate n true) hg.size hP (by rw [List.length_range]; exact heap_range n) (by simp) (fun x => by
    rw [List.mem_range, List.getElem?_replicate]
    by_cases h : x < n
    · simp [h]
    · simp [h])
  exact ⟨_, F, rfl, hS, hg.then h2⟩
end Go.Proofs.YtoeijomelabbfaaGreatDoor

/- Refs in memory: the counts, those of the commit, the space; the calls that only read. -/


namespace Go.Proofs.YtoeijomelabbfaaGreatDoor
set_option maxRecDepth 200000
open Go.RowKit
set_option linter.unusedVariables false
set_option linter.unusedSimpArgs false
attribute [local go_sem ↓] Go.wp_at_zero Go.wp_at_succ

/-- Which blocks are free: those whose count is 0, and that of the commit, too. -/
def freeI (N C : List UInt8) : List Bool := List.zipWith (fun a b => a == 0 && b == 0) N C
theorem freeI_len {N C : List UInt8} {n : Nat} (h : N.length = n) (g : C.length = n) : (freeI N C).length = n := by simp [freeI, h, g]
theorem freeI_get {N C : List UInt8} {j : Nat} {a b : UInt8} (h : N[j]? = some a) (g : C[j]? = some b) : (freeI N C)[j]? = some (a == 0 && b == 0) := by
  simp [freeI, List.getElem?_zipWith, h, g]
theorem freeI_true {N C : List UInt8} {j : Nat} : (freeI N C)[j]? = some true ↔ N[j]? = some 0 ∧ C[j]? = some 0 := by
  unfold freeI
  rw [List.getElem?_zipWith]
  cases hN : N[j]? with
  | none => simp
  | some a => cases hC : C[j]? with
    | none => simp
    | some b => simp
theorem freeI_comm (N C : List UInt8) : freeI N C = freeI C N := by
  unfold freeI
  rw [List.zipWith_comm]
  congr 1
  funext a b
  rw [Bool.and_comm]
theorem freeI_set {N C : List UInt8} {j : Nat} {a b : UInt8} (hN : N[j]? = some a) (hC : C[j]? = some b) (v : UInt8) : freeI (N.set j v) C = (freeI N C).set j (v == 0 && b == 0) := by
  have h1 := (List.getElem?_eq_some_iff.1 hN).1
  have h2 := (List.getElem?_eq_some_iff.1 hC).1
  apply List.ext_getElem?
  intro i
  by_cases e : i = j
  · subst e
    rw [List.getElem?_set_self (by simp [freeI]; omega)]
    exact freeI_get (List.getElem?_set_self h1) hC
  · rw [List.getElem?_set_ne (fun h => e h.symm)]
    unfold freeI
    rw [List.getElem?_zipWith, List.getElem?_zipWith, List.getElem?_set_ne (fun h => e h.symm)]

/-! ### what the calls do to the counts -/
def allocN (N C : List UInt8) : Int × Int × List UInt8 := match freeL (freeI N C) with
  | [] => (0, 8, N)
  | x :: _ => ((x : Int), 0, N.set x 1)
theorem u8_nat {a : UInt8} {m : Nat} (h : a.toNat = m) (b : UInt8) : (a = b) ↔ m = b.toNat := by
  rw [← h]; exact ⟨fun e => by rw [e], fun e => UInt8.toNat_inj.1 e⟩
theorem take_alloc {N C : List UInt8} (h : C.length = N.length) : takeNF (freeI N C) = ((allocN N C).1, (allocN N C).2.1, freeI (allocN N C).2.2 C) := by
  unfold takeNF allocN
  cases hf : freeL (freeI N C) with
  | nil => rfl
  | cons x r =>
    have hx := (mem_freeL _ x).1 (by rw [hf]; simp)
    obtain ⟨h1, h2⟩ := freeI_true.1 hx
    show ((x : Int), 0, (freeI N C).set x false) = ((x : Int), 0, freeI (N.set x 1) C)
    rw [freeI_set h1 h2]
    rfl

/-- Refs in block rb: the counts in block nb, those of the commit in block cb, the space in block sb, its blocks Fs. -/
structure RfsAt (w : World) (B rb nb cb sb : Nat) (Fs : List Nat) (n : Nat) (N C : List UInt8) : Prop where
  c0 : w.cell? ⟨rb, 0, none⟩ = some (.slice (some ⟨nb, 0, none⟩) n n)
  c1 : w.cell? ⟨rb, 1, none⟩ = some (.slice (some ⟨cb, 0, none⟩) n n)
  c2 : w.cell? ⟨rb, 2, none⟩ = some (.pointer (some ⟨sb, 0, none⟩))
  fz : ∀ j, w.frozen? ⟨rb, j, none⟩ = false
  rn : Room w B (some ⟨nb, 0, none⟩) n n (bts N)
  rc : Room w B (some ⟨cb, 0, none⟩) n n (bts C)
  sp : SpAt w B sb Fs (freeI N C)
  n0 : 0 < n
  nn : n ≤ 1024
  rB : B ≤ rb
  d1 : rb ≠ nb
  d2 : rb ≠ cb
  d3 : nb ≠ cb
  d4 : rb ∉ Fs
  d5 : nb ∉ Fs
  d6 : cb ∉ Fs
section
variable {w w' : World} {B rb nb cb sb : Nat} {Fs : List Nat} {n : Nat} {N C : List UInt8}
theorem RfsAt.lN (h : RfsAt w B rb nb cb sb Fs n N C) : N.length = n := by have := h.rn.len; rwa [bts_length] at this
theorem RfsAt.lC (h : RfsAt w B rb nb cb sb Fs n N C) : C.length = n := by have := h.rc.len; rwa [bts_length] at this
theorem RfsAt.ltr (h : RfsAt w B rb nb cb sb Fs n N C) : rb < w.heap.size := block_lt_of_cell h.c0
theorem RfsAt.ltn (h : RfsAt w B rb nb cb sb Fs n N C) : B ≤ nb ∧ nb < w.heap.size := h.rn.lt nb (by rw [fp_some _ _ _ h.n0]; simp)
theorem RfsAt.ltc (h : RfsAt w B rb nb cb sb Fs n N C) : B ≤ cb ∧ cb < w.heap.size := h.rc.lt cb (by rw [fp_some _ _ _ h.n0]; simp)
theorem RfsAt.lt (h : RfsAt w B rb nb cb sb Fs n N C) : ∀ k, k ∈ rb :: nb :: cb :: Fs → B ≤ k ∧ k < w.heap.size := by
  intro k hk
  simp only [List.mem_cons] at hk
  rcases hk with rfl | rfl | rfl | hk
  · exact ⟨h.rB, h.ltr⟩
  · exact h.ltn
  · exact h.ltc
  · exact h.sp.lt k hk
theorem RfsAt.chg {S : List Nat} (h : RfsAt w B rb nb cb sb Fs n N C) (c : Chg S w w') (hn : ∀ k, k ∈ rb :: nb :: cb :: Fs → k ∉ S) : RfsAt w' B rb nb cb sb Fs n N C := by
  have h1 := hn rb (by simp)
  exact ⟨c.cellv h.c0 h1, c.cellv h.c1 h1, c.cellv h.c2 h1, fun j => (c.frozen (p := ⟨rb, j, none⟩) (show rb < w.heap.size from h.ltr) h1).trans (h.fz j),
    h.rn.chg c (fun k hk => by rw [fp_some _ _ _ h.n0] at hk; simp at hk; subst hk; exact hn _ (by simp)), h.rc.chg c (fun k hk => by rw [fp_some _ _ _ h.n0] at hk; simp at hk; subst hk; exact hn _ (by simp)),
    h.sp.chg c (fun k hk => hn k (by simp [hk])), h.n0, h.nn, h.rB, h.d1, h.d2, h.d3, h.d4, h.d5, h.d6⟩
theorem RfsAt.keep (h : RfsAt w B rb nb cb sb Fs n N C) (c : Chg [] w w') : RfsAt w' B rb nb cb sb Fs n N C := h.chg c (by simp)
theorem RfsAt.mono {B' : Nat} (h : RfsAt w B rb nb cb sb Fs n N C) (hB : B' ≤ B) : RfsAt w B' rb nb cb sb Fs n N C :=
  ⟨h.c0, h.c1, h.c2, h.fz, h.rn.mono hB, h.rc.mono hB, h.sp.mono hB, h.n0, h.nn, Nat.le_trans hB h.rB, h.d1, h.d2, h.d3, h.d4, h.d5, h.d6⟩
end
/-- kept: the same counts, in new memory. -/
theorem kept_any (ao : Option Addr) (n c : Nat) (l : List UInt8) (w : World) (g : Reads w ao (bts l)) (gn : l.length = n) (n0 : 0 < n) (nn : n ≤ 1024) :
    Calls Tryz.prog 135 #[.slice ao n c] w fun e w' => ∃ b, e = .returned (.slice (some ⟨b, 0, none⟩) n n) ∧ w.heap.size ≤ b ∧ Room w' w.heap.size (some ⟨b, 0, none⟩) n n (bts l) ∧ Chg [] w w' := by
  have hm2 : ∀ u : World, (Instr.makeSlice 41 (.int .i64 (n : Int)) (.int .i64 (n : Int))).run Tryz.prog u = .ok (.slice (some ⟨u.heap.size, 0, none⟩) n n) (u.alloc (.cells (madeCells #[.int .u8 0] n) 5)) := fun u =>
    run_make_k eltB (.int .u8 0) (by kernel_rfl) rfl n (by omega) (by unfold maxLen; omega) u
  have hR := made_room w 5 (.int .u8 0) n (by unfold maxLen; omega)
  have g2 := g.keep (Chg.alloc [] w (.cells (madeCells #[.int .u8 0] n) 5))
  have hl : (bts l).length = n := by rw [bts_length]; exact gn
  have hth := hR.there 0 n (by omega)
  have hs := hR.sets (bts l) 0 (by omega)
  have hc1 := Chg.alloc [] w (.cells (madeCells #[.int .u8 0] n) 5)
  have hz : w.heap.size < (w.alloc (.cells (madeCells #[.int .u8 0] n) 5)).heap.size := by simp
  have e1 : (List.replicate n (Value.int .u8 0)).take 0 ++ (bts l ++ (List.replicate n (Value.int .u8 0)).drop (0 + (bts l).length)) = bts l := by
    rw [hl]; simp
  rw [e1] at hs
  have hc2 := Chg.setCells w.heap.size (bts l) 0 (w.alloc (.cells (madeCells #[.int .u8 0] n) 5))
  have HL := mkHid hl
  have HE := mkHid e1
  clear hl e1 hR gn
  go_enter Tryz.func135, Tryz.ntmps135
  go_wp2_with (refine wpList_copy_k rfl (.tmp 7) (.tmp 8) 41 41 5 rfl Tryz.underlying41 oneB w.heap.size 0 n n ao n c (bts l) rfl rfl g2 (by rw [HL.out]; exact (Nat.min_self _).symm) (by rw [HL.out]; exact hth) (bts_one _) ?_)
  go_ret
  exact ⟨w.heap.size, rfl, Nat.le_refl _, hs, hc1.trans hc2 (by simp) (fun k hk hlt => by simp at hk; omega)⟩
end Go.Proofs.YtoeijomelabbfaaGreatDoor

/- Refs: made, has, Count, Fresh, Free, Counts. -/
namespace Go.Proofs.YtoeijomelabbfaaGreatDoor
set_option maxRecDepth 200000
open Go.RowKit
set_option linter.unusedVariables false
set_option linter.unusedSimpArgs false
attribute [local go_sem ↓] Go.wp_at_zero Go.wp_at_succ

theorem rmade_yes (rb sb : Nat) (w : World) (c2 : w.cell? ⟨rb, 2, none⟩ = some (.pointer (some ⟨sb, 0, none⟩))) : Calls Tryz.prog 74 #[.pointer (some ⟨rb, 0, none⟩)] w fun e w' => e = .returned (.bool true) ∧ w = w' := by
  go_enter Tryz.func74, Tryz.ntmps74
  go_wp2
  go_ret
  exact ⟨rfl, rfl⟩
/-- A byte of a row, as a number. -/
theorem byte_at {l : List UInt8} {x n : Nat} (hl : l.length = n) (hx : x < n) : ∃ a : UInt8, ∃ m : Nat, l[x]? = some a ∧ a.toNat = m ∧ m ≤ 255 := by
  have h : x < l.length := by omega
  exact ⟨l[x], _, List.getElem?_eq_getElem h, rfl, by have := l[x].toNat_lt; omega⟩
theorem bts_at {l : List UInt8} {x : Nat} {a : UInt8} {m : Nat} (h : l[x]? = some a) (hm : a.toNat = m) : (bts l)[x]? = some (.int .u8 (m : Int)) := by
  have hx := (List.getElem?_eq_some_iff.1 h).1
  rw [bts_get l x hx]
  have : l[x] = a := by rw [List.getElem?_eq_getElem hx] at h; simpa using h
  rw [this, hm]
theorem Room.read {w : World} {B b o n c : Nat} {l : List UInt8} (h : Room w B (some ⟨b, o, none⟩) n c (bts l)) {x : Nat} {a : UInt8} {m : Nat} (hx : l[x]? = some a) (hm : a.toNat = m) : w.cell? ⟨b, o + x, none⟩ = some (.int .u8 (m : Int)) :=
  h.reads.cell x _ (bts_at hx hm)
section
variable (B rb nb cb sb : Nat) (Fs : List Nat) (n : Nat) (N C : List UInt8) (w : World) (h : RfsAt w B rb nb cb sb Fs n N C)
include h
theorem rfree_any : Calls Tryz.prog 112 #[.pointer (some ⟨rb, 0, none⟩)] w fun e w' => e = .returned (.int .i64 (freeL (freeI N C)).length) ∧ w = w' := by
  have c2 := h.c2
  have cM := rmade_yes rb sb w h.c2
  have cF := free_any B sb Fs _ w h.sp
  generalize (freeL (freeI N C)).length = q at *
  go_enter Tryz.func112, Tryz.ntmps112
  go_wp2_with (first | (go_at_call 74; refine cM.mono ?_; rintro e w' ⟨rfl, rfl⟩) | (go_at_call 156; refine cF.mono ?_; rintro e w' ⟨rfl, rfl⟩))
  go_ret
  exact ⟨rfl, rfl⟩
theorem rcounts_any : Calls Tryz.prog 93 #[.pointer (some ⟨rb, 0, none⟩)] w fun e w' => ∃ b, e = .returned (.slice (some ⟨b, 0, none⟩) n n) ∧ w.heap.size ≤ b ∧ Room w' w.heap.size (some ⟨b, 0, none⟩) n n (bts N) ∧ Chg [] w w' := by
  have c0 := h.c0
  have cM := rmade_yes rb sb w h.c2
  have cK := kept_any (some ⟨nb, 0, none⟩) n n N w h.rn.reads h.lN h.n0 h.nn
  go_enter Tryz.func93, Tryz.ntmps93
  go_wp2_with (first | (go_at_call 74; refine cM.mono ?_; rintro e w' ⟨rfl, rfl⟩) | (go_at_call 135; refine cK.mono ?_; rintro e w' ⟨b, rfl, hb, hr, hg⟩))
  go_ret
  exact ⟨b, rfl, hb, hr, hg⟩
end

/-! ### none -/
section
variable (w : World)
end
end Go.Proofs.YtoeijomelabbfaaGreatDoor

/- Refs: Alloc, Inc, Dec. -/
namespace Go.Proofs.YtoeijomelabbfaaGreatDoor
set_option maxRecDepth 200000
open Go.RowKit
set_option linter.unusedVariables false
set_option linter.unusedSimpArgs false
attribute [local go_sem ↓] Go.wp_at_zero Go.wp_at_succ

/-- What a call has made of Refs. -/
def RStep (w w' : World) (B rb nb cb sb : Nat) (Fs : List Nat) (n : Nat) (N C : List UInt8) : Prop := ∃ Fs', RfsAt w' B rb nb cb sb Fs' n N C ∧ Chg (rb :: nb :: cb :: Fs) w w' ∧ ∀ k, k ∈ Fs' → k ∈ Fs ∨ w.heap.size ≤ k
section
variable {w w1 w2 : World} {B rb nb cb sb : Nat} {Fs : List Nat} {n : Nat} {N C : List UInt8}
theorem RStep.refl (h : RfsAt w B rb nb cb sb Fs n N C) : RStep w w B rb nb cb sb Fs n N C := ⟨Fs, h, Chg.refl _ _, fun _ h => Or.inl h⟩
/-- A count was written, then the space went a step. -/
theorem RfsAt.count (h : RfsAt w B rb nb cb sb Fs n N C) (x : Nat) (hx : x < n) (v : UInt8) (k : Int) (hk : (v.toNat : Int) = k) (st : SpAt (w.setCell ⟨nb, x, none⟩ (.int .u8 k)) B sb Fs (freeI N C) → Step (w.setCell ⟨nb, x, none⟩ (.int .u8 k)) w2 B sb Fs (freeI (N.set x v) C)) : RStep w w2 B rb nb cb sb Fs n (N.set x v) C := by
  subst hk
  have g1 := Chg.setCell w ⟨nb, x, none⟩ (.int .u8 (v.toNat : Int))
  have hs := h.rn.set x hx (.int .u8 (v8 v))
  rw [Nat.zero_add, bts_set] at hs
  have hs1 : Room (w.setCell ⟨nb, x, none⟩ (.int .u8 (v.toNat : Int))) B (some ⟨nb, 0, none⟩) n n (bts (N.set x v)) := hs
  clear hs
  obtain ⟨Fs', h1, h2, h3⟩ := st (h.sp.chg g1 (fun k hk hm => by simp at hm; subst hm; exact h.d5 hk))
  have hz : (w.setCell ⟨nb, x, none⟩ (.int .u8 (v.toNat : Int))).heap.size = w.heap.size := by simp
  rw [hz] at h3
  have g : Chg (nb :: Fs) w w2 := g1.trans h2 (fun k hk _ => by simp at hk; simp [hk]) (fun k hk _ => by simp [hk])
  have hn : ∀ k, k < w.heap.size → k ∉ Fs → k ∉ Fs' := fun k h4 h5 h6 => (h3 k h6).elim h5 (fun h7 => by omega)
  have e1 : rb ∉ nb :: Fs := by simp; exact ⟨h.d1, h.d4⟩
  have e2 : cb ∉ nb :: Fs := by simp; exact ⟨fun e => h.d3 e.symm, h.d6⟩
  refine ⟨Fs', ⟨g.cellv h.c0 e1, g.cellv h.c1 e1, g.cellv h.c2 e1, fun j => (g.frozen (p := ⟨rb, j, none⟩) (show rb < w.heap.size from h.ltr) e1).trans (h.fz j),
    hs1.chg h2 (fun k hk => by rw [fp_some _ _ _ h.n0] at hk; simp at hk; subst hk; exact h.d5), h.rc.chg g (fun k hk => by rw [fp_some _ _ _ h.n0] at hk; simp at hk; subst hk; exact e2), h1, h.n0, h.nn, h.rB, h.d1, h.d2, h.d3, hn _ h.ltr h.d4, hn _ h.ltn.2 h.d5, hn _ h.ltc.2 h.d6⟩,
    g.mono (fun k hk _ => by simp at hk; simp; rcases hk with hk | hk <;> simp [hk]), h3⟩
end
section
variable (B rb nb cb sb : Nat) (Fs : List Nat) (n : Nat) (N C : List UInt8) (w : World) (h : RfsAt w B rb nb cb sb Fs n N C)
include h
end
end Go.Proofs.YtoeijomelabbfaaGreatDoor
