/- A space: Take, Free; a space that no call made; New. -/
import Derived.Test.YtppjjlooocigdaaPf
namespace Go.Proofs.Ytppjjlooocigdaa
open Go.RowKit
set_option linter.unusedVariables false
set_option linter.unusedSimpArgs false
attribute [local go_sem ↓] Go.wp_at_zero Go.wp_at_succ

theorem line_perm {L : List Nat} {Is : List Bool} (hnd : L.Nodup) (hm : ∀ x, x ∈ L ↔ Is[x]? = some true) : L.Perm (freeL Is) :=
  (List.perm_ext_iff_of_nodup hnd (lt_nodup (freeL_lt Is))).2 fun x => by rw [hm, mem_freeL]
theorem line_top {L : List Nat} {Is : List Bool} {x : Nat} {r : List Nat} (hnd : L.Nodup) (hm : ∀ x, x ∈ L ↔ Is[x]? = some true) (hH : Heap L L.length) (hf : freeL Is = x :: r) : ∃ h : 0 < L.length, L[0] = x := by
  have p := line_perm hnd hm
  rw [hf] at p
  have hl := p.length_eq
  simp at hl
  refine ⟨by omega, ?_⟩
  have hx : x ∈ L := p.mem_iff.2 (by simp)
  obtain ⟨k, hk, e⟩ := List.getElem_of_mem hx
  have h1 := heap_top hH k hk
  rw [key_lt (by omega), key_lt hk, e] at h1
  have h2 := p.mem_iff.1 (List.getElem_mem (l := L) (n := 0) (by omega))
  have hs := freeL_lt Is
  rw [hf, List.pairwise_cons] at hs
  rcases List.mem_cons.1 h2 with h2 | h2
  · exact h2
  · have := hs.1 _ h2
    omega
set_option maxRecDepth 20000 in
theorem take_any (B sb : Nat) (F : List Nat) (Is : List Bool) (w : World) (h : SpAt w B sb F Is) :
    Calls Try.prog 35 #[.pointer (some ⟨sb, 0, none⟩)] w fun e w' => e = .returned (.tuple #[.int .i64 (takeN Is).1, .int .i64 (takeN Is).2.1]) ∧ Step w w' B sb F (takeN Is).2.2 := by
  have h0 := h
  obtain ⟨pb, la, cl, sa, cs, L, c0, hB, hP, hH, hm, hx, hF⟩ := h.ex
  have cM := made_yes sb pb w c0
  have cL := len_any B pb la cl sa cs Is.length L w hP
  have p := line_perm hP.nd hm
  unfold takeN
  cases hf : freeL Is with
  | nil =>
    rw [hf] at p
    have hl : L.length = 0 := by simpa using p.length_eq
    rw [hl] at cL
    clear hm hP hH p hf
    go_enter Try.func35, Try.ntmps35
    go_wp2_with (first | (go_at_call 49; refine cM.mono ?_; rintro e w' ⟨rfl, rfl⟩) | (go_at_call 50; refine cL.mono ?_; rintro e w' ⟨rfl, rfl⟩))
    go_ret2
    exact ⟨rfl, Step.refl h0⟩
  | cons x r =>
    obtain ⟨hl, hx0⟩ := line_top hP.nd hm hH hf
    have hle := hP.le
    have hnn := hP.nn
    have hI := (mem_freeL Is x).1 (by rw [hf]; simp)
    have hxn := (List.getElem?_eq_some_iff.1 hI).1
    have cC := claim_any (x : Int) B sb F Is w h0
    have e : claimN Is (x : Int) = (0, Is.set x false) := by unfold claimN; rw [if_neg (by omega), Int.toNat_natCast, if_pos hI]
    rw [e] at cC
    have cp := hP.c0
    have hR := hP.r.reads
    obtain ⟨lb, lo, rfl, hc⟩ := hR (by rw [ivs_len]; exact hl)
    have ci := hc 0 _ (ivs_get hl)
    rw [hx0, Nat.add_zero] at ci
    have hl2 : ((L.length : Int) == 0) = false := beq_eq_false_iff_ne.2 (by omega)
    have hl3 : (L.length == 0) = false := beq_eq_false_iff_ne.2 (by omega)
    have hl4 : decide (0 < L.length) = true := decide_eq_true hl
    clear hc hR hm hH p hx0 hf
    go_enter Try.func35, Try.ntmps35
    go_wp2_with (first | (go_at_call 49; refine cM.mono ?_; rintro e w' ⟨rfl, rfl⟩) | (go_at_call 50; refine cL.mono ?_; rintro e w' ⟨rfl, rfl⟩) | (go_at_call 31; refine cC.mono ?_; rintro e w' ⟨rfl, hs⟩))
    go_ret2
    exact ⟨rfl, hs⟩
theorem free_any (B sb : Nat) (F : List Nat) (Is : List Bool) (w : World) (h : SpAt w B sb F Is) :
    Calls Try.prog 44 #[.pointer (some ⟨sb, 0, none⟩)] w fun e w' => e = .returned (.int .i64 (freeL Is).length) ∧ w = w' := by
  obtain ⟨pb, la, cl, sa, cs, L, c0, hB, hP, hH, hm, hx, hF⟩ := h.ex
  have cM := made_yes sb pb w c0
  have cL := len_any B pb la cl sa cs Is.length L w hP
  rw [(line_perm hP.nd hm).length_eq] at cL
  clear hm hP hH
  go_enter Try.func44, Try.ntmps44
  go_wp2_with (first | (go_at_call 49; refine cM.mono ?_; rintro e w' ⟨rfl, rfl⟩) | (go_at_call 50; refine cL.mono ?_; rintro e w' ⟨rfl, rfl⟩))
  go_ret
  exact ⟨rfl, rfl⟩

/-! ### none, and one that no call made -/
section
variable (v : Value) (w : World) (hm : Calls Try.prog 49 #[v] w fun e w' => e = .returned (.bool false) ∧ w = w')
include hm
theorem take_none : Calls Try.prog 35 #[v] w fun e w' => e = .returned (.tuple #[.int .i64 0, .int .i64 2]) ∧ w = w' := by
  go_enter Try.func35, Try.ntmps35
  go_wp2_with (first | (go_at_call 49; refine hm.mono ?_; rintro e w' ⟨rfl, rfl⟩))
  go_ret2
  exact ⟨rfl, rfl⟩
theorem change_none (z : Int) (b : Bool) (o : Int) (f : Value) : Calls Try.prog 47 #[v, .int .i64 z, .bool b, .int .i64 o, f] w fun e w' => e = .returned (.int .i64 2) ∧ w = w' := by
  go_enter Try.func47, Try.ntmps47
  go_wp2_with (first | (go_at_call 49; refine hm.mono ?_; rintro e w' ⟨rfl, rfl⟩))
  go_ret
  exact ⟨rfl, rfl⟩
theorem claim_none (z : Int) : Calls Try.prog 31 #[v, .int .i64 z] w fun e w' => e = .returned (.int .i64 2) ∧ w = w' := by
  go_enter Try.func31, Try.ntmps31
  go_wp2_with (first | (go_at_call 47; refine (change_none v w hm _ _ _ _).mono ?_; rintro e w' ⟨rfl, rfl⟩))
  go_ret
  exact ⟨rfl, rfl⟩
theorem give_none (z : Int) : Calls Try.prog 51 #[v, .int .i64 z] w fun e w' => e = .returned (.int .i64 2) ∧ w = w' := by
  go_enter Try.func51, Try.ntmps51
  go_wp2_with (first | (go_at_call 47; refine (change_none v w hm _ _ _ _).mono ?_; rintro e w' ⟨rfl, rfl⟩))
  go_ret
  exact ⟨rfl, rfl⟩
theorem free_none : Calls Try.prog 44 #[v] w fun e w' => e = .returned (.int .i64 0) ∧ w = w' := by
  go_enter Try.func44, Try.ntmps44
  go_wp2_with (first | (go_at_call 49; refine hm.mono ?_; rintro e w' ⟨rfl, rfl⟩))
  go_ret
  exact ⟨rfl, rfl⟩
theorem copy_none : Calls Try.prog 42 #[v] w fun e w' => e = .returned (.pointer none) ∧ w = w' := by
  go_enter Try.func42, Try.ntmps42
  go_wp2_with (first | (go_at_call 49; refine hm.mono ?_; rintro e w' ⟨rfl, rfl⟩))
  go_ret
  exact ⟨rfl, rfl⟩
end
theorem new_no (z : Int) (w : World) (hz : z < 0 ∨ 1024 < z) : Calls Try.prog 30 #[.int .i64 z] w fun e w' => e = .returned (.tuple #[.pointer none, .int .i64 1]) ∧ w = w' := by
  by_cases h1 : z < 0
  · have d1 : decide (z < 0) = true := decide_eq_true h1
    go_enter Try.func30, Try.ntmps30
    go_wp2
    go_ret2
    exact ⟨rfl, rfl⟩
  · have d1 : decide (z < 0) = false := decide_eq_false h1
    have d2 : decide (z > 1024) = true := decide_eq_true (by omega)
    have d3 : decide (1024 < z) = true := decide_eq_true (by omega)
    go_enter Try.func30, Try.ntmps30
    go_wp2
    go_ret2
    exact ⟨rfl, rfl⟩
end Go.Proofs.Ytppjjlooocigdaa
