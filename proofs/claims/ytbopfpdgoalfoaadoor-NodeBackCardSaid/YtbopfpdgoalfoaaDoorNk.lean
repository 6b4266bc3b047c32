/- Package node: kind, known, few, rises, points, noughts. -/
import Derived.Test.YtbopfpdgoalfoaaDoorNf
import Derived.Test.YtbopfpdgoalfoaaDoorNj
namespace Go.Proofs.YtbopfpdgoalfoaaDoor
open Go.RowKit
set_option linter.unusedVariables false
set_option linter.unusedSimpArgs false
attribute [local go_sem ↓] Go.wp_at_zero Go.wp_at_succ

theorem kind_any (lf : Bool) (w : World) : Calls Tryd.prog 12 #[.bool lf] w fun e w' => e = .returned (.int .u64 ((if lf = true then 1 else 0 : Nat) : Int)) ∧ w = w' := by
  cases lf
  · go_enter Tryd.func12, Tryd.ntmps12
    go_wp2
    go_ret
    exact ⟨rfl, rfl⟩
  · go_enter Tryd.func12, Tryd.ntmps12
    go_wp2
    go_ret
    exact ⟨rfl, rfl⟩
theorem kind_true (w : World) : Calls Tryd.prog 12 #[.bool true] w fun e w' => e = .returned (.int .u64 1) ∧ w = w' := kind_any true w
theorem kind_false (w : World) : Calls Tryd.prog 12 #[.bool false] w fun e w' => e = .returned (.int .u64 0) ∧ w = w' := kind_any false w
def fewB (n : Nat) : Bool := decide (1 ≤ n) && decide (n ≤ 8)
def pointsB (x : Nat) : Bool := !decide (x = 0)
def knownB (n : Nat) : Bool := decide (n = 1) || decide (n = 0)
theorem few_any (n : Nat) (w : World) : Calls Tryd.prog 16 #[.int .u64 (n : Int)] w fun e w' => e = .returned (.bool (fewB n)) ∧ w = w' := by
  by_cases h1 : 1 ≤ n
  · by_cases h2 : n ≤ 8
    · have e : fewB n = true := by simp [fewB, h1, h2]
      rw [e]
      clear e
      have d1 : decide ((n : Int) ≥ 1) = true := decide_eq_true (by omega)
      have d2 : decide ((n : Int) ≤ 8) = true := decide_eq_true (by omega)
      go_enter Tryd.func16, Tryd.ntmps16
      go_wp2
      go_ret
      exact ⟨rfl, rfl⟩
    · have e : fewB n = false := by simp [fewB, h2]
      rw [e]
      clear e
      have d1 : decide ((n : Int) ≥ 1) = true := decide_eq_true (by omega)
      have d2 : decide ((n : Int) ≤ 8) = false := decide_eq_false (by omega)
      have d3 : decide (n ≤ 8) = false := decide_eq_false (by omega)
      go_enter Tryd.func16, Tryd.ntmps16
      go_wp2
      go_ret
      exact ⟨rfl, rfl⟩
  · have e : fewB n = false := by simp [fewB, h1]
    rw [e]
    clear e
    have d1 : decide ((n : Int) ≥ 1) = false := decide_eq_false (by omega)
    have d2 : decide (1 ≤ (n : Int)) = false := decide_eq_false (by omega)
    have d3 : decide (1 ≤ n) = false := decide_eq_false (by omega)
    go_enter Tryd.func16, Tryd.ntmps16
    go_wp2
    go_ret
    exact ⟨rfl, rfl⟩
theorem points_any (n : Nat) (w : World) : Calls Tryd.prog 18 #[.int .u64 (n : Int)] w fun e w' => e = .returned (.bool (pointsB n)) ∧ w = w' := by
  by_cases h1 : n = 0
  · subst h1
    go_enter Tryd.func18, Tryd.ntmps18
    go_wp2
    go_ret
    exact ⟨rfl, rfl⟩
  · have e : pointsB n = true := by simp [pointsB, h1]
    rw [e]
    clear e
    have d1 : ((n : Int) != 0) = true := by simp; omega
    have d2 : (n != 0) = true := by simp; omega
    go_enter Tryd.func18, Tryd.ntmps18
    go_wp2
    go_ret
    exact ⟨rfl, rfl⟩
theorem known_any (n : Nat) (w : World) : Calls Tryd.prog 29 #[.int .u64 (n : Int)] w fun e w' => e = .returned (.bool (knownB n)) ∧ w = w' := by
  by_cases h1 : n = 1
  · subst h1
    go_enter Tryd.func29, Tryd.ntmps29
    go_wp2_with (first | (go_at_call_of 12 (Value.bool true); refine (kind_true _).mono ?_; rintro e w' ⟨rfl, rfl⟩) | (go_at_call_of 12 (Value.bool false); refine (kind_false _).mono ?_; rintro e w' ⟨rfl, rfl⟩))
    go_ret
    exact ⟨rfl, rfl⟩
  · have d1 : ((n : Int) == 1) = false := by simp; omega
    have d2 : (n == 1) = false := by simp; omega
    by_cases h2 : n = 0
    · subst h2
      go_enter Tryd.func29, Tryd.ntmps29
      go_wp2_with (first | (go_at_call_of 12 (Value.bool true); refine (kind_true _).mono ?_; rintro e w' ⟨rfl, rfl⟩) | (go_at_call_of 12 (Value.bool false); refine (kind_false _).mono ?_; rintro e w' ⟨rfl, rfl⟩))
      go_ret
      exact ⟨rfl, rfl⟩
    · have e : knownB n = false := by simp [knownB, h1, h2]
      rw [e]
      clear e
      have d3 : ((n : Int) == 0) = false := by simp; omega
      have d4 : (n == 0) = false := by simp; omega
      go_enter Tryd.func29, Tryd.ntmps29
      go_wp2_with (first | (go_at_call_of 12 (Value.bool true); refine (kind_true _).mono ?_; rintro e w' ⟨rfl, rfl⟩) | (go_at_call_of 12 (Value.bool false); refine (kind_false _).mono ?_; rintro e w' ⟨rfl, rfl⟩))
      go_ret
      exact ⟨rfl, rfl⟩
theorem low_nil (x : Nat) : lowK [] x = false := rfl
theorem low_at {K : List Nat} {j z : Nat} (hl : K.length = j + 1) (hz : K[j]? = some z) (x : Nat) : lowK K x = decide (x ≤ z) := by
  unfold lowK
  rw [List.getLast?_eq_getElem?, hl, Nat.add_sub_cancel, hz]
theorem rises_any (ao : Option Addr) (n c : Nat) (K : List Nat) (x : Nat) (w : World) (hr : Reads w ao (uvs K)) (hl : K.length = n) (hc : n ≤ c) (hm : c ≤ maxLen) : Calls Tryd.prog 17 #[.slice ao n c, .int .u64 (x : Int)] w fun e w' => e = .returned (.bool (!lowK K x)) ∧ w = w' := by
  unfold maxLen at hm
  cases n with
  | zero =>
    have : K = [] := List.eq_nil_of_length_eq_zero hl
    subst this
    go_enter Tryd.func17, Tryd.ntmps17
    go_wp2
    go_ret
    exact ⟨rfl, rfl⟩
  | succ j =>
    obtain ⟨z, hz⟩ : ∃ z, K[j]? = some z := ⟨_, List.getElem?_eq_getElem (by omega)⟩
    rw [low_at hl hz]
    obtain ⟨kb, ko, rfl, cz, _⟩ := reads_lt hr j _ (uvs_get hz)
    have e1 : ((j + 1 : Nat) : Int) = (j : Int) + 1 := by omega
    have d1 : (((j + 1 : Nat) : Int) == 0) = false := by simp; omega
    have d0 : ((j : Int) + 1 == 0) = false := by simp; omega
    clear hz hl hr
    by_cases hx : x ≤ z
    · have d2 : decide (x > z) = false := decide_eq_false (by omega)
      have d3 : decide ((x : Int) > (z : Int)) = false := decide_eq_false (by omega)
      have d4 : decide (z < x) = false := decide_eq_false (by omega)
      rw [decide_eq_true hx]
      clear hx
      go_enter Tryd.func17, Tryd.ntmps17
      go_wp2
      go_ret
      exact ⟨rfl, rfl⟩
    · have d2 : decide (x > z) = true := decide_eq_true (by omega)
      have d3 : decide ((x : Int) > (z : Int)) = true := decide_eq_true (by omega)
      have d4 : decide (z < x) = true := decide_eq_true (by omega)
      rw [decide_eq_false hx]
      clear hx
      go_enter Tryd.func17, Tryd.ntmps17
      go_wp2
      go_ret
      exact ⟨rfl, rfl⟩
theorem all_take_snoc (l : List UInt8) (k : Nat) (h : k < l.length) : (l.take (k + 1)).all (· == 0) = ((l.take k).all (· == 0) && (l[k] == 0)) := by
  rw [List.take_succ_eq_append_getElem h, List.all_append]; simp
theorem noughts_any (ao : Option Addr) (n c : Nat) (l : List UInt8) (w : World) (hx : Reads w ao (bts l)) (hn : l.length = n) (hc : n ≤ c) (hle : c ≤ maxLen) : Calls Tryd.prog 15 #[.slice ao n c] w fun e w' => e = .returned (.bool (l.all (· == 0))) ∧ w = w' := by
  unfold maxLen at hle
  go_enter Tryd.func15, Tryd.ntmps15
  go_wp2_with fail
  go_loop [7] (fun i => ∃ k : Nat, k ≤ n ∧ i = .int .i64 k ∧ (l.take k).all (· == 0) = true) (fun i => n - (intOf i).toNat)
  case atStart => exact ⟨0, Nat.zero_le _, rfl, rfl⟩
  case round =>
    obtain ⟨k, hk, rfl, ha⟩ := hrel
    by_cases hlt : k < n
    · have hd : decide ((k : Int) < (n : Int)) = true := decide_eq_true (by omega)
      have hd2 : decide (k < n) = true := decide_eq_true hlt
      obtain ⟨y, hy⟩ : ∃ y : UInt8, l[k]? = some y := ⟨_, List.getElem?_eq_getElem (by omega)⟩
      obtain ⟨m, hm⟩ : ∃ m : Nat, y.toNat = m := ⟨_, rfl⟩
      have hcell0 : (bts l)[k]? = some (.int .u8 (m : Int)) := by rw [← hm, bts, List.getElem?_map, hy]; rfl
      obtain ⟨b, o, rfl, hcell, _⟩ := reads_lt hx k _ hcell0
      have hsn : (l.take (k + 1)).all (· == 0) = (y == 0) := by
        rw [all_take_snoc l k (by omega), ha, Bool.true_and]
        rw [List.getElem?_eq_getElem (by omega)] at hy
        rw [Option.some.inj hy]
      have hb : (k : Int) < (n : Int) := by omega
      have hyz : y = 0 ↔ m = 0 := by rw [← hm]; exact ⟨fun h => by rw [h]; rfl, fun h => UInt8.toNat_inj.1 h⟩
      have hym : y ∈ l := List.mem_of_getElem? hy
      have HS := mkHid hsn
      have HY := mkHid (And.intro hyz hym)
      clear hsn hyz hy hm hcell0 ha hn hx hym
      by_cases h0 : m = 0
      · subst h0
        go_wp2_with fail
        go_round
        case rel => exact ⟨k + 1, by omega, by go_num, by rw [HS.out, HY.out.1.2 rfl]; rfl⟩
        case measure => simp [intOf]; omega
      · have d1 : ((m : Int) != 0) = true := by simp; omega
        have d2 : (m != 0) = true := by simp; omega
        have H0 := mkHid h0
        clear h0
        go_wp2_with fail
        go_ret
        have hy0 : (y == 0) = false := by simp; exact fun e => H0.out (HY.out.1.1 e)
        have hf : l.all (· == 0) = false := by
          rw [List.all_eq_false]
          exact ⟨y, HY.out.2, by simp at hy0; simp [hy0]⟩
        rw [hf]
        exact ⟨rfl, rfl⟩
    · have : k = n := by omega
      subst this
      rw [List.take_of_length_le (by omega)] at ha
      have hd : decide (k < k) = false := by simp
      have HA := mkHid ha
      clear ha hn
      go_wp2_with fail
      go_ret
      rw [HA.out]
      exact ⟨rfl, rfl⟩
end Go.Proofs.YtbopfpdgoalfoaaDoor
