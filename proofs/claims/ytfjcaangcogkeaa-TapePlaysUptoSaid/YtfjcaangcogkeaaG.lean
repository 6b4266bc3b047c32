/- same; rows of numbers. -/
import Derived.Test.YtfjcaangcogkeaaF
import Derived.Deep.QuietTactic
import Derived.BigQuiet
namespace Go.Proofs.Ytfjcaangcogkeaa
open Go.RowKit
set_option linter.unusedVariables false

theorem Chg.drewN (w : World) (n : Nat) : Chg [] w (w.drewN n) := ⟨rfl, rfl, rfl, Nat.le_refl _, fun _ _ _ => rfl⟩
theorem u64s_get (l : List Nat) (i : Nat) (h : i < l.length) : (u64s l)[i]? = some (.int .u64 (l[i] : Int)) := by simp [u64s, h]
set_option maxHeartbeats 400000 in
theorem same_yes (ao : Option Addr) (n c : Nat) (bo : Option Addr) (d : Nat) (l : List Nat) (w : World) (h1 : Reads w ao (u64s l)) (hn : l.length = n) (h2 : Reads w bo (u64s l)) (hm : n ≤ maxLen) :
    Calls Try.prog 25 #[.slice ao n c, .slice bo n d] w fun e w' => e = .returned (.bool true) ∧ Chg [] w w' := by
  unfold maxLen at hm
  go_enter Try.func25, Try.ntmps25
  go_wp2_with fail
  go_loopw [13] (fun i wr => ∃ k : Nat, k ≤ n ∧ i = .int .i64 k ∧ Chg [] w wr) (fun i _ => n - (intOf i).toNat)
  case atStart => exact ⟨0, Nat.zero_le _, rfl, Chg.refl _ _⟩
  case round =>
    obtain ⟨k, hk, rfl, hg⟩ := hrel
    by_cases hlt : k < n
    · obtain ⟨b1, o1, rfl, hc1⟩ := (h1.old hg (by simp)) (by rw [u64s_length]; omega)
      obtain ⟨b2, o2, rfl, hc2⟩ := (h2.old hg (by simp)) (by rw [u64s_length]; omega)
      have hp1 := hc1 k _ (u64s_get l k (by omega))
      have hp2 := hc2 k _ (u64s_get l k (by omega))
      have hki : (k : Int) < (n : Int) := by omega
      clear hc1 hc2
      go_wp2_with fail
      go_quiet (fail)
      go_wp2_with fail
      go_roundw
      case rel => exact ⟨k + 1, by omega, by go_num, hg.then (Chg.drewN _ _)⟩
      case measure => simp [intOf]; omega
    · go_wp2_with fail
      go_ret
      exact ⟨rfl, hg⟩

/-- Numbers and their sizes: their bytes, one behind the other; what is told of them. -/
def encP : List (Nat × Nat) → List UInt8
  | [] => []
  | p :: r => be p.1 p.2 ++ encP r
def szP (ps : List (Nat × Nat)) : List Int := ps.map fun p => (p.2 : Int)
def wantP (ps : List (Nat × Nat)) : List Nat := ps.map fun p => p.1 % 256 ^ p.2
theorem encP_snoc (ps : List (Nat × Nat)) (p : Nat × Nat) : encP (ps ++ [p]) = encP ps ++ be p.1 p.2 := by induction ps <;> simp [encP, *]
theorem vals_encP (ps : List (Nat × Nat)) : vals (szP ps) (encP ps) = wantP ps := by
  induction ps with
  | nil => rfl
  | cons p r ih =>
    have hl := be_length p.1 p.2
    have h1 : (be p.1 p.2 ++ encP r).take p.2 = be p.1 p.2 := by rw [List.take_append_of_le_length (by omega), List.take_of_length_le (by omega)]
    have h2 : (be p.1 p.2 ++ encP r).drop p.2 = encP r := by rw [List.drop_append_of_le_length (by omega), List.drop_of_length_le (by omega)]; rfl
    simp only [szP, wantP, List.map_cons, encP, vals, Int.toNat_natCast, h1, h2, val_be]
    congr 1
theorem sum_encP (ps : List (Nat × Nat)) : sumI (szP ps) = ((encP ps).length : Int) := by
  induction ps with
  | nil => rfl
  | cons p r ih => simp only [szP, List.map_cons, sumI, encP, List.length_append, be_length] at ih ⊢; rw [ih]; simp
def okP (ps : List (Nat × Nat)) : Prop := ∀ p ∈ ps, 1 ≤ p.2 ∧ p.2 ≤ 8
theorem okP_sz (ps : List (Nat × Nat)) (h : okP ps) : allOk (szP ps) := by
  intro z hz
  obtain ⟨p, hp, rfl⟩ := List.mem_map.1 hz
  have := h p hp
  omega
theorem okP_len (ps : List (Nat × Nat)) (h : okP ps) : (encP ps).length ≤ 8 * ps.length := by
  induction ps with
  | nil => simp [encP]
  | cons p r ih =>
    have h1 := h p (by simp)
    have h2 := ih (fun q hq => h q (by simp [hq]))
    simp only [encP, List.length_append, be_length, List.length_cons]
    omega
theorem szP_length (ps : List (Nat × Nat)) : (szP ps).length = ps.length := by simp [szP]
theorem wantP_length (ps : List (Nat × Nat)) : (wantP ps).length = ps.length := by simp [wantP]
theorem eltI : Elt Try.prog 40 3 8 := Elt.mk (z := .int .i64 0) Try.underlying40 (by kernel_rfl) rfl
theorem mask (N s : Nat) (h1 : 1 ≤ s) (h8 : s ≤ 8) : IntKind.u64.wrap ((N : Int) * 2 ^ (64 - 8 * s)) / 2 ^ (64 - 8 * s) = ((N % 256 ^ s : Nat) : Int) := by
  have h : ((2 : Int) ^ (64 - 8 * s)) = ((2 ^ (64 - 8 * s) : Nat) : Int) := by norm_cast
  have e : 18446744073709551616 = 256 ^ s * 2 ^ (64 - 8 * s) := by
    rw [show 256 = 2 ^ 8 from rfl, ← Nat.pow_mul, ← Nat.pow_add, show 8 * s + (64 - 8 * s) = 64 by omega]
  rw [IntKind.wrap_u64, h]
  have e2 : ((N : Int) * ((2 ^ (64 - 8 * s) : Nat) : Int)) % 18446744073709551616 / ((2 ^ (64 - 8 * s) : Nat) : Int) = ((N * 2 ^ (64 - 8 * s) % 18446744073709551616 / 2 ^ (64 - 8 * s) : Nat) : Int) := by
    rw [Int.natCast_ediv, Int.natCast_emod, Int.natCast_mul]; rfl
  rw [e2, e, Nat.mul_mod_mul_right, Nat.mul_div_cancel _ (Nat.pow_pos (by decide))]
end Go.Proofs.Ytfjcaangcogkeaa
