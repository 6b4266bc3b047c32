/- The landed code: the parts, one after another. -/
import Derived.Test.YtkfpkbmkmbnjcaaVi
namespace Go.Proofs.Ytkfpkbmkmbnjcaa
open Go.RowKit
set_option linter.unusedVariables false
set_option linter.unusedSimpArgs false
attribute [local go_sem] Oper.semAt_some

/-- The number of a page that there is. -/
abbrev PgI (n : Nat) : Type := { x : Nat // x < npg n }
def plen (n x : Nat) : Nat := if n - 240 * x ≤ 240 then n - 240 * x else 240
theorem plen_le (n x : Nat) : plen n x ≤ 240 := by unfold plen; split <;> omega
theorem plen_in {n x : Nat} (h : x < npg n) : 240 * x + plen n x ≤ n ∧ 0 < plen n x := by unfold npg at h; unfold plen; split <;> omega
/-- The slice of its counts. -/
def pval (ao : Option Addr) (c n x : Nat) : Value := .slice (cut ao c (240 * x)) (plen n x) (c - 240 * x)
def pencs (ao : Option Addr) (c n : Nat) (x : PgI n) : Array Value := #[.int .i64 (x.1 : Int), pval ao c n x.1]
def KpB (Bn : Nat) (v : Value) (W W' : World) : Prop := W.cell? ⟨Bn, 0, none⟩ = some v → W'.cell? ⟨Bn, 0, none⟩ = some v

set_option maxRecDepth 100000 in
set_option maxHeartbeats 2000000 in
theorem parts_stops (m : Nat) (hm : 1 ≤ m) (Bn : Nat) (ao : Option Addr) (n c : Nat) (hn : n ≤ c) (hb : n ≤ 140737488351232) (w : World) (hBn : Bn < w.heap.size) (hc0 : w.cell? ⟨Bn, 0, none⟩ = some (.slice ao n c)) :
    SeqStopsK Fence.wide m Try.prog 21 #[.pointer (some ⟨Bn, 0, none⟩)] (pencs ao c n) (KpB Bn (.slice ao n c)) (fun xs => xs.map (·.1) = List.range (npg n)) (fun _ => True) (npg n) w := fun l J Jx W hW _ _ hY h0 => by
  have hc := (hW.cell (p := ⟨Bn, 0, none⟩) hBn).trans hc0
  have cP := fun (u : World) => pages_any (n : Int) u (by omega)
  rw [npgZ_nat] at cP
  have hNn := npg_le n
  clear hc0 hW
  refine callsIn_of_wp Try.func21 rfl trivial ?_ rfl
  simp only [Try.ntmps21, List.size_toArray, List.length_cons, List.length_nil, Nat.reduceAdd, Nat.reduceSub, Array.replicate_succ, Array.replicate_zero, List.push_toArray, List.append_toArray, List.nil_append, List.cons_append]
  gi_wp2_with (refine ⟨trivial, ?_⟩; gi_at_call 12; refine (callsIn_wide.2 (cP _)).mono ?_; rintro e w' ⟨rfl, rfl⟩)
  gi_loopw [8] (fun i wr => ∃ (k : Nat) (pre : List (PgI n)), k ≤ npg n ∧ i = .int .i64 k ∧ pre.map (·.1) = List.range k ∧ J pre wr ∧ wr.cell? ⟨Bn, 0, none⟩ = some (.slice ao n c))
    (fun i _ => npg n - (intOf i).toNat)
  case atStart => exact ⟨0, [], Nat.zero_le _, rfl, rfl, h0, hc⟩
  case round =>
    clear hc
    obtain ⟨k, pre, hk, rfl, hp, hJ, hc⟩ := hrel
    by_cases hkn : k < npg n
    · have hpl := plen_in hkn
      have hlen : pre.length < npg n := by
        have := congrArg List.length hp
        rw [List.length_map, List.length_range] at this
        omega
      have rf : ∀ u : World, (Instr.slice 22 (.slice ao n c) (some (.int .i64 ((k : Int) * 240))) none none).run Try.prog u = .ok (.slice (cut ao c (240 * k)) (n - 240 * k) (c - 240 * k)) u := fun u => by
        have := run_from_k (P := Try.prog) ao n c (240 * k) Try.underlying22 oneB (by omega) u
        rw [show ((240 * k : Nat) : Int) = (k : Int) * 240 by omega] at this
        exact this
      have rt : ∀ u : World, (Instr.slice 22 (.slice (cut ao c (240 * k)) (n - 240 * k) (c - 240 * k)) none (some (.int .i64 (plen n k : Int))) none).run Try.prog u = .ok (.slice (cut ao c (240 * k)) (plen n k) (c - 240 * k)) u := fun u => run_take_k (P := Try.prog) _ _ _ _ Try.underlying22 oneB (by omega) u
      obtain ⟨fn, tmps, assign, body, hy, hR⟩ := hY pre ⟨k, hkn⟩ wr hJ hlen
      have hpm : plen n k = if n - 240 * k ≤ 240 then n - 240 * k else 240 := rfl
      have hk2 : 240 * k ≤ 140737488351232 := by omega
      dsimp only [pencs, pval] at hy
      generalize plen n k = m1 at *
      generalize n - 240 * k = n1 at *
      generalize c - 240 * k = c1 at *
      generalize cut ao c (240 * k) = A1 at *
      have hd1 : decide (k < npg n) = true := decide_eq_true hkn
      by_cases hm1 : n1 ≤ 240
      · rw [if_pos hm1] at hpm
        subst hpm
        have hmn : ((m1 : Int) ≤ 240) = True := by simp; omega
        gi_wp2
        refine hR.mono ?_
        rintro e W3 (⟨rfl, hJ3, hk3⟩ | ⟨rfl, hJx3⟩)
        · have hc3 := hk3 hc
          gi_wp2
          go_roundw
          case rel => exact ⟨k + 1, _, by omega, by simp, by rw [List.map_append, hp, List.range_succ]; rfl, hJ3, hc3⟩
          case measure => simp [intOf]; omega
        · gi_wp2
          refine bodyPost_ret (results_none rfl _ _ _) rfl ?_
          exact ⟨⟨_, rfl⟩, .inr ⟨_, trivial, hJx3⟩⟩
      · rw [if_neg hm1] at hpm
        subst hpm
        have rt2 : ∀ u : World, (Instr.slice 22 (.slice A1 n1 c1) none (some (.int .i64 240)) none).run Try.prog u = .ok (.slice A1 240 c1) u := rt
        clear rt
        have hmn : ((n1 : Int) ≤ 240) = False := by simp; omega
        gi_wp2
        refine hR.mono ?_
        rintro e W3 (⟨rfl, hJ3, hk3⟩ | ⟨rfl, hJx3⟩)
        · have hc3 := hk3 hc
          gi_wp2
          go_roundw
          case rel => exact ⟨k + 1, _, by omega, by simp, by rw [List.map_append, hp, List.range_succ]; rfl, hJ3, hc3⟩
          case measure => simp [intOf]; omega
        · gi_wp2
          refine bodyPost_ret (results_none rfl _ _ _) rfl ?_
          exact ⟨⟨_, rfl⟩, .inr ⟨_, trivial, hJx3⟩⟩
    · obtain rfl : k = npg n := by omega
      have hd1 : decide (npg n < npg n) = false := decide_eq_false hkn
      gi_wp2
      go_end0
      exact ⟨⟨_, rfl⟩, .inl ⟨_, hp, hJ⟩⟩
end Go.Proofs.Ytkfpkbmkmbnjcaa
