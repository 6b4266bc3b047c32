/- slices.Grow of no list, slices.Concat, at rows of numbers. -/
import Derived.Test.YtlaeonemlodhmaaIh
namespace Go.Proofs.Ytlaeonemlodhmaa
open Go.RowKit
set_option linter.unusedVariables false
set_option linter.unusedSimpArgs false
attribute [local go_sem ↓] Go.wp_at_zero Go.wp_at_succ

theorem Room.trim {w : World} {B : Nat} {ao : Option Addr} {n c : Nat} {xs : List Value} (h : Room w B ao n c xs) : Room w B ao 0 c [] :=
  ⟨rfl, Nat.zero_le _, h.max, fun hc => let ⟨b, o, e, h1, h2, _⟩ := h.at_ hc; ⟨b, o, e, h1, h2, fun j u hu => by simp at hu⟩⟩
set_option maxRecDepth 20000 in
theorem grow_any (m : Nat) (hm : m ≤ 1000000000) (w : World) : Calls Try.prog 46 #[.slice none 0 0, .int .i64 (m : Int)] w fun e w' => ∃ a c, e = .returned (.slice a 0 c) ∧ Room w' w.heap.size a 0 c [] ∧ Chg [] w w' := by
  have d1 : decide ((m : Int) < 0) = false := decide_eq_false (by omega)
  by_cases h0 : m = 0
  · have d2 : decide ((m : Int) > 0) = false := decide_eq_false (by omega)
    have d3 : decide (0 < m) = false := decide_eq_false (by omega)
    have d4 : decide ((0 : Int) < (m : Int)) = false := decide_eq_false (by omega)
    clear h0
    go_enter Try.func46, Try.ntmps46
    go_wp2_with fail
    go_ret
    exact ⟨none, 0, rfl, Room.nil _ _ _, Chg.refl _ _⟩
  · have d2 : decide ((m : Int) > 0) = true := decide_eq_true (by omega)
    have d3 : decide (0 < m) = true := decide_eq_true (by omega)
    have d4 : decide ((0 : Int) < (m : Int)) = true := decide_eq_true (by omega)
    have hm1 : 0 + m ≤ maxLen := by unfold maxLen; omega
    clear h0
    go_enter Try.func46, Try.ntmps46
    go_wp2_with (at_builtin; refine wpList_append_zeros_k w rfl (.tmp 20) (.tmp 21) 22 3 rfl 25 8 eltU (.int .u64 0) (by kernel_rfl) rfl rfl .i64 .i64 Try.underlying3 w.heap.size none 0 0 [] rfl (Room.nil _ _ _) (Nat.le_refl _) m rfl hm1 (by omega) ?_; intro a c w2 r2 g2 f2; have r3 := (show Room w2 w.heap.size a (0 + m) c _ from r2); have hsl := fun u : World => run_take_k (P := Try.prog) (t := 22) (e := 25) a (0 + m) c 0 Try.underlying22 (by kernel_rfl) (Nat.zero_le _) u)
    go_ret
    rw [fp_none] at g2
    exact ⟨a, c, rfl, r3.trim, g2⟩
/-- A row of slices, and what they hold. -/
def slv (q : Option Addr × Nat × Nat) : Value := .slice q.1 q.2.1 q.2.2
def RowsAt (w : World) (Q : List (Option Addr × Nat × Nat)) (LL : List (List Nat)) : Prop := Q.length = LL.length ∧ ∀ (i : Nat) (q : Option Addr × Nat × Nat) (L : List Nat), Q[i]? = some q → LL[i]? = some L → Reads w q.1 (uvs L) ∧ L.length = q.2.1
theorem RowsAt.keep {w w' : World} {Q : List (Option Addr × Nat × Nat)} {LL : List (List Nat)} (h : RowsAt w Q LL) (g : Chg [] w w') : RowsAt w' Q LL := ⟨h.1, fun i q L a b => ⟨(h.2 i q L a b).1.keep g, (h.2 i q L a b).2⟩⟩
theorem flat_succ {LL : List (List Nat)} {k : Nat} {L : List Nat} (h : LL[k]? = some L) : (LL.take (k + 1)).flatten = (LL.take k).flatten ++ L := by
  obtain ⟨hl, rfl⟩ := List.getElem?_eq_some_iff.1 h
  rw [List.take_succ_eq_append_getElem hl, List.flatten_append]
  simp only [List.flatten_cons, List.flatten_nil, List.append_nil]
theorem flat_le (LL : List (List Nat)) (k : Nat) : (LL.take k).flatten.length ≤ LL.flatten.length := by
  have : LL.flatten = (LL.take k).flatten ++ (LL.drop k).flatten := by rw [← List.flatten_append, List.take_append_drop]
  rw [this, List.length_append]
  omega
set_option maxRecDepth 20000 in
set_option maxHeartbeats 1000000 in
theorem concat_any (so : Option Addr) (n c : Nat) (Q : List (Option Addr × Nat × Nat)) (LL : List (List Nat)) (w : World) (h : Reads w so (Q.map slv)) (hn : Q.length = n) (hR : RowsAt w Q LL) (hb : LL.flatten.length ≤ 1000000000) (hnb : n ≤ 1000000000) :
    Calls Try.prog 39 #[.slice so n c] w fun e w' => ∃ a k, e = .returned (.slice a LL.flatten.length k) ∧ Room w' w.heap.size a LL.flatten.length k (uvs LL.flatten) ∧ Chg [] w w' := by
  have hlen : LL.length = n := by rw [← hR.1]; exact hn
  have HR := mkHid (And.intro hR (And.intro hn hlen))
  have HB := mkHid hb
  clear hR hn hlen hb
  go_enter Try.func39, Try.ntmps39
  go_wp2_with fail
  go_loopw [3, 11] (fun sv iv wr => ∃ k z : Nat, iv = .int .i64 k ∧ sv = .int .i64 z ∧ k ≤ n ∧ z = (LL.take k).flatten.length ∧ w = wr) (fun _ iv _ => n - (intOf iv).toNat)
  case atStart => exact ⟨0, 0, rfl, rfl, Nat.zero_le _, rfl, rfl⟩
  case round =>
    obtain ⟨k, z, rfl, rfl, hkn, hz, rfl⟩ := hrel
    have hzb : z ≤ 1000000000 := by rw [hz]; exact Nat.le_trans (flat_le LL k) HB.out
    have HZ := mkHid hz
    clear hz
    by_cases hlt : k < n
    · have d1 : decide (k < n) = true := decide_eq_true hlt
      have d2 : decide ((k : Int) < (n : Int)) = true := decide_eq_true (by omega)
      obtain ⟨L, hL⟩ : ∃ L, LL[k]? = some L := ⟨_, List.getElem?_eq_getElem (by rw [HR.out.2.2]; exact hlt)⟩
      obtain ⟨q, hq⟩ : ∃ q, Q[k]? = some q := ⟨_, List.getElem?_eq_getElem (by rw [HR.out.2.1]; exact hlt)⟩
      have hql := (HR.out.1.2 k q L hq hL).2
      obtain ⟨sb, so', rfl, ck, _⟩ := reads_lt h k (slv q) (by rw [List.getElem?_map, hq]; rfl)
      have hs := flat_succ hL
      have hle := Nat.le_trans (flat_le LL (k + 1)) HB.out
      obtain ⟨qa, qn, qc⟩ := q
      dsimp only [slv] at ck hql
      rw [hs, List.length_append] at hle
      have hzq : z + qn ≤ 1000000000 := by rw [HZ.out, ← hql]; exact hle
      obtain ⟨z2, hz2⟩ : ∃ z2, z + qn = z2 := ⟨_, rfl⟩
      have hz3 : (z : Int) + (qn : Int) = (z2 : Int) := by omega
      have d3 : decide ((z2 : Int) < 0) = false := decide_eq_false (by omega)
      have HS := mkHid (show z2 = (LL.take (k + 1)).flatten.length by rw [hs, List.length_append, ← HZ.out, hql]; omega)
      have hz2b : z2 ≤ 1000000000 := by omega
      clear hs hle hL hq hql hz2
      go_wp2_with fail
      exact ⟨⟨k + 1, z2, by first | rfl | go_num, by first | rfl | go_num, by omega, HS.out, by first | trivial | rfl⟩, by simp [intOf]; omega⟩
    · have hke : k = n := by omega
      have d1 : decide (k < n) = false := decide_eq_false hlt
      have d2 : decide ((k : Int) < (n : Int)) = false := decide_eq_false (by omega)
      have hzt : z = LL.flatten.length := by rw [HZ.out, hke, List.take_of_length_le (by rw [HR.out.2.2]; omega)]
      have HT := mkHid hzt
      clear hzt hke
      go_wp2_with fail
      refine (grow_any z hzb w).mono ?_
      rintro e w1 ⟨a1, c1, rfl, r1, g1⟩
      go_wp2_with fail
      have hsz := g1.size
      go_loopw [6, 27] (fun sv iv wr => ∃ (k z : Nat) (a : Option Addr) (cc : Nat), iv = .int .i64 k ∧ sv = .slice a z cc ∧ k ≤ n ∧ z = (LL.take k).flatten.length ∧ Room wr w.heap.size a z cc (uvs (LL.take k).flatten) ∧ Chg [] w wr) (fun _ iv _ => n - (intOf iv).toNat)
      case atStart => exact ⟨0, 0, a1, c1, rfl, rfl, Nat.zero_le _, rfl, r1, g1⟩
      case round =>
        clear r1 g1 hsz
        obtain ⟨k, z, a, cc, rfl, rfl, hkn, hz, hr, hg⟩ := hrel
        have HZ := mkHid hz
        clear hz
        by_cases hlt : k < n
        · have d1 : decide (k < n) = true := decide_eq_true hlt
          have d2 : decide ((k : Int) < (n : Int)) = true := decide_eq_true (by omega)
          obtain ⟨L, hL⟩ : ∃ L, LL[k]? = some L := ⟨_, List.getElem?_eq_getElem (by rw [HR.out.2.2]; exact hlt)⟩
          obtain ⟨q, hq⟩ : ∃ q, Q[k]? = some q := ⟨_, List.getElem?_eq_getElem (by rw [HR.out.2.1]; exact hlt)⟩
          have hqr := HR.out.1.2 k q L hq hL
          obtain ⟨sb, so', rfl, ck, _⟩ := reads_lt h k (slv q) (by rw [List.getElem?_map, hq]; rfl)
          have hs := flat_succ hL
          have hle := Nat.le_trans (flat_le LL (k + 1)) HB.out
          obtain ⟨qa, qn, qc⟩ := q
          dsimp only [slv] at ck hqr
          rw [hs, List.length_append] at hle
          have hzq : z + qn ≤ maxLen ∧ (z + qn) * 8 ≤ 140737488355328 := by unfold maxLen; rw [HZ.out, ← hqr.2]; omega
          have ck2 := hg.cellv ck (by simp)
          have hul : (uvs L).length = qn := by rw [uvs_len]; exact hqr.2
          have hrd := hqr.1.keep hg
          have hsz := hg.size
          have HS := mkHid (And.intro hs (show z + qn = (LL.take (k + 1)).flatten.length by rw [hs, List.length_append, ← HZ.out, hqr.2]))
          have HX := mkHid (And.intro hr (And.intro hrd (And.intro hul hg)))
          clear hs hle hL hq hqr ck hr hrd hul hg
          go_wp2_with (at_builtin; refine wpList_append_k _ rfl (.tmp 31) (.tmp 32) 22 rfl 25 8 eltU w.heap.size a z cc _ rfl HX.out.1 hsz qa qn qc (uvs L) rfl HX.out.2.1 HX.out.2.2.1 (uvs_one _) hzq.1 hzq.2 ?_; intro a5 c5 w5 r5 g5 f5; have HY := mkHid (And.intro r5 g5); clear r5 g5 f5)
          refine ⟨⟨k + 1, z + qn, a5, c5, by first | rfl | go_num, by first | rfl | go_num, by omega, HS.out.2, ?_, HX.out.2.2.2.own HY.out.2 HX.out.1⟩, by simp [intOf]; omega⟩
          rw [HS.out.1, uvs_append]
          exact HY.out.1
        · have hke : k = n := by omega
          have d1 : decide (k < n) = false := decide_eq_false hlt
          have d2 : decide ((k : Int) < (n : Int)) = false := decide_eq_false (by omega)
          have htk : LL.take k = LL := List.take_of_length_le (by rw [HR.out.2.2]; omega)
          rw [htk] at hr
          have hzz := HZ.out
          rw [htk] at hzz
          have HX := mkHid (And.intro hr (And.intro hzz hg))
          clear hr hzz hg htk hke
          go_wp2_with fail
          go_ret
          have hzz := HX.out.2.1
          subst hzz
          exact ⟨a, cc, rfl, HX.out.1, HX.out.2.2⟩
end Go.Proofs.Ytlaeonemlodhmaa
