/- A space beside other memory; two and three of them; the law's helpers: same, within, awake, whether a row is sorted. -/
import Derived.Test.YtoddiocjloehlaaPk
import Derived.Test.YtoddiocjloehlaaPs
import Derived.Test.YtoddiocjloehlaaE
namespace Go.Proofs.Ytoddiocjloehlaa
open Go.RowKit
set_option linter.unusedVariables false
set_option linter.unusedSimpArgs false
attribute [local go_sem ↓] Go.wp_at_zero Go.wp_at_succ

/-- Nothing of R has turned. -/
def Off (R : List Nat) (w w' : World) : Prop := ∃ S, Chg S w w' ∧ ∀ k, k ∈ S → k ∉ R
theorem Off.keep {R : List Nat} {w w' : World} (c : Chg [] w w') : Off R w w' := ⟨[], c, by simp⟩
theorem Off.trans {R : List Nat} {a b c : World} (h : Off R a b) (g : Off R b c) : Off R a c := by
  obtain ⟨S, hS, h1⟩ := h
  obtain ⟨T, hT, h2⟩ := g
  exact ⟨S ++ T, hS.trans hT (fun k hk _ => List.mem_append_left _ hk) (fun k hk _ => List.mem_append_right _ hk), fun k hk => (List.mem_append.1 hk).elim (h1 k) (h2 k)⟩
theorem Off.less {R R' : List Nat} {w w' : World} (h : Off R w w') (hR : ∀ k, k ∈ R' → k ∈ R) : Off R' w w' := by
  obtain ⟨S, hS, h1⟩ := h
  exact ⟨S, hS, fun k hk h9 => h1 k hk (hR k h9)⟩
theorem Off.size {R : List Nat} {w w' : World} (h : Off R w w') : w.heap.size ≤ w'.heap.size := by obtain ⟨S, hS, _⟩ := h; exact hS.size
theorem Off.cellv {R : List Nat} {w w' : World} (h : Off R w w') {p : Addr} {v : Value} (hc : w.cell? p = some v) (hp : p.block ∈ R) : w'.cell? p = some v := by
  obtain ⟨S, hS, h1⟩ := h
  exact hS.cellv hc (fun hm => h1 _ hm hp)
theorem Off.room {R : List Nat} {w w' : World} (h : Off R w w') {B : Nat} {ao : Option Addr} {n c : Nat} {xs : List Value} (hr : Room w B ao n c xs) (hp : ∀ k, k ∈ fp ao c → k ∈ R) : Room w' B ao n c xs := by
  obtain ⟨S, hS, h1⟩ := h
  exact hr.chg hS (fun k hk hm => h1 k hm (hp k hk))
theorem Step.apart {w w' : World} {B sb : Nat} {F : List Nat} {Is : List Bool} {R : List Nat} (h : Step w w' B sb F Is) (hR : ∀ k, k ∈ R → k ∉ F ∧ k < w.heap.size) : ∃ F', SpAt w' B sb F' Is ∧ Chg F w w' ∧ ∀ k, k ∈ R → k ∉ F' ∧ k < w'.heap.size := by
  obtain ⟨F', hS, hc, hf⟩ := h
  refine ⟨F', hS, hc, fun k hk => ⟨fun hm => ?_, Nat.lt_of_lt_of_le (hR k hk).2 hc.size⟩⟩
  rcases hf k hm with h9 | h9
  · exact (hR k hk).1 h9
  · have := (hR k hk).2; omega

/-- A space; the blocks of R lie apart from it. -/
structure Solo (w0 w : World) (R : List Nat) (sb : Nat) (Is : List Bool) : Prop where
  s : ∃ F, SpAt w w0.heap.size sb F Is ∧ ∀ k, k ∈ R → k ∉ F ∧ k < w.heap.size
  c : Chg [] w0 w
theorem Solo.less {w0 w : World} {R R' : List Nat} {sb : Nat} {Is : List Bool} (h : Solo w0 w R sb Is) (hR : ∀ k, k ∈ R' → k ∈ R) : Solo w0 w R' sb Is := by
  obtain ⟨F, hS, hx⟩ := h.s
  exact ⟨⟨F, hS, fun k hk => hx k (hR k hk)⟩, h.c⟩
/-- New blocks lie apart, too. -/
theorem Solo.add {w0 w w' : World} {R : List Nat} {sb : Nat} {Is : List Bool} (h : Solo w0 w R sb Is) (g : Chg [] w w') (N : List Nat) (hN : ∀ k, k ∈ N → w.heap.size ≤ k ∧ k < w'.heap.size) : Solo w0 w' (N ++ R) sb Is := by
  obtain ⟨F, hS, hx⟩ := h.s
  refine ⟨⟨F, hS.keep g, fun k hk => ?_⟩, h.c.then g⟩
  rcases List.mem_append.1 hk with hk | hk
  · have := hN k hk
    exact ⟨fun hm => by have := (hS.lt k hm).2; omega, this.2⟩
  · exact ⟨(hx k hk).1, Nat.lt_of_lt_of_le (hx k hk).2 g.size⟩
theorem Solo.keep {w0 w w' : World} {R : List Nat} {sb : Nat} {Is : List Bool} (h : Solo w0 w R sb Is) (g : Chg [] w w') : Solo w0 w' R sb Is := h.add g [] (by simp)
/-- Something of R (new since w0) was written. -/
theorem Solo.wrote {w0 w w' : World} {R S : List Nat} {sb : Nat} {Is : List Bool} (h : Solo w0 w R sb Is) (g : Chg S w w') (hS : ∀ k, k ∈ S → k ∈ R ∧ w0.heap.size ≤ k) : Solo w0 w' R sb Is := by
  obtain ⟨F, hF, hx⟩ := h.s
  exact ⟨⟨F, hF.chg g (fun k hk hm => (hx k (hS k hm).1).1 hk), fun k hk => ⟨(hx k hk).1, Nat.lt_of_lt_of_le (hx k hk).2 g.size⟩⟩, h.c.trans g (by simp) (fun k hk hlt => by have := (hS k hk).2; omega)⟩
theorem solo_call {w0 w : World} {R : List Nat} {sb : Nat} {Is Is' : List Bool} {f : Nat} {args : Array Value} {post : Ending → Prop} (h : Solo w0 w R sb Is)
    (hc : ∀ F, SpAt w w0.heap.size sb F Is → Calls Try.prog f args w fun e w' => post e ∧ Step w w' w0.heap.size sb F Is') : Calls Try.prog f args w fun e w' => post e ∧ Solo w0 w' R sb Is' ∧ Off R w w' := by
  obtain ⟨F, hS, hx⟩ := h.s
  refine (hc F hS).mono ?_
  rintro e w' ⟨hp, hst⟩
  obtain ⟨F', h1, h2, h3⟩ := hst.apart hx
  exact ⟨hp, ⟨⟨F', h1, h3⟩, h.c.trans h2 (by simp) (fun k hk hlt => by have := (hS.lt k hk).1; omega)⟩, ⟨F, h2, fun k hk hm => (hx k hm).1 hk⟩⟩
section
variable {w0 w : World} {R : List Nat} {sb : Nat} {Is : List Bool} (h : Solo w0 w R sb Is)
include h
theorem solo_take : Calls Try.prog 10 #[.pointer (some ⟨sb, 0, none⟩)] w fun e w' => e = .returned (.tuple #[.int .i64 (takeN Is).1, .int .i64 (takeN Is).2.1]) ∧ Solo w0 w' R sb (takeN Is).2.2 ∧ Off R w w' := solo_call h fun F hS => take_any _ sb F Is w hS
theorem solo_claim (z : Int) : Calls Try.prog 12 #[.pointer (some ⟨sb, 0, none⟩), .int .i64 z] w fun e w' => e = .returned (.int .i64 (claimN Is z).1) ∧ Solo w0 w' R sb (claimN Is z).2 ∧ Off R w w' := solo_call h fun F hS => claim_any z _ sb F Is w hS
theorem solo_give (z : Int) : Calls Try.prog 14 #[.pointer (some ⟨sb, 0, none⟩), .int .i64 z] w fun e w' => e = .returned (.int .i64 (giveN Is z).1) ∧ Solo w0 w' R sb (giveN Is z).2 ∧ Off R w w' := solo_call h fun F hS => give_any z _ sb F Is w hS
theorem solo_free : Calls Try.prog 17 #[.pointer (some ⟨sb, 0, none⟩)] w fun e w' => e = .returned (.int .i64 (freeL Is).length) ∧ w = w' := by
  obtain ⟨F, hS, hx⟩ := h.s
  exact free_any _ sb F Is w hS
theorem solo_list : Calls Try.prog 19 #[.pointer (some ⟨sb, 0, none⟩)] w fun e w' => ∃ a c, e = .returned (.slice a (freeL Is).length c) ∧ Room w' w.heap.size a (freeL Is).length c (ivs (freeL Is)) ∧ Solo w0 w' (fp a c ++ R) sb Is ∧ Chg [] w w' := by
  obtain ⟨F, hS, hx⟩ := h.s
  refine (list_any _ sb F Is w hS).mono ?_
  rintro e w' ⟨a, c, he, hr, hg⟩
  exact ⟨a, c, he, hr, h.add hg (fp a c) (fun k hk => hr.lt k hk), hg⟩
theorem solo_small : Is.length ≤ 1024 := by
  obtain ⟨F, hS, hx⟩ := h.s
  exact hS.small
end
theorem new_solo (n : Nat) (hn : n ≤ 1024) (w0 w : World) (hc : Chg [] w0 w) (R : List Nat) (hR : ∀ k, k ∈ R → k < w.heap.size) : Calls Try.prog 7 #[.int .i64 n] w fun e w' => ∃ sb, e = .returned (.tuple #[.pointer (some ⟨sb, 0, none⟩), .int .i64 0]) ∧ Solo w0 w' R sb (List.replicate n true) ∧ Chg [] w w' := by
  refine (new_yes n hn w).mono ?_
  rintro e w' ⟨sb, F, he, hS, hg⟩
  exact ⟨sb, he, ⟨⟨F, hS.mono hc.size, fun k hk => ⟨fun hm => by have := (hS.lt k hm).1; have := hR k hk; omega, Nat.lt_of_lt_of_le (hR k hk) hg.size⟩⟩, hc.then hg⟩, hg⟩
/-- Two rows of integers compared. -/
theorem same_any (a : Option Addr) (n c : Nat) (b : Option Addr) (m d : Nat) (L M : List Int) (w : World) (g : Reads w a (zvs L)) (hl : L.length = n) (h : Reads w b (zvs M)) (hm : M.length = m) (hn : n ≤ 1000000000) :
    Calls Try.prog 20 #[.slice a n c, .slice b m d] w fun e w' => e = .returned (.bool (decide (L = M))) ∧ Chg [] w w' := by
  by_cases hnm : n = m
  · subst hnm
    go_enter Try.func20, Try.ntmps20
    go_wp2_with fail
    go_loopw [13] (fun v wr => ∃ k : Nat, v = .int .i64 k ∧ k ≤ n ∧ L.take k = M.take k ∧ Chg [] w wr) (fun v _ => n - (intOf v).toNat)
    case atStart => exact ⟨0, rfl, Nat.zero_le _, by simp, Chg.refl _ _⟩
    case round =>
      obtain ⟨k, rfl, hk, he, hg⟩ := hrel
      by_cases hlt : k < n
      · have hd : decide (k < n) = true := decide_eq_true hlt
        have hd2 : decide ((k : Int) < (n : Int)) = true := decide_eq_true (by omega)
        have g1 := g.keep hg
        have h1 := h.keep hg
        have kL : k < L.length := by omega
        have kM : k < M.length := by omega
        obtain ⟨ab, ao, rfl, ca, _⟩ := reads_lt g1 k _ (zvs_get (List.getElem?_eq_getElem kL))
        obtain ⟨bb, bo, rfl, cb, _⟩ := reads_lt h1 k _ (zvs_get (List.getElem?_eq_getElem kM))
        have hLM : L.take (k + 1) = M.take (k + 1) ↔ L[k] = M[k] := by
          rw [List.take_succ_eq_append_getElem kL, List.take_succ_eq_append_getElem kM, he]
          exact ⟨fun h => by simpa using List.append_cancel_left h, fun h => by rw [h]⟩
        have HLM := mkHid hLM
        generalize L[k] = x at *
        generalize M[k] = y at *
        clear he hLM
        by_cases hxy : x = y
        · have hq : (x != y) = false := by simp [hxy]
          have Hxy := mkHid hxy
          clear hxy
          go_wp2_with fail
          go_quiet (fail)
          go_wp2_with fail
          exact ⟨⟨k + 1, by first | rfl | go_num, by omega, HLM.out.2 Hxy.out, hg.then (Chg.drewN _ _)⟩, by simp [intOf]; omega⟩
        · have hq : (x != y) = true := by simp [hxy]
          have Hxy := mkHid hxy
          clear hxy
          go_wp2_with fail
          go_quiet (fail)
          go_wp2_with fail
          go_ret
          have hne : L ≠ M := fun e => Hxy.out (HLM.out.1 (by rw [e]))
          rw [decide_eq_false hne]
          exact ⟨rfl, hg.then (Chg.drewN _ _)⟩
      · have hkn : k = n := by omega
        subst hkn
        have hd : decide (k < k) = false := by simp
        have hLM : L = M := by rwa [List.take_of_length_le (by omega), List.take_of_length_le (by omega)] at he
        have HLM := mkHid hLM
        clear he hLM
        go_wp2_with fail
        go_ret
        rw [decide_eq_true HLM.out]
        exact ⟨rfl, hg⟩
  · have hne : ((n : Int) != (m : Int)) = true := by simp; omega
    have hne2 : (n != m) = true := by simp; omega
    have hLM : L ≠ M := fun e => hnm (by rw [← hl, ← hm, e])
    rw [decide_eq_false hLM]
    clear hLM hl hm
    go_enter Try.func20, Try.ntmps20
    go_wp2_with fail
    go_ret
    exact ⟨rfl, Chg.refl _ _⟩
/-- A number from 0 to n - 1. -/
theorem within_any (z : Int) (hz : (Lit.int .i64 z).wf = true) (n : Nat) (h0 : 0 < n) (hn : n ≤ 1000000000) (w : World) :
    Calls Try.prog 21 #[.int .i64 z, .int .i64 n] w fun e w' => ∃ r : Nat, r < n ∧ e = .returned (.int .i64 r) ∧ w = w' := by
  have hw : IntKind.u64.wrap z = z % 18446744073709551616 := by
    unfold IntKind.wrap
    simp [IntKind.signed, IntKind.bits]
  have h1 : 0 ≤ z % 18446744073709551616 := Int.emod_nonneg _ (by decide)
  have ht : (z % 18446744073709551616).tmod (n : Int) = z % 18446744073709551616 % (n : Int) := Int.tmod_eq_emod_of_nonneg h1
  have h2 := Int.emod_nonneg (z % 18446744073709551616) (b := (n : Int)) (by omega)
  have h3 := Int.emod_lt_of_pos (z % 18446744073709551616) (b := (n : Int)) (by omega)
  obtain ⟨r, hr⟩ : ∃ r : Nat, wrap64 ((IntKind.u64.wrap z).tmod (n : Int)) = (r : Int) := by
    rw [hw, ht]
    generalize z % 18446744073709551616 % (n : Int) = y at *
    refine ⟨y.toNat, ?_⟩
    unfold wrap64
    omega
  have hlt : r < n := by
    rw [hw, ht] at hr
    generalize z % 18446744073709551616 % (n : Int) = y at *
    unfold wrap64 at hr
    omega
  have HR := mkHid hr
  clear hw h1 ht h2 h3 hr
  have hne : ((n : Int) == 0) = false := beq_eq_false_iff_ne.2 (by omega)
  go_enter Try.func21, Try.ntmps21
  go_wp2_with fail
  go_ret
  exact ⟨r, hlt, ret_int HR.out, rfl⟩
theorem less_ints (a b : Int) (w : World) : Calls Try.prog 39 #[.int .i64 a, .int .i64 b] w fun e w' => e = .returned (.bool (decide (a < b))) ∧ w = w' := by
  have hN : ∀ z : Int, Calls Try.prog 52 #[.int .i64 z] w fun e w' => e = .returned (.bool false) ∧ w = w' := fun z => by
    have hne : (z != z) = false := by simp
    go_enter Try.func52, Try.ntmps52
    go_wp2
    go_ret
    exact ⟨rfl, rfl⟩
  go_enter Try.func39, Try.ntmps39
  go_wp2_with (first | (go_at_call 52; refine (hN _).mono ?_; rintro e w' ⟨rfl, rfl⟩))
  go_ret
  exact ⟨rfl, rfl⟩
set_option maxRecDepth 20000 in
/-- A rising row is sorted. -/
theorem sorted_any (a : Option Addr) (n c : Nat) (L : List Nat) (w : World) (g : Reads w a (ivs L)) (hl : L.length = n) (hn : n ≤ 1000000) (hp : L.Pairwise (· < ·)) :
    Calls Try.prog 22 #[.slice a n c] w fun e w' => e = .returned (.bool true) ∧ Chg [] w w' := by
  have hS : Calls Try.prog 32 #[.slice a n c] w fun e w' => e = .returned (.bool true) ∧ Chg [] w w' := by
    go_enter Try.func32, Try.ntmps32
    go_wp2_with fail
    go_loopw [3] (fun v wr => ∃ k : Int, v = .int .i64 k ∧ -1 ≤ k ∧ k < (n : Int) ∧ Chg [] w wr) (fun v _ => ((intOf v) + 1).toNat)
    case atStart => exact ⟨(n : Int) - 1, by first | rfl | go_num, by omega, by omega, Chg.refl _ _⟩
    case round =>
      obtain ⟨k, rfl, hk0, hk, hg⟩ := hrel
      by_cases hlt : 0 < k
      · have hd : decide (k > 0) = true := decide_eq_true hlt
        have hd2 : decide (0 < k) = true := decide_eq_true hlt
        obtain ⟨q, rfl⟩ : ∃ q : Nat, k = (q : Int) := ⟨k.toNat, by omega⟩
        obtain ⟨m, hm⟩ : ∃ m : Nat, (q : Int) - 1 = (m : Int) := ⟨q - 1, by omega⟩
        have hd3 : decide (0 < q) = true := decide_eq_true (by omega)
        have g1 := g.keep hg
        have kL : q < L.length := by omega
        have kM : m < L.length := by omega
        have hqn : q < n := by omega
        have hmn : m < n := by omega
        obtain ⟨ab, ao, rfl, ca, _⟩ := reads_lt g1 q _ (ivs_get kL)
        obtain ⟨b', o', e9, cb, _⟩ := reads_lt g1 m _ (ivs_get kM)
        cases e9
        have hlt2 := (List.pairwise_iff_getElem.1 hp) m q kM kL (by omega)
        have hf : decide ((L[q] : Int) < (L[m] : Int)) = false := decide_eq_false (by omega)
        have hC := less_ints (L[q] : Int) (L[m] : Int)
        rw [hf] at hC
        generalize L[q] = x at *
        generalize L[m] = y at *
        clear hf hlt2 hd hp g g1 kL kM
        go_wp2_with fail
        go_quiet (first | (go_at_call 39; exact Calls.quiet_of_same ((hC _).mono fun _ _ h => ⟨h.1, h.2.symm⟩)))
        go_wp2_with fail
        exact ⟨⟨(m : Int), by first | rfl | go_num, by omega, by omega, hg.then (Chg.drewN _ _)⟩, by simp [intOf]; omega⟩
      · have hd : decide (k > 0) = false := decide_eq_false hlt
        have hd2 : decide (0 < k) = false := decide_eq_false hlt
        go_wp2_with fail
        go_ret
        exact ⟨rfl, hg⟩
  go_enter Try.func22, Try.ntmps22
  go_wp2_with (first | (go_at_call 32; refine hS.mono ?_; rintro e w' ⟨rfl, hg⟩))
  go_ret
  exact ⟨rfl, hg⟩
end Go.Proofs.Ytoddiocjloehlaa
