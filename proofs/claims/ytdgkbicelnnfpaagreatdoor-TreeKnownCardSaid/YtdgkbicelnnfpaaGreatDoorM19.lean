/- Texts Ic, Tc, Td, Te, Tf of the library, joined. -/
import Derived.Test.YtdgkbicelnnfpaaGreatDoorM01
import Derived.Test.YtdgkbicelnnfpaaGreatDoorM18
import Derived.Recover
import Derived.Deep.RegionLaw
/- How far keys go that are such; the reference's Pairs, Find, Child. -/
namespace Go.Proofs.YtdgkbicelnnfpaaGreatDoor
open Go.RowKit
set_option linter.unusedVariables false
set_option linter.unusedSimpArgs false
attribute [local go_sem ↓] Go.wp_at_zero Go.wp_at_succ

/-- How many pairs. -/
def np (K V : List Nat) : Nat := min K.length V.length
/-- How many pairs, from the first one on, have such keys. -/
def runN (p : Nat → Bool) (K V : List Nat) : Nat := ((K.take (np K V)).takeWhile p).length
/-- Where a key stands or is to be put; whether it stands there. -/
def findN (x : Nat) (K V : List Nat) : Nat := runN (fun k => decide (k < x)) K V
def isN (x : Nat) (K V : List Nat) : Bool := decide ((K.take (np K V))[findN x K V]? = some x)
def childN (x : Nat) (K V : List Nat) : Nat := runN (fun k => decide (k ≤ x)) K V - 1
theorem tw_le {L : List Nat} {p : Nat → Bool} : (L.takeWhile p).length ≤ L.length := (List.takeWhile_sublist p).length_le
theorem tw_step {p : Nat → Bool} : ∀ {L : List Nat} {k y : Nat}, k ≤ (L.takeWhile p).length → L[k]? = some y → p y = true → k + 1 ≤ (L.takeWhile p).length
  | [], k, y, _, h, _ => by simp at h
  | a :: L, 0, y, _, h, hp => by
    simp at h
    subst h
    simp [List.takeWhile_cons, hp]
  | a :: L, k + 1, y, hk, h, hp => by
    simp only [List.getElem?_cons_succ] at h
    rw [List.takeWhile_cons] at hk ⊢
    split at hk
    · rename_i ha
      rw [if_pos ha]
      have := tw_step (L := L) (k := k) (by simp at hk; omega) h hp
      simp; omega
    · simp at hk
theorem tw_stop {p : Nat → Bool} : ∀ {L : List Nat} {k y : Nat}, k ≤ (L.takeWhile p).length → L[k]? = some y → p y = false → (L.takeWhile p).length = k
  | [], k, y, _, h, _ => by simp at h
  | a :: L, 0, y, _, h, hp => by
    simp at h
    subst h
    simp [List.takeWhile_cons, hp]
  | a :: L, k + 1, y, hk, h, hp => by
    simp only [List.getElem?_cons_succ] at h
    rw [List.takeWhile_cons] at hk ⊢
    split at hk
    · rename_i ha
      rw [if_pos ha]
      have := tw_stop (L := L) (k := k) (by simp at hk; omega) h hp
      simp; omega
    · simp at hk
theorem np_le {K V : List Nat} : np K V ≤ K.length ∧ np K V ≤ V.length := ⟨Nat.min_le_left _ _, Nat.min_le_right _ _⟩
theorem take_np {K V : List Nat} {k : Nat} (h : k < np K V) : (K.take (np K V))[k]? = K[k]? := by rw [List.getElem?_take, if_pos h]
theorem run_le (p : Nat → Bool) (K V : List Nat) : runN p K V ≤ np K V := Nat.le_trans tw_le (by rw [List.length_take]; exact Nat.min_le_left _ _)
theorem run_step {p : Nat → Bool} {K V : List Nat} {k y : Nat} (hk : k ≤ runN p K V) (hlt : k < np K V) (hy : K[k]? = some y) (hp : p y = true) : k + 1 ≤ runN p K V := tw_step hk (by rw [take_np hlt]; exact hy) hp
theorem run_stop {p : Nat → Bool} {K V : List Nat} {k y : Nat} (hk : k ≤ runN p K V) (hlt : k < np K V) (hy : K[k]? = some y) (hp : p y = false) : runN p K V = k := tw_stop hk (by rw [take_np hlt]; exact hy) hp
theorem run_end {p : Nat → Bool} {K V : List Nat} {k : Nat} (hk : k ≤ runN p K V) (hlt : ¬ k < np K V) : runN p K V = k := by have := run_le p K V; omega
theorem is_end {x : Nat} {K V : List Nat} (h : ¬ findN x K V < np K V) : isN x K V = false := by
  unfold isN
  rw [decide_eq_false]
  intro he
  rw [List.getElem?_take, if_neg h] at he
  cases he
theorem is_at {x : Nat} {K V : List Nat} {y : Nat} (h : findN x K V < np K V) (hy : K[findN x K V]? = some y) : isN x K V = decide (y = x) := by
  unfold isN
  rw [take_np h, hy]
  simp
theorem min_np {kl vl : Nat} {K V : List Nat} (hk : K.length = kl) (hv : V.length = vl) : min kl vl = np K V := by unfold np; rw [hk, hv]

theorem step3 {a0 a1 a2 : Addr} {v0 v1 v2 : Value} {W u u' : World} (h : u.cell? a0 = some v0 ∧ u.cell? a1 = some v1 ∧ u.cell? a2 = some v2 ∧ Chg [] W u) (g : Chg [] u u') : u'.cell? a0 = some v0 ∧ u'.cell? a1 = some v1 ∧ u'.cell? a2 = some v2 ∧ Chg [] W u' :=
  ⟨g.cellv h.1 (by simp), g.cellv h.2.1 (by simp), g.cellv h.2.2.1 (by simp), h.2.2.2.then g⟩
theorem step4 {a0 a1 a2 a3 : Addr} {v0 v1 v2 v3 : Value} {W u u' : World} (h : u.cell? a0 = some v0 ∧ u.cell? a1 = some v1 ∧ u.cell? a2 = some v2 ∧ u.cell? a3 = some v3 ∧ Chg [] W u) (g : Chg [] u u') : u'.cell? a0 = some v0 ∧ u'.cell? a1 = some v1 ∧ u'.cell? a2 = some v2 ∧ u'.cell? a3 = some v3 ∧ Chg [] W u' :=
  ⟨g.cellv h.1 (by simp), g.cellv h.2.1 (by simp), g.cellv h.2.2.1 (by simp), g.cellv h.2.2.2.1 (by simp), h.2.2.2.2.then g⟩
theorem pick3 {p0 p1 p2 q : Prop} (h : p0 ∧ p1 ∧ p2 ∧ q) : q := h.2.2.2
theorem pick4 {p0 p1 p2 p3 q : Prop} (h : p0 ∧ p1 ∧ p2 ∧ p3 ∧ q) : q := h.2.2.2.2

set_option maxRecDepth 20000 in
theorem pairs_any (lf : Bool) (ka : Option Addr) (kl kc : Nat) (va : Option Addr) (vl vc : Nat) (P : Nat) (hP : min kl vl = P) (w : World) : Calls Tryz.prog 150 #[.agg #[.bool lf, .slice ka kl kc, .slice va vl vc]] w fun e w' => e = .returned (.int .i64 (P : Int)) ∧ Chg [] w w' := by
  by_cases h : kl ≤ vl
  · obtain rfl : kl = P := by omega
    have d1 : decide (kl ≤ vl) = true := decide_eq_true h
    have d2 : decide ((kl : Int) ≤ (vl : Int)) = true := decide_eq_true (by omega)
    have d3 : ((kl : Int) ≤ (vl : Int)) = True := eq_true (by omega)
    clear hP
    go_enter Tryz.func150, Tryz.ntmps150
    go_wp2_with fail
    go_ret
    exact ⟨ret_int (by omega), Chg.alloc [] _ _⟩
  · obtain rfl : vl = P := by omega
    have d1 : decide (kl ≤ vl) = false := decide_eq_false h
    have d2 : decide ((kl : Int) ≤ (vl : Int)) = false := decide_eq_false (by omega)
    have d3 : ((kl : Int) ≤ (vl : Int)) = False := eq_false (by omega)
    clear hP
    go_enter Tryz.func150, Tryz.ntmps150
    go_wp2_with fail
    go_ret
    exact ⟨ret_int (by omega), Chg.alloc [] _ _⟩
end Go.Proofs.YtdgkbicelnnfpaaGreatDoor

/- Errors that end a way: must, sure; a block's number. -/
namespace Go.Proofs.YtdgkbicelnnfpaaGreatDoor
set_option maxRecDepth 20000
open Go.RowKit
set_option linter.unusedVariables false
set_option linter.unusedSimpArgs false
attribute [local go_sem ↓] Go.wp_at_zero Go.wp_at_succ

/-- An error that was thrown. -/
def Thrown (z : Int) : Ending := .panicked [{ v := .iface 55 (.int .i64 z), recovered := false }]
theorem must_ok (w : World) : Calls Tryz.prog 123 #[.int .i64 0] w fun e w' => e = .returned (.tuple #[]) ∧ w = w' := by
  go_enter Tryz.func123, Tryz.ntmps123
  go_wp2
  go_end0
  exact ⟨rfl, rfl⟩
theorem must_no (z : Int) (hz : z ≠ 0) (w : World) : Calls Tryz.prog 123 #[.int .i64 z] w fun e w' => e = Thrown z ∧ w = w' := by
  have h1 : (z != 0) = true := by simpa using hz
  go_enter Tryz.func123, Tryz.ntmps123
  go_wp2
  exact ⟨rfl, rfl, rfl⟩
theorem sureint_ok (x : Int) (w : World) : Calls Tryz.prog 122 #[.int .i64 x, .int .i64 0] w fun e w' => e = .returned (.int .i64 x) ∧ w = w' := by
  go_enter Tryz.func122, Tryz.ntmps122
  go_wp2_with (first | (go_at_call 123; refine (must_ok _).mono ?_; rintro e w' ⟨rfl, rfl⟩))
  go_ret
  exact ⟨rfl, rfl⟩
theorem sureint_no (x : Int) (z : Int) (hz : z ≠ 0) (w : World) : Calls Tryz.prog 122 #[.int .i64 x, .int .i64 z] w fun e w' => e = Thrown z ∧ w = w' := by
  go_enter Tryz.func122, Tryz.ntmps122
  go_wp2_with (first | (go_at_call 123; refine (must_no z hz _).mono ?_; rintro e w' ⟨rfl, rfl⟩; unfold Thrown))
  exact ⟨rfl, rfl, rfl⟩
theorem sureu64_ok (x : Int) (w : World) : Calls Tryz.prog 157 #[.int .u64 x, .int .i64 0] w fun e w' => e = .returned (.int .u64 x) ∧ w = w' := by
  go_enter Tryz.func157, Tryz.ntmps157
  go_wp2_with (first | (go_at_call 123; refine (must_ok _).mono ?_; rintro e w' ⟨rfl, rfl⟩))
  go_ret
  exact ⟨rfl, rfl⟩
theorem surebool_ok (x : Bool) (w : World) : Calls Tryz.prog 163 #[.bool x, .int .i64 0] w fun e w' => e = .returned (.bool x) ∧ w = w' := by
  go_enter Tryz.func163, Tryz.ntmps163
  go_wp2_with (first | (go_at_call 123; refine (must_ok _).mono ?_; rintro e w' ⟨rfl, rfl⟩))
  go_ret
  exact ⟨rfl, rfl⟩
theorem surenode_ok (lf : Bool) (ka : Option Addr) (kl kc : Nat) (va : Option Addr) (vl vc : Nat) (w : World) : Calls Tryz.prog 120 #[.agg #[.bool lf, .slice ka kl kc, .slice va vl vc], .int .i64 0] w fun e w' => e = .returned (.agg #[.bool lf, .slice ka kl kc, .slice va vl vc]) ∧ Chg [] w w' := by
  go_enter Tryz.func120, Tryz.ntmps120
  go_wp2_with (first | (go_at_call 123; refine (must_ok _).mono ?_; rintro e w' ⟨rfl, rfl⟩))
  refine bodyPost_ret (v := .agg #[.bool lf, .slice ka kl kc, .slice va vl vc]) (by simp [results, Tryz.results120, go_sem]) rfl ⟨rfl, ?_⟩
  exact (Chg.alloc [] w _).then (Chg.alloc [] _ _)
/-- A block's number, as the Refs take it. -/
def blkI (a : Nat) : Int := if 2147483647 < a then -1 else (a : Int)
theorem block_no (a : Nat) (w : World) : Calls Tryz.prog 121 #[.int .u64 (a : Int)] w fun e w' => e = .returned (.int .i64 (blkI a)) ∧ w = w' := by
  unfold blkI
  by_cases h : 2147483647 < a
  · have hd : decide ((2147483647 : Int) < (a : Int)) = true := decide_eq_true (by omega)
    rw [if_pos h]
    go_enter Tryz.func121, Tryz.ntmps121
    go_wp2
    go_ret
    exact ⟨rfl, rfl⟩
  · have hd : decide ((2147483647 : Int) < (a : Int)) = false := decide_eq_false (by omega)
    have h9 : (a : Int) ≤ 2147483647 := by omega
    rw [if_neg h]
    go_enter Tryz.func121, Tryz.ntmps121
    go_wp2
    go_ret
    exact ⟨rfl, rfl⟩
end Go.Proofs.YtdgkbicelnnfpaaGreatDoor

/- Load: the node at a block. -/
namespace Go.Proofs.YtdgkbicelnnfpaaGreatDoor
set_option maxRecDepth 200000
open Go.RowKit Go.Maps
set_option linter.unusedVariables false
set_option linter.unusedSimpArgs false
attribute [local go_sem ↓] Go.wp_at_zero Go.wp_at_succ

/-- What Load tells: an error; the node. -/
def loadN (Y : Nat → List UInt8) (n a : Nat) : Int × Nd :=
  if 2147483647 < a then (1, ⟨false, [], []⟩) else if n ≤ a then (6, ⟨false, [], []⟩) else if opens (Y a) a 1 ≠ 0 then ((opens (Y a) a 1 : Int), ⟨false, [], []⟩)
  else ((takeN ((Y a).take 240)).1, ⟨(takeN ((Y a).take 240)).2.1, (takeN ((Y a).take 240)).2.2.1, (takeN ((Y a).take 240)).2.2.2⟩)
/-- The cells of a node's block, that may be written. -/
theorem cells3 {w : World} {b : Nat} (h : w.there b 0 3) : (∃ v0 v1 v2, w.cell? ⟨b, 0, none⟩ = some v0 ∧ w.cell? ⟨b, 1, none⟩ = some v1 ∧ w.cell? ⟨b, 2, none⟩ = some v2) ∧ w.frozen? ⟨b, 0, none⟩ = false ∧ w.frozen? ⟨b, 1, none⟩ = false ∧ w.frozen? ⟨b, 2, none⟩ = false := by
  obtain ⟨v0, r0⟩ := Option.isSome_iff_exists.1 (h 0 (by decide)).1
  obtain ⟨v1, r1⟩ := Option.isSome_iff_exists.1 (h 1 (by decide)).1
  obtain ⟨v2, r2⟩ := Option.isSome_iff_exists.1 (h 2 (by decide)).1
  have q0 := (h 0 (by decide)).2
  have q1 := (h 1 (by decide)).2
  have q2 := (h 2 (by decide)).2
  simp only [Nat.zero_add] at r0 r1 r2 q0 q1 q2
  exact ⟨⟨v0, v1, v2, r0, r1, r2⟩, q0, q1, q2⟩
theorem Mv.there {tag tag' : Nat → Nat} {w w' : World} (m : Mv tag tag' w w') {b o n : Nat} (h : w.there b o n) (hb : tag b = 4) : w'.there b o n := by
  obtain ⟨S, hS, h1⟩ := m.c
  exact there_chg h hS (fun hm => (h1 b hm).elim (by omega) (by omega))
theorem took_bound {l : List UInt8} : (∀ x ∈ (takeN l).2.2.1, x < 2 ^ 64) ∧ (∀ x ∈ (takeN l).2.2.2, x < 2 ^ 64) ∧ (takeN l).2.2.1.length ≤ 8 ∧ (takeN l).2.2.2.length ≤ 8 := by
  generalize hr : takeN l = r
  obtain ⟨e, lf, K, V⟩ := r
  by_cases he : e = 0
  · subst he
    obtain ⟨h1, h2, h3, -⟩ := took_node hr
    obtain ⟨l1, l2, l3⟩ := may_len h1
    exact ⟨h2, h3, l2, by dsimp only; omega⟩
  · obtain ⟨-, rfl, rfl⟩ := took_not hr he
    simp
section
variable {w0 w : World} {tag : Nat → Nat} {sb rb n : Nat} {N C : List UInt8} {Y : Nat → List UInt8} {u : Nat}
def LoadPost (w0 w : World) (tag : Nat → Nat) (sb rb n : Nat) (N C : List UInt8) (Y : Nat → List UInt8) (u : Nat) (r : Int × Nd) (e : Ending) (w' : World) : Prop :=
  ∃ m : CN, e = .returned (.tuple #[m.val, .int .i64 r.1]) ∧ m.nd = r.2 ∧ ∃ tag', HasF w0 w' tag' sb rb n N C Y u ∧ Mv tag tag' w w' ∧ NdAt w' tag' m
theorem load_any (hT : Tab w0) (h : HasF w0 w tag sb rb n N C Y u) (a : Nat) (ha : a < 2 ^ 64) (hu : u ≤ 100000000) (r : Int × Nd) (hr : loadN Y n a = r) : Calls Tryz.prog 17 #[.pointer (some ⟨sb, 0, none⟩), .int .u64 (a : Int)] w (LoadPost w0 w tag sb rb n N C Y (u + 1) r) := by
  have t0 := start_there w
  have g0 := Chg.alloc [] w (.cells #[.bool false, .slice none 0 0, .slice none 0 0] 53)
  have h0 := h.keep g0
  have hz0 : (w.alloc (.cells #[.bool false, .slice none 0 0, .slice none 0 0] 53)).heap.size = w.heap.size + 1 := by simp
  have tb : tag w.heap.size = 4 := h.l.hi _ (Nat.le_refl _)
  have M0 := Mv.made g0 h.l.hi
  unfold loadN at hr
  by_cases c1 : 2147483647 < a
  · rw [if_pos c1] at hr
    subst hr
    have cA := asked_noT a c1 h0
    obtain ⟨⟨v0, v1, v2, r0, r1, r2⟩, q0, q1, q2⟩ := cells3 t0
    go_enter Tryz.func17, Tryz.ntmps17
    go_wp2_with fail
    generalize (w.alloc (.cells #[.bool false, .slice none 0 0, .slice none 0 0] 53)) = w1 at *
    refine cA.mono ?_
    rintro e w' ⟨rfl, rfl⟩
    go_wp2_with fail
    refine bodyPost_ret (v := .tuple #[CN.none.val, .int .i64 1]) (by simp [results, Tryz.results17, go_sem, r0, r1, r2, CN.val, CN.none]) rfl ⟨CN.none, rfl, rfl, tag, ?_, ?_, NdAt.none _ _⟩
    · exact (((h0.set tb).set tb).set tb).mono (by omega)
    · exact M0.wrote (three_chg w1 w.heap.size _ _ _) (fun k hk => by simp at hk; omega)
  · rw [if_neg c1] at hr
    have cA := asked_yesT a (by omega) h0
    have hcv : IntKind.i64.wrap (a : Int) = (a : Int) := Go.IntWalk.i64_in _ (by omega)
    obtain ⟨cb, hk, hs1⟩ := h0.k
    have HT := mkHid hT
    by_cases c2 : n ≤ a
    · rw [if_pos c2] at hr
      subst hr
      have cG := k_get_no hk h0.l (a : Int) (Or.inr (by omega)) hu
      go_enter Tryz.func17, Tryz.ntmps17
      go_wp2_with fail
      generalize (w.alloc (.cells #[.bool false, .slice none 0 0, .slice none 0 0] 53)) = w1 at *
      refine cA.mono ?_
      rintro e w' ⟨rfl, rfl⟩
      go_wp2_with fail
      refine cG.mono ?_
      rintro e w2 ⟨ao, c, rfl, tag2, k2, l2, tt2, m2⟩
      have t2 := m2.there t0 tb
      have tb2 := m2.four tb (by omega)
      have h2 := h0.cache k2 l2 tt2 hs1
      have M2 := M0.trans m2
      obtain ⟨⟨v0, v1, v2, r0, r1, r2⟩, q0, q1, q2⟩ := cells3 t2
      go_wp2_with fail
      refine bodyPost_ret (v := .tuple #[CN.none.val, .int .i64 6]) (by simp [results, Tryz.results17, go_sem, r0, r1, r2, CN.val, CN.none]) rfl ⟨CN.none, rfl, rfl, tag2, ?_, ?_, NdAt.none _ _⟩
      · exact ((h2.set tb2).set tb2).set tb2
      · exact M2.wrote (three_chg w2 w.heap.size _ _ _) (fun k hk => by simp at hk; omega)
    · rw [if_neg c2] at hr
      have cG := k_get hk h0.l a (by omega) hu
      generalize hY : Y a = y at *
      by_cases c3 : opens y a 1 = 0
      · rw [if_neg (by simpa using c3)] at hr
        have HR := mkHid hr
        clear hr
        go_enter Tryz.func17, Tryz.ntmps17
        go_wp2_with fail
        generalize (w.alloc (.cells #[.bool false, .slice none 0 0, .slice none 0 0] 53)) = w1 at *
        refine cA.mono ?_
        rintro e w' ⟨rfl, rfl⟩
        go_wp2_with fail
        refine cG.mono ?_
        rintro e w2 ⟨ao, c, rfl, rm, tag2, k2, l2, tt2, m2, tf⟩
        have t2 := m2.there t0 tb
        have tb2 := m2.four tb (by omega)
        have h2 := h0.cache k2 l2 tt2 hs1
        have M2 := M0.trans m2
        have cO := open_yes ao 256 c y (a : Int) 1 a (by unfold pn; omega) c3 w2 (HT.out.then h2.chg) rm.reads (by have := rm.len; rwa [bts_length] at this) rm.le rm.max (by decide)
        have z2 : w.heap.size < w2.heap.size := by have := m2.size; omega
        go_wp2_with fail
        refine cO.mono ?_
        rintro e w3 ⟨ap, cp, rfl, rp, g3⟩
        have h3 := h2.keep g3
        have M3 := M2.then g3
        have t3 := there_chg t2 g3 (by simp)
        have z3 : w.heap.size < w3.heap.size := by have := g3.size; omega
        have cK := take_any ap 240 cp (y.take 240) w3 rp.reads (by have := rp.len; rwa [bts_length] at this) rp.le rp.max
        have HB := mkHid (took_bound (l := y.take 240))
        go_wp2_with fail
        refine cK.mono ?_
        generalize takeN (y.take 240) = tr at *
        obtain ⟨er, lf, K, V⟩ := tr
        rintro e w4 ⟨⟨ka, kc, va, vc, rfl, rk, rv, dj⟩, g4⟩
        have h4 := h3.keep g4
        have M4 := M3.then g4
        have t4 := there_chg t3 g4 (by simp)
        have n5 : New5 w4 w3.heap.size ⟨lf, ka, kc, va, vc, K, V⟩ := ⟨rk, rv⟩
        have nd : NdAt w4 (tag5 tag2 w3.heap.size ⟨lf, ka, kc, va, vc, K, V⟩) ⟨lf, ka, kc, va, vc, K, V⟩ := NdAt.new n5 (by have := HB.out.2.2.1; dsimp only at this ⊢; omega) (by have := HB.out.2.2.2; dsimp only at this ⊢; omega) HB.out.1 HB.out.2.1
        have h5 := h4.five n5 h3.l.hi
        have M5 := M4.five n5 (by omega)
        have tb5 : tag5 tag2 w3.heap.size ⟨lf, ka, kc, va, vc, K, V⟩ w.heap.size = 4 := (tag5_old z3).trans tb2
        obtain ⟨⟨v0, v1, v2, r0, r1, r2⟩, q0, q1, q2⟩ := cells3 t4
        generalize tag5 tag2 w3.heap.size ⟨lf, ka, kc, va, vc, K, V⟩ = tag5' at *
        clear rk rv dj n5 h4 M4
        go_wp2_with fail
        have hr := HR.out
        subst hr
        refine bodyPost_ret (v := .tuple #[CN.val ⟨lf, ka, kc, va, vc, K, V⟩, .int .i64 er]) (by simp [results, Tryz.results17, go_sem, r0, r1, r2, CN.val]) rfl ⟨⟨lf, ka, kc, va, vc, K, V⟩, rfl, rfl, tag5', ?_, ?_, ?_⟩
        · exact ((h5.set tb5).set tb5).set tb5
        · exact M5.wrote (three_chg w4 w.heap.size _ _ _) (fun k hk => by simp at hk; omega)
        · exact nd.wrote (three_chg w4 w.heap.size _ _ _) (fun k hk => by simp at hk; subst hk; exact tb5)
      · rw [if_pos (by simpa using c3)] at hr
        have HR := mkHid hr
        clear hr
        go_enter Tryz.func17, Tryz.ntmps17
        go_wp2_with fail
        generalize (w.alloc (.cells #[.bool false, .slice none 0 0, .slice none 0 0] 53)) = w1 at *
        refine cA.mono ?_
        rintro e w' ⟨rfl, rfl⟩
        go_wp2_with fail
        refine cG.mono ?_
        rintro e w2 ⟨ao, c, rfl, rm, tag2, k2, l2, tt2, m2, tf⟩
        have t2 := m2.there t0 tb
        have tb2 := m2.four tb (by omega)
        have h2 := h0.cache k2 l2 tt2 hs1
        have M2 := M0.trans m2
        generalize hC : opens y a 1 = C at *
        have cO := open_no C c3 ao 256 c y (a : Int) 1 a (by unfold pn; omega) hC w2 (HT.out.then h2.chg) rm.reads (by have := rm.len; rwa [bts_length] at this) rm.le rm.max (by decide)
        have z2 : w.heap.size < w2.heap.size := by have := m2.size; omega
        have hC0 : ((C : Int) != 0) = true := by simpa using c3
        have HC := mkHid hC
        clear hC
        go_wp2_with fail
        refine cO.mono ?_
        rintro e w3 ⟨rfl, g3⟩
        have h3 := h2.keep g3
        have M3 := M2.then g3
        have t3 := there_chg t2 g3 (by simp)
        obtain ⟨⟨v0, v1, v2, r0, r1, r2⟩, q0, q1, q2⟩ := cells3 t3
        go_wp2_with fail
        have hr := HR.out
        subst hr
        refine bodyPost_ret (v := .tuple #[CN.none.val, .int .i64 C]) (by simp [results, Tryz.results17, go_sem, r0, r1, r2, CN.val, CN.none]) rfl ⟨CN.none, rfl, rfl, tag2, ?_, ?_, NdAt.none _ _⟩
        · exact ((h3.set tb2).set tb2).set tb2
        · exact M3.wrote (three_chg w3 w.heap.size _ _ _) (fun k hk => by simp at hk; omega)
end
end Go.Proofs.YtdgkbicelnnfpaaGreatDoor

/- Save, less. -/
namespace Go.Proofs.YtdgkbicelnnfpaaGreatDoor
set_option maxRecDepth 200000
open Go.RowKit Go.Maps
set_option linter.unusedVariables false
set_option linter.unusedSimpArgs false
attribute [local go_sem ↓] Go.wp_at_zero Go.wp_at_succ

/-- What Save tells; the blocks' bytes behind it. -/
def saveN (Y : Nat → List UInt8) (n a : Nat) (m : Nd) : Int × (Nat → List UInt8) :=
  if 2147483647 < a then (1, Y) else if mayB m.K m.V = false then (1, Y) else if n ≤ a then (6, Y) else (0, fun x => if x = a then sealB (formN m.lf m.K m.V) a 1 else Y x)
section
variable {w0 w : World} {tag : Nat → Nat} {sb rb n : Nat} {N C : List UInt8} {Y : Nat → List UInt8} {u : Nat}
def SavePost (w0 w : World) (tag : Nat → Nat) (sb rb n : Nat) (N C : List UInt8) (u : Nat) (r : Int × (Nat → List UInt8)) (e : Ending) (w' : World) : Prop :=
  e = .returned (.int .i64 r.1) ∧ ∃ tag', HasF w0 w' tag' sb rb n N C r.2 u ∧ Mv tag tag' w w'
theorem save_any (hT : Tab w0) (h : HasF w0 w tag sb rb n N C Y u) (a : Nat) (ha : a < 2 ^ 64) (hu : u ≤ 100000000) (m : CN) (hm : NdAt w tag m) (r : Int × (Nat → List UInt8)) (hr : saveN Y n a m.nd = r) : Calls Tryz.prog 16 #[.pointer (some ⟨sb, 0, none⟩), .int .u64 (a : Int), m.val] w (SavePost w0 w tag sb rb n N C (u + 1) r) := by
  obtain ⟨lf, ka, kc, va, vc, K, V⟩ := m
  unfold CN.val
  unfold saveN CN.nd at hr
  dsimp only at hr ⊢
  have g0 := Chg.alloc [] w (.cells #[.bool lf, .slice ka K.length kc, .slice va V.length vc] 53)
  have h0 := h.keep g0
  have n0 := hm.keep g0
  have hz0 : (w.alloc (.cells #[.bool lf, .slice ka K.length kc, .slice va V.length vc] 53)).heap.size = w.heap.size + 1 := by simp
  have M0 := Mv.made g0 h.l.hi
  by_cases c1 : 2147483647 < a
  · rw [if_pos c1] at hr
    subst hr
    have cA := asked_noT a c1 h0
    go_enter Tryz.func16, Tryz.ntmps16
    go_wp2_with (first | (go_at_call 46; refine cA.mono ?_; rintro e w' ⟨rfl, rfl⟩))
    go_ret
    exact ⟨rfl, tag, h0.mono (by omega), M0⟩
  · rw [if_neg c1] at hr
    have cA := asked_yesT a (by omega) h0
    have hcv : IntKind.i64.wrap (a : Int) = (a : Int) := Go.IntWalk.i64_in _ (by omega)
    obtain ⟨cb, hk, hs1⟩ := h0.k
    have HT := mkHid hT
    have L0 := laid3 w (.bool lf) (.slice ka K.length kc) (.slice va V.length vc) 53
    obtain ⟨l0, l1, l2⟩ := L0
    by_cases c2 : mayB K V = false
    · rw [if_pos c2] at hr
      subst hr
      have cP := put_node_no lf ka K.length kc va V.length vc K V _ n0.rd rfl rfl c2
      go_enter Tryz.func16, Tryz.ntmps16
      go_wp2_with fail
      generalize (w.alloc (.cells #[.bool lf, .slice ka K.length kc, .slice va V.length vc] 53)) = w1 at *
      refine cA.mono ?_
      rintro e w' ⟨rfl, rfl⟩
      go_wp2_with fail
      refine cP.mono ?_
      rintro e w2 ⟨rfl, g2⟩
      go_wp2_with fail
      go_ret
      exact ⟨rfl, tag, (h0.keep g2).mono (by omega), M0.then g2⟩
    · have c2' : mayB K V = true := by simpa using c2
      rw [if_neg c2] at hr
      obtain ⟨ml1, ml2, ml3⟩ := may_len c2'
      have hfl : (formN lf K V).length = 2 + 16 * K.length := form_len (by omega)
      have HM := mkHid (And.intro ml1 ml2)
      clear ml3 ml1 ml2
      have cP := put_node lf ka K.length kc va V.length vc K V _ n0.rd rfl rfl n0.bK n0.bV c2'
      generalize hF : formN lf K V = F at *
      have HR := mkHid hr
      clear hr
      go_enter Tryz.func16, Tryz.ntmps16
      go_wp2_with fail
      generalize (w.alloc (.cells #[.bool lf, .slice ka K.length kc, .slice va V.length vc] 53)) = w1 at *
      refine cA.mono ?_
      rintro e w' ⟨rfl, rfl⟩
      go_wp2_with fail
      refine cP.mono ?_
      rintro e w2 ⟨af, cf, rfl, rf, g2⟩
      have h2 := h0.keep g2
      have cS := seal_any af F.length cf F (a : Int) 1 w2 (HT.out.then h2.chg) rf.reads rfl (by have := HM.out; omega) (by decide)
      rw [show pn (a : Int) = a by unfold pn; omega] at cS
      have HFL := mkHid hfl
      clear hfl
      go_wp2_with fail
      refine cS.mono ?_
      rintro e w3 ⟨xa, xc, rfl, rs, g3⟩
      have h3 := h2.keep g3
      have hk3 := (hk.keep g2).keep g3
      have G3 := g2.then g3
      have M3 := (M0.then g2).then g3
      have s13 := G3.cellv hs1 (by simp)
      have hsl := seal_length F a 1 (by have := HFL.out; have := HM.out; omega)
      have hab : ∀ k, k ∈ blk xa → k < w3.heap.size ∧ tag k ≠ 2 := fun k hk9 => by
        have h8 := rs.lt k (by unfold fp; rw [if_neg (by have := rs.le; omega)]; exact hk9)
        have := h.l.hi k (by have := g2.size; omega)
        exact ⟨h8.2, by omega⟩
      have HH := mkHid hab
      clear hab
      by_cases c3 : n ≤ a
      · have hr := HR.out
        rw [if_pos c3] at hr
        subst hr
        have cG := k_put_no hk3 h3.l (a : Int) (Or.inr (by omega)) hu xa xc (sealB F a 1) hsl rs.reads HH.out
        clear hsl
        go_wp2_with fail
        refine cG.mono ?_
        rintro e w4 ⟨rfl, tag4, k4, l4, t4, m4⟩
        go_wp2_with fail
        go_ret
        exact ⟨rfl, tag4, h3.cache k4 l4 t4 s13, M3.trans m4⟩
      · have hr := HR.out
        rw [if_neg c3] at hr
        subst hr
        have cG := k_put hk3 h3.l a (by omega) hu xa xc (sealB F a 1) hsl rs.reads HH.out
        clear hsl
        go_wp2_with fail
        refine cG.mono ?_
        rintro e w4 ⟨rfl, tag4, k4, l4, t4, m4⟩
        go_wp2_with fail
        go_ret
        exact ⟨rfl, tag4, h3.cache k4 l4 t4 s13, M3.trans m4⟩
theorem end_thrown {P : Program} {fn : Func} {R : Ending → World → Prop} {ch : List PanicEntry} {a : Act} {w : World} (h0 : a.defers = []) (h : R (.panicked ch) w) : bodyPost P fn R (.panic ch) a w := ⟨h0, h⟩
/-- Counted once less. -/
theorem less_anyT (h : HasF w0 w tag sb rb n N C Y u) (a : Nat) (ha : a < 2 ^ 64) (b : Bool) (N' : List UInt8) (hr : decN N (blkI a) = (b, 0, N')) : Calls Tryz.prog 124 #[.pointer (some ⟨sb, 0, none⟩), .int .u64 (a : Int)] w fun e w' => e = .returned (.tuple #[]) ∧ ∃ tag', HasF w0 w' tag' sb rb n N' C Y u ∧ Mv tag tag' w w' := by
  have s0 := h.s0
  go_enter Tryz.func124, Tryz.ntmps124
  go_wp2_with fail
  have HD := mkHid hr
  clear hr
  go_region_law (first
    | (go_simp; go_at_call 121; refine (block_no a _).mono ?_; rintro e w' ⟨rfl, rfl⟩)
    | (go_simp; go_at_call 24; refine (f_dec (h.keep (by first | exact Chg.refl [] _ | exact Chg.drew [] _ | exact (Chg.drew [] _).then (Chg.drew [] _))) (blkI a)).mono ?_; rw [HD.out]; rintro e w' ⟨rfl, tag', h', m'⟩)
    | (go_simp; go_at_call 163; refine (surebool_ok b _).mono ?_; rintro e w' ⟨rfl, rfl⟩))
  all_goals
    go_wp2_with fail
    go_end0
    first | exact ⟨rfl, _, h', m'⟩ | exact ⟨rfl, _, h', (Mv.made (Chg.drew [] w) h.l.hi).trans m'⟩ | exact ⟨rfl, _, h', (Mv.made ((Chg.drew [] w).then (Chg.drew [] _)) h.l.hi).trans m'⟩
end
end Go.Proofs.YtdgkbicelnnfpaaGreatDoor

/- A shelf by the nodes at its blocks; shadow. -/
namespace Go.Proofs.YtdgkbicelnnfpaaGreatDoor
set_option maxRecDepth 200000
open Go.RowKit Go.Maps
set_option linter.unusedVariables false
set_option linter.unusedSimpArgs false
attribute [local go_sem ↓] Go.wp_at_zero Go.wp_at_succ

def Nd.good (m : Nd) : Prop := mayB m.K m.V = true ∧ (∀ x ∈ m.K, x < 2 ^ 64) ∧ ∀ x ∈ m.V, x < 2 ^ 64
/-- The nodes that are known to stand at blocks. -/
def Rep (n : Nat) (X : Nat → Option Nd) (Y : Nat → List UInt8) : Prop := ∀ a m, X a = some m → a < n ∧ m.good ∧ Y a = sealB (formN m.lf m.K m.V) a 1
def putX (X : Nat → Option Nd) (a : Nat) (m : Nd) : Nat → Option Nd := fun x => if x = a then some m else X x
theorem Rep.put {n : Nat} {X : Nat → Option Nd} {Y : Nat → List UInt8} (h : Rep n X Y) {a : Nat} {m : Nd} (ha : a < n) (hm : m.good) : Rep n (putX X a m) (fun x => if x = a then sealB (formN m.lf m.K m.V) a 1 else Y x) := by
  intro x q hq
  unfold putX at hq
  by_cases e : x = a
  · subst e
    rw [if_pos rfl] at hq
    cases hq
    exact ⟨ha, hm, if_pos rfl⟩
  · rw [if_neg e] at hq
    obtain ⟨h1, h2, h3⟩ := h x q hq
    exact ⟨h1, h2, by dsimp only; rw [if_neg e]; exact h3⟩
theorem load_of {n : Nat} {X : Nat → Option Nd} {Y : Nat → List UInt8} (h : Rep n X Y) (hn : n ≤ 1024) {a : Nat} {m : Nd} (ha : X a = some m) : loadN Y n a = (0, m) := by
  obtain ⟨h1, ⟨h2, h3, h4⟩, h5⟩ := h a m ha
  obtain ⟨l1, l2, l3⟩ := may_len h2
  have hl : (formN m.lf m.K m.V).length ≤ 240 := by rw [form_len (by omega)]; omega
  unfold loadN
  rw [if_neg (by omega), if_neg (by omega), h5, opens_seal _ a 1 a 1 hl (by omega) (by decide)]
  simp only [ne_eq, not_true_eq_false, if_false]
  have e : (sealB (formN m.lf m.K m.V) a 1).take 240 = formN m.lf m.K m.V ++ List.replicate (240 - (formN m.lf m.K m.V).length) 0 := by
    unfold sealB body
    rw [List.append_assoc, List.append_assoc, List.append_assoc, ← List.append_assoc, List.take_append_of_le_length (by simp; omega), List.take_of_length_le (by simp; omega)]
  rw [e, take_form h2 h3 h4, if_pos (by simp)]
/-- A shelf, by the nodes that are known. -/
def HasX (w0 w : World) (tag : Nat → Nat) (sb rb n : Nat) (N C : List UInt8) (X : Nat → Option Nd) (u : Nat) : Prop := ∃ Y, HasF w0 w tag sb rb n N C Y u ∧ Rep n X Y
section
variable {w0 w w' : World} {tag : Nat → Nat} {sb rb n : Nat} {N C : List UInt8} {X : Nat → Option Nd} {u : Nat}
theorem HasX.keep (h : HasX w0 w tag sb rb n N C X u) (c : Chg [] w w') : HasX w0 w' tag sb rb n N C X u := by
  obtain ⟨Y, h1, h2⟩ := h
  exact ⟨Y, h1.keep c, h2⟩
theorem HasX.mono (h : HasX w0 w tag sb rb n N C X u) {u' : Nat} (hu : u ≤ u') : HasX w0 w tag sb rb n N C X u' := by
  obtain ⟨Y, h1, h2⟩ := h
  exact ⟨Y, h1.mono hu, h2⟩
theorem HasX.wrote (h : HasX w0 w tag sb rb n N C X u) {S : List Nat} (c : Chg S w w') (hS : ∀ k, k ∈ S → tag k = 4) : HasX w0 w' tag sb rb n N C X u := by
  obtain ⟨Y, h1, h2⟩ := h
  exact ⟨Y, h1.wrote c hS, h2⟩
theorem HasX.set (h : HasX w0 w tag sb rb n N C X u) {b i : Nat} {v : Value} (hb : tag b = 4) : HasX w0 (w.setCell ⟨b, i, none⟩ v) tag sb rb n N C X u := by
  obtain ⟨Y, h1, h2⟩ := h
  exact ⟨Y, h1.set hb, h2⟩
theorem HasX.hi (h : HasX w0 w tag sb rb n N C X u) : ∀ k, w.heap.size ≤ k → tag k = 4 := by
  obtain ⟨Y, h1, h2⟩ := h
  exact h1.l.hi
theorem HasX.lens (h : HasX w0 w tag sb rb n N C X u) : N.length = n ∧ C.length = n ∧ 0 < n ∧ n ≤ 1024 := by
  obtain ⟨Y, h1, h2⟩ := h
  exact h1.r.lens
theorem HasX.s0 (h : HasX w0 w tag sb rb n N C X u) : w.cell? ⟨sb, 0, none⟩ = some (.pointer (some ⟨rb, 0, none⟩)) := by
  obtain ⟨Y, h1, h2⟩ := h
  exact h1.s0
theorem HasX.lt (h : HasX w0 w tag sb rb n N C X u) {a : Nat} {m : Nd} (ha : X a = some m) : a < n ∧ m.good := by
  obtain ⟨Y, h1, h2⟩ := h
  exact ⟨(h2 a m ha).1, (h2 a m ha).2.1⟩
theorem HasX.low (h : HasX w0 w tag sb rb n N C X u) : Low w0 w tag := by
  obtain ⟨Y, h1, h2⟩ := h
  exact h1.l
theorem HasX.chg (h : HasX w0 w tag sb rb n N C X u) : Chg [] w0 w := by
  obtain ⟨Y, h1, h2⟩ := h
  exact h1.chg
def NodeOut (w0 w : World) (tag : Nat → Nat) (sb rb n : Nat) (N C : List UInt8) (X : Nat → Option Nd) (u : Nat) (m : Nd) (e : Ending) (w' : World) : Prop :=
  ∃ q : CN, e = .returned (.tuple #[q.val, .int .i64 0]) ∧ q.nd = m ∧ ∃ tag', HasX w0 w' tag' sb rb n N C X u ∧ Mv tag tag' w w' ∧ NdAt w' tag' q
theorem load_x (hT : Tab w0) (h : HasX w0 w tag sb rb n N C X u) (a : Nat) (m : Nd) (ha : X a = some m) (hu : u ≤ 100000000) : Calls Tryz.prog 17 #[.pointer (some ⟨sb, 0, none⟩), .int .u64 (a : Int)] w (NodeOut w0 w tag sb rb n N C X (u + 1) m) := by
  obtain ⟨Y, h1, h2⟩ := h
  have hn := h1.r.lens.2.2.2
  have hl := (h2 a m ha).1
  refine (load_any hT h1 a (by omega) hu (0, m) (load_of h2 hn ha)).mono ?_
  rintro e w' ⟨q, he, hq, tag', h3, h4, h5⟩
  exact ⟨q, he, hq, tag', ⟨Y, h3, h2⟩, h4, h5⟩
theorem save_x (hT : Tab w0) (h : HasX w0 w tag sb rb n N C X u) (a : Nat) (ha : a < n) (hu : u ≤ 100000000) (q : CN) (hq : NdAt w tag q) (hm : mayB q.K q.V = true) : Calls Tryz.prog 16 #[.pointer (some ⟨sb, 0, none⟩), .int .u64 (a : Int), q.val] w fun e w' => e = .returned (.int .i64 0) ∧ ∃ tag', HasX w0 w' tag' sb rb n N C (putX X a q.nd) (u + 1) ∧ Mv tag tag' w w' := by
  obtain ⟨Y, h1, h2⟩ := h
  have hn := h1.r.lens.2.2.2
  refine (save_any hT h1 a (by omega) hu q hq (0, fun x => if x = a then sealB (formN q.lf q.K q.V) a 1 else Y x) ?_).mono ?_
  · unfold saveN CN.nd
    rw [if_neg (by omega), if_neg (by simp [hm]), if_neg (by omega)]
  · rintro e w' ⟨he, tag', h3, h4⟩
    exact ⟨he, tag', ⟨_, h3, h2.put ha ⟨hm, hq.bK, hq.bV⟩⟩, h4⟩
theorem less_x (h : HasX w0 w tag sb rb n N C X u) (a : Nat) (ha : a < 2 ^ 64) (b : Bool) (N' : List UInt8) (hr : decN N (blkI a) = (b, 0, N')) : Calls Tryz.prog 124 #[.pointer (some ⟨sb, 0, none⟩), .int .u64 (a : Int)] w fun e w' => e = .returned (.tuple #[]) ∧ ∃ tag', HasX w0 w' tag' sb rb n N' C X u ∧ Mv tag tag' w w' := by
  obtain ⟨Y, h1, h2⟩ := h
  refine (less_anyT h1 a ha b N' hr).mono ?_
  rintro e w' ⟨he, tag', h3, h4⟩
  exact ⟨he, tag', ⟨Y, h3, h2⟩, h4⟩
theorem x_alloc (h : HasX w0 w tag sb rb n N C X u) (r : Int × Int × List UInt8) (hr : allocN N C = r) : Calls Tryz.prog 22 #[.pointer (some ⟨rb, 0, none⟩)] w fun e w' => e = .returned (.tuple #[.int .i64 r.1, .int .i64 r.2.1]) ∧ ∃ tag', HasX w0 w' tag' sb rb n r.2.2 C X u ∧ Mv tag tag' w w' := by
  obtain ⟨Y, h1, h2⟩ := h
  subst hr
  refine (f_alloc h1).mono ?_
  rintro e w' ⟨he, tag', h3, h4⟩
  exact ⟨he, tag', ⟨Y, h3, h2⟩, h4⟩
theorem x_inc (h : HasX w0 w tag sb rb n N C X u) (z : Int) (r : Int × List UInt8) (hr : incN N z = r) : Calls Tryz.prog 27 #[.pointer (some ⟨rb, 0, none⟩), .int .i64 z] w fun e w' => e = .returned (.int .i64 r.1) ∧ ∃ tag', HasX w0 w' tag' sb rb n r.2 C X u ∧ Mv tag tag' w w' := by
  obtain ⟨Y, h1, h2⟩ := h
  subst hr
  refine (f_inc h1 z).mono ?_
  rintro e w' ⟨he, tag', h3, h4⟩
  exact ⟨he, tag', ⟨Y, h3, h2⟩, h4⟩
theorem x_fresh (h : HasX w0 w tag sb rb n N C X u) (z : Int) : Calls Tryz.prog 20 #[.pointer (some ⟨rb, 0, none⟩), .int .i64 z] w fun e w' => e = .returned (.bool (newN N C z)) ∧ w = w' := by
  obtain ⟨Y, h1, h2⟩ := h
  exact r_fresh h1.r z
theorem x_count (h : HasX w0 w tag sb rb n N C X u) (z : Int) : Calls Tryz.prog 21 #[.pointer (some ⟨rb, 0, none⟩), .int .i64 z] w fun e w' => e = .returned (.int .i64 (cntN N z)) ∧ w = w' := by
  obtain ⟨Y, h1, h2⟩ := h
  exact r_count h1.r z
end
theorem freeL_mem {Is : List Bool} {x : Nat} (h : x ∈ freeL Is) : Is[x]? = some true := (mem_freeL _ _).1 h
theorem alloc_ok {N C : List UInt8} {n : Nat} (hN : N.length = n) (hC : C.length = n) {t : Int} {N' : List UInt8} (h : allocN N C = (t, 0, N')) : ∃ a : Nat, t = (a : Int) ∧ a < n ∧ N' = N.set a 1 ∧ N[a]? = some 0 ∧ C[a]? = some 0 := by
  unfold allocN at h
  cases hf : freeL (freeI N C) with
  | nil => rw [hf] at h; simp at h
  | cons x l =>
    rw [hf] at h
    simp only [Prod.mk.injEq, true_and] at h
    obtain ⟨rfl, rfl⟩ := h
    have h1 := freeL_mem (Is := freeI N C) (x := x) (by rw [hf]; simp)
    obtain ⟨h2, h3⟩ := freeI_true.1 h1
    exact ⟨x, rfl, by have := (List.getElem?_eq_some_iff.1 h2).1; omega, rfl, h2, h3⟩
theorem alloc_no {N C : List UInt8} {t e : Int} {N' : List UInt8} (h : allocN N C = (t, e, N')) (he : e ≠ 0) : t = 0 ∧ e = 8 ∧ N' = N := by
  unfold allocN at h
  cases hf : freeL (freeI N C) with
  | nil => rw [hf] at h; simp at h; obtain ⟨rfl, rfl, rfl⟩ := h; exact ⟨rfl, rfl, rfl⟩
  | cons x l => rw [hf] at h; simp at h; omega
end Go.Proofs.YtdgkbicelnnfpaaGreatDoor
