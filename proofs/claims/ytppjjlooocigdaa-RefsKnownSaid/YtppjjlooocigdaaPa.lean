/- The places of a space in memory: a line (the heap) and the spots; the calls that only read; Swap. -/
import Derived.Test.YtppjjlooocigdaaRows
import Derived.Test.YtppjjlooocigdaaK
import Derived.Deep.QuietTactic
import Derived.BigQuiet
import Derived.RegionTactic
import Derived.Deep.RegionHeld3
import Derived.Deep.RegionLaw
import Derived.Deep.DeepCutAuto
import Derived.Deep.DrawnRows
import Derived.WalkSpells
import Derived.WalkLawsBesides
namespace Go.Proofs.Ytppjjlooocigdaa
open Go.RowKit
set_option linter.unusedVariables false
set_option linter.unusedSimpArgs false
attribute [local go_sem ↓] Go.wp_at_zero Go.wp_at_succ

theorem eltN : Elt Try.prog 77 3 8 := Elt.mk (z := .int .i64 0) Try.underlying77 (by kernel_rfl) (by kernel_rfl)
theorem wrap_some (ts : Array TypeId) (t : TypeId) (p : Addr) (a b : String) : Builtin.ssaWrapNilChk_ ts t #[.pointer (some p), strVal a, strVal b] = pure (.pointer (some p)) := rfl
theorem meth_ptr (name : String) (f : Nat) (sig : TypeId) (p : Addr) (w : World)
    (hi : (Try.prog.info? 70).map (fun i => i.methods.find? (·.name == name)) = some (some ⟨name, sig, #[], some (f, true)⟩)) :
    (method 208 70 (.pointer (some p)) name).run Try.prog w = .ok (f, .pointer (some p)) w := by
  obtain ⟨i, h1, h2⟩ := Option.map_eq_some_iff.1 hi
  have hu : Try.prog.underlying 70 = some (.pointer 79) := Try.underlying70
  unfold method
  simp [typeInfo, h1, h2, follow, receiverAt, hu, run_underlying hu, Place.get]
section
variable (w : World) (p : Addr)
theorem meth_len : (method 208 70 (.pointer (some p)) "Len").run Try.prog w = .ok (50, .pointer (some p)) w :=
  meth_ptr "Len" _ 51 p w (by kernel_rfl)
theorem meth_less : (method 208 70 (.pointer (some p)) "Less").run Try.prog w = .ok (77, .pointer (some p)) w :=
  meth_ptr "Less" _ 90 p w (by kernel_rfl)
theorem meth_swap : (method 208 70 (.pointer (some p)) "Swap").run Try.prog w = .ok (80, .pointer (some p)) w :=
  meth_ptr "Swap" _ 85 p w (by kernel_rfl)
theorem meth_push : (method 208 70 (.pointer (some p)) "Push").run Try.prog w = .ok (79, .pointer (some p)) w :=
  meth_ptr "Push" _ 91 p w (by kernel_rfl)
theorem meth_pop : (method 208 70 (.pointer (some p)) "Pop").run Try.prog w = .ok (78, .pointer (some p)) w :=
  meth_ptr "Pop" _ 88 p w (by kernel_rfl)
end

/-- Numbers as cells. -/
def ivs (L : List Nat) : List Value := L.map fun x : Nat => Value.int .i64 (x : Int)
def zvs (S : List Int) : List Value := S.map (Value.int .i64)
theorem ivs_len (L : List Nat) : (ivs L).length = L.length := by simp [ivs]
theorem zvs_len (S : List Int) : (zvs S).length = S.length := by simp [zvs]
theorem ivs_get {L : List Nat} {k : Nat} (h : k < L.length) : (ivs L)[k]? = some (.int .i64 (L[k] : Int)) := by simp [ivs, h]
theorem zvs_get {S : List Int} {k : Nat} {z : Int} (h : S[k]? = some z) : (zvs S)[k]? = some (.int .i64 z) := by simp [zvs, h]
theorem ivs_set (L : List Nat) (k x : Nat) : (ivs L).set k (.int .i64 (x : Int)) = ivs (L.set k x) := by simp [ivs]
theorem zvs_set (S : List Int) (k : Nat) (z : Int) : (zvs S).set k (.int .i64 z) = zvs (S.set k z) := by simp [zvs]
theorem ivs_one (L : List Nat) : ∀ u ∈ ivs L, u.oneCell' = true := by
  intro u hu
  obtain ⟨_, _, rfl⟩ := List.mem_map.1 hu
  rfl
theorem zvs_one (S : List Int) : ∀ u ∈ zvs S, u.oneCell' = true := by
  intro u hu
  obtain ⟨_, _, rfl⟩ := List.mem_map.1 hu
  rfl
/-- The spots: of each place of the line where it stands, of all others -1. -/
structure SpotsOk (n : Nat) (L : List Nat) (S : List Int) : Prop where
  len : S.length = n
  at_ : ∀ k (h : k < L.length), S[L[k]]? = some (k : Int)
  no : ∀ x, x < n → x ∉ L → S[x]? = some (-1)
theorem SpotsOk.lt {n : Nat} {L : List Nat} {S : List Int} (h : SpotsOk n L S) : ∀ x ∈ L, x < n := by
  intro x hx
  obtain ⟨k, hk, rfl⟩ := List.getElem_of_mem hx
  have := (List.getElem?_eq_some_iff.1 (h.at_ k hk)).1
  have := h.len
  omega
theorem SpotsOk.inj {n : Nat} {L : List Nat} {S : List Int} (h : SpotsOk n L S) {i j : Nat} (hi : i < L.length) (hj : j < L.length) : i = j ↔ L[i] = L[j] := by
  constructor
  · rintro rfl; rfl
  · intro e
    have h1 := h.at_ i hi
    have h2 := h.at_ j hj
    rw [e, h2] at h1
    simp at h1
    omega
theorem SpotsOk.nodup {n : Nat} {L : List Nat} {S : List Int} (h : SpotsOk n L S) : L.Nodup := by
  rw [List.Nodup, List.pairwise_iff_getElem]
  intro i j hi hj hij e
  have := (h.inj hi hj).2 e
  omega
/-- Two of a list change their spots. -/
def swp (E : List Nat) (i j : Nat) (hi : i < E.length) (hj : j < E.length) : List Nat := (E.set i E[j]).set j E[i]
theorem swp_len (E : List Nat) (i j : Nat) (hi : i < E.length) (hj : j < E.length) : (swp E i j hi hj).length = E.length := by simp [swp]
theorem swp_get (E : List Nat) (i j : Nat) (hi : i < E.length) (hj : j < E.length) (k : Nat) (hk : k < (swp E i j hi hj).length) : (swp E i j hi hj)[k] = if k = j then E[i] else if k = i then E[j] else E[k]'(by simpa [swp] using hk) := by
  simp only [swp, List.getElem_set, eq_comm (a := k)]
theorem swp_perm (E : List Nat) (i j : Nat) (hi : i < E.length) (hj : j < E.length) : (swp E i j hi hj).Perm E := by
  exact List.set_set_perm hi hj
theorem SpotsOk.swap {n : Nat} {L : List Nat} {S : List Int} (h : SpotsOk n L S) {i j : Nat} (hi : i < L.length) (hj : j < L.length) : SpotsOk n (swp L i j hi hj) ((S.set L[j] (i : Int)).set L[i] (j : Int)) := by
  have l1 := h.lt _ (List.getElem_mem hi)
  have l2 := h.lt _ (List.getElem_mem hj)
  have hl := h.len
  have hp := swp_perm L i j hi hj
  refine ⟨by simp [hl], fun k hk => ?_, fun x hx hn => ?_⟩
  · have hk' : k < L.length := by rw [swp_len] at hk; exact hk
    rw [swp_get]
    by_cases a : k = j
    · subst a
      rw [if_pos rfl, List.getElem?_set_self (by simp; omega)]
    · rw [if_neg a]
      by_cases b : k = i
      · subst b
        rw [if_pos rfl]
        by_cases c : L[k] = L[j]
        · exact absurd ((h.inj hk' hj).2 c) a
        · rw [List.getElem?_set_ne c, List.getElem?_set_self (by omega)]
      · rw [if_neg b, List.getElem?_set_ne (fun e => b ((h.inj hi hk').2 e).symm), List.getElem?_set_ne (fun e => a ((h.inj hj hk').2 e).symm)]
        exact h.at_ k hk'
  · have hx1 : x ∉ L := fun hm => hn (hp.mem_iff.2 hm)
    rw [List.getElem?_set_ne (by rintro rfl; exact hx1 (List.getElem_mem hi)), List.getElem?_set_ne (by rintro rfl; exact hx1 (List.getElem_mem hj))]
    exact h.no x hx hx1

/-- The places in block pb: L is the line, in the heap's order. -/
structure PlAt (w : World) (B pb : Nat) (la : Option Addr) (cl : Nat) (sa : Option Addr) (cs n : Nat) (L : List Nat) : Prop where
  c0 : w.cell? ⟨pb, 0, none⟩ = some (.slice la L.length cl)
  f0 : w.frozen? ⟨pb, 0, none⟩ = false
  c1 : w.cell? ⟨pb, 1, none⟩ = some (.slice sa n cs)
  r : Room w B la L.length cl (ivs L)
  s : ∃ S, Room w B sa n cs (zvs S) ∧ SpotsOk n L S
  nn : n ≤ 1024
  pB : B ≤ pb
  d1 : pb ∉ fp la cl
  d2 : pb ∉ fp sa cs
  d3 : ∀ k, k ∈ fp la cl → k ∉ fp sa cs
theorem PlAt.nd {w : World} {B pb : Nat} {la : Option Addr} {cl : Nat} {sa : Option Addr} {cs n : Nat} {L : List Nat} (h : PlAt w B pb la cl sa cs n L) : L.Nodup := by
  obtain ⟨S, _, h⟩ := h.s
  exact h.nodup
theorem PlAt.lt' {w : World} {B pb : Nat} {la : Option Addr} {cl : Nat} {sa : Option Addr} {cs n : Nat} {L : List Nat} (h : PlAt w B pb la cl sa cs n L) : ∀ x ∈ L, x < n := by
  obtain ⟨S, _, h⟩ := h.s
  exact h.lt
theorem nodup_sub : ∀ {L M : List Nat}, L.Nodup → (∀ x ∈ L, x ∈ M) → L.length ≤ M.length
  | [], M, _, _ => by simp
  | x :: L, M, h, hs => by
    have hx := hs x (by simp)
    have h1 := List.nodup_cons.1 h
    have h2 := nodup_sub (L := L) (M := M.erase x) h1.2 (fun y hy => (List.mem_erase_of_ne (by rintro rfl; exact h1.1 hy)).2 (hs y (by simp [hy])))
    rw [List.length_erase_of_mem hx] at h2
    have : 0 < M.length := List.length_pos_of_mem hx
    simp
    omega
theorem nodup_le {n : Nat} {L : List Nat} (h : L.Nodup) (hl : ∀ x ∈ L, x < n) : L.length ≤ n := by
  have := nodup_sub h (M := List.range n) (fun x hx => List.mem_range.2 (hl x hx))
  simpa using this
theorem PlAt.le {w : World} {B pb : Nat} {la : Option Addr} {cl : Nat} {sa : Option Addr} {cs n : Nat} {L : List Nat} (h : PlAt w B pb la cl sa cs n L) : L.length ≤ n := nodup_le h.nd h.lt'
/-- The blocks of places. -/
def PF (pb : Nat) (la : Option Addr) (cl : Nat) (sa : Option Addr) (cs : Nat) : List Nat := pb :: (fp la cl ++ fp sa cs)
theorem PlAt.lt {w : World} {B pb : Nat} {la : Option Addr} {cl : Nat} {sa : Option Addr} {cs n : Nat} {L : List Nat} (h : PlAt w B pb la cl sa cs n L) : ∀ k, k ∈ PF pb la cl sa cs → B ≤ k ∧ k < w.heap.size := by
  intro k hk
  simp only [PF, List.mem_cons, List.mem_append] at hk
  obtain ⟨S, hS, _⟩ := h.s
  rcases hk with rfl | hk | hk
  · exact ⟨h.pB, block_lt_of_cell h.c0⟩
  · exact h.r.lt k hk
  · exact hS.lt k hk
theorem PlAt.chg {w w' : World} {B pb : Nat} {la : Option Addr} {cl : Nat} {sa : Option Addr} {cs n : Nat} {L : List Nat} {S : List Nat} (h : PlAt w B pb la cl sa cs n L) (c : Chg S w w') (hn : ∀ k, k ∈ PF pb la cl sa cs → k ∉ S) : PlAt w' B pb la cl sa cs n L := by
  have hp := hn pb (by simp [PF])
  obtain ⟨Z, hS, hok⟩ := h.s
  exact ⟨c.cellv h.c0 hp, (c.frozen (p := ⟨pb, 0, none⟩) (show pb < w.heap.size from block_lt_of_cell h.c0) hp).trans h.f0, c.cellv h.c1 hp,
    h.r.chg c (fun k hk => hn k (by simp [PF, hk])), ⟨Z, hS.chg c (fun k hk => hn k (by simp [PF, hk])), hok⟩, h.nn, h.pB, h.d1, h.d2, h.d3⟩
theorem PlAt.keep {w w' : World} {B pb : Nat} {la : Option Addr} {cl : Nat} {sa : Option Addr} {cs n : Nat} {L : List Nat} (h : PlAt w B pb la cl sa cs n L) (c : Chg [] w w') : PlAt w' B pb la cl sa cs n L := h.chg c (by simp)
theorem Chg.drewN (w : World) (n : Nat) : Chg [] w (w.drewN n) := ⟨rfl, rfl, rfl, Nat.le_refl _, fun _ _ _ => rfl⟩

section
variable (B pb : Nat) (la : Option Addr) (cl : Nat) (sa : Option Addr) (cs n : Nat) (L : List Nat) (w : World) (h : PlAt w B pb la cl sa cs n L)
include h
theorem len_any : Calls Try.prog 50 #[.pointer (some ⟨pb, 0, none⟩)] w fun e w' => e = .returned (.int .i64 L.length) ∧ w = w' := by
  have c0 := h.c0
  go_enter Try.func50, Try.ntmps50
  go_wp2
  go_ret
  exact ⟨rfl, rfl⟩
/-- Whether there is such a place. -/
theorem has_any (z : Int) : Calls Try.prog 53 #[.pointer (some ⟨pb, 0, none⟩), .int .i64 z] w fun e w' => e = .returned (.bool (decide (0 ≤ z ∧ z < (n : Int)))) ∧ w = w' := by
  have c1 := h.c1
  by_cases h0 : z ≥ 0
  · by_cases h1 : z < (n : Int)
    · rw [decide_eq_true (show 0 ≤ z ∧ z < (n : Int) from ⟨h0, h1⟩)]
      have d0 : decide (z ≥ 0) = true := decide_eq_true h0
      have d0' : decide (0 ≤ z) = true := decide_eq_true h0
      have d1 : decide (z < (n : Int)) = true := decide_eq_true h1
      go_enter Try.func53, Try.ntmps53
      go_wp2
      go_ret
      exact ⟨rfl, rfl⟩
    · rw [decide_eq_false (show ¬ (0 ≤ z ∧ z < (n : Int)) by omega)]
      have d0 : decide (z ≥ 0) = true := decide_eq_true h0
      have d0' : decide (0 ≤ z) = true := decide_eq_true h0
      have d1 : decide (z < (n : Int)) = false := decide_eq_false h1
      go_enter Try.func53, Try.ntmps53
      go_wp2
      go_ret
      exact ⟨rfl, rfl⟩
  · rw [decide_eq_false (show ¬ (0 ≤ z ∧ z < (n : Int)) by omega)]
    have d0 : decide (z ≥ 0) = false := decide_eq_false h0
    have d0' : decide (0 ≤ z) = false := decide_eq_false h0
    go_enter Try.func53, Try.ntmps53
    go_wp2
    go_ret
    exact ⟨rfl, rfl⟩
theorem less_any (i j : Nat) (hi : i < L.length) (hj : j < L.length) : Calls Try.prog 77 #[.pointer (some ⟨pb, 0, none⟩), .int .i64 i, .int .i64 j] w fun e w' => e = .returned (.bool (decide (L[i] < L[j]))) ∧ Chg [] w w' := by
  have c0 := h.c0
  have hle := h.le
  have hnn := h.nn
  obtain ⟨lb, lo, rfl, hc⟩ := h.r.reads (by rw [ivs_len]; omega)
  have ci := hc i _ (ivs_get hi)
  have cj := hc j _ (ivs_get hj)
  clear hc
  go_enter Try.func77, Try.ntmps77
  go_wp2
  go_quiet (fail)
  go_wp2
  go_ret
  exact ⟨by simp, Chg.drewN _ _⟩
end
/-- Whether a place is free. -/
theorem isfree_any (x : Nat) (B pb : Nat) (la : Option Addr) (cl : Nat) (sa : Option Addr) (cs n : Nat) (L : List Nat) (w : World) (h : PlAt w B pb la cl sa cs n L) (hx : x < n) : Calls Try.prog 54 #[.pointer (some ⟨pb, 0, none⟩), .int .i64 (x : Int)] w fun e w' => e = .returned (.bool (decide (x ∈ L))) ∧ w = w' := by
  have c1 := h.c1
  have hnn := h.nn
  obtain ⟨S, hS, hok⟩ := h.s
  have hSl := hok.len
  obtain ⟨sb, so, rfl, hc⟩ := hS.reads (by rw [zvs_len]; omega)
  by_cases hm : x ∈ L
  · rw [decide_eq_true hm]
    obtain ⟨k, hk, rfl⟩ := List.getElem_of_mem hm
    have hle := h.le
    have ci := hc _ _ (zvs_get (hok.at_ k hk))
    have hne : ((k : Int) != -1) = true := by simp
    clear hc
    generalize L[k] = x at *
    go_enter Try.func54, Try.ntmps54
    go_wp2
    go_ret
    exact ⟨by simp, rfl⟩
  · rw [decide_eq_false hm]
    have ci := hc _ _ (zvs_get (hok.no x hx hm))
    clear hc
    go_enter Try.func54, Try.ntmps54
    go_wp2
    go_ret
    exact ⟨by simp, rfl⟩
end Go.Proofs.Ytppjjlooocigdaa
