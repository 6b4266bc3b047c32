/- Texts Pa, Pb, Pc of the library, joined. -/
import Derived.Test.YtdgkbicelnnfpaaGreatDoorM01
import Derived.Test.YtdgkbicelnnfpaaGreatDoorRows
import Derived.Deep.QuietTactic
import Derived.BigQuiet
import Derived.RegionTactic
import Derived.Deep.RegionHeld3
import Derived.Deep.RegionLaw
import Derived.Deep.DeepCutAuto
import Derived.Deep.DrawnRows
import Derived.WalkSpells
import Derived.WalkLawsBesides
import Derived.BigRegion
/- The places of a space in memory: a line (the heap) and the spots; the calls that only read; Swap. -/
namespace Go.Proofs.YtdgkbicelnnfpaaGreatDoor
open Go.RowKit
set_option linter.unusedVariables false
set_option linter.unusedSimpArgs false
attribute [local go_sem ↓] Go.wp_at_zero Go.wp_at_succ

theorem eltNF : Elt Tryz.prog 79 3 8 := Elt.mk (z := .int .i64 0) Tryz.underlying79 (by kernel_rfl) (by kernel_rfl)
theorem meth_ptrF (name : String) (f : Nat) (sig : TypeId) (p : Addr) (w : World)
    (hi : (Tryz.prog.info? 186).map (fun i => i.methods.find? (·.name == name)) = some (some ⟨name, sig, #[], some (f, true)⟩)) :
    (method 377 186 (.pointer (some p)) name).run Tryz.prog w = .ok (f, .pointer (some p)) w := by
  obtain ⟨i, h1, h2⟩ := Option.map_eq_some_iff.1 hi
  have hu : Tryz.prog.underlying 186 = some (.pointer 190) := Tryz.underlying186
  unfold method
  simp [typeInfo, h1, h2, follow, receiverAt, hu, run_underlying hu, Place.get]
section
variable (w : World) (p : Addr)
theorem meth_lenF : (method 377 186 (.pointer (some p)) "Len").run Tryz.prog w = .ok (104, .pointer (some p)) w :=
  meth_ptrF "Len" _ 83 p w (by kernel_rfl)
theorem meth_lessF : (method 377 186 (.pointer (some p)) "Less").run Tryz.prog w = .ok (218, .pointer (some p)) w :=
  meth_ptrF "Less" _ 254 p w (by kernel_rfl)
theorem meth_swapF : (method 377 186 (.pointer (some p)) "Swap").run Tryz.prog w = .ok (221, .pointer (some p)) w :=
  meth_ptrF "Swap" _ 248 p w (by kernel_rfl)
theorem meth_pushF : (method 377 186 (.pointer (some p)) "Push").run Tryz.prog w = .ok (220, .pointer (some p)) w :=
  meth_ptrF "Push" _ 238 p w (by kernel_rfl)
theorem meth_popF : (method 377 186 (.pointer (some p)) "Pop").run Tryz.prog w = .ok (219, .pointer (some p)) w :=
  meth_ptrF "Pop" _ 249 p w (by kernel_rfl)
end

/-- Numbers as cells. -/
def ivs (L : List Nat) : List Value := L.map fun x : Nat => Value.int .i64 (x : Int)
def zvs (S : List Int) : List Value := S.map (Value.int .i64)
theorem ivs_len (L : List Nat) : (ivs L).length = L.length := by simp [ivs]
theorem zvs_len (S : List Int) : (zvs S).length = S.length := by simp [zvs]
theorem ivs_get {L : List Nat} {k : Nat} (h : k < L.length) : (ivs L)[k]? = some (.int .i64 (L[k] : Int)) := by simp [ivs, h]
theorem zvs_get {S : List Int} {k : Nat} {z : Int} (h : S[k]? = some z) : (zvs S)[k]? = some (.int .i64 z) := by simp [zvs, h]
theorem ivs_set (L : List Nat) (k x : Nat) : (ivs L).set k (.int .i64 (x : Int)) = ivs (L.set k x) := by simp [ivs]
theorem zvs_set (S : List Int) (k : Nat) (z : Int) : (zvs S).set k (.int .i64 z) = zvs (S.set k z) := by simp [zvs]
theorem ivs_one (L : List Nat) : ∀ u ∈ ivs L, u.oneCell' = true := by
  intro u hu
  obtain ⟨_, _, rfl⟩ := List.mem_map.1 hu
  rfl
theorem zvs_one (S : List Int) : ∀ u ∈ zvs S, u.oneCell' = true := by
  intro u hu
  obtain ⟨_, _, rfl⟩ := List.mem_map.1 hu
  rfl
/-- The spots: of each place of the line where it stands, of all others -1. -/
structure SpotsOk (n : Nat) (L : List Nat) (S : List Int) : Prop where
  len : S.length = n
  at_ : ∀ k (h : k < L.length), S[L[k]]? = some (k : Int)
  no : ∀ x, x < n → x ∉ L → S[x]? = some (-1)
theorem SpotsOk.lt {n : Nat} {L : List Nat} {S : List Int} (h : SpotsOk n L S) : ∀ x ∈ L, x < n := by
  intro x hx
  obtain ⟨k, hk, rfl⟩ := List.getElem_of_mem hx
  have := (List.getElem?_eq_some_iff.1 (h.at_ k hk)).1
  have := h.len
  omega
theorem SpotsOk.inj {n : Nat} {L : List Nat} {S : List Int} (h : SpotsOk n L S) {i j : Nat} (hi : i < L.length) (hj : j < L.length) : i = j ↔ L[i] = L[j] := by
  constructor
  · rintro rfl; rfl
  · intro e
    have h1 := h.at_ i hi
    have h2 := h.at_ j hj
    rw [e, h2] at h1
    simp at h1
    omega
theorem SpotsOk.nodup {n : Nat} {L : List Nat} {S : List Int} (h : SpotsOk n L S) : L.Nodup := by
  rw [List.Nodup, List.pairwise_iff_getElem]
  intro i j hi hj hij e
  have := (h.inj hi hj).2 e
  omega
/-- Two of a list change their spots. -/
def swpF (E : List Nat) (i j : Nat) (hi : i < E.length) (hj : j < E.length) : List Nat := (E.set i E[j]).set j E[i]
theorem swp_lenF (E : List Nat) (i j : Nat) (hi : i < E.length) (hj : j < E.length) : (swpF E i j hi hj).length = E.length := by simp [swpF]
theorem swp_getF (E : List Nat) (i j : Nat) (hi : i < E.length) (hj : j < E.length) (k : Nat) (hk : k < (swpF E i j hi hj).length) : (swpF E i j hi hj)[k] = if k = j then E[i] else if k = i then E[j] else E[k]'(by simpa [swpF] using hk) := by
  simp only [swpF, List.getElem_set, eq_comm (a := k)]
theorem swp_permF (E : List Nat) (i j : Nat) (hi : i < E.length) (hj : j < E.length) : (swpF E i j hi hj).Perm E := by
  exact List.set_set_perm hi hj
theorem SpotsOk.swap {n : Nat} {L : List Nat} {S : List Int} (h : SpotsOk n L S) {i j : Nat} (hi : i < L.length) (hj : j < L.length) : SpotsOk n (swpF L i j hi hj) ((S.set L[j] (i : Int)).set L[i] (j : Int)) := by
  have l1 := h.lt _ (List.getElem_mem hi)
  have l2 := h.lt _ (List.getElem_mem hj)
  have hl := h.len
  have hp := swp_permF L i j hi hj
  refine ⟨by simp [hl], fun k hk => ?_, fun x hx hn => ?_⟩
  · have hk' : k < L.length := by rw [swp_lenF] at hk; exact hk
    rw [swp_getF]
    by_cases a : k = j
    · subst a
      rw [if_pos rfl, List.getElem?_set_self (by simp; omega)]
    · rw [if_neg a]
      by_cases b : k = i
      · subst b
        rw [if_pos rfl]
        by_cases c : L[k] = L[j]
        · exact absurd ((h.inj hk' hj).2 c) a
        · rw [List.getElem?_set_ne c, List.getElem?_set_self (by omega)]
      · rw [if_neg b, List.getElem?_set_ne (fun e => b ((h.inj hi hk').2 e).symm), List.getElem?_set_ne (fun e => a ((h.inj hj hk').2 e).symm)]
        exact h.at_ k hk'
  · have hx1 : x ∉ L := fun hm => hn (hp.mem_iff.2 hm)
    rw [List.getElem?_set_ne (by rintro rfl; exact hx1 (List.getElem_mem hi)), List.getElem?_set_ne (by rintro rfl; exact hx1 (List.getElem_mem hj))]
    exact h.no x hx hx1

/-- The places in block pb: L is the line, in the heap's order. -/
structure PlAt (w : World) (B pb : Nat) (la : Option Addr) (cl : Nat) (sa : Option Addr) (cs n : Nat) (L : List Nat) : Prop where
  c0 : w.cell? ⟨pb, 0, none⟩ = some (.slice la L.length cl)
  f0 : w.frozen? ⟨pb, 0, none⟩ = false
  c1 : w.cell? ⟨pb, 1, none⟩ = some (.slice sa n cs)
  r : Room w B la L.length cl (ivs L)
  s : ∃ S, Room w B sa n cs (zvs S) ∧ SpotsOk n L S
  nn : n ≤ 1024
  pB : B ≤ pb
  d1 : pb ∉ fp la cl
  d2 : pb ∉ fp sa cs
  d3 : ∀ k, k ∈ fp la cl → k ∉ fp sa cs
theorem PlAt.nd {w : World} {B pb : Nat} {la : Option Addr} {cl : Nat} {sa : Option Addr} {cs n : Nat} {L : List Nat} (h : PlAt w B pb la cl sa cs n L) : L.Nodup := by
  obtain ⟨S, _, h⟩ := h.s
  exact h.nodup
theorem PlAt.lt' {w : World} {B pb : Nat} {la : Option Addr} {cl : Nat} {sa : Option Addr} {cs n : Nat} {L : List Nat} (h : PlAt w B pb la cl sa cs n L) : ∀ x ∈ L, x < n := by
  obtain ⟨S, _, h⟩ := h.s
  exact h.lt
theorem nodup_sub : ∀ {L M : List Nat}, L.Nodup → (∀ x ∈ L, x ∈ M) → L.length ≤ M.length
  | [], M, _, _ => by simp
  | x :: L, M, h, hs => by
    have hx := hs x (by simp)
    have h1 := List.nodup_cons.1 h
    have h2 := nodup_sub (L := L) (M := M.erase x) h1.2 (fun y hy => (List.mem_erase_of_ne (by rintro rfl; exact h1.1 hy)).2 (hs y (by simp [hy])))
    rw [List.length_erase_of_mem hx] at h2
    have : 0 < M.length := List.length_pos_of_mem hx
    simp
    omega
theorem nodup_le {n : Nat} {L : List Nat} (h : L.Nodup) (hl : ∀ x ∈ L, x < n) : L.length ≤ n := by
  have := nodup_sub h (M := List.range n) (fun x hx => List.mem_range.2 (hl x hx))
  simpa using this
theorem PlAt.le {w : World} {B pb : Nat} {la : Option Addr} {cl : Nat} {sa : Option Addr} {cs n : Nat} {L : List Nat} (h : PlAt w B pb la cl sa cs n L) : L.length ≤ n := nodup_le h.nd h.lt'
/-- The blocks of places. -/
def PF (pb : Nat) (la : Option Addr) (cl : Nat) (sa : Option Addr) (cs : Nat) : List Nat := pb :: (fp la cl ++ fp sa cs)
theorem PlAt.lt {w : World} {B pb : Nat} {la : Option Addr} {cl : Nat} {sa : Option Addr} {cs n : Nat} {L : List Nat} (h : PlAt w B pb la cl sa cs n L) : ∀ k, k ∈ PF pb la cl sa cs → B ≤ k ∧ k < w.heap.size := by
  intro k hk
  simp only [PF, List.mem_cons, List.mem_append] at hk
  obtain ⟨S, hS, _⟩ := h.s
  rcases hk with rfl | hk | hk
  · exact ⟨h.pB, block_lt_of_cell h.c0⟩
  · exact h.r.lt k hk
  · exact hS.lt k hk
theorem PlAt.chg {w w' : World} {B pb : Nat} {la : Option Addr} {cl : Nat} {sa : Option Addr} {cs n : Nat} {L : List Nat} {S : List Nat} (h : PlAt w B pb la cl sa cs n L) (c : Chg S w w') (hn : ∀ k, k ∈ PF pb la cl sa cs → k ∉ S) : PlAt w' B pb la cl sa cs n L := by
  have hp := hn pb (by simp [PF])
  obtain ⟨Z, hS, hok⟩ := h.s
  exact ⟨c.cellv h.c0 hp, (c.frozen (p := ⟨pb, 0, none⟩) (show pb < w.heap.size from block_lt_of_cell h.c0) hp).trans h.f0, c.cellv h.c1 hp,
    h.r.chg c (fun k hk => hn k (by simp [PF, hk])), ⟨Z, hS.chg c (fun k hk => hn k (by simp [PF, hk])), hok⟩, h.nn, h.pB, h.d1, h.d2, h.d3⟩
theorem PlAt.keep {w w' : World} {B pb : Nat} {la : Option Addr} {cl : Nat} {sa : Option Addr} {cs n : Nat} {L : List Nat} (h : PlAt w B pb la cl sa cs n L) (c : Chg [] w w') : PlAt w' B pb la cl sa cs n L := h.chg c (by simp)
section
variable (B pb : Nat) (la : Option Addr) (cl : Nat) (sa : Option Addr) (cs n : Nat) (L : List Nat) (w : World) (h : PlAt w B pb la cl sa cs n L)
include h
theorem len_anyF : Calls Tryz.prog 104 #[.pointer (some ⟨pb, 0, none⟩)] w fun e w' => e = .returned (.int .i64 L.length) ∧ w = w' := by
  have c0 := h.c0
  go_enter Tryz.func104, Tryz.ntmps104
  go_wp2
  go_ret
  exact ⟨rfl, rfl⟩
/-- Whether there is such a place. -/
theorem has_any (z : Int) : Calls Tryz.prog 164 #[.pointer (some ⟨pb, 0, none⟩), .int .i64 z] w fun e w' => e = .returned (.bool (decide (0 ≤ z ∧ z < (n : Int)))) ∧ w = w' := by
  have c1 := h.c1
  by_cases h0 : z ≥ 0
  · by_cases h1 : z < (n : Int)
    · rw [decide_eq_true (show 0 ≤ z ∧ z < (n : Int) from ⟨h0, h1⟩)]
      have d0 : decide (z ≥ 0) = true := decide_eq_true h0
      have d0' : decide (0 ≤ z) = true := decide_eq_true h0
      have d1 : decide (z < (n : Int)) = true := decide_eq_true h1
      go_enter Tryz.func164, Tryz.ntmps164
      go_wp2
      go_ret
      exact ⟨rfl, rfl⟩
    · rw [decide_eq_false (show ¬ (0 ≤ z ∧ z < (n : Int)) by omega)]
      have d0 : decide (z ≥ 0) = true := decide_eq_true h0
      have d0' : decide (0 ≤ z) = true := decide_eq_true h0
      have d1 : decide (z < (n : Int)) = false := decide_eq_false h1
      go_enter Tryz.func164, Tryz.ntmps164
      go_wp2
      go_ret
      exact ⟨rfl, rfl⟩
  · rw [decide_eq_false (show ¬ (0 ≤ z ∧ z < (n : Int)) by omega)]
    have d0 : decide (z ≥ 0) = false := decide_eq_false h0
    have d0' : decide (0 ≤ z) = false := decide_eq_false h0
    go_enter Tryz.func164, Tryz.ntmps164
    go_wp2
    go_ret
    exact ⟨rfl, rfl⟩
theorem less_anyF (i j : Nat) (hi : i < L.length) (hj : j < L.length) : Calls Tryz.prog 218 #[.pointer (some ⟨pb, 0, none⟩), .int .i64 i, .int .i64 j] w fun e w' => e = .returned (.bool (decide (L[i] < L[j]))) ∧ Chg [] w w' := by
  have c0 := h.c0
  have hle := h.le
  have hnn := h.nn
  obtain ⟨lb, lo, rfl, hc⟩ := h.r.reads (by rw [ivs_len]; omega)
  have ci := hc i _ (ivs_get hi)
  have cj := hc j _ (ivs_get hj)
  clear hc
  go_enter Tryz.func218, Tryz.ntmps218
  go_wp2
  go_quiet (fail)
  go_wp2
  go_ret
  exact ⟨by simp, Chg.drewN _ _⟩
end
/-- Whether a place is free. -/
theorem isfree_any (x : Nat) (B pb : Nat) (la : Option Addr) (cl : Nat) (sa : Option Addr) (cs n : Nat) (L : List Nat) (w : World) (h : PlAt w B pb la cl sa cs n L) (hx : x < n) : Calls Tryz.prog 165 #[.pointer (some ⟨pb, 0, none⟩), .int .i64 (x : Int)] w fun e w' => e = .returned (.bool (decide (x ∈ L))) ∧ w = w' := by
  have c1 := h.c1
  have hnn := h.nn
  obtain ⟨S, hS, hok⟩ := h.s
  have hSl := hok.len
  obtain ⟨sb, so, rfl, hc⟩ := hS.reads (by rw [zvs_len]; omega)
  by_cases hm : x ∈ L
  · rw [decide_eq_true hm]
    obtain ⟨k, hk, rfl⟩ := List.getElem_of_mem hm
    have hle := h.le
    have ci := hc _ _ (zvs_get (hok.at_ k hk))
    have hne : ((k : Int) != -1) = true := by simp
    clear hc
    generalize L[k] = x at *
    go_enter Tryz.func165, Tryz.ntmps165
    go_wp2
    go_ret
    exact ⟨by simp, rfl⟩
  · rw [decide_eq_false hm]
    have ci := hc _ _ (zvs_get (hok.no x hx hm))
    clear hc
    go_enter Tryz.func165, Tryz.ntmps165
    go_wp2
    go_ret
    exact ⟨by simp, rfl⟩
end Go.Proofs.YtdgkbicelnnfpaaGreatDoor

/- The places of a space: Swap. -/
namespace Go.Proofs.YtdgkbicelnnfpaaGreatDoor
open Go.RowKit
set_option linter.unusedVariables false
set_option linter.unusedSimpArgs false
attribute [local go_sem ↓] Go.wp_at_zero Go.wp_at_succ

section
variable (pb lb lo n cl sb so m cs i j x y : Nat) (vx vy : Value) (w : World) (hi : i < n) (hj : j < n) (hx : x < m) (hy : y < m)
  (c0 : w.cell? ⟨pb, 0, none⟩ = some (.slice (some ⟨lb, lo, none⟩) n cl))
  (c1 : w.cell? ⟨pb, 1, none⟩ = some (.slice (some ⟨sb, so, none⟩) m cs))
  (ci : w.cell? ⟨lb, lo + i, none⟩ = some (.int .i64 x)) (cj : w.cell? ⟨lb, lo + j, none⟩ = some (.int .i64 y))
  (fi : w.frozen? ⟨lb, lo + i, none⟩ = false) (fj : w.frozen? ⟨lb, lo + j, none⟩ = false)
  (ux : w.cell? ⟨sb, so + x, none⟩ = some vx) (uy : w.cell? ⟨sb, so + y, none⟩ = some vy)
  (gx : w.frozen? ⟨sb, so + x, none⟩ = false) (gy : w.frozen? ⟨sb, so + y, none⟩ = false)
  (hpl : pb ≠ lb) (hls : lb ≠ sb) (hij : i = j ↔ x = y)
include hi hj hx hy c0 c1 ci cj fi fj ux uy gx gy hpl hls hij
set_option maxRecDepth 20000 in
theorem swap_rawF :
    Calls Tryz.prog 221 #[.pointer (some ⟨pb, 0, none⟩), .int .i64 i, .int .i64 j] w fun e w' => e = .returned (.tuple #[]) ∧
      w' = ((((w.setCell ⟨lb, lo + i, none⟩ (.int .i64 y)).setCell ⟨lb, lo + j, none⟩ (.int .i64 x)).drew.setCell ⟨sb, so + y, none⟩ (.int .i64 i)).setCell ⟨sb, so + x, none⟩ (.int .i64 j)).drew := by
  obtain ⟨v', hy'⟩ := cell?_setCell_some (w := w) (p := ⟨lb, lo + i, none⟩) (x := .int .i64 y) (q := ⟨lb, lo + j, none⟩) cj
  go_enter Tryz.func221, Tryz.ntmps221
  go_wp2
  go_region
  have h1 : Chg [lb] w ((w.setCell ⟨lb, lo + i, none⟩ (.int .i64 y)).setCell ⟨lb, lo + j, none⟩ (.int .i64 x)).drew :=
    (((Chg.setCell w ⟨lb, lo + i, none⟩ _).trans (Chg.setCell _ ⟨lb, lo + j, none⟩ _) (fun _ h _ => h) (fun _ h _ => h)).then (Chg.drew [] _))
  have k1 : (((w.setCell ⟨lb, lo + i, none⟩ (.int .i64 y)).setCell ⟨lb, lo + j, none⟩ (.int .i64 x)).drew).cell? ⟨lb, lo + i, none⟩ = some (.int .i64 y) := by
    show ((w.setCell ⟨lb, lo + i, none⟩ (.int .i64 y)).setCell ⟨lb, lo + j, none⟩ (.int .i64 x)).cell? _ = _
    by_cases hb : i = j
    · have e := hij.1 hb
      subst hb e
      exact World.cell?_setCell_same _ _ _ hy'
    · rw [World.cell?_setCell_other _ _ _ _ (by simp [hb])]
      exact World.cell?_setCell_same _ _ _ ci
  have k2 : (((w.setCell ⟨lb, lo + i, none⟩ (.int .i64 y)).setCell ⟨lb, lo + j, none⟩ (.int .i64 x)).drew).cell? ⟨lb, lo + j, none⟩ = some (.int .i64 x) := by
    show ((w.setCell ⟨lb, lo + i, none⟩ (.int .i64 y)).setCell ⟨lb, lo + j, none⟩ (.int .i64 x)).cell? _ = _
    exact World.cell?_setCell_same _ _ _ hy'
  have c0' := h1.cellv c0 (by simpa using hpl)
  have c1' := h1.cellv c1 (by simpa using hpl)
  have ux1 := h1.cellv ux (by simpa using fun e => hls e.symm)
  have uy1 := h1.cellv uy (by simpa using fun e => hls e.symm)
  have gx1 := (h1.frozen (p := ⟨sb, so + x, none⟩) (block_lt_of_cell ux) (by simpa using fun e => hls e.symm)).trans gx
  have gy1 := (h1.frozen (p := ⟨sb, so + y, none⟩) (block_lt_of_cell uy) (by simpa using fun e => hls e.symm)).trans gy
  clear h1 hy' ux uy gx gy ci cj fi fj c0 c1
  generalize hw1 : ((w.setCell ⟨lb, lo + i, none⟩ (.int .i64 y)).setCell ⟨lb, lo + j, none⟩ (.int .i64 x)).drew = w1 at *
  have HW := mkHid hw1
  clear hw1
  obtain ⟨y2, hy2⟩ := cell?_setCell_some (w := w1) (p := ⟨sb, so + y, none⟩) (x := .int .i64 i) (q := ⟨sb, so + x, none⟩) ux1
  go_wp2
  go_region
  go_end0
  exact ⟨rfl, by rw [← HW.out]⟩
end
theorem swap_anyF (i j : Nat) (B pb : Nat) (la : Option Addr) (cl : Nat) (sa : Option Addr) (cs n : Nat) (L : List Nat) (w : World) (h : PlAt w B pb la cl sa cs n L) (hi : i < L.length) (hj : j < L.length) :
    Calls Tryz.prog 221 #[.pointer (some ⟨pb, 0, none⟩), .int .i64 i, .int .i64 j] w fun e w' => e = .returned (.tuple #[]) ∧ PlAt w' B pb la cl sa cs n (swpF L i j hi hj) ∧ Chg (fp la cl ++ fp sa cs) w w' := by
  have hle := h.le
  have hnn := h.nn
  have hrl := h.r.le
  obtain ⟨S, hS, hok⟩ := h.s
  have hsl := hS.le
  have hlx := hok.lt _ (List.getElem_mem hi)
  have hly := hok.lt _ (List.getElem_mem hj)
  have hSl := hok.len
  have hr := h.r
  have c0 := h.c0
  have c1 := h.c1
  obtain ⟨lb, lo, rfl, _, hs1, hv1⟩ := h.r.at_ (by omega)
  obtain ⟨sb, so, rfl, _, hs2, hv2⟩ := hS.at_ (by omega)
  have hfl : fp (some ⟨lb, lo, none⟩) cl = [lb] := fp_some _ _ _ (by omega)
  have hfs : fp (some ⟨sb, so, none⟩) cs = [sb] := fp_some _ _ _ (by omega)
  have d1 := h.d1
  have d2 := h.d2
  have d3 := h.d3
  rw [hfl] at d1 d3
  rw [hfs] at d2 d3
  simp only [List.mem_singleton] at d1 d2 d3
  have d3' : lb ≠ sb := d3 lb rfl
  refine (swap_rawF pb lb lo L.length cl sb so n cs i j L[i] L[j] _ _ w hi hj hlx hly c0 c1 (hv1 i _ (ivs_get hi)) (hv1 j _ (ivs_get hj)) (hs1 i (by omega)).2 (hs1 j (by omega)).2 (hv2 _ _ (zvs_get (hok.at_ i hi))) (hv2 _ _ (zvs_get (hok.at_ j hj))) (hs2 _ (by omega)).2 (hs2 _ (by omega)).2 d1 d3' (hok.inj hi hj)).mono ?_
  rintro e w' ⟨he, rfl⟩
  have g1 : Chg [lb] w ((w.setCell ⟨lb, lo + i, none⟩ (.int .i64 L[j])).setCell ⟨lb, lo + j, none⟩ (.int .i64 L[i])).drew :=
    (((Chg.setCell w ⟨lb, lo + i, none⟩ _).trans (Chg.setCell _ ⟨lb, lo + j, none⟩ _) (fun _ h _ => h) (fun _ h _ => h)).then (Chg.drew [] _))
  have r1 := ((hr.set i hi (.int .i64 (L[j] : Int))).set j hj (.int .i64 (L[i] : Int))).chg (Chg.drew [] _) (by simp)
  rw [ivs_set, ivs_set] at r1
  have c01 := g1.cellv c0 (by simpa using d1)
  have c11 := g1.cellv c1 (by simpa using d1)
  have f01 := (g1.frozen (p := ⟨pb, 0, none⟩) (block_lt_of_cell c0) (by simpa using d1)).trans h.f0
  have s1 := hS.chg g1 (by rw [hfs]; simpa using fun e => d3' e.symm)
  generalize ((w.setCell ⟨lb, lo + i, none⟩ (.int .i64 L[j])).setCell ⟨lb, lo + j, none⟩ (.int .i64 L[i])).drew = w1 at *
  have g2 : Chg [sb] w1 ((w1.setCell ⟨sb, so + L[j], none⟩ (.int .i64 i)).setCell ⟨sb, so + L[i], none⟩ (.int .i64 j)).drew :=
    ((Chg.setCell w1 ⟨sb, so + L[j], none⟩ _).trans (Chg.setCell _ ⟨sb, so + L[i], none⟩ _) (fun _ h _ => h) (fun _ h _ => h)).then (Chg.drew [] _)
  have s2 := ((s1.set L[j] hly (.int .i64 (i : Int))).set L[i] hlx (.int .i64 (j : Int))).chg (Chg.drew [] _) (by simp)
  rw [zvs_set, zvs_set] at s2
  refine ⟨he, ⟨?_, ?_, g2.cellv c11 (by simpa using d2), ?_, ⟨_, s2, hok.swap hi hj⟩, hnn, h.pB, h.d1, h.d2, h.d3⟩, ?_⟩
  · rw [swp_lenF]; exact g2.cellv c01 (by simpa using d2)
  · exact (g2.frozen (p := ⟨pb, 0, none⟩) (block_lt_of_cell c01) (by simpa using d2)).trans f01
  · rw [swp_lenF]; exact r1.chg g2 (by rw [hfl]; simpa using d3')
  · exact g1.trans g2 (fun k hk _ => by rw [hfl]; simp at hk; simp [hk]) (fun k hk _ => by rw [hfs]; simp at hk; simp [hk])
end Go.Proofs.YtdgkbicelnnfpaaGreatDoor

/- heap.up, heap.down over the places of a space. -/
namespace Go.Proofs.YtdgkbicelnnfpaaGreatDoor
open Go.RowKit
set_option linter.unusedVariables false
set_option linter.unusedSimpArgs false
attribute [local go_sem ↓] Go.wp_at_zero Go.wp_at_succ

def keyF (E : List Nat) (k : Nat) : Nat := E.getD k 0
theorem key_ltF {E : List Nat} {k : Nat} (h : k < E.length) : keyF E k = E[k] := by simp [keyF, h]
theorem key_swpF (E : List Nat) (i j : Nat) (hi : i < E.length) (hj : j < E.length) (k : Nat) (hk : k < E.length) : keyF (swpF E i j hi hj) k = if k = j then keyF E i else if k = i then keyF E j else keyF E k := by
  rw [key_ltF (by rw [swp_lenF]; exact hk), swp_getF, key_ltF hi, key_ltF hj, key_ltF hk]
/-- The first n are a heap. -/
def HeapF (E : List Nat) (n : Nat) : Prop := ∀ k, 0 < k → k < n → keyF E ((k - 1) / 2) ≤ keyF E k
/-- .. but at the spot j, which may be too small. -/
def UpOkF (E : List Nat) (j n : Nat) : Prop := (∀ k, 0 < k → k < n → k ≠ j → keyF E ((k - 1) / 2) ≤ keyF E k) ∧ ∀ k, 0 < k → k < n → (k - 1) / 2 = j → 0 < j → keyF E ((j - 1) / 2) ≤ keyF E k
/-- .. but at the spot i, which may be anything. -/
def DownOkF (E : List Nat) (i n : Nat) : Prop := (∀ k, 0 < k → k < n → k ≠ i → (k - 1) / 2 ≠ i → keyF E ((k - 1) / 2) ≤ keyF E k) ∧ ∀ k, 0 < k → k < n → (k - 1) / 2 = i → 0 < i → keyF E ((i - 1) / 2) ≤ keyF E k
theorem up_swpF {E : List Nat} {i j n : Nat} (hn : n ≤ E.length) (h : UpOkF E j n) (hj0 : 0 < j) (hjn : j < n) (hj : j < E.length) (hij : i = (j - 1) / 2) (hi : i < E.length) (hlt : keyF E j < keyF E i) : UpOkF (swpF E i j hi hj) i n := by
  obtain ⟨h1, h2⟩ := h
  subst hij
  have hk := key_swpF E ((j - 1) / 2) j hi hj
  generalize hE' : swpF E ((j - 1) / 2) j hi hj = E' at hk ⊢
  clear hE'
  refine ⟨fun k k0 kn ki => ?_, fun k k0 kn kp i0 => ?_⟩
  · rw [hk ((k - 1) / 2) (by omega), hk k (by omega)]
    by_cases a : k = j
    · subst a
      rw [if_neg (by omega), if_pos rfl, if_pos rfl]
      omega
    · rw [if_neg a, if_neg ki]
      by_cases b : (k - 1) / 2 = j
      · rw [if_pos b]
        exact h2 k k0 kn b hj0
      · rw [if_neg b]
        by_cases c : (k - 1) / 2 = (j - 1) / 2
        · rw [if_pos c]
          have := h1 k k0 kn a
          rw [c] at this
          omega
        · rw [if_neg c]
          exact h1 k k0 kn a
  · rw [hk (((j - 1) / 2 - 1) / 2) (by omega), hk k (by omega), if_neg (by omega), if_neg (by omega)]
    have hp := h1 ((j - 1) / 2) i0 (by omega) (by omega)
    by_cases a : k = j
    · rw [if_pos a]
      exact hp
    · rw [if_neg a, if_neg (by omega)]
      have := h1 k k0 kn a
      rw [kp] at this
      omega
theorem up_endF {E : List Nat} {j n : Nat} (h : UpOkF E j n) (hj : j = 0 ∨ keyF E ((j - 1) / 2) ≤ keyF E j) : HeapF E n := by
  intro k k0 kn
  by_cases a : k = j
  · rcases hj with hj | hj
    · omega
    · rw [a]; exact hj
  · exact h.1 k k0 kn a
theorem down_swpF {E : List Nat} {i j n : Nat} (h : DownOkF E i n) (hn : n ≤ E.length) (hj : j < n) (hp : (j - 1) / 2 = i) (hj0 : 0 < j) (hlt : keyF E j < keyF E i) (hmin : ∀ k, 0 < k → k < n → (k - 1) / 2 = i → keyF E j ≤ keyF E k) :
    DownOkF (swpF E i j (by omega) (by omega)) j n ∧ keyF (swpF E i j (by omega) (by omega)) ((j - 1) / 2) ≤ keyF (swpF E i j (by omega) (by omega)) j := by
  obtain ⟨h1, h2⟩ := h
  have hi : i < E.length := by omega
  have hk := key_swpF E i j hi (by omega)
  generalize hE' : swpF E i j hi (by omega) = E' at hk ⊢
  clear hE'
  refine ⟨⟨fun k k0 kn ki kp => ?_, fun k k0 kn kp j0 => ?_⟩, ?_⟩
  · rw [hk ((k - 1) / 2) (by omega), hk k (by omega), if_neg kp, if_neg ki]
    by_cases a : k = i
    · rw [if_pos a, if_neg (by omega)]
      subst a
      exact h2 j hj0 hj hp k0
    · rw [if_neg a]
      by_cases b : (k - 1) / 2 = i
      · rw [if_pos b]
        exact hmin k k0 kn b
      · rw [if_neg b]
        exact h1 k k0 kn a b
  · rw [hk ((j - 1) / 2) (by omega), hk k (by omega), if_neg (by omega), if_pos hp, if_neg (by omega), if_neg (by omega)]
    have := h1 k k0 kn (by omega) (by omega)
    rw [kp] at this
    exact this
  · rw [hk ((j - 1) / 2) (by omega), hk j (by omega), if_neg (by omega), if_pos hp, if_pos rfl]
    omega
theorem down_endF {E : List Nat} {i n : Nat} (h : DownOkF E i n) (hmin : ∀ k, 0 < k → k < n → (k - 1) / 2 = i → keyF E i ≤ keyF E k) : UpOkF E i n := by
  refine ⟨fun k k0 kn ki => ?_, h.2⟩
  by_cases a : (k - 1) / 2 = i
  · rw [a]; exact hmin k k0 kn a
  · exact h.1 k k0 kn ki a
theorem heap_topF {E : List Nat} {n : Nat} (h : HeapF E n) : ∀ k, k < n → keyF E 0 ≤ keyF E k := by
  intro k
  induction k using Nat.strongRecOn with
  | _ k ih =>
    intro hk
    by_cases a : k = 0
    · rw [a]; exact Nat.le_refl _
    · exact Nat.le_trans (ih ((k - 1) / 2) (by omega) (by omega)) (h k (by omega) hk)

theorem less_keyF (i j : Nat) (b : Bool) (B pb : Nat) (la : Option Addr) (cl : Nat) (sa : Option Addr) (cs m : Nat) (E : List Nat) (w : World) (h : PlAt w B pb la cl sa cs m E) (hi : i < E.length) (hj : j < E.length) (hb : decide (keyF E i < keyF E j) = b) :
    Calls Tryz.prog 218 #[.pointer (some ⟨pb, 0, none⟩), .int .i64 i, .int .i64 j] w fun e w' => e = .returned (.bool b) ∧ Chg [] w w' := by
  rw [← hb, key_ltF hi, key_ltF hj]
  exact less_anyF B pb la cl sa cs m E w h i j hi hj
set_option maxRecDepth 20000 in
theorem up_anyF (j0 n : Nat) (B pb : Nat) (la : Option Addr) (cl : Nat) (sa : Option Addr) (cs m : Nat) (E : List Nat) (w : World) (h : PlAt w B pb la cl sa cs m E) (hn : n ≤ E.length) (hj : j0 < n) (hu : UpOkF E j0 n) :
    Calls Tryz.prog 172 #[.iface 186 (.pointer (some ⟨pb, 0, none⟩)), .int .i64 j0] w fun e w' => e = .returned (.tuple #[]) ∧ ∃ E', PlAt w' B pb la cl sa cs m E' ∧ E'.Perm E ∧ HeapF E' n ∧ (∀ k, n ≤ k → E'[k]? = E[k]?) ∧ Chg (fp la cl ++ fp sa cs) w w' := by
  have hsm := h.le
  have hnn := h.nn
  go_enter Tryz.func172, Tryz.ntmps172
  go_wp2
  go_loopw [1] (fun v wr => ∃ (j : Nat) (D : List Nat), v = .int .i64 j ∧ j < n ∧ PlAt wr B pb la cl sa cs m D ∧ D.Perm E ∧ UpOkF D j n ∧ (∀ k, n ≤ k → D[k]? = E[k]?) ∧ Chg (fp la cl ++ fp sa cs) w wr) (fun v _ => (intOf v).toNat)
  case atStart => exact ⟨j0, E, rfl, hj, h, List.Perm.refl _, hu, fun _ _ => rfl, Chg.refl _ _⟩
  case round =>
    obtain ⟨j, D, rfl, hjn, hD, hp, hU, hout, hc⟩ := hrel
    have hlen := hp.length_eq
    by_cases hj0 : j = 0
    · subst hj0
      have hH := up_endF hU (Or.inl rfl)
      go_wp2
      go_end0
      exact ⟨rfl, D, hD, hp, hH, hout, hc⟩
    · obtain ⟨m1, rfl⟩ : ∃ m, j = m + 1 := ⟨j - 1, by omega⟩
      obtain ⟨p, hp2⟩ : ∃ p, p = m1 / 2 := ⟨_, rfl⟩
      have hq : (m1 : Int) / 2 = (p : Int) := by omega
      have hpm : p < m1 + 1 := by omega
      have hmb : m1 < 100000 := by omega
      have Hp := mkHid hp2
      clear hp2
      have HU := mkHid hU
      have HL := mkHid hlen
      have HO := mkHid hout
      clear hU hlen hout
      have mL := fun u => meth_lessF u ⟨pb, 0, none⟩
      have mS := fun u => meth_swapF u ⟨pb, 0, none⟩
      have hDp : p < D.length := by have := HL.out; omega
      have hDm : m1 + 1 < D.length := by have := HL.out; omega
      have hne : ((p : Int) == (m1 : Int) + 1) = false := beq_eq_false_iff_ne.2 (by omega)
      by_cases hlt : keyF D (m1 + 1) < keyF D p
      · have lA := less_keyF (m1 + 1) p true B pb la cl sa cs m D wr hD hDm hDp (decide_eq_true hlt)
        go_wp2_with (first | (go_at_call 218; refine lA.mono ?_; rintro e w2 ⟨rfl, hg2⟩; have hD2 := hD.keep hg2) | (go_at_call 221; refine (swap_anyF p (m1 + 1) B pb la cl sa cs m D w2 hD2 hDp hDm).mono ?_; rintro e w3 ⟨rfl, hD3, hg3⟩))
        have hU3 := up_swpF (i := p) (j := m1 + 1) (by have := HL.out; omega) HU.out (by omega) hjn hDm (by rw [Hp.out, Nat.add_sub_cancel]) hDp hlt
        refine ⟨⟨p, _, rfl, by omega, hD3, (swp_permF D p (m1 + 1) hDp hDm).trans hp, hU3, fun k hk => ?_, (hc.then hg2).trans hg3 (fun _ h _ => h) (fun k hk _ => hk)⟩, by simp [intOf]; omega⟩
        rw [← HO.out k hk]
        unfold swpF
        rw [List.getElem?_set_ne (by omega), List.getElem?_set_ne (by omega)]
      · have lA := less_keyF (m1 + 1) p false B pb la cl sa cs m D wr hD hDm hDp (decide_eq_false hlt)
        have hH := up_endF (E := D) (j := m1 + 1) HU.out (Or.inr (by simp only [Nat.add_sub_cancel, ← Hp.out]; omega))
        have HH := mkHid hH
        clear hH
        go_wp2_with (first | (go_at_call 218; refine lA.mono ?_; rintro e w2 ⟨rfl, hg2⟩))
        go_end0
        exact ⟨rfl, D, hD.keep hg2, hp, HH.out, HO.out, hc.then hg2⟩
set_option maxRecDepth 20000 in
set_option maxHeartbeats 2000000 in
theorem down_anyF (i0 n : Nat) (B pb : Nat) (la : Option Addr) (cl : Nat) (sa : Option Addr) (cs m : Nat) (E : List Nat) (w : World) (h : PlAt w B pb la cl sa cs m E) (hn : n ≤ E.length) (hi : i0 ≤ 100000) (hu : DownOkF E i0 n) :
    Calls Tryz.prog 173 #[.iface 186 (.pointer (some ⟨pb, 0, none⟩)), .int .i64 i0, .int .i64 n] w fun e w' => ∃ (b : Bool) (E' : List Nat), e = .returned (.bool b) ∧ PlAt w' B pb la cl sa cs m E' ∧ E'.Perm E ∧ (∀ k, n ≤ k → E'[k]? = E[k]?) ∧ (b = true → HeapF E' n) ∧ (b = false → UpOkF E' i0 n) ∧ Chg (fp la cl ++ fp sa cs) w w' := by
  have hsm : E.length ≤ 1024 := Nat.le_trans h.le h.nn
  go_enter Tryz.func173, Tryz.ntmps173
  go_wp2
  go_loopw [7] (fun v wr => ∃ (i : Nat) (D : List Nat), v = .int .i64 i ∧ i0 ≤ i ∧ i ≤ 100000 ∧ PlAt wr B pb la cl sa cs m D ∧ D.Perm E ∧ DownOkF D i n ∧ (∀ k, n ≤ k → D[k]? = E[k]?) ∧ (i0 < i → 0 < i ∧ i < n ∧ keyF D ((i - 1) / 2) ≤ keyF D i) ∧ Chg (fp la cl ++ fp sa cs) w wr) (fun v _ => 100000 - (intOf v).toNat)
  case atStart => exact ⟨i0, E, rfl, Nat.le_refl _, hi, h, List.Perm.refl _, hu, fun _ _ => rfl, fun h => absurd h (Nat.lt_irrefl _), Chg.refl _ _⟩
  case round =>
    obtain ⟨i, D, rfl, hi0, hib, hD, hp, hU, hout, hpar, hc⟩ := hrel
    have hlen := hp.length_eq
    by_cases hj : 2 * i + 1 < n
    · obtain ⟨j1, hj1⟩ : ∃ j1, j1 = 2 * i + 1 := ⟨_, rfl⟩
      rw [← hj1] at hj
      have e1 : 2 * (i : Int) + 1 = (j1 : Int) := by omega
      have J1 := mkHid hj1
      have hDi : i < D.length := by omega
      have hD1 : j1 < D.length := by omega
      have d1 : decide (n ≤ j1) = false := decide_eq_false (by omega)
      have d1' : decide ((n : Int) ≤ (j1 : Int)) = false := decide_eq_false (by omega)
      have d2 : decide ((j1 : Int) < 0) = false := decide_eq_false (by omega)
      have hj1b : j1 < 100000 := by omega
      have mL := fun u => meth_lessF u ⟨pb, 0, none⟩
      have mS := fun u => meth_swapF u ⟨pb, 0, none⟩
      -- the lesser child, and what comes of it
      have stop : ∀ J, J < n → 0 < J → (J - 1) / 2 = i → (∀ k, 0 < k → k < n → (k - 1) / 2 = i → keyF D J ≤ keyF D k) → ¬ keyF D J < keyF D i → (decide (i0 < i) = true → HeapF D n) ∧ (decide (i0 < i) = false → UpOkF D i0 n) := by
        intro J a1 a2 a3 a4 a5
        have hup : UpOkF D i n := down_endF hU (fun k k0 kn kp => by have := a4 k k0 kn kp; omega)
        refine ⟨fun h1 => ?_, fun h1 => ?_⟩
        · obtain ⟨h2, h3, h4⟩ := hpar (by simpa using h1)
          intro k k0 kn
          by_cases a : k = i
          · rw [a]; exact h4
          · exact hup.1 k k0 kn a
        · have : i0 = i := by simp at h1; omega
          rw [this]; exact hup
      have goes : ∀ J (hJ : J < D.length), J < n → 0 < J → (J - 1) / 2 = i → (∀ k, 0 < k → k < n → (k - 1) / 2 = i → keyF D J ≤ keyF D k) → keyF D J < keyF D i →
          (swpF D i J hDi hJ).Perm E ∧ DownOkF (swpF D i J hDi hJ) J n ∧ (∀ k, n ≤ k → (swpF D i J hDi hJ)[k]? = E[k]?) ∧ keyF (swpF D i J hDi hJ) ((J - 1) / 2) ≤ keyF (swpF D i J hDi hJ) J := by
        intro J hJ a1 a2 a3 a4 a5
        obtain ⟨b1, b2⟩ := down_swpF hU (by omega) a1 a3 a2 a5 a4
        refine ⟨(swp_permF D i J hDi hJ).trans hp, b1, fun k hk => ?_, b2⟩
        rw [← hout k hk]
        unfold swpF
        rw [List.getElem?_set_ne (by omega), List.getElem?_set_ne (by omega)]
      have Stop := mkHid stop
      have Goes := mkHid goes
      have HL := mkHid hlen
      have HO := mkHid hout
      clear stop goes hU hout hpar hlen hj1
      by_cases hj2 : j1 + 1 < n
      · have hD2 : j1 + 1 < D.length := by have := HL.out; omega
        have d3 : decide (j1 + 1 < n) = true := decide_eq_true hj2
        have d3' : decide ((j1 : Int) + 1 < (n : Int)) = true := decide_eq_true (by omega)
        by_cases hlt : keyF D (j1 + 1) < keyF D j1
        · have hmin : ∀ k, 0 < k → k < n → (k - 1) / 2 = i → keyF D (j1 + 1) ≤ keyF D k := fun k k0 kn kp => by
            have : k = j1 ∨ k = j1 + 1 := by have := J1.out; omega
            rcases this with rfl | rfl <;> omega
          have Hm := mkHid hmin
          clear hmin
          by_cases hgo : keyF D (j1 + 1) < keyF D i
          · have tok : True := trivial
            go_wp2_with (first | (go_at_call 218; have _t := tok; refine (less_keyF (j1 + 1) j1 true B pb la cl sa cs m D wr hD hD2 hD1 (decide_eq_true hlt)).mono ?_; rintro e w2 ⟨rfl, hg2⟩; clear tok; have hE2 := hD.keep hg2) | (go_at_call 218; refine (less_keyF (j1 + 1) i true B pb la cl sa cs m D w2 hE2 hD2 hDi (decide_eq_true hgo)).mono ?_; rintro e w3 ⟨rfl, hg3⟩; have hE3 := hE2.keep hg3) | (go_at_call 221; refine (swap_anyF i (j1 + 1) B pb la cl sa cs m D w3 hE3 hDi hD2).mono ?_; rintro e w4 ⟨rfl, hE4, hg4⟩))
            obtain ⟨p1, p2, p3, p4⟩ := Goes.out (j1 + 1) hD2 hj2 (by omega) (by have := J1.out; omega) Hm.out hgo
            have h9 := J1.out
            exact ⟨⟨j1 + 1, _, by first | rfl | go_num, by omega, by omega, hE4, p1, p2, p3, fun _ => ⟨by omega, hj2, p4⟩, ((hc.then hg2).then hg3).trans hg4 (fun _ h _ => h) (fun k hk _ => hk)⟩, by simp [intOf]; omega⟩
          · have tok : True := trivial
            go_wp2_with (first | (go_at_call 218; have _t := tok; refine (less_keyF (j1 + 1) j1 true B pb la cl sa cs m D wr hD hD2 hD1 (decide_eq_true hlt)).mono ?_; rintro e w2 ⟨rfl, hg2⟩; clear tok; have hE2 := hD.keep hg2) | (go_at_call 218; refine (less_keyF (j1 + 1) i false B pb la cl sa cs m D w2 hE2 hD2 hDi (decide_eq_false hgo)).mono ?_; rintro e w3 ⟨rfl, hg3⟩; have hE3 := hE2.keep hg3))
            go_ret
            obtain ⟨p1, p2⟩ := Stop.out (j1 + 1) hj2 (by omega) (by have := J1.out; omega) Hm.out hgo
            exact ⟨decide (i0 < i), D, rfl, hE3, hp, HO.out, p1, p2, (hc.then hg2).then hg3⟩
        · have hmin : ∀ k, 0 < k → k < n → (k - 1) / 2 = i → keyF D (j1) ≤ keyF D k := fun k k0 kn kp => by
            have : k = j1 ∨ k = j1 + 1 := by have := J1.out; omega
            rcases this with rfl | rfl <;> omega
          have Hm := mkHid hmin
          clear hmin
          by_cases hgo : keyF D (j1) < keyF D i
          · have tok : True := trivial
            go_wp2_with (first | (go_at_call 218; have _t := tok; refine (less_keyF (j1 + 1) j1 false B pb la cl sa cs m D wr hD hD2 hD1 (decide_eq_false hlt)).mono ?_; rintro e w2 ⟨rfl, hg2⟩; clear tok; have hE2 := hD.keep hg2) | (go_at_call 218; refine (less_keyF (j1) i true B pb la cl sa cs m D w2 hE2 hD1 hDi (decide_eq_true hgo)).mono ?_; rintro e w3 ⟨rfl, hg3⟩; have hE3 := hE2.keep hg3) | (go_at_call 221; refine (swap_anyF i (j1) B pb la cl sa cs m D w3 hE3 hDi hD1).mono ?_; rintro e w4 ⟨rfl, hE4, hg4⟩))
            obtain ⟨p1, p2, p3, p4⟩ := Goes.out (j1) hD1 hj (by omega) (by have := J1.out; omega) Hm.out hgo
            have h9 := J1.out
            exact ⟨⟨j1, _, by first | rfl | go_num, by omega, by omega, hE4, p1, p2, p3, fun _ => ⟨by omega, hj, p4⟩, ((hc.then hg2).then hg3).trans hg4 (fun _ h _ => h) (fun k hk _ => hk)⟩, by simp [intOf]; omega⟩
          · have tok : True := trivial
            go_wp2_with (first | (go_at_call 218; have _t := tok; refine (less_keyF (j1 + 1) j1 false B pb la cl sa cs m D wr hD hD2 hD1 (decide_eq_false hlt)).mono ?_; rintro e w2 ⟨rfl, hg2⟩; clear tok; have hE2 := hD.keep hg2) | (go_at_call 218; refine (less_keyF (j1) i false B pb la cl sa cs m D w2 hE2 hD1 hDi (decide_eq_false hgo)).mono ?_; rintro e w3 ⟨rfl, hg3⟩; have hE3 := hE2.keep hg3))
            go_ret
            obtain ⟨p1, p2⟩ := Stop.out (j1) hj (by omega) (by have := J1.out; omega) Hm.out hgo
            exact ⟨decide (i0 < i), D, rfl, hE3, hp, HO.out, p1, p2, (hc.then hg2).then hg3⟩
      · have d3 : decide (j1 + 1 < n) = false := decide_eq_false hj2
        have d3' : decide ((j1 : Int) + 1 < (n : Int)) = false := decide_eq_false (by omega)
        have hmin : ∀ k, 0 < k → k < n → (k - 1) / 2 = i → keyF D (j1) ≤ keyF D k := fun k k0 kn kp => by
          have : k = j1 := by have := J1.out; omega
          rw [this]; exact Nat.le_refl _
        have Hm := mkHid hmin
        clear hmin
        by_cases hgo : keyF D (j1) < keyF D i
        · go_wp2_with (first | (go_at_call 218; refine (less_keyF (j1) i true B pb la cl sa cs m D wr hD hD1 hDi (decide_eq_true hgo)).mono ?_; rintro e w3 ⟨rfl, hg3⟩; have hE3 := hD.keep hg3) | (go_at_call 221; refine (swap_anyF i (j1) B pb la cl sa cs m D w3 hE3 hDi hD1).mono ?_; rintro e w4 ⟨rfl, hE4, hg4⟩))
          obtain ⟨p1, p2, p3, p4⟩ := Goes.out (j1) hD1 hj (by omega) (by have := J1.out; omega) Hm.out hgo
          have h9 := J1.out
          exact ⟨⟨j1, _, by first | rfl | go_num, by omega, by omega, hE4, p1, p2, p3, fun _ => ⟨by omega, hj, p4⟩, ((hc).then hg3).trans hg4 (fun _ h _ => h) (fun k hk _ => hk)⟩, by simp [intOf]; omega⟩
        · go_wp2_with (first | (go_at_call 218; refine (less_keyF (j1) i false B pb la cl sa cs m D wr hD hD1 hDi (decide_eq_false hgo)).mono ?_; rintro e w3 ⟨rfl, hg3⟩; have hE3 := hD.keep hg3))
          go_ret
          obtain ⟨p1, p2⟩ := Stop.out (j1) hj (by omega) (by have := J1.out; omega) Hm.out hgo
          exact ⟨decide (i0 < i), D, rfl, hE3, hp, HO.out, p1, p2, (hc).then hg3⟩
    · have hfin : HeapF D n ∨ i0 = i := by
        rcases Nat.lt_or_ge i0 i with h1 | h1
        · left
          obtain ⟨h2, h3, h4⟩ := hpar h1
          intro k k0 kn
          by_cases a : k = i
          · rw [a]; exact h4
          · exact hU.1 k k0 kn a (by omega)
        · right; omega
      have hup : UpOkF D i n := down_endF hU (fun k k0 kn kp => by omega)
      have Hf := mkHid hfin
      have Hu := mkHid hup
      have Ho := mkHid hout
      clear hfin hup hout hU hpar hlen
      have hd : decide ((n : Int) ≤ 2 * (i : Int) + 1) = true := decide_eq_true (by omega)
      go_wp2_with fail
      go_ret
      exact ⟨decide (i0 < i), D, rfl, hD, hp, Ho.out, fun h1 => Hf.out.resolve_right (by simp at h1; omega), fun h1 => by
        have : i0 = i := by simp at h1; omega
        rw [this]; exact Hu.out, hc⟩
end Go.Proofs.YtdgkbicelnnfpaaGreatDoor
