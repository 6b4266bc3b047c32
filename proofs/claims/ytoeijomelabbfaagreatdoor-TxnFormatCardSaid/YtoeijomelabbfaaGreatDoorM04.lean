/- Texts Va, Vb, Ve, Vf, Rv, F, Vi of the library, joined. -/
import Derived.Test.YtoeijomelabbfaaGreatDoorM01
import Derived.Test.YtoeijomelabbfaaGreatDoorM03
import Derived.Deep.QuietTactic
import Derived.BigQuiet
import Derived.RegionTactic
import Derived.Deep.RegionHeld3
import Derived.Deep.RegionLaw
import Derived.Deep.DeepCutAuto
import Derived.Deep.CutBlock
import Derived.Deep.DrawnRows
import Derived.WalkSpells
import Derived.WalkLawsBesides
import Derived.OrdersHeld
import Derived.StillTail
import Derived.Tactics
import Derived.WalkKit
import Derived.RangeFuncNested
import Derived.RangeFuncBound
import Derived.RangeFuncCalls
import Derived.RangeFuncLeaves
import Derived.OrdersIn
import Derived.Shelf.RegionOpen
import Derived.OwnWalkIn
import Derived.TacticsInMore
import Derived.LoopNIn
import Derived.LoopIn
import Derived.RangeFuncBox
/- Counts as pages: what they are, and lists of pages in memory. -/


namespace Go.Proofs.YtoeijomelabbfaaGreatDoor
set_option maxRecDepth 200000
open Go.RowKit
set_option linter.unusedVariables false
set_option linter.unusedSimpArgs false
attribute [local go_sem ↓] Go.wp_at_zero Go.wp_at_succ

theorem eltP : Elt Tryz.prog 82 41 24 := Elt.mk (z := .slice none 0 0) Tryz.underlying82 (by kernel_rfl) (by kernel_rfl)
/-! ### the numbers of pages, and what stands on them -/
def npg (n : Nat) : Nat := (n + 239) / 240
theorem npg_step {k : Nat} (h : k % 240 = 0) : npg (k + 1) = npg k + 1 ∧ npg k = k / 240 := by unfold npg; omega
theorem npg_same {k : Nat} (h : k % 240 ≠ 0) : npg (k + 1) = npg k ∧ k / 240 < npg k := by unfold npg; omega
theorem npg_le (n : Nat) : npg n ≤ n := by unfold npg; omega
theorem npg_240 (n : Nat) : npg n * 240 ≤ n + 239 ∧ n ≤ npg n * 240 := by unfold npg; omega
/-- The pages ps have the first k of the counts L, noughts behind. -/
def IsPut (L : List UInt8) (k : Nat) (ps : List (List UInt8)) : Prop := ps.length = npg k ∧ ∀ (i : Nat) (p : List UInt8), ps[i]? = some p → p.length = 240 ∧ ∀ j, j < 240 → p[j]? = some (if 240 * i + j < k then (L[240 * i + j]?).getD 0 else 0)
theorem IsPut.unique {L : List UInt8} {k : Nat} {ps qs : List (List UInt8)} (h : IsPut L k ps) (g : IsPut L k qs) : ps = qs := by
  apply List.ext_getElem?
  intro i
  by_cases hi : i < npg k
  · have h1 : i < ps.length := by rw [h.1]; exact hi
    have g1 : i < qs.length := by rw [g.1]; exact hi
    rw [List.getElem?_eq_getElem h1, List.getElem?_eq_getElem g1]
    obtain ⟨a1, a2⟩ := h.2 i _ (List.getElem?_eq_getElem h1)
    obtain ⟨b1, b2⟩ := g.2 i _ (List.getElem?_eq_getElem g1)
    congr 1
    apply List.ext_getElem?
    intro j
    by_cases hj : j < 240
    · rw [a2 j hj, b2 j hj]
    · rw [List.getElem?_eq_none (by omega), List.getElem?_eq_none (by omega)]
  · rw [List.getElem?_eq_none (by rw [h.1]; omega), List.getElem?_eq_none (by rw [g.1]; omega)]
theorem IsPut.nil (L : List UInt8) : IsPut L 0 [] := ⟨rfl, fun i p h => by simp at h⟩
theorem IsPut.first {L : List UInt8} {k : Nat} {ps : List (List UInt8)} (h : IsPut L k ps) (hk : k % 240 = 0) {v : UInt8} (hv : L[k]? = some v) : IsPut L (k + 1) (ps ++ [(List.replicate 240 0).set 0 v]) := by
  obtain ⟨e1, e2⟩ := npg_step hk
  refine ⟨by rw [List.length_append, h.1, e1]; rfl, fun i p hp => ?_⟩
  rw [List.getElem?_append] at hp
  split at hp
  · rename_i hi
    rw [h.1] at hi
    obtain ⟨a1, a2⟩ := h.2 i p hp
    refine ⟨a1, fun j hj => ?_⟩
    rw [a2 j hj, if_pos (show 240 * i + j < k by omega), if_pos (show 240 * i + j < k + 1 by omega)]
  · rename_i hi
    rw [h.1] at hi hp
    have hi2 : i - npg k = 0 := by
      have := (List.getElem?_eq_some_iff.1 hp).1
      simp only [List.length_cons, List.length_nil] at this; omega
    rw [hi2] at hp
    simp only [List.getElem?_cons_zero, Option.some.injEq] at hp
    subst hp
    have hik : 240 * i = k := by omega
    refine ⟨by rw [List.length_set, List.length_replicate], fun j hj => ?_⟩
    by_cases h0 : j = 0
    · subst h0
      rw [List.getElem?_set_self (by rw [List.length_replicate]; omega), if_pos (by omega), Nat.add_zero, hik, hv]; rfl
    · rw [List.getElem?_set_ne (fun e => h0 e.symm), List.getElem?_replicate, if_pos hj, if_neg (by omega)]
theorem IsPut.more {L : List UInt8} {k : Nat} {ps : List (List UInt8)} (h : IsPut L k ps) (hk : k % 240 ≠ 0) {v : UInt8} (hv : L[k]? = some v) {p : List UInt8} (hp : ps[k / 240]? = some p) : IsPut L (k + 1) (ps.set (k / 240) (p.set (k % 240) v)) := by
  obtain ⟨e1, e2⟩ := npg_same hk
  refine ⟨by rw [List.length_set, h.1, e1], fun i q hq => ?_⟩
  by_cases hi : i = k / 240
  · subst hi
    rw [List.getElem?_set_self (List.getElem?_eq_some_iff.1 hp).1] at hq
    cases hq
    obtain ⟨a1, a2⟩ := h.2 _ p hp
    refine ⟨by simpa using a1, fun j hj => ?_⟩
    by_cases hj2 : j = k % 240
    · subst hj2
      rw [List.getElem?_set_self (by omega), if_pos (by omega), show 240 * (k / 240) + k % 240 = k by omega, hv]; rfl
    · rw [List.getElem?_set_ne (fun e => hj2 e.symm), a2 j hj]
      by_cases hlt : 240 * (k / 240) + j < k
      · rw [if_pos hlt, if_pos (by omega)]
      · rw [if_neg hlt, if_neg (by omega)]
  · rw [List.getElem?_set_ne (fun e => hi e.symm)] at hq
    obtain ⟨a1, a2⟩ := h.2 i q hq
    refine ⟨a1, fun j hj => ?_⟩
    rw [a2 j hj]
    by_cases hlt : 240 * i + j < k
    · rw [if_pos hlt, if_pos (by omega)]
    · rw [if_neg hlt, if_neg (by omega)]

/-! ### pages in memory -/
/-- A list of byte slices, read. -/
def RdPg (w : World) (ao : Option Addr) (ps : List (List UInt8)) : Prop := ∃ vs : List Value, vs.length = ps.length ∧ Reads w ao vs ∧ ∀ (i : Nat) (p : List UInt8), ps[i]? = some p → ∃ a c, vs[i]? = some (.slice a p.length c) ∧ p.length ≤ c ∧ p.length ≤ 140737488351232 ∧ Reads w a (bts p)
theorem RdPg.keep {w w' : World} {ao : Option Addr} {ps : List (List UInt8)} (h : RdPg w ao ps) (g : Chg [] w w') : RdPg w' ao ps := by
  obtain ⟨vs, h1, h2, h3⟩ := h
  refine ⟨vs, h1, h2.keep g, fun i p hp => ?_⟩
  obtain ⟨a, c, h4, h5, h6, h7⟩ := h3 i p hp
  exact ⟨a, c, h4, h5, h6, h7.keep g⟩
/-- The page at a place: its slice, and what it reads. -/
theorem RdPg.at_ {w : World} {ao : Option Addr} {ps : List (List UInt8)} (h : RdPg w ao ps) {i : Nat} {p : List UInt8} (hp : ps[i]? = some p) : ∃ b o a c, ao = some ⟨b, o, none⟩ ∧ w.cell? ⟨b, o + i, none⟩ = some (.slice a p.length c) ∧ p.length ≤ c ∧ p.length ≤ 140737488351232 ∧ Reads w a (bts p) := by
  obtain ⟨vs, h1, h2, h3⟩ := h
  obtain ⟨a, c, h4, h5, h6, h7⟩ := h3 i p hp
  obtain ⟨b, o, e, hc, _⟩ := reads_lt h2 i _ h4
  exact ⟨b, o, a, c, e, hc, h5, h6, h7⟩
def pv (b : Nat) : Value := .slice (some ⟨b, 0, none⟩) 240 240
/-- Pages of 240 bytes in blocks of their own (bs), the list apart from them; all may be written. -/
structure OPg (w : World) (B : Nat) (ao : Option Addr) (c : Nat) (bs : List Nat) (ps : List (List UInt8)) : Prop where
  ln : bs.length = ps.length
  r : Room w B ao ps.length c (bs.map pv)
  p : ∀ (i b : Nat) (p : List UInt8), bs[i]? = some b → ps[i]? = some p → Room w B (some ⟨b, 0, none⟩) 240 240 (bts p)
  nd : bs.Nodup
  ap : ∀ b, b ∈ bs → b ∉ fp ao c
section
variable {w w' : World} {B : Nat} {ao : Option Addr} {c : Nat} {bs : List Nat} {ps : List (List UInt8)}
theorem OPg.nil (w : World) (B : Nat) : OPg w B none 0 [] [] := ⟨rfl, Room.nil _ _ _, fun i b p h => by simp at h, List.nodup_nil, by simp⟩
theorem OPg.blt (h : OPg w B ao c bs ps) {i b : Nat} (hb : bs[i]? = some b) : B ≤ b ∧ b < w.heap.size := by
  have hi := (List.getElem?_eq_some_iff.1 hb).1
  have hp : ps[i]? = some (ps[i]'(by rw [← h.ln]; exact hi)) := List.getElem?_eq_getElem _
  exact (h.p i b _ hb hp).lt b (by rw [fp_some _ _ _ (by decide)]; simp)
theorem OPg.mlt (h : OPg w B ao c bs ps) {b : Nat} (hb : b ∈ bs) : B ≤ b ∧ b < w.heap.size := by
  obtain ⟨i, hi, rfl⟩ := List.getElem_of_mem hb
  exact h.blt (List.getElem?_eq_getElem hi)
theorem OPg.chg {S : List Nat} (h : OPg w B ao c bs ps) (g : Chg S w w') (h1 : ∀ k, k ∈ fp ao c → k ∉ S) (h2 : ∀ k, k ∈ bs → k ∉ S) : OPg w' B ao c bs ps :=
  ⟨h.ln, h.r.chg g h1, fun i b p hb hp => (h.p i b p hb hp).chg g (fun k hk => by rw [fp_some _ _ _ (by decide)] at hk; simp at hk; subst hk; exact h2 _ (List.mem_of_getElem? hb)), h.nd, h.ap⟩
theorem OPg.keep (h : OPg w B ao c bs ps) (g : Chg [] w w') : OPg w' B ao c bs ps := h.chg g (by simp) (by simp)
theorem OPg.mono {B' : Nat} (h : OPg w B ao c bs ps) (hB : B' ≤ B) : OPg w B' ao c bs ps := ⟨h.ln, h.r.mono hB, fun i b p hb hp => (h.p i b p hb hp).mono hB, h.nd, h.ap⟩
theorem OPg.read (h : OPg w B ao c bs ps) : RdPg w ao ps := by
  refine ⟨bs.map pv, by rw [List.length_map, h.ln], h.r.reads, fun i p hp => ?_⟩
  have hi := (List.getElem?_eq_some_iff.1 hp).1
  have hb : bs[i]? = some (bs[i]'(by rw [h.ln]; exact hi)) := List.getElem?_eq_getElem _
  have hr := h.p i _ p hb hp
  have hl := hr.len
  rw [bts_length] at hl
  refine ⟨some ⟨bs[i]'(by rw [h.ln]; exact hi), 0, none⟩, 240, ?_, by omega, by omega, hr.reads⟩
  rw [List.getElem?_map, hb, hl]; rfl
/-- One byte of one page is written. -/
theorem OPg.set (h : OPg w B ao c bs ps) {i b : Nat} {p : List UInt8} (hb : bs[i]? = some b) (hp : ps[i]? = some p) (j : Nat) (hj : j < 240) (v : UInt8) : OPg (w.setCell ⟨b, j, none⟩ (.int .u8 (v8 v))) B ao c bs (ps.set i (p.set j v)) ∧ Chg [b] w (w.setCell ⟨b, j, none⟩ (.int .u8 (v8 v))) := by
  have g := Chg.setCell w ⟨b, j, none⟩ (.int .u8 (v8 v))
  have hrr := h.r.chg g (fun k hk hm => by
    simp at hm
    subst hm
    exact h.ap _ (List.mem_of_getElem? hb) hk)
  refine ⟨⟨by rw [List.length_set]; exact h.ln, by rw [List.length_set]; exact hrr, fun i' b' p' hb' hp' => ?_, h.nd, h.ap⟩, g⟩
  · by_cases hi : i' = i
    · subst hi
      rw [hb] at hb'
      cases hb'
      rw [List.getElem?_set_self (List.getElem?_eq_some_iff.1 hp).1] at hp'
      cases hp'
      have := (h.p i' b p hb hp).set j hj (.int .u8 (v8 v))
      rw [bts_set, Nat.zero_add] at this
      exact this
    · rw [List.getElem?_set_ne (fun e => hi e.symm)] at hp'
      refine (h.p i' b' p' hb' hp').chg g (fun k hk hm => ?_)
      rw [fp_some _ _ _ (by decide)] at hk
      simp at hk hm
      subst hk hm
      exact hi ((List.getElem?_inj (List.getElem?_eq_some_iff.1 hb').1 h.nd).1 (hb'.trans hb.symm))
/-- One page more. -/
theorem OPg.snoc (h : OPg w B ao c bs ps) {wp : World} {b : Nat} {p : List UInt8} (gp : Chg [] w wp) (hp : Room wp B (some ⟨b, 0, none⟩) 240 240 (bts p)) (hnew : w.heap.size ≤ b) {a' : Option Addr} {c' : Nat} (hr : Room w' B a' (ps.length + 1) c' (bs.map pv ++ [pv b])) (g : Chg (fp ao c) wp w') (hf : fp a' c' = fp ao c ∨ ∃ k, wp.heap.size ≤ k ∧ fp a' c' = [k]) : OPg w' B a' c' (bs ++ [b]) (ps ++ [p]) := by
  have hbw : b < wp.heap.size := (hp.lt b (by rw [fp_some _ _ _ (by decide)]; simp)).2
  have hao : ∀ k, k ∈ fp ao c → k < w.heap.size := fun k hk => (h.r.lt k hk).2
  have hpg := gp.size
  have hnb : b ∉ fp ao c := fun hm => by have := hao b hm; omega
  refine ⟨by simp [h.ln], by simpa using hr, fun i b' p' hb' hp' => ?_, ?_, fun b' hb' hm => ?_⟩
  · rw [List.getElem?_append] at hb' hp'
    by_cases hi : i < bs.length
    · rw [if_pos hi] at hb'
      rw [if_pos (by rw [← h.ln]; exact hi)] at hp'
      exact ((h.p i b' p' hb' hp').chg gp (by simp)).chg g (fun k hk hm => by
        rw [fp_some _ _ _ (by decide)] at hk
        simp at hk
        subst hk
        exact h.ap _ (List.mem_of_getElem? hb') hm)
    · rw [if_neg hi] at hb'
      rw [if_neg (by rw [← h.ln]; exact hi)] at hp'
      have h0 : i - bs.length = 0 := by have := (List.getElem?_eq_some_iff.1 hb').1; simp at this; omega
      rw [h0] at hb'
      rw [← h.ln, h0] at hp'
      simp at hb' hp'
      subst hb' hp'
      exact hp.chg g (fun k hk hm => by rw [fp_some _ _ _ (by decide)] at hk; simp at hk; subst hk; exact hnb hm)
  · rw [List.nodup_append]
    refine ⟨h.nd, by simp, fun x hx y hy e => ?_⟩
    simp at hy
    subst hy e
    have := (h.mlt hx).2
    omega
  · rcases List.mem_append.1 hb' with hb' | hb'
    · have hlt := (h.mlt hb').2
      rcases hf with e | ⟨k, hk, e⟩
      · rw [e] at hm; exact h.ap b' hb' hm
      · rw [e] at hm; simp at hm; omega
    · simp at hb'
      subst hb'
      rcases hf with e | ⟨k, hk, e⟩
      · rw [e] at hm; exact hnb hm
      · rw [e] at hm; simp at hm; omega
end
end Go.Proofs.YtoeijomelabbfaaGreatDoor

/- The reference: Pages, Put, Page. -/
namespace Go.Proofs.YtoeijomelabbfaaGreatDoor
set_option maxRecDepth 200000
open Go.RowKit
set_option linter.unusedVariables false
set_option linter.unusedSimpArgs false
attribute [local go_sem ↓] Go.wp_at_zero Go.wp_at_succ

/-- Pages of any number. -/
def npgZ (z : Int) : Int := if z < 1 then 0 else ((npg z.toNat : Nat) : Int)
theorem npgZ_nat (n : Nat) : npgZ (n : Int) = (npg n : Int) := by
  unfold npgZ
  split
  · have : n = 0 := by omega
    subst this; rfl
  · rw [Int.toNat_natCast]
end Go.Proofs.YtoeijomelabbfaaGreatDoor

/- What pages bear; the reference: Take. -/
namespace Go.Proofs.YtoeijomelabbfaaGreatDoor
set_option maxRecDepth 200000
open Go.RowKit
set_option linter.unusedVariables false
set_option linter.unusedSimpArgs false
attribute [local go_sem ↓] Go.wp_at_zero Go.wp_at_succ

/-! ### pages of 240 bytes as one row -/
def all240 (ps : List (List UInt8)) : Bool := ps.all (fun p => p.length == 240)
theorem all240_iff {ps : List (List UInt8)} : all240 ps = true ↔ ∀ (i : Nat) (p : List UInt8), ps[i]? = some p → p.length = 240 := by
  unfold all240
  rw [List.all_eq_true]
  constructor
  · intro h i p hp
    simpa using h p (List.mem_of_getElem? hp)
  · intro h p hp
    obtain ⟨i, hi, rfl⟩ := List.getElem_of_mem hp
    simpa using h i _ (List.getElem?_eq_getElem hi)
theorem flat_lenK : ∀ {ps : List (List UInt8)}, all240 ps = true → ps.flatten.length = 240 * ps.length
  | [], _ => rfl
  | p :: r, h => by
    unfold all240 at h
    rw [List.all_cons, Bool.and_eq_true] at h
    have h1 : p.length = 240 := by simpa using h.1
    have h2 := flat_lenK (ps := r) h.2
    rw [List.flatten_cons, List.length_append, h2, h1, List.length_cons]
    omega
theorem flat_getK : ∀ {ps : List (List UInt8)} (i j : Nat) (p : List UInt8), all240 ps = true → ps[i]? = some p → j < 240 → ps.flatten[240 * i + j]? = p[j]?
  | [], i, j, p, _, hp, _ => by simp at hp
  | q :: r, 0, j, p, h, hp, hj => by
    unfold all240 at h
    rw [List.all_cons, Bool.and_eq_true] at h
    have h1 : q.length = 240 := by simpa using h.1
    simp only [List.getElem?_cons_zero, Option.some.injEq] at hp
    subst hp
    rw [List.flatten_cons, List.getElem?_append_left (by omega), Nat.mul_zero, Nat.zero_add]
  | q :: r, i + 1, j, p, h, hp, hj => by
    unfold all240 at h
    rw [List.all_cons, Bool.and_eq_true] at h
    have h1 : q.length = 240 := by simpa using h.1
    simp only [List.getElem?_cons_succ] at hp
    rw [List.flatten_cons, List.getElem?_append_right (by omega), h1, show 240 * (i + 1) + j - 240 = 240 * i + j by omega]
    exact flat_getK i j p h.2 hp hj
/-- What is taken: an error, or 0 and the counts. -/
def takeN (ps : List (List UInt8)) (z : Int) : Int × List UInt8 :=
  if z < 0 ∨ 1024 < z then (1, []) else if ps.length < npg z.toNat then (4, []) else if npg z.toNat < ps.length then (3, [])
  else if all240 ps = true then (if (ps.flatten.drop z.toNat).all (· == 0) = true then (0, ps.flatten.take z.toNat) else (5, [])) else (5, [])
theorem drop_zero {l : List UInt8} {n : Nat} : (l.drop n).all (· == 0) = true ↔ ∀ (i : Nat) (a : UInt8), n ≤ i → l[i]? = some a → a = 0 := by
  rw [List.all_eq_true]
  constructor
  · intro h i a hi ha
    have : a ∈ l.drop n := List.mem_iff_getElem?.2 ⟨i - n, by rw [List.getElem?_drop, show n + (i - n) = i by omega]; exact ha⟩
    simpa using h a this
  · intro h a ha
    obtain ⟨i, hi⟩ := List.mem_iff_getElem?.1 ha
    rw [List.getElem?_drop] at hi
    simpa using h _ a (by omega) hi
theorem take_out {ps : List (List UInt8)} {z : Int} (h : z < 0 ∨ 1024 < z) : takeN ps z = (1, []) := if_pos h
/-- What is put is taken as it was. -/
theorem put_take {L : List UInt8} {n : Nat} {ps : List (List UInt8)} (hL : L.length = n) (hn : n ≤ 1024) (h : IsPut L n ps) : takeN ps (n : Int) = (0, L) := by
  have ha : all240 ps = true := all240_iff.2 fun i p hp => (h.2 i p hp).1
  have hfl := flat_lenK ha
  have key : ∀ i, i < 240 * ps.length → ps.flatten[i]? = some (if i < n then (L[i]?).getD 0 else 0) := by
    intro i hi
    have hq : i / 240 < ps.length := by omega
    have hp := List.getElem?_eq_getElem hq
    have h1 := flat_getK (i / 240) (i % 240) _ ha hp (by omega)
    rw [(h.2 _ _ hp).2 _ (by omega), show 240 * (i / 240) + i % 240 = i by omega] at h1
    exact h1
  have hpl := h.1
  have hbd := npg_240 n
  unfold takeN
  rw [if_neg (by omega), Int.toNat_natCast, if_neg (by omega), if_neg (by omega), if_pos ha, if_pos (drop_zero.2 fun i a hi hia => ?_)]
  · congr 1
    apply List.ext_getElem?
    intro i
    rw [List.getElem?_take]
    split
    · rename_i hi
      rw [key i (by omega), if_pos hi, List.getElem?_eq_getElem (by omega)]; rfl
    · rw [List.getElem?_eq_none (by omega)]
  · have hlt := (List.getElem?_eq_some_iff.1 hia).1
    rw [key i (by omega), if_neg (by omega)] at hia
    cases hia; rfl
/-- What is taken is put as it was. -/
theorem take_put {ps : List (List UInt8)} {z : Int} {out : List UInt8} (h : takeN ps z = (0, out)) : (out.length : Int) = z ∧ IsPut out out.length ps ∧ out.length ≤ 1024 := by
  unfold takeN at h
  by_cases h1 : z < 0 ∨ 1024 < z
  · rw [if_pos h1] at h; simp at h
  · rw [if_neg h1] at h
    obtain ⟨n, rfl⟩ : ∃ n : Nat, z = (n : Int) := ⟨z.toNat, by omega⟩
    rw [Int.toNat_natCast] at h
    split at h
    · simp at h
    · split at h
      · simp at h
      · split at h
        · rename_i h2 h3 ha
          split at h
          · rename_i hz
            have hout : out = ps.flatten.take n := by simpa using h.symm
            have hfl := flat_lenK ha
            have hbd := npg_240 n
            have hpl : ps.length = npg n := by omega
            have hol : out.length = n := by rw [hout, List.length_take]; omega
            refine ⟨by omega, ?_, by omega⟩
            rw [hol]
            refine ⟨hpl, fun i p hp => ⟨all240_iff.1 ha i p hp, fun j hj => ?_⟩⟩
            rw [← flat_getK i j p ha hp hj]
            have hi := (List.getElem?_eq_some_iff.1 hp).1
            have hlt : 240 * i + j < ps.flatten.length := by omega
            by_cases hn : 240 * i + j < n
            · rw [if_pos hn, hout, List.getElem?_take, if_pos hn, List.getElem?_eq_getElem hlt]; rfl
            · rw [if_neg hn]
              have := drop_zero.1 hz (240 * i + j) _ (by omega) (List.getElem?_eq_getElem hlt)
              rw [List.getElem?_eq_getElem hlt, this]
          · simp at h
        · simp at h
end Go.Proofs.YtoeijomelabbfaaGreatDoor

/- The reference: Take. -/
namespace Go.Proofs.YtoeijomelabbfaaGreatDoor
set_option maxRecDepth 200000
open Go.RowKit
set_option linter.unusedVariables false
set_option linter.unusedSimpArgs false
attribute [local go_sem ↓] Go.wp_at_zero Go.wp_at_succ

/-- What a Take answers. -/
def TakeRes (B : Nat) (e : Ending) (w' : World) (r : Int × List UInt8) : Prop := ∃ a c, e = .returned (.tuple #[.slice a r.2.length c, .int .i64 r.1]) ∧ Room w' B a r.2.length c (bts r.2)
theorem TakeRes.none (B : Nat) (w' : World) (k : Int) : TakeRes B (.returned (.tuple #[.slice none 0 0, .int .i64 k])) w' (k, []) := ⟨Option.none, 0, rfl, Room.nil _ _ _⟩
end Go.Proofs.YtoeijomelabbfaaGreatDoor

/- A region that draws its order and whose last operation, in whatever order, ends what the reads lean on (x.f = append(x.f, v)): the condition S is asked behind each operation but that one. No program is named here. -/
namespace Go.Proofs.YtoeijomelabbfaaGreatDoor
set_option maxRecDepth 200000
open Go.RowKit
set_option linter.unusedVariables false

section
variable {P : Program} {ops : Array Oper} {Q : Exit → Act → World → Prop} {md : Region.Mode} {S : World → Prop} {m : Nat}
/-- Whatever order is drawn from here on: S holds behind each operation ahead of number m. -/
def Whichever (P : Program) (md : Region.Mode) (ops : Array Oper) (Q : Exit → Act → World → Prop) (S : World → Prop) (m : Nat) : Nat → Array Bool → Act → World → Prop
  | 0, done, a, w => Region.ready md ops done = [] ∧ Q .normal a w
  | n + 1, done, a, w => (Region.ready md ops done = [] → Q .normal a w) ∧ ∀ i ∈ Region.ready md ops done,
      wpOp P ops Q i (fun b u => (i < m → S u) ∧ Whichever P md ops Q S m n (done.setIfInBounds i true) b u) a w
theorem Whichever.any : ∀ (n : Nat) (done : Array Bool) (a : Act) (w : World), Whichever P md ops Q S m n done a w → wpAny P md ops Q n done a w
  | 0, _, _, _, h => h
  | n + 1, _, _, _, h => ⟨h.1, fun i hi => wpOp_mono (fun b u k => Whichever.any n _ b u k.2) (h.2 i hi)⟩
theorem still_ready {i j : Nat} {oj : Oper} {done : Array Bool} (hi : i ∈ Region.ready md ops done) (hj : j ∈ Region.ready md ops done) (hoj : ops[j]? = some oj) : ∀ e ∈ oj.after, Region.binds md e = true → e.on ≠ i := by
  intro e he hb heq
  have hun := (mem_ready.1 hi).1
  obtain ⟨_, o', ho', hall⟩ := mem_ready.1 hj
  cases Option.some.inj (hoj.symm.trans ho')
  have h1 := hall e he hb
  rw [heq, getD_both hun] at h1
  cases h1
theorem Whichever.first {i : Nat} {oi : Oper} {v : Value} (hi : ops[i]? = some oi) (him : i < m) (hm : ops.size = m + 1) (hs : Region.sinkB md ops m = true) (hc : Region.chainB md ops m = true) (hsel : ∀ (j : Nat) (o : Oper) cs b, ops[j]? = some o → o.op ≠ .select cs b)
    (hQ : ∀ c a w, Q (.panic c) (a.put oi.dst v) w → Q (.panic c) a w) : ∀ (n : Nat) (done : Array Bool) (a : Act) (w : World), HeadInv md ops m done →
      (∀ j oj, ops[j]? = some oj → j ≠ i → done.getD j true = false → (∀ e ∈ oj.after, Region.binds md e = true → e.on ≠ i) → oi.apart ops oj = true) →
      i ∈ Region.ready md ops done → YieldsIf P ops S oi v a → S w → Whichever P md ops Q S m n (done.setIfInBounds i true) (a.put oi.dst v) w → Whichever P md ops Q S m (n + 1) done a w := by
  intro n
  induction n with
  | zero =>
    intro done a w _ _ hr hy hS H
    refine ⟨fun h => absurd hr (by rw [h]; simp), fun j hj => ?_⟩
    by_cases hji : j = i
    · subst hji
      exact hy.wpOp hi hS ⟨fun _ => hS, H⟩
    · exact absurd (ready_mono hj hji) (by rw [H.1]; simp)
  | succ n ih =>
    intro done a w inv hfree hr hy hS H
    refine ⟨fun h => absurd hr (by rw [h]; simp), fun j hj => ?_⟩
    by_cases hji : j = i
    · subst hji
      exact hy.wpOp hi hS ⟨fun _ => hS, H⟩
    · obtain ⟨hjun, oj, hoj, _⟩ := mem_ready.1 hj
      have hjs : j < ops.size := (Array.getElem?_eq_some_iff.1 hoj).1
      have hjm : j < m := by
        rcases Nat.lt_or_ge j m with h | h
        · exact h
        · exact absurd hj (tail_waits hs hc (by omega) inv (m - i) i rfl him (mem_ready.1 hr).1 j h)
      have h2 := wpOp_putIf hoj (hfree j oj hoj hji hjun (still_ready hr hj hoj)) (fun cs b => hsel i oi cs b hi) (fun cs b => hsel j oj cs b hoj) hQ hy (H.2 j (ready_mono hj hji))
      have hfree' : ∀ k ok, ops[k]? = some ok → k ≠ i → (done.setIfInBounds j true).getD k true = false → (∀ e ∈ ok.after, Region.binds md e = true → e.on ≠ i) → oi.apart ops ok = true := fun k ok hk hki hun hno => by
        refine hfree k ok hk hki ?_ hno
        by_cases hjk : j = k
        · rw [← hjk]; exact hjun
        · rwa [getD_set_ne true hjk] at hun
      refine wpOp_mono (fun b u k => ⟨fun _ => k.2.1 hjm, ih (done.setIfInBounds j true) b u (inv.set hj hjm) hfree' (ready_mono hr (Ne.symm hji)) k.1 (k.2.1 hjm) ?_⟩) h2
      rw [Array.setIfInBounds_comm _ _ hji]
      exact k.2.2
/-- What the walk stands at. -/
def Walks (P : Program) (md : Region.Mode) (ops : Array Oper) (Q : Exit → Act → World → Prop) (S : World → Prop) (m n : Nat) (done : Array Bool) (a : Act) (w : World) : Prop :=
  HeadInv md ops m done → Whichever P md ops Q S m n done a w
/-- Number i is taken first: a load of S's cells, or what asks nothing of the world. -/
theorem walks_take {n : Nat} {done : Array Bool} {a : Act} {w : World} (i : Nat) {oi : Oper} {v : Value} (hi : ops[i]? = some oi) (hB : (decide (i < m) && decide (ops.size = m + 1) && Region.sinkB md ops m && Region.chainB md ops m && Region.noSelect ops && Region.free md ops done i && (Region.ready md ops done).contains i) = true)
    (hQ : ∀ c a w, Q (.panic c) (a.put oi.dst v) w → Q (.panic c) a w) (hy : YieldsIf P ops S oi v a) (hS : S w)
    (h : Walks P md ops Q S m n (done.setIfInBounds i true) (a.put oi.dst v) w) : Walks P md ops Q S m (n + 1) done a w := fun inv => by
  simp only [Bool.and_eq_true, decide_eq_true_eq] at hB
  obtain ⟨⟨⟨⟨⟨⟨him, hm⟩, hs⟩, hc⟩, hsel⟩, hf⟩, hr⟩ := hB
  have hr' : i ∈ Region.ready md ops done := by simpa using hr
  exact Whichever.first hi him hm hs hc (Region.noSelect_spec hsel) hQ n done a w inv (Region.free_spec hi hf) hr' hy hS (h (inv.set hr' him))
/-- One operation alone may come up: it is carried out. -/
theorem walks_one {n : Nat} {done : Array Bool} {a : Act} {w : World} (i : Nat) {o : Oper} (hi : ops[i]? = some o) (him : i < m) (hr : Region.ready md ops done = [i])
    (h : ∀ K : Act → World → Prop, Hid (∀ b u, S u → Walks P md ops Q S m n (done.setIfInBounds i true) b u → K b u) → if Region.wanted o (yielded ops a.tmps) = true then Oper.wp P o a w K Q else K (a.put o.dst undef) w) : Walks P md ops Q S m (n + 1) done a w := fun inv => by
  refine ⟨fun h0 => absurd h0 (by rw [hr]; simp), fun j hj => ?_⟩
  rw [hr] at hj
  obtain rfl : j = i := by simpa using hj
  have inv' := inv.set (i := j) (by rw [hr]; simp) him
  have h1 := h (fun b u => (j < m → S u) ∧ Whichever P md ops Q S m n (done.setIfInBounds j true) b u) (fun b u hS hW => ⟨fun _ => hS, hW inv'⟩)
  unfold wpOp
  simp only [hi]
  by_cases hw : Region.wanted o (yielded ops a.tmps) = true
  · rw [if_pos hw] at h1 ⊢
    exact Or.inl h1
  · rw [if_neg hw] at h1 ⊢
    exact h1
/-- The last one. -/
theorem walks_last {n : Nat} {done : Array Bool} {a : Act} {w : World} (i : Nat) {o : Oper} (hi : ops[i]? = some o) (hr : Region.ready md ops done = [i]) (hr2 : Region.ready md ops (done.setIfInBounds i true) = []) (him : m ≤ i)
    (h : ∀ K : Act → World → Prop, Hid (∀ b u, Q .normal b u → K b u) → if Region.wanted o (yielded ops a.tmps) = true then Oper.wp P o a w K Q else K (a.put o.dst undef) w) : Walks P md ops Q S m (n + 1) done a w := fun inv => by
  refine ⟨fun h0 => absurd h0 (by rw [hr]; simp), fun j hj => ?_⟩
  rw [hr] at hj
  obtain rfl : j = i := by simpa using hj
  have fin : ∀ n b u, Q .normal b u → Whichever P md ops Q S m n (done.setIfInBounds j true) b u := fun n b u hq => by
    cases n with
    | zero => exact ⟨hr2, hq⟩
    | succ n => exact ⟨fun _ => hq, by rw [hr2]; simp⟩
  have h1 := h (fun b u => (j < m → S u) ∧ Whichever P md ops Q S m n (done.setIfInBounds j true) b u) (fun b u hq => ⟨fun h => by omega, fin n b u hq⟩)
  unfold wpOp
  simp only [hi]
  by_cases hw : Region.wanted o (yielded ops a.tmps) = true
  · rw [if_pos hw] at h1 ⊢
    exact Or.inl h1
  · rw [if_neg hw] at h1 ⊢
    exact h1
end
end Go.Proofs.YtoeijomelabbfaaGreatDoor

/- A region in the body of a loop over a function (a round) is walked as any region is, where it holds no defer and no loop over a function. No program is named here. -/
namespace Go.Proofs.YtoeijomelabbfaaGreatDoor
set_option maxRecDepth 200000
open Go.RowKit
set_option linter.unusedVariables false
set_option linter.unusedSimpArgs false

/-- The fence that lets all by, in round l. -/
abbrev wideR (l : Nat) : Fence := Fence.wide.inRound l

theorem calls_up {n l : Nat} {P : Program} {f : FuncId} {args : Array Value} {w : World} {R : Ending → World → Prop} (h : Calls P f args w R) : CallsIn (wideR l) n P f args w R :=
  CallsIn.inRound l (callsIn_wide.2 h)
theorem rows_up {n l : Nat} {P : Program} {row : String} {args : Array Value} {w : World} {R : Value → World → Prop} (h : Rows P row args w R) : RowsIn (wideR l) n P row args w R :=
  fun c cs _ => let ⟨v, w', r, s⟩ := h c cs; ⟨v, w', r, stepsIn_wide.2 s⟩

/-- No operation is a defer. -/
def noDefer (ops : List Oper) : Bool := ops.all fun o => match o.op with
  | .defer _ => false
  | _ => true
theorem noDefer_spec {ops : List Oper} (h : noDefer ops = true) : ∀ o ∈ ops, ∀ c, o.op ≠ .defer c := by
  intro o ho c e
  have := List.all_eq_true.1 h o ho
  rw [e] at this
  simp at this

theorem oper_up {n l : Nat} {P : Program} {o : Oper} {a : Act} {w : World} {next : Act → World → Prop} {Q : Exit → Act → World → Prop} (hd : ∀ c, o.op ≠ .defer c) (hL : ¬ LetsOut Q) (h : o.wp P a w next Q) : o.wpIn (wideR l) n P a w next Q := by
  refine ⟨fun _ _ => trivial, ?_⟩
  rw [Oper.semAt_eq _ _ _ hd]
  unfold Oper.wp at h
  generalize (execOp a.eval o).run P w = r at *
  cases r with
  | ok x w' =>
    cases x <;> simp only [Oper.upon, Oper.uponIn] at h ⊢ <;>
      first
        | exact h
        | exact ⟨fun e => by simp [Fence.wide] at e, calls_up h⟩
        | exact ⟨fun e => by simp [Fence.wide] at e, rows_up h⟩
        | exact h.elim
  | halt x w' => cases x <;> simp only [Oper.upon, Oper.uponIn] at h ⊢ <;> exact h

theorem list_up {n l : Nat} {P : Program} {ops : Array Oper} {Q : Exit → Act → World → Prop} (hL : ¬ LetsOut Q) : ∀ (L : List Oper) (a : Act) (w : World), (∀ o ∈ L, ∀ c, o.op ≠ .defer c) → wpList P ops Q L a w → wpListIn (wideR l) n P ops Q L a w
  | [], a, w, _, h => h
  | o :: rest, a, w, hd, h => by
    unfold wpList at h
    unfold wpListIn
    split
    · rename_i hw
      rw [if_pos hw] at h
      rcases h with h | ⟨_, h⟩
      · exact oper_up (hd o (by simp)) hL (Oper.wp_mono (fun a w h => list_up hL rest a w (fun o ho => hd o (by simp [ho])) h) h)
      · exact absurd h hL
    · rename_i hw
      rw [if_neg hw] at h
      exact ⟨fun _ _ => trivial, list_up hL rest _ w (fun o ho => hd o (by simp [ho])) h⟩

theorem opAt_up {n l : Nat} {P : Program} {ops : Array Oper} {Q : Exit → Act → World → Prop} (hL : ¬ LetsOut Q) (hd : ∀ o ∈ ops.toList, ∀ c, o.op ≠ .defer c) {i : Nat} {K : Act → World → Prop} {a : Act} {w : World} (h : wpOp P ops Q i K a w) : wpOpIn (wideR l) n P ops Q i K a w := by
  unfold wpOp at h
  unfold wpOpIn
  cases ho : ops[i]? with
  | none => simpa [ho] using h
  | some o =>
    simp only [ho] at h ⊢
    have hm : o ∈ ops.toList := by
      obtain ⟨hi, e⟩ := Array.getElem?_eq_some_iff.1 ho
      rw [← e]
      simp
    split
    · rename_i hw
      rw [if_pos hw] at h
      rcases h with h | ⟨_, h⟩
      · exact oper_up (hd o hm) hL h
      · exact absurd h hL
    · rename_i hw
      rw [if_neg hw] at h
      exact ⟨fun _ _ => trivial, h⟩

theorem any_up {n l : Nat} {P : Program} {ops : Array Oper} {Q : Exit → Act → World → Prop} {md : Region.Mode} (hL : ¬ LetsOut Q) (hd : ∀ o ∈ ops.toList, ∀ c, o.op ≠ .defer c) : ∀ (fuel : Nat) (listed : Array Bool) (a : Act) (w : World), wpAny P md ops Q fuel listed a w → wpAnyIn (wideR l) n P md ops Q fuel listed a w
  | 0, _, _, _, h => h
  | fuel + 1, _, _, _, h => ⟨h.1, fun i hi => opAt_up hL hd (wpOp_mono (fun a w h => any_up hL hd fuel _ a w h) (h.2 i hi))⟩

/-- A region in a round that does not draw its order: walked as any. -/
theorem region_up {n l id : Nat} {P : Program} {L : List Oper} {Q : Exit → Act → World → Prop} {a : Act} {w : World} (hd : noDefer L = true) (hL : ¬ LetsOut Q) (h : wpList P L.toArray Q L a w) : (Code.region id L.toArray false).wpIn (wideR l) n P Q a w :=
  wpIn_region_lit (list_up hL L a w (noDefer_spec hd) h)

/-- The same, any order. -/
theorem region_up_any {n l id : Nat} {P : Program} {L : List Oper} {Q : Exit → Act → World → Prop} {a : Act} {w : World} (hd : noDefer L = true) (hm : P.follows .mixedOrders = true) (hL : ¬ LetsOut Q) (h : wpAny P .any L.toArray Q L.toArray.size (Array.replicate L.toArray.size false) a w.drew) : (Code.region id L.toArray true).wpIn (wideR l) n P Q a w :=
  wpIn_region_any hm (any_up hL (by simpa using noDefer_spec hd) _ _ _ _ h)

/-- What a body that ends keeps: all that is no cells, from B on. -/
theorem Chg.keepsFrom {S : List Nat} {W W' : World} (g : Chg S W W') (B : Nat) (hS : ∀ k, k ∈ S → ∀ o, W.heap[k]? = some o → o.isCells = true) : KeepsFrom B W W' :=
  ⟨g.size, fun k o _ hk ho => (g.block k (Array.getElem?_eq_some_iff.1 hk).1 (fun hm => by have := hS k hm o hk; rw [ho] at this; cases this)).trans hk⟩
theorem isCells_of_cell {W : World} {p : Addr} {v : Value} (h : W.cell? p = some v) : ∀ o, W.heap[p.block]? = some o → o.isCells = true := by
  intro o ho
  unfold World.cell? at h
  rw [ho] at h
  cases o <;> simp at h ⊢ <;> rfl

/-! ### what the loop's own book-keeping turns: no cells, from B on -/
def Side (B : Nat) (W W' : World) : Prop := ∃ S : List Nat, Chg S W W' ∧ ∀ k, k ∈ S → B ≤ k ∧ ∀ o, W.heap[k]? = some o → o.isCells = false
section
variable {B : Nat} {W W' : World}
theorem Side.putObj {D : Nat} {o : Obj} (o' : Obj) (hD : B ≤ D) (h : W.heap[D]? = some o) (ho : o.isCells = false) : Side B W (W.putObj D o') :=
  ⟨[D], Chg.grown (row := some D) (grownBy_putObj' W D o'), fun k hk => by
    simp at hk
    subst hk
    exact ⟨hD, fun o'' h' => by rw [h] at h'; cases h'; exact ho⟩⟩
theorem Side.not {S : List Nat} (hS : ∀ k, k ∈ S → B ≤ k ∧ ∀ o, W.heap[k]? = some o → o.isCells = false) {p : Addr} {v : Value} (hc : W.cell? p = some v) : p.block ∉ S := fun hm => by
  have hlt := block_lt_of_cell hc
  have h1 := isCells_of_cell hc _ (Array.getElem?_eq_getElem hlt)
  rw [(hS _ hm).2 _ (Array.getElem?_eq_getElem hlt)] at h1
  cases h1
theorem Side.cell (h : Side B W W') {p : Addr} {v : Value} (hc : W.cell? p = some v) : W'.cell? p = some v := by
  obtain ⟨S, g, hS⟩ := h
  exact g.cellv hc (Side.not hS hc)
theorem Side.boxed (h : Side B W W') {b : Nat} {t : TypeId} {v : Value} (hb : Boxed W b t v) : Boxed W' b t v := by
  obtain ⟨S, g, hS⟩ := h
  exact (g.block b hb.lt (Side.not hS hb.cell)).trans hb
theorem Side.chg (h : Side B W W') {T : List Nat} {w0 : World} (g : Chg T w0 W) (hB : w0.heap.size ≤ B) : Chg T w0 W' := by
  obtain ⟨S, k, hS⟩ := h
  exact g.trans k (fun _ h _ => h) (fun i hi hlt => by have := (hS i hi).1; omega)
theorem Side.reads (h : Side B W W') {ao : Option Addr} {xs : List Value} (r : Reads W ao xs) : Reads W' ao xs := by
  intro hx
  obtain ⟨b, o, e, hc⟩ := r hx
  exact ⟨b, o, e, fun j u hu => h.cell (hc j u hu)⟩
theorem Side.fp {S : List Nat} (hS : ∀ k, k ∈ S → B ≤ k ∧ ∀ o, W.heap[k]? = some o → o.isCells = false) {B' : Nat} {ao : Option Addr} {n c : Nat} {xs : List Value} (r : Room W B' ao n c xs) : ∀ k, k ∈ fp ao c → k ∉ S := by
  intro k hk hm
  by_cases h0 : c = 0
  · subst h0; simp [fp_zero] at hk
  · obtain ⟨b, o, rfl, _, h1, _⟩ := r.at_ (by omega)
    rw [fp_some _ _ _ (by omega)] at hk
    simp at hk
    subst hk
    obtain ⟨v, hv⟩ := Option.isSome_iff_exists.1 (h1 0 (by omega)).1
    exact Side.not hS hv hm
theorem Side.room (h : Side B W W') {B' : Nat} {ao : Option Addr} {n c : Nat} {xs : List Value} (r : Room W B' ao n c xs) : Room W' B' ao n c xs := by
  obtain ⟨S, g, hS⟩ := h
  exact r.chg g (Side.fp hS r)
end
theorem ownFrom_side {β : Type} {B : Nat} {I : β → World → Prop} (h : ∀ s W W', I s W → Side B W W' → I s W') : OwnFrom B I := fun s W W' row hs hg hr =>
  h s W W' hs ⟨row.toList, Chg.grown hg, fun k hk => by
    cases row with
    | none => simp at hk
    | some r =>
      simp at hk
      subst hk
      obtain ⟨h1, o, h2, h3⟩ := hr k rfl
      exact ⟨h1, fun o' h' => by rw [h2] at h'; cases h'; exact h3⟩⟩
theorem Boxed.chg {W W' : World} {S : List Nat} {b : Nat} {t : TypeId} {v : Value} (h : Boxed W b t v) (g : Chg S W W') (hn : b ∉ S) : Boxed W' b t v := (g.block b h.lt hn).trans h
theorem Boxed.cells {W : World} {b : Nat} {t : TypeId} {v : Value} (h : Boxed W b t v) : ∀ o, W.heap[b]? = some o → o.isCells = true := isCells_of_cell (p := ⟨b, 0, none⟩) h.cell

theorem Room.cells {W : World} {B : Nat} {ao : Option Addr} {n c : Nat} {xs : List Value} (r : Room W B ao n c xs) : ∀ k, k ∈ fp ao c → ∀ o, W.heap[k]? = some o → o.isCells = true := by
  intro k hk
  by_cases h0 : c = 0
  · subst h0; simp [fp_zero] at hk
  · obtain ⟨b, o, rfl, _, h1, _⟩ := r.at_ (by omega)
    rw [fp_some _ _ _ (by omega)] at hk
    simp at hk
    subst hk
    obtain ⟨v, hv⟩ := Option.isSome_iff_exists.1 (h1 0 (by omega)).1
    exact isCells_of_cell hv
/-- A region in a round that draws its order and ends with a store to what it loads. -/
theorem walks_up {n l id : Nat} {P : Program} {L : List Oper} {Q : Exit → Act → World → Prop} {a : Act} {w : World} (S : World → Prop) (m : Nat) (hd : noDefer L = true) (hm : P.follows .mixedOrders = true) (hL : ¬ LetsOut Q) (hz : L.toArray.size = m + 1)
    (h : Walks P .any L.toArray Q S m (m + 1) (Array.replicate (m + 1) false) a w.drew) : (Code.region id L.toArray true).wpIn (wideR l) n P Q a w := by
  refine region_up_any hd hm hL ?_
  rw [hz]
  exact Whichever.any _ _ _ _ (h ⟨by simp [hz], fun j oj _ hl => (by rw [getD_replicate_false] at hl; cases hl), fun t _ ht => getD_in (by simp; omega) (getD_replicate_false _ _)⟩)
theorem wpListIn_make_k {F : Fence} {n : Nat} {P : Program} (w : World) {ops : Array Oper} {rest : List Oper} {o : Oper} {a : Act} {Q : Exit → Act → World → Prop}
    (hg : o.guard = none) (l c : Operand) (t : TypeId) (hop : o.op = Op.makeSlice t l c)
    (e : TypeId) (bytes : Nat) (helt : Elt P t e bytes)
    (B : Nat) (kl kc : IntKind) (C : Int) (N : Nat) (hl : a.eval l = .int kl 0) (hc : a.eval c = .int kc C) (hC : C = (N : Int)) (b2 : bytes * N ≤ 281474976710656) (b3 : N ≤ maxLen) (hB : B ≤ w.heap.size)
    (hK : ∀ w', Room w' B (some ⟨w.heap.size, 0, none⟩) 0 N [] → Chg [] w w' → wpListIn F n P ops Q rest (a.put o.dst (.slice (some ⟨w.heap.size, 0, none⟩) 0 N)) w') :
    wpListIn F n P ops Q (o :: rest) a w := by
  obtain ⟨h1, i, z, h2, h3, h4, h5, _⟩ := helt
  exact wpListIn_make_own w hg l c t hop B e i z 1 h1 h2 h3 h4 kl kc C N hl hc hC (by rw [h5]; exact b2) b3 hB
    (fun w' h g => hK w' (Room.of_owns h) (by simpa using Chg.grown g))
theorem step_append_2 {P : Program} {ops : Array Oper} {o : Oper} {a : Act} {w : World} {K : Act → World → Prop} {Q : Exit → Act → World → Prop} {E : Prop}
    (hg : o.guard = none) (s x : Operand) (t : TypeId) (ho : o.op = .call { callee := .builtin .append, args := #[s, x], argTypes := #[t, t] })
    (e : TypeId) (bytes : Nat) (helt : Elt P t e bytes)
    (B : Nat) (ao : Option Addr) (n c : Nat) (xs : List Value) (hs : a.eval s = .slice ao n c) (h : Room w B ao n c xs) (hB : B ≤ w.heap.size)
    (u : Value) (cx : Nat) (hxe : a.eval x = .slice (some ⟨w.heap.size, 0, none⟩) 1 cx) (hone : u.oneCell' = true)
    (h63 : n + 1 ≤ maxLen) (hbytes : (n + 1) * bytes ≤ 140737488355328)
    (hK : ∀ ao' c' w', Room w' B ao' (n + 1) c' (xs ++ [u]) → Chg (fp ao c) w w' → (fp ao' c' = fp ao c ∨ fp ao' c' = [w.heap.size + 1]) → K (a.put o.dst (.slice ao' (n + 1) c')) w') :
    if Region.wanted o (yielded ops a.tmps) = true then Oper.wp P o a (w.alloc (.cells #[u] e)) K Q else E := by
  have hw : Region.wanted o (yielded ops a.tmps) = true := by simp [Region.wanted, hg]
  rw [if_pos hw]
  obtain ⟨ao', c', w', hr, h2, h3, h4⟩ := run_append_k (P := P) (w.alloc (.cells #[u] e)) t o.type e bytes helt B ao n c xs (h.chg (Chg.alloc [] w _) (by simp)) (by simp; omega) (some ⟨w.heap.size, 0, none⟩) 1 cx [u] (Reads.new w #[u] e) rfl (by simpa using hone) h63 hbytes
  unfold Oper.wp execOp
  simp only [ho, resolve, invoke, builtin, Sem.run_bind, Sem.run_pure, Result.andThen_ok, List.map_toArray, List.map_cons, List.map_nil, hs, hxe, hr]
  exact hK _ _ _ h2 ((Chg.alloc [] w _).trans h3 (by simp) (fun k h _ => h)) (by simpa using h4)

end Go.Proofs.YtoeijomelabbfaaGreatDoor

/- The landed code: Pages, one page, the pages' parts as a sequence. -/


namespace Go.Proofs.YtoeijomelabbfaaGreatDoor
set_option maxRecDepth 200000
open Go.RowKit
set_option linter.unusedVariables false
set_option linter.unusedSimpArgs false
attribute [local go_sem ↓] Go.wp_at_zero Go.wp_at_succ

theorem pages_any (z : Int) (w : World) (hz : z ≤ 9223372036854775807) : Calls Tryz.prog 157 #[.int .i64 z] w fun e w' => e = .returned (.int .i64 (npgZ z)) ∧ w = w' := by
  unfold npgZ
  by_cases h1 : z < 1
  · rw [if_pos h1]
    have d1 : decide (z ≤ 0) = true := decide_eq_true (by omega)
    go_enter Tryz.func157, Tryz.ntmps157
    go_wp2
    go_ret
    exact ⟨rfl, rfl⟩
  · rw [if_neg h1]
    obtain ⟨n, rfl⟩ : ∃ n : Nat, z = ((n + 1 : Nat) : Int) := ⟨(z - 1).toNat, by omega⟩
    rw [Int.toNat_natCast]
    obtain ⟨q, hq⟩ : ∃ q : Nat, n / 240 = q := ⟨_, rfl⟩
    obtain ⟨y, hy⟩ : ∃ y : Int, ((n + 1 : Nat) : Int) = y := ⟨_, rfl⟩
    have e : npg (n + 1) = q + 1 := by unfold npg; omega
    have hw : y - 1 = (n : Int) := by omega
    have hnq : (n : Int) / 240 = (q : Int) := by omega
    have hqb : q ≤ 92233720368547758 := by omega
    have hnb : n ≤ 9223372036854775807 := by omega
    have d1 : decide (y ≤ 0) = false := decide_eq_false (by omega)
    rw [e, hy]
    clear e hq h1 hy hz
    go_enter Tryz.func157, Tryz.ntmps157
    go_wp2
    go_ret
    exact ⟨by simp, rfl⟩

/-- A page: its counts, noughts behind. -/
def pageOf (l : List UInt8) : List UInt8 := l ++ List.replicate (240 - l.length) 0
theorem pageOf_len {l : List UInt8} (h : l.length ≤ 240) : (pageOf l).length = 240 := by unfold pageOf; rw [List.length_append, List.length_replicate]; omega
theorem page_1 (ao : Option Addr) (n c : Nat) (l : List UInt8) (w : World) (g : Reads w ao (bts l)) (gn : l.length = n) (hn : n ≤ 240) : Calls Tryz.prog 186 #[.slice ao n c] w fun e w' =>
    ∃ b, e = .returned (.slice (some ⟨b, 0, none⟩) 240 240) ∧ w.heap.size ≤ b ∧ Room w' w.heap.size (some ⟨b, 0, none⟩) 240 240 (bts (pageOf l)) ∧ Chg [] w w' := by
  have hm2 : ∀ u : World, (Instr.makeSlice 41 (.int .i64 240) (.int .i64 240)).run Tryz.prog u = .ok (.slice (some ⟨u.heap.size, 0, none⟩) 240 240) (u.alloc (.cells (madeCells #[.int .u8 0] 240) 5)) := hmk 240 (by decide)
  have hR := made_room w 5 (.int .u8 0) 240 (by decide)
  have g2 := g.keep (Chg.alloc [] w (.cells (madeCells #[.int .u8 0] 240) 5))
  have hl : (bts l).length = n := by rw [bts_length]; exact gn
  have hth := hR.there 0 n (by omega)
  have hs := hR.sets (bts l) 0 (by omega)
  have hc1 := Chg.alloc [] w (.cells (madeCells #[.int .u8 0] 240) 5)
  have hz : w.heap.size < (w.alloc (.cells (madeCells #[.int .u8 0] 240) 5)).heap.size := by simp
  have e1 : (List.replicate 240 (Value.int .u8 0)).take 0 ++ (bts l ++ (List.replicate 240 (Value.int .u8 0)).drop (0 + (bts l).length)) = bts (pageOf l) := by
    unfold pageOf
    rw [hl, bts_append, List.take_zero, List.nil_append, List.drop_replicate, Nat.zero_add, gn]
    congr 1
    unfold bts
    rw [List.map_replicate]
    rfl
  rw [e1] at hs
  have hc2 := Chg.setCells w.heap.size (bts l) 0 (w.alloc (.cells (madeCells #[.int .u8 0] 240) 5))
  have HL := mkHid hl
  have HE := mkHid e1
  clear hl e1 hR gn
  go_enter Tryz.func186, Tryz.ntmps186
  go_wp2_with (refine wpList_copy_k rfl (.tmp 5) (.tmp 6) 41 41 5 rfl Tryz.underlying41 oneB w.heap.size 0 240 240 ao n c (bts l) rfl rfl g2 (by rw [HL.out]; exact (Nat.min_eq_left hn).symm) (by rw [HL.out]; exact hth) (bts_one _) ?_)
  go_ret
  exact ⟨w.heap.size, rfl, Nat.le_refl _, hs, hc1.trans hc2 (by simp) (fun k hk hlt => by simp at hk; omega)⟩

theorem parts_any (ao : Option Addr) (n c : Nat) (w : World) : Calls Tryz.prog 185 #[.slice ao n c] w fun e w' =>
    e = .returned (.func (.func 202) #[] #[.pointer (some ⟨w.heap.size, 0, none⟩)]) ∧ w.alloc (.cells #[.slice ao n c] 41) = w' := by
  go_enter Tryz.func185, Tryz.ntmps185
  go_wp2
  go_ret
  exact ⟨rfl, rfl⟩
end Go.Proofs.YtoeijomelabbfaaGreatDoor
