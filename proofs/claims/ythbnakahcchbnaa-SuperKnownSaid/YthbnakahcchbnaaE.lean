/- Arguments opened: slices of integers. -/
import Derived.Test.YthbnakahcchbnaaRows
import Derived.Test.YthbnakahcchbnaaL
import Derived.ProofKit
import Derived.OpenShut
import Derived.SizedLaws
import Derived.Lib.SmallJoins
namespace Go.Proofs.Ythbnakahcchbnaa
open Go.ChangeShapes Go.WideShapes Go.ChangeAt Go.RowKit
set_option linter.unusedVariables false

theorem add_none {ad : Addr} {i : Nat} {w : World} {v : Value} (h : w.cell? (ad.add i) = some v) : ad.add i = ⟨ad.block, ad.off + i, none⟩ := by
  obtain ⟨b, o, s⟩ := ad
  unfold Addr.add
  split
  · rename_i hi
    subst hi
    have := World.cell?_spot h
    simp [Addr.add] at this
    subst this
    rfl
  · rfl
section
variable {H : Type} {enc : TypeId × Value → H} {P : Program} {W : World}
theorem opened_ints {t e : TypeId} {k : IntKind} (ht : P.underlying t = some (.slice e)) (he : P.underlying e = some (.int k)) (hc : P.cellsOf e = 1) {a : Option Addr} {n c : Nat} {d : DataW H} {p : List MemPlace}
    (h : ∃ m, DataW.trod enc P W 0 (fun _ => true) true m t (Value.slice a n c).cells.toList = some (d, p)) :
    ∃ zs : List Int, Reads W a (zs.map (Value.int k)) ∧ zs.length = n ∧ n ≤ c ∧ c ≤ maxLen ∧ (∀ z ∈ zs, (Lit.int k z).wf = true) ∧ ((d = .nil ∧ c = 0) ∨ ∃ es sp, d = .slice es sp ∧ es.length + sp.length = c) := by
  obtain ⟨m, hm⟩ := h
  rcases open_ints ht he hc hm with ⟨hcs, hx⟩ | ⟨ad, l, cp, zs, hcs, _, hl, hmx, hz, hx, hcell, hwz⟩
  · simp [Value.cells] at hcs
    obtain ⟨rfl, rfl, rfl⟩ := hcs
    simp at hx
    exact ⟨[], Reads.nil _ _, rfl, Nat.le_refl _, Nat.zero_le _, by simp, Or.inl ⟨hx.1, rfl⟩⟩
  · simp [Value.cells] at hcs
    obtain ⟨rfl, rfl, rfl⟩ := hcs
    simp at hx hz
    refine ⟨zs.take n, ?_, by simp; omega, hl, hmx, fun z hz' => hwz z (List.mem_of_mem_take hz'), Or.inr ⟨_, _, hx.1, by simp [lits]; omega⟩⟩
    intro h0
    simp at h0
    have hfirst := hcell 0 (by omega)
    have hspot : ad.spot = none := by simpa [Addr.add] using World.cell?_spot hfirst
    refine ⟨ad.block, ad.off, by cases ad; simp at hspot; simp [hspot], fun j u hu => ?_⟩
    have hj : j < zs.length := by
      have := (List.getElem?_eq_some_iff.1 hu).1
      simp at this; omega
    have hc := hcell j hj
    rw [add_none hc] at hc
    rw [hc]
    rw [List.getElem?_map, List.getElem?_take] at hu
    split at hu
    · simp [List.getElem?_eq_getElem hj] at hu
      simp [List.getD, List.getElem?_eq_getElem hj, hu]
    · simp at hu
theorem wf_u8 {z : Int} (h : (Lit.int .u8 z).wf = true) : 0 ≤ z ∧ z < 256 := by
  have := Go.bounds_u8 h
  omega
theorem bts_of_ints (zs : List Int) (h : ∀ z ∈ zs, (Lit.int .u8 z).wf = true) : ∃ l : List UInt8, zs.map (Value.int .u8) = bts l ∧ l.length = zs.length := by
  refine ⟨zs.map fun z => UInt8.ofNat z.toNat, ?_, by simp⟩
  simp only [bts, List.map_map]
  apply List.map_congr_left
  intro z hz
  have := wf_u8 (h z hz)
  simp
  omega
theorem opened_bytes {t e : TypeId} (ht : P.underlying t = some (.slice e)) (he : P.underlying e = some (.int .u8)) (hc : P.cellsOf e = 1) {a : Option Addr} {n c : Nat} {d : DataW H} {p : List MemPlace}
    (h : ∃ m, DataW.trod enc P W 0 (fun _ => true) true m t (Value.slice a n c).cells.toList = some (d, p)) :
    ∃ l : List UInt8, Reads W a (bts l) ∧ l.length = n ∧ n ≤ c ∧ c ≤ maxLen ∧ ((d = .nil ∧ c = 0) ∨ ∃ es sp, d = .slice es sp ∧ es.length + sp.length = c) := by
  obtain ⟨zs, h1, h2, h3, h4, h5, h6⟩ := opened_ints ht he hc h
  obtain ⟨l, h7, h8⟩ := bts_of_ints zs h5
  exact ⟨l, by rw [← h7]; exact h1, by omega, h3, h4, h6⟩
/-- Each string, slice and map in the datum is within the form's reach. -/
def Sized {H : Type} (P : Program) (t : TypeId) (d : DataW H) : Prop := ∀ n ∈ d.weights P t, n ≤ 140737488351232
theorem sized_of {ts : List TypeId} {ds : List (DataW H)} (h : (DataW.weightsEach P ts ds).all (· ≤ reachBytes) = true) {j : Nat} {t : TypeId} {d : DataW H} (ht : ts[j]? = some t) (hd : ds[j]? = some d) : Sized P t d := by
  intro n hn
  exact of_decide_eq_true (List.all_eq_true.1 h _ (DataW.weights_mem_each ht hd n hn))
theorem Sized.slice {t e : TypeId} {d : DataW H} {c bytes : Nat} (h : Sized P t d) (hu : P.underlying t = some (.slice e)) (hb : P.bytesOf e = bytes) (hdc : (d = .nil ∧ c = 0) ∨ ∃ es sp, d = .slice es sp ∧ es.length + sp.length = c) : c * bytes ≤ 140737488351232 := by
  rcases hdc with ⟨_, rfl⟩ | ⟨es, sp, rfl, rfl⟩
  · omega
  · have := h ((es.length + sp.length) * P.bytesOf e) (by simp [DataW.weights, hu])
    rwa [hb] at this
theorem Sized.field {t t' : TypeId} {fs : Array Field} {parts : List (DataW H)} (h : Sized P t (.agg parts)) (hu : P.underlying t = some (.struct fs)) {j : Nat} {y : DataW H} (hf : (fs.toList.map (·.type))[j]? = some t') (hy : parts[j]? = some y) : Sized P t' y := by
  intro n hn
  refine h n ?_
  simp only [DataW.weights, hu]
  exact DataW.weights_mem_each hf hy n hn
theorem weightsAll_mem {e : TypeId} : ∀ {es : List (DataW H)} {y : DataW H}, y ∈ es → ∀ n ∈ y.weights P e, n ∈ DataW.weightsAll P e es
  | x :: r, y, hy, n, hn => by
    simp only [DataW.weightsAll, List.mem_append]
    rcases List.mem_cons.1 hy with rfl | hy
    · exact Or.inl hn
    · exact Or.inr (weightsAll_mem hy n hn)
theorem Sized.elem {t e : TypeId} {es sp : List (DataW H)} (h : Sized P t (.slice es sp)) (hu : P.underlying t = some (.slice e)) {y : DataW H} (hy : y ∈ es) : Sized P e y := by
  intro n hn
  refine h n ?_
  simp only [DataW.weights, hu]
  exact List.mem_cons_of_mem _ (List.mem_append_left _ (weightsAll_mem hy n hn))
end
end Go.Proofs.Ythbnakahcchbnaa
