/- Texts E, V, Cm, Cr, Ca, Cb, Cs, Cg, Ja of the library, joined. -/
import Derived.Test.YtoeijomelabbfaaGreatDoorM02
import Derived.Test.YtoeijomelabbfaaGreatDoorM01
import Derived.Test.YtoeijomelabbfaaGreatDoorRows
import Derived.ProofKit
import Derived.OpenShut
import Derived.SizedLaws
import Derived.Lib.SmallJoins
import Derived.Lib.TrailingZeros
import Derived.Deep.WholeRow
import Derived.Deep.DeepCutAuto
import Derived.Lib.LaidTab
import Derived.Deep.QuietTactic
/- Arguments opened: slices of integers. -/
namespace Go.Proofs.YtoeijomelabbfaaGreatDoor
set_option maxRecDepth 200000
open Go.ChangeShapes Go.WideShapes Go.ChangeAt Go.RowKit
set_option linter.unusedVariables false

theorem add_none {ad : Addr} {i : Nat} {w : World} {v : Value} (h : w.cell? (ad.add i) = some v) : ad.add i = ⟨ad.block, ad.off + i, none⟩ := by
  obtain ⟨b, o, s⟩ := ad
  unfold Addr.add
  split
  · rename_i hi
    subst hi
    have := World.cell?_spot h
    simp [Addr.add] at this
    subst this
    rfl
  · rfl
section
variable {H : Type} {enc : TypeId × Value → H} {P : Program} {W : World}
theorem opened_ints {t e : TypeId} {k : IntKind} (ht : P.underlying t = some (.slice e)) (he : P.underlying e = some (.int k)) (hc : P.cellsOf e = 1) {a : Option Addr} {n c : Nat} {d : DataW H} {p : List MemPlace}
    (h : ∃ m, DataW.trod enc P W 0 (fun _ => true) true m t (Value.slice a n c).cells.toList = some (d, p)) :
    ∃ zs : List Int, Reads W a (zs.map (Value.int k)) ∧ zs.length = n ∧ n ≤ c ∧ c ≤ maxLen ∧ (∀ z ∈ zs, (Lit.int k z).wf = true) ∧ ((d = .nil ∧ c = 0) ∨ ∃ es sp, d = .slice es sp ∧ es.length + sp.length = c) := by
  obtain ⟨m, hm⟩ := h
  rcases open_ints ht he hc hm with ⟨hcs, hx⟩ | ⟨ad, l, cp, zs, hcs, _, hl, hmx, hz, hx, hcell, hwz⟩
  · simp [Value.cells] at hcs
    obtain ⟨rfl, rfl, rfl⟩ := hcs
    simp at hx
    exact ⟨[], Reads.nil _ _, rfl, Nat.le_refl _, Nat.zero_le _, by simp, Or.inl ⟨hx.1, rfl⟩⟩
  · simp [Value.cells] at hcs
    obtain ⟨rfl, rfl, rfl⟩ := hcs
    simp at hx hz
    refine ⟨zs.take n, ?_, by simp; omega, hl, hmx, fun z hz' => hwz z (List.mem_of_mem_take hz'), Or.inr ⟨_, _, hx.1, by simp [lits]; omega⟩⟩
    intro h0
    simp at h0
    have hfirst := hcell 0 (by omega)
    have hspot : ad.spot = none := by simpa [Addr.add] using World.cell?_spot hfirst
    refine ⟨ad.block, ad.off, by cases ad; simp at hspot; simp [hspot], fun j u hu => ?_⟩
    have hj : j < zs.length := by
      have := (List.getElem?_eq_some_iff.1 hu).1
      simp at this; omega
    have hc := hcell j hj
    rw [add_none hc] at hc
    rw [hc]
    rw [List.getElem?_map, List.getElem?_take] at hu
    split at hu
    · simp [List.getElem?_eq_getElem hj] at hu
      simp [List.getD, List.getElem?_eq_getElem hj, hu]
    · simp at hu
theorem wf_u8 {z : Int} (h : (Lit.int .u8 z).wf = true) : 0 ≤ z ∧ z < 256 := by
  have := Go.bounds_u8 h
  omega
theorem bts_of_ints (zs : List Int) (h : ∀ z ∈ zs, (Lit.int .u8 z).wf = true) : ∃ l : List UInt8, zs.map (Value.int .u8) = bts l ∧ l.length = zs.length := by
  refine ⟨zs.map fun z => UInt8.ofNat z.toNat, ?_, by simp⟩
  simp only [bts, List.map_map]
  apply List.map_congr_left
  intro z hz
  have := wf_u8 (h z hz)
  simp
  omega
theorem opened_bytes {t e : TypeId} (ht : P.underlying t = some (.slice e)) (he : P.underlying e = some (.int .u8)) (hc : P.cellsOf e = 1) {a : Option Addr} {n c : Nat} {d : DataW H} {p : List MemPlace}
    (h : ∃ m, DataW.trod enc P W 0 (fun _ => true) true m t (Value.slice a n c).cells.toList = some (d, p)) :
    ∃ l : List UInt8, Reads W a (bts l) ∧ l.length = n ∧ n ≤ c ∧ c ≤ maxLen ∧ ((d = .nil ∧ c = 0) ∨ ∃ es sp, d = .slice es sp ∧ es.length + sp.length = c) := by
  obtain ⟨zs, h1, h2, h3, h4, h5, h6⟩ := opened_ints ht he hc h
  obtain ⟨l, h7, h8⟩ := bts_of_ints zs h5
  exact ⟨l, by rw [← h7]; exact h1, by omega, h3, h4, h6⟩
/-- Each string, slice and map in the datum is within the form's reach. -/
def Sized {H : Type} (P : Program) (t : TypeId) (d : DataW H) : Prop := ∀ n ∈ d.weights P t, n ≤ 140737488351232
theorem sized_of {ts : List TypeId} {ds : List (DataW H)} (h : (DataW.weightsEach P ts ds).all (· ≤ reachBytes) = true) {j : Nat} {t : TypeId} {d : DataW H} (ht : ts[j]? = some t) (hd : ds[j]? = some d) : Sized P t d := by
  intro n hn
  exact of_decide_eq_true (List.all_eq_true.1 h _ (DataW.weights_mem_each ht hd n hn))
theorem Sized.slice {t e : TypeId} {d : DataW H} {c bytes : Nat} (h : Sized P t d) (hu : P.underlying t = some (.slice e)) (hb : P.bytesOf e = bytes) (hdc : (d = .nil ∧ c = 0) ∨ ∃ es sp, d = .slice es sp ∧ es.length + sp.length = c) : c * bytes ≤ 140737488351232 := by
  rcases hdc with ⟨_, rfl⟩ | ⟨es, sp, rfl, rfl⟩
  · omega
  · have := h ((es.length + sp.length) * P.bytesOf e) (by simp [DataW.weights, hu])
    rwa [hb] at this
theorem Sized.field {t t' : TypeId} {fs : Array Field} {parts : List (DataW H)} (h : Sized P t (.agg parts)) (hu : P.underlying t = some (.struct fs)) {j : Nat} {y : DataW H} (hf : (fs.toList.map (·.type))[j]? = some t') (hy : parts[j]? = some y) : Sized P t' y := by
  intro n hn
  refine h n ?_
  simp only [DataW.weights, hu]
  exact DataW.weights_mem_each hf hy n hn
theorem weightsAll_mem {e : TypeId} : ∀ {es : List (DataW H)} {y : DataW H}, y ∈ es → ∀ n ∈ y.weights P e, n ∈ DataW.weightsAll P e es
  | x :: r, y, hy, n, hn => by
    simp only [DataW.weightsAll, List.mem_append]
    rcases List.mem_cons.1 hy with rfl | hy
    · exact Or.inl hn
    · exact Or.inr (weightsAll_mem hy n hn)
theorem Sized.elem {t e : TypeId} {es sp : List (DataW H)} (h : Sized P t (.slice es sp)) (hu : P.underlying t = some (.slice e)) {y : DataW H} (hy : y ∈ es) : Sized P e y := by
  intro n hn
  refine h n ?_
  simp only [DataW.weights, hu]
  exact List.mem_cons_of_mem _ (List.mem_append_left _ (weightsAll_mem hy n hn))
end
end Go.Proofs.YtoeijomelabbfaaGreatDoor

/- Numbers of 32 bits as the walk has them. No program is named here. -/
namespace Go.Proofs.YtoeijomelabbfaaGreatDoor
set_option maxRecDepth 200000
open Go.RowKit
set_option linter.unusedVariables false

/-! ### numbers -/
def v32 (x : BitVec 32) : Int := (x.toNat : Int)
theorem v32_inj {a b : BitVec 32} : v32 a = v32 b ↔ a = b := by
  unfold v32
  rw [Int.natCast_inj]
  exact ⟨BitVec.eq_of_toNat_eq, fun h => by rw [h]⟩
theorem v32_lt (x : BitVec 32) : 0 ≤ v32 x ∧ v32 x < 4294967296 := by
  have := x.isLt
  unfold v32
  omega
theorem x32 (a b : BitVec 32) : bits .xor .u32 (v32 a) (v32 b) = v32 (a ^^^ b) := by
  unfold v32
  rw [u32_xor_nat _ _ a.isLt b.isLt, BitVec.toNat_xor]
theorem a32 (a b : BitVec 32) : bits .and .u32 (v32 a) (v32 b) = v32 (a &&& b) := by
  unfold v32
  rw [u32_and_nat _ _ a.isLt b.isLt, BitVec.toNat_and]
theorem n32 (a : BitVec 32) : bits .xor .u32 4294967295 (v32 a) = v32 (~~~ a) := by
  have e : (4294967295 : Int) = v32 (BitVec.allOnes 32) := by decide +kernel
  rw [e, x32, BitVec.xor_comm, BitVec.xor_allOnes]
theorem shr32 (a : BitVec 32) (k : Nat) (d : Int) (hd : d = (2 ^ k : Nat)) : v32 a / d = v32 (a >>> k) := by
  subst hd
  unfold v32
  rw [BitVec.toNat_ushiftRight, Nat.shiftRight_eq_div_pow]
  exact (Int.natCast_ediv _ _).symm
theorem sub32 (a : BitVec 32) : (v32 a - 1) % 4294967296 = v32 (a - 1#32) := by
  unfold v32
  rw [BitVec.toNat_sub]
  have := a.isLt
  simp only [BitVec.toNat_ofNat]
  omega

theorem and1 (x : BitVec 32) : bits .and .u32 (v32 x) 1 = if x.getLsbD 0 then 1 else 0 := by
  have e : (1 : Int) = v32 1#32 := by decide +kernel
  conv => lhs; rw [e]
  rw [a32]
  unfold v32
  rw [BitVec.toNat_and, show (1#32).toNat = 1 from rfl, Nat.and_one_is_mod]
  have : x.getLsbD 0 = decide (x.toNat % 2 = 1) := by
    rw [BitVec.getLsbD, Nat.testBit_zero]
  rw [this]
  have := Nat.mod_two_eq_zero_or_one x.toNat
  rcases this with h | h <;> simp [h]
theorem half32 (x : BitVec 32) : v32 x / (2 : Int) = v32 (x >>> 1) := shr32 x 1 2 rfl
theorem and255 (x : BitVec 32) : bits .and .u32 (v32 x) 255 = v32 (x &&& 255#32) := a32 x 255#32
theorem n32m (a : BitVec 32) : bits .xor .u32 IntKind.u32.max (v32 a) = v32 (~~~ a) := n32 a
theorem mod32 (a : BitVec 32) : v32 a % 4294967296 = v32 a := by have := v32_lt a; omega
theorem conv32 (b : UInt8) : (b.toNat : Int) = v32 (BitVec.ofNat 32 b.toNat) := by
  have := b.toNat_lt
  unfold v32
  rw [BitVec.toNat_ofNat, Nat.mod_eq_of_lt (by omega)]
end Go.Proofs.YtoeijomelabbfaaGreatDoor

/- CRC-32C as algebra over bits: one bit, so many bits, texts, products. No program is named here. -/
namespace Go.Proofs.YtoeijomelabbfaaGreatDoor
set_option maxRecDepth 200000
set_option linter.unusedVariables false

def pol : BitVec 32 := 0x82f63b78#32
/-- One bit shifted out. -/
def bit (n : BitVec 32) : BitVec 32 := (n >>> 1) ^^^ (if n.getLsbD 0 then pol else 0#32)
/-- So many bits. -/
def it : Nat → BitVec 32 → BitVec 32
  | 0, x => x
  | n + 1, x => it n (bit x)
def tp (j : Nat) : BitVec 32 := BitVec.twoPow 32 j

theorem bxor_eq {a b : BitVec 32} (h : ∀ i, i < 32 → a.getLsbD i = b.getLsbD i) : a = b := BitVec.eq_of_getLsbD_eq h
theorem bit_get (n : BitVec 32) (i : Nat) (hi : i < 32) : (bit n).getLsbD i = (n.getLsbD (i + 1) ^^ (n.getLsbD 0 && pol.getLsbD i)) := by
  unfold bit
  rw [BitVec.getLsbD_xor, BitVec.getLsbD_ushiftRight, Nat.add_comm]
  cases n.getLsbD 0 <;> simp
theorem bit_xor (a b : BitVec 32) : bit (a ^^^ b) = bit a ^^^ bit b := by
  refine bxor_eq fun i hi => ?_
  rw [BitVec.getLsbD_xor, bit_get _ _ hi, bit_get _ _ hi, bit_get _ _ hi, BitVec.getLsbD_xor, BitVec.getLsbD_xor]
  cases a.getLsbD (i + 1) <;> cases b.getLsbD (i + 1) <;> cases a.getLsbD 0 <;> cases b.getLsbD 0 <;> cases pol.getLsbD i <;> rfl
theorem bit_zero : bit 0#32 = 0#32 := by decide +kernel
theorem it_xor : ∀ (n : Nat) (a b : BitVec 32), it n (a ^^^ b) = it n a ^^^ it n b
  | 0, _, _ => rfl
  | n + 1, a, b => by simp only [it, bit_xor]; exact it_xor n _ _
theorem it_add (m : Nat) : ∀ (n : Nat) (x : BitVec 32), it (m + n) x = it m (it n x)
  | 0, _ => rfl
  | n + 1, x => it_add m n (bit x)
theorem it_zero : ∀ n, it n 0#32 = 0#32
  | 0 => rfl
  | n + 1 => by simp only [it, bit_zero]; exact it_zero n
theorem it_low : ∀ (k : Nat) (x : BitVec 32), (∀ j, j < k → x.getLsbD j = false) → it k x = x >>> k
  | 0, x, _ => by simp [it]
  | k + 1, x, h => by
    have hb : bit x = x >>> 1 := by unfold bit; rw [h 0 (by omega)]; simp
    simp only [it, hb]
    rw [it_low k (x >>> 1) (fun j hj => by rw [BitVec.getLsbD_ushiftRight, Nat.add_comm]; exact h (j + 1) (by omega)), ← BitVec.shiftRight_add, Nat.add_comm]
theorem it_byte (n : BitVec 32) : it 8 n = (n >>> 8) ^^^ it 8 (n &&& 255#32) := by
  have h : n = (n &&& ~~~255#32) ^^^ (n &&& 255#32) := by
    refine bxor_eq fun i hi => ?_
    rw [BitVec.getLsbD_xor, BitVec.getLsbD_and, BitVec.getLsbD_and, BitVec.getLsbD_not]
    cases n.getLsbD i <;> cases (255#32).getLsbD i <;> simp [hi]
  have hl : ∀ j, j < 8 → (255#32).getLsbD j = true := by decide +kernel
  have hh : ∀ j, j < 32 → 8 ≤ j → (255#32).getLsbD j = false := by decide +kernel
  have h8 : it 8 (n &&& ~~~255#32) = n >>> 8 := by
    rw [it_low 8 _ (fun j hj => by rw [BitVec.getLsbD_and, BitVec.getLsbD_not, hl j hj]; simp)]
    refine bxor_eq fun i hi => ?_
    rw [BitVec.getLsbD_ushiftRight, BitVec.getLsbD_ushiftRight, BitVec.getLsbD_and, BitVec.getLsbD_not]
    by_cases hi2 : 8 + i < 32
    · rw [hh _ hi2 (by omega)]; simp [hi2]
    · rw [BitVec.getLsbD_of_ge n _ (by omega)]; simp
  conv => lhs; rw [h]
  rw [it_xor, h8]

/-! ### linear functions -/
structure Lin (f : BitVec 32 → BitVec 32) : Prop where
  xor : ∀ a b, f (a ^^^ b) = f a ^^^ f b
theorem Lin.zero {f : BitVec 32 → BitVec 32} (h : Lin f) : f 0#32 = 0#32 := by
  have := h.xor 0#32 0#32
  rw [BitVec.xor_self, BitVec.xor_self] at this
  exact this
theorem Lin.it (n : Nat) : Lin (it n) := ⟨it_xor n⟩
/-! ### texts -/
def stp (s : BitVec 32) (b : UInt8) : BitVec 32 := it 8 (s ^^^ BitVec.ofNat 32 b.toNat)
def raw (s : BitVec 32) (l : List UInt8) : BitVec 32 := l.foldl stp s
def more (s : BitVec 32) (l : List UInt8) : BitVec 32 := ~~~ raw (~~~ s) l
def csum (l : List UInt8) : BitVec 32 := more 0#32 l
theorem raw_append (s : BitVec 32) (l m : List UInt8) : raw s (l ++ m) = raw (raw s l) m := List.foldl_append
/-- What CrcTells keeps: which bits have been turned, as a number. -/
structure Turned (b : List UInt8) (first : Nat) (i : Nat) (own : List UInt8) (M : BitVec 32) : Prop where
  len : own.length = b.length
  low : ∀ j, j < 32 → i ≤ j → M.getLsbD j = false
  sum : raw (~~~ 0#32) own = raw (~~~ 0#32) b ^^^ it (8 * b.length - first) M
  same : M = 0#32 → own = b
theorem Turned.start (b : List UInt8) (first : Nat) : Turned b first 0 b 0#32 :=
  ⟨rfl, fun _ _ _ => by simp, by rw [it_zero, BitVec.xor_zero], fun _ => rfl⟩
theorem Turned.skip {b : List UInt8} {first i : Nat} {own : List UInt8} {M : BitVec 32} (h : Turned b first i own M) : Turned b first (i + 1) own M :=
  ⟨h.len, fun j hj hi => h.low j hj (by omega), h.sum, h.same⟩
/-! ### products -/
def tm (a : BitVec 32) : Nat → BitVec 32 → BitVec 32
  | 0, _ => 0#32
  | k + 1, b => (if a.getLsbD k then b else 0#32) ^^^ tm a k (bit b)
/-! ### the lowest bit -/
theorem low_bit (x : BitVec 32) (h : x ≠ 0#32) : ∃ i, i = Lib.ctz 32 x.toNat ∧ i < 32 ∧ x &&& (x - 1#32) = x ^^^ tp i ∧ (x ^^^ tp i).toNat < x.toNat := by
  have hx : x.toNat ≠ 0 := fun e => h (BitVec.eq_of_toNat_eq (by simpa using e))
  have hlt : x.toNat < 2 ^ 32 := x.isLt
  have hc : Lib.ctz 32 x.toNat = Lib.ctzFrom 32 x.toNat := by unfold Lib.ctz; rw [if_neg hx]
  obtain ⟨m, hm, hi⟩ := Lib.ctzFrom_spec 32 x.toNat (by omega) hlt
  rw [← hc] at hm hi
  obtain ⟨i, hi'⟩ : ∃ i, i = Lib.ctz 32 x.toNat := ⟨_, rfl⟩
  rw [← hi'] at hm hi
  have hp : 0 < 2 ^ i := Nat.pow_pos (by decide)
  have e1 : x.toNat = 2 ^ (i + 1) * m + 2 ^ i := by rw [hm, Nat.pow_succ, Nat.mul_add, Nat.mul_one, ← Nat.mul_assoc]
  have hps : 2 ^ i < 2 ^ (i + 1) := by rw [Nat.pow_succ]; omega
  have etp : (tp i).toNat = 2 ^ i := by
    unfold tp
    rw [BitVec.toNat_twoPow, Nat.mod_eq_of_lt]
    exact Nat.pow_lt_pow_right (by decide) hi
  have e2 : (x - 1#32).toNat = 2 ^ (i + 1) * m + (2 ^ i - 1) := by
    rw [BitVec.toNat_sub]
    simp only [BitVec.toNat_ofNat]
    omega
  have hxor : (x ^^^ tp i).toNat = 2 ^ (i + 1) * m := by
    rw [BitVec.toNat_xor, etp, e1]
    refine Nat.eq_of_testBit_eq fun j => ?_
    rw [Nat.testBit_xor, Nat.testBit_two_pow_mul_add _ hps, Nat.testBit_two_pow_mul, Nat.testBit_two_pow]
    by_cases hj : j < i + 1
    · rw [if_pos hj]
      have : ¬ (i + 1 ≤ j) := by omega
      simp [this]
    · rw [if_neg hj]
      have h1 : i + 1 ≤ j := by omega
      have h2 : ¬ (i = j) := by omega
      simp [h1, h2]
  refine ⟨i, hi', hi, BitVec.eq_of_toNat_eq ?_, by rw [hxor, e1]; omega⟩
  rw [hxor, BitVec.toNat_and, e2, e1]
  refine Nat.eq_of_testBit_eq fun j => ?_
  rw [Nat.testBit_and, Nat.testBit_two_pow_mul_add _ hps, Nat.testBit_two_pow_mul_add _ (by omega : 2 ^ i - 1 < 2 ^ (i + 1)), Nat.testBit_two_pow_mul]
  by_cases hj : j < i + 1
  · rw [if_pos hj, if_pos hj, Nat.testBit_two_pow, Nat.testBit_two_pow_sub_one]
    have : ¬ (i + 1 ≤ j) := by omega
    simp [this]
    omega
  · rw [if_neg hj, if_neg hj]
    have h1 : i + 1 ≤ j := by omega
    simp [h1]
end Go.Proofs.YtoeijomelabbfaaGreatDoor

/- An array of 32 numbers of 32 bits, by value and in a block of its own. -/
namespace Go.Proofs.YtoeijomelabbfaaGreatDoor
set_option maxRecDepth 200000
open Go.RowKit
set_option linter.unusedVariables false
set_option linter.unusedSimpArgs false

/-! ### the array -/
def arr (g : Nat → BitVec 32) : Array Value := ((List.range 32).map fun j => Value.int .u32 (v32 (g j))).toArray
theorem arr_size (g : Nat → BitVec 32) : (arr g).size = 32 := by simp [arr]
theorem arr_one (g : Nat → BitVec 32) : (arr g).all (·.oneCell') = true := by
  rw [Array.all_eq_true_iff_forall_mem]
  intro x hx
  simp [arr] at hx
  obtain ⟨j, _, rfl⟩ := hx
  rfl
theorem arr_get (g : Nat → BitVec 32) (j : Nat) (h : j < 32) : (arr g)[j]? = some (.int .u32 (v32 (g j))) := by
  simp [arr, h]
theorem arr_congr {g h : Nat → BitVec 32} (e : ∀ j, j < 32 → g j = h j) : arr g = arr h := by
  unfold arr
  congr 1
  refine List.map_congr_left fun j hj => ?_
  rw [e j (by simpa using hj)]
def upd (g : Nat → BitVec 32) (i : Nat) (x : BitVec 32) : Nat → BitVec 32 := fun j => if j = i then x else g j
theorem arr_set (g : Nat → BitVec 32) (i : Nat) (x : BitVec 32) (h : i < 32) : (arr g).set! i (.int .u32 (v32 x)) = arr (upd g i x) := by
  apply Array.ext_getElem?
  intro j
  rw [Array.set!_eq_setIfInBounds, Array.getElem?_setIfInBounds]
  by_cases hj : i = j
  · subst hj
    rw [if_pos rfl, arr_get _ _ h, if_pos (by rw [arr_size]; exact h)]
    simp [upd]
  · rw [if_neg hj]
    by_cases hj2 : j < 32
    · rw [arr_get _ _ hj2, arr_get _ _ hj2]
      simp [upd, Ne.symm hj]
    · have : ∀ g : Nat → BitVec 32, (arr g)[j]? = none := fun g => Array.getElem?_eq_none (by rw [arr_size]; omega)
      rw [this, this]

/-- The block b is the array, of type t. -/
def Row (w : World) (b : Nat) (t : TypeId) (g : Nat → BitVec 32) : Prop := w.heap[b]? = some (.cells (arr g) t (0, 0))
theorem Row.lt {w : World} {b : Nat} {t : TypeId} {g : Nat → BitVec 32} (h : Row w b t g) : b < w.heap.size := by
  rcases Nat.lt_or_ge b w.heap.size with h1 | h1
  · exact h1
  · unfold Row at h
    rw [Array.getElem?_eq_none h1] at h
    cases h
theorem Row.chg {S : List Nat} {w w' : World} {b : Nat} {t : TypeId} {g : Nat → BitVec 32} (h : Row w b t g) (c : Chg S w w') (hn : b ∉ S) : Row w' b t g := by
  unfold Row
  rw [c.block b h.lt hn]
  exact h
theorem Row.cell {w : World} {b : Nat} {t : TypeId} {g : Nat → BitVec 32} (h : Row w b t g) (j : Nat) (hj : j < 32) : w.cell? ⟨b, j, none⟩ = some (.int .u32 (v32 (g j))) := by
  rw [cell_of_row w b j _ t _ h, arr_get g j hj]
theorem Row.frozen {w : World} {b : Nat} {t : TypeId} {g : Nat → BitVec 32} (h : Row w b t g) (j : Nat) : w.frozen? ⟨b, j, none⟩ = false := frozen_of_row w b j _ t h
theorem Row.set {w : World} {b : Nat} {t : TypeId} {g : Nat → BitVec 32} (h : Row w b t g) (i : Nat) (x : BitVec 32) (hi : i < 32) : Row (w.setCell ⟨b, i, none⟩ (.int .u32 (v32 x))) b t (upd g i x) := by
  have e := arr_set g i x hi
  rw [Array.set!_eq_setIfInBounds] at e
  rw [setCell_eq_setRow w b i _ t (0, 0) _ h]
  simp only [e]
  exact setRow_heap w b _ _ t (0, 0) h

section
variable {P : Program} {ops : Array Oper} {rest : List Oper} {o : Oper} {a : Act} {w : World} {Q : Exit → Act → World → Prop}
/-- What the program's table says of the array's type. -/
def ArrT (P : Program) (t e : TypeId) : Prop := P.underlying t = some (.array 32 e) ∧ (P.info? t).map (fun i => (i.zero, i.size)) = some (some (.agg (arr fun _ => 0#32)), 32)
theorem ArrT.size {t e : TypeId} (h : ArrT P t e) (g : Nat → BitVec 32) : (P.info? t).map (·.size) = some (arr g).size := by
  rw [arr_size]; exact (zero_of_info h.2).2
/-- var s T. -/
theorem wpList_alloc_arr (hg : o.guard = none) (t e : TypeId) (ho : o.op = .alloc t) (T : ArrT P t e)
    (hK : ∀ w', Row w' w.heap.size t (fun _ => 0#32) → Chg [] w w' → w'.heap.size = w.heap.size + 1 → wpList P ops Q rest (a.put o.dst (.pointer (some ⟨w.heap.size, 0, none⟩))) w') : wpList P ops Q (o :: rest) a w := by
  refine wpList_plain hg fun K hK2 => ?_
  unfold Oper.wp execOp
  simp only [ho, Sem.run_bind, Instr.alloc, newVar, newRow, (zero_of_info T.2).1, run_newObj_alloc, Sem.run_pure, Result.andThen_ok, Value.cells]
  exact hK2 _ _ (hK (w.alloc (.cells (arr fun _ => 0#32) t)) (heap_alloc_last w _) (Chg.alloc [] w _) (by simp))
/-- a value's own block. -/
theorem wpList_box_arr (hg : o.guard = none) (t : TypeId) (x : Operand) (ho : o.op = .box t x) (g : Nat → BitVec 32) (hx : a.eval x = .agg (arr g))
    (hK : ∀ w', Row w' w.heap.size t g → Chg [] w w' → w'.heap.size = w.heap.size + 1 → wpList P ops Q rest (a.put o.dst (.pointer (some ⟨w.heap.size, 0, none⟩))) w') : wpList P ops Q (o :: rest) a w := by
  refine wpList_plain hg fun K hK2 => ?_
  unfold Oper.wp execOp
  simp only [ho, hx, Sem.run_bind, Instr.box, newVar, newRow, run_newObj_alloc, Sem.run_pure, Result.andThen_ok, Value.cells]
  exact hK2 _ _ (hK (w.alloc (.cells (arr g) t)) (heap_alloc_last w _) (Chg.alloc [] w _) (by simp))
theorem wpList_load_arr (hgd : o.guard = none) (t e : TypeId) (x : Operand) (ho : o.op = .load t x) (T : ArrT P t e) (b : Nat) (g : Nat → BitVec 32) (h : Row w b t g) (hx : a.eval x = .pointer (some ⟨b, 0, none⟩))
    (hK : wpList P ops Q rest (a.put o.dst (.agg (arr g))) w) : wpList P ops Q (o :: rest) a w :=
  wpList_load_row hgd t x ho b hx t _ _ _ h T.1 rfl (T.size g) hK
theorem Chg.setRow (w : World) (b : Nat) (cs : Array Value) : Chg [b] w (w.setRow b cs) :=
  ⟨rfl, rfl, rfl, by simp, fun k _ hn => setRow_other w b k cs (by simpa using hn)⟩
theorem wpList_store_arr (hgd : o.guard = none) (t e : TypeId) (x y : Operand) (ho : o.op = .store t x y) (T : ArrT P t e) (b : Nat) (g g' : Nat → BitVec 32) (h : Row w b t g) (hx : a.eval x = .pointer (some ⟨b, 0, none⟩)) (hy : a.eval y = .agg (arr g'))
    (hK : ∀ w', Row w' b t g' → Chg [b] w w' → wpList P ops Q rest (a.put o.dst undef) w') : wpList P ops Q (o :: rest) a w := by
  refine wpList_plain hgd fun K hK2 => wp_store_row t x y ho b (arr g') hx hy t (arr g) h (T.size g') (by rw [arr_size, arr_size]) (arr_one g') (hK2 _ _ (hK _ ?_ (Chg.setRow w b _)))
  exact setRow_heap w b _ _ t (0, 0) h
end
end Go.Proofs.YtoeijomelabbfaaGreatDoor

/- The contracts of bits.TrailingZeros32 and of package crc's steps. -/
namespace Go.Proofs.YtoeijomelabbfaaGreatDoor
set_option maxRecDepth 200000
open Go.RowKit
set_option linter.unusedVariables false
set_option linter.unusedSimpArgs false

/-- The number of Go's own table among the variables. -/
def tabG : Nat := 1
/-- Go's own table of the lowest bits, as its initialiser lays it. -/
def Tab (w : World) : Prop := ∀ k : Nat, k < 32 → w.cell? ⟨tabG, 2 ^ k * 125613361 % 4294967296 / 134217728, none⟩ = some (.int .u8 (k : Int))
theorem Tab.chg {S : List Nat} {w w' : World} (h : Tab w) (g : Chg S w w') (hn : tabG ∉ S) : Tab w' := fun k hk => g.cellv (h k hk) hn
theorem Tab.then {w w' : World} (h : Tab w) (g : Chg [] w w') : Tab w' := h.chg g (by simp)

theorem tz_key (x a : Nat) (hx : x < 4294967296) (hx0 : x ≠ 0) (hlow : x &&& (4294967296 - x) = a) :
    bits .and .u32 (x : Int) (-(x : Int) % 4294967296) * 125613361 % 4294967296 / 134217728 = ((a * 125613361 % 4294967296 / 134217728 : Nat) : Int) := by
  have e1 : -(x : Int) % 4294967296 = ((4294967296 - x : Nat) : Int) := by omega
  rw [e1, u32_and_nat x _ hx (by omega), hlow]
  omega
set_option maxHeartbeats 1000000 in
theorem tz_core (X : Int) (k idx : Nat) (w : World) (hx0 : (X == 0) = false) (key : bits .and .u32 X (-X % 4294967296) * 125613361 % 4294967296 / 134217728 = (idx : Int))
    (hi : idx < 32) (hk : k < 32) (hcell : w.cell? ⟨1, idx, none⟩ = some (.int .u8 k)) :
    Calls Tryz.prog 229 #[.int .u32 X] w fun e w' => e = .returned (.int .i64 k) ∧ w = w' := by
  go_enter Tryz.func229, Tryz.ntmps229
  go_wp2_with (simp only [key])
  go_ret
  exact ⟨rfl, rfl⟩
/-- bits.TrailingZeros32: the lowest bit's place. -/
theorem tz_any (x : BitVec 32) (w : World) (hT : Tab w) (h : x ≠ 0#32) (i : Nat) (hi : i = Lib.ctz 32 x.toNat) :
    Calls Tryz.prog 229 #[.int .u32 (v32 x)] w fun e w' => e = .returned (.int .i64 i) ∧ w = w' := by
  have hx0 : x.toNat ≠ 0 := fun e => h (BitVec.eq_of_toNat_eq (by simpa using e))
  obtain ⟨hlow, hk⟩ := Lib.lowest_bit 32 x.toNat hx0 x.isLt
  rw [← hi] at hlow hk
  exact tz_core (v32 x) i _ w (by unfold v32; simp; omega) (tz_key x.toNat _ x.isLt hx0 hlow) (by omega) hk (hT i hk)

theorem bit_odd (x : BitVec 32) (h : x.getLsbD 0 = true) : bits .xor .u32 (v32 x / 2) 2197175160 = v32 (bit x) := by
  have e : (2197175160 : Int) = v32 pol := by decide +kernel
  rw [half32, e, x32]
  unfold bit
  rw [h]; rfl
theorem bit_even (x : BitVec 32) (h : x.getLsbD 0 = false) : v32 x / 2 = v32 (bit x) := by
  rw [half32]
  unfold bit
  rw [h]; simp
theorem ret_u32 {a b : Int} (h : a = b) : Ending.returned (Value.int .u32 a) = .returned (.int .u32 b) := by rw [h]
theorem shifted_any (x : BitVec 32) (w : World) : Calls Tryz.prog 228 #[.int .u32 (v32 x)] w fun e w' => e = .returned (.int .u32 (v32 (bit x))) ∧ w = w' := by
  have h1 := and1 x
  cases hb : x.getLsbD 0
  · rw [hb] at h1
    simp only [Bool.false_eq_true, if_false] at h1
    go_enter Tryz.func228, Tryz.ntmps228
    go_wp2
    go_ret
    exact ⟨ret_u32 (bit_even x hb), rfl⟩
  · rw [hb] at h1
    simp only [if_true] at h1
    go_enter Tryz.func228, Tryz.ntmps228
    go_wp2
    go_ret
    exact ⟨ret_u32 (bit_odd x hb), rfl⟩
end Go.Proofs.YtoeijomelabbfaaGreatDoor

/- The contracts of package crc: steps. -/
namespace Go.Proofs.YtoeijomelabbfaaGreatDoor
set_option maxRecDepth 200000
open Go.RowKit
set_option linter.unusedVariables false
set_option linter.unusedSimpArgs false

theorem arrT : ArrT Tryz.prog 269 183 := ⟨Tryz.underlying269, by kernel_rfl⟩

/-- What a step does to a number. -/
theorem of_any (f : BitVec 32 → BitVec 32) (hf : Lin f) (g : Nat → BitVec 32) (hg : ∀ j, j < 32 → g j = f (tp j)) (x : BitVec 32) (w : World) (hT : Tab w) :
    Calls Tryz.prog 226 #[.agg (arr g), .int .u32 (v32 x)] w fun e w' => e = .returned (.int .u32 (v32 (f x))) ∧ Chg [] w w' := by
  have Hg := mkHid hg
  clear hg
  go_enter Tryz.func226, Tryz.ntmps226
  go_wp2_with (refine wpList_box_arr rfl 269 (.tmp 0) rfl g rfl ?_; intro w1 hr1 hg1 hs1)
  have hT1 := hT.then hg1
  have hlt := hr1.lt
  generalize hb : w.heap.size = b at *
  go_loopw [1, 5] (fun n o wr => ∃ (N O : BitVec 32), n = .int .u32 (v32 N) ∧ o = .int .u32 (v32 O) ∧ wr = w1 ∧ O ^^^ f N = f x) (fun n _ _ => (Go.RowKit.intOf n).toNat)
  case atStart => exact ⟨x, 0#32, rfl, rfl, rfl, by rw [BitVec.zero_xor]⟩
  case round =>
    obtain ⟨N, O, rfl, rfl, rfl, hN⟩ := hrel
    by_cases h0 : N = 0#32
    · subst h0
      rw [hf.zero, BitVec.xor_zero] at hN
      subst hN
      go_wp2_with fail
      go_ret
      exact ⟨rfl, hg1⟩
    · obtain ⟨i, hi, hi32, hand, hlow⟩ := low_bit N h0
      have hne : (v32 N != 0) = true := by
        simp
        intro e
        exact h0 (v32_inj.1 (by rw [e]; rfl))
      have hc := hr1.cell i hi32
      have Hi := mkHid hi
      have h1 := x32 O (g i)
      have h2 := sub32 N
      have h3 := a32 N (N - 1#32)
      have Hand := mkHid hand
      clear hi hand
      go_wp2_with (first | (go_at_call 229; refine (tz_any N _ hT1 h0 i Hi.out).mono ?_; rintro e w' ⟨rfl, rfl⟩))
      go_roundw
      case rel =>
        refine ⟨N ^^^ tp i, O ^^^ g i, by rw [← Hand.out], rfl, by first | rfl | trivial, ?_⟩
        rw [hf.xor, Hg.out i hi32, ← hN]
        rw [BitVec.xor_assoc, ← BitVec.xor_assoc (f (tp i)), BitVec.xor_comm (f (tp i)) (f N), BitVec.xor_assoc, BitVec.xor_self, BitVec.xor_zero]
      case measure =>
        rw [Hand.out]
        simpa [Go.RowKit.intOf, v32] using hlow

theorem it_succ (n : Nat) (x : BitVec 32) : it (n + 1) x = bit (it n x) := by rw [Nat.add_comm]; exact it_add 1 n x
theorem tp_val (k : Nat) (h : k < 32) : (2 : Int) ^ k % 4294967296 = v32 (tp k) := by
  unfold v32 tp
  rw [BitVec.toNat_twoPow]
  exact Int.natCast_emod (2 ^ k) 4294967296 |>.symm ▸ by simp
/-- What one nought does. -/
theorem byteStep_any (w : World) : Calls Tryz.prog 225 #[] w fun e w' => e = .returned (.agg (arr fun j => it 8 (tp j))) ∧ Chg [] w w' := by
  go_enter Tryz.func225, Tryz.ntmps225
  go_wp2_with (first | (refine wpList_alloc_arr (o := ⟨some 0, _, _, _, _, _⟩) rfl 269 183 rfl arrT ?_; intro w1 hr1 hg1 hs1) | (refine wpList_alloc_arr (o := ⟨some 1, _, _, _, _, _⟩) rfl 269 183 rfl arrT ?_; intro w2 hr2 hg2 hs2))
  generalize hb : w.heap.size = b at *
  have hb2 : b ≠ b + 1 := by omega
  rw [hs1] at hr2
  generalize hc : b + 1 = c at *
  have hr1' := hr1.chg hg2 (by simp)
  go_loopw [2, 3, 4] (fun _ _ i wr => ∃ (k : Nat) (g : Nat → BitVec 32), i = .int .i64 k ∧ k ≤ 32 ∧ Row wr b 269 (fun _ => 0#32) ∧ Row wr c 269 g ∧ Chg [c] w2 wr ∧ ∀ j, j < k → g j = it 8 (tp j)) (fun _ _ i _ => 32 - (Go.RowKit.intOf i).toNat)
  case atStart => exact ⟨0, _, rfl, by omega, hr1', hr2, Chg.refl _ _, fun j hj => absurd hj (by omega)⟩
  case round =>
    obtain ⟨k, g, rfl, hk, ha, hcr, hg3, Hj⟩ := hrel
    by_cases hlt : k < 32
    · have hp := tp_val k hlt
      have hfz := hcr.frozen k
      have hcl := hcr.cell k hlt
      go_wp2_with fail
      have hd : decide ((k : Int) < 32) = true := by simp; omega
      simp only [hp, hd]
      go_loopw [3, 9] (fun n i wx => ∃ j : Nat, n = .int .u32 (v32 (it j (tp k))) ∧ i = .int .i64 j ∧ j ≤ 8 ∧ wr = wx) (fun _ i _ => 8 - (Go.RowKit.intOf i).toNat)
      case atStart => exact ⟨0, rfl, rfl, by omega, rfl⟩
      case round =>
        obtain ⟨j, rfl, rfl, hj, rfl⟩ := hrel
        by_cases hl8 : j < 8
        · have hs := it_succ j (tp k)
          have Hs := mkHid hs
          clear hs
          go_wp2_with (first | (go_at_call 228; refine (shifted_any _ _).mono ?_; rintro e w' ⟨rfl, rfl⟩))
          go_roundw
          case rel => exact ⟨j + 1, by rw [Hs.out], by go_num, by omega, by first | rfl | trivial⟩
          case measure => simp [Go.RowKit.intOf]; omega
        · have : j = 8 := by omega
          subst this
          go_wp2_with fail
          go_roundw
          case rel =>
            refine ⟨k + 1, upd g k (it 8 (tp k)), by go_num, by omega, ha.chg (Chg.setCell _ _ _) (by simpa using hb2), hcr.set k _ hlt, hg3.trans (Chg.setCell _ _ _) (fun _ h _ => h) (fun _ h _ => h), fun j hj => ?_⟩
            unfold upd
            by_cases he : j = k
            · rw [if_pos he, he]
            · rw [if_neg he, Hj j (by omega)]
          case measure => simp [Go.RowKit.intOf]; omega
    · have : k = 32 := by omega
      subst this
      go_wp2_with (first | (refine wpList_load_arr rfl 269 183 (.tmp 1) rfl arrT c g hcr rfl ?_) | (refine wpList_store_arr rfl 269 183 (.tmp 0) (.tmp 18) rfl arrT b _ g ha rfl rfl ?_; intro w5 hr5 hg5))
      refine bodyPost_ret (v := .agg (arr g)) (results_cell_row rfl _ _ b 269 _ _ _ rfl hr5 Tryz.underlying269 rfl (arrT.size g)) rfl ?_
      refine ⟨by rw [arr_congr (g := g) (h := fun j => it 8 (tp j)) Hj], ?_⟩
      exact ((hg1.then hg2).trans hg3 (fun _ h _ => h) (by simp; omega)).trans hg5 (fun _ h _ => h) (by simp; omega)
end Go.Proofs.YtoeijomelabbfaaGreatDoor

/- The contracts of package crc's sums, and of the reference's. -/
namespace Go.Proofs.YtoeijomelabbfaaGreatDoor
set_option maxRecDepth 200000
open Go.RowKit
set_option linter.unusedVariables false
set_option linter.unusedSimpArgs false

theorem raw_succ (s : BitVec 32) (l : List UInt8) (k : Nat) (h : k < l.length) : raw s (l.take (k + 1)) = stp (raw s (l.take k)) l[k] := by
  rw [List.take_succ_eq_append_getElem h, raw_append]
  rfl
theorem more_any (S : BitVec 32) (s : Int) (hs : s = v32 S) (ao : Option Addr) (n c : Nat) (l : List UInt8) (w : World) (hT : Tab w) (g : Reads w ao (bts l)) (gn : l.length = n) (hn : n ≤ maxLen) :
    Calls Tryz.prog 218 #[.int .u32 s, .slice ao n c] w fun e w' => e = .returned (.int .u32 (v32 (more S l))) ∧ Chg [] w w' := by
  subst hs
  unfold maxLen at hn
  go_enter Tryz.func218, Tryz.ntmps218
  go_wp2_with (first | (go_at_call 225; refine (byteStep_any _).mono ?_; rintro e w1 ⟨rfl, hg1⟩) | (refine wpList_alloc_arr rfl 269 183 rfl arrT ?_; intro w2 hr2 hg2 hs2; have hlt2 := hr2.lt) | (refine wpList_store_arr rfl 269 183 (.tmp 5) (.tmp 9) rfl arrT _ _ _ hr2 rfl rfl ?_; intro w3 hr3 hg3))
  have hpos : tabG < w1.heap.size := block_lt_of_cell ((hT.then hg1) 0 (by decide))
  have hT3 := ((hT.then hg1).then hg2).chg hg3 (by simp; omega)
  have hc3 : Chg [] w w3 := (hg1.then hg2).trans hg3 (fun _ h _ => h) (by have := hg1.size; simp; omega)
  have hnew : w.heap.size ≤ w1.heap.size := hg1.size
  generalize hb : w1.heap.size = b at *
  simp only [n32m]
  clear hs2 hlt2 hr2 hg2 hg3 hg1
  go_loopw [6, 8, 14] (fun v _ i wr => ∃ (k : Nat), i = .int .i64 k ∧ k ≤ n ∧ v = .int .u32 (v32 (raw (~~~ S) (l.take k))) ∧ Row wr b 269 (fun j => it 8 (tp j)) ∧ Tab wr ∧ Chg [] w wr) (fun _ _ i _ => n - (Go.RowKit.intOf i).toNat)
  case atStart => exact ⟨0, rfl, by omega, rfl, hr3, hT3, hc3⟩
  case round =>
    obtain ⟨k, rfl, hk, rfl, hr, ht, hc⟩ := hrel
    by_cases hlt : k < n
    · obtain ⟨b1, o1, rfl, hcell⟩ := (g.keep hc) (by rw [bts_length]; omega)
      have hck := hcell k _ (bts_get l k (by omega))
      clear hcell
      obtain ⟨x, hx⟩ : ∃ x, x = l[k]'(by omega) := ⟨_, rfl⟩
      rw [← hx, conv32] at hck
      obtain ⟨R, hR⟩ : ∃ R, R = raw (~~~ S) (l.take k) := ⟨_, rfl⟩
      rw [← hR]
      have hstep := raw_succ (~~~ S) l k (by omega)
      rw [← hx, ← hR] at hstep
      have Hstep := mkHid hstep
      clear hstep hx hR
      obtain ⟨X, hX⟩ : ∃ X, X = BitVec.ofNat 32 x.toNat := ⟨_, rfl⟩
      rw [← hX] at hck
      have h1 := x32 R X
      have h2 := and255 (R ^^^ X)
      have h3 := shr32 (R ^^^ X) 8 256 rfl
      have h4 := x32 ((R ^^^ X) >>> 8) (it 8 ((R ^^^ X) &&& 255#32))
      have hv := mod32 X
      have HX := mkHid hX
      clear hX
      go_wp2_with (first | (refine wpList_load_arr rfl 269 183 (.tmp 5) rfl arrT b _ hr rfl ?_) | (go_at_call 226; refine (of_any (it 8) (Lin.it 8) _ (fun _ _ => rfl) ((R ^^^ X) &&& 255#32) _ ht).mono ?_; rintro e w4 ⟨rfl, hc4⟩; have hr4 := hr.chg hc4 (by simp)))
      refine ⟨⟨k + 1, by go_num, by omega, ?_, hr4, ht.then hc4, hc.then hc4⟩, by simp [Go.RowKit.intOf]; omega⟩
      rw [Hstep.out, ← it_byte, HX.out]
      rfl
    · have : k = n := by omega
      subst this
      rw [List.take_of_length_le (by omega)]
      go_wp2_with fail
      go_ret
      exact ⟨ret_u32 (n32m _), hc⟩

theorem sum_any (ao : Option Addr) (n c : Nat) (l : List UInt8) (w : World) (hT : Tab w) (g : Reads w ao (bts l)) (gn : l.length = n) (hn : n ≤ maxLen) :
    Calls Tryz.prog 204 #[.slice ao n c] w fun e w' => e = .returned (.int .u32 (v32 (csum l))) ∧ Chg [] w w' := by
  go_enter Tryz.func204, Tryz.ntmps204
  go_wp2_with (first | (go_at_call 218; refine (more_any 0#32 0 rfl ao n c l w hT g gn hn).mono ?_; rintro e w1 ⟨rfl, hg1⟩))
  go_ret
  exact ⟨rfl, hg1⟩

end Go.Proofs.YtoeijomelabbfaaGreatDoor

/- From the row's list to the table; arrays of integers opened; what is new at the end. -/

namespace Go.Proofs.YtoeijomelabbfaaGreatDoor
set_option maxRecDepth 200000
open Go.ChangeShapes Go.WideShapes Go.ChangeAt Go.RowKit
set_option linter.unusedVariables false
set_option linter.unusedSimpArgs false

theorem gTabType : (Tryz.prog.globals[1]?).map (·.type) = some 273 := by kernel_rfl
def tabInts : List Int := [0, 1, 28, 2, 29, 14, 24, 3, 30, 22, 20, 15, 25, 17, 4, 8, 31, 27, 13, 23, 21, 19, 16, 7, 26, 12, 18, 6, 11, 5, 10, 9]
theorem tab_ints : ∀ k : Nat, k < 32 → 2 ^ k * 125613361 % 4294967296 / 134217728 < 32 ∧ tabInts.getD (2 ^ k * 125613361 % 4294967296 / 134217728) 0 = (k : Int) := by decide +kernel
theorem tab_of {name : String} {W : World} (gTab : Tryz.prog.globalNamed name = some 1) (h : laidMetH Tryz.prog [(name, Rows.laid_math_bits_deBruijn32tab)] W) : Tab W := by
  have h2 : laidMet Tryz.prog [(name, Lib.tabData .u8 tabInts)] W := h
  have hT := Lib.tabIs_of_head (rest := []) gTab gTabType Tryz.underlying273 Tryz.underlying5 (by kernel_rfl) (by kernel_rfl) h2
  intro k hk
  obtain ⟨h1, h2⟩ := tab_ints k hk
  have := hT.cell gTab _ h1
  rw [h2] at this
  exact this
end Go.Proofs.YtoeijomelabbfaaGreatDoor

/- (390: how many types the program's table has, and a hundred more.) The waiting line as a value of heap.Interface: how its methods are reached. -/
namespace Go.Proofs.YtoeijomelabbfaaGreatDoor
set_option maxRecDepth 200000
open Go.RowKit
set_option linter.unusedVariables false
set_option linter.unusedSimpArgs false

theorem wrap_some (ts : Array TypeId) (t : TypeId) (p : Addr) (a b : String) : Builtin.ssaWrapNilChk_ ts t #[.pointer (some p), strVal a, strVal b] = pure (.pointer (some p)) := rfl
theorem meth_one (name : String) (f : Nat) (sig : TypeId) (cb k : Nat) (la : Option Addr) (n c : Nat) (w : World) (h : w.cell? ⟨cb, k, none⟩ = some (.slice la n c))
    (hi : (Tryz.prog.info? 191).map (fun i => i.methods.find? (·.name == name)) = some (some ⟨name, sig, #[], some (f, false)⟩)) :
    (method 390 191 (.pointer (some ⟨cb, k, none⟩)) name).run Tryz.prog w = .ok (f, .slice la n c) w := by
  obtain ⟨i, h1, h2⟩ := Option.map_eq_some_iff.1 hi
  have hu : Tryz.prog.underlying 191 = some (.pointer 132) := Tryz.underlying191
  have hu2 := Tryz.underlying132
  unfold method
  simp [typeInfo, h1, h2, follow, receiverAt, hu, run_underlying hu, Place.get, wrap_some, Sem.run_bind, asAddr, loadVar, isAgg, run_underlying hu2, run_load, h]
theorem meth_ptr (name : String) (f : Nat) (sig : TypeId) (p : Addr) (w : World)
    (hi : (Tryz.prog.info? 191).map (fun i => i.methods.find? (·.name == name)) = some (some ⟨name, sig, #[], some (f, true)⟩)) :
    (method 390 191 (.pointer (some p)) name).run Tryz.prog w = .ok (f, .pointer (some p)) w := by
  obtain ⟨i, h1, h2⟩ := Option.map_eq_some_iff.1 hi
  have hu : Tryz.prog.underlying 191 = some (.pointer 132) := Tryz.underlying191
  unfold method
  simp [typeInfo, h1, h2, follow, receiverAt, hu, run_underlying hu, Place.get]
section
variable (cb k : Nat) (la : Option Addr) (n c : Nat) (w : World)
theorem meth_len (h : w.cell? ⟨cb, k, none⟩ = some (.slice la n c)) : (method 390 191 (.pointer (some ⟨cb, k, none⟩)) "Len").run Tryz.prog w = .ok (247, .slice la n c) w :=
  meth_one "Len" _ 71 cb k la n c w h (by kernel_rfl)
theorem meth_less (h : w.cell? ⟨cb, k, none⟩ = some (.slice la n c)) : (method 390 191 (.pointer (some ⟨cb, k, none⟩)) "Less").run Tryz.prog w = .ok (248, .slice la n c) w :=
  meth_one "Less" _ 245 cb k la n c w h (by kernel_rfl)
theorem meth_swap (h : w.cell? ⟨cb, k, none⟩ = some (.slice la n c)) : (method 390 191 (.pointer (some ⟨cb, k, none⟩)) "Swap").run Tryz.prog w = .ok (249, .slice la n c) w :=
  meth_one "Swap" _ 243 cb k la n c w h (by kernel_rfl)
theorem meth_push (p : Addr) : (method 390 191 (.pointer (some p)) "Push").run Tryz.prog w = .ok (255, .pointer (some p)) w :=
  meth_ptr "Push" _ 218 p w (by kernel_rfl)
theorem meth_pop (p : Addr) : (method 390 191 (.pointer (some p)) "Pop").run Tryz.prog w = .ok (254, .pointer (some p)) w :=
  meth_ptr "Pop" _ 244 p w (by kernel_rfl)
end
theorem len_any (la : Option Addr) (n c : Nat) (w : World) : Calls Tryz.prog 247 #[.slice la n c] w fun e w' => e = .returned (.int .i64 n) ∧ w = w' := by
  go_enter Tryz.func247, Tryz.ntmps247
  go_wp2
  go_ret
  exact ⟨rfl, rfl⟩
end Go.Proofs.YtoeijomelabbfaaGreatDoor
