/- Numbers and their bytes (as lib/order has them); rows of numbers of 64 bits; which nodes may be, and their forms. -/
import Derived.Test.YthbnakahcchbnaaW
import Derived.Test.YthbnakahcchbnaaT
import Derived.Deep.QuietTactic
import Derived.BigQuiet
import Derived.RegionTactic
import Derived.Deep.RegionHeld3
import Derived.Deep.RegionLaw
import Derived.Deep.DeepCutAuto
import Derived.Deep.CutBlock
import Derived.Deep.DrawnRows
import Derived.WalkSpells
import Derived.WalkLawsBesides
namespace Go.Proofs.Ythbnakahcchbnaa
open Go.RowKit
set_option linter.unusedVariables false
set_option linter.unusedSimpArgs false
attribute [local go_sem ↓] Go.wp_at_zero Go.wp_at_succ

theorem Chg.drewN (w : World) (n : Nat) : Chg [] w (w.drewN n) := ⟨rfl, rfl, rfl, Nat.le_refl _, fun _ _ _ => rfl⟩
theorem ret_bool' {a b : Bool} (h : a = b) : Ending.returned (Value.bool a) = .returned (.bool b) := by rw [h]
theorem oneB : (Try.prog.info? 5).map (·.size) = some 1 := by kernel_rfl

/-- The k lowest digits of N to the base 256, the highest first. -/
def be (N : Nat) : Nat → List UInt8
  | 0 => []
  | k + 1 => UInt8.ofNat (N / 256 ^ k) :: be N k
theorem be_length (N k : Nat) : (be N k).length = k := by induction k <;> simp [be, *]
theorem be_snoc (N k : Nat) : be N (k + 1) = be (N / 256) k ++ [UInt8.ofNat N] := by
  induction k with
  | zero => simp [be]
  | succ k ih => rw [be, ih, be]; simp [Nat.div_div_eq_div_mul, Nat.pow_succ, Nat.mul_comm]
theorem ofNat_toNat (N : Nat) : ((UInt8.ofNat N).toNat : Int) = ((N % 256 : Nat) : Int) := by simp
theorem shr_byte (N j : Nat) : ((N : Int) / 2 ^ (8 * j) % 256) = ((UInt8.ofNat (N / 256 ^ j)).toNat : Int) := by
  have h : ((2 : Int) ^ (8 * j)) = ((256 ^ j : Nat) : Int) := by rw [show 256 = 2 ^ 8 from rfl, ← Nat.pow_mul]; norm_cast
  rw [ofNat_toNat, h, Int.natCast_emod, Int.natCast_ediv]
  rfl

/-- The number whose bytes these are. -/
def val (l : List UInt8) : Nat := l.foldl (fun a x => a * 256 + x.toNat) 0
theorem foldl_val (l : List UInt8) (a : Nat) : l.foldl (fun a x => a * 256 + x.toNat) a = a * 256 ^ l.length + val l := by
  induction l generalizing a with
  | nil => simp [val]
  | cons x r ih =>
    have h := ih (0 * 256 + x.toNat)
    simp only [List.foldl_cons, val, List.length_cons] at h ⊢
    rw [ih, h, Nat.pow_succ]
    simp only [val]
    grind
theorem val_snoc (l : List UInt8) (x : UInt8) : val (l ++ [x]) = val l * 256 + x.toNat := by simp [val]
theorem val_lt (l : List UInt8) : val l < 256 ^ l.length := by
  induction l with
  | nil => simp [val]
  | cons x r ih =>
    have h := foldl_val r (0 * 256 + x.toNat)
    have hx := x.toNat_lt
    simp only [val, List.foldl_cons, List.length_cons] at h ih ⊢
    rw [h, Nat.pow_succ]
    have h2 : (x.toNat + 1) * 256 ^ r.length ≤ 256 * 256 ^ r.length := Nat.mul_le_mul_right _ (by omega)
    have h3 : val r < 256 ^ r.length := ih
    grind
theorem val_take_succ (l : List UInt8) (k : Nat) (h : k < l.length) : val (l.take (k + 1)) = val (l.take k) * 256 + l[k].toNat := by
  rw [List.take_succ_eq_append_getElem h, val_snoc]

theorem val_take_lt (l : List UInt8) (k : Nat) (h : k < 8) : val (l.take k) < 2 ^ 56 :=
  Nat.lt_of_lt_of_le (val_lt _) (by
    have h1 : (l.take k).length ≤ 7 := by simp; omega
    exact Nat.le_trans (Nat.pow_le_pow_right (by decide) h1) (by decide))
theorem wraps_u64 (n : Int) (h₀ : 0 ≤ n) (h₁ : n < 2 ^ 64) : IntKind.u64.wrap n = n := by
  rw [IntKind.wrap_u64]; exact Int.emod_eq_of_lt h₀ h₁
theorem or_byte (A : Nat) (x : UInt8) (h : A < 2 ^ 56) : bits BinOp.or IntKind.u64 (IntKind.u64.wrap ((A : Int) * 256)) (IntKind.u64.wrap (x.toNat : Int)) = ((A * 256 + x.toNat : Nat) : Int) := by
  have hx := x.toNat_lt
  rw [wraps_u64 _ (by omega) (by omega), wraps_u64 _ (by omega) (by omega), bits_join .u64 64 (by decide) wraps_u64 8 _ _ (by omega) (by omega) (by omega) (by omega) (by omega) (by omega)]
  simp

theorem add_byte (A : Nat) (x : UInt8) (h : A < 2 ^ 56) : IntKind.u64.wrap (IntKind.u64.wrap (256 * (A : Int)) + IntKind.u64.wrap (x.toNat : Int)) = ((A * 256 + x.toNat : Nat) : Int) := by
  have hx := x.toNat_lt
  rw [wraps_u64 (256 * (A : Int)) (by omega) (by omega), wraps_u64 (x.toNat : Int) (by omega) (by omega), wraps_u64 _ (by omega) (by omega)]
  omega

theorem val_cons (x : UInt8) (l : List UInt8) : val (x :: l) = x.toNat * 256 ^ l.length + val l := by
  have := foldl_val l (0 * 256 + x.toNat)
  simp only [val, List.foldl_cons] at this ⊢
  rw [this]; simp
theorem val_be (N k : Nat) : val (be N k) = N % 256 ^ k := by
  induction k with
  | zero => simp [be, val, Nat.mod_one]
  | succ k ih =>
    rw [be, val_cons, ih, be_length, Nat.pow_succ, Nat.mod_mul]
    simp [Nat.mul_comm, Nat.add_comm]

/-! ### rows of numbers -/
def uvs (L : List Nat) : List Value := L.map fun x : Nat => Value.int .u64 (x : Int)
theorem uvs_len (L : List Nat) : (uvs L).length = L.length := by simp [uvs]
theorem uvs_get {L : List Nat} {k x : Nat} (h : L[k]? = some x) : (uvs L)[k]? = some (.int .u64 (x : Int)) := by simp [uvs, h]
theorem uvs_append (L M : List Nat) : uvs (L ++ M) = uvs L ++ uvs M := by simp [uvs]
theorem uvs_set (L : List Nat) (k x : Nat) : (uvs L).set k (.int .u64 (x : Int)) = uvs (L.set k x) := by simp [uvs]
theorem uvs_one (L : List Nat) : ∀ u ∈ uvs L, u.oneCell' = true := by
  intro u hu
  obtain ⟨_, _, rfl⟩ := List.mem_map.1 hu
  rfl
/-- What keys and values must be at a place. -/
def okAt (K V : List Nat) (i : Nat) : Bool := decide (0 < V.getD i 0) && (decide (i = 0) || decide (K.getD (i - 1) 0 < K.getD i 0))
def mayB (K V : List Nat) : Bool := (decide (1 ≤ K.length) && decide (K.length ≤ 8) && decide (V.length = K.length)) && (List.range K.length).all (okAt K V)
theorem all_range_succ (f : Nat → Bool) (k : Nat) : (List.range (k + 1)).all f = ((List.range k).all f && f k) := by rw [List.range_succ, List.all_append]; simp
/-- The form of keys and values, pair by pair. -/
def pairsN : List Nat → List Nat → List UInt8
  | k :: K, v :: V => be k 8 ++ (be v 8 ++ pairsN K V)
  | _, _ => []
def formN (lf : Bool) (K V : List Nat) : List UInt8 := (if lf then 1 else 0) :: UInt8.ofNat K.length :: pairsN K V
end Go.Proofs.Ythbnakahcchbnaa
