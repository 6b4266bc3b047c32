/- Numbers of 32 bits as the walk has them. No program is named here. -/
import Derived.Test.YtdmhcbbakgljoaaK
import Derived.ProofKit
import Derived.OpenShut
namespace Go.Proofs.Ytdmhcbbakgljoaa
open Go.RowKit
set_option linter.unusedVariables false

/-! ### numbers -/
def v32 (x : BitVec 32) : Int := (x.toNat : Int)
theorem v32_inj {a b : BitVec 32} : v32 a = v32 b ↔ a = b := by
  unfold v32
  rw [Int.natCast_inj]
  exact ⟨BitVec.eq_of_toNat_eq, fun h => by rw [h]⟩
theorem v32_lt (x : BitVec 32) : 0 ≤ v32 x ∧ v32 x < 4294967296 := by
  have := x.isLt
  unfold v32
  omega
theorem v32_beq (a b : BitVec 32) : (v32 a == v32 b) = decide (a = b) := by
  rw [Bool.eq_iff_iff]
  simp [v32_inj]
theorem v32_of {z : Int} (h : (Lit.int .u32 z).wf = true) : ∃ x : BitVec 32, z = v32 x := by
  have hb := Go.bounds_u32 h
  refine ⟨BitVec.ofNat 32 z.toNat, ?_⟩
  unfold v32
  rw [BitVec.toNat_ofNat, Nat.mod_eq_of_lt (by omega)]
  omega
theorem x32 (a b : BitVec 32) : bits .xor .u32 (v32 a) (v32 b) = v32 (a ^^^ b) := by
  unfold v32
  rw [u32_xor_nat _ _ a.isLt b.isLt, BitVec.toNat_xor]
theorem a32 (a b : BitVec 32) : bits .and .u32 (v32 a) (v32 b) = v32 (a &&& b) := by
  unfold v32
  rw [u32_and_nat _ _ a.isLt b.isLt, BitVec.toNat_and]
theorem n32 (a : BitVec 32) : bits .xor .u32 4294967295 (v32 a) = v32 (~~~ a) := by
  have e : (4294967295 : Int) = v32 (BitVec.allOnes 32) := by decide +kernel
  rw [e, x32, BitVec.xor_comm, BitVec.xor_allOnes]
theorem n32' (a : BitVec 32) : bits .xor .u32 (v32 a) 4294967295 = v32 (~~~ a) := by
  have e : (4294967295 : Int) = v32 (BitVec.allOnes 32) := by decide +kernel
  rw [e, x32, BitVec.xor_allOnes]
theorem shr32 (a : BitVec 32) (k : Nat) (d : Int) (hd : d = (2 ^ k : Nat)) : v32 a / d = v32 (a >>> k) := by
  subst hd
  unfold v32
  rw [BitVec.toNat_ushiftRight, Nat.shiftRight_eq_div_pow]
  exact (Int.natCast_ediv _ _).symm
theorem sub32 (a : BitVec 32) : (v32 a - 1) % 4294967296 = v32 (a - 1#32) := by
  unfold v32
  rw [BitVec.toNat_sub]
  have := a.isLt
  simp only [BitVec.toNat_ofNat]
  omega

theorem and1 (x : BitVec 32) : bits .and .u32 (v32 x) 1 = if x.getLsbD 0 then 1 else 0 := by
  have e : (1 : Int) = v32 1#32 := by decide +kernel
  conv => lhs; rw [e]
  rw [a32]
  unfold v32
  rw [BitVec.toNat_and, show (1#32).toNat = 1 from rfl, Nat.and_one_is_mod]
  have : x.getLsbD 0 = decide (x.toNat % 2 = 1) := by
    rw [BitVec.getLsbD, Nat.testBit_zero]
  rw [this]
  have := Nat.mod_two_eq_zero_or_one x.toNat
  rcases this with h | h <;> simp [h]
theorem rem2 (x : BitVec 32) : v32 x % 2 = if x.getLsbD 0 then 1 else 0 := by
  have : x.getLsbD 0 = decide (x.toNat % 2 = 1) := by rw [BitVec.getLsbD, Nat.testBit_zero]
  rw [this]
  unfold v32
  rcases Nat.mod_two_eq_zero_or_one x.toNat with h | h <;> simp [h] <;> omega
theorem half32 (x : BitVec 32) : v32 x / (2 : Int) = v32 (x >>> 1) := shr32 x 1 2 rfl
theorem and255 (x : BitVec 32) : bits .and .u32 (v32 x) 255 = v32 (x &&& 255#32) := a32 x 255#32
theorem n32m (a : BitVec 32) : bits .xor .u32 IntKind.u32.max (v32 a) = v32 (~~~ a) := n32 a
theorem mod32 (a : BitVec 32) : v32 a % 4294967296 = v32 a := by have := v32_lt a; omega
theorem conv32 (b : UInt8) : (b.toNat : Int) = v32 (BitVec.ofNat 32 b.toNat) := by
  have := b.toNat_lt
  unfold v32
  rw [BitVec.toNat_ofNat, Nat.mod_eq_of_lt (by omega)]
theorem shr_bit (x : BitVec 32) (j : Nat) : (v32 x / 2 ^ j).tmod 2 = if x.getLsbD j then 1 else 0 := by
  have h := shr32 x j (2 ^ j) (by simp)
  rw [h, Int.tmod_eq_emod_of_nonneg (v32_lt _).1, rem2, BitVec.getLsbD_ushiftRight, Nat.add_zero]
theorem tdiv2 (x : BitVec 32) : (v32 x).tdiv 2 % 4294967296 = v32 x / 2 := by
  have := v32_lt x
  rw [Int.tdiv_eq_ediv_of_nonneg this.1]
  omega
end Go.Proofs.Ytdmhcbbakgljoaa
