/- The contracts of bits.TrailingZeros32 and of package crc's steps. -/
import Derived.Test.YtkhaapoekaijlaaDoorRows
import Derived.Test.YtkhaapoekaijlaaDoorT
import Derived.Test.YtkhaapoekaijlaaDoorCr
import Derived.Deep.DeepCutAuto
namespace Go.Proofs.YtkhaapoekaijlaaDoor
open Go.RowKit
set_option linter.unusedVariables false
set_option linter.unusedSimpArgs false

/-- The number of Go's own table among the variables. -/
def tabG : Nat := 0
/-- Go's own table of the lowest bits, as its initialiser lays it. -/
def Tab (w : World) : Prop := ∀ k : Nat, k < 32 → w.cell? ⟨tabG, 2 ^ k * 125613361 % 4294967296 / 134217728, none⟩ = some (.int .u8 (k : Int))
theorem Tab.chg {S : List Nat} {w w' : World} (h : Tab w) (g : Chg S w w') (hn : tabG ∉ S) : Tab w' := fun k hk => g.cellv (h k hk) hn
theorem Tab.then {w w' : World} (h : Tab w) (g : Chg [] w w') : Tab w' := h.chg g (by simp)

theorem tz_key (x a : Nat) (hx : x < 4294967296) (hx0 : x ≠ 0) (hlow : x &&& (4294967296 - x) = a) :
    bits .and .u32 (x : Int) (-(x : Int) % 4294967296) * 125613361 % 4294967296 / 134217728 = ((a * 125613361 % 4294967296 / 134217728 : Nat) : Int) := by
  have e1 : -(x : Int) % 4294967296 = ((4294967296 - x : Nat) : Int) := by omega
  rw [e1, u32_and_nat x _ hx (by omega), hlow]
  omega
set_option maxHeartbeats 1000000 in
theorem tz_core (X : Int) (k idx : Nat) (w : World) (hx0 : (X == 0) = false) (key : bits .and .u32 X (-X % 4294967296) * 125613361 % 4294967296 / 134217728 = (idx : Int))
    (hi : idx < 32) (hk : k < 32) (hcell : w.cell? ⟨0, idx, none⟩ = some (.int .u8 k)) :
    Calls Tryd.prog 29 #[.int .u32 X] w fun e w' => e = .returned (.int .i64 k) ∧ w = w' := by
  go_enter Tryd.func29, Tryd.ntmps29
  go_wp2_with (simp only [key])
  go_ret
  exact ⟨rfl, rfl⟩
/-- bits.TrailingZeros32: the lowest bit's place. -/
theorem tz_any (x : BitVec 32) (w : World) (hT : Tab w) (h : x ≠ 0#32) (i : Nat) (hi : i = Lib.ctz 32 x.toNat) :
    Calls Tryd.prog 29 #[.int .u32 (v32 x)] w fun e w' => e = .returned (.int .i64 i) ∧ w = w' := by
  have hx0 : x.toNat ≠ 0 := fun e => h (BitVec.eq_of_toNat_eq (by simpa using e))
  obtain ⟨hlow, hk⟩ := Lib.lowest_bit 32 x.toNat hx0 x.isLt
  rw [← hi] at hlow hk
  exact tz_core (v32 x) i _ w (by unfold v32; simp; omega) (tz_key x.toNat _ x.isLt hx0 hlow) (by omega) hk (hT i hk)

theorem bit_odd (x : BitVec 32) (h : x.getLsbD 0 = true) : bits .xor .u32 (v32 x / 2) 2197175160 = v32 (bit x) := by
  have e : (2197175160 : Int) = v32 pol := by decide +kernel
  rw [half32, e, x32]
  unfold bit
  rw [h]; rfl
theorem bit_even (x : BitVec 32) (h : x.getLsbD 0 = false) : v32 x / 2 = v32 (bit x) := by
  rw [half32]
  unfold bit
  rw [h]; simp
theorem ret_u32 {a b : Int} (h : a = b) : Ending.returned (Value.int .u32 a) = .returned (.int .u32 b) := by rw [h]
theorem shifted_any (x : BitVec 32) (w : World) : Calls Tryd.prog 28 #[.int .u32 (v32 x)] w fun e w' => e = .returned (.int .u32 (v32 (bit x))) ∧ w = w' := by
  have h1 := and1 x
  cases hb : x.getLsbD 0
  · rw [hb] at h1
    simp only [Bool.false_eq_true, if_false] at h1
    go_enter Tryd.func28, Tryd.ntmps28
    go_wp2
    go_ret
    exact ⟨ret_u32 (bit_even x hb), rfl⟩
  · rw [hb] at h1
    simp only [if_true] at h1
    go_enter Tryd.func28, Tryd.ntmps28
    go_wp2
    go_ret
    exact ⟨ret_u32 (bit_odd x hb), rfl⟩
end Go.Proofs.YtkhaapoekaijlaaDoor
