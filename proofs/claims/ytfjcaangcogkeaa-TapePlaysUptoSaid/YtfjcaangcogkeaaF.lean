/- bytes.Compare; digits in their order. -/
import Derived.Test.YtfjcaangcogkeaaD
import Derived.Lib.Bytealg
import Derived.Lib.BytesEntry
namespace Go.Proofs.Ytfjcaangcogkeaa
open Go.RowKit
set_option linter.unusedVariables false

theorem toNat_toUInt8 (b : UInt8) : ((b.toNat : Int).toNat.toUInt8) = b := by simp
theorem run_bytesOf_k {P : Program} (w : World) (ao : Option Addr) (n c : Nat) (l : List UInt8) (h : Reads w ao (bts l)) (hn : l.length = n) :
    (Extern.Bytes.bytesOf (.slice ao n c)).run P w = .ok ⟨l.toArray⟩ w := by
  cases ao with
  | none =>
    have : l = [] := by
      cases hl : l with
      | nil => rfl
      | cons u r => obtain ⟨b, o, e, _⟩ := h (by rw [hl]; simp [bts]); cases e
    subst this
    simp [Extern.Bytes.bytesOf, ByteArray.empty, ByteArray.emptyWithCapacity]
    rfl
  | some ad =>
    have := Lib.run_loadBytesX (P := P) w (l.map fun b => (b.toNat : Int)) ad .empty (fun j x hj => h.addr ad rfl j (.int .u8 x) (by
      simp [bts] at hj ⊢
      obtain ⟨a, h1, h2⟩ := hj
      exact ⟨a, h1, by simp [h2]⟩))
    simp only [List.length_map, hn] at this
    simp only [Extern.Bytes.bytesOf]
    rw [this]
    congr 1
    have he : ((fun n : Int => UInt8.ofNat n.toNat) ∘ fun b : UInt8 => (b.toNat : Int)) = id := by funext b; simp
    simp [Lib.bytesOf, ByteArray.empty, ByteArray.emptyWithCapacity, he]
    rfl
theorem compare_any (ao : Option Addr) (n c : Nat) (l : List UInt8) (bo : Option Addr) (m d : Nat) (k : List UInt8) (w : World) (h1 : Reads w ao (bts l)) (hn : l.length = n) (h2 : Reads w bo (bts k)) (hm : k.length = m) :
    Calls Try.prog 27 #[.slice ao n c, .slice bo m d] w fun e w' => e = .returned (.int .i64 (Lib.compareBytes l k)) ∧ w = w' := by
  have r1 := run_bytesOf_k (P := Try.prog) w ao n c l h1 hn
  have r2 := run_bytesOf_k (P := Try.prog) w bo m d k h2 hm
  have hx : (Extern.BytealgCompare.compare #[.slice ao n c, .slice bo m d]).run Try.prog w = .ok (.int .i64 (Lib.compareBytes l k)) w := by
    change Sem.run Try.prog (do pure (goInt (Extern.BytealgCompare.cmp (← Extern.Bytes.bytesOf (.slice ao n c)) (← Extern.Bytes.bytesOf (.slice bo m d))))) w = _
    simp only [Sem.run_bind, r1, r2, Sem.run_pure, Result.andThen]
    rw [Lib.cmp_eq]
    rfl
  have hcf : ∀ args w, (callFunc 31 args).run Try.prog w = ((Extern.BytealgCompare.compare args).run Try.prog w).andThen fun v w' => .ok (.value v) w' :=
    run_callFunc_extern (P := Try.prog) Try.func31 (by kernel_rfl) (by kernel_rfl) (by kernel_rfl) (e := Extern.BytealgCompare.compare) (by kernel_rfl)
  go_enter Try.func27, Try.ntmps27
  go_wp2
  go_ret
  exact ⟨rfl, rfl⟩

theorem be_mod (N k j : Nat) (h : k ≤ j) : be (N % 256 ^ j) k = be N k := by
  induction k with
  | zero => rfl
  | succ k ih =>
    rw [be, be, ih (by omega)]
    congr 1
    apply UInt8.toNat_inj.1
    simp only [UInt8.toNat_ofNat']
    have hj : 256 ^ j = 256 ^ k * 256 ^ (j - k) := by rw [← Nat.pow_add]; congr 1; omega
    have hd : (256 : Nat) ∣ 256 ^ (j - k) := ⟨256 ^ (j - k - 1), by rw [← Nat.pow_succ']; congr 1; omega⟩
    rw [hj, Nat.mod_mul_right_div_self, Nat.mod_mod_of_dvd _ hd]
theorem val_cons (x : UInt8) (l : List UInt8) : val (x :: l) = x.toNat * 256 ^ l.length + val l := by
  have := foldl_val l (0 * 256 + x.toNat)
  simp only [val, List.foldl_cons] at this ⊢
  rw [this]; simp
theorem val_be (N k : Nat) : val (be N k) = N % 256 ^ k := by
  induction k with
  | zero => simp [be, val, Nat.mod_one]
  | succ k ih =>
    rw [be, val_cons, ih, be_length, Nat.pow_succ, Nat.mod_mul]
    simp [Nat.mul_comm, Nat.add_comm]
theorem be_inj (N M k : Nat) : be N k = be M k ↔ N % 256 ^ k = M % 256 ^ k := by
  constructor
  · intro h
    rw [← val_be, ← val_be, h]
  · intro h
    rw [← be_mod N k k (Nat.le_refl _), h, be_mod M k k (Nat.le_refl _)]
theorem compare_be (N M k : Nat) : Lib.compareBytes (be N k) (be M k) < 0 ↔ N % 256 ^ k < M % 256 ^ k := by
  induction k with
  | zero => simp [be, Lib.compareBytes, Nat.mod_one]
  | succ k ih =>
    have hN : N % 256 ^ (k + 1) = N % 256 ^ k + 256 ^ k * (N / 256 ^ k % 256) := by rw [Nat.pow_succ, Nat.mod_mul]
    have hM : M % 256 ^ (k + 1) = M % 256 ^ k + 256 ^ k * (M / 256 ^ k % 256) := by rw [Nat.pow_succ, Nat.mod_mul]
    have h0 : 0 < 256 ^ k := Nat.pow_pos (by decide)
    have h1 := Nat.mod_lt N h0
    have h2 := Nat.mod_lt M h0
    rw [be, be, Lib.compareBytes, hN, hM]
    have ha : (UInt8.ofNat (N / 256 ^ k)).toNat = N / 256 ^ k % 256 := by simp
    have hb : (UInt8.ofNat (M / 256 ^ k)).toNat = M / 256 ^ k % 256 := by simp
    simp only [UInt8.lt_iff_toNat_lt, ha, hb]
    generalize N / 256 ^ k % 256 = a
    generalize M / 256 ^ k % 256 = b
    generalize N % 256 ^ k = x at *
    generalize M % 256 ^ k = y at *
    generalize 256 ^ k = q at *
    by_cases hab : a < b
    · rw [if_pos hab]
      have : q * (a + 1) ≤ q * b := Nat.mul_le_mul_left _ hab
      rw [Nat.mul_add] at this
      constructor
      · intro _; omega
      · intro _; decide
    · rw [if_neg hab]
      by_cases hba : b < a
      · rw [if_pos hba]
        have : q * (b + 1) ≤ q * a := Nat.mul_le_mul_left _ hba
        rw [Nat.mul_add] at this
        constructor
        · intro h; exact absurd h (by decide)
        · intro _; omega
      · rw [if_neg hba, ih]
        have e : a = b := by omega
        subst e
        omega
end Go.Proofs.Ytfjcaangcogkeaa
