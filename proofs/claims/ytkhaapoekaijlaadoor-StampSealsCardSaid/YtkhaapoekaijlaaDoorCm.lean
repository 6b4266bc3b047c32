/- CRC-32C as algebra over bits: one bit, so many bits, texts, products. No program is named here. -/
import Derived.Lib.TrailingZeros
namespace Go.Proofs.YtkhaapoekaijlaaDoor
set_option linter.unusedVariables false

def pol : BitVec 32 := 0x82f63b78#32
/-- One bit shifted out. -/
def bit (n : BitVec 32) : BitVec 32 := (n >>> 1) ^^^ (if n.getLsbD 0 then pol else 0#32)
/-- So many bits. -/
def it : Nat → BitVec 32 → BitVec 32
  | 0, x => x
  | n + 1, x => it n (bit x)
def tp (j : Nat) : BitVec 32 := BitVec.twoPow 32 j

theorem bxor_eq {a b : BitVec 32} (h : ∀ i, i < 32 → a.getLsbD i = b.getLsbD i) : a = b := BitVec.eq_of_getLsbD_eq h
theorem bit_get (n : BitVec 32) (i : Nat) (hi : i < 32) : (bit n).getLsbD i = (n.getLsbD (i + 1) ^^ (n.getLsbD 0 && pol.getLsbD i)) := by
  unfold bit
  rw [BitVec.getLsbD_xor, BitVec.getLsbD_ushiftRight, Nat.add_comm]
  cases n.getLsbD 0 <;> simp
theorem bit_xor (a b : BitVec 32) : bit (a ^^^ b) = bit a ^^^ bit b := by
  refine bxor_eq fun i hi => ?_
  rw [BitVec.getLsbD_xor, bit_get _ _ hi, bit_get _ _ hi, bit_get _ _ hi, BitVec.getLsbD_xor, BitVec.getLsbD_xor]
  cases a.getLsbD (i + 1) <;> cases b.getLsbD (i + 1) <;> cases a.getLsbD 0 <;> cases b.getLsbD 0 <;> cases pol.getLsbD i <;> rfl
theorem bit_zero : bit 0#32 = 0#32 := by decide +kernel
theorem bit_inj0 (x : BitVec 32) (h : bit x = 0#32) : x = 0#32 := by
  have hb : ∀ i, i < 32 → (x.getLsbD (i + 1) ^^ (x.getLsbD 0 && pol.getLsbD i)) = false := fun i hi => by
    rw [← bit_get x i hi, h]; simp
  have h0 : x.getLsbD 0 = false := by
    have := hb 31 (by decide)
    rw [show pol.getLsbD 31 = true by decide +kernel] at this
    simpa using this
  refine bxor_eq fun i hi => ?_
  cases i with
  | zero => rw [h0]; simp
  | succ i =>
    have := hb i (by omega)
    rw [h0] at this
    simpa using this
theorem it_xor : ∀ (n : Nat) (a b : BitVec 32), it n (a ^^^ b) = it n a ^^^ it n b
  | 0, _, _ => rfl
  | n + 1, a, b => by simp only [it, bit_xor]; exact it_xor n _ _
theorem it_add (m : Nat) : ∀ (n : Nat) (x : BitVec 32), it (m + n) x = it m (it n x)
  | 0, _ => rfl
  | n + 1, x => it_add m n (bit x)
theorem it_zero : ∀ n, it n 0#32 = 0#32
  | 0 => rfl
  | n + 1 => by simp only [it, bit_zero]; exact it_zero n
theorem it_inj0 : ∀ (n : Nat) (x : BitVec 32), it n x = 0#32 → x = 0#32
  | 0, _, h => h
  | n + 1, x, h => bit_inj0 x (it_inj0 n _ h)
theorem it_tp : ∀ j, j < 32 → it j (tp j) = 1#32 := by decide +kernel
theorem it_low : ∀ (k : Nat) (x : BitVec 32), (∀ j, j < k → x.getLsbD j = false) → it k x = x >>> k
  | 0, x, _ => by simp [it]
  | k + 1, x, h => by
    have hb : bit x = x >>> 1 := by unfold bit; rw [h 0 (by omega)]; simp
    simp only [it, hb]
    rw [it_low k (x >>> 1) (fun j hj => by rw [BitVec.getLsbD_ushiftRight, Nat.add_comm]; exact h (j + 1) (by omega)), ← BitVec.shiftRight_add, Nat.add_comm]
theorem it_byte (n : BitVec 32) : it 8 n = (n >>> 8) ^^^ it 8 (n &&& 255#32) := by
  have h : n = (n &&& ~~~255#32) ^^^ (n &&& 255#32) := by
    refine bxor_eq fun i hi => ?_
    rw [BitVec.getLsbD_xor, BitVec.getLsbD_and, BitVec.getLsbD_and, BitVec.getLsbD_not]
    cases n.getLsbD i <;> cases (255#32).getLsbD i <;> simp [hi]
  have hl : ∀ j, j < 8 → (255#32).getLsbD j = true := by decide +kernel
  have hh : ∀ j, j < 32 → 8 ≤ j → (255#32).getLsbD j = false := by decide +kernel
  have h8 : it 8 (n &&& ~~~255#32) = n >>> 8 := by
    rw [it_low 8 _ (fun j hj => by rw [BitVec.getLsbD_and, BitVec.getLsbD_not, hl j hj]; simp)]
    refine bxor_eq fun i hi => ?_
    rw [BitVec.getLsbD_ushiftRight, BitVec.getLsbD_ushiftRight, BitVec.getLsbD_and, BitVec.getLsbD_not]
    by_cases hi2 : 8 + i < 32
    · rw [hh _ hi2 (by omega)]; simp [hi2]
    · rw [BitVec.getLsbD_of_ge n _ (by omega)]; simp
  conv => lhs; rw [h]
  rw [it_xor, h8]

/-! ### linear functions -/
structure Lin (f : BitVec 32 → BitVec 32) : Prop where
  xor : ∀ a b, f (a ^^^ b) = f a ^^^ f b
theorem Lin.zero {f : BitVec 32 → BitVec 32} (h : Lin f) : f 0#32 = 0#32 := by
  have := h.xor 0#32 0#32
  rw [BitVec.xor_self, BitVec.xor_self] at this
  exact this
theorem Lin.it (n : Nat) : Lin (it n) := ⟨it_xor n⟩
theorem Lin.comp {f g : BitVec 32 → BitVec 32} (hf : Lin f) (hg : Lin g) : Lin (fun x => f (g x)) := ⟨fun a b => by rw [hg.xor, hf.xor]⟩
theorem tp_get (k i : Nat) (hi : i < 32) : (tp k).getLsbD i = decide (k = i) := by
  unfold tp
  rw [BitVec.getLsbD_twoPow]
  by_cases h : k = i
  · subst h; simp [hi]
  · simp [h]
theorem lin_ext {f g : BitVec 32 → BitVec 32} (hf : Lin f) (hg : Lin g) (h : ∀ j, j < 32 → f (tp j) = g (tp j)) (x : BitVec 32) : f x = g x := by
  suffices H : ∀ k, k ≤ 32 → ∀ x : BitVec 32, (∀ i, k ≤ i → i < 32 → x.getLsbD i = false) → f x = g x from H 32 (Nat.le_refl _) x (fun i h1 h2 => absurd h1 (by omega))
  intro k
  induction k with
  | zero =>
    intro _ x hx
    have : x = 0#32 := bxor_eq fun i hi => by rw [hx i (Nat.zero_le _) hi]; simp
    rw [this, hf.zero, hg.zero]
  | succ k ih =>
    intro hk x hx
    cases hb : x.getLsbD k with
    | false => exact ih (by omega) x (fun i h1 h2 => by rcases Nat.eq_or_lt_of_le h1 with h | h; · rw [← h]; exact hb
                                                        · exact hx i h h2)
    | true =>
      have e : x = (x ^^^ tp k) ^^^ tp k := by rw [BitVec.xor_assoc, BitVec.xor_self, BitVec.xor_zero]
      rw [e, hf.xor, hg.xor, h k (by omega), ih (by omega) (x ^^^ tp k) (fun i h1 h2 => ?_)]
      rw [BitVec.getLsbD_xor, tp_get k i h2]
      rcases Nat.eq_or_lt_of_le h1 with h | h
      · subst h; rw [hb]; simp
      · rw [hx i h h2]; simp; omega

/-! ### texts -/
def stp (s : BitVec 32) (b : UInt8) : BitVec 32 := it 8 (s ^^^ BitVec.ofNat 32 b.toNat)
def raw (s : BitVec 32) (l : List UInt8) : BitVec 32 := l.foldl stp s
def more (s : BitVec 32) (l : List UInt8) : BitVec 32 := ~~~ raw (~~~ s) l
def csum (l : List UInt8) : BitVec 32 := more 0#32 l
theorem raw_append (s : BitVec 32) (l m : List UInt8) : raw s (l ++ m) = raw (raw s l) m := List.foldl_append
theorem stp_xor (s d : BitVec 32) (b : UInt8) : stp (s ^^^ d) b = stp s b ^^^ it 8 d := by
  unfold stp
  rw [← it_xor]
  congr 1
  rw [BitVec.xor_assoc, BitVec.xor_comm d, ← BitVec.xor_assoc]
theorem raw_xor : ∀ (l : List UInt8) (s d : BitVec 32), raw (s ^^^ d) l = raw s l ^^^ it (8 * l.length) d
  | [], _, _ => rfl
  | x :: l, s, d => by
    show raw (stp (s ^^^ d) x) l = raw (stp s x) l ^^^ _
    rw [stp_xor, raw_xor l, ← it_add, List.length_cons, Nat.mul_add]
theorem not_xor (a b : BitVec 32) : ~~~ (a ^^^ b) = ~~~ a ^^^ b := by
  refine bxor_eq fun i hi => ?_
  simp only [BitVec.getLsbD_not, BitVec.getLsbD_xor, hi, decide_true, Bool.true_and]
  cases a.getLsbD i <;> cases b.getLsbD i <;> rfl
theorem more_append (s : BitVec 32) (l m : List UInt8) : more s (l ++ m) = more (more s l) m := by
  unfold more
  rw [raw_append, BitVec.not_not]
theorem more_join (s : BitVec 32) (m : List UInt8) : more s m = it (8 * m.length) s ^^^ csum m := by
  unfold csum more
  have h : ~~~ s = ~~~ 0#32 ^^^ s := by rw [← not_xor, BitVec.zero_xor]
  rw [h, raw_xor, not_xor, BitVec.xor_comm]
theorem csum_append (l m : List UInt8) : csum (l ++ m) = it (8 * m.length) (csum l) ^^^ csum m := by
  rw [csum, more_append, more_join]; rfl

/-! ### bits that are turned -/
def flipAt (l : List UInt8) (k : Nat) : List UInt8 := l.set (k / 8) (l.getD (k / 8) 0 ^^^ UInt8.ofNat (2 ^ (k % 8)))
theorem flip_len (l : List UInt8) (k : Nat) : (flipAt l k).length = l.length := by simp [flipAt]
theorem ofNat_tp : ∀ k, k < 8 → BitVec.ofNat 32 (UInt8.ofNat (2 ^ k)).toNat = tp k := by decide +kernel
theorem ofNat_xor (a b : UInt8) : BitVec.ofNat 32 (a ^^^ b).toNat = BitVec.ofNat 32 a.toNat ^^^ BitVec.ofNat 32 b.toNat := by
  rw [UInt8.toNat_xor]
  exact BitVec.ofNat_xor
theorem stp_flip (s : BitVec 32) (x : UInt8) (k : Nat) (hk : k < 8) : stp s (x ^^^ UInt8.ofNat (2 ^ k)) = stp s x ^^^ it (8 - k) 1#32 := by
  unfold stp
  rw [ofNat_xor, ← BitVec.xor_assoc, it_xor, ofNat_tp k hk]
  congr 1
  rw [show 8 = (8 - k) + k by omega, it_add, it_tp k (by omega)]
  congr 1
  omega
theorem raw_flip : ∀ (l : List UInt8) (s : BitVec 32) (k : Nat), k < 8 * l.length → raw s (flipAt l k) = raw s l ^^^ it (8 * l.length - k) 1#32
  | [], _, k, h => by simp at h
  | x :: l, s, k, h => by
    rw [List.length_cons] at h
    by_cases hk : k < 8
    · have e : flipAt (x :: l) k = (x ^^^ UInt8.ofNat (2 ^ k)) :: l := by
        unfold flipAt
        rw [Nat.div_eq_of_lt hk, Nat.mod_eq_of_lt hk]
        rfl
      rw [e]
      show raw (stp s _) l = raw (stp s x) l ^^^ _
      rw [stp_flip s x k hk, raw_xor, ← it_add]
      congr 2
      rw [List.length_cons]; omega
    · have e : flipAt (x :: l) k = x :: flipAt l (k - 8) := by
        unfold flipAt
        have h1 : k / 8 = (k - 8) / 8 + 1 := by omega
        have h2 : k % 8 = (k - 8) % 8 := by omega
        rw [h1, h2]
        rfl
      rw [e]
      show raw (stp s x) _ = raw (stp s x) l ^^^ _
      rw [raw_flip l _ (k - 8) (by omega), List.length_cons]
      congr 2
      omega
theorem not_inj {a b : BitVec 32} (h : ~~~ a = ~~~ b) : a = b := by
  have := congrArg (fun x => ~~~ x) h
  simpa [BitVec.not_not] using this
/-- What CrcTells keeps: which bits have been turned, as a number. -/
structure Turned (b : List UInt8) (first : Nat) (i : Nat) (own : List UInt8) (M : BitVec 32) : Prop where
  len : own.length = b.length
  low : ∀ j, j < 32 → i ≤ j → M.getLsbD j = false
  sum : raw (~~~ 0#32) own = raw (~~~ 0#32) b ^^^ it (8 * b.length - first) M
  same : M = 0#32 → own = b
theorem Turned.start (b : List UInt8) (first : Nat) : Turned b first 0 b 0#32 :=
  ⟨rfl, fun _ _ _ => by simp, by rw [it_zero, BitVec.xor_zero], fun _ => rfl⟩
theorem Turned.skip {b : List UInt8} {first i : Nat} {own : List UInt8} {M : BitVec 32} (h : Turned b first i own M) : Turned b first (i + 1) own M :=
  ⟨h.len, fun j hj hi => h.low j hj (by omega), h.sum, h.same⟩
theorem Turned.flip {b : List UInt8} {first i : Nat} {own : List UInt8} {M : BitVec 32} (h : Turned b first i own M) (hi : i < 32) (hk : first + i < 8 * b.length) : Turned b first (i + 1) (flipAt own (first + i)) (M ^^^ tp i) := by
  refine ⟨by rw [flip_len, h.len], fun j hj hi2 => ?_, ?_, fun hm => ?_⟩
  · rw [BitVec.getLsbD_xor, h.low j hj (by omega), tp_get i j hj]; simp; omega
  · rw [raw_flip own _ _ (by rw [h.len]; exact hk), h.sum, it_xor, BitVec.xor_assoc]
    congr 2
    rw [h.len, show 8 * b.length - first = (8 * b.length - (first + i)) + i by omega, it_add _ i, it_tp i hi]
  · have := congrArg (fun x : BitVec 32 => x.getLsbD i) hm
    simp only [BitVec.getLsbD_xor, h.low i hi (Nat.le_refl _), tp_get i i hi] at this
    simp at this
theorem Turned.tells {b : List UInt8} {first i : Nat} {own : List UInt8} {M : BitVec 32} (h : Turned b first i own M) : (csum own = csum b) ↔ (own = b) := by
  refine ⟨fun he => h.same (it_inj0 (8 * b.length - first) M ?_), fun he => by rw [he]⟩
  have hr : raw (~~~ 0#32) own = raw (~~~ 0#32) b := not_inj he
  rw [h.sum] at hr
  have := congrArg (fun x => raw (~~~ 0#32) b ^^^ x) hr
  simpa [← BitVec.xor_assoc, BitVec.xor_self, BitVec.zero_xor] using this

/-! ### three texts combined -/
def zip3 : List UInt8 → List UInt8 → List UInt8 → List UInt8
  | x :: a, y :: b, z :: c => (x ^^^ y ^^^ z) :: zip3 a b c
  | _, _, _ => []
theorem raw_zip : ∀ (a b c : List UInt8) (r s t : BitVec 32), a.length = b.length → b.length = c.length → raw (r ^^^ s ^^^ t) (zip3 a b c) = raw r a ^^^ raw s b ^^^ raw t c
  | [], [], [], _, _, _, _, _ => rfl
  | x :: a, y :: b, z :: c, r, s, t, h1, h2 => by
    show raw (stp (r ^^^ s ^^^ t) (x ^^^ y ^^^ z)) (zip3 a b c) = raw (stp r x) a ^^^ raw (stp s y) b ^^^ raw (stp t z) c
    rw [← raw_zip a b c _ _ _ (by simpa using h1) (by simpa using h2)]
    congr 1
    unfold stp
    rw [← it_xor, ← it_xor, ofNat_xor, ofNat_xor]
    congr 1
    refine bxor_eq fun i hi => ?_
    simp only [BitVec.getLsbD_xor]
    cases r.getLsbD i <;> cases s.getLsbD i <;> cases t.getLsbD i <;> simp <;> cases (BitVec.ofNat 32 x.toNat).getLsbD i <;> cases (BitVec.ofNat 32 y.toNat).getLsbD i <;> cases (BitVec.ofNat 32 z.toNat).getLsbD i <;> rfl
  | [], _ :: _, _, _, _, _, h1, _ => by simp at h1
  | _ :: _, [], _, _, _, _, h1, _ => by simp at h1
  | [], [], _ :: _, _, _, _, _, h2 => by simp at h2
  | _ :: _, _ :: _, [], _, _, _, _, h2 => by simp at h2
theorem csum_zip (a b c : List UInt8) (h1 : a.length = b.length) (h2 : b.length = c.length) : csum (zip3 a b c) = csum a ^^^ csum b ^^^ csum c := by
  unfold csum more
  have e : ~~~ 0#32 = ~~~ 0#32 ^^^ ~~~ 0#32 ^^^ ~~~ 0#32 := by decide +kernel
  conv => lhs; rw [e]
  rw [raw_zip a b c _ _ _ h1 h2]
  refine bxor_eq fun i hi => ?_
  simp only [BitVec.getLsbD_not, BitVec.getLsbD_xor, hi, decide_true, Bool.true_and]
  cases (raw (~~~ 0#32) a).getLsbD i <;> cases (raw (~~~ 0#32) b).getLsbD i <;> cases (raw (~~~ 0#32) c).getLsbD i <;> rfl

/-! ### products -/
def tm (a : BitVec 32) : Nat → BitVec 32 → BitVec 32
  | 0, _ => 0#32
  | k + 1, b => (if a.getLsbD k then b else 0#32) ^^^ tm a k (bit b)
def one : BitVec 32 := tp 31
theorem xor4 (a b c d : BitVec 32) : (a ^^^ b) ^^^ (c ^^^ d) = (a ^^^ c) ^^^ (b ^^^ d) := by
  rw [BitVec.xor_assoc, ← BitVec.xor_assoc b, BitVec.xor_comm b c, BitVec.xor_assoc c, ← BitVec.xor_assoc]
theorem tm_xor_right (a : BitVec 32) : ∀ (k : Nat) (x y : BitVec 32), tm a k (x ^^^ y) = tm a k x ^^^ tm a k y
  | 0, _, _ => by simp [tm]
  | k + 1, x, y => by
    simp only [tm]
    rw [bit_xor, tm_xor_right a k, xor4]
    congr 1
    cases a.getLsbD k <;> simp
theorem tm_xor_left (a c : BitVec 32) : ∀ (k : Nat) (x : BitVec 32), tm (a ^^^ c) k x = tm a k x ^^^ tm c k x
  | 0, _ => by simp [tm]
  | k + 1, x => by
    simp only [tm]
    rw [tm_xor_left a c k, xor4]
    congr 1
    rw [BitVec.getLsbD_xor]
    cases a.getLsbD k <;> cases c.getLsbD k <;> simp
theorem tm_bit (a : BitVec 32) : ∀ (k : Nat) (x : BitVec 32), tm a k (bit x) = bit (tm a k x)
  | 0, _ => bit_zero.symm
  | k + 1, x => by
    simp only [tm]
    rw [tm_bit a k, bit_xor]
    congr 1
    cases a.getLsbD k
    · exact bit_zero.symm
    · rfl
theorem tm_it (a : BitVec 32) (k : Nat) : ∀ (n : Nat) (x : BitVec 32), tm a k (it n x) = it n (tm a k x)
  | 0, _ => rfl
  | n + 1, x => by simp only [it]; rw [tm_it a k n, tm_bit]
theorem tm_one (a : BitVec 32) : tm a 32 one = a :=
  lin_ext (f := fun a => tm a 32 one) (g := fun a => a) ⟨fun a b => tm_xor_left a b 32 one⟩ ⟨fun _ _ => rfl⟩ (by decide +kernel) a
theorem tp_it : ∀ j, j < 32 → tp j = it (31 - j) one := by decide +kernel
theorem tm_comm (a b : BitVec 32) : tm a 32 b = tm b 32 a := by
  refine lin_ext (f := fun a => tm a 32 b) (g := fun a => tm b 32 a) ⟨fun x y => tm_xor_left x y 32 b⟩ ⟨tm_xor_right b 32⟩ (fun j hj => ?_) a
  show tm (tp j) 32 b = tm b 32 (tp j)
  refine lin_ext (f := fun b => tm (tp j) 32 b) (g := fun b => tm b 32 (tp j)) ⟨tm_xor_right _ 32⟩ ⟨fun x y => tm_xor_left x y 32 _⟩ (fun i hi => ?_) b
  show tm (tp j) 32 (tp i) = tm (tp i) 32 (tp j)
  rw [tp_it i hi, tp_it j hj, tm_it, tm_it, tm_one, tm_one, ← it_add, ← it_add, Nat.add_comm]
theorem tm_pow (m : Nat) (a : BitVec 32) : tm (it m one) 32 a = it m a := by
  rw [tm_comm, tm_it, tm_one]

/-! ### the lowest bit -/
theorem low_bit (x : BitVec 32) (h : x ≠ 0#32) : ∃ i, i = Lib.ctz 32 x.toNat ∧ i < 32 ∧ x &&& (x - 1#32) = x ^^^ tp i ∧ (x ^^^ tp i).toNat < x.toNat := by
  have hx : x.toNat ≠ 0 := fun e => h (BitVec.eq_of_toNat_eq (by simpa using e))
  have hlt : x.toNat < 2 ^ 32 := x.isLt
  have hc : Lib.ctz 32 x.toNat = Lib.ctzFrom 32 x.toNat := by unfold Lib.ctz; rw [if_neg hx]
  obtain ⟨m, hm, hi⟩ := Lib.ctzFrom_spec 32 x.toNat (by omega) hlt
  rw [← hc] at hm hi
  obtain ⟨i, hi'⟩ : ∃ i, i = Lib.ctz 32 x.toNat := ⟨_, rfl⟩
  rw [← hi'] at hm hi
  have hp : 0 < 2 ^ i := Nat.pow_pos (by decide)
  have e1 : x.toNat = 2 ^ (i + 1) * m + 2 ^ i := by rw [hm, Nat.pow_succ, Nat.mul_add, Nat.mul_one, ← Nat.mul_assoc]
  have hps : 2 ^ i < 2 ^ (i + 1) := by rw [Nat.pow_succ]; omega
  have etp : (tp i).toNat = 2 ^ i := by
    unfold tp
    rw [BitVec.toNat_twoPow, Nat.mod_eq_of_lt]
    exact Nat.pow_lt_pow_right (by decide) hi
  have e2 : (x - 1#32).toNat = 2 ^ (i + 1) * m + (2 ^ i - 1) := by
    rw [BitVec.toNat_sub]
    simp only [BitVec.toNat_ofNat]
    omega
  have hxor : (x ^^^ tp i).toNat = 2 ^ (i + 1) * m := by
    rw [BitVec.toNat_xor, etp, e1]
    refine Nat.eq_of_testBit_eq fun j => ?_
    rw [Nat.testBit_xor, Nat.testBit_two_pow_mul_add _ hps, Nat.testBit_two_pow_mul, Nat.testBit_two_pow]
    by_cases hj : j < i + 1
    · rw [if_pos hj]
      have : ¬ (i + 1 ≤ j) := by omega
      simp [this]
    · rw [if_neg hj]
      have h1 : i + 1 ≤ j := by omega
      have h2 : ¬ (i = j) := by omega
      simp [h1, h2]
  refine ⟨i, hi', hi, BitVec.eq_of_toNat_eq ?_, by rw [hxor, e1]; omega⟩
  rw [hxor, BitVec.toNat_and, e2, e1]
  refine Nat.eq_of_testBit_eq fun j => ?_
  rw [Nat.testBit_and, Nat.testBit_two_pow_mul_add _ hps, Nat.testBit_two_pow_mul_add _ (by omega : 2 ^ i - 1 < 2 ^ (i + 1)), Nat.testBit_two_pow_mul]
  by_cases hj : j < i + 1
  · rw [if_pos hj, if_pos hj, Nat.testBit_two_pow, Nat.testBit_two_pow_sub_one]
    have : ¬ (i + 1 ≤ j) := by omega
    simp [this]
    omega
  · rw [if_neg hj, if_neg hj]
    have h1 : i + 1 ≤ j := by omega
    simp [h1]
end Go.Proofs.YtkhaapoekaijlaaDoor
