/- A disk, as chapter 3 has it: what lasts, what is in flight, the fuse, the power. No program is named here. -/
import Derived.WalkKit
namespace Go.Proofs.Ytdmhcbbakgljoaa
set_option linter.unusedVariables false
set_option linter.unusedSimpArgs false
/-- What a disk of the reference is: what lasts, sector by sector; what is in flight; the fuse; the power; how many blocks. -/
structure RS where
  S : List (List UInt8)
  L : List (Nat × List UInt8)
  left : Nat
  gone : Bool
  count : Nat
/-- Each block has its four sectors. -/
def Whole (st : RS) : Prop := st.S.length = 4 * st.count ∧ st.count ≤ 1024
def whyN (st : RS) (at_ : Int) : Int := if st.gone then 9 else if at_ < 0 ∨ (st.count : Int) ≤ at_ then 6 else 0
/-- The fuse. -/
def burn (st : RS) : Bool × RS := if st.left = 0 then (false, st) else if st.left = 1 then (true, { st with left := 0, gone := true }) else (false, { st with left := st.left - 1 })
def laid (S : List (List UInt8)) (s : Nat) (l : List UInt8) (n : Nat) : List (List UInt8) := S.set s (l.take n ++ (S.getD s []).drop n)
def settle (S : List (List UInt8)) (L : List (Nat × List UInt8)) : List (List UInt8) := L.foldl (fun S f => laid S f.1 f.2 64) S
theorem laid_len (S : List (List UInt8)) (s : Nat) (l : List UInt8) (n : Nat) : (laid S s l n).length = S.length := by simp [laid]
theorem settle_succ (S : List (List UInt8)) (L : List (Nat × List UInt8)) (k : Nat) (h : k < L.length) : settle S (L.take (k + 1)) = laid (settle S (L.take k)) L[k].1 L[k].2 64 := by
  unfold settle
  rw [List.take_succ_eq_append_getElem h, List.foldl_append]
  rfl
def barrier (st : RS) : Int × RS := if st.gone then (9, st) else if (burn st).1 then (9, (burn st).2) else (0, { (burn st).2 with S := settle (burn st).2.S (burn st).2.L, L := [] })
def tear (S : List (List UInt8)) (x : (Nat × List UInt8) × UInt8) : List (List UInt8) := if x.2.toNat = 0 then S else laid S x.1.1 x.1.2 (if x.2.toNat = 1 then 64 else (x.2.toNat - 2) % 65)
def torn (S : List (List UInt8)) (l : List ((Nat × List UInt8) × UInt8)) : List (List UInt8) := l.foldl tear S
theorem torn_succ (S : List (List UInt8)) (l : List ((Nat × List UInt8) × UInt8)) (k : Nat) (h : k < l.length) : torn S (l.take (k + 1)) = tear (torn S (l.take k)) l[k] := by
  unfold torn
  rw [List.take_succ_eq_append_getElem h, List.foldl_append]
  rfl
def crash (st : RS) (picks : List UInt8) : RS := { S := torn st.S (st.L.zip picks), L := [], left := 0, gone := false, count := st.count }
def secOf (b : List UInt8) (k : Nat) : List UInt8 := (b.drop (64 * k)).take 64
def flies (at_ : Nat) (b : List UInt8) (n : Nat) : List (Nat × List UInt8) := (List.range n).map fun k => (4 * at_ + k, secOf b k)
theorem flies_succ (at_ : Nat) (b : List UInt8) (n : Nat) : flies at_ b (n + 1) = flies at_ b n ++ [(4 * at_ + n, secOf b n)] := by
  simp [flies, List.range_succ]
def write (st : RS) (at_ : Int) (b : List UInt8) : Int × RS :=
  if whyN st at_ ≠ 0 then (whyN st at_, st) else if b.length ≠ 256 then (1, st) else if (burn st).1 then (9, (burn st).2)
  else (0, { (burn st).2 with L := (burn st).2.L ++ flies at_.toNat b 4 })
def lastOf (k : Nat) (b : List UInt8) (L : List (Nat × List UInt8)) : List UInt8 := L.foldl (fun b f => if f.1 = k then f.2 else b) b
theorem lastOf_succ (k : Nat) (b : List UInt8) (L : List (Nat × List UInt8)) (i : Nat) (h : i < L.length) : lastOf k b (L.take (i + 1)) = if L[i].1 = k then L[i].2 else lastOf k b (L.take i) := by
  unfold lastOf
  rw [List.take_succ_eq_append_getElem h, List.foldl_append]
  rfl
/-- A sector as it is read. -/
def cur (st : RS) (k : Nat) : List UInt8 := lastOf k (st.S.getD k []) st.L
def reads (st : RS) (at_ n : Nat) : List UInt8 := (List.range n).flatMap fun j => cur st (4 * at_ + j)
theorem reads_succ (st : RS) (at_ n : Nat) : reads st at_ (n + 1) = reads st at_ n ++ cur st (4 * at_ + n) := by simp [reads, List.range_succ]
end Go.Proofs.Ytdmhcbbakgljoaa
