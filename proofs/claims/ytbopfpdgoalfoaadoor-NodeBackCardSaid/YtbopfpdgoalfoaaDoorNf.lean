/- What bytes say of a node; the reference: Take. -/
import Derived.Test.YtbopfpdgoalfoaaDoorNe
namespace Go.Proofs.YtbopfpdgoalfoaaDoor
open Go.RowKit
set_option linter.unusedVariables false
set_option linter.unusedSimpArgs false
attribute [local go_sem ↓] Go.wp_at_zero Go.wp_at_succ

/-- A key that is not above the last one. -/
def lowK (K : List Nat) (x : Nat) : Bool := match K.getLast? with
  | none => false
  | some z => decide (x ≤ z)
mutual
/-- c pairs more are to come, behind K and V. -/
def takeK : Nat → List Nat → List Nat → List UInt8 → Int × List Nat × List Nat
  | 0, K, V, l => if l.all (· == 0) then (0, K, V) else (5, [], [])
  | c + 1, K, V, l => if l.length < 8 then (4, [], []) else if lowK K (val (l.take 8)) then (5, [], []) else takeV c (K ++ [val (l.take 8)]) V (l.drop 8)
/-- A value is to come, and c pairs behind it. -/
def takeV : Nat → List Nat → List Nat → List UInt8 → Int × List Nat × List Nat
  | c, K, V, l => if l.length < 8 then (4, [], []) else if val (l.take 8) = 0 then (5, [], []) else takeK c K (V ++ [val (l.take 8)]) (l.drop 8)
end
/-- What bytes say: an error, or a leaf or not, keys, values. -/
def takeN (l : List UInt8) : Int × Bool × List Nat × List Nat := match l with
  | [] => (4, false, [], [])
  | a :: r => if a ≠ 0 ∧ a ≠ 1 then (5, false, [], []) else match r with
    | [] => (4, false, [], [])
    | b :: s => if b.toNat = 0 ∨ 8 < b.toNat then (5, false, [], []) else if (takeK b.toNat [] [] s).1 = 0 then (0, decide (a = 1), (takeK b.toNat [] [] s).2) else ((takeK b.toNat [] [] s).1, false, [], [])
end Go.Proofs.YtbopfpdgoalfoaaDoor
