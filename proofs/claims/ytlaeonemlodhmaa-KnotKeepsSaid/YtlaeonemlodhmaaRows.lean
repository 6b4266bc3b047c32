/-
  No cell of these rows narrows 'for every input' (looked for: loops, veiled, ifaces, maps, wideKeys, modest, calm, conditions, laid).
  DERIVED. THE GIVEN ROWS OF THIS SEAT. 6 by the template 'for every input the law returns true; each argument reads behind the call as it read before'; 0 by the template 'total and deterministic' (their statements: YtlaeonemlodhmaaTotals.lean).
  GIVEN WITH THE SEED: the statements are not yours to turn. If you find one false, say at which input.
  Laid BY PROGRAM, IN A SANDBOX (cutbox-rows.mjs): the forced cells as the released guide's own fill.sh prints them over the translation e05ce1988686e78d… (all of the seat's roots in one cut). By AI agents, Wed Nov 11 2026. No macro, syntax, notation, axiom, sorry.
-/
import Derived.Test.YtlaeonemlodhmaaChecked
import GoSem.Claim
import GoSem.ClaimJoined
import GoSem.ClaimMapViews
import Derived.JoinedTies
import Derived.KernelRfl
namespace Go.Proofs.Ytlaeonemlodhmaa
/- THE CELL 'sum', in the pinned program and in every row, IS THE sha256 OF THE DUMP (.gsa) THAT YtlaeonemlodhmaaProg.lean LOADS. Nothing in Lean hashes anything: it is a label: what it is worth is what the hold of that sum in a sandbox is worth. -/
noncomputable def Try.pinned : Pinned := { name := "ytlaeonemlodhmaa", sum := "e05ce1988686e78d4a2679f2aecd51aafbdf11d4863b978598b4e30aed4cef24", checked := Try.checked }
namespace Rows
def none {H : Type} : Left H := { results := [], args := [] }

/-- 'cisternlaw10.KnotFinds': WHATEVER THE INPUT: true; the input reads as it did. -/
def knotFindsSpec : ChangeSpec := { name := "knotFinds", fn := fun _ => fun
  | [d1, d2] => { results := [.lit (.bool true)], args := [d1, d2] }
  | _ => none }
def knotFindsRow : OpenClaim := { program := "ytlaeonemlodhmaa", sum := "e05ce1988686e78d4a2679f2aecd51aafbdf11d4863b978598b4e30aed4cef24", func := "cistern/cisternlaw10.KnotFinds", spec := "knotFinds", unfollowed := true, recurses := true, apart := false }
def KnotFindsSaid : Prop := knotFindsRow.holds Try.pinned (OpenSpec.ofChange knotFindsSpec)

/-- ITS FALSE NEIGHBOUR: 'it returns false'. Refute it at one input. -/
def knotFindsWrong : ChangeSpec := { name := "knotFinds", fn := fun _ => fun
  | [d1, d2] => { results := [.lit (.bool false)], args := [d1, d2] }
  | _ => none }
def KnotFindsWrongFalsely : Prop := knotFindsRow.holds Try.pinned (OpenSpec.ofChange knotFindsWrong)

/-- 'cisternlaw10.KnotChanges': WHATEVER THE INPUT: true; the input reads as it did. -/
def knotChangesSpec : ChangeSpec := { name := "knotChanges", fn := fun _ => fun
  | [d1, d2] => { results := [.lit (.bool true)], args := [d1, d2] }
  | _ => none }
def knotChangesRow : OpenClaim := { program := "ytlaeonemlodhmaa", sum := "e05ce1988686e78d4a2679f2aecd51aafbdf11d4863b978598b4e30aed4cef24", func := "cistern/cisternlaw10.KnotChanges", spec := "knotChanges", unfollowed := true, recurses := true, apart := false }
def KnotChangesSaid : Prop := knotChangesRow.holds Try.pinned (OpenSpec.ofChange knotChangesSpec)

/-- ITS FALSE NEIGHBOUR: 'it returns false'. Refute it at one input. -/
def knotChangesWrong : ChangeSpec := { name := "knotChanges", fn := fun _ => fun
  | [d1, d2] => { results := [.lit (.bool false)], args := [d1, d2] }
  | _ => none }
def KnotChangesWrongFalsely : Prop := knotChangesRow.holds Try.pinned (OpenSpec.ofChange knotChangesWrong)

/-- 'cisternlaw10.KnotParts': WHATEVER THE INPUT: true; the input reads as it did. -/
def knotPartsSpec : ChangeSpec := { name := "knotParts", fn := fun _ => fun
  | [d1, d2] => { results := [.lit (.bool true)], args := [d1, d2] }
  | _ => none }
def knotPartsRow : OpenClaim := { program := "ytlaeonemlodhmaa", sum := "e05ce1988686e78d4a2679f2aecd51aafbdf11d4863b978598b4e30aed4cef24", func := "cistern/cisternlaw10.KnotParts", spec := "knotParts", unfollowed := true, recurses := true, apart := false }
def KnotPartsSaid : Prop := knotPartsRow.holds Try.pinned (OpenSpec.ofChange knotPartsSpec)

/-- ITS FALSE NEIGHBOUR: 'it returns false'. Refute it at one input. -/
def knotPartsWrong : ChangeSpec := { name := "knotParts", fn := fun _ => fun
  | [d1, d2] => { results := [.lit (.bool false)], args := [d1, d2] }
  | _ => none }
def KnotPartsWrongFalsely : Prop := knotPartsRow.holds Try.pinned (OpenSpec.ofChange knotPartsWrong)

/-- 'cisternlaw10.KnotKeeps': WHATEVER THE INPUT: true; the input reads as it did. -/
def knotKeepsSpec : ChangeSpec := { name := "knotKeeps", fn := fun _ => fun
  | [d1, d2] => { results := [.lit (.bool true)], args := [d1, d2] }
  | _ => none }
def knotKeepsRow : OpenClaim := { program := "ytlaeonemlodhmaa", sum := "e05ce1988686e78d4a2679f2aecd51aafbdf11d4863b978598b4e30aed4cef24", func := "cistern/cisternlaw10.KnotKeeps", spec := "knotKeeps", unfollowed := true, recurses := true, apart := false }
def KnotKeepsSaid : Prop := knotKeepsRow.holds Try.pinned (OpenSpec.ofChange knotKeepsSpec)

/-- ITS FALSE NEIGHBOUR: 'it returns false'. Refute it at one input. -/
def knotKeepsWrong : ChangeSpec := { name := "knotKeeps", fn := fun _ => fun
  | [d1, d2] => { results := [.lit (.bool false)], args := [d1, d2] }
  | _ => none }
def KnotKeepsWrongFalsely : Prop := knotKeepsRow.holds Try.pinned (OpenSpec.ofChange knotKeepsWrong)

/-- 'cisternlaw10.KnotHalves': WHATEVER THE INPUT: true; the input reads as it did. -/
def knotHalvesSpec : ChangeSpec := { name := "knotHalves", fn := fun _ => fun
  | [d1, d2] => { results := [.lit (.bool true)], args := [d1, d2] }
  | _ => none }
def knotHalvesRow : OpenClaim := { program := "ytlaeonemlodhmaa", sum := "e05ce1988686e78d4a2679f2aecd51aafbdf11d4863b978598b4e30aed4cef24", func := "cistern/cisternlaw10.KnotHalves", spec := "knotHalves", unfollowed := true, recurses := true, apart := false }
def KnotHalvesSaid : Prop := knotHalvesRow.holds Try.pinned (OpenSpec.ofChange knotHalvesSpec)

/-- ITS FALSE NEIGHBOUR: 'it returns false'. Refute it at one input. -/
def knotHalvesWrong : ChangeSpec := { name := "knotHalves", fn := fun _ => fun
  | [d1, d2] => { results := [.lit (.bool false)], args := [d1, d2] }
  | _ => none }
def KnotHalvesWrongFalsely : Prop := knotHalvesRow.holds Try.pinned (OpenSpec.ofChange knotHalvesWrong)

/-- 'cisternlaw10.KnotKnown': WHATEVER THE INPUT: true; the input reads as it did. -/
def knotKnownSpec : ChangeSpec := { name := "knotKnown", fn := fun _ => fun
  | [] => { results := [.lit (.bool true)], args := [] }
  | _ => none }
def knotKnownRow : OpenClaim := { program := "ytlaeonemlodhmaa", sum := "e05ce1988686e78d4a2679f2aecd51aafbdf11d4863b978598b4e30aed4cef24", func := "cistern/cisternlaw10.KnotKnown", spec := "knotKnown", unfollowed := true, recurses := true, apart := false }
def KnotKnownSaid : Prop := knotKnownRow.holds Try.pinned (OpenSpec.ofChange knotKnownSpec)

/-- ITS FALSE NEIGHBOUR: 'it returns false'. Refute it at one input. -/
def knotKnownWrong : ChangeSpec := { name := "knotKnown", fn := fun _ => fun
  | [] => { results := [.lit (.bool false)], args := [] }
  | _ => none }
def KnotKnownWrongFalsely : Prop := knotKnownRow.holds Try.pinned (OpenSpec.ofChange knotKnownWrong)

/- THE SECOND FORM. 'bulk': how many values and letters a reading holds, each counted each time it is reached (what is shared counts as often as it is met; a slice's spare places count too). A statement '..UptoSaid' is the law's where the arguments, and the package variables that the reading takes, are together of bulk at most 1048576: NARROWER than '..Said'. Prove '..Said' where nothing that the law and all that it calls make is longer than what came in: it says more and counts as full. Else prove '..UptoSaid'. A law counts once. -/
mutual
def uptoBulk {H : Type} : DataW H → Nat
  | .lit (.string bytes) => bytes.length + 1
  | .lit _ => 1
  | .nil => 1
  | .ptr d => uptoBulk d + 1
  | .slice elems spare => uptoBulkAll elems + uptoBulkAll spare + 1
  | .agg parts => uptoBulkAll parts + 1
  | .iface _ d => uptoBulk d + 1
  | .map entries => uptoBulkEntries entries + 1
  | .held _ => 1
def uptoBulkAll {H : Type} : List (DataW H) → Nat
  | [] => 0
  | d :: r => uptoBulk d + uptoBulkAll r
def uptoBulkEntries {H : Type} : List (Lit × DataW H) → Nat
  | [] => 0
  | x :: r => uptoBulkEntry x + uptoBulkEntries r
def uptoBulkEntry {H : Type} : Lit × DataW H → Nat
  | (.string bytes, d) => bytes.length + uptoBulk d + 1
  | (_, d) => uptoBulk d + 1
 end
def uptoSmall : (H : Type) → List (DataW H) → Bool := fun _ ds => decide (uptoBulkAll ds ≤ 1048576)
def OpenSpec.upto (s : _root_.Go.ChangeSpec) : _root_.Go.OpenSpec := { _root_.Go.OpenSpec.ofChange s with cond := some uptoSmall }

/-- 'cisternlaw10.KnotFinds', WHERE WHAT IT READS IS OF BULK AT MOST 1048576: true; the input reads as it did. -/
def knotFindsUptoRow : OpenClaim := { program := "ytlaeonemlodhmaa", sum := "e05ce1988686e78d4a2679f2aecd51aafbdf11d4863b978598b4e30aed4cef24", func := "cistern/cisternlaw10.KnotFinds", spec := "knotFinds", unfollowed := true, recurses := true, apart := false, narrowed := true }
def KnotFindsUptoSaid : Prop := knotFindsUptoRow.holds Try.pinned (OpenSpec.upto knotFindsSpec)

/-- 'cisternlaw10.KnotChanges', WHERE WHAT IT READS IS OF BULK AT MOST 1048576: true; the input reads as it did. -/
def knotChangesUptoRow : OpenClaim := { program := "ytlaeonemlodhmaa", sum := "e05ce1988686e78d4a2679f2aecd51aafbdf11d4863b978598b4e30aed4cef24", func := "cistern/cisternlaw10.KnotChanges", spec := "knotChanges", unfollowed := true, recurses := true, apart := false, narrowed := true }
def KnotChangesUptoSaid : Prop := knotChangesUptoRow.holds Try.pinned (OpenSpec.upto knotChangesSpec)

/-- 'cisternlaw10.KnotParts', WHERE WHAT IT READS IS OF BULK AT MOST 1048576: true; the input reads as it did. -/
def knotPartsUptoRow : OpenClaim := { program := "ytlaeonemlodhmaa", sum := "e05ce1988686e78d4a2679f2aecd51aafbdf11d4863b978598b4e30aed4cef24", func := "cistern/cisternlaw10.KnotParts", spec := "knotParts", unfollowed := true, recurses := true, apart := false, narrowed := true }
def KnotPartsUptoSaid : Prop := knotPartsUptoRow.holds Try.pinned (OpenSpec.upto knotPartsSpec)

/-- 'cisternlaw10.KnotKeeps', WHERE WHAT IT READS IS OF BULK AT MOST 1048576: true; the input reads as it did. -/
def knotKeepsUptoRow : OpenClaim := { program := "ytlaeonemlodhmaa", sum := "e05ce1988686e78d4a2679f2aecd51aafbdf11d4863b978598b4e30aed4cef24", func := "cistern/cisternlaw10.KnotKeeps", spec := "knotKeeps", unfollowed := true, recurses := true, apart := false, narrowed := true }
def KnotKeepsUptoSaid : Prop := knotKeepsUptoRow.holds Try.pinned (OpenSpec.upto knotKeepsSpec)

/-- 'cisternlaw10.KnotHalves', WHERE WHAT IT READS IS OF BULK AT MOST 1048576: true; the input reads as it did. -/
def knotHalvesUptoRow : OpenClaim := { program := "ytlaeonemlodhmaa", sum := "e05ce1988686e78d4a2679f2aecd51aafbdf11d4863b978598b4e30aed4cef24", func := "cistern/cisternlaw10.KnotHalves", spec := "knotHalves", unfollowed := true, recurses := true, apart := false, narrowed := true }
def KnotHalvesUptoSaid : Prop := knotHalvesUptoRow.holds Try.pinned (OpenSpec.upto knotHalvesSpec)

/-- 'cisternlaw10.KnotKnown', WHERE WHAT IT READS IS OF BULK AT MOST 1048576: true; the input reads as it did. -/
def knotKnownUptoRow : OpenClaim := { program := "ytlaeonemlodhmaa", sum := "e05ce1988686e78d4a2679f2aecd51aafbdf11d4863b978598b4e30aed4cef24", func := "cistern/cisternlaw10.KnotKnown", spec := "knotKnown", unfollowed := true, recurses := true, apart := false, narrowed := true }
def KnotKnownUptoSaid : Prop := knotKnownUptoRow.holds Try.pinned (OpenSpec.upto knotKnownSpec)

end Rows
end Go.Proofs.Ytlaeonemlodhmaa
