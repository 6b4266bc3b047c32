/-
  DERIVED. GIVEN WITH THE SEED: THE CARDS: each row of YtoeijomelabbfaaGreatDoorRows.lean that lists a variable, with what it lists TIED to the program's text (the seventh form; the later family's looks); each row that meets fmt, with fmt's text TOLD by the authors' own Lean function (tested against real Go, not proved from fmt's source: count such statements apart). THE CARD IS WHAT COUNTS. Prove the row's statement (the work); the ties are given (YtoeijomelabbfaaGreatDoorTie.lean); close each card by the builder's one call (the guide's Derived/Test/ToyasCard.lean, 'card_holds'). Laid BY PROGRAM, IN A SANDBOX (cutbox-door.mjs). By AI agents, Wed Nov 11 2026. No macro, syntax, notation, axiom, sorry.
-/
import Derived.Test.YtoeijomelabbfaaGreatDoorRows
import GoSem.ClaimSeven
namespace Go.Proofs.YtoeijomelabbfaaGreatDoor
namespace Rows

/-- THE TIED CARD OF 'cisternlaw15.TxnPlays'. -/
def txnPlaysCard : Claim7 := { stood := { row := txnPlaysRow, standIns := [], harness := (true, "6e48bf85384ffe919ecefc0f0286eb1c5bf8b47f9274962911680cfed10a9cd2"), looks := true }, kinds := [], alts := [], laidByText := true, laidKinds := [.data], laidTests := true, laidLooks := .later }
def TxnPlaysCardSaid : Prop := Claim7.holds Tryz.pinned (.plain (OpenSpec.ofChange txnPlaysSpec)) txnPlaysCard

/-- THE TIED CARD OF 'cisternlaw15.TxnFormat'. -/
def txnFormatCard : Claim7 := { stood := { row := txnFormatRow, standIns := [], harness := (true, "6e48bf85384ffe919ecefc0f0286eb1c5bf8b47f9274962911680cfed10a9cd2"), looks := true }, kinds := [], alts := [], laidByText := true, laidKinds := [.data], laidTests := true, laidLooks := .later }
def TxnFormatCardSaid : Prop := Claim7.holds Tryz.pinned (.plain (OpenSpec.ofChange txnFormatSpec)) txnFormatCard

/-- THE TIED CARD OF 'cisternlaw15.TxnKnown'. -/
def txnKnownCard : Claim7 := { stood := { row := txnKnownRow, standIns := [], harness := (true, "6e48bf85384ffe919ecefc0f0286eb1c5bf8b47f9274962911680cfed10a9cd2"), looks := true }, kinds := [], alts := [], laidByText := true, laidKinds := [.data], laidTests := true, laidLooks := .later }
def TxnKnownCardSaid : Prop := Claim7.holds Tryz.pinned (.plain (OpenSpec.ofChange txnKnownSpec)) txnKnownCard

/-- THE SECOND FORM's CARD OF 'cisternlaw15.TxnPlays'. -/
def txnPlaysUptoCard : Claim7 := { stood := { row := txnPlaysUptoRow, standIns := [], harness := (true, "6e48bf85384ffe919ecefc0f0286eb1c5bf8b47f9274962911680cfed10a9cd2"), looks := true }, kinds := [], alts := [], laidByText := true, laidKinds := [.data], laidTests := true, laidLooks := .later }
def TxnPlaysUptoCardSaid : Prop := Claim7.holds Tryz.pinned (.plain (OpenSpec.upto txnPlaysSpec)) txnPlaysUptoCard

/-- THE SECOND FORM's CARD OF 'cisternlaw15.TxnFormat'. -/
def txnFormatUptoCard : Claim7 := { stood := { row := txnFormatUptoRow, standIns := [], harness := (true, "6e48bf85384ffe919ecefc0f0286eb1c5bf8b47f9274962911680cfed10a9cd2"), looks := true }, kinds := [], alts := [], laidByText := true, laidKinds := [.data], laidTests := true, laidLooks := .later }
def TxnFormatUptoCardSaid : Prop := Claim7.holds Tryz.pinned (.plain (OpenSpec.upto txnFormatSpec)) txnFormatUptoCard

/-- THE SECOND FORM's CARD OF 'cisternlaw15.TxnKnown'. -/
def txnKnownUptoCard : Claim7 := { stood := { row := txnKnownUptoRow, standIns := [], harness := (true, "6e48bf85384ffe919ecefc0f0286eb1c5bf8b47f9274962911680cfed10a9cd2"), looks := true }, kinds := [], alts := [], laidByText := true, laidKinds := [.data], laidTests := true, laidLooks := .later }
def TxnKnownUptoCardSaid : Prop := Claim7.holds Tryz.pinned (.plain (OpenSpec.upto txnKnownSpec)) txnKnownUptoCard
end Rows
end Go.Proofs.YtoeijomelabbfaaGreatDoor
