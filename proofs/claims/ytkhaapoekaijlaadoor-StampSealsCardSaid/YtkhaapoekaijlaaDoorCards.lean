/-
  DERIVED. GIVEN WITH THE SEED: THE CARDS: each row of YtkhaapoekaijlaaDoorRows.lean that lists a variable, with what it lists TIED to the program's text (the seventh form; the later family's looks); each row that meets fmt, with fmt's text TOLD by the authors' own Lean function (tested against real Go, not proved from fmt's source: count such statements apart). THE CARD IS WHAT COUNTS. Prove the row's statement (the work); the ties are given (YtkhaapoekaijlaaDoorTie.lean); close each card by the builder's one call (the guide's Derived/Test/ToyasCard.lean, 'card_holds'). Laid BY PROGRAM, IN A SANDBOX (cutbox-door.mjs). By AI agents, Wed Nov 11 2026. No macro, syntax, notation, axiom, sorry.
-/
import Derived.Test.YtkhaapoekaijlaaDoorRows
import GoSem.ClaimSeven
namespace Go.Proofs.YtkhaapoekaijlaaDoor
namespace Rows

/-- THE TIED CARD OF 'cisternlaw04.StampSeals'. -/
def stampSealsCard : Claim7 := { stood := { row := stampSealsRow, standIns := [], harness := (true, "d6ff68ef1c55eeef010ae7910f7c948bf28d185e6e7328e3942c628a02b4c53d"), looks := false }, kinds := [], alts := [], laidByText := true, laidKinds := [.data], laidTests := true, laidLooks := .later }
def StampSealsCardSaid : Prop := Claim7.holds Tryd.pinned (.plain (OpenSpec.ofChange stampSealsSpec)) stampSealsCard

/-- THE TIED CARD OF 'cisternlaw04.StampOpens'. -/
def stampOpensCard : Claim7 := { stood := { row := stampOpensRow, standIns := [], harness := (true, "d6ff68ef1c55eeef010ae7910f7c948bf28d185e6e7328e3942c628a02b4c53d"), looks := false }, kinds := [], alts := [], laidByText := true, laidKinds := [.data], laidTests := true, laidLooks := .later }
def StampOpensCardSaid : Prop := Claim7.holds Tryd.pinned (.plain (OpenSpec.ofChange stampOpensSpec)) stampOpensCard

/-- THE TIED CARD OF 'cisternlaw04.StampOwn'. -/
def stampOwnCard : Claim7 := { stood := { row := stampOwnRow, standIns := [], harness := (true, "d6ff68ef1c55eeef010ae7910f7c948bf28d185e6e7328e3942c628a02b4c53d"), looks := false }, kinds := [], alts := [], laidByText := true, laidKinds := [.data], laidTests := true, laidLooks := .later }
def StampOwnCardSaid : Prop := Claim7.holds Tryd.pinned (.plain (OpenSpec.ofChange stampOwnSpec)) stampOwnCard

/-- THE TIED CARD OF 'cisternlaw04.StampBack'. -/
def stampBackCard : Claim7 := { stood := { row := stampBackRow, standIns := [], harness := (true, "d6ff68ef1c55eeef010ae7910f7c948bf28d185e6e7328e3942c628a02b4c53d"), looks := false }, kinds := [], alts := [], laidByText := true, laidKinds := [.data], laidTests := true, laidLooks := .later }
def StampBackCardSaid : Prop := Claim7.holds Tryd.pinned (.plain (OpenSpec.ofChange stampBackSpec)) stampBackCard

/-- THE TIED CARD OF 'cisternlaw04.StampKnown'. -/
def stampKnownCard : Claim7 := { stood := { row := stampKnownRow, standIns := [], harness := (true, "d6ff68ef1c55eeef010ae7910f7c948bf28d185e6e7328e3942c628a02b4c53d"), looks := false }, kinds := [], alts := [], laidByText := true, laidKinds := [.data], laidTests := true, laidLooks := .later }
def StampKnownCardSaid : Prop := Claim7.holds Tryd.pinned (.plain (OpenSpec.ofChange stampKnownSpec)) stampKnownCard

/-- THE SECOND FORM's CARD OF 'cisternlaw04.StampSeals'. -/
def stampSealsUptoCard : Claim7 := { stood := { row := stampSealsUptoRow, standIns := [], harness := (true, "d6ff68ef1c55eeef010ae7910f7c948bf28d185e6e7328e3942c628a02b4c53d"), looks := false }, kinds := [], alts := [], laidByText := true, laidKinds := [.data], laidTests := true, laidLooks := .later }
def StampSealsUptoCardSaid : Prop := Claim7.holds Tryd.pinned (.plain (OpenSpec.upto stampSealsSpec)) stampSealsUptoCard

/-- THE SECOND FORM's CARD OF 'cisternlaw04.StampOpens'. -/
def stampOpensUptoCard : Claim7 := { stood := { row := stampOpensUptoRow, standIns := [], harness := (true, "d6ff68ef1c55eeef010ae7910f7c948bf28d185e6e7328e3942c628a02b4c53d"), looks := false }, kinds := [], alts := [], laidByText := true, laidKinds := [.data], laidTests := true, laidLooks := .later }
def StampOpensUptoCardSaid : Prop := Claim7.holds Tryd.pinned (.plain (OpenSpec.upto stampOpensSpec)) stampOpensUptoCard

/-- THE SECOND FORM's CARD OF 'cisternlaw04.StampOwn'. -/
def stampOwnUptoCard : Claim7 := { stood := { row := stampOwnUptoRow, standIns := [], harness := (true, "d6ff68ef1c55eeef010ae7910f7c948bf28d185e6e7328e3942c628a02b4c53d"), looks := false }, kinds := [], alts := [], laidByText := true, laidKinds := [.data], laidTests := true, laidLooks := .later }
def StampOwnUptoCardSaid : Prop := Claim7.holds Tryd.pinned (.plain (OpenSpec.upto stampOwnSpec)) stampOwnUptoCard

/-- THE SECOND FORM's CARD OF 'cisternlaw04.StampBack'. -/
def stampBackUptoCard : Claim7 := { stood := { row := stampBackUptoRow, standIns := [], harness := (true, "d6ff68ef1c55eeef010ae7910f7c948bf28d185e6e7328e3942c628a02b4c53d"), looks := false }, kinds := [], alts := [], laidByText := true, laidKinds := [.data], laidTests := true, laidLooks := .later }
def StampBackUptoCardSaid : Prop := Claim7.holds Tryd.pinned (.plain (OpenSpec.upto stampBackSpec)) stampBackUptoCard

/-- THE SECOND FORM's CARD OF 'cisternlaw04.StampKnown'. -/
def stampKnownUptoCard : Claim7 := { stood := { row := stampKnownUptoRow, standIns := [], harness := (true, "d6ff68ef1c55eeef010ae7910f7c948bf28d185e6e7328e3942c628a02b4c53d"), looks := false }, kinds := [], alts := [], laidByText := true, laidKinds := [.data], laidTests := true, laidLooks := .later }
def StampKnownUptoCardSaid : Prop := Claim7.holds Tryd.pinned (.plain (OpenSpec.upto stampKnownSpec)) stampKnownUptoCard
end Rows
end Go.Proofs.YtkhaapoekaijlaaDoor
