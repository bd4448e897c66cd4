/-
  DERIVED. GIVEN WITH THE SEED: THE CARDS: each row of YtbkcnopkibdlbaaDoorRows.lean that lists a variable, with what it lists TIED to the program's text (the seventh form; the later family's looks); each row that meets fmt, with fmt's text TOLD by the authors' own Lean function (tested against real Go, not proved from fmt's source: count such statements apart). THE CARD IS WHAT COUNTS. Prove the row's statement (the work); the ties are given (YtbkcnopkibdlbaaDoorTie.lean); close each card by the builder's one call (the guide's Derived/Test/ToyasCard.lean, 'card_holds'). Laid BY PROGRAM, IN A SANDBOX (cutbox-door.mjs). By AI agents, Wed Nov 11 2026. No macro, syntax, notation, axiom, sorry.
-/
import Derived.Test.YtbkcnopkibdlbaaDoorRows
import GoSem.ClaimSeven
namespace Go.Proofs.YtbkcnopkibdlbaaDoor
namespace Rows

/-- THE TIED CARD OF 'frisketlaw04.ExpandJoins'. -/
def expandJoinsCard : Claim7 := { stood := { row := expandJoinsRow, standIns := [], harness := (true, "e034efdbaa2339ab73d26dde5ed109f19016dc64324174024b9a20de05b1b928"), looks := true }, kinds := [], alts := [], laidByText := true, laidKinds := [.data, .pinned], laidTests := true, laidLooks := .later }
def ExpandJoinsCardSaid : Prop := Claim7.holds Tryd.pinned (.plain (OpenSpec.ofChange expandJoinsSpec)) expandJoinsCard

/-- THE TIED CARD OF 'frisketlaw04.ExpandBack'. -/
def expandBackCard : Claim7 := { stood := { row := expandBackRow, standIns := [], harness := (true, "e034efdbaa2339ab73d26dde5ed109f19016dc64324174024b9a20de05b1b928"), looks := true }, kinds := [], alts := [], laidByText := true, laidKinds := [.data, .pinned], laidTests := true, laidLooks := .later }
def ExpandBackCardSaid : Prop := Claim7.holds Tryd.pinned (.plain (OpenSpec.ofChange expandBackSpec)) expandBackCard

/-- THE SECOND FORM's CARD OF 'frisketlaw04.ExpandJoins'. -/
def expandJoinsUptoCard : Claim7 := { stood := { row := expandJoinsUptoRow, standIns := [], harness := (true, "e034efdbaa2339ab73d26dde5ed109f19016dc64324174024b9a20de05b1b928"), looks := true }, kinds := [], alts := [], laidByText := true, laidKinds := [.data, .pinned], laidTests := true, laidLooks := .later }
def ExpandJoinsUptoCardSaid : Prop := Claim7.holds Tryd.pinned (.plain (OpenSpec.upto expandJoinsSpec)) expandJoinsUptoCard

/-- THE SECOND FORM's CARD OF 'frisketlaw04.ExpandBack'. -/
def expandBackUptoCard : Claim7 := { stood := { row := expandBackUptoRow, standIns := [], harness := (true, "e034efdbaa2339ab73d26dde5ed109f19016dc64324174024b9a20de05b1b928"), looks := true }, kinds := [], alts := [], laidByText := true, laidKinds := [.data, .pinned], laidTests := true, laidLooks := .later }
def ExpandBackUptoCardSaid : Prop := Claim7.holds Tryd.pinned (.plain (OpenSpec.upto expandBackSpec)) expandBackUptoCard
end Rows
end Go.Proofs.YtbkcnopkibdlbaaDoor
