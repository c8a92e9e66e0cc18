/-
  DERIVED. GIVEN WITH THE SEED: THE CARDS: each row of YtmhahapmjpbocaaDoorRows.lean that lists a variable, with what it lists TIED to the program's text (the seventh form; the later family's looks); each row that meets fmt, with fmt's text TOLD by the authors' own Lean function (tested against real Go, not proved from fmt's source: count such statements apart). THE CARD IS WHAT COUNTS. Prove the row's statement (the work); the ties are given (YtmhahapmjpbocaaDoorTie.lean); close each card by the builder's one call (the guide's Derived/Test/ToyasCard.lean, 'card_holds'). Laid BY PROGRAM, IN A SANDBOX (cutbox-door.mjs). By AI agents, Wed Nov 11 2026. No macro, syntax, notation, axiom, sorry.
-/
import Derived.Test.YtmhahapmjpbocaaDoorRows
import GoSem.ClaimSeven
namespace Go.Proofs.YtmhahapmjpbocaaDoor
namespace Rows

/-- THE TIED CARD OF 'bootprintlaw02.CrcNames'. -/
def crcNamesCard : Claim7 := { stood := { row := crcNamesRow, standIns := [], harness := (true, "b6ab947dcf8c759ed3300d6535897fb0473611e9885942421bfc7610498ba3ed"), looks := false }, kinds := [], alts := [], laidByText := true, laidKinds := [.data], laidTests := true, laidLooks := .later }
def CrcNamesCardSaid : Prop := Claim7.holds Tryd.pinned (.plain (OpenSpec.ofChange crcNamesSpec)) crcNamesCard

/-- THE TIED CARD OF 'bootprintlaw02.CrcCalls'. -/
def crcCallsCard : Claim7 := { stood := { row := crcCallsRow, standIns := [], harness := (true, "b6ab947dcf8c759ed3300d6535897fb0473611e9885942421bfc7610498ba3ed"), looks := false }, kinds := [], alts := [], laidByText := true, laidKinds := [.data], laidTests := true, laidLooks := .later }
def CrcCallsCardSaid : Prop := Claim7.holds Tryd.pinned (.plain (OpenSpec.ofChange crcCallsSpec)) crcCallsCard

/-- THE TIED CARD OF 'bootprintlaw02.CrcJoins'. -/
def crcJoinsCard : Claim7 := { stood := { row := crcJoinsRow, standIns := [], harness := (true, "b6ab947dcf8c759ed3300d6535897fb0473611e9885942421bfc7610498ba3ed"), looks := false }, kinds := [], alts := [], laidByText := true, laidKinds := [.data], laidTests := true, laidLooks := .later }
def CrcJoinsCardSaid : Prop := Claim7.holds Tryd.pinned (.plain (OpenSpec.ofChange crcJoinsSpec)) crcJoinsCard

/-- THE TIED CARD OF 'bootprintlaw02.CrcSees'. -/
def crcSeesCard : Claim7 := { stood := { row := crcSeesRow, standIns := [], harness := (true, "b6ab947dcf8c759ed3300d6535897fb0473611e9885942421bfc7610498ba3ed"), looks := false }, kinds := [], alts := [], laidByText := true, laidKinds := [.data], laidTests := true, laidLooks := .later }
def CrcSeesCardSaid : Prop := Claim7.holds Tryd.pinned (.plain (OpenSpec.ofChange crcSeesSpec)) crcSeesCard

/-- THE SECOND FORM's CARD OF 'bootprintlaw02.CrcNames'. -/
def crcNamesUptoCard : Claim7 := { stood := { row := crcNamesUptoRow, standIns := [], harness := (true, "b6ab947dcf8c759ed3300d6535897fb0473611e9885942421bfc7610498ba3ed"), looks := false }, kinds := [], alts := [], laidByText := true, laidKinds := [.data], laidTests := true, laidLooks := .later }
def CrcNamesUptoCardSaid : Prop := Claim7.holds Tryd.pinned (.plain (OpenSpec.upto crcNamesSpec)) crcNamesUptoCard

/-- THE SECOND FORM's CARD OF 'bootprintlaw02.CrcCalls'. -/
def crcCallsUptoCard : Claim7 := { stood := { row := crcCallsUptoRow, standIns := [], harness := (true, "b6ab947dcf8c759ed3300d6535897fb0473611e9885942421bfc7610498ba3ed"), looks := false }, kinds := [], alts := [], laidByText := true, laidKinds := [.data], laidTests := true, laidLooks := .later }
def CrcCallsUptoCardSaid : Prop := Claim7.holds Tryd.pinned (.plain (OpenSpec.upto crcCallsSpec)) crcCallsUptoCard

/-- THE SECOND FORM's CARD OF 'bootprintlaw02.CrcJoins'. -/
def crcJoinsUptoCard : Claim7 := { stood := { row := crcJoinsUptoRow, standIns := [], harness := (true, "b6ab947dcf8c759ed3300d6535897fb0473611e9885942421bfc7610498ba3ed"), looks := false }, kinds := [], alts := [], laidByText := true, laidKinds := [.data], laidTests := true, laidLooks := .later }
def CrcJoinsUptoCardSaid : Prop := Claim7.holds Tryd.pinned (.plain (OpenSpec.upto crcJoinsSpec)) crcJoinsUptoCard

/-- THE SECOND FORM's CARD OF 'bootprintlaw02.CrcSees'. -/
def crcSeesUptoCard : Claim7 := { stood := { row := crcSeesUptoRow, standIns := [], harness := (true, "b6ab947dcf8c759ed3300d6535897fb0473611e9885942421bfc7610498ba3ed"), looks := false }, kinds := [], alts := [], laidByText := true, laidKinds := [.data], laidTests := true, laidLooks := .later }
def CrcSeesUptoCardSaid : Prop := Claim7.holds Tryd.pinned (.plain (OpenSpec.upto crcSeesSpec)) crcSeesUptoCard
end Rows
end Go.Proofs.YtmhahapmjpbocaaDoor
