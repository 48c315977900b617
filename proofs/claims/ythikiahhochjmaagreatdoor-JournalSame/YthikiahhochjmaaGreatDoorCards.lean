/-
  DERIVED. GIVEN WITH THE SEED: THE CARDS: each row of YthikiahhochjmaaGreatDoorRows.lean that lists a variable, with what it lists TIED to the program's text (the seventh form; the later family's looks); each row that meets fmt, with fmt's text TOLD by the authors' own Lean function (tested against real Go, not proved from fmt's source: count such statements apart). THE CARD IS WHAT COUNTS. Prove the row's statement (the work); the ties are given (YthikiahhochjmaaGreatDoorTie.lean); close each card by the builder's one call (the guide's Derived/Test/ToyasCard.lean, 'card_holds'). Laid BY PROGRAM, IN A SANDBOX (cutbox-door.mjs). By AI agents, Wed Nov 11 2026. No macro, syntax, notation, axiom, sorry.
-/
import Derived.Test.YthikiahhochjmaaGreatDoorRows
import GoSem.ClaimSeven
namespace Go.Proofs.YthikiahhochjmaaGreatDoor
namespace Rows

/-- THE TIED CARD OF 'hansomlaw07.JournalPlays'. -/
def journalPlaysCard : Claim7 := { stood := { row := journalPlaysRow, standIns := [], harness := (true, "72a9726b73c71b6504776131123e59dd0db4d86431f6436c96dc6997895be17e"), looks := true }, kinds := [], alts := [], laidByText := true, laidKinds := [.data, .data, .data, .sentinel, .sentinel], laidTests := true, laidLooks := .later }
def JournalPlaysCardSaid : Prop := Claim7.holds Tryz.pinned (.plain (OpenSpec.ofChange journalPlaysSpec)) journalPlaysCard

/-- THE TIED CARD OF 'hansomlaw07.JournalSegments'. -/
def journalSegmentsCard : Claim7 := { stood := { row := journalSegmentsRow, standIns := [], harness := (true, "72a9726b73c71b6504776131123e59dd0db4d86431f6436c96dc6997895be17e"), looks := true }, kinds := [], alts := [], laidByText := true, laidKinds := [.data, .data, .data, .sentinel, .sentinel], laidTests := true, laidLooks := .later }
def JournalSegmentsCardSaid : Prop := Claim7.holds Tryz.pinned (.plain (OpenSpec.ofChange journalSegmentsSpec)) journalSegmentsCard

/-- THE TIED CARD OF 'hansomlaw07.JournalBad'. -/
def journalBadCard : Claim7 := { stood := { row := journalBadRow, standIns := [], harness := (true, "72a9726b73c71b6504776131123e59dd0db4d86431f6436c96dc6997895be17e"), looks := true }, kinds := [], alts := [], laidByText := true, laidKinds := [.data, .data, .data, .sentinel, .sentinel], laidTests := true, laidLooks := .later }
def JournalBadCardSaid : Prop := Claim7.holds Tryz.pinned (.plain (OpenSpec.ofChange journalBadSpec)) journalBadCard

/-- THE TIED CARD OF 'hansomlaw07.JournalNil'. -/
def journalNilCard : Claim7 := { stood := { row := journalNilRow, standIns := [], harness := (true, "72a9726b73c71b6504776131123e59dd0db4d86431f6436c96dc6997895be17e"), looks := true }, kinds := [], alts := [], laidByText := true, laidKinds := [.data, .data, .data, .sentinel, .sentinel], laidTests := true, laidLooks := .later }
def JournalNilCardSaid : Prop := Claim7.holds Tryz.pinned (.plain (OpenSpec.ofChange journalNilSpec)) journalNilCard

/-- THE TIED CARD OF 'hansomlaw07.JournalSame'. -/
def journalSameCard : Claim7 := { stood := { row := journalSameRow, standIns := [], harness := (true, "72a9726b73c71b6504776131123e59dd0db4d86431f6436c96dc6997895be17e"), looks := true }, kinds := [], alts := [], laidByText := true, laidKinds := [.data, .data, .data, .sentinel, .sentinel], laidTests := true, laidLooks := .later }
def JournalSameCardSaid : Prop := Claim7.holds Tryz.pinned (.plain (OpenSpec.ofChange journalSameSpec)) journalSameCard

/-- THE SECOND FORM's CARD OF 'hansomlaw07.JournalPlays'. -/
def journalPlaysUptoCard : Claim7 := { stood := { row := journalPlaysUptoRow, standIns := [], harness := (true, "72a9726b73c71b6504776131123e59dd0db4d86431f6436c96dc6997895be17e"), looks := true }, kinds := [], alts := [], laidByText := true, laidKinds := [.data, .data, .data, .sentinel, .sentinel], laidTests := true, laidLooks := .later }
def JournalPlaysUptoCardSaid : Prop := Claim7.holds Tryz.pinned (.plain (OpenSpec.upto journalPlaysSpec)) journalPlaysUptoCard

/-- THE SECOND FORM's CARD OF 'hansomlaw07.JournalSegments'. -/
def journalSegmentsUptoCard : Claim7 := { stood := { row := journalSegmentsUptoRow, standIns := [], harness := (true, "72a9726b73c71b6504776131123e59dd0db4d86431f6436c96dc6997895be17e"), looks := true }, kinds := [], alts := [], laidByText := true, laidKinds := [.data, .data, .data, .sentinel, .sentinel], laidTests := true, laidLooks := .later }
def JournalSegmentsUptoCardSaid : Prop := Claim7.holds Tryz.pinned (.plain (OpenSpec.upto journalSegmentsSpec)) journalSegmentsUptoCard

/-- THE SECOND FORM's CARD OF 'hansomlaw07.JournalBad'. -/
def journalBadUptoCard : Claim7 := { stood := { row := journalBadUptoRow, standIns := [], harness := (true, "72a9726b73c71b6504776131123e59dd0db4d86431f6436c96dc6997895be17e"), looks := true }, kinds := [], alts := [], laidByText := true, laidKinds := [.data, .data, .data, .sentinel, .sentinel], laidTests := true, laidLooks := .later }
def JournalBadUptoCardSaid : Prop := Claim7.holds Tryz.pinned (.plain (OpenSpec.upto journalBadSpec)) journalBadUptoCard

/-- THE SECOND FORM's CARD OF 'hansomlaw07.JournalNil'. -/
def journalNilUptoCard : Claim7 := { stood := { row := journalNilUptoRow, standIns := [], harness := (true, "72a9726b73c71b6504776131123e59dd0db4d86431f6436c96dc6997895be17e"), looks := true }, kinds := [], alts := [], laidByText := true, laidKinds := [.data, .data, .data, .sentinel, .sentinel], laidTests := true, laidLooks := .later }
def JournalNilUptoCardSaid : Prop := Claim7.holds Tryz.pinned (.plain (OpenSpec.upto journalNilSpec)) journalNilUptoCard

/-- THE SECOND FORM's CARD OF 'hansomlaw07.JournalSame'. -/
def journalSameUptoCard : Claim7 := { stood := { row := journalSameUptoRow, standIns := [], harness := (true, "72a9726b73c71b6504776131123e59dd0db4d86431f6436c96dc6997895be17e"), looks := true }, kinds := [], alts := [], laidByText := true, laidKinds := [.data, .data, .data, .sentinel, .sentinel], laidTests := true, laidLooks := .later }
def JournalSameUptoCardSaid : Prop := Claim7.holds Tryz.pinned (.plain (OpenSpec.upto journalSameSpec)) journalSameUptoCard
end Rows
end Go.Proofs.YthikiahhochjmaaGreatDoor
