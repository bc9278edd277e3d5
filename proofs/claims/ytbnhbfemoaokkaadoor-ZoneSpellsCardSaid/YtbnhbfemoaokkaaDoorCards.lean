/-
  DERIVED. GIVEN WITH THE SEED: THE CARDS: each row of YtbnhbfemoaokkaaDoorRows.lean that lists a variable, with what it lists TIED to the program's text (the seventh form; the later family's looks); each row that meets fmt, with fmt's text TOLD by the authors' own Lean function (tested against real Go, not proved from fmt's source: count such statements apart). THE CARD IS WHAT COUNTS. Prove the row's statement (the work); the ties are given (YtbnhbfemoaokkaaDoorTie.lean); close each card by the builder's one call (the guide's Derived/Test/ToyasCard.lean, 'card_holds'). Laid BY PROGRAM, IN A SANDBOX (cutbox-door.mjs). By AI agents, Wed Nov 11 2026. No macro, syntax, notation, axiom, sorry.
-/
import Derived.Test.YtbnhbfemoaokkaaDoorRows
import GoSem.ClaimSeven
namespace Go.Proofs.YtbnhbfemoaokkaaDoor
namespace Rows

/-- THE TIED CARD OF 'wakemanlaw03.ZoneTexts'. -/
def zoneTextsCard : Claim7 := { stood := { row := zoneTextsRow, standIns := [], harness := (true, "ddcd4db41dbee3778e9531d2379b4af341ad007a6f035d71f409a6fd6eadf81b"), looks := false }, kinds := [], alts := [], laidByText := true, laidKinds := [.data], laidTests := true, laidLooks := .later }
def ZoneTextsCardSaid : Prop := Claim7.holds Tryd.pinned (.plain (OpenSpec.ofChange zoneTextsSpec)) zoneTextsCard

/-- THE TIED CARD OF 'wakemanlaw03.ZoneLocals'. -/
def zoneLocalsCard : Claim7 := { stood := { row := zoneLocalsRow, standIns := [], harness := (true, "ddcd4db41dbee3778e9531d2379b4af341ad007a6f035d71f409a6fd6eadf81b"), looks := false }, kinds := [], alts := [], laidByText := true, laidKinds := [.data], laidTests := true, laidLooks := .later }
def ZoneLocalsCardSaid : Prop := Claim7.holds Tryd.pinned (.plain (OpenSpec.ofChange zoneLocalsSpec)) zoneLocalsCard

/-- THE TIED CARD OF 'wakemanlaw03.ZoneBacks'. -/
def zoneBacksCard : Claim7 := { stood := { row := zoneBacksRow, standIns := [], harness := (true, "ddcd4db41dbee3778e9531d2379b4af341ad007a6f035d71f409a6fd6eadf81b"), looks := false }, kinds := [], alts := [], laidByText := true, laidKinds := [.data], laidTests := true, laidLooks := .later }
def ZoneBacksCardSaid : Prop := Claim7.holds Tryd.pinned (.plain (OpenSpec.ofChange zoneBacksSpec)) zoneBacksCard

/-- THE TIED CARD OF 'wakemanlaw03.ZoneSames'. -/
def zoneSamesCard : Claim7 := { stood := { row := zoneSamesRow, standIns := [], harness := (true, "ddcd4db41dbee3778e9531d2379b4af341ad007a6f035d71f409a6fd6eadf81b"), looks := false }, kinds := [], alts := [], laidByText := true, laidKinds := [.data], laidTests := true, laidLooks := .later }
def ZoneSamesCardSaid : Prop := Claim7.holds Tryd.pinned (.plain (OpenSpec.ofChange zoneSamesSpec)) zoneSamesCard

/-- THE TIED CARD OF 'wakemanlaw03.ZoneReturns'. -/
def zoneReturnsCard : Claim7 := { stood := { row := zoneReturnsRow, standIns := [], harness := (true, "ddcd4db41dbee3778e9531d2379b4af341ad007a6f035d71f409a6fd6eadf81b"), looks := false }, kinds := [], alts := [], laidByText := true, laidKinds := [.data], laidTests := true, laidLooks := .later }
def ZoneReturnsCardSaid : Prop := Claim7.holds Tryd.pinned (.plain (OpenSpec.ofChange zoneReturnsSpec)) zoneReturnsCard

/-- THE TIED CARD OF 'wakemanlaw03.ZoneShifts'. -/
def zoneShiftsCard : Claim7 := { stood := { row := zoneShiftsRow, standIns := [], harness := (true, "ddcd4db41dbee3778e9531d2379b4af341ad007a6f035d71f409a6fd6eadf81b"), looks := false }, kinds := [], alts := [], laidByText := true, laidKinds := [.data], laidTests := true, laidLooks := .later }
def ZoneShiftsCardSaid : Prop := Claim7.holds Tryd.pinned (.plain (OpenSpec.ofChange zoneShiftsSpec)) zoneShiftsCard

/-- THE TIED CARD OF 'wakemanlaw03.ZoneDays'. -/
def zoneDaysCard : Claim7 := { stood := { row := zoneDaysRow, standIns := [], harness := (true, "ddcd4db41dbee3778e9531d2379b4af341ad007a6f035d71f409a6fd6eadf81b"), looks := false }, kinds := [], alts := [], laidByText := true, laidKinds := [.data], laidTests := true, laidLooks := .later }
def ZoneDaysCardSaid : Prop := Claim7.holds Tryd.pinned (.plain (OpenSpec.ofChange zoneDaysSpec)) zoneDaysCard

/-- THE TIED CARD OF 'wakemanlaw03.ZoneSplits'. -/
def zoneSplitsCard : Claim7 := { stood := { row := zoneSplitsRow, standIns := [], harness := (true, "ddcd4db41dbee3778e9531d2379b4af341ad007a6f035d71f409a6fd6eadf81b"), looks := false }, kinds := [], alts := [], laidByText := true, laidKinds := [.data], laidTests := true, laidLooks := .later }
def ZoneSplitsCardSaid : Prop := Claim7.holds Tryd.pinned (.plain (OpenSpec.ofChange zoneSplitsSpec)) zoneSplitsCard

/-- THE TIED CARD OF 'wakemanlaw03.ZoneSpells'. -/
def zoneSpellsCard : Claim7 := { stood := { row := zoneSpellsRow, standIns := [], harness := (true, "ddcd4db41dbee3778e9531d2379b4af341ad007a6f035d71f409a6fd6eadf81b"), looks := false }, kinds := [], alts := [], laidByText := true, laidKinds := [.data], laidTests := true, laidLooks := .later }
def ZoneSpellsCardSaid : Prop := Claim7.holds Tryd.pinned (.plain (OpenSpec.ofChange zoneSpellsSpec)) zoneSpellsCard

/-- THE TIED CARD OF 'wakemanlaw03.ZoneEnds'. -/
def zoneEndsCard : Claim7 := { stood := { row := zoneEndsRow, standIns := [], harness := (true, "ddcd4db41dbee3778e9531d2379b4af341ad007a6f035d71f409a6fd6eadf81b"), looks := false }, kinds := [], alts := [], laidByText := true, laidKinds := [.data], laidTests := true, laidLooks := .later }
def ZoneEndsCardSaid : Prop := Claim7.holds Tryd.pinned (.plain (OpenSpec.ofChange zoneEndsSpec)) zoneEndsCard

/-- THE SECOND FORM's CARD OF 'wakemanlaw03.ZoneTexts'. -/
def zoneTextsUptoCard : Claim7 := { stood := { row := zoneTextsUptoRow, standIns := [], harness := (true, "ddcd4db41dbee3778e9531d2379b4af341ad007a6f035d71f409a6fd6eadf81b"), looks := false }, kinds := [], alts := [], laidByText := true, laidKinds := [.data], laidTests := true, laidLooks := .later }
def ZoneTextsUptoCardSaid : Prop := Claim7.holds Tryd.pinned (.plain (OpenSpec.upto zoneTextsSpec)) zoneTextsUptoCard

/-- THE SECOND FORM's CARD OF 'wakemanlaw03.ZoneLocals'. -/
def zoneLocalsUptoCard : Claim7 := { stood := { row := zoneLocalsUptoRow, standIns := [], harness := (true, "ddcd4db41dbee3778e9531d2379b4af341ad007a6f035d71f409a6fd6eadf81b"), looks := false }, kinds := [], alts := [], laidByText := true, laidKinds := [.data], laidTests := true, laidLooks := .later }
def ZoneLocalsUptoCardSaid : Prop := Claim7.holds Tryd.pinned (.plain (OpenSpec.upto zoneLocalsSpec)) zoneLocalsUptoCard

/-- THE SECOND FORM's CARD OF 'wakemanlaw03.ZoneBacks'. -/
def zoneBacksUptoCard : Claim7 := { stood := { row := zoneBacksUptoRow, standIns := [], harness := (true, "ddcd4db41dbee3778e9531d2379b4af341ad007a6f035d71f409a6fd6eadf81b"), looks := false }, kinds := [], alts := [], laidByText := true, laidKinds := [.data], laidTests := true, laidLooks := .later }
def ZoneBacksUptoCardSaid : Prop := Claim7.holds Tryd.pinned (.plain (OpenSpec.upto zoneBacksSpec)) zoneBacksUptoCard

/-- THE SECOND FORM's CARD OF 'wakemanlaw03.ZoneSames'. -/
def zoneSamesUptoCard : Claim7 := { stood := { row := zoneSamesUptoRow, standIns := [], harness := (true, "ddcd4db41dbee3778e9531d2379b4af341ad007a6f035d71f409a6fd6eadf81b"), looks := false }, kinds := [], alts := [], laidByText := true, laidKinds := [.data], laidTests := true, laidLooks := .later }
def ZoneSamesUptoCardSaid : Prop := Claim7.holds Tryd.pinned (.plain (OpenSpec.upto zoneSamesSpec)) zoneSamesUptoCard

/-- THE SECOND FORM's CARD OF 'wakemanlaw03.ZoneReturns'. -/
def zoneReturnsUptoCard : Claim7 := { stood := { row := zoneReturnsUptoRow, standIns := [], harness := (true, "ddcd4db41dbee3778e9531d2379b4af341ad007a6f035d71f409a6fd6eadf81b"), looks := false }, kinds := [], alts := [], laidByText := true, laidKinds := [.data], laidTests := true, laidLooks := .later }
def ZoneReturnsUptoCardSaid : Prop := Claim7.holds Tryd.pinned (.plain (OpenSpec.upto zoneReturnsSpec)) zoneReturnsUptoCard

/-- THE SECOND FORM's CARD OF 'wakemanlaw03.ZoneShifts'. -/
def zoneShiftsUptoCard : Claim7 := { stood := { row := zoneShiftsUptoRow, standIns := [], harness := (true, "ddcd4db41dbee3778e9531d2379b4af341ad007a6f035d71f409a6fd6eadf81b"), looks := false }, kinds := [], alts := [], laidByText := true, laidKinds := [.data], laidTests := true, laidLooks := .later }
def ZoneShiftsUptoCardSaid : Prop := Claim7.holds Tryd.pinned (.plain (OpenSpec.upto zoneShiftsSpec)) zoneShiftsUptoCard

/-- THE SECOND FORM's CARD OF 'wakemanlaw03.ZoneDays'. -/
def zoneDaysUptoCard : Claim7 := { stood := { row := zoneDaysUptoRow, standIns := [], harness := (true, "ddcd4db41dbee3778e9531d2379b4af341ad007a6f035d71f409a6fd6eadf81b"), looks := false }, kinds := [], alts := [], laidByText := true, laidKinds := [.data], laidTests := true, laidLooks := .later }
def ZoneDaysUptoCardSaid : Prop := Claim7.holds Tryd.pinned (.plain (OpenSpec.upto zoneDaysSpec)) zoneDaysUptoCard

/-- THE SECOND FORM's CARD OF 'wakemanlaw03.ZoneSplits'. -/
def zoneSplitsUptoCard : Claim7 := { stood := { row := zoneSplitsUptoRow, standIns := [], harness := (true, "ddcd4db41dbee3778e9531d2379b4af341ad007a6f035d71f409a6fd6eadf81b"), looks := false }, kinds := [], alts := [], laidByText := true, laidKinds := [.data], laidTests := true, laidLooks := .later }
def ZoneSplitsUptoCardSaid : Prop := Claim7.holds Tryd.pinned (.plain (OpenSpec.upto zoneSplitsSpec)) zoneSplitsUptoCard

/-- THE SECOND FORM's CARD OF 'wakemanlaw03.ZoneSpells'. -/
def zoneSpellsUptoCard : Claim7 := { stood := { row := zoneSpellsUptoRow, standIns := [], harness := (true, "ddcd4db41dbee3778e9531d2379b4af341ad007a6f035d71f409a6fd6eadf81b"), looks := false }, kinds := [], alts := [], laidByText := true, laidKinds := [.data], laidTests := true, laidLooks := .later }
def ZoneSpellsUptoCardSaid : Prop := Claim7.holds Tryd.pinned (.plain (OpenSpec.upto zoneSpellsSpec)) zoneSpellsUptoCard

/-- THE SECOND FORM's CARD OF 'wakemanlaw03.ZoneEnds'. -/
def zoneEndsUptoCard : Claim7 := { stood := { row := zoneEndsUptoRow, standIns := [], harness := (true, "ddcd4db41dbee3778e9531d2379b4af341ad007a6f035d71f409a6fd6eadf81b"), looks := false }, kinds := [], alts := [], laidByText := true, laidKinds := [.data], laidTests := true, laidLooks := .later }
def ZoneEndsUptoCardSaid : Prop := Claim7.holds Tryd.pinned (.plain (OpenSpec.upto zoneEndsSpec)) zoneEndsUptoCard
end Rows
end Go.Proofs.YtbnhbfemoaokkaaDoor
