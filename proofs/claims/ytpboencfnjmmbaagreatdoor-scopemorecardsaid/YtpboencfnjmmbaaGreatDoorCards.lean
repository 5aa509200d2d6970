/-
  DERIVED. GIVEN WITH THE SEED: THE CARDS: each row of YtpboencfnjmmbaaGreatDoorRows.lean that lists a variable, with what it lists TIED to the program's text (the seventh form; the later family's looks); each row that meets fmt, with fmt's text TOLD by the authors' own Lean function (tested against real Go, not proved from fmt's source: count such statements apart). THE CARD IS WHAT COUNTS. Prove the row's statement (the work); the ties are given (YtpboencfnjmmbaaGreatDoorTie.lean); close each card by the builder's one call (the guide's Derived/Test/ToyasCard.lean, 'card_holds'). Laid BY PROGRAM, IN A SANDBOX (cutbox-door.mjs). By AI agents, Wed Nov 11 2026. No macro, syntax, notation, axiom, sorry.
-/
import Derived.Test.YtpboencfnjmmbaaGreatDoorRows
import GoSem.ClaimSeven
namespace Go.Proofs.YtpboencfnjmmbaaGreatDoor
namespace Rows

/-- THE TIED CARD OF 'palinglaw11.ValidChecks'. -/
def validChecksCard : Claim7 := { stood := { row := validChecksRow, standIns := [], harness := (true, "26be1f79f5995bc8ef07ad1215d2e35791fe1b635a95ed222ebd83efc896d142"), looks := true }, kinds := [], alts := [], laidByText := true, laidKinds := [.data, .data, .data, .sentinel, .sentinel, .data, .data, .data, .data], laidTests := true, laidLooks := .later }
def ValidChecksCardSaid : Prop := Claim7.holds Tryz.pinned (.plain (OpenSpec.ofChange validChecksSpec)) validChecksCard

/-- THE TIED CARD OF 'palinglaw11.ValidMade'. -/
def validMadeCard : Claim7 := { stood := { row := validMadeRow, standIns := [], harness := (true, "26be1f79f5995bc8ef07ad1215d2e35791fe1b635a95ed222ebd83efc896d142"), looks := true }, kinds := [], alts := [], laidByText := true, laidKinds := [.data, .data, .data, .sentinel, .sentinel, .data, .data, .data, .data], laidTests := true, laidLooks := .later }
def ValidMadeCardSaid : Prop := Claim7.holds Tryz.pinned (.plain (OpenSpec.ofChange validMadeSpec)) validMadeCard

/-- THE TIED CARD OF 'palinglaw11.ValidMany'. -/
def validManyCard : Claim7 := { stood := { row := validManyRow, standIns := [], harness := (true, "26be1f79f5995bc8ef07ad1215d2e35791fe1b635a95ed222ebd83efc896d142"), looks := true }, kinds := [], alts := [], laidByText := true, laidKinds := [.data, .data, .data, .sentinel, .sentinel, .data, .data, .data, .data], laidTests := true, laidLooks := .later }
def ValidManyCardSaid : Prop := Claim7.holds Tryz.pinned (.plain (OpenSpec.ofChange validManySpec)) validManyCard

/-- THE TIED CARD OF 'palinglaw11.ValidJoins'. -/
def validJoinsCard : Claim7 := { stood := { row := validJoinsRow, standIns := [], harness := (true, "26be1f79f5995bc8ef07ad1215d2e35791fe1b635a95ed222ebd83efc896d142"), looks := true }, kinds := [], alts := [], laidByText := true, laidKinds := [.data, .data, .data, .sentinel, .sentinel, .data, .data, .data, .data], laidTests := true, laidLooks := .later }
def ValidJoinsCardSaid : Prop := Claim7.holds Tryz.pinned (.plain (OpenSpec.ofChange validJoinsSpec)) validJoinsCard

/-- THE TIED CARD OF 'palinglaw06.TreePrints'. -/
def treePrintsCard : Claim7 := { stood := { row := treePrintsRow, standIns := [], harness := (true, "26be1f79f5995bc8ef07ad1215d2e35791fe1b635a95ed222ebd83efc896d142"), looks := true }, kinds := [], alts := [], laidByText := true, laidKinds := [.data, .data, .data, .sentinel, .sentinel, .data], laidTests := true, laidLooks := .later }
def TreePrintsCardSaid : Prop := Claim7.holds Tryz.pinned (.plain (OpenSpec.ofChange treePrintsSpec)) treePrintsCard

/-- THE TIED CARD OF 'palinglaw06.TreeSames'. -/
def treeSamesCard : Claim7 := { stood := { row := treeSamesRow, standIns := [], harness := (true, "26be1f79f5995bc8ef07ad1215d2e35791fe1b635a95ed222ebd83efc896d142"), looks := true }, kinds := [], alts := [], laidByText := true, laidKinds := [.data, .data, .data, .sentinel, .sentinel, .data], laidTests := true, laidLooks := .later }
def TreeSamesCardSaid : Prop := Claim7.holds Tryz.pinned (.plain (OpenSpec.ofChange treeSamesSpec)) treeSamesCard

/-- THE TIED CARD OF 'palinglaw08.ScopeFree'. -/
def scopeFreeCard : Claim7 := { stood := { row := scopeFreeRow, standIns := [], harness := (true, "26be1f79f5995bc8ef07ad1215d2e35791fe1b635a95ed222ebd83efc896d142"), looks := true }, kinds := [], alts := [], laidByText := true, laidKinds := [.data, .data, .data, .sentinel, .sentinel, .data, .data], laidTests := true, laidLooks := .later }
def ScopeFreeCardSaid : Prop := Claim7.holds Tryz.pinned (.plain (OpenSpec.ofChange scopeFreeSpec)) scopeFreeCard

/-- THE TIED CARD OF 'palinglaw08.ScopeMore'. -/
def scopeMoreCard : Claim7 := { stood := { row := scopeMoreRow, standIns := [], harness := (true, "26be1f79f5995bc8ef07ad1215d2e35791fe1b635a95ed222ebd83efc896d142"), looks := true }, kinds := [], alts := [], laidByText := true, laidKinds := [.data, .data, .data, .sentinel, .sentinel, .data, .data], laidTests := true, laidLooks := .later }
def ScopeMoreCardSaid : Prop := Claim7.holds Tryz.pinned (.plain (OpenSpec.ofChange scopeMoreSpec)) scopeMoreCard

/-- THE TIED CARD OF 'palinglaw08.ScopeInner'. -/
def scopeInnerCard : Claim7 := { stood := { row := scopeInnerRow, standIns := [], harness := (true, "26be1f79f5995bc8ef07ad1215d2e35791fe1b635a95ed222ebd83efc896d142"), looks := true }, kinds := [], alts := [], laidByText := true, laidKinds := [.data, .data, .data, .sentinel, .sentinel, .data, .data], laidTests := true, laidLooks := .later }
def ScopeInnerCardSaid : Prop := Claim7.holds Tryz.pinned (.plain (OpenSpec.ofChange scopeInnerSpec)) scopeInnerCard

/-- THE SECOND FORM's CARD OF 'palinglaw11.ValidChecks'. -/
def validChecksUptoCard : Claim7 := { stood := { row := validChecksUptoRow, standIns := [], harness := (true, "26be1f79f5995bc8ef07ad1215d2e35791fe1b635a95ed222ebd83efc896d142"), looks := true }, kinds := [], alts := [], laidByText := true, laidKinds := [.data, .data, .data, .sentinel, .sentinel, .data, .data, .data, .data], laidTests := true, laidLooks := .later }
def ValidChecksUptoCardSaid : Prop := Claim7.holds Tryz.pinned (.plain (OpenSpec.upto validChecksSpec)) validChecksUptoCard

/-- THE SECOND FORM's CARD OF 'palinglaw11.ValidMade'. -/
def validMadeUptoCard : Claim7 := { stood := { row := validMadeUptoRow, standIns := [], harness := (true, "26be1f79f5995bc8ef07ad1215d2e35791fe1b635a95ed222ebd83efc896d142"), looks := true }, kinds := [], alts := [], laidByText := true, laidKinds := [.data, .data, .data, .sentinel, .sentinel, .data, .data, .data, .data], laidTests := true, laidLooks := .later }
def ValidMadeUptoCardSaid : Prop := Claim7.holds Tryz.pinned (.plain (OpenSpec.upto validMadeSpec)) validMadeUptoCard

/-- THE SECOND FORM's CARD OF 'palinglaw11.ValidMany'. -/
def validManyUptoCard : Claim7 := { stood := { row := validManyUptoRow, standIns := [], harness := (true, "26be1f79f5995bc8ef07ad1215d2e35791fe1b635a95ed222ebd83efc896d142"), looks := true }, kinds := [], alts := [], laidByText := true, laidKinds := [.data, .data, .data, .sentinel, .sentinel, .data, .data, .data, .data], laidTests := true, laidLooks := .later }
def ValidManyUptoCardSaid : Prop := Claim7.holds Tryz.pinned (.plain (OpenSpec.upto validManySpec)) validManyUptoCard

/-- THE SECOND FORM's CARD OF 'palinglaw11.ValidJoins'. -/
def validJoinsUptoCard : Claim7 := { stood := { row := validJoinsUptoRow, standIns := [], harness := (true, "26be1f79f5995bc8ef07ad1215d2e35791fe1b635a95ed222ebd83efc896d142"), looks := true }, kinds := [], alts := [], laidByText := true, laidKinds := [.data, .data, .data, .sentinel, .sentinel, .data, .data, .data, .data], laidTests := true, laidLooks := .later }
def ValidJoinsUptoCardSaid : Prop := Claim7.holds Tryz.pinned (.plain (OpenSpec.upto validJoinsSpec)) validJoinsUptoCard

/-- THE SECOND FORM's CARD OF 'palinglaw06.TreePrints'. -/
def treePrintsUptoCard : Claim7 := { stood := { row := treePrintsUptoRow, standIns := [], harness := (true, "26be1f79f5995bc8ef07ad1215d2e35791fe1b635a95ed222ebd83efc896d142"), looks := true }, kinds := [], alts := [], laidByText := true, laidKinds := [.data, .data, .data, .sentinel, .sentinel, .data], laidTests := true, laidLooks := .later }
def TreePrintsUptoCardSaid : Prop := Claim7.holds Tryz.pinned (.plain (OpenSpec.upto treePrintsSpec)) treePrintsUptoCard

/-- THE SECOND FORM's CARD OF 'palinglaw06.TreeSames'. -/
def treeSamesUptoCard : Claim7 := { stood := { row := treeSamesUptoRow, standIns := [], harness := (true, "26be1f79f5995bc8ef07ad1215d2e35791fe1b635a95ed222ebd83efc896d142"), looks := true }, kinds := [], alts := [], laidByText := true, laidKinds := [.data, .data, .data, .sentinel, .sentinel, .data], laidTests := true, laidLooks := .later }
def TreeSamesUptoCardSaid : Prop := Claim7.holds Tryz.pinned (.plain (OpenSpec.upto treeSamesSpec)) treeSamesUptoCard

/-- THE SECOND FORM's CARD OF 'palinglaw08.ScopeFree'. -/
def scopeFreeUptoCard : Claim7 := { stood := { row := scopeFreeUptoRow, standIns := [], harness := (true, "26be1f79f5995bc8ef07ad1215d2e35791fe1b635a95ed222ebd83efc896d142"), looks := true }, kinds := [], alts := [], laidByText := true, laidKinds := [.data, .data, .data, .sentinel, .sentinel, .data, .data], laidTests := true, laidLooks := .later }
def ScopeFreeUptoCardSaid : Prop := Claim7.holds Tryz.pinned (.plain (OpenSpec.upto scopeFreeSpec)) scopeFreeUptoCard

/-- THE SECOND FORM's CARD OF 'palinglaw08.ScopeMore'. -/
def scopeMoreUptoCard : Claim7 := { stood := { row := scopeMoreUptoRow, standIns := [], harness := (true, "26be1f79f5995bc8ef07ad1215d2e35791fe1b635a95ed222ebd83efc896d142"), looks := true }, kinds := [], alts := [], laidByText := true, laidKinds := [.data, .data, .data, .sentinel, .sentinel, .data, .data], laidTests := true, laidLooks := .later }
def ScopeMoreUptoCardSaid : Prop := Claim7.holds Tryz.pinned (.plain (OpenSpec.upto scopeMoreSpec)) scopeMoreUptoCard

/-- THE SECOND FORM's CARD OF 'palinglaw08.ScopeInner'. -/
def scopeInnerUptoCard : Claim7 := { stood := { row := scopeInnerUptoRow, standIns := [], harness := (true, "26be1f79f5995bc8ef07ad1215d2e35791fe1b635a95ed222ebd83efc896d142"), looks := true }, kinds := [], alts := [], laidByText := true, laidKinds := [.data, .data, .data, .sentinel, .sentinel, .data, .data], laidTests := true, laidLooks := .later }
def ScopeInnerUptoCardSaid : Prop := Claim7.holds Tryz.pinned (.plain (OpenSpec.upto scopeInnerSpec)) scopeInnerUptoCard
end Rows
end Go.Proofs.YtpboencfnjmmbaaGreatDoor
