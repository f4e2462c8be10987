/-
  DERIVED. GIVEN WITH THE SEED: THE CARDS: each row of YtcpfhfdgfcilaaaGreatDoorRows.lean that lists a variable, with what it lists TIED to the program's text (the seventh form; the later family's looks); each row that meets fmt, with fmt's text TOLD by the authors' own Lean function (tested against real Go, not proved from fmt's source: count such statements apart). THE CARD IS WHAT COUNTS. Prove the row's statement (the work); the ties are given (YtcpfhfdgfcilaaaGreatDoorTie.lean); close each card by the builder's one call (the guide's Derived/Test/ToyasCard.lean, 'card_holds'). Laid BY PROGRAM, IN A SANDBOX (cutbox-door.mjs). By AI agents, Wed Nov 11 2026. No macro, syntax, notation, axiom, sorry.
-/
import Derived.Test.YtcpfhfdgfcilaaaGreatDoorRows
import GoSem.ClaimSeven
namespace Go.Proofs.YtcpfhfdgfcilaaaGreatDoor
namespace Rows

/-- THE TIED CARD OF 'quiverlaw9.ReadLaid'. -/
def readLaidCard : Claim7 := { stood := { row := readLaidRow, standIns := [], harness := (true, "b67116f1933fea86db5778f1c1b5db797340249bf9970392a833b4252406c7dd"), looks := true }, kinds := [], alts := [], laidByText := true, laidKinds := [.data, .data, .data], laidTests := true, laidLooks := .later }
def ReadLaidCardSaid : Prop := Claim7.holds Tryz.pinned (.plain (OpenSpec.ofChange readLaidSpec)) readLaidCard

/-- THE TIED CARD OF 'quiverlaw9.ReadUnder'. -/
def readUnderCard : Claim7 := { stood := { row := readUnderRow, standIns := [], harness := (true, "b67116f1933fea86db5778f1c1b5db797340249bf9970392a833b4252406c7dd"), looks := true }, kinds := [], alts := [], laidByText := true, laidKinds := [.data, .data, .data], laidTests := true, laidLooks := .later }
def ReadUnderCardSaid : Prop := Claim7.holds Tryz.pinned (.plain (OpenSpec.ofChange readUnderSpec)) readUnderCard

/-- THE TIED CARD OF 'quiverlaw10.Builds'. -/
def buildsCard : Claim7 := { stood := { row := buildsRow, standIns := [], harness := (true, "b67116f1933fea86db5778f1c1b5db797340249bf9970392a833b4252406c7dd"), looks := true }, kinds := [], alts := [], laidByText := true, laidKinds := [.data, .data, .data, .sentinel, .sentinel], laidTests := true, laidLooks := .later }
def BuildsCardSaid : Prop := Claim7.holds Tryz.pinned (.plain (OpenSpec.ofChange buildsSpec)) buildsCard

/-- THE TIED CARD OF 'quiverlaw10.BuildBack'. -/
def buildBackCard : Claim7 := { stood := { row := buildBackRow, standIns := [], harness := (true, "b67116f1933fea86db5778f1c1b5db797340249bf9970392a833b4252406c7dd"), looks := true }, kinds := [], alts := [], laidByText := true, laidKinds := [.data, .data, .data, .sentinel, .sentinel], laidTests := true, laidLooks := .later }
def BuildBackCardSaid : Prop := Claim7.holds Tryz.pinned (.plain (OpenSpec.ofChange buildBackSpec)) buildBackCard

/-- THE TIED CARD OF 'quiverlaw10.BuildForms'. -/
def buildFormsCard : Claim7 := { stood := { row := buildFormsRow, standIns := [], harness := (true, "b67116f1933fea86db5778f1c1b5db797340249bf9970392a833b4252406c7dd"), looks := true }, kinds := [], alts := [], laidByText := true, laidKinds := [.data, .data, .data, .sentinel, .sentinel], laidTests := true, laidLooks := .later }
def BuildFormsCardSaid : Prop := Claim7.holds Tryz.pinned (.plain (OpenSpec.ofChange buildFormsSpec)) buildFormsCard

/-- THE TIED CARD OF 'quiverlaw10.BuildZeros'. -/
def buildZerosCard : Claim7 := { stood := { row := buildZerosRow, standIns := [], harness := (true, "b67116f1933fea86db5778f1c1b5db797340249bf9970392a833b4252406c7dd"), looks := true }, kinds := [], alts := [], laidByText := true, laidKinds := [.data, .data, .data, .sentinel, .sentinel], laidTests := true, laidLooks := .later }
def BuildZerosCardSaid : Prop := Claim7.holds Tryz.pinned (.plain (OpenSpec.ofChange buildZerosSpec)) buildZerosCard

/-- THE TIED CARD OF 'quiverlaw10.BuildBools'. -/
def buildBoolsCard : Claim7 := { stood := { row := buildBoolsRow, standIns := [], harness := (true, "b67116f1933fea86db5778f1c1b5db797340249bf9970392a833b4252406c7dd"), looks := true }, kinds := [], alts := [], laidByText := true, laidKinds := [.data, .data, .data, .sentinel, .sentinel], laidTests := true, laidLooks := .later }
def BuildBoolsCardSaid : Prop := Claim7.holds Tryz.pinned (.plain (OpenSpec.ofChange buildBoolsSpec)) buildBoolsCard

/-- THE TIED CARD OF 'quiverlaw10.BuildUnlike'. -/
def buildUnlikeCard : Claim7 := { stood := { row := buildUnlikeRow, standIns := [], harness := (true, "b67116f1933fea86db5778f1c1b5db797340249bf9970392a833b4252406c7dd"), looks := true }, kinds := [], alts := [], laidByText := true, laidKinds := [.data, .data, .data, .sentinel, .sentinel], laidTests := true, laidLooks := .later }
def BuildUnlikeCardSaid : Prop := Claim7.holds Tryz.pinned (.plain (OpenSpec.ofChange buildUnlikeSpec)) buildUnlikeCard

/-- THE TIED CARD OF 'quiverlaw12.Concats'. -/
def concatsCard : Claim7 := { stood := { row := concatsRow, standIns := [], harness := (true, "b67116f1933fea86db5778f1c1b5db797340249bf9970392a833b4252406c7dd"), looks := true }, kinds := [], alts := [], laidByText := true, laidKinds := [.data, .data, .data, .sentinel, .sentinel], laidTests := true, laidLooks := .later }
def ConcatsCardSaid : Prop := Claim7.holds Tryz.pinned (.plain (OpenSpec.ofChange concatsSpec)) concatsCard

/-- THE TIED CARD OF 'quiverlaw12.ConcatRows'. -/
def concatRowsCard : Claim7 := { stood := { row := concatRowsRow, standIns := [], harness := (true, "b67116f1933fea86db5778f1c1b5db797340249bf9970392a833b4252406c7dd"), looks := true }, kinds := [], alts := [], laidByText := true, laidKinds := [.data, .data, .data, .sentinel, .sentinel], laidTests := true, laidLooks := .later }
def ConcatRowsCardSaid : Prop := Claim7.holds Tryz.pinned (.plain (OpenSpec.ofChange concatRowsSpec)) concatRowsCard

/-- THE TIED CARD OF 'quiverlaw12.ConcatThree'. -/
def concatThreeCard : Claim7 := { stood := { row := concatThreeRow, standIns := [], harness := (true, "b67116f1933fea86db5778f1c1b5db797340249bf9970392a833b4252406c7dd"), looks := true }, kinds := [], alts := [], laidByText := true, laidKinds := [.data, .data, .data, .sentinel, .sentinel], laidTests := true, laidLooks := .later }
def ConcatThreeCardSaid : Prop := Claim7.holds Tryz.pinned (.plain (OpenSpec.ofChange concatThreeSpec)) concatThreeCard

/-- THE TIED CARD OF 'quiverlaw12.ConcatFull'. -/
def concatFullCard : Claim7 := { stood := { row := concatFullRow, standIns := [], harness := (true, "b67116f1933fea86db5778f1c1b5db797340249bf9970392a833b4252406c7dd"), looks := true }, kinds := [], alts := [], laidByText := true, laidKinds := [.data, .data, .data, .sentinel, .sentinel], laidTests := true, laidLooks := .later }
def ConcatFullCardSaid : Prop := Claim7.holds Tryz.pinned (.plain (OpenSpec.ofChange concatFullSpec)) concatFullCard

/-- THE TIED CARD OF 'quiverlaw12.ConcatParts'. -/
def concatPartsCard : Claim7 := { stood := { row := concatPartsRow, standIns := [], harness := (true, "b67116f1933fea86db5778f1c1b5db797340249bf9970392a833b4252406c7dd"), looks := true }, kinds := [], alts := [], laidByText := true, laidKinds := [.data, .data, .data, .sentinel, .sentinel], laidTests := true, laidLooks := .later }
def ConcatPartsCardSaid : Prop := Claim7.holds Tryz.pinned (.plain (OpenSpec.ofChange concatPartsSpec)) concatPartsCard

/-- THE SECOND FORM's CARD OF 'quiverlaw9.ReadLaid'. -/
def readLaidUptoCard : Claim7 := { stood := { row := readLaidUptoRow, standIns := [], harness := (true, "b67116f1933fea86db5778f1c1b5db797340249bf9970392a833b4252406c7dd"), looks := true }, kinds := [], alts := [], laidByText := true, laidKinds := [.data, .data, .data], laidTests := true, laidLooks := .later }
def ReadLaidUptoCardSaid : Prop := Claim7.holds Tryz.pinned (.plain (OpenSpec.upto readLaidSpec)) readLaidUptoCard

/-- THE SECOND FORM's CARD OF 'quiverlaw9.ReadUnder'. -/
def readUnderUptoCard : Claim7 := { stood := { row := readUnderUptoRow, standIns := [], harness := (true, "b67116f1933fea86db5778f1c1b5db797340249bf9970392a833b4252406c7dd"), looks := true }, kinds := [], alts := [], laidByText := true, laidKinds := [.data, .data, .data], laidTests := true, laidLooks := .later }
def ReadUnderUptoCardSaid : Prop := Claim7.holds Tryz.pinned (.plain (OpenSpec.upto readUnderSpec)) readUnderUptoCard

/-- THE SECOND FORM's CARD OF 'quiverlaw10.Builds'. -/
def buildsUptoCard : Claim7 := { stood := { row := buildsUptoRow, standIns := [], harness := (true, "b67116f1933fea86db5778f1c1b5db797340249bf9970392a833b4252406c7dd"), looks := true }, kinds := [], alts := [], laidByText := true, laidKinds := [.data, .data, .data, .sentinel, .sentinel], laidTests := true, laidLooks := .later }
def BuildsUptoCardSaid : Prop := Claim7.holds Tryz.pinned (.plain (OpenSpec.upto buildsSpec)) buildsUptoCard

/-- THE SECOND FORM's CARD OF 'quiverlaw10.BuildBack'. -/
def buildBackUptoCard : Claim7 := { stood := { row := buildBackUptoRow, standIns := [], harness := (true, "b67116f1933fea86db5778f1c1b5db797340249bf9970392a833b4252406c7dd"), looks := true }, kinds := [], alts := [], laidByText := true, laidKinds := [.data, .data, .data, .sentinel, .sentinel], laidTests := true, laidLooks := .later }
def BuildBackUptoCardSaid : Prop := Claim7.holds Tryz.pinned (.plain (OpenSpec.upto buildBackSpec)) buildBackUptoCard

/-- THE SECOND FORM's CARD OF 'quiverlaw10.BuildForms'. -/
def buildFormsUptoCard : Claim7 := { stood := { row := buildFormsUptoRow, standIns := [], harness := (true, "b67116f1933fea86db5778f1c1b5db797340249bf9970392a833b4252406c7dd"), looks := true }, kinds := [], alts := [], laidByText := true, laidKinds := [.data, .data, .data, .sentinel, .sentinel], laidTests := true, laidLooks := .later }
def BuildFormsUptoCardSaid : Prop := Claim7.holds Tryz.pinned (.plain (OpenSpec.upto buildFormsSpec)) buildFormsUptoCard

/-- THE SECOND FORM's CARD OF 'quiverlaw10.BuildZeros'. -/
def buildZerosUptoCard : Claim7 := { stood := { row := buildZerosUptoRow, standIns := [], harness := (true, "b67116f1933fea86db5778f1c1b5db797340249bf9970392a833b4252406c7dd"), looks := true }, kinds := [], alts := [], laidByText := true, laidKinds := [.data, .data, .data, .sentinel, .sentinel], laidTests := true, laidLooks := .later }
def BuildZerosUptoCardSaid : Prop := Claim7.holds Tryz.pinned (.plain (OpenSpec.upto buildZerosSpec)) buildZerosUptoCard

/-- THE SECOND FORM's CARD OF 'quiverlaw10.BuildBools'. -/
def buildBoolsUptoCard : Claim7 := { stood := { row := buildBoolsUptoRow, standIns := [], harness := (true, "b67116f1933fea86db5778f1c1b5db797340249bf9970392a833b4252406c7dd"), looks := true }, kinds := [], alts := [], laidByText := true, laidKinds := [.data, .data, .data, .sentinel, .sentinel], laidTests := true, laidLooks := .later }
def BuildBoolsUptoCardSaid : Prop := Claim7.holds Tryz.pinned (.plain (OpenSpec.upto buildBoolsSpec)) buildBoolsUptoCard

/-- THE SECOND FORM's CARD OF 'quiverlaw10.BuildUnlike'. -/
def buildUnlikeUptoCard : Claim7 := { stood := { row := buildUnlikeUptoRow, standIns := [], harness := (true, "b67116f1933fea86db5778f1c1b5db797340249bf9970392a833b4252406c7dd"), looks := true }, kinds := [], alts := [], laidByText := true, laidKinds := [.data, .data, .data, .sentinel, .sentinel], laidTests := true, laidLooks := .later }
def BuildUnlikeUptoCardSaid : Prop := Claim7.holds Tryz.pinned (.plain (OpenSpec.upto buildUnlikeSpec)) buildUnlikeUptoCard

/-- THE SECOND FORM's CARD OF 'quiverlaw12.Concats'. -/
def concatsUptoCard : Claim7 := { stood := { row := concatsUptoRow, standIns := [], harness := (true, "b67116f1933fea86db5778f1c1b5db797340249bf9970392a833b4252406c7dd"), looks := true }, kinds := [], alts := [], laidByText := true, laidKinds := [.data, .data, .data, .sentinel, .sentinel], laidTests := true, laidLooks := .later }
def ConcatsUptoCardSaid : Prop := Claim7.holds Tryz.pinned (.plain (OpenSpec.upto concatsSpec)) concatsUptoCard

/-- THE SECOND FORM's CARD OF 'quiverlaw12.ConcatRows'. -/
def concatRowsUptoCard : Claim7 := { stood := { row := concatRowsUptoRow, standIns := [], harness := (true, "b67116f1933fea86db5778f1c1b5db797340249bf9970392a833b4252406c7dd"), looks := true }, kinds := [], alts := [], laidByText := true, laidKinds := [.data, .data, .data, .sentinel, .sentinel], laidTests := true, laidLooks := .later }
def ConcatRowsUptoCardSaid : Prop := Claim7.holds Tryz.pinned (.plain (OpenSpec.upto concatRowsSpec)) concatRowsUptoCard

/-- THE SECOND FORM's CARD OF 'quiverlaw12.ConcatThree'. -/
def concatThreeUptoCard : Claim7 := { stood := { row := concatThreeUptoRow, standIns := [], harness := (true, "b67116f1933fea86db5778f1c1b5db797340249bf9970392a833b4252406c7dd"), looks := true }, kinds := [], alts := [], laidByText := true, laidKinds := [.data, .data, .data, .sentinel, .sentinel], laidTests := true, laidLooks := .later }
def ConcatThreeUptoCardSaid : Prop := Claim7.holds Tryz.pinned (.plain (OpenSpec.upto concatThreeSpec)) concatThreeUptoCard

/-- THE SECOND FORM's CARD OF 'quiverlaw12.ConcatFull'. -/
def concatFullUptoCard : Claim7 := { stood := { row := concatFullUptoRow, standIns := [], harness := (true, "b67116f1933fea86db5778f1c1b5db797340249bf9970392a833b4252406c7dd"), looks := true }, kinds := [], alts := [], laidByText := true, laidKinds := [.data, .data, .data, .sentinel, .sentinel], laidTests := true, laidLooks := .later }
def ConcatFullUptoCardSaid : Prop := Claim7.holds Tryz.pinned (.plain (OpenSpec.upto concatFullSpec)) concatFullUptoCard

/-- THE SECOND FORM's CARD OF 'quiverlaw12.ConcatParts'. -/
def concatPartsUptoCard : Claim7 := { stood := { row := concatPartsUptoRow, standIns := [], harness := (true, "b67116f1933fea86db5778f1c1b5db797340249bf9970392a833b4252406c7dd"), looks := true }, kinds := [], alts := [], laidByText := true, laidKinds := [.data, .data, .data, .sentinel, .sentinel], laidTests := true, laidLooks := .later }
def ConcatPartsUptoCardSaid : Prop := Claim7.holds Tryz.pinned (.plain (OpenSpec.upto concatPartsSpec)) concatPartsUptoCard
end Rows
end Go.Proofs.YtcpfhfdgfcilaaaGreatDoor
