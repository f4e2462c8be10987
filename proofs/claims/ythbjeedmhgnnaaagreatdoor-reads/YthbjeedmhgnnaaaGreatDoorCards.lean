/-
  DERIVED. GIVEN WITH THE SEED: THE CARDS: each row of YthbjeedmhgnnaaaGreatDoorRows.lean that lists a variable, with what it lists TIED to the program's text (the seventh form; the later family's looks); each row that meets fmt, with fmt's text TOLD by the authors' own Lean function (tested against real Go, not proved from fmt's source: count such statements apart). THE CARD IS WHAT COUNTS. Prove the row's statement (the work); the ties are given (YthbjeedmhgnnaaaGreatDoorTie.lean); close each card by the builder's one call (the guide's Derived/Test/ToyasCard.lean, 'card_holds'). Laid BY PROGRAM, IN A SANDBOX (cutbox-door.mjs). By AI agents, Wed Nov 11 2026. No macro, syntax, notation, axiom, sorry.
-/
import Derived.Test.YthbjeedmhgnnaaaGreatDoorRows
import GoSem.ClaimSeven
namespace Go.Proofs.YthbjeedmhgnnaaaGreatDoor
namespace Rows

/-- THE TIED CARD OF 'quiverlaw9.Reads'. -/
def readsCard : Claim7 := { stood := { row := readsRow, standIns := [], harness := (true, "ede7692ed42ede84ee1f6f7d68d929b174eb1c55be7630c6b81b25a3e86c5bfe"), looks := true }, kinds := [], alts := [], laidByText := true, laidKinds := [.data, .data, .data], laidTests := true, laidLooks := .later }
def ReadsCardSaid : Prop := Claim7.holds Tryz.pinned (.plain (OpenSpec.ofChange readsSpec)) readsCard

/-- THE TIED CARD OF 'quiverlaw9.ReadFits'. -/
def readFitsCard : Claim7 := { stood := { row := readFitsRow, standIns := [], harness := (true, "ede7692ed42ede84ee1f6f7d68d929b174eb1c55be7630c6b81b25a3e86c5bfe"), looks := true }, kinds := [], alts := [], laidByText := true, laidKinds := [.data, .data, .data], laidTests := true, laidLooks := .later }
def ReadFitsCardSaid : Prop := Claim7.holds Tryz.pinned (.plain (OpenSpec.ofChange readFitsSpec)) readFitsCard

/-- THE TIED CARD OF 'quiverlaw9.ReadForms'. -/
def readFormsCard : Claim7 := { stood := { row := readFormsRow, standIns := [], harness := (true, "ede7692ed42ede84ee1f6f7d68d929b174eb1c55be7630c6b81b25a3e86c5bfe"), looks := true }, kinds := [], alts := [], laidByText := true, laidKinds := [.data, .data, .data], laidTests := true, laidLooks := .later }
def ReadFormsCardSaid : Prop := Claim7.holds Tryz.pinned (.plain (OpenSpec.ofChange readFormsSpec)) readFormsCard

/-- THE TIED CARD OF 'quiverlaw9.ReadLaid'. -/
def readLaidCard : Claim7 := { stood := { row := readLaidRow, standIns := [], harness := (true, "ede7692ed42ede84ee1f6f7d68d929b174eb1c55be7630c6b81b25a3e86c5bfe"), looks := true }, kinds := [], alts := [], laidByText := true, laidKinds := [.data, .data, .data], laidTests := true, laidLooks := .later }
def ReadLaidCardSaid : Prop := Claim7.holds Tryz.pinned (.plain (OpenSpec.ofChange readLaidSpec)) readLaidCard

/-- THE TIED CARD OF 'quiverlaw9.ReadUnder'. -/
def readUnderCard : Claim7 := { stood := { row := readUnderRow, standIns := [], harness := (true, "ede7692ed42ede84ee1f6f7d68d929b174eb1c55be7630c6b81b25a3e86c5bfe"), looks := true }, kinds := [], alts := [], laidByText := true, laidKinds := [.data, .data, .data], laidTests := true, laidLooks := .later }
def ReadUnderCardSaid : Prop := Claim7.holds Tryz.pinned (.plain (OpenSpec.ofChange readUnderSpec)) readUnderCard

/-- THE TIED CARD OF 'quiverlaw10.Builds'. -/
def buildsCard : Claim7 := { stood := { row := buildsRow, standIns := [], harness := (true, "ede7692ed42ede84ee1f6f7d68d929b174eb1c55be7630c6b81b25a3e86c5bfe"), looks := true }, kinds := [], alts := [], laidByText := true, laidKinds := [.data, .data, .data, .sentinel, .sentinel], laidTests := true, laidLooks := .later }
def BuildsCardSaid : Prop := Claim7.holds Tryz.pinned (.plain (OpenSpec.ofChange buildsSpec)) buildsCard

/-- THE TIED CARD OF 'quiverlaw10.BuildBack'. -/
def buildBackCard : Claim7 := { stood := { row := buildBackRow, standIns := [], harness := (true, "ede7692ed42ede84ee1f6f7d68d929b174eb1c55be7630c6b81b25a3e86c5bfe"), looks := true }, kinds := [], alts := [], laidByText := true, laidKinds := [.data, .data, .data, .sentinel, .sentinel], laidTests := true, laidLooks := .later }
def BuildBackCardSaid : Prop := Claim7.holds Tryz.pinned (.plain (OpenSpec.ofChange buildBackSpec)) buildBackCard

/-- THE TIED CARD OF 'quiverlaw10.BuildForms'. -/
def buildFormsCard : Claim7 := { stood := { row := buildFormsRow, standIns := [], harness := (true, "ede7692ed42ede84ee1f6f7d68d929b174eb1c55be7630c6b81b25a3e86c5bfe"), looks := true }, kinds := [], alts := [], laidByText := true, laidKinds := [.data, .data, .data, .sentinel, .sentinel], laidTests := true, laidLooks := .later }
def BuildFormsCardSaid : Prop := Claim7.holds Tryz.pinned (.plain (OpenSpec.ofChange buildFormsSpec)) buildFormsCard

/-- THE TIED CARD OF 'quiverlaw10.BuildZeros'. -/
def buildZerosCard : Claim7 := { stood := { row := buildZerosRow, standIns := [], harness := (true, "ede7692ed42ede84ee1f6f7d68d929b174eb1c55be7630c6b81b25a3e86c5bfe"), looks := true }, kinds := [], alts := [], laidByText := true, laidKinds := [.data, .data, .data, .sentinel, .sentinel], laidTests := true, laidLooks := .later }
def BuildZerosCardSaid : Prop := Claim7.holds Tryz.pinned (.plain (OpenSpec.ofChange buildZerosSpec)) buildZerosCard

/-- THE TIED CARD OF 'quiverlaw10.BuildBools'. -/
def buildBoolsCard : Claim7 := { stood := { row := buildBoolsRow, standIns := [], harness := (true, "ede7692ed42ede84ee1f6f7d68d929b174eb1c55be7630c6b81b25a3e86c5bfe"), looks := true }, kinds := [], alts := [], laidByText := true, laidKinds := [.data, .data, .data, .sentinel, .sentinel], laidTests := true, laidLooks := .later }
def BuildBoolsCardSaid : Prop := Claim7.holds Tryz.pinned (.plain (OpenSpec.ofChange buildBoolsSpec)) buildBoolsCard

/-- THE TIED CARD OF 'quiverlaw10.BuildUnlike'. -/
def buildUnlikeCard : Claim7 := { stood := { row := buildUnlikeRow, standIns := [], harness := (true, "ede7692ed42ede84ee1f6f7d68d929b174eb1c55be7630c6b81b25a3e86c5bfe"), looks := true }, kinds := [], alts := [], laidByText := true, laidKinds := [.data, .data, .data, .sentinel, .sentinel], laidTests := true, laidLooks := .later }
def BuildUnlikeCardSaid : Prop := Claim7.holds Tryz.pinned (.plain (OpenSpec.ofChange buildUnlikeSpec)) buildUnlikeCard

/-- THE SECOND FORM's CARD OF 'quiverlaw9.Reads'. -/
def readsUptoCard : Claim7 := { stood := { row := readsUptoRow, standIns := [], harness := (true, "ede7692ed42ede84ee1f6f7d68d929b174eb1c55be7630c6b81b25a3e86c5bfe"), looks := true }, kinds := [], alts := [], laidByText := true, laidKinds := [.data, .data, .data], laidTests := true, laidLooks := .later }
def ReadsUptoCardSaid : Prop := Claim7.holds Tryz.pinned (.plain (OpenSpec.upto readsSpec)) readsUptoCard

/-- THE SECOND FORM's CARD OF 'quiverlaw9.ReadFits'. -/
def readFitsUptoCard : Claim7 := { stood := { row := readFitsUptoRow, standIns := [], harness := (true, "ede7692ed42ede84ee1f6f7d68d929b174eb1c55be7630c6b81b25a3e86c5bfe"), looks := true }, kinds := [], alts := [], laidByText := true, laidKinds := [.data, .data, .data], laidTests := true, laidLooks := .later }
def ReadFitsUptoCardSaid : Prop := Claim7.holds Tryz.pinned (.plain (OpenSpec.upto readFitsSpec)) readFitsUptoCard

/-- THE SECOND FORM's CARD OF 'quiverlaw9.ReadForms'. -/
def readFormsUptoCard : Claim7 := { stood := { row := readFormsUptoRow, standIns := [], harness := (true, "ede7692ed42ede84ee1f6f7d68d929b174eb1c55be7630c6b81b25a3e86c5bfe"), looks := true }, kinds := [], alts := [], laidByText := true, laidKinds := [.data, .data, .data], laidTests := true, laidLooks := .later }
def ReadFormsUptoCardSaid : Prop := Claim7.holds Tryz.pinned (.plain (OpenSpec.upto readFormsSpec)) readFormsUptoCard

/-- THE SECOND FORM's CARD OF 'quiverlaw9.ReadLaid'. -/
def readLaidUptoCard : Claim7 := { stood := { row := readLaidUptoRow, standIns := [], harness := (true, "ede7692ed42ede84ee1f6f7d68d929b174eb1c55be7630c6b81b25a3e86c5bfe"), looks := true }, kinds := [], alts := [], laidByText := true, laidKinds := [.data, .data, .data], laidTests := true, laidLooks := .later }
def ReadLaidUptoCardSaid : Prop := Claim7.holds Tryz.pinned (.plain (OpenSpec.upto readLaidSpec)) readLaidUptoCard

/-- THE SECOND FORM's CARD OF 'quiverlaw9.ReadUnder'. -/
def readUnderUptoCard : Claim7 := { stood := { row := readUnderUptoRow, standIns := [], harness := (true, "ede7692ed42ede84ee1f6f7d68d929b174eb1c55be7630c6b81b25a3e86c5bfe"), looks := true }, kinds := [], alts := [], laidByText := true, laidKinds := [.data, .data, .data], laidTests := true, laidLooks := .later }
def ReadUnderUptoCardSaid : Prop := Claim7.holds Tryz.pinned (.plain (OpenSpec.upto readUnderSpec)) readUnderUptoCard

/-- THE SECOND FORM's CARD OF 'quiverlaw10.Builds'. -/
def buildsUptoCard : Claim7 := { stood := { row := buildsUptoRow, standIns := [], harness := (true, "ede7692ed42ede84ee1f6f7d68d929b174eb1c55be7630c6b81b25a3e86c5bfe"), looks := true }, kinds := [], alts := [], laidByText := true, laidKinds := [.data, .data, .data, .sentinel, .sentinel], laidTests := true, laidLooks := .later }
def BuildsUptoCardSaid : Prop := Claim7.holds Tryz.pinned (.plain (OpenSpec.upto buildsSpec)) buildsUptoCard

/-- THE SECOND FORM's CARD OF 'quiverlaw10.BuildBack'. -/
def buildBackUptoCard : Claim7 := { stood := { row := buildBackUptoRow, standIns := [], harness := (true, "ede7692ed42ede84ee1f6f7d68d929b174eb1c55be7630c6b81b25a3e86c5bfe"), looks := true }, kinds := [], alts := [], laidByText := true, laidKinds := [.data, .data, .data, .sentinel, .sentinel], laidTests := true, laidLooks := .later }
def BuildBackUptoCardSaid : Prop := Claim7.holds Tryz.pinned (.plain (OpenSpec.upto buildBackSpec)) buildBackUptoCard

/-- THE SECOND FORM's CARD OF 'quiverlaw10.BuildForms'. -/
def buildFormsUptoCard : Claim7 := { stood := { row := buildFormsUptoRow, standIns := [], harness := (true, "ede7692ed42ede84ee1f6f7d68d929b174eb1c55be7630c6b81b25a3e86c5bfe"), looks := true }, kinds := [], alts := [], laidByText := true, laidKinds := [.data, .data, .data, .sentinel, .sentinel], laidTests := true, laidLooks := .later }
def BuildFormsUptoCardSaid : Prop := Claim7.holds Tryz.pinned (.plain (OpenSpec.upto buildFormsSpec)) buildFormsUptoCard

/-- THE SECOND FORM's CARD OF 'quiverlaw10.BuildZeros'. -/
def buildZerosUptoCard : Claim7 := { stood := { row := buildZerosUptoRow, standIns := [], harness := (true, "ede7692ed42ede84ee1f6f7d68d929b174eb1c55be7630c6b81b25a3e86c5bfe"), looks := true }, kinds := [], alts := [], laidByText := true, laidKinds := [.data, .data, .data, .sentinel, .sentinel], laidTests := true, laidLooks := .later }
def BuildZerosUptoCardSaid : Prop := Claim7.holds Tryz.pinned (.plain (OpenSpec.upto buildZerosSpec)) buildZerosUptoCard

/-- THE SECOND FORM's CARD OF 'quiverlaw10.BuildBools'. -/
def buildBoolsUptoCard : Claim7 := { stood := { row := buildBoolsUptoRow, standIns := [], harness := (true, "ede7692ed42ede84ee1f6f7d68d929b174eb1c55be7630c6b81b25a3e86c5bfe"), looks := true }, kinds := [], alts := [], laidByText := true, laidKinds := [.data, .data, .data, .sentinel, .sentinel], laidTests := true, laidLooks := .later }
def BuildBoolsUptoCardSaid : Prop := Claim7.holds Tryz.pinned (.plain (OpenSpec.upto buildBoolsSpec)) buildBoolsUptoCard

/-- THE SECOND FORM's CARD OF 'quiverlaw10.BuildUnlike'. -/
def buildUnlikeUptoCard : Claim7 := { stood := { row := buildUnlikeUptoRow, standIns := [], harness := (true, "ede7692ed42ede84ee1f6f7d68d929b174eb1c55be7630c6b81b25a3e86c5bfe"), looks := true }, kinds := [], alts := [], laidByText := true, laidKinds := [.data, .data, .data, .sentinel, .sentinel], laidTests := true, laidLooks := .later }
def BuildUnlikeUptoCardSaid : Prop := Claim7.holds Tryz.pinned (.plain (OpenSpec.upto buildUnlikeSpec)) buildUnlikeUptoCard
end Rows
end Go.Proofs.YthbjeedmhgnnaaaGreatDoor
