/-
  DERIVED. GIVEN WITH THE SEED: THE CARDS: each row of YtbapanbgfmaolaaDoorRows.lean that lists a variable, with what it lists TIED to the program's text (the seventh form; the later family's looks); each row that meets fmt, with fmt's text TOLD by the authors' own Lean function (tested against real Go, not proved from fmt's source: count such statements apart). THE CARD IS WHAT COUNTS. Prove the row's statement (the work); the ties are given (YtbapanbgfmaolaaDoorTie.lean); close each card by the builder's one call (the guide's Derived/Test/ToyasCard.lean, 'card_holds'). Laid BY PROGRAM, IN A SANDBOX (cutbox-door.mjs). By AI agents, Wed Nov 11 2026. No macro, syntax, notation, axiom, sorry.
-/
import Derived.Test.YtbapanbgfmaolaaDoorRows
import GoSem.ClaimSeven
namespace Go.Proofs.YtbapanbgfmaolaaDoor
namespace Rows

/-- THE TIED CARD OF 'portagelaw7.Inflates'. -/
def inflatesCard : Claim7 := { stood := { row := inflatesRow, standIns := [], harness := (true, "617aaae2679e5148246da7d62ee02829c3b719126b094816a511820018b3a8bf"), looks := false }, kinds := [], alts := [], laidByText := true, laidKinds := [.data], laidTests := true, laidLooks := .later }
def InflatesCardSaid : Prop := Claim7.holds Tryd.pinned (.plain (OpenSpec.ofChange inflatesSpec)) inflatesCard

/-- THE TIED CARD OF 'portagelaw7.InflateBound'. -/
def inflateBoundCard : Claim7 := { stood := { row := inflateBoundRow, standIns := [], harness := (true, "617aaae2679e5148246da7d62ee02829c3b719126b094816a511820018b3a8bf"), looks := false }, kinds := [], alts := [], laidByText := true, laidKinds := [.data], laidTests := true, laidLooks := .later }
def InflateBoundCardSaid : Prop := Claim7.holds Tryd.pinned (.plain (OpenSpec.ofChange inflateBoundSpec)) inflateBoundCard

/-- THE TIED CARD OF 'portagelaw7.InflateForms'. -/
def inflateFormsCard : Claim7 := { stood := { row := inflateFormsRow, standIns := [], harness := (true, "617aaae2679e5148246da7d62ee02829c3b719126b094816a511820018b3a8bf"), looks := false }, kinds := [], alts := [], laidByText := true, laidKinds := [.data], laidTests := true, laidLooks := .later }
def InflateFormsCardSaid : Prop := Claim7.holds Tryd.pinned (.plain (OpenSpec.ofChange inflateFormsSpec)) inflateFormsCard

/-- THE TIED CARD OF 'portagelaw7.InflateStored'. -/
def inflateStoredCard : Claim7 := { stood := { row := inflateStoredRow, standIns := [], harness := (true, "617aaae2679e5148246da7d62ee02829c3b719126b094816a511820018b3a8bf"), looks := false }, kinds := [], alts := [], laidByText := true, laidKinds := [.data], laidTests := true, laidLooks := .later }
def InflateStoredCardSaid : Prop := Claim7.holds Tryd.pinned (.plain (OpenSpec.ofChange inflateStoredSpec)) inflateStoredCard

/-- THE TIED CARD OF 'portagelaw7.InflateFar'. -/
def inflateFarCard : Claim7 := { stood := { row := inflateFarRow, standIns := [], harness := (true, "617aaae2679e5148246da7d62ee02829c3b719126b094816a511820018b3a8bf"), looks := false }, kinds := [], alts := [], laidByText := true, laidKinds := [.data], laidTests := true, laidLooks := .later }
def InflateFarCardSaid : Prop := Claim7.holds Tryd.pinned (.plain (OpenSpec.ofChange inflateFarSpec)) inflateFarCard

/-- THE TIED CARD OF 'portagelaw7.InflateTurned'. -/
def inflateTurnedCard : Claim7 := { stood := { row := inflateTurnedRow, standIns := [], harness := (true, "617aaae2679e5148246da7d62ee02829c3b719126b094816a511820018b3a8bf"), looks := false }, kinds := [], alts := [], laidByText := true, laidKinds := [.data], laidTests := true, laidLooks := .later }
def InflateTurnedCardSaid : Prop := Claim7.holds Tryd.pinned (.plain (OpenSpec.ofChange inflateTurnedSpec)) inflateTurnedCard

/-- THE SECOND FORM's CARD OF 'portagelaw7.Inflates'. -/
def inflatesUptoCard : Claim7 := { stood := { row := inflatesUptoRow, standIns := [], harness := (true, "617aaae2679e5148246da7d62ee02829c3b719126b094816a511820018b3a8bf"), looks := false }, kinds := [], alts := [], laidByText := true, laidKinds := [.data], laidTests := true, laidLooks := .later }
def InflatesUptoCardSaid : Prop := Claim7.holds Tryd.pinned (.plain (OpenSpec.upto inflatesSpec)) inflatesUptoCard

/-- THE SECOND FORM's CARD OF 'portagelaw7.InflateBound'. -/
def inflateBoundUptoCard : Claim7 := { stood := { row := inflateBoundUptoRow, standIns := [], harness := (true, "617aaae2679e5148246da7d62ee02829c3b719126b094816a511820018b3a8bf"), looks := false }, kinds := [], alts := [], laidByText := true, laidKinds := [.data], laidTests := true, laidLooks := .later }
def InflateBoundUptoCardSaid : Prop := Claim7.holds Tryd.pinned (.plain (OpenSpec.upto inflateBoundSpec)) inflateBoundUptoCard

/-- THE SECOND FORM's CARD OF 'portagelaw7.InflateForms'. -/
def inflateFormsUptoCard : Claim7 := { stood := { row := inflateFormsUptoRow, standIns := [], harness := (true, "617aaae2679e5148246da7d62ee02829c3b719126b094816a511820018b3a8bf"), looks := false }, kinds := [], alts := [], laidByText := true, laidKinds := [.data], laidTests := true, laidLooks := .later }
def InflateFormsUptoCardSaid : Prop := Claim7.holds Tryd.pinned (.plain (OpenSpec.upto inflateFormsSpec)) inflateFormsUptoCard

/-- THE SECOND FORM's CARD OF 'portagelaw7.InflateStored'. -/
def inflateStoredUptoCard : Claim7 := { stood := { row := inflateStoredUptoRow, standIns := [], harness := (true, "617aaae2679e5148246da7d62ee02829c3b719126b094816a511820018b3a8bf"), looks := false }, kinds := [], alts := [], laidByText := true, laidKinds := [.data], laidTests := true, laidLooks := .later }
def InflateStoredUptoCardSaid : Prop := Claim7.holds Tryd.pinned (.plain (OpenSpec.upto inflateStoredSpec)) inflateStoredUptoCard

/-- THE SECOND FORM's CARD OF 'portagelaw7.InflateFar'. -/
def inflateFarUptoCard : Claim7 := { stood := { row := inflateFarUptoRow, standIns := [], harness := (true, "617aaae2679e5148246da7d62ee02829c3b719126b094816a511820018b3a8bf"), looks := false }, kinds := [], alts := [], laidByText := true, laidKinds := [.data], laidTests := true, laidLooks := .later }
def InflateFarUptoCardSaid : Prop := Claim7.holds Tryd.pinned (.plain (OpenSpec.upto inflateFarSpec)) inflateFarUptoCard

/-- THE SECOND FORM's CARD OF 'portagelaw7.InflateTurned'. -/
def inflateTurnedUptoCard : Claim7 := { stood := { row := inflateTurnedUptoRow, standIns := [], harness := (true, "617aaae2679e5148246da7d62ee02829c3b719126b094816a511820018b3a8bf"), looks := false }, kinds := [], alts := [], laidByText := true, laidKinds := [.data], laidTests := true, laidLooks := .later }
def InflateTurnedUptoCardSaid : Prop := Claim7.holds Tryd.pinned (.plain (OpenSpec.upto inflateTurnedSpec)) inflateTurnedUptoCard
end Rows
end Go.Proofs.YtbapanbgfmaolaaDoor
