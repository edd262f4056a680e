/-
  No cell of these rows narrows 'for every input' (looked for: loops, veiled, ifaces, maps, wideKeys, modest, calm, conditions, laid).
  DERIVED. THE GIVEN ROWS OF THIS SEAT. 4 by the template 'for every input the law returns true; each argument reads behind the call as it read before'; 0 by the template 'total and deterministic' (their statements: YtgbkipadbdochaaTotals.lean).
  GIVEN WITH THE SEED: the statements are not yours to turn. If you find one false, say at which input.
  Laid BY PROGRAM, IN A SANDBOX (cutbox-rows.mjs): the forced cells as the released guide's own fill.sh prints them over the translation c3bd9aa2dbd2dabb… (all of the seat's roots in one cut). By AI agents, Wed Nov 11 2026. No macro, syntax, notation, axiom, sorry.
-/
import Derived.Test.YtgbkipadbdochaaChecked
import GoSem.Claim
import GoSem.ClaimJoined
import GoSem.ClaimMapViews
import Derived.JoinedTies
import Derived.KernelRfl
namespace Go.Proofs.Ytgbkipadbdochaa
/- THE CELL 'sum', in the pinned program and in every row, IS THE sha256 OF THE DUMP (.gsa) THAT YtgbkipadbdochaaProg.lean LOADS. Nothing in Lean hashes anything: it is a label: what it is worth is what the hold of that sum in a sandbox is worth. -/
noncomputable def Try.pinned : Pinned := { name := "ytgbkipadbdochaa", sum := "c3bd9aa2dbd2dabb925f8c6253553fbbaadd7e00b950e734cd76b0e3278ba2bc", checked := Try.checked }
namespace Rows
def none {H : Type} : Left H := { results := [], args := [] }

/-- 'portagelaw13.ZipParts': WHATEVER THE INPUT: true; the input reads as it did. -/
def zipPartsSpec : ChangeSpec := { name := "zipParts", fn := fun _ => fun
  | [d] => { results := [.lit (.bool true)], args := [d] }
  | _ => none }
def zipPartsRow : OpenClaim := { program := "ytgbkipadbdochaa", sum := "c3bd9aa2dbd2dabb925f8c6253553fbbaadd7e00b950e734cd76b0e3278ba2bc", func := "portage/portagelaw13.ZipParts", spec := "zipParts", unfollowed := true, recurses := true, apart := false }
def ZipPartsSaid : Prop := zipPartsRow.holds Try.pinned (OpenSpec.ofChange zipPartsSpec)

/-- ITS FALSE NEIGHBOUR: 'it returns false'. Refute it at one input. -/
def zipPartsWrong : ChangeSpec := { name := "zipParts", fn := fun _ => fun
  | [d] => { results := [.lit (.bool false)], args := [d] }
  | _ => none }
def ZipPartsWrongFalsely : Prop := zipPartsRow.holds Try.pinned (OpenSpec.ofChange zipPartsWrong)

/-- 'portagelaw13.ZipForms': WHATEVER THE INPUT: true; the input reads as it did. -/
def zipFormsSpec : ChangeSpec := { name := "zipForms", fn := fun _ => fun
  | [d1, d2] => { results := [.lit (.bool true)], args := [d1, d2] }
  | _ => none }
def zipFormsRow : OpenClaim := { program := "ytgbkipadbdochaa", sum := "c3bd9aa2dbd2dabb925f8c6253553fbbaadd7e00b950e734cd76b0e3278ba2bc", func := "portage/portagelaw13.ZipForms", spec := "zipForms", unfollowed := true, recurses := true, apart := false }
def ZipFormsSaid : Prop := zipFormsRow.holds Try.pinned (OpenSpec.ofChange zipFormsSpec)

/-- ITS FALSE NEIGHBOUR: 'it returns false'. Refute it at one input. -/
def zipFormsWrong : ChangeSpec := { name := "zipForms", fn := fun _ => fun
  | [d1, d2] => { results := [.lit (.bool false)], args := [d1, d2] }
  | _ => none }
def ZipFormsWrongFalsely : Prop := zipFormsRow.holds Try.pinned (OpenSpec.ofChange zipFormsWrong)

/-- 'portagelaw13.ZipSizes': WHATEVER THE INPUT: true; the input reads as it did. -/
def zipSizesSpec : ChangeSpec := { name := "zipSizes", fn := fun _ => fun
  | [d] => { results := [.lit (.bool true)], args := [d] }
  | _ => none }
def zipSizesRow : OpenClaim := { program := "ytgbkipadbdochaa", sum := "c3bd9aa2dbd2dabb925f8c6253553fbbaadd7e00b950e734cd76b0e3278ba2bc", func := "portage/portagelaw13.ZipSizes", spec := "zipSizes", unfollowed := true, recurses := true, apart := false }
def ZipSizesSaid : Prop := zipSizesRow.holds Try.pinned (OpenSpec.ofChange zipSizesSpec)

/-- ITS FALSE NEIGHBOUR: 'it returns false'. Refute it at one input. -/
def zipSizesWrong : ChangeSpec := { name := "zipSizes", fn := fun _ => fun
  | [d] => { results := [.lit (.bool false)], args := [d] }
  | _ => none }
def ZipSizesWrongFalsely : Prop := zipSizesRow.holds Try.pinned (OpenSpec.ofChange zipSizesWrong)

/-- 'portagelaw13.ZipUnlike': WHATEVER THE INPUT: true; the input reads as it did. -/
def zipUnlikeSpec : ChangeSpec := { name := "zipUnlike", fn := fun _ => fun
  | [d1, d2] => { results := [.lit (.bool true)], args := [d1, d2] }
  | _ => none }
def zipUnlikeRow : OpenClaim := { program := "ytgbkipadbdochaa", sum := "c3bd9aa2dbd2dabb925f8c6253553fbbaadd7e00b950e734cd76b0e3278ba2bc", func := "portage/portagelaw13.ZipUnlike", spec := "zipUnlike", unfollowed := true, recurses := true, apart := false }
def ZipUnlikeSaid : Prop := zipUnlikeRow.holds Try.pinned (OpenSpec.ofChange zipUnlikeSpec)

/-- ITS FALSE NEIGHBOUR: 'it returns false'. Refute it at one input. -/
def zipUnlikeWrong : ChangeSpec := { name := "zipUnlike", fn := fun _ => fun
  | [d1, d2] => { results := [.lit (.bool false)], args := [d1, d2] }
  | _ => none }
def ZipUnlikeWrongFalsely : Prop := zipUnlikeRow.holds Try.pinned (OpenSpec.ofChange zipUnlikeWrong)

/- THE SECOND FORM. 'bulk': how many values and letters a reading holds, each counted each time it is reached (what is shared counts as often as it is met; a slice's spare places count too). A statement '..UptoSaid' is the law's where the arguments, and the package variables that the reading takes, are together of bulk at most 1048576: NARROWER than '..Said'. Prove '..Said' where nothing that the law and all that it calls make is longer than what came in: it says more and counts as full. Else prove '..UptoSaid'. A law counts once. -/
mutual
def uptoBulk {H : Type} : DataW H → Nat
  | .lit (.string bytes) => bytes.length + 1
  | .lit _ => 1
  | .nil => 1
  | .ptr d => uptoBulk d + 1
  | .slice elems spare => uptoBulkAll elems + uptoBulkAll spare + 1
  | .agg parts => uptoBulkAll parts + 1
  | .iface _ d => uptoBulk d + 1
  | .map entries => uptoBulkEntries entries + 1
  | .held _ => 1
def uptoBulkAll {H : Type} : List (DataW H) → Nat
  | [] => 0
  | d :: r => uptoBulk d + uptoBulkAll r
def uptoBulkEntries {H : Type} : List (Lit × DataW H) → Nat
  | [] => 0
  | x :: r => uptoBulkEntry x + uptoBulkEntries r
def uptoBulkEntry {H : Type} : Lit × DataW H → Nat
  | (.string bytes, d) => bytes.length + uptoBulk d + 1
  | (_, d) => uptoBulk d + 1
 end
def uptoSmall : (H : Type) → List (DataW H) → Bool := fun _ ds => decide (uptoBulkAll ds ≤ 1048576)
def OpenSpec.upto (s : _root_.Go.ChangeSpec) : _root_.Go.OpenSpec := { _root_.Go.OpenSpec.ofChange s with cond := some uptoSmall }

/-- 'portagelaw13.ZipParts', WHERE WHAT IT READS IS OF BULK AT MOST 1048576: true; the input reads as it did. -/
def zipPartsUptoRow : OpenClaim := { program := "ytgbkipadbdochaa", sum := "c3bd9aa2dbd2dabb925f8c6253553fbbaadd7e00b950e734cd76b0e3278ba2bc", func := "portage/portagelaw13.ZipParts", spec := "zipParts", unfollowed := true, recurses := true, apart := false, narrowed := true }
def ZipPartsUptoSaid : Prop := zipPartsUptoRow.holds Try.pinned (OpenSpec.upto zipPartsSpec)

/-- 'portagelaw13.ZipForms', WHERE WHAT IT READS IS OF BULK AT MOST 1048576: true; the input reads as it did. -/
def zipFormsUptoRow : OpenClaim := { program := "ytgbkipadbdochaa", sum := "c3bd9aa2dbd2dabb925f8c6253553fbbaadd7e00b950e734cd76b0e3278ba2bc", func := "portage/portagelaw13.ZipForms", spec := "zipForms", unfollowed := true, recurses := true, apart := false, narrowed := true }
def ZipFormsUptoSaid : Prop := zipFormsUptoRow.holds Try.pinned (OpenSpec.upto zipFormsSpec)

/-- 'portagelaw13.ZipSizes', WHERE WHAT IT READS IS OF BULK AT MOST 1048576: true; the input reads as it did. -/
def zipSizesUptoRow : OpenClaim := { program := "ytgbkipadbdochaa", sum := "c3bd9aa2dbd2dabb925f8c6253553fbbaadd7e00b950e734cd76b0e3278ba2bc", func := "portage/portagelaw13.ZipSizes", spec := "zipSizes", unfollowed := true, recurses := true, apart := false, narrowed := true }
def ZipSizesUptoSaid : Prop := zipSizesUptoRow.holds Try.pinned (OpenSpec.upto zipSizesSpec)

/-- 'portagelaw13.ZipUnlike', WHERE WHAT IT READS IS OF BULK AT MOST 1048576: true; the input reads as it did. -/
def zipUnlikeUptoRow : OpenClaim := { program := "ytgbkipadbdochaa", sum := "c3bd9aa2dbd2dabb925f8c6253553fbbaadd7e00b950e734cd76b0e3278ba2bc", func := "portage/portagelaw13.ZipUnlike", spec := "zipUnlike", unfollowed := true, recurses := true, apart := false, narrowed := true }
def ZipUnlikeUptoSaid : Prop := zipUnlikeUptoRow.holds Try.pinned (OpenSpec.upto zipUnlikeSpec)

end Rows
end Go.Proofs.Ytgbkipadbdochaa
