/-
  NARROWER THAN 'FOR EVERY INPUT', by the rows' own cells (each row's printed sentence says how): Inflates: laid · InflateBound: laid · InflateForms: laid · InflateStored: laid · InflateFar: laid · InflateTurned: laid.
  DERIVED. THE GIVEN ROWS OF THIS SEAT. 6 by the template 'for every input the law returns true; each argument reads behind the call as it read before'; 0 by the template 'total and deterministic' (their statements: YtbapanbgfmaolaaDoorTotals.lean).
  GIVEN WITH THE SEED: the statements are not yours to turn. If you find one false, say at which input.
  Laid BY PROGRAM, IN A SANDBOX (cutbox-rows.mjs): the forced cells as the released guide's own fill.sh prints them over the translation 0ed000e98ac82071… (all of the seat's roots in one cut). By AI agents, Wed Nov 11 2026. No macro, syntax, notation, axiom, sorry.
-/
import Derived.Test.YtbapanbgfmaolaaDoorChecked
import GoSem.Claim
import GoSem.ClaimJoined
import GoSem.ClaimMapViews
import Derived.JoinedTies
import Derived.KernelRfl
namespace Go.Proofs.YtbapanbgfmaolaaDoor
/- THE CELL 'sum', in the pinned program and in every row, IS THE sha256 OF THE DUMP (.gsa) THAT YtbapanbgfmaolaaDoorProg.lean LOADS. Nothing in Lean hashes anything: it is a label: what it is worth is what the hold of that sum in a sandbox is worth. -/
noncomputable def Tryd.pinned : Pinned := { name := "ytbapanbgfmaolaadoor", sum := "0ed000e98ac82071af537c0ffc433dc996d0956eb8d09d5b3e750da1f06e4481", checked := Tryd.checked }
namespace Rows
def none {H : Type} : Left H := { results := [], args := [] }

/- WHAT THE LISTED PACKAGE-LEVEL VARIABLES READ AS WHEN THE CALL BEGINS. Each datum BY PROGRAM (the guide's laid-datum.mjs) off the statement by which the dump's own 'gosem.cut.vars' lays the variable. In a bare row this is a premise. The card (YtbapanbgfmaolaaDoorCards.lean) ties it to the program's text. -/
def laid_portage_inflate_row {H : Type} : DataW H := .agg [.lit (.int .i64 16), .lit (.int .i64 17), .lit (.int .i64 18), .lit (.int .i64 0), .lit (.int .i64 8), .lit (.int .i64 7), .lit (.int .i64 9), .lit (.int .i64 6), .lit (.int .i64 10), .lit (.int .i64 5), .lit (.int .i64 11), .lit (.int .i64 4), .lit (.int .i64 12), .lit (.int .i64 3), .lit (.int .i64 13), .lit (.int .i64 2), .lit (.int .i64 14), .lit (.int .i64 1), .lit (.int .i64 15)]

/-- 'portagelaw7.Inflates': WHATEVER THE INPUT: true; the input reads as it did. -/
def inflatesSpec : ChangeSpec := { name := "inflates", fn := fun _ => fun
  | [d1, d2] => { results := [.lit (.bool true)], args := [d1, d2] }
  | _ => none }
def inflatesRow : OpenClaim := { program := "ytbapanbgfmaolaadoor", sum := "0ed000e98ac82071af537c0ffc433dc996d0956eb8d09d5b3e750da1f06e4481", func := "portage/portagelaw7.Inflates", spec := "inflates", unfollowed := true, recurses := true, named := ["portage/inflate.row"], apart := false, laid := [("portage/inflate.row", laid_portage_inflate_row)] }
def InflatesSaid : Prop := inflatesRow.holds Tryd.pinned (OpenSpec.ofChange inflatesSpec)

/-- ITS FALSE NEIGHBOUR: 'it returns false'. Refute it at one input. -/
def inflatesWrong : ChangeSpec := { name := "inflates", fn := fun _ => fun
  | [d1, d2] => { results := [.lit (.bool false)], args := [d1, d2] }
  | _ => none }
def InflatesWrongFalsely : Prop := inflatesRow.holds Tryd.pinned (OpenSpec.ofChange inflatesWrong)

/-- 'portagelaw7.InflateBound': WHATEVER THE INPUT: true; the input reads as it did. -/
def inflateBoundSpec : ChangeSpec := { name := "inflateBound", fn := fun _ => fun
  | [d1, d2, d3] => { results := [.lit (.bool true)], args := [d1, d2, d3] }
  | _ => none }
def inflateBoundRow : OpenClaim := { program := "ytbapanbgfmaolaadoor", sum := "0ed000e98ac82071af537c0ffc433dc996d0956eb8d09d5b3e750da1f06e4481", func := "portage/portagelaw7.InflateBound", spec := "inflateBound", unfollowed := true, recurses := true, named := ["portage/inflate.row"], apart := false, laid := [("portage/inflate.row", laid_portage_inflate_row)] }
def InflateBoundSaid : Prop := inflateBoundRow.holds Tryd.pinned (OpenSpec.ofChange inflateBoundSpec)

/-- ITS FALSE NEIGHBOUR: 'it returns false'. Refute it at one input. -/
def inflateBoundWrong : ChangeSpec := { name := "inflateBound", fn := fun _ => fun
  | [d1, d2, d3] => { results := [.lit (.bool false)], args := [d1, d2, d3] }
  | _ => none }
def InflateBoundWrongFalsely : Prop := inflateBoundRow.holds Tryd.pinned (OpenSpec.ofChange inflateBoundWrong)

/-- 'portagelaw7.InflateForms': WHATEVER THE INPUT: true; the input reads as it did. -/
def inflateFormsSpec : ChangeSpec := { name := "inflateForms", fn := fun _ => fun
  | [d] => { results := [.lit (.bool true)], args := [d] }
  | _ => none }
def inflateFormsRow : OpenClaim := { program := "ytbapanbgfmaolaadoor", sum := "0ed000e98ac82071af537c0ffc433dc996d0956eb8d09d5b3e750da1f06e4481", func := "portage/portagelaw7.InflateForms", spec := "inflateForms", unfollowed := true, recurses := true, named := ["portage/inflate.row"], apart := false, laid := [("portage/inflate.row", laid_portage_inflate_row)] }
def InflateFormsSaid : Prop := inflateFormsRow.holds Tryd.pinned (OpenSpec.ofChange inflateFormsSpec)

/-- ITS FALSE NEIGHBOUR: 'it returns false'. Refute it at one input. -/
def inflateFormsWrong : ChangeSpec := { name := "inflateForms", fn := fun _ => fun
  | [d] => { results := [.lit (.bool false)], args := [d] }
  | _ => none }
def InflateFormsWrongFalsely : Prop := inflateFormsRow.holds Tryd.pinned (OpenSpec.ofChange inflateFormsWrong)

/-- 'portagelaw7.InflateStored': WHATEVER THE INPUT: true; the input reads as it did. -/
def inflateStoredSpec : ChangeSpec := { name := "inflateStored", fn := fun _ => fun
  | [d1, d2, d3] => { results := [.lit (.bool true)], args := [d1, d2, d3] }
  | _ => none }
def inflateStoredRow : OpenClaim := { program := "ytbapanbgfmaolaadoor", sum := "0ed000e98ac82071af537c0ffc433dc996d0956eb8d09d5b3e750da1f06e4481", func := "portage/portagelaw7.InflateStored", spec := "inflateStored", unfollowed := true, recurses := true, named := ["portage/inflate.row"], apart := false, laid := [("portage/inflate.row", laid_portage_inflate_row)] }
def InflateStoredSaid : Prop := inflateStoredRow.holds Tryd.pinned (OpenSpec.ofChange inflateStoredSpec)

/-- ITS FALSE NEIGHBOUR: 'it returns false'. Refute it at one input. -/
def inflateStoredWrong : ChangeSpec := { name := "inflateStored", fn := fun _ => fun
  | [d1, d2, d3] => { results := [.lit (.bool false)], args := [d1, d2, d3] }
  | _ => none }
def InflateStoredWrongFalsely : Prop := inflateStoredRow.holds Tryd.pinned (OpenSpec.ofChange inflateStoredWrong)

/-- 'portagelaw7.InflateFar': WHATEVER THE INPUT: true; the input reads as it did. -/
def inflateFarSpec : ChangeSpec := { name := "inflateFar", fn := fun _ => fun
  | [d] => { results := [.lit (.bool true)], args := [d] }
  | _ => none }
def inflateFarRow : OpenClaim := { program := "ytbapanbgfmaolaadoor", sum := "0ed000e98ac82071af537c0ffc433dc996d0956eb8d09d5b3e750da1f06e4481", func := "portage/portagelaw7.InflateFar", spec := "inflateFar", unfollowed := true, recurses := true, named := ["portage/inflate.row"], apart := false, laid := [("portage/inflate.row", laid_portage_inflate_row)] }
def InflateFarSaid : Prop := inflateFarRow.holds Tryd.pinned (OpenSpec.ofChange inflateFarSpec)

/-- ITS FALSE NEIGHBOUR: 'it returns false'. Refute it at one input. -/
def inflateFarWrong : ChangeSpec := { name := "inflateFar", fn := fun _ => fun
  | [d] => { results := [.lit (.bool false)], args := [d] }
  | _ => none }
def InflateFarWrongFalsely : Prop := inflateFarRow.holds Tryd.pinned (OpenSpec.ofChange inflateFarWrong)

/-- 'portagelaw7.InflateTurned': WHATEVER THE INPUT: true; the input reads as it did. -/
def inflateTurnedSpec : ChangeSpec := { name := "inflateTurned", fn := fun _ => fun
  | [d1, d2, d3, d4] => { results := [.lit (.bool true)], args := [d1, d2, d3, d4] }
  | _ => none }
def inflateTurnedRow : OpenClaim := { program := "ytbapanbgfmaolaadoor", sum := "0ed000e98ac82071af537c0ffc433dc996d0956eb8d09d5b3e750da1f06e4481", func := "portage/portagelaw7.InflateTurned", spec := "inflateTurned", unfollowed := true, recurses := true, named := ["portage/inflate.row"], apart := false, laid := [("portage/inflate.row", laid_portage_inflate_row)] }
def InflateTurnedSaid : Prop := inflateTurnedRow.holds Tryd.pinned (OpenSpec.ofChange inflateTurnedSpec)

/-- ITS FALSE NEIGHBOUR: 'it returns false'. Refute it at one input. -/
def inflateTurnedWrong : ChangeSpec := { name := "inflateTurned", fn := fun _ => fun
  | [d1, d2, d3, d4] => { results := [.lit (.bool false)], args := [d1, d2, d3, d4] }
  | _ => none }
def InflateTurnedWrongFalsely : Prop := inflateTurnedRow.holds Tryd.pinned (OpenSpec.ofChange inflateTurnedWrong)

/- THE SECOND FORM. 'bulk': how many values and letters a reading holds, each counted each time it is reached (what is shared counts as often as it is met; a slice's spare places count too). A statement '..UptoSaid' is the law's where the arguments, and the package variables that the reading takes, are together of bulk at most 1048576: NARROWER than '..Said'. Prove '..Said' where nothing that the law and all that it calls make is longer than what came in: it says more and counts as full. Else prove '..UptoSaid'. A law counts once. -/
mutual
def uptoBulk {H : Type} : DataW H → Nat
  | .lit (.string bytes) => bytes.length + 1
  | .lit _ => 1
  | .nil => 1
  | .ptr d => uptoBulk d + 1
  | .slice elems spare => uptoBulkAll elems + uptoBulkAll spare + 1
  | .agg parts => uptoBulkAll parts + 1
  | .iface _ d => uptoBulk d + 1
  | .map entries => uptoBulkEntries entries + 1
  | .held _ => 1
def uptoBulkAll {H : Type} : List (DataW H) → Nat
  | [] => 0
  | d :: r => uptoBulk d + uptoBulkAll r
def uptoBulkEntries {H : Type} : List (Lit × DataW H) → Nat
  | [] => 0
  | x :: r => uptoBulkEntry x + uptoBulkEntries r
def uptoBulkEntry {H : Type} : Lit × DataW H → Nat
  | (.string bytes, d) => bytes.length + uptoBulk d + 1
  | (_, d) => uptoBulk d + 1
 end
def uptoSmall : (H : Type) → List (DataW H) → Bool := fun _ ds => decide (uptoBulkAll ds ≤ 1048576)
def OpenSpec.upto (s : _root_.Go.ChangeSpec) : _root_.Go.OpenSpec := { _root_.Go.OpenSpec.ofChange s with cond := some uptoSmall }

/-- 'portagelaw7.Inflates', WHERE WHAT IT READS IS OF BULK AT MOST 1048576: true; the input reads as it did. -/
def inflatesUptoRow : OpenClaim := { program := "ytbapanbgfmaolaadoor", sum := "0ed000e98ac82071af537c0ffc433dc996d0956eb8d09d5b3e750da1f06e4481", func := "portage/portagelaw7.Inflates", spec := "inflates", unfollowed := true, recurses := true, named := ["portage/inflate.row"], apart := false, laid := [("portage/inflate.row", laid_portage_inflate_row)], narrowed := true }
def InflatesUptoSaid : Prop := inflatesUptoRow.holds Tryd.pinned (OpenSpec.upto inflatesSpec)

/-- 'portagelaw7.InflateBound', WHERE WHAT IT READS IS OF BULK AT MOST 1048576: true; the input reads as it did. -/
def inflateBoundUptoRow : OpenClaim := { program := "ytbapanbgfmaolaadoor", sum := "0ed000e98ac82071af537c0ffc433dc996d0956eb8d09d5b3e750da1f06e4481", func := "portage/portagelaw7.InflateBound", spec := "inflateBound", unfollowed := true, recurses := true, named := ["portage/inflate.row"], apart := false, laid := [("portage/inflate.row", laid_portage_inflate_row)], narrowed := true }
def InflateBoundUptoSaid : Prop := inflateBoundUptoRow.holds Tryd.pinned (OpenSpec.upto inflateBoundSpec)

/-- 'portagelaw7.InflateForms', WHERE WHAT IT READS IS OF BULK AT MOST 1048576: true; the input reads as it did. -/
def inflateFormsUptoRow : OpenClaim := { program := "ytbapanbgfmaolaadoor", sum := "0ed000e98ac82071af537c0ffc433dc996d0956eb8d09d5b3e750da1f06e4481", func := "portage/portagelaw7.InflateForms", spec := "inflateForms", unfollowed := true, recurses := true, named := ["portage/inflate.row"], apart := false, laid := [("portage/inflate.row", laid_portage_inflate_row)], narrowed := true }
def InflateFormsUptoSaid : Prop := inflateFormsUptoRow.holds Tryd.pinned (OpenSpec.upto inflateFormsSpec)

/-- 'portagelaw7.InflateStored', WHERE WHAT IT READS IS OF BULK AT MOST 1048576: true; the input reads as it did. -/
def inflateStoredUptoRow : OpenClaim := { program := "ytbapanbgfmaolaadoor", sum := "0ed000e98ac82071af537c0ffc433dc996d0956eb8d09d5b3e750da1f06e4481", func := "portage/portagelaw7.InflateStored", spec := "inflateStored", unfollowed := true, recurses := true, named := ["portage/inflate.row"], apart := false, laid := [("portage/inflate.row", laid_portage_inflate_row)], narrowed := true }
def InflateStoredUptoSaid : Prop := inflateStoredUptoRow.holds Tryd.pinned (OpenSpec.upto inflateStoredSpec)

/-- 'portagelaw7.InflateFar', WHERE WHAT IT READS IS OF BULK AT MOST 1048576: true; the input reads as it did. -/
def inflateFarUptoRow : OpenClaim := { program := "ytbapanbgfmaolaadoor", sum := "0ed000e98ac82071af537c0ffc433dc996d0956eb8d09d5b3e750da1f06e4481", func := "portage/portagelaw7.InflateFar", spec := "inflateFar", unfollowed := true, recurses := true, named := ["portage/inflate.row"], apart := false, laid := [("portage/inflate.row", laid_portage_inflate_row)], narrowed := true }
def InflateFarUptoSaid : Prop := inflateFarUptoRow.holds Tryd.pinned (OpenSpec.upto inflateFarSpec)

/-- 'portagelaw7.InflateTurned', WHERE WHAT IT READS IS OF BULK AT MOST 1048576: true; the input reads as it did. -/
def inflateTurnedUptoRow : OpenClaim := { program := "ytbapanbgfmaolaadoor", sum := "0ed000e98ac82071af537c0ffc433dc996d0956eb8d09d5b3e750da1f06e4481", func := "portage/portagelaw7.InflateTurned", spec := "inflateTurned", unfollowed := true, recurses := true, named := ["portage/inflate.row"], apart := false, laid := [("portage/inflate.row", laid_portage_inflate_row)], narrowed := true }
def InflateTurnedUptoSaid : Prop := inflateTurnedUptoRow.holds Tryd.pinned (OpenSpec.upto inflateTurnedSpec)

end Rows
end Go.Proofs.YtbapanbgfmaolaaDoor
