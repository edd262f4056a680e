/-
  No cell of these rows narrows 'for every input' (looked for: loops, veiled, ifaces, maps, wideKeys, modest, calm, conditions, laid).
  DERIVED. THE GIVEN ROWS OF THIS SEAT. 5 by the template 'for every input the law returns true; each argument reads behind the call as it read before'; 0 by the template 'total and deterministic' (their statements: YtapbjkhbnehllaaTotals.lean).
  GIVEN WITH THE SEED: the statements are not yours to turn. If you find one false, say at which input.
  Laid BY PROGRAM, IN A SANDBOX (cutbox-rows.mjs): the forced cells as the released guide's own fill.sh prints them over the translation 0c4b5368d7fcdfcb… (all of the seat's roots in one cut). By AI agents, Wed Nov 11 2026. No macro, syntax, notation, axiom, sorry.
-/
import Derived.Test.YtapbjkhbnehllaaChecked
import GoSem.Claim
import GoSem.ClaimJoined
import GoSem.ClaimMapViews
import Derived.JoinedTies
import Derived.KernelRfl
namespace Go.Proofs.Ytapbjkhbnehllaa
/- THE CELL 'sum', in the pinned program and in every row, IS THE sha256 OF THE DUMP (.gsa) THAT YtapbjkhbnehllaaProg.lean LOADS. Nothing in Lean hashes anything: it is a label: what it is worth is what the hold of that sum in a sandbox is worth. -/
noncomputable def Try.pinned : Pinned := { name := "ytapbjkhbnehllaa", sum := "0c4b5368d7fcdfcbb92ddba62092ead7375b47e378c4d003a44bb3c106a69689", checked := Try.checked }
namespace Rows
def none {H : Type} : Left H := { results := [], args := [] }

/-- 'portagelaw12.Extras': WHATEVER THE INPUT: true; the input reads as it did. -/
def extrasSpec : ChangeSpec := { name := "extras", fn := fun _ => fun
  | [d1, d2] => { results := [.lit (.bool true)], args := [d1, d2] }
  | _ => none }
def extrasRow : OpenClaim := { program := "ytapbjkhbnehllaa", sum := "0c4b5368d7fcdfcbb92ddba62092ead7375b47e378c4d003a44bb3c106a69689", func := "portage/portagelaw12.Extras", spec := "extras", apart := false }
def ExtrasSaid : Prop := extrasRow.holds Try.pinned (OpenSpec.ofChange extrasSpec)

/-- ITS FALSE NEIGHBOUR: 'it returns false'. Refute it at one input. -/
def extrasWrong : ChangeSpec := { name := "extras", fn := fun _ => fun
  | [d1, d2] => { results := [.lit (.bool false)], args := [d1, d2] }
  | _ => none }
def ExtrasWrongFalsely : Prop := extrasRow.holds Try.pinned (OpenSpec.ofChange extrasWrong)

/-- 'portagelaw12.ExtraBack': WHATEVER THE INPUT: true; the input reads as it did. -/
def extraBackSpec : ChangeSpec := { name := "extraBack", fn := fun _ => fun
  | [d1, d2, d3, d4, d5] => { results := [.lit (.bool true)], args := [d1, d2, d3, d4, d5] }
  | _ => none }
def extraBackRow : OpenClaim := { program := "ytapbjkhbnehllaa", sum := "0c4b5368d7fcdfcbb92ddba62092ead7375b47e378c4d003a44bb3c106a69689", func := "portage/portagelaw12.ExtraBack", spec := "extraBack", apart := false }
def ExtraBackSaid : Prop := extraBackRow.holds Try.pinned (OpenSpec.ofChange extraBackSpec)

/-- ITS FALSE NEIGHBOUR: 'it returns false'. Refute it at one input. -/
def extraBackWrong : ChangeSpec := { name := "extraBack", fn := fun _ => fun
  | [d1, d2, d3, d4, d5] => { results := [.lit (.bool false)], args := [d1, d2, d3, d4, d5] }
  | _ => none }
def ExtraBackWrongFalsely : Prop := extraBackRow.holds Try.pinned (OpenSpec.ofChange extraBackWrong)

/-- 'portagelaw12.ExtraForms': WHATEVER THE INPUT: true; the input reads as it did. -/
def extraFormsSpec : ChangeSpec := { name := "extraForms", fn := fun _ => fun
  | [d1, d2] => { results := [.lit (.bool true)], args := [d1, d2] }
  | _ => none }
def extraFormsRow : OpenClaim := { program := "ytapbjkhbnehllaa", sum := "0c4b5368d7fcdfcbb92ddba62092ead7375b47e378c4d003a44bb3c106a69689", func := "portage/portagelaw12.ExtraForms", spec := "extraForms", apart := false }
def ExtraFormsSaid : Prop := extraFormsRow.holds Try.pinned (OpenSpec.ofChange extraFormsSpec)

/-- ITS FALSE NEIGHBOUR: 'it returns false'. Refute it at one input. -/
def extraFormsWrong : ChangeSpec := { name := "extraForms", fn := fun _ => fun
  | [d1, d2] => { results := [.lit (.bool false)], args := [d1, d2] }
  | _ => none }
def ExtraFormsWrongFalsely : Prop := extraFormsRow.holds Try.pinned (OpenSpec.ofChange extraFormsWrong)

/-- 'portagelaw12.ExtraUnlike': WHATEVER THE INPUT: true; the input reads as it did. -/
def extraUnlikeSpec : ChangeSpec := { name := "extraUnlike", fn := fun _ => fun
  | [d1, d2] => { results := [.lit (.bool true)], args := [d1, d2] }
  | _ => none }
def extraUnlikeRow : OpenClaim := { program := "ytapbjkhbnehllaa", sum := "0c4b5368d7fcdfcbb92ddba62092ead7375b47e378c4d003a44bb3c106a69689", func := "portage/portagelaw12.ExtraUnlike", spec := "extraUnlike", apart := false }
def ExtraUnlikeSaid : Prop := extraUnlikeRow.holds Try.pinned (OpenSpec.ofChange extraUnlikeSpec)

/-- ITS FALSE NEIGHBOUR: 'it returns false'. Refute it at one input. -/
def extraUnlikeWrong : ChangeSpec := { name := "extraUnlike", fn := fun _ => fun
  | [d1, d2] => { results := [.lit (.bool false)], args := [d1, d2] }
  | _ => none }
def ExtraUnlikeWrongFalsely : Prop := extraUnlikeRow.holds Try.pinned (OpenSpec.ofChange extraUnlikeWrong)

/-- 'portagelaw12.ExtraCounts': WHATEVER THE INPUT: true; the input reads as it did. -/
def extraCountsSpec : ChangeSpec := { name := "extraCounts", fn := fun _ => fun
  | [d1, d2, d3] => { results := [.lit (.bool true)], args := [d1, d2, d3] }
  | _ => none }
def extraCountsRow : OpenClaim := { program := "ytapbjkhbnehllaa", sum := "0c4b5368d7fcdfcbb92ddba62092ead7375b47e378c4d003a44bb3c106a69689", func := "portage/portagelaw12.ExtraCounts", spec := "extraCounts", apart := false }
def ExtraCountsSaid : Prop := extraCountsRow.holds Try.pinned (OpenSpec.ofChange extraCountsSpec)

/-- ITS FALSE NEIGHBOUR: 'it returns false'. Refute it at one input. -/
def extraCountsWrong : ChangeSpec := { name := "extraCounts", fn := fun _ => fun
  | [d1, d2, d3] => { results := [.lit (.bool false)], args := [d1, d2, d3] }
  | _ => none }
def ExtraCountsWrongFalsely : Prop := extraCountsRow.holds Try.pinned (OpenSpec.ofChange extraCountsWrong)

/- THE SECOND FORM. 'bulk': how many values and letters a reading holds, each counted each time it is reached (what is shared counts as often as it is met; a slice's spare places count too). A statement '..UptoSaid' is the law's where the arguments, and the package variables that the reading takes, are together of bulk at most 1048576: NARROWER than '..Said'. Prove '..Said' where nothing that the law and all that it calls make is longer than what came in: it says more and counts as full. Else prove '..UptoSaid'. A law counts once. -/
mutual
def uptoBulk {H : Type} : DataW H → Nat
  | .lit (.string bytes) => bytes.length + 1
  | .lit _ => 1
  | .nil => 1
  | .ptr d => uptoBulk d + 1
  | .slice elems spare => uptoBulkAll elems + uptoBulkAll spare + 1
  | .agg parts => uptoBulkAll parts + 1
  | .iface _ d => uptoBulk d + 1
  | .map entries => uptoBulkEntries entries + 1
  | .held _ => 1
def uptoBulkAll {H : Type} : List (DataW H) → Nat
  | [] => 0
  | d :: r => uptoBulk d + uptoBulkAll r
def uptoBulkEntries {H : Type} : List (Lit × DataW H) → Nat
  | [] => 0
  | x :: r => uptoBulkEntry x + uptoBulkEntries r
def uptoBulkEntry {H : Type} : Lit × DataW H → Nat
  | (.string bytes, d) => bytes.length + uptoBulk d + 1
  | (_, d) => uptoBulk d + 1
 end
def uptoSmall : (H : Type) → List (DataW H) → Bool := fun _ ds => decide (uptoBulkAll ds ≤ 1048576)
def OpenSpec.upto (s : _root_.Go.ChangeSpec) : _root_.Go.OpenSpec := { _root_.Go.OpenSpec.ofChange s with cond := some uptoSmall }

/-- 'portagelaw12.Extras', WHERE WHAT IT READS IS OF BULK AT MOST 1048576: true; the input reads as it did. -/
def extrasUptoRow : OpenClaim := { program := "ytapbjkhbnehllaa", sum := "0c4b5368d7fcdfcbb92ddba62092ead7375b47e378c4d003a44bb3c106a69689", func := "portage/portagelaw12.Extras", spec := "extras", apart := false, narrowed := true }
def ExtrasUptoSaid : Prop := extrasUptoRow.holds Try.pinned (OpenSpec.upto extrasSpec)

/-- 'portagelaw12.ExtraBack', WHERE WHAT IT READS IS OF BULK AT MOST 1048576: true; the input reads as it did. -/
def extraBackUptoRow : OpenClaim := { program := "ytapbjkhbnehllaa", sum := "0c4b5368d7fcdfcbb92ddba62092ead7375b47e378c4d003a44bb3c106a69689", func := "portage/portagelaw12.ExtraBack", spec := "extraBack", apart := false, narrowed := true }
def ExtraBackUptoSaid : Prop := extraBackUptoRow.holds Try.pinned (OpenSpec.upto extraBackSpec)

/-- 'portagelaw12.ExtraForms', WHERE WHAT IT READS IS OF BULK AT MOST 1048576: true; the input reads as it did. -/
def extraFormsUptoRow : OpenClaim := { program := "ytapbjkhbnehllaa", sum := "0c4b5368d7fcdfcbb92ddba62092ead7375b47e378c4d003a44bb3c106a69689", func := "portage/portagelaw12.ExtraForms", spec := "extraForms", apart := false, narrowed := true }
def ExtraFormsUptoSaid : Prop := extraFormsUptoRow.holds Try.pinned (OpenSpec.upto extraFormsSpec)

/-- 'portagelaw12.ExtraUnlike', WHERE WHAT IT READS IS OF BULK AT MOST 1048576: true; the input reads as it did. -/
def extraUnlikeUptoRow : OpenClaim := { program := "ytapbjkhbnehllaa", sum := "0c4b5368d7fcdfcbb92ddba62092ead7375b47e378c4d003a44bb3c106a69689", func := "portage/portagelaw12.ExtraUnlike", spec := "extraUnlike", apart := false, narrowed := true }
def ExtraUnlikeUptoSaid : Prop := extraUnlikeUptoRow.holds Try.pinned (OpenSpec.upto extraUnlikeSpec)

/-- 'portagelaw12.ExtraCounts', WHERE WHAT IT READS IS OF BULK AT MOST 1048576: true; the input reads as it did. -/
def extraCountsUptoRow : OpenClaim := { program := "ytapbjkhbnehllaa", sum := "0c4b5368d7fcdfcbb92ddba62092ead7375b47e378c4d003a44bb3c106a69689", func := "portage/portagelaw12.ExtraCounts", spec := "extraCounts", apart := false, narrowed := true }
def ExtraCountsUptoSaid : Prop := extraCountsUptoRow.holds Try.pinned (OpenSpec.upto extraCountsSpec)

end Rows
end Go.Proofs.Ytapbjkhbnehllaa
