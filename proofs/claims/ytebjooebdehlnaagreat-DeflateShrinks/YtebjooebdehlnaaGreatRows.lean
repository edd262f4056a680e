/-
  No cell of these rows narrows 'for every input' (looked for: loops, veiled, ifaces, maps, wideKeys, modest, calm, conditions, laid).
  DERIVED. THE GIVEN ROWS OF THIS SEAT. 5 by the template 'for every input the law returns true; each argument reads behind the call as it read before'; 0 by the template 'total and deterministic' (their statements: YtebjooebdehlnaaGreatTotals.lean).
  GIVEN WITH THE SEED: the statements are not yours to turn. If you find one false, say at which input.
  Laid BY PROGRAM, IN A SANDBOX (cutbox-rows.mjs): the forced cells as the released guide's own fill.sh prints them over the translation 3e4a4dc48fa9109c… (all of the seat's roots in one cut). By AI agents, Wed Nov 11 2026. No macro, syntax, notation, axiom, sorry.
-/
import Derived.Test.YtebjooebdehlnaaGreatChecked
import GoSem.Claim
import GoSem.ClaimJoined
import GoSem.ClaimMapViews
import Derived.JoinedTies
import Derived.KernelRfl
namespace Go.Proofs.YtebjooebdehlnaaGreat
/- THE CELL 'sum', in the pinned program and in every row, IS THE sha256 OF THE DUMP (.gsa) THAT YtebjooebdehlnaaGreatProg.lean LOADS. Nothing in Lean hashes anything: it is a label: what it is worth is what the hold of that sum in a sandbox is worth. -/
noncomputable def Tryz.pinned : Pinned := { name := "ytebjooebdehlnaagreat", sum := "3e4a4dc48fa9109c7daf89a1faa27f1cc53c8b83cf53ff8ae0c13adc6180f928", checked := Tryz.checked }
namespace Rows
def none {H : Type} : Left H := { results := [], args := [] }

/-- 'portagelaw9.Deflates': WHATEVER THE INPUT: true; the input reads as it did. -/
def deflatesSpec : ChangeSpec := { name := "deflates", fn := fun _ => fun
  | [d1, d2, d3, d4] => { results := [.lit (.bool true)], args := [d1, d2, d3, d4] }
  | _ => none }
def deflatesRow : OpenClaim := { program := "ytebjooebdehlnaagreat", sum := "3e4a4dc48fa9109c7daf89a1faa27f1cc53c8b83cf53ff8ae0c13adc6180f928", func := "portage/portagelaw9.Deflates", spec := "deflates", unfollowed := true, recurses := true, apart := false }
def DeflatesSaid : Prop := deflatesRow.holds Tryz.pinned (OpenSpec.ofChange deflatesSpec)

/-- ITS FALSE NEIGHBOUR: 'it returns false'. Refute it at one input. -/
def deflatesWrong : ChangeSpec := { name := "deflates", fn := fun _ => fun
  | [d1, d2, d3, d4] => { results := [.lit (.bool false)], args := [d1, d2, d3, d4] }
  | _ => none }
def DeflatesWrongFalsely : Prop := deflatesRow.holds Tryz.pinned (OpenSpec.ofChange deflatesWrong)

/-- 'portagelaw9.DeflateBack': WHATEVER THE INPUT: true; the input reads as it did. -/
def deflateBackSpec : ChangeSpec := { name := "deflateBack", fn := fun _ => fun
  | [d] => { results := [.lit (.bool true)], args := [d] }
  | _ => none }
def deflateBackRow : OpenClaim := { program := "ytebjooebdehlnaagreat", sum := "3e4a4dc48fa9109c7daf89a1faa27f1cc53c8b83cf53ff8ae0c13adc6180f928", func := "portage/portagelaw9.DeflateBack", spec := "deflateBack", unfollowed := true, recurses := true, apart := false }
def DeflateBackSaid : Prop := deflateBackRow.holds Tryz.pinned (OpenSpec.ofChange deflateBackSpec)

/-- ITS FALSE NEIGHBOUR: 'it returns false'. Refute it at one input. -/
def deflateBackWrong : ChangeSpec := { name := "deflateBack", fn := fun _ => fun
  | [d] => { results := [.lit (.bool false)], args := [d] }
  | _ => none }
def DeflateBackWrongFalsely : Prop := deflateBackRow.holds Tryz.pinned (OpenSpec.ofChange deflateBackWrong)

/-- 'portagelaw9.DeflateForms': WHATEVER THE INPUT: true; the input reads as it did. -/
def deflateFormsSpec : ChangeSpec := { name := "deflateForms", fn := fun _ => fun
  | [d1, d2] => { results := [.lit (.bool true)], args := [d1, d2] }
  | _ => none }
def deflateFormsRow : OpenClaim := { program := "ytebjooebdehlnaagreat", sum := "3e4a4dc48fa9109c7daf89a1faa27f1cc53c8b83cf53ff8ae0c13adc6180f928", func := "portage/portagelaw9.DeflateForms", spec := "deflateForms", unfollowed := true, recurses := true, apart := false }
def DeflateFormsSaid : Prop := deflateFormsRow.holds Tryz.pinned (OpenSpec.ofChange deflateFormsSpec)

/-- ITS FALSE NEIGHBOUR: 'it returns false'. Refute it at one input. -/
def deflateFormsWrong : ChangeSpec := { name := "deflateForms", fn := fun _ => fun
  | [d1, d2] => { results := [.lit (.bool false)], args := [d1, d2] }
  | _ => none }
def DeflateFormsWrongFalsely : Prop := deflateFormsRow.holds Tryz.pinned (OpenSpec.ofChange deflateFormsWrong)

/-- 'portagelaw9.DeflateBest': WHATEVER THE INPUT: true; the input reads as it did. -/
def deflateBestSpec : ChangeSpec := { name := "deflateBest", fn := fun _ => fun
  | [d] => { results := [.lit (.bool true)], args := [d] }
  | _ => none }
def deflateBestRow : OpenClaim := { program := "ytebjooebdehlnaagreat", sum := "3e4a4dc48fa9109c7daf89a1faa27f1cc53c8b83cf53ff8ae0c13adc6180f928", func := "portage/portagelaw9.DeflateBest", spec := "deflateBest", unfollowed := true, recurses := true, apart := false }
def DeflateBestSaid : Prop := deflateBestRow.holds Tryz.pinned (OpenSpec.ofChange deflateBestSpec)

/-- ITS FALSE NEIGHBOUR: 'it returns false'. Refute it at one input. -/
def deflateBestWrong : ChangeSpec := { name := "deflateBest", fn := fun _ => fun
  | [d] => { results := [.lit (.bool false)], args := [d] }
  | _ => none }
def DeflateBestWrongFalsely : Prop := deflateBestRow.holds Tryz.pinned (OpenSpec.ofChange deflateBestWrong)

/-- 'portagelaw9.DeflateShrinks': WHATEVER THE INPUT: true; the input reads as it did. -/
def deflateShrinksSpec : ChangeSpec := { name := "deflateShrinks", fn := fun _ => fun
  | [d1, d2] => { results := [.lit (.bool true)], args := [d1, d2] }
  | _ => none }
def deflateShrinksRow : OpenClaim := { program := "ytebjooebdehlnaagreat", sum := "3e4a4dc48fa9109c7daf89a1faa27f1cc53c8b83cf53ff8ae0c13adc6180f928", func := "portage/portagelaw9.DeflateShrinks", spec := "deflateShrinks", unfollowed := true, recurses := true, apart := false }
def DeflateShrinksSaid : Prop := deflateShrinksRow.holds Tryz.pinned (OpenSpec.ofChange deflateShrinksSpec)

/-- ITS FALSE NEIGHBOUR: 'it returns false'. Refute it at one input. -/
def deflateShrinksWrong : ChangeSpec := { name := "deflateShrinks", fn := fun _ => fun
  | [d1, d2] => { results := [.lit (.bool false)], args := [d1, d2] }
  | _ => none }
def DeflateShrinksWrongFalsely : Prop := deflateShrinksRow.holds Tryz.pinned (OpenSpec.ofChange deflateShrinksWrong)

/- THE SECOND FORM. 'bulk': how many values and letters a reading holds, each counted each time it is reached (what is shared counts as often as it is met; a slice's spare places count too). A statement '..UptoSaid' is the law's where the arguments, and the package variables that the reading takes, are together of bulk at most 1048576: NARROWER than '..Said'. Prove '..Said' where nothing that the law and all that it calls make is longer than what came in: it says more and counts as full. Else prove '..UptoSaid'. A law counts once. -/
mutual
def uptoBulk {H : Type} : DataW H → Nat
  | .lit (.string bytes) => bytes.length + 1
  | .lit _ => 1
  | .nil => 1
  | .ptr d => uptoBulk d + 1
  | .slice elems spare => uptoBulkAll elems + uptoBulkAll spare + 1
  | .agg parts => uptoBulkAll parts + 1
  | .iface _ d => uptoBulk d + 1
  | .map entries => uptoBulkEntries entries + 1
  | .held _ => 1
def uptoBulkAll {H : Type} : List (DataW H) → Nat
  | [] => 0
  | d :: r => uptoBulk d + uptoBulkAll r
def uptoBulkEntries {H : Type} : List (Lit × DataW H) → Nat
  | [] => 0
  | x :: r => uptoBulkEntry x + uptoBulkEntries r
def uptoBulkEntry {H : Type} : Lit × DataW H → Nat
  | (.string bytes, d) => bytes.length + uptoBulk d + 1
  | (_, d) => uptoBulk d + 1
 end
def uptoSmall : (H : Type) → List (DataW H) → Bool := fun _ ds => decide (uptoBulkAll ds ≤ 1048576)
def OpenSpec.upto (s : _root_.Go.ChangeSpec) : _root_.Go.OpenSpec := { _root_.Go.OpenSpec.ofChange s with cond := some uptoSmall }

/-- 'portagelaw9.Deflates', WHERE WHAT IT READS IS OF BULK AT MOST 1048576: true; the input reads as it did. -/
def deflatesUptoRow : OpenClaim := { program := "ytebjooebdehlnaagreat", sum := "3e4a4dc48fa9109c7daf89a1faa27f1cc53c8b83cf53ff8ae0c13adc6180f928", func := "portage/portagelaw9.Deflates", spec := "deflates", unfollowed := true, recurses := true, apart := false, narrowed := true }
def DeflatesUptoSaid : Prop := deflatesUptoRow.holds Tryz.pinned (OpenSpec.upto deflatesSpec)

/-- 'portagelaw9.DeflateBack', WHERE WHAT IT READS IS OF BULK AT MOST 1048576: true; the input reads as it did. -/
def deflateBackUptoRow : OpenClaim := { program := "ytebjooebdehlnaagreat", sum := "3e4a4dc48fa9109c7daf89a1faa27f1cc53c8b83cf53ff8ae0c13adc6180f928", func := "portage/portagelaw9.DeflateBack", spec := "deflateBack", unfollowed := true, recurses := true, apart := false, narrowed := true }
def DeflateBackUptoSaid : Prop := deflateBackUptoRow.holds Tryz.pinned (OpenSpec.upto deflateBackSpec)

/-- 'portagelaw9.DeflateForms', WHERE WHAT IT READS IS OF BULK AT MOST 1048576: true; the input reads as it did. -/
def deflateFormsUptoRow : OpenClaim := { program := "ytebjooebdehlnaagreat", sum := "3e4a4dc48fa9109c7daf89a1faa27f1cc53c8b83cf53ff8ae0c13adc6180f928", func := "portage/portagelaw9.DeflateForms", spec := "deflateForms", unfollowed := true, recurses := true, apart := false, narrowed := true }
def DeflateFormsUptoSaid : Prop := deflateFormsUptoRow.holds Tryz.pinned (OpenSpec.upto deflateFormsSpec)

/-- 'portagelaw9.DeflateBest', WHERE WHAT IT READS IS OF BULK AT MOST 1048576: true; the input reads as it did. -/
def deflateBestUptoRow : OpenClaim := { program := "ytebjooebdehlnaagreat", sum := "3e4a4dc48fa9109c7daf89a1faa27f1cc53c8b83cf53ff8ae0c13adc6180f928", func := "portage/portagelaw9.DeflateBest", spec := "deflateBest", unfollowed := true, recurses := true, apart := false, narrowed := true }
def DeflateBestUptoSaid : Prop := deflateBestUptoRow.holds Tryz.pinned (OpenSpec.upto deflateBestSpec)

/-- 'portagelaw9.DeflateShrinks', WHERE WHAT IT READS IS OF BULK AT MOST 1048576: true; the input reads as it did. -/
def deflateShrinksUptoRow : OpenClaim := { program := "ytebjooebdehlnaagreat", sum := "3e4a4dc48fa9109c7daf89a1faa27f1cc53c8b83cf53ff8ae0c13adc6180f928", func := "portage/portagelaw9.DeflateShrinks", spec := "deflateShrinks", unfollowed := true, recurses := true, apart := false, narrowed := true }
def DeflateShrinksUptoSaid : Prop := deflateShrinksUptoRow.holds Tryz.pinned (OpenSpec.upto deflateShrinksSpec)

end Rows
end Go.Proofs.YtebjooebdehlnaaGreat
