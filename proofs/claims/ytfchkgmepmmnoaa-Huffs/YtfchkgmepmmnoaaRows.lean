/-
  No cell of these rows narrows 'for every input' (looked for: loops, veiled, ifaces, maps, wideKeys, modest, calm, conditions, laid).
  DERIVED. THE GIVEN ROWS OF THIS SEAT. 6 by the template 'for every input the law returns true; each argument reads behind the call as it read before'; 0 by the template 'total and deterministic' (their statements: YtfchkgmepmmnoaaTotals.lean).
  GIVEN WITH THE SEED: the statements are not yours to turn. If you find one false, say at which input.
  Laid BY PROGRAM, IN A SANDBOX (cutbox-rows.mjs): the forced cells as the released guide's own fill.sh prints them over the translation 95788806b7e1fdd2… (all of the seat's roots in one cut). By AI agents, Wed Nov 11 2026. No macro, syntax, notation, axiom, sorry.
-/
import Derived.Test.YtfchkgmepmmnoaaChecked
import GoSem.Claim
import GoSem.ClaimJoined
import GoSem.ClaimMapViews
import Derived.JoinedTies
import Derived.KernelRfl
namespace Go.Proofs.Ytfchkgmepmmnoaa
/- THE CELL 'sum', in the pinned program and in every row, IS THE sha256 OF THE DUMP (.gsa) THAT YtfchkgmepmmnoaaProg.lean LOADS. Nothing in Lean hashes anything: it is a label: what it is worth is what the hold of that sum in a sandbox is worth. -/
noncomputable def Try.pinned : Pinned := { name := "ytfchkgmepmmnoaa", sum := "95788806b7e1fdd24cbee02a127ad45408ba50c544b1c64bb88b7df43ecd2934", checked := Try.checked }
namespace Rows
def none {H : Type} : Left H := { results := [], args := [] }

/-- 'portagelaw3.Huffs': WHATEVER THE INPUT: true; the input reads as it did. -/
def huffsSpec : ChangeSpec := { name := "huffs", fn := fun _ => fun
  | [d1, d2, d3] => { results := [.lit (.bool true)], args := [d1, d2, d3] }
  | _ => none }
def huffsRow : OpenClaim := { program := "ytfchkgmepmmnoaa", sum := "95788806b7e1fdd24cbee02a127ad45408ba50c544b1c64bb88b7df43ecd2934", func := "portage/portagelaw3.Huffs", spec := "huffs", apart := false }
def HuffsSaid : Prop := huffsRow.holds Try.pinned (OpenSpec.ofChange huffsSpec)

/-- ITS FALSE NEIGHBOUR: 'it returns false'. Refute it at one input. -/
def huffsWrong : ChangeSpec := { name := "huffs", fn := fun _ => fun
  | [d1, d2, d3] => { results := [.lit (.bool false)], args := [d1, d2, d3] }
  | _ => none }
def HuffsWrongFalsely : Prop := huffsRow.holds Try.pinned (OpenSpec.ofChange huffsWrong)

/-- 'portagelaw3.HuffApart': WHATEVER THE INPUT: true; the input reads as it did. -/
def huffApartSpec : ChangeSpec := { name := "huffApart", fn := fun _ => fun
  | [d] => { results := [.lit (.bool true)], args := [d] }
  | _ => none }
def huffApartRow : OpenClaim := { program := "ytfchkgmepmmnoaa", sum := "95788806b7e1fdd24cbee02a127ad45408ba50c544b1c64bb88b7df43ecd2934", func := "portage/portagelaw3.HuffApart", spec := "huffApart", apart := false }
def HuffApartSaid : Prop := huffApartRow.holds Try.pinned (OpenSpec.ofChange huffApartSpec)

/-- ITS FALSE NEIGHBOUR: 'it returns false'. Refute it at one input. -/
def huffApartWrong : ChangeSpec := { name := "huffApart", fn := fun _ => fun
  | [d] => { results := [.lit (.bool false)], args := [d] }
  | _ => none }
def HuffApartWrongFalsely : Prop := huffApartRow.holds Try.pinned (OpenSpec.ofChange huffApartWrong)

/-- 'portagelaw3.HuffForms': WHATEVER THE INPUT: true; the input reads as it did. -/
def huffFormsSpec : ChangeSpec := { name := "huffForms", fn := fun _ => fun
  | [d1, d2] => { results := [.lit (.bool true)], args := [d1, d2] }
  | _ => none }
def huffFormsRow : OpenClaim := { program := "ytfchkgmepmmnoaa", sum := "95788806b7e1fdd24cbee02a127ad45408ba50c544b1c64bb88b7df43ecd2934", func := "portage/portagelaw3.HuffForms", spec := "huffForms", apart := false }
def HuffFormsSaid : Prop := huffFormsRow.holds Try.pinned (OpenSpec.ofChange huffFormsSpec)

/-- ITS FALSE NEIGHBOUR: 'it returns false'. Refute it at one input. -/
def huffFormsWrong : ChangeSpec := { name := "huffForms", fn := fun _ => fun
  | [d1, d2] => { results := [.lit (.bool false)], args := [d1, d2] }
  | _ => none }
def HuffFormsWrongFalsely : Prop := huffFormsRow.holds Try.pinned (OpenSpec.ofChange huffFormsWrong)

/-- 'portagelaw3.HuffEven': WHATEVER THE INPUT: true; the input reads as it did. -/
def huffEvenSpec : ChangeSpec := { name := "huffEven", fn := fun _ => fun
  | [d] => { results := [.lit (.bool true)], args := [d] }
  | _ => none }
def huffEvenRow : OpenClaim := { program := "ytfchkgmepmmnoaa", sum := "95788806b7e1fdd24cbee02a127ad45408ba50c544b1c64bb88b7df43ecd2934", func := "portage/portagelaw3.HuffEven", spec := "huffEven", apart := false }
def HuffEvenSaid : Prop := huffEvenRow.holds Try.pinned (OpenSpec.ofChange huffEvenSpec)

/-- ITS FALSE NEIGHBOUR: 'it returns false'. Refute it at one input. -/
def huffEvenWrong : ChangeSpec := { name := "huffEven", fn := fun _ => fun
  | [d] => { results := [.lit (.bool false)], args := [d] }
  | _ => none }
def HuffEvenWrongFalsely : Prop := huffEvenRow.holds Try.pinned (OpenSpec.ofChange huffEvenWrong)

/-- 'portagelaw3.HuffTable': WHATEVER THE INPUT: true; the input reads as it did. -/
def huffTableSpec : ChangeSpec := { name := "huffTable", fn := fun _ => fun
  | [d] => { results := [.lit (.bool true)], args := [d] }
  | _ => none }
def huffTableRow : OpenClaim := { program := "ytfchkgmepmmnoaa", sum := "95788806b7e1fdd24cbee02a127ad45408ba50c544b1c64bb88b7df43ecd2934", func := "portage/portagelaw3.HuffTable", spec := "huffTable", apart := false }
def HuffTableSaid : Prop := huffTableRow.holds Try.pinned (OpenSpec.ofChange huffTableSpec)

/-- ITS FALSE NEIGHBOUR: 'it returns false'. Refute it at one input. -/
def huffTableWrong : ChangeSpec := { name := "huffTable", fn := fun _ => fun
  | [d] => { results := [.lit (.bool false)], args := [d] }
  | _ => none }
def HuffTableWrongFalsely : Prop := huffTableRow.holds Try.pinned (OpenSpec.ofChange huffTableWrong)

/-- 'portagelaw3.HuffMany': WHATEVER THE INPUT: true; the input reads as it did. -/
def huffManySpec : ChangeSpec := { name := "huffMany", fn := fun _ => fun
  | [d1, d2] => { results := [.lit (.bool true)], args := [d1, d2] }
  | _ => none }
def huffManyRow : OpenClaim := { program := "ytfchkgmepmmnoaa", sum := "95788806b7e1fdd24cbee02a127ad45408ba50c544b1c64bb88b7df43ecd2934", func := "portage/portagelaw3.HuffMany", spec := "huffMany", apart := false }
def HuffManySaid : Prop := huffManyRow.holds Try.pinned (OpenSpec.ofChange huffManySpec)

/-- ITS FALSE NEIGHBOUR: 'it returns false'. Refute it at one input. -/
def huffManyWrong : ChangeSpec := { name := "huffMany", fn := fun _ => fun
  | [d1, d2] => { results := [.lit (.bool false)], args := [d1, d2] }
  | _ => none }
def HuffManyWrongFalsely : Prop := huffManyRow.holds Try.pinned (OpenSpec.ofChange huffManyWrong)

/- THE SECOND FORM. 'bulk': how many values and letters a reading holds, each counted each time it is reached (what is shared counts as often as it is met; a slice's spare places count too). A statement '..UptoSaid' is the law's where the arguments, and the package variables that the reading takes, are together of bulk at most 1048576: NARROWER than '..Said'. Prove '..Said' where nothing that the law and all that it calls make is longer than what came in: it says more and counts as full. Else prove '..UptoSaid'. A law counts once. -/
mutual
def uptoBulk {H : Type} : DataW H → Nat
  | .lit (.string bytes) => bytes.length + 1
  | .lit _ => 1
  | .nil => 1
  | .ptr d => uptoBulk d + 1
  | .slice elems spare => uptoBulkAll elems + uptoBulkAll spare + 1
  | .agg parts => uptoBulkAll parts + 1
  | .iface _ d => uptoBulk d + 1
  | .map entries => uptoBulkEntries entries + 1
  | .held _ => 1
def uptoBulkAll {H : Type} : List (DataW H) → Nat
  | [] => 0
  | d :: r => uptoBulk d + uptoBulkAll r
def uptoBulkEntries {H : Type} : List (Lit × DataW H) → Nat
  | [] => 0
  | x :: r => uptoBulkEntry x + uptoBulkEntries r
def uptoBulkEntry {H : Type} : Lit × DataW H → Nat
  | (.string bytes, d) => bytes.length + uptoBulk d + 1
  | (_, d) => uptoBulk d + 1
 end
def uptoSmall : (H : Type) → List (DataW H) → Bool := fun _ ds => decide (uptoBulkAll ds ≤ 1048576)
def OpenSpec.upto (s : _root_.Go.ChangeSpec) : _root_.Go.OpenSpec := { _root_.Go.OpenSpec.ofChange s with cond := some uptoSmall }

/-- 'portagelaw3.Huffs', WHERE WHAT IT READS IS OF BULK AT MOST 1048576: true; the input reads as it did. -/
def huffsUptoRow : OpenClaim := { program := "ytfchkgmepmmnoaa", sum := "95788806b7e1fdd24cbee02a127ad45408ba50c544b1c64bb88b7df43ecd2934", func := "portage/portagelaw3.Huffs", spec := "huffs", apart := false, narrowed := true }
def HuffsUptoSaid : Prop := huffsUptoRow.holds Try.pinned (OpenSpec.upto huffsSpec)

/-- 'portagelaw3.HuffApart', WHERE WHAT IT READS IS OF BULK AT MOST 1048576: true; the input reads as it did. -/
def huffApartUptoRow : OpenClaim := { program := "ytfchkgmepmmnoaa", sum := "95788806b7e1fdd24cbee02a127ad45408ba50c544b1c64bb88b7df43ecd2934", func := "portage/portagelaw3.HuffApart", spec := "huffApart", apart := false, narrowed := true }
def HuffApartUptoSaid : Prop := huffApartUptoRow.holds Try.pinned (OpenSpec.upto huffApartSpec)

/-- 'portagelaw3.HuffForms', WHERE WHAT IT READS IS OF BULK AT MOST 1048576: true; the input reads as it did. -/
def huffFormsUptoRow : OpenClaim := { program := "ytfchkgmepmmnoaa", sum := "95788806b7e1fdd24cbee02a127ad45408ba50c544b1c64bb88b7df43ecd2934", func := "portage/portagelaw3.HuffForms", spec := "huffForms", apart := false, narrowed := true }
def HuffFormsUptoSaid : Prop := huffFormsUptoRow.holds Try.pinned (OpenSpec.upto huffFormsSpec)

/-- 'portagelaw3.HuffEven', WHERE WHAT IT READS IS OF BULK AT MOST 1048576: true; the input reads as it did. -/
def huffEvenUptoRow : OpenClaim := { program := "ytfchkgmepmmnoaa", sum := "95788806b7e1fdd24cbee02a127ad45408ba50c544b1c64bb88b7df43ecd2934", func := "portage/portagelaw3.HuffEven", spec := "huffEven", apart := false, narrowed := true }
def HuffEvenUptoSaid : Prop := huffEvenUptoRow.holds Try.pinned (OpenSpec.upto huffEvenSpec)

/-- 'portagelaw3.HuffTable', WHERE WHAT IT READS IS OF BULK AT MOST 1048576: true; the input reads as it did. -/
def huffTableUptoRow : OpenClaim := { program := "ytfchkgmepmmnoaa", sum := "95788806b7e1fdd24cbee02a127ad45408ba50c544b1c64bb88b7df43ecd2934", func := "portage/portagelaw3.HuffTable", spec := "huffTable", apart := false, narrowed := true }
def HuffTableUptoSaid : Prop := huffTableUptoRow.holds Try.pinned (OpenSpec.upto huffTableSpec)

/-- 'portagelaw3.HuffMany', WHERE WHAT IT READS IS OF BULK AT MOST 1048576: true; the input reads as it did. -/
def huffManyUptoRow : OpenClaim := { program := "ytfchkgmepmmnoaa", sum := "95788806b7e1fdd24cbee02a127ad45408ba50c544b1c64bb88b7df43ecd2934", func := "portage/portagelaw3.HuffMany", spec := "huffMany", apart := false, narrowed := true }
def HuffManyUptoSaid : Prop := huffManyUptoRow.holds Try.pinned (OpenSpec.upto huffManySpec)

end Rows
end Go.Proofs.Ytfchkgmepmmnoaa
