/-
  No cell of these rows narrows 'for every input' (looked for: loops, veiled, ifaces, maps, wideKeys, modest, calm, conditions, laid).
  DERIVED. THE GIVEN ROWS OF THIS SEAT. 5 by the template 'for every input the law returns true; each argument reads behind the call as it read before'; 0 by the template 'total and deterministic' (their statements: YtlkgnjnnfoocpaaTotals.lean).
  GIVEN WITH THE SEED: the statements are not yours to turn. If you find one false, say at which input.
  Laid BY PROGRAM, IN A SANDBOX (cutbox-rows.mjs): the forced cells as the released guide's own fill.sh prints them over the translation 20394d6d73c4f0fc… (all of the seat's roots in one cut). By AI agents, Wed Nov 11 2026. No macro, syntax, notation, axiom, sorry.
-/
import Derived.Test.YtlkgnjnnfoocpaaChecked
import GoSem.Claim
import GoSem.ClaimJoined
import GoSem.ClaimMapViews
import Derived.JoinedTies
import Derived.KernelRfl
namespace Go.Proofs.Ytlkgnjnnfoocpaa
/- THE CELL 'sum', in the pinned program and in every row, IS THE sha256 OF THE DUMP (.gsa) THAT YtlkgnjnnfoocpaaProg.lean LOADS. Nothing in Lean hashes anything: it is a label: what it is worth is what the hold of that sum in a sandbox is worth. -/
noncomputable def Try.pinned : Pinned := { name := "ytlkgnjnnfoocpaa", sum := "20394d6d73c4f0fc01a97d1ba08598103359564acf43fd4ab4160d6028e3ed3d", checked := Try.checked }
namespace Rows
def none {H : Type} : Left H := { results := [], args := [] }

/-- 'portagelaw1.Writes': WHATEVER THE INPUT: true; the input reads as it did. -/
def writesSpec : ChangeSpec := { name := "writes", fn := fun _ => fun
  | [d1, d2, d3] => { results := [.lit (.bool true)], args := [d1, d2, d3] }
  | _ => none }
def writesRow : OpenClaim := { program := "ytlkgnjnnfoocpaa", sum := "20394d6d73c4f0fc01a97d1ba08598103359564acf43fd4ab4160d6028e3ed3d", func := "portage/portagelaw1.Writes", spec := "writes", unfollowed := true, recurses := true, apart := false }
def WritesSaid : Prop := writesRow.holds Try.pinned (OpenSpec.ofChange writesSpec)

/-- ITS FALSE NEIGHBOUR: 'it returns false'. Refute it at one input. -/
def writesWrong : ChangeSpec := { name := "writes", fn := fun _ => fun
  | [d1, d2, d3] => { results := [.lit (.bool false)], args := [d1, d2, d3] }
  | _ => none }
def WritesWrongFalsely : Prop := writesRow.holds Try.pinned (OpenSpec.ofChange writesWrong)

/-- 'portagelaw1.WriteBack': WHATEVER THE INPUT: true; the input reads as it did. -/
def writeBackSpec : ChangeSpec := { name := "writeBack", fn := fun _ => fun
  | [d1, d2] => { results := [.lit (.bool true)], args := [d1, d2] }
  | _ => none }
def writeBackRow : OpenClaim := { program := "ytlkgnjnnfoocpaa", sum := "20394d6d73c4f0fc01a97d1ba08598103359564acf43fd4ab4160d6028e3ed3d", func := "portage/portagelaw1.WriteBack", spec := "writeBack", unfollowed := true, recurses := true, apart := false }
def WriteBackSaid : Prop := writeBackRow.holds Try.pinned (OpenSpec.ofChange writeBackSpec)

/-- ITS FALSE NEIGHBOUR: 'it returns false'. Refute it at one input. -/
def writeBackWrong : ChangeSpec := { name := "writeBack", fn := fun _ => fun
  | [d1, d2] => { results := [.lit (.bool false)], args := [d1, d2] }
  | _ => none }
def WriteBackWrongFalsely : Prop := writeBackRow.holds Try.pinned (OpenSpec.ofChange writeBackWrong)

/-- 'portagelaw1.WriteForms': WHATEVER THE INPUT: true; the input reads as it did. -/
def writeFormsSpec : ChangeSpec := { name := "writeForms", fn := fun _ => fun
  | [d1, d2] => { results := [.lit (.bool true)], args := [d1, d2] }
  | _ => none }
def writeFormsRow : OpenClaim := { program := "ytlkgnjnnfoocpaa", sum := "20394d6d73c4f0fc01a97d1ba08598103359564acf43fd4ab4160d6028e3ed3d", func := "portage/portagelaw1.WriteForms", spec := "writeForms", unfollowed := true, recurses := true, apart := false }
def WriteFormsSaid : Prop := writeFormsRow.holds Try.pinned (OpenSpec.ofChange writeFormsSpec)

/-- ITS FALSE NEIGHBOUR: 'it returns false'. Refute it at one input. -/
def writeFormsWrong : ChangeSpec := { name := "writeForms", fn := fun _ => fun
  | [d1, d2] => { results := [.lit (.bool false)], args := [d1, d2] }
  | _ => none }
def WriteFormsWrongFalsely : Prop := writeFormsRow.holds Try.pinned (OpenSpec.ofChange writeFormsWrong)

/-- 'portagelaw1.WriteCodes': WHATEVER THE INPUT: true; the input reads as it did. -/
def writeCodesSpec : ChangeSpec := { name := "writeCodes", fn := fun _ => fun
  | [d] => { results := [.lit (.bool true)], args := [d] }
  | _ => none }
def writeCodesRow : OpenClaim := { program := "ytlkgnjnnfoocpaa", sum := "20394d6d73c4f0fc01a97d1ba08598103359564acf43fd4ab4160d6028e3ed3d", func := "portage/portagelaw1.WriteCodes", spec := "writeCodes", unfollowed := true, recurses := true, apart := false }
def WriteCodesSaid : Prop := writeCodesRow.holds Try.pinned (OpenSpec.ofChange writeCodesSpec)

/-- ITS FALSE NEIGHBOUR: 'it returns false'. Refute it at one input. -/
def writeCodesWrong : ChangeSpec := { name := "writeCodes", fn := fun _ => fun
  | [d] => { results := [.lit (.bool false)], args := [d] }
  | _ => none }
def WriteCodesWrongFalsely : Prop := writeCodesRow.holds Try.pinned (OpenSpec.ofChange writeCodesWrong)

/-- 'portagelaw1.WriteAligns': WHATEVER THE INPUT: true; the input reads as it did. -/
def writeAlignsSpec : ChangeSpec := { name := "writeAligns", fn := fun _ => fun
  | [d1, d2] => { results := [.lit (.bool true)], args := [d1, d2] }
  | _ => none }
def writeAlignsRow : OpenClaim := { program := "ytlkgnjnnfoocpaa", sum := "20394d6d73c4f0fc01a97d1ba08598103359564acf43fd4ab4160d6028e3ed3d", func := "portage/portagelaw1.WriteAligns", spec := "writeAligns", unfollowed := true, recurses := true, apart := false }
def WriteAlignsSaid : Prop := writeAlignsRow.holds Try.pinned (OpenSpec.ofChange writeAlignsSpec)

/-- ITS FALSE NEIGHBOUR: 'it returns false'. Refute it at one input. -/
def writeAlignsWrong : ChangeSpec := { name := "writeAligns", fn := fun _ => fun
  | [d1, d2] => { results := [.lit (.bool false)], args := [d1, d2] }
  | _ => none }
def WriteAlignsWrongFalsely : Prop := writeAlignsRow.holds Try.pinned (OpenSpec.ofChange writeAlignsWrong)

/- THE SECOND FORM. 'bulk': how many values and letters a reading holds, each counted each time it is reached (what is shared counts as often as it is met; a slice's spare places count too). A statement '..UptoSaid' is the law's where the arguments, and the package variables that the reading takes, are together of bulk at most 1048576: NARROWER than '..Said'. Prove '..Said' where nothing that the law and all that it calls make is longer than what came in: it says more and counts as full. Else prove '..UptoSaid'. A law counts once. -/
mutual
def uptoBulk {H : Type} : DataW H → Nat
  | .lit (.string bytes) => bytes.length + 1
  | .lit _ => 1
  | .nil => 1
  | .ptr d => uptoBulk d + 1
  | .slice elems spare => uptoBulkAll elems + uptoBulkAll spare + 1
  | .agg parts => uptoBulkAll parts + 1
  | .iface _ d => uptoBulk d + 1
  | .map entries => uptoBulkEntries entries + 1
  | .held _ => 1
def uptoBulkAll {H : Type} : List (DataW H) → Nat
  | [] => 0
  | d :: r => uptoBulk d + uptoBulkAll r
def uptoBulkEntries {H : Type} : List (Lit × DataW H) → Nat
  | [] => 0
  | x :: r => uptoBulkEntry x + uptoBulkEntries r
def uptoBulkEntry {H : Type} : Lit × DataW H → Nat
  | (.string bytes, d) => bytes.length + uptoBulk d + 1
  | (_, d) => uptoBulk d + 1
 end
def uptoSmall : (H : Type) → List (DataW H) → Bool := fun _ ds => decide (uptoBulkAll ds ≤ 1048576)
def OpenSpec.upto (s : _root_.Go.ChangeSpec) : _root_.Go.OpenSpec := { _root_.Go.OpenSpec.ofChange s with cond := some uptoSmall }

/-- 'portagelaw1.Writes', WHERE WHAT IT READS IS OF BULK AT MOST 1048576: true; the input reads as it did. -/
def writesUptoRow : OpenClaim := { program := "ytlkgnjnnfoocpaa", sum := "20394d6d73c4f0fc01a97d1ba08598103359564acf43fd4ab4160d6028e3ed3d", func := "portage/portagelaw1.Writes", spec := "writes", unfollowed := true, recurses := true, apart := false, narrowed := true }
def WritesUptoSaid : Prop := writesUptoRow.holds Try.pinned (OpenSpec.upto writesSpec)

/-- 'portagelaw1.WriteBack', WHERE WHAT IT READS IS OF BULK AT MOST 1048576: true; the input reads as it did. -/
def writeBackUptoRow : OpenClaim := { program := "ytlkgnjnnfoocpaa", sum := "20394d6d73c4f0fc01a97d1ba08598103359564acf43fd4ab4160d6028e3ed3d", func := "portage/portagelaw1.WriteBack", spec := "writeBack", unfollowed := true, recurses := true, apart := false, narrowed := true }
def WriteBackUptoSaid : Prop := writeBackUptoRow.holds Try.pinned (OpenSpec.upto writeBackSpec)

/-- 'portagelaw1.WriteForms', WHERE WHAT IT READS IS OF BULK AT MOST 1048576: true; the input reads as it did. -/
def writeFormsUptoRow : OpenClaim := { program := "ytlkgnjnnfoocpaa", sum := "20394d6d73c4f0fc01a97d1ba08598103359564acf43fd4ab4160d6028e3ed3d", func := "portage/portagelaw1.WriteForms", spec := "writeForms", unfollowed := true, recurses := true, apart := false, narrowed := true }
def WriteFormsUptoSaid : Prop := writeFormsUptoRow.holds Try.pinned (OpenSpec.upto writeFormsSpec)

/-- 'portagelaw1.WriteCodes', WHERE WHAT IT READS IS OF BULK AT MOST 1048576: true; the input reads as it did. -/
def writeCodesUptoRow : OpenClaim := { program := "ytlkgnjnnfoocpaa", sum := "20394d6d73c4f0fc01a97d1ba08598103359564acf43fd4ab4160d6028e3ed3d", func := "portage/portagelaw1.WriteCodes", spec := "writeCodes", unfollowed := true, recurses := true, apart := false, narrowed := true }
def WriteCodesUptoSaid : Prop := writeCodesUptoRow.holds Try.pinned (OpenSpec.upto writeCodesSpec)

/-- 'portagelaw1.WriteAligns', WHERE WHAT IT READS IS OF BULK AT MOST 1048576: true; the input reads as it did. -/
def writeAlignsUptoRow : OpenClaim := { program := "ytlkgnjnnfoocpaa", sum := "20394d6d73c4f0fc01a97d1ba08598103359564acf43fd4ab4160d6028e3ed3d", func := "portage/portagelaw1.WriteAligns", spec := "writeAligns", unfollowed := true, recurses := true, apart := false, narrowed := true }
def WriteAlignsUptoSaid : Prop := writeAlignsUptoRow.holds Try.pinned (OpenSpec.upto writeAlignsSpec)

end Rows
end Go.Proofs.Ytlkgnjnnfoocpaa
