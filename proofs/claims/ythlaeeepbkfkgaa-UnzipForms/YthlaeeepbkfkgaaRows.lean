/-
  No cell of these rows narrows 'for every input' (looked for: loops, veiled, ifaces, maps, wideKeys, modest, calm, conditions, laid).
  DERIVED. THE GIVEN ROWS OF THIS SEAT. 5 by the template 'for every input the law returns true; each argument reads behind the call as it read before'; 0 by the template 'total and deterministic' (their statements: YthlaeeepbkfkgaaTotals.lean).
  GIVEN WITH THE SEED: the statements are not yours to turn. If you find one false, say at which input.
  Laid BY PROGRAM, IN A SANDBOX (cutbox-rows.mjs): the forced cells as the released guide's own fill.sh prints them over the translation 0bcb0851c0d19414… (all of the seat's roots in one cut). By AI agents, Wed Nov 11 2026. No macro, syntax, notation, axiom, sorry.
-/
import Derived.Test.YthlaeeepbkfkgaaChecked
import GoSem.Claim
import GoSem.ClaimJoined
import GoSem.ClaimMapViews
import Derived.JoinedTies
import Derived.KernelRfl
namespace Go.Proofs.Ythlaeeepbkfkgaa
/- THE CELL 'sum', in the pinned program and in every row, IS THE sha256 OF THE DUMP (.gsa) THAT YthlaeeepbkfkgaaProg.lean LOADS. Nothing in Lean hashes anything: it is a label: what it is worth is what the hold of that sum in a sandbox is worth. -/
noncomputable def Try.pinned : Pinned := { name := "ythlaeeepbkfkgaa", sum := "0bcb0851c0d19414dbadf9f7e993cb5c59ad15a24e5de779c4183b434c59586c", checked := Try.checked }
namespace Rows
def none {H : Type} : Left H := { results := [], args := [] }

/-- 'portagelaw13.Zips': WHATEVER THE INPUT: true; the input reads as it did. -/
def zipsSpec : ChangeSpec := { name := "zips", fn := fun _ => fun
  | [d] => { results := [.lit (.bool true)], args := [d] }
  | _ => none }
def zipsRow : OpenClaim := { program := "ythlaeeepbkfkgaa", sum := "0bcb0851c0d19414dbadf9f7e993cb5c59ad15a24e5de779c4183b434c59586c", func := "portage/portagelaw13.Zips", spec := "zips", unfollowed := true, recurses := true, apart := false }
def ZipsSaid : Prop := zipsRow.holds Try.pinned (OpenSpec.ofChange zipsSpec)

/-- ITS FALSE NEIGHBOUR: 'it returns false'. Refute it at one input. -/
def zipsWrong : ChangeSpec := { name := "zips", fn := fun _ => fun
  | [d] => { results := [.lit (.bool false)], args := [d] }
  | _ => none }
def ZipsWrongFalsely : Prop := zipsRow.holds Try.pinned (OpenSpec.ofChange zipsWrong)

/-- 'portagelaw14.Unzips': WHATEVER THE INPUT: true; the input reads as it did. -/
def unzipsSpec : ChangeSpec := { name := "unzips", fn := fun _ => fun
  | [d] => { results := [.lit (.bool true)], args := [d] }
  | _ => none }
def unzipsRow : OpenClaim := { program := "ythlaeeepbkfkgaa", sum := "0bcb0851c0d19414dbadf9f7e993cb5c59ad15a24e5de779c4183b434c59586c", func := "portage/portagelaw14.Unzips", spec := "unzips", unfollowed := true, recurses := true, apart := false }
def UnzipsSaid : Prop := unzipsRow.holds Try.pinned (OpenSpec.ofChange unzipsSpec)

/-- ITS FALSE NEIGHBOUR: 'it returns false'. Refute it at one input. -/
def unzipsWrong : ChangeSpec := { name := "unzips", fn := fun _ => fun
  | [d] => { results := [.lit (.bool false)], args := [d] }
  | _ => none }
def UnzipsWrongFalsely : Prop := unzipsRow.holds Try.pinned (OpenSpec.ofChange unzipsWrong)

/-- 'portagelaw14.UnzipBack': WHATEVER THE INPUT: true; the input reads as it did. -/
def unzipBackSpec : ChangeSpec := { name := "unzipBack", fn := fun _ => fun
  | [d1, d2, d3] => { results := [.lit (.bool true)], args := [d1, d2, d3] }
  | _ => none }
def unzipBackRow : OpenClaim := { program := "ythlaeeepbkfkgaa", sum := "0bcb0851c0d19414dbadf9f7e993cb5c59ad15a24e5de779c4183b434c59586c", func := "portage/portagelaw14.UnzipBack", spec := "unzipBack", unfollowed := true, recurses := true, apart := false }
def UnzipBackSaid : Prop := unzipBackRow.holds Try.pinned (OpenSpec.ofChange unzipBackSpec)

/-- ITS FALSE NEIGHBOUR: 'it returns false'. Refute it at one input. -/
def unzipBackWrong : ChangeSpec := { name := "unzipBack", fn := fun _ => fun
  | [d1, d2, d3] => { results := [.lit (.bool false)], args := [d1, d2, d3] }
  | _ => none }
def UnzipBackWrongFalsely : Prop := unzipBackRow.holds Try.pinned (OpenSpec.ofChange unzipBackWrong)

/-- 'portagelaw14.UnzipTurned': WHATEVER THE INPUT: true; the input reads as it did. -/
def unzipTurnedSpec : ChangeSpec := { name := "unzipTurned", fn := fun _ => fun
  | [d1, d2, d3, d4] => { results := [.lit (.bool true)], args := [d1, d2, d3, d4] }
  | _ => none }
def unzipTurnedRow : OpenClaim := { program := "ythlaeeepbkfkgaa", sum := "0bcb0851c0d19414dbadf9f7e993cb5c59ad15a24e5de779c4183b434c59586c", func := "portage/portagelaw14.UnzipTurned", spec := "unzipTurned", unfollowed := true, recurses := true, apart := false }
def UnzipTurnedSaid : Prop := unzipTurnedRow.holds Try.pinned (OpenSpec.ofChange unzipTurnedSpec)

/-- ITS FALSE NEIGHBOUR: 'it returns false'. Refute it at one input. -/
def unzipTurnedWrong : ChangeSpec := { name := "unzipTurned", fn := fun _ => fun
  | [d1, d2, d3, d4] => { results := [.lit (.bool false)], args := [d1, d2, d3, d4] }
  | _ => none }
def UnzipTurnedWrongFalsely : Prop := unzipTurnedRow.holds Try.pinned (OpenSpec.ofChange unzipTurnedWrong)

/-- 'portagelaw14.UnzipForms': WHATEVER THE INPUT: true; the input reads as it did. -/
def unzipFormsSpec : ChangeSpec := { name := "unzipForms", fn := fun _ => fun
  | [d] => { results := [.lit (.bool true)], args := [d] }
  | _ => none }
def unzipFormsRow : OpenClaim := { program := "ythlaeeepbkfkgaa", sum := "0bcb0851c0d19414dbadf9f7e993cb5c59ad15a24e5de779c4183b434c59586c", func := "portage/portagelaw14.UnzipForms", spec := "unzipForms", unfollowed := true, recurses := true, apart := false }
def UnzipFormsSaid : Prop := unzipFormsRow.holds Try.pinned (OpenSpec.ofChange unzipFormsSpec)

/-- ITS FALSE NEIGHBOUR: 'it returns false'. Refute it at one input. -/
def unzipFormsWrong : ChangeSpec := { name := "unzipForms", fn := fun _ => fun
  | [d] => { results := [.lit (.bool false)], args := [d] }
  | _ => none }
def UnzipFormsWrongFalsely : Prop := unzipFormsRow.holds Try.pinned (OpenSpec.ofChange unzipFormsWrong)

/- THE SECOND FORM. 'bulk': how many values and letters a reading holds, each counted each time it is reached (what is shared counts as often as it is met; a slice's spare places count too). A statement '..UptoSaid' is the law's where the arguments, and the package variables that the reading takes, are together of bulk at most 1048576: NARROWER than '..Said'. Prove '..Said' where nothing that the law and all that it calls make is longer than what came in: it says more and counts as full. Else prove '..UptoSaid'. A law counts once. -/
mutual
def uptoBulk {H : Type} : DataW H → Nat
  | .lit (.string bytes) => bytes.length + 1
  | .lit _ => 1
  | .nil => 1
  | .ptr d => uptoBulk d + 1
  | .slice elems spare => uptoBulkAll elems + uptoBulkAll spare + 1
  | .agg parts => uptoBulkAll parts + 1
  | .iface _ d => uptoBulk d + 1
  | .map entries => uptoBulkEntries entries + 1
  | .held _ => 1
def uptoBulkAll {H : Type} : List (DataW H) → Nat
  | [] => 0
  | d :: r => uptoBulk d + uptoBulkAll r
def uptoBulkEntries {H : Type} : List (Lit × DataW H) → Nat
  | [] => 0
  | x :: r => uptoBulkEntry x + uptoBulkEntries r
def uptoBulkEntry {H : Type} : Lit × DataW H → Nat
  | (.string bytes, d) => bytes.length + uptoBulk d + 1
  | (_, d) => uptoBulk d + 1
 end
def uptoSmall : (H : Type) → List (DataW H) → Bool := fun _ ds => decide (uptoBulkAll ds ≤ 1048576)
def OpenSpec.upto (s : _root_.Go.ChangeSpec) : _root_.Go.OpenSpec := { _root_.Go.OpenSpec.ofChange s with cond := some uptoSmall }

/-- 'portagelaw13.Zips', WHERE WHAT IT READS IS OF BULK AT MOST 1048576: true; the input reads as it did. -/
def zipsUptoRow : OpenClaim := { program := "ythlaeeepbkfkgaa", sum := "0bcb0851c0d19414dbadf9f7e993cb5c59ad15a24e5de779c4183b434c59586c", func := "portage/portagelaw13.Zips", spec := "zips", unfollowed := true, recurses := true, apart := false, narrowed := true }
def ZipsUptoSaid : Prop := zipsUptoRow.holds Try.pinned (OpenSpec.upto zipsSpec)

/-- 'portagelaw14.Unzips', WHERE WHAT IT READS IS OF BULK AT MOST 1048576: true; the input reads as it did. -/
def unzipsUptoRow : OpenClaim := { program := "ythlaeeepbkfkgaa", sum := "0bcb0851c0d19414dbadf9f7e993cb5c59ad15a24e5de779c4183b434c59586c", func := "portage/portagelaw14.Unzips", spec := "unzips", unfollowed := true, recurses := true, apart := false, narrowed := true }
def UnzipsUptoSaid : Prop := unzipsUptoRow.holds Try.pinned (OpenSpec.upto unzipsSpec)

/-- 'portagelaw14.UnzipBack', WHERE WHAT IT READS IS OF BULK AT MOST 1048576: true; the input reads as it did. -/
def unzipBackUptoRow : OpenClaim := { program := "ythlaeeepbkfkgaa", sum := "0bcb0851c0d19414dbadf9f7e993cb5c59ad15a24e5de779c4183b434c59586c", func := "portage/portagelaw14.UnzipBack", spec := "unzipBack", unfollowed := true, recurses := true, apart := false, narrowed := true }
def UnzipBackUptoSaid : Prop := unzipBackUptoRow.holds Try.pinned (OpenSpec.upto unzipBackSpec)

/-- 'portagelaw14.UnzipTurned', WHERE WHAT IT READS IS OF BULK AT MOST 1048576: true; the input reads as it did. -/
def unzipTurnedUptoRow : OpenClaim := { program := "ythlaeeepbkfkgaa", sum := "0bcb0851c0d19414dbadf9f7e993cb5c59ad15a24e5de779c4183b434c59586c", func := "portage/portagelaw14.UnzipTurned", spec := "unzipTurned", unfollowed := true, recurses := true, apart := false, narrowed := true }
def UnzipTurnedUptoSaid : Prop := unzipTurnedUptoRow.holds Try.pinned (OpenSpec.upto unzipTurnedSpec)

/-- 'portagelaw14.UnzipForms', WHERE WHAT IT READS IS OF BULK AT MOST 1048576: true; the input reads as it did. -/
def unzipFormsUptoRow : OpenClaim := { program := "ythlaeeepbkfkgaa", sum := "0bcb0851c0d19414dbadf9f7e993cb5c59ad15a24e5de779c4183b434c59586c", func := "portage/portagelaw14.UnzipForms", spec := "unzipForms", unfollowed := true, recurses := true, apart := false, narrowed := true }
def UnzipFormsUptoSaid : Prop := unzipFormsUptoRow.holds Try.pinned (OpenSpec.upto unzipFormsSpec)

end Rows
end Go.Proofs.Ythlaeeepbkfkgaa
