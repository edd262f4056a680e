/-
  No cell of these rows narrows 'for every input' (looked for: loops, veiled, ifaces, maps, wideKeys, modest, calm, conditions, laid).
  DERIVED. THE GIVEN ROWS OF THIS SEAT. 3 by the template 'for every input the law returns true; each argument reads behind the call as it read before'; 0 by the template 'total and deterministic' (their statements: YtfbghchgfbjogaaTotals.lean).
  GIVEN WITH THE SEED: the statements are not yours to turn. If you find one false, say at which input.
  Laid BY PROGRAM, IN A SANDBOX (cutbox-rows.mjs): the forced cells as the released guide's own fill.sh prints them over the translation e173aaf245db57f8… (all of the seat's roots in one cut). By AI agents, Wed Nov 11 2026. No macro, syntax, notation, axiom, sorry.
-/
import Derived.Test.YtfbghchgfbjogaaChecked
import GoSem.Claim
import GoSem.ClaimJoined
import GoSem.ClaimMapViews
import Derived.JoinedTies
import Derived.KernelRfl
namespace Go.Proofs.Ytfbghchgfbjogaa
/- THE CELL 'sum', in the pinned program and in every row, IS THE sha256 OF THE DUMP (.gsa) THAT YtfbghchgfbjogaaProg.lean LOADS. Nothing in Lean hashes anything: it is a label: what it is worth is what the hold of that sum in a sandbox is worth. -/
noncomputable def Try.pinned : Pinned := { name := "ytfbghchgfbjogaa", sum := "e173aaf245db57f8e49a8f5e0aee2c09df86546956c042d118bb77cfd1953c44", checked := Try.checked }
namespace Rows
def none {H : Type} : Left H := { results := [], args := [] }

/-- 'portagelaw15.EntryMerges': WHATEVER THE INPUT: true; the input reads as it did. -/
def entryMergesSpec : ChangeSpec := { name := "entryMerges", fn := fun _ => fun
  | [d1, d2, d3] => { results := [.lit (.bool true)], args := [d1, d2, d3] }
  | _ => none }
def entryMergesRow : OpenClaim := { program := "ytfbghchgfbjogaa", sum := "e173aaf245db57f8e49a8f5e0aee2c09df86546956c042d118bb77cfd1953c44", func := "portage/portagelaw15.EntryMerges", spec := "entryMerges", unfollowed := true, recurses := true, apart := false }
def EntryMergesSaid : Prop := entryMergesRow.holds Try.pinned (OpenSpec.ofChange entryMergesSpec)

/-- ITS FALSE NEIGHBOUR: 'it returns false'. Refute it at one input. -/
def entryMergesWrong : ChangeSpec := { name := "entryMerges", fn := fun _ => fun
  | [d1, d2, d3] => { results := [.lit (.bool false)], args := [d1, d2, d3] }
  | _ => none }
def EntryMergesWrongFalsely : Prop := entryMergesRow.holds Try.pinned (OpenSpec.ofChange entryMergesWrong)

/-- 'portagelaw15.EntryWins': WHATEVER THE INPUT: true; the input reads as it did. -/
def entryWinsSpec : ChangeSpec := { name := "entryWins", fn := fun _ => fun
  | [d1, d2, d3, d4] => { results := [.lit (.bool true)], args := [d1, d2, d3, d4] }
  | _ => none }
def entryWinsRow : OpenClaim := { program := "ytfbghchgfbjogaa", sum := "e173aaf245db57f8e49a8f5e0aee2c09df86546956c042d118bb77cfd1953c44", func := "portage/portagelaw15.EntryWins", spec := "entryWins", unfollowed := true, recurses := true, apart := false }
def EntryWinsSaid : Prop := entryWinsRow.holds Try.pinned (OpenSpec.ofChange entryWinsSpec)

/-- ITS FALSE NEIGHBOUR: 'it returns false'. Refute it at one input. -/
def entryWinsWrong : ChangeSpec := { name := "entryWins", fn := fun _ => fun
  | [d1, d2, d3, d4] => { results := [.lit (.bool false)], args := [d1, d2, d3, d4] }
  | _ => none }
def EntryWinsWrongFalsely : Prop := entryWinsRow.holds Try.pinned (OpenSpec.ofChange entryWinsWrong)

/-- 'portagelaw15.EntryRow': WHATEVER THE INPUT: true; the input reads as it did. -/
def entryRowSpec : ChangeSpec := { name := "entryRow", fn := fun _ => fun
  | [d1, d2] => { results := [.lit (.bool true)], args := [d1, d2] }
  | _ => none }
def entryRowRow : OpenClaim := { program := "ytfbghchgfbjogaa", sum := "e173aaf245db57f8e49a8f5e0aee2c09df86546956c042d118bb77cfd1953c44", func := "portage/portagelaw15.EntryRow", spec := "entryRow", unfollowed := true, recurses := true, apart := false }
def EntryRowSaid : Prop := entryRowRow.holds Try.pinned (OpenSpec.ofChange entryRowSpec)

/-- ITS FALSE NEIGHBOUR: 'it returns false'. Refute it at one input. -/
def entryRowWrong : ChangeSpec := { name := "entryRow", fn := fun _ => fun
  | [d1, d2] => { results := [.lit (.bool false)], args := [d1, d2] }
  | _ => none }
def EntryRowWrongFalsely : Prop := entryRowRow.holds Try.pinned (OpenSpec.ofChange entryRowWrong)

/- THE SECOND FORM. 'bulk': how many values and letters a reading holds, each counted each time it is reached (what is shared counts as often as it is met; a slice's spare places count too). A statement '..UptoSaid' is the law's where the arguments, and the package variables that the reading takes, are together of bulk at most 1048576: NARROWER than '..Said'. Prove '..Said' where nothing that the law and all that it calls make is longer than what came in: it says more and counts as full. Else prove '..UptoSaid'. A law counts once. -/
mutual
def uptoBulk {H : Type} : DataW H → Nat
  | .lit (.string bytes) => bytes.length + 1
  | .lit _ => 1
  | .nil => 1
  | .ptr d => uptoBulk d + 1
  | .slice elems spare => uptoBulkAll elems + uptoBulkAll spare + 1
  | .agg parts => uptoBulkAll parts + 1
  | .iface _ d => uptoBulk d + 1
  | .map entries => uptoBulkEntries entries + 1
  | .held _ => 1
def uptoBulkAll {H : Type} : List (DataW H) → Nat
  | [] => 0
  | d :: r => uptoBulk d + uptoBulkAll r
def uptoBulkEntries {H : Type} : List (Lit × DataW H) → Nat
  | [] => 0
  | x :: r => uptoBulkEntry x + uptoBulkEntries r
def uptoBulkEntry {H : Type} : Lit × DataW H → Nat
  | (.string bytes, d) => bytes.length + uptoBulk d + 1
  | (_, d) => uptoBulk d + 1
 end
def uptoSmall : (H : Type) → List (DataW H) → Bool := fun _ ds => decide (uptoBulkAll ds ≤ 1048576)
def OpenSpec.upto (s : _root_.Go.ChangeSpec) : _root_.Go.OpenSpec := { _root_.Go.OpenSpec.ofChange s with cond := some uptoSmall }

/-- 'portagelaw15.EntryMerges', WHERE WHAT IT READS IS OF BULK AT MOST 1048576: true; the input reads as it did. -/
def entryMergesUptoRow : OpenClaim := { program := "ytfbghchgfbjogaa", sum := "e173aaf245db57f8e49a8f5e0aee2c09df86546956c042d118bb77cfd1953c44", func := "portage/portagelaw15.EntryMerges", spec := "entryMerges", unfollowed := true, recurses := true, apart := false, narrowed := true }
def EntryMergesUptoSaid : Prop := entryMergesUptoRow.holds Try.pinned (OpenSpec.upto entryMergesSpec)

/-- 'portagelaw15.EntryWins', WHERE WHAT IT READS IS OF BULK AT MOST 1048576: true; the input reads as it did. -/
def entryWinsUptoRow : OpenClaim := { program := "ytfbghchgfbjogaa", sum := "e173aaf245db57f8e49a8f5e0aee2c09df86546956c042d118bb77cfd1953c44", func := "portage/portagelaw15.EntryWins", spec := "entryWins", unfollowed := true, recurses := true, apart := false, narrowed := true }
def EntryWinsUptoSaid : Prop := entryWinsUptoRow.holds Try.pinned (OpenSpec.upto entryWinsSpec)

/-- 'portagelaw15.EntryRow', WHERE WHAT IT READS IS OF BULK AT MOST 1048576: true; the input reads as it did. -/
def entryRowUptoRow : OpenClaim := { program := "ytfbghchgfbjogaa", sum := "e173aaf245db57f8e49a8f5e0aee2c09df86546956c042d118bb77cfd1953c44", func := "portage/portagelaw15.EntryRow", spec := "entryRow", unfollowed := true, recurses := true, apart := false, narrowed := true }
def EntryRowUptoSaid : Prop := entryRowUptoRow.holds Try.pinned (OpenSpec.upto entryRowSpec)

end Rows
end Go.Proofs.Ytfbghchgfbjogaa
