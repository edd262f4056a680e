/-
  No cell of these rows narrows 'for every input' (looked for: loops, veiled, ifaces, maps, wideKeys, modest, calm, conditions, laid).
  DERIVED. THE GIVEN ROWS OF THIS SEAT. 5 by the template 'for every input the law returns true; each argument reads behind the call as it read before'; 0 by the template 'total and deterministic' (their statements: YtfdoppeijgianaaTotals.lean).
  GIVEN WITH THE SEED: the statements are not yours to turn. If you find one false, say at which input.
  Laid BY PROGRAM, IN A SANDBOX (cutbox-rows.mjs): the forced cells as the released guide's own fill.sh prints them over the translation aa969fb8cea099ab… (all of the seat's roots in one cut). By AI agents, Wed Nov 11 2026. No macro, syntax, notation, axiom, sorry.
-/
import Derived.Test.YtfdoppeijgianaaChecked
import GoSem.Claim
import GoSem.ClaimJoined
import GoSem.ClaimMapViews
import Derived.JoinedTies
import Derived.KernelRfl
namespace Go.Proofs.Ytfdoppeijgianaa
/- THE CELL 'sum', in the pinned program and in every row, IS THE sha256 OF THE DUMP (.gsa) THAT YtfdoppeijgianaaProg.lean LOADS. Nothing in Lean hashes anything: it is a label: what it is worth is what the hold of that sum in a sandbox is worth. -/
noncomputable def Try.pinned : Pinned := { name := "ytfdoppeijgianaa", sum := "aa969fb8cea099ab0c5a3e04b5e247ca9de6e0443d188005df960337d1b3cb11", checked := Try.checked }
namespace Rows
def none {H : Type} : Left H := { results := [], args := [] }

/-- 'portagelaw4.Limits': WHATEVER THE INPUT: true; the input reads as it did. -/
def limitsSpec : ChangeSpec := { name := "limits", fn := fun _ => fun
  | [d1, d2] => { results := [.lit (.bool true)], args := [d1, d2] }
  | _ => none }
def limitsRow : OpenClaim := { program := "ytfdoppeijgianaa", sum := "aa969fb8cea099ab0c5a3e04b5e247ca9de6e0443d188005df960337d1b3cb11", func := "portage/portagelaw4.Limits", spec := "limits", unfollowed := true, recurses := true, apart := false }
def LimitsSaid : Prop := limitsRow.holds Try.pinned (OpenSpec.ofChange limitsSpec)

/-- ITS FALSE NEIGHBOUR: 'it returns false'. Refute it at one input. -/
def limitsWrong : ChangeSpec := { name := "limits", fn := fun _ => fun
  | [d1, d2] => { results := [.lit (.bool false)], args := [d1, d2] }
  | _ => none }
def LimitsWrongFalsely : Prop := limitsRow.holds Try.pinned (OpenSpec.ofChange limitsWrong)

/-- 'portagelaw4.LimitFull': WHATEVER THE INPUT: true; the input reads as it did. -/
def limitFullSpec : ChangeSpec := { name := "limitFull", fn := fun _ => fun
  | [d1, d2] => { results := [.lit (.bool true)], args := [d1, d2] }
  | _ => none }
def limitFullRow : OpenClaim := { program := "ytfdoppeijgianaa", sum := "aa969fb8cea099ab0c5a3e04b5e247ca9de6e0443d188005df960337d1b3cb11", func := "portage/portagelaw4.LimitFull", spec := "limitFull", unfollowed := true, recurses := true, apart := false }
def LimitFullSaid : Prop := limitFullRow.holds Try.pinned (OpenSpec.ofChange limitFullSpec)

/-- ITS FALSE NEIGHBOUR: 'it returns false'. Refute it at one input. -/
def limitFullWrong : ChangeSpec := { name := "limitFull", fn := fun _ => fun
  | [d1, d2] => { results := [.lit (.bool false)], args := [d1, d2] }
  | _ => none }
def LimitFullWrongFalsely : Prop := limitFullRow.holds Try.pinned (OpenSpec.ofChange limitFullWrong)

/-- 'portagelaw4.LimitForms': WHATEVER THE INPUT: true; the input reads as it did. -/
def limitFormsSpec : ChangeSpec := { name := "limitForms", fn := fun _ => fun
  | [d1, d2] => { results := [.lit (.bool true)], args := [d1, d2] }
  | _ => none }
def limitFormsRow : OpenClaim := { program := "ytfdoppeijgianaa", sum := "aa969fb8cea099ab0c5a3e04b5e247ca9de6e0443d188005df960337d1b3cb11", func := "portage/portagelaw4.LimitForms", spec := "limitForms", unfollowed := true, recurses := true, apart := false }
def LimitFormsSaid : Prop := limitFormsRow.holds Try.pinned (OpenSpec.ofChange limitFormsSpec)

/-- ITS FALSE NEIGHBOUR: 'it returns false'. Refute it at one input. -/
def limitFormsWrong : ChangeSpec := { name := "limitForms", fn := fun _ => fun
  | [d1, d2] => { results := [.lit (.bool false)], args := [d1, d2] }
  | _ => none }
def LimitFormsWrongFalsely : Prop := limitFormsRow.holds Try.pinned (OpenSpec.ofChange limitFormsWrong)

/-- 'portagelaw4.LimitEven': WHATEVER THE INPUT: true; the input reads as it did. -/
def limitEvenSpec : ChangeSpec := { name := "limitEven", fn := fun _ => fun
  | [d1, d2] => { results := [.lit (.bool true)], args := [d1, d2] }
  | _ => none }
def limitEvenRow : OpenClaim := { program := "ytfdoppeijgianaa", sum := "aa969fb8cea099ab0c5a3e04b5e247ca9de6e0443d188005df960337d1b3cb11", func := "portage/portagelaw4.LimitEven", spec := "limitEven", unfollowed := true, recurses := true, apart := false }
def LimitEvenSaid : Prop := limitEvenRow.holds Try.pinned (OpenSpec.ofChange limitEvenSpec)

/-- ITS FALSE NEIGHBOUR: 'it returns false'. Refute it at one input. -/
def limitEvenWrong : ChangeSpec := { name := "limitEven", fn := fun _ => fun
  | [d1, d2] => { results := [.lit (.bool false)], args := [d1, d2] }
  | _ => none }
def LimitEvenWrongFalsely : Prop := limitEvenRow.holds Try.pinned (OpenSpec.ofChange limitEvenWrong)

/-- 'portagelaw4.LimitPowers': WHATEVER THE INPUT: true; the input reads as it did. -/
def limitPowersSpec : ChangeSpec := { name := "limitPowers", fn := fun _ => fun
  | [d1, d2] => { results := [.lit (.bool true)], args := [d1, d2] }
  | _ => none }
def limitPowersRow : OpenClaim := { program := "ytfdoppeijgianaa", sum := "aa969fb8cea099ab0c5a3e04b5e247ca9de6e0443d188005df960337d1b3cb11", func := "portage/portagelaw4.LimitPowers", spec := "limitPowers", unfollowed := true, recurses := true, apart := false }
def LimitPowersSaid : Prop := limitPowersRow.holds Try.pinned (OpenSpec.ofChange limitPowersSpec)

/-- ITS FALSE NEIGHBOUR: 'it returns false'. Refute it at one input. -/
def limitPowersWrong : ChangeSpec := { name := "limitPowers", fn := fun _ => fun
  | [d1, d2] => { results := [.lit (.bool false)], args := [d1, d2] }
  | _ => none }
def LimitPowersWrongFalsely : Prop := limitPowersRow.holds Try.pinned (OpenSpec.ofChange limitPowersWrong)

/- THE SECOND FORM. 'bulk': how many values and letters a reading holds, each counted each time it is reached (what is shared counts as often as it is met; a slice's spare places count too). A statement '..UptoSaid' is the law's where the arguments, and the package variables that the reading takes, are together of bulk at most 1048576: NARROWER than '..Said'. Prove '..Said' where nothing that the law and all that it calls make is longer than what came in: it says more and counts as full. Else prove '..UptoSaid'. A law counts once. -/
mutual
def uptoBulk {H : Type} : DataW H → Nat
  | .lit (.string bytes) => bytes.length + 1
  | .lit _ => 1
  | .nil => 1
  | .ptr d => uptoBulk d + 1
  | .slice elems spare => uptoBulkAll elems + uptoBulkAll spare + 1
  | .agg parts => uptoBulkAll parts + 1
  | .iface _ d => uptoBulk d + 1
  | .map entries => uptoBulkEntries entries + 1
  | .held _ => 1
def uptoBulkAll {H : Type} : List (DataW H) → Nat
  | [] => 0
  | d :: r => uptoBulk d + uptoBulkAll r
def uptoBulkEntries {H : Type} : List (Lit × DataW H) → Nat
  | [] => 0
  | x :: r => uptoBulkEntry x + uptoBulkEntries r
def uptoBulkEntry {H : Type} : Lit × DataW H → Nat
  | (.string bytes, d) => bytes.length + uptoBulk d + 1
  | (_, d) => uptoBulk d + 1
 end
def uptoSmall : (H : Type) → List (DataW H) → Bool := fun _ ds => decide (uptoBulkAll ds ≤ 1048576)
def OpenSpec.upto (s : _root_.Go.ChangeSpec) : _root_.Go.OpenSpec := { _root_.Go.OpenSpec.ofChange s with cond := some uptoSmall }

/-- 'portagelaw4.Limits', WHERE WHAT IT READS IS OF BULK AT MOST 1048576: true; the input reads as it did. -/
def limitsUptoRow : OpenClaim := { program := "ytfdoppeijgianaa", sum := "aa969fb8cea099ab0c5a3e04b5e247ca9de6e0443d188005df960337d1b3cb11", func := "portage/portagelaw4.Limits", spec := "limits", unfollowed := true, recurses := true, apart := false, narrowed := true }
def LimitsUptoSaid : Prop := limitsUptoRow.holds Try.pinned (OpenSpec.upto limitsSpec)

/-- 'portagelaw4.LimitFull', WHERE WHAT IT READS IS OF BULK AT MOST 1048576: true; the input reads as it did. -/
def limitFullUptoRow : OpenClaim := { program := "ytfdoppeijgianaa", sum := "aa969fb8cea099ab0c5a3e04b5e247ca9de6e0443d188005df960337d1b3cb11", func := "portage/portagelaw4.LimitFull", spec := "limitFull", unfollowed := true, recurses := true, apart := false, narrowed := true }
def LimitFullUptoSaid : Prop := limitFullUptoRow.holds Try.pinned (OpenSpec.upto limitFullSpec)

/-- 'portagelaw4.LimitForms', WHERE WHAT IT READS IS OF BULK AT MOST 1048576: true; the input reads as it did. -/
def limitFormsUptoRow : OpenClaim := { program := "ytfdoppeijgianaa", sum := "aa969fb8cea099ab0c5a3e04b5e247ca9de6e0443d188005df960337d1b3cb11", func := "portage/portagelaw4.LimitForms", spec := "limitForms", unfollowed := true, recurses := true, apart := false, narrowed := true }
def LimitFormsUptoSaid : Prop := limitFormsUptoRow.holds Try.pinned (OpenSpec.upto limitFormsSpec)

/-- 'portagelaw4.LimitEven', WHERE WHAT IT READS IS OF BULK AT MOST 1048576: true; the input reads as it did. -/
def limitEvenUptoRow : OpenClaim := { program := "ytfdoppeijgianaa", sum := "aa969fb8cea099ab0c5a3e04b5e247ca9de6e0443d188005df960337d1b3cb11", func := "portage/portagelaw4.LimitEven", spec := "limitEven", unfollowed := true, recurses := true, apart := false, narrowed := true }
def LimitEvenUptoSaid : Prop := limitEvenUptoRow.holds Try.pinned (OpenSpec.upto limitEvenSpec)

/-- 'portagelaw4.LimitPowers', WHERE WHAT IT READS IS OF BULK AT MOST 1048576: true; the input reads as it did. -/
def limitPowersUptoRow : OpenClaim := { program := "ytfdoppeijgianaa", sum := "aa969fb8cea099ab0c5a3e04b5e247ca9de6e0443d188005df960337d1b3cb11", func := "portage/portagelaw4.LimitPowers", spec := "limitPowers", unfollowed := true, recurses := true, apart := false, narrowed := true }
def LimitPowersUptoSaid : Prop := limitPowersUptoRow.holds Try.pinned (OpenSpec.upto limitPowersSpec)

end Rows
end Go.Proofs.Ytfdoppeijgianaa
