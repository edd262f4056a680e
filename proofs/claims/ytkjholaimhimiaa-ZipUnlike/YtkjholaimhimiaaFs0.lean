/-
  Entries, and folders, held against each other.
-/
import Derived.Test.YtkjholaimhimiaaFop
namespace Go.Proofs.Ytkjholaimhimiaa
open Go.RowKit
set_option linter.unusedVariables false
set_option linter.unusedSimpArgs false

/-- What an entry tells, wherever its vector lies. -/
def dat (x : It) : ByteArray × Bool × List Int × Int × Int × Int × ByteArray × Int × Int := (x.1.nm, x.1.gn, x.2, x.1.st, x.1.nd, x.1.mt, x.1.pk, x.1.sz, x.1.cr)
instance datDec (x y : It) : Decidable (dat x = dat y) :=
  decidable_of_iff (x.1.nm = y.1.nm ∧ x.1.gn = y.1.gn ∧ x.2 = y.2 ∧ x.1.st = y.1.st ∧ x.1.nd = y.1.nd ∧ x.1.mt = y.1.mt ∧ x.1.pk = y.1.pk ∧ x.1.sz = y.1.sz ∧ x.1.cr = y.1.cr) (by simp only [dat, Prod.mk.injEq])
theorem beq_text_no {a b : ByteArray} (h : ¬ a = b) : (a.toList == b.toList) = false := by rw [beq_toList, decide_eq_false h]


end Go.Proofs.Ytkjholaimhimiaa
