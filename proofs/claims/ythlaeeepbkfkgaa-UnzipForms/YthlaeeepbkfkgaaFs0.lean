/-
  Entries, and folders, held against each other.
-/
import Derived.Test.YthlaeeepbkfkgaaFop
namespace Go.Proofs.Ythlaeeepbkfkgaa
open Go.RowKit
set_option linter.unusedVariables false
set_option linter.unusedSimpArgs false

/-- What an entry tells, wherever its vector lies. -/
def dat (x : It) : ByteArray × Bool × List Int × Int × Int × Int × ByteArray × Int × Int := (x.1.nm, x.1.gn, x.2, x.1.st, x.1.nd, x.1.mt, x.1.pk, x.1.sz, x.1.cr)
instance datDec (x y : It) : Decidable (dat x = dat y) :=
  decidable_of_iff (x.1.nm = y.1.nm ∧ x.1.gn = y.1.gn ∧ x.2 = y.2 ∧ x.1.st = y.1.st ∧ x.1.nd = y.1.nd ∧ x.1.mt = y.1.mt ∧ x.1.pk = y.1.pk ∧ x.1.sz = y.1.sz ∧ x.1.cr = y.1.cr) (by simp only [dat, Prod.mk.injEq])
theorem beq_text_no {a b : ByteArray} (h : ¬ a = b) : (a.toList == b.toList) = false := by rw [beq_toList, decide_eq_false h]
def dats (es : List It) : List (ByteArray × Bool × List Int × Int × Int × Int × ByteArray × Int × Int) := es.map dat
instance datsDec : (es fs : List It) → Decidable (dats es = dats fs)
  | [], [] => isTrue rfl
  | [], _ :: _ => isFalse (by simp [dats])
  | _ :: _, [] => isFalse (by simp [dats])
  | x :: r, y :: s => match datDec x y, datsDec r s with
    | isTrue h, isTrue k => isTrue (by simp only [dats, List.map_cons] at k ⊢; rw [h, k])
    | isFalse h, _ => isFalse (by simp only [dats, List.map_cons, List.cons.injEq]; exact fun q => h q.1)
    | _, isFalse k => isFalse (by simp only [dats, List.map_cons, List.cons.injEq] at k ⊢; exact fun q => k q.2)
theorem dats_len {es fs : List It} (h : dats es = dats fs) : es.length = fs.length := by
  have := congrArg List.length h
  simpa [dats] using this
theorem dats_drop {es fs : List It} (i : Nat) (h1 : i < es.length) (h2 : i < fs.length) : (dats (es.drop i) = dats (fs.drop i)) ↔ (dat es[i] = dat fs[i] ∧ dats (es.drop (i + 1)) = dats (fs.drop (i + 1))) := by
  rw [List.drop_eq_getElem_cons h1, List.drop_eq_getElem_cons h2]
  unfold dats
  rw [List.map_cons, List.map_cons, List.cons.injEq]

end Go.Proofs.Ythlaeeepbkfkgaa
