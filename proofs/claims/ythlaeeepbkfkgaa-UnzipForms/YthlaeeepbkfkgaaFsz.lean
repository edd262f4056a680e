/-
  ZipSizes: the walk of the statement.
-/
import Derived.Test.YthlaeeepbkfkgaaFop
namespace Go.Proofs.Ythlaeeepbkfkgaa
open Go.RowKit
set_option linter.unusedVariables false
set_option linter.unusedSimpArgs false

/-- How many bytes are reckoned when i entries have been looked at. -/
def kz (es : List It) (i : Nat) : Nat := 22 + 128 * i + 2 * nmsum (es.take i) + pksum (es.take i)
theorem kz_zero (es : List It) : kz es 0 = 22 := rfl
theorem kz_succ (es : List It) (i : Nat) (hi : i < es.length) : kz es (i + 1) = kz es i + 30 + 46 + 2 * (es[i].1.nm.size + 26) + es[i].1.pk.size := by
  unfold kz nmsum pksum
  rw [List.take_succ_eq_append_getElem hi]
  simp only [List.map_append, List.sum_append, List.map_cons, List.map_nil, List.sum_cons, List.sum_nil]
  omega
theorem kz_end {es : List It} (h : ∀ x ∈ es, heldB x = true) : kz es es.length = (zipL es).length := by
  rw [kz, List.take_length, zipL_len h]
theorem kz_le {es : List It} (h : ∀ x ∈ es, heldB x = true) (h6 : es.length ≤ 6) (i : Nat) (hi : i ≤ es.length) : kz es i ≤ 10000 := by
  have := sums_le (mem_take (i := i) h)
  rw [List.length_take] at this
  unfold kz; omega
/-- The folder's own variable. -/
theorem fvar (w : World) (v : Value) : ∀ w', Keeps (fun _ => False) (w.alloc (.cells #[v] 24)) w' → w'.cell? ⟨w.heap.size, 0, none⟩ = some v := fun w' hk => by
  rw [World.cell?_of_block (hk.block w.heap.size (by simp) (fun h => h))]; exact cell_of_heap (heap_alloc_new _ _) rfl

end Go.Proofs.Ythlaeeepbkfkgaa
