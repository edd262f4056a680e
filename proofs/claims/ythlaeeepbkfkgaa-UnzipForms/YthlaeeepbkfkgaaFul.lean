/-
  ZipUnlike: the walk of the statement.
-/
import Derived.Test.YthlaeeepbkfkgaaZin
namespace Go.Proofs.Ythlaeeepbkfkgaa
open Go.RowKit
set_option linter.unusedVariables false
set_option linter.unusedSimpArgs false

/-- Two folders' own variables. -/
theorem fvars (w : World) (v u : Value) : ∀ w', Keeps (fun _ => False) ((w.alloc (.cells #[v] 24)).alloc (.cells #[u] 24)) w' → w'.cell? ⟨w.heap.size, 0, none⟩ = some v ∧ w'.cell? ⟨w.heap.size + 1, 0, none⟩ = some u := fun w' hk => by
  refine ⟨?_, ?_⟩
  · rw [World.cell?_of_block (hk.block w.heap.size (by simp; omega) (fun h => h)), World.cell?_alloc_past _ _ _ (by simp)]
    exact cell_of_heap (heap_alloc_new _ _) rfl
  · rw [World.cell?_of_block (hk.block (w.heap.size + 1) (by simp) (fun h => h))]
    have := heap_alloc_new (w.alloc (.cells #[v] 24)) (.cells #[u] 24)
    exact cell_of_heap (by simpa using this) rfl

set_option maxHeartbeats 4000000 in
set_option maxRecDepth 1000000 in
theorem sameF_ok (a a' : Option Addr) (cap cap' : Nat) (es fs : List It) (w : World) (hF : Fol w a es) (hG : Fol w a' fs) (hz : ∀ x ∈ es, Fit x) (hz' : ∀ x ∈ fs, Fit x) (hlen : es.length ≤ 1125899906842624) :
    Calls Try.prog 16 #[.agg #[.slice a es.length cap], .agg #[.slice a' fs.length cap']] w fun r w' => r = .returned (.bool (decide (dats es = dats fs))) ∧ Keeps (fun _ => False) w w' := by
  have HS : Hid (∀ w', Keeps (fun _ => False) w w' → Calls Try.prog 30 #[.slice a es.length cap, .slice a' fs.length cap'] w' fun r w'' => r = .returned (.bool (decide (dats es = dats fs))) ∧ Keeps (fun _ => False) w' w'') := fun w' hk => sameEs_ok a a' cap cap' es fs w' (hF.keptF hk) (hG.keptF hk) hz hz' hlen
  generalize decide (dats es = dats fs) = R at *
  clear hF hG hz hz' hlen
  go_enter Try.func16, Try.ntmps16
  go_wp2_with (go_at_call 30; refine (HS.out _ (((Keeps.refl _ _).alloc _).alloc _)).mono ?_; rintro r w1 ⟨rfl, h⟩; have A1 : Hid (Keeps (fun _ => False) w w1) := (((Keeps.refl _ _).alloc _).alloc _).tr h; clear h)
  go_ret
  exact ⟨rfl, A1.out⟩

end Go.Proofs.Ythlaeeepbkfkgaa
